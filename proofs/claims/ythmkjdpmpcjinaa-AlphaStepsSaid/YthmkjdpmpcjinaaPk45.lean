/-
  The walk of alpha.Classes; what the laws ask of alpha, and of nfa, as the code does it.
-/
import Derived.Test.YthmkjdpmpcjinaaPk30
import Derived.Test.YthmkjdpmpcjinaaPk31
import Derived.Test.YthmkjdpmpcjinaaPk33
import Derived.Test.YthmkjdpmpcjinaaPk34
import Derived.Test.YthmkjdpmpcjinaaPk39
import Derived.Test.YthmkjdpmpcjinaaPk44
namespace Go.Proofs.Ythmkjdpmpcjinaa
open Go.RowKit

theorem rdL.same {w : World} {p : Option Addr} {n : Nat} {l l' : Nat → Int} (h : rdL w p n l) (hl : ∀ j, j < n → l j = l' j) : rdL w p n l' := fun j hj => by
  obtain ⟨b, o, h1, h2, h3⟩ := h j hj
  exact ⟨b, o, h1, h2, by rw [← hl j hj]; exact h3⟩
theorem cls_wf (R : Nat → Nat → Bool) : ∀ j, j < 259 → wfI ((clA R j : Nat) : Int) := fun j hj => by
  have h1 := cntT_le (isH R) (hdA R j); have h2 := hdA_le R j
  exact wfI_of (by unfold clA; omega) (by unfold clA; omega)
theorem wi_wf (f : Nat → Bool) : ∀ j, j < 259 → wfI (wiF f j) := fun j _ => by
  unfold wiF
  split
  · exact wfI_of (by decide) (by decide)
  · exact wfI_of (by decide) (by decide)

set_option maxRecDepth 100000 in
set_option maxHeartbeats 8000000 in
theorem classes_is (hR : RgtC) (p : Option Addr) (m cap : Nat) (S : Nat → Sd) (st fin : Int) (hm : m ≤ 600) (w : World) (hS : stsAt w p m S) (hw : ∀ j, j < m → okWs (S j)) :
    Calls Try.prog 7 #[nfV p m cap st fin] w fun e w' => (rightP S m st fin → clsPost 259 (fun x => (clA (alk S m) x : Nat)) (cntT (isH (alk S m)) 259 : Nat) w e w') ∧ (¬ rightP S m st fin → clsPost 0 (fun _ => 0) 0 w e w') := by
  obtain ⟨w1, hw1⟩ : ∃ w1, w.alloc (.cells #[.slice p m cap, .int .i64 st, .int .i64 fin] 24) = w1 := ⟨_, rfl⟩
  have hb1 : Below w.heap.size w w1 := hw1 ▸ (Below.refl _ _).alloc (Nat.le_refl _) _
  have hn1 : isNf w1 w.heap.size (.slice p m cap) st fin := hw1 ▸ isNf.new w (.slice p m cap) st fin
  obtain ⟨g, hg⟩ : ∃ g, w.heap.size = g := ⟨_, rfl⟩
  have hz1 : w1.heap.size = g + 1 := by rw [← hw1, World.size_alloc, hg]
  rw [hg] at hn1 hb1
  have HR1 := Lib.hid (hR p m cap S st fin w1 hm ⟨hS.1, fun b off e => (hS.2 b off e).below (hg.symm ▸ hb1)⟩)
  have HB1 := Lib.hid hb1
  have HN : Hid (∀ w', Below (g + 1) w1 w' → isNf w' g (.slice p m cap) st fin) := Lib.hid fun w' h => hn1.below h (Nat.lt_succ_self g)
  have HW1 := Lib.hid hw1
  have HG := Lib.hid hg
  have HZ := Lib.hid hz1
  have HSS := Lib.hid hS
  have HOK := Lib.hid hw
  obtain ⟨z0, z1, z2⟩ := hn1.cells
  have m0 : (0 : Int) ≤ (m : Int) := by omega
  clear hw1 hb1 hn1 hS hR hw
  cases hr : decide (rightP S m st fin)
  · have HNO := Lib.hid (of_decide_eq_false hr)
    rw [hr] at HR1
    clear hr
    go_enter Try.func7, Try.ntmps7
    go_upto_region 1 with (fail)
    rw [HW1.out]
    clear hg
    go_wp2_with fail
    refine HR1.out.mono ?_
    rintro e w2 ⟨rfl, hb2⟩
    have HE : Hid (Below w.heap.size w w2) := Lib.hid (HG.out.symm ▸ HB1.out.trans (hb2.mono (by have := HZ.out; omega)))
    clear hb2
    go_wp2_with fail
    go_returns
    exact ⟨fun h => absurd h HNO.out, fun _ => ⟨none, 0, fun _ => 0, rfl, fun j hj => absurd hj (Nat.not_lt_zero _), fun _ _ => rfl, HE.out⟩⟩
  · have HYES := Lib.hid (of_decide_eq_true hr)
    rw [hr] at HR1
    obtain ⟨b, off, rfl⟩ : ∃ b off, p = some ⟨b, off, none⟩ := by
      rcases HSS.out.1 with h | h
      · have := HYES.out.1; omega
      · exact h
    have HS1 : Hid (rdS w1 b off m S) := Lib.hid ((HSS.out.2 b off rfl).below (HG.out.symm ▸ HB1.out))
    clear hr HSS
    go_enter Try.func7, Try.ntmps7
    go_upto_region 1 with (fail)
    rw [HW1.out]
    clear hg HW1
    go_wp2_with fail
    refine HR1.out.mono ?_
    rintro e w2 ⟨rfl, hb2⟩
    have HB2 : Hid (Below (g + 1) w1 w2) := Lib.hid (HZ.out ▸ hb2)
    clear hb2 HR1 z0 z1 z2
    go_wp2_with fail
    refine (ends_is _).mono ?_
    rintro e w3 ⟨q, rfl, hq, hb3⟩
    have HB3 : Hid (Below (g + 1) w1 w3) := Lib.hid (HB2.out.trans (hb3.mono (by have := HB2.out.size; have := HZ.out; omega)))
    have HQ : Hid (rdL w3 (some ⟨q, 0, none⟩) 259 (fun x => (clA (alk S 0) x : Nat))) := Lib.hid (hq.same fun j _ => cl_zero S j)
    have HC0 : Hid ((4 : Int) = (cntT (isH (alk S 0)) 259 : Nat)) := Lib.hid (by rw [show 259 = 256 + 3 from rfl, cnt_ends]; rfl)
    obtain ⟨z0, z1, z2⟩ := (HN.out _ HB3.out).cells
    clear hq hb3 HB2
    go_wp2_with fail
    go_loopw [4, 5, 18] (fun cv nv iv wr => ∃ (i : Nat) (q : Option Addr) (c : Nat), i ≤ m ∧ cv = .slice q 259 c ∧ nv = .int .i64 (cntT (isH (alk S i)) 259 : Nat) ∧ iv = .int .i64 i ∧ Hid (rdL wr q 259 (fun x => (clA (alk S i) x : Nat))) ∧ Hid (Below (g + 1) w1 wr)) (fun _ _ iv _ => m - (intOf iv).toNat)
    case atStart => exact ⟨0, _, _, Nat.zero_le _, rfl, by rw [HC0.out], rfl, HQ, HB3⟩
    case round =>
      clear z0 z1 z2 HQ HC0 HB3
      obtain ⟨i, q, c, hi, rfl, rfl, rfl, HQ, HB⟩ := hrel
      obtain ⟨ct, hct⟩ : ∃ ct : Int, ((cntT (isH (alk S i)) 259 : Nat) : Int) = ct := ⟨_, rfl⟩
      have HCT := Lib.hid hct
      rw [hct]
      clear hct
      by_cases hlti : i < m
      · have i0 : (0 : Int) ≤ (i : Int) := by omega
        have i1 : (i : Int) < (m : Int) := by omega
        obtain ⟨hbl, p0, p1, p2, p3, p4, p5, p6⟩ := (HS1.out.below (HZ.out.symm ▸ HB.out)) i hlti
        obtain ⟨e0, e1, e2, e3⟩ := okWs_wd (HOK.out i hlti)
        obtain ⟨F, hF⟩ : ∃ F, sOf (S i) = F := ⟨_, rfl⟩
        have hnx := alk_next S i
        rw [hF] at e0 e1 e2 e3 hnx
        have HNX := Lib.hid hnx
        have hk1 : (S i).k = 1 ∨ alk S (i + 1) = alk S i := ((HYES.out.2.1 i hlti).2.1).imp id alk_skip
        obtain ⟨xk, hxk⟩ : ∃ k, (S i).k = k := ⟨_, rfl⟩
        obtain ⟨xA, hxA⟩ : ∃ k, (S i).A = k := ⟨_, rfl⟩
        obtain ⟨xB, hxB⟩ : ∃ k, (S i).B = k := ⟨_, rfl⟩
        rw [hxk] at p0 hk1
        rw [hxA] at p1
        rw [hxB] at p2
        rw [e0] at p3
        rw [e1] at p4
        rw [e2] at p5
        rw [e3] at p6
        have HK1 := Lib.hid hk1
        have HBA : Hid (Below wr.heap.size wr (wr.alloc (.cells #[.int .i64 xk, .int .i64 xA, .int .i64 xB, .int .u64 (wd F 0 : Int), .int .u64 (wd F 1 : Int), .int .u64 (wd F 2 : Int), .int .u64 (wd F 3 : Int)] 42))) := Lib.hid ((Below.refl _ _).alloc (Nat.le_refl _) _)
        have HQA := Lib.hid (HQ.out.below HBA.out)
        have HB4 := Lib.hid (HB.out.trans (HBA.out.mono (by have := HB.out.size; have := HZ.out; omega)))
        clear hk1 hnx hxk hxA hxB e0 e1 e2 e3 hF HQ HB HBA
        cases hk : (xk == (1 : Int))
        · have HQ2 : Hid (rdL (wr.alloc (.cells #[.int .i64 xk, .int .i64 xA, .int .i64 xB, .int .u64 (wd F 0 : Int), .int .u64 (wd F 1 : Int), .int .u64 (wd F 2 : Int), .int .u64 (wd F 3 : Int)] 42)) q 259 (fun x => (clA (alk S (i + 1)) x : Nat))) := Lib.hid (by
            rcases HK1.out with h | h
            · simp [h] at hk
            · rw [h]; exact HQA.out)
          have HC2 : Hid (ct = ((cntT (isH (alk S (i + 1))) 259 : Nat) : Int)) := Lib.hid (by
            rcases HK1.out with h | h
            · simp [h] at hk
            · rw [h]; exact HCT.out.symm)
          clear HQA
          go_wp2_with fail
          go_roundw
          case rel => exact ⟨i + 1, q, c, by omega, rfl, by rw [HC2.out], by go_num, HQ2, HB4⟩
          case measure => simp [intOf]; omega
        · obtain rfl : xk = 1 := by simpa using hk
          clear hk HK1
          go_wp2_with fail
          refine (within_is F _).mono ?_
          rintro e w5 ⟨q5, rfl, hq5, hb5⟩
          have HB5 := Lib.hid (HB4.out.trans (hb5.mono (by have := HB4.out.size; have := HZ.out; omega)))
          have hj := join_is q 259 c _ (some ⟨q5, 0, none⟩) 259 _ (by decide) (cls_wf (alk S i)) (wi_wf F) w5 (HQA.out.below hb5) hq5
          rw [HNX.out] at hj
          obtain ⟨c6, hc6⟩ : ∃ c6 : Int, ((cntT (isH (alk S (i + 1))) 259 : Nat) : Int) = c6 := ⟨_, rfl⟩
          rw [hc6] at hj
          have HJ := Lib.hid hj
          have HC6 := Lib.hid hc6
          clear hj hq5 hb5 hc6 HQA HB4
          go_wp2_with fail
          refine HJ.out.mono ?_
          rintro e w6 ⟨q6, k6, l6, rfl, hl6, hv6, hb6⟩
          have HQ6 := Lib.hid (hl6.same hv6)
          have HB6 := Lib.hid (HB5.out.trans (hb6.mono (by have := HB5.out.size; have := HZ.out; omega)))
          clear hl6 hv6 hb6 HJ HB5
          go_wp2_with fail
          go_roundw
          case rel => exact ⟨i + 1, q6, k6, by omega, rfl, by rw [HC6.out], by go_num, HQ6, HB6⟩
          case measure => simp [intOf]; omega
      · obtain rfl : i = m := by omega
        have HE : Hid (Below w.heap.size w wr) := Lib.hid (HG.out.symm ▸ HB1.out.trans (HB.out.mono (Nat.le_succ g)))
        clear HB
        go_wp2_with fail
        go_returns
        exact ⟨fun _ => ⟨q, c, _, by rw [HCT.out] <;> rfl, HQ.out, fun _ _ => rfl, HE.out⟩, fun h => absurd HYES.out h⟩
theorem cls_any : ClsC := fun p m cap S st fin w hm hS hw => classes_is rgt_any p m cap S st fin hm w hS hw
end Go.Proofs.Ythmkjdpmpcjinaa
