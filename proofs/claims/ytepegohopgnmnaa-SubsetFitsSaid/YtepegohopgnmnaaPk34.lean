/-
  The walk of alpha.Classes; what the laws ask of alpha, and of nfa, as the code does it.
  The automaton of one letter, decided.
  What the eleventh laws ask of the code: Build and Count, as contracts; the laws' awake.
  The walk of subset.Count.
  What Kids tells of a node of a tree lies in a block of its own.
-/
import Derived.Test.YtepegohopgnmnaaPk17
import Derived.Test.YtepegohopgnmnaaPk32
import Derived.Test.YtepegohopgnmnaaPk33
import Derived.Test.YtepegohopgnmnaaPk29
import Derived.Test.YtepegohopgnmnaaPk30
import Derived.Test.YtepegohopgnmnaaPk15
import Derived.Test.YtepegohopgnmnaaPk7
import Derived.Test.YtepegohopgnmnaaPk21
import Derived.Test.YtepegohopgnmnaaPk13
import Derived.Test.YtepegohopgnmnaaPk31
import Derived.Test.YtepegohopgnmnaaPk10
namespace Go.Proofs.Ytepegohopgnmnaa
open Go.RowKit

theorem rdL.same {w : World} {p : Option Addr} {n : Nat} {l l' : Nat → Int} (h : rdL w p n l) (hl : ∀ j, j < n → l j = l' j) : rdL w p n l' := fun j hj => by
  obtain ⟨b, o, h1, h2, h3⟩ := h j hj
  exact ⟨b, o, h1, h2, by rw [← hl j hj]; exact h3⟩
theorem cls_wf (R : Nat → Nat → Bool) : ∀ j, j < 259 → wfI ((clA R j : Nat) : Int) := fun j hj => by
  have h1 := cntT_le (isH R) (hdA R j); have h2 := hdA_le R j
  exact wfI_of (by unfold clA; omega) (by unfold clA; omega)
theorem wi_wf (f : Nat → Bool) : ∀ j, j < 259 → wfI (wiF f j) := fun j _ => by
  unfold wiF
  split
  · exact wfI_of (by decide) (by decide)
  · exact wfI_of (by decide) (by decide)

set_option maxRecDepth 100000 in
set_option maxHeartbeats 8000000 in
theorem classes_is (hR : RgtC) (p : Option Addr) (m cap : Nat) (S : Nat → Sd) (st fin : Int) (hm : m ≤ 600) (w : World) (hS : stsAt w p m S) (hw : ∀ j, j < m → okWs (S j)) :
    Calls Try.prog 21 #[nfV p m cap st fin] w fun e w' => (rightP S m st fin → clsPost 259 (fun x => (clA (alk S m) x : Nat)) (cntT (isH (alk S m)) 259 : Nat) w e w') ∧ (¬ rightP S m st fin → clsPost 0 (fun _ => 0) 0 w e w') := by
  obtain ⟨w1, hw1⟩ : ∃ w1, w.alloc (.cells #[.slice p m cap, .int .i64 st, .int .i64 fin] 24) = w1 := ⟨_, rfl⟩
  have hb1 : Below w.heap.size w w1 := hw1 ▸ (Below.refl _ _).alloc (Nat.le_refl _) _
  have hn1 : isNf w1 w.heap.size (.slice p m cap) st fin := hw1 ▸ isNf.new w (.slice p m cap) st fin
  obtain ⟨g, hg⟩ : ∃ g, w.heap.size = g := ⟨_, rfl⟩
  have hz1 : w1.heap.size = g + 1 := by rw [← hw1, World.size_alloc, hg]
  rw [hg] at hn1 hb1
  have HR1 := Lib.hid (hR p m cap S st fin w1 hm ⟨hS.1, fun b off e => (hS.2 b off e).below (hg.symm ▸ hb1)⟩)
  have HB1 := Lib.hid hb1
  have HN : Hid (∀ w', Below (g + 1) w1 w' → isNf w' g (.slice p m cap) st fin) := Lib.hid fun w' h => hn1.below h (Nat.lt_succ_self g)
  have HW1 := Lib.hid hw1
  have HG := Lib.hid hg
  have HZ := Lib.hid hz1
  have HSS := Lib.hid hS
  have HOK := Lib.hid hw
  obtain ⟨z0, z1, z2⟩ := hn1.cells
  have m0 : (0 : Int) ≤ (m : Int) := by omega
  clear hw1 hb1 hn1 hS hR hw
  cases hr : decide (rightP S m st fin)
  · have HNO := Lib.hid (of_decide_eq_false hr)
    rw [hr] at HR1
    clear hr
    go_enter Try.func21, Try.ntmps21
    go_upto_region 1 with (fail)
    rw [HW1.out]
    clear hg
    go_wp2_with fail
    refine HR1.out.mono ?_
    rintro e w2 ⟨rfl, hb2⟩
    have HE : Hid (Below w.heap.size w w2) := Lib.hid (HG.out.symm ▸ HB1.out.trans (hb2.mono (by have := HZ.out; omega)))
    clear hb2
    go_wp2_with fail
    go_returns
    exact ⟨fun h => absurd h HNO.out, fun _ => ⟨none, 0, fun _ => 0, rfl, fun j hj => absurd hj (Nat.not_lt_zero _), fun _ _ => rfl, HE.out⟩⟩
  · have HYES := Lib.hid (of_decide_eq_true hr)
    rw [hr] at HR1
    obtain ⟨b, off, rfl⟩ : ∃ b off, p = some ⟨b, off, none⟩ := by
      rcases HSS.out.1 with h | h
      · have := HYES.out.1; omega
      · exact h
    have HS1 : Hid (rdS w1 b off m S) := Lib.hid ((HSS.out.2 b off rfl).below (HG.out.symm ▸ HB1.out))
    clear hr HSS
    go_enter Try.func21, Try.ntmps21
    go_upto_region 1 with (fail)
    rw [HW1.out]
    clear hg HW1
    go_wp2_with fail
    refine HR1.out.mono ?_
    rintro e w2 ⟨rfl, hb2⟩
    have HB2 : Hid (Below (g + 1) w1 w2) := Lib.hid (HZ.out ▸ hb2)
    clear hb2 HR1 z0 z1 z2
    go_wp2_with fail
    refine (ends_is _).mono ?_
    rintro e w3 ⟨q, rfl, hq, hb3⟩
    have HB3 : Hid (Below (g + 1) w1 w3) := Lib.hid (HB2.out.trans (hb3.mono (by have := HB2.out.size; have := HZ.out; omega)))
    have HQ : Hid (rdL w3 (some ⟨q, 0, none⟩) 259 (fun x => (clA (alk S 0) x : Nat))) := Lib.hid (hq.same fun j _ => cl_zero S j)
    have HC0 : Hid ((4 : Int) = (cntT (isH (alk S 0)) 259 : Nat)) := Lib.hid (by rw [show 259 = 256 + 3 from rfl, cnt_ends]; rfl)
    obtain ⟨z0, z1, z2⟩ := (HN.out _ HB3.out).cells
    clear hq hb3 HB2
    go_wp2_with fail
    go_loopw [4, 5, 18] (fun cv nv iv wr => ∃ (i : Nat) (q : Option Addr) (c : Nat), i ≤ m ∧ cv = .slice q 259 c ∧ nv = .int .i64 (cntT (isH (alk S i)) 259 : Nat) ∧ iv = .int .i64 i ∧ Hid (rdL wr q 259 (fun x => (clA (alk S i) x : Nat))) ∧ Hid (Below (g + 1) w1 wr)) (fun _ _ iv _ => m - (intOf iv).toNat)
    case atStart => exact ⟨0, _, _, Nat.zero_le _, rfl, by rw [HC0.out], rfl, HQ, HB3⟩
    case round =>
      clear z0 z1 z2 HQ HC0 HB3
      obtain ⟨i, q, c, hi, rfl, rfl, rfl, HQ, HB⟩ := hrel
      obtain ⟨ct, hct⟩ : ∃ ct : Int, ((cntT (isH (alk S i)) 259 : Nat) : Int) = ct := ⟨_, rfl⟩
      have HCT := Lib.hid hct
      rw [hct]
      clear hct
      by_cases hlti : i < m
      · have i0 : (0 : Int) ≤ (i : Int) := by omega
        have i1 : (i : Int) < (m : Int) := by omega
        obtain ⟨hbl, p0, p1, p2, p3, p4, p5, p6⟩ := (HS1.out.below (HZ.out.symm ▸ HB.out)) i hlti
        obtain ⟨e0, e1, e2, e3⟩ := okWs_wd (HOK.out i hlti)
        obtain ⟨F, hF⟩ : ∃ F, sOf (S i) = F := ⟨_, rfl⟩
        have hnx := alk_next S i
        rw [hF] at e0 e1 e2 e3 hnx
        have HNX := Lib.hid hnx
        have hk1 : (S i).k = 1 ∨ alk S (i + 1) = alk S i := ((HYES.out.2.1 i hlti).2.1).imp id alk_skip
        obtain ⟨xk, hxk⟩ : ∃ k, (S i).k = k := ⟨_, rfl⟩
        obtain ⟨xA, hxA⟩ : ∃ k, (S i).A = k := ⟨_, rfl⟩
        obtain ⟨xB, hxB⟩ : ∃ k, (S i).B = k := ⟨_, rfl⟩
        rw [hxk] at p0 hk1
        rw [hxA] at p1
        rw [hxB] at p2
        rw [e0] at p3
        rw [e1] at p4
        rw [e2] at p5
        rw [e3] at p6
        have HK1 := Lib.hid hk1
        have HBA : Hid (Below wr.heap.size wr (wr.alloc (.cells #[.int .i64 xk, .int .i64 xA, .int .i64 xB, .int .u64 (wd F 0 : Int), .int .u64 (wd F 1 : Int), .int .u64 (wd F 2 : Int), .int .u64 (wd F 3 : Int)] 64))) := Lib.hid ((Below.refl _ _).alloc (Nat.le_refl _) _)
        have HQA := Lib.hid (HQ.out.below HBA.out)
        have HB4 := Lib.hid (HB.out.trans (HBA.out.mono (by have := HB.out.size; have := HZ.out; omega)))
        clear hk1 hnx hxk hxA hxB e0 e1 e2 e3 hF HQ HB HBA
        cases hk : (xk == (1 : Int))
        · have HQ2 : Hid (rdL (wr.alloc (.cells #[.int .i64 xk, .int .i64 xA, .int .i64 xB, .int .u64 (wd F 0 : Int), .int .u64 (wd F 1 : Int), .int .u64 (wd F 2 : Int), .int .u64 (wd F 3 : Int)] 64)) q 259 (fun x => (clA (alk S (i + 1)) x : Nat))) := Lib.hid (by
            rcases HK1.out with h | h
            · simp [h] at hk
            · rw [h]; exact HQA.out)
          have HC2 : Hid (ct = ((cntT (isH (alk S (i + 1))) 259 : Nat) : Int)) := Lib.hid (by
            rcases HK1.out with h | h
            · simp [h] at hk
            · rw [h]; exact HCT.out.symm)
          clear HQA
          go_wp2_with fail
          go_roundw
          case rel => exact ⟨i + 1, q, c, by omega, rfl, by rw [HC2.out], by go_num, HQ2, HB4⟩
          case measure => simp [intOf]; omega
        · obtain rfl : xk = 1 := by simpa using hk
          clear hk HK1
          go_wp2_with fail
          refine (within_is F _).mono ?_
          rintro e w5 ⟨q5, rfl, hq5, hb5⟩
          have HB5 := Lib.hid (HB4.out.trans (hb5.mono (by have := HB4.out.size; have := HZ.out; omega)))
          have hj := join_is q 259 c _ (some ⟨q5, 0, none⟩) 259 _ (by decide) (cls_wf (alk S i)) (wi_wf F) w5 (HQA.out.below hb5) hq5
          rw [HNX.out] at hj
          obtain ⟨c6, hc6⟩ : ∃ c6 : Int, ((cntT (isH (alk S (i + 1))) 259 : Nat) : Int) = c6 := ⟨_, rfl⟩
          rw [hc6] at hj
          have HJ := Lib.hid hj
          have HC6 := Lib.hid hc6
          clear hj hq5 hb5 hc6 HQA HB4
          go_wp2_with fail
          refine HJ.out.mono ?_
          rintro e w6 ⟨q6, k6, l6, rfl, hl6, hv6, hb6⟩
          have HQ6 := Lib.hid (hl6.same hv6)
          have HB6 := Lib.hid (HB5.out.trans (hb6.mono (by have := HB5.out.size; have := HZ.out; omega)))
          clear hl6 hv6 hb6 HJ HB5
          go_wp2_with fail
          go_roundw
          case rel => exact ⟨i + 1, q6, k6, by omega, rfl, by rw [HC6.out], by go_num, HQ6, HB6⟩
          case measure => simp [intOf]; omega
      · obtain rfl : i = m := by omega
        have HE : Hid (Below w.heap.size w wr) := Lib.hid (HG.out.symm ▸ HB1.out.trans (HB.out.mono (Nat.le_succ g)))
        clear HB
        go_wp2_with fail
        go_returns
        exact ⟨fun _ => ⟨q, c, _, by rw [HCT.out] <;> rfl, HQ.out, fun _ _ => rfl, HE.out⟩, fun h => absurd HYES.out h⟩
theorem cls_any : ClsC := fun p m cap S st fin w hm hS hw => classes_is rgt_any p m cap S st fin hm w hS hw
end Go.Proofs.Ytepegohopgnmnaa

namespace Go.Proofs.Ytepegohopgnmnaa

/-- The states of the automaton of one letter. -/
def S1y : Nat → Sd := fun j => if j = 0 then ⟨1, 0, 8589934592, 0, 0, 1, 0⟩ else ⟨6, 0, 0, 0, 0, 0, 0⟩
theorem one_right : rightP S1y 2 0 1 := by decide +kernel
theorem one_three : (subM S1y 2 0 3).1.length = 3 ∧ lg (subM S1y 2 0 3).1 2 1 = true ∧ lg (subM S1y 2 0 3).1 0 1 = false := by decide +kernel
theorem one_two : (2 : Int) < (subM S1y 2 0 2).1.length := by decide +kernel
end Go.Proofs.Ytepegohopgnmnaa

namespace Go.Proofs.Ytepegohopgnmnaa
open Go.RowKit

def sbPost (S : Nat → Sd) (m : Nat) (st fin most : Int) (w : World) (e : Ending) (w' : World) : Prop :=
  (¬ rightP S m st fin → ∃ q0 n0 c0 wd s0 q1 c1 q2 n2 c2, e = .returned (.tuple #[dfV q0 n0 c0 wd s0 q1 0 c1 q2 n2 c2, .int .i64 3]) ∧ Below w.heap.size w w') ∧
  (rightP S m st fin → most < (subM S m st most).1.length → ∃ q0 c0 s0 q1 c1 q2 c2, e = .returned (.tuple #[dfV q0 0 c0 0 s0 q1 0 c1 q2 0 c2, .int .i64 5]) ∧ Below w.heap.size w w') ∧
  (rightP S m st fin → ((subM S m st most).1.length : Int) ≤ most → ∃ d, e = .returned (.tuple #[d, .int .i64 0]) ∧ dfaAt S m st fin.toNat most w w' d)
def SubC : Prop := ∀ (p : Option Addr) (m cap : Nat) (S : Nat → Sd) (st fin most : Int) (w : World), m ≤ 600 → most ≤ 64 → stsAt w p m S → (∀ j, j < m → okWs (S j)) →
  Calls Try.prog 8 #[nfV p m cap st fin, .int .i64 most] w (sbPost S m st fin most w)
def cnPost (S : Nat → Sd) (m : Nat) (st fin most : Int) (w : World) (e : Ending) (w' : World) : Prop :=
  ∃ k : Int, e = .returned (.int .i64 k) ∧ (¬ rightP S m st fin → k = 0) ∧ (most < 0 → k = 0) ∧ (rightP S m st fin → 0 ≤ most → most < (subM S m st most).1.length → k = most + 1) ∧
    (rightP S m st fin → 0 ≤ most → ((subM S m st most).1.length : Int) ≤ most → k = (subM S m st most).1.length) ∧ Below w.heap.size w w'
def CntC : Prop := ∀ (p : Option Addr) (m cap : Nat) (S : Nat → Sd) (st fin most : Int) (w : World), m ≤ 600 → most ≤ 64 → stsAt w p m S → (∀ j, j < m → okWs (S j)) →
  Calls Try.prog 12 #[nfV p m cap st fin, .int .i64 most] w (cnPost S m st fin most w)
theorem S1_okWs : ∀ j, okWs (S1y j) := fun j => by
  unfold S1y okWs
  split <;> simp

set_option maxRecDepth 100000 in
set_option maxHeartbeats 4000000 in
theorem one11 (w : World) : Calls Try.prog 19 #[] w fun e w' => ∃ g, e = .returned (nfV (some ⟨g, 0, none⟩) 2 2 0 1) ∧ rdS w' g 0 2 S1y ∧ Below w.heap.size w w' := by
  obtain ⟨B, hB⟩ : ∃ B, w.heap.size = B := ⟨_, rfl⟩
  have HG := Lib.hid hB
  obtain ⟨w1, hw1⟩ : ∃ w1, w.alloc (.cells #[.slice none 0 0, .int .i64 0, .int .i64 0] 24) = w1 := ⟨_, rfl⟩
  have hz1 : w1.heap.size = B + 1 := by rw [← hw1, World.size_alloc, hB]
  have hb1 : Below B w w1 := hw1 ▸ (Below.refl _ _).alloc (by omega) _
  have hn1 : w1.heap[B]? = some (.cells #[.slice none 0 0, .int .i64 0, .int .i64 0] 24 (0, 0)) := hw1 ▸ hB ▸ heap_alloc_new w _
  have HW1 := Lib.hid hw1
  clear hw1
  go_enter Try.func19, Try.ntmps19
  go_upto_region 1 with (fail)
  rw [HW1.out]
  have H1 : is3 24 w1 B (.slice none 0 0) 0 0 := hn1
  obtain ⟨c0, c1, c2⟩ := H1.cells
  obtain ⟨f0, f1, f2⟩ := H1.free
  have hl1 := H1.lt
  obtain ⟨W, hW⟩ : ∃ W, ((w1.setCell ⟨B, 0, none⟩ (.slice (some ⟨B + 1, 0, none⟩) 2 2)).setCell ⟨B, 1, none⟩ (.int .i64 0)).setCell ⟨B, 2, none⟩ (.int .i64 1) = W := ⟨_, rfl⟩
  have hs : is3 24 W B (.slice (some ⟨B + 1, 0, none⟩) 2 2) 0 1 := hW ▸ H1.stored (.slice (some ⟨B + 1, 0, none⟩) 2 2) 0 1
  have hzW : W.heap.size = B + 1 := by rw [← hW]; simpa using hz1
  obtain ⟨w9, hw9⟩ : ∃ w9, W.alloc (.cells #[.int .i64 1, .int .i64 1, .int .i64 0, .int .u64 0, .int .u64 8589934592, .int .u64 0, .int .u64 0, .int .i64 6, .int .i64 0, .int .i64 0, .int .u64 0, .int .u64 0, .int .u64 0, .int .u64 0] 64) = w9 := ⟨_, rfl⟩
  have hb9 : Below (B + 1) W w9 := hw9 ▸ (Below.refl _ _).alloc (by omega) _
  have hk9 : w9.heap[B + 1]? = some (.cells #[.int .i64 1, .int .i64 1, .int .i64 0, .int .u64 0, .int .u64 8589934592, .int .u64 0, .int .u64 0, .int .i64 6, .int .i64 0, .int .i64 0, .int .u64 0, .int .u64 0, .int .u64 0, .int .u64 0] 64 (0, 0)) := hw9 ▸ hzW ▸ heap_alloc_new W _
  have Z := Lib.hid (is3.below hs hb9 (Nat.lt_succ_self B)).cells
  have HS : Hid (rdS w9 (B + 1) 0 2 S1y) := Lib.hid fun j hj => by
    refine ⟨lt_of_block hk9, ?_⟩
    rcases (show j = 0 ∨ j = 1 by omega) with rfl | rfl
    · refine ⟨?_, ?_, ?_, ?_, ?_, ?_, ?_⟩ <;> simp [World.cell?, hk9, S1y]
    · refine ⟨?_, ?_, ?_, ?_, ?_, ?_, ?_⟩ <;> simp [World.cell?, hk9, S1y]
  have hbW : Below B w W := hW ▸ (((hb1.setCell (p := ⟨B, 0, none⟩) (Nat.le_refl _) _).setCell (p := ⟨B, 1, none⟩) (Nat.le_refl _) _).setCell (p := ⟨B, 2, none⟩) (Nat.le_refl _) _)
  have HBf : Hid (Below B w w9) := Lib.hid (hbW.trans (hb9.mono (Nat.le_succ B)))
  have HWW := Lib.hid hW; have HW9 := Lib.hid hw9
  clear hW hw9 hb1 hb9 hk9 hn1 H1 hs hbW hzW
  go_wp2_with fail
  rw [HWW.out, HW9.out]
  refine bodyPost_ret (v := nfV (some ⟨B + 1, 0, none⟩) 2 2 0 1) (by simp [results, Try.results19, go_sem, Z.out]) rfl ?_
  exact ⟨B + 1, rfl, HS.out, HG.out.symm ▸ HBf.out⟩
end Go.Proofs.Ytepegohopgnmnaa

namespace Go.Proofs.Ytepegohopgnmnaa
open Go.RowKit

/-- The classes' first symbols, as Firsts tells them. -/
theorem firsts11 {S : Nat → Sd} {m : Nat} {q : Option Addr} {c : Nat} {l : Nat → Int} {w : World} (hl : rdL w q 259 l) (hv : ∀ j, j < 259 → l j = (clA (alk S m) j : Nat)) :
    Calls Try.prog 23 #[.slice q 259 c, .int .i64 (wdY S m : Nat)] w fun e w' => ∃ q' c' l', e = .returned (.slice q' (wdY S m) c') ∧ rdL w' q' (wdY S m) l' ∧ (∀ j, j < wdY S m → l' j = (fsY S m j : Nat)) ∧ Below w.heap.size w w' := by
  refine (frs_any q 259 c (fun x => (clA (alk S m) x : Nat)) (wdY S m : Nat) w (by decide) (hl.same hv)).mono ?_
  rintro e w' ⟨q', c', l', rfl, h1, h2, h3⟩
  have hW : (min ((wdY S m : Nat) : Int) 259).toNat = wdY S m := by have := wdY_le S m; omega
  rw [hW] at h1 h2 ⊢
  exact ⟨q', c', l', rfl, h1, fun j hj => by rw [h2 j hj, (fsY_int hj).1], h3⟩

theorem field_met (p : Option Addr) (n c b : Nat) (p' : Option Addr) (n' c' : Nat) (w : World) : (Instr.field 56 (.agg #[.slice p n c, .map (some b), .slice p' n' c']) 0).run Try.prog w = .ok (.slice p n c) w := by kernel_rfl
set_option maxRecDepth 100000 in
set_option maxHeartbeats 8000000 in
theorem cnt_any : CntC := by
  intro p m cap S st fin most w hm hmost hS hw
  obtain ⟨w1, hw1⟩ : ∃ w1, w.alloc (.cells #[.slice p m cap, .int .i64 st, .int .i64 fin] 24) = w1 := ⟨_, rfl⟩
  have hb1 : Below w.heap.size w w1 := hw1 ▸ (Below.refl _ _).alloc (Nat.le_refl _) _
  have hn1 : is3 24 w1 w.heap.size (.slice p m cap) st fin := hw1 ▸ is3.new 24 w (.slice p m cap) st fin
  obtain ⟨g, hg⟩ : ∃ g, w.heap.size = g := ⟨_, rfl⟩
  have hz : w1.heap.size = g + 1 := by rw [← hw1, World.size_alloc, hg]
  rw [hg] at hn1 hb1
  have HST : Hid (∀ w', Below (g + 1) w1 w' → stsAt w' p m S) := Lib.hid fun w' h => ⟨hS.1, fun b off e => ((hS.2 b off e).below (hg.symm ▸ hb1)).below (hz.symm ▸ h)⟩
  have HN : Hid (∀ w', Below (g + 1) w1 w' → is3 24 w' g (.slice p m cap) st fin) := Lib.hid fun w' h => hn1.below h (Nat.lt_succ_self g)
  have HE : Hid (∀ w', Below (g + 1) w1 w' → Below w.heap.size w w') := Lib.hid fun w' h => by rw [hg]; exact hb1.trans (h.mono (Nat.le_succ g))
  have HR := Lib.hid (rgt_any p m cap S st fin w1 hm (HST.out _ (Below.refl _ _)))
  have HZ := Lib.hid hz; have HW1 := Lib.hid hw1; have HOK := Lib.hid hw
  clear hb1 hn1 hS hw
  by_cases h0 : most < 0
  · have d0 : decide (most < (0 : Int)) = true := decide_eq_true h0
    have HNEG := Lib.hid h0
    have HFI := Lib.hid (HE.out _ (Below.refl _ _))
    clear hw1 h0
    go_enter Try.func12, Try.ntmps12
    go_upto_region 1 with (fail)
    rw [HW1.out]
    clear hg hz
    go_wp2_with fail
    go_returns
    exact ⟨0, rfl, fun _ => rfl, fun _ => rfl, fun _ h => absurd HNEG.out (by omega), fun _ h => absurd HNEG.out (by omega), HFI.out⟩
  · have d0 : decide (most < (0 : Int)) = false := decide_eq_false h0
    have HPOS := Lib.hid h0
    obtain ⟨z0, z1, z2⟩ := (HN.out _ (Below.refl _ _)).cells
    have zl := (HN.out _ (Below.refl _ _)).lt
    by_cases hr : rightP S m st fin
    · have HRR := Lib.hid hr
      have hrr := HR.out
      rw [decide_eq_true hr] at hrr
      have HR := Lib.hid hrr
      clear hrr hr hw1 h0
      go_enter Try.func12, Try.ntmps12
      go_upto_region 1 with (fail)
      rw [HW1.out]
      clear hg
      go_wp2_with fail
      refine HR.out.mono ?_
      rintro e w2 ⟨rfl, hb⟩
      have HB2 : Hid (Below (g + 1) w1 w2) := Lib.hid (HZ.out ▸ hb)
      have HCL := Lib.hid (cls_any p m cap S st fin w2 hm (HST.out _ HB2.out) HOK.out)
      obtain ⟨z0, z1, z2⟩ := (HN.out _ HB2.out).cells
      have zl := (HN.out _ HB2.out).lt
      clear hb hz
      go_wp2_with fail
      refine HCL.out.mono ?_
      rintro e w3 ⟨hc, -⟩
      obtain ⟨q, c, l, rfl, h1, h2, h3⟩ := hc HRR.out
      have HB3 : Hid (Below (g + 1) w1 w3) := Lib.hid (HB2.out.trans (h3.mono (by have := HB2.out.size; have := HZ.out; omega)))
      have HFS := Lib.hid (firsts11 (c := c) (w := w3.drew) (show rdL w3.drew q 259 l from h1) h2)
      have hwd : ((cntT (isH (alk S m)) 259 : Nat) : Int) = ((wdY S m : Nat) : Int) := rfl
      rw [hwd]
      obtain ⟨W, hW⟩ : ∃ W, wdY S m = W := ⟨_, rfl⟩
      rw [hW] at HFS ⊢
      have HWW := Lib.hid hW
      have HMT : Hid (∀ fq fc fl w', Below (g + 1) w1 w' → rdL w' fq W fl → (∀ j, j < W → fl j = (fsY S m j : Nat)) → Calls Try.prog 22 #[nfV p m cap st fin, .slice fq W fc, .int .i64 most] w' (mtPost S m st most w')) := Lib.hid fun fq fc fl w' hb hl hf =>
        meet_is p m cap S st fin fq W fc fl most hm HRR.out HWW.out hmost hf w' (HST.out _ hb) HOK.out hl
      clear hc h1 h2 h3 HCL HB2 z0 z1 z2 zl hW hwd
      have hB := HB3.out
      have hfm := field_met
      have HS0 := Lib.hid (HN.out _ hB).cells
      obtain ⟨z0, z1, z2⟩ := (HN.out _ HB3.out).cells
      have zl := (HN.out _ HB3.out).lt
      go_wp2_with fail
      go_region_held_law (fun w' => w'.cell? ⟨g, 0, none⟩ = some (.slice p m cap) ∧ w'.cell? ⟨g, 1, none⟩ = some (.int .i64 st) ∧ w'.cell? ⟨g, 2, none⟩ = some (.int .i64 fin))
        (first | exact (HN.out _ hB).cells | exact (HN.out _ hB.drew).cells)
        (first
          | (go_at_call 23; (with_reducible refine HFS.out.mono ?_); rintro e w4 ⟨q4, c4, l4, rfl, h4, h5, h6⟩; have HB4 : Hid (Below (g + 1) w1 w4) := Lib.hid (HB3.out.drew.trans (h6.mono (by have := HB3.out.size; have := HZ.out; simp; omega))); have HM4 := Lib.hid (HMT.out q4 c4 l4 w4 HB4.out h4 h5); (replace hB := HB4.out); clear h4 h5 h6)
          | (go_at_call 22; (with_reducible refine HM4.out.mono ?_); rintro e w5 ⟨b5, sp, sc, mb, np, nc, G, s, rfl, -, -, -, -, hb5, hs1, hs2, hs3, -⟩; have HB5 : Hid (Below (g + 1) w1 w5) := Lib.hid (HB4.out.trans (hb5.mono (by have := HB4.out.size; have := HZ.out; omega))); have HS1 := Lib.hid hs1; have HS2 := Lib.hid hs2; have HS3 := Lib.hid hs3; (replace hB := HB5.out); clear hb5 hs1 hs2 hs3))
      all_goals
        have HFI := Lib.hid (HE.out _ HB5.out)
        clear hB hfm
        go_wp2_with fail
        go_returns
        refine ⟨_, rfl, fun h => absurd HRR.out h, fun h => absurd h (by have := HPOS.out; omega), fun _ h1 h2 => ?_, fun _ h1 h2 => ?_, HFI.out⟩
        · by_cases hk : (s.1.length : Int) ≤ most
          · rw [HS2.out hk] at h2; omega
          · have := HS3.out h1; omega
        · by_cases hk : (s.1.length : Int) ≤ most
          · rw [HS2.out hk]
          · have := HS1.out (by omega); omega
    · have hrr := HR.out
      rw [decide_eq_false hr] at hrr
      have HR := Lib.hid hrr
      have HNR := Lib.hid hr
      clear hrr hr hw1 h0
      go_enter Try.func12, Try.ntmps12
      go_upto_region 1 with (fail)
      rw [HW1.out]
      clear hg
      go_wp2_with fail
      refine HR.out.mono ?_
      rintro e w2 ⟨rfl, hb⟩
      have HFI := Lib.hid (HE.out _ (HZ.out ▸ hb))
      clear hb hz z0 z1 z2 zl
      go_wp2_with fail
      go_returns
      exact ⟨0, rfl, fun _ => rfl, fun _ => rfl, fun h => absurd h HNR.out, fun h => absurd h HNR.out, HFI.out⟩
end Go.Proofs.Ytepegohopgnmnaa

namespace Go.Proofs.Ytepegohopgnmnaa
open Go.RowKit

set_option maxHeartbeats 1000000 in
theorem kids_none8 (b off n cap i : Nat) (N : Nat → Nd) (hn : n ≤ 1000) (hi : i < n) (hf : 0 ≤ fst N i) (ha : ar (N i).k = 0) (w : World) (hr : rdN w b off n N) :
    Calls Try.prog 55 #[.slice (some ⟨b, off, none⟩) n cap, .int .i64 (i : Int)] w fun e w' => ∃ p, e = .returned (.slice p 0 0) ∧ Below w.heap.size w w' := by
  have hc := (hr i hi).2.1
  have hb := (hr i hi).1
  have h0 : (0 : Int) ≤ (i : Int) := by omega
  have h1 : (i : Int) < (n : Int) := by omega
  have t0 : decide (fst N i < 0) = false := decide_eq_false (by omega)
  have HR := Lib.hid hr
  clear hr
  have hib : (i : Int) < 1000 := by omega
  have HA := Lib.hid ha
  have hmk := mk0
  clear ha
  go_enter Try.func55, Try.ntmps55
  go_wp2_with fail
  refine (first_in _ _ _ _ _ _ hn hi _ HR.out).mono ?_; rintro e w' ⟨rfl, rfl⟩
  go_wp2_with fail
  refine (args_any _ _).mono ?_; rintro e w' ⟨rfl, rfl⟩; rw [HA.out]
  go_wp2_with fail
  refine wp_loop_rounds 1 ?_
  rw [rounds_succ]; go_wp2
  go_ret
  exact ⟨_, rfl, (Below.refl _ _).alloc (Nat.le_refl _) _⟩
set_option maxHeartbeats 1000000 in
theorem kids_one8 (b off n cap j : Nat) (N : Nat → Nd) (hn : n ≤ 1000) (hi : j + 1 < n) (hf : 0 ≤ fst N (j + 1)) (ha : ar (N (j + 1)).k = 1) (w : World) (hr : rdN w b off n N) :
    Calls Try.prog 55 #[.slice (some ⟨b, off, none⟩) n cap, .int .i64 ((j + 1 : Nat) : Int)] w fun e w' =>
      e = .returned (.slice (some ⟨w.heap.size, 0, none⟩) 1 1) ∧ w'.heap[w.heap.size]? = some (.cells #[.int .i64 (j : Int)] 3 (0, 0)) ∧ Below w.heap.size w w' := by
  have hc := (hr _ hi).2.1
  have hb := (hr _ hi).1
  have h0 : (0 : Int) ≤ ((j + 1 : Nat) : Int) := by omega
  have h1 : ((j + 1 : Nat) : Int) < (n : Int) := by omega
  have t0 : decide (fst N (j + 1) < 0) = false := decide_eq_false (by omega)
  have HR := Lib.hid hr
  clear hr
  have hib : ((j + 1 : Nat) : Int) < 1000 := by omega
  have HA := Lib.hid ha
  have hmk := mk1
  clear ha
  go_enter Try.func55, Try.ntmps55
  go_wp2_with fail
  refine (first_in _ _ _ _ _ _ hn hi _ HR.out).mono ?_; rintro e w' ⟨rfl, rfl⟩
  go_wp2_with fail
  refine (args_any _ _).mono ?_; rintro e w' ⟨rfl, rfl⟩; rw [HA.out]
  go_wp2_with fail
  refine wp_loop_rounds 2 ?_
  rw [rounds_succ]; go_wp2_with fail
  refine (first_in b off n cap j N hn (by omega) _ ?hx).mono ?_
  case hx => exact HR.out.below (by go_grown)
  rintro e w' ⟨rfl, rfl⟩
  go_wp2
  rw [rounds_succ]; go_wp2
  go_ret
  refine ⟨rfl, ?_, by go_grown⟩
  exact heap_alloc_new w _
set_option maxHeartbeats 1000000 in
theorem kids_two8 (b off n cap j q : Nat) (N : Nat → Nd) (hn : n ≤ 1000) (hi : j + 1 < n) (hf : 0 ≤ fst N (j + 1)) (ha : ar (N (j + 1)).k = 2) (hff : fst N j = ((q + 1 : Nat) : Int)) (hq : q + 1 ≤ j) (w : World) (hr : rdN w b off n N) :
    Calls Try.prog 55 #[.slice (some ⟨b, off, none⟩) n cap, .int .i64 ((j + 1 : Nat) : Int)] w fun e w' =>
      e = .returned (.slice (some ⟨w.heap.size, 0, none⟩) 2 2) ∧ w'.heap[w.heap.size]? = some (.cells #[.int .i64 (q : Int), .int .i64 (j : Int)] 3 (0, 0)) ∧ Below w.heap.size w w' := by
  have hc := (hr _ hi).2.1
  have hb := (hr _ hi).1
  have h0 : (0 : Int) ≤ ((j + 1 : Nat) : Int) := by omega
  have h1 : ((j + 1 : Nat) : Int) < (n : Int) := by omega
  have t0 : decide (fst N (j + 1) < 0) = false := decide_eq_false (by omega)
  have HR := Lib.hid hr
  clear hr
  have hib : ((j + 1 : Nat) : Int) < 1000 := by omega
  have HA := Lib.hid ha; have HF := Lib.hid hff
  have hmk := mk2
  clear ha hff
  go_enter Try.func55, Try.ntmps55
  go_wp2_with fail
  refine (first_in _ _ _ _ _ _ hn hi _ HR.out).mono ?_; rintro e w' ⟨rfl, rfl⟩
  go_wp2_with fail
  refine (args_any _ _).mono ?_; rintro e w' ⟨rfl, rfl⟩; rw [HA.out]
  go_wp2_with fail
  refine wp_loop_rounds 3 ?_
  rw [rounds_succ]; go_wp2_with fail
  refine (first_in b off n cap j N hn (by omega) _ ?hx).mono ?_
  case hx => exact HR.out.below (by go_grown)
  rintro e w' ⟨rfl, rfl⟩
  rw [HF.out]
  go_wp2_with fail
  rw [rounds_succ]; go_wp2_with fail
  refine (first_in b off n cap q N hn (by omega) _ ?hy).mono ?_
  case hy => exact HR.out.below (by go_grown)
  rintro e w' ⟨rfl, rfl⟩
  go_wp2
  rw [rounds_succ]; go_wp2
  go_ret
  refine ⟨rfl, ?_, by go_grown⟩
  exact heap_alloc_new w _
end Go.Proofs.Ytepegohopgnmnaa
