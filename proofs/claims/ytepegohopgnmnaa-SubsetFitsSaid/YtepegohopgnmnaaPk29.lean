/-
  The walk of nfa.Right.
-/
import Derived.Test.YtepegohopgnmnaaPk28
import Derived.Test.YtepegohopgnmnaaPk21
namespace Go.Proofs.Ytepegohopgnmnaa
open Go.RowKit

theorem ffb9 (k a b c d A B : Int) (m : Nat) (r : Bool) (h : ffB ⟨k, a, b, c, d, A, B⟩ m = r) (w : World) :
    Calls Try.prog 40 #[.agg #[.int .i64 k, .int .i64 A, .int .i64 B, .int .u64 a, .int .u64 b, .int .u64 c, .int .u64 d], .int .i64 (m : Int)] w fun e w' => e = .returned (.bool r) ∧ Below w.heap.size w w' := by
  rw [← h]; exact ff9_is k a b c d A B m w
set_option maxRecDepth 100000 in
set_option maxHeartbeats 20000000 in
theorem rgt9_is (p : Option Addr) (m cap : Nat) (S : Nat → Sd) (st fin : Int) (w : World) (hm : m ≤ 600) (hS : stsAt w p m S) :
    Calls Try.prog 20 #[nfV p m cap st fin] w fun e w' => e = .returned (.bool (decide (rightP S m st fin))) ∧ Below w.heap.size w w' := by
  have hm2 : decide ((600 : Int) < (m : Int)) = false := decide_eq_false (by omega)
  have hm3 : decide (600 < m) = false := decide_eq_false (by omega)
  obtain ⟨w1, hw1⟩ : ∃ w1, w.alloc (.cells #[.slice p m cap, .int .i64 st, .int .i64 fin] 24) = w1 := ⟨_, rfl⟩
  have hb1 : Below w.heap.size w w1 := hw1 ▸ (Below.refl _ _).alloc (Nat.le_refl _) _
  have hn1 : is3 24 w1 w.heap.size (.slice p m cap) st fin := hw1 ▸ is3.new 24 w (.slice p m cap) st fin
  obtain ⟨g, hg⟩ : ∃ g, w.heap.size = g := ⟨_, rfl⟩
  have hz1 : w1.heap.size = g + 1 := by rw [← hw1, World.size_alloc, hg]
  rw [hg] at hn1 hb1
  have HB1 := Lib.hid hb1
  have HN : Hid (∀ w', Below (g + 1) w1 w' → is3 24 w' g (.slice p m cap) st fin) := Lib.hid fun w' h => hn1.below h (Nat.lt_succ_self g)
  have HW1 := Lib.hid hw1
  have HG := Lib.hid hg
  have HZ := Lib.hid hz1
  have HSS := Lib.hid hS
  obtain ⟨z0, z1, z2⟩ := hn1.cells
  have zl := hn1.lt
  rw [show (nfV p m cap st fin) = .agg #[.slice p m cap, .int .i64 st, .int .i64 fin] from rfl]
  clear hw1 hb1 hn1 hz1 hS
  cases hs : (decide (0 ≤ st) && decide (st < (m : Int)))
  · have HNO : Hid (decide (rightP S m st fin) = false) := Lib.hid (decide_eq_false fun h => by
      have := h.1
      rw [decide_eq_true (show 0 ≤ st by omega), decide_eq_true (show st < (m : Int) by omega)] at hs
      cases hs)
    have HP := Lib.hid (fun w => placeb9 st m _ hs w)
    have HF := Lib.hid (fun w => place9 fin m w)
    clear hs
    go_enter Try.func20, Try.ntmps20
    go_upto_region 1 with (fail)
    rw [HW1.out]
    clear hg
    go_wp2_with fail
    refine (HP.out _).mono ?_
    rintro e w' ⟨rfl, rfl⟩
    go_wp2_with fail
    go_returns
    exact ⟨by rw [HNO.out] <;> rfl, HG.out.symm ▸ HB1.out⟩
  have HP := Lib.hid (fun w => placeb9 st m _ hs w)
  cases hf : (decide (0 ≤ fin) && decide (fin < (m : Int)))
  · have HNO : Hid (decide (rightP S m st fin) = false) := Lib.hid (decide_eq_false fun h => by
      have := h.1
      rw [decide_eq_true (show 0 ≤ fin by omega), decide_eq_true (show fin < (m : Int) by omega)] at hf
      cases hf)
    have HF := Lib.hid (fun w => placeb9 fin m _ hf w)
    clear hs hf
    go_enter Try.func20, Try.ntmps20
    go_upto_region 1 with (fail)
    rw [HW1.out]
    clear hg
    go_wp2_with fail
    refine (HP.out _).mono ?_
    rintro e w' ⟨rfl, rfl⟩
    go_wp2_with fail
    refine (HF.out _).mono ?_
    rintro e w' ⟨rfl, rfl⟩
    go_wp2_with fail
    go_returns
    exact ⟨by rw [HNO.out] <;> rfl, HG.out.symm ▸ HB1.out⟩
  have HF := Lib.hid (fun w => placeb9 fin m _ hf w)
  have hr : 1 ≤ m ∧ m ≤ 600 ∧ 0 ≤ st ∧ st < m ∧ 0 ≤ fin ∧ fin < m := by
    simp only [Bool.and_eq_true, decide_eq_true_eq] at hs hf
    omega
  clear hs hf
  obtain ⟨b, off, rfl⟩ : ∃ b off, p = some ⟨b, off, none⟩ := by
    rcases HSS.out.1 with h | h
    · omega
    · exact h
  have HS1 := Lib.hid ((HSS.out.2 b off rfl).below (HG.out.symm ▸ HB1.out))
  have HIF := Lib.hid (right_okR (S := S) hr)
  have m0 : (0 : Int) ≤ (m : Int) := by omega
  clear hr HSS
  go_enter Try.func20, Try.ntmps20
  go_upto_region 1 with (fail)
  rw [HW1.out]
  clear hg HW1
  go_wp2_with fail
  refine (HP.out _).mono ?_
  rintro e w' ⟨rfl, rfl⟩
  go_wp2_with fail
  refine (HF.out _).mono ?_
  rintro e w' ⟨rfl, rfl⟩
  go_wp2_with fail
  clear HP HF z0 z1 z2 zl
  go_loopw [28] (fun iv wr => ∃ i : Nat, i ≤ m ∧ iv = .int .i64 i ∧ Hid (∀ q, q < i → okR S m fin q) ∧ Hid (Below (g + 1) w' wr)) (fun iv _ => m - (intOf iv).toNat)
  case atStart => exact ⟨0, Nat.zero_le _, rfl, Lib.hid (fun q h => absurd h (Nat.not_lt_zero _)), Lib.hid (Below.refl _ _)⟩
  case round =>
    obtain ⟨i, hi, rfl, HQ, HB⟩ := hrel
    obtain ⟨z0, z1, z2⟩ := (HN.out _ HB.out).cells
    have zl := (HN.out _ HB.out).lt
    by_cases hlti : i < m
    · have i0 : (0 : Int) ≤ (i : Int) := by omega
      have i1 : (i : Int) < (m : Int) := by omega
      obtain ⟨hbl, p0, p1, p2, p3, p4, p5, p6⟩ := (HS1.out.below (HZ.out.symm ▸ HB.out)) i hlti
      have hok : okR S m fin i ↔ ffB (S i) m = true ∧ ((S i).k == 6) = decide ((i : Int) = fin) := Iff.rfl
      obtain ⟨X, hX⟩ : ∃ X, S i = X := ⟨_, rfl⟩
      rw [hX] at p0 p1 p2 p3 p4 p5 p6 hok
      obtain ⟨xk, xa, xb, xc, xd, xA, xB⟩ := X
      simp only at p0 p1 p2 p3 p4 p5 p6 hok
      clear hX
      have HOK := Lib.hid hok
      clear hok
      obtain ⟨Wa, hWa⟩ : ∃ Wa, wr.alloc (.cells #[.int .i64 xk, .int .i64 xA, .int .i64 xB, .int .u64 xa, .int .u64 xb, .int .u64 xc, .int .u64 xd] 64) = Wa := ⟨_, rfl⟩
      have hba : Below (g + 1) w' Wa := hWa ▸ HB.out.alloc (by have := HB.out.size; have := HZ.out; omega) _
      have hst : isSt9 Wa wr.heap.size xk xA xB xa xb xc xd := hWa ▸ isSt9.new wr xk xA xB xa xb xc xd
      obtain ⟨s, hs⟩ : ∃ s, wr.heap.size = s := ⟨_, rfl⟩
      have HSS : Hid (wr.heap.size = s) := Lib.hid hs
      rw [hs] at hst
      have HST := Lib.hid hst
      have HBA := Lib.hid hba
      have HWa := Lib.hid hWa
      clear hba hst hWa
      go_upto_region 7 with (fail)
      rw [HWa.out]
      clear HWa hs p0 p1 p2 p3 p4 p5 p6 hbl z0 z1 z2 zl
      obtain ⟨s0, s1, s2, s3, s4, s5, s6⟩ := HST.out.cells
      have sl := HST.out.lt
      obtain ⟨r, hr⟩ : ∃ r, ffB ⟨xk, xa, xb, xc, xd, xA, xB⟩ m = r := ⟨_, rfl⟩
      have HR := Lib.hid hr
      clear hr
      go_wp2_with fail
      refine (ffb9 xk xa xb xc xd xA xB m r HR.out _).mono ?_
      rintro e w5 ⟨rfl, hb5⟩
      have hb6 := HBA.out.trans (hb5.mono (by have := HBA.out.size; have := HZ.out; omega))
      have HB6 := Lib.hid hb6
      have hst5 : isSt9 w5 s xk xA xB xa xb xc xd := (hb5.block s HST.out.lt).trans HST.out
      have HST5 := Lib.hid hst5
      clear hb5 hb6 hst5 s0 s1 s2 s3 s4 s5 s6 sl
      obtain ⟨s0, -⟩ := HST5.out.cells
      have sl := HST5.out.lt
      obtain ⟨z0, z1, z2⟩ := (HN.out _ HB6.out).cells
      have zl := (HN.out _ HB6.out).lt
      have HE : Hid (Below w.heap.size w w5) := Lib.hid (HG.out.symm ▸ HB1.out.trans (HB6.out.mono (Nat.le_succ g)))
      cases r with
      | false =>
        have HNO : Hid (decide (rightP S m st fin) = false) := Lib.hid (decide_eq_false fun h => by
          have := (HOK.out.1 (HIF.out.1 h i hlti)).1
          rw [HR.out] at this
          cases this)
        go_wp2_with fail
        go_returns
        exact ⟨by rw [HNO.out] <;> rfl, HE.out⟩
      | true =>
        cases h6 : (xk == 6) <;> cases hf : ((i : Int) == fin)
        all_goals
          have hf2 : decide ((i : Int) = fin) = ((i : Int) == fin) := by
            by_cases e : (i : Int) = fin <;> simp [e]
          rw [hf] at hf2
          have HF2 := Lib.hid hf2
          have H6 := Lib.hid h6
          clear hf2
        · have HQ2 : Hid (∀ q, q < i + 1 → okR S m fin q) := Lib.hid fun q hq => by
            by_cases e : q = i
            · subst e; exact HOK.out.2 ⟨HR.out, by rw [H6.out, HF2.out]⟩
            · exact HQ.out q (by omega)
          go_wp2_with fail
          go_roundw
          case rel => exact ⟨i + 1, by omega, by go_num, HQ2, HB6⟩
          case measure => simp [intOf]; omega
        · have HNO : Hid (decide (rightP S m st fin) = false) := Lib.hid (decide_eq_false fun h => by
            have := (HOK.out.1 (HIF.out.1 h i hlti)).2
            rw [H6.out, HF2.out] at this
            cases this)
          go_wp2_with fail
          go_returns
          exact ⟨by rw [HNO.out] <;> rfl, HE.out⟩
        · have HNO : Hid (decide (rightP S m st fin) = false) := Lib.hid (decide_eq_false fun h => by
            have := (HOK.out.1 (HIF.out.1 h i hlti)).2
            rw [H6.out, HF2.out] at this
            cases this)
          go_wp2_with fail
          go_returns
          exact ⟨by rw [HNO.out] <;> rfl, HE.out⟩
        · have HQ2 : Hid (∀ q, q < i + 1 → okR S m fin q) := Lib.hid fun q hq => by
            by_cases e : q = i
            · subst e; exact HOK.out.2 ⟨HR.out, by rw [H6.out, HF2.out]⟩
            · exact HQ.out q (by omega)
          go_wp2_with fail
          go_roundw
          case rel => exact ⟨i + 1, by omega, by go_num, HQ2, HB6⟩
          case measure => simp [intOf]; omega
    · obtain rfl : i = m := by omega
      have HY : Hid (decide (rightP S i st fin) = true) := Lib.hid (decide_eq_true (HIF.out.2 HQ.out))
      have HE : Hid (Below w.heap.size w wr) := Lib.hid (HG.out.symm ▸ HB1.out.trans (HB.out.mono (Nat.le_succ g)))
      go_wp2_with fail
      go_returns
      exact ⟨by rw [HY.out] <;> rfl, HE.out⟩
theorem rgt_any : RgtC := fun p m cap S st fin w hm hS => rgt9_is p m cap S st fin w hm hS
end Go.Proofs.Ytepegohopgnmnaa
