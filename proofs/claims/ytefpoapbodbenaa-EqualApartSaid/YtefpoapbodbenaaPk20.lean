/-
  The walk of dfa.Right.
-/
import Derived.Test.YtefpoapbodbenaaPk19
import Derived.Test.YtefpoapbodbenaaPk13
namespace Go.Proofs.Ytefpoapbodbenaa
open Go.RowKit

noncomputable def allB (n : Nat) (l : Nat → Int) (N : Int) : Bool := @decide (∀ j, j < n → 0 ≤ l j ∧ l j < N) (Classical.propDecidable _)
theorem allB_iff {n : Nat} {l : Nat → Int} {N : Int} : allB n l N = true ↔ ∀ j, j < n → 0 ≤ l j ∧ l j < N := by unfold allB; simp

set_option maxRecDepth 100000 in
set_option maxHeartbeats 16000000 in
theorem rig_any : RigD := by
  intro v x w hs hd
  obtain ⟨h0, h1, h2⟩ := hs
  obtain ⟨q0, c0, q1, c1, q2, c2, rfl, hr0, hr1, hr2⟩ := hd
  obtain ⟨n0, l0, wd, st, n1, l1, n2, T⟩ := x
  simp only at h0 h1 h2 hr0 hr1 hr2 ⊢
  obtain ⟨P, hP⟩ : ∃ P : Int, (n2 : Int) * wd = P := ⟨_, rfl⟩
  obtain ⟨r, hr⟩ : ∃ r, rgB ⟨n0, l0, wd, st, n1, l1, n2, T⟩ = r := ⟨_, rfl⟩
  have HNO : Hid (¬ rgD ⟨n0, l0, wd, st, n1, l1, n2, T⟩ → r = false) := Lib.hid fun h => hr ▸ rgB_no h
  have HYES : Hid (rgD ⟨n0, l0, wd, st, n1, l1, n2, T⟩ → r = true) := Lib.hid fun h => hr ▸ rgB_yes h
  rw [hr]
  clear hr hr2
  obtain ⟨D, hD⟩ : ∃ D, w.heap.size = D := ⟨_, rfl⟩
  obtain ⟨w1, hw1⟩ : ∃ w1, w.alloc (.cells #[.slice q0 n0 c0, .int .i64 wd, .int .i64 st, .slice q1 n1 c1, .slice q2 n2 c2] 25) = w1 := ⟨_, rfl⟩
  have hz1 : w1.heap.size = D + 1 := by rw [← hw1, World.size_alloc, hD]
  have hb1 : Below D w w1 := hw1 ▸ (Below.refl _ _).alloc (by omega) _
  have hk1 : isDf w1 D q0 n0 c0 wd st q1 n1 c1 q2 n2 c2 := hw1 ▸ hD ▸ heap_alloc_new w _
  obtain ⟨s0, hs0⟩ : ∃ s0, allB n0 l0 wd = s0 := ⟨_, rfl⟩
  obtain ⟨s1, hs1⟩ : ∃ s1, allB n1 l1 n2 = s1 := ⟨_, rfl⟩
  have hi0 : s0 = true ↔ ∀ j, j < n0 → 0 ≤ l0 j ∧ l0 j < wd := by rw [← hs0]; exact allB_iff
  have hi1 : s1 = true ↔ ∀ j, j < n1 → 0 ≤ l1 j ∧ l1 j < (n2 : Int) := by rw [← hs1]; exact allB_iff
  have HI0 := Lib.hid hi0; have HI1 := Lib.hid hi1
  have HK := Lib.hid (fun w' (h : Below (D + 1) w1 w') => (hk1.below h (Nat.lt_succ_self D)).cells)
  have HS0 := Lib.hid (fun w' (h : Below (D + 1) w1 w') => allb12 q0 n0 c0 l0 wd s0 hi0 (by omega) w' (hr0.below (hD.symm ▸ hb1.trans (h.mono (Nat.le_succ D)))))
  have HS1 := Lib.hid (fun w' (h : Below (D + 1) w1 w') => allb12 q1 n1 c1 l1 (n2 : Int) s1 hi1 (by omega) w' (hr1.below (hD.symm ▸ hb1.trans (h.mono (Nat.le_succ D)))))
  have HW1 := Lib.hid hw1; have HZ := Lib.hid hz1
  have HF : Hid (∀ w', Below (D + 1) w1 w' → Below w.heap.size w w') := Lib.hid fun w' h => by rw [hD]; exact hb1.trans (h.mono (by omega))
  have b0 : (0 : Int) ≤ (n0 : Int) := by omega
  have b1 : (0 : Int) ≤ (n1 : Int) := by omega
  have b2 : (0 : Int) ≤ (n2 : Int) := by omega
  have b3 : (n2 : Int) ≤ 1000 := by omega
  have d5 : decide (4096 < (n2 : Int)) = false := decide_eq_false (by omega)
  have HP := Lib.hid hP
  clear hw1 hk1 hr0 hr1 hb1 hs0 hs1 hi0 hi1 hz1
  by_cases t3 : 1 ≤ n2
  case neg =>
    have e3 : decide ((n2 : Int) < 1) = true := decide_eq_true (by omega)
    have HN : Hid (r = false) := Lib.hid (HNO.out fun h => by
      unfold rgD at h
      simp only at h
      obtain ⟨g0, g1, g2, g3, g4, g5, g6, g7, g8, g9⟩ := h
      omega)
    go_enter Try.func18, Try.ntmps18
    go_upto_region 1 with (fail)
    rw [HW1.out]
    clear hD
    obtain ⟨z0, z1, z2, z3, z4⟩ := HK.out _ (Below.refl _ _)
    go_wp2_with fail
    go_returns
    exact ⟨by rw [HN.out] <;> rfl, HF.out _ (Below.refl _ _)⟩
  have e3 : decide ((n2 : Int) < 1) = false := decide_eq_false (by omega)
  by_cases t1 : 1 ≤ wd
  case neg =>
    have e1 : decide (wd < 1) = true := decide_eq_true (by omega)
    have HN : Hid (r = false) := Lib.hid (HNO.out fun h => by
      unfold rgD at h
      simp only at h
      obtain ⟨g0, g1, g2, g3, g4, g5, g6, g7, g8, g9⟩ := h
      omega)
    go_enter Try.func18, Try.ntmps18
    go_upto_region 1 with (fail)
    rw [HW1.out]
    clear hD
    obtain ⟨z0, z1, z2, z3, z4⟩ := HK.out _ (Below.refl _ _)
    go_wp2_with fail
    go_returns
    exact ⟨by rw [HN.out] <;> rfl, HF.out _ (Below.refl _ _)⟩
  have e1 : decide (wd < 1) = false := decide_eq_false (by omega)
  by_cases t2 : wd ≤ 259
  case neg =>
    have e2 : decide (259 < wd) = true := decide_eq_true (by omega)
    have HN : Hid (r = false) := Lib.hid (HNO.out fun h => by
      unfold rgD at h
      simp only at h
      obtain ⟨g0, g1, g2, g3, g4, g5, g6, g7, g8, g9⟩ := h
      omega)
    go_enter Try.func18, Try.ntmps18
    go_upto_region 1 with (fail)
    rw [HW1.out]
    clear hD
    obtain ⟨z0, z1, z2, z3, z4⟩ := HK.out _ (Below.refl _ _)
    go_wp2_with fail
    go_returns
    exact ⟨by rw [HN.out] <;> rfl, HF.out _ (Below.refl _ _)⟩
  have e2 : decide (259 < wd) = false := decide_eq_false (by omega)
  have hPl : 0 ≤ P ∧ P ≤ 259000 := by
    rw [← hP]
    exact ⟨Int.mul_nonneg b2 (by omega), Int.le_trans (Int.mul_le_mul_of_nonneg_right b3 (by omega)) (by omega)⟩
  have hPw : IntKind.i64.wrap P = P := by rw [IntKind.wrap_i64]; omega
  by_cases t0 : n0 = 259
  case neg =>
    have e0 : ((n0 : Int) == 259) = false := beq_eq_false_iff_ne.2 (by omega)
    have HN : Hid (r = false) := Lib.hid (HNO.out fun h => by
      unfold rgD at h
      simp only at h
      obtain ⟨g0, g1, g2, g3, g4, g5, g6, g7, g8, g9⟩ := h
      exact t0 g0)
    go_enter Try.func18, Try.ntmps18
    go_upto_region 1 with (fail)
    rw [HW1.out]
    clear hD
    obtain ⟨z0, z1, z2, z3, z4⟩ := HK.out _ (Below.refl _ _)
    go_wp2_with fail
    go_returns
    exact ⟨by rw [HN.out] <;> rfl, HF.out _ (Below.refl _ _)⟩
  have e0 : ((n0 : Int) == 259) = true := by simp [t0]
  have T0 := Lib.hid t0
  clear t0
  by_cases t4 : (n1 : Int) = P
  case neg =>
    have e4 : ((n1 : Int) == P) = false := beq_eq_false_iff_ne.2 t4
    have HN : Hid (r = false) := Lib.hid (HNO.out fun h => by
      unfold rgD at h
      simp only at h
      obtain ⟨g0, g1, g2, g3, g4, g5, g6, g7, g8, g9⟩ := h
      exact t4 (g5.trans HP.out))
    go_enter Try.func18, Try.ntmps18
    go_upto_region 1 with (fail)
    rw [HW1.out]
    clear hD
    obtain ⟨z0, z1, z2, z3, z4⟩ := HK.out _ (Below.refl _ _)
    go_wp2_with fail
    go_returns
    exact ⟨by rw [HN.out] <;> rfl, HF.out _ (Below.refl _ _)⟩
  have e4 : ((n1 : Int) == P) = true := by simp [t4]
  have T4 := Lib.hid t4
  clear t4
  cases s0
  case false =>
    have HN : Hid (r = false) := Lib.hid (HNO.out fun h => by
      unfold rgD at h
      simp only at h
      obtain ⟨g0, g1, g2, g3, g4, g5, g6, g7, g8, g9⟩ := h
      have := HI0.out.2 (fun j hj => g8 j (by have := T0.out; omega)); cases this)
    go_enter Try.func18, Try.ntmps18
    go_upto_region 1 with (fail)
    rw [HW1.out]
    clear hD
    obtain ⟨z0, z1, z2, z3, z4⟩ := HK.out _ (Below.refl _ _)
    go_wp2_with fail
    refine (HS0.out _ (Below.refl _ _)).mono ?_
    rintro e w2 ⟨rfl, hb2⟩
    have HB2 : Hid (Below (D + 1) w1 w2) := Lib.hid (HZ.out ▸ hb2)
    clear hb2 HS0 z0 z1 z2 z3 z4
    obtain ⟨z0, z1, z2, z3, z4⟩ := HK.out _ HB2.out
    go_wp2_with fail
    go_returns
    exact ⟨by rw [HN.out] <;> rfl, HF.out _ (HB2.out)⟩
  cases s1
  case false =>
    have HN : Hid (r = false) := Lib.hid (HNO.out fun h => by
      unfold rgD at h
      simp only at h
      obtain ⟨g0, g1, g2, g3, g4, g5, g6, g7, g8, g9⟩ := h
      have := HI1.out.2 g9; cases this)
    go_enter Try.func18, Try.ntmps18
    go_upto_region 1 with (fail)
    rw [HW1.out]
    clear hD
    obtain ⟨z0, z1, z2, z3, z4⟩ := HK.out _ (Below.refl _ _)
    go_wp2_with fail
    refine (HS0.out _ (Below.refl _ _)).mono ?_
    rintro e w2 ⟨rfl, hb2⟩
    have HB2 : Hid (Below (D + 1) w1 w2) := Lib.hid (HZ.out ▸ hb2)
    clear hb2 HS0 z0 z1 z2 z3 z4
    obtain ⟨z0, z1, z2, z3, z4⟩ := HK.out _ HB2.out
    go_wp2_with fail
    refine (HS1.out _ (HB2.out)).mono ?_
    rintro e w3 ⟨rfl, hb3⟩
    have HB3 : Hid (Below (D + 1) w1 w3) := Lib.hid (HB2.out.trans (hb3.mono (by have := HB2.out.size; have := HZ.out; omega)))
    clear hb3 HS1 z0 z1 z2 z3 z4
    obtain ⟨z0, z1, z2, z3, z4⟩ := HK.out _ HB3.out
    go_wp2_with fail
    go_returns
    exact ⟨by rw [HN.out] <;> rfl, HF.out _ (HB3.out)⟩
  cases hb : (decide (0 ≤ st) && decide (st < (n2 : Int)))
  case false =>
    have HBw := Lib.hid (below12 st (n2 : Int) false hb)
    have HN : Hid (r = false) := Lib.hid (HNO.out fun h => by
      unfold rgD at h
      simp only at h
      obtain ⟨g0, g1, g2, g3, g4, g5, g6, g7, g8, g9⟩ := h
      rw [decide_eq_true g6, decide_eq_true g7] at hb; cases hb)
    clear hb
    go_enter Try.func18, Try.ntmps18
    go_upto_region 1 with (fail)
    rw [HW1.out]
    clear hD
    obtain ⟨z0, z1, z2, z3, z4⟩ := HK.out _ (Below.refl _ _)
    go_wp2_with fail
    refine (HS0.out _ (Below.refl _ _)).mono ?_
    rintro e w2 ⟨rfl, hb2⟩
    have HB2 : Hid (Below (D + 1) w1 w2) := Lib.hid (HZ.out ▸ hb2)
    clear hb2 HS0 z0 z1 z2 z3 z4
    obtain ⟨z0, z1, z2, z3, z4⟩ := HK.out _ HB2.out
    go_wp2_with fail
    refine (HS1.out _ (HB2.out)).mono ?_
    rintro e w3 ⟨rfl, hb3⟩
    have HB3 : Hid (Below (D + 1) w1 w3) := Lib.hid (HB2.out.trans (hb3.mono (by have := HB2.out.size; have := HZ.out; omega)))
    clear hb3 HS1 z0 z1 z2 z3 z4
    obtain ⟨z0, z1, z2, z3, z4⟩ := HK.out _ HB3.out
    go_wp2_with fail
    refine (HBw.out _).mono ?_
    rintro e w4 ⟨rfl, rfl⟩
    go_wp2_with fail
    go_returns
    exact ⟨by rw [HN.out] <;> rfl, HF.out _ (HB3.out)⟩
  case true =>
    have HBw := Lib.hid (below12 st (n2 : Int) true hb)
    have HN : Hid (r = true) := Lib.hid (HYES.out (by
      simp only [Bool.and_eq_true, decide_eq_true_eq] at hb
      refine ⟨T0.out, t1, t2, t3, show n2 ≤ 4096 by omega, T4.out.trans HP.out.symm, hb.1, hb.2, fun j hj => HI0.out.1 rfl j (by have := T0.out; omega), HI1.out.1 rfl⟩))
    clear hb
    go_enter Try.func18, Try.ntmps18
    go_upto_region 1 with (fail)
    rw [HW1.out]
    clear hD
    obtain ⟨z0, z1, z2, z3, z4⟩ := HK.out _ (Below.refl _ _)
    go_wp2_with fail
    refine (HS0.out _ (Below.refl _ _)).mono ?_
    rintro e w2 ⟨rfl, hb2⟩
    have HB2 : Hid (Below (D + 1) w1 w2) := Lib.hid (HZ.out ▸ hb2)
    clear hb2 HS0 z0 z1 z2 z3 z4
    obtain ⟨z0, z1, z2, z3, z4⟩ := HK.out _ HB2.out
    go_wp2_with fail
    refine (HS1.out _ (HB2.out)).mono ?_
    rintro e w3 ⟨rfl, hb3⟩
    have HB3 : Hid (Below (D + 1) w1 w3) := Lib.hid (HB2.out.trans (hb3.mono (by have := HB2.out.size; have := HZ.out; omega)))
    clear hb3 HS1 z0 z1 z2 z3 z4
    obtain ⟨z0, z1, z2, z3, z4⟩ := HK.out _ HB3.out
    go_wp2_with fail
    refine (HBw.out _).mono ?_
    rintro e w4 ⟨rfl, rfl⟩
    go_wp2_with fail
    go_returns
    exact ⟨by rw [HN.out] <;> rfl, HF.out _ (HB3.out)⟩
end Go.Proofs.Ytefpoapbodbenaa
