/-
  The walks of bounded, fault and check: the code's check of tokens.
-/
import Derived.Test.YtiahgcgpakgeeaaGreatDoorPk41
namespace Go.Proofs.YtiahgcgpakgeeaaGreatDoor
open Go.RowKit

set_option maxRecDepth 100000 in
set_option maxHeartbeats 1000000 in
theorem bounded_any (t : Tn) (w : World) :
    Calls Tryz.prog 49 #[.int .i64 t.lo, .int .i64 t.hi] w fun e w' => e = .returned (.bool (!badRep t)) ∧ w' = w := by
  obtain ⟨R, hR⟩ : ∃ R, (!badRep t) = R := ⟨_, rfl⟩
  rw [hR]
  unfold badRep at hR
  obtain ⟨k, p, a, b, c, d, lo, hi⟩ := t
  simp only at hR ⊢
  have HR := Lib.hid hR
  clear hR
  by_cases h0 : lo < 0
  · have d0 : decide (lo < 0) = true := decide_eq_true h0
    have HE : Hid (R = false) := Lib.hid (by rw [← HR.out, d0]; rfl)
    clear HR
    go_enter Tryz.func49, Tryz.ntmps49
    go_wp2
    go_returns
    exact ⟨by rw [HE.out] <;> rfl, rfl⟩
  have d0 : decide (lo < 0) = false := decide_eq_false h0
  by_cases h1 : 32 < lo
  · have d1 : decide (32 < lo) = true := decide_eq_true h1
    have HE : Hid (R = false) := Lib.hid (by rw [← HR.out, d0, d1]; rfl)
    clear HR
    go_enter Tryz.func49, Tryz.ntmps49
    go_wp2
    go_returns
    exact ⟨by rw [HE.out] <;> rfl, rfl⟩
  have d1 : decide (32 < lo) = false := decide_eq_false h1
  by_cases h2 : hi = -1
  · subst h2
    have HE : Hid (R = true) := Lib.hid (by rw [← HR.out, d0, d1]; rfl)
    clear HR
    go_enter Tryz.func49, Tryz.ntmps49
    go_wp2
    go_returns
    exact ⟨by rw [HE.out] <;> rfl, rfl⟩
  have d2 : (hi == -1) = false := beq_eq_false_iff_ne.2 h2
  have d2' : (hi != -1) = true := by simp [h2]
  by_cases h3 : hi < lo
  · have d3 : decide (hi < lo) = true := decide_eq_true h3
    have d4 : decide (lo ≤ hi) = false := decide_eq_false (by omega)
    have HE : Hid (R = false) := Lib.hid (by rw [← HR.out, d0, d1, d2', d3]; rfl)
    clear HR
    go_enter Tryz.func49, Tryz.ntmps49
    go_wp2
    go_returns
    exact ⟨by rw [HE.out] <;> rfl, rfl⟩
  have d3 : decide (hi < lo) = false := decide_eq_false h3
  have d4 : decide (lo ≤ hi) = true := decide_eq_true (by omega)
  by_cases h5 : 32 < hi
  · have d5 : decide (32 < hi) = true := decide_eq_true h5
    have d6 : decide (hi ≤ 32) = false := decide_eq_false (by omega)
    have HE : Hid (R = false) := Lib.hid (by rw [← HR.out, d0, d1, d2', d3, d5]; rfl)
    clear HR
    go_enter Tryz.func49, Tryz.ntmps49
    go_wp2
    go_returns
    exact ⟨by rw [HE.out] <;> rfl, rfl⟩
  have d5 : decide (32 < hi) = false := decide_eq_false h5
  have d6 : decide (hi ≤ 32) = true := decide_eq_true (by omega)
  have HE : Hid (R = true) := Lib.hid (by rw [← HR.out, d0, d1, d2', d3, d5]; rfl)
  clear HR
  go_enter Tryz.func49, Tryz.ntmps49
  go_wp2
  go_returns
  exact ⟨by rw [HE.out] <;> rfl, rfl⟩

set_option maxRecDepth 100000 in
set_option maxHeartbeats 2000000 in
theorem fault_any (t : Tn) (A : Int) (o : Nat) (w : World) :
    Calls Tryz.prog 30 #[tnv t, .int .i64 A, .int .i64 (o : Int)] w fun e w' => e = .returned (.int .i64 (faF t A o)) ∧ Below w.heap.size w w' := by
  have HQ := Lib.hid (bounded_any t)
  obtain ⟨R, hR⟩ : ∃ R, faF t A o = R := ⟨_, rfl⟩
  rw [hR]
  obtain ⟨BD, hBD⟩ : ∃ BD, badRep t = BD := ⟨_, rfl⟩
  unfold faF at hR
  rw [hBD] at hR HQ
  unfold tnv
  obtain ⟨k, p, a, b, c, d, lo, hi⟩ := t
  simp only at hR HQ ⊢
  have HR := Lib.hid hR
  clear hR hBD
  have hw : Below w.heap.size w (w.alloc (.cells #[.int .i64 k, .int .i64 p, .int .u64 a, .int .u64 b, .int .u64 c, .int .u64 d, .int .i64 lo, .int .i64 hi] 40)) := (Below.refl _ _).alloc (Nat.le_refl _) _
  have HW := Lib.hid hw
  clear hw
  by_cases h1 : k = 1
  · subst h1
    have HE : Hid (R = 0) := Lib.hid (by rw [← HR.out, if_pos (by omega)])
    clear HR HQ
    go_enter Tryz.func30, Tryz.ntmps30
    go_wp2
    go_returns
    exact ⟨by rw [HE.out] <;> rfl, HW.out⟩
  by_cases h2 : k = 2
  · subst h2
    have HE : Hid (R = 0) := Lib.hid (by rw [← HR.out, if_pos (by omega)])
    clear HR HQ
    go_enter Tryz.func30, Tryz.ntmps30
    go_wp2
    go_returns
    exact ⟨by rw [HE.out] <;> rfl, HW.out⟩
  by_cases h6 : k = 6
  · subst h6
    have HE : Hid (R = 0) := Lib.hid (by rw [← HR.out, if_pos (by omega)])
    clear HR HQ
    go_enter Tryz.func30, Tryz.ntmps30
    go_wp2
    go_returns
    exact ⟨by rw [HE.out] <;> rfl, HW.out⟩
  by_cases h7 : k = 7
  · subst h7
    have HE : Hid (R = 0) := Lib.hid (by rw [← HR.out, if_pos (by omega)])
    clear HR HQ
    go_enter Tryz.func30, Tryz.ntmps30
    go_wp2
    go_returns
    exact ⟨by rw [HE.out] <;> rfl, HW.out⟩
  by_cases h3 : k = 3
  · subst h3
    by_cases h20 : o = 20
    · subst h20
      have HE : Hid (R = 4) := Lib.hid (by rw [← HR.out]; rfl)
      clear HR HQ h1 h2 h6 h7
      go_enter Tryz.func30, Tryz.ntmps30
      go_wp2
      go_returns
      exact ⟨by rw [HE.out] <;> rfl, HW.out⟩
    · have e20 : ((o : Int) == 20) = false := beq_eq_false_iff_ne.2 (by omega)
      have HE : Hid (R = 0) := Lib.hid (by rw [← HR.out, if_neg (by omega), if_pos rfl, if_neg h20])
      clear HR HQ h1 h2 h6 h7 h20
      go_enter Tryz.func30, Tryz.ntmps30
      go_wp2
      go_returns
      exact ⟨by rw [HE.out] <;> rfl, HW.out⟩
  by_cases h4 : k = 4
  · subst h4
    by_cases h20 : o = 0
    · subst h20
      have HE : Hid (R = 3) := Lib.hid (by rw [← HR.out]; rfl)
      clear HR HQ h1 h2 h6 h7 h3
      go_enter Tryz.func30, Tryz.ntmps30
      go_wp2
      go_returns
      exact ⟨by rw [HE.out] <;> rfl, HW.out⟩
    · have e20 : ((o : Int) == 0) = false := beq_eq_false_iff_ne.2 (by omega)
      have HE : Hid (R = 0) := Lib.hid (by rw [← HR.out, if_neg (by omega), if_neg (by omega), if_pos rfl, if_neg h20])
      clear HR HQ h1 h2 h6 h7 h20 h3
      go_enter Tryz.func30, Tryz.ntmps30
      go_wp2
      go_returns
      exact ⟨by rw [HE.out] <;> rfl, HW.out⟩
  by_cases h5 : k = 5
  · subst h5
    have HR5 : Hid ((if BD = true then 9 else if A = 3 ∨ A = 2 then 3 else 0) = R) := Lib.hid (by rw [← HR.out]; rfl)
    clear HR h1 h2 h6 h7 h3 h4
    cases BD
    · simp only [Bool.not_false] at HQ
      by_cases a3 : A = 3
      · subst a3
        have HE : Hid (R = 3) := Lib.hid (by rw [← HR5.out]; rfl)
        clear HR5
        go_enter Tryz.func30, Tryz.ntmps30
        go_wp2_with fail
        refine (HQ.out _).mono ?_
        rintro e1 w1 ⟨rfl, rfl⟩
        go_wp2
        go_returns
        exact ⟨by rw [HE.out] <;> rfl, HW.out⟩
      have e3 : (A == 3) = false := beq_eq_false_iff_ne.2 a3
      by_cases a2 : A = 2
      · subst a2
        have HE : Hid (R = 3) := Lib.hid (by rw [← HR5.out]; rfl)
        clear HR5
        go_enter Tryz.func30, Tryz.ntmps30
        go_wp2_with fail
        refine (HQ.out _).mono ?_
        rintro e1 w1 ⟨rfl, rfl⟩
        go_wp2
        go_returns
        exact ⟨by rw [HE.out] <;> rfl, HW.out⟩
      have e2 : (A == 2) = false := beq_eq_false_iff_ne.2 a2
      have HE : Hid (R = 0) := Lib.hid (by rw [← HR5.out, if_neg (by simp), if_neg (by omega)])
      clear HR5 a2 a3
      go_enter Tryz.func30, Tryz.ntmps30
      go_wp2_with fail
      refine (HQ.out _).mono ?_
      rintro e1 w1 ⟨rfl, rfl⟩
      go_wp2
      go_returns
      exact ⟨by rw [HE.out] <;> rfl, HW.out⟩
    · simp only [Bool.not_true] at HQ
      have HE : Hid (R = 9) := Lib.hid (by rw [← HR5.out, if_pos rfl])
      clear HR5
      go_enter Tryz.func30, Tryz.ntmps30
      go_wp2_with fail
      refine (HQ.out _).mono ?_
      rintro e1 w1 ⟨rfl, rfl⟩
      go_wp2
      go_returns
      exact ⟨by rw [HE.out] <;> rfl, HW.out⟩
  have k1 : (k == 1) = false := beq_eq_false_iff_ne.2 h1
  have k2 : (k == 2) = false := beq_eq_false_iff_ne.2 h2
  have k3 : (k == 3) = false := beq_eq_false_iff_ne.2 h3
  have k4 : (k == 4) = false := beq_eq_false_iff_ne.2 h4
  have k5 : (k == 5) = false := beq_eq_false_iff_ne.2 h5
  have k6 : (k == 6) = false := beq_eq_false_iff_ne.2 h6
  have k7 : (k == 7) = false := beq_eq_false_iff_ne.2 h7
  have HE : Hid (R = 9) := Lib.hid (by rw [← HR.out, if_neg (by omega), if_neg (by omega), if_neg (by omega), if_neg (by omega)])
  clear HR HQ h1 h2 h3 h4 h5 h6 h7
  go_enter Tryz.func30, Tryz.ntmps30
  go_wp2
  go_returns
  exact ⟨by rw [HE.out] <;> rfl, HW.out⟩
end Go.Proofs.YtiahgcgpakgeeaaGreatDoor
