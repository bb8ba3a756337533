/-
  The walk of First: where a part begins.
-/
import Derived.Test.YtligbocnakbabaaArg
namespace Go.Proofs.Ytligbocnakbabaa
open Go.RowKit

theorem first_out (p : Option Addr) (n cap : Nat) (i : Int) (h : i < 0 ∨ (n : Int) ≤ i) (w : World) :
    Calls Try.prog 16 #[.slice p n cap, .int .i64 i] w fun e w' => e = .returned (.int .i64 (-1)) ∧ w = w' := by
  by_cases h1 : (n : Int) ≤ i
  · clear h
    go_enter Try.func16, Try.ntmps16
    go_wp2
    go_ret
    exact ⟨rfl, rfl⟩
  · have h0 : ¬ (0 ≤ i) := by omega
    clear h
    go_enter Try.func16, Try.ntmps16
    go_wp2
    refine wp_loop_rounds 1 ?_
    rw [rounds_succ]; go_wp2
    go_ret
    exact ⟨rfl, rfl⟩

/-- What holds at the loop's head. -/
def fstRel (N : Nat → Nd) (i : Nat) (mi at_ : Value) : Prop :=
  (∃ p m : Nat, p ≤ i ∧ m ≤ 2 * (i - p) ∧ mi = .int .i64 ((m : Int) + 1) ∧ at_ = .int .i64 (p : Int) ∧ Hid (fst N i = back N (p + 1) (m + 1))) ∨ (at_ = .int .i64 (-1) ∧ Hid (fst N i = -1))
theorem fst_rel {N : Nat → Nd} {i p m : Nat} {x y : Int} (hp : p ≤ i) (hm : m + 1 ≤ 2 * (i - p) + 2) (hx : x = (m : Int) + 1) (hy : y = (p : Int) - 1) (h : fst N i = back N p (m + 1)) : fstRel N i (.int .i64 x) (.int .i64 y) := by
  subst hx hy
  cases p with
  | zero => exact .inr ⟨rfl, Lib.hid (by rw [h, back_none])⟩
  | succ p => exact .inl ⟨p, m, by omega, by omega, rfl, by rw [show ((p + 1 : Nat) : Int) - 1 = p by omega], Lib.hid h⟩

set_option maxHeartbeats 1000000 in
theorem first_in (b off n cap i : Nat) (N : Nat → Nd) (hn : n ≤ 1000) (hi : i < n) (w : World) (hr : rdN w b off n N) :
    Calls Try.prog 16 #[.slice (some ⟨b, off, none⟩) n cap, .int .i64 (i : Int)] w fun e w' => e = .returned (.int .i64 (fst N i)) ∧ w = w' := by
  have HR := Lib.hid hr
  have d0 : decide (n ≤ i) = false := decide_eq_false (by omega)
  clear hr
  go_enter Try.func16, Try.ntmps16
  go_wp2
  go_loop [5, 6] (fun mi at_ => fstRel N i mi at_) (fun _ at_ => (intOf at_ + 1).toNat)
  case atStart => exact .inl ⟨i, 0, Nat.le_refl _, Nat.zero_le _, rfl, rfl, Lib.hid rfl⟩
  case round =>
    rcases hrel with ⟨p, m, hp, hm, rfl, rfl, HF⟩ | ⟨rfl, HF⟩
    · have hc := (HR.out p (by omega)).2.1
      have h0 : (0 : Int) ≤ (p : Int) := by omega
      have h1 : (p : Int) < (n : Int) := by omega
      rcases ar_cases (N p).k with ⟨ha, -⟩ | ⟨ha, -⟩ | ⟨ha, -⟩ | ⟨ha, -⟩
      · have HA := Lib.hid ha
        have HB : Hid (fst N i = back N p (m + 0)) := Lib.hid (by rw [HF.out, back_succ, if_neg (by omega), ha]; rfl)
        clear ha HF
        rcases m with _ | m
        · go_wp2_with (go_at_call 11; refine (args_any _ _).mono ?_; rintro e w' ⟨rfl, rfl⟩; rw [HA.out])
          go_ret
          exact ⟨arI (by rw [HB.out, back_zero]), rfl⟩
        · go_wp2_with (go_at_call 11; refine (args_any _ _).mono ?_; rintro e w' ⟨rfl, rfl⟩; rw [HA.out])
          go_round
          case rel => exact fst_rel hp (by omega) (by first | rfl | omega) (by first | rfl | omega) HB.out
          case measure => simp [intOf]
      · have HA := Lib.hid ha
        have HB : Hid (fst N i = back N p (m + 1)) := Lib.hid (by rw [HF.out, back_succ, if_neg (by omega), ha]; rfl)
        clear ha HF
        have t0 : ((m : Int) + 1 == 0) = false := beq_eq_false_iff_ne.2 (by omega)
        go_wp2_with (go_at_call 11; refine (args_any _ _).mono ?_; rintro e w' ⟨rfl, rfl⟩; rw [HA.out])
        go_round
        case rel => exact fst_rel hp (by omega) (by first | rfl | omega) (by first | rfl | omega) HB.out
        case measure => simp [intOf]
      · have HA := Lib.hid ha
        have HB : Hid (fst N i = back N p (m + 2)) := Lib.hid (by rw [HF.out, back_succ, if_neg (by omega), ha]; rfl)
        clear ha HF
        have t0 : ((m : Int) + 1 + 1 == 0) = false := beq_eq_false_iff_ne.2 (by omega)
        go_wp2_with (go_at_call 11; refine (args_any _ _).mono ?_; rintro e w' ⟨rfl, rfl⟩; rw [HA.out])
        go_round
        case rel => exact fst_rel hp (by omega) (by first | rfl | omega) (by first | rfl | omega) HB.out
        case measure => simp [intOf]
      · have HA := Lib.hid ha
        clear ha
        go_wp2_with (go_at_call 11; refine (args_any _ _).mono ?_; rintro e w' ⟨rfl, rfl⟩; rw [HA.out])
        go_ret
        exact ⟨arI (by rw [HF.out, back_succ, if_pos (by rw [HA.out]; decide)]), rfl⟩
    · go_wp2
      go_ret
      exact ⟨arI (by rw [HF.out]), rfl⟩
end Go.Proofs.Ytligbocnakbabaa
