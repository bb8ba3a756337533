/-
  The walks of Args, the code's and the reference's.
-/
import Derived.Test.YtdhplphgackjaaaPk5
namespace Go.Proofs.Ytdhplphgackjaaa
open Go.RowKit

theorem arI {a b : Int} (h : a = b) : Ending.returned (.int .i64 a) = Ending.returned (.int .i64 b) := by rw [h]

theorem args_any (k : Int) (w : World) : Calls Try.prog 58 #[.int .i64 k] w fun e w' => e = .returned (.int .i64 (ar k)) ∧ w = w' := by
  rcases ar_cases k with ⟨h, h1⟩ | ⟨h, rfl⟩ | ⟨h, h1⟩ | ⟨h, h1, h2, h3, h4, h5, h6, h7⟩
  · rw [h]; clear h
    rcases h1 with rfl | rfl | rfl | rfl
    all_goals
      go_enter Try.func58, Try.ntmps58
      go_wp2
      go_ret
      exact ⟨rfl, rfl⟩
  · rw [h]; clear h
    go_enter Try.func58, Try.ntmps58
    go_wp2
    go_ret
    exact ⟨rfl, rfl⟩
  · rw [h]; clear h
    rcases h1 with rfl | rfl
    all_goals
      go_enter Try.func58, Try.ntmps58
      go_wp2
      go_ret
      exact ⟨rfl, rfl⟩
  · rw [h]; clear h
    have t1 : (k == 1) = false := beq_eq_false_iff_ne.2 h1
    have t2 : (k == 2) = false := beq_eq_false_iff_ne.2 h2
    have t3 : (k == 3) = false := beq_eq_false_iff_ne.2 h3
    have t4 : (k == 4) = false := beq_eq_false_iff_ne.2 h4
    have t5 : (k == 5) = false := beq_eq_false_iff_ne.2 h5
    have t6 : (k == 6) = false := beq_eq_false_iff_ne.2 h6
    have t7 : (k == 7) = false := beq_eq_false_iff_ne.2 h7
    clear h1 h2 h3 h4 h5 h6 h7
    go_enter Try.func58, Try.ntmps58
    go_wp2
    go_ret
    exact ⟨rfl, rfl⟩

theorem rargs_any (k : Int) (w : World) : Calls Try.prog 46 #[.int .i64 k] w fun e w' => e = .returned (.int .i64 (ar k)) ∧ Below w.heap.size w w' := by
  rcases ar_cases k with ⟨h, h1⟩ | ⟨h, rfl⟩ | ⟨h, h1⟩ | ⟨h, h1, h2, h3, h4, h5, h6, h7⟩
  · rw [h]; clear h
    rcases h1 with rfl | rfl | rfl | rfl
    all_goals
      go_enter Try.func46, Try.ntmps46
      go_wp2
      go_ret
      exact ⟨rfl, (Below.refl _ _).alloc (Nat.le_refl _) _⟩
  · rw [h]; clear h
    go_enter Try.func46, Try.ntmps46
    go_wp2
    go_ret
    exact ⟨rfl, (Below.refl _ _).alloc (Nat.le_refl _) _⟩
  · rw [h]; clear h
    rcases h1 with rfl | rfl
    all_goals
      go_enter Try.func46, Try.ntmps46
      go_wp2
      go_ret
      exact ⟨rfl, (Below.refl _ _).alloc (Nat.le_refl _) _⟩
  · rw [h]; clear h
    have hd : decide (k < 1) = true ∨ (decide (k < 1) = false ∧ decide (7 < k) = true) := by
      by_cases h : k < 1
      · exact .inl (decide_eq_true h)
      · exact .inr ⟨decide_eq_false h, decide_eq_true (by omega)⟩
    clear h1 h2 h3 h4 h5 h6 h7
    rcases hd with h1 | ⟨h1, h2⟩
    all_goals
      go_enter Try.func46, Try.ntmps46
      go_wp2
      go_ret
      exact ⟨rfl, (Below.refl _ _).alloc (Nat.le_refl _) _⟩
end Go.Proofs.Ytdhplphgackjaaa
