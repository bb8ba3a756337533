/-
  The walk of the law MiniLeast, over whatever Of (and Blocks) are that do as the page says.
-/
import Derived.Test.YtefpoapbodbenaaPk35
import Derived.Test.YtefpoapbodbenaaPk9
import Derived.Test.YtefpoapbodbenaaPk23
namespace Go.Proofs.Ytefpoapbodbenaa
open Go.RowKit

theorem rwD_run {x : Da} (s : Nat) (l : Nat → Int) : ∀ k, (∀ j, j < k → 0 ≤ l j ∧ l j < 259) → rwD x s l k = some (runW x s ((List.range k).map fun j => (l j).toNat))
  | 0, _ => rfl
  | k + 1, h => by
    rw [rwD_go (rwD_run s l k fun j hj => h j (by omega)) (by have := h k (by omega); omega), List.range_succ, List.map_append, runW_append]
    rfl
theorem rwD_bad13 {x : Da} {s : Nat} {l : Nat → Int} {j k : Nat} (hj : j < k) (hl : ¬ (0 ≤ l j ∧ l j < 259)) : rwD x s l k = none := by
  cases h : rwD x s l j with
  | none => exact rwD_none h k (by omega)
  | some t => exact rwD_stop h (by omega) hj
/-- What is accepted, by what is left of words. -/
theorem acD_ln {x : Da} (hx : rgD x) (l : Nat → Int) (k : Nat) : acD x l k = true ↔ (∀ j, j < k → 0 ≤ l j ∧ l j < 259) ∧ lnW x x.st.toNat ((List.range k).map fun j => (l j).toNat) := by
  have hs : 0 ≤ x.st ∧ x.st < x.n2 := ⟨hx.2.2.2.2.2.2.1, hx.2.2.2.2.2.2.2.1⟩
  have hr : rnD x x.st l k = match rwD x x.st.toNat l k with | none => -1 | some t => (t : Int) := by
    unfold rnD
    rw [if_pos ⟨rgB_yes hx, hs.1, hs.2⟩] <;> rfl
  unfold acD
  rw [@decide_eq_true_iff _ (Classical.propDecidable _), hr]
  by_cases h : ∀ j, j < k → 0 ≤ l j ∧ l j < 259
  · rw [rwD_run _ l k h]
    constructor
    · rintro ⟨-, h2⟩
      refine ⟨h, fun y hy => ?_, by simpa using h2⟩
      obtain ⟨j, hj, rfl⟩ := List.mem_map.1 hy
      have := h j (List.mem_range.1 hj)
      omega
    · rintro ⟨-, -, h2⟩
      exact ⟨Int.natCast_nonneg _, by simpa using h2⟩
  · have : ∃ j, j < k ∧ ¬ (0 ≤ l j ∧ l j < 259) := Classical.byContradiction fun hn => h fun j hj => Classical.byContradiction fun g => hn ⟨j, hj, g⟩
    obtain ⟨j, h1, h2⟩ := this
    rw [rwD_bad13 h1 h2]
    exact ⟨fun g => absurd g.1 (by decide), fun g => absurd (g.1 j h1) h2⟩
end Go.Proofs.Ytefpoapbodbenaa
