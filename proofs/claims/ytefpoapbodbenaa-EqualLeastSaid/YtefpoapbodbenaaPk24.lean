/-
  The walk of the law DfaRuns, over whatever Right, Go, Run and Accepts are that do as the page says.
-/
import Derived.Test.YtefpoapbodbenaaPk14
import Derived.Test.YtefpoapbodbenaaPk23
namespace Go.Proofs.Ytefpoapbodbenaa
open Go.RowKit

theorem rnD_lt (x : Da) (s : Int) (l : Nat → Int) (k : Nat) : 0 ≤ rnD x s l k → rnD x s l k < x.n2 := by
  unfold rnD
  split
  · rename_i h
    have key : ∀ k t, rwD x s.toNat l k = some t → t < x.n2 := by
      intro k
      induction k with
      | zero => intro t e; cases e; omega
      | succ k ih =>
        intro t e
        cases e2 : rwD x s.toNat l k with
        | none => rw [rwD_none e2 (k + 1) (Nat.le_succ k)] at e; cases e
        | some u =>
          by_cases hl : 0 ≤ l k ∧ l k ≤ 258
          · rw [rwD_go e2 hl] at e
            cases e
            exact (goD_at (rgB_iff.1 h.1) (ih u e2) (by omega)).2.2
          · rw [rwD_stop e2 hl (Nat.lt_succ_self k)] at e; cases e
    cases e : rwD x s.toNat l k with
    | none => intro h; simp at h
    | some t => intro _; have := key k t e; simp only; omega
  · intro h; omega
theorem acD_is (x : Da) (l : Nat → Int) (k : Nat) : (rnD x x.st l k < 0 → acD x l k = false) ∧ (0 ≤ rnD x x.st l k → acD x l k = x.T (rnD x x.st l k).toNat) := by
  unfold acD
  constructor
  · intro h
    simp
    omega
  · intro h
    cases e : x.T (rnD x x.st l k).toNat <;> simp [h]
theorem rnD_one (x : Da) (s : Int) (l : Nat → Int) : rnD x s (fun _ => l 0) 1 = rnD x s l 1 := rfl

end Go.Proofs.Ytefpoapbodbenaa
