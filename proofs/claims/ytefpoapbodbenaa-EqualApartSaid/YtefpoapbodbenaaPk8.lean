/-
  The walk of the ninth reference's Right.
-/
import Derived.Test.YtefpoapbodbenaaPk4
namespace Go.Proofs.Ytefpoapbodbenaa
open Go.RowKit

/-- May a state be, among m? -/
def okQ (S : Nat → Sd) (m q : Nat) : Prop := (1 ≤ (S q).k ∧ (S q).k ≤ 6 ∧ 0 ≤ (S q).A ∧ (S q).A < m ∧ 0 ≤ (S q).B ∧ (S q).B < m) ∧ ((S q).k = 1 ∨ ((S q).a = 0 ∧ (S q).b = 0 ∧ (S q).c = 0 ∧ (S q).d = 0)) ∧ ((S q).k = 3 ∨ (S q).B = 0) ∧ ((S q).k = 6 → (S q).A = 0)
instance (S : Nat → Sd) (m q : Nat) : Decidable (okQ S m q) := by unfold okQ; infer_instance
def six (S : Nat → Sd) (q : Nat) : Bool := (S q).k == 6
/-- May an automaton be? -/
def rightP (S : Nat → Sd) (m : Nat) (st fin : Int) : Prop := (1 ≤ m ∧ m ≤ 600 ∧ 0 ≤ st ∧ st < m ∧ 0 ≤ fin ∧ fin < m) ∧ (∀ q, q < m → okQ S m q) ∧ cntT (six S) m = 1 ∧ (S fin.toNat).k = 6
instance (S : Nat → Sd) (m : Nat) (st fin : Int) : Decidable (rightP S m st fin) := by unfold rightP; infer_instance
end Go.Proofs.Ytefpoapbodbenaa
