/-
  The walk of the ninth reference's Close.
-/
import Derived.Test.YtefpoapbodbenaaPk4
namespace Go.Proofs.Ytefpoapbodbenaa
open Go.RowKit

section
variable {S : Nat → Sd} {sym : Int} {T : Nat → Bool} {i : Nat}
theorem up1_off (hT : T i = false) : up1 S sym T i = T := by unfold up1; rw [if_neg (by rw [hT]; decide)]
theorem up1_none (hT : T i = true) (h3 : (S i).k ≠ 3) (hA : eA S sym i = false) : up1 S sym T i = T := by unfold up1; rw [if_pos hT, if_neg h3, if_neg (by rw [hA]; decide)]
theorem up1_A (hT : T i = true) (h3 : (S i).k ≠ 3) (hA : eA S sym i = true) : up1 S sym T i = putT T (S i).A.toNat true := by unfold up1; rw [if_pos hT, if_neg h3, if_pos hA]
theorem up1_AB (hT : T i = true) (h3 : (S i).k = 3) : up1 S sym T i = putT (putT T (S i).A.toNat true) (S i).B.toNat true := by unfold up1; rw [if_pos hT, if_pos h3]
end

end Go.Proofs.Ytefpoapbodbenaa
