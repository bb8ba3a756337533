/-
  The walk of the fifth reference's Wrong.
-/
import Derived.Test.YtefpoapbodbenaaPk1
import Derived.Deep.Cut
import Derived.Deep.CutRange
namespace Go.Proofs.Ytefpoapbodbenaa
open Go.RowKit

/-- Does the token ahead end a part? -/
def ahead (T : Nat → Tn) (i : Nat) : Bool := decide (0 < i) && endsP (T (i - 1)).k
end Go.Proofs.Ytefpoapbodbenaa
