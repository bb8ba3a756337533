/-
  The walk of the fifth reference's Wrong.
-/
import Derived.Test.YtefpoapbodbenaaPk1
import Derived.Deep.Cut
import Derived.Deep.CutRange
namespace Go.Proofs.Ytefpoapbodbenaa
open Go.RowKit

/-- Does the token ahead end a part? -/
def ahead (T : Nat → Tn) (i : Nat) : Bool := decide (0 < i) && endsP (T (i - 1)).k
def wrRel (T : Nat → Tn) (n : Nat) (R : Int × Int × Nat) (w : World) (o x : Value) (wr : World) : Prop :=
  ∃ (i u op : Nat), x = .int .i64 (i : Int) ∧ o = .int .i64 (op : Int) ∧ i ≤ n ∧ op ≤ 20 ∧ Below w.heap.size w wr ∧ Hid (wrF T n u i op = R ∧ n + 1 ≤ u + i)

end Go.Proofs.Ytefpoapbodbenaa
