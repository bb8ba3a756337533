/-
  The walks of within and fieldsFit: are a node's Set, Lo and Hi such as its kind lets be?
-/
import Derived.Test.YthmkjdpmpcjinaaPk22
namespace Go.Proofs.Ythmkjdpmpcjinaa
open Go.RowKit

/-- A node as a value. -/
@[reducible] def nv (x : Nd) : Value := .agg #[.int .i64 x.k, .int .u64 x.a, .int .u64 x.b, .int .u64 x.c, .int .u64 x.d, .int .i64 x.lo, .int .i64 x.hi]
theorem set_eq (a b c d : Int) (r : Bool) (h : (a == 0 && b == 0 && c == 0 && d == 0) = r) : ∀ w : World, (Op.equalIn 10000 40 (.agg #[.int .u64 a, .int .u64 b, .int .u64 c, .int .u64 d]) (.agg #[.int .u64 0, .int .u64 0, .int .u64 0, .int .u64 0])).run Try.prog w = .ok r w := fun w => by
  rw [← h]; exact eq_set_any 9998 a b c d 0 0 0 0 w

end Go.Proofs.Ythmkjdpmpcjinaa
