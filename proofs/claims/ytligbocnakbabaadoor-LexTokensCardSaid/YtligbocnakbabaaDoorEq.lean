/-
  A set is the same as itself.
-/
import Derived.Test.YtligbocnakbabaaDoorBits
import Derived.Test.YtligbocnakbabaaDoorProg
import Derived.Laws.StructEq
import Derived.KernelRfl
namespace Go.Proofs.YtligbocnakbabaaDoor
open Go.RowKit
/-- A set is the same as itself. -/
theorem eq_set' (d : Nat) (x0 x1 x2 x3 : Int) (w : World) :
    (Op.equalIn (d + 2) 33 (.agg #[.int .u64 x0, .int .u64 x1, .int .u64 x2, .int .u64 x3]) (.agg #[.int .u64 x0, .int .u64 x1, .int .u64 x2, .int .u64 x3])).run Tryd.prog w = .ok true w := by
  have hs : ∀ w, (sizeOf 31).run Tryd.prog w = .ok 1 w := fun _ => by kernel_rfl
  have hp : ∀ (xs : Array Value) (i : Nat) (v : Value) (w : World), xs[i]? = some v → (part 31 xs i).run Tryd.prog w = .ok v w := by
    intro xs i v w hv
    simp [part, go_sem, hv, isAgg, run_underlying Tryd.underlying31]
  have e : ∀ (x : Int) (w : World), (Op.equalIn (d + 1) 31 (.int .u64 x) (.int .u64 x)).run Tryd.prog w = .ok true w := fun x w => by
    rw [run_equalIn_int w d 31 .u64 .u64 x x Tryd.underlying31]; simp
  rw [show d + 2 = (d + 1) + 1 from rfl, Op.equalIn]
  simp only [Sem.run_bind, run_underlying Tryd.underlying33, Result.andThen_ok, hs, Std.Legacy.Range.forIn_eq_forIn_range', Std.Legacy.Range.size]
  simp [List.range', hp, e]
theorem eq_set (x0 x1 x2 x3 : Int) (w : World) :
    (Op.equalIn 10000 33 (.agg #[.int .u64 x0, .int .u64 x1, .int .u64 x2, .int .u64 x3]) (.agg #[.int .u64 x0, .int .u64 x1, .int .u64 x2, .int .u64 x3])).run Tryd.prog w = .ok true w := eq_set' 9998 x0 x1 x2 x3 w

end Go.Proofs.YtligbocnakbabaaDoor
