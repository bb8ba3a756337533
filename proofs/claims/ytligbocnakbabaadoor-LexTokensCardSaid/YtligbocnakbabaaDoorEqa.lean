/-
  Two sets are the same just if their words are.
-/
import Derived.Test.YtligbocnakbabaaDoorEq
namespace Go.Proofs.YtligbocnakbabaaDoor
open Go.RowKit

theorem eq_any' (d : Nat) (x0 x1 x2 x3 y0 y1 y2 y3 : Int) (w : World) :
    (Op.equalIn (d + 2) 33 (.agg #[.int .u64 x0, .int .u64 x1, .int .u64 x2, .int .u64 x3]) (.agg #[.int .u64 y0, .int .u64 y1, .int .u64 y2, .int .u64 y3])).run Tryd.prog w = .ok (x0 == y0 && x1 == y1 && x2 == y2 && x3 == y3) w := by
  have hs : ∀ w, (sizeOf 31).run Tryd.prog w = .ok 1 w := fun _ => by kernel_rfl
  have hp : ∀ (xs : Array Value) (i : Nat) (v : Value) (w : World), xs[i]? = some v → (part 31 xs i).run Tryd.prog w = .ok v w := by
    intro xs i v w hv
    simp [part, go_sem, hv, isAgg, run_underlying Tryd.underlying31]
  have e : ∀ (x y : Int) (w : World), (Op.equalIn (d + 1) 31 (.int .u64 x) (.int .u64 y)).run Tryd.prog w = .ok (x == y) w := fun x y w => by
    rw [run_equalIn_int w d 31 .u64 .u64 x y Tryd.underlying31]
  rw [show d + 2 = (d + 1) + 1 from rfl, Op.equalIn]
  simp only [Sem.run_bind, run_underlying Tryd.underlying33, Result.andThen_ok, hs, Std.Legacy.Range.forIn_eq_forIn_range', Std.Legacy.Range.size]
  by_cases h0 : x0 = y0 <;> by_cases h1 : x1 = y1 <;> by_cases h2 : x2 = y2 <;> by_cases h3 : x3 = y3 <;> simp [List.range', hp, e, h0, h1, h2, h3]
theorem eq_any (x0 x1 x2 x3 y0 y1 y2 y3 : Int) (w : World) :
    (Op.equalIn 10000 33 (.agg #[.int .u64 x0, .int .u64 x1, .int .u64 x2, .int .u64 x3]) (.agg #[.int .u64 y0, .int .u64 y1, .int .u64 y2, .int .u64 y3])).run Tryd.prog w = .ok (x0 == y0 && x1 == y1 && x2 == y2 && x3 == y3) w := eq_any' 9998 x0 x1 x2 x3 y0 y1 y2 y3 w
end Go.Proofs.YtligbocnakbabaaDoor
