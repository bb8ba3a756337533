/-
  A set is the same as itself.
  Two sets are the same just if their words are.
  A set with one byte more.
-/
import Derived.Test.YtiahgcgpakgeeaaDoorPk1
import Derived.Test.YtiahgcgpakgeeaaDoorProg
import Derived.Laws.StructEq
import Derived.KernelRfl
namespace Go.Proofs.YtiahgcgpakgeeaaDoor
open Go.RowKit
/-- A set is the same as itself. -/
theorem eq_set' (d : Nat) (x0 x1 x2 x3 : Int) (w : World) :
    (Op.equalIn (d + 2) 35 (.agg #[.int .u64 x0, .int .u64 x1, .int .u64 x2, .int .u64 x3]) (.agg #[.int .u64 x0, .int .u64 x1, .int .u64 x2, .int .u64 x3])).run Tryd.prog w = .ok true w := by
  have hs : ∀ w, (sizeOf 33).run Tryd.prog w = .ok 1 w := fun _ => by kernel_rfl
  have hp : ∀ (xs : Array Value) (i : Nat) (v : Value) (w : World), xs[i]? = some v → (part 33 xs i).run Tryd.prog w = .ok v w := by
    intro xs i v w hv
    simp [part, go_sem, hv, isAgg, run_underlying Tryd.underlying33]
  have e : ∀ (x : Int) (w : World), (Op.equalIn (d + 1) 33 (.int .u64 x) (.int .u64 x)).run Tryd.prog w = .ok true w := fun x w => by
    rw [run_equalIn_int w d 33 .u64 .u64 x x Tryd.underlying33]; simp
  rw [show d + 2 = (d + 1) + 1 from rfl, Op.equalIn]
  simp only [Sem.run_bind, run_underlying Tryd.underlying35, Result.andThen_ok, hs, Std.Legacy.Range.forIn_eq_forIn_range', Std.Legacy.Range.size]
  simp [List.range', hp, e]
theorem eq_set (x0 x1 x2 x3 : Int) (w : World) :
    (Op.equalIn 10000 35 (.agg #[.int .u64 x0, .int .u64 x1, .int .u64 x2, .int .u64 x3]) (.agg #[.int .u64 x0, .int .u64 x1, .int .u64 x2, .int .u64 x3])).run Tryd.prog w = .ok true w := eq_set' 9998 x0 x1 x2 x3 w

end Go.Proofs.YtiahgcgpakgeeaaDoor

namespace Go.Proofs.YtiahgcgpakgeeaaDoor
open Go.RowKit

theorem eq_any' (d : Nat) (x0 x1 x2 x3 y0 y1 y2 y3 : Int) (w : World) :
    (Op.equalIn (d + 2) 35 (.agg #[.int .u64 x0, .int .u64 x1, .int .u64 x2, .int .u64 x3]) (.agg #[.int .u64 y0, .int .u64 y1, .int .u64 y2, .int .u64 y3])).run Tryd.prog w = .ok (x0 == y0 && x1 == y1 && x2 == y2 && x3 == y3) w := by
  have hs : ∀ w, (sizeOf 33).run Tryd.prog w = .ok 1 w := fun _ => by kernel_rfl
  have hp : ∀ (xs : Array Value) (i : Nat) (v : Value) (w : World), xs[i]? = some v → (part 33 xs i).run Tryd.prog w = .ok v w := by
    intro xs i v w hv
    simp [part, go_sem, hv, isAgg, run_underlying Tryd.underlying33]
  have e : ∀ (x y : Int) (w : World), (Op.equalIn (d + 1) 33 (.int .u64 x) (.int .u64 y)).run Tryd.prog w = .ok (x == y) w := fun x y w => by
    rw [run_equalIn_int w d 33 .u64 .u64 x y Tryd.underlying33]
  rw [show d + 2 = (d + 1) + 1 from rfl, Op.equalIn]
  simp only [Sem.run_bind, run_underlying Tryd.underlying35, Result.andThen_ok, hs, Std.Legacy.Range.forIn_eq_forIn_range', Std.Legacy.Range.size]
  by_cases h0 : x0 = y0 <;> by_cases h1 : x1 = y1 <;> by_cases h2 : x2 = y2 <;> by_cases h3 : x3 = y3 <;> simp [List.range', hp, e, h0, h1, h2, h3]
theorem eq_any (x0 x1 x2 x3 y0 y1 y2 y3 : Int) (w : World) :
    (Op.equalIn 10000 35 (.agg #[.int .u64 x0, .int .u64 x1, .int .u64 x2, .int .u64 x3]) (.agg #[.int .u64 y0, .int .u64 y1, .int .u64 y2, .int .u64 y3])).run Tryd.prog w = .ok (x0 == y0 && x1 == y1 && x2 == y2 && x3 == y3) w := eq_any' 9998 x0 x1 x2 x3 y0 y1 y2 y3 w
end Go.Proofs.YtiahgcgpakgeeaaDoor

namespace Go.Proofs.YtiahgcgpakgeeaaDoor
open Go.RowKit

/-- A set with one number more. -/
def put (f : Nat → Bool) (c : Nat) (x : Nat) : Bool := f x || decide (x = c)
theorem put_hit (f : Nat → Bool) (c i : Nat) (hi : c / 64 = i) : bits .or .u64 (wd f i : Int) (IntKind.u64.wrap (2 ^ (c % 64))) = (wd (put f c) i : Nat) := by
  rw [word_put _ _ _ (Nat.mod_lt _ (by decide)), show 64 * i + c % 64 = c from by omega]
  rfl
theorem put_miss (f : Nat → Bool) (c i : Nat) (hi : c / 64 ≠ i) : wd f i = wd (put f c) i := (word_put_other f i c hi).symm
end Go.Proofs.YtiahgcgpakgeeaaDoor
