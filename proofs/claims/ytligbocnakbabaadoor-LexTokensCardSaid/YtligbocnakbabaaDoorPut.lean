/-
  A set with one byte more.
-/
import Derived.Test.YtligbocnakbabaaDoorBase
namespace Go.Proofs.YtligbocnakbabaaDoor
open Go.RowKit

/-- A set with one number more. -/
def put (f : Nat → Bool) (c : Nat) (x : Nat) : Bool := f x || decide (x = c)
theorem put_hit (f : Nat → Bool) (c i : Nat) (hi : c / 64 = i) : bits .or .u64 (wd f i : Int) (IntKind.u64.wrap (2 ^ (c % 64))) = (wd (put f c) i : Nat) := by
  rw [word_put _ _ _ (Nat.mod_lt _ (by decide)), show 64 * i + c % 64 = c from by omega]
  rfl
theorem put_miss (f : Nat → Bool) (c i : Nat) (hi : c / 64 ≠ i) : wd f i = wd (put f c) i := (word_put_other f i c hi).symm
end Go.Proofs.YtligbocnakbabaaDoor
