/-
  The walk of the third reference's one.
  The walk of the third reference's digit.
-/
import Derived.Test.YtiahgcgpakgeeaaDoorPk12
import Derived.Test.YtiahgcgpakgeeaaDoorPk1
import Derived.Test.YtiahgcgpakgeeaaDoorPk13
namespace Go.Proofs.YtiahgcgpakgeeaaDoor
open Go.RowKit

/-- The only byte of a set; -1: it has not just one, or it is a name's. -/
def oneF (f : Nat → Bool) (nm : Bool) : Int := if nm = true then -1 else if (bl f 256).length = 1 then ((bl f 256).headD 0 : Nat) else -1
/-- An item as a value. -/
@[reducible] def itv (f : Nat → Bool) (n : Nat) (ok nm : Bool) : Value := .agg #[.int .u64 (wd f 0 : Int), .int .u64 (wd f 1 : Int), .int .u64 (wd f 2 : Int), .int .u64 (wd f 3 : Int), .int .i64 (n : Int), .bool ok, .bool nm]

end Go.Proofs.YtiahgcgpakgeeaaDoor

namespace Go.Proofs.YtiahgcgpakgeeaaDoor
open Go.RowKit

/-- What a digit of sixteen is worth; -1: it is none. -/
def dig16 (c : Nat) : Int := if 48 ≤ c ∧ c ≤ 57 then (c : Int) - 48 else if 97 ≤ c ∧ c ≤ 102 then (c : Int) - 87 else if 65 ≤ c ∧ c ≤ 70 then (c : Int) - 55 else -1
def dig16Post (c : Nat) (w : World) (e : Ending) (w' : World) : Prop := e = .returned (.int .i64 (dig16 c)) ∧ w = w'
theorem dig16Post.mk {c : Nat} {w : World} {x : Int} (h : x = dig16 c) : dig16Post c w (.returned (.int .i64 x)) w := ⟨by rw [h], rfl⟩
end Go.Proofs.YtiahgcgpakgeeaaDoor
