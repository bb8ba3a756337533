/-
  The walks of the second reference's upper, lower and digit.
  The walk of the second reference's is: any name, any byte.
-/
import Derived.Test.YtiahgcgpakgeeaaDoorPk1
namespace Go.Proofs.YtiahgcgpakgeeaaDoor
open Go.RowKit

def upB (x : Nat) : Bool := decide (65 ≤ x) && decide (x ≤ 90)
def loB (x : Nat) : Bool := decide (97 ≤ x) && decide (x ≤ 122)
def diB (x : Nat) : Bool := decide (48 ≤ x) && decide (x ≤ 57)
end Go.Proofs.YtiahgcgpakgeeaaDoor

namespace Go.Proofs.YtiahgcgpakgeeaaDoor
open Go.RowKit

/-- Is a byte one of a name's? Is there such a name? -/
def isB (l : List UInt8) (k : Nat) : Bool :=
  if (l == [97, 108, 112, 104, 97]) = true then upB k || loB k
  else if (l == [100, 105, 103, 105, 116]) = true then diB k
  else if (l == [97, 108, 110, 117, 109]) = true then upB k || loB k || diB k
  else if (l == [117, 112, 112, 101, 114]) = true then upB k
  else if (l == [108, 111, 119, 101, 114]) = true then loB k
  else if (l == [115, 112, 97, 99, 101]) = true then decide (9 ≤ k) && decide (k ≤ 13) || decide (k = 32)
  else if (l == [98, 108, 97, 110, 107]) = true then decide (k = 9) || decide (k = 32)
  else if (l == [112, 117, 110, 99, 116]) = true then decide (33 ≤ k) && decide (k ≤ 126) && !upB k && !loB k && !diB k
  else if (l == [103, 114, 97, 112, 104]) = true then decide (33 ≤ k) && decide (k ≤ 126)
  else if (l == [112, 114, 105, 110, 116]) = true then decide (32 ≤ k) && decide (k ≤ 126)
  else if (l == [99, 110, 116, 114, 108]) = true then decide (k < 32) || decide (k = 127)
  else if (l == [120, 100, 105, 103, 105, 116]) = true then diB k || (decide (65 ≤ k) && decide (k ≤ 70)) || (decide (97 ≤ k) && decide (k ≤ 102))
  else false
def isN (l : List UInt8) : Bool :=
  (l == [97, 108, 112, 104, 97]) || (l == [100, 105, 103, 105, 116]) || (l == [97, 108, 110, 117, 109]) || (l == [117, 112, 112, 101, 114]) || (l == [108, 111, 119, 101, 114]) || (l == [115, 112, 97, 99, 101]) ||
  (l == [98, 108, 97, 110, 107]) || (l == [112, 117, 110, 99, 116]) || (l == [103, 114, 97, 112, 104]) || (l == [112, 114, 105, 110, 116]) || (l == [99, 110, 116, 114, 108]) || (l == [120, 100, 105, 103, 105, 116])

/-- What is answers. -/
def isPost (s : ByteArray) (k : Nat) (w : World) (e : Ending) (w' : World) : Prop := e = .returned (.tuple #[.bool (isB s.toList k), .bool (isN s.toList)]) ∧ w = w'
theorem isPost.mk {s : ByteArray} {k : Nat} {w : World} {x y : Bool} (hx : x = isB s.toList k) (hy : y = isN s.toList) : isPost s k w (.returned (.tuple #[.bool x, .bool y])) w := ⟨by rw [hx, hy], rfl⟩

end Go.Proofs.YtiahgcgpakgeeaaDoor
