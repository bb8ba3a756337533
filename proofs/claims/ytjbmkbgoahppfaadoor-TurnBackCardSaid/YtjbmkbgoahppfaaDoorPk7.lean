/-
  strconv.ParseUint at base 16, of a string of two bytes: their number, or an error that is not nil.
-/
import Derived.Test.YtjbmkbgoahppfaaDoorPk6
import Derived.Lib.ConvBytes
import Derived.Laws.Strings3
import Derived.Laws.Closers25
import Derived.Laws.Closers25b
import Derived.BigCall
import Derived.BigGuard
import Derived.Lib.Walk
namespace Go.Proofs.YtjbmkbgoahppfaaDoor
open Go.RowKit

/-- What ParseUint takes a byte for: below 36. -/
def low32 (c : Nat) : Nat := (bits .or .u8 (c : Int) 32).toNat
theorem low_tab : ∀ c : Nat, c < 256 → bits .or .u8 (c : Int) 32 = (low32 c : Int) ∧ low32 c < 256 ∧
    ((48 ≤ c ∧ c ≤ 57 ∧ dig16 c = (c : Int) - 48) ∨ (57 < c ∧ c ≠ 95 ∧ 97 ≤ low32 c ∧ low32 c ≤ 102 ∧ dig16 c = (low32 c : Int) - 87) ∨
     (57 < c ∧ c ≠ 95 ∧ 103 ≤ low32 c ∧ low32 c ≤ 122 ∧ dig16 c = -1) ∨ ((c < 48 ∨ 57 < c) ∧ (low32 c < 97 ∨ 122 < low32 c) ∧ dig16 c = -1)) := by decide +kernel
theorem gb_data (t : ByteArray) (j : Nat) (h : j < t.size) : (t.data.toList.getD j 0).toNat = gb t j := by
  rw [← gb_in h]
  have h' : j < t.data.toList.length := by simpa using h
  rw [List.getD_eq_getElem?_getD, List.getElem?_eq_getElem h']
  simp [ByteArray.getElem_eq_getElem_data]

end Go.Proofs.YtjbmkbgoahppfaaDoor
