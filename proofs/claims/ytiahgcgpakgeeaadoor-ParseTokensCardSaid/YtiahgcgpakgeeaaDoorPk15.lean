/-
  The walk of the third reference's number.
-/
import Derived.Test.YtiahgcgpakgeeaaDoorPk14
namespace Go.Proofs.YtiahgcgpakgeeaaDoor
open Go.RowKit

/-- The byte at a place; 256: none is there. -/
def gb (p : ByteArray) (i : Nat) : Nat := if h : i < p.size then (p[i]'h).toNat else 256
theorem gb_in {p : ByteArray} {i : Nat} (h : i < p.size) : (p[i]'h).toNat = gb p i := by unfold gb; rw [dif_pos h]
theorem gb_lt {p : ByteArray} {i : Nat} (h : i < p.size) : gb p i < 256 := by rw [← gb_in h]; exact UInt8.toNat_lt _
theorem gb_out {p : ByteArray} {i : Nat} (h : p.size ≤ i) : gb p i = 256 := by unfold gb; rw [dif_neg (by omega)]
def isD (p : ByteArray) (j : Nat) : Bool := decide (48 ≤ gb p j) && decide (gb p j ≤ 57)
theorem isD_true {p : ByteArray} {j : Nat} (h : isD p j = true) : ∃ a d, Hid (gb p j = d + 48) ∧ Hid (a = d + 48) ∧ d ≤ 9 ∧ ∃ hj : j < p.size, (p[j]'hj).toNat = a := by
  have h' : 48 ≤ gb p j ∧ gb p j ≤ 57 := by simpa [isD] using h
  have hj : j < p.size := by
    rcases Nat.lt_or_ge j p.size with h1 | h1
    · exact h1
    · have := gb_out h1; omega
  exact ⟨gb p j, gb p j - 48, Lib.hid (by omega), Lib.hid (by omega), by omega, hj, gb_in hj⟩
theorem isD_false {p : ByteArray} {j : Nat} (h : isD p j = false) : p.size ≤ j ∨ (∃ a, a < 48 ∧ ∃ hj : j < p.size, (p[j]'hj).toNat = a) ∨ ∃ a, 57 < a ∧ a < 256 ∧ ∃ hj : j < p.size, (p[j]'hj).toNat = a := by
  have h' : 48 ≤ gb p j → 57 < gb p j := by simpa [isD] using h
  rcases Nat.lt_or_ge j p.size with hj | hj
  · rcases Nat.lt_or_ge (gb p j) 48 with h1 | h1
    · exact .inr (.inl ⟨gb p j, h1, hj, gb_in hj⟩)
    · exact .inr (.inr ⟨gb p j, h' h1, gb_lt hj, hj, gb_in hj⟩)
  · exact .inl hj

/-- What a digit is worth. -/
def dv (p : ByteArray) (k : Nat) : Nat := gb p k - 48
/-- A number of one or two digits, 0 to 32, without a nought ahead of another digit, and where it ends; -1: there is none. -/
def numF (p : ByteArray) (k : Nat) : Int :=
  if isD p k = true then
    if isD p (k + 1) = true then
      if isD p (k + 2) = true then -1
      else if dv p k = 0 ∨ 32 < dv p k * 10 + dv p (k + 1) then -1 else ((dv p k * 10 + dv p (k + 1) : Nat) : Int)
    else (dv p k : Nat)
  else -1
def numN (p : ByteArray) (k : Nat) : Nat :=
  if isD p k = true then if isD p (k + 1) = true then if isD p (k + 2) = true then k + 3 else k + 2 else k + 1 else k
def numPost (p : ByteArray) (k : Nat) (w : World) (e : Ending) (w' : World) : Prop := e = .returned (.tuple #[.int .i64 (numF p k), .int .i64 (numN p k : Nat)]) ∧ w = w'
theorem numPost.mk {p : ByteArray} {k : Nat} {w : World} {x y : Int} (h1 : x = numF p k) (h2 : y = (numN p k : Nat)) : numPost p k w (.returned (.tuple #[.int .i64 x, .int .i64 y])) w := ⟨by rw [h1, h2], rfl⟩
end Go.Proofs.YtiahgcgpakgeeaaDoor
