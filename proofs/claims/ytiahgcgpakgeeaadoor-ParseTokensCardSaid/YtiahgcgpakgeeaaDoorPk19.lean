/-
  The walk of the reference's Range.
  Items of a bracket: as values, and as blocks of memory.
-/
import Derived.Test.YtiahgcgpakgeeaaDoorPk17
import Derived.Test.YtiahgcgpakgeeaaDoorPk13
import Derived.Test.YtiahgcgpakgeeaaDoorPk14
import Derived.Test.YtiahgcgpakgeeaaDoorPk15
import Derived.Test.YtiahgcgpakgeeaaDoorPk18
namespace Go.Proofs.YtiahgcgpakgeeaaDoor
open Go.RowKit

/-- The numbers from lo on, below k. -/
def rg (lo k x : Nat) : Bool := decide (lo ≤ x) && decide (x < k)
theorem rg_put (lo k : Nat) (h : lo ≤ k) : put (rg lo k) k = rg lo (k + 1) := by
  funext x
  unfold put rg
  by_cases hx : x = k
  · subst hx; simp [h]
  · by_cases h1 : x < k
    · have : x < k + 1 := by omega
      simp [h1, this, hx]
    · have : ¬ x < k + 1 := by omega
      simp [h1, this, hx]
theorem rg_none (lo : Nat) : rg lo lo = fun _ => false := by
  funext x
  unfold rg
  by_cases h : lo ≤ x
  · have : ¬ x < lo := by omega
    simp [this]
  · simp [h]

end Go.Proofs.YtiahgcgpakgeeaaDoor

namespace Go.Proofs.YtiahgcgpakgeeaaDoor
open Go.RowKit

/-- Seven cells stored. -/
def set7 (w : World) (c : Nat) (f : Nat → Bool) (n : Int) (ok nm : Bool) : World :=
  ((((((w.setCell ⟨c, 0, none⟩ (.int .u64 (wd f 0 : Int))).setCell ⟨c, 1, none⟩ (.int .u64 (wd f 1 : Int))).setCell ⟨c, 2, none⟩ (.int .u64 (wd f 2 : Int))).setCell ⟨c, 3, none⟩ (.int .u64 (wd f 3 : Int))).setCell ⟨c, 4, none⟩ (.int .i64 n)).setCell ⟨c, 5, none⟩ (.bool ok)).setCell ⟨c, 6, none⟩ (.bool nm)
theorem below_set7 {B : Nat} {a w : World} {c : Nat} (h : Below B a w) (hc : B ≤ c) (g : Nat → Bool) (m : Int) (ok nm : Bool) : Below B a (set7 w c g m ok nm) :=
  ((((((h.setCell hc _).setCell hc _).setCell hc _).setCell hc _).setCell hc _).setCell hc _).setCell hc _

/-- The bytes from one to one. -/
def oneR (b x : Nat) : Bool := decide (b ≤ x) && decide (x ≤ b)
/-- What a backslash at a place stands for: the bytes, where it ends, whether it can be made. -/
def behF (p : ByteArray) (k : Nat) : Nat → Bool :=
  if p.size ≤ k + 1 then fun _ => false
  else if gb p (k + 1) ≠ 120 then escF (gb p (k + 1))
  else if p.size ≤ k + 3 ∨ dig16 (gb p (k + 2)) < 0 ∨ dig16 (gb p (k + 3)) < 0 then fun _ => false
  else oneR (dig16 (gb p (k + 2)) * 16 + dig16 (gb p (k + 3))).toNat
def behN (p : ByteArray) (k : Nat) : Nat :=
  if p.size ≤ k + 1 then 0
  else if gb p (k + 1) ≠ 120 then k + 2
  else if p.size ≤ k + 3 ∨ dig16 (gb p (k + 2)) < 0 ∨ dig16 (gb p (k + 3)) < 0 then 0
  else k + 4
def behOk (p : ByteArray) (k : Nat) : Bool :=
  if p.size ≤ k + 1 then false
  else if gb p (k + 1) ≠ 120 then escOk (gb p (k + 1))
  else if p.size ≤ k + 3 ∨ dig16 (gb p (k + 2)) < 0 ∨ dig16 (gb p (k + 3)) < 0 then false
  else true
theorem dig16_bd (c : Nat) : -1 ≤ dig16 c ∧ dig16 c ≤ 15 := by unfold dig16; repeat' split <;> omega
end Go.Proofs.YtiahgcgpakgeeaaDoor
