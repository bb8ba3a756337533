/-
  The walk of the third reference's Behind.
  The walk of the third reference's single.
-/
import Derived.Test.YtiahgcgpakgeeaaDoorPk19
import Derived.Deep.Cut
import Derived.Test.YtiahgcgpakgeeaaDoorPk18
namespace Go.Proofs.YtiahgcgpakgeeaaDoor
open Go.RowKit

/-- The item that cannot be made, as it lies. -/
theorem itv_none : itv (fun _ => false) 0 false false = .agg #[.int .u64 0, .int .u64 0, .int .u64 0, .int .u64 0, .int .i64 0, .bool false, .bool false] := by
  simp only [itv, none_wd]; rfl
theorem conv_u8 (c : Nat) (h : c < 256) : IntKind.i64.wrap (c : Int) = (c : Int) := by rw [IntKind.wrap_i64]; omega
theorem below_set7z {B : Nat} {a w : World} {c : Nat} (h : Below B a w) (hc : B ≤ c) : Below B a
    (((((((w.setCell ⟨c, 0, none⟩ (.int .u64 0)).setCell ⟨c, 1, none⟩ (.int .u64 0)).setCell ⟨c, 2, none⟩ (.int .u64 0)).setCell ⟨c, 3, none⟩ (.int .u64 0)).setCell ⟨c, 4, none⟩ (.int .i64 0)).setCell ⟨c, 5, none⟩ (.bool false)).setCell ⟨c, 6, none⟩ (.bool false)) :=
  ((((((h.setCell hc _).setCell hc _).setCell hc _).setCell hc _).setCell hc _).setCell hc _).setCell hc _

end Go.Proofs.YtiahgcgpakgeeaaDoor

namespace Go.Proofs.YtiahgcgpakgeeaaDoor
open Go.RowKit

/-- Where the name that begins at a place ends: the first place from it on with a colon and a bracket. -/
def nmEnd (p : ByteArray) (i : Nat) : Option Nat := (List.range p.size).find? fun j => decide (i ≤ j) && (gb p j == 58 && gb p (j + 1) == 93)
/-- An item of a bracket that is no range: the bytes, where it ends, whether it can be made, whether it is a name. -/
def sinF (p : ByteArray) (k : Nat) : Nat → Bool :=
  if gb p k = 92 then behF p k
  else if gb p k = 91 ∧ gb p (k + 1) = 58 then (match nmEnd p (k + 2) with | some j => isB (p.extract (k + 2) j).toList | none => fun _ => false)
  else oneR (gb p k)
def sinN (p : ByteArray) (k : Nat) : Nat :=
  if gb p k = 92 then behN p k
  else if gb p k = 91 ∧ gb p (k + 1) = 58 then (match nmEnd p (k + 2) with | some j => j + 2 | none => 0)
  else k + 1
def sinOk (p : ByteArray) (k : Nat) : Bool :=
  if gb p k = 92 then behOk p k
  else if gb p k = 91 ∧ gb p (k + 1) = 58 then (match nmEnd p (k + 2) with | some j => isN (p.extract (k + 2) j).toList | none => false)
  else true
def sinNm (p : ByteArray) (k : Nat) : Bool :=
  if gb p k = 92 then false
  else if gb p k = 91 ∧ gb p (k + 1) = 58 then (match nmEnd p (k + 2) with | some _ => true | none => false)
  else false

def hitB (p : ByteArray) (j : Nat) : Bool := gb p j == 58 && gb p (j + 1) == 93
theorem hitB_in {p : ByteArray} {j : Nat} (h : hitB p j = true) : j + 1 < p.size := by
  unfold hitB at h
  rcases Nat.lt_or_ge (j + 1) p.size with h1 | h1
  · exact h1
  · rw [gb_out h1] at h; simp at h
theorem nmEnd_some {p : ByteArray} {i j : Nat} (hij : i ≤ j) (h : hitB p j = true) (hno : ∀ x, i ≤ x → x < j → hitB p x = false) : nmEnd p i = some j := by
  have hj := hitB_in h
  unfold nmEnd
  rw [List.find?_range_eq_some]
  refine ⟨?_, by rw [List.mem_range]; omega, fun x hx => ?_⟩
  · rw [decide_eq_true hij]; exact h
  · by_cases hix : i ≤ x
    · have := hno x hix hx
      unfold hitB at this
      rw [this]; simp
    · simp [hix]
theorem nmEnd_none {p : ByteArray} {i j : Nat} (hj : p.size ≤ j + 1) (hno : ∀ x, i ≤ x → x < j → hitB p x = false) : nmEnd p i = none := by
  unfold nmEnd
  rw [List.find?_range_eq_none]
  intro x _
  by_cases hix : i ≤ x
  · have : hitB p x = false := by
      rcases Nat.lt_or_ge x j with h1 | h1
      · exact hno x hix h1
      · cases hh : hitB p x
        · rfl
        · have := hitB_in hh; omega
    unfold hitB at this
    rw [this]; simp
  · simp [hix]
end Go.Proofs.YtiahgcgpakgeeaaDoor
