/-
  The walks of the second reference's Escape, a theorem a branch.
-/
import Derived.Test.YtiahgcgpakgeeaaDoorPk16
import Derived.Test.YtiahgcgpakgeeaaDoorPk17
import Derived.Test.YtiahgcgpakgeeaaDoorPk13
namespace Go.Proofs.YtiahgcgpakgeeaaDoor
open Go.RowKit

def isA (k : Nat) : Bool := isB [97, 108, 110, 117, 109] k
def isS (k : Nat) : Bool := isB [115, 112, 97, 99, 101] k
/-- The bytes of a word. -/
def wordR (k : Nat) : Bool := isA k || decide (k = 95)

/-- What has been put behind k rounds. -/
def upK (f : Nat → Bool) (k x : Nat) : Bool := decide (x < k) && f x
theorem upK_zero (f : Nat → Bool) : upK f 0 = fun _ => false := by funext x; simp [upK]
theorem upK_out (f : Nat → Bool) (k : Nat) (h : f k = false) : upK f (k + 1) = upK f k := by
  funext x
  unfold upK
  by_cases e : x = k
  · subst e; simp [h]
  · by_cases h1 : x < k
    · have : x < k + 1 := by omega
      simp [h1, this]
    · have : ¬ x < k + 1 := by omega
      simp [h1, this]
theorem upK_in (f : Nat → Bool) (k : Nat) (h : f k = true) : put (upK f k) k = upK f (k + 1) := by
  funext x
  unfold put upK
  by_cases e : x = k
  · subst e; simp [h]
  · by_cases h1 : x < k
    · have : x < k + 1 := by omega
      simp [h1, this, e]
    · have : ¬ x < k + 1 := by omega
      simp [h1, this, e]
theorem isSet.all {w : World} {b : Nat} {f : Nat → Bool} (h : isSet w b (upK f 256)) : isSet w b f := h.congr fun k hk => by simp [upK, hk]
theorem wd_zero (f : Nat → Bool) (i j : Nat) (hj : j < 64) (h : wd f i = 0) : f (64 * i + j) = false := by
  have := wd_testBit f i j
  rw [h, Nat.zero_testBit] at this
  simpa [hj] using this.symm
theorem not_all_zero (f : Nat → Bool) (x : Nat) (hx : x < 256) (h : f x = true) : (((wd f 0 : Nat) : Int) == 0 && ((wd f 1 : Nat) : Int) == 0 && ((wd f 2 : Nat) : Int) == 0 && ((wd f 3 : Nat) : Int) == 0) = false := by
  rw [Bool.eq_false_iff]
  intro hz
  simp only [Bool.and_eq_true, beq_iff_eq, Int.natCast_eq_zero] at hz
  obtain ⟨⟨⟨h0, h1⟩, h2⟩, h3⟩ := hz
  have hd : x = 64 * (x / 64) + x % 64 := by omega
  have hm : x % 64 < 64 := Nat.mod_lt _ (by decide)
  have hi : x / 64 = 0 ∨ x / 64 = 1 ∨ x / 64 = 2 ∨ x / 64 = 3 := by omega
  have hf : f (64 * (x / 64) + x % 64) = false := by
    rcases hi with e | e | e | e <;> rw [e] <;> exact wd_zero f _ _ hm ‹_›
  rw [← hd, h] at hf
  cases hf

/-- What a byte behind a backslash stands for; does it stand for anything? -/
def escF (c : Nat) : Nat → Bool :=
  if c = 110 then fun k => decide (k = 10) else if c = 116 then fun k => decide (k = 9) else if c = 114 then fun k => decide (k = 13)
  else if c = 100 then diB else if c = 115 then isS else if c = 119 then wordR
  else if c = 68 then fun k => !diB k else if c = 83 then fun k => !isS k else if c = 87 then fun k => !wordR k
  else if isA c = true then fun _ => false else fun k => decide (k = c)
def escOk (c : Nat) : Bool :=
  decide (c = 110) || decide (c = 116) || decide (c = 114) || decide (c = 100) || decide (c = 115) || decide (c = 119) || decide (c = 68) || decide (c = 83) || decide (c = 87) || !isA c
end Go.Proofs.YtiahgcgpakgeeaaDoor
