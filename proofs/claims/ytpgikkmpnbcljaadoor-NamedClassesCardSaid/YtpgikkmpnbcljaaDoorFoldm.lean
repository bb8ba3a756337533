/-
  Plain facts on folded sets, and on the classes as lists have them.
-/
import Derived.Test.YtpgikkmpnbcljaaDoorEscape
import Derived.Test.YtpgikkmpnbcljaaDoorRef
namespace Go.Proofs.YtpgikkmpnbcljaaDoor
open Go.RowKit

theorem toList_data (s : ByteArray) : s.toList = s.data.toList := ByteArray.toList_eq s
/-- The classes over a list of bytes: these reckon. -/
def clsD (s : List UInt8) : Nat → Nat → Bool
  | 0, _ => false
  | k + 1, b => clsD s k b || ((rowOf k).1 == s && (decide (tlo k ≤ b) && decide (b ≤ thi k)))
def fndD (s : List UInt8) : Nat → Bool
  | 0 => false
  | k + 1 => fndD s k || (rowOf k).1 == s
theorem clsK_eq (s : ByteArray) (k b : Nat) : clsK s k b = clsD s.data.toList k b := by
  induction k with
  | zero => rfl
  | succ k ih => unfold clsK clsD; rw [ih, toList_data, toList_data]; rfl
theorem fndK_eq (s : ByteArray) (k : Nat) : fndK s k = fndD s.data.toList k := by
  induction k with
  | zero => rfl
  | succ k ih => unfold fndK fndD; rw [ih, toList_data, toList_data]; rfl

def alphaS : ByteArray := { data := #[97, 108, 112, 104, 97] }
def upB (x : Nat) : Bool := decide (65 ≤ x) && decide (x ≤ 90)
def loB (x : Nat) : Bool := decide (97 ≤ x) && decide (x ≤ 122)
def diB (x : Nat) : Bool := decide (48 ≤ x) && decide (x ≤ 57)
theorem alpha_eq : ∀ x, x < 256 → clsD alphaS.data.toList 23 x = (upB x || loB x) := by decide +kernel
theorem turn_up : ∀ x, x < 256 → upB x = true → x ^^^ 32 = x + 32 := by decide +kernel
theorem turn_lo : ∀ x, x < 256 → loB x = true → x ^^^ 32 = x - 32 := by decide +kernel
theorem xor_small : ∀ x, x < 256 → x ^^^ 32 < 256 := by decide +kernel
theorem xor_twice : ∀ x, x < 256 → (x ^^^ 32) ^^^ 32 = x := by decide +kernel
theorem xor_alpha : ∀ x, x < 256 → (upB x || loB x) = true → (upB (x ^^^ 32) || loB (x ^^^ 32)) = true := by decide +kernel
theorem xor_bits : ∀ x : Nat, x < 256 → bits .xor .u8 (x : Int) 32 = ((x ^^^ 32 : Nat) : Int) := by decide +kernel

/-- The letters of a set, rising; and what it is with the other case of the first j of them. -/
def alphs (f : Nat → Bool) : List Nat := bl (fun b => f b && clsK alphaS 23 b) 256
def foldK (f : Nat → Bool) (j b : Nat) : Bool := f b || ((alphs f).take j).any fun x => decide (b = x ^^^ 32)
def foldF (f : Nat → Bool) (b : Nat) : Bool := f b || (alphs f).any fun x => decide (b = x ^^^ 32)
theorem foldK_zero (f : Nat → Bool) : foldK f 0 = f := by funext b; simp [foldK]
theorem foldK_succ (f : Nat → Bool) (j : Nat) (h : j < (alphs f).length) : (fun b => foldK f j b || decide (b = (alphs f)[j] ^^^ 32)) = foldK f (j + 1) := by
  funext b
  unfold foldK
  rw [List.take_succ_eq_append_getElem h, List.any_append]
  simp [Bool.or_assoc]
theorem foldK_all (f : Nat → Bool) : foldK f (alphs f).length = foldF f := by funext b; unfold foldK foldF; rw [List.take_length]
theorem bl_small (f : Nat → Bool) (n : Nat) : ∀ x, x ∈ bl f n → x < n := fun x h => by
  unfold bl at h
  simp only [List.mem_filter, List.mem_range] at h
  exact h.1
theorem alphs_lt (f : Nat → Bool) : ∀ x, x ∈ alphs f → x < 256 := bl_small _ 256
theorem alphs_le (f : Nat → Bool) : (alphs f).length ≤ 256 := bl_le _ 256
theorem foldF_iff (f : Nat → Bool) (b : Nat) : foldF f b = true ↔ f b = true ∨ ∃ x, x < 256 ∧ f x = true ∧ (upB x || loB x) = true ∧ b = x ^^^ 32 := by
  unfold foldF alphs bl
  simp only [Bool.or_eq_true, List.any_eq_true, List.mem_filter, List.mem_range, Bool.and_eq_true, decide_eq_true_eq]
  constructor
  · rintro (h | ⟨x, ⟨hx, h1, h2⟩, rfl⟩)
    · exact .inl h
    · rw [clsK_eq, alpha_eq x hx] at h2
      exact .inr ⟨x, hx, h1, by simpa using h2, rfl⟩
  · rintro (h | ⟨x, hx, h1, h2, rfl⟩)
    · exact .inl h
    · exact .inr ⟨x, ⟨hx, h1, by rw [clsK_eq, alpha_eq x hx]; simpa using h2⟩, rfl⟩
theorem foldF_twice (f : Nat → Bool) (b : Nat) : foldF (foldF f) b = foldF f b := by
  rw [Bool.eq_iff_iff, foldF_iff]
  constructor
  · rintro (h | ⟨x, hx, h1, h2, rfl⟩)
    · exact h
    · rcases (foldF_iff f x).1 h1 with h | ⟨y, hy, h3, _, rfl⟩
      · exact (foldF_iff f _).2 (.inr ⟨x, hx, h, h2, rfl⟩)
      · rw [xor_twice y hy]; exact (foldF_iff f _).2 (.inl h3)
  · exact fun h => .inl h
theorem foldF_keeps (f : Nat → Bool) (b : Nat) : (foldF f b && f b) = f b := by
  cases h : f b
  · simp
  · rw [(foldF_iff f b).2 (.inl h)]; rfl

/-- As the reference folds: the first k bytes gone through. -/
def rfK (f : Nat → Bool) : Nat → Nat → Bool
  | 0 => f
  | k + 1 => if f k = true then (if upB k = true then put (rfK f k) (k + 32) else if loB k = true then put (rfK f k) (k - 32) else rfK f k) else rfK f k
theorem rfK_iff (f : Nat → Bool) (k : Nat) (hk : k ≤ 256) (b : Nat) : rfK f k b = true ↔ f b = true ∨ ∃ x, x < k ∧ f x = true ∧ (upB x || loB x) = true ∧ b = x ^^^ 32 := by
  induction k generalizing b with
  | zero => simp [rfK]
  | succ k ih =>
    have hs : (∃ x, x < k + 1 ∧ f x = true ∧ (upB x || loB x) = true ∧ b = x ^^^ 32) ↔ (∃ x, x < k ∧ f x = true ∧ (upB x || loB x) = true ∧ b = x ^^^ 32) ∨ (f k = true ∧ (upB k || loB k) = true ∧ b = k ^^^ 32) := by
      constructor
      · rintro ⟨x, hx, h⟩
        by_cases e : x = k
        · subst e; exact .inr h
        · exact .inl ⟨x, by omega, h⟩
      · rintro (⟨x, hx, h⟩ | h)
        · exact ⟨x, by omega, h⟩
        · exact ⟨k, by omega, h⟩
    rw [hs]
    have ih := ih (by omega) b
    unfold rfK
    by_cases h1 : f k = true
    · rw [if_pos h1]
      by_cases h2 : upB k = true
      · rw [if_pos h2, turn_up k (by omega) h2]
        simp only [put, Bool.or_eq_true, decide_eq_true_eq, ih, h1, h2, true_or, true_and]
        constructor <;> intro h <;> simp only [or_assoc] at h ⊢ <;> exact h
      · rw [if_neg h2]
        by_cases h3 : loB k = true
        · rw [if_pos h3, turn_lo k (by omega) h3]
          simp only [put, Bool.or_eq_true, decide_eq_true_eq, ih, h1, h3, or_true, true_and]
          constructor <;> intro h <;> simp only [or_assoc] at h ⊢ <;> exact h
        · rw [if_neg h3, ih]
          simp [h2, h3]
    · rw [if_neg h1, ih]
      simp [h1]
theorem rfK_all (f : Nat → Bool) (b : Nat) : rfK f 256 b = foldF f b := by
  rw [Bool.eq_iff_iff, rfK_iff f 256 (Nat.le_refl _), foldF_iff]
end Go.Proofs.YtpgikkmpnbcljaaDoor
