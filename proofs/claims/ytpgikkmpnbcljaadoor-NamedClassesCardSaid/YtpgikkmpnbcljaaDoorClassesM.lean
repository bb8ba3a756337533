/-
  Plain facts on names: the table's classes are the reference's.
-/
import Derived.Test.YtpgikkmpnbcljaaDoorNames
import Derived.Test.YtpgikkmpnbcljaaDoorRclass
namespace Go.Proofs.YtpgikkmpnbcljaaDoor
open Go.RowKit

theorem row_named : ∀ k, k < 23 → (rowOf k).1 ∈ nmL := by decide +kernel
theorem clsD_none (l : List UInt8) (h : l ∉ nmL) (b k : Nat) (hk : k ≤ 23) : clsD l k b = false := by
  induction k with
  | zero => rfl
  | succ k ih =>
    have h1 : ((rowOf k).1 == l) = false := by
      rw [Bool.eq_false_iff]
      intro he
      exact h (by rw [← beq_iff_eq.1 he]; exact row_named k (by omega))
    unfold clsD
    rw [ih (by omega), h1]; rfl
theorem fndD_none (l : List UInt8) (h : l ∉ nmL) (k : Nat) (hk : k ≤ 23) : fndD l k = false := by
  induction k with
  | zero => rfl
  | succ k ih =>
    have h1 : ((rowOf k).1 == l) = false := by
      rw [Bool.eq_false_iff]
      intro he
      exact h (by rw [← beq_iff_eq.1 he]; exact row_named k (by omega))
    unfold fndD
    rw [ih (by omega), h1]; rfl
theorem not_each (l : List UInt8) (h : l ∉ nmL) : ∀ x ∈ nmL, (l == x) = false := fun x hx => by
  rw [Bool.eq_false_iff]
  intro he
  exact h (by rw [beq_iff_eq.1 he]; exact hx)
theorem isB_none (l : List UInt8) (h : l ∉ nmL) (b : Nat) : isB l b = false := by
  have e := not_each l h
  unfold isB
  rw [e _ (by decide), e _ (by decide), e _ (by decide), e _ (by decide), e _ (by decide), e _ (by decide), e _ (by decide), e _ (by decide), e _ (by decide), e _ (by decide), e _ (by decide), e _ (by decide)]
  rfl
theorem isN_none (l : List UInt8) (h : l ∉ nmL) : isN l = false := by
  have e := not_each l h
  unfold isN
  rw [e _ (by decide), e _ (by decide), e _ (by decide), e _ (by decide), e _ (by decide), e _ (by decide), e _ (by decide), e _ (by decide), e _ (by decide), e _ (by decide), e _ (by decide), e _ (by decide)]
  rfl
theorem cls_some : ∀ l ∈ nmL, ∀ b, b < 256 → clsD l 23 b = isB l b := by decide +kernel
theorem fnd_some : ∀ l ∈ nmL, fndD l 23 = isN l := by decide +kernel
theorem cls_is (s : ByteArray) (b : Nat) (hb : b < 256) : clsK s 23 b = isB s.toList b := by
  rw [clsK_eq, toList_data]
  by_cases h : s.data.toList ∈ nmL
  · exact cls_some _ h b hb
  · rw [clsD_none _ h b 23 (Nat.le_refl _), isB_none _ h]
theorem fnd_is (s : ByteArray) : fndK s 23 = isN s.toList := by
  rw [fndK_eq, toList_data]
  by_cases h : s.data.toList ∈ nmL
  · exact fnd_some _ h
  · rw [fndD_none _ h 23 (Nat.le_refl _), isN_none _ h]

/-- Is a name one of the first k that are told? -/
def thr (s : ByteArray) : Nat → Bool
  | 0 => false
  | k + 1 => thr s k || (nmB k).toList == s.toList
def thrD (l : List UInt8) : Nat → Bool
  | 0 => false
  | k + 1 => thrD l k || (nmL.getD k []) == l
theorem thr_eq (s : ByteArray) (k : Nat) : thr s k = thrD s.data.toList k := by
  induction k with
  | zero => rfl
  | succ k ih => unfold thr thrD; rw [ih, toList_data, toList_data]; rfl
theorem nm_named : ∀ k, k < 12 → nmL.getD k [] ∈ nmL := by decide +kernel
theorem thrD_none (l : List UInt8) (h : l ∉ nmL) (k : Nat) (hk : k ≤ 12) : thrD l k = false := by
  induction k with
  | zero => rfl
  | succ k ih =>
    have h1 : ((nmL.getD k []) == l) = false := by
      rw [Bool.eq_false_iff]
      intro he
      exact h (by rw [← beq_iff_eq.1 he]; exact nm_named k (by omega))
    unfold thrD
    rw [ih (by omega), h1]; rfl
theorem thr_some : ∀ l ∈ nmL, thrD l 12 = isN l := by decide +kernel
theorem thr_is (s : ByteArray) : thr s 12 = isN s.toList := by
  rw [thr_eq, toList_data]
  by_cases h : s.data.toList ∈ nmL
  · exact thr_some _ h
  · rw [thrD_none _ h 12 (Nat.le_refl _), isN_none _ h]
theorem nm_is0 : ∀ k, k < 12 → isN (nmB k).data.toList = true := by decide +kernel
theorem nm_is (k : Nat) (h : k < 12) : isN (nmB k).toList = true := by rw [toList_data]; exact nm_is0 k h
theorem nm_less0 : ∀ k, k < 11 → Op.bytesLess (nmB k).data.toList (nmB (k + 1)).data.toList = true := by decide +kernel
theorem nm_less (k : Nat) (h : k < 11) : Op.bytesLess (nmB k).toList (nmB (k + 1)).toList = true := by rw [toList_data, toList_data]; exact nm_less0 k h
end Go.Proofs.YtpgikkmpnbcljaaDoor
