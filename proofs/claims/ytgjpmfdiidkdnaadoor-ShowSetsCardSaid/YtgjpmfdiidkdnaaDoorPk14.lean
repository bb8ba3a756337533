/-
  The table's classes are the reference's: named's Class and Escape, said as the second reference says them.
-/
import Derived.Test.YtgjpmfdiidkdnaaDoorPk13
import Derived.Test.YtgjpmfdiidkdnaaDoorPk5
namespace Go.Proofs.YtgjpmfdiidkdnaaDoor
open Go.RowKit

/-- The names, rising. -/
def nmL : List (List UInt8) :=
  [[97, 108, 110, 117, 109], [97, 108, 112, 104, 97], [98, 108, 97, 110, 107], [99, 110, 116, 114, 108], [100, 105, 103, 105, 116], [103, 114, 97, 112, 104],
   [108, 111, 119, 101, 114], [112, 114, 105, 110, 116], [112, 117, 110, 99, 116], [115, 112, 97, 99, 101], [117, 112, 112, 101, 114], [120, 100, 105, 103, 105, 116]]
/-- The classes over a list of bytes: these reckon. -/
def clsD (s : List UInt8) : Nat → Nat → Bool
  | 0, _ => false
  | k + 1, b => clsD s k b || ((rowOf k).1 == s && (decide (tlo k ≤ b) && decide (b ≤ thi k)))
def fndD (s : List UInt8) : Nat → Bool
  | 0 => false
  | k + 1 => fndD s k || (rowOf k).1 == s
theorem clsK_eq (s : ByteArray) (k b : Nat) : clsK s k b = clsD s.data.toList k b := by
  induction k with
  | zero => rfl
  | succ k ih => unfold clsK clsD; rw [ih, toList_data, toList_data]; rfl
theorem fndK_eq (s : ByteArray) (k : Nat) : fndK s k = fndD s.data.toList k := by
  induction k with
  | zero => rfl
  | succ k ih => unfold fndK fndD; rw [ih, toList_data, toList_data]; rfl

theorem row_named : ∀ k, k < 23 → (rowOf k).1 ∈ nmL := by decide +kernel
theorem clsD_none (l : List UInt8) (h : l ∉ nmL) (b k : Nat) (hk : k ≤ 23) : clsD l k b = false := by
  induction k with
  | zero => rfl
  | succ k ih =>
    have h1 : ((rowOf k).1 == l) = false := by
      rw [Bool.eq_false_iff]
      intro he
      exact h (by rw [← beq_iff_eq.1 he]; exact row_named k (by omega))
    unfold clsD
    rw [ih (by omega), h1]; rfl
theorem fndD_none (l : List UInt8) (h : l ∉ nmL) (k : Nat) (hk : k ≤ 23) : fndD l k = false := by
  induction k with
  | zero => rfl
  | succ k ih =>
    have h1 : ((rowOf k).1 == l) = false := by
      rw [Bool.eq_false_iff]
      intro he
      exact h (by rw [← beq_iff_eq.1 he]; exact row_named k (by omega))
    unfold fndD
    rw [ih (by omega), h1]; rfl
theorem not_each (l : List UInt8) (h : l ∉ nmL) : ∀ x ∈ nmL, (l == x) = false := fun x hx => by
  rw [Bool.eq_false_iff]
  intro he
  exact h (by rw [beq_iff_eq.1 he]; exact hx)
theorem isB_none (l : List UInt8) (h : l ∉ nmL) (b : Nat) : isB l b = false := by
  have e := not_each l h
  unfold isB
  rw [e _ (by decide), e _ (by decide), e _ (by decide), e _ (by decide), e _ (by decide), e _ (by decide), e _ (by decide), e _ (by decide), e _ (by decide), e _ (by decide), e _ (by decide), e _ (by decide)]
  rfl
theorem isN_none (l : List UInt8) (h : l ∉ nmL) : isN l = false := by
  have e := not_each l h
  unfold isN
  rw [e _ (by decide), e _ (by decide), e _ (by decide), e _ (by decide), e _ (by decide), e _ (by decide), e _ (by decide), e _ (by decide), e _ (by decide), e _ (by decide), e _ (by decide), e _ (by decide)]
  rfl
theorem cls_some : ∀ l ∈ nmL, ∀ b, b < 256 → clsD l 23 b = isB l b := by decide +kernel
theorem fnd_some : ∀ l ∈ nmL, fndD l 23 = isN l := by decide +kernel
theorem cls_is (s : ByteArray) (b : Nat) (hb : b < 256) : clsK s 23 b = isB s.toList b := by
  rw [clsK_eq, toList_data]
  by_cases h : s.data.toList ∈ nmL
  · exact cls_some _ h b hb
  · rw [clsD_none _ h b 23 (Nat.le_refl _), isB_none _ h]
theorem fnd_is (s : ByteArray) : fndK s 23 = isN s.toList := by
  rw [fndK_eq, toList_data]
  by_cases h : s.data.toList ∈ nmL
  · exact fnd_some _ h
  · rw [fndD_none _ h 23 (Nat.le_refl _), isN_none _ h]


theorem class2 (s : ByteArray) (l : List UInt8) (hl : s.toList = l) (w : World) (hT : Tabbed w) :
    Calls Tryd.prog 56 #[.string s] w fun e w' => e = .returned (.tuple #[sv (isB l), .bool (isN l)]) ∧ Below w.heap.size w w' := by
  subst hl
  refine (class_any s w hT).mono fun e w' h => ⟨?_, h.2⟩
  rw [h.1, fnd_is, sv_congr fun b hb => cls_is s b hb]
theorem dig2 (k : Nat) (h : k < 256) : clsK digitS 23 k = diB k := by rw [cls_is _ k h, toList_data]; rfl
theorem spa2 (k : Nat) (h : k < 256) : clsK spaceS 23 k = isS k := by rw [cls_is _ k h, toList_data]; rfl
theorem aln2 (k : Nat) (h : k < 256) : clsK alnumS 23 k = isA k := by rw [cls_is _ k h, toList_data]; rfl
theorem word2 (k : Nat) (h : k < 256) : wordF k = wordR k := by unfold wordF wordR; rw [aln2 k h]
/-- named's Escape, for any byte. -/
theorem esc_any (c : Nat) (hc : c < 256) (w : World) (hT : Tabbed w) :
    Calls Tryd.prog 67 #[.int .u8 (c : Int)] w fun e w' => e = .returned (.tuple #[sv (escF c), .bool (escOk c)]) ∧ Below w.heap.size w w' := by
  have tw : ∀ {f g : Nat → Bool} {b : Bool}, (∀ k, k < 256 → f k = g k) → (Calls Tryd.prog 67 #[.int .u8 (c : Int)] w fun e w' => e = .returned (.tuple #[sv f, .bool b]) ∧ Below w.heap.size w w') →
      Calls Tryd.prog 67 #[.int .u8 (c : Int)] w fun e w' => e = .returned (.tuple #[sv g, .bool b]) ∧ Below w.heap.size w w' := fun h hh => hh.mono fun e w' h2 => ⟨by rw [h2.1, sv_congr h], h2.2⟩
  by_cases h1 : c = 110
  · subst h1; exact esc_n w hT
  by_cases h2 : c = 116
  · subst h2; exact esc_t w hT
  by_cases h3 : c = 114
  · subst h3; exact esc_r w hT
  by_cases h4 : c = 100
  · subst h4; exact tw dig2 (esc_d w hT)
  by_cases h5 : c = 115
  · subst h5; exact tw spa2 (esc_s w hT)
  by_cases h6 : c = 119
  · subst h6; exact tw word2 (esc_w w hT)
  by_cases h7 : c = 68
  · subst h7; exact tw (fun k hk => by rw [dig2 k hk]; rfl) (esc_nd w hT)
  by_cases h8 : c = 83
  · subst h8; exact tw (fun k hk => by rw [spa2 k hk]; rfl) (esc_ns w hT)
  by_cases h9 : c = 87
  · subst h9; exact tw (fun k hk => by rw [word2 k hk]; rfl) (esc_nw w hT)
  have g : ∀ n : Nat, c ≠ n → ((c : Int) == (n : Int)) = false := fun n h => by simp; omega
  cases ha : isA c
  · have hF : escF c = fun k => decide (k = c) := by simp [escF, h1, h2, h3, h4, h5, h6, h7, h8, h9, ha]
    have hO : escOk c = true := by simp [escOk, ha]
    rw [hF, hO]
    exact esc_self c hc (g 110 h1) (g 116 h2) (g 114 h3) (g 100 h4) (g 115 h5) (g 119 h6) (g 68 h7) (g 83 h8) (g 87 h9) (by rw [aln2 c hc, ha]) w hT
  · have hF : escF c = fun _ => false := by simp [escF, h1, h2, h3, h4, h5, h6, h7, h8, h9, ha]
    have hO : escOk c = false := by simp [escOk, h1, h2, h3, h4, h5, h6, h7, h8, h9, ha]
    rw [hF, hO]
    exact esc_none c hc (g 110 h1) (g 116 h2) (g 114 h3) (g 100 h4) (g 115 h5) (g 119 h6) (g 68 h7) (g 83 h8) (g 87 h9) (by rw [aln2 c hc, ha]) w hT
end Go.Proofs.YtgjpmfdiidkdnaaDoor
