/-
  The walk of the reference's Either.
  The walk of the reference's Behind.
-/
import Derived.Test.YthmkjdpmpcjinaaPk24
namespace Go.Proofs.Ythmkjdpmpcjinaa
open Go.RowKit

/-- A grid that is read. -/
def rdG (w : World) (v : Value) (n : Nat) (A : Gr) : Prop := ∃ (go cap : Nat) (r : Nat → Nat), v = .slice (some ⟨go, 0, none⟩) (n + 1) cap ∧ go < w.heap.size ∧ (∀ i, i ≤ n → w.cell? ⟨go, i, none⟩ = some (.slice (some ⟨r i, 0, none⟩) (n + 1) (n + 1))) ∧ (∀ i, i ≤ n → r i < w.heap.size ∧ ∀ j, j ≤ n → w.cell? ⟨r i, j, none⟩ = some (.bool (A i j)))
theorem rdG.of {w : World} {base n : Nat} {v : Value} {G : Gr} (h : grd w base v n G) : rdG w v n G := by
  obtain ⟨r, hg⟩ := h
  obtain ⟨go, cap, rfl, -, hgo, hc⟩ := hg.outer
  refine ⟨go, cap, r, rfl, hgo, fun i hi => hc i (by omega), fun i hi => ⟨(hg.at (i := i) (j := 0) (by omega) (Nat.zero_le _)).2.2.2, fun j hj => (hg.at (i := i) (j := j) (by omega) hj).1⟩⟩
theorem rdG.below {w w' : World} {B n : Nat} {v : Value} {A : Gr} (h : rdG w v n A) (hb : Below B w w') (hB : w.heap.size ≤ B) : rdG w' v n A := by
  obtain ⟨go, cap, r, rfl, hgo, hc, hr⟩ := h
  have hs := hb.size
  refine ⟨go, cap, r, rfl, by omega, fun i hi => by rw [hb.cell (p := ⟨go, i, none⟩) (show go < B by omega)]; exact hc i hi, fun i hi => ⟨by have := (hr i hi).1; omega, fun j hj => ?_⟩⟩
  rw [hb.cell (p := ⟨r i, j, none⟩) (show r i < B by have := (hr i hi).1; omega)]
  exact (hr i hi).2 j hj
def eitB (A B : Gr) : Gr := fun i j => decide (i ≤ j) && (A i j || B i j)
/-- So far: the rows ahead of i, and row i ahead of j. -/
def eitC (A B : Gr) (i j : Nat) : Gr := fun x y => (decide (x < i) || (decide (x = i) && decide (y < j))) && eitB A B x y
theorem eitC_put (A B : Gr) (i j : Nat) (hij : i ≤ j) (x y : Nat) : putG (eitC A B i j) i j (A i j || B i j) x y = eitC A B i (j + 1) x y := by
  unfold putG
  by_cases h1 : x = i
  · subst h1
    rw [if_pos rfl]
    by_cases h2 : y = j
    · subst h2; rw [if_pos rfl]; unfold eitC eitB; simp [hij]
    · rw [if_neg h2]; unfold eitC
      have hx : (y < j) ↔ (y < j + 1) := by omega
      simp only [hx]
  · rw [if_neg h1]; unfold eitC; simp [h1]
theorem eitC_row (A B : Gr) (i n x y : Nat) (hy : y ≤ n) : eitC A B i (n + 1) x y = eitC A B (i + 1) 0 x y := by
  unfold eitC
  by_cases h1 : x < i
  · simp [h1, show x < i + 1 by omega]
  · by_cases h2 : x = i
    · subst h2; simp [show y < n + 1 by omega]
    · simp [h1, h2, show ¬ x < i + 1 by omega]
theorem eitC_start (A B : Gr) (i x y : Nat) : eitC A B i 0 x y = eitC A B i i x y := by
  unfold eitC eitB
  by_cases h2 : x = i
  · subst h2
    by_cases h3 : x ≤ y
    · simp [show ¬ y < x by omega]
    · simp [h3]
  · simp [h2]

end Go.Proofs.Ythmkjdpmpcjinaa

namespace Go.Proofs.Ythmkjdpmpcjinaa
open Go.RowKit

/-- Is there a place ahead of M at which the one ends and the other begins? -/
def behP (A B : Gr) (i j M : Nat) : Bool := (List.range M).any fun m => decide (i ≤ m) && decide (m ≤ j) && (A i m && B m j)
theorem behP_succ (A B : Gr) (i j M : Nat) : behP A B i j (M + 1) = (behP A B i j M || (decide (i ≤ M) && decide (M ≤ j) && (A i M && B M j))) := by
  unfold behP
  rw [List.range_succ, List.any_append]
  simp
theorem behP_none (A B : Gr) (i j M : Nat) (h : M ≤ i) : behP A B i j M = false := by
  unfold behP
  rw [List.any_eq_false]
  intro m hm
  have := List.mem_range.1 hm
  simp [show ¬ i ≤ m by omega]
/-- So far: the rows ahead of i; of row i the places ahead of m, and place m up to j. -/
def behC (n : Nat) (A B : Gr) (i m j : Nat) : Gr := fun x y =>
  if x < i then behB n A B x y else if x = i then behP A B i y m || (decide (y < j) && (decide (m ≤ y) && (A i m && B m y))) else false
theorem behC_put (n : Nat) (A B : Gr) (i m j : Nat) (him : i ≤ m) (hmj : m ≤ j) (ha : A i m = true) (x y : Nat) : putG (behC n A B i m j) i j (behC n A B i m j i j || B m j) x y = behC n A B i m (j + 1) x y := by
  unfold putG
  by_cases h1 : x = i
  · subst h1
    rw [if_pos rfl]
    by_cases h2 : y = j
    · subst h2
      rw [if_pos rfl]
      unfold behC
      simp [ha, hmj]
    · rw [if_neg h2]
      unfold behC
      have hx : (y < j) ↔ (y < j + 1) := by omega
      simp only [hx]
  · rw [if_neg h1]
    unfold behC
    by_cases h3 : x < i
    · rw [if_pos h3, if_pos h3]
    · rw [if_neg h3, if_neg h3, if_neg h1, if_neg h1]
theorem behC_col (n : Nat) (A B : Gr) (i m j : Nat) (him : i ≤ m) (h : j = n + 1 ∨ A i m = false) (x y : Nat) (hy : y ≤ n) : behC n A B i m j x y = behC n A B i (m + 1) (m + 1) x y := by
  unfold behC
  by_cases h3 : x < i
  · rw [if_pos h3, if_pos h3]
  · rw [if_neg h3, if_neg h3]
    by_cases h1 : x = i
    · subst h1
      rw [if_pos rfl, if_pos rfl, behP_succ, decide_eq_true him, Bool.true_and]
      have e2 : (decide (y < m + 1) && (decide (m + 1 ≤ y) && (A x (m + 1) && B (m + 1) y))) = false := by
        by_cases hq : y < m + 1
        · simp [show ¬ m + 1 ≤ y by omega]
        · simp [hq]
      rw [e2, Bool.or_false]
      rcases h with h | h
      · rw [h, decide_eq_true (show y < n + 1 by omega), Bool.true_and]
      · rw [h]; simp
    · rw [if_neg h1, if_neg h1]
theorem behC_row (n : Nat) (A B : Gr) (i j x y : Nat) (_hy : y ≤ n) : behC n A B i (n + 1) j x y = behC n A B (i + 1) (i + 1) (i + 1) x y := by
  have hb : behP A B i y (n + 1) = behB n A B i y := rfl
  unfold behC
  by_cases h3 : x < i
  · rw [if_pos h3, if_pos (by omega)]
  · rw [if_neg h3]
    by_cases h1 : x = i
    · subst h1
      rw [if_pos rfl, if_pos (by omega), hb, show decide (n + 1 ≤ y) = false from decide_eq_false (by omega)]
      simp
    · rw [if_neg h1]
      by_cases h4 : x < i + 1
      · omega
      · rw [if_neg h4]
        by_cases h5 : x = i + 1
        · rw [if_pos h5, behP_none A B _ _ _ (Nat.le_refl _)]
          by_cases hq : y < i + 1
          · simp [show ¬ i + 1 ≤ y by omega]
          · simp [hq]
        · rw [if_neg h5]
theorem behC_start (n : Nat) (A B : Gr) (x y : Nat) : behC n A B 0 0 0 x y = false := by
  unfold behC behP
  simp

end Go.Proofs.Ythmkjdpmpcjinaa
