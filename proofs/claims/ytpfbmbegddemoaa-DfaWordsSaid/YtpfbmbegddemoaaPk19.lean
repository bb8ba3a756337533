/-
  The walk of the reference's Behind.
  The walk of the seventh reference's Fit, where a node has two arguments.
  The walk of the seventh reference's Fit, where a node is a set.
  The walk of the ninth reference's Fits.
-/
import Derived.Test.YtpfbmbegddemoaaPk18
import Derived.Test.YtpfbmbegddemoaaPk13
import Derived.Laws.AppendOwnNone
import Derived.Deep.RegionHeldLaw
import Derived.Test.YtpfbmbegddemoaaPk3
import Derived.Test.YtpfbmbegddemoaaPk11
import Derived.Deep.RegionWith
namespace Go.Proofs.Ytpfbmbegddemoaa
open Go.RowKit

/-- Is there a place ahead of M at which the one ends and the other begins? -/
def behP (A B : Gr) (i j M : Nat) : Bool := (List.range M).any fun m => decide (i ≤ m) && decide (m ≤ j) && (A i m && B m j)
theorem behP_succ (A B : Gr) (i j M : Nat) : behP A B i j (M + 1) = (behP A B i j M || (decide (i ≤ M) && decide (M ≤ j) && (A i M && B M j))) := by
  unfold behP
  rw [List.range_succ, List.any_append]
  simp
theorem behP_none (A B : Gr) (i j M : Nat) (h : M ≤ i) : behP A B i j M = false := by
  unfold behP
  rw [List.any_eq_false]
  intro m hm
  have := List.mem_range.1 hm
  simp [show ¬ i ≤ m by omega]
/-- So far: the rows ahead of i; of row i the places ahead of m, and place m up to j. -/
def behC (n : Nat) (A B : Gr) (i m j : Nat) : Gr := fun x y =>
  if x < i then behB n A B x y else if x = i then behP A B i y m || (decide (y < j) && (decide (m ≤ y) && (A i m && B m y))) else false
theorem behC_put (n : Nat) (A B : Gr) (i m j : Nat) (him : i ≤ m) (hmj : m ≤ j) (ha : A i m = true) (x y : Nat) : putG (behC n A B i m j) i j (behC n A B i m j i j || B m j) x y = behC n A B i m (j + 1) x y := by
  unfold putG
  by_cases h1 : x = i
  · subst h1
    rw [if_pos rfl]
    by_cases h2 : y = j
    · subst h2
      rw [if_pos rfl]
      unfold behC
      simp [ha, hmj]
    · rw [if_neg h2]
      unfold behC
      have hx : (y < j) ↔ (y < j + 1) := by omega
      simp only [hx]
  · rw [if_neg h1]
    unfold behC
    by_cases h3 : x < i
    · rw [if_pos h3, if_pos h3]
    · rw [if_neg h3, if_neg h3, if_neg h1, if_neg h1]
theorem behC_col (n : Nat) (A B : Gr) (i m j : Nat) (him : i ≤ m) (h : j = n + 1 ∨ A i m = false) (x y : Nat) (hy : y ≤ n) : behC n A B i m j x y = behC n A B i (m + 1) (m + 1) x y := by
  unfold behC
  by_cases h3 : x < i
  · rw [if_pos h3, if_pos h3]
  · rw [if_neg h3, if_neg h3]
    by_cases h1 : x = i
    · subst h1
      rw [if_pos rfl, if_pos rfl, behP_succ, decide_eq_true him, Bool.true_and]
      have e2 : (decide (y < m + 1) && (decide (m + 1 ≤ y) && (A x (m + 1) && B (m + 1) y))) = false := by
        by_cases hq : y < m + 1
        · simp [show ¬ m + 1 ≤ y by omega]
        · simp [hq]
      rw [e2, Bool.or_false]
      rcases h with h | h
      · rw [h, decide_eq_true (show y < n + 1 by omega), Bool.true_and]
      · rw [h]; simp
    · rw [if_neg h1, if_neg h1]
theorem behC_row (n : Nat) (A B : Gr) (i j x y : Nat) (_hy : y ≤ n) : behC n A B i (n + 1) j x y = behC n A B (i + 1) (i + 1) (i + 1) x y := by
  have hb : behP A B i y (n + 1) = behB n A B i y := rfl
  unfold behC
  by_cases h3 : x < i
  · rw [if_pos h3, if_pos (by omega)]
  · rw [if_neg h3]
    by_cases h1 : x = i
    · subst h1
      rw [if_pos rfl, if_pos (by omega), hb, show decide (n + 1 ≤ y) = false from decide_eq_false (by omega)]
      simp
    · rw [if_neg h1]
      by_cases h4 : x < i + 1
      · omega
      · rw [if_neg h4]
        by_cases h5 : x = i + 1
        · rw [if_pos h5, behP_none A B _ _ _ (Nat.le_refl _)]
          by_cases hq : y < i + 1
          · simp [show ¬ i + 1 ≤ y by omega]
          · simp [hq]
        · rw [if_neg h5]
theorem behC_start (n : Nat) (A B : Gr) (x y : Nat) : behC n A B 0 0 0 x y = false := by
  unfold behC behP
  simp

end Go.Proofs.Ytpfbmbegddemoaa

namespace Go.Proofs.Ytpfbmbegddemoaa
open Go.RowKit

/-- What Fit tells: a grid of the call's own. -/
def fitPost (n : Nat) (F : Gr) (w : World) (e : Ending) (w' : World) : Prop := ∃ v, e = .returned v ∧ grd w' w.heap.size v n F ∧ Below w.heap.size w w'

end Go.Proofs.Ytpfbmbegddemoaa

namespace Go.Proofs.Ytpfbmbegddemoaa
open Go.RowKit

/-- The bytes of a text. -/
def tx7 (s : ByteArray) (x : Nat) : Nat := if h : x < s.size then (s[x]'h).toNat else 0
theorem tx7_lt (s : ByteArray) (x : Nat) : tx7 s x < 256 := by
  unfold tx7
  split
  · exact UInt8.toNat_lt _
  · decide
theorem ix_str (s : ByteArray) (x : Nat) (h : x < s.size) (hs : s.size ≤ 1000) (w : World) : (Instr.index 9 (.string s) (.int .i64 (x : Int))).run Try.prog w = .ok (.int .u8 (tx7 s x : Nat)) w := by
  have h0 : (0 : Int) ≤ (x : Int) := by omega
  have h1 : (x : Int) < (s.size : Int) := by omega
  have hw : IntKind.i64.wrap (x : Int) = (x : Int) := by rw [IntKind.wrap_i64]; omega
  unfold tx7
  rw [dif_pos h]
  go_simp
/-- So far: the places ahead of x. -/
def setC (f : Nat → Bool) (tx : Nat → Nat) (x : Nat) : Gr := fun a c => decide (a < x) && (decide (c = a + 1) && f (tx a))
theorem setC_put (f : Nat → Bool) (tx : Nat → Nat) (x a c : Nat) : putG (setC f tx x) x (x + 1) (f (tx x)) a c = setC f tx (x + 1) a c := by
  unfold putG setC
  by_cases h1 : a = x
  · subst h1
    rw [if_pos rfl]
    by_cases h2 : c = a + 1
    · rw [if_pos h2, decide_eq_true h2, decide_eq_true (show a < a + 1 by omega)]; rfl
    · rw [if_neg h2, decide_eq_false h2]; simp
  · rw [if_neg h1]
    have hx : (a < x) ↔ (a < x + 1) := by omega
    simp only [hx]

end Go.Proofs.Ytpfbmbegddemoaa

namespace Go.Proofs.Ytpfbmbegddemoaa
open Go.RowKit

theorem lit_rdL (w : World) (x : Int) : rdL (w.alloc (.cells #[.int .i64 x] 3)) (some ⟨w.heap.size, 0, none⟩) 1 (fun _ => x) := fun j hj => by
  obtain rfl : j = 0 := by omega
  exact ⟨_, _, rfl, by simp, by simp⟩
/-- So many bytes from a place on, as the reference takes them. -/
def rF (S : Nat → Sd) (m : Nat) (tx : Nat → Nat) : Nat → Nat → (Nat → Bool) → Nat → Bool
  | _, 0, T => T
  | i, k + 1, T => rF S m tx (i + 1) k (upN S 0 m (stR S (tx i) T m) m)
theorem rF_last (S : Nat → Sd) (m : Nat) (tx : Nat → Nat) : ∀ k i T, rF S m tx i (k + 1) T = upN S 0 m (stR S (tx (i + k)) (rF S m tx i k T) m) m
  | 0, _, _ => rfl
  | k + 1, i, T => by
    show rF S m tx (i + 1) (k + 1) _ = _
    rw [rF_last S m tx k (i + 1) _, show i + 1 + k = i + (k + 1) by omega]; rfl
def aF (S : Nat → Sd) (m : Nat) (st : Int) : Nat → Bool := upN S 0 m (inL m (fun _ => st) 1) m
/-- What leads to the end, as the reference counts it. -/
def fF (S : Nat → Sd) (m n : Nat) (tx : Nat → Nat) (st : Int) (fin i j : Nat) : Bool :=
  if n = 0 then upN S 258 m (aF S m st) m fin
  else if j = n then upN S 257 m (rF S m tx i (j - i) (if i = 0 then upN S 256 m (aF S m st) m else aF S m st)) m fin
  else rF S m tx i (j - i) (if i = 0 then upN S 256 m (aF S m st) m else aF S m st) fin

end Go.Proofs.Ytpfbmbegddemoaa
