/-
  Grids in memory: a slice of rows of bools; the walk of the reference's grid.
  A place of a grid read and written; the walk of the reference's Even.
  The walk of the reference's Either.
  The walk of the reference's Behind.
  The walk of the seventh reference's Fit, where a node has two arguments.
  The walk of the seventh reference's Fit, where a node is a set.
  The walk of the ninth reference's Fits.
  What the ninth laws ask of the code: Build, Right, Close, Step and Fits, as contracts.
  Two symbols that no state tells apart lead to the same places; lists that tell the same. Plain facts.
  An automaton, decided: sets met one after the other, and where each goes. Plain.
  What the ninth reference counts is what the page says, and what there are steps for. Plain facts.
  Rows of numbers that a call owns, as functions; the walks of the tenth reference's Same and Number.
  What the tenth laws ask of the code: Classes, Firsts and Join, as contracts.
  Rows of numbers at a block's head, made and written into by place.
-/
import Derived.Test.YtefpoapbodbenaaPk4
import Derived.OwnWalk
import Derived.Test.YtefpoapbodbenaaPk7
import Derived.Laws.AppendOwnNone
import Derived.Deep.RegionHeldLaw
import Derived.Test.YtefpoapbodbenaaPk1
import Derived.Test.YtefpoapbodbenaaPk6
import Derived.Deep.RegionWith
import Derived.Test.YtefpoapbodbenaaPk10
import Derived.Test.YtefpoapbodbenaaPk9
import Derived.BigQuiet
import Derived.Deep.QuietTactic
namespace Go.Proofs.Ytefpoapbodbenaa
open Go.RowKit

theorem infoRowB : (Try.prog.info? 23).map (fun i => (i.zero, i.size, i.bytes)) = some (some (.slice none 0 0), 1, 24) := by kernel_rfl
theorem infoB7 : (Try.prog.info? 4).map (fun i => (i.zero, i.size, i.bytes)) = some (some (.bool false), 1, 1) := by kernel_rfl
def bvs (G : Nat → Bool) (n : Nat) : List Value := (List.range (n + 1)).map fun j => .bool (G j)
theorem bvs_length (G : Nat → Bool) (n : Nat) : (bvs G n).length = n + 1 := by simp [bvs]
theorem bvs_at (G : Nat → Bool) (n j : Nat) (h : j ≤ n) : (bvs G n)[j]? = some (.bool (G j)) := by simp [bvs, show j < n + 1 by omega]
def rowVals (r : Nat → Nat) (n k : Nat) : List Value := (List.range k).map fun i => .slice (some ⟨r i, 0, none⟩) (n + 1) (n + 1)
theorem rowVals_length (r : Nat → Nat) (n k : Nat) : (rowVals r n k).length = k := by simp [rowVals]
theorem rowVals_at (r : Nat → Nat) (n k i : Nat) (h : i < k) : (rowVals r n k)[i]? = some (.slice (some ⟨r i, 0, none⟩) (n + 1) (n + 1)) := by simp [rowVals, h]
theorem rowVals_succ (r : Nat → Nat) (n k : Nat) : rowVals r n (k + 1) = rowVals r n k ++ [.slice (some ⟨r k, 0, none⟩) (n + 1) (n + 1)] := by simp [rowVals, List.range_succ]
theorem rowVals_same {r r' : Nat → Nat} (n : Nat) {k : Nat} (h : ∀ i, i < k → r i = r' i) : rowVals r n k = rowVals r' n k := by
  unfold rowVals
  exact List.map_congr_left fun i hi => by rw [h i (List.mem_range.1 hi)]
theorem bvs_none (n : Nat) : bvs (fun _ => false) n = List.replicate (n + 1) (.bool false) := by
  unfold bvs
  apply List.ext_getElem <;> simp
theorem made_none (n : Nat) : (madeCells #[Value.bool false] (n + 1)).toList = bvs (fun _ => false) n := by
  rw [bvs_none]
  unfold madeCells
  apply List.ext_getElem
  · simp
  · intro i h1 h2
    simp [Nat.mod_one]
/-- Two rows of different kinds are different blocks. -/
theorem rows_apt7 {w : World} {b1 b2 e1 e2 s1 s2 n1 n2 : Nat} {v1 v2 : Value} {x1 x2 : List Value} (h1 : w.ownsRow b1 e1 s1 v1 n1 x1) (h2 : w.ownsRow b2 e2 s2 v2 n2 x2) (hne : e1 ≠ e2) : v1.ownBlock = none ∨ v1.ownBlock ≠ v2.ownBlock := by
  rcases h1.2 with ⟨rfl, _⟩ | ⟨g1, c1, u1, rfl, _, p1, _⟩
  · exact .inl rfl
  · rcases h2.2 with ⟨rfl, _⟩ | ⟨g2, c2, u2, rfl, _, p2, _⟩
    · exact .inr (by simp [Value.ownBlock])
    · refine .inr fun h => ?_
      have hg : g1 = g2 := by simpa [Value.ownBlock] using h
      subst hg
      rw [p1] at p2
      simp at p2
      exact hne p2.2
/-- The first k rows of a grid that a call makes. -/
def grK (w : World) (base : Nat) (v : Value) (n k : Nat) (r : Nat → Nat) (G : Gr) : Prop :=
  w.ownsRow base 23 1 v k (rowVals r n k) ∧ (∀ i, i < k → w.ownsRow base 4 1 (.slice (some ⟨r i, 0, none⟩) (n + 1) (n + 1)) (n + 1) (bvs (G i) n)) ∧ (∀ i j, i < k → j < k → r i = r j → i = j)
def grd (w : World) (base : Nat) (v : Value) (n : Nat) (G : Gr) : Prop := ∃ r, grK w base v n (n + 1) r G

end Go.Proofs.Ytefpoapbodbenaa

namespace Go.Proofs.Ytefpoapbodbenaa
open Go.RowKit

theorem bvs_set (F : Nat → Bool) (n j : Nat) (b : Bool) : (bvs F n).set j (.bool b) = bvs (fun x => if x = j then b else F x) n := by
  unfold bvs
  apply List.ext_getElem
  · simp
  · intro i h1 h2
    simp only [List.getElem_set, List.getElem_map, List.getElem_range]
    by_cases h : i = j
    · rw [if_pos h.symm, if_pos h]
    · rw [if_neg (fun e => h e.symm), if_neg h]
theorem bvs_same {F F' : Nat → Bool} {n : Nat} (h : ∀ j, j ≤ n → F j = F' j) : bvs F n = bvs F' n := by
  unfold bvs
  exact List.map_congr_left fun i hi => by rw [h i (by have := List.mem_range.1 hi; omega)]
/-- A grid with one place written. -/
def putG (G : Gr) (i j : Nat) (b : Bool) : Gr := fun x y => if x = i then (if y = j then b else G x y) else G x y
theorem grK.outer {w : World} {base n k : Nat} {v : Value} {r : Nat → Nat} {G : Gr} (h : grK w base v n (k + 1) r G) : ∃ go cap, v = .slice (some ⟨go, 0, none⟩) (k + 1) cap ∧ base ≤ go ∧ go < w.heap.size ∧ ∀ i, i < k + 1 → w.cell? ⟨go, i, none⟩ = some (.slice (some ⟨r i, 0, none⟩) (n + 1) (n + 1)) := by
  obtain ⟨h1, -, -⟩ := h
  have hlt := h1.lt
  rcases id h1.2 with ⟨rfl, h0⟩ | ⟨g, cap, cur, rfl, -⟩
  · cases h0
  · exact ⟨g, cap, rfl, (hlt g rfl).1, (hlt g rfl).2, fun i hi => by rw [h1.cellAt i (by omega)]; exact rowVals_at r n (k + 1) i hi⟩
theorem grK.at {w : World} {base n k : Nat} {v : Value} {r : Nat → Nat} {G : Gr} (h : grK w base v n k r G) {i j : Nat} (hi : i < k) (hj : j ≤ n) : w.cell? ⟨r i, j, none⟩ = some (.bool (G i j)) ∧ w.frozen? ⟨r i, j, none⟩ = false ∧ base ≤ r i ∧ r i < w.heap.size := by
  have hr := h.2.1 i hi
  exact ⟨by rw [hr.cellAt j (by omega)]; exact bvs_at (G i) n j hj, hr.frozenAt j, (hr.lt (r i) rfl).1, (hr.lt (r i) rfl).2⟩
theorem grK.put {w : World} {base n k : Nat} {v : Value} {r : Nat → Nat} {G : Gr} (h : grK w base v n k r G) {i j : Nat} (hi : i < k) (b : Bool) :
    grK (w.setCell ⟨r i, j, none⟩ (.bool b)) base v n k r (putG G i j b) := by
  obtain ⟨h1, h2, h3⟩ := h
  obtain ⟨s1, s2⟩ := (h2 i hi).stored j (.bool b)
  rw [bvs_set] at s1
  refine ⟨h1.kept s2 (rows_apt7 h1 (h2 i hi) (by decide)), fun x hx => ?_, h3⟩
  by_cases hxi : x = i
  · subst hxi
    rw [show bvs (putG G x j b x) n = bvs (fun y => if y = j then b else G x y) n from bvs_same fun y _ => by unfold putG; rw [if_pos rfl]]
    exact s1
  · rw [show bvs (putG G i j b x) n = bvs (G x) n from bvs_same fun y _ => by unfold putG; rw [if_neg hxi]]
    exact (h2 x hx).kept s2 (.inr (by show some (r x) ≠ some (r i); intro e; exact hxi (h3 x i hx hi (Option.some.inj e))))
theorem grK.same {w : World} {base n k : Nat} {v : Value} {r : Nat → Nat} {G G' : Gr} (h : grK w base v n k r G) (hG : ∀ i j, i < k → j ≤ n → G i j = G' i j) : grK w base v n k r G' :=
  ⟨h.1, fun i hi => by rw [← bvs_same fun j hj => hG i j hi hj]; exact h.2.1 i hi, h.2.2⟩
theorem grK.mono {w : World} {base base' n k : Nat} {v : Value} {r : Nat → Nat} {G : Gr} (h : grK w base v n k r G) (hb : base' ≤ base) : grK w base' v n k r G :=
  ⟨owns_mono h.1 hb, fun i hi => owns_mono (h.2.1 i hi) hb, h.2.2⟩
theorem grK.below {w w' : World} {base n k : Nat} {v : Value} {r : Nat → Nat} {G : Gr} (h : grK w base v n k r G) (hb : Below w.heap.size w w') : grK w' base v n k r G :=
  ⟨owns_below h.1 hb, fun i hi => owns_below (h.2.1 i hi) hb, h.2.2⟩

end Go.Proofs.Ytefpoapbodbenaa

namespace Go.Proofs.Ytefpoapbodbenaa
open Go.RowKit

/-- A grid that is read. -/
def rdG (w : World) (v : Value) (n : Nat) (A : Gr) : Prop := ∃ (go cap : Nat) (r : Nat → Nat), v = .slice (some ⟨go, 0, none⟩) (n + 1) cap ∧ go < w.heap.size ∧ (∀ i, i ≤ n → w.cell? ⟨go, i, none⟩ = some (.slice (some ⟨r i, 0, none⟩) (n + 1) (n + 1))) ∧ (∀ i, i ≤ n → r i < w.heap.size ∧ ∀ j, j ≤ n → w.cell? ⟨r i, j, none⟩ = some (.bool (A i j)))
theorem rdG.of {w : World} {base n : Nat} {v : Value} {G : Gr} (h : grd w base v n G) : rdG w v n G := by
  obtain ⟨r, hg⟩ := h
  obtain ⟨go, cap, rfl, -, hgo, hc⟩ := hg.outer
  refine ⟨go, cap, r, rfl, hgo, fun i hi => hc i (by omega), fun i hi => ⟨(hg.at (i := i) (j := 0) (by omega) (Nat.zero_le _)).2.2.2, fun j hj => (hg.at (i := i) (j := j) (by omega) hj).1⟩⟩
theorem rdG.below {w w' : World} {B n : Nat} {v : Value} {A : Gr} (h : rdG w v n A) (hb : Below B w w') (hB : w.heap.size ≤ B) : rdG w' v n A := by
  obtain ⟨go, cap, r, rfl, hgo, hc, hr⟩ := h
  have hs := hb.size
  refine ⟨go, cap, r, rfl, by omega, fun i hi => by rw [hb.cell (p := ⟨go, i, none⟩) (show go < B by omega)]; exact hc i hi, fun i hi => ⟨by have := (hr i hi).1; omega, fun j hj => ?_⟩⟩
  rw [hb.cell (p := ⟨r i, j, none⟩) (show r i < B by have := (hr i hi).1; omega)]
  exact (hr i hi).2 j hj
def eitB (A B : Gr) : Gr := fun i j => decide (i ≤ j) && (A i j || B i j)
/-- So far: the rows ahead of i, and row i ahead of j. -/
def eitC (A B : Gr) (i j : Nat) : Gr := fun x y => (decide (x < i) || (decide (x = i) && decide (y < j))) && eitB A B x y
theorem eitC_put (A B : Gr) (i j : Nat) (hij : i ≤ j) (x y : Nat) : putG (eitC A B i j) i j (A i j || B i j) x y = eitC A B i (j + 1) x y := by
  unfold putG
  by_cases h1 : x = i
  · subst h1
    rw [if_pos rfl]
    by_cases h2 : y = j
    · subst h2; rw [if_pos rfl]; unfold eitC eitB; simp [hij]
    · rw [if_neg h2]; unfold eitC
      have hx : (y < j) ↔ (y < j + 1) := by omega
      simp only [hx]
  · rw [if_neg h1]; unfold eitC; simp [h1]
theorem eitC_row (A B : Gr) (i n x y : Nat) (hy : y ≤ n) : eitC A B i (n + 1) x y = eitC A B (i + 1) 0 x y := by
  unfold eitC
  by_cases h1 : x < i
  · simp [h1, show x < i + 1 by omega]
  · by_cases h2 : x = i
    · subst h2; simp [show y < n + 1 by omega]
    · simp [h1, h2, show ¬ x < i + 1 by omega]
theorem eitC_start (A B : Gr) (i x y : Nat) : eitC A B i 0 x y = eitC A B i i x y := by
  unfold eitC eitB
  by_cases h2 : x = i
  · subst h2
    by_cases h3 : x ≤ y
    · simp [show ¬ y < x by omega]
    · simp [h3]
  · simp [h2]

end Go.Proofs.Ytefpoapbodbenaa

namespace Go.Proofs.Ytefpoapbodbenaa
open Go.RowKit

/-- Is there a place ahead of M at which the one ends and the other begins? -/
def behP (A B : Gr) (i j M : Nat) : Bool := (List.range M).any fun m => decide (i ≤ m) && decide (m ≤ j) && (A i m && B m j)
theorem behP_succ (A B : Gr) (i j M : Nat) : behP A B i j (M + 1) = (behP A B i j M || (decide (i ≤ M) && decide (M ≤ j) && (A i M && B M j))) := by
  unfold behP
  rw [List.range_succ, List.any_append]
  simp
theorem behP_none (A B : Gr) (i j M : Nat) (h : M ≤ i) : behP A B i j M = false := by
  unfold behP
  rw [List.any_eq_false]
  intro m hm
  have := List.mem_range.1 hm
  simp [show ¬ i ≤ m by omega]
/-- So far: the rows ahead of i; of row i the places ahead of m, and place m up to j. -/
def behC (n : Nat) (A B : Gr) (i m j : Nat) : Gr := fun x y =>
  if x < i then behB n A B x y else if x = i then behP A B i y m || (decide (y < j) && (decide (m ≤ y) && (A i m && B m y))) else false
theorem behC_put (n : Nat) (A B : Gr) (i m j : Nat) (him : i ≤ m) (hmj : m ≤ j) (ha : A i m = true) (x y : Nat) : putG (behC n A B i m j) i j (behC n A B i m j i j || B m j) x y = behC n A B i m (j + 1) x y := by
  unfold putG
  by_cases h1 : x = i
  · subst h1
    rw [if_pos rfl]
    by_cases h2 : y = j
    · subst h2
      rw [if_pos rfl]
      unfold behC
      simp [ha, hmj]
    · rw [if_neg h2]
      unfold behC
      have hx : (y < j) ↔ (y < j + 1) := by omega
      simp only [hx]
  · rw [if_neg h1]
    unfold behC
    by_cases h3 : x < i
    · rw [if_pos h3, if_pos h3]
    · rw [if_neg h3, if_neg h3, if_neg h1, if_neg h1]
theorem behC_col (n : Nat) (A B : Gr) (i m j : Nat) (him : i ≤ m) (h : j = n + 1 ∨ A i m = false) (x y : Nat) (hy : y ≤ n) : behC n A B i m j x y = behC n A B i (m + 1) (m + 1) x y := by
  unfold behC
  by_cases h3 : x < i
  · rw [if_pos h3, if_pos h3]
  · rw [if_neg h3, if_neg h3]
    by_cases h1 : x = i
    · subst h1
      rw [if_pos rfl, if_pos rfl, behP_succ, decide_eq_true him, Bool.true_and]
      have e2 : (decide (y < m + 1) && (decide (m + 1 ≤ y) && (A x (m + 1) && B (m + 1) y))) = false := by
        by_cases hq : y < m + 1
        · simp [show ¬ m + 1 ≤ y by omega]
        · simp [hq]
      rw [e2, Bool.or_false]
      rcases h with h | h
      · rw [h, decide_eq_true (show y < n + 1 by omega), Bool.true_and]
      · rw [h]; simp
    · rw [if_neg h1, if_neg h1]
theorem behC_row (n : Nat) (A B : Gr) (i j x y : Nat) (_hy : y ≤ n) : behC n A B i (n + 1) j x y = behC n A B (i + 1) (i + 1) (i + 1) x y := by
  have hb : behP A B i y (n + 1) = behB n A B i y := rfl
  unfold behC
  by_cases h3 : x < i
  · rw [if_pos h3, if_pos (by omega)]
  · rw [if_neg h3]
    by_cases h1 : x = i
    · subst h1
      rw [if_pos rfl, if_pos (by omega), hb, show decide (n + 1 ≤ y) = false from decide_eq_false (by omega)]
      simp
    · rw [if_neg h1]
      by_cases h4 : x < i + 1
      · omega
      · rw [if_neg h4]
        by_cases h5 : x = i + 1
        · rw [if_pos h5, behP_none A B _ _ _ (Nat.le_refl _)]
          by_cases hq : y < i + 1
          · simp [show ¬ i + 1 ≤ y by omega]
          · simp [hq]
        · rw [if_neg h5]
theorem behC_start (n : Nat) (A B : Gr) (x y : Nat) : behC n A B 0 0 0 x y = false := by
  unfold behC behP
  simp

end Go.Proofs.Ytefpoapbodbenaa

namespace Go.Proofs.Ytefpoapbodbenaa
open Go.RowKit

/-- What Fit tells: a grid of the call's own. -/
def fitPost (n : Nat) (F : Gr) (w : World) (e : Ending) (w' : World) : Prop := ∃ v, e = .returned v ∧ grd w' w.heap.size v n F ∧ Below w.heap.size w w'

end Go.Proofs.Ytefpoapbodbenaa

namespace Go.Proofs.Ytefpoapbodbenaa
open Go.RowKit

/-- The bytes of a text. -/
def tx7 (s : ByteArray) (x : Nat) : Nat := if h : x < s.size then (s[x]'h).toNat else 0
theorem tx7_lt (s : ByteArray) (x : Nat) : tx7 s x < 256 := by
  unfold tx7
  split
  · exact UInt8.toNat_lt _
  · decide
theorem ix_str (s : ByteArray) (x : Nat) (h : x < s.size) (hs : s.size ≤ 1000) (w : World) : (Instr.index 9 (.string s) (.int .i64 (x : Int))).run Try.prog w = .ok (.int .u8 (tx7 s x : Nat)) w := by
  have h0 : (0 : Int) ≤ (x : Int) := by omega
  have h1 : (x : Int) < (s.size : Int) := by omega
  have hw : IntKind.i64.wrap (x : Int) = (x : Int) := by rw [IntKind.wrap_i64]; omega
  unfold tx7
  rw [dif_pos h]
  go_simp
/-- So far: the places ahead of x. -/
def setC (f : Nat → Bool) (tx : Nat → Nat) (x : Nat) : Gr := fun a c => decide (a < x) && (decide (c = a + 1) && f (tx a))
theorem setC_put (f : Nat → Bool) (tx : Nat → Nat) (x a c : Nat) : putG (setC f tx x) x (x + 1) (f (tx x)) a c = setC f tx (x + 1) a c := by
  unfold putG setC
  by_cases h1 : a = x
  · subst h1
    rw [if_pos rfl]
    by_cases h2 : c = a + 1
    · rw [if_pos h2, decide_eq_true h2, decide_eq_true (show a < a + 1 by omega)]; rfl
    · rw [if_neg h2, decide_eq_false h2]; simp
  · rw [if_neg h1]
    have hx : (a < x) ↔ (a < x + 1) := by omega
    simp only [hx]

end Go.Proofs.Ytefpoapbodbenaa

namespace Go.Proofs.Ytefpoapbodbenaa
open Go.RowKit

theorem lit_rdL (w : World) (x : Int) : rdL (w.alloc (.cells #[.int .i64 x] 3)) (some ⟨w.heap.size, 0, none⟩) 1 (fun _ => x) := fun j hj => by
  obtain rfl : j = 0 := by omega
  exact ⟨_, _, rfl, by simp, by simp⟩
/-- So many bytes from a place on, as the reference takes them. -/
def rF (S : Nat → Sd) (m : Nat) (tx : Nat → Nat) : Nat → Nat → (Nat → Bool) → Nat → Bool
  | _, 0, T => T
  | i, k + 1, T => rF S m tx (i + 1) k (upN S 0 m (stR S (tx i) T m) m)
theorem rF_last (S : Nat → Sd) (m : Nat) (tx : Nat → Nat) : ∀ k i T, rF S m tx i (k + 1) T = upN S 0 m (stR S (tx (i + k)) (rF S m tx i k T) m) m
  | 0, _, _ => rfl
  | k + 1, i, T => by
    show rF S m tx (i + 1) (k + 1) _ = _
    rw [rF_last S m tx k (i + 1) _, show i + 1 + k = i + (k + 1) by omega]; rfl
def aF (S : Nat → Sd) (m : Nat) (st : Int) : Nat → Bool := upN S 0 m (inL m (fun _ => st) 1) m
/-- What leads to the end, as the reference counts it. -/
def fF (S : Nat → Sd) (m n : Nat) (tx : Nat → Nat) (st : Int) (fin i j : Nat) : Bool :=
  if n = 0 then upN S 258 m (aF S m st) m fin
  else if j = n then upN S 257 m (rF S m tx i (j - i) (if i = 0 then upN S 256 m (aF S m st) m else aF S m st)) m fin
  else rF S m tx i (j - i) (if i = 0 then upN S 256 m (aF S m st) m else aF S m st) fin

end Go.Proofs.Ytefpoapbodbenaa

namespace Go.Proofs.Ytefpoapbodbenaa
open Go.RowKit

@[reducible] def nfV (p : Option Addr) (m cap : Nat) (st fin : Int) : Value := .agg #[.slice p m cap, .int .i64 st, .int .i64 fin]
def fin9 : Sd := ⟨6, 0, 0, 0, 0, 0, 0⟩
/-- The states that a slice holds. -/
def stsAt (w : World) (p : Option Addr) (m : Nat) (S : Nat → Sd) : Prop := (m = 0 ∨ ∃ b off, p = some ⟨b, off, none⟩) ∧ ∀ b off, p = some ⟨b, off, none⟩ → rdS w b off m S
def bldPost (N : Nat → Nd) (n : Nat) (w : World) (e : Ending) (w' : World) : Prop :=
  (¬ tree N n → ∃ p c, e = .returned (.tuple #[nfV p 0 c 0 0, .int .i64 3]) ∧ Below w.heap.size w w') ∧
  (tree N n → 600 < nst (trT N (n - 1)) → ∃ p c st fin, e = .returned (.tuple #[nfV p 0 c st fin, .int .i64 4]) ∧ Below w.heap.size w w') ∧
  (tree N n → nst (trT N (n - 1)) ≤ 600 → ∃ g o c S, ∃ f l : Nat, e = .returned (.tuple #[nfV (some ⟨g, o, none⟩) (nst (trT N (n - 1))) c f l, .int .i64 0]) ∧ rdS w' g o (nst (trT N (n - 1))) S ∧ nst (trT N (n - 1)) ≤ c ∧
    isFr S (trT N (n - 1)) 0 f l ∧ S l = fin9 ∧ Below w.heap.size w w')
/-- A rising list of what is so; of none, where an automaton may not be. -/
def tldPost (R : Prop) (m : Nat) (P : Nat → Prop) (w : World) (e : Ending) (w' : World) : Prop :=
  ∃ q k c l, e = .returned (.slice q k c) ∧ rdL w' q k l ∧ Below w.heap.size w w' ∧ (¬ R → k = 0) ∧ (R → ∀ T : Nat → Bool, (∀ x, x < m → (T x = true ↔ P x)) → k = cntT T m ∧ ∀ i, i < m → T i = true → l (cntT T i) = i)
/-- What a list names. -/
def nmd (m n : Nat) (l : Nat → Int) (q : Nat) : Prop := q < m ∧ ∃ i, i < n ∧ l i = (q : Int)
def fitC (S : Nat → Sd) (m : Nat) (st fin : Int) (s : ByteArray) (i j : Int) : Prop := rightP S m st fin ∧ 0 ≤ i ∧ i ≤ j ∧ j ≤ s.size ∧ fitsP S s.size (tx7 s) st.toNat fin.toNat i.toNat j.toNat
end Go.Proofs.Ytefpoapbodbenaa

namespace Go.Proofs.Ytefpoapbodbenaa
open Go.RowKit

theorem cntT_onto {T : Nat → Bool} : ∀ {m j}, j < cntT T m → ∃ i, i < m ∧ T i = true ∧ cntT T i = j
  | 0, j, h => absurd h (Nat.not_lt_zero _)
  | m + 1, j, h => by
    rw [cntT_succ] at h
    by_cases e : j < cntT T m
    · obtain ⟨i, h1, h2, h3⟩ := cntT_onto e
      exact ⟨i, by omega, h2, h3⟩
    · by_cases hT : T m = true
      · rw [if_pos hT] at h
        exact ⟨m, by omega, hT, by omega⟩
      · rw [if_neg hT] at h; omega
/-- What a rising list tells is one list. -/
theorem tld_one {R : Prop} {m k1 k2 : Nat} {P : Nat → Prop} {l1 l2 : Nat → Int} (n1 : ¬ R → k1 = 0) (n2 : ¬ R → k2 = 0)
    (h1 : R → ∀ T : Nat → Bool, (∀ x, x < m → (T x = true ↔ P x)) → k1 = cntT T m ∧ ∀ i, i < m → T i = true → l1 (cntT T i) = i)
    (h2 : R → ∀ T : Nat → Bool, (∀ x, x < m → (T x = true ↔ P x)) → k2 = cntT T m ∧ ∀ i, i < m → T i = true → l2 (cntT T i) = i) : k1 = k2 ∧ ∀ j, j < k1 → l1 j = l2 j := by
  by_cases hR : R
  · obtain ⟨T, hT⟩ : ∃ T : Nat → Bool, ∀ x, (T x = true ↔ P x) := by
      refine ⟨fun x => @decide (P x) (Classical.propDecidable _), fun x => ?_⟩
      simp
    obtain ⟨e1, g1⟩ := h1 hR T fun x _ => hT x
    obtain ⟨e2, g2⟩ := h2 hR T fun x _ => hT x
    refine ⟨by omega, fun j hj => ?_⟩
    obtain ⟨i, i1, i2, i3⟩ := cntT_onto (T := T) (m := m) (j := j) (by omega)
    rw [← i3, g1 i i1 i2, g2 i i1 i2]
  · rw [n1 hR, n2 hR]
    exact ⟨rfl, fun j hj => absurd hj (Nat.not_lt_zero _)⟩
theorem By_alike {S : Nat → Sd} {m a b n : Nat} {l : Nat → Int} (h : alk S m a b = true) : By S a (nmd m n l) = By S b (nmd m n l) := by
  have key : ∀ q0, q0 < m → sOf (S q0) a = sOf (S q0) b := by
    intro q0 hq
    rcases alk_iff.1 h with rfl | ⟨_, _, h3⟩
    · rfl
    · exact h3 q0 hq
  funext q
  apply propext
  constructor
  · rintro ⟨q0, h0, h1, h2, h3⟩; exact ⟨q0, h0, h1, by rw [← key q0 h0.1]; exact h2, h3⟩
  · rintro ⟨q0, h0, h1, h2, h3⟩; exact ⟨q0, h0, h1, by rw [key q0 h0.1]; exact h2, h3⟩
end Go.Proofs.Ytefpoapbodbenaa

namespace Go.Proofs.Ytefpoapbodbenaa

abbrev Bf := Nat → Bool
/-- Are two sets the same below m? -/
def eqS (m : Nat) (T U : Bf) : Bool := (List.range m).all fun k => T k == U k
theorem eqS_iff {m : Nat} {T U : Bf} : eqS m T U = true ↔ ∀ k, k < m → T k = U k := by
  unfold eqS
  simp only [List.all_eq_true, List.mem_range, beq_iff_eq]
/-- The place of a set among some; how many they are, if it is none of them. -/
def fiS (m : Nat) (L : List Bf) (x : Bf) : Nat := L.findIdx fun T => eqS m T x
theorem fiS_le (m : Nat) (L : List Bf) (x : Bf) : fiS m L x ≤ L.length := List.findIdx_le_length
def adS (m : Nat) (L : List Bf) (x : Bf) : List Bf := if fiS m L x < L.length then L else L ++ [x]
theorem adS_len (m : Nat) (L : List Bf) (x : Bf) : L.length ≤ (adS m L x).length ∧ (adS m L x).length ≤ L.length + 1 := by
  unfold adS
  split
  · omega
  · simp
theorem adS_old {m : Nat} {L : List Bf} {x : Bf} {j : Nat} (h : j < L.length) : (adS m L x)[j]? = L[j]? := by
  unfold adS
  split
  · rfl
  · rw [List.getElem?_append_left h]
theorem fiS_lt (m : Nat) (L : List Bf) (x : Bf) : fiS m L x < (adS m L x).length := by
  have := fiS_le m L x
  unfold adS
  split
  · assumption
  · simp; omega
theorem fiS_at (m : Nat) (L : List Bf) (x : Bf) : ∃ T, (adS m L x)[fiS m L x]? = some T ∧ ∀ k, k < m → T k = x k := by
  have hle := fiS_le m L x
  unfold adS
  split
  · rename_i h
    refine ⟨L[fiS m L x], List.getElem?_eq_getElem h, ?_⟩
    have := List.findIdx_getElem (p := fun T => eqS m T x) (xs := L) (w := h)
    exact eqS_iff.1 this
  · rename_i h
    have e : fiS m L x = L.length := by omega
    refine ⟨x, by rw [e]; simp, fun _ _ => rfl⟩
theorem fiS_is {m : Nat} {L : List Bf} {x : Bf} {j : Nat} (hj : j < L.length) (h : eqS m L[j] x = true) (hn : ∀ i (hi : i < j), eqS m (L[i]'(Nat.lt_trans hi hj)) x = false) : fiS m L x = j := by
  unfold fiS
  rw [List.findIdx_eq hj]
  exact ⟨h, fun i hi => hn i hi⟩
theorem fiS_none {m : Nat} {L : List Bf} {x : Bf} (h : ∀ i (hi : i < L.length), eqS m L[i] x = false) : fiS m L x = L.length := by
  unfold fiS
  rw [List.findIdx_eq_length]
  intro T hT
  obtain ⟨i, hi, rfl⟩ := List.getElem_of_mem hT
  exact h i hi
/-- Sets, and where they go. -/
abbrev Ms := List Bf × List Nat
/-- One set goes by the first c classes. -/
def clM (go : Nat → Bf → Bf) (m : Nat) (X : Bf) : Nat → Ms → Ms
  | 0, s => s
  | c + 1, s => (adS m (clM go m X c s).1 (go c X), (clM go m X c s).2 ++ [fiS m (clM go m X c s).1 (go c X)])
/-- Behind a rounds. -/
def atM (go : Nat → Bf → Bf) (m width : Nat) (T0 : Bf) : Nat → Ms
  | 0 => ([T0], [])
  | a + 1 => match (atM go m width T0 a).1[a]? with
    | none => atM go m width T0 a
    | some X => clM go m X width (atM go m width T0 a)
variable {go : Nat → Bf → Bf} {m width : Nat} {T0 : Bf}
theorem clM_len {X : Bf} {s : Ms} : ∀ c, s.1.length ≤ (clM go m X c s).1.length ∧ (clM go m X c s).1.length ≤ s.1.length + c ∧ (clM go m X c s).2.length = s.2.length + c
  | 0 => ⟨Nat.le_refl _, Nat.le_refl _, rfl⟩
  | c + 1 => by
    obtain ⟨h1, h2, h3⟩ := clM_len (X := X) (s := s) c
    have h4 := adS_len m (clM go m X c s).1 (go c X)
    refine ⟨?_, ?_, ?_⟩
    · show _ ≤ (adS m _ _).length; omega
    · show (adS m _ _).length ≤ _; omega
    · show (_ ++ [_]).length = _
      rw [List.length_append, h3]; rfl
theorem clM_old {X : Bf} {s : Ms} {j : Nat} (hj : j < s.1.length) : ∀ c, (clM go m X c s).1[j]? = s.1[j]?
  | 0 => rfl
  | c + 1 => by
    show (adS m _ _)[j]? = _
    rw [adS_old (Nat.lt_of_lt_of_le hj (clM_len c).1), clM_old hj c]
theorem atM_go {a : Nat} {X : Bf} (h : (atM go m width T0 a).1[a]? = some X) : atM go m width T0 (a + 1) = clM go m X width (atM go m width T0 a) := by
  show (match (atM go m width T0 a).1[a]? with | none => _ | some X => _) = _
  rw [h]
theorem atM_stay {a : Nat} (h : (atM go m width T0 a).1.length ≤ a) : atM go m width T0 (a + 1) = atM go m width T0 a := by
  show (match (atM go m width T0 a).1[a]? with | none => _ | some X => _) = _
  rw [List.getElem?_eq_none h]
theorem atM_mono (a : Nat) : (atM go m width T0 a).1.length ≤ (atM go m width T0 (a + 1)).1.length := by
  cases h : (atM go m width T0 a).1[a]? with
  | none => rw [atM_stay (List.getElem?_eq_none_iff.1 h)]; exact Nat.le_refl _
  | some X => rw [atM_go h]; exact (clM_len width).1
theorem atM_le {a b : Nat} (h : a ≤ b) : (atM go m width T0 a).1.length ≤ (atM go m width T0 b).1.length := by
  induction b with
  | zero => have : a = 0 := by omega
            subst this; exact Nat.le_refl _
  | succ b ih =>
    by_cases e : a = b + 1
    · subst e; exact Nat.le_refl _
    · exact Nat.le_trans (ih (by omega)) (atM_mono b)
theorem atM_one (a : Nat) : 1 ≤ (atM go m width T0 a).1.length := atM_le (a := 0) (Nat.zero_le a)
theorem atM_end {a b : Nat} (hab : a ≤ b) (h : (atM go m width T0 a).1.length ≤ a) : atM go m width T0 b = atM go m width T0 a := by
  induction b with
  | zero => have : a = 0 := by omega
            subst this; rfl
  | succ b ih =>
    by_cases e : a = b + 1
    · subst e; rfl
    · have := ih (by omega)
      rw [atM_stay (by rw [this]; omega), this]
theorem atM_old {a b j : Nat} (hab : a ≤ b) (hj : j < (atM go m width T0 a).1.length) : (atM go m width T0 b).1[j]? = (atM go m width T0 a).1[j]? := by
  induction b with
  | zero => have : a = 0 := by omega
            subst this; rfl
  | succ b ih =>
    by_cases e : a = b + 1
    · subst e; rfl
    · have := ih (by omega)
      have hl := atM_le (go := go) (m := m) (width := width) (T0 := T0) (show a ≤ b by omega)
      rw [← this]
      cases h : (atM go m width T0 b).1[b]? with
      | none => rw [atM_stay (List.getElem?_eq_none_iff.1 h)]
      | some X => rw [atM_go h]; exact clM_old (by omega) width
/-- How many rounds there are at most, where no more than so many states are let be. -/
def rdM (most : Int) : Nat := (most + 1).toNat
/-- All that is decided, where no more than so many states are let be. -/
def fullM (go : Nat → Bf → Bf) (m width : Nat) (T0 : Bf) (most : Int) : Ms := atM go m width T0 (rdM most)
/-- Where a loop over the sets ends. -/
theorem atM_stop {most : Int} {a : Nat} (ha : ∀ b, b < a → b < (atM go m width T0 b).1.length ∧ ((atM go m width T0 b).1.length : Int) ≤ most) :
    (most < (atM go m width T0 a).1.length → most < (fullM go m width T0 most).1.length) ∧
    ((atM go m width T0 a).1.length ≤ a → ((atM go m width T0 a).1.length : Int) ≤ most → fullM go m width T0 most = atM go m width T0 a) := by
  have hle : a ≤ rdM most := by
    unfold rdM
    rcases Nat.eq_zero_or_pos a with rfl | h
    · omega
    · have := ha (a - 1) (by omega)
      omega
  refine ⟨fun h => ?_, fun h h2 => atM_end hle h⟩
  have := atM_le (go := go) (m := m) (width := width) (T0 := T0) hle
  unfold fullM
  omega
/-- Where a set goes by a symbol. -/
def goY (S : Nat → Sd) (m y : Nat) (T : Bf) : Bf := if y < 256 then upN S 0 m (stR S y T m) m else upN S (y : Int) m T m
/-- The classes' first places. -/
def fsY (S : Nat → Sd) (m c : Nat) : Nat := (fsA (fun x => (clA (alk S m) x : Nat)) 259 (c : Nat)).toNat
def goC (S : Nat → Sd) (m c : Nat) (T : Bf) : Bf := goY S m (fsY S m c) T
def wdY (S : Nat → Sd) (m : Nat) : Nat := cntT (isH (alk S m)) 259
def T0Y (S : Nat → Sd) (m : Nat) (st : Int) : Bf := upN S 0 m (inL m (fun _ => st) 1) m
/-- The decided automaton of one that may be. -/
def subM (S : Nat → Sd) (m : Nat) (st most : Int) : Ms := fullM (goC S m) m (wdY S m) (T0Y S m st) most
end Go.Proofs.Ytefpoapbodbenaa

namespace Go.Proofs.Ytefpoapbodbenaa

section
variable {S : Nat → Sd} {m : Nat}
/-- What is true, as a set of states. -/
def pT (m : Nat) (T : Nat → Bool) (q : Nat) : Prop := q < m ∧ T q = true
theorem rt_lt {sym : Int} (hr : rng S m) {a q : Nat} (ha : a < m) (h : rt S sym a q) : q < m := by
  induction h with
  | refl => exact ha
  | @tail q' q'' _ he ih =>
    obtain ⟨_, _, a1, a2, b1, b2⟩ := hr q' ih
    rcases he with ⟨_, h⟩ | ⟨_, h⟩ <;> omega
theorem pT_up {sym : Int} {T : Nat → Bool} (hr : rng S m) : pT m (upN S sym m T m) = Cl S sym (pT m T) := by
  funext q
  apply propext
  constructor
  · rintro ⟨h1, h2⟩; exact (upN_iff hr h1).1 h2
  · intro h
    obtain ⟨q0, h1, h2⟩ := h
    have hq := rt_lt hr h1.1 h2
    exact ⟨hq, (upN_iff hr hq).2 ⟨q0, h1, h2⟩⟩
theorem pT_st {y : Nat} {T : Nat → Bool} (hr : rng S m) : pT m (stR S y T m) = By S y (pT m T) := by
  funext q
  apply propext
  constructor
  · rintro ⟨h1, h2⟩
    obtain ⟨q0, k1, k2, k3, k4, k5⟩ := (stR_iff hr (Nat.le_refl _)).1 h2
    exact ⟨q0, ⟨k1, k2⟩, k3, k4, k5⟩
  · rintro ⟨q0, ⟨k1, k2⟩, k3, k4, k5⟩
    obtain ⟨_, _, a1, a2, _, _⟩ := hr q0 k1
    exact ⟨by omega, (stR_iff hr (Nat.le_refl _)).2 ⟨q0, k1, k2, k3, k4, k5⟩⟩
theorem pT_in {s : Nat} (hs : s < m) : pT m (inL m (fun _ => (s : Int)) 1) = fun q => q = s := by
  funext q
  apply propext
  constructor
  · rintro ⟨h1, h2⟩
    obtain ⟨_, _, h⟩ := (inL_iff h1).1 h2
    omega
  · rintro rfl
    exact ⟨hs, (inL_iff hs).2 ⟨0, by omega, rfl⟩⟩
theorem pT_rF {tx : Nat → Nat} (hr : rng S m) : ∀ {k i T}, pT m (rF S m tx i k T) = runF S tx i k (pT m T)
  | 0, _, _ => rfl
  | k + 1, i, T => by
    show pT m (rF S m tx (i + 1) k (upN S 0 m (stR S (tx i) T m) m)) = runF S tx (i + 1) k (Cl S 0 (By S (tx i) (pT m T)))
    rw [pT_rF hr, pT_up hr, pT_st hr]
theorem fF_iff {n : Nat} {tx : Nat → Nat} {s fin i j : Nat} (hr : rng S m) (hs : s < m) (hf : fin < m) : fF S m n tx (s : Int) fin i j = true ↔ fitsP S n tx s fin i j := by
  have h0 : pT m (aF S m (s : Int)) = Cl S 0 fun q => q = s := by unfold aF; rw [pT_up hr, pT_in hs]
  have h1 : pT m (if i = 0 then upN S 256 m (aF S m (s : Int)) m else aF S m (s : Int)) = if i = 0 then Cl S 256 (Cl S 0 fun q => q = s) else Cl S 0 fun q => q = s := by
    by_cases hi : i = 0
    · rw [if_pos hi, if_pos hi, pT_up hr, h0]
    · rw [if_neg hi, if_neg hi, h0]
  have key : ∀ T : Nat → Bool, T fin = true ↔ pT m T fin := fun T => ⟨fun h => ⟨hf, h⟩, fun h => h.2⟩
  unfold fF fitsP
  by_cases hn : n = 0
  · rw [if_pos hn, if_pos hn, key, pT_up hr, h0]
  · rw [if_neg hn, if_neg hn]
    by_cases hj : j = n
    · rw [if_pos hj, if_pos hj, key, pT_up hr, pT_rF hr, h1]
    · rw [if_neg hj, if_neg hj, key, pT_rF hr, h1]
/-- An automaton of a tree, its last state the final one, may be. -/
theorem fr_right {t : Tr} (h : okT t) {f l : Nat} (hS : isFr S t 0 f l) (hl : S l = ⟨6, 0, 0, 0, 0, 0, 0⟩) (hn : nst t ≤ 600) : rightP S (nst t) f l := by
  have hb := fr_bd S t 0 f l hS
  have h2 := nst_two t
  have hk : ∀ q, q < nst t → q ≠ l → okS 0 (0 + nst t) (S q) := fun q hq hn' => fr_ok t h 0 f l hS q (Nat.zero_le _) (by omega) hn'
  have h6 : ∀ q, q < nst t → (six S q = true ↔ q = l) := fun q hq => by
    unfold six
    by_cases e : q = l
    · subst e; rw [hl]; simp
    · obtain ⟨k1, k2, _⟩ := hk q hq e
      constructor
      · intro g; rw [beq_iff_eq] at g; omega
      · intro g; exact absurd g e
  refine ⟨by omega, fun q hq => ?_, ?_, by rw [Int.toNat_natCast, hl]⟩
  · by_cases e : q = l
    · subst e
      unfold okQ
      rw [hl]
      exact ⟨⟨by show (1 : Int) ≤ 6; decide, by show (6 : Int) ≤ 6; decide, by show (0 : Int) ≤ 0; decide, by show (0 : Int) < _; omega, by show (0 : Int) ≤ 0; decide, by show (0 : Int) < _; omega⟩, .inr ⟨rfl, rfl, rfl, rfl⟩, .inr rfl, fun _ => rfl⟩
    · obtain ⟨k1, k2, k3, k4, k5, k6, k7⟩ := hk q hq e
      rw [Nat.zero_add] at k4 k5
      have hB : 0 ≤ (S q).B ∧ (S q).B < (nst t : Nat) := by
        by_cases e3 : (S q).k = 3
        · have := k5 e3; omega
        · have := k6 e3; omega
      refine ⟨⟨k1, by omega, by omega, k4, hB.1, hB.2⟩, ?_, ?_, fun g => by omega⟩
      · by_cases e1 : (S q).k = 1
        · exact .inl e1
        · exact .inr (k7 e1)
      · by_cases e3 : (S q).k = 3
        · exact .inl e3
        · exact .inr (k6 e3)
  · have main : ∀ M, M ≤ nst t → cntT (six S) M = if l < M then 1 else 0 := by
      intro M
      induction M with
      | zero => intro _; rfl
      | succ M ih =>
        intro hM
        rw [cntT_succ, ih (by omega)]
        have := h6 M (by omega)
        by_cases e : M = l
        · rw [if_pos (this.2 e), if_neg (by omega), if_pos (by omega)]
        · rw [if_neg (fun g => e (this.1 g))]
          by_cases g : l < M
          · rw [if_pos g, if_pos (by omega)]
          · rw [if_neg g, if_neg (by omega)]
    rw [main _ (Nat.le_refl _), if_pos (by omega)]
end
end Go.Proofs.Ytefpoapbodbenaa

namespace Go.Proofs.Ytefpoapbodbenaa
open Go.RowKit

def fnv (f : Nat → Int) (n : Nat) : List Value := (List.range n).map fun j => Value.int .i64 (f j)
theorem fnv_len (f : Nat → Int) (n : Nat) : (fnv f n).length = n := by simp [fnv]
theorem fnv_succ (f : Nat → Int) (n : Nat) : fnv f (n + 1) = fnv f n ++ [.int .i64 (f n)] := by simp [fnv, List.range_succ]
theorem fnv_at (f : Nat → Int) (n j : Nat) (h : j < n) : (fnv f n)[j]? = some (.int .i64 (f j)) := by simp [fnv, h]
def spF (w : World) (base : Nat) (v : Value) (f : Nat → Int) (n : Nat) : Prop := w.ownsRow base 3 1 v n (fnv f n)
theorem spF_zero (w : World) (base : Nat) (f : Nat → Int) : spF w base (.slice none 0 0) f 0 := ⟨rfl, .inl ⟨rfl, rfl⟩⟩
theorem spF.below {w w' : World} {base : Nat} {v : Value} {f : Nat → Int} {n : Nat} (h : spF w base v f n) (hb : Below w.heap.size w w') : spF w' base v f n := owns_below h hb
theorem spF_of {w : World} {base : Nat} {v : Value} {f : Nat → Int} {n : Nat} (h : spF w base v f n) : ∃ p c, v = .slice p n c := by
  rcases id h.2 with ⟨rfl, h0⟩ | ⟨g, cap, cur, rfl, _⟩
  · exact ⟨none, 0, by rw [h0]⟩
  · exact ⟨_, cap, rfl⟩
theorem spF.rd {w : World} {base : Nat} {p : Option Addr} {c : Nat} {f : Nat → Int} {n : Nat} (h : spF w base (.slice p n c) f n) : rdL w p n f := fun j hj => by
  rcases id h.2 with ⟨_, e⟩ | ⟨g, cp, cur, e, _⟩
  · omega
  · cases e
    refine ⟨g, 0, rfl, (World.ownsRow.lt h g rfl).2, ?_⟩
    rw [Nat.zero_add, World.ownsRow.cellAt h j (by omega)]
    exact fnv_at f n j hj
theorem spF.grow {w w' : World} {base B : Nat} {v : Value} {f : Nat → Int} {n : Nat} (hB : B ≤ base) (hw : B ≤ w.heap.size) (ho : spF w base v f n) (h : w.grownBy w' v.ownBlock) : Below B w w' :=
  (Below.refl B w).grown h hw (fun r hr => Nat.le_trans hB (ho.lt r hr).1)
theorem append_fn {w : World} {ops : Array Oper} {rest : List Oper} {o : Oper} {a : Act} {Q : Exit → Act → World → Prop} (hgd : o.guard = none) (s x : Operand)
    (ho : o.op = .call { callee := .builtin .append, args := #[s, x], argTypes := #[22, 22] }) (base : Nat) (v : Value) (f : Nat → Int) (n : Nat) (hs : a.eval s = v)
    (hown : spF w base v f n) (g : Nat) (x0 : Int) (hf : f n = x0) (hx : a.eval x = .slice (some ⟨g, 0, none⟩) 1 1)
    (hcell : w.cell? ⟨g, 0, none⟩ = some (.int .i64 x0)) (hlen : n ≤ 10000) (hbase : base ≤ w.heap.size)
    (h : ∀ v' w', spF w' base v' f (n + 1) → w.grownBy w' v.ownBlock → wpList Try.prog ops Q rest (a.put o.dst v') w') : wpList Try.prog ops Q (o :: rest) a w := by
  obtain ⟨i0, hi, hz0, hz1, hz2⟩ := info_parts infoInt9w
  refine wpList_append_own w hgd s x 22 ho base 3 i0 (.int .i64 0) 1 8 Try.underlying22 hi hz0 hz1 hz2 rfl (by decide) v n (fnv f n) hs hown ⟨g, 0, none⟩ 1 1 [.int .i64 x0] hx rfl ?_ ?_ (by unfold maxLen; omega) (by omega) hbase ?_
  · intro j u hu
    match j, hu with
    | 0, hu => simp at hu; subst hu; simpa [Addr.add] using hcell
  · intro u hu
    have : u = .int .i64 x0 := by simpa using hu
    subst this; rfl
  · intro v' w' h1 h2 _
    refine h v' w' ?_ h2
    rw [← hf, ← fnv_succ] at h1
    exact h1

set_option maxRecDepth 100000 in
set_option maxHeartbeats 4000000 in
theorem same10 (q : Option Addr) (n c : Nat) (l : Nat → Int) (q' : Option Addr) (n' c' : Nat) (l' : Nat → Int) (r : Bool) (hr : r = true ↔ n = n' ∧ ∀ j, j < n → l j = l' j) (hn : n ≤ 100000) (hn' : n' ≤ 100000) (w : World) (hl : rdL w q n l) (hl' : rdL w q' n' l') :
    Calls Try.prog 13 #[.slice q n c, .slice q' n' c'] w fun e w' => e = .returned (.bool r) ∧ Below w.heap.size w w' := by
  have HL := Lib.hid hl; have HL' := Lib.hid hl'
  by_cases hnn : n = n'
  · subst hnn
    have hb : ((n : Int) != (n : Int)) = false := by simp
    have HR : Hid (r = true ↔ ∀ j, j < n → l j = l' j) := Lib.hid (hr.trans ⟨fun h => h.2, fun h => ⟨rfl, h⟩⟩)
    have n0 : (0 : Int) ≤ (n : Int) := by omega
    clear hr hl hl'
    go_enter Try.func13, Try.ntmps13
    go_wp2_with fail
    go_loopw [5] (fun iv wr => ∃ i : Nat, i ≤ n ∧ iv = .int .i64 i ∧ Hid (∀ j, j < i → l j = l' j) ∧ Hid (Below w.heap.size w wr)) (fun iv _ => n - (intOf iv).toNat)
    case atStart => exact ⟨0, Nat.zero_le _, rfl, Lib.hid (fun _ h => absurd h (Nat.not_lt_zero _)), Lib.hid (Below.refl _ _)⟩
    case round =>
      obtain ⟨i, hi, rfl, HQ, HB⟩ := hrel
      by_cases hlti : i < n
      · have i0 : (0 : Int) ≤ (i : Int) := by omega
        have i1 : (i : Int) < (n : Int) := by omega
        obtain ⟨lb, lo, rfl, hlb, hlc⟩ := (HL.out.below HB.out) i hlti
        obtain ⟨lb', lo', rfl, hlb', hlc'⟩ := (HL'.out.below HB.out) i hlti
        obtain ⟨u, hu⟩ : ∃ u, l i = u := ⟨_, rfl⟩
        obtain ⟨u', hu'⟩ : ∃ u', l' i = u' := ⟨_, rfl⟩
        have HU := Lib.hid hu; have HU' := Lib.hid hu'
        rw [hu] at hlc; rw [hu'] at hlc'
        clear hu hu'
        cases hx : (u != u')
        · have HQ2 : Hid (∀ j, j < i + 1 → l j = l' j) := Lib.hid fun j hj => by
            by_cases e : j = i
            · subst e; rw [HU.out, HU'.out]; simpa using hx
            · exact HQ.out j (by omega)
          go_wp2_with fail
          go_quiet (fail)
          have HBd := Lib.hid (below_drewN nq HB.out)
          go_wp2_with fail
          go_roundw
          case rel => exact ⟨i + 1, by omega, by go_num, HQ2, HBd⟩
          case measure => simp [intOf]; omega
        · have HE : Hid (r = false) := Lib.hid (by
            cases r with
            | false => rfl
            | true =>
              have := HR.out.1 rfl i hlti
              rw [HU.out, HU'.out] at this
              subst this
              simp at hx)
          go_wp2_with fail
          go_quiet (fail)
          have HBd := Lib.hid (below_drewN nq HB.out)
          go_wp2_with fail
          go_returns
          exact ⟨by rw [HE.out] <;> rfl, HBd.out⟩
      · obtain rfl : i = n := by omega
        have HE : Hid (r = true) := Lib.hid (HR.out.2 HQ.out)
        go_wp2_with fail
        go_returns
        exact ⟨by rw [HE.out] <;> rfl, HB.out⟩
  · have hb : ((n : Int) != (n' : Int)) = true := by simp; omega
    have HE : Hid (r = false) := Lib.hid (by
      cases r with
      | false => rfl
      | true => exact absurd (hr.1 rfl).1 hnn)
    clear hr hnn
    go_enter Try.func13, Try.ntmps13
    go_wp2_with fail
    go_returns
    exact ⟨by rw [HE.out] <;> rfl, Below.refl _ _⟩

set_option maxRecDepth 100000 in
set_option maxHeartbeats 8000000 in
theorem num10 (R : Nat → Nat → Bool) (hR : eqR R) (q : Option Addr) (n c : Nat) (hn : n ≤ 1000) (w : World) (hl : rdL w q n (fun x => (hdA R x : Nat))) :
    Calls Try.prog 45 #[.slice q n c] w fun e w' => ∃ q' c', e = .returned (.tuple #[.slice q' n c', .int .i64 (cntT (isH R) n : Nat)]) ∧ rdL w' q' n (fun x => (clA R x : Nat)) ∧ Below w.heap.size w w' := by
  have HL := Lib.hid hl; have HRR := Lib.hid hR
  have n0 : (0 : Int) ≤ (n : Int) := by omega
  have HO0 := Lib.hid (spF_zero w w.heap.size (fun x => (clA R x : Nat)))
  have HC0 : Hid (cntT (isH R) 0 = 0) := Lib.hid rfl
  clear hl hR
  go_enter Try.func45, Try.ntmps45
  go_wp2_with fail
  go_loopw [4, 5, 6] (fun tv nv iv wr => ∃ i : Nat, i ≤ n ∧ iv = .int .i64 i ∧ nv = .int .i64 (cntT (isH R) i : Nat) ∧ Hid (spF wr w.heap.size tv (fun x => (clA R x : Nat)) i) ∧ Hid (Below w.heap.size w wr)) (fun _ _ iv _ => n - (intOf iv).toNat)
  case atStart => exact ⟨0, Nat.zero_le _, rfl, by rw [HC0.out]; rfl, HO0, Lib.hid (Below.refl _ _)⟩
  case round =>
    clear HO0 HC0
    obtain ⟨i, hi, rfl, rfl, HO, HB⟩ := hrel
    have hcle := cntT_le (isH R) i
    have hcs := cntT_succ (isH R) i
    by_cases hlti : i < n
    · have i0 : (0 : Int) ≤ (i : Int) := by omega
      have i1 : (i : Int) < (n : Int) := by omega
      obtain ⟨lb, lo, rfl, hlb, hlc⟩ := (HL.out.below HB.out) i hlti
      simp only at hlc
      have hHle := hdA_le R i
      obtain ⟨k, hk⟩ : ∃ k, hdA R i = k := ⟨_, rfl⟩
      rw [hk] at hlc hHle
      have HK := Lib.hid hk
      obtain ⟨ct, hct⟩ : ∃ ct, cntT (isH R) i = ct := ⟨_, rfl⟩
      rw [hct] at hcle hcs ⊢
      have HS := HB.out.size
      by_cases hki : k = i
      · subst hki
        have hh : isH R k = true := by unfold isH; rw [HK.out]; simp
        rw [if_pos hh] at hcs
        have HCL : Hid (((clA R k : Nat) : Int) = (ct : Int)) := Lib.hid (by rw [clA_head hh, hct])
        have HCS := Lib.hid hcs
        have c0 : (0 : Int) ≤ (ct : Int) := by omega
        have c1 : (ct : Int) ≤ 1000 := by omega
        have HLC : Hid ((wr.alloc (.cells #[.int .i64 (ct : Int)] 3)).cell? ⟨wr.heap.size, 0, none⟩ = some (.int .i64 (ct : Int))) := Lib.hid (by simp)
        have HLS : Hid (w.heap.size ≤ (wr.alloc (.cells #[.int .i64 (ct : Int)] 3)).heap.size) := Lib.hid (by rw [World.size_alloc]; omega)
        have HO6 := Lib.hid (HO.out.alloc (.cells #[.int .i64 (ct : Int)] 3))
        have HW6 := Lib.hid (HB.out.alloc HS (.cells #[.int .i64 (ct : Int)] 3))
        clear HO HS hcs hct hh
        go_wp2_with (at_builtin; refine append_fn rfl _ _ rfl w.heap.size _ (fun x => (clA R x : Nat)) k rfl HO6.out wr.heap.size (ct : Int) HCL.out rfl HLC.out (by omega) HLS.out ?_; intro v9 w9 h9 hg9; have HO9 := Lib.hid h9; have HW9 := Lib.hid (HW6.out.trans (spF.grow (Nat.le_refl _) HLS.out HO6.out hg9)); clear h9 hg9)
        go_roundw
        case rel => exact ⟨k + 1, by omega, by go_num, by rw [HCS.out]; go_num, HO9, HW9⟩
        case measure => simp [intOf]; omega
      · have hkl : k < i := by omega
        have hki2 : ((k : Int) == (i : Int)) = false := beq_eq_false_iff_ne.2 (by omega)
        have hki3 : (k == i) = false := beq_eq_false_iff_ne.2 hki
        have hh : ¬ isH R i = true := by unfold isH; rw [HK.out]; simpa using hki
        rw [if_neg hh, Nat.add_zero] at hcs
        have HCS := Lib.hid hcs
        have hcl : clA R i = clA R k := by
          have h1 := hdA_head HRR.out i
          rw [HK.out] at h1
          rw [clA_head h1]
          unfold clA
          rw [HK.out]
        obtain ⟨ck, hck⟩ : ∃ ck, clA R k = ck := ⟨_, rfl⟩
        have HCL : Hid (((clA R i : Nat) : Int) = (ck : Int)) := Lib.hid (by rw [hcl, hck])
        obtain ⟨tp, tc, rfl⟩ := spF_of HO.out
        obtain ⟨tb, tof, rfl, htb, htc⟩ := HO.out.rd k hkl
        simp only at htc
        rw [hck] at htc
        have k0 : (0 : Int) ≤ (k : Int) := by omega
        have k1 : (k : Int) < (i : Int) := by omega
        have HLC : Hid ((wr.alloc (.cells #[.int .i64 (ck : Int)] 3)).cell? ⟨wr.heap.size, 0, none⟩ = some (.int .i64 (ck : Int))) := Lib.hid (by simp)
        have HLS : Hid (w.heap.size ≤ (wr.alloc (.cells #[.int .i64 (ck : Int)] 3)).heap.size) := Lib.hid (by rw [World.size_alloc]; omega)
        have HO6 := Lib.hid (HO.out.alloc (.cells #[.int .i64 (ck : Int)] 3))
        have HW6 := Lib.hid (HB.out.alloc HS (.cells #[.int .i64 (ck : Int)] 3))
        clear HO HS hcs hct hh hck hcl hki
        go_wp2_with (at_builtin; refine append_fn rfl _ _ rfl w.heap.size _ (fun x => (clA R x : Nat)) i rfl HO6.out wr.heap.size (ck : Int) HCL.out rfl HLC.out (by omega) HLS.out ?_; intro v9 w9 h9 hg9; have HO9 := Lib.hid h9; have HW9 := Lib.hid (HW6.out.trans (spF.grow (Nat.le_refl _) HLS.out HO6.out hg9)); clear h9 hg9)
        go_roundw
        case rel => exact ⟨i + 1, by omega, by go_num, by (rw [HCS.out]; first | rfl | simp), HO9, HW9⟩
        case measure => simp [intOf]; omega
    · obtain rfl : i = n := by omega
      obtain ⟨tp, tc, rfl⟩ := spF_of HO.out
      have HF := Lib.hid HO.out.rd
      obtain ⟨ct, hct⟩ : ∃ ct, cntT (isH R) i = ct := ⟨_, rfl⟩
      rw [hct]
      have HCT := Lib.hid hct
      clear hct hcs hcle HO
      go_wp2_with fail
      go_returns
      exact ⟨_, _, by rw [HCT.out] <;> rfl, HF.out, HB.out⟩
end Go.Proofs.Ytefpoapbodbenaa

namespace Go.Proofs.Ytefpoapbodbenaa
open Go.RowKit

/-- A list of numbers, and how many classes there are. -/
def clsPost (n : Nat) (l : Nat → Int) (k : Int) (w : World) (e : Ending) (w' : World) : Prop := ∃ q c l', e = .returned (.tuple #[.slice q n c, .int .i64 k]) ∧ rdL w' q n l' ∧ (∀ j, j < n → l' j = l j) ∧ Below w.heap.size w w'
def frsPost (n : Nat) (l : Nat → Int) (width : Int) (w : World) (e : Ending) (w' : World) : Prop := ∃ q c l', e = .returned (.slice q (min width 259).toNat c) ∧ rdL w' q (min width 259).toNat l' ∧ (∀ j, j < (min width 259).toNat → l' j = fsA l n (j : Nat)) ∧ Below w.heap.size w w'
def FrsC : Prop := ∀ (q : Option Addr) (n c : Nat) (l : Nat → Int) (width : Int) (w : World), n ≤ 1000 → rdL w q n l →
  Calls Try.prog 29 #[.slice q n c, .int .i64 width] w (frsPost n l width w)
/-- A number that an int holds. -/
def wfI (x : Int) : Prop := (Lit.int .i64 x).wf = true
theorem wfI_of {x : Int} (h1 : -1000000 ≤ x) (h2 : x ≤ 1000000) : wfI x := WalkArith.wf_i64 ⟨by omega, by omega⟩
def JoiC : Prop := ∀ (q : Option Addr) (n c : Nat) (l : Nat → Int) (q' : Option Addr) (n' c' : Nat) (l' : Nat → Int) (w : World), n ≤ 1000 → n' ≤ 1000 → (∀ j, j < n → wfI (l j)) → (∀ j, j < n' → wfI (l' j)) → rdL w q n l → rdL w q' n' l' →
  Calls Try.prog 36 #[.slice q n c, .slice q' n' c'] w fun e w' => (n = n' → clsPost n (fun x => (clA (joR l l') x : Nat)) (cntT (isH (joR l l')) n : Nat) w e w') ∧ (n ≠ n' → clsPost 0 (fun _ => 0) 0 w e w')
end Go.Proofs.Ytefpoapbodbenaa

namespace Go.Proofs.Ytefpoapbodbenaa
open Go.RowKit

def putF (f : Nat → Int) (j : Nat) (x : Int) : Nat → Int := fun y => if y = j then x else f y
theorem fnv_set (f : Nat → Int) (m j : Nat) (x : Int) : (fnv f m).set j (.int .i64 x) = fnv (putF f j x) m := by
  unfold fnv
  apply List.ext_getElem
  · simp
  · intro i h1 h2
    simp only [List.getElem_set, List.getElem_map, List.getElem_range, putF]
    by_cases h : i = j
    · rw [if_pos h.symm, if_pos h]
    · rw [if_neg (fun e => h e.symm), if_neg h]
theorem fnv_congr {f g : Nat → Int} {m : Nat} (h : ∀ j, j < m → f j = g j) : fnv f m = fnv g m := by
  unfold fnv
  exact List.map_congr_left fun i hi => by rw [h i (List.mem_range.1 hi)]
theorem made_fnv (m : Nat) : (madeCells #[Value.int .i64 0] m).toList = fnv (fun _ => 0) m := by
  unfold madeCells fnv
  apply List.ext_getElem
  · simp
  · intro i h1 h2
    simp [Nat.mod_one]
/-- A row of m numbers that the call owns. -/
def ipR (w : World) (base g m : Nat) (f : Nat → Int) : Prop := w.ownsRow base 3 1 (.slice (some ⟨g, 0, none⟩) m m) m (fnv f m)
theorem ipR.cell {w : World} {base g m : Nat} {f : Nat → Int} (h : ipR w base g m f) (j : Nat) (hj : j < m) : w.cell? ⟨g, j, none⟩ = some (.int .i64 (f j)) := by
  rw [World.ownsRow.cellAt h j (by omega)]; exact fnv_at f m j hj
theorem ipR.free {w : World} {base g m : Nat} {f : Nat → Int} (h : ipR w base g m f) (j : Nat) : w.frozen? ⟨g, j, none⟩ = false := World.ownsRow.frozenAt h j
theorem ipR.lt {w : World} {base g m : Nat} {f : Nat → Int} (h : ipR w base g m f) : base ≤ g ∧ g < w.heap.size := World.ownsRow.lt h g rfl
theorem ipR.below {w w' : World} {base g m : Nat} {f : Nat → Int} (h : ipR w base g m f) (hb : Below w.heap.size w w') : ipR w' base g m f := owns_below h hb
theorem ipR.put {w : World} {base g m : Nat} {f : Nat → Int} (h : ipR w base g m f) (j : Nat) (x : Int) : ipR (w.setCell ⟨g, j, none⟩ (.int .i64 x)) base g m (putF f j x) := by
  have := (World.ownsRow.stored h j (.int .i64 x)).1
  rw [fnv_set] at this
  exact this
theorem ipR.same {w : World} {base g m : Nat} {f f' : Nat → Int} (h : ipR w base g m f) (hf : ∀ j, j < m → f j = f' j) : ipR w base g m f' := by
  unfold ipR at h ⊢
  rw [← fnv_congr hf]; exact h
theorem ipR.rd {w : World} {base g m : Nat} {f : Nat → Int} (h : ipR w base g m f) : rdL w (some ⟨g, 0, none⟩) m f := fun j hj =>
  ⟨g, 0, rfl, h.lt.2, by rw [Nat.zero_add]; exact h.cell j hj⟩
theorem make_ints {w : World} {ops : Array Oper} {rest : List Oper} {o : Oper} {a : Act} {Q : Exit → Act → World → Prop} (hgd : o.guard = none) (s x : Operand)
    (ho : o.op = Op.makeSlice 22 s x) (base n : Nat) (hs : a.eval s = .int .i64 (n : Int)) (hx : a.eval x = .int .i64 (n : Int)) (hn : n ≤ 100000) (hbase : base ≤ w.heap.size)
    (h : ∀ w', ipR w' base w.heap.size n (fun _ => 0) → Below base w w' → wpList Try.prog ops Q rest (a.put o.dst (.slice (some ⟨w.heap.size, 0, none⟩) n n)) w') : wpList Try.prog ops Q (o :: rest) a w := by
  obtain ⟨i0, hi, hz0, hz1, hz2⟩ := info_parts infoInt9w
  refine wpList_make_full w hgd s x 22 ho base 3 i0 (.int .i64 0) 1 Try.underlying22 hi hz0 hz1 .i64 .i64 (n : Int) (n : Int) n hs hx rfl rfl (by rw [hz2]; omega) (by unfold maxLen; omega) hbase ?_
  intro w' h1 h2
  refine h w' ?_ ((Below.refl _ _).grown h2 hbase (fun r hr => by cases hr))
  have e : (madeCells (Value.int .i64 0).cells (n * 1)).toList = fnv (fun _ => 0) n := by
    rw [Nat.mul_one]; exact made_fnv n
  rw [e] at h1
  exact h1
end Go.Proofs.Ytefpoapbodbenaa
