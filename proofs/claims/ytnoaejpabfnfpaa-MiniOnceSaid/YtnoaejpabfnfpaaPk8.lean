/-
  Grids in memory: a slice of rows of bools; the walk of the reference's grid.
  A place of a grid read and written; the walk of the reference's Even.
  The walk of the reference's Either.
  The walk of the reference's Behind.
  The walks of Args, the code's and the reference's.
  The walk of First: where a part begins.
  The walk of Kids: the last nodes of a node's arguments.
  The walks of Clone and Part: the nodes of a part.
  The walk of the reference's Firsts: where each node's part begins.
  The walk of the seventh reference's Fit, where a node has two arguments.
  The walk of the seventh reference's Fit, where a node is a set.
  The walk of the ninth reference's Fits.
  The states of a tree's part, made behind some, as lists: they are the page's. Plain facts.
  What is made of a tree's part is that part's states, as the page has them. Plain facts.
-/
import Derived.Test.YtnoaejpabfnfpaaPk3
import Derived.Test.YtnoaejpabfnfpaaPk4
import Derived.OwnWalk
import Derived.Laws.AppendOwnNone
import Derived.Deep.RegionHeldLaw
import Derived.Test.YtnoaejpabfnfpaaPk1
import Derived.Test.YtnoaejpabfnfpaaPk6
import Derived.Deep.RegionWith
namespace Go.Proofs.Ytnoaejpabfnfpaa
open Go.RowKit

theorem infoRowB : (Try.prog.info? 23).map (fun i => (i.zero, i.size, i.bytes)) = some (some (.slice none 0 0), 1, 24) := by kernel_rfl
theorem infoB7 : (Try.prog.info? 4).map (fun i => (i.zero, i.size, i.bytes)) = some (some (.bool false), 1, 1) := by kernel_rfl
def bvs (G : Nat → Bool) (n : Nat) : List Value := (List.range (n + 1)).map fun j => .bool (G j)
theorem bvs_length (G : Nat → Bool) (n : Nat) : (bvs G n).length = n + 1 := by simp [bvs]
theorem bvs_at (G : Nat → Bool) (n j : Nat) (h : j ≤ n) : (bvs G n)[j]? = some (.bool (G j)) := by simp [bvs, show j < n + 1 by omega]
def rowVals (r : Nat → Nat) (n k : Nat) : List Value := (List.range k).map fun i => .slice (some ⟨r i, 0, none⟩) (n + 1) (n + 1)
theorem rowVals_length (r : Nat → Nat) (n k : Nat) : (rowVals r n k).length = k := by simp [rowVals]
theorem rowVals_at (r : Nat → Nat) (n k i : Nat) (h : i < k) : (rowVals r n k)[i]? = some (.slice (some ⟨r i, 0, none⟩) (n + 1) (n + 1)) := by simp [rowVals, h]
theorem rowVals_succ (r : Nat → Nat) (n k : Nat) : rowVals r n (k + 1) = rowVals r n k ++ [.slice (some ⟨r k, 0, none⟩) (n + 1) (n + 1)] := by simp [rowVals, List.range_succ]
theorem rowVals_same {r r' : Nat → Nat} (n : Nat) {k : Nat} (h : ∀ i, i < k → r i = r' i) : rowVals r n k = rowVals r' n k := by
  unfold rowVals
  exact List.map_congr_left fun i hi => by rw [h i (List.mem_range.1 hi)]
theorem bvs_none (n : Nat) : bvs (fun _ => false) n = List.replicate (n + 1) (.bool false) := by
  unfold bvs
  apply List.ext_getElem <;> simp
theorem made_none (n : Nat) : (madeCells #[Value.bool false] (n + 1)).toList = bvs (fun _ => false) n := by
  rw [bvs_none]
  unfold madeCells
  apply List.ext_getElem
  · simp
  · intro i h1 h2
    simp [Nat.mod_one]
/-- Two rows of different kinds are different blocks. -/
theorem rows_apt7 {w : World} {b1 b2 e1 e2 s1 s2 n1 n2 : Nat} {v1 v2 : Value} {x1 x2 : List Value} (h1 : w.ownsRow b1 e1 s1 v1 n1 x1) (h2 : w.ownsRow b2 e2 s2 v2 n2 x2) (hne : e1 ≠ e2) : v1.ownBlock = none ∨ v1.ownBlock ≠ v2.ownBlock := by
  rcases h1.2 with ⟨rfl, _⟩ | ⟨g1, c1, u1, rfl, _, p1, _⟩
  · exact .inl rfl
  · rcases h2.2 with ⟨rfl, _⟩ | ⟨g2, c2, u2, rfl, _, p2, _⟩
    · exact .inr (by simp [Value.ownBlock])
    · refine .inr fun h => ?_
      have hg : g1 = g2 := by simpa [Value.ownBlock] using h
      subst hg
      rw [p1] at p2
      simp at p2
      exact hne p2.2
/-- The first k rows of a grid that a call makes. -/
def grK (w : World) (base : Nat) (v : Value) (n k : Nat) (r : Nat → Nat) (G : Gr) : Prop :=
  w.ownsRow base 23 1 v k (rowVals r n k) ∧ (∀ i, i < k → w.ownsRow base 4 1 (.slice (some ⟨r i, 0, none⟩) (n + 1) (n + 1)) (n + 1) (bvs (G i) n)) ∧ (∀ i j, i < k → j < k → r i = r j → i = j)
def grd (w : World) (base : Nat) (v : Value) (n : Nat) (G : Gr) : Prop := ∃ r, grK w base v n (n + 1) r G

end Go.Proofs.Ytnoaejpabfnfpaa

namespace Go.Proofs.Ytnoaejpabfnfpaa
open Go.RowKit

theorem bvs_set (F : Nat → Bool) (n j : Nat) (b : Bool) : (bvs F n).set j (.bool b) = bvs (fun x => if x = j then b else F x) n := by
  unfold bvs
  apply List.ext_getElem
  · simp
  · intro i h1 h2
    simp only [List.getElem_set, List.getElem_map, List.getElem_range]
    by_cases h : i = j
    · rw [if_pos h.symm, if_pos h]
    · rw [if_neg (fun e => h e.symm), if_neg h]
theorem bvs_same {F F' : Nat → Bool} {n : Nat} (h : ∀ j, j ≤ n → F j = F' j) : bvs F n = bvs F' n := by
  unfold bvs
  exact List.map_congr_left fun i hi => by rw [h i (by have := List.mem_range.1 hi; omega)]
/-- A grid with one place written. -/
def putG (G : Gr) (i j : Nat) (b : Bool) : Gr := fun x y => if x = i then (if y = j then b else G x y) else G x y
theorem grK.outer {w : World} {base n k : Nat} {v : Value} {r : Nat → Nat} {G : Gr} (h : grK w base v n (k + 1) r G) : ∃ go cap, v = .slice (some ⟨go, 0, none⟩) (k + 1) cap ∧ base ≤ go ∧ go < w.heap.size ∧ ∀ i, i < k + 1 → w.cell? ⟨go, i, none⟩ = some (.slice (some ⟨r i, 0, none⟩) (n + 1) (n + 1)) := by
  obtain ⟨h1, -, -⟩ := h
  have hlt := h1.lt
  rcases id h1.2 with ⟨rfl, h0⟩ | ⟨g, cap, cur, rfl, -⟩
  · cases h0
  · exact ⟨g, cap, rfl, (hlt g rfl).1, (hlt g rfl).2, fun i hi => by rw [h1.cellAt i (by omega)]; exact rowVals_at r n (k + 1) i hi⟩
theorem grK.at {w : World} {base n k : Nat} {v : Value} {r : Nat → Nat} {G : Gr} (h : grK w base v n k r G) {i j : Nat} (hi : i < k) (hj : j ≤ n) : w.cell? ⟨r i, j, none⟩ = some (.bool (G i j)) ∧ w.frozen? ⟨r i, j, none⟩ = false ∧ base ≤ r i ∧ r i < w.heap.size := by
  have hr := h.2.1 i hi
  exact ⟨by rw [hr.cellAt j (by omega)]; exact bvs_at (G i) n j hj, hr.frozenAt j, (hr.lt (r i) rfl).1, (hr.lt (r i) rfl).2⟩
theorem grK.put {w : World} {base n k : Nat} {v : Value} {r : Nat → Nat} {G : Gr} (h : grK w base v n k r G) {i j : Nat} (hi : i < k) (b : Bool) :
    grK (w.setCell ⟨r i, j, none⟩ (.bool b)) base v n k r (putG G i j b) := by
  obtain ⟨h1, h2, h3⟩ := h
  obtain ⟨s1, s2⟩ := (h2 i hi).stored j (.bool b)
  rw [bvs_set] at s1
  refine ⟨h1.kept s2 (rows_apt7 h1 (h2 i hi) (by decide)), fun x hx => ?_, h3⟩
  by_cases hxi : x = i
  · subst hxi
    rw [show bvs (putG G x j b x) n = bvs (fun y => if y = j then b else G x y) n from bvs_same fun y _ => by unfold putG; rw [if_pos rfl]]
    exact s1
  · rw [show bvs (putG G i j b x) n = bvs (G x) n from bvs_same fun y _ => by unfold putG; rw [if_neg hxi]]
    exact (h2 x hx).kept s2 (.inr (by show some (r x) ≠ some (r i); intro e; exact hxi (h3 x i hx hi (Option.some.inj e))))
theorem grK.same {w : World} {base n k : Nat} {v : Value} {r : Nat → Nat} {G G' : Gr} (h : grK w base v n k r G) (hG : ∀ i j, i < k → j ≤ n → G i j = G' i j) : grK w base v n k r G' :=
  ⟨h.1, fun i hi => by rw [← bvs_same fun j hj => hG i j hi hj]; exact h.2.1 i hi, h.2.2⟩
theorem grK.mono {w : World} {base base' n k : Nat} {v : Value} {r : Nat → Nat} {G : Gr} (h : grK w base v n k r G) (hb : base' ≤ base) : grK w base' v n k r G :=
  ⟨owns_mono h.1 hb, fun i hi => owns_mono (h.2.1 i hi) hb, h.2.2⟩
theorem grK.below {w w' : World} {base n k : Nat} {v : Value} {r : Nat → Nat} {G : Gr} (h : grK w base v n k r G) (hb : Below w.heap.size w w') : grK w' base v n k r G :=
  ⟨owns_below h.1 hb, fun i hi => owns_below (h.2.1 i hi) hb, h.2.2⟩

end Go.Proofs.Ytnoaejpabfnfpaa

namespace Go.Proofs.Ytnoaejpabfnfpaa
open Go.RowKit

/-- A grid that is read. -/
def rdG (w : World) (v : Value) (n : Nat) (A : Gr) : Prop := ∃ (go cap : Nat) (r : Nat → Nat), v = .slice (some ⟨go, 0, none⟩) (n + 1) cap ∧ go < w.heap.size ∧ (∀ i, i ≤ n → w.cell? ⟨go, i, none⟩ = some (.slice (some ⟨r i, 0, none⟩) (n + 1) (n + 1))) ∧ (∀ i, i ≤ n → r i < w.heap.size ∧ ∀ j, j ≤ n → w.cell? ⟨r i, j, none⟩ = some (.bool (A i j)))
theorem rdG.of {w : World} {base n : Nat} {v : Value} {G : Gr} (h : grd w base v n G) : rdG w v n G := by
  obtain ⟨r, hg⟩ := h
  obtain ⟨go, cap, rfl, -, hgo, hc⟩ := hg.outer
  refine ⟨go, cap, r, rfl, hgo, fun i hi => hc i (by omega), fun i hi => ⟨(hg.at (i := i) (j := 0) (by omega) (Nat.zero_le _)).2.2.2, fun j hj => (hg.at (i := i) (j := j) (by omega) hj).1⟩⟩
theorem rdG.below {w w' : World} {B n : Nat} {v : Value} {A : Gr} (h : rdG w v n A) (hb : Below B w w') (hB : w.heap.size ≤ B) : rdG w' v n A := by
  obtain ⟨go, cap, r, rfl, hgo, hc, hr⟩ := h
  have hs := hb.size
  refine ⟨go, cap, r, rfl, by omega, fun i hi => by rw [hb.cell (p := ⟨go, i, none⟩) (show go < B by omega)]; exact hc i hi, fun i hi => ⟨by have := (hr i hi).1; omega, fun j hj => ?_⟩⟩
  rw [hb.cell (p := ⟨r i, j, none⟩) (show r i < B by have := (hr i hi).1; omega)]
  exact (hr i hi).2 j hj
def eitB (A B : Gr) : Gr := fun i j => decide (i ≤ j) && (A i j || B i j)
/-- So far: the rows ahead of i, and row i ahead of j. -/
def eitC (A B : Gr) (i j : Nat) : Gr := fun x y => (decide (x < i) || (decide (x = i) && decide (y < j))) && eitB A B x y
theorem eitC_put (A B : Gr) (i j : Nat) (hij : i ≤ j) (x y : Nat) : putG (eitC A B i j) i j (A i j || B i j) x y = eitC A B i (j + 1) x y := by
  unfold putG
  by_cases h1 : x = i
  · subst h1
    rw [if_pos rfl]
    by_cases h2 : y = j
    · subst h2; rw [if_pos rfl]; unfold eitC eitB; simp [hij]
    · rw [if_neg h2]; unfold eitC
      have hx : (y < j) ↔ (y < j + 1) := by omega
      simp only [hx]
  · rw [if_neg h1]; unfold eitC; simp [h1]
theorem eitC_row (A B : Gr) (i n x y : Nat) (hy : y ≤ n) : eitC A B i (n + 1) x y = eitC A B (i + 1) 0 x y := by
  unfold eitC
  by_cases h1 : x < i
  · simp [h1, show x < i + 1 by omega]
  · by_cases h2 : x = i
    · subst h2; simp [show y < n + 1 by omega]
    · simp [h1, h2, show ¬ x < i + 1 by omega]
theorem eitC_start (A B : Gr) (i x y : Nat) : eitC A B i 0 x y = eitC A B i i x y := by
  unfold eitC eitB
  by_cases h2 : x = i
  · subst h2
    by_cases h3 : x ≤ y
    · simp [show ¬ y < x by omega]
    · simp [h3]
  · simp [h2]

end Go.Proofs.Ytnoaejpabfnfpaa

namespace Go.Proofs.Ytnoaejpabfnfpaa
open Go.RowKit

/-- Is there a place ahead of M at which the one ends and the other begins? -/
def behP (A B : Gr) (i j M : Nat) : Bool := (List.range M).any fun m => decide (i ≤ m) && decide (m ≤ j) && (A i m && B m j)
theorem behP_succ (A B : Gr) (i j M : Nat) : behP A B i j (M + 1) = (behP A B i j M || (decide (i ≤ M) && decide (M ≤ j) && (A i M && B M j))) := by
  unfold behP
  rw [List.range_succ, List.any_append]
  simp
theorem behP_none (A B : Gr) (i j M : Nat) (h : M ≤ i) : behP A B i j M = false := by
  unfold behP
  rw [List.any_eq_false]
  intro m hm
  have := List.mem_range.1 hm
  simp [show ¬ i ≤ m by omega]
/-- So far: the rows ahead of i; of row i the places ahead of m, and place m up to j. -/
def behC (n : Nat) (A B : Gr) (i m j : Nat) : Gr := fun x y =>
  if x < i then behB n A B x y else if x = i then behP A B i y m || (decide (y < j) && (decide (m ≤ y) && (A i m && B m y))) else false
theorem behC_put (n : Nat) (A B : Gr) (i m j : Nat) (him : i ≤ m) (hmj : m ≤ j) (ha : A i m = true) (x y : Nat) : putG (behC n A B i m j) i j (behC n A B i m j i j || B m j) x y = behC n A B i m (j + 1) x y := by
  unfold putG
  by_cases h1 : x = i
  · subst h1
    rw [if_pos rfl]
    by_cases h2 : y = j
    · subst h2
      rw [if_pos rfl]
      unfold behC
      simp [ha, hmj]
    · rw [if_neg h2]
      unfold behC
      have hx : (y < j) ↔ (y < j + 1) := by omega
      simp only [hx]
  · rw [if_neg h1]
    unfold behC
    by_cases h3 : x < i
    · rw [if_pos h3, if_pos h3]
    · rw [if_neg h3, if_neg h3, if_neg h1, if_neg h1]
theorem behC_col (n : Nat) (A B : Gr) (i m j : Nat) (him : i ≤ m) (h : j = n + 1 ∨ A i m = false) (x y : Nat) (hy : y ≤ n) : behC n A B i m j x y = behC n A B i (m + 1) (m + 1) x y := by
  unfold behC
  by_cases h3 : x < i
  · rw [if_pos h3, if_pos h3]
  · rw [if_neg h3, if_neg h3]
    by_cases h1 : x = i
    · subst h1
      rw [if_pos rfl, if_pos rfl, behP_succ, decide_eq_true him, Bool.true_and]
      have e2 : (decide (y < m + 1) && (decide (m + 1 ≤ y) && (A x (m + 1) && B (m + 1) y))) = false := by
        by_cases hq : y < m + 1
        · simp [show ¬ m + 1 ≤ y by omega]
        · simp [hq]
      rw [e2, Bool.or_false]
      rcases h with h | h
      · rw [h, decide_eq_true (show y < n + 1 by omega), Bool.true_and]
      · rw [h]; simp
    · rw [if_neg h1, if_neg h1]
theorem behC_row (n : Nat) (A B : Gr) (i j x y : Nat) (_hy : y ≤ n) : behC n A B i (n + 1) j x y = behC n A B (i + 1) (i + 1) (i + 1) x y := by
  have hb : behP A B i y (n + 1) = behB n A B i y := rfl
  unfold behC
  by_cases h3 : x < i
  · rw [if_pos h3, if_pos (by omega)]
  · rw [if_neg h3]
    by_cases h1 : x = i
    · subst h1
      rw [if_pos rfl, if_pos (by omega), hb, show decide (n + 1 ≤ y) = false from decide_eq_false (by omega)]
      simp
    · rw [if_neg h1]
      by_cases h4 : x < i + 1
      · omega
      · rw [if_neg h4]
        by_cases h5 : x = i + 1
        · rw [if_pos h5, behP_none A B _ _ _ (Nat.le_refl _)]
          by_cases hq : y < i + 1
          · simp [show ¬ i + 1 ≤ y by omega]
          · simp [hq]
        · rw [if_neg h5]
theorem behC_start (n : Nat) (A B : Gr) (x y : Nat) : behC n A B 0 0 0 x y = false := by
  unfold behC behP
  simp

end Go.Proofs.Ytnoaejpabfnfpaa

namespace Go.Proofs.Ytnoaejpabfnfpaa
open Go.RowKit

theorem arI {a b : Int} (h : a = b) : Ending.returned (.int .i64 a) = Ending.returned (.int .i64 b) := by rw [h]

end Go.Proofs.Ytnoaejpabfnfpaa

namespace Go.Proofs.Ytnoaejpabfnfpaa
open Go.RowKit

/-- What holds at the loop's head. -/
def fstRel (N : Nat → Nd) (i : Nat) (mi at_ : Value) : Prop :=
  (∃ p m : Nat, p ≤ i ∧ m ≤ 2 * (i - p) ∧ mi = .int .i64 ((m : Int) + 1) ∧ at_ = .int .i64 (p : Int) ∧ Hid (fst N i = back N (p + 1) (m + 1))) ∨ (at_ = .int .i64 (-1) ∧ Hid (fst N i = -1))
theorem fst_rel {N : Nat → Nd} {i p m : Nat} {x y : Int} (hp : p ≤ i) (hm : m + 1 ≤ 2 * (i - p) + 2) (hx : x = (m : Int) + 1) (hy : y = (p : Int) - 1) (h : fst N i = back N p (m + 1)) : fstRel N i (.int .i64 x) (.int .i64 y) := by
  subst hx hy
  cases p with
  | zero => exact .inr ⟨rfl, Lib.hid (by rw [h, back_none])⟩
  | succ p => exact .inl ⟨p, m, by omega, by omega, rfl, by rw [show ((p + 1 : Nat) : Int) - 1 = p by omega], Lib.hid h⟩

end Go.Proofs.Ytnoaejpabfnfpaa

namespace Go.Proofs.Ytnoaejpabfnfpaa
open Go.RowKit

/-- A node whose part begins somewhere: what its arguments are. -/
theorem kids_back {N : Nat → Nd} {i : Nat} (h : 0 ≤ fst N i) : (ar (N i).k = 0 ∧ kids N i = [] ∧ fst N i = i) ∨
    (ar (N i).k = 1 ∧ 0 < i ∧ kids N i = [(i : Int) - 1] ∧ fst N i = fst N (i - 1) ∧ 0 ≤ fst N (i - 1)) ∨
    (ar (N i).k = 2 ∧ ∃ f : Nat, 0 < f ∧ f + 1 ≤ i ∧ fst N (i - 1) = f ∧ kids N i = [(f : Int) - 1, (i : Int) - 1] ∧ fst N i = fst N (f - 1) ∧ 0 ≤ fst N (f - 1)) := by
  rw [fst_eq] at h
  have e := fst_eq N i
  rcases ar_cases (N i).k with ⟨ha, -⟩ | ⟨ha, -⟩ | ⟨ha, -⟩ | ⟨ha, -⟩
  · rw [ha] at h e; simp [back_zero] at e
    exact .inl ⟨ha, by simp [kids, ha], e⟩
  · rw [ha] at h e
    rw [if_neg (by omega)] at h e
    have hi : 0 < i := by
      rcases Nat.eq_zero_or_pos i with rfl | h0
      · rw [show ((1 : Int).toNat) = 0 + 1 from rfl, back_none] at h; omega
      · exact h0
    have e1 : fst N (i - 1) = back N i 1 := by unfold fst; rw [show i - 1 + 1 = i by omega]
    refine .inr (.inl ⟨ha, hi, by simp [kids, ha], ?_, ?_⟩)
    · rw [e, e1]; rfl
    · rw [e1]; exact h
  · rw [ha] at h e
    rw [if_neg (by omega)] at h e
    have hi : 0 < i := by
      rcases Nat.eq_zero_or_pos i with rfl | h0
      · rw [show ((2 : Int).toNat) = 1 + 1 from rfl, back_none] at h; omega
      · exact h0
    have hs : back N i (Int.toNat 2) = if fst N (i - 1) < 0 then -1 else back N (fst N (i - 1)).toNat 1 := by
      have := back_step N (i - 1) 1
      rwa [show i - 1 + 1 = i by omega] at this
    rw [hs] at h e
    have hb := fst_bd N (i - 1)
    by_cases h0 : fst N (i - 1) < 0
    · rw [if_pos h0] at h; omega
    · rw [if_neg h0] at h e
      obtain ⟨f, hf⟩ : ∃ f : Nat, fst N (i - 1) = f := ⟨(fst N (i - 1)).toNat, by omega⟩
      rw [hf] at h e
      simp only [Int.toNat_natCast] at h e
      have hf0 : 0 < f := by
        rcases Nat.eq_zero_or_pos f with rfl | h0
        · rw [back_none] at h; omega
        · exact h0
      have e1 : fst N (f - 1) = back N f 1 := by unfold fst; rw [show f - 1 + 1 = f by omega]
      exact .inr (.inr ⟨ha, f, hf0, by omega, hf, by simp [kids, ha, hf], by rw [e, e1], by rw [e1]; exact h⟩)
  · rw [ha] at h; simp at h

theorem mk0 : ∀ w, (Instr.makeSlice 22 (.int .i64 0) (.int .i64 0)).run Try.prog w = .ok (.slice (some ⟨w.heap.size, 0, none⟩) 0 0) (w.alloc (.cells #[] 3)) := fun _ => by kernel_rfl
theorem mk1 : ∀ w, (Instr.makeSlice 22 (.int .i64 1) (.int .i64 1)).run Try.prog w = .ok (.slice (some ⟨w.heap.size, 0, none⟩) 1 1) (w.alloc (.cells #[.int .i64 0] 3)) := fun _ => by kernel_rfl
theorem mk2 : ∀ w, (Instr.makeSlice 22 (.int .i64 2) (.int .i64 2)).run Try.prog w = .ok (.slice (some ⟨w.heap.size, 0, none⟩) 2 2) (w.alloc (.cells #[.int .i64 0, .int .i64 0] 3)) := fun _ => by kernel_rfl

end Go.Proofs.Ytnoaejpabfnfpaa

namespace Go.Proofs.Ytnoaejpabfnfpaa
open Go.RowKit

/-- A node's cells. -/
def nval (x : Nd) : Nat → Value
  | 0 => .int .i64 x.k
  | 1 => .int .u64 x.a
  | 2 => .int .u64 x.b
  | 3 => .int .u64 x.c
  | 4 => .int .u64 x.d
  | 5 => .int .i64 x.lo
  | _ => .int .i64 x.hi
def nvs (N : Nat → Nd) (m : Nat) : List Value := (List.range (m * 7)).map fun t => nval (N (t / 7)) (t % 7)
theorem nvs_len (N : Nat → Nd) (m : Nat) : (nvs N m).length = m * 7 := by simp [nvs]
theorem nvs_get (N : Nat → Nd) (m t : Nat) (h : t < m * 7) : (nvs N m)[t]? = some (nval (N (t / 7)) (t % 7)) := by
  unfold nvs; rw [List.getElem?_map, List.getElem?_range h]; rfl
theorem nvs_one (N : Nat → Nd) (m : Nat) : ∀ u ∈ nvs N m, u.oneCell' = true := by
  intro u hu
  unfold nvs at hu
  obtain ⟨t, _, rfl⟩ := List.mem_map.1 hu
  unfold nval
  split <;> rfl
theorem ndAt_val {w : World} {b o : Nat} {x : Nd} (h : ndAt w b o x) (r : Nat) (hr : r < 7) : w.cell? ⟨b, o + r, none⟩ = some (nval x r) := by
  unfold ndAt at h
  obtain ⟨h0, h1, h2, h3, h4, h5, h6⟩ := h
  match r, hr with
  | 0, _ => exact h0
  | 1, _ => exact h1
  | 2, _ => exact h2
  | 3, _ => exact h3
  | 4, _ => exact h4
  | 5, _ => exact h5
  | 6, _ => exact h6
theorem rdN_cells {w : World} {b off m : Nat} {N : Nat → Nd} (h : rdN w b off m N) : ∀ j u, (nvs N m)[j]? = some u → w.cell? ((⟨b, off, none⟩ : Addr).add j) = some u := by
  intro j u hu
  have hj : j < m * 7 := by
    have := (List.getElem?_eq_some_iff.1 hu).1
    rwa [nvs_len] at this
  rw [nvs_get N m j hj] at hu
  have hv := ndAt_val (h (j / 7) (by omega)).2 (j % 7) (by omega)
  rw [show off + j / 7 * 7 + j % 7 = off + j by omega] at hv
  have ha : (⟨b, off, none⟩ : Addr).add j = ⟨b, off + j, none⟩ := by unfold Addr.add; split <;> simp_all
  rw [ha, hv, ← hu]
theorem rdN_of_owns {w : World} {base : Nat} {e : TypeId} {g n cap : Nat} {N : Nat → Nd} (h : w.ownsRow base e 7 (.slice (some ⟨g, 0, none⟩) n cap) n (nvs N n)) : rdN w g 0 n N := by
  intro j hj
  refine ⟨(h.lt g rfl).2, ?_⟩
  have c : ∀ r, r < 7 → w.cell? ⟨g, 0 + j * 7 + r, none⟩ = some (nval (N j) r) := fun r hr => by
    rw [h.cellAt _ (by omega), nvs_get _ _ _ (by omega), show (0 + j * 7 + r) / 7 = j by omega, show (0 + j * 7 + r) % 7 = r by omega]
  exact ⟨c 0 (by decide), c 1 (by decide), c 2 (by decide), c 3 (by decide), c 4 (by decide), c 5 (by decide), c 6 (by decide)⟩

end Go.Proofs.Ytnoaejpabfnfpaa

namespace Go.Proofs.Ytnoaejpabfnfpaa
open Go.RowKit

theorem infoInt : (Try.prog.info? 3).map (fun i => (i.zero, i.size, i.bytes)) = some (some (.int .i64 0), 1, 8) := by kernel_rfl
def fsts (N : Nat → Nd) (k : Nat) : List Int := (List.range k).map (fst N)
theorem fsts_succ (N : Nat → Nd) (k : Nat) : fsts N (k + 1) = fsts N k ++ [fst N k] := by unfold fsts; rw [List.range_succ, List.map_append]; rfl
theorem fsts_len (N : Nat → Nd) (k : Nat) : (fsts N k).length = k := by simp [fsts]
theorem fsts_get (N : Nat → Nd) (k j : Nat) (h : j < k) : (ivs (fsts N k))[j]? = some (.int .i64 (fst N j)) := by simp [ivs, fsts, h]

/-- What holds at the head of the inner loop. -/
def fsRel (N : Nat → Nd) (k : Nat) (x y : Value) : Prop := ∃ (fr : Int) (m : Nat), x = .int .i64 fr ∧ y = .int .i64 (m : Int) ∧ m ≤ 2 ∧ -1 ≤ fr ∧ fr ≤ k ∧ Hid (fst N k = if fr < 0 then -1 else back N fr.toNat m)
theorem fsRel_none {N : Nat → Nd} {k m : Nat} (hm : m ≤ 1) (h : fst N k = back N 0 (m + 1)) (y : Int) (hy : y = m) : fsRel N k (.int .i64 (-1)) (.int .i64 y) :=
  ⟨-1, m, rfl, by rw [hy], by omega, by omega, by omega, Lib.hid (by rw [h, back_none]; rfl)⟩
theorem fsRel_step {N : Nat → Nd} {k q m : Nat} (hm : m ≤ 1) (hq : q + 1 ≤ k) (h : fst N k = back N (q + 1) (m + 1)) (y : Int) (hy : y = m) : fsRel N k (.int .i64 (fst N q)) (.int .i64 y) := by
  have hb := fst_bd N q
  refine ⟨fst N q, m, rfl, by rw [hy], by omega, by omega, by omega, Lib.hid ?_⟩
  rw [h, back_step]

theorem fs_end {N : Nat → Nd} {k : Nat} {fr : Int} (h : fst N k = if fr < 0 then -1 else back N fr.toNat 0) (h0 : -1 ≤ fr) : fst N k = fr := by
  rw [h]
  split
  · omega
  · rw [back_zero]; omega

end Go.Proofs.Ytnoaejpabfnfpaa

namespace Go.Proofs.Ytnoaejpabfnfpaa
open Go.RowKit

/-- What Fit tells: a grid of the call's own. -/
def fitPost (n : Nat) (F : Gr) (w : World) (e : Ending) (w' : World) : Prop := ∃ v, e = .returned v ∧ grd w' w.heap.size v n F ∧ Below w.heap.size w w'

end Go.Proofs.Ytnoaejpabfnfpaa

namespace Go.Proofs.Ytnoaejpabfnfpaa
open Go.RowKit

/-- The bytes of a text. -/
def tx7 (s : ByteArray) (x : Nat) : Nat := if h : x < s.size then (s[x]'h).toNat else 0
theorem tx7_lt (s : ByteArray) (x : Nat) : tx7 s x < 256 := by
  unfold tx7
  split
  · exact UInt8.toNat_lt _
  · decide
theorem ix_str (s : ByteArray) (x : Nat) (h : x < s.size) (hs : s.size ≤ 1000) (w : World) : (Instr.index 9 (.string s) (.int .i64 (x : Int))).run Try.prog w = .ok (.int .u8 (tx7 s x : Nat)) w := by
  have h0 : (0 : Int) ≤ (x : Int) := by omega
  have h1 : (x : Int) < (s.size : Int) := by omega
  have hw : IntKind.i64.wrap (x : Int) = (x : Int) := by rw [IntKind.wrap_i64]; omega
  unfold tx7
  rw [dif_pos h]
  go_simp
/-- So far: the places ahead of x. -/
def setC (f : Nat → Bool) (tx : Nat → Nat) (x : Nat) : Gr := fun a c => decide (a < x) && (decide (c = a + 1) && f (tx a))
theorem setC_put (f : Nat → Bool) (tx : Nat → Nat) (x a c : Nat) : putG (setC f tx x) x (x + 1) (f (tx x)) a c = setC f tx (x + 1) a c := by
  unfold putG setC
  by_cases h1 : a = x
  · subst h1
    rw [if_pos rfl]
    by_cases h2 : c = a + 1
    · rw [if_pos h2, decide_eq_true h2, decide_eq_true (show a < a + 1 by omega)]; rfl
    · rw [if_neg h2, decide_eq_false h2]; simp
  · rw [if_neg h1]
    have hx : (a < x) ↔ (a < x + 1) := by omega
    simp only [hx]

end Go.Proofs.Ytnoaejpabfnfpaa

namespace Go.Proofs.Ytnoaejpabfnfpaa
open Go.RowKit

theorem lit_rdL (w : World) (x : Int) : rdL (w.alloc (.cells #[.int .i64 x] 3)) (some ⟨w.heap.size, 0, none⟩) 1 (fun _ => x) := fun j hj => by
  obtain rfl : j = 0 := by omega
  exact ⟨_, _, rfl, by simp, by simp⟩
/-- So many bytes from a place on, as the reference takes them. -/
def rF (S : Nat → Sd) (m : Nat) (tx : Nat → Nat) : Nat → Nat → (Nat → Bool) → Nat → Bool
  | _, 0, T => T
  | i, k + 1, T => rF S m tx (i + 1) k (upN S 0 m (stR S (tx i) T m) m)
theorem rF_last (S : Nat → Sd) (m : Nat) (tx : Nat → Nat) : ∀ k i T, rF S m tx i (k + 1) T = upN S 0 m (stR S (tx (i + k)) (rF S m tx i k T) m) m
  | 0, _, _ => rfl
  | k + 1, i, T => by
    show rF S m tx (i + 1) (k + 1) _ = _
    rw [rF_last S m tx k (i + 1) _, show i + 1 + k = i + (k + 1) by omega]; rfl
def aF (S : Nat → Sd) (m : Nat) (st : Int) : Nat → Bool := upN S 0 m (inL m (fun _ => st) 1) m
/-- What leads to the end, as the reference counts it. -/
def fF (S : Nat → Sd) (m n : Nat) (tx : Nat → Nat) (st : Int) (fin i j : Nat) : Bool :=
  if n = 0 then upN S 258 m (aF S m st) m fin
  else if j = n then upN S 257 m (rF S m tx i (j - i) (if i = 0 then upN S 256 m (aF S m st) m else aF S m st)) m fin
  else rF S m tx i (j - i) (if i = 0 then upN S 256 m (aF S m st) m else aF S m st) fin

end Go.Proofs.Ytnoaejpabfnfpaa

namespace Go.Proofs.Ytnoaejpabfnfpaa

def sfn (L : List Sd) (j : Nat) : Sd := L.getD j (sE 0)
def setA (L : List Sd) (j A : Nat) : List Sd := L.modify j fun s => { s with A := (A : Int) }
def setB (L : List Sd) (j B : Nat) : List Sd := L.modify j fun s => { s with B := (B : Int) }
theorem setA_len (L : List Sd) (j A : Nat) : (setA L j A).length = L.length := List.length_modify ..
theorem setB_len (L : List Sd) (j B : Nat) : (setB L j B).length = L.length := List.length_modify ..
theorem sfn_lt {L : List Sd} {j : Nat} (h : j < L.length) : sfn L j = L[j] := by unfold sfn; rw [List.getD_eq_getElem?_getD, List.getElem?_eq_getElem h]; rfl
theorem setA_at {L : List Sd} {j A : Nat} (h : j < L.length) : sfn (setA L j A) j = { sfn L j with A := (A : Int) } := by
  unfold sfn setA
  rw [List.getD_eq_getElem?_getD, List.getElem?_modify, List.getD_eq_getElem?_getD, List.getElem?_eq_getElem h]
  simp
theorem setA_ne {L : List Sd} {j A q : Nat} (h : q ≠ j) : sfn (setA L j A) q = sfn L q := by
  unfold sfn setA
  rw [List.getD_eq_getElem?_getD, List.getElem?_modify, List.getD_eq_getElem?_getD]
  simp [Ne.symm h]
theorem setB_at {L : List Sd} {j A : Nat} (h : j < L.length) : sfn (setB L j A) j = { sfn L j with B := (A : Int) } := by
  unfold sfn setB
  rw [List.getD_eq_getElem?_getD, List.getElem?_modify, List.getD_eq_getElem?_getD, List.getElem?_eq_getElem h]
  simp
theorem setB_ne {L : List Sd} {j A q : Nat} (h : q ≠ j) : sfn (setB L j A) q = sfn L q := by
  unfold sfn setB
  rw [List.getD_eq_getElem?_getD, List.getElem?_modify, List.getD_eq_getElem?_getD]
  simp [Ne.symm h]
theorem sfn_old {L : List Sd} {x : Sd} {q : Nat} (h : q < L.length) : sfn (L ++ [x]) q = sfn L q := by
  unfold sfn
  rw [List.getD_eq_getElem?_getD, List.getD_eq_getElem?_getD, List.getElem?_append_left h]
theorem sfn_new {L : List Sd} {x : Sd} {q : Nat} (h : q = L.length) : sfn (L ++ [x]) q = x := by
  subst h
  unfold sfn
  rw [List.getD_eq_getElem?_getD, List.getElem?_append_right (Nat.le_refl _)]
  simp
theorem setA_E {L : List Sd} {j A : Nat} (h : j < L.length) (hs : sfn L j = sE 0) : sfn (setA L j A) j = sE A := by rw [setA_at h, hs]; rfl
theorem setA_EE {L : List Sd} {j A B : Nat} (h : j < L.length) (hs : sfn L j = sE A) : sfn (setA L j B) j = sE B := by rw [setA_at h, hs]; rfl
theorem setB_S {L : List Sd} {j A B : Nat} (h : j < L.length) (hs : sfn L j = sS A 0) : sfn (setB L j B) j = sS A B := by rw [setB_at h, hs]; rfl

/-- Some copies, one behind the other: the states, and what is ahead. -/
def cpL (mk : List Sd → List Sd × Nat × Nat) : Nat → List Sd → Nat → List Sd × Nat
  | 0, L, ah => (L, ah)
  | m + 1, L, ah => cpL mk m (setA (mk L).1 ah (mk L).2.1) (mk L).2.2
/-- Some copies that may be left out: the states, what is ahead, the splits. -/
def opL (mk : List Sd → List Sd × Nat × Nat) : Nat → List Sd → Nat → List Sd × Nat × List Nat
  | 0, L, ah => (L, ah, [])
  | m + 1, L, ah =>
    let r := opL mk m (setA ((mk L).1 ++ [sS (mk L).2.1 0]) ah (mk L).1.length) (mk L).2.2
    (r.1, r.2.1, (mk L).1.length :: r.2.2)
def bsL (last : Nat) : List Sd → List Nat → List Sd
  | L, [] => L
  | L, s :: sp => bsL last (setB L s last) sp
def edL9 (inf : Bool) (r : List Sd × Nat × List Nat) : List Sd × Nat :=
  let U := setA (r.1 ++ [sE 0]) r.2.1 r.1.length
  let V := if inf then setA U r.2.1 (r.2.2.headD 0) else U
  (bsL r.1.length V r.2.2, r.1.length)
def leafS (x : Nd) (A : Nat) : Sd := ⟨skd x.k, x.a, x.b, x.c, x.d, A, 0⟩
/-- What is made of a tree's part, behind some states: all states, its first and its last one. -/
def mkF : Tr → List Sd → List Sd × Nat × Nat
  | .leaf x, L => (L ++ [leafS x (L.length + 1)] ++ [sE 0], L.length, L.length + 1)
  | .cat a b, L => (setA (mkF b (mkF a L).1).1 (mkF a L).2.2 (mkF b (mkF a L).1).2.1, (mkF a L).2.1, (mkF b (mkF a L).1).2.2)
  | .or a b, L =>
    let x := mkF a L
    let y := mkF b x.1
    (setA (setA (y.1 ++ [sS x.2.1 y.2.1] ++ [sE 0]) x.2.2 (y.1.length + 1)) y.2.2 (y.1.length + 1), y.1.length, y.1.length + 1)
  | .rep a lo hi, L =>
    let p := cpL (mkF a) lo.toNat (L ++ [sE 0]) L.length
    let r := edL9 (hi == -1) (opL (mkF a) (if hi = -1 then 1 else (hi - lo).toNat) p.1 p.2)
    (r.1, L.length, r.2)

/-- A part stands where its states stand. -/
def samP (S S' : Nat → Sd) (P P' : Nat → Nat → Nat → Prop) (sz : Nat) : Prop := ∀ b f l, (∀ q, b ≤ q → q < b + sz → q ≠ l → S q = S' q) → P b f l → P' b f l
theorem cps_same {S S' : Nat → Sd} {P P' : Nat → Nat → Nat → Prop} {sz : Nat} (hP : inP P sz) (hs : samP S S' P P' sz) : ∀ {m base ah b1 a1}, ah < base → (∀ q, (q = ah ∨ (base ≤ q ∧ q < b1)) → q ≠ a1 → S q = S' q) → cps S P sz m base ah b1 a1 → cps S' P' sz m base ah b1 a1
  | 0, _, _, _, _, _, _, h => h
  | m + 1, base, ah, b1, a1, hlt, hq, ⟨f, l, h1, h2, h3⟩ => by
    obtain ⟨k1, k2, k3, k4, k5⟩ := hP _ _ _ h2
    obtain ⟨g1, g2⟩ := cps_bd hP h3
    have hb1 : base + sz ≤ b1 := by omega
    refine ⟨f, l, ?_, hs _ _ _ (fun q q1 q2 q3 => hq q (.inr ⟨q1, by omega⟩) (by rcases g2 with ⟨_, rfl⟩ | g2 <;> omega)) h2, cps_same hP hs (by omega) (fun q hq' hne => hq q (.inr (by rcases hq' with rfl | hq' <;> omega)) hne) h3⟩
    rw [← hq ah (.inl rfl) (by rcases g2 with ⟨_, rfl⟩ | g2 <;> omega)]
    exact h1
theorem opts_same {S S' : Nat → Sd} {P P' : Nat → Nat → Nat → Prop} {sz : Nat} (hP : inP P sz) (hs : samP S S' P P' sz) : ∀ {m base ah L}, (∀ q, (q = ah ∨ (base ≤ q ∧ q < L)) → S q = S' q) → opts S P sz m base ah L → opts S' P' sz m base ah L
  | 0, _, ah, _, hq, ⟨h1, h2⟩ => ⟨h1, by rw [← hq ah (.inl rfl)]; exact h2⟩
  | m + 1, base, ah, L, hq, ⟨f, l, h1, h2, h3, h4⟩ => by
    obtain ⟨k1, k2, k3, k4, k5⟩ := hP _ _ _ h1
    have g := opts_bd h4
    refine ⟨f, l, hs _ _ _ (fun q q1 q2 _ => hq q (.inr ⟨q1, by omega⟩)) h1, ?_, ?_, opts_same hP hs (fun q hq' => hq q (.inr (by rcases hq' with rfl | hq' <;> omega))) h4⟩
    · rw [← hq _ (.inr ⟨by omega, by omega⟩)]; exact h2
    · rw [← hq ah (.inl rfl)]; exact h3
theorem again_same {S S' : Nat → Sd} {P P' : Nat → Nat → Nat → Prop} {sz : Nat} (hP : inP P sz) (hs : samP S S' P P' sz) {base ah L : Nat} (hq : ∀ q, (q = ah ∨ (base ≤ q ∧ q < L)) → S q = S' q) (h : again9 S P sz base ah L) : again9 S' P' sz base ah L := by
  obtain ⟨f, l, h1, h2, h3, h4, h5⟩ := h
  obtain ⟨k1, k2, k3, k4, k5⟩ := hP _ _ _ h1
  exact ⟨f, l, hs _ _ _ (fun q q1 q2 _ => hq q (.inr ⟨q1, by omega⟩)) h1, by rw [← hq _ (.inr ⟨by omega, by omega⟩)]; exact h2, by rw [← hq ah (.inl rfl)]; exact h3, by rw [← hq _ (.inr ⟨by omega, by omega⟩)]; exact h4, h5⟩
theorem fr_same {S S' : Nat → Sd} : ∀ t, samP S S' (isFr S t) (isFr S' t) (nst t)
  | .leaf x, b, f, l, hq, ⟨h1, h2, h3⟩ => ⟨h1, h2, by rw [← hq f (by omega) (by show _ < b + 2; omega) (by omega)]; exact h3⟩
  | .cat x y, b, f, l, hq, ⟨la, fb, h1, h2, h3⟩ => by
    have g1 := fr_bd S x _ _ _ h1
    have g2 := fr_bd S y _ _ _ h2
    have hq : ∀ q, b ≤ q → q < b + (nst x + nst y) → q ≠ l → S q = S' q := hq
    exact ⟨la, fb, fr_same x _ _ _ (fun q q1 q2 q3 => hq q q1 (by omega) (by omega)) h1, fr_same y _ _ _ (fun q q1 q2 q3 => hq q (by omega) (by omega) q3) h2, by rw [← hq la (by omega) (by omega) (by omega)]; exact h3⟩
  | .or x y, b, f, l, hq, ⟨fa, la, fb, lb, h1, h2, h3, h4, h5, h6, h7⟩ => by
    have g1 := fr_bd S x _ _ _ h1
    have g2 := fr_bd S y _ _ _ h2
    have hq : ∀ q, b ≤ q → q < b + (nst x + nst y + 2) → q ≠ l → S q = S' q := hq
    exact ⟨fa, la, fb, lb, fr_same x _ _ _ (fun q q1 q2 q3 => hq q q1 (by omega) (by omega)) h1, fr_same y _ _ _ (fun q q1 q2 q3 => hq q (by omega) (by omega) (by omega)) h2, h3, h4,
      by rw [← hq f (by omega) (by omega) (by omega)]; exact h5, by rw [← hq la (by omega) (by omega) (by omega)]; exact h6, by rw [← hq lb (by omega) (by omega) (by omega)]; exact h7⟩
  | .rep x lo hi, b, f, l, hq, ⟨h1, base', ah, h2, h3⟩ => by
    have hP := fr_bd S x
    obtain ⟨g1, g2⟩ := cps_bd hP h2
    have hl : b + 1 ≤ base' ∧ base' ≤ l ∧ l < b + nst (.rep x lo hi) := by
      refine ⟨by omega, ?_, ?_⟩
      · by_cases hh : hi = -1
        · rw [if_pos hh] at h3; obtain ⟨_, _, _, _, _, _, h8⟩ := h3; omega
        · rw [if_neg hh] at h3; have := opts_bd h3; omega
      · show _ < b + (2 + lo.toNat * nst x + _)
        by_cases hh : hi = -1
        · rw [if_pos hh] at h3 ⊢; obtain ⟨_, _, _, _, _, _, h8⟩ := h3; omega
        · rw [if_neg hh] at h3 ⊢; have := opts_bd h3; omega
    have hS : ∀ q, b ≤ q → q < l → S q = S' q := fun q q1 q2 => hq q q1 (by omega) (by omega)
    refine ⟨h1, base', ah, cps_same hP (fr_same x) (by omega) (fun q q1 q2 => hS q (by omega) (by omega)) h2, ?_⟩
    by_cases hh : hi = -1
    · rw [if_pos hh] at h3 ⊢
      exact again_same hP (fr_same x) (fun q q1 => hS q (by omega) (by rcases q1 with rfl | q1 <;> first | omega | (obtain ⟨_, _, _, _, _, _, h8⟩ := h3; omega))) h3
    · rw [if_neg hh] at h3 ⊢
      have hbd := opts_bd h3
      by_cases hl' : ah < l
      · exact opts_same hP (fr_same x) (fun q q1 => hS q (by omega) (by omega)) h3
      · omega
end Go.Proofs.Ytnoaejpabfnfpaa

namespace Go.Proofs.Ytnoaejpabfnfpaa

def mkOK (P : (Nat → Sd) → Nat → Nat → Nat → Prop) (sz : Nat) (mk : List Sd → List Sd × Nat × Nat) : Prop := ∀ L, (mk L).1.length = L.length + sz ∧ (∀ q, q < L.length → sfn (mk L).1 q = sfn L q) ∧
  P (sfn (mk L).1) L.length (mk L).2.1 (mk L).2.2 ∧ sfn (mk L).1 (mk L).2.2 = sE 0
section
variable {P : (Nat → Sd) → Nat → Nat → Nat → Prop} {sz : Nat} {mk : List Sd → List Sd × Nat × Nat}
theorem cp_ok (hP : ∀ S, inP (P S) sz) (hs : ∀ S S', samP S S' (P S) (P S') sz) (hm : mkOK P sz mk) : ∀ m L ah, ah < L.length → sfn L ah = sE 0 →
    (cpL mk m L ah).1.length = L.length + m * sz ∧ (∀ q, q < L.length → q ≠ ah → sfn (cpL mk m L ah).1 q = sfn L q) ∧ sfn (cpL mk m L ah).1 (cpL mk m L ah).2 = sE 0 ∧ (cpL mk m L ah).2 < (cpL mk m L ah).1.length ∧
      ((m = 0 ∧ (cpL mk m L ah).2 = ah) ∨ L.length ≤ (cpL mk m L ah).2) ∧ cps (sfn (cpL mk m L ah).1) (P (sfn (cpL mk m L ah).1)) sz m L.length ah (cpL mk m L ah).1.length (cpL mk m L ah).2
  | 0, L, ah, h1, h2 => ⟨by rw [Nat.zero_mul]; rfl, fun _ _ _ => rfl, h2, h1, .inl ⟨rfl, rfl⟩, rfl, rfl⟩
  | m + 1, L, ah, h1, h2 => by
    obtain ⟨e1, e2, e3, e4⟩ := hm L
    obtain ⟨k1, k2, k3, k4, k5⟩ := hP _ _ _ _ e3
    show _ ∧ _
    have eL : cpL mk (m + 1) L ah = cpL mk m (setA (mk L).1 ah (mk L).2.1) (mk L).2.2 := rfl
    rw [eL]
    have hl : (setA (mk L).1 ah (mk L).2.1).length = L.length + sz := by rw [setA_len, e1]
    obtain ⟨i1, i2, i3, i4, i5, i6⟩ := cp_ok hP hs hm m (setA (mk L).1 ah (mk L).2.1) (mk L).2.2 (by omega) (by rw [setA_ne (by omega)]; exact e4)
    generalize cpL mk m (setA (mk L).1 ah (mk L).2.1) (mk L).2.2 = R at *
    rw [hl] at i1 i2 i5 i6
    have em : (m + 1) * sz = m * sz + sz := Nat.succ_mul m sz
    have hold : ∀ q, q < L.length + sz → q ≠ (mk L).2.2 → q ≠ ah → sfn R.1 q = sfn (mk L).1 q := fun q q1 q2 q3 => by rw [i2 q q1 q2, setA_ne q3]
    refine ⟨by omega, fun q q1 q2 => by rw [hold q (by omega) (by omega) q2]; exact e2 q q1, i3, i4, .inr (by omega), (mk L).2.1, (mk L).2.2, ?_, ?_, i6⟩
    · rw [i2 ah (by omega) (by omega)]
      exact setA_E (by omega) (by rw [e2 ah h1]; exact h2)
    · exact hs _ _ _ _ _ (fun q q1 q2 q3 => (hold q q2 q3 (by omega)).symm) e3

/-- Copies that may be left out, whose splits don't yet go on. -/
def optO (S : Nat → Sd) (P : Nat → Nat → Nat → Prop) (sz : Nat) : Nat → Nat → Nat → Nat → Nat → List Nat → Prop
  | 0, base, ah, L', ah', sp => L' = base ∧ ah' = ah ∧ sp = []
  | m + 1, base, ah, L', ah', sp => ∃ f l sp', P base f l ∧ S (base + sz) = sS f 0 ∧ S ah = sE (base + sz : Nat) ∧ sp = (base + sz) :: sp' ∧ optO S P sz m (base + sz + 1) l L' ah' sp'
theorem op_ok (hP : ∀ S, inP (P S) sz) (hs : ∀ S S', samP S S' (P S) (P S') sz) (hm : mkOK P sz mk) : ∀ m L ah, ah < L.length → sfn L ah = sE 0 →
    (opL mk m L ah).1.length = L.length + m * (sz + 1) ∧ (∀ q, q < L.length → q ≠ ah → sfn (opL mk m L ah).1 q = sfn L q) ∧ sfn (opL mk m L ah).1 (opL mk m L ah).2.1 = sE 0 ∧ (opL mk m L ah).2.1 < (opL mk m L ah).1.length ∧
      ((m = 0 ∧ (opL mk m L ah).2.1 = ah) ∨ L.length ≤ (opL mk m L ah).2.1) ∧ (∀ s, s ∈ (opL mk m L ah).2.2 → L.length ≤ s ∧ s < (opL mk m L ah).1.length ∧ s ≠ (opL mk m L ah).2.1) ∧
      optO (sfn (opL mk m L ah).1) (P (sfn (opL mk m L ah).1)) sz m L.length ah (opL mk m L ah).1.length (opL mk m L ah).2.1 (opL mk m L ah).2.2
  | 0, L, ah, h1, h2 => ⟨by rw [Nat.zero_mul]; rfl, fun _ _ _ => rfl, h2, h1, .inl ⟨rfl, rfl⟩, fun s h => by simp [opL] at h, rfl, rfl, rfl⟩
  | m + 1, L, ah, h1, h2 => by
    obtain ⟨e1, e2, e3, e4⟩ := hm L
    obtain ⟨k1, k2, k3, k4, k5⟩ := hP _ _ _ _ e3
    have eL : opL mk (m + 1) L ah = ((opL mk m (setA ((mk L).1 ++ [sS (mk L).2.1 0]) ah (mk L).1.length) (mk L).2.2).1, (opL mk m (setA ((mk L).1 ++ [sS (mk L).2.1 0]) ah (mk L).1.length) (mk L).2.2).2.1, (mk L).1.length :: (opL mk m (setA ((mk L).1 ++ [sS (mk L).2.1 0]) ah (mk L).1.length) (mk L).2.2).2.2) := rfl
    rw [eL]
    have hl : (setA ((mk L).1 ++ [sS (mk L).2.1 0]) ah (mk L).1.length).length = L.length + sz + 1 := by rw [setA_len, List.length_append, e1]; rfl
    obtain ⟨i1, i2, i3, i4, i5, i6, i7⟩ := op_ok hP hs hm m (setA ((mk L).1 ++ [sS (mk L).2.1 0]) ah (mk L).1.length) (mk L).2.2 (by omega) (by rw [setA_ne (by omega), sfn_old (by omega)]; exact e4)
    have hA : ∀ q, q < L.length + sz → q ≠ ah → sfn (setA ((mk L).1 ++ [sS (mk L).2.1 0]) ah (mk L).1.length) q = sfn (mk L).1 q := fun q q1 q2 => by rw [setA_ne q2, sfn_old (by omega)]
    have hN : sfn (setA ((mk L).1 ++ [sS (mk L).2.1 0]) ah (mk L).1.length) (L.length + sz) = sS (mk L).2.1 0 := by rw [setA_ne (by omega), sfn_new e1.symm]
    have hH : sfn (setA ((mk L).1 ++ [sS (mk L).2.1 0]) ah (mk L).1.length) ah = sE (L.length + sz : Nat) := by
      rw [← e1]
      exact setA_E (by rw [List.length_append]; omega) (by rw [sfn_old (by omega), e2 ah h1]; exact h2)
    generalize opL mk m (setA ((mk L).1 ++ [sS (mk L).2.1 0]) ah (mk L).1.length) (mk L).2.2 = R at *
    generalize setA ((mk L).1 ++ [sS (mk L).2.1 0]) ah (mk L).1.length = L1 at *
    simp only
    rw [hl] at i1 i2 i5 i6 i7
    have em : (m + 1) * (sz + 1) = m * (sz + 1) + (sz + 1) := Nat.succ_mul m (sz + 1)
    have hold : ∀ q, q < L.length + sz → q ≠ (mk L).2.2 → q ≠ ah → sfn R.1 q = sfn (mk L).1 q := fun q q1 q2 q3 => by rw [i2 q (by omega) q2, hA q q1 q3]
    refine ⟨by omega, fun q q1 q2 => by rw [hold q (by omega) (by omega) q2]; exact e2 q q1, i3, i4, .inr (by omega), fun s hsp => ?_, (mk L).2.1, (mk L).2.2, R.2.2, ?_, ?_, ?_, by rw [e1], i7⟩
    · rcases List.mem_cons.1 hsp with rfl | hsp
      · rcases i5 with ⟨-, i5⟩ | i5 <;> omega
      · have := i6 s hsp; omega
    · exact hs _ _ _ _ _ (fun q q1 q2 q3 => (hold q q2 q3 (by omega)).symm) e3
    · rw [i2 _ (by omega) (by omega)]; exact hN
    · rw [i2 ah (by omega) (by omega)]; exact hH
end

theorem bs_len (last : Nat) : ∀ (sp : List Nat) (U : List Sd), (bsL last U sp).length = U.length
  | [], _ => rfl
  | s :: sp, U => by
    show (bsL last (setB U s last) sp).length = _
    rw [bs_len last sp, setB_len]
theorem bs_out (last : Nat) : ∀ (sp : List Nat) (U : List Sd) (q : Nat), q ∉ sp → sfn (bsL last U sp) q = sfn U q
  | [], _, _, _ => rfl
  | s :: sp, U, q, h => by
    show sfn (bsL last (setB U s last) sp) q = _
    rw [bs_out last sp _ q (fun hq => h (List.mem_cons_of_mem _ hq)), setB_ne (fun e => h (by rw [e]; exact List.mem_cons_self))]
theorem bs_in (last : Nat) : ∀ (sp : List Nat) (U : List Sd) (q : Nat), (∀ s, s ∈ sp → s < U.length) → q ∈ sp → sfn (bsL last U sp) q = { sfn U q with B := (last : Int) }
  | s :: sp, U, q, hlt, h => by
    show sfn (bsL last (setB U s last) sp) q = _
    have hs : s < U.length := hlt s List.mem_cons_self
    by_cases hq : q ∈ sp
    · rw [bs_in last sp _ q (fun x hx => by rw [setB_len]; exact hlt x (List.mem_cons_of_mem _ hx)) hq]
      by_cases e : q = s
      · subst e; rw [setB_at hs]
      · rw [setB_ne e]
    · rcases List.mem_cons.1 h with rfl | h
      · rw [bs_out last sp _ q hq, setB_at hs]
      · exact absurd h hq

theorem optO_bd {S : Nat → Sd} {P : Nat → Nat → Nat → Prop} {sz : Nat} (hP : inP P sz) : ∀ {m base ah L' ah' sp}, optO S P sz m base ah L' ah' sp → L' = base + m * (sz + 1) ∧ (∀ s, s ∈ sp → base + sz ≤ s ∧ s < L') ∧ ((m = 0 ∧ ah' = ah) ∨ (base ≤ ah' ∧ ah' < L'))
  | 0, base, ah, L', ah', sp, ⟨h1, h2, h3⟩ => ⟨by omega, fun s hs => (by rw [h3] at hs; cases hs), .inl ⟨rfl, h2⟩⟩
  | m + 1, base, ah, L', ah', sp, ⟨f, l, sp', h1, _, _, h4, h5⟩ => by
    obtain ⟨k1, k2, k3, k4, k5⟩ := hP _ _ _ h1
    obtain ⟨g1, g2, g3⟩ := optO_bd hP h5
    have em : (m + 1) * (sz + 1) = m * (sz + 1) + (sz + 1) := Nat.succ_mul m (sz + 1)
    refine ⟨by omega, fun s hs => ?_, .inr ?_⟩
    · rw [h4] at hs
      rcases List.mem_cons.1 hs with rfl | hs
      · omega
      · have := g2 s hs; omega
    · rcases g3 with ⟨rfl, rfl⟩ | g3
      · rw [Nat.zero_mul] at g1; omega
      · omega
/-- Where the splits go on, and what is ahead: copies that may be left out. -/
theorem opts_of {S S' : Nat → Sd} {P P' : Nat → Nat → Nat → Prop} {sz : Nat} (hP : inP P sz) (hs : samP S S' P P' sz) {L' : Nat} : ∀ {m base ah ah' sp}, ah < base → optO S P sz m base ah L' ah' sp →
    (∀ q, q ≠ ah' → q ∉ sp → (q = ah ∨ (base ≤ q ∧ q < L')) → S' q = S q) → (∀ s, s ∈ sp → S' s = { S s with B := (L' : Int) }) → S' ah' = sE L' → opts S' P' sz m base ah L'
  | 0, base, ah, ah', sp, _, ⟨h1, h2, _⟩, _, _, he => ⟨h1, by rw [← h2]; exact he⟩
  | m + 1, base, ah, ah', sp, hlt, ⟨f, l, sp', h1, h2, h3, h4, h5⟩, hq, hsp, he => by
    obtain ⟨k1, k2, k3, k4, k5⟩ := hP _ _ _ h1
    obtain ⟨g1, g2, g3⟩ := optO_bd hP h5
    have hah : ah' = l ∨ base + sz + 1 ≤ ah' := by rcases g3 with ⟨_, e⟩ | g3 <;> omega
    have hnot : ∀ q, q < base + sz → q ∉ sp := fun q q1 hm => by
      rw [h4] at hm
      rcases List.mem_cons.1 hm with rfl | hm
      · omega
      · have := g2 q hm; omega
    refine ⟨f, l, hs _ _ _ (fun q q1 q2 q3 => (hq q (by omega) (hnot q q2) (.inr ⟨q1, by omega⟩)).symm) h1, ?_, ?_, opts_of hP hs (by omega) h5 (fun q q1 q2 q3 => ?_) (fun s h => hsp s (by rw [h4]; exact List.mem_cons_of_mem _ h)) he⟩
    · rw [hsp _ (by rw [h4]; exact List.mem_cons_self), h2]; rfl
    · rw [hq ah (by omega) (hnot ah (by omega)) (.inl rfl)]; exact h3
    · refine hq q q1 (fun hm => ?_) (.inr (by rcases q3 with rfl | q3 <;> omega))
      rw [h4] at hm
      rcases List.mem_cons.1 hm with rfl | hm
      · rcases q3 with q3 | q3 <;> omega
      · exact q2 hm
/-- What the ends lead to. -/
theorem end_ok {inf : Bool} {r : List Sd × Nat × List Nat} (h1 : r.2.1 < r.1.length) (h2 : sfn r.1 r.2.1 = sE 0) (h3 : ∀ s, s ∈ r.2.2 → s < r.1.length ∧ s ≠ r.2.1) :
    (edL9 inf r).2 = r.1.length ∧ (edL9 inf r).1.length = r.1.length + 1 ∧ (∀ q, q < r.1.length → q ≠ r.2.1 → q ∉ r.2.2 → sfn (edL9 inf r).1 q = sfn r.1 q) ∧ (∀ s, s ∈ r.2.2 → sfn (edL9 inf r).1 s = { sfn r.1 s with B := (r.1.length : Int) }) ∧
      sfn (edL9 inf r).1 r.2.1 = sE (if inf then r.2.2.headD 0 else r.1.length : Nat) ∧ sfn (edL9 inf r).1 r.1.length = sE 0 := by
  obtain ⟨U, ah, sp⟩ := r
  simp only at h1 h2 h3 ⊢
  have hU : (setA (U ++ [sE 0]) ah U.length).length = U.length + 1 := by rw [setA_len, List.length_append]; rfl
  have eV : ∃ V, (if inf then setA (setA (U ++ [sE 0]) ah U.length) ah (sp.headD 0) else setA (U ++ [sE 0]) ah U.length) = V ∧ V.length = U.length + 1 ∧ (∀ q, q < U.length → q ≠ ah → sfn V q = sfn U q) ∧ sfn V ah = sE (if inf then sp.headD 0 else U.length : Nat) ∧ sfn V U.length = sE 0 := by
    refine ⟨_, rfl, ?_⟩
    cases inf with
    | true =>
      simp only [if_true]
      refine ⟨by rw [setA_len, hU], fun q q1 q2 => by rw [setA_ne q2, setA_ne q2, sfn_old q1], setA_EE (by omega) (setA_E (by rw [List.length_append]; omega) (by rw [sfn_old h1]; exact h2)), by rw [setA_ne (by omega), setA_ne (by omega), sfn_new rfl]⟩
    | false =>
      simp only [Bool.false_eq_true, if_false]
      refine ⟨hU, fun q q1 q2 => by rw [setA_ne q2, sfn_old q1], setA_E (by rw [List.length_append]; omega) (by rw [sfn_old h1]; exact h2), by rw [setA_ne (by omega), sfn_new rfl]⟩
  obtain ⟨V, e, v1, v2, v3, v4⟩ := eV
  have eE : edL9 inf (U, ah, sp) = (bsL U.length V sp, U.length) := by unfold edL9; simp only; rw [e]
  rw [eE]
  simp only
  have hlt : ∀ s, s ∈ sp → s < V.length := fun s hs => by have := (h3 s hs).1; omega
  refine ⟨trivial, by rw [bs_len, v1], fun q q1 q2 q3 => by rw [bs_out _ _ _ _ q3, v2 q q1 q2], fun s hs => by rw [bs_in _ _ _ _ hlt hs, v2 s (h3 s hs).1 (h3 s hs).2], by rw [bs_out _ _ _ _ (fun hm => (h3 ah hm).2 rfl), v3], by rw [bs_out _ _ _ _ (fun hm => by have := (h3 _ hm).1; omega), v4]⟩

theorem mk_ok : ∀ t, mkOK (fun S => isFr S t) (nst t) (mkF t)
  | .leaf x, L => by
    have e : mkF (.leaf x) L = (L ++ [leafS x (L.length + 1)] ++ [sE 0], L.length, L.length + 1) := rfl
    rw [e]
    simp only
    refine ⟨by simp [nst], fun q hq => by rw [sfn_old (by simp; omega), sfn_old hq], ⟨rfl, rfl, ?_⟩, by rw [sfn_new (by simp)]⟩
    rw [sfn_old (by simp), sfn_new rfl]; rfl
  | .cat a b, L => by
    obtain ⟨a1, a2, a3, a4⟩ := mk_ok a L
    obtain ⟨b1, b2, b3, b4⟩ := mk_ok b (mkF a L).1
    have e : mkF (.cat a b) L = (setA (mkF b (mkF a L).1).1 (mkF a L).2.2 (mkF b (mkF a L).1).2.1, (mkF a L).2.1, (mkF b (mkF a L).1).2.2) := rfl
    rw [e]
    generalize mkF b (mkF a L).1 = y at *
    generalize mkF a L = x at *
    simp only at *
    obtain ⟨k1, k2, k3, k4, k5⟩ := fr_bd _ a _ _ _ a3
    obtain ⟨l1, l2, l3, l4, l5⟩ := fr_bd _ b _ _ _ b3
    have hold : ∀ q, q < x.1.length → q ≠ x.2.2 → sfn (setA y.1 x.2.2 y.2.1) q = sfn x.1 q := fun q q1 q2 => by rw [setA_ne q2, b2 q q1]
    refine ⟨by rw [setA_len]; show _ = _ + (nst a + nst b); omega, fun q hq => by rw [hold q (by omega) (by omega), a2 q hq], ⟨x.2.2, y.2.1, ?_, ?_, ?_⟩, by rw [setA_ne (by omega)]; exact b4⟩
    · exact fr_same a _ _ _ (fun q q1 q2 q3 => (hold q (by omega) q3).symm) a3
    · rw [← a1]; exact fr_same b _ _ _ (fun q q1 q2 q3 => (setA_ne (by omega)).symm) b3
    · exact setA_E (by omega) (by rw [b2 _ (by omega)]; exact a4)
  | .or a b, L => by
    obtain ⟨a1, a2, a3, a4⟩ := mk_ok a L
    obtain ⟨b1, b2, b3, b4⟩ := mk_ok b (mkF a L).1
    have e : mkF (.or a b) L = (setA (setA ((mkF b (mkF a L).1).1 ++ [sS (mkF a L).2.1 (mkF b (mkF a L).1).2.1] ++ [sE 0]) (mkF a L).2.2 ((mkF b (mkF a L).1).1.length + 1)) (mkF b (mkF a L).1).2.2 ((mkF b (mkF a L).1).1.length + 1), (mkF b (mkF a L).1).1.length, (mkF b (mkF a L).1).1.length + 1) := rfl
    rw [e]
    generalize mkF b (mkF a L).1 = y at *
    generalize mkF a L = x at *
    simp only at *
    obtain ⟨k1, k2, k3, k4, k5⟩ := fr_bd _ a _ _ _ a3
    obtain ⟨l1, l2, l3, l4, l5⟩ := fr_bd _ b _ _ _ b3
    have hW : (y.1 ++ [sS x.2.1 y.2.1] ++ [sE 0]).length = y.1.length + 2 := by simp
    have hol : ∀ q, q < y.1.length → q ≠ x.2.2 → q ≠ y.2.2 → sfn (setA (setA (y.1 ++ [sS x.2.1 y.2.1] ++ [sE 0]) x.2.2 (y.1.length + 1)) y.2.2 (y.1.length + 1)) q = sfn y.1 q := fun q q1 q2 q3 => by
      rw [setA_ne q3, setA_ne q2, sfn_old (by simp; omega), sfn_old q1]
    refine ⟨by rw [setA_len, setA_len, hW]; show _ = _ + (nst a + nst b + 2); omega, fun q hq => by rw [hol q (by omega) (by omega) (by omega), b2 q (by omega), a2 q hq], ⟨x.2.1, x.2.2, y.2.1, y.2.2, ?_, ?_, by omega, rfl, ?_, ?_, ?_⟩, ?_⟩
    · exact fr_same a _ _ _ (fun q q1 q2 q3 => by rw [hol q (by omega) q3 (by omega), b2 q (by omega)]) a3
    · rw [← a1]; exact fr_same b _ _ _ (fun q q1 q2 q3 => by rw [hol q (by omega) (by omega) q3]) b3
    · rw [setA_ne (by omega), setA_ne (by omega), sfn_old (by simp), sfn_new rfl]
    · rw [setA_ne (by omega)]
      exact setA_E (by omega) (by rw [sfn_old (by simp; omega), sfn_old (by omega), b2 _ (by omega)]; exact a4)
    · exact setA_E (by rw [setA_len]; omega) (by rw [setA_ne (by omega), sfn_old (by simp; omega), sfn_old (by omega)]; exact b4)
    · rw [setA_ne (by omega), setA_ne (by omega), sfn_new (by simp)]
  | .rep a lo hi, L => by
    have hP : ∀ S, inP (isFr S a) (nst a) := fun S => fr_bd S a
    have hs : ∀ S S' : Nat → Sd, samP S S' (isFr S a) (isFr S' a) (nst a) := fun S S' => fr_same a
    have hm := mk_ok a
    have h0 : (L ++ [sE 0]).length = L.length + 1 := by simp
    obtain ⟨c1, c2, c3, c4, c5, c6⟩ := cp_ok (P := fun S => isFr S a) hP hs hm lo.toNat (L ++ [sE 0]) L.length (by omega) (sfn_new rfl)
    have e : mkF (.rep a lo hi) L = ((edL9 (hi == -1) (opL (mkF a) (if hi = -1 then 1 else (hi - lo).toNat) (cpL (mkF a) lo.toNat (L ++ [sE 0]) L.length).1 (cpL (mkF a) lo.toNat (L ++ [sE 0]) L.length).2)).1, L.length, (edL9 (hi == -1) (opL (mkF a) (if hi = -1 then 1 else (hi - lo).toNat) (cpL (mkF a) lo.toNat (L ++ [sE 0]) L.length).1 (cpL (mkF a) lo.toNat (L ++ [sE 0]) L.length).2)).2) := rfl
    rw [e]
    generalize cpL (mkF a) lo.toNat (L ++ [sE 0]) L.length = p at *
    obtain ⟨o1, o2, o3, o4, o5, o6, o7⟩ := op_ok (P := fun S => isFr S a) hP hs hm (if hi = -1 then 1 else (hi - lo).toNat) p.1 p.2 c4 c3
    generalize hmm : (if hi = -1 then 1 else (hi - lo).toNat) = m at *
    generalize opL (mkF a) m p.1 p.2 = r at *
    obtain ⟨n1, n2, n3, n4, n5, n6⟩ := end_ok (inf := hi == -1) (r := r) o4 o3 (fun s h => (o6 s h).2)
    generalize edL9 (hi == -1) r = E at *
    simp only at *
    rw [h0] at c1 c2 c5 c6
    have hpl : L.length + 1 ≤ p.1.length := by omega
    have hrl : p.1.length ≤ r.1.length := by omega
    have hold : ∀ q, q < p.1.length → q ≠ p.2 → sfn E.1 q = sfn p.1 q := fun q q1 q2 => by
      rw [n3 q (by omega) (by rcases o5 with ⟨_, o5⟩ | o5 <;> omega) (fun hm => by have := o6 q hm; omega), o2 q q1 q2]
    refine ⟨?_, fun q hq => ?_, ⟨rfl, p.1.length, p.2, cps_same (hP _) (hs _ _) (by omega) (fun q q1 q2 => (hold q (by omega) q2).symm) c6, ?_⟩, by rw [n1]; exact n6⟩
    · rw [n2, o1, c1]
      show _ = _ + (2 + lo.toNat * nst a + _)
      rw [← hmm]
      by_cases hh : hi = -1
      · rw [if_pos hh, if_pos hh]; omega
      · rw [if_neg hh, if_neg hh]; omega
    · rw [hold q (by omega) (by rcases c5 with ⟨_, c5⟩ | c5 <;> omega), c2 q (by omega) (by omega), sfn_old hq]
    · rw [n1]
      by_cases hh : hi = -1
      · rw [if_pos hh] at hmm ⊢
        subst hmm
        rw [hh] at n5
        simp only [beq_self_eq_true, if_true] at n5
        obtain ⟨f, l, sp', g1, g2, g3, g4, g5, g6, g7⟩ := o7
        obtain ⟨k1, k2, k3, k4, k5⟩ := hP _ _ _ _ g1
        subst g7
        rw [g4] at n5 n4 o6 n3
        rw [g6] at n5 n3 o6
        simp only [List.headD_cons] at n5
        have hne : ∀ q, q < p.1.length + nst a → q ≠ l → sfn E.1 q = sfn r.1 q := fun q q1 q2 => n3 q (by omega) q2 (fun hm => by simp at hm; omega)
        refine ⟨f, l, hs _ _ _ _ _ (fun q q1 q2 q3 => (hne q q2 q3).symm) g1, ?_, ?_, n5, by omega⟩
        · rw [n4 _ (by simp), g2]; rfl
        · rw [hne p.2 (by omega) (by omega)]; exact g3
      · rw [if_neg hh] at hmm ⊢
        subst hmm
        have hb : (hi == -1) = false := by simp [hh]
        rw [hb] at n5
        simp only [Bool.false_eq_true, if_false] at n5
        exact opts_of (hP _) (hs _ _) c4 o7 (fun q q1 q2 q3 => n3 q (by rcases q3 with rfl | q3 <;> omega) q1 q2) n4 n5
end Go.Proofs.Ytnoaejpabfnfpaa
