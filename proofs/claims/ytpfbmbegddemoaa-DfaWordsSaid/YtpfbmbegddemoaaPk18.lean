/-
  Grids in memory: a slice of rows of bools; the walk of the reference's grid.
  A place of a grid read and written; the walk of the reference's Even.
  The walk of the reference's Either.
-/
import Derived.Test.YtpfbmbegddemoaaPk7
import Derived.Test.YtpfbmbegddemoaaPk9
import Derived.OwnWalk
namespace Go.Proofs.Ytpfbmbegddemoaa
open Go.RowKit

theorem infoRowB : (Try.prog.info? 23).map (fun i => (i.zero, i.size, i.bytes)) = some (some (.slice none 0 0), 1, 24) := by kernel_rfl
theorem infoB7 : (Try.prog.info? 4).map (fun i => (i.zero, i.size, i.bytes)) = some (some (.bool false), 1, 1) := by kernel_rfl
def bvs (G : Nat → Bool) (n : Nat) : List Value := (List.range (n + 1)).map fun j => .bool (G j)
theorem bvs_length (G : Nat → Bool) (n : Nat) : (bvs G n).length = n + 1 := by simp [bvs]
theorem bvs_at (G : Nat → Bool) (n j : Nat) (h : j ≤ n) : (bvs G n)[j]? = some (.bool (G j)) := by simp [bvs, show j < n + 1 by omega]
def rowVals (r : Nat → Nat) (n k : Nat) : List Value := (List.range k).map fun i => .slice (some ⟨r i, 0, none⟩) (n + 1) (n + 1)
theorem rowVals_length (r : Nat → Nat) (n k : Nat) : (rowVals r n k).length = k := by simp [rowVals]
theorem rowVals_at (r : Nat → Nat) (n k i : Nat) (h : i < k) : (rowVals r n k)[i]? = some (.slice (some ⟨r i, 0, none⟩) (n + 1) (n + 1)) := by simp [rowVals, h]
theorem rowVals_succ (r : Nat → Nat) (n k : Nat) : rowVals r n (k + 1) = rowVals r n k ++ [.slice (some ⟨r k, 0, none⟩) (n + 1) (n + 1)] := by simp [rowVals, List.range_succ]
theorem rowVals_same {r r' : Nat → Nat} (n : Nat) {k : Nat} (h : ∀ i, i < k → r i = r' i) : rowVals r n k = rowVals r' n k := by
  unfold rowVals
  exact List.map_congr_left fun i hi => by rw [h i (List.mem_range.1 hi)]
theorem bvs_none (n : Nat) : bvs (fun _ => false) n = List.replicate (n + 1) (.bool false) := by
  unfold bvs
  apply List.ext_getElem <;> simp
theorem made_none (n : Nat) : (madeCells #[Value.bool false] (n + 1)).toList = bvs (fun _ => false) n := by
  rw [bvs_none]
  unfold madeCells
  apply List.ext_getElem
  · simp
  · intro i h1 h2
    simp [Nat.mod_one]
/-- Two rows of different kinds are different blocks. -/
theorem rows_apt7 {w : World} {b1 b2 e1 e2 s1 s2 n1 n2 : Nat} {v1 v2 : Value} {x1 x2 : List Value} (h1 : w.ownsRow b1 e1 s1 v1 n1 x1) (h2 : w.ownsRow b2 e2 s2 v2 n2 x2) (hne : e1 ≠ e2) : v1.ownBlock = none ∨ v1.ownBlock ≠ v2.ownBlock := by
  rcases h1.2 with ⟨rfl, _⟩ | ⟨g1, c1, u1, rfl, _, p1, _⟩
  · exact .inl rfl
  · rcases h2.2 with ⟨rfl, _⟩ | ⟨g2, c2, u2, rfl, _, p2, _⟩
    · exact .inr (by simp [Value.ownBlock])
    · refine .inr fun h => ?_
      have hg : g1 = g2 := by simpa [Value.ownBlock] using h
      subst hg
      rw [p1] at p2
      simp at p2
      exact hne p2.2
/-- The first k rows of a grid that a call makes. -/
def grK (w : World) (base : Nat) (v : Value) (n k : Nat) (r : Nat → Nat) (G : Gr) : Prop :=
  w.ownsRow base 23 1 v k (rowVals r n k) ∧ (∀ i, i < k → w.ownsRow base 4 1 (.slice (some ⟨r i, 0, none⟩) (n + 1) (n + 1)) (n + 1) (bvs (G i) n)) ∧ (∀ i j, i < k → j < k → r i = r j → i = j)
def grd (w : World) (base : Nat) (v : Value) (n : Nat) (G : Gr) : Prop := ∃ r, grK w base v n (n + 1) r G

end Go.Proofs.Ytpfbmbegddemoaa

namespace Go.Proofs.Ytpfbmbegddemoaa
open Go.RowKit

theorem bvs_set (F : Nat → Bool) (n j : Nat) (b : Bool) : (bvs F n).set j (.bool b) = bvs (fun x => if x = j then b else F x) n := by
  unfold bvs
  apply List.ext_getElem
  · simp
  · intro i h1 h2
    simp only [List.getElem_set, List.getElem_map, List.getElem_range]
    by_cases h : i = j
    · rw [if_pos h.symm, if_pos h]
    · rw [if_neg (fun e => h e.symm), if_neg h]
theorem bvs_same {F F' : Nat → Bool} {n : Nat} (h : ∀ j, j ≤ n → F j = F' j) : bvs F n = bvs F' n := by
  unfold bvs
  exact List.map_congr_left fun i hi => by rw [h i (by have := List.mem_range.1 hi; omega)]
/-- A grid with one place written. -/
def putG (G : Gr) (i j : Nat) (b : Bool) : Gr := fun x y => if x = i then (if y = j then b else G x y) else G x y
theorem grK.outer {w : World} {base n k : Nat} {v : Value} {r : Nat → Nat} {G : Gr} (h : grK w base v n (k + 1) r G) : ∃ go cap, v = .slice (some ⟨go, 0, none⟩) (k + 1) cap ∧ base ≤ go ∧ go < w.heap.size ∧ ∀ i, i < k + 1 → w.cell? ⟨go, i, none⟩ = some (.slice (some ⟨r i, 0, none⟩) (n + 1) (n + 1)) := by
  obtain ⟨h1, -, -⟩ := h
  have hlt := h1.lt
  rcases id h1.2 with ⟨rfl, h0⟩ | ⟨g, cap, cur, rfl, -⟩
  · cases h0
  · exact ⟨g, cap, rfl, (hlt g rfl).1, (hlt g rfl).2, fun i hi => by rw [h1.cellAt i (by omega)]; exact rowVals_at r n (k + 1) i hi⟩
theorem grK.at {w : World} {base n k : Nat} {v : Value} {r : Nat → Nat} {G : Gr} (h : grK w base v n k r G) {i j : Nat} (hi : i < k) (hj : j ≤ n) : w.cell? ⟨r i, j, none⟩ = some (.bool (G i j)) ∧ w.frozen? ⟨r i, j, none⟩ = false ∧ base ≤ r i ∧ r i < w.heap.size := by
  have hr := h.2.1 i hi
  exact ⟨by rw [hr.cellAt j (by omega)]; exact bvs_at (G i) n j hj, hr.frozenAt j, (hr.lt (r i) rfl).1, (hr.lt (r i) rfl).2⟩
theorem grK.put {w : World} {base n k : Nat} {v : Value} {r : Nat → Nat} {G : Gr} (h : grK w base v n k r G) {i j : Nat} (hi : i < k) (b : Bool) :
    grK (w.setCell ⟨r i, j, none⟩ (.bool b)) base v n k r (putG G i j b) := by
  obtain ⟨h1, h2, h3⟩ := h
  obtain ⟨s1, s2⟩ := (h2 i hi).stored j (.bool b)
  rw [bvs_set] at s1
  refine ⟨h1.kept s2 (rows_apt7 h1 (h2 i hi) (by decide)), fun x hx => ?_, h3⟩
  by_cases hxi : x = i
  · subst hxi
    rw [show bvs (putG G x j b x) n = bvs (fun y => if y = j then b else G x y) n from bvs_same fun y _ => by unfold putG; rw [if_pos rfl]]
    exact s1
  · rw [show bvs (putG G i j b x) n = bvs (G x) n from bvs_same fun y _ => by unfold putG; rw [if_neg hxi]]
    exact (h2 x hx).kept s2 (.inr (by show some (r x) ≠ some (r i); intro e; exact hxi (h3 x i hx hi (Option.some.inj e))))
theorem grK.same {w : World} {base n k : Nat} {v : Value} {r : Nat → Nat} {G G' : Gr} (h : grK w base v n k r G) (hG : ∀ i j, i < k → j ≤ n → G i j = G' i j) : grK w base v n k r G' :=
  ⟨h.1, fun i hi => by rw [← bvs_same fun j hj => hG i j hi hj]; exact h.2.1 i hi, h.2.2⟩
theorem grK.mono {w : World} {base base' n k : Nat} {v : Value} {r : Nat → Nat} {G : Gr} (h : grK w base v n k r G) (hb : base' ≤ base) : grK w base' v n k r G :=
  ⟨owns_mono h.1 hb, fun i hi => owns_mono (h.2.1 i hi) hb, h.2.2⟩
theorem grK.below {w w' : World} {base n k : Nat} {v : Value} {r : Nat → Nat} {G : Gr} (h : grK w base v n k r G) (hb : Below w.heap.size w w') : grK w' base v n k r G :=
  ⟨owns_below h.1 hb, fun i hi => owns_below (h.2.1 i hi) hb, h.2.2⟩

end Go.Proofs.Ytpfbmbegddemoaa

namespace Go.Proofs.Ytpfbmbegddemoaa
open Go.RowKit

/-- A grid that is read. -/
def rdG (w : World) (v : Value) (n : Nat) (A : Gr) : Prop := ∃ (go cap : Nat) (r : Nat → Nat), v = .slice (some ⟨go, 0, none⟩) (n + 1) cap ∧ go < w.heap.size ∧ (∀ i, i ≤ n → w.cell? ⟨go, i, none⟩ = some (.slice (some ⟨r i, 0, none⟩) (n + 1) (n + 1))) ∧ (∀ i, i ≤ n → r i < w.heap.size ∧ ∀ j, j ≤ n → w.cell? ⟨r i, j, none⟩ = some (.bool (A i j)))
theorem rdG.of {w : World} {base n : Nat} {v : Value} {G : Gr} (h : grd w base v n G) : rdG w v n G := by
  obtain ⟨r, hg⟩ := h
  obtain ⟨go, cap, rfl, -, hgo, hc⟩ := hg.outer
  refine ⟨go, cap, r, rfl, hgo, fun i hi => hc i (by omega), fun i hi => ⟨(hg.at (i := i) (j := 0) (by omega) (Nat.zero_le _)).2.2.2, fun j hj => (hg.at (i := i) (j := j) (by omega) hj).1⟩⟩
theorem rdG.below {w w' : World} {B n : Nat} {v : Value} {A : Gr} (h : rdG w v n A) (hb : Below B w w') (hB : w.heap.size ≤ B) : rdG w' v n A := by
  obtain ⟨go, cap, r, rfl, hgo, hc, hr⟩ := h
  have hs := hb.size
  refine ⟨go, cap, r, rfl, by omega, fun i hi => by rw [hb.cell (p := ⟨go, i, none⟩) (show go < B by omega)]; exact hc i hi, fun i hi => ⟨by have := (hr i hi).1; omega, fun j hj => ?_⟩⟩
  rw [hb.cell (p := ⟨r i, j, none⟩) (show r i < B by have := (hr i hi).1; omega)]
  exact (hr i hi).2 j hj
def eitB (A B : Gr) : Gr := fun i j => decide (i ≤ j) && (A i j || B i j)
/-- So far: the rows ahead of i, and row i ahead of j. -/
def eitC (A B : Gr) (i j : Nat) : Gr := fun x y => (decide (x < i) || (decide (x = i) && decide (y < j))) && eitB A B x y
theorem eitC_put (A B : Gr) (i j : Nat) (hij : i ≤ j) (x y : Nat) : putG (eitC A B i j) i j (A i j || B i j) x y = eitC A B i (j + 1) x y := by
  unfold putG
  by_cases h1 : x = i
  · subst h1
    rw [if_pos rfl]
    by_cases h2 : y = j
    · subst h2; rw [if_pos rfl]; unfold eitC eitB; simp [hij]
    · rw [if_neg h2]; unfold eitC
      have hx : (y < j) ↔ (y < j + 1) := by omega
      simp only [hx]
  · rw [if_neg h1]; unfold eitC; simp [h1]
theorem eitC_row (A B : Gr) (i n x y : Nat) (hy : y ≤ n) : eitC A B i (n + 1) x y = eitC A B (i + 1) 0 x y := by
  unfold eitC
  by_cases h1 : x < i
  · simp [h1, show x < i + 1 by omega]
  · by_cases h2 : x = i
    · subst h2; simp [show y < n + 1 by omega]
    · simp [h1, h2, show ¬ x < i + 1 by omega]
theorem eitC_start (A B : Gr) (i x y : Nat) : eitC A B i 0 x y = eitC A B i i x y := by
  unfold eitC eitB
  by_cases h2 : x = i
  · subst h2
    by_cases h3 : x ≤ y
    · simp [show ¬ y < x by omega]
    · simp [h3]
  · simp [h2]

end Go.Proofs.Ytpfbmbegddemoaa
