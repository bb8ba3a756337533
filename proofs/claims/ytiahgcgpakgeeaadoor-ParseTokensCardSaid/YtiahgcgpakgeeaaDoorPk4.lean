/-
  Nodes and tokens in memory: rows that a call owns, and what is read.
  The fifth reference's Wrong: the first token that is wrong: the plain mathematics.
-/
import Derived.Test.YtiahgcgpakgeeaaDoorPk1
import Derived.Test.YtiahgcgpakgeeaaDoorPk3
import Derived.OwnWalk
namespace Go.Proofs.YtiahgcgpakgeeaaDoor
open Go.RowKit

theorem below_two {w w1 w2 : World} (h1 : Below w.heap.size w w1) (h2 : Below w1.heap.size w1 w2) : Below w.heap.size w w2 := h1.trans (h2.mono h1.size)
theorem infoNode : (Tryd.prog.info? 37).map (fun i => (i.zero, i.size, i.bytes)) = some (some (.agg #[.int .i64 0, .int .u64 0, .int .u64 0, .int .u64 0, .int .u64 0, .int .i64 0, .int .i64 0]), 7, 56) := by kernel_rfl

/-- A token's cells at a place. -/
def tnAt (w : World) (b o : Nat) (x : Tn) : Prop := w.cell? ⟨b, o, none⟩ = some (.int .i64 x.k) ∧ w.cell? ⟨b, o + 1, none⟩ = some (.int .i64 x.p) ∧ w.cell? ⟨b, o + 2, none⟩ = some (.int .u64 x.a) ∧ w.cell? ⟨b, o + 3, none⟩ = some (.int .u64 x.b) ∧ w.cell? ⟨b, o + 4, none⟩ = some (.int .u64 x.c) ∧ w.cell? ⟨b, o + 5, none⟩ = some (.int .u64 x.d) ∧ w.cell? ⟨b, o + 6, none⟩ = some (.int .i64 x.lo) ∧ w.cell? ⟨b, o + 7, none⟩ = some (.int .i64 x.hi)
theorem tnAt.below {w w' : World} {b o B : Nat} {x : Tn} (h : tnAt w b o x) (hb : Below B w w') (hB : b < B) : tnAt w' b o x := by
  have c : ∀ x, w'.cell? ⟨b, x, none⟩ = w.cell? ⟨b, x, none⟩ := fun x => hb.cell (p := ⟨b, x, none⟩) hB
  unfold tnAt at h ⊢
  simp only [c]
  exact h
/-- The tokens that lie in a block from a place on. -/
def rdTn (w : World) (b off n : Nat) (T : Nat → Tn) : Prop := ∀ j, j < n → b < w.heap.size ∧ tnAt w b (off + j * 8) (T j)
theorem rdTn.below {w w' : World} {b off n : Nat} {T : Nat → Tn} (h : rdTn w b off n T) (hb : Below w.heap.size w w') : rdTn w' b off n T := fun j hj =>
  ⟨Nat.lt_of_lt_of_le (h j hj).1 hb.size, (h j hj).2.below hb (h j hj).1⟩

/-- A node's cells, as values; a row of nodes. -/
def ncs (x : Nd) : List Value := [.int .i64 x.k, .int .u64 x.a, .int .u64 x.b, .int .u64 x.c, .int .u64 x.d, .int .i64 x.lo, .int .i64 x.hi]
def nds (l : List Nd) : List Value := l.flatMap ncs
theorem nds_append (l r : List Nd) : nds (l ++ r) = nds l ++ nds r := by simp [nds]
theorem nds_one (x : Nd) : nds [x] = ncs x := by simp [nds]
theorem nds_len (l : List Nd) : (nds l).length = l.length * 7 := by
  induction l with
  | nil => rfl
  | cons x l ih => rw [show x :: l = [x] ++ l from rfl, nds_append, nds_one, List.length_append, ih, List.length_append]; simp [ncs]; omega
theorem nds_cell (l : List Nd) : ∀ u ∈ nds l, u.oneCell' = true := by
  intro u hu
  unfold nds at hu
  obtain ⟨x, _, hx⟩ := List.mem_flatMap.1 hu
  unfold ncs at hx
  simp at hx
  rcases hx with rfl | rfl | rfl | rfl | rfl | rfl | rfl <;> rfl
/-- A row of nodes that the call owns, not empty: its block. -/
theorem owns_block {w : World} {base : Nat} {e : TypeId} {v : Value} {l : List Nd} (h : w.ownsRow base e 7 v l.length (nds l)) (hl : 1 ≤ l.length) :
    ∃ g cap, v = .slice (some ⟨g, 0, none⟩) l.length cap ∧ base ≤ g ∧ g < w.heap.size ∧ ∀ j u, (nds l)[j]? = some u → w.cell? ((⟨g, 0, none⟩ : Addr).add j) = some u := by
  have hlt := h.lt
  rcases id h.2 with ⟨rfl, h0⟩ | ⟨g, cap, cur, rfl, _⟩
  · omega
  · exact ⟨g, cap, rfl, (hlt g rfl).1, (hlt g rfl).2, fun j u hu => h.cells rfl j u hu⟩
end Go.Proofs.YtiahgcgpakgeeaaDoor

namespace Go.Proofs.YtiahgcgpakgeeaaDoor

/-- Does a part end with a token of this kind? -/
def endsP (k : Int) : Bool := k == 1 || k == 6 || k == 7 || k == 5 || k == 4
def badRep (t : Tn) : Bool := decide (t.lo < 0) || decide (32 < t.lo) || (t.hi != -1 && decide (t.hi < t.lo)) || decide (32 < t.hi)
/-- What is told from a place on, o groups open: the first token that is wrong, its error, how many groups stay open. -/
def wrF (T : Nat → Tn) (n : Nat) : Nat → Nat → Nat → Int × Int × Nat
  | 0, _, o => (-1, 0, o)
  | u + 1, i, o =>
    if n ≤ i then (-1, 0, o)
    else if (T i).k < 1 ∨ 7 < (T i).k then (i, 9, o)
    else if (T i).k = 5 ∧ badRep (T i) = true then (i, 9, o)
    else if (T i).k = 5 ∧ ¬ (0 < i ∧ endsP (T (i - 1)).k = true) then (i, 3, o)
    else if (T i).k = 3 ∧ o = 20 then (i, 4, o)
    else if (T i).k = 4 ∧ o = 0 then (i, 3, o)
    else wrF T n u (i + 1) (if (T i).k = 3 then o + 1 else if (T i).k = 4 then o - 1 else o)
theorem rep_ok {t : Tn} (h : badRep t = false) : okN (ndRep t) = true := by
  unfold badRep at h
  unfold okN ndRep
  simp at h ⊢
  omega
theorem wrF_zero {T : Nat → Tn} {n : Nat} : ∀ u i o, n + 1 ≤ u + i → (wrF T n u i o).2.1 = 0 → ∀ j, i ≤ j → j < n → 1 ≤ (T j).k ∧ (T j).k ≤ 7 ∧ ((T j).k = 5 → okN (ndRep (T j)) = true) := by
  intro u
  induction u with
  | zero => intro i o h1 _ j h2 h3; omega
  | succ u ih =>
    intro i o h1 h2 j h3 h4
    unfold wrF at h2
    rw [if_neg (by omega)] at h2
    by_cases c1 : (T i).k < 1 ∨ 7 < (T i).k
    · rw [if_pos c1] at h2; simp at h2
    rw [if_neg c1] at h2
    by_cases c2 : (T i).k = 5 ∧ badRep (T i) = true
    · rw [if_pos c2] at h2; simp at h2
    rw [if_neg c2] at h2
    by_cases c3 : (T i).k = 5 ∧ ¬ (0 < i ∧ endsP (T (i - 1)).k = true)
    · rw [if_pos c3] at h2; simp at h2
    rw [if_neg c3] at h2
    by_cases c4 : (T i).k = 3 ∧ o = 20
    · rw [if_pos c4] at h2; simp at h2
    rw [if_neg c4] at h2
    by_cases c5 : (T i).k = 4 ∧ o = 0
    · rw [if_pos c5] at h2; simp at h2
    rw [if_neg c5] at h2
    by_cases hj : j = i
    · subst hj
      refine ⟨by omega, by omega, fun h5 => rep_ok ?_⟩
      cases hb : badRep (T j)
      · rfl
      · exact absurd ⟨h5, hb⟩ c2
    · exact ih _ _ (by omega) h2 j (by omega) h4
theorem wrF_reps {T : Nat → Tn} {n : Nat} (h : (wrF T n (n + 1) 0 0).2.1 = 0) : repsOk T n := fun i hi hk => (wrF_zero _ _ _ (by omega) h i (by omega) hi).2.2 hk
/-- At most twenty groups are open; the place is one of the tokens. -/
theorem wrF_bd {T : Nat → Tn} {n : Nat} : ∀ u i o, o ≤ 20 → (wrF T n u i o).2.2 ≤ 20 ∧ ((wrF T n u i o).2.1 = 0 ∧ (wrF T n u i o).1 = -1 ∨ (wrF T n u i o).2.1 ≠ 0 ∧ (i : Int) ≤ (wrF T n u i o).1 ∧ (wrF T n u i o).1 < n) := by
  intro u
  induction u with
  | zero => intro i o h; exact ⟨h, .inl ⟨rfl, rfl⟩⟩
  | succ u ih =>
    intro i o h
    unfold wrF
    split
    · exact ⟨h, .inl ⟨rfl, rfl⟩⟩
    · split
      · exact ⟨h, .inr ⟨by simp, by simp, by simp; omega⟩⟩
      · split
        · exact ⟨h, .inr ⟨by simp, by simp, by simp; omega⟩⟩
        · split
          · exact ⟨h, .inr ⟨by simp, by simp, by simp; omega⟩⟩
          · split
            · exact ⟨h, .inr ⟨by simp, by simp, by simp; omega⟩⟩
            · split
              · exact ⟨h, .inr ⟨by simp, by simp, by simp; omega⟩⟩
              · rename_i c4 c5
                have ho : (if (T i).k = 3 then o + 1 else if (T i).k = 4 then o - 1 else o) ≤ 20 := by
                  split
                  · omega
                  · split <;> omega
                obtain ⟨h1, h2⟩ := ih (i + 1) _ ho
                refine ⟨h1, ?_⟩
                rcases h2 with h2 | ⟨h2, h3, h4⟩
                · exact .inl h2
                · exact .inr ⟨h2, by omega, h4⟩
end Go.Proofs.YtiahgcgpakgeeaaDoor
