/-
  A part in memory: its states, its first and its last one; what Make is asked.
  The walk of the ninth reference's repeat.
  What is met, and the list of it, in memory; the walk of the closure that puts.
-/
import Derived.Test.YtpfbmbegddemoaaPk12
import Derived.Test.YtpfbmbegddemoaaPk13
import Derived.Laws.AppendOwnNone
import Derived.Deep.Cut
import Derived.Test.YtpfbmbegddemoaaPk11
import Derived.OneCell
namespace Go.Proofs.Ytpfbmbegddemoaa
open Go.RowKit

theorem grown_setCell (w : World) (b j : Nat) (v : Value) : w.grownBy (w.setCell ⟨b, j, none⟩ v) (some b) := by
  have h := (Below.refl b w).setCell (p := ⟨b, j, none⟩) (Nat.le_refl _) v
  refine ⟨h.os, h.tape, h.output, h.size, fun k _ hk => ?_⟩
  have : k ≠ b := fun e => hk (by rw [e])
  show (w.heap.modify b _)[k]? = _
  rw [Array.getElem?_modify, if_neg (Ne.symm this)]
theorem below_pt3 {B : Nat} {a w : World} {c : Nat} (h : Below B a w) (hc : B ≤ c) (v' : Value) (f' l' : Int) : Below B a (((w.setCell ⟨c, 0, none⟩ v').setCell ⟨c, 1, none⟩ (.int .i64 f')).setCell ⟨c, 2, none⟩ (.int .i64 l')) :=
  ((h.setCell hc _).setCell hc _).setCell hc _
end Go.Proofs.Ytpfbmbegddemoaa

namespace Go.Proofs.Ytpfbmbegddemoaa
open Go.RowKit

theorem rows_apart9 {w : World} {b1 b2 e1 e2 s1 s2 n1 n2 : Nat} {v1 v2 : Value} {x1 x2 : List Value} (h1 : w.ownsRow b1 e1 s1 v1 n1 x1) (h2 : w.ownsRow b2 e2 s2 v2 n2 x2) (hne : e1 ≠ e2) : v1.ownBlock = none ∨ v1.ownBlock ≠ v2.ownBlock := by
  rcases h1.2 with ⟨rfl, _⟩ | ⟨g1, c1, u1, rfl, _, p1, _⟩
  · exact .inl rfl
  · rcases h2.2 with ⟨rfl, _⟩ | ⟨g2, c2, u2, rfl, _, p2, _⟩
    · exact .inr (by simp [Value.ownBlock])
    · refine .inr fun h => ?_
      have hg : g1 = g2 := by simpa [Value.ownBlock] using h
      subst hg
      rw [p1] at p2
      simp at p2
      exact hne p2.2
def spl9 (l : List Nat) : List Value := l.map fun s : Nat => Value.int .i64 (s : Int)
theorem headD_get9 (l : List Nat) (h : 0 < l.length) : l.headD 0 = l[0] := by
  cases l with
  | nil => simp at h
  | cons x l => rfl
/-- A row of places that a call owns. -/
def spO (w : World) (base : Nat) (v : Value) (l : List Nat) : Prop := w.ownsRow base 3 1 v l.length (spl9 l)
end Go.Proofs.Ytpfbmbegddemoaa

namespace Go.Proofs.Ytpfbmbegddemoaa
open Go.RowKit

theorem infoInt9w : (Try.prog.info? 3).map (fun i => (i.zero, i.size, i.bytes)) = some (some (.int .i64 0), 1, 8) := by kernel_rfl
theorem spl9_len (l : List Nat) : (spl9 l).length = l.length := by simp [spl9]
theorem spl9_append (l r : List Nat) : spl9 (l ++ r) = spl9 l ++ spl9 r := by simp [spl9]
theorem spl9_cell (l : List Nat) : ∀ u ∈ spl9 l, u.oneCell' = true := by
  intro u hu
  unfold spl9 at hu
  obtain ⟨x, _, rfl⟩ := List.mem_map.1 hu
  rfl
/-- A block of one cell. -/
def one9 (t : TypeId) (w : World) (b : Nat) (v : Value) : Prop := w.heap[b]? = some (.cells #[v] t (0, 0))
theorem one9.lt {t : TypeId} {w : World} {b : Nat} {v : Value} (h : one9 t w b v) : b < w.heap.size := lt_of_block h
theorem one9.cell {t : TypeId} {w : World} {b : Nat} {v : Value} (h : one9 t w b v) : w.cell? ⟨b, 0, none⟩ = some v := by
  unfold one9 at h
  simp [World.cell?, h]
theorem one9.free {t : TypeId} {w : World} {b : Nat} {v : Value} (h : one9 t w b v) : w.frozen? ⟨b, 0, none⟩ = false := by
  unfold one9 at h
  simp [World.frozen?, h]
theorem one9.stored {t : TypeId} {w : World} {b : Nat} {v : Value} (h : one9 t w b v) (u : Value) : one9 t (w.setCell ⟨b, 0, none⟩ u) b u := by
  have h1 := heap_setCell_same w b 0 _ _ u h
  unfold one9
  rw [h1]
  simp
theorem one9.grown {t : TypeId} {w w' : World} {b : Nat} {r : Option Nat} {v : Value} (h : one9 t w b v) (hg : w.grownBy w' r) (hb : some b ≠ r) : one9 t w' b v :=
  (hg.block b h.lt hb).trans h
theorem one9.below {t : TypeId} {w w' : World} {b B : Nat} {v : Value} (h : one9 t w b v) (hB : Below B w w') (hb : b < B) : one9 t w' b v := (hB.block b hb).trans h

/-- Block g has what is met of m states, block h names it, block h + 1 the list of it. -/
def clW (w : World) (g h m : Nat) (A : List Nat) : Prop :=
  g < h ∧ one9 23 w (h) (.slice (some ⟨g, 0, none⟩) m m) ∧ (∃ p c, one9 22 w (h + 1) (.slice p A.length c) ∧ spO w (h + 2) (.slice p A.length c) A) ∧ blR w g g m m (memW A)
theorem clW.below {w w' : World} {g h m : Nat} {A : List Nat} (hc : clW w g h m A) (hb : Below w.heap.size w w') : clW w' g h m A := by
  obtain ⟨h0, h1, ⟨p, c, h2, h3⟩, h4⟩ := hc
  exact ⟨h0, h1.below hb h1.lt, ⟨p, c, h2.below hb h2.lt, owns_below h3 hb⟩, h4.below hb⟩
theorem spO_of {w : World} {base : Nat} {v : Value} {A : List Nat} (h : spO w base v A) : ∃ p c, v = .slice p A.length c := by
  rcases id h.2 with ⟨rfl, h0⟩ | ⟨g, cap, cur, rfl, _⟩
  · exact ⟨none, 0, by rw [h0]⟩
  · exact ⟨_, cap, rfl⟩
end Go.Proofs.Ytpfbmbegddemoaa
