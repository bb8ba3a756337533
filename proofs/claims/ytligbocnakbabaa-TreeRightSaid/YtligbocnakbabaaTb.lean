/-
  What all texts of the tree lean on: imports, small words on worlds, slices that read as nodes or as numbers.
-/
import Derived.Test.YtligbocnakbabaaTrm
import Derived.Test.YtligbocnakbabaaProg
import Derived.WalkKit
import Derived.WalkSpells
import Derived.WalkLawsBesides
import Derived.Handy
import Derived.KernelRfl
import Derived.Deep.RegionHeld3
import Derived.Deep.RegionHeldLaw
import Derived.Deep.QuietTactic
import Derived.BigQuiet
import Derived.Lib.Hide
import Derived.OneCell
import Derived.Laws.StructEq
import Derived.Laws.OwnMore
import Derived.Laws.IdiomArrays
namespace Go.Proofs.Ytligbocnakbabaa
open Go.RowKit

theorem grownBy_of_below {w w' : World} (h : Below w.heap.size w w') : w.grownBy w' none := ⟨h.os, h.tape, h.output, h.size, fun k hk _ => h.block k hk⟩
theorem owns_below {w w' : World} {base : Nat} {e : TypeId} {size : Nat} {v : Value} {n : Nat} {xs : List Value} (h : w.ownsRow base e size v n xs) (hb : Below w.heap.size w w') : w'.ownsRow base e size v n xs :=
  h.kept (grownBy_of_below hb) (by cases v.ownBlock <;> simp)
theorem owns_mono {w : World} {base base' : Nat} {e : TypeId} {size : Nat} {v : Value} {n : Nat} {xs : List Value} (h : w.ownsRow base e size v n xs) (hb : base' ≤ base) : w.ownsRow base' e size v n xs := by
  obtain ⟨h0, h1⟩ := h
  refine ⟨h0, ?_⟩
  rcases h1 with h1 | ⟨g, cap, cur, h1, h2, h3⟩
  · exact .inl h1
  · exact .inr ⟨g, cap, cur, h1, Nat.le_trans hb h2, h3⟩
theorem below_drewN {B : Nat} {w w' : World} (n : Nat) (h : Below B w w') : Below B w (w'.drewN n) := ⟨h.os, h.tape, h.output, h.size, h.block⟩
/-- What a call made, behind another one that changed nothing that was there. -/
theorem below_two {w w1 w2 : World} (h1 : Below w.heap.size w w1) (h2 : Below w1.heap.size w1 w2) : Below w.heap.size w w2 := h1.trans (h2.mono h1.size)

/-- A node's cells at a place. -/
def ndAt (w : World) (b o : Nat) (x : Nd) : Prop := w.cell? ⟨b, o, none⟩ = some (.int .i64 x.k) ∧ w.cell? ⟨b, o + 1, none⟩ = some (.int .u64 x.a) ∧ w.cell? ⟨b, o + 2, none⟩ = some (.int .u64 x.b) ∧ w.cell? ⟨b, o + 3, none⟩ = some (.int .u64 x.c) ∧ w.cell? ⟨b, o + 4, none⟩ = some (.int .u64 x.d) ∧ w.cell? ⟨b, o + 5, none⟩ = some (.int .i64 x.lo) ∧ w.cell? ⟨b, o + 6, none⟩ = some (.int .i64 x.hi)
theorem ndAt.below {w w' : World} {b o B : Nat} {x : Nd} (h : ndAt w b o x) (hb : Below B w w') (hB : b < B) : ndAt w' b o x := by
  have c : ∀ x, w'.cell? ⟨b, x, none⟩ = w.cell? ⟨b, x, none⟩ := fun x => hb.cell (p := ⟨b, x, none⟩) hB
  unfold ndAt at h ⊢
  simp only [c]
  exact h
/-- The nodes that lie in a block from a place on. -/
def rdN (w : World) (b off n : Nat) (N : Nat → Nd) : Prop := ∀ j, j < n → b < w.heap.size ∧ ndAt w b (off + j * 7) (N j)
theorem rdN.below {w w' : World} {b off n : Nat} {N : Nat → Nd} (h : rdN w b off n N) (hb : Below w.heap.size w w') : rdN w' b off n N := fun j hj =>
  ⟨Nat.lt_of_lt_of_le (h j hj).1 hb.size, (h j hj).2.below hb (h j hj).1⟩
theorem rdN.belowB {w w' : World} {b off n : Nat} {N : Nat → Nd} {B : Nat} (h : rdN w b off n N) (hb : Below B w w') (hB : b < B) : rdN w' b off n N := fun j hj =>
  ⟨Nat.lt_of_lt_of_le (h j hj).1 hb.size, (h j hj).2.below hb hB⟩
theorem rdN.drewN {w : World} {b off n : Nat} {N : Nat → Nd} (h : rdN w b off n N) (k : Nat) : rdN (w.drewN k) b off n N := h
theorem rdN.sub {w : World} {b off n : Nat} {N : Nat → Nd} (h : rdN w b off n N) (f m : Nat) (hm : f + m ≤ n) : rdN w b (off + f * 7) m (fun j => N (f + j)) := fun j hj => by
  have := h (f + j) (by omega)
  rwa [show off + (f + j) * 7 = off + f * 7 + j * 7 by omega] at this
theorem rdN.take {w : World} {b off n : Nat} {N : Nat → Nd} (h : rdN w b off n N) (m : Nat) (hm : m ≤ n) : rdN w b off m N := fun j hj => h j (by omega)

/-- A slice that reads as a list of numbers. -/
def rdI (w : World) (v : Value) (l : List Int) : Prop :=
  (∃ p cap, v = .slice p 0 cap ∧ l = []) ∨ ∃ b cap, v = .slice (some ⟨b, 0, none⟩) l.length cap ∧ b < w.heap.size ∧ ∀ j (h : j < l.length), w.cell? ⟨b, j, none⟩ = some (.int .i64 l[j])
theorem rdI.below {w w' : World} {v : Value} {l : List Int} (h : rdI w v l) (hb : Below w.heap.size w w') : rdI w' v l := by
  rcases h with h | ⟨b, cap, rfl, hl, hc⟩
  · exact .inl h
  · exact .inr ⟨b, cap, rfl, Nat.lt_of_lt_of_le hl hb.size, fun j hj => by rw [hb.cell (p := ⟨b, j, none⟩) hl]; exact hc j hj⟩
theorem rdI.belowB {w w' : World} {v : Value} {l : List Int} {B : Nat} (h : rdI w v l) (hb : Below B w w') (hB : w.heap.size ≤ B) : rdI w' v l := by
  rcases h with h | ⟨b, cap, rfl, hl, hc⟩
  · exact .inl h
  · exact .inr ⟨b, cap, rfl, Nat.lt_of_lt_of_le hl hb.size, fun j hj => by rw [hb.cell (p := ⟨b, j, none⟩) (show b < B by omega)]; exact hc j hj⟩
def ivs (l : List Int) : List Value := l.map (Value.int .i64)
theorem rdI_of_owns {w : World} {base : Nat} {e : TypeId} {v : Value} {l : List Int} (h : w.ownsRow base e 1 v l.length (ivs l)) : rdI w v l := by
  have hlt := h.lt
  rcases h.2 with ⟨rfl, h0⟩ | ⟨g, cap, cur, rfl, _, _, _, _, _, _⟩
  · exact .inl ⟨none, 0, rfl, List.length_eq_zero_iff.1 h0⟩
  · refine .inr ⟨g, cap, rfl, (hlt g rfl).2, fun j hj => ?_⟩
    rw [h.cellAt j (by omega)]
    simp [ivs, hj]
end Go.Proofs.Ytligbocnakbabaa
