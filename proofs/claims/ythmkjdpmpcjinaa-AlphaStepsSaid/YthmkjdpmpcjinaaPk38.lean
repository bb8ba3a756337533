/-
  The walk of the laws' awake: the page's example holds.
  The walks of the reference's Right and Depth.
  The walk of the ninth reference's Build.
-/
import Derived.Test.YthmkjdpmpcjinaaPk37
import Derived.Test.YthmkjdpmpcjinaaPk20
import Derived.Laws.AppendOwnNone
import Derived.Test.YthmkjdpmpcjinaaPk10
import Derived.Deep.RegionHeldLaw
import Derived.Test.YthmkjdpmpcjinaaPk26
namespace Go.Proofs.Ythmkjdpmpcjinaa
open Go.RowKit

/-- The page's example: Set, Set, Cat. -/
def N0 (j : Nat) : Nd := if j < 2 then ⟨1, 0, 0, 0, 0, 0, 0⟩ else ⟨5, 0, 0, 0, 0, 0, 0⟩
theorem N0_tree : tree N0 3 := by decide
theorem N0_kids : kids N0 2 = [0, 1] := by decide
theorem N0_fst : 0 ≤ fst N0 2 := by decide
theorem N0_dpt : dpt N0 2 = 2 := by decide

end Go.Proofs.Ythmkjdpmpcjinaa

namespace Go.Proofs.Ythmkjdpmpcjinaa
open Go.RowKit

theorem tree_false {N : Nat → Nd} {n k : Nat} (hk : k < n) (h : ¬ (0 ≤ fst N k ∧ okN (N k) = true)) : decide (tree N n) = false :=
  decide_eq_false fun ht => h ((tree_iff.1 ht).2.2.1 k hk)

end Go.Proofs.Ythmkjdpmpcjinaa

namespace Go.Proofs.Ythmkjdpmpcjinaa
open Go.RowKit

theorem sds_put (l : List Sd) (j : Nat) (x : Sd) (h : j < l.length) : (((((((sds l).set (j * 7) (.int .i64 x.k)).set (j * 7 + 1) (.int .i64 x.A)).set (j * 7 + 2) (.int .i64 x.B)).set (j * 7 + 3) (.int .u64 x.a)).set (j * 7 + 4) (.int .u64 x.b)).set (j * 7 + 5) (.int .u64 x.c)).set (j * 7 + 6) (.int .u64 x.d) = sds (l.set j x) := by
  induction l generalizing j with
  | nil => simp at h
  | cons r l ih =>
    cases j with
    | zero => rfl
    | succ j =>
      have e : (r :: l).set (j + 1) x = r :: l.set j x := rfl
      rw [sds_cons, e, sds_cons, ← ih j (by simpa using h), show (j + 1) * 7 = j * 7 + 7 by omega, show j * 7 + 7 + 1 = (j * 7 + 1) + 7 by omega, show j * 7 + 7 + 2 = (j * 7 + 2) + 7 by omega, show j * 7 + 7 + 3 = (j * 7 + 3) + 7 by omega, show j * 7 + 7 + 4 = (j * 7 + 4) + 7 by omega, show j * 7 + 7 + 5 = (j * 7 + 5) + 7 by omega, show j * 7 + 7 + 6 = (j * 7 + 6) + 7 by omega]
      rfl
theorem stO.putS {w : World} {base g c : Nat} {L : List Sd} (h : stO w base g c L) (j : Nat) (hj : j < L.length) (x : Sd) : stO (((((((w.setCell ⟨g, j * 7, none⟩ (.int .i64 x.k)).setCell ⟨g, j * 7 + 1, none⟩ (.int .i64 x.A)).setCell ⟨g, j * 7 + 2, none⟩ (.int .i64 x.B)).setCell ⟨g, j * 7 + 3, none⟩ (.int .u64 x.a)).setCell ⟨g, j * 7 + 4, none⟩ (.int .u64 x.b)).setCell ⟨g, j * 7 + 5, none⟩ (.int .u64 x.c)).setCell ⟨g, j * 7 + 6, none⟩ (.int .u64 x.d)) base g c (L.set j x) := by
  have h1 := (World.ownsRow.stored h (j * 7) (.int .i64 x.k)).1
  have h2 := (World.ownsRow.stored h1 (j * 7 + 1) (.int .i64 x.A)).1
  have h3 := (World.ownsRow.stored h2 (j * 7 + 2) (.int .i64 x.B)).1
  have h4 := (World.ownsRow.stored h3 (j * 7 + 3) (.int .u64 x.a)).1
  have h5 := (World.ownsRow.stored h4 (j * 7 + 4) (.int .u64 x.b)).1
  have h6 := (World.ownsRow.stored h5 (j * 7 + 5) (.int .u64 x.c)).1
  have h7 := (World.ownsRow.stored h6 (j * 7 + 6) (.int .u64 x.d)).1
  rw [sds_put L j x hj] at h7
  unfold stO
  rw [List.length_set]; exact h7
def is3 (t : TypeId) (w : World) (b : Nat) (v : Value) (f l : Int) : Prop := w.heap[b]? = some (.cells #[v, .int .i64 f, .int .i64 l] t (0, 0))
theorem is3.lt {t : TypeId} {w : World} {b : Nat} {v : Value} {f l : Int} (h : is3 t w b v f l) : b < w.heap.size := lt_of_block h
theorem is3.cells {t : TypeId} {w : World} {b : Nat} {v : Value} {f l : Int} (h : is3 t w b v f l) : w.cell? ⟨b, 0, none⟩ = some v ∧ w.cell? ⟨b, 1, none⟩ = some (.int .i64 f) ∧ w.cell? ⟨b, 2, none⟩ = some (.int .i64 l) := by
  unfold is3 at h
  refine ⟨?_, ?_, ?_⟩ <;> simp [World.cell?, h]
theorem is3.free {t : TypeId} {w : World} {b : Nat} {v : Value} {f l : Int} (h : is3 t w b v f l) : w.frozen? ⟨b, 0, none⟩ = false ∧ w.frozen? ⟨b, 1, none⟩ = false ∧ w.frozen? ⟨b, 2, none⟩ = false := by
  unfold is3 at h
  refine ⟨?_, ?_, ?_⟩ <;> simp [World.frozen?, h]
theorem is3.below {t : TypeId} {w w' : World} {b B : Nat} {v : Value} {f l : Int} (h : is3 t w b v f l) (hB : Below B w w') (hb : b < B) : is3 t w' b v f l := (hB.block b hb).trans h
theorem is3.stored {t : TypeId} {w : World} {b : Nat} {v : Value} {f l : Int} (h : is3 t w b v f l) (v' : Value) (f' l' : Int) : is3 t (((w.setCell ⟨b, 0, none⟩ v').setCell ⟨b, 1, none⟩ (.int .i64 f')).setCell ⟨b, 2, none⟩ (.int .i64 l')) b v' f' l' := by
  have h1 := heap_setCell_same w b 0 _ _ v' h
  have h2 := heap_setCell_same _ b 1 _ _ (.int .i64 f') h1
  have h3 := heap_setCell_same _ b 2 _ _ (.int .i64 l') h2
  unfold is3
  rw [h3]
  simp
theorem is3.new (t : TypeId) (w : World) (v : Value) (f l : Int) : is3 t (w.alloc (.cells #[v, .int .i64 f, .int .i64 l] t)) w.heap.size v f l := heap_alloc_new w _

theorem st7_grown (w : World) (g o0 o1 o2 o3 o4 o5 o6 : Nat) (v0 v1 v2 v3 v4 v5 v6 : Value) : w.grownBy (((((((w.setCell ⟨g, o0, none⟩ v0).setCell ⟨g, o1, none⟩ v1).setCell ⟨g, o2, none⟩ v2).setCell ⟨g, o3, none⟩ v3).setCell ⟨g, o4, none⟩ v4).setCell ⟨g, o5, none⟩ v5).setCell ⟨g, o6, none⟩ v6) (some g) :=
  ((((((grown_setCell w g o0 v0).trans (grown_setCell _ g o1 v1)).trans (grown_setCell _ g o2 v2)).trans (grown_setCell _ g o3 v3)).trans (grown_setCell _ g o4 v4)).trans (grown_setCell _ g o5 v5)).trans (grown_setCell _ g o6 v6)
theorem stO.cellX {w : World} {base g c : Nat} {L : List Sd} (h : stO w base g c L) {j : Nat} (hj : j < L.length) (x : Nat) (hx : x < 7) (u : Value) (hu : (scs (sfn L j))[x]? = some u) : w.cell? ⟨g, j * 7 + x, none⟩ = some u :=
  h.cell _ _ (by rw [sds_get L j hj x hx, ← sfn_lt hj]; exact hu)
theorem sfn_set {L : List Sd} {j q : Nat} {x : Sd} (h : q ≠ j) : sfn (L.set j x) q = sfn L q := by
  unfold sfn
  rw [List.getD_eq_getElem?_getD, List.getD_eq_getElem?_getD, List.getElem?_set_ne (Ne.symm h)]
theorem sfn_set_at {L : List Sd} {j : Nat} {x : Sd} (h : j < L.length) : sfn (L.set j x) j = x := by
  unfold sfn
  rw [List.getD_eq_getElem?_getD, List.getElem?_set_self h]; rfl
end Go.Proofs.Ythmkjdpmpcjinaa
