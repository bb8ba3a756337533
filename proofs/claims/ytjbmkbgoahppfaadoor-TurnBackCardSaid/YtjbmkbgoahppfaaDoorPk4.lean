/-
  The table of named: its rows, and what the listed condition says of the memory.
-/
import Derived.Test.YtjbmkbgoahppfaaDoorRows
import Derived.WalkKit
import Derived.ProofKit
import Derived.OpenShut
import Derived.Deep.Strs
import Derived.Deep.MidRow
import Derived.LaidMore
import Derived.Below
import Derived.MakeChecks
namespace Go.Proofs.YtjbmkbgoahppfaaDoor
open Go.RowKit Go.ChangeShapes Go.ChangeAt

/-- The rows: a name's bytes, and the ends of a run. -/
def tabL : List (List UInt8 × Nat × Nat) :=
  [([97, 108, 110, 117, 109], 48, 57), ([97, 108, 110, 117, 109], 65, 90), ([97, 108, 110, 117, 109], 97, 122),
   ([97, 108, 112, 104, 97], 65, 90), ([97, 108, 112, 104, 97], 97, 122),
   ([98, 108, 97, 110, 107], 9, 9), ([98, 108, 97, 110, 107], 32, 32),
   ([99, 110, 116, 114, 108], 0, 31), ([99, 110, 116, 114, 108], 127, 127),
   ([100, 105, 103, 105, 116], 48, 57),
   ([103, 114, 97, 112, 104], 33, 126),
   ([108, 111, 119, 101, 114], 97, 122),
   ([112, 114, 105, 110, 116], 32, 126),
   ([112, 117, 110, 99, 116], 33, 47), ([112, 117, 110, 99, 116], 58, 64), ([112, 117, 110, 99, 116], 91, 96), ([112, 117, 110, 99, 116], 123, 126),
   ([115, 112, 97, 99, 101], 9, 13), ([115, 112, 97, 99, 101], 32, 32),
   ([117, 112, 112, 101, 114], 65, 90),
   ([120, 100, 105, 103, 105, 116], 48, 57), ([120, 100, 105, 103, 105, 116], 65, 70), ([120, 100, 105, 103, 105, 116], 97, 102)]
def rowD {H : Type} (r : List UInt8 × Nat × Nat) : DataW H := .agg [.lit (.string r.1), .lit (.int .u8 (r.2.1 : Int)), .lit (.int .u8 (r.2.2 : Int))]
theorem laid_tab {H : Type} : (Rows.laid_tatting_named_table : DataW H) = .agg (tabL.map rowD) := rfl
def rowC (r : List UInt8 × Nat × Nat) : List Value := [.string ⟨r.1.toArray⟩, .int .u8 (r.2.1 : Int), .int .u8 (r.2.2 : Int)]
/-- The table's cells. -/
def tabC : List Value := tabL.flatMap rowC
theorem tabC_length : tabC.length = 69 := by decide +kernel

/-- Cells that are, three by three, those of some rows. -/
theorem chunks : ∀ (l : List (List UInt8 × Nat × Nat)) (cs : List Value), cs.length = 3 * l.length → (∀ i (h : i < l.length), (cs.drop (i * 3)).take 3 = rowC l[i]) → cs = l.flatMap rowC := by
  intro l
  induction l with
  | nil => intro cs h _; exact List.length_eq_zero_iff.1 (by simpa using h)
  | cons r l ih =>
    intro cs h hc
    have h0 := hc 0 (by simp)
    simp only [Nat.zero_mul, List.drop_zero, List.getElem_cons_zero] at h0
    have h1 : cs.drop 3 = l.flatMap rowC := by
      refine ih _ (by simp only [List.length_drop, h, List.length_cons]; omega) fun i hi => ?_
      have := hc (i + 1) (by simp; omega)
      simp only [List.getElem_cons_succ] at this
      rw [← this, List.drop_drop]
      congr 2
      omega
    rw [List.flatMap_cons, ← h0, ← h1, List.take_append_drop]

theorem cells41 : Tryd.prog.cellsOf 110 = 3 := by kernel_rfl
theorem cells42 : Tryd.prog.cellsOf 111 = 69 := by kernel_rfl
theorem cells9 : Tryd.prog.cellsOf 9 = 1 := by kernel_rfl
theorem cells5 : Tryd.prog.cellsOf 5 = 1 := by kernel_rfl
theorem gTab : Tryd.prog.globalNamed "tatting/named.table" = some 0 := by kernel_rfl
theorem tTab : (Tryd.prog.globals[0]?).map (·.type) = some 111 := by kernel_rfl

theorem row_open {H : Type} {enc : TypeId × Value → H} {w : World} {base : Nat} {sp : Nat → Bool} {held : Bool} {fuel : Nat} {cs : List Value} {x : DataW H × List MemPlace} {r : List UInt8 × Nat × Nat}
    (h : DataW.trod enc Tryd.prog w base sp held fuel 110 cs = some x) (hx : x.1 = rowD r) : cs = rowC r := by
  obtain ⟨y0, y1, y2, n, rfl, hl, h0, h1, h2⟩ := Go.Deep.trod_struct3 Tryd.underlying110 h
  rw [cells41] at hl
  obtain ⟨c0, c1, c2, rfl⟩ : ∃ c0 c1 c2, cs = [c0, c1, c2] := by
    rcases cs with _ | ⟨c0, _ | ⟨c1, _ | ⟨c2, _ | ⟨c3, r⟩⟩⟩⟩
    · simp at hl
    · simp at hl
    · simp at hl
    · exact ⟨_, _, _, rfl⟩
    · simp at hl
  obtain ⟨s, e0, rfl, _⟩ := DataW.trod_string Tryd.underlying9 h0
  obtain ⟨n1, e1, rfl, _⟩ := DataW.trod_int Tryd.underlying5 h1
  obtain ⟨n2, e2, rfl, _⟩ := DataW.trod_int Tryd.underlying5 h2
  simp only [cells9, cells5] at e0 e1 e2
  simp at e0 e1 e2
  subst e0 e1 e2
  simp only [rowD, DataW.agg.injEq, List.cons.injEq, DataW.lit.injEq, Lit.string.injEq, Lit.int.injEq, true_and, and_true] at hx
  obtain ⟨g0, g1, g2⟩ := hx
  unfold rowC
  rw [← g0, ← g1, ← g2]

/-- The table's cells stand where the program's text lays them. -/
def Tabbed (w : World) : Prop := w.rangeAt 0 0 tabC
theorem Tabbed.pos {w : World} (h : Tabbed w) : 0 < w.heap.size :=
  World.block_lt_of_cell? w ⟨0, 0, none⟩ (h 0 _ (show tabC[0]? = some (.string ⟨#[97, 108, 110, 117, 109]⟩) from rfl))
theorem Tabbed.below {w w' : World} {B : Nat} (h : Tabbed w) (hb : Below B w w') (hB : 0 < B) : Tabbed w' := fun j v hv => (hb.cell (p := ⟨0, 0 + j, none⟩) hB).trans (h j v hv)
theorem Tabbed.to {w w' : World} (h : Tabbed w) (hb : Below w.heap.size w w') : Tabbed w' := h.below hb h.pos
theorem Tabbed.alloc {w : World} (h : Tabbed w) (o : Obj) : Tabbed (w.alloc o) := World.rangeAt_alloc h o
theorem Tabbed.drew {w : World} (h : Tabbed w) : Tabbed w.drew := (World.rangeAt_drew _ _ _ _).2 h

theorem tabbed_of_met {W : World} (h : laidMet Tryd.prog [("tatting/named.table", Rows.laid_tatting_named_table)] W) : Tabbed W := by
  obtain ⟨ps, ⟨g, t, cs, f, p, q, hg, ht, hv, hd, _, _⟩, _⟩ := h
  obtain rfl := Option.some.inj (gTab.symm.trans hg)
  obtain rfl := Option.some.inj (tTab.symm.trans ht)
  rw [laid_tab] at hd
  obtain ⟨xs, m, _, hx, hl, hn, hel⟩ := DataW.trod_array Tryd.underlying111 hd
  rw [cells42] at hl
  simp only [Prod.mk.injEq, DataW.agg.injEq] at hx
  have hcs : cs.toList = tabC := by
    refine chunks tabL _ (by rw [hl]; rfl) fun i hi => ?_
    have hi23 : i < 23 := hi
    have he := hel i hi23
    rw [cells41] at he
    have hxi : xs[i]? = some xs[i] := List.getElem?_eq_getElem (by omega)
    rw [hxi] at he
    refine row_open he ?_
    have h3 : (tabL.map rowD)[i]? = (xs.map (·.1))[i]? := by rw [hx.1]
    rw [List.getElem?_map, List.getElem?_map, hxi, List.getElem?_eq_getElem hi] at h3
    simpa using h3.symm
  intro j v hj
  have hc := World.var?_cell hg hv j
  rw [Nat.zero_add]
  rw [← hcs] at hj
  rw [hc, ← Array.getElem?_toList, hj]
theorem tabbed_of_laid {W : World} (h : laidMetH Tryd.prog [("tatting/named.table", Rows.laid_tatting_named_table)] W) : Tabbed W := by
  rw [MakeChecks.laidMetH_plain _ _ _ (by kernel_rfl)] at h
  exact tabbed_of_met h
end Go.Proofs.YtjbmkbgoahppfaaDoor
