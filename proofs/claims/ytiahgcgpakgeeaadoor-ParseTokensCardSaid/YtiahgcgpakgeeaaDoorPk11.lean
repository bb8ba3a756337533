/-
  What the program's text and the world's shape say of the package-level variables: the table of named, the error of strconv, the number of bytealg.
-/
import Derived.Test.YtiahgcgpakgeeaaDoorPk10
import Derived.Test.YtiahgcgpakgeeaaDoorPk1
import Derived.LaidSub
import Derived.Stop.LaidErr
import Derived.HandedShaped
namespace Go.Proofs.YtiahgcgpakgeeaaDoor
open Go.RowKit Go.ChangeShapes Go.ChangeAt

/-- The table's cells stand as laid; bytealg's number is some number; strconv's error is some error. -/
def Okw (w : World) : Prop := Tabbed w ∧ (∃ m, w.cell? ⟨0, 0, none⟩ = some (.int .i64 m)) ∧ ∃ te pe, w.cell? ⟨3, 0, none⟩ = some (.iface te pe)
theorem Okw.to {w w' : World} (h : Okw w) (hb : Below w.heap.size w w') : Okw w' := by
  obtain ⟨h1, ⟨m, h2⟩, te, pe, h3⟩ := h
  have l2 := World.block_lt_of_cell? w _ h2
  have l3 := World.block_lt_of_cell? w _ h3
  exact ⟨h1.to hb, ⟨m, (hb.cell (p := ⟨_, 0, none⟩) l2).trans h2⟩, te, pe, (hb.cell (p := ⟨_, 0, none⟩) l3).trans h3⟩
theorem Okw.alloc {w : World} (h : Okw w) (o : Obj) : Okw (w.alloc o) := h.to ((Below.refl _ _).alloc (Nat.le_refl _) o)
theorem Okw.drewN {w : World} (h : Okw w) (n : Nat) : Okw (w.drewN n) := h
theorem Okw.lt {w : World} (h : Okw w) : 1 < w.heap.size := World.block_lt_of_cell? w ⟨1, 0, none⟩ (h.1 0 _ (show tabC[0]? = some (.string ⟨#[97, 108, 110, 117, 109]⟩) from rfl))
theorem Okw.old {w w' : World} {B : Nat} (h : Okw w) (hb : Below B w w') (hB : w.heap.size ≤ B) : Okw w' := h.to (hb.mono hB)

theorem gErr : Tryd.prog.globalNamed "strconv.ErrSyntax" = some 3 := by kernel_rfl
theorem tErr : (Tryd.prog.globals[3]?).map (·.type) = some 77 := by kernel_rfl
theorem cellsE : Tryd.prog.cellsOf 123 = 1 := by kernel_rfl
theorem starE : "*" ++ "errors.errorString" = "*errors.errorString" := by decide
theorem rowE (u : TypeId) (h : Tryd.prog.typeName? 3 u = some "*errors.errorString") : u = 121 :=
  typeName_ptr_named (nm := "errors.errorString") (by rw [starE]; kernel_rfl) (by kernel_rfl) (by decide) u (by rw [starE]; exact h)

theorem okw_of_met {L : List (String × DataW Unit)} {W : World} (h : laidMet Tryd.prog L W) (hsh : W.ShapedOpen Tryd.prog)
    (f1 : (L.filter fun x => x.1 == "tatting/named.table") = [("tatting/named.table", Rows.laid_tatting_named_table)])
    (f2 : (L.filter fun x => x.1 == "strconv.ErrSyntax") = [("strconv.ErrSyntax", Rows.laid_strconv_ErrSyntax)]) : Okw W := by
  have h1 := h.filter fun x => x.1 == "tatting/named.table"
  rw [f1] at h1
  have h2 := h.filter fun x => x.1 == "strconv.ErrSyntax"
  rw [f2] at h2
  obtain ⟨a0, s0, hv0, -, -, -⟩ := laid_sentinel h2 gErr tErr Tryd.underlying77 rowE Tryd.underlying121 Tryd.underlying123 rfl rfl Tryd.underlying9 cellsE cells9
  have h0 := World.var?_cell gErr hv0 0
  exact ⟨tabbed_of_met h1, Sh.laysM219.s1_3 W hsh, _, _, by simpa using h0⟩
end Go.Proofs.YtiahgcgpakgeeaaDoor
