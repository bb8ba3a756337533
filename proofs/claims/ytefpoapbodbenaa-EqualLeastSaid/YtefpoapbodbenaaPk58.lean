/-
  Arguments opened: a slice of numbers; an array of two.
-/
import Derived.Test.YtefpoapbodbenaaRows
import Derived.Test.YtefpoapbodbenaaPk4
import Derived.Test.YtefpoapbodbenaaPk44
namespace Go.Proofs.Ytefpoapbodbenaa
open Go.ChangeShapes Go.WideShapes Go.ChangeAt Go.RowKit Go.Joins Go.Deep

set_option maxRecDepth 100000 in
/-- A slice of numbers: none, at any address; or the numbers that its cells are. -/
theorem open_ints9 {H : Type} {enc : TypeId × Value → H} {W : World} {b0 n : Nat} {sp : Nat → Bool} {hd : Bool} {a0 : Option Addr} {len0 cap0 : Nat} {x : DataW H × List MemPlace}
    (h : DataW.trod enc Try.prog W b0 sp hd n 22 [.slice a0 len0 cap0] = some x) : len0 = 0 ∨ len0 ≤ cap0 ∧ ∃ l, rdL W a0 len0 l := by
  rcases open_slice Try.underlying22 h with ⟨hcs, _⟩ | ⟨a, len, cap, m, n', D, Pl, hcs, _, hl, _, hmm, _, hi⟩
  · simp at hcs
    exact .inl hcs.2.1
  · simp at hcs
    obtain ⟨rfl, rfl, rfl⟩ := hcs
    have hlm : len0 ≤ m := by rw [hmm]; split <;> omega
    rcases Nat.eq_zero_or_pos len0 with h0 | hpos
    · exact .inl h0
    right
    have hall : ∀ i, i < len0 → ∃ y : Int, W.cell? (a.add (i * 1)) = some (.int .i64 y) := fun i him => by
      obtain ⟨cs, hc, ht⟩ := hi i (by omega)
      rw [cellsInt] at hc
      obtain ⟨_, hcl, hat⟩ := World.cells?_some hc
      obtain ⟨y, hy, _, _⟩ := DataW.trod_int Try.underlying3 ht
      have h0 := hat 0 (by decide)
      rw [hy] at h0
      exact ⟨y, by simpa [Addr.add] using h0⟩
    obtain ⟨b, off, spot⟩ := a
    obtain ⟨_, z0⟩ := hall 0 hpos
    have hspot : spot = none := by simpa [Addr.add] using World.cell?_spot z0
    subst hspot
    have hb : b < W.heap.size := by have := World.block_lt_of_cell? W _ z0; simpa [Addr.add] using this
    refine ⟨hl, fun i => if h : i < len0 then (hall i h).choose else 0, fun j hj => ⟨b, off, rfl, hb, ?_⟩⟩
    simp only [dif_pos hj]
    have hs := (hall j hj).choose_spec
    generalize (hall j hj).choose = y at hs
    rw [add_at] at hs
    simpa using hs
end Go.Proofs.Ytefpoapbodbenaa
