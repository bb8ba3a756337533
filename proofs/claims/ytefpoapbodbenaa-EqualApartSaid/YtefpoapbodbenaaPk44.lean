/-
  A slice of nodes that comes in as an argument, opened: the nodes that its cells are, their words such as words may be.
  Decided automata that come in as arguments, opened.
-/
import Derived.Test.YtefpoapbodbenaaRows
import Derived.Test.YtefpoapbodbenaaPk4
import Derived.Test.YtefpoapbodbenaaPk3
import Derived.ProofKit
import Derived.OpenShut
import Derived.Below
import Derived.Laws.IdiomArrays
import Derived.Lib.SmallJoins
import Derived.Deep.Slices
import Derived.ChangeSame
import Derived.Test.YtefpoapbodbenaaPk11
namespace Go.Proofs.Ytefpoapbodbenaa
open Go.ChangeShapes Go.WideShapes Go.ChangeAt Go.RowKit Go.Joins Go.Deep

theorem laidOut : laidOutB Try.prog = true := by kernel_rfl
theorem cellsInt : Try.prog.cellsOf 3 = 1 := by kernel_rfl
theorem add_at {b o j : Nat} : ((⟨b, o, none⟩ : Addr).add j) = ⟨b, o + j, none⟩ := by unfold Addr.add; split <;> simp_all

end Go.Proofs.Ytefpoapbodbenaa

namespace Go.Proofs.Ytefpoapbodbenaa
open Go.ChangeShapes Go.WideShapes Go.ChangeAt Go.RowKit Go.Joins Go.Deep

theorem cellsInt12 : Try.prog.cellsOf 3 = 1 := by kernel_rfl
theorem cellsBool12 : Try.prog.cellsOf 4 = 1 := by kernel_rfl
theorem cellsInts12 : Try.prog.cellsOf 22 = 1 := by kernel_rfl
theorem cellsBools12 : Try.prog.cellsOf 23 = 1 := by kernel_rfl
theorem cellsDfa12 : Try.prog.cellsOf 25 = 5 := by kernel_rfl
/-- A list that comes in, whatever it is. -/
theorem open_ints12 {H : Type} {enc : TypeId × Value → H} {W : World} {b0 n : Nat} {sp : Nat → Bool} {hd : Bool} {c0 : Value} {x : DataW H × List MemPlace}
    (h : DataW.trod enc Try.prog W b0 sp hd n 22 [c0] = some x) : ∃ p k c l, c0 = .slice p k c ∧ k ≤ maxLen ∧ rdL W p k l := by
  rcases open_slice Try.underlying22 h with ⟨hcs, _⟩ | ⟨a, len, cap, m, n', D, Pl, hcs, _, hl, hcm, hmm, _, hi⟩
  · simp at hcs
    exact ⟨_, _, _, fun _ => 0, hcs, Nat.zero_le _, fun j hj => absurd hj (Nat.not_lt_zero _)⟩
  · simp at hcs
    subst hcs
    have hlm : len ≤ m := by rw [hmm]; split <;> omega
    rcases Nat.eq_zero_or_pos len with h0 | hpos
    · subst h0
      exact ⟨_, _, _, fun _ => 0, rfl, Nat.zero_le _, fun j hj => absurd hj (Nat.not_lt_zero _)⟩
    have hall : ∀ i, i < len → ∃ y : Int, W.cell? (a.add (i * 1)) = some (.int .i64 y) := fun i him => by
      obtain ⟨cs, hc, ht⟩ := hi i (by omega)
      rw [cellsInt12] at hc
      obtain ⟨_, hcl, hat⟩ := World.cells?_some hc
      obtain ⟨y, hy, _, _⟩ := DataW.trod_int Try.underlying3 ht
      have h0 := hat 0 (by decide)
      rw [hy] at h0
      exact ⟨y, by simpa [Addr.add] using h0⟩
    obtain ⟨b, off, spot⟩ := a
    obtain ⟨_, z0⟩ := hall 0 hpos
    have hspot : spot = none := by simpa [Addr.add] using World.cell?_spot z0
    subst hspot
    have hb : b < W.heap.size := by have := World.block_lt_of_cell? W _ z0; simpa [Addr.add] using this
    refine ⟨_, _, _, fun i => if h : i < len then (hall i h).choose else 0, rfl, by omega, fun j hj => ⟨b, off, rfl, hb, ?_⟩⟩
    simp only [dif_pos hj]
    have := (hall j hj).choose_spec
    generalize (hall j hj).choose = y at this ⊢
    rw [add_at, Nat.mul_one] at this
    exact this
theorem open_bools12 {H : Type} {enc : TypeId × Value → H} {W : World} {b0 n : Nat} {sp : Nat → Bool} {hd : Bool} {c0 : Value} {x : DataW H × List MemPlace}
    (h : DataW.trod enc Try.prog W b0 sp hd n 23 [c0] = some x) : ∃ p k c T, c0 = .slice p k c ∧ k ≤ maxLen ∧ rdBs W p k T := by
  rcases open_slice Try.underlying23 h with ⟨hcs, _⟩ | ⟨a, len, cap, m, n', D, Pl, hcs, _, hl, hcm, hmm, _, hi⟩
  · simp at hcs
    exact ⟨_, _, _, fun _ => false, hcs, Nat.zero_le _, fun j hj => absurd hj (Nat.not_lt_zero _)⟩
  · simp at hcs
    subst hcs
    have hlm : len ≤ m := by rw [hmm]; split <;> omega
    rcases Nat.eq_zero_or_pos len with h0 | hpos
    · subst h0
      exact ⟨_, _, _, fun _ => false, rfl, Nat.zero_le _, fun j hj => absurd hj (Nat.not_lt_zero _)⟩
    have hall : ∀ i, i < len → ∃ y : Bool, W.cell? (a.add (i * 1)) = some (.bool y) := fun i him => by
      obtain ⟨cs, hc, ht⟩ := hi i (by omega)
      rw [cellsBool12] at hc
      obtain ⟨_, hcl, hat⟩ := World.cells?_some hc
      obtain ⟨y, hy, _⟩ := DataW.trod_bool Try.underlying4 ht
      have h0 := hat 0 (by decide)
      rw [hy] at h0
      exact ⟨y, by simpa [Addr.add] using h0⟩
    obtain ⟨b, off, spot⟩ := a
    obtain ⟨_, z0⟩ := hall 0 hpos
    have hspot : spot = none := by simpa [Addr.add] using World.cell?_spot z0
    subst hspot
    have hb : b < W.heap.size := by have := World.block_lt_of_cell? W _ z0; simpa [Addr.add] using this
    refine ⟨_, _, _, fun i => if h : i < len then (hall i h).choose else false, rfl, by omega, fun j hj => ⟨b, off, rfl, hb, ?_⟩⟩
    simp only [dif_pos hj]
    have := (hall j hj).choose_spec
    generalize (hall j hj).choose = y at this ⊢
    rw [add_at, Nat.mul_one] at this
    exact this
def lnD (x : Da) : Prop := x.n0 ≤ maxLen ∧ x.n1 ≤ maxLen ∧ x.n2 ≤ maxLen
set_option maxRecDepth 100000 in
theorem open_dfa_cells {H : Type} {enc : TypeId × Value → H} {W : World} {b0 n : Nat} {sp : Nat → Bool} {hd : Bool} {c0 c1 c2 c3 c4 : Value} {x : DataW H × List MemPlace}
    (h : DataW.trod enc Try.prog W b0 sp hd n 25 [c0, c1, c2, c3, c4] = some x) : ∃ y : Da, lnD y ∧ daAt W (.agg #[c0, c1, c2, c3, c4]) y ∧ ∃ q0 e0 q1 e1 q2 e2, c0 = .slice q0 y.n0 e0 ∧ c1 = .int .i64 y.wd ∧ c2 = .int .i64 y.st ∧ c3 = .slice q1 y.n1 e1 ∧ c4 = .slice q2 y.n2 e2 := by
  obtain ⟨xs, k, hk, hxy, _, hxl, hg⟩ := DataW.trod_struct Try.underlying25 h
  match xs, hxl with
  | [y0, y1, y2, y3, y4], _ =>
    have g0 := hg 0 _ rfl
    have g1 := hg 1 _ rfl
    have g2 := hg 2 _ rfl
    have g3 := hg 3 _ rfl
    have g4 := hg 4 _ rfl
    simp [cellsInt12, cellsInts12, cellsBools12] at g0 g1 g2 g3 g4
    obtain ⟨x1, e1, _, _⟩ := DataW.trod_int Try.underlying3 g1
    obtain ⟨x2, e2, _, _⟩ := DataW.trod_int Try.underlying3 g2
    have e1' : c1 = .int .i64 x1 := by first | exact e1 | simpa using e1
    have e2' : c2 = .int .i64 x2 := by first | exact e2 | simpa using e2
    clear e1 e2
    subst e1' e2'
    obtain ⟨q0, n0, d0, l0, rfl, b0', r0⟩ := open_ints12 g0
    obtain ⟨q1, n1, d1, l1, rfl, b1', r1⟩ := open_ints12 g3
    obtain ⟨q2, n2, d2, T, rfl, b2', r2⟩ := open_bools12 g4
    exact ⟨⟨n0, l0, x1, x2, n1, l1, n2, T⟩, ⟨b0', b1', b2'⟩, ⟨q0, d0, q1, d1, q2, d2, rfl, r0, r1, r2⟩, q0, d0, q1, d1, q2, d2, rfl, rfl, rfl, rfl, rfl⟩
set_option maxRecDepth 100000 in
/-- A decided automaton, whatever it is. -/
theorem open_dfa {H : Type} {enc : TypeId × Value → H} {W : World} {base b0 : Nat} {sp : Nat → Bool} {hd : Bool} {v : Value} {d : DataW H} {ps : List MemPlace}
    (hok : Value.okWide Try.prog W .any base 25 v) (h : DataW.Trod enc Try.prog W b0 sp hd 25 v d ps) : ∃ y : Da, lnD y ∧ daAt W v y := by
  obtain ⟨cs, rfl, hsz⟩ := okWide_struct Try.underlying25 hok
  rw [cellsDfa12] at hsz
  obtain ⟨c0, c1, c2, c3, c4, rfl⟩ : ∃ c0 c1 c2 c3 c4, cs = #[c0, c1, c2, c3, c4] := by
    obtain ⟨l⟩ := cs
    match l, hsz with
    | [a, b, c, d, e], _ => exact ⟨a, b, c, d, e, rfl⟩
  obtain ⟨fuel, hf⟩ := h
  change DataW.trod enc Try.prog W b0 sp hd fuel 25 [c0, c1, c2, c3, c4] = some (d, ps) at hf
  obtain ⟨y, h1, h2, _⟩ := open_dfa_cells hf
  exact ⟨y, h1, h2⟩
end Go.Proofs.Ytefpoapbodbenaa
