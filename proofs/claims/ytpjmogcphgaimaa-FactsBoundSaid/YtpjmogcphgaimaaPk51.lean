/-
  The walk of the law FactsBound, over whatever list comes in.
  A slice of nodes that comes in as an argument, opened: the nodes that its cells are, their words such as words may be.
-/
import Derived.Test.YtpjmogcphgaimaaPk50
import Derived.Test.YtpjmogcphgaimaaRows
import Derived.Test.YtpjmogcphgaimaaPk4
import Derived.Test.YtpjmogcphgaimaaPk3
import Derived.ProofKit
import Derived.OpenShut
import Derived.Below
import Derived.Laws.IdiomArrays
import Derived.Lib.SmallJoins
import Derived.Deep.Slices
import Derived.ChangeSame
namespace Go.Proofs.Ytpjmogcphgaimaa
open Go.RowKit

theorem bound_some (b off n cap : Nat) (N : Nat → Nd) (hcap : n ≤ cap) (hok : ∀ j, j < n → okW (N j)) (t : ByteArray) (w : World) (hr : rdN w b off n N) :
    Calls Try.prog 4 #[.slice (some ⟨b, off, none⟩) n cap, .string t] w fun e w' => e = .returned (.bool true) ∧ Below w.heap.size w w' := by
  have hk := Nat.min_le_left n 30
  have hr' := hr.take (min n 30) hk
  have hof := fun w' (hB : Below w.heap.size w w') => cof_any (some ⟨b, off, none⟩) (min n 30) cap N (.inr ⟨b, off, rfl, fun j hj => hok j (by omega)⟩) w' (fun b' off' h => by cases h; exact hr'.below hB)
  by_cases ht : tree N (min n 30)
  · simp only [if_pos ht] at hof
    have hsz : (t.extract 0 (min t.size 10)).size = min t.size 10 := by rw [ByteArray.size_extract]; omega
    obtain ⟨F, hF, hc⟩ := all_is b off (min n 30) cap N ht (fun j hj => hok j (by omega)) (t.extract 0 (min t.size 10)) (min t.size 10) hsz (by omega)
    refine bound_tree (some ⟨b, off, none⟩) n cap (min n 30) rfl hcap t (min t.size 10) rfl _ rfl hsz w _ _ F (fun i j hij hj hf => ?_) hof (fun w' hB => hc w' (hr'.below hB))
    rw [hF i j hij hj] at hf
    exact fit_in (by omega) _ _ (trT_root ht).2.1 i j hf
  · simp only [if_neg ht] at hof
    exact bound_not (some ⟨b, off, none⟩) n cap (min n 30) rfl hcap t (min t.size 10) rfl w hof
theorem bound_zero (p : Option Addr) (cap : Nat) (t : ByteArray) (w : World) :
    Calls Try.prog 4 #[.slice p 0 cap, .string t] w fun e w' => e = .returned (.bool true) ∧ Below w.heap.size w w' := by
  have hz : ¬ tree N7 0 := fun ht => by have := (tree_iff.1 ht).1; omega
  have hof := fun w' (_ : Below w.heap.size w w') => cof_any p 0 cap N7 (.inl rfl) w' (fun b' off' h j hj => absurd hj (Nat.not_lt_zero _))
  simp only [if_neg hz] at hof
  exact bound_not p 0 cap 0 rfl (Nat.zero_le _) t (min t.size 10) rfl w hof
end Go.Proofs.Ytpjmogcphgaimaa

namespace Go.Proofs.Ytpjmogcphgaimaa
open Go.ChangeShapes Go.WideShapes Go.ChangeAt Go.RowKit Go.Joins Go.Deep

theorem laidOut : laidOutB Try.prog = true := by kernel_rfl
theorem cellsU64 : Try.prog.cellsOf 27 = 1 := by kernel_rfl
theorem cellsInt : Try.prog.cellsOf 3 = 1 := by kernel_rfl
theorem cellsSet : Try.prog.cellsOf 29 = 4 := by kernel_rfl
theorem cellsNode : Try.prog.cellsOf 44 = 7 := by kernel_rfl

set_option maxRecDepth 100000 in
theorem open_node {H : Type} {enc : TypeId × Value → H} {W : World} {b0 n : Nat} {sp : Nat → Bool} {hd : Bool} {cs : List Value} {x : DataW H × List MemPlace} (hl : cs.length = 7)
    (h : DataW.trod enc Try.prog W b0 sp hd n 44 cs = some x) : ∃ y : Nd, okW y ∧ cs = [.int .i64 y.k, .int .u64 y.a, .int .u64 y.b, .int .u64 y.c, .int .u64 y.d, .int .i64 y.lo, .int .i64 y.hi] := by
  obtain ⟨xs, k, hk, hxy, _, hxl, hf⟩ := DataW.trod_struct Try.underlying44 h
  match xs, hxl, cs, hl with
  | [y0, y1, y2, y3], _, [v0, v1, v2, v3, v4, v5, v6], _ =>
    have g0 := hf 0 _ rfl
    have g1 := hf 1 _ rfl
    have g2 := hf 2 _ rfl
    have g3 := hf 3 _ rfl
    simp [cellsInt, cellsSet] at g0 g1 g2 g3
    obtain ⟨x0, e0, _, _⟩ := DataW.trod_int Try.underlying3 g0
    obtain ⟨x2, e2, _, _⟩ := DataW.trod_int Try.underlying3 g2
    obtain ⟨x3, e3, _, _⟩ := DataW.trod_int Try.underlying3 g3
    obtain ⟨z0, z1, z2, z3, m, _, hy0, hy1, hy2, hy3⟩ := trod_array4 Try.underlying29 cellsU64 g1
    obtain ⟨s0, f0, _, w0⟩ := DataW.trod_int Try.underlying27 hy0
    obtain ⟨s1, f1, _, w1⟩ := DataW.trod_int Try.underlying27 hy1
    obtain ⟨s2, f2, _, w2⟩ := DataW.trod_int Try.underlying27 hy2
    obtain ⟨s3, f3, _, w3⟩ := DataW.trod_int Try.underlying27 hy3
    simp at e0 e2 e3 f0 f1 f2 f3
    subst e0 e2 e3 f0 f1 f2 f3
    have bd : ∀ x : Int, (Lit.int .u64 x).wf = true → 0 ≤ x ∧ x < 18446744073709551616 := by
      intro x hx
      have hw : IntKind.u64.min ≤ x ∧ x ≤ IntKind.u64.max := by simpa [Lit.wf] using hx
      simp [IntKind.min, IntKind.max, IntKind.bits, IntKind.signed] at hw
      exact ⟨by omega, by omega⟩
    exact ⟨⟨x0, s0, s1, s2, s3, x2, x3⟩, ⟨bd _ w0, bd _ w1, bd _ w2, bd _ w3⟩, rfl⟩

theorem add_at {b o j : Nat} : ((⟨b, o, none⟩ : Addr).add j) = ⟨b, o + j, none⟩ := by unfold Addr.add; split <;> simp_all

set_option maxRecDepth 100000 in
/-- A slice of nodes: no node, at any address; or the nodes that its cells are. -/
theorem open_nodes {H : Type} {enc : TypeId × Value → H} {W : World} {b0 n : Nat} {sp : Nat → Bool} {hd : Bool} {a0 : Option Addr} {len0 cap0 : Nat} {x : DataW H × List MemPlace}
    (h : DataW.trod enc Try.prog W b0 sp hd n 22 [.slice a0 len0 cap0] = some x) : len0 = 0 ∨ ∃ b off N, a0 = some ⟨b, off, none⟩ ∧ 0 < len0 ∧ len0 ≤ cap0 ∧ rdN W b off len0 N ∧ ∀ j, j < len0 → okW (N j) := by
  rcases open_slice Try.underlying22 h with ⟨hcs, _⟩ | ⟨a, len, cap, m, n', D, Pl, hcs, _, hl, _, hmm, _, hi⟩
  · simp at hcs
    exact .inl hcs.2.1
  · simp at hcs
    obtain ⟨rfl, rfl, rfl⟩ := hcs
    have hlm : len0 ≤ m := by rw [hmm]; split <;> omega
    rcases Nat.eq_zero_or_pos len0 with h0 | hpos
    · exact .inl h0
    right
    have hall : ∀ i, i < len0 → ∃ y : Nd, okW y ∧ W.cell? (a.add (i * 7)) = some (.int .i64 y.k) ∧ ∀ j, j < 7 → W.cell? ((a.add (i * 7)).add j) = [Value.int .i64 y.k, .int .u64 y.a, .int .u64 y.b, .int .u64 y.c, .int .u64 y.d, .int .i64 y.lo, .int .i64 y.hi][j]? := fun i him => by
      obtain ⟨cs, hc, ht⟩ := hi i (by omega)
      rw [cellsNode] at hc
      obtain ⟨_, hcl, hat⟩ := World.cells?_some hc
      obtain ⟨y, hw, rfl⟩ := open_node hcl ht
      exact ⟨y, hw, by simpa [Addr.add] using hat 0 (by decide), hat⟩
    obtain ⟨b, off, spot⟩ := a
    obtain ⟨_, _, z0, _⟩ := hall 0 hpos
    have hspot : spot = none := by simpa [Addr.add] using World.cell?_spot z0
    subst hspot
    have hb : b < W.heap.size := by have := World.block_lt_of_cell? W _ z0; simpa [Addr.add] using this
    refine ⟨b, off, fun i => if h : i < len0 then (hall i h).choose else ⟨0, 0, 0, 0, 0, 0, 0⟩, rfl, hpos, hl, fun j hj => ⟨hb, ?_⟩, fun j hj => by simp only [dif_pos hj]; exact (hall j hj).choose_spec.1⟩
    simp only [dif_pos hj]
    have hs := (hall j hj).choose_spec.2.2
    generalize (hall j hj).choose = y at hs
    have hs' : ∀ t, t < 7 → W.cell? ⟨b, off + j * 7 + t, none⟩ = [Value.int .i64 y.k, .int .u64 y.a, .int .u64 y.b, .int .u64 y.c, .int .u64 y.d, .int .i64 y.lo, .int .i64 y.hi][t]? := fun t ht => by
      have := hs t ht
      rwa [add_at, add_at] at this
    exact ⟨hs' 0 (by decide), hs' 1 (by decide), hs' 2 (by decide), hs' 3 (by decide), hs' 4 (by decide), hs' 5 (by decide), hs' 6 (by decide)⟩
end Go.Proofs.Ytpjmogcphgaimaa
