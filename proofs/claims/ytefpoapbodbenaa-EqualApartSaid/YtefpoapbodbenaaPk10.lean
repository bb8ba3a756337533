/-
  Rows of sets that a call makes, in memory; the walk of the eleventh reference's find.
  The walks of the eleventh reference's Go, Word and Run.
  The walks of within and fieldsFit: are a node's Set, Lo and Hi such as its kind lets be?
  The walk of the ninth reference's Build.
  Decided automata in memory; what the reference's Build answers.
  The walk of the eleventh reference's Same, at two that are the same.
-/
import Derived.Test.YtefpoapbodbenaaPk9
import Derived.Test.YtefpoapbodbenaaPk4
import Derived.BigQuiet
import Derived.Deep.QuietTactic
import Derived.OwnWalk
import Derived.Laws.AppendOwnNone
import Derived.Deep.RegionHeldLaw
import Derived.Test.YtefpoapbodbenaaPk1
import Derived.Deep.RegionWith
import Derived.Test.YtefpoapbodbenaaPk8
import Derived.Test.YtefpoapbodbenaaPk3
import Derived.Test.YtefpoapbodbenaaPk5
namespace Go.Proofs.Ytefpoapbodbenaa
open Go.RowKit

def lg (L : List Bf) (i : Nat) : Bf := L.getD i fun _ => false
def gvs (r C : Nat → Nat) (m k : Nat) : List Value := (List.range k).map fun i => .slice (some ⟨r i, 0, none⟩) m (C i)
theorem gvs_at (r C : Nat → Nat) (m k i : Nat) (h : i < k) : (gvs r C m k)[i]? = some (.slice (some ⟨r i, 0, none⟩) m (C i)) := by simp [gvs, h]
/-- A slice of sets that the call owns, its rows too. -/
def gsR (w : World) (base : Nat) (v : Value) (r C : Nat → Nat) (m : Nat) (L : List Bf) : Prop :=
  w.ownsRow base 23 1 v L.length (gvs r C m L.length) ∧ ∀ i, i < L.length → blR w base (r i) (C i) m (lg L i)
theorem gsR.below {w w' : World} {base : Nat} {v : Value} {r C : Nat → Nat} {m : Nat} {L : List Bf} (h : gsR w base v r C m L) (hb : Below w.heap.size w w') : gsR w' base v r C m L :=
  ⟨owns_below h.1 hb, fun i hi => (h.2 i hi).below hb⟩
theorem gsR.of {w : World} {base : Nat} {v : Value} {r C : Nat → Nat} {m : Nat} {L : List Bf} (h : gsR w base v r C m L) (hl : 1 ≤ L.length) : ∃ g c, v = .slice (some ⟨g, 0, none⟩) L.length c ∧ base ≤ g ∧ g < w.heap.size ∧ ∀ i, i < L.length → w.cell? ⟨g, i, none⟩ = some (.slice (some ⟨r i, 0, none⟩) m (C i)) := by
  rcases id h.1.2 with ⟨rfl, h0⟩ | ⟨g, cap, cur, rfl, _⟩
  · omega
  · have hlt := World.ownsRow.lt h.1 g rfl
    refine ⟨g, cap, rfl, hlt.1, hlt.2, fun i hi => ?_⟩
    have := World.ownsRow.cellAt h.1 i (by omega)
    rw [this]; exact gvs_at r C m _ i hi

end Go.Proofs.Ytefpoapbodbenaa

namespace Go.Proofs.Ytefpoapbodbenaa
open Go.RowKit

/-- A decided automaton as a value. -/
@[reducible] def dfV (q0 : Option Addr) (n0 c0 : Nat) (wd st : Int) (q1 : Option Addr) (n1 c1 : Nat) (q2 : Option Addr) (n2 c2 : Nat) : Value := .agg #[.slice q0 n0 c0, .int .i64 wd, .int .i64 st, .slice q1 n1 c1, .slice q2 n2 c2]

set_option maxRecDepth 100000 in
set_option maxHeartbeats 8000000 in
theorem go11 (q0 : Option Addr) (c0 : Nat) (wd : Nat) (st : Int) (q1 : Option Addr) (n1 c1 : Nat) (q2 : Option Addr) (n2 c2 : Nat) (l0 l1 : Nat → Int) (s y cc p : Nat) (hy : y < 259) (hcc : l0 y = (cc : Int)) (hp : s * wd = p) (hpc : p + cc < n1) (hn1 : n1 ≤ 1000000) (w : World) (h0 : rdL w q0 259 l0) (h1 : rdL w q1 n1 l1) :
    Calls Try.prog 24 #[dfV q0 259 c0 (wd : Int) st q1 n1 c1 q2 n2 c2, .int .i64 (s : Int), .int .i64 (y : Int)] w fun e w' => e = .returned (.int .i64 (l1 (p + cc))) ∧ Below w.heap.size w w' := by
  obtain ⟨b0, o0, rfl, hb0, hc0⟩ := h0 y hy
  obtain ⟨b1, o1, rfl, hb1, hc1⟩ := h1 (p + cc) hpc
  rw [hcc] at hc0
  obtain ⟨z, hz⟩ : ∃ z, l1 (p + cc) = z := ⟨_, rfl⟩
  rw [hz] at hc1 ⊢
  obtain ⟨w1, hw1⟩ : ∃ w1, w.alloc (.cells #[.slice (some ⟨b0, o0, none⟩) 259 c0, .int .i64 (wd : Int), .int .i64 st, .slice (some ⟨b1, o1, none⟩) n1 c1, .slice q2 n2 c2] 25) = w1 := ⟨_, rfl⟩
  have hbw : Below w.heap.size w w1 := hw1 ▸ (Below.refl _ _).alloc (Nat.le_refl _) _
  have hk : w1.heap[w.heap.size]? = some (.cells #[.slice (some ⟨b0, o0, none⟩) 259 c0, .int .i64 (wd : Int), .int .i64 st, .slice (some ⟨b1, o1, none⟩) n1 c1, .slice q2 n2 c2] 25 (0, 0)) := hw1 ▸ heap_alloc_new w _
  have k0 : w1.cell? ⟨w.heap.size, 0, none⟩ = some (.slice (some ⟨b0, o0, none⟩) 259 c0) := by simp [World.cell?, hk]
  have k1 : w1.cell? ⟨w.heap.size, 1, none⟩ = some (.int .i64 (wd : Int)) := by simp [World.cell?, hk]
  have k3 : w1.cell? ⟨w.heap.size, 3, none⟩ = some (.slice (some ⟨b1, o1, none⟩) n1 c1) := by simp [World.cell?, hk]
  have kc0 : w1.cell? ⟨b0, o0 + y, none⟩ = some (.int .i64 (cc : Int)) := (hbw.cell (p := ⟨b0, o0 + y, none⟩) hb0).trans hc0
  have kc1 : w1.cell? ⟨b1, o1 + (p + cc), none⟩ = some (.int .i64 z) := (hbw.cell (p := ⟨b1, o1 + (p + cc), none⟩) hb1).trans hc1
  have hmul : (s : Int) * (wd : Int) = (p : Int) := by rw [← hp]; simp
  have y0 : (0 : Int) ≤ (y : Int) := by omega
  have y1 : (y : Int) < 259 := by omega
  have p0 : (0 : Int) ≤ (p : Int) := by omega
  have p1 : (p : Int) + (cc : Int) < (n1 : Int) := by omega
  have p2 : (0 : Int) ≤ (p : Int) + (cc : Int) := by omega
  have p3 : (n1 : Int) ≤ 1000000 := by omega
  have p4 : ((p : Int) + (cc : Int)).toNat = p + cc := by omega
  have HW1 := Lib.hid hw1
  have HB := Lib.hid hbw
  clear hw1 hbw hk hb0 hb1 hc0 hc1 hz hp hpc hn1 h0 h1 hcc
  go_enter Try.func24, Try.ntmps24
  go_upto_region 1 with (fail)
  rw [HW1.out]
  go_quiet (fail)
  go_wp2_with fail
  go_returns
  exact ⟨rfl, below_drewN nq HB.out⟩
end Go.Proofs.Ytefpoapbodbenaa

namespace Go.Proofs.Ytefpoapbodbenaa
open Go.RowKit

/-- A node as a value. -/
@[reducible] def nv (x : Nd) : Value := .agg #[.int .i64 x.k, .int .u64 x.a, .int .u64 x.b, .int .u64 x.c, .int .u64 x.d, .int .i64 x.lo, .int .i64 x.hi]
end Go.Proofs.Ytefpoapbodbenaa

namespace Go.Proofs.Ytefpoapbodbenaa
open Go.RowKit

def is3 (t : TypeId) (w : World) (b : Nat) (v : Value) (f l : Int) : Prop := w.heap[b]? = some (.cells #[v, .int .i64 f, .int .i64 l] t (0, 0))
theorem is3.lt {t : TypeId} {w : World} {b : Nat} {v : Value} {f l : Int} (h : is3 t w b v f l) : b < w.heap.size := lt_of_block h
theorem is3.cells {t : TypeId} {w : World} {b : Nat} {v : Value} {f l : Int} (h : is3 t w b v f l) : w.cell? ⟨b, 0, none⟩ = some v ∧ w.cell? ⟨b, 1, none⟩ = some (.int .i64 f) ∧ w.cell? ⟨b, 2, none⟩ = some (.int .i64 l) := by
  unfold is3 at h
  refine ⟨?_, ?_, ?_⟩ <;> simp [World.cell?, h]
theorem is3.free {t : TypeId} {w : World} {b : Nat} {v : Value} {f l : Int} (h : is3 t w b v f l) : w.frozen? ⟨b, 0, none⟩ = false ∧ w.frozen? ⟨b, 1, none⟩ = false ∧ w.frozen? ⟨b, 2, none⟩ = false := by
  unfold is3 at h
  refine ⟨?_, ?_, ?_⟩ <;> simp [World.frozen?, h]
theorem is3.below {t : TypeId} {w w' : World} {b B : Nat} {v : Value} {f l : Int} (h : is3 t w b v f l) (hB : Below B w w') (hb : b < B) : is3 t w' b v f l := (hB.block b hb).trans h
theorem is3.stored {t : TypeId} {w : World} {b : Nat} {v : Value} {f l : Int} (h : is3 t w b v f l) (v' : Value) (f' l' : Int) : is3 t (((w.setCell ⟨b, 0, none⟩ v').setCell ⟨b, 1, none⟩ (.int .i64 f')).setCell ⟨b, 2, none⟩ (.int .i64 l')) b v' f' l' := by
  have h1 := heap_setCell_same w b 0 _ _ v' h
  have h2 := heap_setCell_same _ b 1 _ _ (.int .i64 f') h1
  have h3 := heap_setCell_same _ b 2 _ _ (.int .i64 l') h2
  unfold is3
  rw [h3]
  simp
theorem is3.new (t : TypeId) (w : World) (v : Value) (f l : Int) : is3 t (w.alloc (.cells #[v, .int .i64 f, .int .i64 l] t)) w.heap.size v f l := heap_alloc_new w _

end Go.Proofs.Ytefpoapbodbenaa

namespace Go.Proofs.Ytefpoapbodbenaa
open Go.RowKit

/-- Bools that a slice holds. -/
def rdBs (w : World) (p : Option Addr) (n : Nat) (T : Nat → Bool) : Prop := ∀ j, j < n → ∃ b o, p = some ⟨b, o, none⟩ ∧ b < w.heap.size ∧ w.cell? ⟨b, o + j, none⟩ = some (.bool (T j))
theorem rdL.set11 {w : World} {p : Option Addr} {n : Nat} {l : Nat → Int} {X : Nat} (h : rdL w p n l) (hne : ∀ b o, p = some ⟨b, o, none⟩ → b ≠ X) (j : Nat) (u : Value) : rdL (w.setCell ⟨X, j, none⟩ u) p n l := fun k hk => by
  obtain ⟨b, o, h1, h2, h3⟩ := h k hk
  exact ⟨b, o, h1, by simpa using h2, (grown_setCell w X j u).cell h3 (by simpa using hne b o h1)⟩
theorem rdBs.set11 {w : World} {p : Option Addr} {n : Nat} {T : Nat → Bool} {X : Nat} (h : rdBs w p n T) (hne : ∀ b o, p = some ⟨b, o, none⟩ → b ≠ X) (j : Nat) (u : Value) : rdBs (w.setCell ⟨X, j, none⟩ u) p n T := fun k hk => by
  obtain ⟨b, o, h1, h2, h3⟩ := h k hk
  exact ⟨b, o, h1, by simpa using h2, (grown_setCell w X j u).cell h3 (by simpa using hne b o h1)⟩
theorem bls_rd {w : World} {base n c : Nat} {p : Option Addr} {T : Nat → Bool} (h : w.ownsRow base 4 1 (.slice p n c) n (bls T n)) : rdBs w p n T ∧ ∀ b o, p = some ⟨b, o, none⟩ → base ≤ b := by
  rcases id h.2 with ⟨e, h0⟩ | ⟨g, cp, cur, e, _⟩
  · have e2 := (Value.slice.inj e).1
    subst e2
    exact ⟨fun j hj => by omega, fun b o e => by cases e⟩
  · have e2 := (Value.slice.inj e).1
    subst e2
    refine ⟨fun j hj => ⟨g, 0, rfl, (World.ownsRow.lt h g rfl).2, ?_⟩, fun b o e => by cases e; exact (World.ownsRow.lt h g rfl).1⟩
    rw [Nat.zero_add, World.ownsRow.cellAt h j (by omega)]
    exact bls_at T n j hj
theorem build_df0 (w : World) : (Instr.build 25 #[]).run Try.prog w = .ok (dfV none 0 0 0 0 none 0 0 none 0 0) w := by kernel_rfl
/-- A block that holds a decided automaton. -/
def isDf (w : World) (b : Nat) (q0 : Option Addr) (n0 c0 : Nat) (wd st : Int) (q1 : Option Addr) (n1 c1 : Nat) (q2 : Option Addr) (n2 c2 : Nat) : Prop := w.heap[b]? = some (.cells #[.slice q0 n0 c0, .int .i64 wd, .int .i64 st, .slice q1 n1 c1, .slice q2 n2 c2] 25 (0, 0))
theorem isDf.lt {w : World} {b : Nat} {q0 : Option Addr} {n0 c0 : Nat} {wd st : Int} {q1 : Option Addr} {n1 c1 : Nat} {q2 : Option Addr} {n2 c2 : Nat} (h : isDf w b q0 n0 c0 wd st q1 n1 c1 q2 n2 c2) : b < w.heap.size := lt_of_block h
theorem isDf.cells {w : World} {b : Nat} {q0 : Option Addr} {n0 c0 : Nat} {wd st : Int} {q1 : Option Addr} {n1 c1 : Nat} {q2 : Option Addr} {n2 c2 : Nat} (h : isDf w b q0 n0 c0 wd st q1 n1 c1 q2 n2 c2) :
    w.cell? ⟨b, 0, none⟩ = some (.slice q0 n0 c0) ∧ w.cell? ⟨b, 1, none⟩ = some (.int .i64 wd) ∧ w.cell? ⟨b, 2, none⟩ = some (.int .i64 st) ∧ w.cell? ⟨b, 3, none⟩ = some (.slice q1 n1 c1) ∧ w.cell? ⟨b, 4, none⟩ = some (.slice q2 n2 c2) := by
  unfold isDf at h
  refine ⟨?_, ?_, ?_, ?_, ?_⟩ <;> simp [World.cell?, h]
/-- A list of numbers so long does not lie there. -/
theorem isDf.no_row {w : World} {b : Nat} {q0 : Option Addr} {n0 c0 : Nat} {wd st : Int} {q1 : Option Addr} {n1 c1 : Nat} {q2 : Option Addr} {n2 c2 : Nat} (h : isDf w b q0 n0 c0 wd st q1 n1 c1 q2 n2 c2) {p : Option Addr} {n : Nat} {l : Nat → Int} (hr : rdL w p n l) (hn : 6 ≤ n) : ∀ b' o, p = some ⟨b', o, none⟩ → b' ≠ b := fun b' o e e2 => by
  subst e2
  obtain ⟨x, y, e3, _, h5⟩ := hr 5 (by omega)
  rw [e] at e3
  cases e3
  unfold isDf at h
  have : w.cell? ⟨b', o + 5, none⟩ = none := by simp [World.cell?, h]
  rw [this] at h5
  cases h5
theorem isDf.free {w : World} {b : Nat} {q0 : Option Addr} {n0 c0 : Nat} {wd st : Int} {q1 : Option Addr} {n1 c1 : Nat} {q2 : Option Addr} {n2 c2 : Nat} (h : isDf w b q0 n0 c0 wd st q1 n1 c1 q2 n2 c2) (j : Nat) : w.frozen? ⟨b, j, none⟩ = false := by
  unfold isDf at h
  simp [World.frozen?, h]
theorem isDf.put4 {w : World} {b : Nat} {q0 : Option Addr} {n0 c0 : Nat} {wd st : Int} {q1 : Option Addr} {n1 c1 : Nat} {q2 : Option Addr} {n2 c2 : Nat} (h : isDf w b q0 n0 c0 wd st q1 n1 c1 q2 n2 c2) (q : Option Addr) (n c : Nat) : isDf (w.setCell ⟨b, 4, none⟩ (.slice q n c)) b q0 n0 c0 wd st q1 n1 c1 q n c := by
  have h1 := heap_setCell_same w b 4 _ _ (.slice q n c) h
  unfold isDf
  rw [h1]; simp
theorem isDf.stored {w : World} {b : Nat} {q0 : Option Addr} {n0 c0 : Nat} {wd st : Int} {q1 : Option Addr} {n1 c1 : Nat} {q2 : Option Addr} {n2 c2 : Nat} (h : isDf w b q0 n0 c0 wd st q1 n1 c1 q2 n2 c2) (p0 : Option Addr) (k0 d0 : Nat) (we se : Int) (p1 : Option Addr) (k1 d1 : Nat) (p2 : Option Addr) (k2 d2 : Nat) :
    isDf (((((w.setCell ⟨b, 0, none⟩ (.slice p0 k0 d0)).setCell ⟨b, 1, none⟩ (.int .i64 we)).setCell ⟨b, 2, none⟩ (.int .i64 se)).setCell ⟨b, 3, none⟩ (.slice p1 k1 d1)).setCell ⟨b, 4, none⟩ (.slice p2 k2 d2)) b p0 k0 d0 we se p1 k1 d1 p2 k2 d2 := by
  have h1 := heap_setCell_same w b 0 _ _ (.slice p0 k0 d0) h
  have h2 := heap_setCell_same _ b 1 _ _ (.int .i64 we) h1
  have h3 := heap_setCell_same _ b 2 _ _ (.int .i64 se) h2
  have h4 := heap_setCell_same _ b 3 _ _ (.slice p1 k1 d1) h3
  have h5 := heap_setCell_same _ b 4 _ _ (.slice p2 k2 d2) h4
  unfold isDf
  rw [h5]; simp
theorem isDf.below {w w' : World} {b B : Nat} {q0 : Option Addr} {n0 c0 : Nat} {wd st : Int} {q1 : Option Addr} {n1 c1 : Nat} {q2 : Option Addr} {n2 c2 : Nat} (h : isDf w b q0 n0 c0 wd st q1 n1 c1 q2 n2 c2) (hb : Below B w w') (hB : b < B) : isDf w' b q0 n0 c0 wd st q1 n1 c1 q2 n2 c2 := (hb.block b hB).trans h

end Go.Proofs.Ytefpoapbodbenaa

namespace Go.Proofs.Ytefpoapbodbenaa
open Go.RowKit

theorem rdBs.below {w w' : World} {p : Option Addr} {n : Nat} {T : Nat → Bool} (h : rdBs w p n T) (hb : Below w.heap.size w w') : rdBs w' p n T := fun j hj => by
  obtain ⟨b, o, h1, h2, h3⟩ := h j hj
  exact ⟨b, o, h1, Nat.lt_of_lt_of_le h2 hb.size, by rw [hb.cell (p := ⟨b, o + j, none⟩) h2]; exact h3⟩

end Go.Proofs.Ytefpoapbodbenaa
