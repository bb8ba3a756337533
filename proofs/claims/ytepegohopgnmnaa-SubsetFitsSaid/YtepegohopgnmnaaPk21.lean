/-
  The walk of the ninth reference's Build.
  Decided automata in memory; what the reference's Build answers.
  The sets that were met, as rows of lists in memory; what is met, whole.
-/
import Derived.Test.YtepegohopgnmnaaPk17
import Derived.Test.YtepegohopgnmnaaPk19
import Derived.Test.YtepegohopgnmnaaPk20
import Derived.Test.YtepegohopgnmnaaPk13
import Derived.Test.YtepegohopgnmnaaPk14
import Derived.Test.YtepegohopgnmnaaPk15
import Derived.Maps.AppendAt
namespace Go.Proofs.Ytepegohopgnmnaa
open Go.RowKit

theorem sds_put (l : List Sd) (j : Nat) (x : Sd) (h : j < l.length) : (((((((sds l).set (j * 7) (.int .i64 x.k)).set (j * 7 + 1) (.int .i64 x.A)).set (j * 7 + 2) (.int .i64 x.B)).set (j * 7 + 3) (.int .u64 x.a)).set (j * 7 + 4) (.int .u64 x.b)).set (j * 7 + 5) (.int .u64 x.c)).set (j * 7 + 6) (.int .u64 x.d) = sds (l.set j x) := by
  induction l generalizing j with
  | nil => simp at h
  | cons r l ih =>
    cases j with
    | zero => rfl
    | succ j =>
      have e : (r :: l).set (j + 1) x = r :: l.set j x := rfl
      rw [sds_cons, e, sds_cons, ← ih j (by simpa using h), show (j + 1) * 7 = j * 7 + 7 by omega, show j * 7 + 7 + 1 = (j * 7 + 1) + 7 by omega, show j * 7 + 7 + 2 = (j * 7 + 2) + 7 by omega, show j * 7 + 7 + 3 = (j * 7 + 3) + 7 by omega, show j * 7 + 7 + 4 = (j * 7 + 4) + 7 by omega, show j * 7 + 7 + 5 = (j * 7 + 5) + 7 by omega, show j * 7 + 7 + 6 = (j * 7 + 6) + 7 by omega]
      rfl
theorem stO.putS {w : World} {base g c : Nat} {L : List Sd} (h : stO w base g c L) (j : Nat) (hj : j < L.length) (x : Sd) : stO (((((((w.setCell ⟨g, j * 7, none⟩ (.int .i64 x.k)).setCell ⟨g, j * 7 + 1, none⟩ (.int .i64 x.A)).setCell ⟨g, j * 7 + 2, none⟩ (.int .i64 x.B)).setCell ⟨g, j * 7 + 3, none⟩ (.int .u64 x.a)).setCell ⟨g, j * 7 + 4, none⟩ (.int .u64 x.b)).setCell ⟨g, j * 7 + 5, none⟩ (.int .u64 x.c)).setCell ⟨g, j * 7 + 6, none⟩ (.int .u64 x.d)) base g c (L.set j x) := by
  have h1 := (World.ownsRow.stored h (j * 7) (.int .i64 x.k)).1
  have h2 := (World.ownsRow.stored h1 (j * 7 + 1) (.int .i64 x.A)).1
  have h3 := (World.ownsRow.stored h2 (j * 7 + 2) (.int .i64 x.B)).1
  have h4 := (World.ownsRow.stored h3 (j * 7 + 3) (.int .u64 x.a)).1
  have h5 := (World.ownsRow.stored h4 (j * 7 + 4) (.int .u64 x.b)).1
  have h6 := (World.ownsRow.stored h5 (j * 7 + 5) (.int .u64 x.c)).1
  have h7 := (World.ownsRow.stored h6 (j * 7 + 6) (.int .u64 x.d)).1
  rw [sds_put L j x hj] at h7
  unfold stO
  rw [List.length_set]; exact h7
def is3 (t : TypeId) (w : World) (b : Nat) (v : Value) (f l : Int) : Prop := w.heap[b]? = some (.cells #[v, .int .i64 f, .int .i64 l] t (0, 0))
theorem is3.lt {t : TypeId} {w : World} {b : Nat} {v : Value} {f l : Int} (h : is3 t w b v f l) : b < w.heap.size := lt_of_block h
theorem is3.cells {t : TypeId} {w : World} {b : Nat} {v : Value} {f l : Int} (h : is3 t w b v f l) : w.cell? ⟨b, 0, none⟩ = some v ∧ w.cell? ⟨b, 1, none⟩ = some (.int .i64 f) ∧ w.cell? ⟨b, 2, none⟩ = some (.int .i64 l) := by
  unfold is3 at h
  refine ⟨?_, ?_, ?_⟩ <;> simp [World.cell?, h]
theorem is3.free {t : TypeId} {w : World} {b : Nat} {v : Value} {f l : Int} (h : is3 t w b v f l) : w.frozen? ⟨b, 0, none⟩ = false ∧ w.frozen? ⟨b, 1, none⟩ = false ∧ w.frozen? ⟨b, 2, none⟩ = false := by
  unfold is3 at h
  refine ⟨?_, ?_, ?_⟩ <;> simp [World.frozen?, h]
theorem is3.below {t : TypeId} {w w' : World} {b B : Nat} {v : Value} {f l : Int} (h : is3 t w b v f l) (hB : Below B w w') (hb : b < B) : is3 t w' b v f l := (hB.block b hb).trans h
theorem is3.stored {t : TypeId} {w : World} {b : Nat} {v : Value} {f l : Int} (h : is3 t w b v f l) (v' : Value) (f' l' : Int) : is3 t (((w.setCell ⟨b, 0, none⟩ v').setCell ⟨b, 1, none⟩ (.int .i64 f')).setCell ⟨b, 2, none⟩ (.int .i64 l')) b v' f' l' := by
  have h1 := heap_setCell_same w b 0 _ _ v' h
  have h2 := heap_setCell_same _ b 1 _ _ (.int .i64 f') h1
  have h3 := heap_setCell_same _ b 2 _ _ (.int .i64 l') h2
  unfold is3
  rw [h3]
  simp
theorem is3.new (t : TypeId) (w : World) (v : Value) (f l : Int) : is3 t (w.alloc (.cells #[v, .int .i64 f, .int .i64 l] t)) w.heap.size v f l := heap_alloc_new w _

theorem st7_grown (w : World) (g o0 o1 o2 o3 o4 o5 o6 : Nat) (v0 v1 v2 v3 v4 v5 v6 : Value) : w.grownBy (((((((w.setCell ⟨g, o0, none⟩ v0).setCell ⟨g, o1, none⟩ v1).setCell ⟨g, o2, none⟩ v2).setCell ⟨g, o3, none⟩ v3).setCell ⟨g, o4, none⟩ v4).setCell ⟨g, o5, none⟩ v5).setCell ⟨g, o6, none⟩ v6) (some g) :=
  ((((((grown_setCell w g o0 v0).trans (grown_setCell _ g o1 v1)).trans (grown_setCell _ g o2 v2)).trans (grown_setCell _ g o3 v3)).trans (grown_setCell _ g o4 v4)).trans (grown_setCell _ g o5 v5)).trans (grown_setCell _ g o6 v6)
theorem stO.cellX {w : World} {base g c : Nat} {L : List Sd} (h : stO w base g c L) {j : Nat} (hj : j < L.length) (x : Nat) (hx : x < 7) (u : Value) (hu : (scs (sfn L j))[x]? = some u) : w.cell? ⟨g, j * 7 + x, none⟩ = some u :=
  h.cell _ _ (by rw [sds_get L j hj x hx, ← sfn_lt hj]; exact hu)
theorem sfn_set {L : List Sd} {j q : Nat} {x : Sd} (h : q ≠ j) : sfn (L.set j x) q = sfn L q := by
  unfold sfn
  rw [List.getD_eq_getElem?_getD, List.getD_eq_getElem?_getD, List.getElem?_set_ne (Ne.symm h)]
theorem sfn_set_at {L : List Sd} {j : Nat} {x : Sd} (h : j < L.length) : sfn (L.set j x) j = x := by
  unfold sfn
  rw [List.getD_eq_getElem?_getD, List.getElem?_set_self h]; rfl
end Go.Proofs.Ytepegohopgnmnaa

namespace Go.Proofs.Ytepegohopgnmnaa
open Go.RowKit

/-- Bools that a slice holds. -/
def rdBs (w : World) (p : Option Addr) (n : Nat) (T : Nat → Bool) : Prop := ∀ j, j < n → ∃ b o, p = some ⟨b, o, none⟩ ∧ b < w.heap.size ∧ w.cell? ⟨b, o + j, none⟩ = some (.bool (T j))
/-- What is decided, whole. -/
def dfaAt (S : Nat → Sd) (m : Nat) (st : Int) (F : Nat) (most : Int) (w w' : World) (d : Value) : Prop :=
  ∃ q0 c0 q1 n1 c1 q2 n2 c2 l0 l1 T, d = dfV q0 259 c0 (wdY S m : Nat) 0 q1 n1 c1 q2 n2 c2 ∧ rdL w' q0 259 l0 ∧ (∀ j, j < 259 → l0 j = (clA (alk S m) j : Nat)) ∧
    n1 = (subM S m st most).2.length ∧ rdL w' q1 n1 l1 ∧ (∀ j, j < n1 → l1 j = ((subM S m st most).2.getD j 0 : Nat)) ∧
    n2 = (subM S m st most).1.length ∧ rdBs w' q2 n2 T ∧ (∀ j, j < n2 → T j = lg (subM S m st most).1 j F) ∧ Below w.heap.size w w'
def rbPost (S : Nat → Sd) (m : Nat) (st : Int) (F : Nat) (most : Int) (w : World) (e : Ending) (w' : World) : Prop :=
  (most < (subM S m st most).1.length → e = .returned (.tuple #[dfV none 0 0 0 0 none 0 0 none 0 0, .bool false]) ∧ Below w.heap.size w w') ∧
  (((subM S m st most).1.length : Int) ≤ most → ∃ d, e = .returned (.tuple #[d, .bool true]) ∧ dfaAt S m st F most w w' d)

theorem rdL.set11 {w : World} {p : Option Addr} {n : Nat} {l : Nat → Int} {X : Nat} (h : rdL w p n l) (hne : ∀ b o, p = some ⟨b, o, none⟩ → b ≠ X) (j : Nat) (u : Value) : rdL (w.setCell ⟨X, j, none⟩ u) p n l := fun k hk => by
  obtain ⟨b, o, h1, h2, h3⟩ := h k hk
  exact ⟨b, o, h1, by simpa using h2, (grown_setCell w X j u).cell h3 (by simpa using hne b o h1)⟩
theorem rdBs.set11 {w : World} {p : Option Addr} {n : Nat} {T : Nat → Bool} {X : Nat} (h : rdBs w p n T) (hne : ∀ b o, p = some ⟨b, o, none⟩ → b ≠ X) (j : Nat) (u : Value) : rdBs (w.setCell ⟨X, j, none⟩ u) p n T := fun k hk => by
  obtain ⟨b, o, h1, h2, h3⟩ := h k hk
  exact ⟨b, o, h1, by simpa using h2, (grown_setCell w X j u).cell h3 (by simpa using hne b o h1)⟩
theorem bls_rd {w : World} {base n c : Nat} {p : Option Addr} {T : Nat → Bool} (h : w.ownsRow base 4 1 (.slice p n c) n (bls T n)) : rdBs w p n T ∧ ∀ b o, p = some ⟨b, o, none⟩ → base ≤ b := by
  rcases id h.2 with ⟨e, h0⟩ | ⟨g, cp, cur, e, _⟩
  · have e2 := (Value.slice.inj e).1
    subst e2
    exact ⟨fun j hj => by omega, fun b o e => by cases e⟩
  · have e2 := (Value.slice.inj e).1
    subst e2
    refine ⟨fun j hj => ⟨g, 0, rfl, (World.ownsRow.lt h g rfl).2, ?_⟩, fun b o e => by cases e; exact (World.ownsRow.lt h g rfl).1⟩
    rw [Nat.zero_add, World.ownsRow.cellAt h j (by omega)]
    exact bls_at T n j hj
theorem build_df0 (w : World) : (Instr.build 30 #[]).run Try.prog w = .ok (dfV none 0 0 0 0 none 0 0 none 0 0) w := by kernel_rfl
theorem build_df1 (q0 : Option Addr) (n0 c0 : Nat) (wd : Int) (q1 : Option Addr) (n1 c1 : Nat) (w : World) : (Instr.build 30 #[(0, .slice q0 n0 c0), (1, .int .i64 wd), (3, .slice q1 n1 c1)]).run Try.prog w = .ok (dfV q0 n0 c0 wd 0 q1 n1 c1 none 0 0) w := by kernel_rfl
/-- A block that holds a decided automaton. -/
def isDf (w : World) (b : Nat) (q0 : Option Addr) (n0 c0 : Nat) (wd st : Int) (q1 : Option Addr) (n1 c1 : Nat) (q2 : Option Addr) (n2 c2 : Nat) : Prop := w.heap[b]? = some (.cells #[.slice q0 n0 c0, .int .i64 wd, .int .i64 st, .slice q1 n1 c1, .slice q2 n2 c2] 30 (0, 0))
theorem isDf.lt {w : World} {b : Nat} {q0 : Option Addr} {n0 c0 : Nat} {wd st : Int} {q1 : Option Addr} {n1 c1 : Nat} {q2 : Option Addr} {n2 c2 : Nat} (h : isDf w b q0 n0 c0 wd st q1 n1 c1 q2 n2 c2) : b < w.heap.size := lt_of_block h
theorem isDf.cells {w : World} {b : Nat} {q0 : Option Addr} {n0 c0 : Nat} {wd st : Int} {q1 : Option Addr} {n1 c1 : Nat} {q2 : Option Addr} {n2 c2 : Nat} (h : isDf w b q0 n0 c0 wd st q1 n1 c1 q2 n2 c2) :
    w.cell? ⟨b, 0, none⟩ = some (.slice q0 n0 c0) ∧ w.cell? ⟨b, 1, none⟩ = some (.int .i64 wd) ∧ w.cell? ⟨b, 2, none⟩ = some (.int .i64 st) ∧ w.cell? ⟨b, 3, none⟩ = some (.slice q1 n1 c1) ∧ w.cell? ⟨b, 4, none⟩ = some (.slice q2 n2 c2) := by
  unfold isDf at h
  refine ⟨?_, ?_, ?_, ?_, ?_⟩ <;> simp [World.cell?, h]
/-- A list of numbers so long does not lie there. -/
theorem isDf.no_row {w : World} {b : Nat} {q0 : Option Addr} {n0 c0 : Nat} {wd st : Int} {q1 : Option Addr} {n1 c1 : Nat} {q2 : Option Addr} {n2 c2 : Nat} (h : isDf w b q0 n0 c0 wd st q1 n1 c1 q2 n2 c2) {p : Option Addr} {n : Nat} {l : Nat → Int} (hr : rdL w p n l) (hn : 6 ≤ n) : ∀ b' o, p = some ⟨b', o, none⟩ → b' ≠ b := fun b' o e e2 => by
  subst e2
  obtain ⟨x, y, e3, _, h5⟩ := hr 5 (by omega)
  rw [e] at e3
  cases e3
  unfold isDf at h
  have : w.cell? ⟨b', o + 5, none⟩ = none := by simp [World.cell?, h]
  rw [this] at h5
  cases h5
theorem isDf.free {w : World} {b : Nat} {q0 : Option Addr} {n0 c0 : Nat} {wd st : Int} {q1 : Option Addr} {n1 c1 : Nat} {q2 : Option Addr} {n2 c2 : Nat} (h : isDf w b q0 n0 c0 wd st q1 n1 c1 q2 n2 c2) (j : Nat) : w.frozen? ⟨b, j, none⟩ = false := by
  unfold isDf at h
  simp [World.frozen?, h]
theorem isDf.put4 {w : World} {b : Nat} {q0 : Option Addr} {n0 c0 : Nat} {wd st : Int} {q1 : Option Addr} {n1 c1 : Nat} {q2 : Option Addr} {n2 c2 : Nat} (h : isDf w b q0 n0 c0 wd st q1 n1 c1 q2 n2 c2) (q : Option Addr) (n c : Nat) : isDf (w.setCell ⟨b, 4, none⟩ (.slice q n c)) b q0 n0 c0 wd st q1 n1 c1 q n c := by
  have h1 := heap_setCell_same w b 4 _ _ (.slice q n c) h
  unfold isDf
  rw [h1]; simp
theorem isDf.stored {w : World} {b : Nat} {q0 : Option Addr} {n0 c0 : Nat} {wd st : Int} {q1 : Option Addr} {n1 c1 : Nat} {q2 : Option Addr} {n2 c2 : Nat} (h : isDf w b q0 n0 c0 wd st q1 n1 c1 q2 n2 c2) (p0 : Option Addr) (k0 d0 : Nat) (we se : Int) (p1 : Option Addr) (k1 d1 : Nat) (p2 : Option Addr) (k2 d2 : Nat) :
    isDf (((((w.setCell ⟨b, 0, none⟩ (.slice p0 k0 d0)).setCell ⟨b, 1, none⟩ (.int .i64 we)).setCell ⟨b, 2, none⟩ (.int .i64 se)).setCell ⟨b, 3, none⟩ (.slice p1 k1 d1)).setCell ⟨b, 4, none⟩ (.slice p2 k2 d2)) b p0 k0 d0 we se p1 k1 d1 p2 k2 d2 := by
  have h1 := heap_setCell_same w b 0 _ _ (.slice p0 k0 d0) h
  have h2 := heap_setCell_same _ b 1 _ _ (.int .i64 we) h1
  have h3 := heap_setCell_same _ b 2 _ _ (.int .i64 se) h2
  have h4 := heap_setCell_same _ b 3 _ _ (.slice p1 k1 d1) h3
  have h5 := heap_setCell_same _ b 4 _ _ (.slice p2 k2 d2) h4
  unfold isDf
  rw [h5]; simp
theorem isDf.below {w w' : World} {b B : Nat} {q0 : Option Addr} {n0 c0 : Nat} {wd st : Int} {q1 : Option Addr} {n1 c1 : Nat} {q2 : Option Addr} {n2 c2 : Nat} (h : isDf w b q0 n0 c0 wd st q1 n1 c1 q2 n2 c2) (hb : Below B w w') (hB : b < B) : isDf w' b q0 n0 c0 wd st q1 n1 c1 q2 n2 c2 := (hb.block b hB).trans h

end Go.Proofs.Ytepegohopgnmnaa

namespace Go.Proofs.Ytepegohopgnmnaa
open Go.RowKit

theorem infoRowI : (Try.prog.info? 27).map (fun i => (i.zero, i.size, i.bytes)) = some (some (.slice none 0 0), 1, 24) := by kernel_rfl
theorem infoInt11 : (Try.prog.info? 3).map (fun i => (i.zero, i.size, i.bytes)) = some (some (.int .i64 0), 1, 8) := by kernel_rfl
/-- One list of a row of lists. -/
structure Ls11 where
  p : Option Addr
  n : Nat
  c : Nat
  l : Nat → Int
@[reducible] def Ls11.val (x : Ls11) : Value := .slice x.p x.n x.c
def lsv (G : List Ls11) : List Value := G.map Ls11.val
theorem lsv_at (G : List Ls11) (i : Nat) (h : i < G.length) : (lsv G)[i]? = some (G[i]).val := by simp [lsv, h]
/-- Lists that name sets, one by one. -/
def okL11 (w : World) (base m : Nat) (x : Ls11) (T : Bf) : Prop := rdL w x.p x.n x.l ∧ lsT m x.n x.l T ∧ x.n ≤ m ∧ ∀ b o, x.p = some ⟨b, o, none⟩ → base ≤ b
def okG11 (w : World) (base m : Nat) (G : List Ls11) (L : List Bf) : Prop := G.length = L.length ∧ ∀ i (h : i < G.length), okL11 w base m G[i] (lg L i)
theorem okL11.below {w w' : World} {base m : Nat} {x : Ls11} {T : Bf} (h : okL11 w base m x T) (hb : Below w.heap.size w w') : okL11 w' base m x T := ⟨h.1.below hb, h.2⟩
theorem okG11.below {w w' : World} {base m : Nat} {G : List Ls11} {L : List Bf} (h : okG11 w base m G L) (hb : Below w.heap.size w w') : okG11 w' base m G L := ⟨h.1, fun i hi => (h.2 i hi).below hb⟩
/-- A list is kept where its block is. -/
theorem okL11.kept {w w' : World} {base m : Nat} {x : Ls11} {T : Bf} {r : Option Nat} (h : okL11 w base m x T) (hg : w.grownBy w' r) (hr : ∀ b o, x.p = some ⟨b, o, none⟩ → 0 < x.n → some b ≠ r) : okL11 w' base m x T := by
  refine ⟨fun j hj => ?_, h.2⟩
  obtain ⟨b, o, h1, h2, h3⟩ := h.1 j hj
  refine ⟨b, o, h1, Nat.lt_of_lt_of_le h2 hg.size, ?_⟩
  have := hg.block b h2 (hr b o h1 (by omega))
  rw [← h3]
  unfold World.cell?
  rw [this]
theorem okL11.set {w : World} {base m : Nat} {x : Ls11} {T : Bf} (h : okL11 w base m x T) {a : Addr} (hr : ∀ b o, x.p = some ⟨b, o, none⟩ → 0 < x.n → b ≠ a.block) (u : Value) : okL11 (w.setCell a u) base m x T := by
  refine ⟨fun j hj => ?_, h.2⟩
  obtain ⟨b, o, h1, h2, h3⟩ := h.1 j hj
  refine ⟨b, o, h1, by simpa using h2, ?_⟩
  have := heap_setCell_other w a b u (hr b o h1 (by omega))
  rw [← h3]
  unfold World.cell?
  rw [this]
/-- A list of numbers does not lie in a block whose cells are of another type. -/
theorem okL11.apart {w : World} {base m : Nat} {x : Ls11} {T : Bf} (h : okL11 w base m x T) {g : Nat} (hc : ∀ j z, w.cell? ⟨g, j, none⟩ ≠ some (.int .i64 z)) : ∀ b o, x.p = some ⟨b, o, none⟩ → 0 < x.n → b ≠ g := fun b o e hn e2 => by
  subst e2
  obtain ⟨b', o', h1, h2, h3⟩ := h.1 0 hn
  rw [e] at h1
  cases h1
  exact hc _ _ h3

/-- The struct that what is met is kept in. -/
def isMt (w : World) (h : Nat) (sv : Value) (mb : Nat) (nv : Value) : Prop := w.heap[h]? = some (.cells #[sv, .map (some mb), nv] 56 (0, 0))
theorem isMt.lt {w : World} {h : Nat} {sv : Value} {mb : Nat} {nv : Value} (H : isMt w h sv mb nv) : h < w.heap.size := lt_of_block H
theorem isMt.cells {w : World} {h : Nat} {sv : Value} {mb : Nat} {nv : Value} (H : isMt w h sv mb nv) : w.cell? ⟨h, 0, none⟩ = some sv ∧ w.cell? ⟨h, 1, none⟩ = some (.map (some mb)) ∧ w.cell? ⟨h, 2, none⟩ = some nv := by
  unfold isMt at H
  refine ⟨?_, ?_, ?_⟩ <;> simp [World.cell?, H]
theorem isMt.free {w : World} {h : Nat} {sv : Value} {mb : Nat} {nv : Value} (H : isMt w h sv mb nv) (j : Nat) : w.frozen? ⟨h, j, none⟩ = false := by
  unfold isMt at H
  simp [World.frozen?, H]
theorem isMt.put0 {w : World} {h : Nat} {sv : Value} {mb : Nat} {nv : Value} (H : isMt w h sv mb nv) (u : Value) : isMt (w.setCell ⟨h, 0, none⟩ u) h u mb nv := by
  have h1 := heap_setCell_same w h 0 _ _ u H
  unfold isMt
  rw [h1]; simp
theorem isMt.put2 {w : World} {h : Nat} {sv : Value} {mb : Nat} {nv : Value} (H : isMt w h sv mb nv) (u : Value) : isMt (w.setCell ⟨h, 2, none⟩ u) h sv mb u := by
  have h1 := heap_setCell_same w h 2 _ _ u H
  unfold isMt
  rw [h1]; simp
theorem isMt.below {w w' : World} {h B : Nat} {sv : Value} {mb : Nat} {nv : Value} (H : isMt w h sv mb nv) (hB : Below B w w') (hb : h < B) : isMt w' h sv mb nv := (hB.block h hb).trans H
theorem isMt.kept {w w' : World} {h : Nat} {sv : Value} {mb : Nat} {nv : Value} {r : Option Nat} (H : isMt w h sv mb nv) (hg : w.grownBy w' r) (hr : some h ≠ r) : isMt w' h sv mb nv := (hg.block h H.lt hr).trans H
theorem isMt.no_int {w : World} {h : Nat} {p : Option Addr} {n c : Nat} {mb : Nat} {p' : Option Addr} {n' c' : Nat} (H : isMt w h (.slice p n c) mb (.slice p' n' c')) : ∀ j z, w.cell? ⟨h, j, none⟩ ≠ some (.int .i64 z) := by
  intro j z
  unfold isMt at H
  match j with
  | 0 => simp [World.cell?, H]
  | 1 => simp [World.cell?, H]
  | 2 => simp [World.cell?, H]
  | j + 3 => simp [World.cell?, H]

abbrev ownsK (w : World) (b n : Nat) (D : Dm11) : Prop := w.ownsMap Try.prog 110 (plainElem Try.prog 3) b n D
theorem ownsK.below {w w' : World} {b n B : Nat} {D : Dm11} (h : ownsK w b n D) (hb : Below B w w') (hlt : b < B) : ownsK w' b n D := by
  obtain ⟨es, clock, h1, h2⟩ := h
  exact ⟨es, clock, (hb.block b hlt).trans h1, h2⟩
theorem ownsK.kept {w w' : World} {b n : Nat} {D : Dm11} {r : Option Nat} (h : ownsK w b n D) (hg : w.grownBy w' r) (hr : some b ≠ r) : ownsK w' b n D := by
  obtain ⟨es, clock, h1, h2⟩ := h
  exact ⟨es, clock, (hg.block b (lt_of_block h1) hr).trans h1, h2⟩
theorem ownsK.lt {w : World} {b n : Nat} {D : Dm11} (h : ownsK w b n D) : b < w.heap.size := by
  obtain ⟨es, clock, h1, h2⟩ := h
  exact lt_of_block h1
theorem ownsK.set {w : World} {b n : Nat} {D : Dm11} (h : ownsK w b n D) {a : Addr} (ha : b ≠ a.block) (u : Value) : ownsK (w.setCell a u) b n D := by
  obtain ⟨es, clock, h1, h2⟩ := h
  exact ⟨es, clock, (heap_setCell_other w a b u ha).trans h1, h2⟩

/-- A block that none of what is met lies in. -/
def apt11 (h mb : Nat) (sv nv : Value) (b : Nat) : Prop := b ≠ h ∧ b ≠ mb ∧ sv.ownBlock ≠ some b ∧ nv.ownBlock ≠ some b
/-- What is met, whole: block h has the struct, mb the map (the sets LM are told in it). All lies at or behind base. -/
structure MetM (w : World) (base h mb m : Nat) (L LM : List Bf) (B : List Nat) (sv nv : Value) (G : List Ls11) (k : Nat) (D : Dm11) : Prop where
  mt : isMt w h sv mb nv
  bh : base ≤ h
  bm : base ≤ mb
  hm : h ≠ mb
  row : w.ownsRow base 27 1 sv G.length (lsv G)
  oks : okG11 w base m G L
  mps : mpS m LM D
  map : ownsK w mb k D
  nxt : spO w base nv B
  sh : sv.ownBlock ≠ some h ∧ sv.ownBlock ≠ some mb
  nh : nv.ownBlock ≠ some h ∧ nv.ownBlock ≠ some mb
  sn : sv.ownBlock = none ∨ sv.ownBlock ≠ nv.ownBlock
  ap : ∀ i (hi : i < G.length), ∀ b o, (G[i]).p = some ⟨b, o, none⟩ → 0 < (G[i]).n → apt11 h mb sv nv b
section
variable {w w' : World} {base h mb m : Nat} {L LM : List Bf} {B : List Nat} {sv nv : Value} {G : List Ls11} {k : Nat} {D : Dm11}
theorem MetM.below (H : MetM w base h mb m L LM B sv nv G k D) (hb : Below w.heap.size w w') : MetM w' base h mb m L LM B sv nv G k D :=
  ⟨H.mt.below hb H.mt.lt, H.bh, H.bm, H.hm, owns_below H.row hb, H.oks.below hb, H.mps, ownsK.below H.map hb (ownsK.lt H.map), owns_below H.nxt hb, H.sh, H.nh, H.sn, H.ap⟩
theorem MetM.lt (H : MetM w base h mb m L LM B sv nv G k D) : base ≤ w.heap.size := Nat.le_trans H.bh (Nat.le_of_lt H.mt.lt)
/-- A block that is new lies apart. -/
theorem MetM.fresh (H : MetM w base h mb m L LM B sv nv G k D) {b : Nat} (hb : w.heap.size ≤ b) : apt11 h mb sv nv b := by
  have h1 := H.mt.lt
  have h2 := ownsK.lt H.map
  refine ⟨by omega, by omega, fun e => ?_, fun e => ?_⟩
  · have := (World.ownsRow.lt H.row b e).2; omega
  · have := (World.ownsRow.lt H.nxt b e).2; omega
theorem MetM.len (H : MetM w base h mb m L LM B sv nv G k D) : G.length = L.length := H.oks.1
theorem MetM.slices (H : MetM w base h mb m L LM B sv nv G k D) : (∃ p c, sv = .slice p L.length c) ∧ ∃ p c, nv = .slice p B.length c := by
  refine ⟨?_, spO_of H.nxt⟩
  rw [← H.len]
  rcases id H.row.2 with ⟨rfl, h0⟩ | ⟨g, cap, cur, rfl, _⟩
  · exact ⟨none, 0, by rw [h0]⟩
  · exact ⟨_, cap, rfl⟩
/-- A cell of the row of lists. -/
theorem MetM.cell {p : Option Addr} {n c : Nat} (H : MetM w base h mb m L LM B (.slice p n c) nv G k D) (i : Nat) (hi : i < G.length) : ∃ g, p = some ⟨g, 0, none⟩ ∧ g < w.heap.size ∧ w.cell? ⟨g, i, none⟩ = some (G[i]).val := by
  rcases id H.row.2 with ⟨e, h0⟩ | ⟨g, cap, cur, e, _⟩
  · omega
  · have e2 := (Value.slice.inj e).1
    subst e2
    have hr := H.row
    rw [e] at hr
    refine ⟨g, rfl, (World.ownsRow.lt hr g rfl).2, ?_⟩
    rw [World.ownsRow.cellAt hr i (by omega)]
    exact lsv_at G i hi
/-- The map has one set more. -/
theorem MetM.upd (H : MetM w base h mb m L LM B sv nv G k D) (hg : w.grownBy w' (some mb)) {LM' : List Bf} {k' : Nat} {D' : Dm11} (hmp : mpS m LM' D') (ho : ownsK w' mb k' D') : MetM w' base h mb m L LM' B sv nv G k' D' :=
  ⟨H.mt.kept hg (by simpa using H.hm), H.bh, H.bm, H.hm, H.row.kept hg (.inr H.sh.2), ⟨H.oks.1, fun i hi => (H.oks.2 i hi).kept hg fun b o e hn => by simpa using (H.ap i hi b o e hn).2.1⟩, hmp, ho, World.ownsRow.kept H.nxt hg (.inr H.nh.2), H.sh, H.nh, H.sn, H.ap⟩
theorem own_new {v v' : Value} {w : World} {b : Nat} (h : v'.ownBlock = v.ownBlock ∨ v'.ownBlock = some w.heap.size) (h1 : v.ownBlock ≠ some b) (h2 : b < w.heap.size) : v'.ownBlock ≠ some b := by
  rcases h with e | e
  · rw [e]; exact h1
  · rw [e]
    intro e2
    have : w.heap.size = b := by simpa using e2
    omega
/-- The row has one list more. -/
theorem MetM.app (H : MetM w base h mb m L LM B sv nv G k D) {v' : Value} {x : Ls11} {X : Bf} (hg : w.grownBy w' sv.ownBlock) (hrow : w'.ownsRow base 27 1 v' (G.length + 1) (lsv G ++ [x.val])) (hv : v'.ownBlock = sv.ownBlock ∨ v'.ownBlock = some w.heap.size)
    (hx : okL11 w base m x X) (hap : ∀ b o, x.p = some ⟨b, o, none⟩ → 0 < x.n → apt11 h mb sv nv b) : MetM (w'.setCell ⟨h, 0, none⟩ v') base h mb m (L ++ [X]) LM B v' nv (G ++ [x]) k D := by
  have hsz : ∀ {b : Nat} {y : Ls11} {T : Bf}, okL11 w base m y T → ∀ o, y.p = some ⟨b, o, none⟩ → 0 < y.n → b < w.heap.size := fun {b y T} hy o e hn => by
    obtain ⟨b', o', h1, h2, _⟩ := hy.1 0 hn
    rw [e] at h1; cases h1; exact h2
  have hl : (G ++ [x]).length = G.length + 1 := by simp
  have hnew : ∀ {b : Nat}, apt11 h mb sv nv b → b < w.heap.size → apt11 h mb v' nv b := fun {b} hb hlt => ⟨hb.1, hb.2.1, own_new hv hb.2.2.1 hlt, hb.2.2.2⟩
  have hsn : v'.ownBlock = none ∨ v'.ownBlock ≠ nv.ownBlock := by
    rcases hv with e | e
    · rw [e]; exact H.sn
    · right
      rw [e]
      intro e2
      have := (World.ownsRow.lt H.nxt _ e2.symm).2
      omega
  have hnv : nv.ownBlock = none ∨ nv.ownBlock ≠ sv.ownBlock := by
    rcases H.sn with e | e
    · rw [e]
      cases nv.ownBlock with
      | none => exact .inl rfl
      | some _ => exact .inr (by simp)
    · exact .inr (Ne.symm e)
  have hvh : v'.ownBlock ≠ some h := own_new hv H.sh.1 H.mt.lt
  refine ⟨(H.mt.kept hg (Ne.symm H.sh.1)).put0 v', H.bh, H.bm, H.hm, ?_, ⟨by rw [hl, List.length_append, H.oks.1]; rfl, fun i hi => ?_⟩, H.mps, (ownsK.kept H.map hg (Ne.symm H.sh.2)).set (Ne.symm H.hm) _, ?_, ⟨hvh, own_new hv H.sh.2 (ownsK.lt H.map)⟩, H.nh, hsn, fun i hi b o e hn => ?_⟩
  · rw [hl, show lsv (G ++ [x]) = lsv G ++ [x.val] by simp [lsv]]
    exact World.ownsRow.kept hrow (grown_setCell _ h 0 v') (.inr hvh)
  · by_cases hi2 : i < G.length
    · rw [List.getElem_append_left hi2, lg_old (by rw [← H.oks.1]; exact hi2)]
      exact ((H.oks.2 i hi2).kept hg fun b o e hn => Ne.symm (H.ap i hi2 b o e hn).2.2.1).set (fun b o e hn => (H.ap i hi2 b o e hn).1) _
    · have : i = G.length := by omega
      subst this
      rw [List.getElem_append_right (Nat.le_refl _)]
      simp only [Nat.sub_self, List.getElem_cons_zero]
      rw [H.oks.1, lg_new]
      exact (hx.kept hg fun b o e hn => Ne.symm (hap b o e hn).2.2.1).set (fun b o e hn => (hap b o e hn).1) _
  · exact World.ownsRow.kept (World.ownsRow.kept H.nxt hg hnv) (grown_setCell _ h 0 v') (.inr H.nh.1)
  · by_cases hi2 : i < G.length
    · rw [List.getElem_append_left hi2] at e hn
      exact hnew (H.ap i hi2 b o e hn) (hsz (H.oks.2 i hi2) o e hn)
    · have : i = G.length := by omega
      subst this
      rw [List.getElem_append_right (Nat.le_refl _)] at e hn
      simp only [Nat.sub_self, List.getElem_cons_zero] at e hn
      exact hnew (hap b o e hn) (hsz hx o e hn)
/-- One number more stands behind the sets' ways. -/
theorem MetM.next (H : MetM w base h mb m L LM B sv nv G k D) {v' : Value} {B' : List Nat} (hg : w.grownBy w' nv.ownBlock) (hrow : spO w' base v' B') (hv : v'.ownBlock = nv.ownBlock ∨ v'.ownBlock = some w.heap.size) : MetM (w'.setCell ⟨h, 2, none⟩ v') base h mb m L LM B' sv v' G k D := by
  have hsz : ∀ {b : Nat} {y : Ls11} {T : Bf}, okL11 w base m y T → ∀ o, y.p = some ⟨b, o, none⟩ → 0 < y.n → b < w.heap.size := fun {b y T} hy o e hn => by
    obtain ⟨b', o', h1, h2, _⟩ := hy.1 0 hn
    rw [e] at h1; cases h1; exact h2
  have hsn : sv.ownBlock = none ∨ sv.ownBlock ≠ v'.ownBlock := by
    rcases hv with e | e
    · rw [e]; exact H.sn
    · cases hs : sv.ownBlock with
      | none => exact .inl rfl
      | some r =>
        right
        rw [e]
        intro e2
        have := (World.ownsRow.lt H.row r hs).2
        have : r = w.heap.size := by simpa using e2
        omega
  have hvh : v'.ownBlock ≠ some h := own_new hv H.nh.1 H.mt.lt
  refine ⟨(H.mt.kept hg (Ne.symm H.nh.1)).put2 v', H.bh, H.bm, H.hm, World.ownsRow.kept (World.ownsRow.kept H.row hg H.sn) (grown_setCell _ h 2 v') (.inr H.sh.1), ⟨H.oks.1, fun i hi => ((H.oks.2 i hi).kept hg fun b o e hn => Ne.symm (H.ap i hi b o e hn).2.2.2).set (fun b o e hn => (H.ap i hi b o e hn).1) _⟩, H.mps, (ownsK.kept H.map hg (Ne.symm H.nh.2)).set (Ne.symm H.hm) _,
    World.ownsRow.kept hrow (grown_setCell _ h 2 v') (.inr hvh), H.sh, ⟨hvh, own_new hv H.nh.2 (ownsK.lt H.map)⟩, hsn, fun i hi b o e hn => ⟨(H.ap i hi b o e hn).1, (H.ap i hi b o e hn).2.1, (H.ap i hi b o e hn).2.2.1, own_new hv (H.ap i hi b o e hn).2.2.2 (hsz (H.oks.2 i hi) o e hn)⟩⟩
end
end Go.Proofs.Ytepegohopgnmnaa
