/-
  The walk of the laws' awake: the page's example holds.
  The walks of the reference's Right and Depth.
  The walk of the ninth reference's Build.
  Decided automata in memory; what the reference's Build answers.
-/
import Derived.Test.YtpfbmbegddemoaaPk25
import Derived.Test.YtpfbmbegddemoaaPk13
import Derived.Laws.AppendOwnNone
import Derived.Test.YtpfbmbegddemoaaPk7
import Derived.Deep.RegionHeldLaw
import Derived.Test.YtpfbmbegddemoaaPk20
import Derived.Test.YtpfbmbegddemoaaPk14
namespace Go.Proofs.Ytpfbmbegddemoaa
open Go.RowKit

/-- The page's example: Set, Set, Cat. -/
def N0 (j : Nat) : Nd := if j < 2 then ⟨1, 0, 0, 0, 0, 0, 0⟩ else ⟨5, 0, 0, 0, 0, 0, 0⟩
theorem N0_tree : tree N0 3 := by decide
theorem N0_kids : kids N0 2 = [0, 1] := by decide
theorem N0_fst : 0 ≤ fst N0 2 := by decide
theorem N0_dpt : dpt N0 2 = 2 := by decide

end Go.Proofs.Ytpfbmbegddemoaa

namespace Go.Proofs.Ytpfbmbegddemoaa
open Go.RowKit

theorem tree_false {N : Nat → Nd} {n k : Nat} (hk : k < n) (h : ¬ (0 ≤ fst N k ∧ okN (N k) = true)) : decide (tree N n) = false :=
  decide_eq_false fun ht => h ((tree_iff.1 ht).2.2.1 k hk)

end Go.Proofs.Ytpfbmbegddemoaa

namespace Go.Proofs.Ytpfbmbegddemoaa
open Go.RowKit

theorem sds_put (l : List Sd) (j : Nat) (x : Sd) (h : j < l.length) : (((((((sds l).set (j * 7) (.int .i64 x.k)).set (j * 7 + 1) (.int .i64 x.A)).set (j * 7 + 2) (.int .i64 x.B)).set (j * 7 + 3) (.int .u64 x.a)).set (j * 7 + 4) (.int .u64 x.b)).set (j * 7 + 5) (.int .u64 x.c)).set (j * 7 + 6) (.int .u64 x.d) = sds (l.set j x) := by
  induction l generalizing j with
  | nil => simp at h
  | cons r l ih =>
    cases j with
    | zero => rfl
    | succ j =>
      have e : (r :: l).set (j + 1) x = r :: l.set j x := rfl
      rw [sds_cons, e, sds_cons, ← ih j (by simpa using h), show (j + 1) * 7 = j * 7 + 7 by omega, show j * 7 + 7 + 1 = (j * 7 + 1) + 7 by omega, show j * 7 + 7 + 2 = (j * 7 + 2) + 7 by omega, show j * 7 + 7 + 3 = (j * 7 + 3) + 7 by omega, show j * 7 + 7 + 4 = (j * 7 + 4) + 7 by omega, show j * 7 + 7 + 5 = (j * 7 + 5) + 7 by omega, show j * 7 + 7 + 6 = (j * 7 + 6) + 7 by omega]
      rfl
def is3 (t : TypeId) (w : World) (b : Nat) (v : Value) (f l : Int) : Prop := w.heap[b]? = some (.cells #[v, .int .i64 f, .int .i64 l] t (0, 0))
theorem is3.lt {t : TypeId} {w : World} {b : Nat} {v : Value} {f l : Int} (h : is3 t w b v f l) : b < w.heap.size := lt_of_block h
theorem is3.cells {t : TypeId} {w : World} {b : Nat} {v : Value} {f l : Int} (h : is3 t w b v f l) : w.cell? ⟨b, 0, none⟩ = some v ∧ w.cell? ⟨b, 1, none⟩ = some (.int .i64 f) ∧ w.cell? ⟨b, 2, none⟩ = some (.int .i64 l) := by
  unfold is3 at h
  refine ⟨?_, ?_, ?_⟩ <;> simp [World.cell?, h]
theorem is3.free {t : TypeId} {w : World} {b : Nat} {v : Value} {f l : Int} (h : is3 t w b v f l) : w.frozen? ⟨b, 0, none⟩ = false ∧ w.frozen? ⟨b, 1, none⟩ = false ∧ w.frozen? ⟨b, 2, none⟩ = false := by
  unfold is3 at h
  refine ⟨?_, ?_, ?_⟩ <;> simp [World.frozen?, h]
theorem is3.below {t : TypeId} {w w' : World} {b B : Nat} {v : Value} {f l : Int} (h : is3 t w b v f l) (hB : Below B w w') (hb : b < B) : is3 t w' b v f l := (hB.block b hb).trans h
theorem is3.stored {t : TypeId} {w : World} {b : Nat} {v : Value} {f l : Int} (h : is3 t w b v f l) (v' : Value) (f' l' : Int) : is3 t (((w.setCell ⟨b, 0, none⟩ v').setCell ⟨b, 1, none⟩ (.int .i64 f')).setCell ⟨b, 2, none⟩ (.int .i64 l')) b v' f' l' := by
  have h1 := heap_setCell_same w b 0 _ _ v' h
  have h2 := heap_setCell_same _ b 1 _ _ (.int .i64 f') h1
  have h3 := heap_setCell_same _ b 2 _ _ (.int .i64 l') h2
  unfold is3
  rw [h3]
  simp
theorem is3.new (t : TypeId) (w : World) (v : Value) (f l : Int) : is3 t (w.alloc (.cells #[v, .int .i64 f, .int .i64 l] t)) w.heap.size v f l := heap_alloc_new w _

theorem st7_grown (w : World) (g o0 o1 o2 o3 o4 o5 o6 : Nat) (v0 v1 v2 v3 v4 v5 v6 : Value) : w.grownBy (((((((w.setCell ⟨g, o0, none⟩ v0).setCell ⟨g, o1, none⟩ v1).setCell ⟨g, o2, none⟩ v2).setCell ⟨g, o3, none⟩ v3).setCell ⟨g, o4, none⟩ v4).setCell ⟨g, o5, none⟩ v5).setCell ⟨g, o6, none⟩ v6) (some g) :=
  ((((((grown_setCell w g o0 v0).trans (grown_setCell _ g o1 v1)).trans (grown_setCell _ g o2 v2)).trans (grown_setCell _ g o3 v3)).trans (grown_setCell _ g o4 v4)).trans (grown_setCell _ g o5 v5)).trans (grown_setCell _ g o6 v6)
theorem sfn_set {L : List Sd} {j q : Nat} {x : Sd} (h : q ≠ j) : sfn (L.set j x) q = sfn L q := by
  unfold sfn
  rw [List.getD_eq_getElem?_getD, List.getD_eq_getElem?_getD, List.getElem?_set_ne (Ne.symm h)]
theorem sfn_set_at {L : List Sd} {j : Nat} {x : Sd} (h : j < L.length) : sfn (L.set j x) j = x := by
  unfold sfn
  rw [List.getD_eq_getElem?_getD, List.getElem?_set_self h]; rfl
end Go.Proofs.Ytpfbmbegddemoaa

namespace Go.Proofs.Ytpfbmbegddemoaa
open Go.RowKit

/-- Bools that a slice holds. -/
def rdBs (w : World) (p : Option Addr) (n : Nat) (T : Nat → Bool) : Prop := ∀ j, j < n → ∃ b o, p = some ⟨b, o, none⟩ ∧ b < w.heap.size ∧ w.cell? ⟨b, o + j, none⟩ = some (.bool (T j))
/-- What is decided, whole. -/
def dfaAt (S : Nat → Sd) (m : Nat) (st : Int) (F : Nat) (most : Int) (w w' : World) (d : Value) : Prop :=
  ∃ q0 c0 q1 n1 c1 q2 n2 c2 l0 l1 T, d = dfV q0 259 c0 (wdY S m : Nat) 0 q1 n1 c1 q2 n2 c2 ∧ rdL w' q0 259 l0 ∧ (∀ j, j < 259 → l0 j = (clA (alk S m) j : Nat)) ∧
    n1 = (subM S m st most).2.length ∧ rdL w' q1 n1 l1 ∧ (∀ j, j < n1 → l1 j = ((subM S m st most).2.getD j 0 : Nat)) ∧
    n2 = (subM S m st most).1.length ∧ rdBs w' q2 n2 T ∧ (∀ j, j < n2 → T j = lg (subM S m st most).1 j F) ∧ Below w.heap.size w w'
def rbPost (S : Nat → Sd) (m : Nat) (st : Int) (F : Nat) (most : Int) (w : World) (e : Ending) (w' : World) : Prop :=
  (most < (subM S m st most).1.length → e = .returned (.tuple #[dfV none 0 0 0 0 none 0 0 none 0 0, .bool false]) ∧ Below w.heap.size w w') ∧
  (((subM S m st most).1.length : Int) ≤ most → ∃ d, e = .returned (.tuple #[d, .bool true]) ∧ dfaAt S m st F most w w' d)

theorem rdL.set11 {w : World} {p : Option Addr} {n : Nat} {l : Nat → Int} {X : Nat} (h : rdL w p n l) (hne : ∀ b o, p = some ⟨b, o, none⟩ → b ≠ X) (j : Nat) (u : Value) : rdL (w.setCell ⟨X, j, none⟩ u) p n l := fun k hk => by
  obtain ⟨b, o, h1, h2, h3⟩ := h k hk
  exact ⟨b, o, h1, by simpa using h2, (grown_setCell w X j u).cell h3 (by simpa using hne b o h1)⟩
theorem rdBs.set11 {w : World} {p : Option Addr} {n : Nat} {T : Nat → Bool} {X : Nat} (h : rdBs w p n T) (hne : ∀ b o, p = some ⟨b, o, none⟩ → b ≠ X) (j : Nat) (u : Value) : rdBs (w.setCell ⟨X, j, none⟩ u) p n T := fun k hk => by
  obtain ⟨b, o, h1, h2, h3⟩ := h k hk
  exact ⟨b, o, h1, by simpa using h2, (grown_setCell w X j u).cell h3 (by simpa using hne b o h1)⟩
theorem bls_rd {w : World} {base n c : Nat} {p : Option Addr} {T : Nat → Bool} (h : w.ownsRow base 4 1 (.slice p n c) n (bls T n)) : rdBs w p n T ∧ ∀ b o, p = some ⟨b, o, none⟩ → base ≤ b := by
  rcases id h.2 with ⟨e, h0⟩ | ⟨g, cp, cur, e, _⟩
  · have e2 := (Value.slice.inj e).1
    subst e2
    exact ⟨fun j hj => by omega, fun b o e => by cases e⟩
  · have e2 := (Value.slice.inj e).1
    subst e2
    refine ⟨fun j hj => ⟨g, 0, rfl, (World.ownsRow.lt h g rfl).2, ?_⟩, fun b o e => by cases e; exact (World.ownsRow.lt h g rfl).1⟩
    rw [Nat.zero_add, World.ownsRow.cellAt h j (by omega)]
    exact bls_at T n j hj
theorem build_df0 (w : World) : (Instr.build 25 #[]).run Try.prog w = .ok (dfV none 0 0 0 0 none 0 0 none 0 0) w := by kernel_rfl
theorem build_df1 (q0 : Option Addr) (n0 c0 : Nat) (wd : Int) (q1 : Option Addr) (n1 c1 : Nat) (w : World) : (Instr.build 25 #[(0, .slice q0 n0 c0), (1, .int .i64 wd), (3, .slice q1 n1 c1)]).run Try.prog w = .ok (dfV q0 n0 c0 wd 0 q1 n1 c1 none 0 0) w := by kernel_rfl
/-- A block that holds a decided automaton. -/
def isDf (w : World) (b : Nat) (q0 : Option Addr) (n0 c0 : Nat) (wd st : Int) (q1 : Option Addr) (n1 c1 : Nat) (q2 : Option Addr) (n2 c2 : Nat) : Prop := w.heap[b]? = some (.cells #[.slice q0 n0 c0, .int .i64 wd, .int .i64 st, .slice q1 n1 c1, .slice q2 n2 c2] 25 (0, 0))
theorem isDf.lt {w : World} {b : Nat} {q0 : Option Addr} {n0 c0 : Nat} {wd st : Int} {q1 : Option Addr} {n1 c1 : Nat} {q2 : Option Addr} {n2 c2 : Nat} (h : isDf w b q0 n0 c0 wd st q1 n1 c1 q2 n2 c2) : b < w.heap.size := lt_of_block h
theorem isDf.cells {w : World} {b : Nat} {q0 : Option Addr} {n0 c0 : Nat} {wd st : Int} {q1 : Option Addr} {n1 c1 : Nat} {q2 : Option Addr} {n2 c2 : Nat} (h : isDf w b q0 n0 c0 wd st q1 n1 c1 q2 n2 c2) :
    w.cell? ⟨b, 0, none⟩ = some (.slice q0 n0 c0) ∧ w.cell? ⟨b, 1, none⟩ = some (.int .i64 wd) ∧ w.cell? ⟨b, 2, none⟩ = some (.int .i64 st) ∧ w.cell? ⟨b, 3, none⟩ = some (.slice q1 n1 c1) ∧ w.cell? ⟨b, 4, none⟩ = some (.slice q2 n2 c2) := by
  unfold isDf at h
  refine ⟨?_, ?_, ?_, ?_, ?_⟩ <;> simp [World.cell?, h]
/-- A list of numbers so long does not lie there. -/
theorem isDf.no_row {w : World} {b : Nat} {q0 : Option Addr} {n0 c0 : Nat} {wd st : Int} {q1 : Option Addr} {n1 c1 : Nat} {q2 : Option Addr} {n2 c2 : Nat} (h : isDf w b q0 n0 c0 wd st q1 n1 c1 q2 n2 c2) {p : Option Addr} {n : Nat} {l : Nat → Int} (hr : rdL w p n l) (hn : 6 ≤ n) : ∀ b' o, p = some ⟨b', o, none⟩ → b' ≠ b := fun b' o e e2 => by
  subst e2
  obtain ⟨x, y, e3, _, h5⟩ := hr 5 (by omega)
  rw [e] at e3
  cases e3
  unfold isDf at h
  have : w.cell? ⟨b', o + 5, none⟩ = none := by simp [World.cell?, h]
  rw [this] at h5
  cases h5
theorem isDf.free {w : World} {b : Nat} {q0 : Option Addr} {n0 c0 : Nat} {wd st : Int} {q1 : Option Addr} {n1 c1 : Nat} {q2 : Option Addr} {n2 c2 : Nat} (h : isDf w b q0 n0 c0 wd st q1 n1 c1 q2 n2 c2) (j : Nat) : w.frozen? ⟨b, j, none⟩ = false := by
  unfold isDf at h
  simp [World.frozen?, h]
theorem isDf.put4 {w : World} {b : Nat} {q0 : Option Addr} {n0 c0 : Nat} {wd st : Int} {q1 : Option Addr} {n1 c1 : Nat} {q2 : Option Addr} {n2 c2 : Nat} (h : isDf w b q0 n0 c0 wd st q1 n1 c1 q2 n2 c2) (q : Option Addr) (n c : Nat) : isDf (w.setCell ⟨b, 4, none⟩ (.slice q n c)) b q0 n0 c0 wd st q1 n1 c1 q n c := by
  have h1 := heap_setCell_same w b 4 _ _ (.slice q n c) h
  unfold isDf
  rw [h1]; simp
theorem isDf.stored {w : World} {b : Nat} {q0 : Option Addr} {n0 c0 : Nat} {wd st : Int} {q1 : Option Addr} {n1 c1 : Nat} {q2 : Option Addr} {n2 c2 : Nat} (h : isDf w b q0 n0 c0 wd st q1 n1 c1 q2 n2 c2) (p0 : Option Addr) (k0 d0 : Nat) (we se : Int) (p1 : Option Addr) (k1 d1 : Nat) (p2 : Option Addr) (k2 d2 : Nat) :
    isDf (((((w.setCell ⟨b, 0, none⟩ (.slice p0 k0 d0)).setCell ⟨b, 1, none⟩ (.int .i64 we)).setCell ⟨b, 2, none⟩ (.int .i64 se)).setCell ⟨b, 3, none⟩ (.slice p1 k1 d1)).setCell ⟨b, 4, none⟩ (.slice p2 k2 d2)) b p0 k0 d0 we se p1 k1 d1 p2 k2 d2 := by
  have h1 := heap_setCell_same w b 0 _ _ (.slice p0 k0 d0) h
  have h2 := heap_setCell_same _ b 1 _ _ (.int .i64 we) h1
  have h3 := heap_setCell_same _ b 2 _ _ (.int .i64 se) h2
  have h4 := heap_setCell_same _ b 3 _ _ (.slice p1 k1 d1) h3
  have h5 := heap_setCell_same _ b 4 _ _ (.slice p2 k2 d2) h4
  unfold isDf
  rw [h5]; simp
theorem isDf.below {w w' : World} {b B : Nat} {q0 : Option Addr} {n0 c0 : Nat} {wd st : Int} {q1 : Option Addr} {n1 c1 : Nat} {q2 : Option Addr} {n2 c2 : Nat} (h : isDf w b q0 n0 c0 wd st q1 n1 c1 q2 n2 c2) (hb : Below B w w') (hB : b < B) : isDf w' b q0 n0 c0 wd st q1 n1 c1 q2 n2 c2 := (hb.block b hB).trans h

end Go.Proofs.Ytpfbmbegddemoaa
