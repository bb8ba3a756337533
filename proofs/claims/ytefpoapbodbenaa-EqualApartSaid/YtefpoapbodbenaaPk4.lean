/-
  What a tree tells ahead of any text, and which parts of a text fit it. Plain facts.
  Automata that are not yet decided, made of trees: just the parts of a text that fit a tree lead through its automaton. Plain facts.
  Where one comes at once, and by bytes; what leads to the end. Plain facts.
  What all texts of the tree lean on: imports, small words on worlds, slices that read as nodes or as numbers.
  Rows of bools, and states, in memory; where one comes at once as the reference counts it.
  The walk of the ninth reference's Step.
  The walks of the ninth reference's Of and Told.
  The walk of the ninth reference's Told.
-/
import Derived.Test.YtefpoapbodbenaaPk3
import Derived.Test.YtefpoapbodbenaaPk1
import Derived.Test.YtefpoapbodbenaaProg
import Derived.WalkKit
import Derived.WalkSpells
import Derived.WalkLawsBesides
import Derived.Handy
import Derived.KernelRfl
import Derived.Deep.RegionHeld3
import Derived.Deep.RegionHeldLaw
import Derived.Deep.QuietTactic
import Derived.BigQuiet
import Derived.Lib.Hide
import Derived.OneCell
import Derived.Laws.StructEq
import Derived.Laws.OwnMore
import Derived.Laws.IdiomArrays
import Derived.OwnWalk
namespace Go.Proofs.Ytefpoapbodbenaa

/-- Which parts of a text (n bytes, tx i its bytes) do something. -/
abbrev Gr := Nat → Nat → Bool
end Go.Proofs.Ytefpoapbodbenaa

namespace Go.Proofs.Ytefpoapbodbenaa

/-- A state: its kind, the words of its set, A and B. -/
structure Sd where
  k : Int
  a : Int
  b : Int
  c : Int
  d : Int
  A : Int
  B : Int
section
variable {S : Nat → Sd} {n : Nat} {tx : Nat → Nat} {qf jf : Nat}
end

end Go.Proofs.Ytefpoapbodbenaa

namespace Go.Proofs.Ytefpoapbodbenaa

section
variable {S : Nat → Sd}
/-- At once from a state to another one. -/
def ep (S : Nat → Sd) (sym : Int) (q q' : Nat) : Prop :=
  ((S q).k = 2 ∨ (S q).k = 3 ∨ ((S q).k = 4 ∧ (sym = 256 ∨ sym = 258)) ∨ ((S q).k = 5 ∧ (sym = 257 ∨ sym = 258))) ∧ (q' : Int) = (S q).A ∨ (S q).k = 3 ∧ (q' : Int) = (S q).B
inductive rt (S : Nat → Sd) (sym : Int) : Nat → Nat → Prop where
  | refl (q : Nat) : rt S sym q q
  | tail {q q' q'' : Nat} : rt S sym q q' → ep S sym q' q'' → rt S sym q q''
theorem rt.trans {sym : Int} {a b c : Nat} (h : rt S sym a b) (g : rt S sym b c) : rt S sym a c := by
  induction g with
  | refl => exact h
  | tail _ h2 ih => exact .tail ih h2
theorem ep.any {sym : Int} {q q' : Nat} (h : ep S 0 q q') : ep S sym q q' := by
  unfold ep at h ⊢
  rcases h with ⟨h | h | ⟨h, h'⟩ | ⟨h, h'⟩, g⟩ | h
  · exact .inl ⟨.inl h, g⟩
  · exact .inl ⟨.inr (.inl h), g⟩
  · omega
  · omega
  · exact .inr h
theorem rt.any {sym : Int} {q q' : Nat} (h : rt S 0 q q') : rt S sym q q' := by
  induction h with
  | refl => exact .refl _
  | tail _ h2 ih => exact .tail ih h2.any
end
end Go.Proofs.Ytefpoapbodbenaa

namespace Go.Proofs.Ytefpoapbodbenaa
open Go.RowKit

/-- A node's cells at a place. -/
def ndAt (w : World) (b o : Nat) (x : Nd) : Prop := w.cell? ⟨b, o, none⟩ = some (.int .i64 x.k) ∧ w.cell? ⟨b, o + 1, none⟩ = some (.int .u64 x.a) ∧ w.cell? ⟨b, o + 2, none⟩ = some (.int .u64 x.b) ∧ w.cell? ⟨b, o + 3, none⟩ = some (.int .u64 x.c) ∧ w.cell? ⟨b, o + 4, none⟩ = some (.int .u64 x.d) ∧ w.cell? ⟨b, o + 5, none⟩ = some (.int .i64 x.lo) ∧ w.cell? ⟨b, o + 6, none⟩ = some (.int .i64 x.hi)
theorem ndAt.below {w w' : World} {b o B : Nat} {x : Nd} (h : ndAt w b o x) (hb : Below B w w') (hB : b < B) : ndAt w' b o x := by
  have c : ∀ x, w'.cell? ⟨b, x, none⟩ = w.cell? ⟨b, x, none⟩ := fun x => hb.cell (p := ⟨b, x, none⟩) hB
  unfold ndAt at h ⊢
  simp only [c]
  exact h
/-- The nodes that lie in a block from a place on. -/
def rdN (w : World) (b off n : Nat) (N : Nat → Nd) : Prop := ∀ j, j < n → b < w.heap.size ∧ ndAt w b (off + j * 7) (N j)
theorem rdN.below {w w' : World} {b off n : Nat} {N : Nat → Nd} (h : rdN w b off n N) (hb : Below w.heap.size w w') : rdN w' b off n N := fun j hj =>
  ⟨Nat.lt_of_lt_of_le (h j hj).1 hb.size, (h j hj).2.below hb (h j hj).1⟩
theorem rdN.drewN {w : World} {b off n : Nat} {N : Nat → Nd} (h : rdN w b off n N) (k : Nat) : rdN (w.drewN k) b off n N := h
theorem rdN.sub {w : World} {b off n : Nat} {N : Nat → Nd} (h : rdN w b off n N) (f m : Nat) (hm : f + m ≤ n) : rdN w b (off + f * 7) m (fun j => N (f + j)) := fun j hj => by
  have := h (f + j) (by omega)
  rwa [show off + (f + j) * 7 = off + f * 7 + j * 7 by omega] at this
theorem rdN.take {w : World} {b off n : Nat} {N : Nat → Nd} (h : rdN w b off n N) (m : Nat) (hm : m ≤ n) : rdN w b off m N := fun j hj => h j (by omega)

/-- A slice that reads as a list of numbers. -/
def rdI (w : World) (v : Value) (l : List Int) : Prop :=
  (∃ p cap, v = .slice p 0 cap ∧ l = []) ∨ ∃ b cap, v = .slice (some ⟨b, 0, none⟩) l.length cap ∧ b < w.heap.size ∧ ∀ j (h : j < l.length), w.cell? ⟨b, j, none⟩ = some (.int .i64 l[j])
theorem rdI.below {w w' : World} {v : Value} {l : List Int} (h : rdI w v l) (hb : Below w.heap.size w w') : rdI w' v l := by
  rcases h with h | ⟨b, cap, rfl, hl, hc⟩
  · exact .inl h
  · exact .inr ⟨b, cap, rfl, Nat.lt_of_lt_of_le hl hb.size, fun j hj => by rw [hb.cell (p := ⟨b, j, none⟩) hl]; exact hc j hj⟩
end Go.Proofs.Ytefpoapbodbenaa

namespace Go.Proofs.Ytefpoapbodbenaa
open Go.RowKit

def bls (T : Nat → Bool) (m : Nat) : List Value := (List.range m).map fun j => Value.bool (T j)
theorem bls_len (T : Nat → Bool) (m : Nat) : (bls T m).length = m := by simp [bls]
theorem bls_at (T : Nat → Bool) (m j : Nat) (h : j < m) : (bls T m)[j]? = some (.bool (T j)) := by simp [bls, h]
def putT (T : Nat → Bool) (j : Nat) (b : Bool) : Nat → Bool := fun x => if x = j then b else T x
theorem bls_set (T : Nat → Bool) (m j : Nat) (b : Bool) : (bls T m).set j (.bool b) = bls (putT T j b) m := by
  unfold bls
  apply List.ext_getElem
  · simp
  · intro i h1 h2
    simp only [List.getElem_set, List.getElem_map, List.getElem_range, putT]
    by_cases h : i = j
    · rw [if_pos h.symm, if_pos h]
    · rw [if_neg (fun e => h e.symm), if_neg h]
/-- A row of m bools that the call owns. -/
def blR (w : World) (base g c m : Nat) (T : Nat → Bool) : Prop := w.ownsRow base 4 1 (.slice (some ⟨g, 0, none⟩) m c) m (bls T m)
theorem blR.cell {w : World} {base g c m : Nat} {T : Nat → Bool} (h : blR w base g c m T) (j : Nat) (hj : j < m) : w.cell? ⟨g, j, none⟩ = some (.bool (T j)) := by
  rw [World.ownsRow.cellAt h j (by omega)]; exact bls_at T m j hj
theorem blR.free {w : World} {base g c m : Nat} {T : Nat → Bool} (h : blR w base g c m T) (j : Nat) : w.frozen? ⟨g, j, none⟩ = false := World.ownsRow.frozenAt h j
theorem blR.lt {w : World} {base g c m : Nat} {T : Nat → Bool} (h : blR w base g c m T) : base ≤ g ∧ g < w.heap.size := World.ownsRow.lt h g rfl
theorem blR.below {w w' : World} {base g c m : Nat} {T : Nat → Bool} (h : blR w base g c m T) (hb : Below w.heap.size w w') : blR w' base g c m T := owns_below h hb
theorem blR.put {w : World} {base g c m : Nat} {T : Nat → Bool} (h : blR w base g c m T) (j : Nat) (b : Bool) : blR (w.setCell ⟨g, j, none⟩ (.bool b)) base g c m (putT T j b) := by
  have := (World.ownsRow.stored h j (.bool b)).1
  rw [bls_set] at this
  exact this
theorem blR.same {w : World} {base g c m : Nat} {T T' : Nat → Bool} (h : blR w base g c m T) (hT : ∀ j, j < m → T j = T' j) : blR w base g c m T' := by
  have e : bls T m = bls T' m := by
    unfold bls
    exact List.map_congr_left fun i hi => by rw [hT i (List.mem_range.1 hi)]
  unfold blR at h ⊢
  rw [← e]; exact h
/-- Bools that are read. -/
def rdB (w : World) (g m : Nat) (T : Nat → Bool) : Prop := g < w.heap.size ∧ ∀ j, j < m → w.cell? ⟨g, j, none⟩ = some (.bool (T j))
theorem rdB.below {w w' : World} {g m : Nat} {T : Nat → Bool} (h : rdB w g m T) (hb : Below w.heap.size w w') : rdB w' g m T :=
  ⟨Nat.lt_of_lt_of_le h.1 hb.size, fun j hj => by rw [hb.cell (p := ⟨g, j, none⟩) h.1]; exact h.2 j hj⟩
theorem blR.rd {w : World} {base g c m : Nat} {T : Nat → Bool} (h : blR w base g c m T) : rdB w g m T := ⟨h.lt.2, fun j hj => h.cell j hj⟩
theorem infoBool9 : (Try.prog.info? 4).map (fun i => (i.zero, i.size, i.bytes)) = some (some (.bool false), 1, 1) := by kernel_rfl

/-- A state's cells at a place; the states that lie in a block from a place on. -/
def sdAt (w : World) (b o : Nat) (x : Sd) : Prop := w.cell? ⟨b, o, none⟩ = some (.int .i64 x.k) ∧ w.cell? ⟨b, o + 1, none⟩ = some (.int .i64 x.A) ∧ w.cell? ⟨b, o + 2, none⟩ = some (.int .i64 x.B) ∧ w.cell? ⟨b, o + 3, none⟩ = some (.int .u64 x.a) ∧ w.cell? ⟨b, o + 4, none⟩ = some (.int .u64 x.b) ∧ w.cell? ⟨b, o + 5, none⟩ = some (.int .u64 x.c) ∧ w.cell? ⟨b, o + 6, none⟩ = some (.int .u64 x.d)
theorem sdAt.below {w w' : World} {b o B : Nat} {x : Sd} (h : sdAt w b o x) (hb : Below B w w') (hB : b < B) : sdAt w' b o x := by
  have c : ∀ x, w'.cell? ⟨b, x, none⟩ = w.cell? ⟨b, x, none⟩ := fun x => hb.cell (p := ⟨b, x, none⟩) hB
  unfold sdAt at h ⊢
  simp only [c]
  exact h
def rdS (w : World) (b off m : Nat) (S : Nat → Sd) : Prop := ∀ j, j < m → b < w.heap.size ∧ sdAt w b (off + j * 7) (S j)
theorem rdS.below {w w' : World} {b off m : Nat} {S : Nat → Sd} (h : rdS w b off m S) (hb : Below w.heap.size w w') : rdS w' b off m S := fun j hj =>
  ⟨Nat.lt_of_lt_of_le (h j hj).1 hb.size, (h j hj).2.below hb (h j hj).1⟩
section
variable {S : Nat → Sd} {sym : Int} {m : Nat}
def cntT (T : Nat → Bool) (m : Nat) : Nat := ((List.range m).filter fun j => T j).length
theorem cntT_le (T : Nat → Bool) (m : Nat) : cntT T m ≤ m := by
  unfold cntT
  have := List.length_filter_le (fun j => T j) (List.range m)
  rwa [List.length_range] at this
theorem cntT_succ (T : Nat → Bool) (m : Nat) : cntT T (m + 1) = cntT T m + if T m = true then 1 else 0 := by
  unfold cntT
  rw [List.range_succ, List.filter_append, List.length_append]
  congr 1
  by_cases h : T m = true
  · rw [if_pos h, List.filter_cons_of_pos h]; rfl
  · rw [if_neg h, List.filter_cons_of_neg h]; rfl
end
end Go.Proofs.Ytefpoapbodbenaa

namespace Go.Proofs.Ytefpoapbodbenaa
open Go.RowKit

theorem made_bls (m : Nat) : (madeCells #[Value.bool false] m).toList = bls (fun _ => false) m := by
  unfold madeCells bls
  apply List.ext_getElem
  · simp
  · intro i h1 h2
    simp [Nat.mod_one]

end Go.Proofs.Ytefpoapbodbenaa

namespace Go.Proofs.Ytefpoapbodbenaa
open Go.RowKit

/-- Numbers that are read, as many as n. -/
def rdL (w : World) (p : Option Addr) (n : Nat) (l : Nat → Int) : Prop := ∀ j, j < n → ∃ b o, p = some ⟨b, o, none⟩ ∧ b < w.heap.size ∧ w.cell? ⟨b, o + j, none⟩ = some (.int .i64 (l j))
theorem rdL.below {w w' : World} {p : Option Addr} {n : Nat} {l : Nat → Int} (h : rdL w p n l) (hb : Below w.heap.size w w') : rdL w' p n l := fun j hj => by
  obtain ⟨b, o, h1, h2, h3⟩ := h j hj
  exact ⟨b, o, h1, Nat.lt_of_lt_of_le h2 hb.size, by rw [hb.cell (p := ⟨b, o + j, none⟩) h2]; exact h3⟩
end Go.Proofs.Ytefpoapbodbenaa

namespace Go.Proofs.Ytefpoapbodbenaa
open Go.RowKit

/-- A rising list of what is true. -/
def trs (T : Nat → Bool) (m : Nat) : List Nat := (List.range m).filter fun j => T j
end Go.Proofs.Ytefpoapbodbenaa
