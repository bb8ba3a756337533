/-
  What the tenth laws ask of the code: Classes, Firsts and Join, as contracts.
  Rows of numbers at a block's head, made and written into by place.
-/
import Derived.Test.YtpfbmbegddemoaaPk20
import Derived.Test.YtpfbmbegddemoaaPk21
import Derived.OwnWalk
namespace Go.Proofs.Ytpfbmbegddemoaa
open Go.RowKit

/-- A list of numbers, and how many classes there are. -/
def clsPost (n : Nat) (l : Nat → Int) (k : Int) (w : World) (e : Ending) (w' : World) : Prop := ∃ q c l', e = .returned (.tuple #[.slice q n c, .int .i64 k]) ∧ rdL w' q n l' ∧ (∀ j, j < n → l' j = l j) ∧ Below w.heap.size w w'
def frsPost (n : Nat) (l : Nat → Int) (width : Int) (w : World) (e : Ending) (w' : World) : Prop := ∃ q c l', e = .returned (.slice q (min width 259).toNat c) ∧ rdL w' q (min width 259).toNat l' ∧ (∀ j, j < (min width 259).toNat → l' j = fsA l n (j : Nat)) ∧ Below w.heap.size w w'
/-- A number that an int holds. -/
def wfI (x : Int) : Prop := (Lit.int .i64 x).wf = true
theorem wfI_of {x : Int} (h1 : -1000000 ≤ x) (h2 : x ≤ 1000000) : wfI x := WalkArith.wf_i64 ⟨by omega, by omega⟩
end Go.Proofs.Ytpfbmbegddemoaa

namespace Go.Proofs.Ytpfbmbegddemoaa
open Go.RowKit

def putF (f : Nat → Int) (j : Nat) (x : Int) : Nat → Int := fun y => if y = j then x else f y
theorem fnv_set (f : Nat → Int) (m j : Nat) (x : Int) : (fnv f m).set j (.int .i64 x) = fnv (putF f j x) m := by
  unfold fnv
  apply List.ext_getElem
  · simp
  · intro i h1 h2
    simp only [List.getElem_set, List.getElem_map, List.getElem_range, putF]
    by_cases h : i = j
    · rw [if_pos h.symm, if_pos h]
    · rw [if_neg (fun e => h e.symm), if_neg h]
theorem fnv_congr {f g : Nat → Int} {m : Nat} (h : ∀ j, j < m → f j = g j) : fnv f m = fnv g m := by
  unfold fnv
  exact List.map_congr_left fun i hi => by rw [h i (List.mem_range.1 hi)]
theorem made_fnv (m : Nat) : (madeCells #[Value.int .i64 0] m).toList = fnv (fun _ => 0) m := by
  unfold madeCells fnv
  apply List.ext_getElem
  · simp
  · intro i h1 h2
    simp [Nat.mod_one]
/-- A row of m numbers that the call owns. -/
def ipR (w : World) (base g m : Nat) (f : Nat → Int) : Prop := w.ownsRow base 3 1 (.slice (some ⟨g, 0, none⟩) m m) m (fnv f m)
theorem ipR.cell {w : World} {base g m : Nat} {f : Nat → Int} (h : ipR w base g m f) (j : Nat) (hj : j < m) : w.cell? ⟨g, j, none⟩ = some (.int .i64 (f j)) := by
  rw [World.ownsRow.cellAt h j (by omega)]; exact fnv_at f m j hj
theorem ipR.free {w : World} {base g m : Nat} {f : Nat → Int} (h : ipR w base g m f) (j : Nat) : w.frozen? ⟨g, j, none⟩ = false := World.ownsRow.frozenAt h j
theorem ipR.lt {w : World} {base g m : Nat} {f : Nat → Int} (h : ipR w base g m f) : base ≤ g ∧ g < w.heap.size := World.ownsRow.lt h g rfl
theorem ipR.below {w w' : World} {base g m : Nat} {f : Nat → Int} (h : ipR w base g m f) (hb : Below w.heap.size w w') : ipR w' base g m f := owns_below h hb
theorem ipR.put {w : World} {base g m : Nat} {f : Nat → Int} (h : ipR w base g m f) (j : Nat) (x : Int) : ipR (w.setCell ⟨g, j, none⟩ (.int .i64 x)) base g m (putF f j x) := by
  have := (World.ownsRow.stored h j (.int .i64 x)).1
  rw [fnv_set] at this
  exact this
theorem ipR.same {w : World} {base g m : Nat} {f f' : Nat → Int} (h : ipR w base g m f) (hf : ∀ j, j < m → f j = f' j) : ipR w base g m f' := by
  unfold ipR at h ⊢
  rw [← fnv_congr hf]; exact h
theorem ipR.rd {w : World} {base g m : Nat} {f : Nat → Int} (h : ipR w base g m f) : rdL w (some ⟨g, 0, none⟩) m f := fun j hj =>
  ⟨g, 0, rfl, h.lt.2, by rw [Nat.zero_add]; exact h.cell j hj⟩
theorem make_ints {w : World} {ops : Array Oper} {rest : List Oper} {o : Oper} {a : Act} {Q : Exit → Act → World → Prop} (hgd : o.guard = none) (s x : Operand)
    (ho : o.op = Op.makeSlice 22 s x) (base n : Nat) (hs : a.eval s = .int .i64 (n : Int)) (hx : a.eval x = .int .i64 (n : Int)) (hn : n ≤ 100000) (hbase : base ≤ w.heap.size)
    (h : ∀ w', ipR w' base w.heap.size n (fun _ => 0) → Below base w w' → wpList Try.prog ops Q rest (a.put o.dst (.slice (some ⟨w.heap.size, 0, none⟩) n n)) w') : wpList Try.prog ops Q (o :: rest) a w := by
  obtain ⟨i0, hi, hz0, hz1, hz2⟩ := info_parts infoInt9w
  refine wpList_make_full w hgd s x 22 ho base 3 i0 (.int .i64 0) 1 Try.underlying22 hi hz0 hz1 .i64 .i64 (n : Int) (n : Int) n hs hx rfl rfl (by rw [hz2]; omega) (by unfold maxLen; omega) hbase ?_
  intro w' h1 h2
  refine h w' ?_ ((Below.refl _ _).grown h2 hbase (fun r hr => by cases hr))
  have e : (madeCells (Value.int .i64 0).cells (n * 1)).toList = fnv (fun _ => 0) n := by
    rw [Nat.mul_one]; exact made_fnv n
  rw [e] at h1
  exact h1
end Go.Proofs.Ytpfbmbegddemoaa
