/-
  Rows of numbers at a block's head, made and written into by place.
  The row of the type of a byte; what a list of bytes grows in.
  The walk of byteset's Has.
-/
import Derived.Test.YthmkjdpmpcjinaaPk22
import Derived.Test.YthmkjdpmpcjinaaPk27
import Derived.OwnWalk
import Derived.Test.YthmkjdpmpcjinaaPk8
import Derived.Test.YthmkjdpmpcjinaaPk5
namespace Go.Proofs.Ythmkjdpmpcjinaa
open Go.RowKit

def putF (f : Nat → Int) (j : Nat) (x : Int) : Nat → Int := fun y => if y = j then x else f y
theorem fnv_set (f : Nat → Int) (m j : Nat) (x : Int) : (fnv f m).set j (.int .i64 x) = fnv (putF f j x) m := by
  unfold fnv
  apply List.ext_getElem
  · simp
  · intro i h1 h2
    simp only [List.getElem_set, List.getElem_map, List.getElem_range, putF]
    by_cases h : i = j
    · rw [if_pos h.symm, if_pos h]
    · rw [if_neg (fun e => h e.symm), if_neg h]
theorem fnv_congr {f g : Nat → Int} {m : Nat} (h : ∀ j, j < m → f j = g j) : fnv f m = fnv g m := by
  unfold fnv
  exact List.map_congr_left fun i hi => by rw [h i (List.mem_range.1 hi)]
theorem made_fnv (m : Nat) : (madeCells #[Value.int .i64 0] m).toList = fnv (fun _ => 0) m := by
  unfold madeCells fnv
  apply List.ext_getElem
  · simp
  · intro i h1 h2
    simp [Nat.mod_one]
/-- A row of m numbers that the call owns. -/
def ipR (w : World) (base g m : Nat) (f : Nat → Int) : Prop := w.ownsRow base 3 1 (.slice (some ⟨g, 0, none⟩) m m) m (fnv f m)
theorem ipR.cell {w : World} {base g m : Nat} {f : Nat → Int} (h : ipR w base g m f) (j : Nat) (hj : j < m) : w.cell? ⟨g, j, none⟩ = some (.int .i64 (f j)) := by
  rw [World.ownsRow.cellAt h j (by omega)]; exact fnv_at f m j hj
theorem ipR.free {w : World} {base g m : Nat} {f : Nat → Int} (h : ipR w base g m f) (j : Nat) : w.frozen? ⟨g, j, none⟩ = false := World.ownsRow.frozenAt h j
theorem ipR.lt {w : World} {base g m : Nat} {f : Nat → Int} (h : ipR w base g m f) : base ≤ g ∧ g < w.heap.size := World.ownsRow.lt h g rfl
theorem ipR.below {w w' : World} {base g m : Nat} {f : Nat → Int} (h : ipR w base g m f) (hb : Below w.heap.size w w') : ipR w' base g m f := owns_below h hb
theorem ipR.put {w : World} {base g m : Nat} {f : Nat → Int} (h : ipR w base g m f) (j : Nat) (x : Int) : ipR (w.setCell ⟨g, j, none⟩ (.int .i64 x)) base g m (putF f j x) := by
  have := (World.ownsRow.stored h j (.int .i64 x)).1
  rw [fnv_set] at this
  exact this
theorem ipR.same {w : World} {base g m : Nat} {f f' : Nat → Int} (h : ipR w base g m f) (hf : ∀ j, j < m → f j = f' j) : ipR w base g m f' := by
  unfold ipR at h ⊢
  rw [← fnv_congr hf]; exact h
theorem ipR.rd {w : World} {base g m : Nat} {f : Nat → Int} (h : ipR w base g m f) : rdL w (some ⟨g, 0, none⟩) m f := fun j hj =>
  ⟨g, 0, rfl, h.lt.2, by rw [Nat.zero_add]; exact h.cell j hj⟩
theorem make_ints {w : World} {ops : Array Oper} {rest : List Oper} {o : Oper} {a : Act} {Q : Exit → Act → World → Prop} (hgd : o.guard = none) (s x : Operand)
    (ho : o.op = Op.makeSlice 26 s x) (base n : Nat) (hs : a.eval s = .int .i64 (n : Int)) (hx : a.eval x = .int .i64 (n : Int)) (hn : n ≤ 100000) (hbase : base ≤ w.heap.size)
    (h : ∀ w', ipR w' base w.heap.size n (fun _ => 0) → Below base w w' → wpList Try.prog ops Q rest (a.put o.dst (.slice (some ⟨w.heap.size, 0, none⟩) n n)) w') : wpList Try.prog ops Q (o :: rest) a w := by
  obtain ⟨i0, hi, hz0, hz1, hz2⟩ := info_parts infoInt9w
  refine wpList_make_full w hgd s x 26 ho base 3 i0 (.int .i64 0) 1 Try.underlying26 hi hz0 hz1 .i64 .i64 (n : Int) (n : Int) n hs hx rfl rfl (by rw [hz2]; omega) (by unfold maxLen; omega) hbase ?_
  intro w' h1 h2
  refine h w' ?_ ((Below.refl _ _).grown h2 hbase (fun r hr => by cases hr))
  have e : (madeCells (Value.int .i64 0).cells (n * 1)).toList = fnv (fun _ => 0) n := by
    rw [Nat.mul_one]; exact made_fnv n
  rw [e] at h1
  exact h1
end Go.Proofs.Ythmkjdpmpcjinaa

namespace Go.Proofs.Ythmkjdpmpcjinaa
open Go.RowKit

theorem Try.info8 : (Try.prog.info? 5).map (fun i => (i.zero, i.size, i.bytes)) = some (some (.int .u8 0), 1, 1) := by kernel_rfl

/-- The world within Bytes, k numbers on. -/
def bytesR (f : Nat → Bool) (w : World) (k : Nat) (v : Value) (wr : World) : Prop :=
  wr.ownsRow (w.heap.size + 1) 5 1 v (bl f k).length (u8s (bl f k)) ∧
  Below (w.heap.size + 1) (w.alloc (.cells #[.int .u64 (wd f 0 : Int), .int .u64 (wd f 1 : Int), .int .u64 (wd f 2 : Int), .int .u64 (wd f 3 : Int)] 40)) wr
end Go.Proofs.Ythmkjdpmpcjinaa

namespace Go.Proofs.Ythmkjdpmpcjinaa
open Go.RowKit

set_option maxHeartbeats 1000000 in
theorem has_any (f : Nat → Bool) (b : Nat) (hn : b < 256) (w : World) :
    Calls Try.prog 27 #[sv f, .int .u8 (b : Int)] w fun e w' => e = .returned (.bool (f b)) ∧ Below w.heap.size w w' := by
  have W := word_has f
  have q : b / 64 = 0 ∨ b / 64 = 1 ∨ b / 64 = 2 ∨ b / 64 = 3 := by omega
  have key : ∀ i, b / 64 = i → Hid ((bits .and .u64 ((wd f i : Int) / 2 ^ (b % 64)) 1 == 1) = f b) := fun i hi => by
    have := W i (b % 64) (by omega)
    rw [show 64 * i + b % 64 = b from by omega] at this
    exact this
  clear W
  unfold sv
  rcases q with q | q | q | q
  · have key' := key _ q
    clear key
    have q' : (b : Int) / 64 = 0 := by omega
    clear q
    go_enter Try.func27, Try.ntmps27
    go_wp2
    go_ret
    exact ⟨by rw [← key'.out] <;> rfl, by go_grown⟩
  · have key' := key _ q
    clear key
    have q' : (b : Int) / 64 = 1 := by omega
    clear q
    go_enter Try.func27, Try.ntmps27
    go_wp2
    go_ret
    exact ⟨by rw [← key'.out] <;> rfl, by go_grown⟩
  · have key' := key _ q
    clear key
    have q' : (b : Int) / 64 = 2 := by omega
    clear q
    go_enter Try.func27, Try.ntmps27
    go_wp2
    go_ret
    exact ⟨by rw [← key'.out] <;> rfl, by go_grown⟩
  · have key' := key _ q
    clear key
    have q' : (b : Int) / 64 = 3 := by omega
    clear q
    go_enter Try.func27, Try.ntmps27
    go_wp2
    go_ret
    exact ⟨by rw [← key'.out] <;> rfl, by go_grown⟩
theorem has_lit (f : Nat → Bool) (b : Nat) (hn : b < 256) (w : World) : Calls Try.prog 27 #[svr f, .int .u8 (b : Int)] w fun e w' => e = .returned (.bool (f b)) ∧ Below w.heap.size w w' := has_any f b hn w
end Go.Proofs.Ythmkjdpmpcjinaa
