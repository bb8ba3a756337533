/-
  Slices of bytes that read as lists of numbers; the bytes of a set as a list.
  The row of the type of a byte; what a list of bytes grows in.
-/
import Derived.Test.YtiahgcgpakgeeaaDoorPk1
namespace Go.Proofs.YtiahgcgpakgeeaaDoor
open Go.RowKit

/-- A slice of bytes that reads as a list of numbers. -/
def rd8 (w : World) (v : Value) (l : List Nat) : Prop :=
  (v = .slice none 0 0 ∧ l = []) ∨ ∃ b off cap, v = .slice (some ⟨b, off, none⟩) l.length cap ∧ b < w.heap.size ∧ ∀ j (h : j < l.length), w.cell? ⟨b, off + j, none⟩ = some (.int .u8 (l[j] : Nat))

/-- Is a number in a list? -/
def inl (l : List Nat) (x : Nat) : Bool := decide (x ∈ l)
theorem inl_take (l : List Nat) (k : Nat) (h : k < l.length) (x : Nat) : inl (l.take (k + 1)) x = (inl (l.take k) x || decide (x = l[k])) := by
  unfold inl
  rw [List.take_succ_eq_append_getElem h, Bool.eq_iff_iff]
  simp only [decide_eq_true_eq, List.mem_append, List.mem_singleton, Bool.or_eq_true]

theorem of_word_hit (l : List Nat) (k i : Nat) (h : k < l.length) (hi : l[k] / 64 = i) :
    bits .or .u64 (wd (inl (l.take k)) i : Int) (IntKind.u64.wrap (2 ^ (l[k] % 64))) = (wd (inl (l.take (k + 1))) i : Nat) := by
  rw [word_put _ _ _ (Nat.mod_lt _ (by decide)), show 64 * i + l[k] % 64 = l[k] from by omega]
  congr 2
  funext x
  rw [inl_take l k h x]
theorem of_word_miss (l : List Nat) (k i : Nat) (h : k < l.length) (hi : l[k] / 64 ≠ i) : wd (inl (l.take k)) i = wd (inl (l.take (k + 1))) i := by
  have : inl (l.take (k + 1)) = fun x => inl (l.take k) x || decide (x = l[k]) := funext fun x => inl_take l k h x
  rw [this, word_put_other _ _ _ hi]

/-- The numbers below n that are in a set, rising. -/
def bl (f : Nat → Bool) (n : Nat) : List Nat := (List.range n).filter f
theorem bl_hit (f : Nat → Bool) (n : Nat) (h : f n = true) : bl f (n + 1) = bl f n ++ [n] := by
  unfold bl; rw [List.range_succ, List.filter_append]; simp [h]
theorem bl_miss (f : Nat → Bool) (n : Nat) (h : f n = false) : bl f (n + 1) = bl f n := by
  unfold bl; rw [List.range_succ, List.filter_append]; simp [h]
theorem bl_le (f : Nat → Bool) (n : Nat) : (bl f n).length ≤ n := by
  have := List.length_filter_le f (List.range n)
  rw [List.length_range] at this
  exact this
/-- Values of numbers. -/
def u8s (l : List Nat) : List Value := l.map fun (x : Nat) => .int .u8 (x : Int)

theorem rd8_of_owns {w : World} {base : Nat} {e : TypeId} {v : Value} {l : List Nat} (h : w.ownsRow base e 1 v l.length (u8s l)) : rd8 w v l := by
  have hlt := h.lt
  rcases h.2 with ⟨rfl, h0⟩ | ⟨g, cap, cur, rfl, _, _, _, _, _, _⟩
  · exact .inl ⟨rfl, List.length_eq_zero_iff.1 h0⟩
  · refine .inr ⟨g, 0, cap, rfl, (hlt g rfl).2, fun j hj => ?_⟩
    have := h.cells (g := g) rfl j (.int .u8 (l[j] : Nat)) (by simp [u8s, List.getElem?_map, List.getElem?_eq_getElem hj])
    rw [Nat.zero_add]
    by_cases h0 : j = 0
    · subst h0; simpa [Addr.add] using this
    · simpa [Addr.add, h0] using this
theorem rd8_below {w w' : World} {v : Value} {l : List Nat} (h : rd8 w v l) (hb : Below w.heap.size w w') : rd8 w' v l := by
  rcases h with h | ⟨b, off, cap, rfl, hl, hc⟩
  · exact .inl h
  · refine .inr ⟨b, off, cap, rfl, Nat.lt_of_lt_of_le hl hb.size, fun j hj => ?_⟩
    rw [hb.cell (p := ⟨b, off + j, none⟩) hl]; exact hc j hj
theorem bl_bytes (f : Nat → Bool) (n : Nat) : ∀ x, x ∈ bl f n → x < n := by
  intro x hx
  unfold bl at hx
  rw [List.mem_filter, List.mem_range] at hx
  exact hx.1
end Go.Proofs.YtiahgcgpakgeeaaDoor

namespace Go.Proofs.YtiahgcgpakgeeaaDoor
open Go.RowKit

theorem Tryd.info8 : (Tryd.prog.info? 5).map (fun i => (i.zero, i.size, i.bytes)) = some (some (.int .u8 0), 1, 1) := by kernel_rfl

/-- The world within Bytes, k numbers on. -/
def bytesR (f : Nat → Bool) (w : World) (k : Nat) (v : Value) (wr : World) : Prop :=
  wr.ownsRow (w.heap.size + 1) 5 1 v (bl f k).length (u8s (bl f k)) ∧
  Below (w.heap.size + 1) (w.alloc (.cells #[.int .u64 (wd f 0 : Int), .int .u64 (wd f 1 : Int), .int .u64 (wd f 2 : Int), .int .u64 (wd f 3 : Int)] 35)) wr
end Go.Proofs.YtiahgcgpakgeeaaDoor
