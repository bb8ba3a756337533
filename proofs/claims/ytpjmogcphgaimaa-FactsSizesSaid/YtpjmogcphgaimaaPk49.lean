/-
  The walk of the code's Depth: how many nodes stand within one another.
  The walk of the laws' awake: the page's example holds.
-/
import Derived.Test.YtpjmogcphgaimaaPk41
import Derived.Test.YtpjmogcphgaimaaPk46
namespace Go.Proofs.Ytpjmogcphgaimaa
open Go.RowKit

theorem mx_take_le (l : List Int) (n : Nat) : mx (l.take n) ≤ mx l := by
  have := mx_append (l.take n) (l.drop n)
  rw [List.take_append_drop] at this
  omega
theorem mx_le (N : Nat → Nd) : ∀ k, mx (stk N k) ≤ k := by
  intro k
  induction k with
  | zero => simp [stk, mx]
  | succ k ih =>
    have h := mx_append ((stk N k).take (ar (N k).k).toNat) ((stk N k).drop (ar (N k).k).toNat)
    rw [List.take_append_drop] at h
    simp only [stk, mx]
    omega
theorem stk_pos (N : Nat → Nd) : ∀ k x, x ∈ stk N k → 1 ≤ x := by
  intro k
  induction k with
  | zero => intro x hx; simp [stk] at hx
  | succ k ih =>
    intro x hx
    rw [stk_succ] at hx
    rcases List.mem_cons.1 hx with rfl | hx
    · exact dpt_pos N k
    · exact ih x (List.mem_of_mem_drop hx)
theorem mem_le_mx {l : List Int} {x : Int} (h : x ∈ l) : x ≤ mx l := by
  induction l with
  | nil => cases h
  | cons y l ih =>
    simp only [mx]
    rcases List.mem_cons.1 h with rfl | h
    · omega
    · have := ih h; omega
/-- The front of a row that the call owns. -/
theorem owns_take {w : World} {base : Nat} {e : TypeId} {g cap n m : Nat} {xs : List Value} (hm : m ≤ n) (h : w.ownsRow base e 1 (.slice (some ⟨g, 0, none⟩) n cap) n xs) :
    w.ownsRow base e 1 (.slice (some ⟨g, 0, none⟩) m cap) m (xs.take m) := by
  obtain ⟨h1, h2⟩ := h
  rcases h2 with ⟨h0, _⟩ | ⟨g', cap', cur, hv, hg, hh, hn, hcap, hsz, htake⟩
  · cases h0
  · cases hv
    refine ⟨by rw [List.length_take]; omega, .inr ⟨g, cap, cur, rfl, hg, hh, by omega, hcap, hsz, ?_⟩⟩
    rw [← htake, List.take_take]
    congr 1
    omega
theorem rev_take (st : List Int) (a : Nat) : (ivs st.reverse).take (st.length - a) = ivs (st.drop a).reverse := by
  have : st.reverse = (st.drop a).reverse ++ (st.take a).reverse := by rw [← List.reverse_append, List.take_append_drop]
  unfold ivs
  rw [this, List.map_append, List.take_left' (by simp)]
theorem rev_get (st : List Int) (j : Nat) (hj : j < st.length) : (ivs st.reverse)[st.length - 1 - j]? = some (.int .i64 st[j]) := by
  have h2 : st.reverse[st.length - 1 - j]? = some st[j] := by
    rw [List.getElem?_reverse (by omega), show st.length - 1 - (st.length - 1 - j) = j by omega, List.getElem?_eq_getElem hj]
  unfold ivs
  rw [List.getElem?_map, h2]; rfl

end Go.Proofs.Ytpjmogcphgaimaa

namespace Go.Proofs.Ytpjmogcphgaimaa
open Go.RowKit

/-- The page's example: Set, Set, Cat. -/
def N0 (j : Nat) : Nd := if j < 2 then ⟨1, 0, 0, 0, 0, 0, 0⟩ else ⟨5, 0, 0, 0, 0, 0, 0⟩
theorem N0_tree : tree N0 3 := by decide
theorem N0_kids : kids N0 2 = [0, 1] := by decide
theorem N0_fst : 0 ≤ fst N0 2 := by decide
theorem N0_dpt : dpt N0 2 = 2 := by decide

theorem N0_rd (w : World) : rdN (w.alloc (.cells #[.int .i64 1, .int .u64 0, .int .u64 0, .int .u64 0, .int .u64 0, .int .i64 0, .int .i64 0, .int .i64 1, .int .u64 0, .int .u64 0, .int .u64 0, .int .u64 0, .int .i64 0, .int .i64 0, .int .i64 5, .int .u64 0, .int .u64 0, .int .u64 0, .int .u64 0, .int .i64 0, .int .i64 0] 44)) w.heap.size 0 3 N0 := by
  intro j hj
  refine ⟨by simp, ?_⟩
  match j, hj with
  | 0, _ => simp [ndAt, N0, go_sem]
  | 1, _ => simp [ndAt, N0, go_sem]
  | 2, _ => simp [ndAt, N0, go_sem]

end Go.Proofs.Ytpjmogcphgaimaa
