/-
  The walks of the eleventh reference's Go, Word and Run.
  The walk of the ninth reference's Make at a node that is repeated, and by recursion.
  The walks of within and fieldsFit: are a node's Set, Lo and Hi such as its kind lets be?
  The walk of the code's Right: is a list a tree?
  The walk of the code's Depth: how many nodes stand within one another.
-/
import Derived.Test.YtpfbmbegddemoaaPk24
import Derived.Deep.RegionHeldLaw
import Derived.Deep.RegionWith
import Derived.Test.YtpfbmbegddemoaaPk14
import Derived.Test.YtpfbmbegddemoaaPk9
import Derived.Test.YtpfbmbegddemoaaPk13
namespace Go.Proofs.Ytpfbmbegddemoaa
open Go.RowKit

/-- A decided automaton as a value. -/
@[reducible] def dfV (q0 : Option Addr) (n0 c0 : Nat) (wd st : Int) (q1 : Option Addr) (n1 c1 : Nat) (q2 : Option Addr) (n2 c2 : Nat) : Value := .agg #[.slice q0 n0 c0, .int .i64 wd, .int .i64 st, .slice q1 n1 c1, .slice q2 n2 c2]

end Go.Proofs.Ytpfbmbegddemoaa

namespace Go.Proofs.Ytpfbmbegddemoaa
open Go.RowKit

theorem pt3_grown (w : World) (b : Nat) (v : Value) (f l : Int) : w.grownBy (((w.setCell ⟨b, 0, none⟩ v).setCell ⟨b, 1, none⟩ (.int .i64 f)).setCell ⟨b, 2, none⟩ (.int .i64 l)) (some b) :=
  ((grown_setCell w b 0 v).trans (grown_setCell _ b 1 _)).trans (grown_setCell _ b 2 _)
end Go.Proofs.Ytpfbmbegddemoaa

namespace Go.Proofs.Ytpfbmbegddemoaa
open Go.RowKit

/-- A node as a value. -/
@[reducible] def nv (x : Nd) : Value := .agg #[.int .i64 x.k, .int .u64 x.a, .int .u64 x.b, .int .u64 x.c, .int .u64 x.d, .int .i64 x.lo, .int .i64 x.hi]
end Go.Proofs.Ytpfbmbegddemoaa

namespace Go.Proofs.Ytpfbmbegddemoaa
open Go.RowKit

theorem not_tree {N : Nat → Nd} {n k : Nat} (hk : k < n) (h : ¬ good N k) : decide (tree N n) = false := decide_eq_false fun ht => h (ht.2.1 k hk)

end Go.Proofs.Ytpfbmbegddemoaa

namespace Go.Proofs.Ytpfbmbegddemoaa
open Go.RowKit

theorem mx_take_le (l : List Int) (n : Nat) : mx (l.take n) ≤ mx l := by
  have := mx_append (l.take n) (l.drop n)
  rw [List.take_append_drop] at this
  omega
theorem mx_le (N : Nat → Nd) : ∀ k, mx (stk N k) ≤ k := by
  intro k
  induction k with
  | zero => simp [stk, mx]
  | succ k ih =>
    have h := mx_append ((stk N k).take (ar (N k).k).toNat) ((stk N k).drop (ar (N k).k).toNat)
    rw [List.take_append_drop] at h
    simp only [stk, mx]
    omega
theorem stk_pos (N : Nat → Nd) : ∀ k x, x ∈ stk N k → 1 ≤ x := by
  intro k
  induction k with
  | zero => intro x hx; simp [stk] at hx
  | succ k ih =>
    intro x hx
    rw [stk_succ] at hx
    rcases List.mem_cons.1 hx with rfl | hx
    · exact dpt_pos N k
    · exact ih x (List.mem_of_mem_drop hx)
theorem mem_le_mx {l : List Int} {x : Int} (h : x ∈ l) : x ≤ mx l := by
  induction l with
  | nil => cases h
  | cons y l ih =>
    simp only [mx]
    rcases List.mem_cons.1 h with rfl | h
    · omega
    · have := ih h; omega
/-- The front of a row that the call owns. -/
theorem owns_take {w : World} {base : Nat} {e : TypeId} {g cap n m : Nat} {xs : List Value} (hm : m ≤ n) (h : w.ownsRow base e 1 (.slice (some ⟨g, 0, none⟩) n cap) n xs) :
    w.ownsRow base e 1 (.slice (some ⟨g, 0, none⟩) m cap) m (xs.take m) := by
  obtain ⟨h1, h2⟩ := h
  rcases h2 with ⟨h0, _⟩ | ⟨g', cap', cur, hv, hg, hh, hn, hcap, hsz, htake⟩
  · cases h0
  · cases hv
    refine ⟨by rw [List.length_take]; omega, .inr ⟨g, cap, cur, rfl, hg, hh, by omega, hcap, hsz, ?_⟩⟩
    rw [← htake, List.take_take]
    congr 1
    omega
theorem rev_take (st : List Int) (a : Nat) : (ivs st.reverse).take (st.length - a) = ivs (st.drop a).reverse := by
  have : st.reverse = (st.drop a).reverse ++ (st.take a).reverse := by rw [← List.reverse_append, List.take_append_drop]
  unfold ivs
  rw [this, List.map_append, List.take_left' (by simp)]
theorem rev_get (st : List Int) (j : Nat) (hj : j < st.length) : (ivs st.reverse)[st.length - 1 - j]? = some (.int .i64 st[j]) := by
  have h2 : st.reverse[st.length - 1 - j]? = some st[j] := by
    rw [List.getElem?_reverse (by omega), show st.length - 1 - (st.length - 1 - j) = j by omega, List.getElem?_eq_getElem hj]
  unfold ivs
  rw [List.getElem?_map, h2]; rfl

end Go.Proofs.Ytpfbmbegddemoaa
