/-
  The walk of nfa.Right.
  The walk of the ninth reference's Make at a node that is repeated, and by recursion.
  The walk of the code's Right: is a list a tree?
  The walk of the code's Depth: how many nodes stand within one another.
-/
import Derived.Test.YthmkjdpmpcjinaaPk36
import Derived.BigQuiet
import Derived.Deep.QuietTactic
import Derived.Test.YthmkjdpmpcjinaaPk21
import Derived.Test.YthmkjdpmpcjinaaPk35
import Derived.Test.YthmkjdpmpcjinaaPk19
import Derived.Test.YthmkjdpmpcjinaaPk20
namespace Go.Proofs.Ythmkjdpmpcjinaa
open Go.RowKit

theorem ffB_iff {S : Nat → Sd} {m q : Nat} (hm : 1 ≤ m) : ffB (S q) m = true ↔ okQ S m q := by
  unfold ffB okQ goP
  by_cases h6 : (S q).k = 6
  · rw [h6]
    simp
    omega
  · by_cases h3 : (S q).k = 3
    · rw [h3]
      simp
      omega
    · by_cases h1 : (S q).k = 1
      · rw [h1]
        simp
        omega
      · have e6 : ((S q).k != 6) = true := by simp [h6]
        have e3 : ((S q).k == 3) = false := beq_eq_false_iff_ne.2 h3
        have e1 : ((S q).k == 1) = false := beq_eq_false_iff_ne.2 h1
        rw [e6, e3, e1]
        simp
        omega
theorem cntT_single (f : Nat) : ∀ m, cntT (fun q => decide (q = f)) m = if f < m then 1 else 0
  | 0 => by rw [if_neg (Nat.not_lt_zero _)]; rfl
  | m + 1 => by
    rw [cntT_succ, cntT_single f m]
    by_cases h : m = f
    · subst h; simp
    · by_cases h2 : f < m
      · rw [if_pos h2, if_neg (by simpa using h), if_pos (by omega)]
      · rw [if_neg h2, if_neg (by simpa using h), if_neg (by omega)]
theorem cntT_congr {T T' : Nat → Bool} : ∀ {m}, (∀ q, q < m → T q = T' q) → cntT T m = cntT T' m
  | 0, _ => rfl
  | m + 1, h => by
    rw [cntT_succ, cntT_succ, cntT_congr (m := m) fun q hq => h q (by omega), h m (by omega)]
/-- There is one, and it is f. -/
theorem cntT_one {T : Nat → Bool} {m f : Nat} (hf : f < m) : (cntT T m = 1 ∧ T f = true) ↔ ∀ q, q < m → T q = decide (q = f) := by
  constructor
  · rintro ⟨h1, h2⟩ q hq
    by_cases e : q = f
    · subst e; simpa using h2
    · rw [decide_eq_false e]
      cases hT : T q with
      | false => rfl
      | true =>
        have := cntT_less (T := fun q => decide (q = f)) (T' := T) (fun q hq => by
          have : q = f := by simpa using hq
          rw [this]; exact h2) (q := q) (by simpa using e) hT m hq
        rw [cntT_single, if_pos hf] at this
        omega
  · intro h
    refine ⟨?_, by rw [h f hf]; simp⟩
    rw [cntT_congr h, cntT_single, if_pos hf]
/-- What the code asks of a state at a place. -/
def okR (S : Nat → Sd) (m : Nat) (fin : Int) (q : Nat) : Prop := ffB (S q) m = true ∧ ((S q).k == 6) = decide ((q : Int) = fin)
theorem right_okR {S : Nat → Sd} {m : Nat} {st fin : Int} (h : 1 ≤ m ∧ m ≤ 600 ∧ 0 ≤ st ∧ st < m ∧ 0 ≤ fin ∧ fin < m) : rightP S m st fin ↔ ∀ q, q < m → okR S m fin q := by
  obtain ⟨f, rfl⟩ : ∃ f : Nat, fin = f := ⟨fin.toNat, by omega⟩
  have hf : f < m := by omega
  have hc := cntT_one (T := six S) hf
  have e6 : six S f = true ↔ (S f).k = 6 := by unfold six; simp
  unfold rightP okR
  rw [Int.toNat_natCast]
  constructor
  · rintro ⟨_, h2, h3, h4⟩ q hq
    refine ⟨(ffB_iff h.1).2 (h2 q hq), ?_⟩
    have := hc.1 ⟨h3, e6.2 h4⟩ q hq
    unfold six at this
    rw [this]
    simp [Int.ofNat_inj]
  · intro g
    have hs : ∀ q, q < m → six S q = decide (q = f) := fun q hq => by
      have := (g q hq).2
      unfold six
      rw [this]
      simp [Int.ofNat_inj]
    obtain ⟨k1, k2⟩ := hc.2 hs
    exact ⟨h, fun q hq => (ffB_iff h.1).1 (g q hq).1, k1, e6.1 k2⟩
end Go.Proofs.Ythmkjdpmpcjinaa

namespace Go.Proofs.Ythmkjdpmpcjinaa
open Go.RowKit

theorem pt3_grown (w : World) (b : Nat) (v : Value) (f l : Int) : w.grownBy (((w.setCell ⟨b, 0, none⟩ v).setCell ⟨b, 1, none⟩ (.int .i64 f)).setCell ⟨b, 2, none⟩ (.int .i64 l)) (some b) :=
  ((grown_setCell w b 0 v).trans (grown_setCell _ b 1 _)).trans (grown_setCell _ b 2 _)
end Go.Proofs.Ythmkjdpmpcjinaa

namespace Go.Proofs.Ythmkjdpmpcjinaa
open Go.RowKit

theorem not_tree {N : Nat → Nd} {n k : Nat} (hk : k < n) (h : ¬ good N k) : decide (tree N n) = false := decide_eq_false fun ht => h (ht.2.1 k hk)

end Go.Proofs.Ythmkjdpmpcjinaa

namespace Go.Proofs.Ythmkjdpmpcjinaa
open Go.RowKit

theorem mx_take_le (l : List Int) (n : Nat) : mx (l.take n) ≤ mx l := by
  have := mx_append (l.take n) (l.drop n)
  rw [List.take_append_drop] at this
  omega
theorem mx_le (N : Nat → Nd) : ∀ k, mx (stk N k) ≤ k := by
  intro k
  induction k with
  | zero => simp [stk, mx]
  | succ k ih =>
    have h := mx_append ((stk N k).take (ar (N k).k).toNat) ((stk N k).drop (ar (N k).k).toNat)
    rw [List.take_append_drop] at h
    simp only [stk, mx]
    omega
theorem stk_pos (N : Nat → Nd) : ∀ k x, x ∈ stk N k → 1 ≤ x := by
  intro k
  induction k with
  | zero => intro x hx; simp [stk] at hx
  | succ k ih =>
    intro x hx
    rw [stk_succ] at hx
    rcases List.mem_cons.1 hx with rfl | hx
    · exact dpt_pos N k
    · exact ih x (List.mem_of_mem_drop hx)
theorem mem_le_mx {l : List Int} {x : Int} (h : x ∈ l) : x ≤ mx l := by
  induction l with
  | nil => cases h
  | cons y l ih =>
    simp only [mx]
    rcases List.mem_cons.1 h with rfl | h
    · omega
    · have := ih h; omega
/-- The front of a row that the call owns. -/
theorem owns_take {w : World} {base : Nat} {e : TypeId} {g cap n m : Nat} {xs : List Value} (hm : m ≤ n) (h : w.ownsRow base e 1 (.slice (some ⟨g, 0, none⟩) n cap) n xs) :
    w.ownsRow base e 1 (.slice (some ⟨g, 0, none⟩) m cap) m (xs.take m) := by
  obtain ⟨h1, h2⟩ := h
  rcases h2 with ⟨h0, _⟩ | ⟨g', cap', cur, hv, hg, hh, hn, hcap, hsz, htake⟩
  · cases h0
  · cases hv
    refine ⟨by rw [List.length_take]; omega, .inr ⟨g, cap, cur, rfl, hg, hh, by omega, hcap, hsz, ?_⟩⟩
    rw [← htake, List.take_take]
    congr 1
    omega
theorem rev_take (st : List Int) (a : Nat) : (ivs st.reverse).take (st.length - a) = ivs (st.drop a).reverse := by
  have : st.reverse = (st.drop a).reverse ++ (st.take a).reverse := by rw [← List.reverse_append, List.take_append_drop]
  unfold ivs
  rw [this, List.map_append, List.take_left' (by simp)]
theorem rev_get (st : List Int) (j : Nat) (hj : j < st.length) : (ivs st.reverse)[st.length - 1 - j]? = some (.int .i64 st[j]) := by
  have h2 : st.reverse[st.length - 1 - j]? = some st[j] := by
    rw [List.getElem?_reverse (by omega), show st.length - 1 - (st.length - 1 - j) = j by omega, List.getElem?_eq_getElem hj]
  unfold ivs
  rw [List.getElem?_map, h2]; rfl

end Go.Proofs.Ythmkjdpmpcjinaa
