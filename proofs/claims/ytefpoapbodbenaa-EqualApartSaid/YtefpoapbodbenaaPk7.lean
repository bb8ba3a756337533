/-
  The list of what is met, sorted.
  Classes of places by what tells them apart: numbered by their first ones. Plain facts.
-/
import Derived.Test.YtefpoapbodbenaaPk5
import Derived.Test.YtefpoapbodbenaaPk6
import Derived.Test.YtefpoapbodbenaaPk4
namespace Go.Proofs.Ytefpoapbodbenaa
open Go.RowKit Go.Sort

theorem putRow_block9 {α : Type} [Inhabited α] (enc : α → Value) (w : World) (b off : Nat) (d : Array α) (k : Nat) (hk : k ≠ b) : (putRow enc w b off d).heap[k]? = w.heap[k]? := by
  unfold putRow mapBlock
  simp only [Array.getElem?_modify]
  rw [if_neg (fun h => hk h.symm)]
theorem grow_block9 (w : World) (os : Array Obj) (k : Nat) (hk : k < w.heap.size) : (grow w os).heap[k]? = w.heap[k]? := by
  show (w.heap ++ os)[k]? = _
  rw [Array.getElem?_append_left hk]
/-- All blocks but one are kept by the sort. -/
theorem sort_block9 (w : World) (n : Nat) (os : Array Obj) (b : Nat) (d : Array Int) (k : Nat) (hk : k ≠ b) (hl : k < w.heap.size) :
    (grow (putRow (Value.int .i64) (Sort.ahead w n) b 0 d) os).heap[k]? = w.heap[k]? := by
  rw [grow_block9 _ _ _ (by rw [size_putRow]; exact hl), putRow_block9 _ _ _ _ _ _ hk]
  rfl
theorem sort_below9 (w : World) (n : Nat) (os : Array Obj) (b : Nat) (d : Array Int) (B : Nat) (hB : B ≤ b) (hb : b < w.heap.size) :
    Below B w (grow (putRow (Value.int .i64) (Sort.ahead w n) b 0 d) os) :=
  ⟨rfl, rfl, rfl, by show _ ≤ (_ ++ os).size; rw [Array.size_append, size_putRow]; exact Nat.le_add_right _ _, fun k hk => sort_block9 w n os b d k (by omega) (by omega)⟩

end Go.Proofs.Ytefpoapbodbenaa

namespace Go.Proofs.Ytefpoapbodbenaa

/-- The first place that is like a place. -/
def hdA (R : Nat → Nat → Bool) (x : Nat) : Nat := ((List.range x).find? fun k => R k x).getD x
theorem hdA_le (R : Nat → Nat → Bool) (x : Nat) : hdA R x ≤ x := by
  unfold hdA
  cases h : (List.range x).find? fun k => R k x with
  | none => exact Nat.le_refl _
  | some k => exact Nat.le_of_lt (List.mem_range.1 (List.mem_of_find?_eq_some h))
theorem hdA_like {R : Nat → Nat → Bool} (hr : ∀ x, R x x = true) (x : Nat) : R (hdA R x) x = true := by
  unfold hdA
  cases h : (List.range x).find? fun k => R k x with
  | none => exact hr x
  | some k => exact List.find?_some (p := fun k => R k x) h
theorem find_range {P : Nat → Bool} : ∀ {n k}, k < n → P k = true → (∀ j, j < k → P j = false) → (List.range n).find? P = some k
  | 0, k, h, _, _ => absurd h (Nat.not_lt_zero _)
  | n + 1, k, h, hk, hj => by
    rw [List.range_succ, List.find?_append]
    by_cases e : k = n
    · subst e
      have : (List.range k).find? P = none := List.find?_eq_none.2 fun x hx => by rw [hj x (List.mem_range.1 hx)]; simp
      rw [this]
      simp [hk]
    · rw [find_range (n := n) (by omega) hk hj]; rfl
theorem find_range_none {P : Nat → Bool} {n : Nat} (h : ∀ j, j < n → P j = false) : (List.range n).find? P = none := List.find?_eq_none.2 fun x hx => by rw [h x (List.mem_range.1 hx)]; simp
theorem hdA_least {R : Nat → Nat → Bool} {x k : Nat} (h : k < hdA R x) : R k x = false := by
  cases hk : R k x with
  | false => rfl
  | true =>
    exfalso
    have hle := hdA_le R x
    have : ∃ j, j ≤ k ∧ R j x = true ∧ ∀ i, i < j → R i x = false := by
      clear h hle
      induction k using Nat.strongRecOn with
      | _ k ih =>
        by_cases e : ∀ i, i < k → R i x = false
        · exact ⟨k, Nat.le_refl _, hk, e⟩
        · simp only [Classical.not_forall] at e
          obtain ⟨i, hi, hn⟩ := e
          obtain ⟨j, h1, h2, h3⟩ := ih i hi (by simpa using hn)
          exact ⟨j, by omega, h2, h3⟩
    obtain ⟨j, h1, h2, h3⟩ := this
    have : hdA R x = j := by
      unfold hdA
      rw [find_range (P := fun k => R k x) (by omega) h2 h3]; rfl
    omega
theorem hdA_is {R : Nat → Nat → Bool} {x k : Nat} (hk : k < x) (h1 : R k x = true) (h2 : ∀ j, j < k → R j x = false) : hdA R x = k := by
  unfold hdA
  rw [find_range (P := fun k => R k x) hk h1 h2]; rfl
theorem hdA_self {R : Nat → Nat → Bool} {x : Nat} (h : ∀ j, j < x → R j x = false) : hdA R x = x := by
  unfold hdA
  rw [find_range_none h]; rfl
/-- Is a place the first of its class? How many classes begin below a place; the class of a place. -/
def isH (R : Nat → Nat → Bool) (x : Nat) : Bool := hdA R x == x
def clA (R : Nat → Nat → Bool) (x : Nat) : Nat := cntT (isH R) (hdA R x)
/-- What tells apart, told as an equivalence. -/
structure eqR (R : Nat → Nat → Bool) : Prop where
  re : ∀ x, R x x = true
  sy : ∀ x y, R x y = true → R y x = true
  tr : ∀ x y z, R x y = true → R y z = true → R x z = true
theorem hdA_head {R : Nat → Nat → Bool} (h : eqR R) (x : Nat) : isH R (hdA R x) = true := by
  unfold isH
  rw [beq_iff_eq]
  refine hdA_self fun j hj => ?_
  cases hk : R j (hdA R x) with
  | false => rfl
  | true => rw [← hdA_least hj]; exact (h.tr _ _ _ hk (hdA_like h.re x)).symm
theorem hdA_same {R : Nat → Nat → Bool} (h : eqR R) {x y : Nat} (hxy : R x y = true) : hdA R x = hdA R y := by
  have main : ∀ x y, R x y = true → hdA R y ≤ hdA R x := by
    intro x y hxy
    rcases Nat.lt_or_ge (hdA R x) (hdA R y) with g | g
    · have := hdA_least g
      rw [h.tr _ _ _ (hdA_like h.re x) hxy] at this; cases this
    · exact g
  exact Nat.le_antisymm (main y x (h.sy _ _ hxy)) (main x y hxy)
theorem cntT_lt {T : Nat → Bool} {a b : Nat} (hab : a < b) (ha : T a = true) : cntT T a < cntT T b := by
  induction b with
  | zero => omega
  | succ b ih =>
    rw [cntT_succ]
    by_cases e : a = b
    · subst e; rw [if_pos ha]; omega
    · have := ih (by omega); omega
theorem clA_iff {R : Nat → Nat → Bool} (h : eqR R) {x y : Nat} : clA R x = clA R y ↔ R x y = true := by
  constructor
  · intro e
    unfold clA at e
    have : hdA R x = hdA R y := by
      rcases Nat.lt_trichotomy (hdA R x) (hdA R y) with g | g | g
      · have := cntT_lt g (hdA_head h x); omega
      · exact g
      · have := cntT_lt g (hdA_head h y); omega
    have h1 := hdA_like h.re x
    have h2 := hdA_like h.re y
    rw [this] at h1
    exact h.tr _ _ _ (h.sy _ _ h1) h2
  · intro e
    unfold clA
    rw [hdA_same h e]
theorem clA_head {R : Nat → Nat → Bool} {x : Nat} (h : isH R x = true) : clA R x = cntT (isH R) x := by
  unfold isH at h
  unfold clA
  rw [beq_iff_eq.1 h]
theorem clA_lt {R : Nat → Nat → Bool} (h : eqR R) {x n : Nat} (hx : x < n) : clA R x < cntT (isH R) n := by
  have := hdA_le R x
  exact cntT_lt (by omega) (hdA_head h x)
/-- Are two places alike to two lists? -/
def joR (a b : Nat → Int) (x y : Nat) : Bool := a x == a y && b x == b y
theorem joR_iff {a b : Nat → Int} {x y : Nat} : joR a b x y = true ↔ a x = a y ∧ b x = b y := by unfold joR; simp
theorem joR_eq (a b : Nat → Int) : eqR (joR a b) where
  re x := joR_iff.2 ⟨rfl, rfl⟩
  sy x y h := by have := joR_iff.1 h; exact joR_iff.2 ⟨this.1.symm, this.2.symm⟩
  tr x y z h g := by have h := joR_iff.1 h; have g := joR_iff.1 g; exact joR_iff.2 ⟨h.1.trans g.1, h.2.trans g.2⟩
/-- The first place of a class among n; -1. -/
def fsA (l : Nat → Int) (n : Nat) (c : Int) : Int := (((List.range n).find? fun i => l i == c).map fun i : Nat => (i : Int)).getD (-1)
end Go.Proofs.Ytefpoapbodbenaa
