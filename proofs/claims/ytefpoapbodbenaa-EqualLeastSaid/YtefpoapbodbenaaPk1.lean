/-
  Trees as lists: where a part begins, what is a tree, how deep it is: the plain mathematics.
  The fifth reference's way down: what tokens are, as a tree: the plain mathematics.
  The fifth reference's way down makes trees: what it tells, put behind any nodes, is one part more.
  The fifth reference's Wrong: the first token that is wrong: the plain mathematics.
  The fifth reference's way down keeps the order: the leaves of what it tells are the tokens that make leaves, in order.
  The fifth reference's way down comes to the end: where Wrong tells nothing, and no group stays open, all tokens are taken.
  What runs to one part is a tree.
  Trees as tokens, and back: what the way down makes of the tokens that a tree is told as. Plain facts.
  Sets of bytes as functions from numbers to bools: a word of 64 bits out of such a function, and what the operations on words make of it. Plain facts, no program.
  What all texts lean on: imports, and small words on worlds.
  Nodes and tokens in memory: rows that a call owns, and what is read.
-/
import Derived.Test.YtefpoapbodbenaaRows
import Derived.WalkKit
import Derived.Test.YtefpoapbodbenaaProg
import Derived.WalkSpells
import Derived.WalkLawsBesides
import Derived.Handy
import Derived.KernelRfl
import Derived.Deep.RegionHeld3
import Derived.Deep.RegionHeldLaw
import Derived.Deep.QuietTactic
import Derived.BigQuiet
import Derived.Lib.Hide
import Derived.OneCell
import Derived.Laws.StructEq
import Derived.Laws.OwnMore
import Derived.OwnWalk
namespace Go.Proofs.Ytefpoapbodbenaa

/-- A node: its kind, the words of its set, Lo and Hi. -/
structure Nd where
  k : Int
  a : Int
  b : Int
  c : Int
  d : Int
  lo : Int
  hi : Int

/-- How many arguments a kind has. -/
def ar (k : Int) : Int := if k = 1 ∨ k = 2 ∨ k = 3 ∨ k = 4 then 0 else if k = 7 then 1 else if k = 5 ∨ k = 6 then 2 else -1
theorem ar_cases (k : Int) : (ar k = 0 ∧ (k = 1 ∨ k = 2 ∨ k = 3 ∨ k = 4)) ∨ (ar k = 1 ∧ k = 7) ∨ (ar k = 2 ∧ (k = 5 ∨ k = 6)) ∨ (ar k = -1 ∧ k ≠ 1 ∧ k ≠ 2 ∧ k ≠ 3 ∧ k ≠ 4 ∧ k ≠ 5 ∧ k ≠ 6 ∧ k ≠ 7) := by
  unfold ar; split
  · exact .inl ⟨rfl, by omega⟩
  · split
    · exact .inr (.inl ⟨rfl, by omega⟩)
    · split
      · exact .inr (.inr (.inl ⟨rfl, by omega⟩))
      · exact .inr (.inr (.inr ⟨rfl, by omega⟩))
theorem ar_bd (k : Int) : -1 ≤ ar k ∧ ar k ≤ 2 := by rcases ar_cases k with h | h | h | h <;> omega

/-- Where m parts begin, the last of which ends right ahead of p; -1: nowhere. -/
def back (N : Nat → Nd) : Nat → Nat → Int
  | 0, m => if m = 0 then 0 else -1
  | p + 1, m => if m = 0 then (p + 1 : Nat) else if ar (N p).k < 0 then -1 else back N p (m - 1 + (ar (N p).k).toNat)
theorem back_zero (N : Nat → Nd) (p : Nat) : back N p 0 = p := by cases p <;> simp [back]
theorem back_none (N : Nat → Nd) (m : Nat) : back N 0 (m + 1) = -1 := by simp [back]
theorem back_succ (N : Nat → Nd) (p m : Nat) : back N (p + 1) (m + 1) = if ar (N p).k < 0 then -1 else back N p (m + (ar (N p).k).toNat) := by simp [back]
theorem back_bd (N : Nat → Nd) : ∀ p m, -1 ≤ back N p m ∧ (0 ≤ back N p m → back N p m + m ≤ p) := by
  intro p
  induction p with
  | zero => intro m; cases m with
    | zero => rw [back_zero]; omega
    | succ m => rw [back_none]; omega
  | succ p ih => intro m; cases m with
    | zero => rw [back_zero]; omega
    | succ m =>
      rw [back_succ]; split
      · omega
      · have := ih (m + (ar (N p).k).toNat); omega
theorem back_add (N : Nat → Nd) : ∀ p m n, back N p (m + n) = if back N p m < 0 then -1 else back N (back N p m).toNat n := by
  intro p
  induction p with
  | zero => intro m n; cases m with
    | zero => rw [back_zero]; simp
    | succ m => rw [show m + 1 + n = m + n + 1 by omega, back_none, back_none]; simp
  | succ p ih => intro m n; cases m with
    | zero => rw [back_zero]; simp [show ¬ ((p : Int) + 1 < 0) by omega]
    | succ m =>
      rw [show m + 1 + n = m + n + 1 by omega, back_succ, back_succ]
      split
      · simp
      · rw [show m + n + (ar (N p).k).toNat = m + (ar (N p).k).toNat + n by omega, ih]

/-- Where the part begins whose last node is i. -/
def fst (N : Nat → Nd) (i : Nat) : Int := back N (i + 1) 1
theorem fst_eq (N : Nat → Nd) (i : Nat) : fst N i = if ar (N i).k < 0 then -1 else back N i (ar (N i).k).toNat := by
  unfold fst; rw [back_succ, Nat.zero_add]
theorem fst_bd (N : Nat → Nd) (i : Nat) : -1 ≤ fst N i ∧ fst N i ≤ i := by
  have := back_bd N (i + 1) 1
  unfold fst; omega
theorem back_step (N : Nat → Nd) (p m : Nat) : back N (p + 1) (m + 1) = if fst N p < 0 then -1 else back N (fst N p).toNat m := by
  rw [show m + 1 = 1 + m by omega, back_add]; rfl
theorem back_congr {N M : Nat → Nd} : ∀ (p m : Nat), (∀ j, j < p → N j = M j) → back N p m = back M p m := by
  intro p
  induction p with
  | zero => intro m _; simp [back]
  | succ p ih => intro m h; cases m with
    | zero => rw [back_zero, back_zero]
    | succ m => rw [back_succ, back_succ, h p (by omega), ih _ fun j hj => h j (by omega)]
theorem back_shift (N : Nat → Nd) (f : Nat) : ∀ p m, back (fun j => N (f + j)) p m = if back N (f + p) m < f then -1 else back N (f + p) m - f := by
  intro p
  induction p with
  | zero => intro m; cases m with
    | zero => rw [back_zero, back_zero]; simp
    | succ m =>
      rw [back_none]
      have := back_bd N (f + 0) (m + 1)
      rw [if_pos (by omega)]
  | succ p ih => intro m; cases m with
    | zero => rw [back_zero, back_zero, if_neg (by omega)]; omega
    | succ m =>
      rw [back_succ, show f + (p + 1) = f + p + 1 by omega, back_succ]
      split
      · rw [if_pos (by omega)]
      · rw [ih]
/-- What lies in a part goes back no further than it. -/
theorem back_nest (N : Nat → Nd) (f : Nat) : ∀ p m, back N p m = f → ∀ q, f < q → q ≤ p → ∃ m', back N q (m' + 1) = f := by
  intro p
  induction p with
  | zero => intro m h q h1 h2; omega
  | succ p ih =>
    intro m h q h1 h2
    cases m with
    | zero => rw [back_zero] at h; omega
    | succ m =>
      by_cases hq : q = p + 1
      · subst hq; exact ⟨m, h⟩
      · rw [back_succ] at h
        split at h
        · omega
        · exact ih _ h q h1 (by omega)
theorem fst_nest {N : Nat → Nd} {i f : Nat} (h : fst N i = f) {j : Nat} (h1 : f ≤ j) (h2 : j ≤ i) : (f : Int) ≤ fst N j := by
  obtain ⟨m, hm⟩ := back_nest N f (i + 1) 1 h (j + 1) (by omega) (by omega)
  rw [back_step] at hm
  split at hm
  · omega
  · have := back_bd N (fst N j).toNat m; omega

/-- Are a node's Set, Lo and Hi such as its kind lets be? -/
def okN (x : Nd) : Bool := (x.k == 1 || (x.a == 0 && x.b == 0 && x.c == 0 && x.d == 0)) && (if x.k = 7 then decide (0 ≤ x.lo) && decide (x.lo ≤ 32) && (x.hi == -1 || (decide (x.lo ≤ x.hi) && decide (x.hi ≤ 32))) else x.lo == 0 && x.hi == 0)

/-- How many parts are nobody's argument ahead of node k. -/
def dep (N : Nat → Nd) : Nat → Int
  | 0 => 0
  | k + 1 => dep N k + 1 - ar (N k).k
def good (N : Nat → Nd) (i : Nat) : Prop := 0 ≤ ar (N i).k ∧ ar (N i).k ≤ dep N i ∧ okN (N i) = true
instance (N : Nat → Nd) (i : Nat) : Decidable (good N i) := by unfold good; infer_instance
def tree (N : Nat → Nd) (n : Nat) : Prop := n ≤ 512 ∧ (∀ i, i < n → good N i) ∧ dep N n = 1
instance (N : Nat → Nd) (n : Nat) : Decidable (tree N n) := by unfold tree; infer_instance

theorem dep_bd {N : Nat → Nd} : ∀ {p}, (∀ i, i < p → good N i) → 0 ≤ dep N p ∧ (0 < p → 1 ≤ dep N p) ∧ dep N p ≤ p := by
  intro p
  induction p with
  | zero => intro _; simp [dep]
  | succ p ih =>
    intro h
    have h1 := ih fun i hi => h i (by omega)
    have h2 := h p (by omega)
    unfold good at h2
    simp only [dep]
    omega
theorem back_dep {N : Nat → Nd} : ∀ {p}, (∀ i, i < p → good N i) → ∀ m : Nat, ((m : Int) ≤ dep N p → 0 ≤ back N p m ∧ dep N (back N p m).toNat = dep N p - m) ∧ (dep N p < m → back N p m = -1) := by
  intro p
  induction p with
  | zero => intro _ m; cases m with
    | zero => rw [back_zero]; simp [dep]
    | succ m => rw [back_none]; refine ⟨fun h => ?_, fun _ => rfl⟩; simp only [dep] at h; omega
  | succ p ih => intro h m; cases m with
    | zero => have := dep_bd h; rw [back_zero]; simp; omega
    | succ m =>
      have h2 := h p (by omega)
      unfold good at h2
      have h3 := ih (fun i hi => h i (by omega)) (m + (ar (N p).k).toNat)
      rw [back_succ, if_neg (by omega)]
      simp only [dep]
      constructor
      · intro h4
        have := h3.1 (by omega)
        exact ⟨this.1, by rw [this.2]; omega⟩
      · intro h4
        exact h3.2 (by omega)
/-- Behind nodes that are good a node is good just if its part begins somewhere, and its fields fit. -/
theorem good_iff {N : Nat → Nd} {i : Nat} (h : ∀ j, j < i → good N j) : good N i ↔ 0 ≤ fst N i ∧ okN (N i) = true := by
  have hb := back_dep h (ar (N i).k).toNat
  rw [fst_eq]
  unfold good
  constructor
  · rintro ⟨h0, h1, h2⟩
    rw [if_neg (by omega)]
    exact ⟨(hb.1 (by omega)).1, h2⟩
  · rintro ⟨h0, h2⟩
    split at h0
    · omega
    · refine ⟨by omega, ?_, h2⟩
      by_cases hle : ar (N i).k ≤ dep N i
      · exact hle
      · rw [hb.2 (by omega)] at h0; omega
theorem goods_iff {N : Nat → Nd} : ∀ {n}, (∀ i, i < n → good N i) ↔ ∀ i, i < n → 0 ≤ fst N i ∧ okN (N i) = true := by
  intro n
  induction n with
  | zero => simp
  | succ n ih =>
    constructor
    · intro h i hi
      exact (good_iff fun j hj => h j (by omega)).1 (h i hi)
    · intro h i hi
      have hn := ih.2 fun i hi => h i (by omega)
      by_cases he : i = n
      · subst he; exact (good_iff hn).2 (h i hi)
      · exact hn i (by omega)
/-- A tree, by where its parts begin. -/
theorem tree_iff {N : Nat → Nd} {n : Nat} : tree N n ↔ 0 < n ∧ n ≤ 512 ∧ (∀ i, i < n → 0 ≤ fst N i ∧ okN (N i) = true) ∧ fst N (n - 1) = 0 := by
  unfold tree
  constructor
  · rintro ⟨h1, h2, h3⟩
    have hn : 0 < n := by
      rcases Nat.eq_zero_or_pos n with rfl | h
      · simp [dep] at h3
      · exact h
    refine ⟨hn, h1, goods_iff.1 h2, ?_⟩
    obtain ⟨m, rfl⟩ : ∃ m, n = m + 1 := ⟨n - 1, by omega⟩
    obtain ⟨a, b⟩ := (back_dep h2 1).1 (by omega)
    show back N (m + 1) 1 = 0
    have hr := back_bd N (m + 1) 1
    have := dep_bd (N := N) (p := (back N (m + 1) 1).toNat) fun i hi => h2 i (by omega)
    omega
  · rintro ⟨h0, h1, h2, h3⟩
    have hg := goods_iff.2 h2
    refine ⟨h1, hg, ?_⟩
    obtain ⟨m, rfl⟩ : ∃ m, n = m + 1 := ⟨n - 1, by omega⟩
    have h3 : back N (m + 1) 1 = 0 := h3
    have hb := back_dep hg 1
    by_cases hd : dep N (m + 1) < 1
    · rw [hb.2 (by omega)] at h3; omega
    · have := (hb.1 (by omega)).2
      rw [h3] at this
      simp [dep] at this ⊢
      omega

/-- The greatest of some numbers, 0 at least. -/
def mx : List Int → Int
  | [] => 0
  | x :: l => max x (mx l)
/-- How deep the parts are that are nobody's argument ahead of node k, the last one first. -/
def stk (N : Nat → Nd) : Nat → List Int
  | 0 => []
  | k + 1 => (mx ((stk N k).take (ar (N k).k).toNat) + 1) :: (stk N k).drop (ar (N k).k).toNat
/-- How deep the part is whose last node is i. -/
def dpt (N : Nat → Nd) (i : Nat) : Int := mx ((stk N i).take (ar (N i).k).toNat) + 1
theorem stk_succ (N : Nat → Nd) (k : Nat) : stk N (k + 1) = dpt N k :: (stk N k).drop (ar (N k).k).toNat := rfl
theorem stk_len {N : Nat → Nd} : ∀ {k}, (∀ i, i < k → good N i) → ((stk N k).length : Int) = dep N k := by
  intro k
  induction k with
  | zero => intro _; simp [stk, dep]
  | succ k ih =>
    intro h
    have h1 := ih fun i hi => h i (by omega)
    have h2 := h k (by omega)
    unfold good at h2
    simp [stk, dep]
    omega
theorem stk_back {N : Nat → Nd} : ∀ {p}, (∀ i, i < p → good N i) → ∀ m : Nat, (m : Int) ≤ dep N p → (stk N p).drop m = stk N (back N p m).toNat := by
  intro p
  induction p with
  | zero => intro _ m hm; simp [dep] at hm; subst hm; simp [back_zero, stk]
  | succ p ih => intro h m hm; cases m with
    | zero => rw [back_zero]; simp
    | succ m =>
      have h2 := h p (by omega)
      unfold good at h2
      rw [back_succ, if_neg (by omega), stk_succ, List.drop_succ_cons, List.drop_drop, ← ih (fun i hi => h i (by omega)), Nat.add_comm m]
      simp only [dep] at hm
      omega
theorem mx_nonneg (l : List Int) : 0 ≤ mx l := by cases l <;> simp [mx]; rename_i x l; have := mx_nonneg l; omega
theorem mx_append (l r : List Int) : mx (l ++ r) = max (mx l) (mx r) := by
  induction l with
  | nil => have := mx_nonneg r; simp [mx]; omega
  | cons x l ih => simp only [List.cons_append, mx, ih]; omega
theorem dpt_pos (N : Nat → Nd) (i : Nat) : 1 ≤ dpt N i := by
  have := mx_nonneg ((stk N i).take (ar (N i).k).toNat)
  unfold dpt; omega
/-- How deep a part is, by its arguments. -/
theorem dpt_zero {N : Nat → Nd} {i : Nat} (h : ar (N i).k = 0) : dpt N i = 1 := by unfold dpt; rw [h]; simp [mx]
theorem stk_one {N : Nat → Nd} {p : Nat} (hp : 0 < p) : ∃ r, stk N p = dpt N (p - 1) :: r := by
  obtain ⟨q, rfl⟩ : ∃ q, p = q + 1 := ⟨p - 1, by omega⟩
  exact ⟨_, stk_succ N q⟩
theorem dpt_one {N : Nat → Nd} {i : Nat} (hi : 0 < i) (h : ar (N i).k = 1) : dpt N i = max 0 (dpt N (i - 1)) + 1 := by
  obtain ⟨r, hr⟩ := stk_one (N := N) hi
  unfold dpt at *
  rw [h, hr]
  simp [mx]
  omega
theorem dpt_two {N : Nat → Nd} {i f : Nat} (hg : ∀ j, j < i → good N j) (hi : 0 < i) (h : ar (N i).k = 2) (hf : fst N (i - 1) = f) (hf0 : 0 < f) : dpt N i = max (max 0 (dpt N (f - 1))) (dpt N (i - 1)) + 1 := by
  obtain ⟨p, rfl⟩ : ∃ p, i = p + 1 := ⟨i - 1, by omega⟩
  have hd : 1 ≤ dep N (p + 1) := (dep_bd hg).2.1 (by omega)
  have hb : (stk N (p + 1)).drop 1 = stk N f := by
    rw [stk_back hg 1 (by omega), show back N (p + 1) 1 = f from hf]; simp
  obtain ⟨r, hr⟩ := stk_one (N := N) hf0
  obtain ⟨r', hr'⟩ := stk_one (N := N) (p := p + 1) (by omega)
  rw [hr'] at hb
  simp only [List.drop_succ_cons, List.drop_zero] at hb
  rw [show dpt N (p + 1) = mx ((stk N (p + 1)).take (ar (N (p + 1)).k).toNat) + 1 from rfl, h, hr', hb, hr]
  show mx [dpt N (p + 1 - 1), dpt N (f - 1)] + 1 = _
  have := dpt_pos N (f - 1)
  have := dpt_pos N (p + 1 - 1)
  simp only [mx]
  omega

/-- A part of a tree, alone: a tree; as deep as in the tree; the tree is no less deep. -/
theorem tree_part {N : Nat → Nd} {n i f : Nat} (ht : tree N n) (hi : i < n) (hf : fst N i = f) : tree (fun j => N (f + j)) (i + 1 - f) := by
  obtain ⟨h0, h1, h2, h3⟩ := tree_iff.1 ht
  have hb := fst_bd N i
  refine tree_iff.2 ⟨by omega, by omega, fun j hj => ⟨?_, (h2 (f + j) (by omega)).2⟩, ?_⟩
  · have := fst_nest hf (j := f + j) (by omega) (by omega)
    unfold fst at this ⊢
    rw [back_shift, show f + (j + 1) = f + j + 1 by omega, if_neg (by omega)]; omega
  · have hf' : back N (i + 1) 1 = f := hf
    unfold fst
    rw [back_shift, show f + (i + 1 - f - 1 + 1) = i + 1 by omega, hf', if_neg (by omega)]; omega
theorem stk_part {N : Nat → Nd} (f : Nat) : ∀ {m}, (∀ j, j < m → good (fun j => N (f + j)) j) → stk N (f + m) = stk (fun j => N (f + j)) m ++ stk N f := by
  intro m
  induction m with
  | zero => intro _; simp [stk]
  | succ m ih =>
    intro h
    have hg := h m (by omega)
    have hl := stk_len (N := fun j => N (f + j)) (k := m) fun j hj => h j (by omega)
    have hg1 : 0 ≤ ar (N (f + m)).k := hg.1
    have hg2 : ar (N (f + m)).k ≤ dep (fun j => N (f + j)) m := hg.2.1
    rw [show f + (m + 1) = f + m + 1 by omega]
    simp only [stk]
    rw [ih fun j hj => h j (by omega), List.take_append_of_le_length (by omega), List.drop_append_of_le_length (by omega)]
    simp
theorem dpt_part {N : Nat → Nd} {n i f : Nat} (ht : tree N n) (hi : i < n) (hf : fst N i = f) : dpt (fun j => N (f + j)) (i + 1 - f - 1) = dpt N i := by
  have hp := tree_part ht hi hf
  have hb := fst_bd N i
  have hs := stk_part (N := N) f (m := i + 1 - f) hp.2.1
  rw [show f + (i + 1 - f) = i + 1 by omega] at hs
  obtain ⟨r, hr⟩ := stk_one (N := fun j => N (f + j)) (p := i + 1 - f) (by omega)
  rw [hr, stk_succ] at hs
  simp only [List.cons_append] at hs
  exact (List.cons.inj hs).1.symm
theorem mx_stk (N : Nat → Nd) (k : Nat) : ∀ m, mx (stk N k) ≤ mx (stk N (k + m)) := by
  intro m
  induction m with
  | zero => exact Int.le_refl _
  | succ m ih =>
    refine Int.le_trans ih ?_
    rw [show k + (m + 1) = k + m + 1 by omega]
    have := mx_append ((stk N (k + m)).take (ar (N (k + m)).k).toNat) ((stk N (k + m)).drop (ar (N (k + m)).k).toNat)
    rw [List.take_append_drop] at this
    simp only [stk, mx]
    omega
theorem stk_root {N : Nat → Nd} {n : Nat} (ht : tree N n) : stk N n = [dpt N (n - 1)] := by
  have hl := stk_len ht.2.1
  rw [ht.2.2] at hl
  obtain ⟨h0, _⟩ := tree_iff.1 ht
  obtain ⟨r, hr⟩ := stk_one (N := N) h0
  rw [hr] at hl ⊢
  obtain rfl : r = [] := by
    cases r with
    | nil => rfl
    | cons x r => simp at hl; omega
  rfl
theorem dpt_le {N : Nat → Nd} {n i : Nat} (ht : tree N n) (hi : i < n) : dpt N i ≤ dpt N (n - 1) := by
  have h1 := mx_stk N (i + 1) (n - (i + 1))
  rw [show i + 1 + (n - (i + 1)) = n by omega, stk_root ht, stk_succ] at h1
  have := dpt_pos N (n - 1)
  simp only [mx] at h1
  omega
/-- The last nodes of a node's arguments, in order. -/
def kids (N : Nat → Nd) (i : Nat) : List Int :=
  if ar (N i).k = 1 then [(i : Int) - 1] else if ar (N i).k = 2 then [fst N (i - 1) - 1, (i : Int) - 1] else []
theorem dpt_congr {N M : Nat → Nd} {n : Nat} (h : ∀ j, j < n → N j = M j) : ∀ {k}, k ≤ n → stk N k = stk M k := by
  intro k
  induction k with
  | zero => intro _; rfl
  | succ k ih => intro hk; simp only [stk]; rw [ih (by omega), h k (by omega)]
end Go.Proofs.Ytefpoapbodbenaa

namespace Go.Proofs.Ytefpoapbodbenaa

/-- A token: its kind, its place, the words of its set, Lo and Hi. -/
structure Tn where
  k : Int
  p : Int
  a : Int
  b : Int
  c : Int
  d : Int
  lo : Int
  hi : Int
def ndRep (t : Tn) : Nd := ⟨7, 0, 0, 0, 0, t.lo, t.hi⟩
def ndSet (t : Tn) : Nd := ⟨1, t.a, t.b, t.c, t.d, 0, 0⟩
def nd0 (k : Int) : Nd := ⟨k, 0, 0, 0, 0, 0, 0⟩

/-- The repeats from a place on, and where they end. -/
def repsL (T : Nat → Tn) (n : Nat) : Nat → Nat → List Nd × Nat
  | 0, i => ([], i)
  | u + 1, i => if i < n ∧ (T i).k = 5 then (ndRep (T i) :: (repsL T n u (i + 1)).1, (repsL T n u (i + 1)).2) else ([], i)
/-- What a part begins with, and where that ends; e: what stands in a group. -/
def partB (T : Nat → Tn) (e : Nat → List Nd × Nat) (at_ : Nat) : List Nd × Nat :=
  if (T at_).k = 1 then ([ndSet (T at_)], at_ + 1) else if (T at_).k = 6 then ([nd0 3], at_ + 1) else if (T at_).k = 7 then ([nd0 4], at_ + 1) else ((e (at_ + 1)).1, (e (at_ + 1)).2 + 1)
def partF (T : Nat → Tn) (n : Nat) (e : Nat → List Nd × Nat) (at_ : Nat) : List Nd × Nat :=
  ((partB T e at_).1 ++ (repsL T n (n + 1) (partB T e at_).2).1, (repsL T n (n + 1) (partB T e at_).2).2)
/-- Parts one behind the other. -/
def behL (T : Nat → Tn) (n : Nat) (e : Nat → List Nd × Nat) : Nat → Nat → List Nd → Nat → List Nd × Nat
  | 0, i, acc, _ => (acc, i)
  | u + 1, i, acc, many => if i < n ∧ (T i).k ≠ 2 ∧ (T i).k ≠ 4 then behL T n e u (partF T n e i).2 (acc ++ (partF T n e i).1 ++ if many = 0 then [] else [nd0 5]) (many + 1) else (if many = 0 then [nd0 2] else acc, i)
def bhF (T : Nat → Tn) (n : Nat) (e : Nat → List Nd × Nat) (at_ : Nat) : List Nd × Nat := behL T n e (n + 2) at_ [] 0
/-- Choices. -/
def eiL (T : Nat → Tn) (n : Nat) (e : Nat → List Nd × Nat) : Nat → Nat → List Nd → List Nd × Nat
  | 0, i, acc => (acc, i)
  | u + 1, i, acc => if i < n ∧ (T i).k = 2 then eiL T n e u (bhF T n e (i + 1)).2 (acc ++ (bhF T n e (i + 1)).1 ++ [nd0 6]) else (acc, i)
def eiF (T : Nat → Tn) (n : Nat) (e : Nat → List Nd × Nat) (at_ : Nat) : List Nd × Nat := eiL T n e (n + 2) (bhF T n e at_).2 (bhF T n e at_).1
def ei (T : Nat → Tn) (n : Nat) : Nat → Nat → List Nd × Nat
  | 0 => fun at_ => ([], at_)
  | u + 1 => eiF T n (ei T n u)

theorem repsL_bd (T : Nat → Tn) (n : Nat) : ∀ u i, i ≤ (repsL T n u i).2 ∧ (i ≤ n → (repsL T n u i).2 ≤ n) ∧ (n ≤ i → (repsL T n u i).2 = i) ∧ (repsL T n u i).1.length + i = (repsL T n u i).2 := by
  intro u
  induction u with
  | zero => intro i; simp [repsL]
  | succ u ih =>
    intro i
    unfold repsL
    split
    · rename_i h
      have := ih (i + 1)
      simp only [List.length_cons]
      omega
    · simp
/-- What is asked of the answer for a group, from a place on. -/
def eOk (n : Nat) (m : Nat) (e : Nat → List Nd × Nat) : Prop := ∀ a, m ≤ a → a ≤ n → a ≤ (e a).2 ∧ (e a).2 + a ≤ 2 * n + 1 ∧ 1 ≤ (e a).1.length ∧ (e a).1.length + 2 * a ≤ 2 * (e a).2 + 1
theorem eOk.mono {n m m' : Nat} {e : Nat → List Nd × Nat} (h : eOk n m e) (hm : m ≤ m') : eOk n m' e := fun a h1 h2 => h a (by omega) h2
theorem partB_bd {T : Nat → Tn} {n m : Nat} {e : Nat → List Nd × Nat} (he : eOk n m e) {a : Nat} (h1 : m ≤ a + 1) (h2 : a < n) :
    a + 1 ≤ (partB T e a).2 ∧ (partB T e a).2 + a ≤ 2 * n + 1 ∧ 1 ≤ (partB T e a).1.length ∧ (partB T e a).1.length + 1 + 2 * a ≤ 2 * (partB T e a).2 := by
  have := he (a + 1) h1 (by omega)
  unfold partB
  split
  · simp; omega
  · split
    · simp; omega
    · split
      · simp; omega
      · simp only; omega
theorem partF_bd {T : Nat → Tn} {n m : Nat} {e : Nat → List Nd × Nat} (he : eOk n m e) {a : Nat} (h1 : m ≤ a + 1) (h2 : a < n) :
    a + 1 ≤ (partF T n e a).2 ∧ (partF T n e a).2 + a ≤ 2 * n + 1 ∧ 1 ≤ (partF T n e a).1.length ∧ (partF T n e a).1.length + 1 + 2 * a ≤ 2 * (partF T n e a).2 := by
  have hb := partB_bd (T := T) he h1 h2
  have hr := repsL_bd T n (n + 1) (partB T e a).2
  unfold partF
  simp only [List.length_append]
  omega
theorem behL_bd {T : Nat → Tn} {n m : Nat} {e : Nat → List Nd × Nat} (he : eOk n m e) (a : Nat) (h1 : m ≤ a + 1) : ∀ u i acc many, a ≤ i → i + a ≤ 2 * n + 1 → n + 1 ≤ u + i →
    (many = 0 → acc = [] ∧ i = a) → (0 < many → 1 ≤ acc.length ∧ acc.length + 1 + 2 * a ≤ 2 * i) →
    a ≤ (behL T n e u i acc many).2 ∧ (behL T n e u i acc many).2 + a ≤ 2 * n + 1 ∧ 1 ≤ (behL T n e u i acc many).1.length ∧ (behL T n e u i acc many).1.length + 2 * a ≤ 2 * (behL T n e u i acc many).2 + 1 := by
  intro u
  induction u with
  | zero =>
    intro i acc many h2 h3 h4 h5 h6
    unfold behL
    simp only
    rcases Nat.eq_zero_or_pos many with h | h
    · exfalso; have := h5 h; omega
    · have := h6 h; omega
  | succ u ih =>
    intro i acc many h2 h3 h4 h5 h6
    unfold behL
    split
    · rename_i hc
      have hp := partF_bd (T := T) he (a := i) (by omega) hc.1
      refine ih _ _ _ (by omega) (by omega) (by omega) (fun h => by omega) (fun _ => ?_)
      rcases Nat.eq_zero_or_pos many with h | h
      · obtain ⟨rfl, rfl⟩ := h5 h
        rw [if_pos h]
        simp
        omega
      · have := h6 h
        rw [if_neg (by omega)]
        simp
        omega
    · simp only
      split
      · rename_i h
        have := h5 h
        simp
        omega
      · have := h6 (by omega)
        omega
theorem bhF_bd {T : Nat → Tn} {n m : Nat} {e : Nat → List Nd × Nat} (he : eOk n m e) (a : Nat) (h1 : m ≤ a + 1) (h2 : a ≤ n) :
    a ≤ (bhF T n e a).2 ∧ (bhF T n e a).2 + a ≤ 2 * n + 1 ∧ 1 ≤ (bhF T n e a).1.length ∧ (bhF T n e a).1.length + 2 * a ≤ 2 * (bhF T n e a).2 + 1 :=
  behL_bd he a h1 _ _ _ _ (by omega) (by omega) (by omega) (fun _ => ⟨rfl, rfl⟩) (fun h => by omega)
theorem eiL_bd {T : Nat → Tn} {n m : Nat} {e : Nat → List Nd × Nat} (he : eOk n m e) (a : Nat) (h1 : m ≤ a + 1) : ∀ u i acc, a ≤ i → i + a ≤ 2 * n + 1 → 1 ≤ acc.length → acc.length + 2 * a ≤ 2 * i + 1 →
    a ≤ (eiL T n e u i acc).2 ∧ (eiL T n e u i acc).2 + a ≤ 2 * n + 1 ∧ 1 ≤ (eiL T n e u i acc).1.length ∧ (eiL T n e u i acc).1.length + 2 * a ≤ 2 * (eiL T n e u i acc).2 + 1 := by
  intro u
  induction u with
  | zero => intro i acc h2 h3 h4 h5; unfold eiL; simp only; omega
  | succ u ih =>
    intro i acc h2 h3 h4 h5
    unfold eiL
    split
    · rename_i hc
      have hb := bhF_bd (T := T) he (i + 1) (by omega) (by omega)
      refine ih _ _ (by omega) (by omega) (by simp; omega) ?_
      simp
      omega
    · simp only; omega
theorem ei_ok (T : Nat → Tn) (n : Nat) : ∀ u, eOk n (n + 1 - u) (ei T n u) := by
  intro u
  induction u with
  | zero => intro a h1 h2; omega
  | succ u ih =>
    intro a h1 h2
    have hb := bhF_bd (T := T) ih a (by omega) h2
    have := eiL_bd (T := T) ih a (by omega) (n + 2) (bhF T n (ei T n u) a).2 (bhF T n (ei T n u) a).1 hb.1 hb.2.1 hb.2.2.1 hb.2.2.2
    exact this
end Go.Proofs.Ytefpoapbodbenaa

namespace Go.Proofs.Ytefpoapbodbenaa

/-- How many parts are nobody's argument behind some nodes, d ahead of them; none, if a node is not good. -/
def runD : List Nd → Int → Option Int
  | [], d => some d
  | x :: l, d => if 0 ≤ ar x.k ∧ ar x.k ≤ d ∧ okN x = true then runD l (d + 1 - ar x.k) else none
theorem runD_append (l r : List Nd) (d : Int) : runD (l ++ r) d = (runD l d).bind (runD r) := by
  induction l generalizing d with
  | nil => rfl
  | cons x l ih =>
    simp only [List.cons_append, runD]
    split
    · exact ih _
    · rfl
theorem runD_one {x : Nd} {d : Int} (h0 : 0 ≤ ar x.k) (h1 : ar x.k ≤ d) (h2 : okN x = true) : runD [x] d = some (d + 1 - ar x.k) := by
  simp only [runD]; rw [if_pos ⟨h0, h1, h2⟩]
theorem okN_nd0 (k : Int) (hk : k ≠ 7) : okN (nd0 k) = true := by simp [okN, nd0, hk]
theorem okN_set (t : Tn) : okN (ndSet t) = true := by simp [okN, ndSet]
theorem run_leaf {d : Int} (hd : 0 ≤ d) : runD [nd0 2] d = some (d + 1) ∧ runD [nd0 3] d = some (d + 1) ∧ runD [nd0 4] d = some (d + 1) := by
  have e : ar 2 = 0 ∧ ar 3 = 0 ∧ ar 4 = 0 := by decide
  refine ⟨?_, ?_, ?_⟩ <;> (rw [runD_one (by decide) hd (okN_nd0 _ (by decide))]; congr 1; show d + 1 - ar _ = d + 1; simp only [nd0]; omega)
theorem run_set {t : Tn} {d : Int} (hd : 0 ≤ d) : runD [ndSet t] d = some (d + 1) := by
  rw [runD_one (x := ndSet t) (by show 0 ≤ ar 1; decide) (by show ar 1 ≤ d; exact hd) (okN_set t)]; have e : ar 1 = 0 := by decide
  congr 1; show d + 1 - ar 1 = d + 1; omega
theorem run_two {d : Int} (hd : 0 ≤ d) : runD [nd0 5] (d + 2) = some (d + 1) ∧ runD [nd0 6] (d + 2) = some (d + 1) := by
  have e : ar 5 = 2 ∧ ar 6 = 2 := by decide
  refine ⟨?_, ?_⟩
  · rw [runD_one (x := nd0 5) (by show 0 ≤ ar 5; omega) (by show ar 5 ≤ d + 2; omega) (okN_nd0 _ (by decide)), show d + 2 + 1 - ar (nd0 5).k = d + 1 by show d + 2 + 1 - ar 5 = d + 1; omega]
  · rw [runD_one (x := nd0 6) (by show 0 ≤ ar 6; omega) (by show ar 6 ≤ d + 2; omega) (okN_nd0 _ (by decide)), show d + 2 + 1 - ar (nd0 6).k = d + 1 by show d + 2 + 1 - ar 6 = d + 1; omega]
/-- Are all repeats such as a tree lets be? -/
def repsOk (T : Nat → Tn) (n : Nat) : Prop := ∀ i, i < n → (T i).k = 5 → okN (ndRep (T i)) = true
def eRun (n m : Nat) (e : Nat → List Nd × Nat) : Prop := ∀ a, m ≤ a → a ≤ n → ∀ d, 0 ≤ d → runD (e a).1 d = some (d + 1)
theorem repsL_run {T : Nat → Tn} {n : Nat} (ho : repsOk T n) : ∀ u i d, 1 ≤ d → runD (repsL T n u i).1 d = some d := by
  intro u
  induction u with
  | zero => intro i d hd; rfl
  | succ u ih =>
    intro i d hd
    unfold repsL
    split
    · rename_i h
      have e7 : ar (ndRep (T i)).k = 1 := by show ar 7 = 1; decide
      simp only [runD]
      rw [if_pos ⟨by omega, by omega, ho i h.1 h.2⟩, show d + 1 - ar (ndRep (T i)).k = d by omega]
      exact ih _ _ hd
    · rfl
theorem partF_run {T : Nat → Tn} {n m : Nat} {e : Nat → List Nd × Nat} (ho : repsOk T n) (he : eRun n m e) {a : Nat} (h1 : m ≤ a + 1) (h2 : a < n) (d : Int) (hd : 0 ≤ d) : runD (partF T n e a).1 d = some (d + 1) := by
  have hb : runD (partB T e a).1 d = some (d + 1) := by
    unfold partB
    split
    · exact run_set hd
    · split
      · exact (run_leaf hd).2.1
      · split
        · exact (run_leaf hd).2.2
        · exact he (a + 1) h1 (by omega) d hd
  unfold partF
  rw [runD_append, hb]
  exact repsL_run ho _ _ _ (by omega)
theorem behL_run {T : Nat → Tn} {n m : Nat} {e : Nat → List Nd × Nat} (ho : repsOk T n) (hk : eOk n m e) (he : eRun n m e) (d : Int) (hd : 0 ≤ d) : ∀ u i acc many, m ≤ i + 1 → n + 1 ≤ u + i → 0 < u →
    runD acc d = some (d + if many = 0 then 0 else 1) → runD (behL T n e u i acc many).1 d = some (d + 1) := by
  intro u
  induction u with
  | zero => intro i acc many _ _ h _; omega
  | succ u ih =>
    intro i acc many h1 h2 _ h3
    unfold behL
    split
    · rename_i hc
      have hp := partF_bd (T := T) hk (a := i) h1 hc.1
      have hr := partF_run ho he (a := i) h1 hc.1
      refine ih _ _ _ (by omega) (by omega) (by omega) ?_
      rw [runD_append, runD_append, h3]
      rcases Nat.eq_zero_or_pos many with h | h
      · rw [if_pos h, if_pos h, if_neg (by omega)]
        simp only [Int.add_zero, Option.bind_some]
        rw [hr d hd]; rfl
      · rw [if_neg (by omega), if_neg (by omega), if_neg (by omega)]
        simp only [Option.bind_some]
        rw [hr (d + 1) (by omega)]
        simp only [Option.bind_some]
        rw [show d + 1 + 1 = d + 2 by omega]
        exact (run_two hd).1
    · simp only
      split
      · exact (run_leaf hd).1
      · rename_i h
        rw [if_neg h] at h3
        exact h3
theorem bhF_run {T : Nat → Tn} {n m : Nat} {e : Nat → List Nd × Nat} (ho : repsOk T n) (hk : eOk n m e) (he : eRun n m e) (a : Nat) (h1 : m ≤ a + 1) (d : Int) (hd : 0 ≤ d) : runD (bhF T n e a).1 d = some (d + 1) :=
  behL_run ho hk he d hd _ _ _ _ h1 (by omega) (by omega) (by simp [runD])
theorem eiL_run {T : Nat → Tn} {n m : Nat} {e : Nat → List Nd × Nat} (ho : repsOk T n) (hk : eOk n m e) (he : eRun n m e) (d : Int) (hd : 0 ≤ d) : ∀ u i acc, m ≤ i + 1 → runD acc d = some (d + 1) → runD (eiL T n e u i acc).1 d = some (d + 1) := by
  intro u
  induction u with
  | zero => intro i acc _ h; exact h
  | succ u ih =>
    intro i acc h1 h3
    unfold eiL
    split
    · rename_i hc
      have hb := bhF_bd (T := T) hk (i + 1) (by omega) (by omega)
      refine ih _ _ (by omega) ?_
      rw [runD_append, runD_append, h3]
      simp only [Option.bind_some]
      rw [bhF_run ho hk he (i + 1) (by omega) (d + 1) (by omega)]
      simp only [Option.bind_some]
      rw [show d + 1 + 1 = d + 2 by omega]
      exact (run_two hd).2
    · exact h3
theorem ei_run {T : Nat → Tn} {n : Nat} (ho : repsOk T n) : ∀ u, eRun n (n + 1 - u) (ei T n u) := by
  intro u
  induction u with
  | zero => intro a h1 h2; omega
  | succ u ih =>
    intro a h1 h2 d hd
    have hb := bhF_bd (T := T) (ei_ok T n u) a (by omega) h2
    exact eiL_run ho (ei_ok T n u) ih d hd _ _ _ (by omega) (bhF_run ho (ei_ok T n u) ih a (by omega) d hd)
end Go.Proofs.Ytefpoapbodbenaa

namespace Go.Proofs.Ytefpoapbodbenaa

/-- Does a part end with a token of this kind? -/
def endsP (k : Int) : Bool := k == 1 || k == 6 || k == 7 || k == 5 || k == 4
def badRep (t : Tn) : Bool := decide (t.lo < 0) || decide (32 < t.lo) || (t.hi != -1 && decide (t.hi < t.lo)) || decide (32 < t.hi)
/-- What is told from a place on, o groups open: the first token that is wrong, its error, how many groups stay open. -/
def wrF (T : Nat → Tn) (n : Nat) : Nat → Nat → Nat → Int × Int × Nat
  | 0, _, o => (-1, 0, o)
  | u + 1, i, o =>
    if n ≤ i then (-1, 0, o)
    else if (T i).k < 1 ∨ 7 < (T i).k then (i, 9, o)
    else if (T i).k = 5 ∧ badRep (T i) = true then (i, 9, o)
    else if (T i).k = 5 ∧ ¬ (0 < i ∧ endsP (T (i - 1)).k = true) then (i, 3, o)
    else if (T i).k = 3 ∧ o = 20 then (i, 4, o)
    else if (T i).k = 4 ∧ o = 0 then (i, 3, o)
    else wrF T n u (i + 1) (if (T i).k = 3 then o + 1 else if (T i).k = 4 then o - 1 else o)
theorem rep_ok {t : Tn} (h : badRep t = false) : okN (ndRep t) = true := by
  unfold badRep at h
  unfold okN ndRep
  simp at h ⊢
  omega
theorem wrF_zero {T : Nat → Tn} {n : Nat} : ∀ u i o, n + 1 ≤ u + i → (wrF T n u i o).2.1 = 0 → ∀ j, i ≤ j → j < n → 1 ≤ (T j).k ∧ (T j).k ≤ 7 ∧ ((T j).k = 5 → okN (ndRep (T j)) = true) := by
  intro u
  induction u with
  | zero => intro i o h1 _ j h2 h3; omega
  | succ u ih =>
    intro i o h1 h2 j h3 h4
    unfold wrF at h2
    rw [if_neg (by omega)] at h2
    by_cases c1 : (T i).k < 1 ∨ 7 < (T i).k
    · rw [if_pos c1] at h2; simp at h2
    rw [if_neg c1] at h2
    by_cases c2 : (T i).k = 5 ∧ badRep (T i) = true
    · rw [if_pos c2] at h2; simp at h2
    rw [if_neg c2] at h2
    by_cases c3 : (T i).k = 5 ∧ ¬ (0 < i ∧ endsP (T (i - 1)).k = true)
    · rw [if_pos c3] at h2; simp at h2
    rw [if_neg c3] at h2
    by_cases c4 : (T i).k = 3 ∧ o = 20
    · rw [if_pos c4] at h2; simp at h2
    rw [if_neg c4] at h2
    by_cases c5 : (T i).k = 4 ∧ o = 0
    · rw [if_pos c5] at h2; simp at h2
    rw [if_neg c5] at h2
    by_cases hj : j = i
    · subst hj
      refine ⟨by omega, by omega, fun h5 => rep_ok ?_⟩
      cases hb : badRep (T j)
      · rfl
      · exact absurd ⟨h5, hb⟩ c2
    · exact ih _ _ (by omega) h2 j (by omega) h4
theorem wrF_reps {T : Nat → Tn} {n : Nat} (h : (wrF T n (n + 1) 0 0).2.1 = 0) : repsOk T n := fun i hi hk => (wrF_zero _ _ _ (by omega) h i (by omega) hi).2.2 hk
/-- At most twenty groups are open; the place is one of the tokens. -/
theorem wrF_bd {T : Nat → Tn} {n : Nat} : ∀ u i o, o ≤ 20 → (wrF T n u i o).2.2 ≤ 20 ∧ ((wrF T n u i o).2.1 = 0 ∧ (wrF T n u i o).1 = -1 ∨ (wrF T n u i o).2.1 ≠ 0 ∧ (i : Int) ≤ (wrF T n u i o).1 ∧ (wrF T n u i o).1 < n) := by
  intro u
  induction u with
  | zero => intro i o h; exact ⟨h, .inl ⟨rfl, rfl⟩⟩
  | succ u ih =>
    intro i o h
    unfold wrF
    split
    · exact ⟨h, .inl ⟨rfl, rfl⟩⟩
    · split
      · exact ⟨h, .inr ⟨by simp, by simp, by simp; omega⟩⟩
      · split
        · exact ⟨h, .inr ⟨by simp, by simp, by simp; omega⟩⟩
        · split
          · exact ⟨h, .inr ⟨by simp, by simp, by simp; omega⟩⟩
          · split
            · exact ⟨h, .inr ⟨by simp, by simp, by simp; omega⟩⟩
            · split
              · exact ⟨h, .inr ⟨by simp, by simp, by simp; omega⟩⟩
              · rename_i c4 c5
                have ho : (if (T i).k = 3 then o + 1 else if (T i).k = 4 then o - 1 else o) ≤ 20 := by
                  split
                  · omega
                  · split <;> omega
                obtain ⟨h1, h2⟩ := ih (i + 1) _ ho
                refine ⟨h1, ?_⟩
                rcases h2 with h2 | ⟨h2, h3, h4⟩
                · exact .inl h2
                · exact .inr ⟨h2, by omega, h4⟩
end Go.Proofs.Ytefpoapbodbenaa

namespace Go.Proofs.Ytefpoapbodbenaa

def lfN (x : Nd) : Bool := !(x.k == 2 || x.k == 5 || x.k == 6)
def lfT (t : Tn) : Bool := !(t.k == 2 || t.k == 3 || t.k == 4)
def leafOf (t : Tn) : Nd := if t.k = 1 then ndSet t else if t.k = 6 then nd0 3 else if t.k = 7 then nd0 4 else ndRep t
/-- The leaves that the tokens from one place to another make. -/
def tl (T : Nat → Tn) (i j : Nat) : List Nd := ((List.range' i (j - i)).filter fun x => lfT (T x)).map fun x => leafOf (T x)
theorem tl_same (T : Nat → Tn) (i : Nat) : tl T i i = [] := by simp [tl]
theorem tl_split (T : Nat → Tn) {i j k : Nat} (h1 : i ≤ j) (h2 : j ≤ k) : tl T i k = tl T i j ++ tl T j k := by
  have h3 := List.range'_append (s := i) (m := j - i) (n := k - j) (step := 1)
  rw [show i + 1 * (j - i) = j by omega, show j - i + (k - j) = k - i by omega] at h3
  unfold tl
  rw [← h3, List.filter_append, List.map_append]
theorem tl_one (T : Nat → Tn) (i : Nat) : tl T i (i + 1) = if lfT (T i) = true then [leafOf (T i)] else [] := by
  unfold tl
  rw [show i + 1 - i = 1 by omega]
  by_cases h : lfT (T i) = true <;> simp [h]
def leaves (l : List Nd) : List Nd := l.filter lfN
theorem leaves_append (l r : List Nd) : leaves (l ++ r) = leaves l ++ leaves r := List.filter_append ..

theorem repsL_end (T : Nat → Tn) (n : Nat) : ∀ u i, n + 1 ≤ u + i → (repsL T n u i).2 < n → (T (repsL T n u i).2).k ≠ 5 := by
  intro u
  induction u with
  | zero => intro i h1 h2; simp only [repsL] at h2; omega
  | succ u ih =>
    intro i h1
    unfold repsL
    split
    · exact ih (i + 1) (by omega)
    · rename_i h
      intro h2 h3
      exact h ⟨h2, h3⟩
theorem repsL_leaf (T : Nat → Tn) (n : Nat) : ∀ u i, leaves (repsL T n u i).1 = tl T i (repsL T n u i).2 := by
  intro u
  induction u with
  | zero => intro i; simp [repsL, leaves, tl_same]
  | succ u ih =>
    intro i
    unfold repsL
    split
    · rename_i h
      have hb := (repsL_bd T n u (i + 1)).1
      simp only
      rw [tl_split T (j := i + 1) (by omega) hb, tl_one, if_pos (by simp [lfT, h.2]), ← ih]
      simp [leaves, lfN, ndRep, leafOf, h.2]
    · simp [leaves, tl_same]

/-- No part begins with a repeat. -/
def startOk (T : Nat → Tn) (n a : Nat) : Prop := a < n → (T a).k ≠ 5
def eLeaf (T : Nat → Tn) (n m : Nat) (e : Nat → List Nd × Nat) : Prop := ∀ a, m ≤ a → a ≤ n → startOk T n a → ((e a).2 < n → (T (e a).2).k = 4) ∧ ((e a).2 ≤ n → leaves (e a).1 = tl T a (e a).2)
/-- What Wrong asks of repeats, and of kinds. -/
def wellT (T : Nat → Tn) (n : Nat) : Prop := (∀ i, i < n → 1 ≤ (T i).k ∧ (T i).k ≤ 7) ∧ ∀ i, i < n → (T i).k = 5 → 0 < i ∧ endsP (T (i - 1)).k = true
theorem wellT.start {T : Nat → Tn} {n : Nat} (h : wellT T n) {a : Nat} (ha : a = 0 ∨ (T (a - 1)).k = 2 ∨ (T (a - 1)).k = 3) : startOk T n a := fun h1 h2 => by
  obtain ⟨h3, h4⟩ := h.2 a h1 h2
  rcases ha with ha | ha | ha
  · omega
  · rw [ha] at h4; exact absurd h4 (by decide)
  · rw [ha] at h4; exact absurd h4 (by decide)
theorem partF_leaf {T : Nat → Tn} {n m : Nat} {e : Nat → List Nd × Nat} (hw : wellT T n) (hk : eOk n m e) (he : eLeaf T n m e) {a : Nat} (h1 : m ≤ a + 1) (h2 : a < n) (h3 : (T a).k ≠ 2) (h4 : (T a).k ≠ 4) (h5 : (T a).k ≠ 5) :
    startOk T n (partF T n e a).2 ∧ ((partF T n e a).2 ≤ n → leaves (partF T n e a).1 = tl T a (partF T n e a).2) := by
  have hbd := partB_bd (T := T) hk h1 h2
  have hr := repsL_bd T n (n + 1) (partB T e a).2
  refine ⟨fun h => repsL_end T n _ _ (by omega) h, fun hle => ?_⟩
  have hle' : (partB T e a).2 ≤ n := by
    have : (partF T n e a).2 = (repsL T n (n + 1) (partB T e a).2).2 := rfl
    omega
  have hb : leaves (partB T e a).1 = tl T a (partB T e a).2 := by
    have hv := hw.1 a h2
    unfold partB at hle' ⊢
    by_cases c1 : (T a).k = 1
    · simp only [if_pos c1]
      rw [tl_one, if_pos (by simp [lfT, c1])]
      simp [leaves, lfN, ndSet, leafOf, c1]
    · simp only [if_neg c1] at hle' ⊢
      by_cases c2 : (T a).k = 6
      · simp only [if_pos c2]
        rw [tl_one, if_pos (by simp [lfT, c2])]
        simp [leaves, lfN, nd0, leafOf, c2]
      · simp only [if_neg c2] at hle' ⊢
        by_cases c3 : (T a).k = 7
        · simp only [if_pos c3]
          rw [tl_one, if_pos (by simp [lfT, c3])]
          simp [leaves, lfN, nd0, leafOf, c3]
        · simp only [if_neg c3] at hle' ⊢
          have k3 : (T a).k = 3 := by omega
          have hs : startOk T n (a + 1) := hw.start (.inr (.inr (by simpa using k3)))
          obtain ⟨e1, e2⟩ := he (a + 1) h1 (by omega) hs
          have hk1 := hk (a + 1) h1 (by omega)
          have e3 := e1 (by omega)
          rw [tl_split T (j := a + 1) (by omega) (by omega), tl_one, if_neg (by simp [lfT, k3]), List.nil_append, tl_split T (i := a + 1) (j := (e (a + 1)).2) (by omega) (by omega), tl_one, if_neg (by simp [lfT, e3]), List.append_nil]
          exact e2 (by omega)
  unfold partF at hle ⊢
  simp only at hle ⊢
  rw [leaves_append, hb, repsL_leaf, ← tl_split T (by omega) hr.1]
theorem behL_mono {T : Nat → Tn} {n m : Nat} {e : Nat → List Nd × Nat} (hk : eOk n m e) : ∀ u i acc many, m ≤ i + 1 → i ≤ (behL T n e u i acc many).2 := by
  intro u
  induction u with
  | zero => intro i acc many _; exact Nat.le_refl _
  | succ u ih =>
    intro i acc many h
    unfold behL
    split
    · rename_i hc
      have hp := partF_bd (T := T) hk (a := i) h hc.1
      have := ih (partF T n e i).2 (acc ++ (partF T n e i).1 ++ if many = 0 then [] else [nd0 5]) (many + 1) (by omega)
      omega
    · exact Nat.le_refl _
theorem behL_leaf {T : Nat → Tn} {n m : Nat} {e : Nat → List Nd × Nat} (hw : wellT T n) (hk : eOk n m e) (he : eLeaf T n m e) (a : Nat) : ∀ u i acc many, m ≤ i + 1 → a ≤ i → n + 1 ≤ u + i → 0 < u → startOk T n i →
    (i ≤ n → leaves acc = tl T a i) → (many = 0 → i = a) →
    ((behL T n e u i acc many).2 < n → (T (behL T n e u i acc many).2).k = 2 ∨ (T (behL T n e u i acc many).2).k = 4) ∧ ((behL T n e u i acc many).2 ≤ n → leaves (behL T n e u i acc many).1 = tl T a (behL T n e u i acc many).2) := by
  intro u
  induction u with
  | zero => intro i acc many _ _ _ h; omega
  | succ u ih =>
    intro i acc many h1 h2 h3 _ h4 h5 h6
    unfold behL
    split
    · rename_i hc
      have hp := partF_bd (T := T) hk (a := i) h1 hc.1
      obtain ⟨q1, q2⟩ := partF_leaf hw hk he h1 hc.1 hc.2.1 hc.2.2 (h4 hc.1)
      refine ih _ _ _ (by omega) (by omega) (by omega) (by omega) q1 (fun hle => ?_) (fun h => by omega)
      rw [leaves_append, leaves_append, h5 (by omega), q2 hle, tl_split T h2 (show i ≤ (partF T n e i).2 by omega)]
      split
      · simp [leaves]
      · simp [leaves, lfN, nd0]
    · rename_i hc
      simp only
      refine ⟨fun h => by omega, fun hle => ?_⟩
      split
      · rename_i hm
        rw [h6 hm, tl_same]
        simp [leaves, lfN, nd0]
      · exact h5 hle
theorem bhF_leaf {T : Nat → Tn} {n m : Nat} {e : Nat → List Nd × Nat} (hw : wellT T n) (hk : eOk n m e) (he : eLeaf T n m e) (a : Nat) (h1 : m ≤ a + 1) (hs : startOk T n a) :
    ((bhF T n e a).2 < n → (T (bhF T n e a).2).k = 2 ∨ (T (bhF T n e a).2).k = 4) ∧ ((bhF T n e a).2 ≤ n → leaves (bhF T n e a).1 = tl T a (bhF T n e a).2) :=
  behL_leaf hw hk he a _ _ _ _ h1 (Nat.le_refl _) (by omega) (by omega) hs (fun _ => by rw [tl_same]; rfl) (fun _ => rfl)
theorem eiL_mono {T : Nat → Tn} {n m : Nat} {e : Nat → List Nd × Nat} (hk : eOk n m e) : ∀ u i acc, m ≤ i + 1 → i ≤ (eiL T n e u i acc).2 := by
  intro u
  induction u with
  | zero => intro i acc _; exact Nat.le_refl _
  | succ u ih =>
    intro i acc h
    unfold eiL
    split
    · rename_i hc
      have hb := bhF_bd (T := T) hk (i + 1) (by omega) (by omega)
      have := ih (bhF T n e (i + 1)).2 (acc ++ (bhF T n e (i + 1)).1 ++ [nd0 6]) (by omega)
      omega
    · exact Nat.le_refl _
theorem eiL_leaf {T : Nat → Tn} {n m : Nat} {e : Nat → List Nd × Nat} (hw : wellT T n) (hk : eOk n m e) (he : eLeaf T n m e) (a : Nat) : ∀ u i acc, m ≤ i + 1 → a ≤ i → n + 1 ≤ u + i → 0 < u →
    (i ≤ n → leaves acc = tl T a i) → (i < n → (T i).k = 2 ∨ (T i).k = 4) →
    ((eiL T n e u i acc).2 < n → (T (eiL T n e u i acc).2).k = 4) ∧ ((eiL T n e u i acc).2 ≤ n → leaves (eiL T n e u i acc).1 = tl T a (eiL T n e u i acc).2) := by
  intro u
  induction u with
  | zero => intro i acc _ _ _ h; omega
  | succ u ih =>
    intro i acc h1 h2 h3 _ h5 h6
    unfold eiL
    split
    · rename_i hc
      have hs : startOk T n (i + 1) := hw.start (.inr (.inl (by simpa using hc.2)))
      have hb := bhF_bd (T := T) hk (i + 1) (by omega) (by omega)
      obtain ⟨q1, q2⟩ := bhF_leaf hw hk he (i + 1) (by omega) hs
      refine ih _ _ (by omega) (by omega) (by omega) (by omega) (fun hle => ?_) q1
      rw [leaves_append, leaves_append, h5 (by omega), q2 hle, tl_split T h2 (show i ≤ (bhF T n e (i + 1)).2 by omega), tl_split T (i := i) (j := i + 1) (by omega) hb.1, tl_one, if_neg (by simp [lfT, hc.2])]
      simp [leaves, lfN, nd0]
    · rename_i hc
      simp only
      refine ⟨fun h => ?_, h5⟩
      rcases h6 h with h7 | h7
      · exact absurd ⟨h, h7⟩ hc
      · exact h7
theorem ei_leaf {T : Nat → Tn} {n : Nat} (hw : wellT T n) : ∀ u, eLeaf T n (n + 1 - u) (ei T n u) := by
  intro u
  induction u with
  | zero => intro a h1 h2; omega
  | succ u ih =>
    intro a h1 h2 hs
    have hb := bhF_bd (T := T) (ei_ok T n u) a (by omega) h2
    obtain ⟨q1, q2⟩ := bhF_leaf hw (ei_ok T n u) ih a (by omega) hs
    exact eiL_leaf hw (ei_ok T n u) ih a _ _ _ (by omega) hb.1 (by omega) (by omega) q2 q1
end Go.Proofs.Ytefpoapbodbenaa

namespace Go.Proofs.Ytefpoapbodbenaa

/-- How many groups are open ahead of a place. -/
def oc (T : Nat → Tn) : Nat → Int
  | 0 => 0
  | i + 1 => oc T i + if (T i).k = 3 then 1 else if (T i).k = 4 then -1 else 0
theorem repsL_oc (T : Nat → Tn) (n : Nat) : ∀ u i, oc T (repsL T n u i).2 = oc T i := by
  intro u
  induction u with
  | zero => intro i; rfl
  | succ u ih =>
    intro i
    unfold repsL
    split
    · rename_i h
      simp only
      rw [ih, show oc T (i + 1) = oc T i + if (T i).k = 3 then 1 else if (T i).k = 4 then -1 else 0 from rfl, if_neg (by omega), if_neg (by omega), Int.add_zero]
    · rfl
def eCnt (T : Nat → Tn) (n m : Nat) (e : Nat → List Nd × Nat) : Prop := ∀ a, m ≤ a → a ≤ n → startOk T n a → ((e a).2 ≤ n → oc T (e a).2 = oc T a) ∧ (n < (e a).2 → oc T a < oc T n)
theorem oc_flat {T : Nat → Tn} {i : Nat} (h3 : (T i).k ≠ 3) (h4 : (T i).k ≠ 4) : oc T (i + 1) = oc T i := by
  rw [show oc T (i + 1) = oc T i + if (T i).k = 3 then 1 else if (T i).k = 4 then -1 else 0 from rfl, if_neg h3, if_neg h4, Int.add_zero]
theorem partF_cnt {T : Nat → Tn} {n m : Nat} {e : Nat → List Nd × Nat} (hw : wellT T n) (hk : eOk n m e) (he : eLeaf T n m e) (hc : eCnt T n m e) {a : Nat} (h1 : m ≤ a + 1) (h2 : a < n) (h3 : (T a).k ≠ 2) (h4 : (T a).k ≠ 4) (h5 : (T a).k ≠ 5) :
    ((partF T n e a).2 ≤ n → oc T (partF T n e a).2 = oc T a) ∧ (n < (partF T n e a).2 → oc T a < oc T n) := by
  have hbd := partB_bd (T := T) hk h1 h2
  have hr := repsL_bd T n (n + 1) (partB T e a).2
  have ho := repsL_oc T n (n + 1) (partB T e a).2
  have hp : (partF T n e a).2 = (repsL T n (n + 1) (partB T e a).2).2 := rfl
  have hv := hw.1 a h2
  rw [hp, ho]
  by_cases k3 : (T a).k = 3
  · have hB : (partB T e a).2 = (e (a + 1)).2 + 1 := by unfold partB; rw [if_neg (by omega), if_neg (by omega), if_neg (by omega)]
    have hs : startOk T n (a + 1) := hw.start (.inr (.inr (by simpa using k3)))
    obtain ⟨e1, -⟩ := he (a + 1) h1 (by omega) hs
    obtain ⟨c1, c2⟩ := hc (a + 1) h1 (by omega) hs
    have o1 : oc T (a + 1) = oc T a + 1 := by
      rw [show oc T (a + 1) = oc T a + if (T a).k = 3 then 1 else if (T a).k = 4 then -1 else 0 from rfl, if_pos k3]
    rw [hB] at hr ⊢
    rcases Nat.lt_or_ge (e (a + 1)).2 n with h | h
    · have e4 := e1 h
      refine ⟨fun _ => ?_, fun hh => by omega⟩
      rw [show oc T ((e (a + 1)).2 + 1) = oc T (e (a + 1)).2 + if (T (e (a + 1)).2).k = 3 then 1 else if (T (e (a + 1)).2).k = 4 then -1 else 0 from rfl, if_neg (by omega), if_pos e4, c1 (by omega), o1]
      omega
    · refine ⟨fun hh => ?_, fun _ => ?_⟩
      · have := hr.2.2.1 (by omega); omega
      · rcases Nat.lt_or_ge n (e (a + 1)).2 with h' | h'
        · have := c2 h'; omega
        · have := c1 h'
          rw [show (e (a + 1)).2 = n by omega] at this
          omega
  · have hB : (partB T e a).2 = a + 1 := by
      unfold partB
      by_cases c1 : (T a).k = 1
      · rw [if_pos c1]
      · rw [if_neg c1]
        by_cases c2 : (T a).k = 6
        · rw [if_pos c2]
        · rw [if_neg c2, if_pos (by omega)]
    rw [hB] at hr ⊢
    refine ⟨fun _ => oc_flat k3 h4, fun hh => ?_⟩
    have := hr.2.1 (by omega)
    omega
theorem behL_cnt {T : Nat → Tn} {n m : Nat} {e : Nat → List Nd × Nat} (hw : wellT T n) (hk : eOk n m e) (he : eLeaf T n m e) (hc : eCnt T n m e) (a : Nat) : ∀ u i acc many, m ≤ i + 1 → n + 1 ≤ u + i → 0 < u → startOk T n i →
    (i ≤ n → oc T i = oc T a) → (n < i → oc T a < oc T n) →
    ((behL T n e u i acc many).2 ≤ n → oc T (behL T n e u i acc many).2 = oc T a) ∧ (n < (behL T n e u i acc many).2 → oc T a < oc T n) := by
  intro u
  induction u with
  | zero => intro i acc many _ _ h; omega
  | succ u ih =>
    intro i acc many h1 h3 _ h4 h5 h6
    unfold behL
    split
    · rename_i hcc
      have hp := partF_bd (T := T) hk (a := i) h1 hcc.1
      obtain ⟨q1, -⟩ := partF_leaf hw hk he h1 hcc.1 hcc.2.1 hcc.2.2 (h4 hcc.1)
      obtain ⟨c1, c2⟩ := partF_cnt hw hk he hc h1 hcc.1 hcc.2.1 hcc.2.2 (h4 hcc.1)
      have := h5 (by omega)
      exact ih _ _ _ (by omega) (by omega) (by omega) q1 (fun h => by have := c1 h; omega) (fun h => by have := c2 h; omega)
    · exact ⟨h5, h6⟩
theorem bhF_cnt {T : Nat → Tn} {n m : Nat} {e : Nat → List Nd × Nat} (hw : wellT T n) (hk : eOk n m e) (he : eLeaf T n m e) (hc : eCnt T n m e) (a : Nat) (h1 : m ≤ a + 1) (h2 : a ≤ n) (hs : startOk T n a) :
    ((bhF T n e a).2 ≤ n → oc T (bhF T n e a).2 = oc T a) ∧ (n < (bhF T n e a).2 → oc T a < oc T n) :=
  behL_cnt hw hk he hc a _ _ _ _ h1 (by omega) (by omega) hs (fun _ => rfl) (fun h => by omega)
theorem eiL_cnt {T : Nat → Tn} {n m : Nat} {e : Nat → List Nd × Nat} (hw : wellT T n) (hk : eOk n m e) (he : eLeaf T n m e) (hc : eCnt T n m e) (a : Nat) : ∀ u i acc, m ≤ i + 1 → (i ≤ n → oc T i = oc T a) → (n < i → oc T a < oc T n) →
    ((eiL T n e u i acc).2 ≤ n → oc T (eiL T n e u i acc).2 = oc T a) ∧ (n < (eiL T n e u i acc).2 → oc T a < oc T n) := by
  intro u
  induction u with
  | zero => intro i acc _ h5 h6; exact ⟨h5, h6⟩
  | succ u ih =>
    intro i acc h1 h5 h6
    unfold eiL
    split
    · rename_i hcc
      have hs : startOk T n (i + 1) := hw.start (.inr (.inl (by simpa using hcc.2)))
      have hb := bhF_bd (T := T) hk (i + 1) (by omega) (by omega)
      obtain ⟨c1, c2⟩ := bhF_cnt hw hk he hc (i + 1) (by omega) (by omega) hs
      have h7 := h5 (by omega)
      have h8 := oc_flat (T := T) (i := i) (by omega) (by omega)
      exact ih _ _ (by omega) (fun h => by have := c1 h; omega) (fun h => by have := c2 h; omega)
    · exact ⟨h5, h6⟩
theorem ei_cnt {T : Nat → Tn} {n : Nat} (hw : wellT T n) : ∀ u, eCnt T n (n + 1 - u) (ei T n u) := by
  intro u
  induction u with
  | zero => intro a h1 h2; omega
  | succ u ih =>
    intro a h1 h2 hs
    have hb := bhF_bd (T := T) (ei_ok T n u) a (by omega) h2
    obtain ⟨c1, c2⟩ := bhF_cnt hw (ei_ok T n u) (ei_leaf hw u) ih a (by omega) h2 hs
    exact eiL_cnt hw (ei_ok T n u) (ei_leaf hw u) ih a _ _ _ (by omega) c1 c2
/-- What Wrong tells nothing of. -/
theorem wrF_well {T : Nat → Tn} {n : Nat} : ∀ u i o, n + 1 ≤ u + i → i ≤ n → (wrF T n u i o).2.1 = 0 → oc T i = o →
    (∀ j, i ≤ j → j < n → 1 ≤ (T j).k ∧ (T j).k ≤ 7 ∧ ((T j).k = 5 → 0 < j ∧ endsP (T (j - 1)).k = true) ∧ ((T j).k = 4 → 0 < oc T j)) ∧ oc T n = (wrF T n u i o).2.2 := by
  intro u
  induction u with
  | zero => intro i o h1 h2; omega
  | succ u ih =>
    intro i o h1 hi h2 ho
    unfold wrF at h2 ⊢
    by_cases hn : n ≤ i
    · rw [if_pos hn]
      have : i = n := by omega
      subst this
      exact ⟨fun j h3 h4 => by omega, ho⟩
    rw [if_neg hn] at h2 ⊢
    by_cases c1 : (T i).k < 1 ∨ 7 < (T i).k
    · rw [if_pos c1] at h2; simp at h2
    rw [if_neg c1] at h2 ⊢
    by_cases c2 : (T i).k = 5 ∧ badRep (T i) = true
    · rw [if_pos c2] at h2; simp at h2
    rw [if_neg c2] at h2 ⊢
    by_cases c3 : (T i).k = 5 ∧ ¬ (0 < i ∧ endsP (T (i - 1)).k = true)
    · rw [if_pos c3] at h2; simp at h2
    rw [if_neg c3] at h2 ⊢
    by_cases c4 : (T i).k = 3 ∧ o = 20
    · rw [if_pos c4] at h2; simp at h2
    rw [if_neg c4] at h2 ⊢
    by_cases c5 : (T i).k = 4 ∧ o = 0
    · rw [if_pos c5] at h2; simp at h2
    rw [if_neg c5] at h2 ⊢
    have ho2 : oc T (i + 1) = ((if (T i).k = 3 then o + 1 else if (T i).k = 4 then o - 1 else o : Nat) : Int) := by
      rw [show oc T (i + 1) = oc T i + if (T i).k = 3 then 1 else if (T i).k = 4 then -1 else 0 from rfl, ho]
      split
      · omega
      · split <;> omega
    obtain ⟨q1, q2⟩ := ih _ _ (by omega) (by omega) h2 ho2
    refine ⟨fun j h3 h4 => ?_, q2⟩
    by_cases hj : j = i
    · subst hj
      refine ⟨by omega, by omega, fun h5 => ?_, fun h5 => ?_⟩
      · by_cases h6 : 0 < j ∧ endsP (T (j - 1)).k = true
        · exact h6
        · exact absurd ⟨h5, h6⟩ c3
      · rw [ho]
        by_cases h6 : o = 0
        · exact absurd ⟨h5, h6⟩ c5
        · omega
    · exact q1 j (by omega) h4
/-- All tokens are taken, in order. -/
theorem ei_whole {T : Nat → Tn} {n : Nat} (h : (wrF T n (n + 1) 0 0).2.1 = 0) (ho : (wrF T n (n + 1) 0 0).2.2 = 0) : wellT T n ∧ (ei T n (n + 1) 0).2 = n ∧ leaves (ei T n (n + 1) 0).1 = tl T 0 n := by
  obtain ⟨q1, q2⟩ := wrF_well (T := T) (n := n) (n + 1) 0 0 (by omega) (by omega) h rfl
  have hw : wellT T n := ⟨fun i hi => ⟨(q1 i (by omega) hi).1, (q1 i (by omega) hi).2.1⟩, fun i hi => (q1 i (by omega) hi).2.2.1⟩
  have hs : startOk T n 0 := hw.start (.inl rfl)
  obtain ⟨l1, l2⟩ := ei_leaf hw (n + 1) 0 (by omega) (by omega) hs
  obtain ⟨c1, c2⟩ := ei_cnt hw (n + 1) 0 (by omega) (by omega) hs
  rw [ho] at q2
  have e0 : oc T 0 = 0 := rfl
  have h1 : (ei T n (n + 1) 0).2 ≤ n := by
    rcases Nat.lt_or_ge n (ei T n (n + 1) 0).2 with h | h
    · have := c2 h; omega
    · exact h
  have h2 : (ei T n (n + 1) 0).2 = n := by
    rcases Nat.lt_or_ge (ei T n (n + 1) 0).2 n with h | h
    · have h3 := c1 h1
      have h4 := (q1 _ (by omega) h).2.2.2 (l1 h)
      omega
    · omega
  refine ⟨hw, h2, ?_⟩
  rw [l2 h1, h2]
end Go.Proofs.Ytefpoapbodbenaa

namespace Go.Proofs.Ytefpoapbodbenaa

theorem runD_good (N : Nat → Nd) : ∀ (l : List Nd) (k : Nat) (d d' : Int), (∀ j (h : j < l.length), N (k + j) = l[j]) → dep N k = d → runD l d = some d' →
    (∀ j, k ≤ j → j < k + l.length → good N j) ∧ dep N (k + l.length) = d' := by
  intro l
  induction l with
  | nil =>
    intro k d d' _ hd h
    simp only [runD] at h
    cases h
    exact ⟨fun j h1 h2 => by simp at h2; omega, hd⟩
  | cons x l ih =>
    intro k d d' hN hd h
    simp only [runD] at h
    split at h
    · rename_i hx
      have e0 : N k = x := by have := hN 0 (by simp); simpa using this
      have hd1 : dep N (k + 1) = d + 1 - ar x.k := by simp only [dep]; rw [hd, e0]
      have h1 := ih (k + 1) (d + 1 - ar x.k) d' (fun j hj => by
        have := hN (j + 1) (by simp; omega)
        rw [show k + 1 + j = k + (j + 1) by omega, this]
        simp) hd1 h
      refine ⟨fun j h2 h3 => ?_, by rw [List.length_cons, show k + (l.length + 1) = k + 1 + l.length by omega]; exact h1.2⟩
      by_cases hj : j = k
      · subst hj
        unfold good
        rw [e0, hd]
        exact hx
      · exact h1.1 j (by omega) (by rw [List.length_cons] at h3; omega)
    · cases h
/-- A list of nodes as a function. -/
def nfn (l : List Nd) (j : Nat) : Nd := l.getD j (nd0 0)
theorem tree_of_run {l : List Nd} (h : runD l 0 = some 1) (hl : l.length ≤ 512) : tree (nfn l) l.length := by
  obtain ⟨h1, h2⟩ := runD_good (nfn l) l 0 0 1 (fun j hj => by rw [Nat.zero_add]; unfold nfn; rw [List.getD_eq_getElem?_getD, List.getElem?_eq_getElem hj]; rfl) rfl h
  rw [Nat.zero_add] at h1 h2
  exact ⟨hl, fun i hi => h1 i (by omega) hi, h2⟩
/-- What Of tells, where nothing is wrong: a tree, whose leaves are the tokens'. -/
theorem ei_tree {T : Nat → Tn} {n : Nat} (h : (wrF T n (n + 1) 0 0).2.1 = 0) (ho : (wrF T n (n + 1) 0 0).2.2 = 0) (hl : (ei T n (n + 1) 0).1.length ≤ 512) :
    tree (nfn (ei T n (n + 1) 0).1) (ei T n (n + 1) 0).1.length ∧ leaves (ei T n (n + 1) 0).1 = tl T 0 n :=
  ⟨tree_of_run (ei_run (wrF_reps h) (n + 1) 0 (by omega) (by omega) 0 (by omega)) hl, (ei_whole h ho).2.2⟩
end Go.Proofs.Ytefpoapbodbenaa

namespace Go.Proofs.Ytefpoapbodbenaa

inductive Tr where
  | leaf (x : Nd)
  | cat (a b : Tr)
  | or (a b : Tr)
  | rep (a : Tr) (lo hi : Int)
def ndR (lo hi : Int) : Nd := ⟨7, 0, 0, 0, 0, lo, hi⟩
def post : Tr → List Nd
  | .leaf x => [x]
  | .cat a b => post a ++ post b ++ [nd0 5]
  | .or a b => post a ++ post b ++ [nd0 6]
  | .rep a lo hi => post a ++ [ndR lo hi]
def isOr : Tr → Bool
  | .or _ _ => true
  | _ => false
def isCat : Tr → Bool
  | .cat _ _ => true
  | _ => false
/-- The leaves are such as a tree may have, and the repeats. -/
def okT : Tr → Prop
  | .leaf x => (x.k = 1 ∧ x.lo = 0 ∧ x.hi = 0) ∨ x = nd0 2 ∨ x = nd0 3 ∨ x = nd0 4
  | .cat a b => okT a ∧ okT b
  | .or a b => okT a ∧ okT b
  | .rep a lo hi => okT a ∧ 0 ≤ lo ∧ lo ≤ 32 ∧ (hi = -1 ∨ (lo ≤ hi ∧ hi ≤ 32))
/-- Tokens, without their places. -/
def tn0 (k : Int) : Tn := ⟨k, 0, 0, 0, 0, 0, 0, 0⟩
def tnS (x : Nd) : Tn := ⟨1, 0, x.a, x.b, x.c, x.d, 0, 0⟩
def tnR (lo hi : Int) : Tn := ⟨5, 0, 0, 0, 0, 0, lo, hi⟩
def grp (b : Bool) (l : List Tn) : List Tn := if b = true then tn0 3 :: (l ++ [tn0 4]) else l
def eT : Tr → List Tn
  | .leaf x => if x.k = 1 then [tnS x] else if x.k = 2 then [tn0 3, tn0 4] else if x.k = 3 then [tn0 6] else [tn0 7]
  | .cat a b => grp (isOr a) (eT a) ++ grp (isOr b || isCat b) (eT b)
  | .or a b => eT a ++ tn0 2 :: grp (isOr b) (eT b)
  | .rep a lo hi => grp (isOr a || isCat a) (eT a) ++ [tnR lo hi]

/-- A token but for its place. -/
def sameT (t s : Tn) : Prop := t.k = s.k ∧ t.a = s.a ∧ t.b = s.b ∧ t.c = s.c ∧ t.d = s.d ∧ t.lo = s.lo ∧ t.hi = s.hi
def hasT (T : Nat → Tn) (n i : Nat) (l : List Tn) : Prop := i + l.length ≤ n ∧ ∀ j (h : j < l.length), sameT (T (i + j)) l[j]
theorem hasT.head {T : Nat → Tn} {n i : Nat} {c : Tn} {l : List Tn} (h : hasT T n i (c :: l)) : i < n ∧ sameT (T i) c := ⟨by have := h.1; simp at this; omega, h.2 0 (by simp)⟩
theorem hasT.tail {T : Nat → Tn} {n i : Nat} {c : Tn} {l : List Tn} (h : hasT T n i (c :: l)) : hasT T n (i + 1) l := ⟨by have := h.1; simp at this; omega, fun j hj => by
  have := h.2 (j + 1) (by simp; omega)
  simpa [show i + 1 + j = i + (j + 1) by omega] using this⟩
theorem hasT.left {T : Nat → Tn} {n i : Nat} {l m : List Tn} (h : hasT T n i (l ++ m)) : hasT T n i l := ⟨by have := h.1; simp at this; omega, fun j hj => by
  have := h.2 j (by simp; omega)
  simpa [List.getElem_append_left hj] using this⟩
theorem hasT.right {T : Nat → Tn} {n i : Nat} {l m : List Tn} (h : hasT T n i (l ++ m)) : hasT T n (i + l.length) m := ⟨by have := h.1; simp at this; omega, fun j hj => by
  have := h.2 (l.length + j) (by simp; omega)
  simpa [Nat.add_assoc] using this⟩

/-- A list of tokens begins as a part does. -/
def beg (l : List Tn) : Prop := ∃ c m, l = c :: m ∧ (c.k = 1 ∨ c.k = 3 ∨ c.k = 6 ∨ c.k = 7)
theorem beg_grp {b : Bool} {l : List Tn} (h : beg l) : beg (grp b l) := by
  cases b
  · exact h
  · exact ⟨tn0 3, _, rfl, .inr (.inl rfl)⟩
theorem beg_app {l m : List Tn} (h : beg l) : beg (l ++ m) := by
  obtain ⟨c, s, rfl, hc⟩ := h
  exact ⟨c, s ++ m, rfl, hc⟩
theorem beg_eT : ∀ t, okT t → beg (eT t)
  | .leaf x, h => by
    unfold eT
    by_cases c1 : x.k = 1
    · rw [if_pos c1]; exact ⟨_, _, rfl, .inl rfl⟩
    · rw [if_neg c1]
      by_cases c2 : x.k = 2
      · rw [if_pos c2]; exact ⟨_, _, rfl, .inr (.inl rfl)⟩
      · rw [if_neg c2]
        by_cases c3 : x.k = 3
        · rw [if_pos c3]; exact ⟨_, _, rfl, .inr (.inr (.inl rfl))⟩
        · rw [if_neg c3]; exact ⟨_, _, rfl, .inr (.inr (.inr rfl))⟩
  | .cat a _, h => beg_app (beg_grp (beg_eT a h.1))
  | .or a _, h => beg_app (beg_eT a h.1)
  | .rep a _ _, h => beg_app (beg_grp (beg_eT a h.1))
theorem beg.kind {T : Nat → Tn} {n i : Nat} {l : List Tn} (hb : beg l) (h : hasT T n i l) : i < n ∧ (T i).k ≠ 2 ∧ (T i).k ≠ 4 ∧ (T i).k ≠ 5 := by
  obtain ⟨c, m, rfl, hc⟩ := hb
  obtain ⟨h1, h2⟩ := h.head
  have := h2.1
  omega

/-- What the way down tells of a part, of parts one behind the other, of choices, of the whole. -/
def partsG (l : List Tn) (p : List Nd) : Prop := ∀ (T : Nat → Tn) (n u i : Nat), n ≤ u + i → hasT T n i l →
  ∃ x j r, partB T (ei T n u) i = (x, j) ∧ x ++ r = p ∧ repsL T n (n + 1) j = (r ++ (repsL T n (n + 1) (i + l.length)).1, (repsL T n (n + 1) (i + l.length)).2)
def chainG (l : List Tn) (p : List Nd) : Prop := ∀ (T : Nat → Tn) (n u i U : Nat), n ≤ u + i → hasT T n i l → (i + l.length < n → (T (i + l.length)).k ≠ 5) → n + 2 ≤ U →
  ∃ U' m, behL T n (ei T n u) U i [] 0 = behL T n (ei T n u) U' (i + l.length) p (m + 1) ∧ U ≤ U' + l.length
def altG (l : List Tn) (p : List Nd) : Prop := ∀ (T : Nat → Tn) (n u i : Nat), n ≤ u + i → hasT T n i l → (i + l.length < n → (T (i + l.length)).k = 2 ∨ (T (i + l.length)).k = 4) →
  ∃ U', eiF T n (ei T n u) i = eiL T n (ei T n u) U' (i + l.length) p ∧ n + 2 ≤ U' + l.length
def wholeG (l : List Tn) (p : List Nd) : Prop := ∀ (T : Nat → Tn) (n u i : Nat), n + 1 ≤ u + i → hasT T n i l → (i + l.length < n → (T (i + l.length)).k = 4) → ei T n u i = (p, i + l.length)

theorem reps_not {T : Nat → Tn} {n j : Nat} (h : j < n → (T j).k ≠ 5) : repsL T n (n + 1) j = ([], j) := by
  unfold repsL
  rw [if_neg (fun hh => h hh.1 hh.2)]
theorem reps_fuel (T : Nat → Tn) (n : Nat) : ∀ u i, n + 1 ≤ u + i → 0 < u → repsL T n u i = repsL T n (u + 1) i := by
  intro u
  induction u with
  | zero => intro i _ h; omega
  | succ u ih =>
    intro i h _
    unfold repsL
    split
    · rename_i hc
      rw [ih (i + 1) (by omega) (by omega)]
    · rfl
theorem reps_step {T : Nat → Tn} {n j : Nat} (h1 : j < n) (h2 : (T j).k = 5) : repsL T n (n + 1) j = (ndRep (T j) :: (repsL T n (n + 1) (j + 1)).1, (repsL T n (n + 1) (j + 1)).2) := by
  conv => lhs; unfold repsL
  rw [if_pos ⟨h1, h2⟩, reps_fuel T n n (j + 1) (by omega) (by omega)]
theorem part_of_parts {l : List Tn} {p : List Nd} (h : partsG l p) {T : Nat → Tn} {n u i : Nat} (hu : n ≤ u + i) (hh : hasT T n i l) (hn : i + l.length < n → (T (i + l.length)).k ≠ 5) : partF T n (ei T n u) i = (p, i + l.length) := by
  obtain ⟨x, j, r, h1, h2, h3⟩ := h T n u i hu hh
  unfold partF
  rw [h1]
  simp only
  rw [h3, reps_not hn]
  simp only [List.append_nil]
  rw [h2]
theorem beh_step {l : List Tn} {p : List Nd} (h : partsG l p) (hb : beg l) {T : Nat → Tn} {n u i : Nat} (hu : n ≤ u + i) (hh : hasT T n i l) (hn : i + l.length < n → (T (i + l.length)).k ≠ 5) (U : Nat) (acc : List Nd) (many : Nat) :
    behL T n (ei T n u) (U + 1) i acc many = behL T n (ei T n u) U (i + l.length) (acc ++ p ++ if many = 0 then [] else [nd0 5]) (many + 1) := by
  obtain ⟨k1, k2, k3, -⟩ := hb.kind hh
  conv => lhs; unfold behL
  rw [if_pos ⟨k1, k2, k3⟩, part_of_parts h hu hh hn]
theorem beg.pos {l : List Tn} (h : beg l) : 0 < l.length := by obtain ⟨c, m, rfl, -⟩ := h; simp
theorem chain_of_parts {l : List Tn} {p : List Nd} (h : partsG l p) (hb : beg l) : chainG l p := by
  intro T n u i U hu hh hn hU
  obtain ⟨V, rfl⟩ : ∃ V, U = V + 1 := ⟨U - 1, by omega⟩
  refine ⟨V, 0, ?_, by have := hb.pos; omega⟩
  rw [beh_step h hb hu hh hn]
  simp
theorem chain_cat {l1 l2 : List Tn} {p1 p2 : List Nd} (h1 : chainG l1 p1) (h2 : partsG l2 p2) (hb2 : beg l2) : chainG (l1 ++ l2) (p1 ++ p2 ++ [nd0 5]) := by
  intro T n u i U hu hh hn hU
  have hR := hh.right
  obtain ⟨k1, k2, k3, k4⟩ := hb2.kind hR
  obtain ⟨U', m, e1, e2⟩ := h1 T n u i U hu hh.left (fun _ => k4) hU
  have hle := hh.1
  rw [List.length_append] at hle hn
  obtain ⟨V, rfl⟩ : ∃ V, U' = V + 1 := ⟨U' - 1, by omega⟩
  refine ⟨V, m + 1, ?_, by have := hb2.pos; rw [List.length_append]; omega⟩
  rw [e1, beh_step h2 hb2 (by omega) hR (by rw [Nat.add_assoc]; exact hn), List.length_append, Nat.add_assoc]
  simp
theorem beh_of_chain {l : List Tn} {p : List Nd} (h : chainG l p) {T : Nat → Tn} {n u i : Nat} (hu : n ≤ u + i) (hh : hasT T n i l) (hn : i + l.length < n → (T (i + l.length)).k = 2 ∨ (T (i + l.length)).k = 4) : bhF T n (ei T n u) i = (p, i + l.length) := by
  obtain ⟨U', m, e1, e2⟩ := h T n u i (n + 2) hu hh (fun hl => by have := hn hl; omega) (Nat.le_refl _)
  have hle := hh.1
  obtain ⟨V, rfl⟩ : ∃ V, U' = V + 1 := ⟨U' - 1, by omega⟩
  unfold bhF
  rw [e1]
  unfold behL
  rw [if_neg (fun hc => by have := hn hc.1; omega), if_neg (by omega)]
theorem alt_of_chain {l : List Tn} {p : List Nd} (h : chainG l p) : altG l p := by
  intro T n u i hu hh hn
  refine ⟨n + 2, ?_, by omega⟩
  unfold eiF
  rw [beh_of_chain h hu hh hn]
theorem alt_or {l1 l2 : List Tn} {p1 p2 : List Nd} (h1 : altG l1 p1) (h2 : chainG l2 p2) : altG (l1 ++ tn0 2 :: l2) (p1 ++ p2 ++ [nd0 6]) := by
  intro T n u i hu hh hn
  have hR := hh.right
  obtain ⟨k1, k2⟩ := hR.head
  have hk : (T (i + l1.length)).k = 2 := k2.1
  obtain ⟨U', e1, e2⟩ := h1 T n u i hu hh.left (fun _ => .inl hk)
  have hle := hh.1
  have hlen : (l1 ++ tn0 2 :: l2).length = l1.length + 1 + l2.length := by simp; omega
  rw [hlen] at hle hn ⊢
  obtain ⟨V, rfl⟩ : ∃ V, U' = V + 1 := ⟨U' - 1, by omega⟩
  refine ⟨V, ?_, by omega⟩
  rw [e1]
  conv => lhs; unfold eiL
  rw [if_pos ⟨k1, hk⟩, beh_of_chain h2 (by omega) hR.tail (by rw [show i + l1.length + 1 + l2.length = i + (l1.length + 1 + l2.length) by omega]; exact hn)]
  rw [show i + l1.length + 1 + l2.length = i + (l1.length + 1 + l2.length) by omega]
theorem whole_of_alt {l : List Tn} {p : List Nd} (h : altG l p) : wholeG l p := by
  intro T n u i hu hh hn
  have hle := hh.1
  obtain ⟨v, rfl⟩ : ∃ v, u = v + 1 := ⟨u - 1, by omega⟩
  obtain ⟨U', e1, e2⟩ := h T n v i (by omega) hh (fun hl => .inr (hn hl))
  obtain ⟨V, rfl⟩ : ∃ V, U' = V + 1 := ⟨U' - 1, by omega⟩
  show eiF T n (ei T n v) i = _
  rw [e1]
  unfold eiL
  rw [if_neg (fun hc => by have := hn hc.1; omega)]
theorem parts_grp {l : List Tn} {p : List Nd} (h : wholeG l p) : partsG (tn0 3 :: (l ++ [tn0 4])) p := by
  intro T n u i hu hh
  obtain ⟨k1, k2⟩ := hh.head
  have hk : (T i).k = 3 := k2.1
  have hT := hh.tail
  have hC := hT.right.head
  have hk4 : (T (i + 1 + l.length)).k = 4 := hC.2.1
  have e := h T n u (i + 1) (by omega) hT.left (fun _ => hk4)
  refine ⟨p, i + 1 + l.length + 1, [], ?_, by simp, ?_⟩
  · unfold partB
    rw [if_neg (by omega), if_neg (by omega), if_neg (by omega), e]
  · rw [show i + (tn0 3 :: (l ++ [tn0 4])).length = i + 1 + l.length + 1 by simp; omega]; rfl
theorem parts_rep {l : List Tn} {p : List Nd} (h : partsG l p) (lo hi : Int) : partsG (l ++ [tnR lo hi]) (p ++ [ndR lo hi]) := by
  intro T n u i hu hh
  obtain ⟨x, j, r, h1, h2, h3⟩ := h T n u i hu hh.left
  obtain ⟨k1, k2⟩ := hh.right.head
  obtain ⟨q1, -, -, -, -, q6, q7⟩ := k2
  refine ⟨x, j, r ++ [ndR lo hi], h1, by rw [← List.append_assoc, h2], ?_⟩
  rw [h3, reps_step k1 q1]
  have e : ndRep (T (i + l.length)) = ndR lo hi := by unfold ndRep ndR; rw [q6, q7]; rfl
  rw [e, show i + (l ++ [tnR lo hi]).length = i + l.length + 1 by simp; omega]
  simp
theorem parts_grp_if {b : Bool} {l : List Tn} {p : List Nd} (h1 : b = true → wholeG l p) (h2 : b = false → partsG l p) : partsG (grp b l) p := by
  cases b
  · exact h2 rfl
  · exact parts_grp (h1 rfl)
theorem ei_shut {T : Nat → Tn} {n u i : Nat} (hu : n + 1 ≤ u + i) (hi : i < n) (hk : (T i).k = 4) : ei T n u i = ([nd0 2], i) := by
  obtain ⟨v, rfl⟩ : ∃ v, u = v + 1 := ⟨u - 1, by omega⟩
  show eiF T n (ei T n v) i = _
  have hb : bhF T n (ei T n v) i = ([nd0 2], i) := by
    unfold bhF behL
    rw [if_neg (fun h => h.2.2 hk), if_pos rfl]
  unfold eiF
  rw [hb]
  unfold eiL
  rw [if_neg (fun h => by have h2 : (T i).k = 2 := h.2; omega)]
theorem parts_leaf (x : Nd) (h : okT (.leaf x)) : partsG (eT (.leaf x)) [x] := by
  intro T n u i hu hh
  unfold eT at hh ⊢
  rcases h with ⟨c1, c2, c3⟩ | rfl | rfl | rfl
  · rw [if_pos c1] at hh ⊢
    obtain ⟨k1, q1, q2, q3, q4, q5, q6, q7⟩ := hh.head
    have q1' : (T i).k = 1 := q1
    refine ⟨[ndSet (T i)], i + 1, [], ?_, ?_, rfl⟩
    · unfold partB; rw [if_pos q1']
    · obtain ⟨k, a, b, c, d, lo, hi⟩ := x
      simp only at c1 c2 c3
      subst c1 c2 c3
      unfold ndSet; rw [q2, q3, q4, q5]; rfl
  · rw [if_neg (by decide), if_pos (by rfl)] at hh ⊢
    obtain ⟨k1, q1, -⟩ := hh.head
    have q1' : (T i).k = 3 := q1
    obtain ⟨k2, q2, -⟩ := hh.tail.head
    have q2' : (T (i + 1)).k = 4 := q2
    refine ⟨[nd0 2], i + 2, [], ?_, rfl, rfl⟩
    unfold partB
    rw [if_neg (by omega), if_neg (by omega), if_neg (by omega), ei_shut (by omega) k2 q2']
  · rw [if_neg (by decide), if_neg (by decide), if_pos (by rfl)] at hh ⊢
    obtain ⟨k1, q1, -⟩ := hh.head
    have q1' : (T i).k = 6 := q1
    refine ⟨[nd0 3], i + 1, [], ?_, rfl, rfl⟩
    unfold partB; rw [if_neg (by omega), if_pos q1']
  · rw [if_neg (by decide), if_neg (by decide), if_neg (by decide)] at hh ⊢
    obtain ⟨k1, q1, -⟩ := hh.head
    have q1' : (T i).k = 7 := q1
    refine ⟨[nd0 4], i + 1, [], ?_, rfl, rfl⟩
    unfold partB; rw [if_neg (by omega), if_neg (by omega), if_pos q1']
theorem back_all : ∀ t, okT t → (isOr t = false → isCat t = false → partsG (eT t) (post t)) ∧ (isOr t = false → chainG (eT t) (post t)) ∧ altG (eT t) (post t)
  | .leaf x, h => by
    have h1 := parts_leaf x h
    have h2 := chain_of_parts h1 (beg_eT _ h)
    exact ⟨fun _ _ => h1, fun _ => h2, alt_of_chain h2⟩
  | .cat a b, h => by
    obtain ⟨a1, a2, a3⟩ := back_all a h.1
    obtain ⟨b1, b2, b3⟩ := back_all b h.2
    have hb : partsG (grp (isOr b || isCat b) (eT b)) (post b) := parts_grp_if (fun _ => whole_of_alt b3) (fun e => by rw [Bool.or_eq_false_iff] at e; exact b1 e.1 e.2)
    have ha : chainG (grp (isOr a) (eT a)) (post a) := by
      cases ho : isOr a
      · exact a2 ho
      · exact chain_of_parts (parts_grp (whole_of_alt a3)) ⟨_, _, rfl, .inr (.inl rfl)⟩
    have h2 := chain_cat ha hb (beg_grp (beg_eT b h.2))
    exact ⟨(fun _ h => by cases h), fun _ => h2, alt_of_chain h2⟩
  | .or a b, h => by
    obtain ⟨a1, a2, a3⟩ := back_all a h.1
    obtain ⟨b1, b2, b3⟩ := back_all b h.2
    have hb : chainG (grp (isOr b) (eT b)) (post b) := by
      cases ho : isOr b
      · exact b2 ho
      · exact chain_of_parts (parts_grp (whole_of_alt b3)) ⟨_, _, rfl, .inr (.inl rfl)⟩
    exact ⟨(fun h => by cases h), (fun h => by cases h), alt_or a3 hb⟩
  | .rep a lo hi, h => by
    obtain ⟨a1, a2, a3⟩ := back_all a h.1
    have h1 : partsG (eT (.rep a lo hi)) (post (.rep a lo hi)) := parts_rep (parts_grp_if (fun _ => whole_of_alt a3) (fun e => by rw [Bool.or_eq_false_iff] at e; exact a1 e.1 e.2)) lo hi
    have h2 := chain_of_parts h1 (beg_eT (.rep a lo hi) h)
    exact ⟨fun _ _ => h1, fun _ => h2, alt_of_chain h2⟩
/-- The way down, of a tree's tokens: the tree. -/
theorem ei_back {t : Tr} (h : okT t) {T : Nat → Tn} {n : Nat} (hh : hasT T n 0 (eT t)) (hn : (eT t).length = n) : ei T n (n + 1) 0 = (post t, n) := by
  have := whole_of_alt (back_all t h).2.2 T n (n + 1) 0 (by omega) hh (fun h => by omega)
  rwa [Nat.zero_add, hn] at this
end Go.Proofs.Ytefpoapbodbenaa

namespace Go.Proofs.Ytefpoapbodbenaa

/-- The number whose bit j is f (b + j), for j below n. -/
def bitsTo (f : Nat → Bool) (b : Nat) : Nat → Nat
  | 0 => 0
  | n + 1 => bitsTo f b n + if f (b + n) = true then 2 ^ n else 0

theorem bitsTo_lt (f : Nat → Bool) (b n : Nat) : bitsTo f b n < 2 ^ n := by
  induction n with
  | zero => simp [bitsTo]
  | succ n ih =>
    simp only [bitsTo]
    have : 2 ^ (n + 1) = 2 * 2 ^ n := by rw [Nat.pow_succ]; omega
    split <;> omega

theorem bitsTo_testBit (f : Nat → Bool) (b n j : Nat) : (bitsTo f b n).testBit j = (decide (j < n) && f (b + j)) := by
  induction n with
  | zero => simp [bitsTo]
  | succ n ih =>
    simp only [bitsTo]
    by_cases hj : j < n
    · have h1 : decide (j < n + 1) = true := by simp; omega
      rw [h1]
      have h2 : decide (j < n) = true := by simp [hj]
      rw [h2] at ih
      split
      · rw [Nat.add_comm, Nat.testBit_two_pow_add_gt hj, ih]
      · rw [Nat.add_zero, ih]
    · by_cases he : j = n
      · subst he
        have h0 : (bitsTo f b j).testBit j = false := by rw [ih]; simp
        split
        · rename_i hf
          rw [Nat.add_comm, Nat.testBit_two_pow_add_eq, h0, hf]; simp
        · rename_i hf
          rw [Nat.add_zero, h0]
          simp at hf
          rw [hf]; simp
      · have h1 : decide (j < n + 1) = false := by simp; omega
        rw [h1]
        have hl := bitsTo_lt f b n
        have hp : 2 ^ (n + 1) ≤ 2 ^ j := Nat.pow_le_pow_right (by decide) (by omega)
        have hq : 2 ^ (n + 1) = 2 * 2 ^ n := by rw [Nat.pow_succ]; omega
        rw [Nat.testBit_lt_two_pow]
        · simp
        · split <;> omega

/-- Word i of a set. -/
def wd (f : Nat → Bool) (i : Nat) : Nat := bitsTo f (64 * i) 64
theorem wd_lt (f : Nat → Bool) (i : Nat) : wd f i < 18446744073709551616 := bitsTo_lt f (64 * i) 64
theorem wd_testBit (f : Nat → Bool) (i j : Nat) : (wd f i).testBit j = (decide (j < 64) && f (64 * i + j)) := bitsTo_testBit f (64 * i) 64 j

theorem eq_of_bits {x y : Nat} (hx : x < 18446744073709551616) (hy : y < 18446744073709551616) (h : ∀ j, j < 64 → x.testBit j = y.testBit j) : x = y := by
  apply Nat.eq_of_testBit_eq
  intro j
  by_cases hj : j < 64
  · exact h j hj
  · have hp : 2 ^ 64 ≤ 2 ^ j := Nat.pow_le_pow_right (by decide) (by omega)
    rw [Nat.testBit_lt_two_pow (by omega), Nat.testBit_lt_two_pow (by omega)]

/-- A number below 2 to the 64 is the word of its own bits. -/
theorem wd_eq {x : Nat} (hx : x < 18446744073709551616) (f : Nat → Bool) (i : Nat) (h : ∀ j, j < 64 → x.testBit j = f (64 * i + j)) : x = wd f i :=
  eq_of_bits hx (wd_lt f i) fun j hj => by rw [wd_testBit, h j hj]; simp [hj]

theorem wd_congr {f g : Nat → Bool} {i : Nat} (h : ∀ j, j < 64 → f (64 * i + j) = g (64 * i + j)) : wd f i = wd g i :=
  wd_eq (wd_lt f i) g i fun j hj => by rw [wd_testBit, h j hj]; simp [hj]

/-- The function of four words. -/
def ofWords (x0 x1 x2 x3 : Nat) (k : Nat) : Bool :=
  if k < 64 then x0.testBit k else if k < 128 then x1.testBit (k - 64) else if k < 192 then x2.testBit (k - 128) else x3.testBit (k - 192)
theorem ofWords_wd {x0 x1 x2 x3 : Nat} (h0 : x0 < 18446744073709551616) (h1 : x1 < 18446744073709551616) (h2 : x2 < 18446744073709551616) (h3 : x3 < 18446744073709551616) :
    x0 = wd (ofWords x0 x1 x2 x3) 0 ∧ x1 = wd (ofWords x0 x1 x2 x3) 1 ∧ x2 = wd (ofWords x0 x1 x2 x3) 2 ∧ x3 = wd (ofWords x0 x1 x2 x3) 3 := by
  refine ⟨wd_eq h0 _ 0 ?_, wd_eq h1 _ 1 ?_, wd_eq h2 _ 2 ?_, wd_eq h3 _ 3 ?_⟩ <;> intro j hj <;> unfold ofWords
  · rw [if_pos (by omega)]; simp
  · rw [if_neg (by omega), if_pos (by omega), show 64 * 1 + j - 64 = j from by omega]
  · rw [if_neg (by omega), if_neg (by omega), if_pos (by omega), show 64 * 2 + j - 128 = j from by omega]
  · rw [if_neg (by omega), if_neg (by omega), if_neg (by omega), show 64 * 3 + j - 192 = j from by omega]

theorem word_or (f g : Nat → Bool) (i : Nat) : bits .or .u64 (wd f i : Int) (wd g i : Int) = (wd (fun k => f k || g k) i : Nat) := by
  rw [bits_or_u64_nat _ _ (wd_lt f i) (wd_lt g i)]
  congr 1
  refine wd_eq (Nat.or_lt_two_pow (n := 64) (wd_lt f i) (wd_lt g i)) _ i fun j hj => ?_
  rw [Nat.testBit_or, wd_testBit, wd_testBit]; simp [hj]
theorem word_and (f g : Nat → Bool) (i : Nat) : bits .and .u64 (wd f i : Int) (wd g i : Int) = (wd (fun k => f k && g k) i : Nat) := by
  rw [bits_and_u64_nat _ _ (wd_lt f i) (wd_lt g i)]
  congr 1
  refine wd_eq (Nat.and_lt_two_pow (n := 64) _ (wd_lt g i)) _ i fun j hj => ?_
  rw [Nat.testBit_and, wd_testBit, wd_testBit]; simp [hj]
theorem word_less (f g : Nat → Bool) (i : Nat) : bits .andNot .u64 (wd f i : Int) (wd g i : Int) = (wd (fun k => f k && !g k) i : Nat) := by
  have e : bits .andNot .u64 (wd f i : Int) (wd g i : Int) = ((wd f i &&& (18446744073709551615 - wd g i) : Nat) : Int) := by
    have := u64_andNot_nat (wd f i) (wd g i) (wd_lt f i) (wd_lt g i)
    exact this
  rw [e]
  congr 1
  have hn : 18446744073709551615 - wd g i = wd (fun k => !g k) i := by
    refine wd_eq (by omega) _ i fun j hj => ?_
    have h := wd_lt g i
    have := Nat.testBit_two_pow_sub_succ (n := 64) (x := wd g i) h j
    have e2 : 2 ^ 64 - (wd g i + 1) = 18446744073709551615 - wd g i := by omega
    rw [e2] at this
    rw [this, wd_testBit]; simp [hj]
  rw [hn]
  refine wd_eq (Nat.and_lt_two_pow (n := 64) _ (wd_lt _ i)) _ i fun j hj => ?_
  rw [Nat.testBit_and, wd_testBit, wd_testBit]; simp [hj]

/-- The test of a bit. -/
theorem word_has (f : Nat → Bool) (i j : Nat) (hj : j < 64) : (bits .and .u64 ((wd f i : Int) / 2 ^ j) 1 == 1) = f (64 * i + j) := by
  have e0 : ((wd f i : Int) / 2 ^ j) = ((wd f i / 2 ^ j : Nat) : Int) := by simp
  have hl : wd f i / 2 ^ j < 18446744073709551616 := Nat.lt_of_le_of_lt (Nat.div_le_self _ _) (wd_lt f i)
  rw [e0, show (1 : Int) = ((1 : Nat) : Int) from rfl, bits_and_u64_nat _ _ hl (by decide)]
  have hb : (wd f i).testBit j = f (64 * i + j) := by rw [wd_testBit]; simp [hj]
  rw [← hb, Nat.testBit_eq_decide_div_mod_eq, Nat.and_one_is_mod]
  have h2 : wd f i / 2 ^ j % 2 = 0 ∨ wd f i / 2 ^ j % 2 = 1 := by omega
  rcases h2 with h2 | h2 <;> rw [h2] <;> decide

/-- The word with one bit more. -/
theorem word_put (f : Nat → Bool) (i j : Nat) (hj : j < 64) : bits .or .u64 (wd f i : Int) (IntKind.u64.wrap (2 ^ j)) = (wd (fun k => f k || decide (k = 64 * i + j)) i : Nat) := by
  have hlt : 2 ^ j < 2 ^ 64 := Nat.pow_lt_pow_right (by decide) hj
  have e : IntKind.u64.wrap (2 ^ j) = ((2 ^ j : Nat) : Int) := by
    rw [IntKind.wrap_u64]
    have e1 : ((2 : Int) ^ j) = ((2 ^ j : Nat) : Int) := by simp
    rw [e1]
    generalize 2 ^ j = p at *
    omega
  rw [e, bits_or_u64_nat _ _ (wd_lt f i) (by omega)]
  congr 1
  refine wd_eq (Nat.or_lt_two_pow (n := 64) (wd_lt f i) hlt) _ i fun k hk => ?_
  rw [Nat.testBit_or, wd_testBit, Nat.testBit_two_pow]
  simp [hk]
  by_cases h : j = k <;> simp [h]
  omega
theorem word_put_other (f : Nat → Bool) (i c : Nat) (h : c / 64 ≠ i) : wd (fun k => f k || decide (k = c)) i = wd f i :=
  wd_congr fun j hj => by
    have : ¬ (64 * i + j = c) := by omega
    simp [this]

/-- The bytes below n. -/
theorem word_below (n i : Nat) (h0 : 64 * i < n) (h1 : n < 64 * i + 64) : IntKind.u64.wrap (IntKind.u64.wrap (2 ^ (n - 64 * i)) - 1) = (wd (fun k => decide (k < n)) i : Nat) := by
  have hlt : 2 ^ (n - 64 * i) < 2 ^ 64 := Nat.pow_lt_pow_right (by decide) (by omega)
  have hpos : 0 < 2 ^ (n - 64 * i) := Nat.two_pow_pos _
  have e1 : ((2 : Int) ^ (n - 64 * i)) = ((2 ^ (n - 64 * i) : Nat) : Int) := by simp
  rw [IntKind.wrap_u64, IntKind.wrap_u64, e1]
  have e2 : ((((2 ^ (n - 64 * i) : Nat) : Int) % 18446744073709551616 - 1) % 18446744073709551616) = ((2 ^ (n - 64 * i) - 1 : Nat) : Int) := by
    clear e1
    generalize 2 ^ (n - 64 * i) = p at *
    omega
  rw [e2]
  congr 1
  refine wd_eq (by omega) _ i fun j hj => ?_
  rw [Nat.testBit_two_pow_sub_one]
  by_cases h : j < n - 64 * i
  · have : 64 * i + j < n := by omega
    simp [h, this]
  · have : ¬ 64 * i + j < n := by omega
    simp [h, this]
theorem word_none (f : Nat → Bool) (i : Nat) (h : ∀ j, j < 64 → f (64 * i + j) = false) : wd f i = 0 :=
  (wd_eq (by decide) f i fun j hj => by rw [h j hj]; simp).symm
theorem word_all (f : Nat → Bool) (i : Nat) (h : ∀ j, j < 64 → f (64 * i + j) = true) : wd f i = 18446744073709551615 :=
  (wd_eq (by decide) f i fun j hj => by
    rw [h j hj]
    have := Nat.testBit_two_pow_sub_one 64 j
    simp only [Nat.reducePow, Nat.reduceSub] at this
    rw [this]; simp [hj]).symm

/-- A set as a value. -/
def sv (f : Nat → Bool) : Value := .agg #[.int .u64 (wd f 0 : Int), .int .u64 (wd f 1 : Int), .int .u64 (wd f 2 : Int), .int .u64 (wd f 3 : Int)]
theorem sv_congr {f g : Nat → Bool} (h : ∀ k, k < 256 → f k = g k) : sv f = sv g := by
  unfold sv
  rw [wd_congr (i := 0) (f := f) (g := g) fun j hj => h _ (by omega), wd_congr (i := 1) (f := f) (g := g) fun j hj => h _ (by omega), wd_congr (i := 2) (f := f) (g := g) fun j hj => h _ (by omega), wd_congr (i := 3) (f := f) (g := g) fun j hj => h _ (by omega)]

end Go.Proofs.Ytefpoapbodbenaa

namespace Go.Proofs.Ytefpoapbodbenaa
open Go.RowKit

attribute [go_sem] sv
theorem w2of {B : Nat} {W w1 : World} (hb : Below B W w1) : (∀ b o, b < B → w1.cell? ⟨b, o, none⟩ = W.cell? ⟨b, o, none⟩) ∧ (∀ b o, b < B → w1.frozen? ⟨b, o, none⟩ = W.frozen? ⟨b, o, none⟩) :=
  ⟨fun b o h => hb.cell (p := ⟨b, o, none⟩) h, fun b o h => hb.frozen (p := ⟨b, o, none⟩) h⟩


theorem grownBy_of_below {w w' : World} (h : Below w.heap.size w w') : w.grownBy w' none := ⟨h.os, h.tape, h.output, h.size, fun k hk _ => h.block k hk⟩
theorem owns_below {w w' : World} {base : Nat} {e : TypeId} {size : Nat} {v : Value} {n : Nat} {xs : List Value} (h : w.ownsRow base e size v n xs) (hb : Below w.heap.size w w') : w'.ownsRow base e size v n xs :=
  h.kept (grownBy_of_below hb) (by cases v.ownBlock <;> simp)
theorem owns_mono {w : World} {base base' : Nat} {e : TypeId} {size : Nat} {v : Value} {n : Nat} {xs : List Value} (h : w.ownsRow base e size v n xs) (hb : base' ≤ base) : w.ownsRow base' e size v n xs := by
  obtain ⟨h0, h1⟩ := h
  refine ⟨h0, ?_⟩
  rcases h1 with h1 | ⟨g, cap, cur, h1, h2, h3⟩
  · exact .inl h1
  · exact .inr ⟨g, cap, cur, h1, Nat.le_trans hb h2, h3⟩
theorem below_drewN {B : Nat} {w w' : World} (n : Nat) (h : Below B w w') : Below B w (w'.drewN n) := ⟨h.os, h.tape, h.output, h.size, h.block⟩
theorem toList_data (s : ByteArray) : s.toList = s.data.toList := ByteArray.toList_eq s
/-- A set as a value, written out. -/
@[reducible] def svr (f : Nat → Bool) : Value := .agg #[.int .u64 (wd f 0 : Int), .int .u64 (wd f 1 : Int), .int .u64 (wd f 2 : Int), .int .u64 (wd f 3 : Int)]
end Go.Proofs.Ytefpoapbodbenaa

namespace Go.Proofs.Ytefpoapbodbenaa
open Go.RowKit

theorem below_two {w w1 w2 : World} (h1 : Below w.heap.size w w1) (h2 : Below w1.heap.size w1 w2) : Below w.heap.size w w2 := h1.trans (h2.mono h1.size)
/-- A token's cells at a place. -/
def tnAt (w : World) (b o : Nat) (x : Tn) : Prop := w.cell? ⟨b, o, none⟩ = some (.int .i64 x.k) ∧ w.cell? ⟨b, o + 1, none⟩ = some (.int .i64 x.p) ∧ w.cell? ⟨b, o + 2, none⟩ = some (.int .u64 x.a) ∧ w.cell? ⟨b, o + 3, none⟩ = some (.int .u64 x.b) ∧ w.cell? ⟨b, o + 4, none⟩ = some (.int .u64 x.c) ∧ w.cell? ⟨b, o + 5, none⟩ = some (.int .u64 x.d) ∧ w.cell? ⟨b, o + 6, none⟩ = some (.int .i64 x.lo) ∧ w.cell? ⟨b, o + 7, none⟩ = some (.int .i64 x.hi)
theorem tnAt.below {w w' : World} {b o B : Nat} {x : Tn} (h : tnAt w b o x) (hb : Below B w w') (hB : b < B) : tnAt w' b o x := by
  have c : ∀ x, w'.cell? ⟨b, x, none⟩ = w.cell? ⟨b, x, none⟩ := fun x => hb.cell (p := ⟨b, x, none⟩) hB
  unfold tnAt at h ⊢
  simp only [c]
  exact h
/-- The tokens that lie in a block from a place on. -/
def rdTn (w : World) (b off n : Nat) (T : Nat → Tn) : Prop := ∀ j, j < n → b < w.heap.size ∧ tnAt w b (off + j * 8) (T j)
theorem rdTn.below {w w' : World} {b off n : Nat} {T : Nat → Tn} (h : rdTn w b off n T) (hb : Below w.heap.size w w') : rdTn w' b off n T := fun j hj =>
  ⟨Nat.lt_of_lt_of_le (h j hj).1 hb.size, (h j hj).2.below hb (h j hj).1⟩

/-- A node's cells, as values; a row of nodes. -/
def ncs (x : Nd) : List Value := [.int .i64 x.k, .int .u64 x.a, .int .u64 x.b, .int .u64 x.c, .int .u64 x.d, .int .i64 x.lo, .int .i64 x.hi]
def nds (l : List Nd) : List Value := l.flatMap ncs
theorem nds_append (l r : List Nd) : nds (l ++ r) = nds l ++ nds r := by simp [nds]
theorem nds_one (x : Nd) : nds [x] = ncs x := by simp [nds]
theorem nds_len (l : List Nd) : (nds l).length = l.length * 7 := by
  induction l with
  | nil => rfl
  | cons x l ih => rw [show x :: l = [x] ++ l from rfl, nds_append, nds_one, List.length_append, ih, List.length_append]; simp [ncs]; omega
theorem nds_cell (l : List Nd) : ∀ u ∈ nds l, u.oneCell' = true := by
  intro u hu
  unfold nds at hu
  obtain ⟨x, _, hx⟩ := List.mem_flatMap.1 hu
  unfold ncs at hx
  simp at hx
  rcases hx with rfl | rfl | rfl | rfl | rfl | rfl | rfl <;> rfl
/-- A row of nodes that the call owns, not empty: its block. -/
theorem owns_block {w : World} {base : Nat} {e : TypeId} {v : Value} {l : List Nd} (h : w.ownsRow base e 7 v l.length (nds l)) (hl : 1 ≤ l.length) :
    ∃ g cap, v = .slice (some ⟨g, 0, none⟩) l.length cap ∧ base ≤ g ∧ g < w.heap.size ∧ ∀ j u, (nds l)[j]? = some u → w.cell? ((⟨g, 0, none⟩ : Addr).add j) = some u := by
  have hlt := h.lt
  rcases id h.2 with ⟨rfl, h0⟩ | ⟨g, cap, cur, rfl, _⟩
  · omega
  · exact ⟨g, cap, rfl, (hlt g rfl).1, (hlt g rfl).2, fun j u hu => h.cells rfl j u hu⟩
end Go.Proofs.Ytefpoapbodbenaa
