/-
  Trees as lists: where a part begins, what is a tree, how deep it is: the plain mathematics.
  The fifth reference's way down: what tokens are, as a tree: the plain mathematics.
  The fifth reference's way down makes trees: what it tells, put behind any nodes, is one part more.
-/
import Derived.Test.YtpfbmbegddemoaaRows
namespace Go.Proofs.Ytpfbmbegddemoaa

/-- A node: its kind, the words of its set, Lo and Hi. -/
structure Nd where
  k : Int
  a : Int
  b : Int
  c : Int
  d : Int
  lo : Int
  hi : Int

/-- How many arguments a kind has. -/
def ar (k : Int) : Int := if k = 1 ∨ k = 2 ∨ k = 3 ∨ k = 4 then 0 else if k = 7 then 1 else if k = 5 ∨ k = 6 then 2 else -1
theorem ar_cases (k : Int) : (ar k = 0 ∧ (k = 1 ∨ k = 2 ∨ k = 3 ∨ k = 4)) ∨ (ar k = 1 ∧ k = 7) ∨ (ar k = 2 ∧ (k = 5 ∨ k = 6)) ∨ (ar k = -1 ∧ k ≠ 1 ∧ k ≠ 2 ∧ k ≠ 3 ∧ k ≠ 4 ∧ k ≠ 5 ∧ k ≠ 6 ∧ k ≠ 7) := by
  unfold ar; split
  · exact .inl ⟨rfl, by omega⟩
  · split
    · exact .inr (.inl ⟨rfl, by omega⟩)
    · split
      · exact .inr (.inr (.inl ⟨rfl, by omega⟩))
      · exact .inr (.inr (.inr ⟨rfl, by omega⟩))
theorem ar_bd (k : Int) : -1 ≤ ar k ∧ ar k ≤ 2 := by rcases ar_cases k with h | h | h | h <;> omega

/-- Where m parts begin, the last of which ends right ahead of p; -1: nowhere. -/
def back (N : Nat → Nd) : Nat → Nat → Int
  | 0, m => if m = 0 then 0 else -1
  | p + 1, m => if m = 0 then (p + 1 : Nat) else if ar (N p).k < 0 then -1 else back N p (m - 1 + (ar (N p).k).toNat)
theorem back_zero (N : Nat → Nd) (p : Nat) : back N p 0 = p := by cases p <;> simp [back]
theorem back_none (N : Nat → Nd) (m : Nat) : back N 0 (m + 1) = -1 := by simp [back]
theorem back_succ (N : Nat → Nd) (p m : Nat) : back N (p + 1) (m + 1) = if ar (N p).k < 0 then -1 else back N p (m + (ar (N p).k).toNat) := by simp [back]
theorem back_bd (N : Nat → Nd) : ∀ p m, -1 ≤ back N p m ∧ (0 ≤ back N p m → back N p m + m ≤ p) := by
  intro p
  induction p with
  | zero => intro m; cases m with
    | zero => rw [back_zero]; omega
    | succ m => rw [back_none]; omega
  | succ p ih => intro m; cases m with
    | zero => rw [back_zero]; omega
    | succ m =>
      rw [back_succ]; split
      · omega
      · have := ih (m + (ar (N p).k).toNat); omega
theorem back_add (N : Nat → Nd) : ∀ p m n, back N p (m + n) = if back N p m < 0 then -1 else back N (back N p m).toNat n := by
  intro p
  induction p with
  | zero => intro m n; cases m with
    | zero => rw [back_zero]; simp
    | succ m => rw [show m + 1 + n = m + n + 1 by omega, back_none, back_none]; simp
  | succ p ih => intro m n; cases m with
    | zero => rw [back_zero]; simp [show ¬ ((p : Int) + 1 < 0) by omega]
    | succ m =>
      rw [show m + 1 + n = m + n + 1 by omega, back_succ, back_succ]
      split
      · simp
      · rw [show m + n + (ar (N p).k).toNat = m + (ar (N p).k).toNat + n by omega, ih]

/-- Where the part begins whose last node is i. -/
def fst (N : Nat → Nd) (i : Nat) : Int := back N (i + 1) 1
theorem fst_eq (N : Nat → Nd) (i : Nat) : fst N i = if ar (N i).k < 0 then -1 else back N i (ar (N i).k).toNat := by
  unfold fst; rw [back_succ, Nat.zero_add]
theorem fst_bd (N : Nat → Nd) (i : Nat) : -1 ≤ fst N i ∧ fst N i ≤ i := by
  have := back_bd N (i + 1) 1
  unfold fst; omega
theorem back_step (N : Nat → Nd) (p m : Nat) : back N (p + 1) (m + 1) = if fst N p < 0 then -1 else back N (fst N p).toNat m := by
  rw [show m + 1 = 1 + m by omega, back_add]; rfl
theorem back_congr {N M : Nat → Nd} : ∀ (p m : Nat), (∀ j, j < p → N j = M j) → back N p m = back M p m := by
  intro p
  induction p with
  | zero => intro m _; simp [back]
  | succ p ih => intro m h; cases m with
    | zero => rw [back_zero, back_zero]
    | succ m => rw [back_succ, back_succ, h p (by omega), ih _ fun j hj => h j (by omega)]
theorem back_shift (N : Nat → Nd) (f : Nat) : ∀ p m, back (fun j => N (f + j)) p m = if back N (f + p) m < f then -1 else back N (f + p) m - f := by
  intro p
  induction p with
  | zero => intro m; cases m with
    | zero => rw [back_zero, back_zero]; simp
    | succ m =>
      rw [back_none]
      have := back_bd N (f + 0) (m + 1)
      rw [if_pos (by omega)]
  | succ p ih => intro m; cases m with
    | zero => rw [back_zero, back_zero, if_neg (by omega)]; omega
    | succ m =>
      rw [back_succ, show f + (p + 1) = f + p + 1 by omega, back_succ]
      split
      · rw [if_pos (by omega)]
      · rw [ih]
/-- What lies in a part goes back no further than it. -/
theorem back_nest (N : Nat → Nd) (f : Nat) : ∀ p m, back N p m = f → ∀ q, f < q → q ≤ p → ∃ m', back N q (m' + 1) = f := by
  intro p
  induction p with
  | zero => intro m h q h1 h2; omega
  | succ p ih =>
    intro m h q h1 h2
    cases m with
    | zero => rw [back_zero] at h; omega
    | succ m =>
      by_cases hq : q = p + 1
      · subst hq; exact ⟨m, h⟩
      · rw [back_succ] at h
        split at h
        · omega
        · exact ih _ h q h1 (by omega)
theorem fst_nest {N : Nat → Nd} {i f : Nat} (h : fst N i = f) {j : Nat} (h1 : f ≤ j) (h2 : j ≤ i) : (f : Int) ≤ fst N j := by
  obtain ⟨m, hm⟩ := back_nest N f (i + 1) 1 h (j + 1) (by omega) (by omega)
  rw [back_step] at hm
  split at hm
  · omega
  · have := back_bd N (fst N j).toNat m; omega

/-- Are a node's Set, Lo and Hi such as its kind lets be? -/
def okN (x : Nd) : Bool := (x.k == 1 || (x.a == 0 && x.b == 0 && x.c == 0 && x.d == 0)) && (if x.k = 7 then decide (0 ≤ x.lo) && decide (x.lo ≤ 32) && (x.hi == -1 || (decide (x.lo ≤ x.hi) && decide (x.hi ≤ 32))) else x.lo == 0 && x.hi == 0)

/-- How many parts are nobody's argument ahead of node k. -/
def dep (N : Nat → Nd) : Nat → Int
  | 0 => 0
  | k + 1 => dep N k + 1 - ar (N k).k
def good (N : Nat → Nd) (i : Nat) : Prop := 0 ≤ ar (N i).k ∧ ar (N i).k ≤ dep N i ∧ okN (N i) = true
instance (N : Nat → Nd) (i : Nat) : Decidable (good N i) := by unfold good; infer_instance
def tree (N : Nat → Nd) (n : Nat) : Prop := n ≤ 512 ∧ (∀ i, i < n → good N i) ∧ dep N n = 1
instance (N : Nat → Nd) (n : Nat) : Decidable (tree N n) := by unfold tree; infer_instance

theorem dep_bd {N : Nat → Nd} : ∀ {p}, (∀ i, i < p → good N i) → 0 ≤ dep N p ∧ (0 < p → 1 ≤ dep N p) ∧ dep N p ≤ p := by
  intro p
  induction p with
  | zero => intro _; simp [dep]
  | succ p ih =>
    intro h
    have h1 := ih fun i hi => h i (by omega)
    have h2 := h p (by omega)
    unfold good at h2
    simp only [dep]
    omega
theorem back_dep {N : Nat → Nd} : ∀ {p}, (∀ i, i < p → good N i) → ∀ m : Nat, ((m : Int) ≤ dep N p → 0 ≤ back N p m ∧ dep N (back N p m).toNat = dep N p - m) ∧ (dep N p < m → back N p m = -1) := by
  intro p
  induction p with
  | zero => intro _ m; cases m with
    | zero => rw [back_zero]; simp [dep]
    | succ m => rw [back_none]; refine ⟨fun h => ?_, fun _ => rfl⟩; simp only [dep] at h; omega
  | succ p ih => intro h m; cases m with
    | zero => have := dep_bd h; rw [back_zero]; simp; omega
    | succ m =>
      have h2 := h p (by omega)
      unfold good at h2
      have h3 := ih (fun i hi => h i (by omega)) (m + (ar (N p).k).toNat)
      rw [back_succ, if_neg (by omega)]
      simp only [dep]
      constructor
      · intro h4
        have := h3.1 (by omega)
        exact ⟨this.1, by rw [this.2]; omega⟩
      · intro h4
        exact h3.2 (by omega)
/-- Behind nodes that are good a node is good just if its part begins somewhere, and its fields fit. -/
theorem good_iff {N : Nat → Nd} {i : Nat} (h : ∀ j, j < i → good N j) : good N i ↔ 0 ≤ fst N i ∧ okN (N i) = true := by
  have hb := back_dep h (ar (N i).k).toNat
  rw [fst_eq]
  unfold good
  constructor
  · rintro ⟨h0, h1, h2⟩
    rw [if_neg (by omega)]
    exact ⟨(hb.1 (by omega)).1, h2⟩
  · rintro ⟨h0, h2⟩
    split at h0
    · omega
    · refine ⟨by omega, ?_, h2⟩
      by_cases hle : ar (N i).k ≤ dep N i
      · exact hle
      · rw [hb.2 (by omega)] at h0; omega
theorem goods_iff {N : Nat → Nd} : ∀ {n}, (∀ i, i < n → good N i) ↔ ∀ i, i < n → 0 ≤ fst N i ∧ okN (N i) = true := by
  intro n
  induction n with
  | zero => simp
  | succ n ih =>
    constructor
    · intro h i hi
      exact (good_iff fun j hj => h j (by omega)).1 (h i hi)
    · intro h i hi
      have hn := ih.2 fun i hi => h i (by omega)
      by_cases he : i = n
      · subst he; exact (good_iff hn).2 (h i hi)
      · exact hn i (by omega)
/-- A tree, by where its parts begin. -/
theorem tree_iff {N : Nat → Nd} {n : Nat} : tree N n ↔ 0 < n ∧ n ≤ 512 ∧ (∀ i, i < n → 0 ≤ fst N i ∧ okN (N i) = true) ∧ fst N (n - 1) = 0 := by
  unfold tree
  constructor
  · rintro ⟨h1, h2, h3⟩
    have hn : 0 < n := by
      rcases Nat.eq_zero_or_pos n with rfl | h
      · simp [dep] at h3
      · exact h
    refine ⟨hn, h1, goods_iff.1 h2, ?_⟩
    obtain ⟨m, rfl⟩ : ∃ m, n = m + 1 := ⟨n - 1, by omega⟩
    obtain ⟨a, b⟩ := (back_dep h2 1).1 (by omega)
    show back N (m + 1) 1 = 0
    have hr := back_bd N (m + 1) 1
    have := dep_bd (N := N) (p := (back N (m + 1) 1).toNat) fun i hi => h2 i (by omega)
    omega
  · rintro ⟨h0, h1, h2, h3⟩
    have hg := goods_iff.2 h2
    refine ⟨h1, hg, ?_⟩
    obtain ⟨m, rfl⟩ : ∃ m, n = m + 1 := ⟨n - 1, by omega⟩
    have h3 : back N (m + 1) 1 = 0 := h3
    have hb := back_dep hg 1
    by_cases hd : dep N (m + 1) < 1
    · rw [hb.2 (by omega)] at h3; omega
    · have := (hb.1 (by omega)).2
      rw [h3] at this
      simp [dep] at this ⊢
      omega

/-- The greatest of some numbers, 0 at least. -/
def mx : List Int → Int
  | [] => 0
  | x :: l => max x (mx l)
/-- How deep the parts are that are nobody's argument ahead of node k, the last one first. -/
def stk (N : Nat → Nd) : Nat → List Int
  | 0 => []
  | k + 1 => (mx ((stk N k).take (ar (N k).k).toNat) + 1) :: (stk N k).drop (ar (N k).k).toNat
/-- How deep the part is whose last node is i. -/
def dpt (N : Nat → Nd) (i : Nat) : Int := mx ((stk N i).take (ar (N i).k).toNat) + 1
theorem stk_succ (N : Nat → Nd) (k : Nat) : stk N (k + 1) = dpt N k :: (stk N k).drop (ar (N k).k).toNat := rfl
theorem stk_len {N : Nat → Nd} : ∀ {k}, (∀ i, i < k → good N i) → ((stk N k).length : Int) = dep N k := by
  intro k
  induction k with
  | zero => intro _; simp [stk, dep]
  | succ k ih =>
    intro h
    have h1 := ih fun i hi => h i (by omega)
    have h2 := h k (by omega)
    unfold good at h2
    simp [stk, dep]
    omega
theorem stk_back {N : Nat → Nd} : ∀ {p}, (∀ i, i < p → good N i) → ∀ m : Nat, (m : Int) ≤ dep N p → (stk N p).drop m = stk N (back N p m).toNat := by
  intro p
  induction p with
  | zero => intro _ m hm; simp [dep] at hm; subst hm; simp [back_zero, stk]
  | succ p ih => intro h m hm; cases m with
    | zero => rw [back_zero]; simp
    | succ m =>
      have h2 := h p (by omega)
      unfold good at h2
      rw [back_succ, if_neg (by omega), stk_succ, List.drop_succ_cons, List.drop_drop, ← ih (fun i hi => h i (by omega)), Nat.add_comm m]
      simp only [dep] at hm
      omega
theorem mx_nonneg (l : List Int) : 0 ≤ mx l := by cases l <;> simp [mx]; rename_i x l; have := mx_nonneg l; omega
theorem mx_append (l r : List Int) : mx (l ++ r) = max (mx l) (mx r) := by
  induction l with
  | nil => have := mx_nonneg r; simp [mx]; omega
  | cons x l ih => simp only [List.cons_append, mx, ih]; omega
theorem dpt_pos (N : Nat → Nd) (i : Nat) : 1 ≤ dpt N i := by
  have := mx_nonneg ((stk N i).take (ar (N i).k).toNat)
  unfold dpt; omega
/-- How deep a part is, by its arguments. -/
theorem dpt_zero {N : Nat → Nd} {i : Nat} (h : ar (N i).k = 0) : dpt N i = 1 := by unfold dpt; rw [h]; simp [mx]
theorem stk_one {N : Nat → Nd} {p : Nat} (hp : 0 < p) : ∃ r, stk N p = dpt N (p - 1) :: r := by
  obtain ⟨q, rfl⟩ : ∃ q, p = q + 1 := ⟨p - 1, by omega⟩
  exact ⟨_, stk_succ N q⟩
theorem dpt_one {N : Nat → Nd} {i : Nat} (hi : 0 < i) (h : ar (N i).k = 1) : dpt N i = max 0 (dpt N (i - 1)) + 1 := by
  obtain ⟨r, hr⟩ := stk_one (N := N) hi
  unfold dpt at *
  rw [h, hr]
  simp [mx]
  omega
theorem dpt_two {N : Nat → Nd} {i f : Nat} (hg : ∀ j, j < i → good N j) (hi : 0 < i) (h : ar (N i).k = 2) (hf : fst N (i - 1) = f) (hf0 : 0 < f) : dpt N i = max (max 0 (dpt N (f - 1))) (dpt N (i - 1)) + 1 := by
  obtain ⟨p, rfl⟩ : ∃ p, i = p + 1 := ⟨i - 1, by omega⟩
  have hd : 1 ≤ dep N (p + 1) := (dep_bd hg).2.1 (by omega)
  have hb : (stk N (p + 1)).drop 1 = stk N f := by
    rw [stk_back hg 1 (by omega), show back N (p + 1) 1 = f from hf]; simp
  obtain ⟨r, hr⟩ := stk_one (N := N) hf0
  obtain ⟨r', hr'⟩ := stk_one (N := N) (p := p + 1) (by omega)
  rw [hr'] at hb
  simp only [List.drop_succ_cons, List.drop_zero] at hb
  rw [show dpt N (p + 1) = mx ((stk N (p + 1)).take (ar (N (p + 1)).k).toNat) + 1 from rfl, h, hr', hb, hr]
  show mx [dpt N (p + 1 - 1), dpt N (f - 1)] + 1 = _
  have := dpt_pos N (f - 1)
  have := dpt_pos N (p + 1 - 1)
  simp only [mx]
  omega

/-- A part of a tree, alone: a tree; as deep as in the tree; the tree is no less deep. -/
theorem tree_part {N : Nat → Nd} {n i f : Nat} (ht : tree N n) (hi : i < n) (hf : fst N i = f) : tree (fun j => N (f + j)) (i + 1 - f) := by
  obtain ⟨h0, h1, h2, h3⟩ := tree_iff.1 ht
  have hb := fst_bd N i
  refine tree_iff.2 ⟨by omega, by omega, fun j hj => ⟨?_, (h2 (f + j) (by omega)).2⟩, ?_⟩
  · have := fst_nest hf (j := f + j) (by omega) (by omega)
    unfold fst at this ⊢
    rw [back_shift, show f + (j + 1) = f + j + 1 by omega, if_neg (by omega)]; omega
  · have hf' : back N (i + 1) 1 = f := hf
    unfold fst
    rw [back_shift, show f + (i + 1 - f - 1 + 1) = i + 1 by omega, hf', if_neg (by omega)]; omega
theorem stk_part {N : Nat → Nd} (f : Nat) : ∀ {m}, (∀ j, j < m → good (fun j => N (f + j)) j) → stk N (f + m) = stk (fun j => N (f + j)) m ++ stk N f := by
  intro m
  induction m with
  | zero => intro _; simp [stk]
  | succ m ih =>
    intro h
    have hg := h m (by omega)
    have hl := stk_len (N := fun j => N (f + j)) (k := m) fun j hj => h j (by omega)
    have hg1 : 0 ≤ ar (N (f + m)).k := hg.1
    have hg2 : ar (N (f + m)).k ≤ dep (fun j => N (f + j)) m := hg.2.1
    rw [show f + (m + 1) = f + m + 1 by omega]
    simp only [stk]
    rw [ih fun j hj => h j (by omega), List.take_append_of_le_length (by omega), List.drop_append_of_le_length (by omega)]
    simp
theorem dpt_part {N : Nat → Nd} {n i f : Nat} (ht : tree N n) (hi : i < n) (hf : fst N i = f) : dpt (fun j => N (f + j)) (i + 1 - f - 1) = dpt N i := by
  have hp := tree_part ht hi hf
  have hb := fst_bd N i
  have hs := stk_part (N := N) f (m := i + 1 - f) hp.2.1
  rw [show f + (i + 1 - f) = i + 1 by omega] at hs
  obtain ⟨r, hr⟩ := stk_one (N := fun j => N (f + j)) (p := i + 1 - f) (by omega)
  rw [hr, stk_succ] at hs
  simp only [List.cons_append] at hs
  exact (List.cons.inj hs).1.symm
theorem mx_stk (N : Nat → Nd) (k : Nat) : ∀ m, mx (stk N k) ≤ mx (stk N (k + m)) := by
  intro m
  induction m with
  | zero => exact Int.le_refl _
  | succ m ih =>
    refine Int.le_trans ih ?_
    rw [show k + (m + 1) = k + m + 1 by omega]
    have := mx_append ((stk N (k + m)).take (ar (N (k + m)).k).toNat) ((stk N (k + m)).drop (ar (N (k + m)).k).toNat)
    rw [List.take_append_drop] at this
    simp only [stk, mx]
    omega
theorem stk_root {N : Nat → Nd} {n : Nat} (ht : tree N n) : stk N n = [dpt N (n - 1)] := by
  have hl := stk_len ht.2.1
  rw [ht.2.2] at hl
  obtain ⟨h0, _⟩ := tree_iff.1 ht
  obtain ⟨r, hr⟩ := stk_one (N := N) h0
  rw [hr] at hl ⊢
  obtain rfl : r = [] := by
    cases r with
    | nil => rfl
    | cons x r => simp at hl; omega
  rfl
theorem dpt_le {N : Nat → Nd} {n i : Nat} (ht : tree N n) (hi : i < n) : dpt N i ≤ dpt N (n - 1) := by
  have h1 := mx_stk N (i + 1) (n - (i + 1))
  rw [show i + 1 + (n - (i + 1)) = n by omega, stk_root ht, stk_succ] at h1
  have := dpt_pos N (n - 1)
  simp only [mx] at h1
  omega
/-- The last nodes of a node's arguments, in order. -/
def kids (N : Nat → Nd) (i : Nat) : List Int :=
  if ar (N i).k = 1 then [(i : Int) - 1] else if ar (N i).k = 2 then [fst N (i - 1) - 1, (i : Int) - 1] else []
theorem dpt_congr {N M : Nat → Nd} {n : Nat} (h : ∀ j, j < n → N j = M j) : ∀ {k}, k ≤ n → stk N k = stk M k := by
  intro k
  induction k with
  | zero => intro _; rfl
  | succ k ih => intro hk; simp only [stk]; rw [ih (by omega), h k (by omega)]
end Go.Proofs.Ytpfbmbegddemoaa

namespace Go.Proofs.Ytpfbmbegddemoaa

/-- A token: its kind, its place, the words of its set, Lo and Hi. -/
structure Tn where
  k : Int
  p : Int
  a : Int
  b : Int
  c : Int
  d : Int
  lo : Int
  hi : Int
def ndRep (t : Tn) : Nd := ⟨7, 0, 0, 0, 0, t.lo, t.hi⟩
def ndSet (t : Tn) : Nd := ⟨1, t.a, t.b, t.c, t.d, 0, 0⟩
def nd0 (k : Int) : Nd := ⟨k, 0, 0, 0, 0, 0, 0⟩

/-- The repeats from a place on, and where they end. -/
def repsL (T : Nat → Tn) (n : Nat) : Nat → Nat → List Nd × Nat
  | 0, i => ([], i)
  | u + 1, i => if i < n ∧ (T i).k = 5 then (ndRep (T i) :: (repsL T n u (i + 1)).1, (repsL T n u (i + 1)).2) else ([], i)
/-- What a part begins with, and where that ends; e: what stands in a group. -/
def partB (T : Nat → Tn) (e : Nat → List Nd × Nat) (at_ : Nat) : List Nd × Nat :=
  if (T at_).k = 1 then ([ndSet (T at_)], at_ + 1) else if (T at_).k = 6 then ([nd0 3], at_ + 1) else if (T at_).k = 7 then ([nd0 4], at_ + 1) else ((e (at_ + 1)).1, (e (at_ + 1)).2 + 1)
def partF (T : Nat → Tn) (n : Nat) (e : Nat → List Nd × Nat) (at_ : Nat) : List Nd × Nat :=
  ((partB T e at_).1 ++ (repsL T n (n + 1) (partB T e at_).2).1, (repsL T n (n + 1) (partB T e at_).2).2)
/-- Parts one behind the other. -/
def behL (T : Nat → Tn) (n : Nat) (e : Nat → List Nd × Nat) : Nat → Nat → List Nd → Nat → List Nd × Nat
  | 0, i, acc, _ => (acc, i)
  | u + 1, i, acc, many => if i < n ∧ (T i).k ≠ 2 ∧ (T i).k ≠ 4 then behL T n e u (partF T n e i).2 (acc ++ (partF T n e i).1 ++ if many = 0 then [] else [nd0 5]) (many + 1) else (if many = 0 then [nd0 2] else acc, i)
def bhF (T : Nat → Tn) (n : Nat) (e : Nat → List Nd × Nat) (at_ : Nat) : List Nd × Nat := behL T n e (n + 2) at_ [] 0
/-- Choices. -/
def eiL (T : Nat → Tn) (n : Nat) (e : Nat → List Nd × Nat) : Nat → Nat → List Nd → List Nd × Nat
  | 0, i, acc => (acc, i)
  | u + 1, i, acc => if i < n ∧ (T i).k = 2 then eiL T n e u (bhF T n e (i + 1)).2 (acc ++ (bhF T n e (i + 1)).1 ++ [nd0 6]) else (acc, i)
def eiF (T : Nat → Tn) (n : Nat) (e : Nat → List Nd × Nat) (at_ : Nat) : List Nd × Nat := eiL T n e (n + 2) (bhF T n e at_).2 (bhF T n e at_).1
def ei (T : Nat → Tn) (n : Nat) : Nat → Nat → List Nd × Nat
  | 0 => fun at_ => ([], at_)
  | u + 1 => eiF T n (ei T n u)

theorem repsL_bd (T : Nat → Tn) (n : Nat) : ∀ u i, i ≤ (repsL T n u i).2 ∧ (i ≤ n → (repsL T n u i).2 ≤ n) ∧ (n ≤ i → (repsL T n u i).2 = i) ∧ (repsL T n u i).1.length + i = (repsL T n u i).2 := by
  intro u
  induction u with
  | zero => intro i; simp [repsL]
  | succ u ih =>
    intro i
    unfold repsL
    split
    · rename_i h
      have := ih (i + 1)
      simp only [List.length_cons]
      omega
    · simp
/-- What is asked of the answer for a group, from a place on. -/
def eOk (n : Nat) (m : Nat) (e : Nat → List Nd × Nat) : Prop := ∀ a, m ≤ a → a ≤ n → a ≤ (e a).2 ∧ (e a).2 + a ≤ 2 * n + 1 ∧ 1 ≤ (e a).1.length ∧ (e a).1.length + 2 * a ≤ 2 * (e a).2 + 1
theorem eOk.mono {n m m' : Nat} {e : Nat → List Nd × Nat} (h : eOk n m e) (hm : m ≤ m') : eOk n m' e := fun a h1 h2 => h a (by omega) h2
theorem partB_bd {T : Nat → Tn} {n m : Nat} {e : Nat → List Nd × Nat} (he : eOk n m e) {a : Nat} (h1 : m ≤ a + 1) (h2 : a < n) :
    a + 1 ≤ (partB T e a).2 ∧ (partB T e a).2 + a ≤ 2 * n + 1 ∧ 1 ≤ (partB T e a).1.length ∧ (partB T e a).1.length + 1 + 2 * a ≤ 2 * (partB T e a).2 := by
  have := he (a + 1) h1 (by omega)
  unfold partB
  split
  · simp; omega
  · split
    · simp; omega
    · split
      · simp; omega
      · simp only; omega
theorem partF_bd {T : Nat → Tn} {n m : Nat} {e : Nat → List Nd × Nat} (he : eOk n m e) {a : Nat} (h1 : m ≤ a + 1) (h2 : a < n) :
    a + 1 ≤ (partF T n e a).2 ∧ (partF T n e a).2 + a ≤ 2 * n + 1 ∧ 1 ≤ (partF T n e a).1.length ∧ (partF T n e a).1.length + 1 + 2 * a ≤ 2 * (partF T n e a).2 := by
  have hb := partB_bd (T := T) he h1 h2
  have hr := repsL_bd T n (n + 1) (partB T e a).2
  unfold partF
  simp only [List.length_append]
  omega
theorem behL_bd {T : Nat → Tn} {n m : Nat} {e : Nat → List Nd × Nat} (he : eOk n m e) (a : Nat) (h1 : m ≤ a + 1) : ∀ u i acc many, a ≤ i → i + a ≤ 2 * n + 1 → n + 1 ≤ u + i →
    (many = 0 → acc = [] ∧ i = a) → (0 < many → 1 ≤ acc.length ∧ acc.length + 1 + 2 * a ≤ 2 * i) →
    a ≤ (behL T n e u i acc many).2 ∧ (behL T n e u i acc many).2 + a ≤ 2 * n + 1 ∧ 1 ≤ (behL T n e u i acc many).1.length ∧ (behL T n e u i acc many).1.length + 2 * a ≤ 2 * (behL T n e u i acc many).2 + 1 := by
  intro u
  induction u with
  | zero =>
    intro i acc many h2 h3 h4 h5 h6
    unfold behL
    simp only
    rcases Nat.eq_zero_or_pos many with h | h
    · exfalso; have := h5 h; omega
    · have := h6 h; omega
  | succ u ih =>
    intro i acc many h2 h3 h4 h5 h6
    unfold behL
    split
    · rename_i hc
      have hp := partF_bd (T := T) he (a := i) (by omega) hc.1
      refine ih _ _ _ (by omega) (by omega) (by omega) (fun h => by omega) (fun _ => ?_)
      rcases Nat.eq_zero_or_pos many with h | h
      · obtain ⟨rfl, rfl⟩ := h5 h
        rw [if_pos h]
        simp
        omega
      · have := h6 h
        rw [if_neg (by omega)]
        simp
        omega
    · simp only
      split
      · rename_i h
        have := h5 h
        simp
        omega
      · have := h6 (by omega)
        omega
theorem bhF_bd {T : Nat → Tn} {n m : Nat} {e : Nat → List Nd × Nat} (he : eOk n m e) (a : Nat) (h1 : m ≤ a + 1) (h2 : a ≤ n) :
    a ≤ (bhF T n e a).2 ∧ (bhF T n e a).2 + a ≤ 2 * n + 1 ∧ 1 ≤ (bhF T n e a).1.length ∧ (bhF T n e a).1.length + 2 * a ≤ 2 * (bhF T n e a).2 + 1 :=
  behL_bd he a h1 _ _ _ _ (by omega) (by omega) (by omega) (fun _ => ⟨rfl, rfl⟩) (fun h => by omega)
theorem eiL_bd {T : Nat → Tn} {n m : Nat} {e : Nat → List Nd × Nat} (he : eOk n m e) (a : Nat) (h1 : m ≤ a + 1) : ∀ u i acc, a ≤ i → i + a ≤ 2 * n + 1 → 1 ≤ acc.length → acc.length + 2 * a ≤ 2 * i + 1 →
    a ≤ (eiL T n e u i acc).2 ∧ (eiL T n e u i acc).2 + a ≤ 2 * n + 1 ∧ 1 ≤ (eiL T n e u i acc).1.length ∧ (eiL T n e u i acc).1.length + 2 * a ≤ 2 * (eiL T n e u i acc).2 + 1 := by
  intro u
  induction u with
  | zero => intro i acc h2 h3 h4 h5; unfold eiL; simp only; omega
  | succ u ih =>
    intro i acc h2 h3 h4 h5
    unfold eiL
    split
    · rename_i hc
      have hb := bhF_bd (T := T) he (i + 1) (by omega) (by omega)
      refine ih _ _ (by omega) (by omega) (by simp; omega) ?_
      simp
      omega
    · simp only; omega
theorem ei_ok (T : Nat → Tn) (n : Nat) : ∀ u, eOk n (n + 1 - u) (ei T n u) := by
  intro u
  induction u with
  | zero => intro a h1 h2; omega
  | succ u ih =>
    intro a h1 h2
    have hb := bhF_bd (T := T) ih a (by omega) h2
    have := eiL_bd (T := T) ih a (by omega) (n + 2) (bhF T n (ei T n u) a).2 (bhF T n (ei T n u) a).1 hb.1 hb.2.1 hb.2.2.1 hb.2.2.2
    exact this
end Go.Proofs.Ytpfbmbegddemoaa

namespace Go.Proofs.Ytpfbmbegddemoaa

/-- How many parts are nobody's argument behind some nodes, d ahead of them; none, if a node is not good. -/
def runD : List Nd → Int → Option Int
  | [], d => some d
  | x :: l, d => if 0 ≤ ar x.k ∧ ar x.k ≤ d ∧ okN x = true then runD l (d + 1 - ar x.k) else none
theorem runD_append (l r : List Nd) (d : Int) : runD (l ++ r) d = (runD l d).bind (runD r) := by
  induction l generalizing d with
  | nil => rfl
  | cons x l ih =>
    simp only [List.cons_append, runD]
    split
    · exact ih _
    · rfl
theorem runD_one {x : Nd} {d : Int} (h0 : 0 ≤ ar x.k) (h1 : ar x.k ≤ d) (h2 : okN x = true) : runD [x] d = some (d + 1 - ar x.k) := by
  simp only [runD]; rw [if_pos ⟨h0, h1, h2⟩]
theorem okN_nd0 (k : Int) (hk : k ≠ 7) : okN (nd0 k) = true := by simp [okN, nd0, hk]
theorem okN_set (t : Tn) : okN (ndSet t) = true := by simp [okN, ndSet]
theorem run_leaf {d : Int} (hd : 0 ≤ d) : runD [nd0 2] d = some (d + 1) ∧ runD [nd0 3] d = some (d + 1) ∧ runD [nd0 4] d = some (d + 1) := by
  have e : ar 2 = 0 ∧ ar 3 = 0 ∧ ar 4 = 0 := by decide
  refine ⟨?_, ?_, ?_⟩ <;> (rw [runD_one (by decide) hd (okN_nd0 _ (by decide))]; congr 1; show d + 1 - ar _ = d + 1; simp only [nd0]; omega)
theorem run_set {t : Tn} {d : Int} (hd : 0 ≤ d) : runD [ndSet t] d = some (d + 1) := by
  rw [runD_one (x := ndSet t) (by show 0 ≤ ar 1; decide) (by show ar 1 ≤ d; exact hd) (okN_set t)]; have e : ar 1 = 0 := by decide
  congr 1; show d + 1 - ar 1 = d + 1; omega
theorem run_two {d : Int} (hd : 0 ≤ d) : runD [nd0 5] (d + 2) = some (d + 1) ∧ runD [nd0 6] (d + 2) = some (d + 1) := by
  have e : ar 5 = 2 ∧ ar 6 = 2 := by decide
  refine ⟨?_, ?_⟩
  · rw [runD_one (x := nd0 5) (by show 0 ≤ ar 5; omega) (by show ar 5 ≤ d + 2; omega) (okN_nd0 _ (by decide)), show d + 2 + 1 - ar (nd0 5).k = d + 1 by show d + 2 + 1 - ar 5 = d + 1; omega]
  · rw [runD_one (x := nd0 6) (by show 0 ≤ ar 6; omega) (by show ar 6 ≤ d + 2; omega) (okN_nd0 _ (by decide)), show d + 2 + 1 - ar (nd0 6).k = d + 1 by show d + 2 + 1 - ar 6 = d + 1; omega]
/-- Are all repeats such as a tree lets be? -/
def repsOk (T : Nat → Tn) (n : Nat) : Prop := ∀ i, i < n → (T i).k = 5 → okN (ndRep (T i)) = true
def eRun (n m : Nat) (e : Nat → List Nd × Nat) : Prop := ∀ a, m ≤ a → a ≤ n → ∀ d, 0 ≤ d → runD (e a).1 d = some (d + 1)
theorem repsL_run {T : Nat → Tn} {n : Nat} (ho : repsOk T n) : ∀ u i d, 1 ≤ d → runD (repsL T n u i).1 d = some d := by
  intro u
  induction u with
  | zero => intro i d hd; rfl
  | succ u ih =>
    intro i d hd
    unfold repsL
    split
    · rename_i h
      have e7 : ar (ndRep (T i)).k = 1 := by show ar 7 = 1; decide
      simp only [runD]
      rw [if_pos ⟨by omega, by omega, ho i h.1 h.2⟩, show d + 1 - ar (ndRep (T i)).k = d by omega]
      exact ih _ _ hd
    · rfl
theorem partF_run {T : Nat → Tn} {n m : Nat} {e : Nat → List Nd × Nat} (ho : repsOk T n) (he : eRun n m e) {a : Nat} (h1 : m ≤ a + 1) (h2 : a < n) (d : Int) (hd : 0 ≤ d) : runD (partF T n e a).1 d = some (d + 1) := by
  have hb : runD (partB T e a).1 d = some (d + 1) := by
    unfold partB
    split
    · exact run_set hd
    · split
      · exact (run_leaf hd).2.1
      · split
        · exact (run_leaf hd).2.2
        · exact he (a + 1) h1 (by omega) d hd
  unfold partF
  rw [runD_append, hb]
  exact repsL_run ho _ _ _ (by omega)
theorem behL_run {T : Nat → Tn} {n m : Nat} {e : Nat → List Nd × Nat} (ho : repsOk T n) (hk : eOk n m e) (he : eRun n m e) (d : Int) (hd : 0 ≤ d) : ∀ u i acc many, m ≤ i + 1 → n + 1 ≤ u + i → 0 < u →
    runD acc d = some (d + if many = 0 then 0 else 1) → runD (behL T n e u i acc many).1 d = some (d + 1) := by
  intro u
  induction u with
  | zero => intro i acc many _ _ h _; omega
  | succ u ih =>
    intro i acc many h1 h2 _ h3
    unfold behL
    split
    · rename_i hc
      have hp := partF_bd (T := T) hk (a := i) h1 hc.1
      have hr := partF_run ho he (a := i) h1 hc.1
      refine ih _ _ _ (by omega) (by omega) (by omega) ?_
      rw [runD_append, runD_append, h3]
      rcases Nat.eq_zero_or_pos many with h | h
      · rw [if_pos h, if_pos h, if_neg (by omega)]
        simp only [Int.add_zero, Option.bind_some]
        rw [hr d hd]; rfl
      · rw [if_neg (by omega), if_neg (by omega), if_neg (by omega)]
        simp only [Option.bind_some]
        rw [hr (d + 1) (by omega)]
        simp only [Option.bind_some]
        rw [show d + 1 + 1 = d + 2 by omega]
        exact (run_two hd).1
    · simp only
      split
      · exact (run_leaf hd).1
      · rename_i h
        rw [if_neg h] at h3
        exact h3
theorem bhF_run {T : Nat → Tn} {n m : Nat} {e : Nat → List Nd × Nat} (ho : repsOk T n) (hk : eOk n m e) (he : eRun n m e) (a : Nat) (h1 : m ≤ a + 1) (d : Int) (hd : 0 ≤ d) : runD (bhF T n e a).1 d = some (d + 1) :=
  behL_run ho hk he d hd _ _ _ _ h1 (by omega) (by omega) (by simp [runD])
theorem eiL_run {T : Nat → Tn} {n m : Nat} {e : Nat → List Nd × Nat} (ho : repsOk T n) (hk : eOk n m e) (he : eRun n m e) (d : Int) (hd : 0 ≤ d) : ∀ u i acc, m ≤ i + 1 → runD acc d = some (d + 1) → runD (eiL T n e u i acc).1 d = some (d + 1) := by
  intro u
  induction u with
  | zero => intro i acc _ h; exact h
  | succ u ih =>
    intro i acc h1 h3
    unfold eiL
    split
    · rename_i hc
      have hb := bhF_bd (T := T) hk (i + 1) (by omega) (by omega)
      refine ih _ _ (by omega) ?_
      rw [runD_append, runD_append, h3]
      simp only [Option.bind_some]
      rw [bhF_run ho hk he (i + 1) (by omega) (d + 1) (by omega)]
      simp only [Option.bind_some]
      rw [show d + 1 + 1 = d + 2 by omega]
      exact (run_two hd).2
    · exact h3
theorem ei_run {T : Nat → Tn} {n : Nat} (ho : repsOk T n) : ∀ u, eRun n (n + 1 - u) (ei T n u) := by
  intro u
  induction u with
  | zero => intro a h1 h2; omega
  | succ u ih =>
    intro a h1 h2 d hd
    have hb := bhF_bd (T := T) (ei_ok T n u) a (by omega) h2
    exact eiL_run ho (ei_ok T n u) ih d hd _ _ _ (by omega) (bhF_run ho (ei_ok T n u) ih a (by omega) d hd)
end Go.Proofs.Ytpfbmbegddemoaa
