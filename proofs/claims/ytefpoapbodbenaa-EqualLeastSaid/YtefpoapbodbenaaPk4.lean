/-
  What a tree tells ahead of any text, and which parts of a text fit it. Plain facts.
  How many states a tree has. Plain facts.
  A tree turned around: as a list it is a tree, and that tree; which parts of a text fit it. Plain facts.
  Automata that are not yet decided, made of trees: just the parts of a text that fit a tree lead through its automaton. Plain facts.
  Just the parts of a text that fit a tree lead through its part of an automaton. Plain facts.
  An automaton of a tree is told by the tree alone; each of its states may be. Plain facts.
  Where one comes at once, and by bytes; what leads to the end. Plain facts.
  What all texts of the tree lean on: imports, small words on worlds, slices that read as nodes or as numbers.
  Rows of bools, and states, in memory; where one comes at once as the reference counts it.
-/
import Derived.Test.YtefpoapbodbenaaPk3
import Derived.Test.YtefpoapbodbenaaPk1
import Derived.Test.YtefpoapbodbenaaProg
import Derived.WalkKit
import Derived.WalkSpells
import Derived.WalkLawsBesides
import Derived.Handy
import Derived.KernelRfl
import Derived.Deep.RegionHeld3
import Derived.Deep.RegionHeldLaw
import Derived.Deep.QuietTactic
import Derived.BigQuiet
import Derived.Lib.Hide
import Derived.OneCell
import Derived.Laws.StructEq
import Derived.Laws.OwnMore
import Derived.Laws.IdiomArrays
import Derived.OwnWalk
namespace Go.Proofs.Ytefpoapbodbenaa

/-- What is told: never, at least, at most (-1: without bound), the first bytes. -/
structure Fx where
  nv : Bool
  ls : Int
  ms : Int
  fi : Nat → Bool
def cap20 (n : Int) : Int := min n 1048576
theorem cap_pos {n : Int} (h : 0 ≤ n) : 0 ≤ cap20 n := by unfold cap20; omega
theorem cap_le (n : Int) : cap20 n ≤ n := by unfold cap20; omega
theorem cap_ge {m n : Int} (h : m ≤ n) (h1 : m ≤ 1048576) : m ≤ cap20 n := by unfold cap20; omega
def fx0 : Fx := ⟨false, 0, 0, fun _ => false⟩
def fxN : Fx := ⟨true, 0, 0, fun _ => false⟩
def leafX (x : Nd) : Fx := if x.k = 1 then (if x.a = 0 ∧ x.b = 0 ∧ x.c = 0 ∧ x.d = 0 then fxN else ⟨false, 1, 1, fOf x⟩) else fx0
def catX (a b : Fx) : Fx := if a.nv = true ∨ b.nv = true then fxN else
  ⟨false, cap20 (a.ls + b.ls), if a.ms = -1 ∨ b.ms = -1 then -1 else cap20 (a.ms + b.ms), if a.ls = 0 then fun k => a.fi k || b.fi k else a.fi⟩
def orX (a b : Fx) : Fx := if a.nv = true then b else if b.nv = true then a else
  ⟨false, min a.ls b.ls, if a.ms = -1 ∨ b.ms = -1 then -1 else max a.ms b.ms, fun k => a.fi k || b.fi k⟩
def repX (lo hi : Int) (a : Fx) : Fx := if hi = 0 ∨ (lo = 0 ∧ a.nv = true) then fx0 else if a.nv = true then fxN else
  ⟨false, cap20 (lo * a.ls), if a.ms = -1 ∨ (hi = -1 ∧ 0 < a.ms) then -1 else if 0 < hi then cap20 (hi * a.ms) else 0, a.fi⟩
def fxT : Tr → Fx
  | .leaf x => leafX x
  | .cat a b => catX (fxT a) (fxT b)
  | .or a b => orX (fxT a) (fxT b)
  | .rep a lo hi => repX lo hi (fxT a)

/-- Which parts of a text (n bytes, tx i its bytes) do something. -/
abbrev Gr := Nat → Nat → Bool
def evenB (n : Nat) : Gr := fun i j => decide (i = j) && decide (j ≤ n)
def behB (n : Nat) (a b : Gr) : Gr := fun i j => (List.range (n + 1)).any fun m => decide (i ≤ m) && decide (m ≤ j) && (a i m && b m j)
def powB (n : Nat) (x : Gr) : Nat → Gr
  | 0 => evenB n
  | k + 1 => behB n (powB n x k) x
def repB (n : Nat) (x : Gr) (lo more : Nat) : Gr := fun i j => (List.range (more + 1)).any fun k => powB n x (lo + k) i j
def leafB7 (n : Nat) (tx : Nat → Nat) (x : Nd) : Gr := fun i j =>
  if x.k = 1 then decide (i < n) && decide (j = i + 1) && fOf x (tx i) else if x.k = 2 then evenB n i j else if x.k = 3 then decide (i = 0) && decide (j = 0) else decide (i = n) && decide (j = n)
def moreN (n : Nat) (lo hi : Int) : Nat := if hi = -1 then n else (hi - lo).toNat
def fitT (n : Nat) (tx : Nat → Nat) : Tr → Gr
  | .leaf x => leafB7 n tx x
  | .cat a b => behB n (fitT n tx a) (fitT n tx b)
  | .or a b => fun i j => fitT n tx a i j || fitT n tx b i j
  | .rep a lo hi => repB n (fitT n tx a) lo.toNat (moreN n lo hi)

/-- A part is within what is told. -/
def inX (n : Nat) (tx : Nat → Nat) (a : Fx) (i j : Nat) : Prop := i ≤ j ∧ j ≤ n ∧ a.nv = false ∧ a.ls ≤ (j : Int) - i ∧ (a.ms = -1 ∨ (j : Int) - i ≤ a.ms) ∧ (i < j → a.fi (tx i) = true)
def okX (a : Fx) : Prop := 0 ≤ a.ls ∧ (a.ms = -1 ∨ 0 ≤ a.ms)
theorem okX_T : ∀ t, okT t → okX (fxT t)
  | .leaf x, _ => by
    unfold fxT leafX
    split
    · split
      · exact ⟨Int.le_refl _, .inr (Int.le_refl _)⟩
      · exact ⟨show (0 : Int) ≤ 1 by decide, .inr (show (0 : Int) ≤ 1 by decide)⟩
    · exact ⟨Int.le_refl _, .inr (Int.le_refl _)⟩
  | .cat a b, h => by
    obtain ⟨a1, a2⟩ := okX_T a h.1
    obtain ⟨b1, b2⟩ := okX_T b h.2
    show okX (catX (fxT a) (fxT b))
    unfold catX
    split
    · exact ⟨Int.le_refl _, .inr (Int.le_refl _)⟩
    · refine ⟨?_, ?_⟩
      · exact cap_pos (by omega)
      · show (if _ then _ else _) = _ ∨ _ ≤ (if _ then _ else _)
        split
        · exact .inl rfl
        · exact .inr (cap_pos (by omega))
  | .or a b, h => by
    obtain ⟨a1, a2⟩ := okX_T a h.1
    obtain ⟨b1, b2⟩ := okX_T b h.2
    show okX (orX (fxT a) (fxT b))
    unfold orX
    split
    · exact ⟨b1, b2⟩
    · split
      · exact ⟨a1, a2⟩
      · refine ⟨?_, ?_⟩
        · show 0 ≤ min _ _; omega
        · show (if _ then _ else _) = _ ∨ _ ≤ (if _ then _ else _)
          split
          · exact .inl rfl
          · rename_i hno
            exact .inr (Int.le_trans (show (0 : Int) ≤ (fxT a).ms by omega) (Int.le_max_left _ _))
  | .rep a lo hi, h => by
    obtain ⟨a1, a2⟩ := okX_T a h.1
    have h1 := h.2.1
    show okX (repX lo hi (fxT a))
    unfold repX
    split
    · exact ⟨Int.le_refl _, .inr (Int.le_refl _)⟩
    · split
      · exact ⟨Int.le_refl _, .inr (Int.le_refl _)⟩
      · refine ⟨?_, ?_⟩
        · exact cap_pos (Int.mul_nonneg h1 a1)
        · show (if _ then _ else _) = _ ∨ _ ≤ (if _ then _ else _)
          split
          · exact .inl rfl
          · right
            split
            · rename_i hn hp
              have : 0 ≤ (fxT a).ms := by omega
              exact cap_pos (Int.mul_nonneg (Int.le_of_lt hp) this)
            · exact Int.le_refl _
theorem fOf_none {x : Nd} (h : x.a = 0 ∧ x.b = 0 ∧ x.c = 0 ∧ x.d = 0) (k : Nat) : fOf x k = false := by
  obtain ⟨a, b, c, d⟩ := h
  unfold fOf ofWords
  rw [a, b, c, d]
  simp
theorem in_leaf {n : Nat} {tx : Nat → Nat} {x : Nd} {i j : Nat} (h : leafB7 n tx x i j = true) : inX n tx (leafX x) i j := by
  unfold leafB7 at h
  unfold leafX
  by_cases c1 : x.k = 1
  · rw [if_pos c1] at h ⊢
    simp only [Bool.and_eq_true, decide_eq_true_eq] at h
    obtain ⟨⟨h1, rfl⟩, h3⟩ := h
    by_cases c0 : x.a = 0 ∧ x.b = 0 ∧ x.c = 0 ∧ x.d = 0
    · rw [fOf_none c0] at h3; cases h3
    · rw [if_neg c0]
      exact ⟨by omega, by omega, rfl, by show (1 : Int) ≤ _; omega, .inr (by show _ ≤ (1 : Int); omega), fun _ => h3⟩
  · rw [if_neg c1] at h ⊢
    have hz : i = j ∧ j ≤ n := by
      split at h
      · unfold evenB at h; simp only [Bool.and_eq_true, decide_eq_true_eq] at h; exact h
      · split at h
        · simp only [Bool.and_eq_true, decide_eq_true_eq] at h; omega
        · simp only [Bool.and_eq_true, decide_eq_true_eq] at h; omega
    obtain ⟨rfl, hj⟩ := hz
    exact ⟨Nat.le_refl _, hj, rfl, by show (0 : Int) ≤ _; omega, .inr (by show _ ≤ (0 : Int); omega), fun hlt => absurd hlt (Nat.lt_irrefl _)⟩
theorem beh_iff {n : Nat} {a b : Gr} {i j : Nat} : behB n a b i j = true ↔ ∃ m, m ≤ n ∧ i ≤ m ∧ m ≤ j ∧ a i m = true ∧ b m j = true := by
  unfold behB
  rw [List.any_eq_true]
  constructor
  · rintro ⟨m, hm, h⟩
    simp only [Bool.and_eq_true, decide_eq_true_eq] at h
    exact ⟨m, by have := List.mem_range.1 hm; omega, h.1.1, h.1.2, h.2.1, h.2.2⟩
  · rintro ⟨m, h1, h2, h3, h4, h5⟩
    exact ⟨m, List.mem_range.2 (by omega), by simp [h2, h3, h4, h5]⟩
/-- Some copies, one behind the other. -/
theorem in_pow {n : Nat} {tx : Nat → Nat} {x : Gr} {a : Fx} (_ha : okX a) (hx : ∀ i j, x i j = true → inX n tx a i j) : ∀ k i j, powB n x k i j = true →
    i ≤ j ∧ j ≤ n ∧ (k : Int) * a.ls ≤ (j : Int) - i ∧ (a.ms = -1 ∨ (j : Int) - i ≤ k * a.ms) ∧ (i < j → a.fi (tx i) = true) ∧ (0 < k → a.nv = false) := by
  intro k
  induction k with
  | zero =>
    intro i j h
    unfold powB evenB at h
    simp only [Bool.and_eq_true, decide_eq_true_eq] at h
    obtain ⟨rfl, h2⟩ := h
    exact ⟨Nat.le_refl _, h2, by simp, .inr (by simp), fun hlt => absurd hlt (Nat.lt_irrefl _), fun h => absurd h (Nat.lt_irrefl _)⟩
  | succ k ih =>
    intro i j h
    unfold powB at h
    obtain ⟨m, h1, h2, h3, h4, h5⟩ := beh_iff.1 h
    obtain ⟨p1, p2, p3, p4, p5, -⟩ := ih i m h4
    obtain ⟨q1, q2, q3, q4, q5, q6⟩ := hx m j h5
    have e1 : ((k + 1 : Nat) : Int) * a.ls = (k : Int) * a.ls + a.ls := by rw [Int.natCast_add, Int.add_mul]; simp
    have e2 : ((k + 1 : Nat) : Int) * a.ms = (k : Int) * a.ms + a.ms := by rw [Int.natCast_add, Int.add_mul]; simp
    refine ⟨by omega, q2, by rw [e1]; omega, ?_, ?_, fun _ => q3⟩
    · rw [e2]; omega
    · intro hlt
      rcases Nat.lt_or_ge i m with him | him
      · exact p5 him
      · have : i = m := by omega
        subst this
        exact q6 hlt
/-- Whatever part fits is within what is told. -/
theorem fit_in {n : Nat} (hn : n ≤ 1048576) (tx : Nat → Nat) : ∀ t, okT t → ∀ i j, fitT n tx t i j = true → inX n tx (fxT t) i j
  | .leaf x, _, i, j, h => in_leaf h
  | .cat a b, ht, i, j, h => by
    obtain ⟨m, h1, h2, h3, h4, h5⟩ := beh_iff.1 (show behB n (fitT n tx a) (fitT n tx b) i j = true from h)
    obtain ⟨p1, p2, p3, p4, p5, p6⟩ := fit_in hn tx a ht.1 i m h4
    obtain ⟨q1, q2, q3, q4, q5, q6⟩ := fit_in hn tx b ht.2 m j h5
    have oa := okX_T a ht.1
    show inX n tx (catX (fxT a) (fxT b)) i j
    unfold catX
    rw [if_neg (by rw [p3, q3]; simp)]
    refine ⟨by omega, q2, rfl, ?_, ?_, ?_⟩
    · exact Int.le_trans (cap_le _) (by omega)
    · show (if _ then _ else _) = _ ∨ _ ≤ (if _ then _ else _)
      split
      · exact .inl rfl
      · exact .inr (cap_ge (by omega) (by omega))
    · intro hlt
      show (if (fxT a).ls = 0 then fun k => (fxT a).fi k || (fxT b).fi k else (fxT a).fi) (tx i) = true
      rcases Nat.lt_or_ge i m with him | him
      · have := p6 him
        split
        · simp [this]
        · exact this
      · have : i = m := by omega
        subst this
        have := q6 hlt
        rw [if_pos (by have := oa.1; omega)]
        simp [this]
  | .or a b, ht, i, j, h => by
    have h' : (fitT n tx a i j || fitT n tx b i j) = true := h
    rw [Bool.or_eq_true] at h'
    have oa := okX_T a ht.1
    have ob := okX_T b ht.2
    show inX n tx (orX (fxT a) (fxT b)) i j
    unfold orX
    rcases h' with h' | h'
    · obtain ⟨p1, p2, p3, p4, p5, p6⟩ := fit_in hn tx a ht.1 i j h'
      rw [if_neg (by rw [p3]; simp)]
      split
      · exact ⟨p1, p2, p3, p4, p5, p6⟩
      · refine ⟨p1, p2, rfl, ?_, ?_, fun hlt => ?_⟩
        · show min _ _ ≤ _; omega
        · show (if _ then _ else _) = _ ∨ _ ≤ (if _ then _ else _)
          split
          · exact .inl rfl
          · exact .inr (Int.le_trans (show (j : Int) - i ≤ (fxT a).ms by omega) (Int.le_max_left _ _))
        · show ((fxT a).fi (tx i) || (fxT b).fi (tx i)) = true
          rw [p6 hlt]; rfl
    · obtain ⟨p1, p2, p3, p4, p5, p6⟩ := fit_in hn tx b ht.2 i j h'
      split
      · exact ⟨p1, p2, p3, p4, p5, p6⟩
      · rw [if_neg (by rw [p3]; simp)]
        refine ⟨p1, p2, rfl, ?_, ?_, fun hlt => ?_⟩
        · show min _ _ ≤ _; omega
        · show (if _ then _ else _) = _ ∨ _ ≤ (if _ then _ else _)
          split
          · exact .inl rfl
          · exact .inr (Int.le_trans (show (j : Int) - i ≤ (fxT b).ms by omega) (Int.le_max_right _ _))
        · show ((fxT a).fi (tx i) || (fxT b).fi (tx i)) = true
          rw [p6 hlt, Bool.or_true]
  | .rep a lo hi, ht, i, j, h => by
    have oa := okX_T a ht.1
    have h' : repB n (fitT n tx a) lo.toNat (moreN n lo hi) i j = true := h
    unfold repB at h'
    obtain ⟨k, hk, hp⟩ := List.any_eq_true.1 h'
    have hk := List.mem_range.1 hk
    obtain ⟨p1, p2, p3, p4, p5, p6⟩ := in_pow oa (fit_in hn tx a ht.1) _ i j hp
    obtain ⟨-, l1, l2, l3⟩ := ht
    obtain ⟨l, rfl⟩ := Int.eq_ofNat_of_zero_le l1
    rw [Int.toNat_natCast] at p3 p4 p6
    have kle : hi = -1 ∨ (l + k : Int) ≤ hi := by
      unfold moreN at hk
      split at hk
      · left; assumption
      · right; omega
    show inX n tx (repX l hi (fxT a)) i j
    unfold repX
    by_cases c1 : hi = 0 ∨ ((l : Int) = 0 ∧ (fxT a).nv = true)
    · rw [if_pos c1]
      have hz : l + k = 0 := by
        rcases c1 with c1 | ⟨c1, c2⟩
        · omega
        · rcases Nat.eq_zero_or_pos (l + k) with h0 | h0
          · exact h0
          · have := p6 h0; rw [c2] at this; cases this
      rw [hz] at p4 p3
      have hij : j = i := by
        have h0 : powB n (fitT n tx a) 0 i j = true := by rw [Int.toNat_natCast, hz] at hp; exact hp
        unfold powB evenB at h0
        simp only [Bool.and_eq_true, decide_eq_true_eq] at h0
        exact h0.1.symm
      subst hij
      exact ⟨Nat.le_refl _, p2, rfl, by show (0 : Int) ≤ _; omega, .inr (by show _ ≤ (0 : Int); omega), fun hlt => absurd hlt (Nat.lt_irrefl _)⟩
    · rw [if_neg c1]
      by_cases c2 : (fxT a).nv = true
      · exfalso
        have : 0 < l := by
          rcases Nat.eq_zero_or_pos l with h0 | h0
          · exact absurd (.inr ⟨by omega, c2⟩) c1
          · exact h0
        have := p6 (by omega)
        rw [c2] at this; cases this
      · rw [if_neg c2]
        have m1 : (l : Int) * (fxT a).ls ≤ ((l + k : Nat) : Int) * (fxT a).ls := Int.mul_le_mul_of_nonneg_right (by omega) oa.1
        refine ⟨p1, p2, rfl, ?_, ?_, p5⟩
        · exact Int.le_trans (cap_le _) (by omega)
        · show (if _ then _ else _) = _ ∨ _ ≤ (if _ then _ else _)
          split
          · exact .inl rfl
          · rename_i hno
            right
            have hms : 0 ≤ (fxT a).ms := by have := oa.2; omega
            have p4' : (j : Int) - i ≤ ((l + k : Nat) : Int) * (fxT a).ms := by omega
            split
            · rename_i hp0
              have m2 : ((l + k : Nat) : Int) * (fxT a).ms ≤ hi * (fxT a).ms := Int.mul_le_mul_of_nonneg_right (by omega) hms
              exact cap_ge (by omega) (by omega)
            · rename_i hp0
              have hm0 : (fxT a).ms = 0 := by omega
              rw [hm0, Int.mul_zero] at p4'
              exact p4'
end Go.Proofs.Ytefpoapbodbenaa

namespace Go.Proofs.Ytefpoapbodbenaa

/-- How many states are made of a tree, at most 2^20. -/
def szF : Tr → Int
  | .leaf _ => 2
  | .cat a b => cap20 (szF a + szF b)
  | .or a b => cap20 (szF a + szF b + 2)
  | .rep a lo hi => cap20 (2 + lo * szF a + (if hi = -1 then szF a + 1 else (hi - lo) * (szF a + 1)))
theorem cap_two {n : Int} (h : 2 ≤ n) : 2 ≤ cap20 n ∧ cap20 n ≤ 1048576 := by unfold cap20; omega
theorem sz_bd : ∀ t, okT t → 2 ≤ szF t ∧ szF t ≤ 1048576
  | .leaf _, _ => ⟨show (2 : Int) ≤ 2 by decide, show (2 : Int) ≤ 1048576 by decide⟩
  | .cat a b, h => by
    have h1 := sz_bd a h.1; have h2 := sz_bd b h.2
    exact cap_two (by omega)
  | .or a b, h => by
    have h1 := sz_bd a h.1; have h2 := sz_bd b h.2
    exact cap_two (by omega)
  | .rep a lo hi, h => by
    have h1 := sz_bd a h.1
    refine cap_two ?_
    have m1 := Int.mul_nonneg h.2.1 (show 0 ≤ szF a by omega)
    split
    · omega
    · rename_i hn
      have := h.2.2.2
      have m2 := Int.mul_nonneg (show 0 ≤ hi - lo by omega) (show 0 ≤ szF a + 1 by omega)
      omega
theorem sz_one {N : Nat → Nd} {p : Nat} (hk : (N (p + 1)).k = 7) : szF (trT N (p + 1)) = cap20 (2 + (N (p + 1)).lo * szF (trT N p) + (if (N (p + 1)).hi = -1 then szF (trT N p) + 1 else ((N (p + 1)).hi - (N (p + 1)).lo) * (szF (trT N p) + 1))) := by rw [trT_one hk]; rfl
theorem sz_cat {N : Nat → Nd} {n p q : Nat} (ht : tree N n) (hi : p + 1 < n) (hk : (N (p + 1)).k = 5) (h1 : fst N p = (q + 1 : Nat)) (h2 : q + 1 ≤ p) : szF (trT N (p + 1)) = cap20 (szF (trT N q) + szF (trT N p)) := by rw [trT_cat ht hi hk h1 h2]; rfl
theorem sz_or {N : Nat → Nd} {n p q : Nat} (ht : tree N n) (hi : p + 1 < n) (hk : (N (p + 1)).k = 6) (h1 : fst N p = (q + 1 : Nat)) (h2 : q + 1 ≤ p) : szF (trT N (p + 1)) = cap20 (szF (trT N q) + szF (trT N p) + 2) := by rw [trT_or ht hi hk h1 h2]; rfl
theorem sz_leaf {N : Nat → Nd} {i : Nat} (hk : (N i).k = 1 ∨ (N i).k = 2 ∨ (N i).k = 3 ∨ (N i).k = 4) : szF (trT N i) = 2 := by rw [trT_leaf hk]; rfl
end Go.Proofs.Ytefpoapbodbenaa

namespace Go.Proofs.Ytefpoapbodbenaa

def trnN (x : Nd) : Nd := if x.k = 3 then { x with k := 4 } else if x.k = 4 then { x with k := 3 } else x
def trn : Tr → Tr
  | .leaf x => .leaf (trnN x)
  | .cat a b => .cat (trn b) (trn a)
  | .or a b => .or (trn a) (trn b)
  | .rep a lo hi => .rep (trn a) lo hi
theorem trnN_two (x : Nd) : trnN (trnN x) = x := by
  obtain ⟨k, a, b, c, d, lo, hi⟩ := x
  unfold trnN
  by_cases h3 : k = 3
  · subst h3; rfl
  · by_cases h4 : k = 4
    · subst h4; rfl
    · simp [h3, h4]
theorem trn_two : ∀ t, trn (trn t) = t
  | .leaf x => by show Tr.leaf (trnN (trnN x)) = _; rw [trnN_two]
  | .cat a b => by show Tr.cat (trn (trn a)) (trn (trn b)) = _; rw [trn_two a, trn_two b]
  | .or a b => by show Tr.or (trn (trn a)) (trn (trn b)) = _; rw [trn_two a, trn_two b]
  | .rep a lo hi => by show Tr.rep (trn (trn a)) lo hi = _; rw [trn_two a]
theorem okT_trn : ∀ t, okT t → okT (trn t)
  | .leaf x, h => by
    show okT (.leaf (trnN x))
    rcases h with ⟨h1, h2⟩ | rfl | rfl | rfl
    · rw [show trnN x = x by unfold trnN; rw [if_neg (by omega), if_neg (by omega)]]
      exact .inl ⟨h1, h2⟩
    · exact .inr (.inl rfl)
    · exact .inr (.inr (.inr rfl))
    · exact .inr (.inr (.inl rfl))
  | .cat a b, h => ⟨okT_trn b h.2, okT_trn a h.1⟩
  | .or a b, h => ⟨okT_trn a h.1, okT_trn b h.2⟩
  | .rep a _ _, h => ⟨okT_trn a h.1, h.2⟩
theorem post_trn : ∀ t, (post (trn t)).length = (post t).length
  | .leaf x => rfl
  | .cat a b => by
    show (post (trn b) ++ post (trn a) ++ [nd0 5]).length = (post a ++ post b ++ [nd0 5]).length
    simp only [List.length_append, post_trn a, post_trn b]; omega
  | .or a b => by
    show (post (trn a) ++ post (trn b) ++ [nd0 6]).length = (post a ++ post b ++ [nd0 6]).length
    simp only [List.length_append, post_trn a, post_trn b]
  | .rep a lo hi => by
    show (post (trn a) ++ [ndR lo hi]).length = (post a ++ [ndR lo hi]).length
    simp only [List.length_append, post_trn a]
theorem post_pos : ∀ t, 1 ≤ (post t).length
  | .leaf x => Nat.le_refl _
  | .cat a b => by show 1 ≤ (post a ++ post b ++ [nd0 5]).length; simp; omega
  | .or a b => by show 1 ≤ (post a ++ post b ++ [nd0 6]).length; simp; omega
  | .rep a lo hi => by show 1 ≤ (post a ++ [ndR lo hi]).length; simp

/-- A tree's nodes run to one part. -/
theorem run_post : ∀ t, okT t → ∀ d, 0 ≤ d → runD (post t) d = some (d + 1)
  | .leaf x, h, d, hd => by
    show runD [x] d = _
    rcases h with ⟨h1, h2, h3⟩ | rfl | rfl | rfl
    · have e : ar x.k = 0 := by rw [h1]; decide
      rw [runD_one (by omega) (by omega) (by simp [okN, h1, h2, h3]), e]
      congr 1; omega
    · exact (run_leaf hd).1
    · exact (run_leaf hd).2.1
    · exact (run_leaf hd).2.2
  | .cat a b, h, d, hd => by
    show runD (post a ++ post b ++ [nd0 5]) d = _
    rw [runD_append, runD_append, run_post a h.1 d hd]
    show ((runD (post b) (d + 1)).bind (runD [nd0 5])) = _
    rw [run_post b h.2 (d + 1) (by omega), show d + 1 + 1 = d + 2 by omega]
    exact (run_two hd).1
  | .or a b, h, d, hd => by
    show runD (post a ++ post b ++ [nd0 6]) d = _
    rw [runD_append, runD_append, run_post a h.1 d hd]
    show ((runD (post b) (d + 1)).bind (runD [nd0 6])) = _
    rw [run_post b h.2 (d + 1) (by omega), show d + 1 + 1 = d + 2 by omega]
    exact (run_two hd).2
  | .rep a lo hi, h, d, hd => by
    show runD (post a ++ [ndR lo hi]) d = _
    rw [runD_append, run_post a h.1 d hd]
    show runD [ndR lo hi] (d + 1) = _
    have e : ar 7 = 1 := by decide
    have hok : okN (ndR lo hi) = true := by
      obtain ⟨-, h1, h2, h3⟩ := h
      have g : (hi == -1 || (decide (lo ≤ hi) && decide (hi ≤ 32))) = true := by
        rcases h3 with h3 | ⟨h3, h4⟩
        · simp [h3]
        · simp [h3, h4]
      unfold okN
      show (((7 : Int) == 1 || ((0 : Int) == 0 && (0 : Int) == 0 && (0 : Int) == 0 && (0 : Int) == 0)) && (if (7 : Int) = 7 then decide (0 ≤ lo) && decide (lo ≤ 32) && (hi == -1 || (decide (lo ≤ hi) && decide (hi ≤ 32))) else lo == 0 && hi == 0)) = true
      rw [if_pos rfl, g, decide_eq_true h1, decide_eq_true h2]; rfl
    rw [runD_one (x := ndR lo hi) (by show 0 ≤ ar 7; omega) (by show ar 7 ≤ d + 1; omega) hok, show ar (ndR lo hi).k = 1 from e]
    congr 1; omega
theorem tree_post {t : Tr} (h : okT t) (hl : (post t).length ≤ 512) : tree (nfn (post t)) (post t).length := tree_of_run (run_post t h 0 (Int.le_refl _)) hl

theorem fst_zero {N : Nat → Nd} {i : Nat} (h : ar (N i).k = 0) : fst N i = i := by
  rw [fst_eq, if_neg (by omega), h]; exact back_zero N i
theorem fst_one {N : Nat → Nd} {p : Nat} (h : ar (N (p + 1)).k = 1) : fst N (p + 1) = fst N p := by
  rw [fst_eq, if_neg (by omega), h]; rfl
theorem fst_two {N : Nat → Nd} {p q : Nat} (h : ar (N (p + 1)).k = 2) (h1 : fst N p = (q + 1 : Nat)) : fst N (p + 1) = fst N q := by
  rw [fst_eq, if_neg (by omega), h]
  show back N (p + 1) (1 + 1) = _
  rw [back_step, h1, if_neg (by omega)]; rfl
/-- Where a tree's nodes stand in a tree, its last one is that tree. -/
theorem trT_post {N : Nat → Nd} {n : Nat} (ht : tree N n) : ∀ t, okT t → ∀ f, f + (post t).length ≤ n → (∀ j (h : j < (post t).length), N (f + j) = (post t)[j]) →
    ∃ i, i + 1 = f + (post t).length ∧ fst N i = f ∧ trT N i = t
  | .leaf x, h, f, hl, hN => by
    have e : N f = x := hN 0 (by show 0 < 1; omega)
    have hk : (N f).k = 1 ∨ (N f).k = 2 ∨ (N f).k = 3 ∨ (N f).k = 4 := by
      rw [e]
      rcases h with ⟨h1, -⟩ | rfl | rfl | rfl
      · exact .inl h1
      · exact .inr (.inl rfl)
      · exact .inr (.inr (.inl rfl))
      · exact .inr (.inr (.inr rfl))
    refine ⟨f, rfl, fst_zero (by unfold ar; rw [if_pos hk]), ?_⟩
    rw [trT_leaf hk, e]
  | .cat a b, h, f, hl, hN => by
    have e : post (.cat a b) = post a ++ post b ++ [nd0 5] := rfl
    have len : (post (.cat a b)).length = (post a).length + (post b).length + 1 := by rw [e]; simp; omega
    rw [len] at hl
    obtain ⟨q, hq, hq1, hq2⟩ := trT_post ht a h.1 f (by omega) (fun j hj => by
      rw [hN j (by omega)]; simp only [e]; rw [List.getElem_append_left (by simp; omega), List.getElem_append_left hj])
    obtain ⟨p, hp, hp1, hp2⟩ := trT_post ht b h.2 (f + (post a).length) (by omega) (fun j hj => by
      rw [Nat.add_assoc, hN ((post a).length + j) (by omega)]; simp only [e]; rw [List.getElem_append_left (by simp; omega), List.getElem_append_right (by omega)]; congr 1; omega)
    have hk : N (p + 1) = nd0 5 := by
      rw [show p + 1 = f + ((post a).length + (post b).length) by omega, hN _ (by omega)]; simp only [e]
      rw [List.getElem_append_right (by simp)]; simp
    have hk5 : (N (p + 1)).k = 5 := by rw [hk]; rfl
    have h1 : fst N p = (q + 1 : Nat) := by rw [hp1]; omega
    have := post_pos b
    refine ⟨p + 1, by rw [len]; omega, ?_, ?_⟩
    · rw [fst_two (by rw [hk5]; decide) h1, hq1]
    · rw [trT_cat ht (by omega) hk5 h1 (by omega), hq2, hp2]
  | .or a b, h, f, hl, hN => by
    have e : post (.or a b) = post a ++ post b ++ [nd0 6] := rfl
    have len : (post (.or a b)).length = (post a).length + (post b).length + 1 := by rw [e]; simp; omega
    rw [len] at hl
    obtain ⟨q, hq, hq1, hq2⟩ := trT_post ht a h.1 f (by omega) (fun j hj => by
      rw [hN j (by omega)]; simp only [e]; rw [List.getElem_append_left (by simp; omega), List.getElem_append_left hj])
    obtain ⟨p, hp, hp1, hp2⟩ := trT_post ht b h.2 (f + (post a).length) (by omega) (fun j hj => by
      rw [Nat.add_assoc, hN ((post a).length + j) (by omega)]; simp only [e]; rw [List.getElem_append_left (by simp; omega), List.getElem_append_right (by omega)]; congr 1; omega)
    have hk : N (p + 1) = nd0 6 := by
      rw [show p + 1 = f + ((post a).length + (post b).length) by omega, hN _ (by omega)]; simp only [e]
      rw [List.getElem_append_right (by simp)]; simp
    have hk5 : (N (p + 1)).k = 6 := by rw [hk]; rfl
    have h1 : fst N p = (q + 1 : Nat) := by rw [hp1]; omega
    have := post_pos b
    refine ⟨p + 1, by rw [len]; omega, ?_, ?_⟩
    · rw [fst_two (by rw [hk5]; decide) h1, hq1]
    · rw [trT_or ht (by omega) hk5 h1 (by omega), hq2, hp2]
  | .rep a lo hi, h, f, hl, hN => by
    have e : post (.rep a lo hi) = post a ++ [ndR lo hi] := rfl
    have len : (post (.rep a lo hi)).length = (post a).length + 1 := by rw [e]; simp
    rw [len] at hl
    obtain ⟨p, hp, hp1, hp2⟩ := trT_post ht a h.1 f (by omega) (fun j hj => by
      rw [hN j (by omega)]; simp only [e]; rw [List.getElem_append_left hj])
    have hk : N (p + 1) = ndR lo hi := by
      rw [hp, hN _ (by omega)]; simp only [e]
      rw [List.getElem_append_right (Nat.le_refl _)]; simp
    have hk7 : (N (p + 1)).k = 7 := by rw [hk]; rfl
    refine ⟨p + 1, by rw [len]; omega, ?_, ?_⟩
    · rw [fst_one (by rw [hk7]; decide), hp1]
    · rw [trT_one hk7, hp2, hk]; rfl
theorem nfn_at (l : List Nd) (j : Nat) (h : j < l.length) : nfn l j = l[j] := by
  unfold nfn; rw [List.getD_eq_getElem?_getD, List.getElem?_eq_getElem h]; rfl
theorem trT_back {t : Tr} (h : okT t) (hl : (post t).length ≤ 512) : trT (nfn (post t)) ((post t).length - 1) = t := by
  obtain ⟨i, hi, -, he⟩ := trT_post (tree_post h hl) t h 0 (by omega) (fun j hj => by rw [Nat.zero_add]; exact nfn_at _ j hj)
  rw [show (post t).length - 1 = i by omega, he]
/-- The list of the tree turned around. -/
def trnL (N : Nat → Nd) (n : Nat) : List Nd := post (trn (trT N (n - 1)))
theorem trnL_len {N : Nat → Nd} {n : Nat} (ht : tree N n) : (trnL N n).length = n := by
  unfold trnL; rw [post_trn, (trT_root ht).1, seg_len]
theorem trnL_tree {N : Nat → Nd} {n : Nat} (ht : tree N n) : tree (nfn (trnL N n)) n := by
  have h := tree_post (okT_trn _ (trT_root ht).2.1) (show (post (trn (trT N (n - 1)))).length ≤ 512 by have := trnL_len ht; unfold trnL at this; have := ht.1; omega)
  have e := trnL_len ht
  unfold trnL at e ⊢
  rwa [e] at h
theorem trnL_trT {N : Nat → Nd} {n : Nat} (ht : tree N n) : trT (nfn (trnL N n)) (n - 1) = trn (trT N (n - 1)) := by
  have e := trnL_len ht
  have h := trT_back (okT_trn _ (trT_root ht).2.1) (show (post (trn (trT N (n - 1)))).length ≤ 512 by unfold trnL at e; have := ht.1; omega)
  unfold trnL at e ⊢
  rwa [e] at h
/-- Turned twice it is the list that it was. -/
theorem trnL_two {N : Nat → Nd} {n : Nat} (ht : tree N n) : trnL (nfn (trnL N n)) n = seg N 0 n := by
  show post (trn (trT (nfn (trnL N n)) (n - 1))) = _
  rw [trnL_trT ht, trn_two, (trT_root ht).1]
theorem trnL_twice {N : Nat → Nd} {n : Nat} (ht : tree N n) (j : Nat) (hj : j < n) : nfn (trnL (nfn (trnL N n)) n) j = N j := by
  rw [trnL_two ht, nfn_at _ j (by rw [seg_len]; exact hj)]
  unfold seg; simp

/-- Grids that are each other's mirror image. -/
def mir (n : Nat) (a b : Gr) : Prop := ∀ i j, i ≤ j → j ≤ n → a i j = b (n - j) (n - i)
theorem mir_even (n : Nat) : mir n (evenB n) (evenB n) := fun i j h1 h2 => by
  unfold evenB
  rw [decide_eq_true h2, decide_eq_true (show n - i ≤ n by omega), Bool.and_true, Bool.and_true]
  exact decide_eq_decide.2 (by omega)
theorem mir_beh {n : Nat} {a a' b b' : Gr} (ha : mir n a a') (hb : mir n b b') : mir n (behB n a b) (behB n b' a') := fun i j h1 h2 => by
  apply Bool.eq_iff_iff.2
  rw [beh_iff, beh_iff]
  constructor
  · rintro ⟨m, hm, g1, g2, g3, g4⟩
    exact ⟨n - m, by omega, by omega, by omega, by rw [← hb m j g2 h2]; exact g4, by rw [← ha i m g1 hm]; exact g3⟩
  · rintro ⟨m, hm, g1, g2, g3, g4⟩
    refine ⟨n - m, by omega, by omega, by omega, ?_, ?_⟩
    · rw [ha i (n - m) (by omega) (by omega), show n - (n - m) = m by omega]; exact g4
    · rw [hb (n - m) j (by omega) h2, show n - (n - m) = m by omega]; exact g3
theorem even_iff {n i j : Nat} : evenB n i j = true ↔ i = j ∧ j ≤ n := by unfold evenB; simp
theorem pow_comm (n : Nat) (x : Gr) : ∀ k i j, i ≤ j → j ≤ n → behB n x (powB n x k) i j = behB n (powB n x k) x i j := by
  intro k
  induction k with
  | zero =>
    intro i j h1 h2
    apply Bool.eq_iff_iff.2
    show behB n x (evenB n) i j = true ↔ behB n (evenB n) x i j = true
    rw [beh_iff, beh_iff]
    constructor
    · rintro ⟨m, hm, g1, g2, g3, g4⟩
      obtain ⟨rfl, -⟩ := even_iff.1 g4
      exact ⟨i, by omega, Nat.le_refl _, h1, even_iff.2 ⟨rfl, by omega⟩, g3⟩
    · rintro ⟨m, hm, g1, g2, g3, g4⟩
      obtain ⟨rfl, -⟩ := even_iff.1 g3
      exact ⟨j, h2, h1, Nat.le_refl _, g4, even_iff.2 ⟨rfl, h2⟩⟩
  | succ k ih =>
    intro i j h1 h2
    apply Bool.eq_iff_iff.2
    show behB n x (behB n (powB n x k) x) i j = true ↔ behB n (behB n (powB n x k) x) x i j = true
    constructor
    · intro h
      obtain ⟨m, hm, g1, g2, g3, g4⟩ := beh_iff.1 h
      obtain ⟨l, hl, k1, k2, k3, k4⟩ := beh_iff.1 g4
      exact beh_iff.2 ⟨l, hl, by omega, k2, by rw [← ih i l (by omega) hl]; exact beh_iff.2 ⟨m, hm, g1, k1, g3, k3⟩, k4⟩
    · intro h
      obtain ⟨l, hl, g1, g2, g3, g4⟩ := beh_iff.1 h
      rw [← ih i l g1 hl] at g3
      obtain ⟨m, hm, k1, k2, k3, k4⟩ := beh_iff.1 g3
      exact beh_iff.2 ⟨m, hm, k1, by omega, k3, beh_iff.2 ⟨l, hl, k2, g2, k4, g4⟩⟩
theorem mir_pow {n : Nat} {x x' : Gr} (h : mir n x x') : ∀ k, mir n (powB n x k) (powB n x' k)
  | 0 => mir_even n
  | k + 1 => fun i j h1 h2 => by
    show behB n (powB n x k) x i j = behB n (powB n x' k) x' (n - j) (n - i)
    rw [mir_beh (mir_pow h k) h i j h1 h2, pow_comm n x' k (n - j) (n - i) (by omega) (by omega)]
theorem mir_rep {n : Nat} {x x' : Gr} (h : mir n x x') (lo more : Nat) : mir n (repB n x lo more) (repB n x' lo more) := fun i j h1 h2 => by
  unfold repB
  congr 1
  funext k
  exact mir_pow h (lo + k) i j h1 h2
theorem mir_leaf {n : Nat} {tx tx' : Nat → Nat} (hx : ∀ i, i < n → tx' (n - 1 - i) = tx i) (x : Nd) (h : okT (.leaf x)) : mir n (leafB7 n tx x) (leafB7 n tx' (trnN x)) := fun i j h1 h2 => by
  rcases h with ⟨k1, -⟩ | rfl | rfl | rfl
  · rw [show trnN x = x by unfold trnN; rw [if_neg (by omega), if_neg (by omega)]]
    unfold leafB7
    rw [if_pos k1, if_pos k1]
    by_cases hj : j = i + 1
    · subst hj
      rw [decide_eq_true (show i < n by omega), decide_eq_true (show i + 1 = i + 1 from rfl), decide_eq_true (show n - (i + 1) < n by omega), decide_eq_true (show n - i = n - (i + 1) + 1 by omega), show n - (i + 1) = n - 1 - i by omega, hx i (by omega)]
    · rw [decide_eq_false hj, decide_eq_false (show ¬ n - i = n - j + 1 by omega)]; simp
  · exact mir_even n i j h1 h2
  · show (decide (i = 0) && decide (j = 0)) = (decide (n - j = n) && decide (n - i = n))
    rw [Bool.and_comm, show decide (j = 0) = decide (n - j = n) from decide_eq_decide.2 (by omega)]
    by_cases hj : n - j = n
    · rw [decide_eq_true hj, Bool.true_and, Bool.true_and]; exact decide_eq_decide.2 (by omega)
    · rw [decide_eq_false hj]; rfl
  · show (decide (i = n) && decide (j = n)) = (decide (n - j = 0) && decide (n - i = 0))
    rw [Bool.and_comm, show decide (j = n) = decide (n - j = 0) from decide_eq_decide.2 (by omega)]
    by_cases hj : n - j = 0
    · rw [decide_eq_true hj, Bool.true_and, Bool.true_and]; exact decide_eq_decide.2 (by omega)
    · rw [decide_eq_false hj]; rfl
/-- Just the parts that fit a tree fit, mirrored, the tree turned around. -/
theorem mir_fit {n : Nat} {tx tx' : Nat → Nat} (hx : ∀ i, i < n → tx' (n - 1 - i) = tx i) : ∀ t, okT t → mir n (fitT n tx t) (fitT n tx' (trn t))
  | .leaf x, h => mir_leaf hx x h
  | .cat a b, h => mir_beh (mir_fit hx a h.1) (mir_fit hx b h.2)
  | .or a b, h => fun i j h1 h2 => by
    show (fitT n tx a i j || fitT n tx b i j) = (fitT n tx' (trn a) (n - j) (n - i) || fitT n tx' (trn b) (n - j) (n - i))
    rw [mir_fit hx a h.1 i j h1 h2, mir_fit hx b h.2 i j h1 h2]
  | .rep a lo hi, h => mir_rep (mir_fit hx a h.1) _ _

/-- What is told of lengths stays. -/
theorem fx_trn : ∀ t, (fxT (trn t)).nv = (fxT t).nv ∧ (fxT (trn t)).ls = (fxT t).ls ∧ (fxT (trn t)).ms = (fxT t).ms
  | .leaf x => by
    show (leafX (trnN x)).nv = (leafX x).nv ∧ (leafX (trnN x)).ls = (leafX x).ls ∧ (leafX (trnN x)).ms = (leafX x).ms
    unfold trnN
    by_cases h3 : x.k = 3
    · rw [if_pos h3]; unfold leafX; rw [if_neg (by show ¬ (4 : Int) = 1; decide), if_neg (by omega)]; exact ⟨rfl, rfl, rfl⟩
    · rw [if_neg h3]
      by_cases h4 : x.k = 4
      · rw [if_pos h4]; unfold leafX; rw [if_neg (by show ¬ (3 : Int) = 1; decide), if_neg (by omega)]; exact ⟨rfl, rfl, rfl⟩
      · rw [if_neg h4]; exact ⟨rfl, rfl, rfl⟩
  | .cat a b => by
    obtain ⟨a1, a2, a3⟩ := fx_trn a
    obtain ⟨b1, b2, b3⟩ := fx_trn b
    show (catX (fxT (trn b)) (fxT (trn a))).nv = (catX (fxT a) (fxT b)).nv ∧ (catX (fxT (trn b)) (fxT (trn a))).ls = (catX (fxT a) (fxT b)).ls ∧ (catX (fxT (trn b)) (fxT (trn a))).ms = (catX (fxT a) (fxT b)).ms
    unfold catX
    rw [a1, b1]
    by_cases h : (fxT a).nv = true ∨ (fxT b).nv = true
    · rw [if_pos h, if_pos h.symm]; exact ⟨rfl, rfl, rfl⟩
    · rw [if_neg h, if_neg (fun g => h g.symm)]
      refine ⟨rfl, ?_, ?_⟩
      · show cap20 ((fxT (trn b)).ls + (fxT (trn a)).ls) = cap20 ((fxT a).ls + (fxT b).ls)
        rw [a2, b2, Int.add_comm]
      · show (if (fxT (trn b)).ms = -1 ∨ (fxT (trn a)).ms = -1 then (-1 : Int) else cap20 ((fxT (trn b)).ms + (fxT (trn a)).ms)) = if (fxT a).ms = -1 ∨ (fxT b).ms = -1 then -1 else cap20 ((fxT a).ms + (fxT b).ms)
        rw [a3, b3, Int.add_comm]
        by_cases g : (fxT a).ms = -1 ∨ (fxT b).ms = -1
        · rw [if_pos g, if_pos g.symm]
        · rw [if_neg g, if_neg (fun k => g k.symm)]
  | .or a b => by
    obtain ⟨a1, a2, a3⟩ := fx_trn a
    obtain ⟨b1, b2, b3⟩ := fx_trn b
    show (orX (fxT (trn a)) (fxT (trn b))).nv = (orX (fxT a) (fxT b)).nv ∧ (orX (fxT (trn a)) (fxT (trn b))).ls = (orX (fxT a) (fxT b)).ls ∧ (orX (fxT (trn a)) (fxT (trn b))).ms = (orX (fxT a) (fxT b)).ms
    unfold orX
    rw [a1, b1]
    by_cases h : (fxT a).nv = true
    · rw [if_pos h, if_pos h]; exact ⟨b1, b2, b3⟩
    · rw [if_neg h, if_neg h]
      by_cases g : (fxT b).nv = true
      · rw [if_pos g, if_pos g]; exact ⟨a1, a2, a3⟩
      · rw [if_neg g, if_neg g, a2, b2, a3, b3]; exact ⟨rfl, rfl, rfl⟩
  | .rep a lo hi => by
    obtain ⟨a1, a2, a3⟩ := fx_trn a
    show (repX lo hi (fxT (trn a))).nv = (repX lo hi (fxT a)).nv ∧ (repX lo hi (fxT (trn a))).ls = (repX lo hi (fxT a)).ls ∧ (repX lo hi (fxT (trn a))).ms = (repX lo hi (fxT a)).ms
    unfold repX
    rw [a1, a2, a3]
    by_cases h : hi = 0 ∨ (lo = 0 ∧ (fxT a).nv = true)
    · rw [if_pos h, if_pos h]; exact ⟨rfl, rfl, rfl⟩
    · rw [if_neg h, if_neg h]
      by_cases g : (fxT a).nv = true
      · rw [if_pos g, if_pos g]; exact ⟨rfl, rfl, rfl⟩
      · rw [if_neg g, if_neg g]; exact ⟨rfl, rfl, rfl⟩
theorem sz_trn : ∀ t, szF (trn t) = szF t
  | .leaf x => rfl
  | .cat a b => by show cap20 (szF (trn b) + szF (trn a)) = cap20 (szF a + szF b); rw [sz_trn a, sz_trn b, Int.add_comm]
  | .or a b => by show cap20 (szF (trn a) + szF (trn b) + 2) = cap20 (szF a + szF b + 2); rw [sz_trn a, sz_trn b]
  | .rep a lo hi => by
    show cap20 (2 + lo * szF (trn a) + (if hi = -1 then szF (trn a) + 1 else (hi - lo) * (szF (trn a) + 1))) = cap20 (2 + lo * szF a + (if hi = -1 then szF a + 1 else (hi - lo) * (szF a + 1)))
    rw [sz_trn a]
end Go.Proofs.Ytefpoapbodbenaa

namespace Go.Proofs.Ytefpoapbodbenaa

/-- A state: its kind, the words of its set, A and B. -/
structure Sd where
  k : Int
  a : Int
  b : Int
  c : Int
  d : Int
  A : Int
  B : Int
def sOf (s : Sd) : Nat → Bool := ofWords s.a.toNat s.b.toNat s.c.toNat s.d.toNat
def sE (A : Int) : Sd := ⟨2, 0, 0, 0, 0, A, 0⟩
def sS (A B : Int) : Sd := ⟨3, 0, 0, 0, 0, A, B⟩
/-- One step: from a state at a place of a text of n bytes to another one. -/
def stp (S : Nat → Sd) (n : Nat) (tx : Nat → Nat) (q i q' i' : Nat) : Prop :=
  ((S q).k = 1 ∧ i < n ∧ sOf (S q) (tx i) = true ∧ (q' : Int) = (S q).A ∧ i' = i + 1) ∨
  (i' = i ∧ (((S q).k = 2 ∨ (S q).k = 3 ∨ ((S q).k = 4 ∧ i = 0) ∨ ((S q).k = 5 ∧ i = n)) ∧ (q' : Int) = (S q).A ∨ (S q).k = 3 ∧ (q' : Int) = (S q).B))
/-- So many steps lead to the end. -/
def wk (S : Nat → Sd) (n : Nat) (tx : Nat → Nat) (qf jf : Nat) : Nat → Nat → Nat → Prop
  | 0, q, i => q = qf ∧ i = jf
  | r + 1, q, i => ∃ q' i', stp S n tx q i q' i' ∧ wk S n tx qf jf r q' i'

section
variable {S : Nat → Sd} {n : Nat} {tx : Nat → Nat} {qf jf : Nat}
theorem wk_pos {r q i : Nat} (h : wk S n tx qf jf r q i) (hq : q ≠ qf) : ∃ r', r = r' + 1 := by
  cases r with
  | zero => exact absurd h.1 hq
  | succ r => exact ⟨r, rfl⟩
/-- Through a state that goes on at once. -/
theorem wk_E {r q i A : Nat} (hs : S q = sE A) : wk S n tx qf jf (r + 1) q i ↔ wk S n tx qf jf r A i := by
  constructor
  · rintro ⟨q', i', h, hw⟩
    unfold stp at h
    rw [hs] at h
    rcases h with ⟨h, -⟩ | ⟨rfl, ⟨-, h⟩ | ⟨h, -⟩⟩
    · simp [sE] at h
    · have : q' = A := by simp [sE] at h; omega
      subst this; exact hw
    · simp [sE] at h
  · intro hw
    exact ⟨A, i, by unfold stp; rw [hs]; exact .inr ⟨rfl, .inl ⟨.inl rfl, rfl⟩⟩, hw⟩
theorem wk_S {r q i A B : Nat} (hs : S q = sS A B) : wk S n tx qf jf (r + 1) q i ↔ wk S n tx qf jf r A i ∨ wk S n tx qf jf r B i := by
  constructor
  · rintro ⟨q', i', h, hw⟩
    unfold stp at h
    rw [hs] at h
    rcases h with ⟨h, -⟩ | ⟨rfl, ⟨-, h⟩ | ⟨-, h⟩⟩
    · simp [sS] at h
    · have : q' = A := by simp [sS] at h; omega
      subst this; exact .inl hw
    · have : q' = B := by simp [sS] at h; omega
      subst this; exact .inr hw
  · rintro (hw | hw)
    · exact ⟨A, i, by unfold stp; rw [hs]; exact .inr ⟨rfl, .inl ⟨.inr (.inl rfl), rfl⟩⟩, hw⟩
    · exact ⟨B, i, by unfold stp; rw [hs]; exact .inr ⟨rfl, .inr ⟨rfl, rfl⟩⟩, hw⟩
end

/-- So many parts, the first one ahead. -/
def pw (n : Nat) (x : Gr) : Nat → Nat → Nat → Prop
  | 0, i, j => i = j ∧ j ≤ n
  | k + 1, i, j => ∃ m, i ≤ m ∧ m ≤ n ∧ x i m = true ∧ pw n x k m j
theorem pw_le {n : Nat} {x : Gr} : ∀ {k i j}, pw n x k i j → i ≤ j ∧ j ≤ n
  | 0, _, _, h => ⟨by have := h.1; omega, h.2⟩
  | k + 1, i, j, ⟨m, h1, _, _, h4⟩ => ⟨Nat.le_trans h1 (pw_le h4).1, (pw_le h4).2⟩
theorem pw_iff {n : Nat} {x : Gr} : ∀ {k i j}, i ≤ j → j ≤ n → (powB n x k i j = true ↔ pw n x k i j)
  | 0, i, j, _, _ => even_iff
  | k + 1, i, j, h1, h2 => by
    show behB n (powB n x k) x i j = true ↔ _
    rw [← pow_comm n x k i j h1 h2, beh_iff]
    constructor
    · rintro ⟨m, g1, g2, g3, g4, g5⟩
      exact ⟨m, g2, g1, g4, (pw_iff g3 h2).1 g5⟩
    · rintro ⟨m, g1, g2, g3, g4⟩
      exact ⟨m, g2, g1, (pw_le g4).1, g3, (pw_iff (pw_le g4).1 h2).2 g4⟩
theorem pw_add {n : Nat} {x : Gr} : ∀ {a b i m j}, pw n x a i m → pw n x b m j → pw n x (a + b) i j
  | 0, b, i, m, j, h, h' => by obtain ⟨rfl, -⟩ := h; rw [Nat.zero_add]; exact h'
  | a + 1, b, i, m, j, ⟨l, h1, h2, h3, h4⟩, h' => by rw [show a + 1 + b = (a + b) + 1 by omega]; exact ⟨l, h1, h2, h3, pw_add h4 h'⟩
theorem pw_split {n : Nat} {x : Gr} : ∀ {a b i j}, pw n x (a + b) i j → ∃ m, pw n x a i m ∧ pw n x b m j
  | 0, b, i, j, h => by
    rw [Nat.zero_add] at h
    exact ⟨i, ⟨rfl, by have := pw_le h; omega⟩, h⟩
  | a + 1, b, i, j, h => by
    rw [show a + 1 + b = (a + b) + 1 by omega] at h
    obtain ⟨l, h1, h2, h3, h4⟩ := h
    obtain ⟨m, g1, g2⟩ := pw_split h4
    exact ⟨m, ⟨l, h1, h2, h3, g1⟩, g2⟩
/-- A part more than there are bytes: one is empty, and may be left out. -/
theorem pw_less {n : Nat} {x : Gr} : ∀ {k i j}, pw n x (k + 1) i j → pw n x k i j ∨ k + 1 ≤ j - i
  | 0, i, j, ⟨m, h1, h2, h3, h4⟩ => by
    obtain ⟨rfl, h5⟩ := h4
    rcases Nat.lt_or_ge i m with h | h
    · exact .inr (by omega)
    · exact .inl ⟨by omega, h5⟩
  | k + 1, i, j, ⟨m, h1, h2, h3, h4⟩ => by
    rcases Nat.lt_or_ge i m with h | h
    · rcases pw_less h4 with g | g
      · exact .inl ⟨m, h1, h2, h3, g⟩
      · exact .inr (by omega)
    · obtain rfl : m = i := by omega
      exact .inl h4
theorem pw_few {n : Nat} {x : Gr} (c : Nat) : ∀ d {i j}, pw n x (c + n + d) i j → ∃ e, e ≤ n ∧ pw n x (c + e) i j
  | 0, i, j, h => ⟨n, Nat.le_refl _, h⟩
  | d + 1, i, j, h => by
    rw [show c + n + (d + 1) = (c + n + d) + 1 by omega] at h
    rcases pw_less h with g | g
    · exact pw_few c d g
    · have := pw_le h; omega

/-- How many states a tree's part has. -/
def nst : Tr → Nat
  | .leaf _ => 2
  | .cat a b => nst a + nst b
  | .or a b => nst a + nst b + 2
  | .rep a lo hi => 2 + lo.toNat * nst a + (if hi = -1 then nst a + 1 else (hi - lo).toNat * (nst a + 1))
theorem nst_two : ∀ t, 2 ≤ nst t
  | .leaf _ => Nat.le_refl _
  | .cat a b => by have := nst_two a; show 2 ≤ nst a + nst b; omega
  | .or a b => by show 2 ≤ nst a + nst b + 2; omega
  | .rep a lo hi => by show 2 ≤ 2 + _ + _; omega
def skd (k : Int) : Int := if k = 1 then 1 else if k = 2 then 2 else if k = 3 then 4 else 5
/-- Some copies of a part, one behind the other: what is ahead goes to the first, the last one's last state is ahead then. -/
def cps (S : Nat → Sd) (P : Nat → Nat → Nat → Prop) (sz : Nat) : Nat → Nat → Nat → Nat → Nat → Prop
  | 0, base, ah, base', ah' => base' = base ∧ ah' = ah
  | m + 1, base, ah, base', ah' => ∃ f l : Nat, S ah = sE f ∧ P base f l ∧ cps S P sz m (base + sz) l base' ah'
/-- Some copies that may be left out, and the last state. -/
def opts (S : Nat → Sd) (P : Nat → Nat → Nat → Prop) (sz : Nat) : Nat → Nat → Nat → Nat → Prop
  | 0, base, ah, L => L = base ∧ S ah = sE L
  | m + 1, base, ah, L => ∃ f l : Nat, P base f l ∧ S (base + sz) = sS f L ∧ S ah = sE (base + sz : Nat) ∧ opts S P sz m (base + sz + 1) l L
/-- A copy that may come again and again, and the last state. -/
def again9 (S : Nat → Sd) (P : Nat → Nat → Nat → Prop) (sz base ah L : Nat) : Prop :=
  ∃ f l : Nat, P base f l ∧ S (base + sz) = sS f L ∧ S ah = sE (base + sz : Nat) ∧ S l = sE (base + sz : Nat) ∧ L = base + sz + 1
/-- A tree's part lies in S from a place on, its first and its last state; where the last one goes is not told. -/
def isFr (S : Nat → Sd) : Tr → Nat → Nat → Nat → Prop
  | .leaf x, base, f, l => f = base ∧ l = base + 1 ∧ S f = ⟨skd x.k, x.a, x.b, x.c, x.d, (base + 1 : Nat), 0⟩
  | .cat a b, base, f, l => ∃ la fb : Nat, isFr S a base f la ∧ isFr S b (base + nst a) fb l ∧ S la = sE fb
  | .or a b, base, f, l => ∃ fa la fb lb : Nat, isFr S a base fa la ∧ isFr S b (base + nst a) fb lb ∧ f = base + nst a + nst b ∧ l = f + 1 ∧ S f = sS fa fb ∧ S la = sE l ∧ S lb = sE l
  | .rep a lo hi, base, f, l => f = base ∧ ∃ base' ah, cps S (isFr S a) (nst a) lo.toNat (base + 1) base base' ah ∧
      (if hi = -1 then again9 S (isFr S a) (nst a) base' ah l else opts S (isFr S a) (nst a) (hi - lo).toNat base' ah l)

/-- A part's first and last state lie in it, and are two. -/
def inP (P : Nat → Nat → Nat → Prop) (sz : Nat) : Prop := ∀ b f l, P b f l → b ≤ f ∧ f < b + sz ∧ b ≤ l ∧ l < b + sz ∧ f ≠ l
theorem cps_bd {S : Nat → Sd} {P : Nat → Nat → Nat → Prop} {sz : Nat} (hP : inP P sz) : ∀ {m base ah base' ah'}, cps S P sz m base ah base' ah' → base' = base + m * sz ∧ ((m = 0 ∧ ah' = ah) ∨ (base ≤ ah' ∧ ah' < base'))
  | 0, _, _, _, _, ⟨h1, h2⟩ => ⟨by omega, .inl ⟨rfl, h2⟩⟩
  | m + 1, base, ah, base', ah', ⟨f, l, _, h2, h3⟩ => by
    obtain ⟨g1, g2⟩ := cps_bd hP h3
    obtain ⟨k1, k2, k3, k4, _⟩ := hP _ _ _ h2
    have e : (m + 1) * sz = m * sz + sz := Nat.succ_mul m sz
    refine ⟨by omega, .inr ?_⟩
    rcases g2 with ⟨rfl, rfl⟩ | g2
    · rw [Nat.zero_mul] at g1; omega
    · omega
theorem opts_bd {S : Nat → Sd} {P : Nat → Nat → Nat → Prop} {sz : Nat} : ∀ {m base ah L}, opts S P sz m base ah L → L = base + m * (sz + 1)
  | 0, _, _, _, ⟨h1, _⟩ => by omega
  | m + 1, base, ah, L, ⟨f, l, _, _, _, h3⟩ => by
    have g1 := opts_bd h3
    have e : (m + 1) * (sz + 1) = m * (sz + 1) + (sz + 1) := Nat.succ_mul m (sz + 1)
    omega
theorem fr_bd (S : Nat → Sd) : ∀ t, inP (isFr S t) (nst t)
  | .leaf x, b, f, l, ⟨h1, h2, _⟩ => by show _ ∧ _ < b + 2 ∧ _ ∧ _ < b + 2 ∧ _; omega
  | .cat x y, b, f, l, ⟨la, fb, h1, h2, _⟩ => by
    have g1 := fr_bd S x _ _ _ h1
    have g2 := fr_bd S y _ _ _ h2
    show _ ∧ _ < b + (nst x + nst y) ∧ _ ∧ _ < b + (nst x + nst y) ∧ _
    omega
  | .or x y, b, f, l, ⟨fa, la, fb, lb, h1, h2, h3, h4, _⟩ => by
    show _ ∧ _ < b + (nst x + nst y + 2) ∧ _ ∧ _ < b + (nst x + nst y + 2) ∧ _
    omega
  | .rep x lo hi, b, f, l, ⟨h1, base', ah, h2, h3⟩ => by
    have g1 := (cps_bd (fr_bd S x) h2).1
    show _ ∧ _ < b + (2 + lo.toNat * nst x + _) ∧ _ ∧ _ < b + (2 + lo.toNat * nst x + _) ∧ _
    by_cases hh : hi = -1
    · rw [if_pos hh] at h3 ⊢
      obtain ⟨_, _, _, _, _, _, h8⟩ := h3
      omega
    · rw [if_neg hh] at h3 ⊢
      have := opts_bd h3
      omega
end Go.Proofs.Ytefpoapbodbenaa

namespace Go.Proofs.Ytefpoapbodbenaa

section
variable {S : Nat → Sd} {n : Nat} {tx : Nat → Nat} {qf jf : Nat}
/-- From a part's first state one comes to its last one only by what fits. -/
def fwdP (S : Nat → Sd) (n : Nat) (tx : Nat → Nat) (qf jf : Nat) (P : Nat → Nat → Nat → Prop) (x : Gr) (sz : Nat) : Prop :=
  ∀ b f l, P b f l → (∀ q, b ≤ q → q < b + sz → q = qf → q = l) → ∀ r i, i ≤ n → wk S n tx qf jf r f i → ∃ j r', i ≤ j ∧ j ≤ n ∧ r' < r ∧ x i j = true ∧ wk S n tx qf jf r' l j
/-- By what fits one comes from the first state to the last one. -/
def bwdP (S : Nat → Sd) (n : Nat) (tx : Nat → Nat) (qf jf : Nat) (P : Nat → Nat → Nat → Prop) (x : Gr) : Prop :=
  ∀ b f l, P b f l → ∀ i j, i ≤ j → j ≤ n → x i j = true → ∀ r, wk S n tx qf jf r l j → ∃ r', wk S n tx qf jf r' f i

theorem cps_fwd {P : Nat → Nat → Nat → Prop} {x : Gr} {sz : Nat} (hP : inP P sz) (hf : fwdP S n tx qf jf P x sz) : ∀ {m base ah base' ah'}, cps S P sz m base ah base' ah' → (∀ q, base ≤ q → q < base' → q ≠ qf) → ah ≠ qf →
    ∀ r i, i ≤ n → wk S n tx qf jf r ah i → ∃ j r', pw n x m i j ∧ r' ≤ r ∧ wk S n tx qf jf r' ah' j
  | 0, base, ah, base', ah', ⟨_, h2⟩, _, _, r, i, hi, hw => by subst h2; exact ⟨i, r, ⟨rfl, hi⟩, Nat.le_refl _, hw⟩
  | m + 1, base, ah, base', ah', ⟨f, l, h1, h2, h3⟩, hq, ha, r, i, hi, hw => by
    obtain ⟨r1, rfl⟩ := wk_pos hw ha
    have hw := (wk_E h1).1 hw
    have hb := (cps_bd hP h3).1
    obtain ⟨k1, k2, k3, k4, _⟩ := hP _ _ _ h2
    have hle : base + sz ≤ base' := by rw [hb]; exact Nat.le_add_right _ _
    obtain ⟨j1, r2, a1, a2, a3, a4, a5⟩ := hf base f l h2 (fun q g1 g2 g3 => absurd g3 (hq q g1 (by omega))) r1 i hi hw
    obtain ⟨j, r', b1, b2, b3⟩ := cps_fwd hP hf h3 (fun q g1 g2 => hq q (by omega) g2) (hq l k3 (by omega)) r2 j1 a2 a5
    exact ⟨j, r', ⟨j1, a1, a2, a4, b1⟩, by omega, b3⟩
theorem cps_bwd {P : Nat → Nat → Nat → Prop} {x : Gr} {sz : Nat} (hf : bwdP S n tx qf jf P x) : ∀ {m base ah base' ah'}, cps S P sz m base ah base' ah' → ∀ i j, pw n x m i j → ∀ r, wk S n tx qf jf r ah' j → ∃ r', wk S n tx qf jf r' ah i
  | 0, base, ah, base', ah', ⟨_, h2⟩, i, j, ⟨h3, _⟩, r, hw => by subst h2 h3; exact ⟨r, hw⟩
  | m + 1, base, ah, base', ah', ⟨f, l, h1, h2, h3⟩, i, j, ⟨m1, g1, g2, g3, g4⟩, r, hw => by
    obtain ⟨r1, k1⟩ := cps_bwd hf h3 m1 j g4 r hw
    obtain ⟨r2, k2⟩ := hf base f l h2 i m1 g1 g2 g3 r1 k1
    exact ⟨r2 + 1, (wk_E h1).2 k2⟩
theorem opts_fwd {P : Nat → Nat → Nat → Prop} {x : Gr} {sz : Nat} (hP : inP P sz) (hf : fwdP S n tx qf jf P x sz) : ∀ {m base ah L}, opts S P sz m base ah L → (∀ q, base ≤ q → q < L → q ≠ qf) → ah ≠ qf →
    ∀ r i, i ≤ n → wk S n tx qf jf r ah i → ∃ k j r', k ≤ m ∧ pw n x k i j ∧ r' < r ∧ wk S n tx qf jf r' L j
  | 0, base, ah, L, ⟨_, h2⟩, _, ha, r, i, hi, hw => by
    obtain ⟨r1, rfl⟩ := wk_pos hw ha
    exact ⟨0, i, r1, Nat.le_refl _, ⟨rfl, hi⟩, Nat.lt_succ_self _, (wk_E h2).1 hw⟩
  | m + 1, base, ah, L, ⟨f, l, h1, h2, h3, h4⟩, hq, ha, r, i, hi, hw => by
    obtain ⟨r1, rfl⟩ := wk_pos hw ha
    have hw := (wk_E h3).1 hw
    have hb := opts_bd h4
    have hle : base + sz + 1 ≤ L := by rw [hb]; exact Nat.le_add_right _ _
    obtain ⟨k1, k2, k3, k4, _⟩ := hP _ _ _ h1
    obtain ⟨r2, rfl⟩ := wk_pos hw (hq _ (by omega) (by omega))
    rcases (wk_S h2).1 hw with hw | hw
    · obtain ⟨j1, r3, a1, a2, a3, a4, a5⟩ := hf base f l h1 (fun q g1 g2 g3 => absurd g3 (hq q g1 (by omega))) r2 i hi hw
      obtain ⟨k, j, r', b0, b1, b2, b3⟩ := opts_fwd hP hf h4 (fun q g1 g2 => hq q (by omega) g2) (hq l k3 (by omega)) r3 j1 a2 a5
      exact ⟨k + 1, j, r', by omega, ⟨j1, a1, a2, a4, b1⟩, by omega, b3⟩
    · exact ⟨0, i, r2, Nat.zero_le _, ⟨rfl, hi⟩, by omega, hw⟩
theorem opts_bwd {P : Nat → Nat → Nat → Prop} {x : Gr} {sz : Nat} (hf : bwdP S n tx qf jf P x) : ∀ {m base ah L}, opts S P sz m base ah L → ∀ k i j, k ≤ m → pw n x k i j → ∀ r, wk S n tx qf jf r L j → ∃ r', wk S n tx qf jf r' ah i
  | 0, base, ah, L, ⟨_, h2⟩, k, i, j, hk, h3, r, hw => by
    obtain rfl : k = 0 := by omega
    obtain ⟨rfl, -⟩ := h3
    exact ⟨r + 1, (wk_E h2).2 hw⟩
  | m + 1, base, ah, L, ⟨f, l, h1, h2, h3, h4⟩, k, i, j, hk, hp, r, hw => by
    cases k with
    | zero =>
      obtain ⟨rfl, -⟩ := hp
      exact ⟨r + 1 + 1, (wk_E h3).2 ((wk_S h2).2 (.inr hw))⟩
    | succ k =>
      obtain ⟨m1, g1, g2, g3, g4⟩ := hp
      obtain ⟨r1, k1⟩ := opts_bwd hf h4 k m1 j (by omega) g4 r hw
      obtain ⟨r2, k2⟩ := hf base f l h1 i m1 g1 g2 g3 r1 k1
      exact ⟨r2 + 1 + 1, (wk_E h3).2 ((wk_S h2).2 (.inl k2))⟩
theorem again_fwd {P : Nat → Nat → Nat → Prop} {x : Gr} {sz base ah L : Nat} (hP : inP P sz) (hf : fwdP S n tx qf jf P x sz) (h : again9 S P sz base ah L) (hq : ∀ q, base ≤ q → q < L → q ≠ qf) (ha : ah ≠ qf) :
    ∀ r i, i ≤ n → wk S n tx qf jf r ah i → ∃ k j r', pw n x k i j ∧ r' < r ∧ wk S n tx qf jf r' L j := by
  obtain ⟨f, l, h1, h2, h3, h4, h5⟩ := h
  obtain ⟨k1, k2, k3, k4, _⟩ := hP _ _ _ h1
  have main : ∀ R r i, r ≤ R → i ≤ n → wk S n tx qf jf r (base + sz) i → ∃ k j r', pw n x k i j ∧ r' < r ∧ wk S n tx qf jf r' L j := by
    intro R
    induction R with
    | zero =>
      intro r i hr hi hw
      obtain ⟨r1, rfl⟩ := wk_pos hw (hq _ (by omega) (by omega))
      omega
    | succ R ih =>
      intro r i hr hi hw
      obtain ⟨r1, rfl⟩ := wk_pos hw (hq _ (by omega) (by omega))
      rcases (wk_S h2).1 hw with hw | hw
      · obtain ⟨j1, r2, a1, a2, a3, a4, a5⟩ := hf base f l h1 (fun q g1 g2 g3 => absurd g3 (hq q g1 (by omega))) r1 i hi hw
        obtain ⟨r3, rfl⟩ := wk_pos a5 (hq l k3 (by omega))
        obtain ⟨k, j, r', b1, b2, b3⟩ := ih r3 j1 (by omega) a2 ((wk_E h4).1 a5)
        exact ⟨k + 1, j, r', ⟨j1, a1, a2, a4, b1⟩, by omega, b3⟩
      · exact ⟨0, i, r1, ⟨rfl, hi⟩, by omega, hw⟩
  intro r i hi hw
  obtain ⟨r1, rfl⟩ := wk_pos hw ha
  obtain ⟨k, j, r', b1, b2, b3⟩ := main r1 r1 i (Nat.le_refl _) hi ((wk_E h3).1 hw)
  exact ⟨k, j, r', b1, by omega, b3⟩
theorem again_bwd {P : Nat → Nat → Nat → Prop} {x : Gr} {sz base ah L : Nat} (hf : bwdP S n tx qf jf P x) (h : again9 S P sz base ah L) : ∀ k i j, pw n x k i j → ∀ r, wk S n tx qf jf r L j → ∃ r', wk S n tx qf jf r' ah i := by
  obtain ⟨f, l, h1, h2, h3, h4, h5⟩ := h
  have main : ∀ k i j, pw n x k i j → ∀ r, wk S n tx qf jf r L j → ∃ r', wk S n tx qf jf r' (base + sz) i := by
    intro k
    induction k with
    | zero =>
      rintro i j ⟨rfl, -⟩ r hw
      exact ⟨r + 1, (wk_S h2).2 (.inr hw)⟩
    | succ k ih =>
      rintro i j ⟨m1, g1, g2, g3, g4⟩ r hw
      obtain ⟨r1, w1⟩ := ih m1 j g4 r hw
      obtain ⟨r2, w2⟩ := hf base f l h1 i m1 g1 g2 g3 (r1 + 1) ((wk_E h4).2 w1)
      exact ⟨r2 + 1, (wk_S h2).2 (.inl w2)⟩
  intro k i j hp r hw
  obtain ⟨r1, w1⟩ := main k i j hp r hw
  exact ⟨r1 + 1, (wk_E h3).2 w1⟩

theorem leaf_fwd {x : Nd} (h : okT (.leaf x)) : fwdP S n tx qf jf (isFr S (.leaf x)) (leafB7 n tx x) 2 := by
  rintro b f l ⟨rfl, rfl, h3⟩ hq r i hi hw
  obtain ⟨r1, rfl⟩ := wk_pos hw (fun e => by have := hq f (Nat.le_refl _) (by omega) e; omega)
  obtain ⟨q', i', hs, hw⟩ := hw
  unfold stp at hs
  rw [h3] at hs
  rcases h with ⟨h1, -⟩ | rfl | rfl | rfl
  · have e : skd x.k = 1 := by unfold skd; rw [if_pos h1]
    simp only [e] at hs
    rcases hs with ⟨-, g1, g2, g3, rfl⟩ | ⟨-, g⟩
    · obtain rfl : q' = f + 1 := by omega
      refine ⟨i + 1, r1, by omega, by omega, by omega, ?_, hw⟩
      unfold leafB7
      rw [if_pos h1, decide_eq_true g1, decide_eq_true (show i + 1 = i + 1 from rfl)]
      exact g2
    · omega
  · simp only [show skd (nd0 2).k = 2 from rfl] at hs
    rcases hs with ⟨g, -⟩ | ⟨rfl, ⟨-, g⟩ | ⟨g, -⟩⟩
    · omega
    · obtain rfl : q' = f + 1 := by omega
      exact ⟨i', r1, Nat.le_refl _, hi, by omega, even_iff.2 ⟨rfl, hi⟩, hw⟩
    · omega
  · simp only [show skd (nd0 3).k = 4 from rfl] at hs
    rcases hs with ⟨g, -⟩ | ⟨rfl, ⟨g0, g⟩ | ⟨g, -⟩⟩
    · omega
    · obtain rfl : q' = f + 1 := by omega
      obtain rfl : i' = 0 := by omega
      exact ⟨0, r1, Nat.le_refl _, hi, by omega, rfl, hw⟩
    · omega
  · simp only [show skd (nd0 4).k = 5 from rfl] at hs
    rcases hs with ⟨g, -⟩ | ⟨rfl, ⟨g0, g⟩ | ⟨g, -⟩⟩
    · omega
    · obtain rfl : q' = f + 1 := by omega
      obtain rfl : i' = n := by omega
      refine ⟨i', r1, Nat.le_refl _, hi, by omega, ?_, hw⟩
      show (decide (i' = i') && decide (i' = i')) = true
      simp
    · omega
theorem leaf_bwd {x : Nd} (h : okT (.leaf x)) : bwdP S n tx qf jf (isFr S (.leaf x)) (leafB7 n tx x) := by
  rintro b f l ⟨rfl, rfl, h3⟩ i j hij hj hx r hw
  have hl : ((f + 1 : Nat) : Int) = (S f).A := by rw [h3]
  rcases h with ⟨h1, -⟩ | rfl | rfl | rfl
  · unfold leafB7 at hx
    rw [if_pos h1] at hx
    simp only [Bool.and_eq_true, decide_eq_true_eq] at hx
    obtain ⟨⟨g1, rfl⟩, g2⟩ := hx
    exact ⟨r + 1, f + 1, i + 1, .inl ⟨by rw [h3]; unfold skd; rw [if_pos h1], g1, by rw [h3]; exact g2, hl, rfl⟩, hw⟩
  · obtain ⟨rfl, -⟩ := even_iff.1 (show evenB n i j = true from hx)
    exact ⟨r + 1, f + 1, i, .inr ⟨rfl, .inl ⟨.inl (by rw [h3]; rfl), hl⟩⟩, hw⟩
  · have hx : (decide (i = 0) && decide (j = 0)) = true := hx
    simp only [Bool.and_eq_true, decide_eq_true_eq] at hx
    obtain ⟨rfl, rfl⟩ := hx
    exact ⟨r + 1, f + 1, 0, .inr ⟨rfl, .inl ⟨.inr (.inr (.inl ⟨by rw [h3]; rfl, rfl⟩)), hl⟩⟩, hw⟩
  · have hx : (decide (i = n) && decide (j = n)) = true := hx
    simp only [Bool.and_eq_true, decide_eq_true_eq] at hx
    obtain ⟨e1, e2⟩ := hx
    refine ⟨r + 1, f + 1, j, .inr ⟨by omega, .inl ⟨.inr (.inr (.inr ⟨by rw [h3]; rfl, e1⟩)), hl⟩⟩, hw⟩
theorem rep_iff {x : Gr} {lo more i j : Nat} (h1 : i ≤ j) (h2 : j ≤ n) : repB n x lo more i j = true ↔ ∃ k, k ≤ more ∧ pw n x (lo + k) i j := by
  unfold repB
  rw [List.any_eq_true]
  constructor
  · rintro ⟨k, hk, h⟩
    exact ⟨k, by have := List.mem_range.1 hk; omega, (pw_iff h1 h2).1 h⟩
  · rintro ⟨k, hk, h⟩
    exact ⟨k, List.mem_range.2 (by omega), (pw_iff h1 h2).2 h⟩

theorem fwd_fr : ∀ t, okT t → fwdP S n tx qf jf (isFr S t) (fitT n tx t) (nst t)
  | .leaf x, h => leaf_fwd h
  | .cat a b, h => by
    rintro B f l ⟨la, fb, h1, h2, h3⟩ hq r i hi hw
    have ba := fr_bd S a _ _ _ h1
    have bb := fr_bd S b _ _ _ h2
    have hq : ∀ q, B ≤ q → q < B + (nst a + nst b) → q = qf → q = l := hq
    obtain ⟨j1, r1, a1, a2, a3, a4, a5⟩ := fwd_fr a h.1 B f la h1 (fun q g1 g2 g3 => by have := hq q g1 (by omega) g3; omega) r i hi hw
    obtain ⟨r2, rfl⟩ := wk_pos a5 (fun e => by have := hq la (by omega) (by omega) e; omega)
    obtain ⟨j, r', b1, b2, b3, b4, b5⟩ := fwd_fr b h.2 _ fb l h2 (fun q g1 g2 g3 => hq q (by omega) (by omega) g3) r2 j1 a2 ((wk_E h3).1 a5)
    exact ⟨j, r', by omega, b2, by omega, beh_iff.2 ⟨j1, a2, a1, b1, a4, b4⟩, b5⟩
  | .or a b, h => by
    rintro B f l ⟨fa, la, fb, lb, h1, h2, h3, h4, h5, h6, h7⟩ hq r i hi hw
    have ba := fr_bd S a _ _ _ h1
    have bb := fr_bd S b _ _ _ h2
    have hq : ∀ q, B ≤ q → q < B + (nst a + nst b + 2) → q = qf → q = l := hq
    obtain ⟨r1, rfl⟩ := wk_pos hw (fun e => by have := hq f (by omega) (by omega) e; omega)
    rcases (wk_S h5).1 hw with hw | hw
    · obtain ⟨j, r2, a1, a2, a3, a4, a5⟩ := fwd_fr a h.1 B fa la h1 (fun q g1 g2 g3 => by have := hq q g1 (by omega) g3; omega) r1 i hi hw
      obtain ⟨r3, rfl⟩ := wk_pos a5 (fun e => by have := hq la (by omega) (by omega) e; omega)
      refine ⟨j, r3, a1, a2, by omega, ?_, (wk_E h6).1 a5⟩
      show (fitT n tx a i j || fitT n tx b i j) = true
      rw [a4]; rfl
    · obtain ⟨j, r2, a1, a2, a3, a4, a5⟩ := fwd_fr b h.2 _ fb lb h2 (fun q g1 g2 g3 => by have := hq q (by omega) (by omega) g3; omega) r1 i hi hw
      obtain ⟨r3, rfl⟩ := wk_pos a5 (fun e => by have := hq lb (by omega) (by omega) e; omega)
      refine ⟨j, r3, a1, a2, by omega, ?_, (wk_E h7).1 a5⟩
      show (fitT n tx a i j || fitT n tx b i j) = true
      rw [a4, Bool.or_true]
  | .rep a lo hi, h => by
    rintro B f l ⟨rfl, base', ah, h2, h3⟩ hq r i hi' hw
    have hP := fr_bd S a
    have hr := fr_bd S (.rep a lo hi) f f l ⟨rfl, base', ah, h2, h3⟩
    have hf := fwd_fr a h.1
    obtain ⟨c1, c2⟩ := cps_bd hP h2
    have hll : base' ≤ l ∧ l + 1 = f + nst (.rep a lo hi) := by
      show base' ≤ l ∧ l + 1 = f + (2 + lo.toNat * nst a + _)
      by_cases hh : hi = -1
      · rw [if_pos hh] at h3 ⊢
        obtain ⟨_, _, _, _, _, _, h8⟩ := h3
        omega
      · rw [if_neg hh] at h3 ⊢
        have := opts_bd h3
        have e := Nat.zero_le ((hi - lo).toNat * (nst a + 1))
        omega
    have hq' : ∀ q, f ≤ q → q < l → q ≠ qf := fun q g1 g2 g3 => by have := hq q g1 (by omega) g3; omega
    have hah : f ≤ ah ∧ ah < l := by
      rcases c2 with ⟨e1, rfl⟩ | c2
      · omega
      · omega
    obtain ⟨j1, r1, a1, a2, a3⟩ := cps_fwd hP hf h2 (fun q g1 g2 => hq' q (by omega) (by omega)) (hq' f (Nat.le_refl _) (by omega)) r i hi' hw
    have hp1 := pw_le a1
    by_cases hh : hi = -1
    · rw [if_pos hh] at h3
      obtain ⟨k, j, r', b1, b2, b3⟩ := again_fwd hP hf h3 (fun q g1 g2 => hq' q (by omega) g2) (hq' ah hah.1 hah.2) r1 j1 hp1.2 a3
      have hp2 := pw_le b1
      have hp := pw_add a1 b1
      refine ⟨j, r', by omega, hp2.2, by omega, ?_, b3⟩
      show repB n (fitT n tx a) lo.toNat (moreN n lo hi) i j = true
      rw [show moreN n lo hi = n by unfold moreN; rw [if_pos hh]]
      refine (rep_iff (by omega) hp2.2).2 ?_
      rcases Nat.lt_or_ge n k with hk | hk
      · exact pw_few lo.toNat (k - n) (by rw [show lo.toNat + n + (k - n) = lo.toNat + k by omega]; exact hp)
      · exact ⟨k, hk, hp⟩
    · rw [if_neg hh] at h3
      obtain ⟨k, j, r', b0, b1, b2, b3⟩ := opts_fwd hP hf h3 (fun q g1 g2 => hq' q (by omega) g2) (hq' ah hah.1 hah.2) r1 j1 hp1.2 a3
      have hp2 := pw_le b1
      have hp := pw_add a1 b1
      refine ⟨j, r', by omega, hp2.2, by omega, ?_, b3⟩
      show repB n (fitT n tx a) lo.toNat (moreN n lo hi) i j = true
      rw [show moreN n lo hi = (hi - lo).toNat by unfold moreN; rw [if_neg hh]]
      exact (rep_iff (by omega) hp2.2).2 ⟨k, b0, hp⟩
theorem bwd_fr : ∀ t, okT t → bwdP S n tx qf jf (isFr S t) (fitT n tx t)
  | .leaf x, h => leaf_bwd h
  | .cat a b, h => by
    rintro B f l ⟨la, fb, h1, h2, h3⟩ i j hij hj hx r hw
    obtain ⟨m, g1, g2, g3, g4, g5⟩ := beh_iff.1 (show behB n (fitT n tx a) (fitT n tx b) i j = true from hx)
    obtain ⟨r1, w1⟩ := bwd_fr b h.2 _ fb l h2 m j g3 hj g5 r hw
    exact bwd_fr a h.1 B f la h1 i m g2 g1 g4 (r1 + 1) ((wk_E h3).2 w1)
  | .or a b, h => by
    rintro B f l ⟨fa, la, fb, lb, h1, h2, h3, h4, h5, h6, h7⟩ i j hij hj hx r hw
    have hx : (fitT n tx a i j || fitT n tx b i j) = true := hx
    rcases Bool.or_eq_true_iff.1 hx with hx | hx
    · obtain ⟨r1, w1⟩ := bwd_fr a h.1 B fa la h1 i j hij hj hx (r + 1) ((wk_E h6).2 hw)
      exact ⟨r1 + 1, (wk_S h5).2 (.inl w1)⟩
    · obtain ⟨r1, w1⟩ := bwd_fr b h.2 _ fb lb h2 i j hij hj hx (r + 1) ((wk_E h7).2 hw)
      exact ⟨r1 + 1, (wk_S h5).2 (.inr w1)⟩
  | .rep a lo hi, h => by
    rintro B f l ⟨rfl, base', ah, h2, h3⟩ i j hij hj hx r hw
    have hf := bwd_fr a h.1
    obtain ⟨k, hk, hp⟩ := (rep_iff hij hj).1 (show repB n (fitT n tx a) lo.toNat (moreN n lo hi) i j = true from hx)
    obtain ⟨m, p1, p2⟩ := pw_split hp
    have : ∃ r', wk S n tx qf jf r' ah m := by
      by_cases hh : hi = -1
      · rw [if_pos hh] at h3
        exact again_bwd hf h3 k m j p2 r hw
      · rw [if_neg hh] at h3
        rw [show moreN n lo hi = (hi - lo).toNat by unfold moreN; rw [if_neg hh]] at hk
        exact opts_bwd hf h3 k m j hk p2 r hw
    obtain ⟨r1, w1⟩ := this
    exact cps_bwd hf h2 i m p1 r1 w1
end
/-- Just the parts that fit a tree lead through its automaton. -/
theorem fits_wk {S : Nat → Sd} {n : Nat} {tx : Nat → Nat} {t : Tr} (h : okT t) {f l : Nat} (hS : isFr S t 0 f l) (hl : (S l).k = 6) (i j : Nat) (hij : i ≤ j) (hj : j ≤ n) : fitT n tx t i j = true ↔ ∃ r, wk S n tx l j r f i := by
  constructor
  · intro hx
    exact bwd_fr t h 0 f l hS i j hij hj hx 0 ⟨rfl, rfl⟩
  · rintro ⟨r, hw⟩
    obtain ⟨j', r', a1, a2, a3, a4, a5⟩ := fwd_fr t h 0 f l hS (fun q _ _ e => e) r i (by omega) hw
    cases r' with
    | zero => obtain ⟨-, rfl⟩ := a5; exact a4
    | succ r' =>
      obtain ⟨q', i', hs, -⟩ := a5
      unfold stp at hs
      rw [hl] at hs
      omega
end Go.Proofs.Ytefpoapbodbenaa

namespace Go.Proofs.Ytefpoapbodbenaa

section
variable {S S' : Nat → Sd}
/-- Two parts of one tree at one place are the same, but for their last states. -/
def unP (S S' : Nat → Sd) (P P' : Nat → Nat → Nat → Prop) (sz : Nat) : Prop := ∀ b f l f' l', P b f l → P' b f' l' → f = f' ∧ l = l' ∧ ∀ q, b ≤ q → q < b + sz → q ≠ l → S q = S' q
theorem cps_un {P P' : Nat → Nat → Nat → Prop} {sz : Nat} (hP : inP P sz) (hu : unP S S' P P' sz) : ∀ {m base ah b1 a1 b2 a2}, cps S P sz m base ah b1 a1 → cps S' P' sz m base ah b2 a2 →
    b1 = b2 ∧ a1 = a2 ∧ ∀ q, (q = ah ∨ (base ≤ q ∧ q < b1)) → q ≠ a1 → S q = S' q
  | 0, base, ah, b1, a1, b2, a2, ⟨h1, h2⟩, ⟨g1, g2⟩ => ⟨by omega, by omega, fun q hq hn => by omega⟩
  | m + 1, base, ah, b1, a1, b2, a2, ⟨f, l, h1, h2, h3⟩, ⟨f', l', g1, g2, g3⟩ => by
    obtain ⟨rfl, rfl, hs⟩ := hu _ _ _ _ _ h2 g2
    obtain ⟨c1, c2, c3⟩ := cps_un hP hu h3 g3
    obtain ⟨k1, k2, k3, k4, _⟩ := hP _ _ _ h2
    refine ⟨c1, c2, fun q hq hn => ?_⟩
    by_cases e : q = ah
    · rw [e, h1, g1]
    · by_cases el : q = l
      · exact c3 q (.inl el) hn
      · rcases Nat.lt_or_ge q (base + sz) with hlt | hge
        · exact hs q (by omega) hlt el
        · exact c3 q (.inr ⟨hge, by omega⟩) hn
theorem opts_un {P P' : Nat → Nat → Nat → Prop} {sz : Nat} (hP : inP P sz) (hu : unP S S' P P' sz) : ∀ {m base ah L L'}, opts S P sz m base ah L → opts S' P' sz m base ah L' → L = L' ∧ ∀ q, (q = ah ∨ (base ≤ q ∧ q < L)) → S q = S' q
  | 0, base, ah, L, L', ⟨h1, h2⟩, ⟨g1, g2⟩ => by
    obtain rfl : L = L' := by omega
    refine ⟨rfl, fun q hq => ?_⟩
    obtain rfl : q = ah := by omega
    rw [h2, g2]
  | m + 1, base, ah, L, L', ⟨f, l, h1, h2, h3, h4⟩, ⟨f', l', g1, g2, g3, g4⟩ => by
    obtain ⟨rfl, rfl, hs⟩ := hu _ _ _ _ _ h1 g1
    obtain ⟨rfl, c3⟩ := opts_un hP hu h4 g4
    obtain ⟨k1, k2, k3, k4, _⟩ := hP _ _ _ h1
    refine ⟨rfl, fun q hq => ?_⟩
    by_cases e : q = ah
    · rw [e, h3, g3]
    · by_cases el : q = l
      · exact c3 q (.inl el)
      · rcases Nat.lt_or_ge q (base + sz) with hlt | hge
        · exact hs q (by omega) hlt el
        · by_cases es : q = base + sz
          · rw [es, h2, g2]
          · exact c3 q (.inr ⟨by omega, by omega⟩)
theorem again_un {P P' : Nat → Nat → Nat → Prop} {sz base ah L L' : Nat} (hu : unP S S' P P' sz) (h : again9 S P sz base ah L) (g : again9 S' P' sz base ah L') : L = L' ∧ ∀ q, (q = ah ∨ (base ≤ q ∧ q < L)) → S q = S' q := by
  obtain ⟨f, l, h1, h2, h3, h4, h5⟩ := h
  obtain ⟨f', l', g1, g2, g3, g4, g5⟩ := g
  obtain ⟨rfl, rfl, hs⟩ := hu _ _ _ _ _ h1 g1
  obtain rfl : L = L' := by omega
  refine ⟨rfl, fun q hq => ?_⟩
  by_cases e : q = ah
  · rw [e, h3, g3]
  · by_cases el : q = l
    · rw [el, h4, g4]
    · rcases Nat.lt_or_ge q (base + sz) with hlt | hge
      · exact hs q (by omega) hlt el
      · obtain rfl : q = base + sz := by omega
        rw [h2, g2]
theorem fr_un : ∀ t, unP S S' (isFr S t) (isFr S' t) (nst t)
  | .leaf x => by
    rintro b f l f' l' ⟨rfl, rfl, h3⟩ ⟨rfl, rfl, g3⟩
    refine ⟨rfl, rfl, fun q h1 h2 hn => ?_⟩
    have h2 : q < f' + 2 := h2
    obtain rfl : q = f' := by omega
    rw [h3, g3]
  | .cat a b => by
    rintro B f l f' l' ⟨la, fb, h1, h2, h3⟩ ⟨la', fb', g1, g2, g3⟩
    have ba := fr_bd S a _ _ _ h1
    have bb := fr_bd S b _ _ _ h2
    obtain ⟨rfl, rfl, hs⟩ := fr_un a _ _ _ _ _ h1 g1
    obtain ⟨rfl, rfl, ht⟩ := fr_un b _ _ _ _ _ h2 g2
    refine ⟨rfl, rfl, fun q k1 k2 hn => ?_⟩
    have k2 : q < B + (nst a + nst b) := k2
    by_cases e : q = la
    · rw [e, h3, g3]
    · rcases Nat.lt_or_ge q (B + nst a) with hlt | hge
      · exact hs q k1 hlt e
      · exact ht q hge (by omega) hn
  | .or a b => by
    rintro B f l f' l' ⟨fa, la, fb, lb, h1, h2, h3, h4, h5, h6, h7⟩ ⟨fa', la', fb', lb', g1, g2, g3, g4, g5, g6, g7⟩
    have ba := fr_bd S a _ _ _ h1
    have bb := fr_bd S b _ _ _ h2
    obtain ⟨rfl, rfl, hs⟩ := fr_un a _ _ _ _ _ h1 g1
    obtain ⟨rfl, rfl, ht⟩ := fr_un b _ _ _ _ _ h2 g2
    obtain rfl : f = f' := by omega
    obtain rfl : l = l' := by omega
    refine ⟨rfl, rfl, fun q k1 k2 hn => ?_⟩
    have k2 : q < B + (nst a + nst b + 2) := k2
    by_cases e : q = la
    · rw [e, h6, g6]
    · by_cases e' : q = lb
      · rw [e', h7, g7]
      · rcases Nat.lt_or_ge q (B + nst a) with hlt | hge
        · exact hs q k1 hlt e
        · rcases Nat.lt_or_ge q (B + nst a + nst b) with hlt | hge'
          · exact ht q hge hlt e'
          · obtain rfl : q = f := by omega
            rw [h5, g5]
  | .rep a lo hi => by
    rintro B f l f' l' h g
    have hb := fr_bd S _ _ _ _ h
    obtain ⟨rfl, b1, a1, h2, h3⟩ := h
    obtain ⟨rfl, b2, a2, g2, g3⟩ := g
    obtain ⟨rfl, rfl, hs⟩ := cps_un (fr_bd S a) (fr_un a) h2 g2
    have hl : l + 1 = f' + nst (.rep a lo hi) := by
      have c1 := (cps_bd (fr_bd S a) h2).1
      show l + 1 = f' + (2 + lo.toNat * nst a + _)
      by_cases hh : hi = -1
      · rw [if_pos hh] at h3 ⊢
        obtain ⟨_, _, _, _, _, _, h8⟩ := h3
        omega
      · rw [if_neg hh] at h3 ⊢
        have := opts_bd h3
        omega
    have main : l = l' ∧ ∀ q, (q = a1 ∨ (b1 ≤ q ∧ q < l)) → S q = S' q := by
      by_cases hh : hi = -1
      · rw [if_pos hh] at h3 g3
        exact again_un (fr_un a) h3 g3
      · rw [if_neg hh] at h3 g3
        exact opts_un (fr_bd S a) (fr_un a) h3 g3
    obtain ⟨rfl, ht⟩ := main
    refine ⟨rfl, rfl, fun q k1 k2 hn => ?_⟩
    by_cases e : q = a1
    · exact ht q (.inl e)
    · rcases Nat.lt_or_ge q b1 with hlt | hge
      · exact hs q (by omega) e
      · exact ht q (.inr ⟨hge, by omega⟩)
/-- A state that may be, A and B from lo to hi. -/
def okS (lo hi : Nat) (s : Sd) : Prop := 1 ≤ s.k ∧ s.k ≤ 5 ∧ (lo : Int) ≤ s.A ∧ s.A < hi ∧ (s.k = 3 → (lo : Int) ≤ s.B ∧ s.B < hi) ∧ (s.k ≠ 3 → s.B = 0) ∧ (s.k ≠ 1 → s.a = 0 ∧ s.b = 0 ∧ s.c = 0 ∧ s.d = 0)
theorem okS_E {lo hi A : Nat} (h1 : lo ≤ A) (h2 : A < hi) : okS lo hi (sE A) := ⟨by show (1 : Int) ≤ 2; decide, by show (2 : Int) ≤ 5; decide, by show (lo : Int) ≤ A; omega, by show (A : Int) < hi; omega, fun h => by simp [sE] at h, fun _ => rfl, fun _ => ⟨rfl, rfl, rfl, rfl⟩⟩
theorem okS_S {lo hi A B : Nat} (h1 : lo ≤ A) (h2 : A < hi) (h3 : lo ≤ B) (h4 : B < hi) : okS lo hi (sS A B) := ⟨by show (1 : Int) ≤ 3; decide, by show (3 : Int) ≤ 5; decide, by show (lo : Int) ≤ A; omega, by show (A : Int) < hi; omega, fun _ => ⟨by show (lo : Int) ≤ B; omega, by show (B : Int) < hi; omega⟩, fun h => absurd rfl h, fun _ => ⟨rfl, rfl, rfl, rfl⟩⟩
theorem okS.wide {lo hi lo' hi' : Nat} {s : Sd} (h : okS lo hi s) (h1 : lo' ≤ lo) (h2 : hi ≤ hi') : okS lo' hi' s :=
  ⟨h.1, h.2.1, by have := h.2.2.1; omega, by have := h.2.2.2.1; omega, fun e => by have := h.2.2.2.2.1 e; omega, h.2.2.2.2.2.1, h.2.2.2.2.2.2⟩
def okP (S : Nat → Sd) (P : Nat → Nat → Nat → Prop) (sz : Nat) : Prop := ∀ b f l, P b f l → ∀ q, b ≤ q → q < b + sz → q ≠ l → okS b (b + sz) (S q)
theorem cps_ok {P : Nat → Nat → Nat → Prop} {sz : Nat} (hP : inP P sz) (hk : okP S P sz) {lo hi : Nat} : ∀ {m base ah b1 a1}, cps S P sz m base ah b1 a1 → lo ≤ base → b1 ≤ hi → ∀ q, (q = ah ∨ (base ≤ q ∧ q < b1)) → q ≠ a1 → okS lo hi (S q)
  | 0, base, ah, b1, a1, ⟨h1, h2⟩, _, _, q, hq, hn => by omega
  | m + 1, base, ah, b1, a1, ⟨f, l, h1, h2, h3⟩, hlo, hhi, q, hq, hn => by
    obtain ⟨k1, k2, k3, k4, _⟩ := hP _ _ _ h2
    have hb := (cps_bd hP h3).1
    have hle : base + sz ≤ b1 := by rw [hb]; exact Nat.le_add_right _ _
    by_cases e : q = ah
    · rw [e, h1]; exact okS_E (by omega) (by omega)
    · by_cases el : q = l
      · exact cps_ok hP hk h3 (by omega) hhi q (.inl el) hn
      · rcases Nat.lt_or_ge q (base + sz) with hlt | hge
        · exact (hk _ _ _ h2 q (by omega) hlt el).wide hlo (by omega)
        · exact cps_ok hP hk h3 (by omega) hhi q (.inr ⟨hge, by omega⟩) hn
theorem opts_ok {P : Nat → Nat → Nat → Prop} {sz : Nat} (hP : inP P sz) (hk : okP S P sz) {lo hi : Nat} : ∀ {m base ah L}, opts S P sz m base ah L → lo ≤ base → L < hi → ∀ q, (q = ah ∨ (base ≤ q ∧ q < L)) → okS lo hi (S q)
  | 0, base, ah, L, ⟨h1, h2⟩, hlo, hhi, q, hq => by
    obtain rfl : q = ah := by omega
    rw [h2]; exact okS_E (by omega) (by omega)
  | m + 1, base, ah, L, ⟨f, l, h1, h2, h3, h4⟩, hlo, hhi, q, hq => by
    obtain ⟨k1, k2, k3, k4, _⟩ := hP _ _ _ h1
    have hb := opts_bd h4
    have hle : base + sz + 1 ≤ L := by rw [hb]; exact Nat.le_add_right _ _
    by_cases e : q = ah
    · rw [e, h3]; exact okS_E (by omega) (by omega)
    · by_cases el : q = l
      · exact opts_ok hP hk h4 (by omega) hhi q (.inl el)
      · rcases Nat.lt_or_ge q (base + sz) with hlt | hge
        · exact (hk _ _ _ h1 q (by omega) hlt el).wide hlo (by omega)
        · by_cases es : q = base + sz
          · rw [es, h2]; exact okS_S (by omega) (by omega) (by omega) (by omega)
          · exact opts_ok hP hk h4 (by omega) hhi q (.inr ⟨by omega, by omega⟩)
theorem again_ok {P : Nat → Nat → Nat → Prop} {sz base ah L lo hi : Nat} (hP : inP P sz) (hk : okP S P sz) (h : again9 S P sz base ah L) (hlo : lo ≤ base) (hhi : L < hi) (q : Nat) (hq : q = ah ∨ (base ≤ q ∧ q < L)) : okS lo hi (S q) := by
  obtain ⟨f, l, h1, h2, h3, h4, h5⟩ := h
  obtain ⟨k1, k2, k3, k4, _⟩ := hP _ _ _ h1
  by_cases e : q = ah
  · rw [e, h3]; exact okS_E (by omega) (by omega)
  · by_cases el : q = l
    · rw [el, h4]; exact okS_E (by omega) (by omega)
    · rcases Nat.lt_or_ge q (base + sz) with hlt | hge
      · exact (hk _ _ _ h1 q (by omega) hlt el).wide hlo (by omega)
      · obtain rfl : q = base + sz := by omega
        rw [h2]; exact okS_S (by omega) (by omega) (by omega) (by omega)
theorem fr_ok : ∀ t, okT t → okP S (isFr S t) (nst t)
  | .leaf x, h => by
    rintro b f l ⟨rfl, rfl, h3⟩ q k1 k2 hn
    have k2 : q < f + 2 := k2
    obtain rfl : q = f := by omega
    rw [h3]
    have hA : ((q : Nat) : Int) ≤ ((q + 1 : Nat) : Int) ∧ ((q + 1 : Nat) : Int) < ((q + nst (.leaf x) : Nat) : Int) := ⟨by omega, by show ((q + 1 : Nat) : Int) < ((q + 2 : Nat) : Int); omega⟩
    rcases h with ⟨h1, -⟩ | rfl | rfl | rfl
    · have e : skd x.k = 1 := by unfold skd; rw [if_pos h1]
      refine ⟨?_, ?_, hA.1, hA.2, fun g => ?_, fun _ => rfl, fun g => absurd e g⟩
      · show (1 : Int) ≤ skd x.k; rw [e]; decide
      · show skd x.k ≤ (5 : Int); rw [e]; decide
      · have : skd x.k = 3 := g
        rw [e] at this; exact absurd this (by decide)
    · exact ⟨by show (1 : Int) ≤ 2; decide, by show (2 : Int) ≤ 5; decide, hA.1, hA.2, fun g => absurd (show (2 : Int) = 3 from g) (by decide), fun _ => rfl, fun _ => ⟨rfl, rfl, rfl, rfl⟩⟩
    · exact ⟨by show (1 : Int) ≤ 4; decide, by show (4 : Int) ≤ 5; decide, hA.1, hA.2, fun g => absurd (show (4 : Int) = 3 from g) (by decide), fun _ => rfl, fun _ => ⟨rfl, rfl, rfl, rfl⟩⟩
    · exact ⟨by show (1 : Int) ≤ 5; decide, by show (5 : Int) ≤ 5; decide, hA.1, hA.2, fun g => absurd (show (5 : Int) = 3 from g) (by decide), fun _ => rfl, fun _ => ⟨rfl, rfl, rfl, rfl⟩⟩
  | .cat a b, h => by
    rintro B f l ⟨la, fb, h1, h2, h3⟩ q k1 k2 hn
    have ba := fr_bd S a _ _ _ h1
    have bb := fr_bd S b _ _ _ h2
    have k2 : q < B + (nst a + nst b) := k2
    show okS B (B + (nst a + nst b)) (S q)
    by_cases e : q = la
    · rw [e, h3]; exact okS_E (by omega) (by omega)
    · rcases Nat.lt_or_ge q (B + nst a) with hlt | hge
      · exact (fr_ok a h.1 _ _ _ h1 q k1 hlt e).wide (by omega) (by omega)
      · exact (fr_ok b h.2 _ _ _ h2 q hge (by omega) hn).wide (by omega) (by omega)
  | .or a b, h => by
    rintro B f l ⟨fa, la, fb, lb, h1, h2, h3, h4, h5, h6, h7⟩ q k1 k2 hn
    have ba := fr_bd S a _ _ _ h1
    have bb := fr_bd S b _ _ _ h2
    have k2 : q < B + (nst a + nst b + 2) := k2
    show okS B (B + (nst a + nst b + 2)) (S q)
    by_cases e : q = la
    · rw [e, h6]; exact okS_E (by omega) (by omega)
    · by_cases e' : q = lb
      · rw [e', h7]; exact okS_E (by omega) (by omega)
      · rcases Nat.lt_or_ge q (B + nst a) with hlt | hge
        · exact (fr_ok a h.1 _ _ _ h1 q k1 hlt e).wide (by omega) (by omega)
        · rcases Nat.lt_or_ge q (B + nst a + nst b) with hlt | hge'
          · exact (fr_ok b h.2 _ _ _ h2 q hge hlt e').wide (by omega) (by omega)
          · obtain rfl : q = f := by omega
            rw [h5]; exact okS_S (by omega) (by omega) (by omega) (by omega)
  | .rep a lo hi, h => by
    rintro B f l hfr q k1 k2 hn
    have hb := fr_bd S _ _ _ _ hfr
    obtain ⟨rfl, b1, a1, h2, h3⟩ := hfr
    obtain ⟨c1, c2⟩ := cps_bd (fr_bd S a) h2
    have hl : b1 ≤ l ∧ l + 1 = f + nst (.rep a lo hi) := by
      show b1 ≤ l ∧ l + 1 = f + (2 + lo.toNat * nst a + _)
      by_cases hh : hi = -1
      · rw [if_pos hh] at h3 ⊢
        obtain ⟨_, _, _, _, _, _, h8⟩ := h3
        omega
      · rw [if_neg hh] at h3 ⊢
        have := opts_bd h3
        have e := Nat.zero_le ((hi - lo).toNat * (nst a + 1))
        omega
    have main : ∀ q, (q = a1 ∨ (b1 ≤ q ∧ q < l)) → okS f (f + nst (.rep a lo hi)) (S q) := by
      intro q hq
      by_cases hh : hi = -1
      · rw [if_pos hh] at h3
        exact again_ok (fr_bd S a) (fr_ok a h.1) h3 (by omega) (by omega) q hq
      · rw [if_neg hh] at h3
        exact opts_ok (fr_bd S a) (fr_ok a h.1) h3 (by omega) (by omega) q hq
    by_cases e : q = a1
    · exact main q (.inl e)
    · rcases Nat.lt_or_ge q b1 with hlt | hge
      · exact cps_ok (fr_bd S a) (fr_ok a h.1) h2 (by omega) (by omega) q (by omega) e
      · exact main q (.inr ⟨hge, by omega⟩)
end
end Go.Proofs.Ytefpoapbodbenaa

namespace Go.Proofs.Ytefpoapbodbenaa

/-- As many states are told as there are, at most 2^20. -/
theorem sz_nst : ∀ t, okT t → szF t = cap20 (nst t : Nat)
  | .leaf _, _ => rfl
  | .cat a b, h => by
    have h1 := sz_nst a h.1; have h2 := sz_nst b h.2
    show cap20 (szF a + szF b) = cap20 ((nst a + nst b : Nat) : Int)
    rw [h1, h2]; unfold cap20; omega
  | .or a b, h => by
    have h1 := sz_nst a h.1; have h2 := sz_nst b h.2
    show cap20 (szF a + szF b + 2) = cap20 ((nst a + nst b + 2 : Nat) : Int)
    rw [h1, h2]; unfold cap20; omega
  | .rep a lo hi, h => by
    have h1 := sz_nst a h.1
    obtain ⟨-, g1, g2, g3⟩ := h
    obtain ⟨L, rfl⟩ : ∃ L : Nat, lo = L := ⟨lo.toNat, by omega⟩
    show cap20 (2 + (L : Int) * szF a + (if hi = -1 then szF a + 1 else (hi - L) * (szF a + 1))) = cap20 ((2 + (L : Int).toNat * nst a + (if hi = -1 then nst a + 1 else (hi - L).toNat * (nst a + 1)) : Nat) : Int)
    have h2 := nst_two a
    obtain ⟨s, hs⟩ : ∃ s : Nat, szF a = s := ⟨(szF a).toNat, by have := cap_two (n := (nst a : Int)) (by omega); rw [← h1] at this; omega⟩
    have hs' : (s : Int) = cap20 (nst a : Nat) := by rw [← hs, h1]
    rw [hs, Int.toNat_natCast]
    have m1 : L = 0 ∨ (s ≤ L * s ∧ nst a ≤ L * nst a) := by
      rcases Nat.eq_zero_or_pos L with h | h
      · exact .inl h
      · exact .inr ⟨Nat.le_mul_of_pos_left _ h, Nat.le_mul_of_pos_left _ h⟩
    have e1 : (L : Int) * (s : Int) = ((L * s : Nat) : Int) := by rw [Int.natCast_mul]
    rw [e1]
    by_cases hh : hi = -1
    · rw [if_pos hh, if_pos hh]
      by_cases hc : nst a ≤ 1048576
      · have : s = nst a := by unfold cap20 at hs'; omega
        rw [this]; congr 1
      · have : s = 1048576 := by unfold cap20 at hs'; omega
        unfold cap20
        omega
    · rw [if_neg hh, if_neg hh]
      obtain ⟨H, hH⟩ : ∃ H : Nat, hi - L = H := ⟨(hi - L).toNat, by omega⟩
      rw [hH, Int.toNat_natCast]
      have e2 : (H : Int) * ((s : Int) + 1) = ((H * (s + 1) : Nat) : Int) := by rw [Int.natCast_mul]; rfl
      rw [e2]
      have m2 : H = 0 ∨ (s + 1 ≤ H * (s + 1) ∧ nst a + 1 ≤ H * (nst a + 1)) := by
        rcases Nat.eq_zero_or_pos H with h | h
        · exact .inl h
        · exact .inr ⟨Nat.le_mul_of_pos_left _ h, Nat.le_mul_of_pos_left _ h⟩
      by_cases hc : nst a ≤ 1048576
      · have : s = nst a := by unfold cap20 at hs'; omega
        rw [this]; congr 1
      · have : s = 1048576 := by unfold cap20 at hs'; omega
        rcases m1 with rfl | m1
        · rcases m2 with rfl | m2
          · simp
          · unfold cap20; omega
        · unfold cap20; omega

section
variable {S : Nat → Sd}
/-- At once from a state to another one. -/
def ep (S : Nat → Sd) (sym : Int) (q q' : Nat) : Prop :=
  ((S q).k = 2 ∨ (S q).k = 3 ∨ ((S q).k = 4 ∧ (sym = 256 ∨ sym = 258)) ∨ ((S q).k = 5 ∧ (sym = 257 ∨ sym = 258))) ∧ (q' : Int) = (S q).A ∨ (S q).k = 3 ∧ (q' : Int) = (S q).B
inductive rt (S : Nat → Sd) (sym : Int) : Nat → Nat → Prop where
  | refl (q : Nat) : rt S sym q q
  | tail {q q' q'' : Nat} : rt S sym q q' → ep S sym q' q'' → rt S sym q q''
theorem rt.trans {sym : Int} {a b c : Nat} (h : rt S sym a b) (g : rt S sym b c) : rt S sym a c := by
  induction g with
  | refl => exact h
  | tail _ h2 ih => exact .tail ih h2
theorem ep.any {sym : Int} {q q' : Nat} (h : ep S 0 q q') : ep S sym q q' := by
  unfold ep at h ⊢
  rcases h with ⟨h | h | ⟨h, h'⟩ | ⟨h, h'⟩, g⟩ | h
  · exact .inl ⟨.inl h, g⟩
  · exact .inl ⟨.inr (.inl h), g⟩
  · omega
  · omega
  · exact .inr h
theorem rt.any {sym : Int} {q q' : Nat} (h : rt S 0 q q') : rt S sym q q' := by
  induction h with
  | refl => exact .refl _
  | tail _ h2 ih => exact .tail ih h2.any
/-- Where one comes at once from some states; by a byte. -/
def Cl (S : Nat → Sd) (sym : Int) (P : Nat → Prop) (q : Nat) : Prop := ∃ q0, P q0 ∧ rt S sym q0 q
def By (S : Nat → Sd) (b : Nat) (P : Nat → Prop) (q : Nat) : Prop := ∃ q0, P q0 ∧ (S q0).k = 1 ∧ sOf (S q0) b = true ∧ (q : Int) = (S q0).A
theorem Cl_Cl {sym : Int} {P : Nat → Prop} : Cl S sym (Cl S 0 P) = Cl S sym P := by
  funext q
  apply propext
  constructor
  · rintro ⟨q1, ⟨q0, h0, h1⟩, h2⟩
    exact ⟨q0, h0, h1.any.trans h2⟩
  · rintro ⟨q0, h0, h1⟩
    exact ⟨q0, ⟨q0, h0, .refl _⟩, h1⟩
theorem Cl_zero {P : Nat → Prop} : Cl S 0 (Cl S 0 P) = Cl S 0 P := Cl_Cl
def runF (S : Nat → Sd) (tx : Nat → Nat) : Nat → Nat → (Nat → Prop) → Nat → Prop
  | _, 0, P => P
  | i, k + 1, P => runF S tx (i + 1) k (Cl S 0 (By S (tx i) P))
/-- What leads to the end, as the page has it. -/
def fitsP (S : Nat → Sd) (n : Nat) (tx : Nat → Nat) (st fin i j : Nat) : Prop :=
  if n = 0 then Cl S 258 (Cl S 0 fun q => q = st) fin
  else if j = n then Cl S 257 (runF S tx i (j - i) (if i = 0 then Cl S 256 (Cl S 0 fun q => q = st) else Cl S 0 fun q => q = st)) fin
  else runF S tx i (j - i) (if i = 0 then Cl S 256 (Cl S 0 fun q => q = st) else Cl S 0 fun q => q = st) fin

/-- The symbol of a place of a text. -/
def syA (n i : Nat) : Int := if n = 0 then 258 else if i = 0 then 256 else if i = n then 257 else 0
theorem stp_iff {n : Nat} {tx : Nat → Nat} {q i q' i' : Nat} (hi : i ≤ n) : stp S n tx q i q' i' ↔ ((S q).k = 1 ∧ i < n ∧ sOf (S q) (tx i) = true ∧ (q' : Int) = (S q).A ∧ i' = i + 1) ∨ (i' = i ∧ ep S (syA n i) q q') := by
  have h1 : i = 0 ↔ (syA n i = 256 ∨ syA n i = 258) := by
    unfold syA
    split
    · omega
    · split
      · omega
      · split <;> omega
  have h2 : i = n ↔ (syA n i = 257 ∨ syA n i = 258) := by
    unfold syA
    split
    · omega
    · split
      · omega
      · split <;> omega
  unfold stp ep
  rw [h1, h2]
/-- From some states at a place, by so many bytes, each place's own symbol counting. -/
def runA (S : Nat → Sd) (n : Nat) (tx : Nat → Nat) : Nat → Nat → (Nat → Prop) → Nat → Prop
  | _, 0, P => P
  | i, k + 1, P => runA S n tx (i + 1) k (Cl S (syA n (i + 1)) (By S (tx i) P))
theorem runA_of {n : Nat} {tx : Nat → Nat} {fin j : Nat} : ∀ {r q i}, i ≤ j → j ≤ n → wk S n tx fin j r q i → ∀ P : Nat → Prop, P q → (∀ a b, P a → ep S (syA n i) a b → P b) → runA S n tx i (j - i) P fin
  | 0, q, i, h1, h2, ⟨e1, e2⟩, P, hP, _ => by
    subst e1 e2
    rw [Nat.sub_self]; exact hP
  | r + 1, q, i, h1, h2, ⟨q', i', hs, hw⟩, P, hP, hc => by
    rcases (stp_iff (by omega)).1 hs with ⟨g1, g2, g3, g4, rfl⟩ | ⟨rfl, g⟩
    · have hle : ∀ {r q i}, wk S n tx fin j r q i → i ≤ j := by
        intro r
        induction r with
        | zero => rintro q i ⟨_, rfl⟩; omega
        | succ r ih =>
          rintro q i ⟨q', i', hs, hw⟩
          have := ih hw
          unfold stp at hs
          omega
      have hj := hle hw
      rw [show j - i = (j - (i + 1)) + 1 by omega]
      exact runA_of hj h2 hw _ ⟨q', ⟨q, hP, g1, g3, g4⟩, .refl _⟩ (fun a b ⟨q0, k1, k2⟩ k3 => ⟨q0, k1, .tail k2 k3⟩)
    · exact runA_of h1 h2 hw P (hc q q' hP g) hc
theorem wk_add {n : Nat} {tx : Nat → Nat} {a i b j c l : Nat} : ∀ {r r'}, wk S n tx b j r a i → wk S n tx c l r' b j → ∃ r'', wk S n tx c l r'' a i
  | 0, r', ⟨h1, h2⟩, g => by subst h1 h2; exact ⟨r', g⟩
  | r + 1, r', ⟨q', i', hs, hw⟩, g => by
    obtain ⟨r'', h⟩ := wk_add hw g
    exact ⟨r'' + 1, q', i', hs, h⟩
theorem wk_rt {n : Nat} {tx : Nat → Nat} {a b i : Nat} (hi : i ≤ n) (h : rt S (syA n i) a b) : ∃ r, wk S n tx b i r a i := by
  induction h with
  | refl => exact ⟨0, rfl, rfl⟩
  | @tail q' q'' _ h2 ih =>
    obtain ⟨r, h⟩ := ih
    exact wk_add (r' := 1) h ⟨q'', i, (stp_iff hi).2 (.inr ⟨rfl, h2⟩), rfl, rfl⟩
theorem of_runA {n : Nat} {tx : Nat → Nat} {fin : Nat} : ∀ {k i} {P : Nat → Prop}, i + k ≤ n → runA S n tx i k P fin → ∃ q, P q ∧ ∃ r, wk S n tx fin (i + k) r q i
  | 0, i, P, _, h => ⟨fin, h, 0, rfl, rfl⟩
  | k + 1, i, P, hk, h => by
    obtain ⟨q, ⟨q1, ⟨q0, g1, g2, g3, g4⟩, g5⟩, r, hw⟩ := of_runA (i := i + 1) (k := k) (by omega) h
    obtain ⟨r1, w1⟩ := wk_rt (tx := tx) (by omega) g5
    obtain ⟨r2, w2⟩ := wk_add w1 hw
    refine ⟨q0, g1, r2 + 1, q1, i + 1, .inl ⟨g2, by omega, g3, g4, rfl⟩, ?_⟩
    rw [show i + (k + 1) = i + 1 + k by omega]; exact w2
theorem wk_iff {n : Nat} {tx : Nat → Nat} {st fin i j : Nat} (h1 : i ≤ j) (h2 : j ≤ n) : (∃ r, wk S n tx fin j r st i) ↔ runA S n tx i (j - i) (Cl S (syA n i) fun q => q = st) fin := by
  constructor
  · rintro ⟨r, hw⟩
    exact runA_of h1 h2 hw _ ⟨st, rfl, .refl _⟩ (fun a b ⟨q0, k1, k2⟩ k3 => ⟨q0, k1, .tail k2 k3⟩)
  · intro h
    obtain ⟨q, ⟨q0, rfl, g⟩, r, hw⟩ := of_runA (by omega) h
    rw [show i + (j - i) = j by omega] at hw
    obtain ⟨r1, w1⟩ := wk_rt (tx := tx) (by omega) g
    exact wk_add w1 hw
/-- Ahead of the text's end each place's own symbol is none; at it, the end's counts behind. -/
theorem runA_F {n : Nat} {tx : Nat → Nat} : ∀ {k i} {P : Nat → Prop}, i + k < n → runA S n tx i k P = runF S tx i k P
  | 0, _, _, _ => rfl
  | k + 1, i, P, h => by
    show runA S n tx (i + 1) k (Cl S (syA n (i + 1)) (By S (tx i) P)) = runF S tx (i + 1) k (Cl S 0 (By S (tx i) P))
    rw [show syA n (i + 1) = 0 by unfold syA; rw [if_neg (by omega), if_neg (by omega), if_neg (by omega)]]
    exact runA_F (by omega)
theorem runA_E {n : Nat} {tx : Nat → Nat} : ∀ {k i} {P : Nat → Prop}, i + (k + 1) = n → runA S n tx i (k + 1) P = Cl S 257 (runF S tx i (k + 1) P)
  | 0, i, P, h => by
    show Cl S (syA n (i + 1)) (By S (tx i) P) = Cl S 257 (Cl S 0 (By S (tx i) P))
    rw [show syA n (i + 1) = 257 by unfold syA; rw [if_neg (by omega), if_neg (by omega), if_pos (by omega)], Cl_Cl]
  | k + 1, i, P, h => by
    show runA S n tx (i + 1) (k + 1) (Cl S (syA n (i + 1)) (By S (tx i) P)) = Cl S 257 (runF S tx (i + 1) (k + 1) (Cl S 0 (By S (tx i) P)))
    rw [show syA n (i + 1) = 0 by unfold syA; rw [if_neg (by omega), if_neg (by omega), if_neg (by omega)]]
    exact runA_E (by omega)
/-- What leads to the end, as the page has it, is what there are steps for. -/
theorem fits_iff {n : Nat} {tx : Nat → Nat} {st fin i j : Nat} (h1 : i ≤ j) (h2 : j ≤ n) : fitsP S n tx st fin i j ↔ ∃ r, wk S n tx fin j r st i := by
  rw [wk_iff h1 h2]
  unfold fitsP
  by_cases h0 : n = 0
  · rw [if_pos h0, Cl_Cl, show j - i = 0 by omega, show syA n i = 258 by unfold syA; rw [if_pos h0]]; exact Iff.rfl
  · rw [if_neg h0]
    have e : (if i = 0 then Cl S 256 (Cl S 0 fun q => q = st) else Cl S 0 fun q => q = st) = if i = n then Cl S 0 fun q => q = st else Cl S (syA n i) fun q => q = st := by
      by_cases hi : i = 0
      · rw [if_pos hi, if_neg (by omega), Cl_Cl, show syA n i = 256 by unfold syA; rw [if_neg h0, if_pos hi]]
      · rw [if_neg hi]
        by_cases hn : i = n
        · rw [if_pos hn]
        · rw [if_neg hn, show syA n i = 0 by unfold syA; rw [if_neg h0, if_neg hi, if_neg hn]]
    rw [e]
    by_cases hj : j = n
    · rw [if_pos hj]
      by_cases hi : i = n
      · rw [if_pos hi, show j - i = 0 by omega, show syA n i = 257 by unfold syA; rw [if_neg h0, if_neg (by omega), if_pos hi]]
        show Cl S 257 (Cl S 0 fun q => q = st) fin ↔ Cl S 257 (fun q => q = st) fin
        rw [Cl_Cl]
      · rw [if_neg hi]
        obtain ⟨k, hk⟩ : ∃ k, j - i = k + 1 := ⟨j - i - 1, by omega⟩
        rw [hk, runA_E (by omega)]
    · rw [if_neg hj, if_neg (by omega), runA_F (by omega)]
end
end Go.Proofs.Ytefpoapbodbenaa

namespace Go.Proofs.Ytefpoapbodbenaa
open Go.RowKit

/-- A node's cells at a place. -/
def ndAt (w : World) (b o : Nat) (x : Nd) : Prop := w.cell? ⟨b, o, none⟩ = some (.int .i64 x.k) ∧ w.cell? ⟨b, o + 1, none⟩ = some (.int .u64 x.a) ∧ w.cell? ⟨b, o + 2, none⟩ = some (.int .u64 x.b) ∧ w.cell? ⟨b, o + 3, none⟩ = some (.int .u64 x.c) ∧ w.cell? ⟨b, o + 4, none⟩ = some (.int .u64 x.d) ∧ w.cell? ⟨b, o + 5, none⟩ = some (.int .i64 x.lo) ∧ w.cell? ⟨b, o + 6, none⟩ = some (.int .i64 x.hi)
theorem ndAt.below {w w' : World} {b o B : Nat} {x : Nd} (h : ndAt w b o x) (hb : Below B w w') (hB : b < B) : ndAt w' b o x := by
  have c : ∀ x, w'.cell? ⟨b, x, none⟩ = w.cell? ⟨b, x, none⟩ := fun x => hb.cell (p := ⟨b, x, none⟩) hB
  unfold ndAt at h ⊢
  simp only [c]
  exact h
/-- The nodes that lie in a block from a place on. -/
def rdN (w : World) (b off n : Nat) (N : Nat → Nd) : Prop := ∀ j, j < n → b < w.heap.size ∧ ndAt w b (off + j * 7) (N j)
theorem rdN.below {w w' : World} {b off n : Nat} {N : Nat → Nd} (h : rdN w b off n N) (hb : Below w.heap.size w w') : rdN w' b off n N := fun j hj =>
  ⟨Nat.lt_of_lt_of_le (h j hj).1 hb.size, (h j hj).2.below hb (h j hj).1⟩
theorem rdN.belowB {w w' : World} {b off n : Nat} {N : Nat → Nd} {B : Nat} (h : rdN w b off n N) (hb : Below B w w') (hB : b < B) : rdN w' b off n N := fun j hj =>
  ⟨Nat.lt_of_lt_of_le (h j hj).1 hb.size, (h j hj).2.below hb hB⟩
theorem rdN.drewN {w : World} {b off n : Nat} {N : Nat → Nd} (h : rdN w b off n N) (k : Nat) : rdN (w.drewN k) b off n N := h
theorem rdN.sub {w : World} {b off n : Nat} {N : Nat → Nd} (h : rdN w b off n N) (f m : Nat) (hm : f + m ≤ n) : rdN w b (off + f * 7) m (fun j => N (f + j)) := fun j hj => by
  have := h (f + j) (by omega)
  rwa [show off + (f + j) * 7 = off + f * 7 + j * 7 by omega] at this
theorem rdN.take {w : World} {b off n : Nat} {N : Nat → Nd} (h : rdN w b off n N) (m : Nat) (hm : m ≤ n) : rdN w b off m N := fun j hj => h j (by omega)

/-- A slice that reads as a list of numbers. -/
def rdI (w : World) (v : Value) (l : List Int) : Prop :=
  (∃ p cap, v = .slice p 0 cap ∧ l = []) ∨ ∃ b cap, v = .slice (some ⟨b, 0, none⟩) l.length cap ∧ b < w.heap.size ∧ ∀ j (h : j < l.length), w.cell? ⟨b, j, none⟩ = some (.int .i64 l[j])
theorem rdI.below {w w' : World} {v : Value} {l : List Int} (h : rdI w v l) (hb : Below w.heap.size w w') : rdI w' v l := by
  rcases h with h | ⟨b, cap, rfl, hl, hc⟩
  · exact .inl h
  · exact .inr ⟨b, cap, rfl, Nat.lt_of_lt_of_le hl hb.size, fun j hj => by rw [hb.cell (p := ⟨b, j, none⟩) hl]; exact hc j hj⟩
theorem rdI.belowB {w w' : World} {v : Value} {l : List Int} {B : Nat} (h : rdI w v l) (hb : Below B w w') (hB : w.heap.size ≤ B) : rdI w' v l := by
  rcases h with h | ⟨b, cap, rfl, hl, hc⟩
  · exact .inl h
  · exact .inr ⟨b, cap, rfl, Nat.lt_of_lt_of_le hl hb.size, fun j hj => by rw [hb.cell (p := ⟨b, j, none⟩) (show b < B by omega)]; exact hc j hj⟩
def ivs (l : List Int) : List Value := l.map (Value.int .i64)
theorem rdI_of_owns {w : World} {base : Nat} {e : TypeId} {v : Value} {l : List Int} (h : w.ownsRow base e 1 v l.length (ivs l)) : rdI w v l := by
  have hlt := h.lt
  rcases h.2 with ⟨rfl, h0⟩ | ⟨g, cap, cur, rfl, _, _, _, _, _, _⟩
  · exact .inl ⟨none, 0, rfl, List.length_eq_zero_iff.1 h0⟩
  · refine .inr ⟨g, cap, rfl, (hlt g rfl).2, fun j hj => ?_⟩
    rw [h.cellAt j (by omega)]
    simp [ivs, hj]
end Go.Proofs.Ytefpoapbodbenaa

namespace Go.Proofs.Ytefpoapbodbenaa
open Go.RowKit

def bls (T : Nat → Bool) (m : Nat) : List Value := (List.range m).map fun j => Value.bool (T j)
theorem bls_len (T : Nat → Bool) (m : Nat) : (bls T m).length = m := by simp [bls]
theorem bls_at (T : Nat → Bool) (m j : Nat) (h : j < m) : (bls T m)[j]? = some (.bool (T j)) := by simp [bls, h]
def putT (T : Nat → Bool) (j : Nat) (b : Bool) : Nat → Bool := fun x => if x = j then b else T x
theorem bls_set (T : Nat → Bool) (m j : Nat) (b : Bool) : (bls T m).set j (.bool b) = bls (putT T j b) m := by
  unfold bls
  apply List.ext_getElem
  · simp
  · intro i h1 h2
    simp only [List.getElem_set, List.getElem_map, List.getElem_range, putT]
    by_cases h : i = j
    · rw [if_pos h.symm, if_pos h]
    · rw [if_neg (fun e => h e.symm), if_neg h]
/-- A row of m bools that the call owns. -/
def blR (w : World) (base g c m : Nat) (T : Nat → Bool) : Prop := w.ownsRow base 4 1 (.slice (some ⟨g, 0, none⟩) m c) m (bls T m)
theorem blR.cell {w : World} {base g c m : Nat} {T : Nat → Bool} (h : blR w base g c m T) (j : Nat) (hj : j < m) : w.cell? ⟨g, j, none⟩ = some (.bool (T j)) := by
  rw [World.ownsRow.cellAt h j (by omega)]; exact bls_at T m j hj
theorem blR.free {w : World} {base g c m : Nat} {T : Nat → Bool} (h : blR w base g c m T) (j : Nat) : w.frozen? ⟨g, j, none⟩ = false := World.ownsRow.frozenAt h j
theorem blR.lt {w : World} {base g c m : Nat} {T : Nat → Bool} (h : blR w base g c m T) : base ≤ g ∧ g < w.heap.size := World.ownsRow.lt h g rfl
theorem blR.below {w w' : World} {base g c m : Nat} {T : Nat → Bool} (h : blR w base g c m T) (hb : Below w.heap.size w w') : blR w' base g c m T := owns_below h hb
theorem blR.put {w : World} {base g c m : Nat} {T : Nat → Bool} (h : blR w base g c m T) (j : Nat) (b : Bool) : blR (w.setCell ⟨g, j, none⟩ (.bool b)) base g c m (putT T j b) := by
  have := (World.ownsRow.stored h j (.bool b)).1
  rw [bls_set] at this
  exact this
theorem blR.same {w : World} {base g c m : Nat} {T T' : Nat → Bool} (h : blR w base g c m T) (hT : ∀ j, j < m → T j = T' j) : blR w base g c m T' := by
  have e : bls T m = bls T' m := by
    unfold bls
    exact List.map_congr_left fun i hi => by rw [hT i (List.mem_range.1 hi)]
  unfold blR at h ⊢
  rw [← e]; exact h
/-- Bools that are read. -/
def rdB (w : World) (g m : Nat) (T : Nat → Bool) : Prop := g < w.heap.size ∧ ∀ j, j < m → w.cell? ⟨g, j, none⟩ = some (.bool (T j))
theorem rdB.below {w w' : World} {g m : Nat} {T : Nat → Bool} (h : rdB w g m T) (hb : Below w.heap.size w w') : rdB w' g m T :=
  ⟨Nat.lt_of_lt_of_le h.1 hb.size, fun j hj => by rw [hb.cell (p := ⟨g, j, none⟩) h.1]; exact h.2 j hj⟩
theorem blR.rd {w : World} {base g c m : Nat} {T : Nat → Bool} (h : blR w base g c m T) : rdB w g m T := ⟨h.lt.2, fun j hj => h.cell j hj⟩
theorem infoBool9 : (Try.prog.info? 4).map (fun i => (i.zero, i.size, i.bytes)) = some (some (.bool false), 1, 1) := by kernel_rfl

/-- A state's cells at a place; the states that lie in a block from a place on. -/
def sdAt (w : World) (b o : Nat) (x : Sd) : Prop := w.cell? ⟨b, o, none⟩ = some (.int .i64 x.k) ∧ w.cell? ⟨b, o + 1, none⟩ = some (.int .i64 x.A) ∧ w.cell? ⟨b, o + 2, none⟩ = some (.int .i64 x.B) ∧ w.cell? ⟨b, o + 3, none⟩ = some (.int .u64 x.a) ∧ w.cell? ⟨b, o + 4, none⟩ = some (.int .u64 x.b) ∧ w.cell? ⟨b, o + 5, none⟩ = some (.int .u64 x.c) ∧ w.cell? ⟨b, o + 6, none⟩ = some (.int .u64 x.d)
theorem sdAt.below {w w' : World} {b o B : Nat} {x : Sd} (h : sdAt w b o x) (hb : Below B w w') (hB : b < B) : sdAt w' b o x := by
  have c : ∀ x, w'.cell? ⟨b, x, none⟩ = w.cell? ⟨b, x, none⟩ := fun x => hb.cell (p := ⟨b, x, none⟩) hB
  unfold sdAt at h ⊢
  simp only [c]
  exact h
def rdS (w : World) (b off m : Nat) (S : Nat → Sd) : Prop := ∀ j, j < m → b < w.heap.size ∧ sdAt w b (off + j * 7) (S j)
theorem rdS.below {w w' : World} {b off m : Nat} {S : Nat → Sd} (h : rdS w b off m S) (hb : Below w.heap.size w w') : rdS w' b off m S := fun j hj =>
  ⟨Nat.lt_of_lt_of_le (h j hj).1 hb.size, (h j hj).2.below hb (h j hj).1⟩
/-- A and B are places of states, where they count. -/
def rng (S : Nat → Sd) (m : Nat) : Prop := ∀ q, q < m → 1 ≤ (S q).k ∧ (S q).k ≤ 6 ∧ 0 ≤ (S q).A ∧ (S q).A < m ∧ 0 ≤ (S q).B ∧ (S q).B < m

/-- Does a state go on at once to A? -/
def eA (S : Nat → Sd) (sym : Int) (q : Nat) : Bool := (S q).k == 2 || (S q).k == 3 || ((S q).k == 4 && (sym == 256 || sym == 258)) || ((S q).k == 5 && (sym == 257 || sym == 258))
theorem eA_iff {S : Nat → Sd} {sym : Int} {q : Nat} : eA S sym q = true ↔ ((S q).k = 2 ∨ (S q).k = 3 ∨ ((S q).k = 4 ∧ (sym = 256 ∨ sym = 258)) ∨ ((S q).k = 5 ∧ (sym = 257 ∨ sym = 258))) := by
  unfold eA
  simp only [Bool.or_eq_true, Bool.and_eq_true, beq_iff_eq]
  constructor
  · rintro (((h | h) | h) | h)
    · exact .inl h
    · exact .inr (.inl h)
    · exact .inr (.inr (.inl h))
    · exact .inr (.inr (.inr h))
  · rintro (h | h | h | h)
    · exact .inl (.inl (.inl h))
    · exact .inl (.inl (.inr h))
    · exact .inl (.inr h)
    · exact .inr h
/-- What the reference does at a state; at all of them in turn; so many turns. -/
def up1 (S : Nat → Sd) (sym : Int) (T : Nat → Bool) (i : Nat) : Nat → Bool :=
  if T i = true then (if (S i).k = 3 then putT (putT T (S i).A.toNat true) (S i).B.toNat true else if eA S sym i = true then putT T (S i).A.toNat true else T) else T
def upR (S : Nat → Sd) (sym : Int) (T : Nat → Bool) : Nat → Nat → Bool
  | 0 => T
  | i + 1 => up1 S sym (upR S sym T i) i
def upN (S : Nat → Sd) (sym : Int) (m : Nat) (T : Nat → Bool) : Nat → Nat → Bool
  | 0 => T
  | k + 1 => upR S sym (upN S sym m T k) m

section
variable {S : Nat → Sd} {sym : Int} {m : Nat}
theorem putT_le {T : Nat → Bool} {j q : Nat} (h : T q = true) : putT T j true q = true := by unfold putT; split <;> first | rfl | exact h
theorem putT_at {T : Nat → Bool} {j : Nat} : putT T j true j = true := by unfold putT; rw [if_pos rfl]
theorem putT_or {T : Nat → Bool} {j q : Nat} (h : putT T j true q = true) : T q = true ∨ q = j := by
  unfold putT at h
  by_cases e : q = j
  · exact .inr e
  · rw [if_neg e] at h; exact .inl h
theorem up1_le {T : Nat → Bool} {i q : Nat} (h : T q = true) : up1 S sym T i q = true := by
  unfold up1
  split
  · split
    · exact putT_le (putT_le h)
    · split
      · exact putT_le h
      · exact h
  · exact h
theorem upR_le {T : Nat → Bool} {q : Nat} (h : T q = true) : ∀ i, upR S sym T i q = true
  | 0 => h
  | i + 1 => up1_le (upR_le h i)
theorem upN_le {T : Nat → Bool} {q : Nat} (h : T q = true) : ∀ k, upN S sym m T k q = true
  | 0 => h
  | k + 1 => upR_le (upN_le h k) m
/-- What is true behind a state was so ahead, or is where it goes. -/
theorem up1_ep {T : Nat → Bool} {i q : Nat} (hr : rng S m) (hi : i < m) (h : up1 S sym T i q = true) : T q = true ∨ (T i = true ∧ ep S sym i q) := by
  obtain ⟨_, _, a1, a2, b1, b2⟩ := hr i hi
  unfold up1 at h
  split at h
  · rename_i hT
    split at h
    · rename_i h3
      rcases putT_or h with h | rfl
      · rcases putT_or h with h | rfl
        · exact .inl h
        · exact .inr ⟨hT, .inl ⟨.inr (.inl h3), by omega⟩⟩
      · exact .inr ⟨hT, .inr ⟨h3, by omega⟩⟩
    · split at h
      · rename_i hA
        rcases putT_or h with h | rfl
        · exact .inl h
        · exact .inr ⟨hT, .inl ⟨eA_iff.1 hA, by omega⟩⟩
      · exact .inl h
  · exact .inl h
theorem ep_up1 {T : Nat → Bool} {i q : Nat} (hT : T i = true) (h : ep S sym i q) : up1 S sym T i q = true := by
  unfold up1
  rw [if_pos hT]
  rcases h with ⟨h1, h2⟩ | ⟨h1, h2⟩
  · by_cases h3 : (S i).k = 3
    · rw [if_pos h3]
      have : q = (S i).A.toNat := by omega
      rw [this]; exact putT_le putT_at
    · rw [if_neg h3, if_pos (eA_iff.2 h1)]
      have : q = (S i).A.toNat := by omega
      rw [this]; exact putT_at
  · rw [if_pos h1]
    have : q = (S i).B.toNat := by omega
    rw [this]; exact putT_at
theorem upR_rt {T : Nat → Bool} (hr : rng S m) : ∀ {i q}, i ≤ m → q < m → upR S sym T i q = true → ∃ q0, (q0 < m ∧ T q0 = true) ∧ rt S sym q0 q
  | 0, q, _, hq, h => ⟨q, ⟨hq, h⟩, .refl _⟩
  | i + 1, q, hi, hq, h => by
    rcases up1_ep hr (by omega) h with h | ⟨h, h2⟩
    · exact upR_rt hr (by omega) hq h
    · obtain ⟨q0, g1, g2⟩ := upR_rt hr (by omega) (by omega) h
      exact ⟨q0, g1, .tail g2 h2⟩
theorem upN_rt {T : Nat → Bool} (hr : rng S m) : ∀ {k q}, q < m → upN S sym m T k q = true → ∃ q0, (q0 < m ∧ T q0 = true) ∧ rt S sym q0 q
  | 0, q, hq, h => ⟨q, ⟨hq, h⟩, .refl _⟩
  | k + 1, q, hq, h => by
    obtain ⟨q0, ⟨g0, g1⟩, g2⟩ := upR_rt hr (Nat.le_refl _) hq h
    obtain ⟨q1, k1, k2⟩ := upN_rt hr g0 g1
    exact ⟨q1, k1, k2.trans g2⟩
theorem upR_mono {T : Nat → Bool} {q : Nat} {i : Nat} (h : upR S sym T i q = true) : ∀ d, upR S sym T (i + d) q = true
  | 0 => h
  | d + 1 => up1_le (upR_mono h d)
/-- A turn reaches all to which one step leads. -/
theorem upR_ep {T : Nat → Bool} {i q : Nat} (hi : i < m) (hT : T i = true) (h : ep S sym i q) : upR S sym T m q = true := by
  have h1 : upR S sym T (i + 1) q = true := ep_up1 (upR_le hT i) h
  have := upR_mono h1 (m - (i + 1))
  rwa [show i + 1 + (m - (i + 1)) = m by omega] at this
/-- Is nothing new reached by one step? -/
def clsd (S : Nat → Sd) (sym : Int) (m : Nat) (T : Nat → Bool) : Prop := ∀ i q, i < m → q < m → T i = true → ep S sym i q → T q = true
def cntT (T : Nat → Bool) (m : Nat) : Nat := ((List.range m).filter fun j => T j).length
theorem cntT_le (T : Nat → Bool) (m : Nat) : cntT T m ≤ m := by
  unfold cntT
  have := List.length_filter_le (fun j => T j) (List.range m)
  rwa [List.length_range] at this
theorem cntT_succ (T : Nat → Bool) (m : Nat) : cntT T (m + 1) = cntT T m + if T m = true then 1 else 0 := by
  unfold cntT
  rw [List.range_succ, List.filter_append, List.length_append]
  congr 1
  by_cases h : T m = true
  · rw [if_pos h, List.filter_cons_of_pos h]; rfl
  · rw [if_neg h, List.filter_cons_of_neg h]; rfl
theorem cntT_mono {T T' : Nat → Bool} (h : ∀ q, T q = true → T' q = true) : ∀ m, cntT T m ≤ cntT T' m
  | 0 => Nat.le_refl _
  | m + 1 => by
    have := cntT_mono h m
    rw [cntT_succ, cntT_succ]
    by_cases h1 : T m = true
    · rw [if_pos h1, if_pos (h m h1)]; omega
    · rw [if_neg h1]; omega
theorem cntT_less {T T' : Nat → Bool} (h : ∀ q, T q = true → T' q = true) {q : Nat} (h1 : T q ≠ true) (h2 : T' q = true) : ∀ m, q < m → cntT T m < cntT T' m
  | 0, hq => absurd hq (Nat.not_lt_zero _)
  | m + 1, hq => by
    rw [cntT_succ, cntT_succ]
    by_cases e : q = m
    · subst e
      have := cntT_mono h q
      rw [if_neg h1, if_pos h2]; omega
    · have := cntT_less h h1 h2 m (by omega)
      by_cases h3 : T m = true
      · rw [if_pos h3, if_pos (h m h3)]; omega
      · rw [if_neg h3]; omega
theorem cntT_all {T : Nat → Bool} : ∀ {m}, m ≤ cntT T m → ∀ q, q < m → T q = true
  | 0, _, q, hq => absurd hq (Nat.not_lt_zero _)
  | k + 1, h, q, hq => by
    rw [cntT_succ] at h
    have hle := cntT_le T k
    by_cases h1 : T k = true
    · rw [if_pos h1] at h
      by_cases e : q = k
      · rw [e]; exact h1
      · exact cntT_all (m := k) (by omega) q (by omega)
    · rw [if_neg h1] at h; omega
theorem clsd_or {T : Nat → Bool} : clsd S sym m T ∨ cntT T m < cntT (upR S sym T m) m := by
  by_cases h : clsd S sym m T
  · exact .inl h
  · right
    unfold clsd at h
    simp only [Classical.not_forall] at h
    obtain ⟨i, q, hi, hq, hT, he, hn⟩ := h
    exact cntT_less (fun q hq => upR_le hq m) hn (upR_ep hi hT he) m hq
theorem clsd_up {T : Nat → Bool} (hr : rng S m) (h : clsd S sym m T) : ∀ q, q < m → upR S sym T m q = true → T q = true := by
  have main : ∀ i, i ≤ m → ∀ q, q < m → upR S sym T i q = true → T q = true := by
    intro i
    induction i with
    | zero => exact fun _ q _ hq => hq
    | succ i ih =>
      intro hi q hq hu
      rcases up1_ep hr (by omega) hu with g | ⟨g1, g2⟩
      · exact ih (by omega) q hq g
      · exact h i q (by omega) hq (ih (by omega) i (by omega) g1) g2
  exact main m (Nat.le_refl _)
theorem upN_cls {T : Nat → Bool} (hr : rng S m) : ∀ k, clsd S sym m (upN S sym m T k) ∨ k ≤ cntT (upN S sym m T k) m
  | 0 => .inr (Nat.zero_le _)
  | k + 1 => by
    rcases upN_cls hr k with h | h
    · refine .inl fun i q hi hq h1 h2 => ?_
      exact upR_le (h i q hi hq (clsd_up hr h i hi h1) h2) m
    · rcases clsd_or (S := S) (sym := sym) (m := m) (T := upN S sym m T k) with g | g
      · refine .inl fun i q hi hq h1 h2 => ?_
        exact upR_le (g i q hi hq (clsd_up hr g i hi h1) h2) m
      · exact .inr (by show k + 1 ≤ cntT (upR S sym (upN S sym m T k) m) m; omega)
/-- Behind as many turns as there are states just that is true to which one comes at once. -/
theorem upN_iff {T : Nat → Bool} (hr : rng S m) {q : Nat} (hq : q < m) : upN S sym m T m q = true ↔ Cl S sym (fun q => q < m ∧ T q = true) q := by
  constructor
  · exact fun h => upN_rt hr hq h
  · rintro ⟨q0, ⟨h0, h1⟩, h2⟩
    have hc : clsd S sym m (upN S sym m T m) := by
      rcases upN_cls (S := S) (sym := sym) (T := T) hr m with h | h
      · exact h
      · exact fun i q _ hq _ _ => cntT_all h q hq
    have main : ∀ q, rt S sym q0 q → q < m ∧ upN S sym m T m q = true := by
      intro q h
      induction h with
      | refl => exact ⟨h0, upN_le h1 m⟩
      | @tail q' q'' _ he ih =>
        obtain ⟨g1, g2⟩ := ih
        obtain ⟨_, _, a1, a2, b1, b2⟩ := hr q' g1
        have hlt : q'' < m := by
          rcases he with ⟨_, h⟩ | ⟨_, h⟩ <;> omega
        exact ⟨hlt, hc q' q'' g1 hlt g2 he⟩
    exact (main q h2).2
end
end Go.Proofs.Ytefpoapbodbenaa
