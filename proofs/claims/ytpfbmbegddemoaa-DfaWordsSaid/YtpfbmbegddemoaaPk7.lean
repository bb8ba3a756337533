/-
  What a tree tells ahead of any text, and which parts of a text fit it. Plain facts.
  How many states a tree has. Plain facts.
  A tree turned around: as a list it is a tree, and that tree; which parts of a text fit it. Plain facts.
-/
import Derived.Test.YtpfbmbegddemoaaPk5
import Derived.Test.YtpfbmbegddemoaaPk6
namespace Go.Proofs.Ytpfbmbegddemoaa

/-- What is told: never, at least, at most (-1: without bound), the first bytes. -/
structure Fx where
  nv : Bool
  ls : Int
  ms : Int
  fi : Nat → Bool
def cap20 (n : Int) : Int := min n 1048576
theorem cap_pos {n : Int} (h : 0 ≤ n) : 0 ≤ cap20 n := by unfold cap20; omega
theorem cap_le (n : Int) : cap20 n ≤ n := by unfold cap20; omega
theorem cap_ge {m n : Int} (h : m ≤ n) (h1 : m ≤ 1048576) : m ≤ cap20 n := by unfold cap20; omega
def fx0 : Fx := ⟨false, 0, 0, fun _ => false⟩
def fxN : Fx := ⟨true, 0, 0, fun _ => false⟩
def leafX (x : Nd) : Fx := if x.k = 1 then (if x.a = 0 ∧ x.b = 0 ∧ x.c = 0 ∧ x.d = 0 then fxN else ⟨false, 1, 1, fOf x⟩) else fx0
def catX (a b : Fx) : Fx := if a.nv = true ∨ b.nv = true then fxN else
  ⟨false, cap20 (a.ls + b.ls), if a.ms = -1 ∨ b.ms = -1 then -1 else cap20 (a.ms + b.ms), if a.ls = 0 then fun k => a.fi k || b.fi k else a.fi⟩
def orX (a b : Fx) : Fx := if a.nv = true then b else if b.nv = true then a else
  ⟨false, min a.ls b.ls, if a.ms = -1 ∨ b.ms = -1 then -1 else max a.ms b.ms, fun k => a.fi k || b.fi k⟩
def repX (lo hi : Int) (a : Fx) : Fx := if hi = 0 ∨ (lo = 0 ∧ a.nv = true) then fx0 else if a.nv = true then fxN else
  ⟨false, cap20 (lo * a.ls), if a.ms = -1 ∨ (hi = -1 ∧ 0 < a.ms) then -1 else if 0 < hi then cap20 (hi * a.ms) else 0, a.fi⟩
def fxT : Tr → Fx
  | .leaf x => leafX x
  | .cat a b => catX (fxT a) (fxT b)
  | .or a b => orX (fxT a) (fxT b)
  | .rep a lo hi => repX lo hi (fxT a)

/-- Which parts of a text (n bytes, tx i its bytes) do something. -/
abbrev Gr := Nat → Nat → Bool
def evenB (n : Nat) : Gr := fun i j => decide (i = j) && decide (j ≤ n)
def behB (n : Nat) (a b : Gr) : Gr := fun i j => (List.range (n + 1)).any fun m => decide (i ≤ m) && decide (m ≤ j) && (a i m && b m j)
def powB (n : Nat) (x : Gr) : Nat → Gr
  | 0 => evenB n
  | k + 1 => behB n (powB n x k) x
def repB (n : Nat) (x : Gr) (lo more : Nat) : Gr := fun i j => (List.range (more + 1)).any fun k => powB n x (lo + k) i j
def leafB7 (n : Nat) (tx : Nat → Nat) (x : Nd) : Gr := fun i j =>
  if x.k = 1 then decide (i < n) && decide (j = i + 1) && fOf x (tx i) else if x.k = 2 then evenB n i j else if x.k = 3 then decide (i = 0) && decide (j = 0) else decide (i = n) && decide (j = n)
def moreN (n : Nat) (lo hi : Int) : Nat := if hi = -1 then n else (hi - lo).toNat
def fitT (n : Nat) (tx : Nat → Nat) : Tr → Gr
  | .leaf x => leafB7 n tx x
  | .cat a b => behB n (fitT n tx a) (fitT n tx b)
  | .or a b => fun i j => fitT n tx a i j || fitT n tx b i j
  | .rep a lo hi => repB n (fitT n tx a) lo.toNat (moreN n lo hi)

/-- A part is within what is told. -/
def inX (n : Nat) (tx : Nat → Nat) (a : Fx) (i j : Nat) : Prop := i ≤ j ∧ j ≤ n ∧ a.nv = false ∧ a.ls ≤ (j : Int) - i ∧ (a.ms = -1 ∨ (j : Int) - i ≤ a.ms) ∧ (i < j → a.fi (tx i) = true)
def okX (a : Fx) : Prop := 0 ≤ a.ls ∧ (a.ms = -1 ∨ 0 ≤ a.ms)
theorem okX_T : ∀ t, okT t → okX (fxT t)
  | .leaf x, _ => by
    unfold fxT leafX
    split
    · split
      · exact ⟨Int.le_refl _, .inr (Int.le_refl _)⟩
      · exact ⟨show (0 : Int) ≤ 1 by decide, .inr (show (0 : Int) ≤ 1 by decide)⟩
    · exact ⟨Int.le_refl _, .inr (Int.le_refl _)⟩
  | .cat a b, h => by
    obtain ⟨a1, a2⟩ := okX_T a h.1
    obtain ⟨b1, b2⟩ := okX_T b h.2
    show okX (catX (fxT a) (fxT b))
    unfold catX
    split
    · exact ⟨Int.le_refl _, .inr (Int.le_refl _)⟩
    · refine ⟨?_, ?_⟩
      · exact cap_pos (by omega)
      · show (if _ then _ else _) = _ ∨ _ ≤ (if _ then _ else _)
        split
        · exact .inl rfl
        · exact .inr (cap_pos (by omega))
  | .or a b, h => by
    obtain ⟨a1, a2⟩ := okX_T a h.1
    obtain ⟨b1, b2⟩ := okX_T b h.2
    show okX (orX (fxT a) (fxT b))
    unfold orX
    split
    · exact ⟨b1, b2⟩
    · split
      · exact ⟨a1, a2⟩
      · refine ⟨?_, ?_⟩
        · show 0 ≤ min _ _; omega
        · show (if _ then _ else _) = _ ∨ _ ≤ (if _ then _ else _)
          split
          · exact .inl rfl
          · rename_i hno
            exact .inr (Int.le_trans (show (0 : Int) ≤ (fxT a).ms by omega) (Int.le_max_left _ _))
  | .rep a lo hi, h => by
    obtain ⟨a1, a2⟩ := okX_T a h.1
    have h1 := h.2.1
    show okX (repX lo hi (fxT a))
    unfold repX
    split
    · exact ⟨Int.le_refl _, .inr (Int.le_refl _)⟩
    · split
      · exact ⟨Int.le_refl _, .inr (Int.le_refl _)⟩
      · refine ⟨?_, ?_⟩
        · exact cap_pos (Int.mul_nonneg h1 a1)
        · show (if _ then _ else _) = _ ∨ _ ≤ (if _ then _ else _)
          split
          · exact .inl rfl
          · right
            split
            · rename_i hn hp
              have : 0 ≤ (fxT a).ms := by omega
              exact cap_pos (Int.mul_nonneg (Int.le_of_lt hp) this)
            · exact Int.le_refl _
theorem fOf_none {x : Nd} (h : x.a = 0 ∧ x.b = 0 ∧ x.c = 0 ∧ x.d = 0) (k : Nat) : fOf x k = false := by
  obtain ⟨a, b, c, d⟩ := h
  unfold fOf ofWords
  rw [a, b, c, d]
  simp
theorem in_leaf {n : Nat} {tx : Nat → Nat} {x : Nd} {i j : Nat} (h : leafB7 n tx x i j = true) : inX n tx (leafX x) i j := by
  unfold leafB7 at h
  unfold leafX
  by_cases c1 : x.k = 1
  · rw [if_pos c1] at h ⊢
    simp only [Bool.and_eq_true, decide_eq_true_eq] at h
    obtain ⟨⟨h1, rfl⟩, h3⟩ := h
    by_cases c0 : x.a = 0 ∧ x.b = 0 ∧ x.c = 0 ∧ x.d = 0
    · rw [fOf_none c0] at h3; cases h3
    · rw [if_neg c0]
      exact ⟨by omega, by omega, rfl, by show (1 : Int) ≤ _; omega, .inr (by show _ ≤ (1 : Int); omega), fun _ => h3⟩
  · rw [if_neg c1] at h ⊢
    have hz : i = j ∧ j ≤ n := by
      split at h
      · unfold evenB at h; simp only [Bool.and_eq_true, decide_eq_true_eq] at h; exact h
      · split at h
        · simp only [Bool.and_eq_true, decide_eq_true_eq] at h; omega
        · simp only [Bool.and_eq_true, decide_eq_true_eq] at h; omega
    obtain ⟨rfl, hj⟩ := hz
    exact ⟨Nat.le_refl _, hj, rfl, by show (0 : Int) ≤ _; omega, .inr (by show _ ≤ (0 : Int); omega), fun hlt => absurd hlt (Nat.lt_irrefl _)⟩
theorem beh_iff {n : Nat} {a b : Gr} {i j : Nat} : behB n a b i j = true ↔ ∃ m, m ≤ n ∧ i ≤ m ∧ m ≤ j ∧ a i m = true ∧ b m j = true := by
  unfold behB
  rw [List.any_eq_true]
  constructor
  · rintro ⟨m, hm, h⟩
    simp only [Bool.and_eq_true, decide_eq_true_eq] at h
    exact ⟨m, by have := List.mem_range.1 hm; omega, h.1.1, h.1.2, h.2.1, h.2.2⟩
  · rintro ⟨m, h1, h2, h3, h4, h5⟩
    exact ⟨m, List.mem_range.2 (by omega), by simp [h2, h3, h4, h5]⟩
/-- Some copies, one behind the other. -/
theorem in_pow {n : Nat} {tx : Nat → Nat} {x : Gr} {a : Fx} (_ha : okX a) (hx : ∀ i j, x i j = true → inX n tx a i j) : ∀ k i j, powB n x k i j = true →
    i ≤ j ∧ j ≤ n ∧ (k : Int) * a.ls ≤ (j : Int) - i ∧ (a.ms = -1 ∨ (j : Int) - i ≤ k * a.ms) ∧ (i < j → a.fi (tx i) = true) ∧ (0 < k → a.nv = false) := by
  intro k
  induction k with
  | zero =>
    intro i j h
    unfold powB evenB at h
    simp only [Bool.and_eq_true, decide_eq_true_eq] at h
    obtain ⟨rfl, h2⟩ := h
    exact ⟨Nat.le_refl _, h2, by simp, .inr (by simp), fun hlt => absurd hlt (Nat.lt_irrefl _), fun h => absurd h (Nat.lt_irrefl _)⟩
  | succ k ih =>
    intro i j h
    unfold powB at h
    obtain ⟨m, h1, h2, h3, h4, h5⟩ := beh_iff.1 h
    obtain ⟨p1, p2, p3, p4, p5, -⟩ := ih i m h4
    obtain ⟨q1, q2, q3, q4, q5, q6⟩ := hx m j h5
    have e1 : ((k + 1 : Nat) : Int) * a.ls = (k : Int) * a.ls + a.ls := by rw [Int.natCast_add, Int.add_mul]; simp
    have e2 : ((k + 1 : Nat) : Int) * a.ms = (k : Int) * a.ms + a.ms := by rw [Int.natCast_add, Int.add_mul]; simp
    refine ⟨by omega, q2, by rw [e1]; omega, ?_, ?_, fun _ => q3⟩
    · rw [e2]; omega
    · intro hlt
      rcases Nat.lt_or_ge i m with him | him
      · exact p5 him
      · have : i = m := by omega
        subst this
        exact q6 hlt
/-- Whatever part fits is within what is told. -/
theorem fit_in {n : Nat} (hn : n ≤ 1048576) (tx : Nat → Nat) : ∀ t, okT t → ∀ i j, fitT n tx t i j = true → inX n tx (fxT t) i j
  | .leaf x, _, i, j, h => in_leaf h
  | .cat a b, ht, i, j, h => by
    obtain ⟨m, h1, h2, h3, h4, h5⟩ := beh_iff.1 (show behB n (fitT n tx a) (fitT n tx b) i j = true from h)
    obtain ⟨p1, p2, p3, p4, p5, p6⟩ := fit_in hn tx a ht.1 i m h4
    obtain ⟨q1, q2, q3, q4, q5, q6⟩ := fit_in hn tx b ht.2 m j h5
    have oa := okX_T a ht.1
    show inX n tx (catX (fxT a) (fxT b)) i j
    unfold catX
    rw [if_neg (by rw [p3, q3]; simp)]
    refine ⟨by omega, q2, rfl, ?_, ?_, ?_⟩
    · exact Int.le_trans (cap_le _) (by omega)
    · show (if _ then _ else _) = _ ∨ _ ≤ (if _ then _ else _)
      split
      · exact .inl rfl
      · exact .inr (cap_ge (by omega) (by omega))
    · intro hlt
      show (if (fxT a).ls = 0 then fun k => (fxT a).fi k || (fxT b).fi k else (fxT a).fi) (tx i) = true
      rcases Nat.lt_or_ge i m with him | him
      · have := p6 him
        split
        · simp [this]
        · exact this
      · have : i = m := by omega
        subst this
        have := q6 hlt
        rw [if_pos (by have := oa.1; omega)]
        simp [this]
  | .or a b, ht, i, j, h => by
    have h' : (fitT n tx a i j || fitT n tx b i j) = true := h
    rw [Bool.or_eq_true] at h'
    have oa := okX_T a ht.1
    have ob := okX_T b ht.2
    show inX n tx (orX (fxT a) (fxT b)) i j
    unfold orX
    rcases h' with h' | h'
    · obtain ⟨p1, p2, p3, p4, p5, p6⟩ := fit_in hn tx a ht.1 i j h'
      rw [if_neg (by rw [p3]; simp)]
      split
      · exact ⟨p1, p2, p3, p4, p5, p6⟩
      · refine ⟨p1, p2, rfl, ?_, ?_, fun hlt => ?_⟩
        · show min _ _ ≤ _; omega
        · show (if _ then _ else _) = _ ∨ _ ≤ (if _ then _ else _)
          split
          · exact .inl rfl
          · exact .inr (Int.le_trans (show (j : Int) - i ≤ (fxT a).ms by omega) (Int.le_max_left _ _))
        · show ((fxT a).fi (tx i) || (fxT b).fi (tx i)) = true
          rw [p6 hlt]; rfl
    · obtain ⟨p1, p2, p3, p4, p5, p6⟩ := fit_in hn tx b ht.2 i j h'
      split
      · exact ⟨p1, p2, p3, p4, p5, p6⟩
      · rw [if_neg (by rw [p3]; simp)]
        refine ⟨p1, p2, rfl, ?_, ?_, fun hlt => ?_⟩
        · show min _ _ ≤ _; omega
        · show (if _ then _ else _) = _ ∨ _ ≤ (if _ then _ else _)
          split
          · exact .inl rfl
          · exact .inr (Int.le_trans (show (j : Int) - i ≤ (fxT b).ms by omega) (Int.le_max_right _ _))
        · show ((fxT a).fi (tx i) || (fxT b).fi (tx i)) = true
          rw [p6 hlt, Bool.or_true]
  | .rep a lo hi, ht, i, j, h => by
    have oa := okX_T a ht.1
    have h' : repB n (fitT n tx a) lo.toNat (moreN n lo hi) i j = true := h
    unfold repB at h'
    obtain ⟨k, hk, hp⟩ := List.any_eq_true.1 h'
    have hk := List.mem_range.1 hk
    obtain ⟨p1, p2, p3, p4, p5, p6⟩ := in_pow oa (fit_in hn tx a ht.1) _ i j hp
    obtain ⟨-, l1, l2, l3⟩ := ht
    obtain ⟨l, rfl⟩ := Int.eq_ofNat_of_zero_le l1
    rw [Int.toNat_natCast] at p3 p4 p6
    have kle : hi = -1 ∨ (l + k : Int) ≤ hi := by
      unfold moreN at hk
      split at hk
      · left; assumption
      · right; omega
    show inX n tx (repX l hi (fxT a)) i j
    unfold repX
    by_cases c1 : hi = 0 ∨ ((l : Int) = 0 ∧ (fxT a).nv = true)
    · rw [if_pos c1]
      have hz : l + k = 0 := by
        rcases c1 with c1 | ⟨c1, c2⟩
        · omega
        · rcases Nat.eq_zero_or_pos (l + k) with h0 | h0
          · exact h0
          · have := p6 h0; rw [c2] at this; cases this
      rw [hz] at p4 p3
      have hij : j = i := by
        have h0 : powB n (fitT n tx a) 0 i j = true := by rw [Int.toNat_natCast, hz] at hp; exact hp
        unfold powB evenB at h0
        simp only [Bool.and_eq_true, decide_eq_true_eq] at h0
        exact h0.1.symm
      subst hij
      exact ⟨Nat.le_refl _, p2, rfl, by show (0 : Int) ≤ _; omega, .inr (by show _ ≤ (0 : Int); omega), fun hlt => absurd hlt (Nat.lt_irrefl _)⟩
    · rw [if_neg c1]
      by_cases c2 : (fxT a).nv = true
      · exfalso
        have : 0 < l := by
          rcases Nat.eq_zero_or_pos l with h0 | h0
          · exact absurd (.inr ⟨by omega, c2⟩) c1
          · exact h0
        have := p6 (by omega)
        rw [c2] at this; cases this
      · rw [if_neg c2]
        have m1 : (l : Int) * (fxT a).ls ≤ ((l + k : Nat) : Int) * (fxT a).ls := Int.mul_le_mul_of_nonneg_right (by omega) oa.1
        refine ⟨p1, p2, rfl, ?_, ?_, p5⟩
        · exact Int.le_trans (cap_le _) (by omega)
        · show (if _ then _ else _) = _ ∨ _ ≤ (if _ then _ else _)
          split
          · exact .inl rfl
          · rename_i hno
            right
            have hms : 0 ≤ (fxT a).ms := by have := oa.2; omega
            have p4' : (j : Int) - i ≤ ((l + k : Nat) : Int) * (fxT a).ms := by omega
            split
            · rename_i hp0
              have m2 : ((l + k : Nat) : Int) * (fxT a).ms ≤ hi * (fxT a).ms := Int.mul_le_mul_of_nonneg_right (by omega) hms
              exact cap_ge (by omega) (by omega)
            · rename_i hp0
              have hm0 : (fxT a).ms = 0 := by omega
              rw [hm0, Int.mul_zero] at p4'
              exact p4'
end Go.Proofs.Ytpfbmbegddemoaa

namespace Go.Proofs.Ytpfbmbegddemoaa

/-- How many states are made of a tree, at most 2^20. -/
def szF : Tr → Int
  | .leaf _ => 2
  | .cat a b => cap20 (szF a + szF b)
  | .or a b => cap20 (szF a + szF b + 2)
  | .rep a lo hi => cap20 (2 + lo * szF a + (if hi = -1 then szF a + 1 else (hi - lo) * (szF a + 1)))
theorem cap_two {n : Int} (h : 2 ≤ n) : 2 ≤ cap20 n ∧ cap20 n ≤ 1048576 := by unfold cap20; omega
theorem sz_bd : ∀ t, okT t → 2 ≤ szF t ∧ szF t ≤ 1048576
  | .leaf _, _ => ⟨show (2 : Int) ≤ 2 by decide, show (2 : Int) ≤ 1048576 by decide⟩
  | .cat a b, h => by
    have h1 := sz_bd a h.1; have h2 := sz_bd b h.2
    exact cap_two (by omega)
  | .or a b, h => by
    have h1 := sz_bd a h.1; have h2 := sz_bd b h.2
    exact cap_two (by omega)
  | .rep a lo hi, h => by
    have h1 := sz_bd a h.1
    refine cap_two ?_
    have m1 := Int.mul_nonneg h.2.1 (show 0 ≤ szF a by omega)
    split
    · omega
    · rename_i hn
      have := h.2.2.2
      have m2 := Int.mul_nonneg (show 0 ≤ hi - lo by omega) (show 0 ≤ szF a + 1 by omega)
      omega
theorem sz_one {N : Nat → Nd} {p : Nat} (hk : (N (p + 1)).k = 7) : szF (trT N (p + 1)) = cap20 (2 + (N (p + 1)).lo * szF (trT N p) + (if (N (p + 1)).hi = -1 then szF (trT N p) + 1 else ((N (p + 1)).hi - (N (p + 1)).lo) * (szF (trT N p) + 1))) := by rw [trT_one hk]; rfl
theorem sz_cat {N : Nat → Nd} {n p q : Nat} (ht : tree N n) (hi : p + 1 < n) (hk : (N (p + 1)).k = 5) (h1 : fst N p = (q + 1 : Nat)) (h2 : q + 1 ≤ p) : szF (trT N (p + 1)) = cap20 (szF (trT N q) + szF (trT N p)) := by rw [trT_cat ht hi hk h1 h2]; rfl
theorem sz_or {N : Nat → Nd} {n p q : Nat} (ht : tree N n) (hi : p + 1 < n) (hk : (N (p + 1)).k = 6) (h1 : fst N p = (q + 1 : Nat)) (h2 : q + 1 ≤ p) : szF (trT N (p + 1)) = cap20 (szF (trT N q) + szF (trT N p) + 2) := by rw [trT_or ht hi hk h1 h2]; rfl
theorem sz_leaf {N : Nat → Nd} {i : Nat} (hk : (N i).k = 1 ∨ (N i).k = 2 ∨ (N i).k = 3 ∨ (N i).k = 4) : szF (trT N i) = 2 := by rw [trT_leaf hk]; rfl
end Go.Proofs.Ytpfbmbegddemoaa

namespace Go.Proofs.Ytpfbmbegddemoaa

def trnN (x : Nd) : Nd := if x.k = 3 then { x with k := 4 } else if x.k = 4 then { x with k := 3 } else x
def trn : Tr → Tr
  | .leaf x => .leaf (trnN x)
  | .cat a b => .cat (trn b) (trn a)
  | .or a b => .or (trn a) (trn b)
  | .rep a lo hi => .rep (trn a) lo hi
theorem trnN_two (x : Nd) : trnN (trnN x) = x := by
  obtain ⟨k, a, b, c, d, lo, hi⟩ := x
  unfold trnN
  by_cases h3 : k = 3
  · subst h3; rfl
  · by_cases h4 : k = 4
    · subst h4; rfl
    · simp [h3, h4]
theorem trn_two : ∀ t, trn (trn t) = t
  | .leaf x => by show Tr.leaf (trnN (trnN x)) = _; rw [trnN_two]
  | .cat a b => by show Tr.cat (trn (trn a)) (trn (trn b)) = _; rw [trn_two a, trn_two b]
  | .or a b => by show Tr.or (trn (trn a)) (trn (trn b)) = _; rw [trn_two a, trn_two b]
  | .rep a lo hi => by show Tr.rep (trn (trn a)) lo hi = _; rw [trn_two a]
theorem okT_trn : ∀ t, okT t → okT (trn t)
  | .leaf x, h => by
    show okT (.leaf (trnN x))
    rcases h with ⟨h1, h2⟩ | rfl | rfl | rfl
    · rw [show trnN x = x by unfold trnN; rw [if_neg (by omega), if_neg (by omega)]]
      exact .inl ⟨h1, h2⟩
    · exact .inr (.inl rfl)
    · exact .inr (.inr (.inr rfl))
    · exact .inr (.inr (.inl rfl))
  | .cat a b, h => ⟨okT_trn b h.2, okT_trn a h.1⟩
  | .or a b, h => ⟨okT_trn a h.1, okT_trn b h.2⟩
  | .rep a _ _, h => ⟨okT_trn a h.1, h.2⟩
theorem post_trn : ∀ t, (post (trn t)).length = (post t).length
  | .leaf x => rfl
  | .cat a b => by
    show (post (trn b) ++ post (trn a) ++ [nd0 5]).length = (post a ++ post b ++ [nd0 5]).length
    simp only [List.length_append, post_trn a, post_trn b]; omega
  | .or a b => by
    show (post (trn a) ++ post (trn b) ++ [nd0 6]).length = (post a ++ post b ++ [nd0 6]).length
    simp only [List.length_append, post_trn a, post_trn b]
  | .rep a lo hi => by
    show (post (trn a) ++ [ndR lo hi]).length = (post a ++ [ndR lo hi]).length
    simp only [List.length_append, post_trn a]
theorem post_pos : ∀ t, 1 ≤ (post t).length
  | .leaf x => Nat.le_refl _
  | .cat a b => by show 1 ≤ (post a ++ post b ++ [nd0 5]).length; simp; omega
  | .or a b => by show 1 ≤ (post a ++ post b ++ [nd0 6]).length; simp; omega
  | .rep a lo hi => by show 1 ≤ (post a ++ [ndR lo hi]).length; simp

/-- A tree's nodes run to one part. -/
theorem run_post : ∀ t, okT t → ∀ d, 0 ≤ d → runD (post t) d = some (d + 1)
  | .leaf x, h, d, hd => by
    show runD [x] d = _
    rcases h with ⟨h1, h2, h3⟩ | rfl | rfl | rfl
    · have e : ar x.k = 0 := by rw [h1]; decide
      rw [runD_one (by omega) (by omega) (by simp [okN, h1, h2, h3]), e]
      congr 1; omega
    · exact (run_leaf hd).1
    · exact (run_leaf hd).2.1
    · exact (run_leaf hd).2.2
  | .cat a b, h, d, hd => by
    show runD (post a ++ post b ++ [nd0 5]) d = _
    rw [runD_append, runD_append, run_post a h.1 d hd]
    show ((runD (post b) (d + 1)).bind (runD [nd0 5])) = _
    rw [run_post b h.2 (d + 1) (by omega), show d + 1 + 1 = d + 2 by omega]
    exact (run_two hd).1
  | .or a b, h, d, hd => by
    show runD (post a ++ post b ++ [nd0 6]) d = _
    rw [runD_append, runD_append, run_post a h.1 d hd]
    show ((runD (post b) (d + 1)).bind (runD [nd0 6])) = _
    rw [run_post b h.2 (d + 1) (by omega), show d + 1 + 1 = d + 2 by omega]
    exact (run_two hd).2
  | .rep a lo hi, h, d, hd => by
    show runD (post a ++ [ndR lo hi]) d = _
    rw [runD_append, run_post a h.1 d hd]
    show runD [ndR lo hi] (d + 1) = _
    have e : ar 7 = 1 := by decide
    have hok : okN (ndR lo hi) = true := by
      obtain ⟨-, h1, h2, h3⟩ := h
      have g : (hi == -1 || (decide (lo ≤ hi) && decide (hi ≤ 32))) = true := by
        rcases h3 with h3 | ⟨h3, h4⟩
        · simp [h3]
        · simp [h3, h4]
      unfold okN
      show (((7 : Int) == 1 || ((0 : Int) == 0 && (0 : Int) == 0 && (0 : Int) == 0 && (0 : Int) == 0)) && (if (7 : Int) = 7 then decide (0 ≤ lo) && decide (lo ≤ 32) && (hi == -1 || (decide (lo ≤ hi) && decide (hi ≤ 32))) else lo == 0 && hi == 0)) = true
      rw [if_pos rfl, g, decide_eq_true h1, decide_eq_true h2]; rfl
    rw [runD_one (x := ndR lo hi) (by show 0 ≤ ar 7; omega) (by show ar 7 ≤ d + 1; omega) hok, show ar (ndR lo hi).k = 1 from e]
    congr 1; omega
theorem tree_post {t : Tr} (h : okT t) (hl : (post t).length ≤ 512) : tree (nfn (post t)) (post t).length := tree_of_run (run_post t h 0 (Int.le_refl _)) hl

theorem fst_zero {N : Nat → Nd} {i : Nat} (h : ar (N i).k = 0) : fst N i = i := by
  rw [fst_eq, if_neg (by omega), h]; exact back_zero N i
theorem fst_one {N : Nat → Nd} {p : Nat} (h : ar (N (p + 1)).k = 1) : fst N (p + 1) = fst N p := by
  rw [fst_eq, if_neg (by omega), h]; rfl
theorem fst_two {N : Nat → Nd} {p q : Nat} (h : ar (N (p + 1)).k = 2) (h1 : fst N p = (q + 1 : Nat)) : fst N (p + 1) = fst N q := by
  rw [fst_eq, if_neg (by omega), h]
  show back N (p + 1) (1 + 1) = _
  rw [back_step, h1, if_neg (by omega)]; rfl
/-- Where a tree's nodes stand in a tree, its last one is that tree. -/
theorem trT_post {N : Nat → Nd} {n : Nat} (ht : tree N n) : ∀ t, okT t → ∀ f, f + (post t).length ≤ n → (∀ j (h : j < (post t).length), N (f + j) = (post t)[j]) →
    ∃ i, i + 1 = f + (post t).length ∧ fst N i = f ∧ trT N i = t
  | .leaf x, h, f, hl, hN => by
    have e : N f = x := hN 0 (by show 0 < 1; omega)
    have hk : (N f).k = 1 ∨ (N f).k = 2 ∨ (N f).k = 3 ∨ (N f).k = 4 := by
      rw [e]
      rcases h with ⟨h1, -⟩ | rfl | rfl | rfl
      · exact .inl h1
      · exact .inr (.inl rfl)
      · exact .inr (.inr (.inl rfl))
      · exact .inr (.inr (.inr rfl))
    refine ⟨f, rfl, fst_zero (by unfold ar; rw [if_pos hk]), ?_⟩
    rw [trT_leaf hk, e]
  | .cat a b, h, f, hl, hN => by
    have e : post (.cat a b) = post a ++ post b ++ [nd0 5] := rfl
    have len : (post (.cat a b)).length = (post a).length + (post b).length + 1 := by rw [e]; simp; omega
    rw [len] at hl
    obtain ⟨q, hq, hq1, hq2⟩ := trT_post ht a h.1 f (by omega) (fun j hj => by
      rw [hN j (by omega)]; simp only [e]; rw [List.getElem_append_left (by simp; omega), List.getElem_append_left hj])
    obtain ⟨p, hp, hp1, hp2⟩ := trT_post ht b h.2 (f + (post a).length) (by omega) (fun j hj => by
      rw [Nat.add_assoc, hN ((post a).length + j) (by omega)]; simp only [e]; rw [List.getElem_append_left (by simp; omega), List.getElem_append_right (by omega)]; congr 1; omega)
    have hk : N (p + 1) = nd0 5 := by
      rw [show p + 1 = f + ((post a).length + (post b).length) by omega, hN _ (by omega)]; simp only [e]
      rw [List.getElem_append_right (by simp)]; simp
    have hk5 : (N (p + 1)).k = 5 := by rw [hk]; rfl
    have h1 : fst N p = (q + 1 : Nat) := by rw [hp1]; omega
    have := post_pos b
    refine ⟨p + 1, by rw [len]; omega, ?_, ?_⟩
    · rw [fst_two (by rw [hk5]; decide) h1, hq1]
    · rw [trT_cat ht (by omega) hk5 h1 (by omega), hq2, hp2]
  | .or a b, h, f, hl, hN => by
    have e : post (.or a b) = post a ++ post b ++ [nd0 6] := rfl
    have len : (post (.or a b)).length = (post a).length + (post b).length + 1 := by rw [e]; simp; omega
    rw [len] at hl
    obtain ⟨q, hq, hq1, hq2⟩ := trT_post ht a h.1 f (by omega) (fun j hj => by
      rw [hN j (by omega)]; simp only [e]; rw [List.getElem_append_left (by simp; omega), List.getElem_append_left hj])
    obtain ⟨p, hp, hp1, hp2⟩ := trT_post ht b h.2 (f + (post a).length) (by omega) (fun j hj => by
      rw [Nat.add_assoc, hN ((post a).length + j) (by omega)]; simp only [e]; rw [List.getElem_append_left (by simp; omega), List.getElem_append_right (by omega)]; congr 1; omega)
    have hk : N (p + 1) = nd0 6 := by
      rw [show p + 1 = f + ((post a).length + (post b).length) by omega, hN _ (by omega)]; simp only [e]
      rw [List.getElem_append_right (by simp)]; simp
    have hk5 : (N (p + 1)).k = 6 := by rw [hk]; rfl
    have h1 : fst N p = (q + 1 : Nat) := by rw [hp1]; omega
    have := post_pos b
    refine ⟨p + 1, by rw [len]; omega, ?_, ?_⟩
    · rw [fst_two (by rw [hk5]; decide) h1, hq1]
    · rw [trT_or ht (by omega) hk5 h1 (by omega), hq2, hp2]
  | .rep a lo hi, h, f, hl, hN => by
    have e : post (.rep a lo hi) = post a ++ [ndR lo hi] := rfl
    have len : (post (.rep a lo hi)).length = (post a).length + 1 := by rw [e]; simp
    rw [len] at hl
    obtain ⟨p, hp, hp1, hp2⟩ := trT_post ht a h.1 f (by omega) (fun j hj => by
      rw [hN j (by omega)]; simp only [e]; rw [List.getElem_append_left hj])
    have hk : N (p + 1) = ndR lo hi := by
      rw [hp, hN _ (by omega)]; simp only [e]
      rw [List.getElem_append_right (Nat.le_refl _)]; simp
    have hk7 : (N (p + 1)).k = 7 := by rw [hk]; rfl
    refine ⟨p + 1, by rw [len]; omega, ?_, ?_⟩
    · rw [fst_one (by rw [hk7]; decide), hp1]
    · rw [trT_one hk7, hp2, hk]; rfl
theorem nfn_at (l : List Nd) (j : Nat) (h : j < l.length) : nfn l j = l[j] := by
  unfold nfn; rw [List.getD_eq_getElem?_getD, List.getElem?_eq_getElem h]; rfl
theorem trT_back {t : Tr} (h : okT t) (hl : (post t).length ≤ 512) : trT (nfn (post t)) ((post t).length - 1) = t := by
  obtain ⟨i, hi, -, he⟩ := trT_post (tree_post h hl) t h 0 (by omega) (fun j hj => by rw [Nat.zero_add]; exact nfn_at _ j hj)
  rw [show (post t).length - 1 = i by omega, he]
/-- The list of the tree turned around. -/
def trnL (N : Nat → Nd) (n : Nat) : List Nd := post (trn (trT N (n - 1)))
theorem trnL_len {N : Nat → Nd} {n : Nat} (ht : tree N n) : (trnL N n).length = n := by
  unfold trnL; rw [post_trn, (trT_root ht).1, seg_len]
theorem trnL_tree {N : Nat → Nd} {n : Nat} (ht : tree N n) : tree (nfn (trnL N n)) n := by
  have h := tree_post (okT_trn _ (trT_root ht).2.1) (show (post (trn (trT N (n - 1)))).length ≤ 512 by have := trnL_len ht; unfold trnL at this; have := ht.1; omega)
  have e := trnL_len ht
  unfold trnL at e ⊢
  rwa [e] at h
theorem trnL_trT {N : Nat → Nd} {n : Nat} (ht : tree N n) : trT (nfn (trnL N n)) (n - 1) = trn (trT N (n - 1)) := by
  have e := trnL_len ht
  have h := trT_back (okT_trn _ (trT_root ht).2.1) (show (post (trn (trT N (n - 1)))).length ≤ 512 by unfold trnL at e; have := ht.1; omega)
  unfold trnL at e ⊢
  rwa [e] at h
/-- Turned twice it is the list that it was. -/
theorem trnL_two {N : Nat → Nd} {n : Nat} (ht : tree N n) : trnL (nfn (trnL N n)) n = seg N 0 n := by
  show post (trn (trT (nfn (trnL N n)) (n - 1))) = _
  rw [trnL_trT ht, trn_two, (trT_root ht).1]
theorem trnL_twice {N : Nat → Nd} {n : Nat} (ht : tree N n) (j : Nat) (hj : j < n) : nfn (trnL (nfn (trnL N n)) n) j = N j := by
  rw [trnL_two ht, nfn_at _ j (by rw [seg_len]; exact hj)]
  unfold seg; simp

/-- Grids that are each other's mirror image. -/
def mir (n : Nat) (a b : Gr) : Prop := ∀ i j, i ≤ j → j ≤ n → a i j = b (n - j) (n - i)
theorem mir_even (n : Nat) : mir n (evenB n) (evenB n) := fun i j h1 h2 => by
  unfold evenB
  rw [decide_eq_true h2, decide_eq_true (show n - i ≤ n by omega), Bool.and_true, Bool.and_true]
  exact decide_eq_decide.2 (by omega)
theorem mir_beh {n : Nat} {a a' b b' : Gr} (ha : mir n a a') (hb : mir n b b') : mir n (behB n a b) (behB n b' a') := fun i j h1 h2 => by
  apply Bool.eq_iff_iff.2
  rw [beh_iff, beh_iff]
  constructor
  · rintro ⟨m, hm, g1, g2, g3, g4⟩
    exact ⟨n - m, by omega, by omega, by omega, by rw [← hb m j g2 h2]; exact g4, by rw [← ha i m g1 hm]; exact g3⟩
  · rintro ⟨m, hm, g1, g2, g3, g4⟩
    refine ⟨n - m, by omega, by omega, by omega, ?_, ?_⟩
    · rw [ha i (n - m) (by omega) (by omega), show n - (n - m) = m by omega]; exact g4
    · rw [hb (n - m) j (by omega) h2, show n - (n - m) = m by omega]; exact g3
theorem even_iff {n i j : Nat} : evenB n i j = true ↔ i = j ∧ j ≤ n := by unfold evenB; simp
theorem pow_comm (n : Nat) (x : Gr) : ∀ k i j, i ≤ j → j ≤ n → behB n x (powB n x k) i j = behB n (powB n x k) x i j := by
  intro k
  induction k with
  | zero =>
    intro i j h1 h2
    apply Bool.eq_iff_iff.2
    show behB n x (evenB n) i j = true ↔ behB n (evenB n) x i j = true
    rw [beh_iff, beh_iff]
    constructor
    · rintro ⟨m, hm, g1, g2, g3, g4⟩
      obtain ⟨rfl, -⟩ := even_iff.1 g4
      exact ⟨i, by omega, Nat.le_refl _, h1, even_iff.2 ⟨rfl, by omega⟩, g3⟩
    · rintro ⟨m, hm, g1, g2, g3, g4⟩
      obtain ⟨rfl, -⟩ := even_iff.1 g3
      exact ⟨j, h2, h1, Nat.le_refl _, g4, even_iff.2 ⟨rfl, h2⟩⟩
  | succ k ih =>
    intro i j h1 h2
    apply Bool.eq_iff_iff.2
    show behB n x (behB n (powB n x k) x) i j = true ↔ behB n (behB n (powB n x k) x) x i j = true
    constructor
    · intro h
      obtain ⟨m, hm, g1, g2, g3, g4⟩ := beh_iff.1 h
      obtain ⟨l, hl, k1, k2, k3, k4⟩ := beh_iff.1 g4
      exact beh_iff.2 ⟨l, hl, by omega, k2, by rw [← ih i l (by omega) hl]; exact beh_iff.2 ⟨m, hm, g1, k1, g3, k3⟩, k4⟩
    · intro h
      obtain ⟨l, hl, g1, g2, g3, g4⟩ := beh_iff.1 h
      rw [← ih i l g1 hl] at g3
      obtain ⟨m, hm, k1, k2, k3, k4⟩ := beh_iff.1 g3
      exact beh_iff.2 ⟨m, hm, k1, by omega, k3, beh_iff.2 ⟨l, hl, k2, g2, k4, g4⟩⟩
theorem mir_pow {n : Nat} {x x' : Gr} (h : mir n x x') : ∀ k, mir n (powB n x k) (powB n x' k)
  | 0 => mir_even n
  | k + 1 => fun i j h1 h2 => by
    show behB n (powB n x k) x i j = behB n (powB n x' k) x' (n - j) (n - i)
    rw [mir_beh (mir_pow h k) h i j h1 h2, pow_comm n x' k (n - j) (n - i) (by omega) (by omega)]
theorem mir_rep {n : Nat} {x x' : Gr} (h : mir n x x') (lo more : Nat) : mir n (repB n x lo more) (repB n x' lo more) := fun i j h1 h2 => by
  unfold repB
  congr 1
  funext k
  exact mir_pow h (lo + k) i j h1 h2
theorem mir_leaf {n : Nat} {tx tx' : Nat → Nat} (hx : ∀ i, i < n → tx' (n - 1 - i) = tx i) (x : Nd) (h : okT (.leaf x)) : mir n (leafB7 n tx x) (leafB7 n tx' (trnN x)) := fun i j h1 h2 => by
  rcases h with ⟨k1, -⟩ | rfl | rfl | rfl
  · rw [show trnN x = x by unfold trnN; rw [if_neg (by omega), if_neg (by omega)]]
    unfold leafB7
    rw [if_pos k1, if_pos k1]
    by_cases hj : j = i + 1
    · subst hj
      rw [decide_eq_true (show i < n by omega), decide_eq_true (show i + 1 = i + 1 from rfl), decide_eq_true (show n - (i + 1) < n by omega), decide_eq_true (show n - i = n - (i + 1) + 1 by omega), show n - (i + 1) = n - 1 - i by omega, hx i (by omega)]
    · rw [decide_eq_false hj, decide_eq_false (show ¬ n - i = n - j + 1 by omega)]; simp
  · exact mir_even n i j h1 h2
  · show (decide (i = 0) && decide (j = 0)) = (decide (n - j = n) && decide (n - i = n))
    rw [Bool.and_comm, show decide (j = 0) = decide (n - j = n) from decide_eq_decide.2 (by omega)]
    by_cases hj : n - j = n
    · rw [decide_eq_true hj, Bool.true_and, Bool.true_and]; exact decide_eq_decide.2 (by omega)
    · rw [decide_eq_false hj]; rfl
  · show (decide (i = n) && decide (j = n)) = (decide (n - j = 0) && decide (n - i = 0))
    rw [Bool.and_comm, show decide (j = n) = decide (n - j = 0) from decide_eq_decide.2 (by omega)]
    by_cases hj : n - j = 0
    · rw [decide_eq_true hj, Bool.true_and, Bool.true_and]; exact decide_eq_decide.2 (by omega)
    · rw [decide_eq_false hj]; rfl
/-- Just the parts that fit a tree fit, mirrored, the tree turned around. -/
theorem mir_fit {n : Nat} {tx tx' : Nat → Nat} (hx : ∀ i, i < n → tx' (n - 1 - i) = tx i) : ∀ t, okT t → mir n (fitT n tx t) (fitT n tx' (trn t))
  | .leaf x, h => mir_leaf hx x h
  | .cat a b, h => mir_beh (mir_fit hx a h.1) (mir_fit hx b h.2)
  | .or a b, h => fun i j h1 h2 => by
    show (fitT n tx a i j || fitT n tx b i j) = (fitT n tx' (trn a) (n - j) (n - i) || fitT n tx' (trn b) (n - j) (n - i))
    rw [mir_fit hx a h.1 i j h1 h2, mir_fit hx b h.2 i j h1 h2]
  | .rep a lo hi, h => mir_rep (mir_fit hx a h.1) _ _

/-- What is told of lengths stays. -/
theorem fx_trn : ∀ t, (fxT (trn t)).nv = (fxT t).nv ∧ (fxT (trn t)).ls = (fxT t).ls ∧ (fxT (trn t)).ms = (fxT t).ms
  | .leaf x => by
    show (leafX (trnN x)).nv = (leafX x).nv ∧ (leafX (trnN x)).ls = (leafX x).ls ∧ (leafX (trnN x)).ms = (leafX x).ms
    unfold trnN
    by_cases h3 : x.k = 3
    · rw [if_pos h3]; unfold leafX; rw [if_neg (by show ¬ (4 : Int) = 1; decide), if_neg (by omega)]; exact ⟨rfl, rfl, rfl⟩
    · rw [if_neg h3]
      by_cases h4 : x.k = 4
      · rw [if_pos h4]; unfold leafX; rw [if_neg (by show ¬ (3 : Int) = 1; decide), if_neg (by omega)]; exact ⟨rfl, rfl, rfl⟩
      · rw [if_neg h4]; exact ⟨rfl, rfl, rfl⟩
  | .cat a b => by
    obtain ⟨a1, a2, a3⟩ := fx_trn a
    obtain ⟨b1, b2, b3⟩ := fx_trn b
    show (catX (fxT (trn b)) (fxT (trn a))).nv = (catX (fxT a) (fxT b)).nv ∧ (catX (fxT (trn b)) (fxT (trn a))).ls = (catX (fxT a) (fxT b)).ls ∧ (catX (fxT (trn b)) (fxT (trn a))).ms = (catX (fxT a) (fxT b)).ms
    unfold catX
    rw [a1, b1]
    by_cases h : (fxT a).nv = true ∨ (fxT b).nv = true
    · rw [if_pos h, if_pos h.symm]; exact ⟨rfl, rfl, rfl⟩
    · rw [if_neg h, if_neg (fun g => h g.symm)]
      refine ⟨rfl, ?_, ?_⟩
      · show cap20 ((fxT (trn b)).ls + (fxT (trn a)).ls) = cap20 ((fxT a).ls + (fxT b).ls)
        rw [a2, b2, Int.add_comm]
      · show (if (fxT (trn b)).ms = -1 ∨ (fxT (trn a)).ms = -1 then (-1 : Int) else cap20 ((fxT (trn b)).ms + (fxT (trn a)).ms)) = if (fxT a).ms = -1 ∨ (fxT b).ms = -1 then -1 else cap20 ((fxT a).ms + (fxT b).ms)
        rw [a3, b3, Int.add_comm]
        by_cases g : (fxT a).ms = -1 ∨ (fxT b).ms = -1
        · rw [if_pos g, if_pos g.symm]
        · rw [if_neg g, if_neg (fun k => g k.symm)]
  | .or a b => by
    obtain ⟨a1, a2, a3⟩ := fx_trn a
    obtain ⟨b1, b2, b3⟩ := fx_trn b
    show (orX (fxT (trn a)) (fxT (trn b))).nv = (orX (fxT a) (fxT b)).nv ∧ (orX (fxT (trn a)) (fxT (trn b))).ls = (orX (fxT a) (fxT b)).ls ∧ (orX (fxT (trn a)) (fxT (trn b))).ms = (orX (fxT a) (fxT b)).ms
    unfold orX
    rw [a1, b1]
    by_cases h : (fxT a).nv = true
    · rw [if_pos h, if_pos h]; exact ⟨b1, b2, b3⟩
    · rw [if_neg h, if_neg h]
      by_cases g : (fxT b).nv = true
      · rw [if_pos g, if_pos g]; exact ⟨a1, a2, a3⟩
      · rw [if_neg g, if_neg g, a2, b2, a3, b3]; exact ⟨rfl, rfl, rfl⟩
  | .rep a lo hi => by
    obtain ⟨a1, a2, a3⟩ := fx_trn a
    show (repX lo hi (fxT (trn a))).nv = (repX lo hi (fxT a)).nv ∧ (repX lo hi (fxT (trn a))).ls = (repX lo hi (fxT a)).ls ∧ (repX lo hi (fxT (trn a))).ms = (repX lo hi (fxT a)).ms
    unfold repX
    rw [a1, a2, a3]
    by_cases h : hi = 0 ∨ (lo = 0 ∧ (fxT a).nv = true)
    · rw [if_pos h, if_pos h]; exact ⟨rfl, rfl, rfl⟩
    · rw [if_neg h, if_neg h]
      by_cases g : (fxT a).nv = true
      · rw [if_pos g, if_pos g]; exact ⟨rfl, rfl, rfl⟩
      · rw [if_neg g, if_neg g]; exact ⟨rfl, rfl, rfl⟩
theorem sz_trn : ∀ t, szF (trn t) = szF t
  | .leaf x => rfl
  | .cat a b => by show cap20 (szF (trn b) + szF (trn a)) = cap20 (szF a + szF b); rw [sz_trn a, sz_trn b, Int.add_comm]
  | .or a b => by show cap20 (szF (trn a) + szF (trn b) + 2) = cap20 (szF a + szF b + 2); rw [sz_trn a, sz_trn b]
  | .rep a lo hi => by
    show cap20 (2 + lo * szF (trn a) + (if hi = -1 then szF (trn a) + 1 else (hi - lo) * (szF (trn a) + 1))) = cap20 (2 + lo * szF a + (if hi = -1 then szF a + 1 else (hi - lo) * (szF a + 1)))
    rw [sz_trn a]
end Go.Proofs.Ytpfbmbegddemoaa
