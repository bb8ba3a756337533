/-
  The walk of the fifth reference's Of.
  What is wrong in the tokens that a tree is told as: nothing, or too many groups within one another. Plain facts.
  Trees as lists of nodes against trees as such. Plain facts.
  Slices of bytes that read as lists of numbers; the bytes of a set as a list.
  Runs of a set: plain facts (stage 1's, without any walk).
  Sets and trees as texts: what they are as lists of bytes. Plain facts.
-/
import Derived.Test.YtefpoapbodbenaaPk1
import Derived.StillTailTactics
import Derived.Test.YtefpoapbodbenaaPk2
namespace Go.Proofs.Ytefpoapbodbenaa
open Go.RowKit

/-- What Of tells: a tree, or a place and an error. -/
def ofF (T : Nat → Tn) (n : Nat) (end_ : Int) : Option (List Nd) × Int × Int :=
  if (wrF T n (n + 1) 0 0).2.1 ≠ 0 then (none, (T (wrF T n (n + 1) 0 0).1.toNat).p, (wrF T n (n + 1) 0 0).2.1)
  else if 0 < (wrF T n (n + 1) 0 0).2.2 then (none, end_, 3)
  else if 512 < (ei T n (n + 1) 0).1.length then (none, 0, 4)
  else (some (ei T n (n + 1) 0).1, 0, 0)
end Go.Proofs.Ytefpoapbodbenaa

namespace Go.Proofs.Ytefpoapbodbenaa

/-- How many groups stand within one another. -/
def gd : Tr → Nat
  | .leaf x => if x.k = 2 then 1 else 0
  | .cat a b => max (gd a + (isOr a).toNat) (gd b + (isOr b || isCat b).toNat)
  | .or a b => max (gd a) (gd b + (isOr b).toNat)
  | .rep a _ _ => gd a + (isOr a || isCat a).toNat
def dp : Tr → Nat
  | .leaf _ => 1
  | .cat a b => max (dp a) (dp b) + 1
  | .or a b => max (dp a) (dp b) + 1
  | .rep a _ _ => dp a + 1
theorem toNat_le (b : Bool) : b.toNat ≤ 1 := by cases b <;> decide
theorem gd_dp : ∀ t, gd t ≤ dp t
  | .leaf x => by unfold gd dp; split <;> omega
  | .cat a b => by
    have h1 := gd_dp a; have h2 := gd_dp b; have h3 := toNat_le (isOr a); have h4 := toNat_le (isOr b || isCat b)
    show max (gd a + (isOr a).toNat) (gd b + (isOr b || isCat b).toNat) ≤ max (dp a) (dp b) + 1
    omega
  | .or a b => by
    have h1 := gd_dp a; have h2 := gd_dp b; have h3 := toNat_le (isOr b)
    show max (gd a) (gd b + (isOr b).toNat) ≤ max (dp a) (dp b) + 1
    omega
  | .rep a _ _ => by
    have h1 := gd_dp a; have h3 := toNat_le (isOr a || isCat a)
    show gd a + (isOr a || isCat a).toNat ≤ dp a + 1
    omega

/-- What Wrong tells of some tokens within d groups of their own. -/
def wrG (l : List Tn) (d : Nat) : Prop := ∀ (T : Nat → Tn) (n u i o : Nat), n + 1 ≤ u + i → hasT T n i l → o ≤ 20 →
  (o + d ≤ 20 → wrF T n u i o = wrF T n (u - l.length) (i + l.length) o) ∧ (20 < o + d → ∃ j q, wrF T n u i o = (j, 4, q))
def fin (l : List Tn) : Prop := ∃ m c, l = m ++ [c] ∧ endsP c.k = true
theorem fin_app {l m : List Tn} (h : fin m) : fin (l ++ m) := by
  obtain ⟨s, c, rfl, hc⟩ := h
  exact ⟨l ++ s, c, by simp, hc⟩
theorem fin_grp {b : Bool} {l : List Tn} (h : fin l) : fin (grp b l) := by
  cases b
  · exact h
  · exact ⟨tn0 3 :: l, tn0 4, rfl, rfl⟩
theorem fin_eT : ∀ t, fin (eT t)
  | .leaf x => by
    unfold eT
    by_cases c1 : x.k = 1
    · rw [if_pos c1]; exact ⟨[], _, rfl, rfl⟩
    · rw [if_neg c1]
      by_cases c2 : x.k = 2
      · rw [if_pos c2]; exact ⟨[tn0 3], tn0 4, rfl, rfl⟩
      · rw [if_neg c2]
        by_cases c3 : x.k = 3
        · rw [if_pos c3]; exact ⟨[], _, rfl, rfl⟩
        · rw [if_neg c3]; exact ⟨[], _, rfl, rfl⟩
  | .cat _ b => fin_app (fin_grp (fin_eT b))
  | .or a b => by
    obtain ⟨m, c, h, hc⟩ := fin_grp (b := isOr b) (fin_eT b)
    exact ⟨eT a ++ tn0 2 :: m, c, by show eT a ++ tn0 2 :: grp (isOr b) (eT b) = _; rw [h]; simp, hc⟩
  | .rep _ _ _ => ⟨_, tnR _ _, rfl, rfl⟩
theorem wrG_app {l1 l2 : List Tn} {d1 d2 : Nat} (h1 : wrG l1 d1) (h2 : wrG l2 d2) : wrG (l1 ++ l2) (max d1 d2) := by
  intro T n u i o hu hh ho
  obtain ⟨a1, a2⟩ := h1 T n u i o hu hh.left ho
  have hle := hh.left.1
  obtain ⟨b1, b2⟩ := h2 T n (u - l1.length) (i + l1.length) o (by omega) hh.right ho
  refine ⟨fun h => ?_, fun h => ?_⟩
  · rw [a1 (by omega), b1 (by omega), List.length_append, Nat.sub_add_eq, Nat.add_assoc]
  · by_cases h3 : 20 < o + d1
    · exact a2 h3
    · rw [a1 (by omega)]; exact b2 (by omega)
theorem wrF_step {T : Nat → Tn} {n u i o : Nat} (hi : i < n) (h1 : 1 ≤ (T i).k) (h7 : (T i).k ≤ 7) (h5 : (T i).k = 5 → badRep (T i) = false ∧ 0 < i ∧ endsP (T (i - 1)).k = true) (h3 : (T i).k = 3 → o ≠ 20) (h4 : (T i).k = 4 → o ≠ 0) :
    wrF T n (u + 1) i o = wrF T n u (i + 1) (if (T i).k = 3 then o + 1 else if (T i).k = 4 then o - 1 else o) := by
  conv => lhs; unfold wrF
  rw [if_neg (by omega), if_neg (by omega), if_neg (fun h => by rw [(h5 h.1).1] at h; simp at h), if_neg (fun h => h.2 (h5 h.1).2), if_neg (fun h => h3 h.1 h.2), if_neg (fun h => h4 h.1 h.2)]
theorem wrG_one {c : Tn} (h : c.k = 1 ∨ c.k = 2 ∨ c.k = 6 ∨ c.k = 7) : wrG [c] 0 := by
  intro T n u i o hu hh ho
  obtain ⟨k1, k2, -⟩ := hh.head
  refine ⟨fun _ => ?_, fun h => absurd h (by omega)⟩
  obtain ⟨v, rfl⟩ : ∃ v, u = v + 1 := ⟨u - 1, by omega⟩
  rw [wrF_step k1 (by omega) (by omega) (fun h => by omega) (fun h => by omega) (fun h => by omega), if_neg (by omega), if_neg (by omega)]
  rfl
theorem wrG_grp {l : List Tn} {d : Nat} (h : wrG l d) : wrG (tn0 3 :: (l ++ [tn0 4])) (d + 1) := by
  intro T n u i o hu hh ho
  obtain ⟨k1, k2, -⟩ := hh.head
  have k3 : (T i).k = 3 := k2
  have hT := hh.tail
  have hC := hT.right.head
  have k4 : (T (i + 1 + l.length)).k = 4 := hC.2.1
  have hle := hC.1
  obtain ⟨v, rfl⟩ : ∃ v, u = v + 1 := ⟨u - 1, by omega⟩
  by_cases h20 : o = 20
  · refine ⟨fun h => by omega, fun _ => ⟨(i : Int), o, ?_⟩⟩
    unfold wrF
    rw [if_neg (by omega), if_neg (by omega), if_neg (fun h => by omega), if_neg (fun h => by omega), if_pos ⟨k3, h20⟩]
  · rw [wrF_step k1 (by omega) (by omega) (fun h => by omega) (fun _ => h20) (fun h => by omega), if_pos k3]
    obtain ⟨a1, a2⟩ := h T n v (i + 1) (o + 1) (by omega) hT.left (by omega)
    refine ⟨fun hd => ?_, fun hd => a2 (by omega)⟩
    rw [a1 (by omega)]
    obtain ⟨w, hw⟩ : ∃ w, v - l.length = w + 1 := ⟨v - l.length - 1, by omega⟩
    rw [hw, wrF_step hle (by omega) (by omega) (fun h => by omega) (fun h => by omega) (fun _ => by omega), if_neg (by omega), if_pos k4]
    have e1 : w = v + 1 - (tn0 3 :: (l ++ [tn0 4])).length := by simp; omega
    have e2 : i + 1 + l.length + 1 = i + (tn0 3 :: (l ++ [tn0 4])).length := by simp; omega
    rw [e1, e2]
    rfl
theorem wrG_rep {l : List Tn} {d : Nat} (h : wrG l d) (hf : fin l) {lo hi : Int} (h1 : 0 ≤ lo) (h2 : lo ≤ 32) (h3 : hi = -1 ∨ (lo ≤ hi ∧ hi ≤ 32)) : wrG (l ++ [tnR lo hi]) d := by
  intro T n u i o hu hh ho
  obtain ⟨a1, a2⟩ := h T n u i o hu hh.left ho
  refine ⟨fun hd => ?_, a2⟩
  obtain ⟨k1, k2, -, -, -, -, k6, k7⟩ := hh.right.head
  have k5 : (T (i + l.length)).k = 5 := k2
  have k6' : (T (i + l.length)).lo = lo := k6
  have k7' : (T (i + l.length)).hi = hi := k7
  obtain ⟨m, c, e, hc⟩ := hf
  have hp : 0 < i + l.length ∧ endsP (T (i + l.length - 1)).k = true := by
    subst e
    have hl := hh.left.right.head
    have : (T (i + m.length)).k = c.k := hl.2.1
    rw [show i + (m ++ [c]).length - 1 = i + m.length by simp, this]
    exact ⟨by simp; omega, hc⟩
  have hb : badRep (T (i + l.length)) = false := by
    unfold badRep
    rw [k6', k7']
    rcases h3 with rfl | ⟨q1, q2⟩
    · simp; omega
    · simp; omega
  obtain ⟨w, hw⟩ : ∃ w, u - l.length = w + 1 := ⟨u - l.length - 1, by omega⟩
  rw [a1 hd, hw, wrF_step k1 (by omega) (by omega) (fun _ => ⟨hb, hp⟩) (fun h => by omega) (fun h => by omega), if_neg (by omega), if_neg (by omega)]
  rw [show u - (l ++ [tnR lo hi]).length = w by simp; omega, show i + (l ++ [tnR lo hi]).length = i + l.length + 1 by simp; omega]
theorem wrG_grp_if {b : Bool} {l : List Tn} {d : Nat} (h : wrG l d) : wrG (grp b l) (d + b.toNat) := by
  cases b
  · exact h
  · exact wrG_grp h
theorem wrG_nil : wrG [] 0 := fun T n u i o _ _ ho => ⟨fun _ => rfl, fun h => absurd h (by omega)⟩
theorem wrG_eT : ∀ t, okT t → wrG (eT t) (gd t)
  | .leaf x, h => by
    unfold eT gd
    by_cases c1 : x.k = 1
    · rw [if_pos c1, if_neg (by omega)]; exact wrG_one (.inl rfl)
    · rw [if_neg c1]
      by_cases c2 : x.k = 2
      · rw [if_pos c2, if_pos c2]; exact wrG_grp (l := []) wrG_nil
      · rw [if_neg c2, if_neg c2]
        by_cases c3 : x.k = 3
        · rw [if_pos c3]; exact wrG_one (.inr (.inr (.inl rfl)))
        · rw [if_neg c3]; exact wrG_one (.inr (.inr (.inr rfl)))
  | .cat a b, h => wrG_app (wrG_grp_if (wrG_eT a h.1)) (wrG_grp_if (wrG_eT b h.2))
  | .or a b, h => by
    have h1 : wrG (tn0 2 :: grp (isOr b) (eT b)) (gd b + (isOr b).toNat) := by
      have := wrG_app (wrG_one (c := tn0 2) (.inr (.inl rfl))) (wrG_grp_if (b := isOr b) (wrG_eT b h.2))
      rwa [Nat.zero_max] at this
    exact wrG_app (wrG_eT a h.1) h1
  | .rep a lo hi, h => wrG_rep (wrG_grp_if (wrG_eT a h.1)) (fin_grp (fin_eT a)) h.2.1 h.2.2.1 h.2.2.2
/-- What Of tells of a tree's tokens: the tree; or that too many groups stand within one another. -/
theorem of_back {t : Tr} (h : okT t) {T : Nat → Tn} {n : Nat} (hh : hasT T n 0 (eT t)) (hn : (eT t).length = n) (hp : (post t).length ≤ 512) (end_ : Int) :
    (gd t ≤ 20 → ofF T n end_ = (some (post t), 0, 0)) ∧ (20 < gd t → ∃ x, ofF T n end_ = (none, x, 4)) := by
  obtain ⟨a1, a2⟩ := wrG_eT t h T n (n + 1) 0 0 (by omega) hh (by omega)
  refine ⟨fun hg => ?_, fun hg => ?_⟩
  · have e : wrF T n (n + 1) 0 0 = (-1, 0, 0) := by
      rw [a1 (by omega), hn, show n + 1 - n = 1 by omega]
      unfold wrF
      rw [if_pos (by omega)]
    unfold ofF
    rw [e, ei_back h hh hn]
    simp only
    rw [if_neg (by decide), if_neg (by decide), if_neg (by omega)]
  · obtain ⟨j, q, e⟩ := a2 (by omega)
    refine ⟨(T j.toNat).p, ?_⟩
    unfold ofF
    rw [e, if_pos (show (4 : Int) ≠ 0 by decide)]
end Go.Proofs.Ytefpoapbodbenaa

namespace Go.Proofs.Ytefpoapbodbenaa

/-- The tree whose last node is i. -/
def trF (N : Nat → Nd) : Nat → Nat → Tr
  | 0, i => .leaf (N i)
  | u + 1, i => if (N i).k = 7 then .rep (trF N u (i - 1)) (N i).lo (N i).hi
      else if (N i).k = 5 then .cat (trF N u ((fst N (i - 1)).toNat - 1)) (trF N u (i - 1))
      else if (N i).k = 6 then .or (trF N u ((fst N (i - 1)).toNat - 1)) (trF N u (i - 1)) else .leaf (N i)
def trT (N : Nat → Nd) (i : Nat) : Tr := trF N i i
def seg (N : Nat → Nd) (f m : Nat) : List Nd := (List.range' f m).map N
theorem seg_app (N : Nat → Nd) (f m k : Nat) : seg N f (m + k) = seg N f m ++ seg N (f + m) k := by
  have := List.range'_append (s := f) (m := m) (n := k) (step := 1)
  unfold seg
  rw [← List.map_append, ← this, Nat.one_mul]
theorem seg_one (N : Nat → Nd) (f : Nat) : seg N f 1 = [N f] := rfl
theorem seg_len (N : Nat → Nd) (f m : Nat) : (seg N f m).length = m := by unfold seg; simp

theorem fst_nat {N : Nat → Nd} {n i : Nat} (ht : tree N n) (hi : i < n) : ∃ f : Nat, fst N i = f ∧ f ≤ i := by
  have h1 := ((tree_iff.1 ht).2.2.1 i hi).1
  have h2 := fst_bd N i
  exact ⟨(fst N i).toNat, by omega, by omega⟩
theorem okN_zero {x : Nd} (h : okN x = true) (h1 : x.k ≠ 1) : x.a = 0 ∧ x.b = 0 ∧ x.c = 0 ∧ x.d = 0 := by
  unfold okN at h
  simp only [Bool.and_eq_true, Bool.or_eq_true, beq_iff_eq] at h
  rcases h.1 with h2 | h2
  · exact absurd h2 h1
  · exact ⟨h2.1.1.1, h2.1.1.2, h2.1.2, h2.2⟩
theorem okN_lohi {x : Nd} (h : okN x = true) (h7 : x.k ≠ 7) : x.lo = 0 ∧ x.hi = 0 := by
  unfold okN at h
  rw [if_neg h7] at h
  simp only [Bool.and_eq_true, beq_iff_eq] at h
  exact h.2
theorem okN_rep {x : Nd} (h : okN x = true) (h7 : x.k = 7) : 0 ≤ x.lo ∧ x.lo ≤ 32 ∧ (x.hi = -1 ∨ (x.lo ≤ x.hi ∧ x.hi ≤ 32)) := by
  unfold okN at h
  rw [if_pos h7] at h
  simp only [Bool.and_eq_true, Bool.or_eq_true, beq_iff_eq, decide_eq_true_eq] at h
  exact ⟨h.2.1.1, h.2.1.2, h.2.2⟩
/-- What a node of a tree is. -/
inductive ndC (N : Nat → Nd) (n : Nat) : Nat → Nat → Prop where
  | leaf {i : Nat} (hi : i < n) (hk : (N i).k = 1 ∨ (N i).k = 2 ∨ (N i).k = 3 ∨ (N i).k = 4) (hd : dpt N i = 1) : ndC N n i i
  | one {p f : Nat} (hi : p + 1 < n) (hk : (N (p + 1)).k = 7) (h1 : fst N p = f) (h2 : f ≤ p) (hd : dpt N (p + 1) = dpt N p + 1) : ndC N n (p + 1) f
  | two {p q f : Nat} (hi : p + 1 < n) (hk : (N (p + 1)).k = 5 ∨ (N (p + 1)).k = 6) (h1 : fst N p = (q + 1 : Nat)) (h2 : q + 1 ≤ p) (h3 : fst N q = f) (h4 : f ≤ q) (hd : dpt N (p + 1) = max (dpt N q) (dpt N p) + 1) : ndC N n (p + 1) f
theorem nd_is {N : Nat → Nd} {n i : Nat} (ht : tree N n) (hi : i < n) : ∃ f : Nat, fst N i = f ∧ ndC N n i f := by
  obtain ⟨f, hf, hfi⟩ := fst_nat ht hi
  refine ⟨f, hf, ?_⟩
  have hg : ∀ j, j < i → good N j := fun j hj => ht.2.1 j (by omega)
  have hgi := ht.2.1 i hi
  have he := fst_eq N i
  rcases ar_cases (N i).k with ⟨h0, hk⟩ | ⟨h1, hk⟩ | ⟨h2, hk⟩ | ⟨h3, _⟩
  · rw [h0, if_neg (by omega)] at he
    have : fst N i = i := by rw [he]; exact back_zero N i
    have e : f = i := by omega
    subst e
    exact .leaf hi hk (dpt_zero h0)
  · rw [h1, if_neg (by omega), show ((1 : Int)).toNat = 1 from rfl] at he
    obtain ⟨p, rfl⟩ : ∃ p, i = p + 1 := ⟨i - 1, by
      have : dep N i ≥ 1 := by have := hgi.2.1; omega
      rcases Nat.eq_zero_or_pos i with h | h
      · subst h; simp [dep] at this
      · omega⟩
    have hfp : fst N p = f := by unfold fst; rw [← he, hf]
    have := fst_bd N p
    refine .one hi hk hfp (by omega) ?_
    rw [dpt_one (by omega) h1]
    have := dpt_pos N p
    rw [Nat.add_sub_cancel, Int.max_eq_right (by omega)]
  · rw [h2, if_neg (by omega), show ((2 : Int)).toNat = 2 from rfl] at he
    obtain ⟨p, rfl⟩ : ∃ p, i = p + 1 := ⟨i - 1, by
      have : dep N i ≥ 2 := by have := hgi.2.1; omega
      rcases Nat.eq_zero_or_pos i with h | h
      · subst h; simp [dep] at this
      · omega⟩
    obtain ⟨g, hg1, hg2⟩ := fst_nat ht (show p < n by omega)
    rw [back_step, hg1, if_neg (by omega), Int.toNat_natCast] at he
    obtain ⟨q, rfl⟩ : ∃ q, g = q + 1 := ⟨g - 1, by
      rcases Nat.eq_zero_or_pos g with h | h
      · subst h; rw [back_none] at he; omega
      · omega⟩
    have hfq : fst N q = f := by unfold fst; rw [← he, hf]
    have := fst_bd N q
    refine .two hi hk hg1 (by omega) hfq (by omega) ?_
    rw [dpt_two hg (by omega) h2 (by rw [Nat.add_sub_cancel]; exact hg1) (by omega)]
    have := dpt_pos N q
    rw [Nat.add_sub_cancel, Nat.add_sub_cancel, Int.max_eq_right (show (0 : Int) ≤ dpt N q by omega)]
  · have := hgi.1; omega
theorem trF_same {N : Nat → Nd} {n : Nat} (ht : tree N n) : ∀ u v i, i < n → i ≤ u → i ≤ v → trF N u i = trF N v i := by
  have zero : ∀ u, 0 < n → trF N u 0 = .leaf (N 0) := by
    intro u h0
    obtain ⟨f, hf, hc⟩ := nd_is ht h0
    cases hc with
    | leaf _ hk _ =>
      cases u with
      | zero => rfl
      | succ u => unfold trF; rw [if_neg (by omega), if_neg (by omega), if_neg (by omega)]
  intro u
  induction u with
  | zero => intro v i hi h1 _; obtain rfl : i = 0 := by omega
            rw [zero 0 hi, zero v hi]
  | succ u ih =>
    intro v i hi h1 h2
    cases v with
    | zero => obtain rfl : i = 0 := by omega
              rw [zero _ hi, zero _ hi]
    | succ v =>
      rcases Nat.eq_zero_or_pos i with h0 | h0
      · subst h0; rw [zero _ hi, zero _ hi]
      · have hb := fst_bd N (i - 1)
        unfold trF
        rw [ih v (i - 1) (by omega) (by omega) (by omega), ih v ((fst N (i - 1)).toNat - 1) (by omega) (by omega) (by omega)]
theorem trT_leaf {N : Nat → Nd} {i : Nat} (hk : (N i).k = 1 ∨ (N i).k = 2 ∨ (N i).k = 3 ∨ (N i).k = 4) : trT N i = .leaf (N i) := by
  unfold trT
  cases i with
  | zero => rfl
  | succ i => unfold trF; rw [if_neg (by omega), if_neg (by omega), if_neg (by omega)]
theorem trT_one {N : Nat → Nd} {p : Nat} (hk : (N (p + 1)).k = 7) : trT N (p + 1) = .rep (trT N p) (N (p + 1)).lo (N (p + 1)).hi := by
  unfold trT
  conv => lhs; unfold trF
  rw [if_pos hk]; rfl
theorem trT_cat {N : Nat → Nd} {n p q : Nat} (ht : tree N n) (hi : p + 1 < n) (hk : (N (p + 1)).k = 5) (h1 : fst N p = (q + 1 : Nat)) (h2 : q + 1 ≤ p) : trT N (p + 1) = .cat (trT N q) (trT N p) := by
  unfold trT
  conv => lhs; unfold trF
  rw [if_neg (by omega), if_pos hk, Nat.add_sub_cancel, h1, Int.toNat_natCast, Nat.add_sub_cancel, trF_same ht p q q (by omega) (by omega) (by omega)]
theorem trT_or {N : Nat → Nd} {n p q : Nat} (ht : tree N n) (hi : p + 1 < n) (hk : (N (p + 1)).k = 6) (h1 : fst N p = (q + 1 : Nat)) (h2 : q + 1 ≤ p) : trT N (p + 1) = .or (trT N q) (trT N p) := by
  unfold trT
  conv => lhs; unfold trF
  rw [if_neg (by omega), if_neg (by omega), if_pos hk, Nat.add_sub_cancel, h1, Int.toNat_natCast, Nat.add_sub_cancel, trF_same ht p q q (by omega) (by omega) (by omega)]
theorem nd_zero {x : Nd} (h : okN x = true) {k : Int} (hk : x.k = k) (h1 : k ≠ 1) (h7 : k ≠ 7) : x = nd0 k := by
  obtain ⟨a1, a2, a3, a4⟩ := okN_zero h (by omega)
  obtain ⟨b1, b2⟩ := okN_lohi h (by omega)
  obtain ⟨k, a, b, c, d, lo, hi⟩ := x
  simp only at hk a1 a2 a3 a4 b1 b2
  subst hk a1 a2 a3 a4 b1 b2
  rfl
/-- The tree at a node: its nodes are those of the part, its leaves are such as may be, it is as deep. -/
theorem trT_is {N : Nat → Nd} {n : Nat} (ht : tree N n) : ∀ m i, i ≤ m → i < n → ∀ f : Nat, fst N i = f → post (trT N i) = seg N f (i + 1 - f) ∧ okT (trT N i) ∧ ((dp (trT N i) : Nat) : Int) = dpt N i := by
  intro m
  induction m with
  | zero =>
    intro i h0 hi f hf
    obtain ⟨f', hf', hc⟩ := nd_is ht hi
    obtain rfl : f' = f := by omega
    have hok := ((tree_iff.1 ht).2.2.1 i hi).2
    cases hc with
    | leaf _ hk hd =>
      rw [trT_leaf hk]
      refine ⟨by rw [show i + 1 - i = 1 by omega, seg_one]; rfl, ?_, by rw [hd]; rfl⟩
      rcases hk with hk | hk | hk | hk
      · exact .inl ⟨hk, okN_lohi hok (by omega)⟩
      · exact .inr (.inl (nd_zero hok hk (by decide) (by decide)))
      · exact .inr (.inr (.inl (nd_zero hok hk (by decide) (by decide))))
      · exact .inr (.inr (.inr (nd_zero hok hk (by decide) (by decide))))
    | one => omega
    | two => omega
  | succ m ih =>
    intro i h0 hi f hf
    obtain ⟨f', hf', hc⟩ := nd_is ht hi
    obtain rfl : f' = f := by omega
    have hok := ((tree_iff.1 ht).2.2.1 i hi).2
    cases hc with
    | leaf _ hk hd =>
      rw [trT_leaf hk]
      refine ⟨by rw [show i + 1 - i = 1 by omega, seg_one]; rfl, ?_, by rw [hd]; rfl⟩
      rcases hk with hk | hk | hk | hk
      · exact .inl ⟨hk, okN_lohi hok (by omega)⟩
      · exact .inr (.inl (nd_zero hok hk (by decide) (by decide)))
      · exact .inr (.inr (.inl (nd_zero hok hk (by decide) (by decide))))
      · exact .inr (.inr (.inr (nd_zero hok hk (by decide) (by decide))))
    | @one p _ _ hk h1 h2 hd =>
      obtain ⟨a1, a2, a3⟩ := ih p (by omega) (by omega) f' h1
      rw [trT_one hk]
      refine ⟨?_, ⟨a2, okN_rep hok hk⟩, by rw [hd, ← a3]; rfl⟩
      show post (trT N p) ++ [ndR (N (p + 1)).lo (N (p + 1)).hi] = _
      rw [a1, show p + 1 + 1 - f' = (p + 1 - f') + 1 by omega, seg_app, show f' + (p + 1 - f') = p + 1 by omega, seg_one]
      obtain ⟨z1, z2, z3, z4⟩ := okN_zero hok (by omega)
      have e : N (p + 1) = ndR (N (p + 1)).lo (N (p + 1)).hi := by
        generalize N (p + 1) = x at *
        obtain ⟨k, a, b, c, d, lo, hi⟩ := x
        simp only at hk z1 z2 z3 z4
        subst hk z1 z2 z3 z4
        rfl
      rw [← e]
    | @two p q _ _ hk h1 h2 h3 h4 hd =>
      obtain ⟨a1, a2, a3⟩ := ih q (by omega) (by omega) f' h3
      obtain ⟨b1, b2, b3⟩ := ih p (by omega) (by omega) (q + 1) h1
      have e : seg N f' (p + 1 + 1 - f') = seg N f' (q + 1 - f') ++ seg N (q + 1) (p + 1 - (q + 1)) ++ [N (p + 1)] := by
        rw [show p + 1 + 1 - f' = (q + 1 - f') + (p + 1 - (q + 1)) + 1 by omega, seg_app, seg_app, show f' + (q + 1 - f') = q + 1 by omega, show f' + (q + 1 - f' + (p + 1 - (q + 1))) = p + 1 by omega, seg_one]
      rcases hk with hk | hk
      · rw [trT_cat ht hi hk h1 h2]
        refine ⟨?_, ⟨a2, b2⟩, by rw [hd, ← a3, ← b3]; show ((max (dp (trT N q)) (dp (trT N p)) + 1 : Nat) : Int) = _; omega⟩
        show post (trT N q) ++ post (trT N p) ++ [nd0 5] = _
        rw [a1, b1, e, nd_zero hok hk (by decide) (by decide)]
      · rw [trT_or ht hi hk h1 h2]
        refine ⟨?_, ⟨a2, b2⟩, by rw [hd, ← a3, ← b3]; show ((max (dp (trT N q)) (dp (trT N p)) + 1 : Nat) : Int) = _; omega⟩
        show post (trT N q) ++ post (trT N p) ++ [nd0 6] = _
        rw [a1, b1, e, nd_zero hok hk (by decide) (by decide)]
/-- The whole tree. -/
theorem trT_root {N : Nat → Nd} {n : Nat} (ht : tree N n) : post (trT N (n - 1)) = seg N 0 n ∧ okT (trT N (n - 1)) ∧ ((dp (trT N (n - 1)) : Nat) : Int) = dpt N (n - 1) := by
  have h := tree_iff.1 ht
  obtain ⟨a1, a2, a3⟩ := trT_is ht (n - 1) (n - 1) (Nat.le_refl _) (by omega) 0 h.2.2.2
  exact ⟨by rw [a1]; congr 1; omega, a2, a3⟩
end Go.Proofs.Ytefpoapbodbenaa

namespace Go.Proofs.Ytefpoapbodbenaa
open Go.RowKit

/-- A slice of bytes that reads as a list of numbers. -/
def rd8 (w : World) (v : Value) (l : List Nat) : Prop :=
  (v = .slice none 0 0 ∧ l = []) ∨ ∃ b off cap, v = .slice (some ⟨b, off, none⟩) l.length cap ∧ b < w.heap.size ∧ ∀ j (h : j < l.length), w.cell? ⟨b, off + j, none⟩ = some (.int .u8 (l[j] : Nat))

/-- Is a number in a list? -/
def inl (l : List Nat) (x : Nat) : Bool := decide (x ∈ l)
theorem inl_take (l : List Nat) (k : Nat) (h : k < l.length) (x : Nat) : inl (l.take (k + 1)) x = (inl (l.take k) x || decide (x = l[k])) := by
  unfold inl
  rw [List.take_succ_eq_append_getElem h, Bool.eq_iff_iff]
  simp only [decide_eq_true_eq, List.mem_append, List.mem_singleton, Bool.or_eq_true]

theorem of_word_hit (l : List Nat) (k i : Nat) (h : k < l.length) (hi : l[k] / 64 = i) :
    bits .or .u64 (wd (inl (l.take k)) i : Int) (IntKind.u64.wrap (2 ^ (l[k] % 64))) = (wd (inl (l.take (k + 1))) i : Nat) := by
  rw [word_put _ _ _ (Nat.mod_lt _ (by decide)), show 64 * i + l[k] % 64 = l[k] from by omega]
  congr 2
  funext x
  rw [inl_take l k h x]
theorem of_word_miss (l : List Nat) (k i : Nat) (h : k < l.length) (hi : l[k] / 64 ≠ i) : wd (inl (l.take k)) i = wd (inl (l.take (k + 1))) i := by
  have : inl (l.take (k + 1)) = fun x => inl (l.take k) x || decide (x = l[k]) := funext fun x => inl_take l k h x
  rw [this, word_put_other _ _ _ hi]

/-- The numbers below n that are in a set, rising. -/
def bl (f : Nat → Bool) (n : Nat) : List Nat := (List.range n).filter f
theorem bl_hit (f : Nat → Bool) (n : Nat) (h : f n = true) : bl f (n + 1) = bl f n ++ [n] := by
  unfold bl; rw [List.range_succ, List.filter_append]; simp [h]
theorem bl_miss (f : Nat → Bool) (n : Nat) (h : f n = false) : bl f (n + 1) = bl f n := by
  unfold bl; rw [List.range_succ, List.filter_append]; simp [h]
theorem bl_le (f : Nat → Bool) (n : Nat) : (bl f n).length ≤ n := by
  have := List.length_filter_le f (List.range n)
  rw [List.length_range] at this
  exact this
/-- Values of numbers. -/
def u8s (l : List Nat) : List Value := l.map fun (x : Nat) => .int .u8 (x : Int)

theorem rd8_of_owns {w : World} {base : Nat} {e : TypeId} {v : Value} {l : List Nat} (h : w.ownsRow base e 1 v l.length (u8s l)) : rd8 w v l := by
  have hlt := h.lt
  rcases h.2 with ⟨rfl, h0⟩ | ⟨g, cap, cur, rfl, _, _, _, _, _, _⟩
  · exact .inl ⟨rfl, List.length_eq_zero_iff.1 h0⟩
  · refine .inr ⟨g, 0, cap, rfl, (hlt g rfl).2, fun j hj => ?_⟩
    have := h.cells (g := g) rfl j (.int .u8 (l[j] : Nat)) (by simp [u8s, List.getElem?_map, List.getElem?_eq_getElem hj])
    rw [Nat.zero_add]
    by_cases h0 : j = 0
    · subst h0; simpa [Addr.add] using this
    · simpa [Addr.add, h0] using this
theorem rd8_below {w w' : World} {v : Value} {l : List Nat} (h : rd8 w v l) (hb : Below w.heap.size w w') : rd8 w' v l := by
  rcases h with h | ⟨b, off, cap, rfl, hl, hc⟩
  · exact .inl h
  · refine .inr ⟨b, off, cap, rfl, Nat.lt_of_lt_of_le hl hb.size, fun j hj => ?_⟩
    rw [hb.cell (p := ⟨b, off + j, none⟩) hl]; exact hc j hj
theorem bl_bytes (f : Nat → Bool) (n : Nat) : ∀ x, x ∈ bl f n → x < n := by
  intro x hx
  unfold bl at hx
  rw [List.mem_filter, List.mem_range] at hx
  exact hx.1
end Go.Proofs.Ytefpoapbodbenaa

namespace Go.Proofs.Ytefpoapbodbenaa

/-- One byte more, behind the runs of those ahead of it. -/
def stepRun (acc : List (Nat × Nat)) (b : Nat) : List (Nat × Nat) :=
  match acc.getLast? with
  | some (lo, hi) => if (hi + 1) % 256 = b then acc.dropLast ++ [(lo, b)] else acc ++ [(b, b)]
  | none => [(b, b)]
/-- The runs of rising bytes. -/
def runsOf (l : List Nat) : List (Nat × Nat) := l.foldl stepRun []
theorem runsOf_take (l : List Nat) (k : Nat) (h : k < l.length) : runsOf (l.take (k + 1)) = stepRun (runsOf (l.take k)) l[k] := by
  unfold runsOf
  rw [List.take_succ_eq_append_getElem h, List.foldl_append]
  rfl
theorem step_nil (b : Nat) : stepRun [] b = [(b, b)] := rfl
theorem step_hit (init : List (Nat × Nat)) (lo hi b : Nat) (h : (hi + 1) % 256 = b) : stepRun (init ++ [(lo, hi)]) b = init ++ [(lo, b)] := by
  unfold stepRun; simp [h]
theorem step_new (init : List (Nat × Nat)) (lo hi b : Nat) (h : (hi + 1) % 256 ≠ b) : stepRun (init ++ [(lo, hi)]) b = init ++ [(lo, hi)] ++ [(b, b)] := by
  unfold stepRun; simp [h]
theorem step_length (acc : List (Nat × Nat)) (b : Nat) : (stepRun acc b).length ≤ acc.length + 1 := by
  rcases List.eq_nil_or_concat acc with rfl | ⟨init, ⟨lo, hi⟩, rfl⟩
  · simp [step_nil]
  · rw [List.concat_eq_append]
    by_cases h : (hi + 1) % 256 = b
    · rw [step_hit init lo hi b h]; simp
    · rw [step_new init lo hi b h]; simp
theorem runsOf_length (l : List Nat) (k : Nat) (hk : k ≤ l.length) : (runsOf (l.take k)).length ≤ k := by
  induction k with
  | zero => simp [runsOf]
  | succ k ih =>
    rw [runsOf_take l k (by omega)]
    have := step_length (runsOf (l.take k)) l[k]
    have := ih (by omega)
    omega
theorem step_bytes (acc : List (Nat × Nat)) (b : Nat) (hb : b < 256) (h : ∀ r, r ∈ acc → r.1 < 256 ∧ r.2 < 256) : ∀ r, r ∈ stepRun acc b → r.1 < 256 ∧ r.2 < 256 := by
  rcases List.eq_nil_or_concat acc with rfl | ⟨init, ⟨lo, hi⟩, rfl⟩
  · intro r hr; rw [step_nil] at hr; simp at hr; subst hr; exact ⟨hb, hb⟩
  · rw [List.concat_eq_append] at *
    have hl := h (lo, hi) (by simp)
    intro r hr
    by_cases he : (hi + 1) % 256 = b
    · rw [step_hit init lo hi b he] at hr
      rcases List.mem_append.1 hr with hr | hr
      · exact h r (by simp [hr])
      · simp at hr; subst hr; exact ⟨hl.1, hb⟩
    · rw [step_new init lo hi b he] at hr
      rcases List.mem_append.1 hr with hr | hr
      · exact h r hr
      · simp at hr; subst hr; exact ⟨hb, hb⟩
theorem runsOf_bytes (l : List Nat) (hl : ∀ x, x ∈ l → x < 256) (k : Nat) (hk : k ≤ l.length) : ∀ r, r ∈ runsOf (l.take k) → r.1 < 256 ∧ r.2 < 256 := by
  induction k with
  | zero => intro r hr; simp [runsOf] at hr
  | succ k ih =>
    rw [runsOf_take l k (by omega)]
    exact step_bytes _ _ (hl _ (List.getElem_mem _)) (ih (by omega))
/-- A run starts here. -/
def st (f : Nat → Bool) (k : Nat) : Bool := f k && (decide (k = 0) || !f (k - 1))
/-- The places below n where a run starts, rising. -/
def starts (f : Nat → Bool) (n : Nat) : List Nat := (List.range n).filter (st f)
theorem starts_hit (f : Nat → Bool) (n : Nat) (h : st f n = true) : starts f (n + 1) = starts f n ++ [n] := by
  unfold starts; rw [List.range_succ, List.filter_append]; simp [h]
theorem starts_miss (f : Nat → Bool) (n : Nat) (h : st f n = false) : starts f (n + 1) = starts f n := by
  unfold starts; rw [List.range_succ, List.filter_append]; simp [h]
theorem starts_mem (f : Nat → Bool) (n x : Nat) (h : x ∈ starts f n) : x < n ∧ st f x = true := by
  unfold starts at h; rw [List.mem_filter, List.mem_range] at h; exact h
/-- How far the run that starts at lo goes, below k. -/
def upTo (f : Nat → Bool) (lo : Nat) : Nat → Nat
  | 0 => lo
  | k + 1 => if k ≤ lo then lo else if upTo f lo k + 1 = k ∧ f k = true then k else upTo f lo k
theorem upTo_props (f : Nat → Bool) (lo : Nat) (k : Nat) (hk : lo < k) :
    lo ≤ upTo f lo k ∧ upTo f lo k < k ∧ (∀ x, lo < x → x ≤ upTo f lo k → f x = true) ∧ (upTo f lo k + 1 < k → f (upTo f lo k + 1) = false) := by
  induction k with
  | zero => omega
  | succ k ih =>
    by_cases h0 : k ≤ lo
    · have hkl : k = lo := by omega
      have e : upTo f lo (k + 1) = lo := by simp [upTo, h0]
      rw [e]
      exact ⟨Nat.le_refl _, by omega, fun x h1 h2 => by omega, fun h => by omega⟩
    · obtain ⟨i1, i2, i3, i4⟩ := ih (by omega)
      by_cases h1 : upTo f lo k + 1 = k ∧ f k = true
      · have e : upTo f lo (k + 1) = k := by simp [upTo, h0, h1]
        rw [e]
        refine ⟨by omega, by omega, fun x a b => ?_, fun h => by omega⟩
        by_cases hx : x = k
        · rw [hx]; exact h1.2
        · exact i3 x a (by omega)
      · have e : upTo f lo (k + 1) = upTo f lo k := by simp only [upTo]; rw [if_neg h0, if_neg h1]
        rw [e]
        refine ⟨i1, by omega, i3, fun h => ?_⟩
        by_cases h2 : upTo f lo k + 1 < k
        · exact i4 h2
        · have h3 : upTo f lo k + 1 = k := by omega
          rw [h3]
          cases hf : f k
          · rfl
          · exact absurd ⟨h3, hf⟩ h1
theorem upTo_same (f : Nat → Bool) (lo k : Nat) (hk : lo < k) (h : upTo f lo k + 1 ≠ k ∨ f k = false) : upTo f lo (k + 1) = upTo f lo k := by
  simp only [upTo]
  rw [if_neg (by omega), if_neg]
  rintro ⟨a, b⟩
  rcases h with h | h
  · exact h a
  · rw [h] at b; cases b
theorem upTo_more (f : Nat → Bool) (lo k : Nat) (hk : lo < k) (h : upTo f lo k + 1 = k) (hf : f k = true) : upTo f lo (k + 1) = k := by
  simp only [upTo]
  rw [if_neg (by omega), if_pos ⟨h, hf⟩]
theorem upTo_own (f : Nat → Bool) (k : Nat) : upTo f k (k + 1) = k := by simp [upTo]
/-- There is but one end. -/
theorem upTo_only (f : Nat → Bool) (lo k h : Nat) (hk : lo < k) (h1 : lo ≤ h) (h2 : h < k) (h3 : ∀ x, lo < x → x ≤ h → f x = true) (h4 : h + 1 < k → f (h + 1) = false) : h = upTo f lo k := by
  obtain ⟨i1, i2, i3, i4⟩ := upTo_props f lo k hk
  rcases Nat.lt_trichotomy h (upTo f lo k) with h5 | h5 | h5
  · have := h4 (by omega)
    rw [i3 (h + 1) (by omega) (by omega)] at this
    cases this
  · exact h5
  · have := i4 (by omega)
    rw [h3 (upTo f lo k + 1) (by omega) (by omega)] at this
    cases this
/-- The runs that start below n, as far as they go below m. -/
def segs (f : Nat → Bool) (n m : Nat) : List (Nat × Nat) := (starts f n).map fun lo => (lo, upTo f lo m)
/-- What the last run is, ahead of k. -/
theorem segs_state (f : Nat → Bool) (k : Nat) :
    (0 < k ∧ f (k - 1) = true ∧ ∃ init lo, starts f k = init ++ [lo] ∧ upTo f lo k + 1 = k ∧ ∀ x, x ∈ init → upTo f x k + 1 < k) ∨
    ((k = 0 ∨ f (k - 1) = false) ∧ ∀ x, x ∈ starts f k → upTo f x k + 1 < k) := by
  induction k with
  | zero => exact .inr ⟨.inl rfl, fun x hx => by simp [starts] at hx⟩
  | succ k ih =>
    have low : ∀ x, x ∈ starts f k → upTo f x k < k := fun x hx => (upTo_props f x k (starts_mem f k x hx).1).2.1
    cases hf : f k
    · refine .inr ⟨.inr (by simpa using hf), fun x hx => ?_⟩
      have hs : st f k = false := by simp [st, hf]
      rw [starts_miss f k hs] at hx
      rw [upTo_same f x k (starts_mem f k x hx).1 (.inr hf)]
      have := low x hx
      omega
    · refine .inl ⟨by omega, by simpa using hf, ?_⟩
      rcases ih with ⟨hk0, hp, init, lo, hst, hlo, hin⟩ | ⟨hp, hin⟩
      · have hs : st f k = false := by
          have : ¬ k = 0 := by omega
          simp [st, hf, hp, this]
        rw [starts_miss f k hs]
        have hmem : ∀ x, x ∈ init → x ∈ starts f k := fun x hx => by rw [hst]; simp [hx]
        have hlm : lo ∈ starts f k := by rw [hst]; simp
        refine ⟨init, lo, hst, by rw [upTo_more f lo k (starts_mem f k lo hlm).1 hlo hf], fun x hx => ?_⟩
        have := hin x hx
        rw [upTo_same f x k (starts_mem f k x (hmem x hx)).1 (.inl (by omega))]
        omega
      · have hs : st f k = true := by
          rcases hp with hp | hp
          · subst hp; simp [st, hf]
          · simp [st, hf, hp]
        rw [starts_hit f k hs]
        refine ⟨starts f k, k, rfl, by rw [upTo_own], fun x hx => ?_⟩
        have := hin x hx
        rw [upTo_same f x k (starts_mem f k x hx).1 (.inl (by omega))]
        omega
theorem runsOf_snoc (l : List Nat) (b : Nat) : runsOf (l ++ [b]) = stepRun (runsOf l) b := by
  unfold runsOf; rw [List.foldl_append]; rfl
/-- The runs of the bytes below k are the runs that start below k, as far as they go below k. -/
theorem runs_segs (f : Nat → Bool) (k : Nat) (hk : k ≤ 256) : runsOf (bl f k) = segs f k k := by
  induction k with
  | zero => rfl
  | succ k ih =>
    have ih := ih (by omega)
    have low : ∀ x, x ∈ starts f k → x < k := fun x hx => (starts_mem f k x hx).1
    have same : ∀ l : List Nat, (∀ x, x ∈ l → upTo f x (k + 1) = upTo f x k) → (l.map fun lo => (lo, upTo f lo (k + 1))) = l.map fun lo => (lo, upTo f lo k) := fun l hl => List.map_congr_left fun x hx => by rw [hl x hx]
    cases hf : f k
    · have hs : st f k = false := by simp [st, hf]
      rw [bl_miss f k hf, ih]
      unfold segs
      rw [starts_miss f k hs, same _ fun x hx => upTo_same f x k (low x hx) (.inr hf)]
    · rw [bl_hit f k hf, runsOf_snoc, ih]
      unfold segs
      rcases segs_state f k with ⟨hk0, hp, init, lo, hst, hlo, hin⟩ | ⟨hp, hin⟩
      · have hs : st f k = false := by
          have : ¬ k = 0 := by omega
          simp [st, hf, hp, this]
        rw [starts_miss f k hs, hst, List.map_append, List.map_append]
        have hmem : ∀ x, x ∈ init → x ∈ starts f k := fun x hx => by rw [hst]; simp [hx]
        have hlm : lo ∈ starts f k := by rw [hst]; simp
        rw [same init fun x hx => upTo_same f x k (low x (hmem x hx)) (.inl (by have := hin x hx; omega))]
        simp only [List.map_cons, List.map_nil]
        rw [step_hit _ lo (upTo f lo k) k (by omega), upTo_more f lo k (low lo hlm) hlo hf]
      · have hs : st f k = true := by
          rcases hp with hp | hp
          · subst hp; simp [st, hf]
          · simp [st, hf, hp]
        rw [starts_hit f k hs, List.map_append, same _ fun x hx => upTo_same f x k (low x hx) (.inl (by have := hin x hx; omega))]
        simp only [List.map_cons, List.map_nil]
        rw [upTo_own]
        rcases List.eq_nil_or_concat (starts f k) with h0 | ⟨init, lo, h0⟩
        · rw [h0]; rfl
        · rw [List.concat_eq_append] at h0
          have hlm : lo ∈ starts f k := by rw [h0]; simp
          have := hin lo hlm
          rw [h0, List.map_append]
          simp only [List.map_cons, List.map_nil]
          rw [step_new _ lo (upTo f lo k) k (by omega)]
/-- What is in any of some runs. -/
def inU (l : List (Nat × Nat)) (x : Nat) : Bool := l.any fun r => decide (r.1 ≤ x) && decide (x ≤ r.2)
theorem inU_take (l : List (Nat × Nat)) (k : Nat) (h : k < l.length) : (fun x => inU (l.take k) x || (decide (l[k].1 ≤ x) && decide (x ≤ l[k].2))) = inU (l.take (k + 1)) := by
  funext x
  unfold inU
  rw [List.take_succ_eq_append_getElem h, List.any_append]
  simp
theorem inU_none (l : List (Nat × Nat)) : inU (l.take 0) = fun _ => false := rfl
theorem inU_nil : inU [] = fun _ => false := rfl
theorem starts_nodup (f : Nat → Bool) (n : Nat) : (starts f n).Nodup := List.Nodup.sublist List.filter_sublist List.nodup_range
/-- A start of a union of runs is where one of them begins. -/
theorem start_in (l : List (Nat × Nat)) (x : Nat) (h : st (inU l) x = true) : x ∈ l.map (·.1) := by
  unfold st at h
  simp only [Bool.and_eq_true, Bool.or_eq_true, decide_eq_true_eq, Bool.not_eq_true'] at h
  obtain ⟨h1, h2⟩ := h
  unfold inU at h1
  rw [List.any_eq_true] at h1
  obtain ⟨r, hr, hx⟩ := h1
  simp only [Bool.and_eq_true, decide_eq_true_eq] at hx
  refine List.mem_map.2 ⟨r, hr, ?_⟩
  rcases Nat.lt_or_ge r.1 x with h3 | h3
  · exfalso
    rcases h2 with h2 | h2
    · omega
    · unfold inU at h2
      rw [List.any_eq_false] at h2
      have := h2 r hr
      simp only [Bool.and_eq_true, decide_eq_true_eq] at this
      omega
  · omega
theorem nodup_subset_length {a b : List Nat} (hn : a.Nodup) (hs : ∀ x, x ∈ a → x ∈ b) : a.length ≤ b.length := by
  induction a generalizing b with
  | nil => simp
  | cons x a ih =>
    have hx : x ∈ b := hs x (by simp)
    have hn' := List.nodup_cons.1 hn
    have : a.length ≤ (b.erase x).length := ih hn'.2 fun y hy => by
      have hne : y ≠ x := fun e => hn'.1 (e ▸ hy)
      exact (List.mem_erase_of_ne hne).2 (hs y (by simp [hy]))
    rw [List.length_erase_of_mem hx] at this
    have hpos : 0 < b.length := List.length_pos_of_mem hx
    simp only [List.length_cons]
    omega
theorem segs_few (l : List (Nat × Nat)) (n m : Nat) : (segs (inU l) n m).length ≤ l.length := by
  have := nodup_subset_length (starts_nodup (inU l) n) fun x hx => start_in l x (starts_mem _ _ _ hx).2
  unfold segs
  rw [List.length_map]
  rw [List.length_map] at this
  exact this
/-- Each run is whole, and lies within the bytes. -/
theorem segs_whole (f : Nat → Bool) (r : Nat × Nat) (h : r ∈ segs f 256 256) : r.1 ≤ r.2 ∧ r.2 < 256 ∧ r.1 < 256 := by
  unfold segs at h
  obtain ⟨lo, hlo, rfl⟩ := List.mem_map.1 h
  have hs := starts_mem f 256 lo hlo
  have := upTo_props f lo 256 hs.1
  exact ⟨this.1, this.2.1, hs.1⟩
/-- The starts rise. -/
theorem starts_rise (f : Nat → Bool) (n : Nat) : (starts f n).Pairwise (· < ·) := List.Pairwise.sublist List.filter_sublist List.pairwise_lt_range
/-- Between two runs there is a gap. -/
theorem segs_gap (f : Nat → Bool) (i : Nat) (h0 : 0 < i) (h : i < (segs f 256 256).length) : (segs f 256 256)[i - 1].2 + 2 ≤ (segs f 256 256)[i].1 := by
  have hl : (segs f 256 256).length = (starts f 256).length := by simp [segs]
  have e1 : (segs f 256 256)[i].1 = (starts f 256)[i]'(by omega) := by simp [segs]
  have e2 : (segs f 256 256)[i - 1].2 = upTo f ((starts f 256)[i - 1]'(by omega)) 256 := by simp [segs]
  rw [e1, e2]
  have hr := List.pairwise_iff_getElem.1 (starts_rise f 256) (i - 1) i (by omega) (by omega) (by omega)
  have m1 := starts_mem f 256 _ (List.getElem_mem (show i - 1 < (starts f 256).length by omega))
  have m2 := starts_mem f 256 _ (List.getElem_mem (show i < (starts f 256).length by omega))
  generalize (starts f 256)[i - 1]'(by omega) = a at *
  generalize (starts f 256)[i]'(by omega) = b at *
  obtain ⟨p1, p2, p3, p4⟩ := upTo_props f a 256 m1.1
  have hb := m2.2
  unfold st at hb
  simp only [Bool.and_eq_true, Bool.or_eq_true, decide_eq_true_eq, Bool.not_eq_true'] at hb
  rcases hb.2 with h3 | h3
  · omega
  · rcases Nat.lt_or_ge (upTo f a 256) (b - 1) with h4 | h4
    · omega
    · exfalso
      rcases Nat.lt_or_ge a (b - 1) with h5 | h5
      · rw [p3 (b - 1) h5 h4] at h3; cases h3
      · have hab : a = b - 1 := by omega
        have ha := m1.2
        unfold st at ha
        simp only [Bool.and_eq_true] at ha
        rw [← hab, ha.1] at h3
        cases h3
/-- Each byte of a set lies in the run that starts at some place at or ahead of it. -/
theorem byte_start (f : Nat → Bool) (x : Nat) (h : f x = true) : ∃ a, a ≤ x ∧ st f a = true ∧ ∀ y, a < y → y ≤ x → f y = true := by
  induction x with
  | zero => exact ⟨0, Nat.le_refl _, by simp [st, h], fun y h1 h2 => by omega⟩
  | succ x ih =>
    cases hx : f x
    · exact ⟨x + 1, Nat.le_refl _, by simp [st, h, hx], fun y h1 h2 => by omega⟩
    · obtain ⟨a, h1, h2, h3⟩ := ih hx
      refine ⟨a, by omega, h2, fun y h4 h5 => ?_⟩
      by_cases hy : y = x + 1
      · rw [hy]; exact h
      · exact h3 y h4 (by omega)
theorem segs_union (f : Nat → Bool) (x : Nat) (hx : x < 256) : inU (segs f 256 256) x = f x := by
  rw [Bool.eq_iff_iff]
  unfold inU
  rw [List.any_eq_true]
  constructor
  · rintro ⟨r, hr, h⟩
    simp only [Bool.and_eq_true, decide_eq_true_eq] at h
    unfold segs at hr
    obtain ⟨lo, hlo, rfl⟩ := List.mem_map.1 hr
    have hs := starts_mem f 256 lo hlo
    have hp := upTo_props f lo 256 hs.1
    by_cases he : x = lo
    · have := hs.2
      unfold st at this
      simp only [Bool.and_eq_true] at this
      rw [he]; exact this.1
    · exact hp.2.2.1 x (by have := h.1; show lo < x; omega) h.2
  · intro h
    obtain ⟨a, h1, h2, h3⟩ := byte_start f x h
    have ha : a ∈ starts f 256 := by
      unfold starts
      rw [List.mem_filter, List.mem_range]
      exact ⟨by omega, h2⟩
    refine ⟨(a, upTo f a 256), List.mem_map.2 ⟨a, ha, rfl⟩, ?_⟩
    simp only [Bool.and_eq_true, decide_eq_true_eq]
    refine ⟨h1, ?_⟩
    obtain ⟨p1, p2, p3, p4⟩ := upTo_props f a 256 (by omega)
    rcases Nat.lt_or_ge (upTo f a 256) x with h4 | h4
    · exfalso
      have := p4 (by omega)
      rw [h3 _ (by omega) (by omega)] at this
      cases this
    · exact h4
end Go.Proofs.Ytefpoapbodbenaa

namespace Go.Proofs.Ytefpoapbodbenaa

def plainB (b : Nat) : Bool := (decide (48 ≤ b) && decide (b ≤ 57)) || (decide (65 ≤ b) && decide (b ≤ 90)) || (decide (97 ≤ b) && decide (b ≤ 122))
def hxd (d : Nat) : Nat := if d < 10 then 48 + d else 87 + d
/-- An end of a run. -/
def endL (b : Nat) : List Nat := if plainB b = true then [b] else [92, 120, hxd (b / 16), hxd (b % 16)]
/-- A run of a set, as a bracket has it. -/
def runL (r : Nat × Nat) : List Nat := endL r.1 ++ if r.2 = r.1 + 1 then endL r.2 else if r.1 + 1 < r.2 then 45 :: endL r.2 else []
theorem end_len (b : Nat) : 1 ≤ (endL b).length ∧ (endL b).length ≤ 4 := by unfold endL; split <;> simp
/-- A set as a pattern has it. -/
def setL (f : Nat → Bool) : List Nat :=
  if (bl f 256).length = 255 ∧ f 10 = false then [46]
  else if (bl f 256).length = 1 then (if 33 ≤ (bl f 256).headD 0 ∧ (bl f 256).headD 0 ≤ 126 ∧ plainB ((bl f 256).headD 0) = false then [92, (bl f 256).headD 0] else endL ((bl f 256).headD 0))
  else 91 :: ((segs f 256 256).flatMap runL ++ [93])
def bs (s : List Nat) : ByteArray := ⟨(s.map UInt8.ofNat).toArray⟩
theorem bs_size (s : List Nat) : (bs s).size = s.length := by unfold bs; simp [ByteArray.size]
def numL (n : Nat) : List Nat := if n < 10 then [48 + n] else [48 + n / 10, 48 + n % 10]
def oftL (lo hi : Int) : List Nat :=
  if hi = -1 ∧ lo = 0 then [42] else if hi = -1 ∧ lo = 1 then [43] else if lo = 0 ∧ hi = 1 then [63]
  else 123 :: (numL lo.toNat ++ (if hi = -1 then [44, 125] else if hi = lo then [125] else 44 :: (numL hi.toNat ++ [125])))
def fOf (x : Nd) : Nat → Bool := ofWords x.a.toNat x.b.toNat x.c.toNat x.d.toNat
/-- A node's words are such as words may be. -/
def okW (x : Nd) : Prop := (0 ≤ x.a ∧ x.a < 18446744073709551616) ∧ (0 ≤ x.b ∧ x.b < 18446744073709551616) ∧ (0 ≤ x.c ∧ x.c < 18446744073709551616) ∧ (0 ≤ x.d ∧ x.d < 18446744073709551616)
theorem fOf_wd {x : Nd} (h : okW x) : x.a = (wd (fOf x) 0 : Int) ∧ x.b = (wd (fOf x) 1 : Int) ∧ x.c = (wd (fOf x) 2 : Int) ∧ x.d = (wd (fOf x) 3 : Int) := by
  obtain ⟨⟨a1, a2⟩, ⟨b1, b2⟩, ⟨c1, c2⟩, ⟨d1, d2⟩⟩ := h
  obtain ⟨e1, e2, e3, e4⟩ := ofWords_wd (x0 := x.a.toNat) (x1 := x.b.toNat) (x2 := x.c.toNat) (x3 := x.d.toNat) (by omega) (by omega) (by omega) (by omega)
  unfold fOf
  omega
def par (b : Bool) (l : List Nat) : List Nat := if b = true then 40 :: (l ++ [41]) else l
theorem bs_append (a b : List Nat) : bs (a ++ b) = bs a ++ bs b := by
  unfold bs
  apply ByteArray.ext
  simp [ByteArray.data_append]
theorem bs_nil : bs [] = ByteArray.empty := rfl
/-- A text, with a group about it, if that is to be. -/
def parB (b : Bool) (s : ByteArray) : ByteArray := if b = true then ⟨#[40]⟩ ++ s ++ ⟨#[41]⟩ else s
theorem parB_bs (b : Bool) (l : List Nat) : parB b (bs l) = bs (par b l) := by
  unfold parB par
  cases b
  · rfl
  · rw [if_pos rfl, if_pos rfl, show 40 :: (l ++ [41]) = [40] ++ l ++ [41] from rfl, bs_append, bs_append]; rfl
theorem parB_len (b : Bool) (s : ByteArray) : (parB b s).size ≤ s.size + 2 := by
  unfold parB
  split
  · rw [ByteArray.size_append, ByteArray.size_append]; show 1 + s.size + 1 ≤ _; omega
  · omega
end Go.Proofs.Ytefpoapbodbenaa
