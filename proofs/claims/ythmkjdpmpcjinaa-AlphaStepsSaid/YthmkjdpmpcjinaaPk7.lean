/-
  The walk of the fifth reference's Of.
  What is wrong in the tokens that a tree is told as: nothing, or too many groups within one another. Plain facts.
-/
import Derived.Test.YthmkjdpmpcjinaaPk5
import Derived.Test.YthmkjdpmpcjinaaPk3
import Derived.StillTailTactics
import Derived.Test.YthmkjdpmpcjinaaPk6
import Derived.Test.YthmkjdpmpcjinaaPk4
namespace Go.Proofs.Ythmkjdpmpcjinaa
open Go.RowKit

/-- What Of tells: a tree, or a place and an error. -/
def ofF (T : Nat → Tn) (n : Nat) (end_ : Int) : Option (List Nd) × Int × Int :=
  if (wrF T n (n + 1) 0 0).2.1 ≠ 0 then (none, (T (wrF T n (n + 1) 0 0).1.toNat).p, (wrF T n (n + 1) 0 0).2.1)
  else if 0 < (wrF T n (n + 1) 0 0).2.2 then (none, end_, 3)
  else if 512 < (ei T n (n + 1) 0).1.length then (none, 0, 4)
  else (some (ei T n (n + 1) 0).1, 0, 0)
end Go.Proofs.Ythmkjdpmpcjinaa

namespace Go.Proofs.Ythmkjdpmpcjinaa

/-- How many groups stand within one another. -/
def gd : Tr → Nat
  | .leaf x => if x.k = 2 then 1 else 0
  | .cat a b => max (gd a + (isOr a).toNat) (gd b + (isOr b || isCat b).toNat)
  | .or a b => max (gd a) (gd b + (isOr b).toNat)
  | .rep a _ _ => gd a + (isOr a || isCat a).toNat
def dp : Tr → Nat
  | .leaf _ => 1
  | .cat a b => max (dp a) (dp b) + 1
  | .or a b => max (dp a) (dp b) + 1
  | .rep a _ _ => dp a + 1
theorem toNat_le (b : Bool) : b.toNat ≤ 1 := by cases b <;> decide
theorem gd_dp : ∀ t, gd t ≤ dp t
  | .leaf x => by unfold gd dp; split <;> omega
  | .cat a b => by
    have h1 := gd_dp a; have h2 := gd_dp b; have h3 := toNat_le (isOr a); have h4 := toNat_le (isOr b || isCat b)
    show max (gd a + (isOr a).toNat) (gd b + (isOr b || isCat b).toNat) ≤ max (dp a) (dp b) + 1
    omega
  | .or a b => by
    have h1 := gd_dp a; have h2 := gd_dp b; have h3 := toNat_le (isOr b)
    show max (gd a) (gd b + (isOr b).toNat) ≤ max (dp a) (dp b) + 1
    omega
  | .rep a _ _ => by
    have h1 := gd_dp a; have h3 := toNat_le (isOr a || isCat a)
    show gd a + (isOr a || isCat a).toNat ≤ dp a + 1
    omega

/-- What Wrong tells of some tokens within d groups of their own. -/
def wrG (l : List Tn) (d : Nat) : Prop := ∀ (T : Nat → Tn) (n u i o : Nat), n + 1 ≤ u + i → hasT T n i l → o ≤ 20 →
  (o + d ≤ 20 → wrF T n u i o = wrF T n (u - l.length) (i + l.length) o) ∧ (20 < o + d → ∃ j q, wrF T n u i o = (j, 4, q))
def fin (l : List Tn) : Prop := ∃ m c, l = m ++ [c] ∧ endsP c.k = true
theorem fin_app {l m : List Tn} (h : fin m) : fin (l ++ m) := by
  obtain ⟨s, c, rfl, hc⟩ := h
  exact ⟨l ++ s, c, by simp, hc⟩
theorem fin_grp {b : Bool} {l : List Tn} (h : fin l) : fin (grp b l) := by
  cases b
  · exact h
  · exact ⟨tn0 3 :: l, tn0 4, rfl, rfl⟩
theorem fin_eT : ∀ t, fin (eT t)
  | .leaf x => by
    unfold eT
    by_cases c1 : x.k = 1
    · rw [if_pos c1]; exact ⟨[], _, rfl, rfl⟩
    · rw [if_neg c1]
      by_cases c2 : x.k = 2
      · rw [if_pos c2]; exact ⟨[tn0 3], tn0 4, rfl, rfl⟩
      · rw [if_neg c2]
        by_cases c3 : x.k = 3
        · rw [if_pos c3]; exact ⟨[], _, rfl, rfl⟩
        · rw [if_neg c3]; exact ⟨[], _, rfl, rfl⟩
  | .cat _ b => fin_app (fin_grp (fin_eT b))
  | .or a b => by
    obtain ⟨m, c, h, hc⟩ := fin_grp (b := isOr b) (fin_eT b)
    exact ⟨eT a ++ tn0 2 :: m, c, by show eT a ++ tn0 2 :: grp (isOr b) (eT b) = _; rw [h]; simp, hc⟩
  | .rep _ _ _ => ⟨_, tnR _ _, rfl, rfl⟩
theorem wrG_app {l1 l2 : List Tn} {d1 d2 : Nat} (h1 : wrG l1 d1) (h2 : wrG l2 d2) : wrG (l1 ++ l2) (max d1 d2) := by
  intro T n u i o hu hh ho
  obtain ⟨a1, a2⟩ := h1 T n u i o hu hh.left ho
  have hle := hh.left.1
  obtain ⟨b1, b2⟩ := h2 T n (u - l1.length) (i + l1.length) o (by omega) hh.right ho
  refine ⟨fun h => ?_, fun h => ?_⟩
  · rw [a1 (by omega), b1 (by omega), List.length_append, Nat.sub_add_eq, Nat.add_assoc]
  · by_cases h3 : 20 < o + d1
    · exact a2 h3
    · rw [a1 (by omega)]; exact b2 (by omega)
theorem wrF_step {T : Nat → Tn} {n u i o : Nat} (hi : i < n) (h1 : 1 ≤ (T i).k) (h7 : (T i).k ≤ 7) (h5 : (T i).k = 5 → badRep (T i) = false ∧ 0 < i ∧ endsP (T (i - 1)).k = true) (h3 : (T i).k = 3 → o ≠ 20) (h4 : (T i).k = 4 → o ≠ 0) :
    wrF T n (u + 1) i o = wrF T n u (i + 1) (if (T i).k = 3 then o + 1 else if (T i).k = 4 then o - 1 else o) := by
  conv => lhs; unfold wrF
  rw [if_neg (by omega), if_neg (by omega), if_neg (fun h => by rw [(h5 h.1).1] at h; simp at h), if_neg (fun h => h.2 (h5 h.1).2), if_neg (fun h => h3 h.1 h.2), if_neg (fun h => h4 h.1 h.2)]
theorem wrG_one {c : Tn} (h : c.k = 1 ∨ c.k = 2 ∨ c.k = 6 ∨ c.k = 7) : wrG [c] 0 := by
  intro T n u i o hu hh ho
  obtain ⟨k1, k2, -⟩ := hh.head
  refine ⟨fun _ => ?_, fun h => absurd h (by omega)⟩
  obtain ⟨v, rfl⟩ : ∃ v, u = v + 1 := ⟨u - 1, by omega⟩
  rw [wrF_step k1 (by omega) (by omega) (fun h => by omega) (fun h => by omega) (fun h => by omega), if_neg (by omega), if_neg (by omega)]
  rfl
theorem wrG_grp {l : List Tn} {d : Nat} (h : wrG l d) : wrG (tn0 3 :: (l ++ [tn0 4])) (d + 1) := by
  intro T n u i o hu hh ho
  obtain ⟨k1, k2, -⟩ := hh.head
  have k3 : (T i).k = 3 := k2
  have hT := hh.tail
  have hC := hT.right.head
  have k4 : (T (i + 1 + l.length)).k = 4 := hC.2.1
  have hle := hC.1
  obtain ⟨v, rfl⟩ : ∃ v, u = v + 1 := ⟨u - 1, by omega⟩
  by_cases h20 : o = 20
  · refine ⟨fun h => by omega, fun _ => ⟨(i : Int), o, ?_⟩⟩
    unfold wrF
    rw [if_neg (by omega), if_neg (by omega), if_neg (fun h => by omega), if_neg (fun h => by omega), if_pos ⟨k3, h20⟩]
  · rw [wrF_step k1 (by omega) (by omega) (fun h => by omega) (fun _ => h20) (fun h => by omega), if_pos k3]
    obtain ⟨a1, a2⟩ := h T n v (i + 1) (o + 1) (by omega) hT.left (by omega)
    refine ⟨fun hd => ?_, fun hd => a2 (by omega)⟩
    rw [a1 (by omega)]
    obtain ⟨w, hw⟩ : ∃ w, v - l.length = w + 1 := ⟨v - l.length - 1, by omega⟩
    rw [hw, wrF_step hle (by omega) (by omega) (fun h => by omega) (fun h => by omega) (fun _ => by omega), if_neg (by omega), if_pos k4]
    have e1 : w = v + 1 - (tn0 3 :: (l ++ [tn0 4])).length := by simp; omega
    have e2 : i + 1 + l.length + 1 = i + (tn0 3 :: (l ++ [tn0 4])).length := by simp; omega
    rw [e1, e2]
    rfl
theorem wrG_rep {l : List Tn} {d : Nat} (h : wrG l d) (hf : fin l) {lo hi : Int} (h1 : 0 ≤ lo) (h2 : lo ≤ 32) (h3 : hi = -1 ∨ (lo ≤ hi ∧ hi ≤ 32)) : wrG (l ++ [tnR lo hi]) d := by
  intro T n u i o hu hh ho
  obtain ⟨a1, a2⟩ := h T n u i o hu hh.left ho
  refine ⟨fun hd => ?_, a2⟩
  obtain ⟨k1, k2, -, -, -, -, k6, k7⟩ := hh.right.head
  have k5 : (T (i + l.length)).k = 5 := k2
  have k6' : (T (i + l.length)).lo = lo := k6
  have k7' : (T (i + l.length)).hi = hi := k7
  obtain ⟨m, c, e, hc⟩ := hf
  have hp : 0 < i + l.length ∧ endsP (T (i + l.length - 1)).k = true := by
    subst e
    have hl := hh.left.right.head
    have : (T (i + m.length)).k = c.k := hl.2.1
    rw [show i + (m ++ [c]).length - 1 = i + m.length by simp, this]
    exact ⟨by simp; omega, hc⟩
  have hb : badRep (T (i + l.length)) = false := by
    unfold badRep
    rw [k6', k7']
    rcases h3 with rfl | ⟨q1, q2⟩
    · simp; omega
    · simp; omega
  obtain ⟨w, hw⟩ : ∃ w, u - l.length = w + 1 := ⟨u - l.length - 1, by omega⟩
  rw [a1 hd, hw, wrF_step k1 (by omega) (by omega) (fun _ => ⟨hb, hp⟩) (fun h => by omega) (fun h => by omega), if_neg (by omega), if_neg (by omega)]
  rw [show u - (l ++ [tnR lo hi]).length = w by simp; omega, show i + (l ++ [tnR lo hi]).length = i + l.length + 1 by simp; omega]
theorem wrG_grp_if {b : Bool} {l : List Tn} {d : Nat} (h : wrG l d) : wrG (grp b l) (d + b.toNat) := by
  cases b
  · exact h
  · exact wrG_grp h
theorem wrG_nil : wrG [] 0 := fun T n u i o _ _ ho => ⟨fun _ => rfl, fun h => absurd h (by omega)⟩
theorem wrG_eT : ∀ t, okT t → wrG (eT t) (gd t)
  | .leaf x, h => by
    unfold eT gd
    by_cases c1 : x.k = 1
    · rw [if_pos c1, if_neg (by omega)]; exact wrG_one (.inl rfl)
    · rw [if_neg c1]
      by_cases c2 : x.k = 2
      · rw [if_pos c2, if_pos c2]; exact wrG_grp (l := []) wrG_nil
      · rw [if_neg c2, if_neg c2]
        by_cases c3 : x.k = 3
        · rw [if_pos c3]; exact wrG_one (.inr (.inr (.inl rfl)))
        · rw [if_neg c3]; exact wrG_one (.inr (.inr (.inr rfl)))
  | .cat a b, h => wrG_app (wrG_grp_if (wrG_eT a h.1)) (wrG_grp_if (wrG_eT b h.2))
  | .or a b, h => by
    have h1 : wrG (tn0 2 :: grp (isOr b) (eT b)) (gd b + (isOr b).toNat) := by
      have := wrG_app (wrG_one (c := tn0 2) (.inr (.inl rfl))) (wrG_grp_if (b := isOr b) (wrG_eT b h.2))
      rwa [Nat.zero_max] at this
    exact wrG_app (wrG_eT a h.1) h1
  | .rep a lo hi, h => wrG_rep (wrG_grp_if (wrG_eT a h.1)) (fin_grp (fin_eT a)) h.2.1 h.2.2.1 h.2.2.2
/-- What Of tells of a tree's tokens: the tree; or that too many groups stand within one another. -/
theorem of_back {t : Tr} (h : okT t) {T : Nat → Tn} {n : Nat} (hh : hasT T n 0 (eT t)) (hn : (eT t).length = n) (hp : (post t).length ≤ 512) (end_ : Int) :
    (gd t ≤ 20 → ofF T n end_ = (some (post t), 0, 0)) ∧ (20 < gd t → ∃ x, ofF T n end_ = (none, x, 4)) := by
  obtain ⟨a1, a2⟩ := wrG_eT t h T n (n + 1) 0 0 (by omega) hh (by omega)
  refine ⟨fun hg => ?_, fun hg => ?_⟩
  · have e : wrF T n (n + 1) 0 0 = (-1, 0, 0) := by
      rw [a1 (by omega), hn, show n + 1 - n = 1 by omega]
      unfold wrF
      rw [if_pos (by omega)]
    unfold ofF
    rw [e, ei_back h hh hn]
    simp only
    rw [if_neg (by decide), if_neg (by decide), if_neg (by omega)]
  · obtain ⟨j, q, e⟩ := a2 (by omega)
    refine ⟨(T j.toNat).p, ?_⟩
    unfold ofF
    rw [e, if_pos (show (4 : Int) ≠ 0 by decide)]
end Go.Proofs.Ythmkjdpmpcjinaa
