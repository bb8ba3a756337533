/-
  The fifth reference's way down comes to the end: where Wrong tells nothing, and no group stays open, all tokens are taken.
  What runs to one part is a tree.
-/
import Derived.Test.YthmkjdpmpcjinaaPk2
namespace Go.Proofs.Ythmkjdpmpcjinaa

/-- How many groups are open ahead of a place. -/
def oc (T : Nat → Tn) : Nat → Int
  | 0 => 0
  | i + 1 => oc T i + if (T i).k = 3 then 1 else if (T i).k = 4 then -1 else 0
theorem repsL_oc (T : Nat → Tn) (n : Nat) : ∀ u i, oc T (repsL T n u i).2 = oc T i := by
  intro u
  induction u with
  | zero => intro i; rfl
  | succ u ih =>
    intro i
    unfold repsL
    split
    · rename_i h
      simp only
      rw [ih, show oc T (i + 1) = oc T i + if (T i).k = 3 then 1 else if (T i).k = 4 then -1 else 0 from rfl, if_neg (by omega), if_neg (by omega), Int.add_zero]
    · rfl
def eCnt (T : Nat → Tn) (n m : Nat) (e : Nat → List Nd × Nat) : Prop := ∀ a, m ≤ a → a ≤ n → startOk T n a → ((e a).2 ≤ n → oc T (e a).2 = oc T a) ∧ (n < (e a).2 → oc T a < oc T n)
theorem oc_flat {T : Nat → Tn} {i : Nat} (h3 : (T i).k ≠ 3) (h4 : (T i).k ≠ 4) : oc T (i + 1) = oc T i := by
  rw [show oc T (i + 1) = oc T i + if (T i).k = 3 then 1 else if (T i).k = 4 then -1 else 0 from rfl, if_neg h3, if_neg h4, Int.add_zero]
theorem partF_cnt {T : Nat → Tn} {n m : Nat} {e : Nat → List Nd × Nat} (hw : wellT T n) (hk : eOk n m e) (he : eLeaf T n m e) (hc : eCnt T n m e) {a : Nat} (h1 : m ≤ a + 1) (h2 : a < n) (h3 : (T a).k ≠ 2) (h4 : (T a).k ≠ 4) (h5 : (T a).k ≠ 5) :
    ((partF T n e a).2 ≤ n → oc T (partF T n e a).2 = oc T a) ∧ (n < (partF T n e a).2 → oc T a < oc T n) := by
  have hbd := partB_bd (T := T) hk h1 h2
  have hr := repsL_bd T n (n + 1) (partB T e a).2
  have ho := repsL_oc T n (n + 1) (partB T e a).2
  have hp : (partF T n e a).2 = (repsL T n (n + 1) (partB T e a).2).2 := rfl
  have hv := hw.1 a h2
  rw [hp, ho]
  by_cases k3 : (T a).k = 3
  · have hB : (partB T e a).2 = (e (a + 1)).2 + 1 := by unfold partB; rw [if_neg (by omega), if_neg (by omega), if_neg (by omega)]
    have hs : startOk T n (a + 1) := hw.start (.inr (.inr (by simpa using k3)))
    obtain ⟨e1, -⟩ := he (a + 1) h1 (by omega) hs
    obtain ⟨c1, c2⟩ := hc (a + 1) h1 (by omega) hs
    have o1 : oc T (a + 1) = oc T a + 1 := by
      rw [show oc T (a + 1) = oc T a + if (T a).k = 3 then 1 else if (T a).k = 4 then -1 else 0 from rfl, if_pos k3]
    rw [hB] at hr ⊢
    rcases Nat.lt_or_ge (e (a + 1)).2 n with h | h
    · have e4 := e1 h
      refine ⟨fun _ => ?_, fun hh => by omega⟩
      rw [show oc T ((e (a + 1)).2 + 1) = oc T (e (a + 1)).2 + if (T (e (a + 1)).2).k = 3 then 1 else if (T (e (a + 1)).2).k = 4 then -1 else 0 from rfl, if_neg (by omega), if_pos e4, c1 (by omega), o1]
      omega
    · refine ⟨fun hh => ?_, fun _ => ?_⟩
      · have := hr.2.2.1 (by omega); omega
      · rcases Nat.lt_or_ge n (e (a + 1)).2 with h' | h'
        · have := c2 h'; omega
        · have := c1 h'
          rw [show (e (a + 1)).2 = n by omega] at this
          omega
  · have hB : (partB T e a).2 = a + 1 := by
      unfold partB
      by_cases c1 : (T a).k = 1
      · rw [if_pos c1]
      · rw [if_neg c1]
        by_cases c2 : (T a).k = 6
        · rw [if_pos c2]
        · rw [if_neg c2, if_pos (by omega)]
    rw [hB] at hr ⊢
    refine ⟨fun _ => oc_flat k3 h4, fun hh => ?_⟩
    have := hr.2.1 (by omega)
    omega
theorem behL_cnt {T : Nat → Tn} {n m : Nat} {e : Nat → List Nd × Nat} (hw : wellT T n) (hk : eOk n m e) (he : eLeaf T n m e) (hc : eCnt T n m e) (a : Nat) : ∀ u i acc many, m ≤ i + 1 → n + 1 ≤ u + i → 0 < u → startOk T n i →
    (i ≤ n → oc T i = oc T a) → (n < i → oc T a < oc T n) →
    ((behL T n e u i acc many).2 ≤ n → oc T (behL T n e u i acc many).2 = oc T a) ∧ (n < (behL T n e u i acc many).2 → oc T a < oc T n) := by
  intro u
  induction u with
  | zero => intro i acc many _ _ h; omega
  | succ u ih =>
    intro i acc many h1 h3 _ h4 h5 h6
    unfold behL
    split
    · rename_i hcc
      have hp := partF_bd (T := T) hk (a := i) h1 hcc.1
      obtain ⟨q1, -⟩ := partF_leaf hw hk he h1 hcc.1 hcc.2.1 hcc.2.2 (h4 hcc.1)
      obtain ⟨c1, c2⟩ := partF_cnt hw hk he hc h1 hcc.1 hcc.2.1 hcc.2.2 (h4 hcc.1)
      have := h5 (by omega)
      exact ih _ _ _ (by omega) (by omega) (by omega) q1 (fun h => by have := c1 h; omega) (fun h => by have := c2 h; omega)
    · exact ⟨h5, h6⟩
theorem bhF_cnt {T : Nat → Tn} {n m : Nat} {e : Nat → List Nd × Nat} (hw : wellT T n) (hk : eOk n m e) (he : eLeaf T n m e) (hc : eCnt T n m e) (a : Nat) (h1 : m ≤ a + 1) (h2 : a ≤ n) (hs : startOk T n a) :
    ((bhF T n e a).2 ≤ n → oc T (bhF T n e a).2 = oc T a) ∧ (n < (bhF T n e a).2 → oc T a < oc T n) :=
  behL_cnt hw hk he hc a _ _ _ _ h1 (by omega) (by omega) hs (fun _ => rfl) (fun h => by omega)
theorem eiL_cnt {T : Nat → Tn} {n m : Nat} {e : Nat → List Nd × Nat} (hw : wellT T n) (hk : eOk n m e) (he : eLeaf T n m e) (hc : eCnt T n m e) (a : Nat) : ∀ u i acc, m ≤ i + 1 → (i ≤ n → oc T i = oc T a) → (n < i → oc T a < oc T n) →
    ((eiL T n e u i acc).2 ≤ n → oc T (eiL T n e u i acc).2 = oc T a) ∧ (n < (eiL T n e u i acc).2 → oc T a < oc T n) := by
  intro u
  induction u with
  | zero => intro i acc _ h5 h6; exact ⟨h5, h6⟩
  | succ u ih =>
    intro i acc h1 h5 h6
    unfold eiL
    split
    · rename_i hcc
      have hs : startOk T n (i + 1) := hw.start (.inr (.inl (by simpa using hcc.2)))
      have hb := bhF_bd (T := T) hk (i + 1) (by omega) (by omega)
      obtain ⟨c1, c2⟩ := bhF_cnt hw hk he hc (i + 1) (by omega) (by omega) hs
      have h7 := h5 (by omega)
      have h8 := oc_flat (T := T) (i := i) (by omega) (by omega)
      exact ih _ _ (by omega) (fun h => by have := c1 h; omega) (fun h => by have := c2 h; omega)
    · exact ⟨h5, h6⟩
theorem ei_cnt {T : Nat → Tn} {n : Nat} (hw : wellT T n) : ∀ u, eCnt T n (n + 1 - u) (ei T n u) := by
  intro u
  induction u with
  | zero => intro a h1 h2; omega
  | succ u ih =>
    intro a h1 h2 hs
    have hb := bhF_bd (T := T) (ei_ok T n u) a (by omega) h2
    obtain ⟨c1, c2⟩ := bhF_cnt hw (ei_ok T n u) (ei_leaf hw u) ih a (by omega) h2 hs
    exact eiL_cnt hw (ei_ok T n u) (ei_leaf hw u) ih a _ _ _ (by omega) c1 c2
/-- What Wrong tells nothing of. -/
theorem wrF_well {T : Nat → Tn} {n : Nat} : ∀ u i o, n + 1 ≤ u + i → i ≤ n → (wrF T n u i o).2.1 = 0 → oc T i = o →
    (∀ j, i ≤ j → j < n → 1 ≤ (T j).k ∧ (T j).k ≤ 7 ∧ ((T j).k = 5 → 0 < j ∧ endsP (T (j - 1)).k = true) ∧ ((T j).k = 4 → 0 < oc T j)) ∧ oc T n = (wrF T n u i o).2.2 := by
  intro u
  induction u with
  | zero => intro i o h1 h2; omega
  | succ u ih =>
    intro i o h1 hi h2 ho
    unfold wrF at h2 ⊢
    by_cases hn : n ≤ i
    · rw [if_pos hn]
      have : i = n := by omega
      subst this
      exact ⟨fun j h3 h4 => by omega, ho⟩
    rw [if_neg hn] at h2 ⊢
    by_cases c1 : (T i).k < 1 ∨ 7 < (T i).k
    · rw [if_pos c1] at h2; simp at h2
    rw [if_neg c1] at h2 ⊢
    by_cases c2 : (T i).k = 5 ∧ badRep (T i) = true
    · rw [if_pos c2] at h2; simp at h2
    rw [if_neg c2] at h2 ⊢
    by_cases c3 : (T i).k = 5 ∧ ¬ (0 < i ∧ endsP (T (i - 1)).k = true)
    · rw [if_pos c3] at h2; simp at h2
    rw [if_neg c3] at h2 ⊢
    by_cases c4 : (T i).k = 3 ∧ o = 20
    · rw [if_pos c4] at h2; simp at h2
    rw [if_neg c4] at h2 ⊢
    by_cases c5 : (T i).k = 4 ∧ o = 0
    · rw [if_pos c5] at h2; simp at h2
    rw [if_neg c5] at h2 ⊢
    have ho2 : oc T (i + 1) = ((if (T i).k = 3 then o + 1 else if (T i).k = 4 then o - 1 else o : Nat) : Int) := by
      rw [show oc T (i + 1) = oc T i + if (T i).k = 3 then 1 else if (T i).k = 4 then -1 else 0 from rfl, ho]
      split
      · omega
      · split <;> omega
    obtain ⟨q1, q2⟩ := ih _ _ (by omega) (by omega) h2 ho2
    refine ⟨fun j h3 h4 => ?_, q2⟩
    by_cases hj : j = i
    · subst hj
      refine ⟨by omega, by omega, fun h5 => ?_, fun h5 => ?_⟩
      · by_cases h6 : 0 < j ∧ endsP (T (j - 1)).k = true
        · exact h6
        · exact absurd ⟨h5, h6⟩ c3
      · rw [ho]
        by_cases h6 : o = 0
        · exact absurd ⟨h5, h6⟩ c5
        · omega
    · exact q1 j (by omega) h4
/-- All tokens are taken, in order. -/
theorem ei_whole {T : Nat → Tn} {n : Nat} (h : (wrF T n (n + 1) 0 0).2.1 = 0) (ho : (wrF T n (n + 1) 0 0).2.2 = 0) : wellT T n ∧ (ei T n (n + 1) 0).2 = n ∧ leaves (ei T n (n + 1) 0).1 = tl T 0 n := by
  obtain ⟨q1, q2⟩ := wrF_well (T := T) (n := n) (n + 1) 0 0 (by omega) (by omega) h rfl
  have hw : wellT T n := ⟨fun i hi => ⟨(q1 i (by omega) hi).1, (q1 i (by omega) hi).2.1⟩, fun i hi => (q1 i (by omega) hi).2.2.1⟩
  have hs : startOk T n 0 := hw.start (.inl rfl)
  obtain ⟨l1, l2⟩ := ei_leaf hw (n + 1) 0 (by omega) (by omega) hs
  obtain ⟨c1, c2⟩ := ei_cnt hw (n + 1) 0 (by omega) (by omega) hs
  rw [ho] at q2
  have e0 : oc T 0 = 0 := rfl
  have h1 : (ei T n (n + 1) 0).2 ≤ n := by
    rcases Nat.lt_or_ge n (ei T n (n + 1) 0).2 with h | h
    · have := c2 h; omega
    · exact h
  have h2 : (ei T n (n + 1) 0).2 = n := by
    rcases Nat.lt_or_ge (ei T n (n + 1) 0).2 n with h | h
    · have h3 := c1 h1
      have h4 := (q1 _ (by omega) h).2.2.2 (l1 h)
      omega
    · omega
  refine ⟨hw, h2, ?_⟩
  rw [l2 h1, h2]
end Go.Proofs.Ythmkjdpmpcjinaa

namespace Go.Proofs.Ythmkjdpmpcjinaa

theorem runD_good (N : Nat → Nd) : ∀ (l : List Nd) (k : Nat) (d d' : Int), (∀ j (h : j < l.length), N (k + j) = l[j]) → dep N k = d → runD l d = some d' →
    (∀ j, k ≤ j → j < k + l.length → good N j) ∧ dep N (k + l.length) = d' := by
  intro l
  induction l with
  | nil =>
    intro k d d' _ hd h
    simp only [runD] at h
    cases h
    exact ⟨fun j h1 h2 => by simp at h2; omega, hd⟩
  | cons x l ih =>
    intro k d d' hN hd h
    simp only [runD] at h
    split at h
    · rename_i hx
      have e0 : N k = x := by have := hN 0 (by simp); simpa using this
      have hd1 : dep N (k + 1) = d + 1 - ar x.k := by simp only [dep]; rw [hd, e0]
      have h1 := ih (k + 1) (d + 1 - ar x.k) d' (fun j hj => by
        have := hN (j + 1) (by simp; omega)
        rw [show k + 1 + j = k + (j + 1) by omega, this]
        simp) hd1 h
      refine ⟨fun j h2 h3 => ?_, by rw [List.length_cons, show k + (l.length + 1) = k + 1 + l.length by omega]; exact h1.2⟩
      by_cases hj : j = k
      · subst hj
        unfold good
        rw [e0, hd]
        exact hx
      · exact h1.1 j (by omega) (by rw [List.length_cons] at h3; omega)
    · cases h
/-- A list of nodes as a function. -/
def nfn (l : List Nd) (j : Nat) : Nd := l.getD j (nd0 0)
theorem tree_of_run {l : List Nd} (h : runD l 0 = some 1) (hl : l.length ≤ 512) : tree (nfn l) l.length := by
  obtain ⟨h1, h2⟩ := runD_good (nfn l) l 0 0 1 (fun j hj => by rw [Nat.zero_add]; unfold nfn; rw [List.getD_eq_getElem?_getD, List.getElem?_eq_getElem hj]; rfl) rfl h
  rw [Nat.zero_add] at h1 h2
  exact ⟨hl, fun i hi => h1 i (by omega) hi, h2⟩
/-- What Of tells, where nothing is wrong: a tree, whose leaves are the tokens'. -/
theorem ei_tree {T : Nat → Tn} {n : Nat} (h : (wrF T n (n + 1) 0 0).2.1 = 0) (ho : (wrF T n (n + 1) 0 0).2.2 = 0) (hl : (ei T n (n + 1) 0).1.length ≤ 512) :
    tree (nfn (ei T n (n + 1) 0).1) (ei T n (n + 1) 0).1.length ∧ leaves (ei T n (n + 1) 0).1 = tl T 0 n :=
  ⟨tree_of_run (ei_run (wrF_reps h) (n + 1) 0 (by omega) (by omega) 0 (by omega)) hl, (ei_whole h ho).2.2⟩
end Go.Proofs.Ythmkjdpmpcjinaa
