/-
  The fifth reference's Wrong: the first token that is wrong: the plain mathematics.
  The fifth reference's way down keeps the order: the leaves of what it tells are the tokens that make leaves, in order.
  The fifth reference's way down comes to the end: where Wrong tells nothing, and no group stays open, all tokens are taken.
  What runs to one part is a tree.
-/
import Derived.Test.YtpfbmbegddemoaaPk1
namespace Go.Proofs.Ytpfbmbegddemoaa

/-- Does a part end with a token of this kind? -/
def endsP (k : Int) : Bool := k == 1 || k == 6 || k == 7 || k == 5 || k == 4
def badRep (t : Tn) : Bool := decide (t.lo < 0) || decide (32 < t.lo) || (t.hi != -1 && decide (t.hi < t.lo)) || decide (32 < t.hi)
/-- What is told from a place on, o groups open: the first token that is wrong, its error, how many groups stay open. -/
def wrF (T : Nat → Tn) (n : Nat) : Nat → Nat → Nat → Int × Int × Nat
  | 0, _, o => (-1, 0, o)
  | u + 1, i, o =>
    if n ≤ i then (-1, 0, o)
    else if (T i).k < 1 ∨ 7 < (T i).k then (i, 9, o)
    else if (T i).k = 5 ∧ badRep (T i) = true then (i, 9, o)
    else if (T i).k = 5 ∧ ¬ (0 < i ∧ endsP (T (i - 1)).k = true) then (i, 3, o)
    else if (T i).k = 3 ∧ o = 20 then (i, 4, o)
    else if (T i).k = 4 ∧ o = 0 then (i, 3, o)
    else wrF T n u (i + 1) (if (T i).k = 3 then o + 1 else if (T i).k = 4 then o - 1 else o)
theorem rep_ok {t : Tn} (h : badRep t = false) : okN (ndRep t) = true := by
  unfold badRep at h
  unfold okN ndRep
  simp at h ⊢
  omega
theorem wrF_zero {T : Nat → Tn} {n : Nat} : ∀ u i o, n + 1 ≤ u + i → (wrF T n u i o).2.1 = 0 → ∀ j, i ≤ j → j < n → 1 ≤ (T j).k ∧ (T j).k ≤ 7 ∧ ((T j).k = 5 → okN (ndRep (T j)) = true) := by
  intro u
  induction u with
  | zero => intro i o h1 _ j h2 h3; omega
  | succ u ih =>
    intro i o h1 h2 j h3 h4
    unfold wrF at h2
    rw [if_neg (by omega)] at h2
    by_cases c1 : (T i).k < 1 ∨ 7 < (T i).k
    · rw [if_pos c1] at h2; simp at h2
    rw [if_neg c1] at h2
    by_cases c2 : (T i).k = 5 ∧ badRep (T i) = true
    · rw [if_pos c2] at h2; simp at h2
    rw [if_neg c2] at h2
    by_cases c3 : (T i).k = 5 ∧ ¬ (0 < i ∧ endsP (T (i - 1)).k = true)
    · rw [if_pos c3] at h2; simp at h2
    rw [if_neg c3] at h2
    by_cases c4 : (T i).k = 3 ∧ o = 20
    · rw [if_pos c4] at h2; simp at h2
    rw [if_neg c4] at h2
    by_cases c5 : (T i).k = 4 ∧ o = 0
    · rw [if_pos c5] at h2; simp at h2
    rw [if_neg c5] at h2
    by_cases hj : j = i
    · subst hj
      refine ⟨by omega, by omega, fun h5 => rep_ok ?_⟩
      cases hb : badRep (T j)
      · rfl
      · exact absurd ⟨h5, hb⟩ c2
    · exact ih _ _ (by omega) h2 j (by omega) h4
theorem wrF_reps {T : Nat → Tn} {n : Nat} (h : (wrF T n (n + 1) 0 0).2.1 = 0) : repsOk T n := fun i hi hk => (wrF_zero _ _ _ (by omega) h i (by omega) hi).2.2 hk
/-- At most twenty groups are open; the place is one of the tokens. -/
theorem wrF_bd {T : Nat → Tn} {n : Nat} : ∀ u i o, o ≤ 20 → (wrF T n u i o).2.2 ≤ 20 ∧ ((wrF T n u i o).2.1 = 0 ∧ (wrF T n u i o).1 = -1 ∨ (wrF T n u i o).2.1 ≠ 0 ∧ (i : Int) ≤ (wrF T n u i o).1 ∧ (wrF T n u i o).1 < n) := by
  intro u
  induction u with
  | zero => intro i o h; exact ⟨h, .inl ⟨rfl, rfl⟩⟩
  | succ u ih =>
    intro i o h
    unfold wrF
    split
    · exact ⟨h, .inl ⟨rfl, rfl⟩⟩
    · split
      · exact ⟨h, .inr ⟨by simp, by simp, by simp; omega⟩⟩
      · split
        · exact ⟨h, .inr ⟨by simp, by simp, by simp; omega⟩⟩
        · split
          · exact ⟨h, .inr ⟨by simp, by simp, by simp; omega⟩⟩
          · split
            · exact ⟨h, .inr ⟨by simp, by simp, by simp; omega⟩⟩
            · split
              · exact ⟨h, .inr ⟨by simp, by simp, by simp; omega⟩⟩
              · rename_i c4 c5
                have ho : (if (T i).k = 3 then o + 1 else if (T i).k = 4 then o - 1 else o) ≤ 20 := by
                  split
                  · omega
                  · split <;> omega
                obtain ⟨h1, h2⟩ := ih (i + 1) _ ho
                refine ⟨h1, ?_⟩
                rcases h2 with h2 | ⟨h2, h3, h4⟩
                · exact .inl h2
                · exact .inr ⟨h2, by omega, h4⟩
end Go.Proofs.Ytpfbmbegddemoaa

namespace Go.Proofs.Ytpfbmbegddemoaa

def lfN (x : Nd) : Bool := !(x.k == 2 || x.k == 5 || x.k == 6)
def lfT (t : Tn) : Bool := !(t.k == 2 || t.k == 3 || t.k == 4)
def leafOf (t : Tn) : Nd := if t.k = 1 then ndSet t else if t.k = 6 then nd0 3 else if t.k = 7 then nd0 4 else ndRep t
/-- The leaves that the tokens from one place to another make. -/
def tl (T : Nat → Tn) (i j : Nat) : List Nd := ((List.range' i (j - i)).filter fun x => lfT (T x)).map fun x => leafOf (T x)
theorem tl_same (T : Nat → Tn) (i : Nat) : tl T i i = [] := by simp [tl]
theorem tl_split (T : Nat → Tn) {i j k : Nat} (h1 : i ≤ j) (h2 : j ≤ k) : tl T i k = tl T i j ++ tl T j k := by
  have h3 := List.range'_append (s := i) (m := j - i) (n := k - j) (step := 1)
  rw [show i + 1 * (j - i) = j by omega, show j - i + (k - j) = k - i by omega] at h3
  unfold tl
  rw [← h3, List.filter_append, List.map_append]
theorem tl_one (T : Nat → Tn) (i : Nat) : tl T i (i + 1) = if lfT (T i) = true then [leafOf (T i)] else [] := by
  unfold tl
  rw [show i + 1 - i = 1 by omega]
  by_cases h : lfT (T i) = true <;> simp [h]
def leaves (l : List Nd) : List Nd := l.filter lfN
theorem leaves_append (l r : List Nd) : leaves (l ++ r) = leaves l ++ leaves r := List.filter_append ..

theorem repsL_end (T : Nat → Tn) (n : Nat) : ∀ u i, n + 1 ≤ u + i → (repsL T n u i).2 < n → (T (repsL T n u i).2).k ≠ 5 := by
  intro u
  induction u with
  | zero => intro i h1 h2; simp only [repsL] at h2; omega
  | succ u ih =>
    intro i h1
    unfold repsL
    split
    · exact ih (i + 1) (by omega)
    · rename_i h
      intro h2 h3
      exact h ⟨h2, h3⟩
theorem repsL_leaf (T : Nat → Tn) (n : Nat) : ∀ u i, leaves (repsL T n u i).1 = tl T i (repsL T n u i).2 := by
  intro u
  induction u with
  | zero => intro i; simp [repsL, leaves, tl_same]
  | succ u ih =>
    intro i
    unfold repsL
    split
    · rename_i h
      have hb := (repsL_bd T n u (i + 1)).1
      simp only
      rw [tl_split T (j := i + 1) (by omega) hb, tl_one, if_pos (by simp [lfT, h.2]), ← ih]
      simp [leaves, lfN, ndRep, leafOf, h.2]
    · simp [leaves, tl_same]

/-- No part begins with a repeat. -/
def startOk (T : Nat → Tn) (n a : Nat) : Prop := a < n → (T a).k ≠ 5
def eLeaf (T : Nat → Tn) (n m : Nat) (e : Nat → List Nd × Nat) : Prop := ∀ a, m ≤ a → a ≤ n → startOk T n a → ((e a).2 < n → (T (e a).2).k = 4) ∧ ((e a).2 ≤ n → leaves (e a).1 = tl T a (e a).2)
/-- What Wrong asks of repeats, and of kinds. -/
def wellT (T : Nat → Tn) (n : Nat) : Prop := (∀ i, i < n → 1 ≤ (T i).k ∧ (T i).k ≤ 7) ∧ ∀ i, i < n → (T i).k = 5 → 0 < i ∧ endsP (T (i - 1)).k = true
theorem wellT.start {T : Nat → Tn} {n : Nat} (h : wellT T n) {a : Nat} (ha : a = 0 ∨ (T (a - 1)).k = 2 ∨ (T (a - 1)).k = 3) : startOk T n a := fun h1 h2 => by
  obtain ⟨h3, h4⟩ := h.2 a h1 h2
  rcases ha with ha | ha | ha
  · omega
  · rw [ha] at h4; exact absurd h4 (by decide)
  · rw [ha] at h4; exact absurd h4 (by decide)
theorem partF_leaf {T : Nat → Tn} {n m : Nat} {e : Nat → List Nd × Nat} (hw : wellT T n) (hk : eOk n m e) (he : eLeaf T n m e) {a : Nat} (h1 : m ≤ a + 1) (h2 : a < n) (h3 : (T a).k ≠ 2) (h4 : (T a).k ≠ 4) (h5 : (T a).k ≠ 5) :
    startOk T n (partF T n e a).2 ∧ ((partF T n e a).2 ≤ n → leaves (partF T n e a).1 = tl T a (partF T n e a).2) := by
  have hbd := partB_bd (T := T) hk h1 h2
  have hr := repsL_bd T n (n + 1) (partB T e a).2
  refine ⟨fun h => repsL_end T n _ _ (by omega) h, fun hle => ?_⟩
  have hle' : (partB T e a).2 ≤ n := by
    have : (partF T n e a).2 = (repsL T n (n + 1) (partB T e a).2).2 := rfl
    omega
  have hb : leaves (partB T e a).1 = tl T a (partB T e a).2 := by
    have hv := hw.1 a h2
    unfold partB at hle' ⊢
    by_cases c1 : (T a).k = 1
    · simp only [if_pos c1]
      rw [tl_one, if_pos (by simp [lfT, c1])]
      simp [leaves, lfN, ndSet, leafOf, c1]
    · simp only [if_neg c1] at hle' ⊢
      by_cases c2 : (T a).k = 6
      · simp only [if_pos c2]
        rw [tl_one, if_pos (by simp [lfT, c2])]
        simp [leaves, lfN, nd0, leafOf, c2]
      · simp only [if_neg c2] at hle' ⊢
        by_cases c3 : (T a).k = 7
        · simp only [if_pos c3]
          rw [tl_one, if_pos (by simp [lfT, c3])]
          simp [leaves, lfN, nd0, leafOf, c3]
        · simp only [if_neg c3] at hle' ⊢
          have k3 : (T a).k = 3 := by omega
          have hs : startOk T n (a + 1) := hw.start (.inr (.inr (by simpa using k3)))
          obtain ⟨e1, e2⟩ := he (a + 1) h1 (by omega) hs
          have hk1 := hk (a + 1) h1 (by omega)
          have e3 := e1 (by omega)
          rw [tl_split T (j := a + 1) (by omega) (by omega), tl_one, if_neg (by simp [lfT, k3]), List.nil_append, tl_split T (i := a + 1) (j := (e (a + 1)).2) (by omega) (by omega), tl_one, if_neg (by simp [lfT, e3]), List.append_nil]
          exact e2 (by omega)
  unfold partF at hle ⊢
  simp only at hle ⊢
  rw [leaves_append, hb, repsL_leaf, ← tl_split T (by omega) hr.1]
theorem behL_mono {T : Nat → Tn} {n m : Nat} {e : Nat → List Nd × Nat} (hk : eOk n m e) : ∀ u i acc many, m ≤ i + 1 → i ≤ (behL T n e u i acc many).2 := by
  intro u
  induction u with
  | zero => intro i acc many _; exact Nat.le_refl _
  | succ u ih =>
    intro i acc many h
    unfold behL
    split
    · rename_i hc
      have hp := partF_bd (T := T) hk (a := i) h hc.1
      have := ih (partF T n e i).2 (acc ++ (partF T n e i).1 ++ if many = 0 then [] else [nd0 5]) (many + 1) (by omega)
      omega
    · exact Nat.le_refl _
theorem behL_leaf {T : Nat → Tn} {n m : Nat} {e : Nat → List Nd × Nat} (hw : wellT T n) (hk : eOk n m e) (he : eLeaf T n m e) (a : Nat) : ∀ u i acc many, m ≤ i + 1 → a ≤ i → n + 1 ≤ u + i → 0 < u → startOk T n i →
    (i ≤ n → leaves acc = tl T a i) → (many = 0 → i = a) →
    ((behL T n e u i acc many).2 < n → (T (behL T n e u i acc many).2).k = 2 ∨ (T (behL T n e u i acc many).2).k = 4) ∧ ((behL T n e u i acc many).2 ≤ n → leaves (behL T n e u i acc many).1 = tl T a (behL T n e u i acc many).2) := by
  intro u
  induction u with
  | zero => intro i acc many _ _ _ h; omega
  | succ u ih =>
    intro i acc many h1 h2 h3 _ h4 h5 h6
    unfold behL
    split
    · rename_i hc
      have hp := partF_bd (T := T) hk (a := i) h1 hc.1
      obtain ⟨q1, q2⟩ := partF_leaf hw hk he h1 hc.1 hc.2.1 hc.2.2 (h4 hc.1)
      refine ih _ _ _ (by omega) (by omega) (by omega) (by omega) q1 (fun hle => ?_) (fun h => by omega)
      rw [leaves_append, leaves_append, h5 (by omega), q2 hle, tl_split T h2 (show i ≤ (partF T n e i).2 by omega)]
      split
      · simp [leaves]
      · simp [leaves, lfN, nd0]
    · rename_i hc
      simp only
      refine ⟨fun h => by omega, fun hle => ?_⟩
      split
      · rename_i hm
        rw [h6 hm, tl_same]
        simp [leaves, lfN, nd0]
      · exact h5 hle
theorem bhF_leaf {T : Nat → Tn} {n m : Nat} {e : Nat → List Nd × Nat} (hw : wellT T n) (hk : eOk n m e) (he : eLeaf T n m e) (a : Nat) (h1 : m ≤ a + 1) (hs : startOk T n a) :
    ((bhF T n e a).2 < n → (T (bhF T n e a).2).k = 2 ∨ (T (bhF T n e a).2).k = 4) ∧ ((bhF T n e a).2 ≤ n → leaves (bhF T n e a).1 = tl T a (bhF T n e a).2) :=
  behL_leaf hw hk he a _ _ _ _ h1 (Nat.le_refl _) (by omega) (by omega) hs (fun _ => by rw [tl_same]; rfl) (fun _ => rfl)
theorem eiL_mono {T : Nat → Tn} {n m : Nat} {e : Nat → List Nd × Nat} (hk : eOk n m e) : ∀ u i acc, m ≤ i + 1 → i ≤ (eiL T n e u i acc).2 := by
  intro u
  induction u with
  | zero => intro i acc _; exact Nat.le_refl _
  | succ u ih =>
    intro i acc h
    unfold eiL
    split
    · rename_i hc
      have hb := bhF_bd (T := T) hk (i + 1) (by omega) (by omega)
      have := ih (bhF T n e (i + 1)).2 (acc ++ (bhF T n e (i + 1)).1 ++ [nd0 6]) (by omega)
      omega
    · exact Nat.le_refl _
theorem eiL_leaf {T : Nat → Tn} {n m : Nat} {e : Nat → List Nd × Nat} (hw : wellT T n) (hk : eOk n m e) (he : eLeaf T n m e) (a : Nat) : ∀ u i acc, m ≤ i + 1 → a ≤ i → n + 1 ≤ u + i → 0 < u →
    (i ≤ n → leaves acc = tl T a i) → (i < n → (T i).k = 2 ∨ (T i).k = 4) →
    ((eiL T n e u i acc).2 < n → (T (eiL T n e u i acc).2).k = 4) ∧ ((eiL T n e u i acc).2 ≤ n → leaves (eiL T n e u i acc).1 = tl T a (eiL T n e u i acc).2) := by
  intro u
  induction u with
  | zero => intro i acc _ _ _ h; omega
  | succ u ih =>
    intro i acc h1 h2 h3 _ h5 h6
    unfold eiL
    split
    · rename_i hc
      have hs : startOk T n (i + 1) := hw.start (.inr (.inl (by simpa using hc.2)))
      have hb := bhF_bd (T := T) hk (i + 1) (by omega) (by omega)
      obtain ⟨q1, q2⟩ := bhF_leaf hw hk he (i + 1) (by omega) hs
      refine ih _ _ (by omega) (by omega) (by omega) (by omega) (fun hle => ?_) q1
      rw [leaves_append, leaves_append, h5 (by omega), q2 hle, tl_split T h2 (show i ≤ (bhF T n e (i + 1)).2 by omega), tl_split T (i := i) (j := i + 1) (by omega) hb.1, tl_one, if_neg (by simp [lfT, hc.2])]
      simp [leaves, lfN, nd0]
    · rename_i hc
      simp only
      refine ⟨fun h => ?_, h5⟩
      rcases h6 h with h7 | h7
      · exact absurd ⟨h, h7⟩ hc
      · exact h7
theorem ei_leaf {T : Nat → Tn} {n : Nat} (hw : wellT T n) : ∀ u, eLeaf T n (n + 1 - u) (ei T n u) := by
  intro u
  induction u with
  | zero => intro a h1 h2; omega
  | succ u ih =>
    intro a h1 h2 hs
    have hb := bhF_bd (T := T) (ei_ok T n u) a (by omega) h2
    obtain ⟨q1, q2⟩ := bhF_leaf hw (ei_ok T n u) ih a (by omega) hs
    exact eiL_leaf hw (ei_ok T n u) ih a _ _ _ (by omega) hb.1 (by omega) (by omega) q2 q1
end Go.Proofs.Ytpfbmbegddemoaa

namespace Go.Proofs.Ytpfbmbegddemoaa

/-- How many groups are open ahead of a place. -/
def oc (T : Nat → Tn) : Nat → Int
  | 0 => 0
  | i + 1 => oc T i + if (T i).k = 3 then 1 else if (T i).k = 4 then -1 else 0
theorem repsL_oc (T : Nat → Tn) (n : Nat) : ∀ u i, oc T (repsL T n u i).2 = oc T i := by
  intro u
  induction u with
  | zero => intro i; rfl
  | succ u ih =>
    intro i
    unfold repsL
    split
    · rename_i h
      simp only
      rw [ih, show oc T (i + 1) = oc T i + if (T i).k = 3 then 1 else if (T i).k = 4 then -1 else 0 from rfl, if_neg (by omega), if_neg (by omega), Int.add_zero]
    · rfl
def eCnt (T : Nat → Tn) (n m : Nat) (e : Nat → List Nd × Nat) : Prop := ∀ a, m ≤ a → a ≤ n → startOk T n a → ((e a).2 ≤ n → oc T (e a).2 = oc T a) ∧ (n < (e a).2 → oc T a < oc T n)
theorem oc_flat {T : Nat → Tn} {i : Nat} (h3 : (T i).k ≠ 3) (h4 : (T i).k ≠ 4) : oc T (i + 1) = oc T i := by
  rw [show oc T (i + 1) = oc T i + if (T i).k = 3 then 1 else if (T i).k = 4 then -1 else 0 from rfl, if_neg h3, if_neg h4, Int.add_zero]
theorem partF_cnt {T : Nat → Tn} {n m : Nat} {e : Nat → List Nd × Nat} (hw : wellT T n) (hk : eOk n m e) (he : eLeaf T n m e) (hc : eCnt T n m e) {a : Nat} (h1 : m ≤ a + 1) (h2 : a < n) (h3 : (T a).k ≠ 2) (h4 : (T a).k ≠ 4) (h5 : (T a).k ≠ 5) :
    ((partF T n e a).2 ≤ n → oc T (partF T n e a).2 = oc T a) ∧ (n < (partF T n e a).2 → oc T a < oc T n) := by
  have hbd := partB_bd (T := T) hk h1 h2
  have hr := repsL_bd T n (n + 1) (partB T e a).2
  have ho := repsL_oc T n (n + 1) (partB T e a).2
  have hp : (partF T n e a).2 = (repsL T n (n + 1) (partB T e a).2).2 := rfl
  have hv := hw.1 a h2
  rw [hp, ho]
  by_cases k3 : (T a).k = 3
  · have hB : (partB T e a).2 = (e (a + 1)).2 + 1 := by unfold partB; rw [if_neg (by omega), if_neg (by omega), if_neg (by omega)]
    have hs : startOk T n (a + 1) := hw.start (.inr (.inr (by simpa using k3)))
    obtain ⟨e1, -⟩ := he (a + 1) h1 (by omega) hs
    obtain ⟨c1, c2⟩ := hc (a + 1) h1 (by omega) hs
    have o1 : oc T (a + 1) = oc T a + 1 := by
      rw [show oc T (a + 1) = oc T a + if (T a).k = 3 then 1 else if (T a).k = 4 then -1 else 0 from rfl, if_pos k3]
    rw [hB] at hr ⊢
    rcases Nat.lt_or_ge (e (a + 1)).2 n with h | h
    · have e4 := e1 h
      refine ⟨fun _ => ?_, fun hh => by omega⟩
      rw [show oc T ((e (a + 1)).2 + 1) = oc T (e (a + 1)).2 + if (T (e (a + 1)).2).k = 3 then 1 else if (T (e (a + 1)).2).k = 4 then -1 else 0 from rfl, if_neg (by omega), if_pos e4, c1 (by omega), o1]
      omega
    · refine ⟨fun hh => ?_, fun _ => ?_⟩
      · have := hr.2.2.1 (by omega); omega
      · rcases Nat.lt_or_ge n (e (a + 1)).2 with h' | h'
        · have := c2 h'; omega
        · have := c1 h'
          rw [show (e (a + 1)).2 = n by omega] at this
          omega
  · have hB : (partB T e a).2 = a + 1 := by
      unfold partB
      by_cases c1 : (T a).k = 1
      · rw [if_pos c1]
      · rw [if_neg c1]
        by_cases c2 : (T a).k = 6
        · rw [if_pos c2]
        · rw [if_neg c2, if_pos (by omega)]
    rw [hB] at hr ⊢
    refine ⟨fun _ => oc_flat k3 h4, fun hh => ?_⟩
    have := hr.2.1 (by omega)
    omega
theorem behL_cnt {T : Nat → Tn} {n m : Nat} {e : Nat → List Nd × Nat} (hw : wellT T n) (hk : eOk n m e) (he : eLeaf T n m e) (hc : eCnt T n m e) (a : Nat) : ∀ u i acc many, m ≤ i + 1 → n + 1 ≤ u + i → 0 < u → startOk T n i →
    (i ≤ n → oc T i = oc T a) → (n < i → oc T a < oc T n) →
    ((behL T n e u i acc many).2 ≤ n → oc T (behL T n e u i acc many).2 = oc T a) ∧ (n < (behL T n e u i acc many).2 → oc T a < oc T n) := by
  intro u
  induction u with
  | zero => intro i acc many _ _ h; omega
  | succ u ih =>
    intro i acc many h1 h3 _ h4 h5 h6
    unfold behL
    split
    · rename_i hcc
      have hp := partF_bd (T := T) hk (a := i) h1 hcc.1
      obtain ⟨q1, -⟩ := partF_leaf hw hk he h1 hcc.1 hcc.2.1 hcc.2.2 (h4 hcc.1)
      obtain ⟨c1, c2⟩ := partF_cnt hw hk he hc h1 hcc.1 hcc.2.1 hcc.2.2 (h4 hcc.1)
      have := h5 (by omega)
      exact ih _ _ _ (by omega) (by omega) (by omega) q1 (fun h => by have := c1 h; omega) (fun h => by have := c2 h; omega)
    · exact ⟨h5, h6⟩
theorem bhF_cnt {T : Nat → Tn} {n m : Nat} {e : Nat → List Nd × Nat} (hw : wellT T n) (hk : eOk n m e) (he : eLeaf T n m e) (hc : eCnt T n m e) (a : Nat) (h1 : m ≤ a + 1) (h2 : a ≤ n) (hs : startOk T n a) :
    ((bhF T n e a).2 ≤ n → oc T (bhF T n e a).2 = oc T a) ∧ (n < (bhF T n e a).2 → oc T a < oc T n) :=
  behL_cnt hw hk he hc a _ _ _ _ h1 (by omega) (by omega) hs (fun _ => rfl) (fun h => by omega)
theorem eiL_cnt {T : Nat → Tn} {n m : Nat} {e : Nat → List Nd × Nat} (hw : wellT T n) (hk : eOk n m e) (he : eLeaf T n m e) (hc : eCnt T n m e) (a : Nat) : ∀ u i acc, m ≤ i + 1 → (i ≤ n → oc T i = oc T a) → (n < i → oc T a < oc T n) →
    ((eiL T n e u i acc).2 ≤ n → oc T (eiL T n e u i acc).2 = oc T a) ∧ (n < (eiL T n e u i acc).2 → oc T a < oc T n) := by
  intro u
  induction u with
  | zero => intro i acc _ h5 h6; exact ⟨h5, h6⟩
  | succ u ih =>
    intro i acc h1 h5 h6
    unfold eiL
    split
    · rename_i hcc
      have hs : startOk T n (i + 1) := hw.start (.inr (.inl (by simpa using hcc.2)))
      have hb := bhF_bd (T := T) hk (i + 1) (by omega) (by omega)
      obtain ⟨c1, c2⟩ := bhF_cnt hw hk he hc (i + 1) (by omega) (by omega) hs
      have h7 := h5 (by omega)
      have h8 := oc_flat (T := T) (i := i) (by omega) (by omega)
      exact ih _ _ (by omega) (fun h => by have := c1 h; omega) (fun h => by have := c2 h; omega)
    · exact ⟨h5, h6⟩
theorem ei_cnt {T : Nat → Tn} {n : Nat} (hw : wellT T n) : ∀ u, eCnt T n (n + 1 - u) (ei T n u) := by
  intro u
  induction u with
  | zero => intro a h1 h2; omega
  | succ u ih =>
    intro a h1 h2 hs
    have hb := bhF_bd (T := T) (ei_ok T n u) a (by omega) h2
    obtain ⟨c1, c2⟩ := bhF_cnt hw (ei_ok T n u) (ei_leaf hw u) ih a (by omega) h2 hs
    exact eiL_cnt hw (ei_ok T n u) (ei_leaf hw u) ih a _ _ _ (by omega) c1 c2
/-- What Wrong tells nothing of. -/
theorem wrF_well {T : Nat → Tn} {n : Nat} : ∀ u i o, n + 1 ≤ u + i → i ≤ n → (wrF T n u i o).2.1 = 0 → oc T i = o →
    (∀ j, i ≤ j → j < n → 1 ≤ (T j).k ∧ (T j).k ≤ 7 ∧ ((T j).k = 5 → 0 < j ∧ endsP (T (j - 1)).k = true) ∧ ((T j).k = 4 → 0 < oc T j)) ∧ oc T n = (wrF T n u i o).2.2 := by
  intro u
  induction u with
  | zero => intro i o h1 h2; omega
  | succ u ih =>
    intro i o h1 hi h2 ho
    unfold wrF at h2 ⊢
    by_cases hn : n ≤ i
    · rw [if_pos hn]
      have : i = n := by omega
      subst this
      exact ⟨fun j h3 h4 => by omega, ho⟩
    rw [if_neg hn] at h2 ⊢
    by_cases c1 : (T i).k < 1 ∨ 7 < (T i).k
    · rw [if_pos c1] at h2; simp at h2
    rw [if_neg c1] at h2 ⊢
    by_cases c2 : (T i).k = 5 ∧ badRep (T i) = true
    · rw [if_pos c2] at h2; simp at h2
    rw [if_neg c2] at h2 ⊢
    by_cases c3 : (T i).k = 5 ∧ ¬ (0 < i ∧ endsP (T (i - 1)).k = true)
    · rw [if_pos c3] at h2; simp at h2
    rw [if_neg c3] at h2 ⊢
    by_cases c4 : (T i).k = 3 ∧ o = 20
    · rw [if_pos c4] at h2; simp at h2
    rw [if_neg c4] at h2 ⊢
    by_cases c5 : (T i).k = 4 ∧ o = 0
    · rw [if_pos c5] at h2; simp at h2
    rw [if_neg c5] at h2 ⊢
    have ho2 : oc T (i + 1) = ((if (T i).k = 3 then o + 1 else if (T i).k = 4 then o - 1 else o : Nat) : Int) := by
      rw [show oc T (i + 1) = oc T i + if (T i).k = 3 then 1 else if (T i).k = 4 then -1 else 0 from rfl, ho]
      split
      · omega
      · split <;> omega
    obtain ⟨q1, q2⟩ := ih _ _ (by omega) (by omega) h2 ho2
    refine ⟨fun j h3 h4 => ?_, q2⟩
    by_cases hj : j = i
    · subst hj
      refine ⟨by omega, by omega, fun h5 => ?_, fun h5 => ?_⟩
      · by_cases h6 : 0 < j ∧ endsP (T (j - 1)).k = true
        · exact h6
        · exact absurd ⟨h5, h6⟩ c3
      · rw [ho]
        by_cases h6 : o = 0
        · exact absurd ⟨h5, h6⟩ c5
        · omega
    · exact q1 j (by omega) h4
/-- All tokens are taken, in order. -/
theorem ei_whole {T : Nat → Tn} {n : Nat} (h : (wrF T n (n + 1) 0 0).2.1 = 0) (ho : (wrF T n (n + 1) 0 0).2.2 = 0) : wellT T n ∧ (ei T n (n + 1) 0).2 = n ∧ leaves (ei T n (n + 1) 0).1 = tl T 0 n := by
  obtain ⟨q1, q2⟩ := wrF_well (T := T) (n := n) (n + 1) 0 0 (by omega) (by omega) h rfl
  have hw : wellT T n := ⟨fun i hi => ⟨(q1 i (by omega) hi).1, (q1 i (by omega) hi).2.1⟩, fun i hi => (q1 i (by omega) hi).2.2.1⟩
  have hs : startOk T n 0 := hw.start (.inl rfl)
  obtain ⟨l1, l2⟩ := ei_leaf hw (n + 1) 0 (by omega) (by omega) hs
  obtain ⟨c1, c2⟩ := ei_cnt hw (n + 1) 0 (by omega) (by omega) hs
  rw [ho] at q2
  have e0 : oc T 0 = 0 := rfl
  have h1 : (ei T n (n + 1) 0).2 ≤ n := by
    rcases Nat.lt_or_ge n (ei T n (n + 1) 0).2 with h | h
    · have := c2 h; omega
    · exact h
  have h2 : (ei T n (n + 1) 0).2 = n := by
    rcases Nat.lt_or_ge (ei T n (n + 1) 0).2 n with h | h
    · have h3 := c1 h1
      have h4 := (q1 _ (by omega) h).2.2.2 (l1 h)
      omega
    · omega
  refine ⟨hw, h2, ?_⟩
  rw [l2 h1, h2]
end Go.Proofs.Ytpfbmbegddemoaa

namespace Go.Proofs.Ytpfbmbegddemoaa

theorem runD_good (N : Nat → Nd) : ∀ (l : List Nd) (k : Nat) (d d' : Int), (∀ j (h : j < l.length), N (k + j) = l[j]) → dep N k = d → runD l d = some d' →
    (∀ j, k ≤ j → j < k + l.length → good N j) ∧ dep N (k + l.length) = d' := by
  intro l
  induction l with
  | nil =>
    intro k d d' _ hd h
    simp only [runD] at h
    cases h
    exact ⟨fun j h1 h2 => by simp at h2; omega, hd⟩
  | cons x l ih =>
    intro k d d' hN hd h
    simp only [runD] at h
    split at h
    · rename_i hx
      have e0 : N k = x := by have := hN 0 (by simp); simpa using this
      have hd1 : dep N (k + 1) = d + 1 - ar x.k := by simp only [dep]; rw [hd, e0]
      have h1 := ih (k + 1) (d + 1 - ar x.k) d' (fun j hj => by
        have := hN (j + 1) (by simp; omega)
        rw [show k + 1 + j = k + (j + 1) by omega, this]
        simp) hd1 h
      refine ⟨fun j h2 h3 => ?_, by rw [List.length_cons, show k + (l.length + 1) = k + 1 + l.length by omega]; exact h1.2⟩
      by_cases hj : j = k
      · subst hj
        unfold good
        rw [e0, hd]
        exact hx
      · exact h1.1 j (by omega) (by rw [List.length_cons] at h3; omega)
    · cases h
/-- A list of nodes as a function. -/
def nfn (l : List Nd) (j : Nat) : Nd := l.getD j (nd0 0)
theorem tree_of_run {l : List Nd} (h : runD l 0 = some 1) (hl : l.length ≤ 512) : tree (nfn l) l.length := by
  obtain ⟨h1, h2⟩ := runD_good (nfn l) l 0 0 1 (fun j hj => by rw [Nat.zero_add]; unfold nfn; rw [List.getD_eq_getElem?_getD, List.getElem?_eq_getElem hj]; rfl) rfl h
  rw [Nat.zero_add] at h1 h2
  exact ⟨hl, fun i hi => h1 i (by omega) hi, h2⟩
/-- What Of tells, where nothing is wrong: a tree, whose leaves are the tokens'. -/
theorem ei_tree {T : Nat → Tn} {n : Nat} (h : (wrF T n (n + 1) 0 0).2.1 = 0) (ho : (wrF T n (n + 1) 0 0).2.2 = 0) (hl : (ei T n (n + 1) 0).1.length ≤ 512) :
    tree (nfn (ei T n (n + 1) 0).1) (ei T n (n + 1) 0).1.length ∧ leaves (ei T n (n + 1) 0).1 = tl T 0 n :=
  ⟨tree_of_run (ei_run (wrF_reps h) (n + 1) 0 (by omega) (by omega) 0 (by omega)) hl, (ei_whole h ho).2.2⟩
end Go.Proofs.Ytpfbmbegddemoaa
