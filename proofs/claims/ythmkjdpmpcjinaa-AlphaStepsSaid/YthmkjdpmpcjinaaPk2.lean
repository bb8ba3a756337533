/-
  The fifth reference's way down makes trees: what it tells, put behind any nodes, is one part more.
  The fifth reference's Wrong: the first token that is wrong: the plain mathematics.
  The fifth reference's way down keeps the order: the leaves of what it tells are the tokens that make leaves, in order.
-/
import Derived.Test.YthmkjdpmpcjinaaPk1
namespace Go.Proofs.Ythmkjdpmpcjinaa

/-- How many parts are nobody's argument behind some nodes, d ahead of them; none, if a node is not good. -/
def runD : List Nd → Int → Option Int
  | [], d => some d
  | x :: l, d => if 0 ≤ ar x.k ∧ ar x.k ≤ d ∧ okN x = true then runD l (d + 1 - ar x.k) else none
theorem runD_append (l r : List Nd) (d : Int) : runD (l ++ r) d = (runD l d).bind (runD r) := by
  induction l generalizing d with
  | nil => rfl
  | cons x l ih =>
    simp only [List.cons_append, runD]
    split
    · exact ih _
    · rfl
theorem runD_one {x : Nd} {d : Int} (h0 : 0 ≤ ar x.k) (h1 : ar x.k ≤ d) (h2 : okN x = true) : runD [x] d = some (d + 1 - ar x.k) := by
  simp only [runD]; rw [if_pos ⟨h0, h1, h2⟩]
theorem okN_nd0 (k : Int) (hk : k ≠ 7) : okN (nd0 k) = true := by simp [okN, nd0, hk]
theorem okN_set (t : Tn) : okN (ndSet t) = true := by simp [okN, ndSet]
theorem run_leaf {d : Int} (hd : 0 ≤ d) : runD [nd0 2] d = some (d + 1) ∧ runD [nd0 3] d = some (d + 1) ∧ runD [nd0 4] d = some (d + 1) := by
  have e : ar 2 = 0 ∧ ar 3 = 0 ∧ ar 4 = 0 := by decide
  refine ⟨?_, ?_, ?_⟩ <;> (rw [runD_one (by decide) hd (okN_nd0 _ (by decide))]; congr 1; show d + 1 - ar _ = d + 1; simp only [nd0]; omega)
theorem run_set {t : Tn} {d : Int} (hd : 0 ≤ d) : runD [ndSet t] d = some (d + 1) := by
  rw [runD_one (x := ndSet t) (by show 0 ≤ ar 1; decide) (by show ar 1 ≤ d; exact hd) (okN_set t)]; have e : ar 1 = 0 := by decide
  congr 1; show d + 1 - ar 1 = d + 1; omega
theorem run_two {d : Int} (hd : 0 ≤ d) : runD [nd0 5] (d + 2) = some (d + 1) ∧ runD [nd0 6] (d + 2) = some (d + 1) := by
  have e : ar 5 = 2 ∧ ar 6 = 2 := by decide
  refine ⟨?_, ?_⟩
  · rw [runD_one (x := nd0 5) (by show 0 ≤ ar 5; omega) (by show ar 5 ≤ d + 2; omega) (okN_nd0 _ (by decide)), show d + 2 + 1 - ar (nd0 5).k = d + 1 by show d + 2 + 1 - ar 5 = d + 1; omega]
  · rw [runD_one (x := nd0 6) (by show 0 ≤ ar 6; omega) (by show ar 6 ≤ d + 2; omega) (okN_nd0 _ (by decide)), show d + 2 + 1 - ar (nd0 6).k = d + 1 by show d + 2 + 1 - ar 6 = d + 1; omega]
/-- Are all repeats such as a tree lets be? -/
def repsOk (T : Nat → Tn) (n : Nat) : Prop := ∀ i, i < n → (T i).k = 5 → okN (ndRep (T i)) = true
def eRun (n m : Nat) (e : Nat → List Nd × Nat) : Prop := ∀ a, m ≤ a → a ≤ n → ∀ d, 0 ≤ d → runD (e a).1 d = some (d + 1)
theorem repsL_run {T : Nat → Tn} {n : Nat} (ho : repsOk T n) : ∀ u i d, 1 ≤ d → runD (repsL T n u i).1 d = some d := by
  intro u
  induction u with
  | zero => intro i d hd; rfl
  | succ u ih =>
    intro i d hd
    unfold repsL
    split
    · rename_i h
      have e7 : ar (ndRep (T i)).k = 1 := by show ar 7 = 1; decide
      simp only [runD]
      rw [if_pos ⟨by omega, by omega, ho i h.1 h.2⟩, show d + 1 - ar (ndRep (T i)).k = d by omega]
      exact ih _ _ hd
    · rfl
theorem partF_run {T : Nat → Tn} {n m : Nat} {e : Nat → List Nd × Nat} (ho : repsOk T n) (he : eRun n m e) {a : Nat} (h1 : m ≤ a + 1) (h2 : a < n) (d : Int) (hd : 0 ≤ d) : runD (partF T n e a).1 d = some (d + 1) := by
  have hb : runD (partB T e a).1 d = some (d + 1) := by
    unfold partB
    split
    · exact run_set hd
    · split
      · exact (run_leaf hd).2.1
      · split
        · exact (run_leaf hd).2.2
        · exact he (a + 1) h1 (by omega) d hd
  unfold partF
  rw [runD_append, hb]
  exact repsL_run ho _ _ _ (by omega)
theorem behL_run {T : Nat → Tn} {n m : Nat} {e : Nat → List Nd × Nat} (ho : repsOk T n) (hk : eOk n m e) (he : eRun n m e) (d : Int) (hd : 0 ≤ d) : ∀ u i acc many, m ≤ i + 1 → n + 1 ≤ u + i → 0 < u →
    runD acc d = some (d + if many = 0 then 0 else 1) → runD (behL T n e u i acc many).1 d = some (d + 1) := by
  intro u
  induction u with
  | zero => intro i acc many _ _ h _; omega
  | succ u ih =>
    intro i acc many h1 h2 _ h3
    unfold behL
    split
    · rename_i hc
      have hp := partF_bd (T := T) hk (a := i) h1 hc.1
      have hr := partF_run ho he (a := i) h1 hc.1
      refine ih _ _ _ (by omega) (by omega) (by omega) ?_
      rw [runD_append, runD_append, h3]
      rcases Nat.eq_zero_or_pos many with h | h
      · rw [if_pos h, if_pos h, if_neg (by omega)]
        simp only [Int.add_zero, Option.bind_some]
        rw [hr d hd]; rfl
      · rw [if_neg (by omega), if_neg (by omega), if_neg (by omega)]
        simp only [Option.bind_some]
        rw [hr (d + 1) (by omega)]
        simp only [Option.bind_some]
        rw [show d + 1 + 1 = d + 2 by omega]
        exact (run_two hd).1
    · simp only
      split
      · exact (run_leaf hd).1
      · rename_i h
        rw [if_neg h] at h3
        exact h3
theorem bhF_run {T : Nat → Tn} {n m : Nat} {e : Nat → List Nd × Nat} (ho : repsOk T n) (hk : eOk n m e) (he : eRun n m e) (a : Nat) (h1 : m ≤ a + 1) (d : Int) (hd : 0 ≤ d) : runD (bhF T n e a).1 d = some (d + 1) :=
  behL_run ho hk he d hd _ _ _ _ h1 (by omega) (by omega) (by simp [runD])
theorem eiL_run {T : Nat → Tn} {n m : Nat} {e : Nat → List Nd × Nat} (ho : repsOk T n) (hk : eOk n m e) (he : eRun n m e) (d : Int) (hd : 0 ≤ d) : ∀ u i acc, m ≤ i + 1 → runD acc d = some (d + 1) → runD (eiL T n e u i acc).1 d = some (d + 1) := by
  intro u
  induction u with
  | zero => intro i acc _ h; exact h
  | succ u ih =>
    intro i acc h1 h3
    unfold eiL
    split
    · rename_i hc
      have hb := bhF_bd (T := T) hk (i + 1) (by omega) (by omega)
      refine ih _ _ (by omega) ?_
      rw [runD_append, runD_append, h3]
      simp only [Option.bind_some]
      rw [bhF_run ho hk he (i + 1) (by omega) (d + 1) (by omega)]
      simp only [Option.bind_some]
      rw [show d + 1 + 1 = d + 2 by omega]
      exact (run_two hd).2
    · exact h3
theorem ei_run {T : Nat → Tn} {n : Nat} (ho : repsOk T n) : ∀ u, eRun n (n + 1 - u) (ei T n u) := by
  intro u
  induction u with
  | zero => intro a h1 h2; omega
  | succ u ih =>
    intro a h1 h2 d hd
    have hb := bhF_bd (T := T) (ei_ok T n u) a (by omega) h2
    exact eiL_run ho (ei_ok T n u) ih d hd _ _ _ (by omega) (bhF_run ho (ei_ok T n u) ih a (by omega) d hd)
end Go.Proofs.Ythmkjdpmpcjinaa

namespace Go.Proofs.Ythmkjdpmpcjinaa

/-- Does a part end with a token of this kind? -/
def endsP (k : Int) : Bool := k == 1 || k == 6 || k == 7 || k == 5 || k == 4
def badRep (t : Tn) : Bool := decide (t.lo < 0) || decide (32 < t.lo) || (t.hi != -1 && decide (t.hi < t.lo)) || decide (32 < t.hi)
/-- What is told from a place on, o groups open: the first token that is wrong, its error, how many groups stay open. -/
def wrF (T : Nat → Tn) (n : Nat) : Nat → Nat → Nat → Int × Int × Nat
  | 0, _, o => (-1, 0, o)
  | u + 1, i, o =>
    if n ≤ i then (-1, 0, o)
    else if (T i).k < 1 ∨ 7 < (T i).k then (i, 9, o)
    else if (T i).k = 5 ∧ badRep (T i) = true then (i, 9, o)
    else if (T i).k = 5 ∧ ¬ (0 < i ∧ endsP (T (i - 1)).k = true) then (i, 3, o)
    else if (T i).k = 3 ∧ o = 20 then (i, 4, o)
    else if (T i).k = 4 ∧ o = 0 then (i, 3, o)
    else wrF T n u (i + 1) (if (T i).k = 3 then o + 1 else if (T i).k = 4 then o - 1 else o)
theorem rep_ok {t : Tn} (h : badRep t = false) : okN (ndRep t) = true := by
  unfold badRep at h
  unfold okN ndRep
  simp at h ⊢
  omega
theorem wrF_zero {T : Nat → Tn} {n : Nat} : ∀ u i o, n + 1 ≤ u + i → (wrF T n u i o).2.1 = 0 → ∀ j, i ≤ j → j < n → 1 ≤ (T j).k ∧ (T j).k ≤ 7 ∧ ((T j).k = 5 → okN (ndRep (T j)) = true) := by
  intro u
  induction u with
  | zero => intro i o h1 _ j h2 h3; omega
  | succ u ih =>
    intro i o h1 h2 j h3 h4
    unfold wrF at h2
    rw [if_neg (by omega)] at h2
    by_cases c1 : (T i).k < 1 ∨ 7 < (T i).k
    · rw [if_pos c1] at h2; simp at h2
    rw [if_neg c1] at h2
    by_cases c2 : (T i).k = 5 ∧ badRep (T i) = true
    · rw [if_pos c2] at h2; simp at h2
    rw [if_neg c2] at h2
    by_cases c3 : (T i).k = 5 ∧ ¬ (0 < i ∧ endsP (T (i - 1)).k = true)
    · rw [if_pos c3] at h2; simp at h2
    rw [if_neg c3] at h2
    by_cases c4 : (T i).k = 3 ∧ o = 20
    · rw [if_pos c4] at h2; simp at h2
    rw [if_neg c4] at h2
    by_cases c5 : (T i).k = 4 ∧ o = 0
    · rw [if_pos c5] at h2; simp at h2
    rw [if_neg c5] at h2
    by_cases hj : j = i
    · subst hj
      refine ⟨by omega, by omega, fun h5 => rep_ok ?_⟩
      cases hb : badRep (T j)
      · rfl
      · exact absurd ⟨h5, hb⟩ c2
    · exact ih _ _ (by omega) h2 j (by omega) h4
theorem wrF_reps {T : Nat → Tn} {n : Nat} (h : (wrF T n (n + 1) 0 0).2.1 = 0) : repsOk T n := fun i hi hk => (wrF_zero _ _ _ (by omega) h i (by omega) hi).2.2 hk
/-- At most twenty groups are open; the place is one of the tokens. -/
theorem wrF_bd {T : Nat → Tn} {n : Nat} : ∀ u i o, o ≤ 20 → (wrF T n u i o).2.2 ≤ 20 ∧ ((wrF T n u i o).2.1 = 0 ∧ (wrF T n u i o).1 = -1 ∨ (wrF T n u i o).2.1 ≠ 0 ∧ (i : Int) ≤ (wrF T n u i o).1 ∧ (wrF T n u i o).1 < n) := by
  intro u
  induction u with
  | zero => intro i o h; exact ⟨h, .inl ⟨rfl, rfl⟩⟩
  | succ u ih =>
    intro i o h
    unfold wrF
    split
    · exact ⟨h, .inl ⟨rfl, rfl⟩⟩
    · split
      · exact ⟨h, .inr ⟨by simp, by simp, by simp; omega⟩⟩
      · split
        · exact ⟨h, .inr ⟨by simp, by simp, by simp; omega⟩⟩
        · split
          · exact ⟨h, .inr ⟨by simp, by simp, by simp; omega⟩⟩
          · split
            · exact ⟨h, .inr ⟨by simp, by simp, by simp; omega⟩⟩
            · split
              · exact ⟨h, .inr ⟨by simp, by simp, by simp; omega⟩⟩
              · rename_i c4 c5
                have ho : (if (T i).k = 3 then o + 1 else if (T i).k = 4 then o - 1 else o) ≤ 20 := by
                  split
                  · omega
                  · split <;> omega
                obtain ⟨h1, h2⟩ := ih (i + 1) _ ho
                refine ⟨h1, ?_⟩
                rcases h2 with h2 | ⟨h2, h3, h4⟩
                · exact .inl h2
                · exact .inr ⟨h2, by omega, h4⟩
end Go.Proofs.Ythmkjdpmpcjinaa

namespace Go.Proofs.Ythmkjdpmpcjinaa

def lfN (x : Nd) : Bool := !(x.k == 2 || x.k == 5 || x.k == 6)
def lfT (t : Tn) : Bool := !(t.k == 2 || t.k == 3 || t.k == 4)
def leafOf (t : Tn) : Nd := if t.k = 1 then ndSet t else if t.k = 6 then nd0 3 else if t.k = 7 then nd0 4 else ndRep t
/-- The leaves that the tokens from one place to another make. -/
def tl (T : Nat → Tn) (i j : Nat) : List Nd := ((List.range' i (j - i)).filter fun x => lfT (T x)).map fun x => leafOf (T x)
theorem tl_same (T : Nat → Tn) (i : Nat) : tl T i i = [] := by simp [tl]
theorem tl_split (T : Nat → Tn) {i j k : Nat} (h1 : i ≤ j) (h2 : j ≤ k) : tl T i k = tl T i j ++ tl T j k := by
  have h3 := List.range'_append (s := i) (m := j - i) (n := k - j) (step := 1)
  rw [show i + 1 * (j - i) = j by omega, show j - i + (k - j) = k - i by omega] at h3
  unfold tl
  rw [← h3, List.filter_append, List.map_append]
theorem tl_one (T : Nat → Tn) (i : Nat) : tl T i (i + 1) = if lfT (T i) = true then [leafOf (T i)] else [] := by
  unfold tl
  rw [show i + 1 - i = 1 by omega]
  by_cases h : lfT (T i) = true <;> simp [h]
def leaves (l : List Nd) : List Nd := l.filter lfN
theorem leaves_append (l r : List Nd) : leaves (l ++ r) = leaves l ++ leaves r := List.filter_append ..

theorem repsL_end (T : Nat → Tn) (n : Nat) : ∀ u i, n + 1 ≤ u + i → (repsL T n u i).2 < n → (T (repsL T n u i).2).k ≠ 5 := by
  intro u
  induction u with
  | zero => intro i h1 h2; simp only [repsL] at h2; omega
  | succ u ih =>
    intro i h1
    unfold repsL
    split
    · exact ih (i + 1) (by omega)
    · rename_i h
      intro h2 h3
      exact h ⟨h2, h3⟩
theorem repsL_leaf (T : Nat → Tn) (n : Nat) : ∀ u i, leaves (repsL T n u i).1 = tl T i (repsL T n u i).2 := by
  intro u
  induction u with
  | zero => intro i; simp [repsL, leaves, tl_same]
  | succ u ih =>
    intro i
    unfold repsL
    split
    · rename_i h
      have hb := (repsL_bd T n u (i + 1)).1
      simp only
      rw [tl_split T (j := i + 1) (by omega) hb, tl_one, if_pos (by simp [lfT, h.2]), ← ih]
      simp [leaves, lfN, ndRep, leafOf, h.2]
    · simp [leaves, tl_same]

/-- No part begins with a repeat. -/
def startOk (T : Nat → Tn) (n a : Nat) : Prop := a < n → (T a).k ≠ 5
def eLeaf (T : Nat → Tn) (n m : Nat) (e : Nat → List Nd × Nat) : Prop := ∀ a, m ≤ a → a ≤ n → startOk T n a → ((e a).2 < n → (T (e a).2).k = 4) ∧ ((e a).2 ≤ n → leaves (e a).1 = tl T a (e a).2)
/-- What Wrong asks of repeats, and of kinds. -/
def wellT (T : Nat → Tn) (n : Nat) : Prop := (∀ i, i < n → 1 ≤ (T i).k ∧ (T i).k ≤ 7) ∧ ∀ i, i < n → (T i).k = 5 → 0 < i ∧ endsP (T (i - 1)).k = true
theorem wellT.start {T : Nat → Tn} {n : Nat} (h : wellT T n) {a : Nat} (ha : a = 0 ∨ (T (a - 1)).k = 2 ∨ (T (a - 1)).k = 3) : startOk T n a := fun h1 h2 => by
  obtain ⟨h3, h4⟩ := h.2 a h1 h2
  rcases ha with ha | ha | ha
  · omega
  · rw [ha] at h4; exact absurd h4 (by decide)
  · rw [ha] at h4; exact absurd h4 (by decide)
theorem partF_leaf {T : Nat → Tn} {n m : Nat} {e : Nat → List Nd × Nat} (hw : wellT T n) (hk : eOk n m e) (he : eLeaf T n m e) {a : Nat} (h1 : m ≤ a + 1) (h2 : a < n) (h3 : (T a).k ≠ 2) (h4 : (T a).k ≠ 4) (h5 : (T a).k ≠ 5) :
    startOk T n (partF T n e a).2 ∧ ((partF T n e a).2 ≤ n → leaves (partF T n e a).1 = tl T a (partF T n e a).2) := by
  have hbd := partB_bd (T := T) hk h1 h2
  have hr := repsL_bd T n (n + 1) (partB T e a).2
  refine ⟨fun h => repsL_end T n _ _ (by omega) h, fun hle => ?_⟩
  have hle' : (partB T e a).2 ≤ n := by
    have : (partF T n e a).2 = (repsL T n (n + 1) (partB T e a).2).2 := rfl
    omega
  have hb : leaves (partB T e a).1 = tl T a (partB T e a).2 := by
    have hv := hw.1 a h2
    unfold partB at hle' ⊢
    by_cases c1 : (T a).k = 1
    · simp only [if_pos c1]
      rw [tl_one, if_pos (by simp [lfT, c1])]
      simp [leaves, lfN, ndSet, leafOf, c1]
    · simp only [if_neg c1] at hle' ⊢
      by_cases c2 : (T a).k = 6
      · simp only [if_pos c2]
        rw [tl_one, if_pos (by simp [lfT, c2])]
        simp [leaves, lfN, nd0, leafOf, c2]
      · simp only [if_neg c2] at hle' ⊢
        by_cases c3 : (T a).k = 7
        · simp only [if_pos c3]
          rw [tl_one, if_pos (by simp [lfT, c3])]
          simp [leaves, lfN, nd0, leafOf, c3]
        · simp only [if_neg c3] at hle' ⊢
          have k3 : (T a).k = 3 := by omega
          have hs : startOk T n (a + 1) := hw.start (.inr (.inr (by simpa using k3)))
          obtain ⟨e1, e2⟩ := he (a + 1) h1 (by omega) hs
          have hk1 := hk (a + 1) h1 (by omega)
          have e3 := e1 (by omega)
          rw [tl_split T (j := a + 1) (by omega) (by omega), tl_one, if_neg (by simp [lfT, k3]), List.nil_append, tl_split T (i := a + 1) (j := (e (a + 1)).2) (by omega) (by omega), tl_one, if_neg (by simp [lfT, e3]), List.append_nil]
          exact e2 (by omega)
  unfold partF at hle ⊢
  simp only at hle ⊢
  rw [leaves_append, hb, repsL_leaf, ← tl_split T (by omega) hr.1]
theorem behL_mono {T : Nat → Tn} {n m : Nat} {e : Nat → List Nd × Nat} (hk : eOk n m e) : ∀ u i acc many, m ≤ i + 1 → i ≤ (behL T n e u i acc many).2 := by
  intro u
  induction u with
  | zero => intro i acc many _; exact Nat.le_refl _
  | succ u ih =>
    intro i acc many h
    unfold behL
    split
    · rename_i hc
      have hp := partF_bd (T := T) hk (a := i) h hc.1
      have := ih (partF T n e i).2 (acc ++ (partF T n e i).1 ++ if many = 0 then [] else [nd0 5]) (many + 1) (by omega)
      omega
    · exact Nat.le_refl _
theorem behL_leaf {T : Nat → Tn} {n m : Nat} {e : Nat → List Nd × Nat} (hw : wellT T n) (hk : eOk n m e) (he : eLeaf T n m e) (a : Nat) : ∀ u i acc many, m ≤ i + 1 → a ≤ i → n + 1 ≤ u + i → 0 < u → startOk T n i →
    (i ≤ n → leaves acc = tl T a i) → (many = 0 → i = a) →
    ((behL T n e u i acc many).2 < n → (T (behL T n e u i acc many).2).k = 2 ∨ (T (behL T n e u i acc many).2).k = 4) ∧ ((behL T n e u i acc many).2 ≤ n → leaves (behL T n e u i acc many).1 = tl T a (behL T n e u i acc many).2) := by
  intro u
  induction u with
  | zero => intro i acc many _ _ _ h; omega
  | succ u ih =>
    intro i acc many h1 h2 h3 _ h4 h5 h6
    unfold behL
    split
    · rename_i hc
      have hp := partF_bd (T := T) hk (a := i) h1 hc.1
      obtain ⟨q1, q2⟩ := partF_leaf hw hk he h1 hc.1 hc.2.1 hc.2.2 (h4 hc.1)
      refine ih _ _ _ (by omega) (by omega) (by omega) (by omega) q1 (fun hle => ?_) (fun h => by omega)
      rw [leaves_append, leaves_append, h5 (by omega), q2 hle, tl_split T h2 (show i ≤ (partF T n e i).2 by omega)]
      split
      · simp [leaves]
      · simp [leaves, lfN, nd0]
    · rename_i hc
      simp only
      refine ⟨fun h => by omega, fun hle => ?_⟩
      split
      · rename_i hm
        rw [h6 hm, tl_same]
        simp [leaves, lfN, nd0]
      · exact h5 hle
theorem bhF_leaf {T : Nat → Tn} {n m : Nat} {e : Nat → List Nd × Nat} (hw : wellT T n) (hk : eOk n m e) (he : eLeaf T n m e) (a : Nat) (h1 : m ≤ a + 1) (hs : startOk T n a) :
    ((bhF T n e a).2 < n → (T (bhF T n e a).2).k = 2 ∨ (T (bhF T n e a).2).k = 4) ∧ ((bhF T n e a).2 ≤ n → leaves (bhF T n e a).1 = tl T a (bhF T n e a).2) :=
  behL_leaf hw hk he a _ _ _ _ h1 (Nat.le_refl _) (by omega) (by omega) hs (fun _ => by rw [tl_same]; rfl) (fun _ => rfl)
theorem eiL_mono {T : Nat → Tn} {n m : Nat} {e : Nat → List Nd × Nat} (hk : eOk n m e) : ∀ u i acc, m ≤ i + 1 → i ≤ (eiL T n e u i acc).2 := by
  intro u
  induction u with
  | zero => intro i acc _; exact Nat.le_refl _
  | succ u ih =>
    intro i acc h
    unfold eiL
    split
    · rename_i hc
      have hb := bhF_bd (T := T) hk (i + 1) (by omega) (by omega)
      have := ih (bhF T n e (i + 1)).2 (acc ++ (bhF T n e (i + 1)).1 ++ [nd0 6]) (by omega)
      omega
    · exact Nat.le_refl _
theorem eiL_leaf {T : Nat → Tn} {n m : Nat} {e : Nat → List Nd × Nat} (hw : wellT T n) (hk : eOk n m e) (he : eLeaf T n m e) (a : Nat) : ∀ u i acc, m ≤ i + 1 → a ≤ i → n + 1 ≤ u + i → 0 < u →
    (i ≤ n → leaves acc = tl T a i) → (i < n → (T i).k = 2 ∨ (T i).k = 4) →
    ((eiL T n e u i acc).2 < n → (T (eiL T n e u i acc).2).k = 4) ∧ ((eiL T n e u i acc).2 ≤ n → leaves (eiL T n e u i acc).1 = tl T a (eiL T n e u i acc).2) := by
  intro u
  induction u with
  | zero => intro i acc _ _ _ h; omega
  | succ u ih =>
    intro i acc h1 h2 h3 _ h5 h6
    unfold eiL
    split
    · rename_i hc
      have hs : startOk T n (i + 1) := hw.start (.inr (.inl (by simpa using hc.2)))
      have hb := bhF_bd (T := T) hk (i + 1) (by omega) (by omega)
      obtain ⟨q1, q2⟩ := bhF_leaf hw hk he (i + 1) (by omega) hs
      refine ih _ _ (by omega) (by omega) (by omega) (by omega) (fun hle => ?_) q1
      rw [leaves_append, leaves_append, h5 (by omega), q2 hle, tl_split T h2 (show i ≤ (bhF T n e (i + 1)).2 by omega), tl_split T (i := i) (j := i + 1) (by omega) hb.1, tl_one, if_neg (by simp [lfT, hc.2])]
      simp [leaves, lfN, nd0]
    · rename_i hc
      simp only
      refine ⟨fun h => ?_, h5⟩
      rcases h6 h with h7 | h7
      · exact absurd ⟨h, h7⟩ hc
      · exact h7
theorem ei_leaf {T : Nat → Tn} {n : Nat} (hw : wellT T n) : ∀ u, eLeaf T n (n + 1 - u) (ei T n u) := by
  intro u
  induction u with
  | zero => intro a h1 h2; omega
  | succ u ih =>
    intro a h1 h2 hs
    have hb := bhF_bd (T := T) (ei_ok T n u) a (by omega) h2
    obtain ⟨q1, q2⟩ := bhF_leaf hw (ei_ok T n u) ih a (by omega) hs
    exact eiL_leaf hw (ei_ok T n u) ih a _ _ _ (by omega) hb.1 (by omega) (by omega) q2 q1
end Go.Proofs.Ythmkjdpmpcjinaa
