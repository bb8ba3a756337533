/-
  The fifth reference's way down: what tokens are, as a tree: the plain mathematics.
  The fifth reference's way down makes trees: what it tells, put behind any nodes, is one part more.
-/
import Derived.Test.YtiahgcgpakgeeaaDoorPk2
namespace Go.Proofs.YtiahgcgpakgeeaaDoor

/-- A token: its kind, its place, the words of its set, Lo and Hi. -/
structure Tn where
  k : Int
  p : Int
  a : Int
  b : Int
  c : Int
  d : Int
  lo : Int
  hi : Int
def ndRep (t : Tn) : Nd := ⟨7, 0, 0, 0, 0, t.lo, t.hi⟩
def ndSet (t : Tn) : Nd := ⟨1, t.a, t.b, t.c, t.d, 0, 0⟩
def nd0 (k : Int) : Nd := ⟨k, 0, 0, 0, 0, 0, 0⟩

/-- The repeats from a place on, and where they end. -/
def repsL (T : Nat → Tn) (n : Nat) : Nat → Nat → List Nd × Nat
  | 0, i => ([], i)
  | u + 1, i => if i < n ∧ (T i).k = 5 then (ndRep (T i) :: (repsL T n u (i + 1)).1, (repsL T n u (i + 1)).2) else ([], i)
/-- What a part begins with, and where that ends; e: what stands in a group. -/
def partB (T : Nat → Tn) (e : Nat → List Nd × Nat) (at_ : Nat) : List Nd × Nat :=
  if (T at_).k = 1 then ([ndSet (T at_)], at_ + 1) else if (T at_).k = 6 then ([nd0 3], at_ + 1) else if (T at_).k = 7 then ([nd0 4], at_ + 1) else ((e (at_ + 1)).1, (e (at_ + 1)).2 + 1)
def partF (T : Nat → Tn) (n : Nat) (e : Nat → List Nd × Nat) (at_ : Nat) : List Nd × Nat :=
  ((partB T e at_).1 ++ (repsL T n (n + 1) (partB T e at_).2).1, (repsL T n (n + 1) (partB T e at_).2).2)
/-- Parts one behind the other. -/
def behL (T : Nat → Tn) (n : Nat) (e : Nat → List Nd × Nat) : Nat → Nat → List Nd → Nat → List Nd × Nat
  | 0, i, acc, _ => (acc, i)
  | u + 1, i, acc, many => if i < n ∧ (T i).k ≠ 2 ∧ (T i).k ≠ 4 then behL T n e u (partF T n e i).2 (acc ++ (partF T n e i).1 ++ if many = 0 then [] else [nd0 5]) (many + 1) else (if many = 0 then [nd0 2] else acc, i)
def bhF (T : Nat → Tn) (n : Nat) (e : Nat → List Nd × Nat) (at_ : Nat) : List Nd × Nat := behL T n e (n + 2) at_ [] 0
/-- Choices. -/
def eiL (T : Nat → Tn) (n : Nat) (e : Nat → List Nd × Nat) : Nat → Nat → List Nd → List Nd × Nat
  | 0, i, acc => (acc, i)
  | u + 1, i, acc => if i < n ∧ (T i).k = 2 then eiL T n e u (bhF T n e (i + 1)).2 (acc ++ (bhF T n e (i + 1)).1 ++ [nd0 6]) else (acc, i)
def eiF (T : Nat → Tn) (n : Nat) (e : Nat → List Nd × Nat) (at_ : Nat) : List Nd × Nat := eiL T n e (n + 2) (bhF T n e at_).2 (bhF T n e at_).1
def ei (T : Nat → Tn) (n : Nat) : Nat → Nat → List Nd × Nat
  | 0 => fun at_ => ([], at_)
  | u + 1 => eiF T n (ei T n u)

theorem repsL_bd (T : Nat → Tn) (n : Nat) : ∀ u i, i ≤ (repsL T n u i).2 ∧ (i ≤ n → (repsL T n u i).2 ≤ n) ∧ (n ≤ i → (repsL T n u i).2 = i) ∧ (repsL T n u i).1.length + i = (repsL T n u i).2 := by
  intro u
  induction u with
  | zero => intro i; simp [repsL]
  | succ u ih =>
    intro i
    unfold repsL
    split
    · rename_i h
      have := ih (i + 1)
      simp only [List.length_cons]
      omega
    · simp
/-- What is asked of the answer for a group, from a place on. -/
def eOk (n : Nat) (m : Nat) (e : Nat → List Nd × Nat) : Prop := ∀ a, m ≤ a → a ≤ n → a ≤ (e a).2 ∧ (e a).2 + a ≤ 2 * n + 1 ∧ 1 ≤ (e a).1.length ∧ (e a).1.length + 2 * a ≤ 2 * (e a).2 + 1
theorem eOk.mono {n m m' : Nat} {e : Nat → List Nd × Nat} (h : eOk n m e) (hm : m ≤ m') : eOk n m' e := fun a h1 h2 => h a (by omega) h2
theorem partB_bd {T : Nat → Tn} {n m : Nat} {e : Nat → List Nd × Nat} (he : eOk n m e) {a : Nat} (h1 : m ≤ a + 1) (h2 : a < n) :
    a + 1 ≤ (partB T e a).2 ∧ (partB T e a).2 + a ≤ 2 * n + 1 ∧ 1 ≤ (partB T e a).1.length ∧ (partB T e a).1.length + 1 + 2 * a ≤ 2 * (partB T e a).2 := by
  have := he (a + 1) h1 (by omega)
  unfold partB
  split
  · simp; omega
  · split
    · simp; omega
    · split
      · simp; omega
      · simp only; omega
theorem partF_bd {T : Nat → Tn} {n m : Nat} {e : Nat → List Nd × Nat} (he : eOk n m e) {a : Nat} (h1 : m ≤ a + 1) (h2 : a < n) :
    a + 1 ≤ (partF T n e a).2 ∧ (partF T n e a).2 + a ≤ 2 * n + 1 ∧ 1 ≤ (partF T n e a).1.length ∧ (partF T n e a).1.length + 1 + 2 * a ≤ 2 * (partF T n e a).2 := by
  have hb := partB_bd (T := T) he h1 h2
  have hr := repsL_bd T n (n + 1) (partB T e a).2
  unfold partF
  simp only [List.length_append]
  omega
theorem behL_bd {T : Nat → Tn} {n m : Nat} {e : Nat → List Nd × Nat} (he : eOk n m e) (a : Nat) (h1 : m ≤ a + 1) : ∀ u i acc many, a ≤ i → i + a ≤ 2 * n + 1 → n + 1 ≤ u + i →
    (many = 0 → acc = [] ∧ i = a) → (0 < many → 1 ≤ acc.length ∧ acc.length + 1 + 2 * a ≤ 2 * i) →
    a ≤ (behL T n e u i acc many).2 ∧ (behL T n e u i acc many).2 + a ≤ 2 * n + 1 ∧ 1 ≤ (behL T n e u i acc many).1.length ∧ (behL T n e u i acc many).1.length + 2 * a ≤ 2 * (behL T n e u i acc many).2 + 1 := by
  intro u
  induction u with
  | zero =>
    intro i acc many h2 h3 h4 h5 h6
    unfold behL
    simp only
    rcases Nat.eq_zero_or_pos many with h | h
    · exfalso; have := h5 h; omega
    · have := h6 h; omega
  | succ u ih =>
    intro i acc many h2 h3 h4 h5 h6
    unfold behL
    split
    · rename_i hc
      have hp := partF_bd (T := T) he (a := i) (by omega) hc.1
      refine ih _ _ _ (by omega) (by omega) (by omega) (fun h => by omega) (fun _ => ?_)
      rcases Nat.eq_zero_or_pos many with h | h
      · obtain ⟨rfl, rfl⟩ := h5 h
        rw [if_pos h]
        simp
        omega
      · have := h6 h
        rw [if_neg (by omega)]
        simp
        omega
    · simp only
      split
      · rename_i h
        have := h5 h
        simp
        omega
      · have := h6 (by omega)
        omega
theorem bhF_bd {T : Nat → Tn} {n m : Nat} {e : Nat → List Nd × Nat} (he : eOk n m e) (a : Nat) (h1 : m ≤ a + 1) (h2 : a ≤ n) :
    a ≤ (bhF T n e a).2 ∧ (bhF T n e a).2 + a ≤ 2 * n + 1 ∧ 1 ≤ (bhF T n e a).1.length ∧ (bhF T n e a).1.length + 2 * a ≤ 2 * (bhF T n e a).2 + 1 :=
  behL_bd he a h1 _ _ _ _ (by omega) (by omega) (by omega) (fun _ => ⟨rfl, rfl⟩) (fun h => by omega)
theorem eiL_bd {T : Nat → Tn} {n m : Nat} {e : Nat → List Nd × Nat} (he : eOk n m e) (a : Nat) (h1 : m ≤ a + 1) : ∀ u i acc, a ≤ i → i + a ≤ 2 * n + 1 → 1 ≤ acc.length → acc.length + 2 * a ≤ 2 * i + 1 →
    a ≤ (eiL T n e u i acc).2 ∧ (eiL T n e u i acc).2 + a ≤ 2 * n + 1 ∧ 1 ≤ (eiL T n e u i acc).1.length ∧ (eiL T n e u i acc).1.length + 2 * a ≤ 2 * (eiL T n e u i acc).2 + 1 := by
  intro u
  induction u with
  | zero => intro i acc h2 h3 h4 h5; unfold eiL; simp only; omega
  | succ u ih =>
    intro i acc h2 h3 h4 h5
    unfold eiL
    split
    · rename_i hc
      have hb := bhF_bd (T := T) he (i + 1) (by omega) (by omega)
      refine ih _ _ (by omega) (by omega) (by simp; omega) ?_
      simp
      omega
    · simp only; omega
theorem ei_ok (T : Nat → Tn) (n : Nat) : ∀ u, eOk n (n + 1 - u) (ei T n u) := by
  intro u
  induction u with
  | zero => intro a h1 h2; omega
  | succ u ih =>
    intro a h1 h2
    have hb := bhF_bd (T := T) ih a (by omega) h2
    have := eiL_bd (T := T) ih a (by omega) (n + 2) (bhF T n (ei T n u) a).2 (bhF T n (ei T n u) a).1 hb.1 hb.2.1 hb.2.2.1 hb.2.2.2
    exact this
end Go.Proofs.YtiahgcgpakgeeaaDoor

namespace Go.Proofs.YtiahgcgpakgeeaaDoor

/-- How many parts are nobody's argument behind some nodes, d ahead of them; none, if a node is not good. -/
def runD : List Nd → Int → Option Int
  | [], d => some d
  | x :: l, d => if 0 ≤ ar x.k ∧ ar x.k ≤ d ∧ okN x = true then runD l (d + 1 - ar x.k) else none
theorem runD_append (l r : List Nd) (d : Int) : runD (l ++ r) d = (runD l d).bind (runD r) := by
  induction l generalizing d with
  | nil => rfl
  | cons x l ih =>
    simp only [List.cons_append, runD]
    split
    · exact ih _
    · rfl
theorem runD_one {x : Nd} {d : Int} (h0 : 0 ≤ ar x.k) (h1 : ar x.k ≤ d) (h2 : okN x = true) : runD [x] d = some (d + 1 - ar x.k) := by
  simp only [runD]; rw [if_pos ⟨h0, h1, h2⟩]
theorem okN_nd0 (k : Int) (hk : k ≠ 7) : okN (nd0 k) = true := by simp [okN, nd0, hk]
theorem okN_set (t : Tn) : okN (ndSet t) = true := by simp [okN, ndSet]
theorem run_leaf {d : Int} (hd : 0 ≤ d) : runD [nd0 2] d = some (d + 1) ∧ runD [nd0 3] d = some (d + 1) ∧ runD [nd0 4] d = some (d + 1) := by
  have e : ar 2 = 0 ∧ ar 3 = 0 ∧ ar 4 = 0 := by decide
  refine ⟨?_, ?_, ?_⟩ <;> (rw [runD_one (by decide) hd (okN_nd0 _ (by decide))]; congr 1; show d + 1 - ar _ = d + 1; simp only [nd0]; omega)
theorem run_set {t : Tn} {d : Int} (hd : 0 ≤ d) : runD [ndSet t] d = some (d + 1) := by
  rw [runD_one (x := ndSet t) (by show 0 ≤ ar 1; decide) (by show ar 1 ≤ d; exact hd) (okN_set t)]; have e : ar 1 = 0 := by decide
  congr 1; show d + 1 - ar 1 = d + 1; omega
theorem run_two {d : Int} (hd : 0 ≤ d) : runD [nd0 5] (d + 2) = some (d + 1) ∧ runD [nd0 6] (d + 2) = some (d + 1) := by
  have e : ar 5 = 2 ∧ ar 6 = 2 := by decide
  refine ⟨?_, ?_⟩
  · rw [runD_one (x := nd0 5) (by show 0 ≤ ar 5; omega) (by show ar 5 ≤ d + 2; omega) (okN_nd0 _ (by decide)), show d + 2 + 1 - ar (nd0 5).k = d + 1 by show d + 2 + 1 - ar 5 = d + 1; omega]
  · rw [runD_one (x := nd0 6) (by show 0 ≤ ar 6; omega) (by show ar 6 ≤ d + 2; omega) (okN_nd0 _ (by decide)), show d + 2 + 1 - ar (nd0 6).k = d + 1 by show d + 2 + 1 - ar 6 = d + 1; omega]
/-- Are all repeats such as a tree lets be? -/
def repsOk (T : Nat → Tn) (n : Nat) : Prop := ∀ i, i < n → (T i).k = 5 → okN (ndRep (T i)) = true
def eRun (n m : Nat) (e : Nat → List Nd × Nat) : Prop := ∀ a, m ≤ a → a ≤ n → ∀ d, 0 ≤ d → runD (e a).1 d = some (d + 1)
theorem repsL_run {T : Nat → Tn} {n : Nat} (ho : repsOk T n) : ∀ u i d, 1 ≤ d → runD (repsL T n u i).1 d = some d := by
  intro u
  induction u with
  | zero => intro i d hd; rfl
  | succ u ih =>
    intro i d hd
    unfold repsL
    split
    · rename_i h
      have e7 : ar (ndRep (T i)).k = 1 := by show ar 7 = 1; decide
      simp only [runD]
      rw [if_pos ⟨by omega, by omega, ho i h.1 h.2⟩, show d + 1 - ar (ndRep (T i)).k = d by omega]
      exact ih _ _ hd
    · rfl
theorem partF_run {T : Nat → Tn} {n m : Nat} {e : Nat → List Nd × Nat} (ho : repsOk T n) (he : eRun n m e) {a : Nat} (h1 : m ≤ a + 1) (h2 : a < n) (d : Int) (hd : 0 ≤ d) : runD (partF T n e a).1 d = some (d + 1) := by
  have hb : runD (partB T e a).1 d = some (d + 1) := by
    unfold partB
    split
    · exact run_set hd
    · split
      · exact (run_leaf hd).2.1
      · split
        · exact (run_leaf hd).2.2
        · exact he (a + 1) h1 (by omega) d hd
  unfold partF
  rw [runD_append, hb]
  exact repsL_run ho _ _ _ (by omega)
theorem behL_run {T : Nat → Tn} {n m : Nat} {e : Nat → List Nd × Nat} (ho : repsOk T n) (hk : eOk n m e) (he : eRun n m e) (d : Int) (hd : 0 ≤ d) : ∀ u i acc many, m ≤ i + 1 → n + 1 ≤ u + i → 0 < u →
    runD acc d = some (d + if many = 0 then 0 else 1) → runD (behL T n e u i acc many).1 d = some (d + 1) := by
  intro u
  induction u with
  | zero => intro i acc many _ _ h _; omega
  | succ u ih =>
    intro i acc many h1 h2 _ h3
    unfold behL
    split
    · rename_i hc
      have hp := partF_bd (T := T) hk (a := i) h1 hc.1
      have hr := partF_run ho he (a := i) h1 hc.1
      refine ih _ _ _ (by omega) (by omega) (by omega) ?_
      rw [runD_append, runD_append, h3]
      rcases Nat.eq_zero_or_pos many with h | h
      · rw [if_pos h, if_pos h, if_neg (by omega)]
        simp only [Int.add_zero, Option.bind_some]
        rw [hr d hd]; rfl
      · rw [if_neg (by omega), if_neg (by omega), if_neg (by omega)]
        simp only [Option.bind_some]
        rw [hr (d + 1) (by omega)]
        simp only [Option.bind_some]
        rw [show d + 1 + 1 = d + 2 by omega]
        exact (run_two hd).1
    · simp only
      split
      · exact (run_leaf hd).1
      · rename_i h
        rw [if_neg h] at h3
        exact h3
theorem bhF_run {T : Nat → Tn} {n m : Nat} {e : Nat → List Nd × Nat} (ho : repsOk T n) (hk : eOk n m e) (he : eRun n m e) (a : Nat) (h1 : m ≤ a + 1) (d : Int) (hd : 0 ≤ d) : runD (bhF T n e a).1 d = some (d + 1) :=
  behL_run ho hk he d hd _ _ _ _ h1 (by omega) (by omega) (by simp [runD])
theorem eiL_run {T : Nat → Tn} {n m : Nat} {e : Nat → List Nd × Nat} (ho : repsOk T n) (hk : eOk n m e) (he : eRun n m e) (d : Int) (hd : 0 ≤ d) : ∀ u i acc, m ≤ i + 1 → runD acc d = some (d + 1) → runD (eiL T n e u i acc).1 d = some (d + 1) := by
  intro u
  induction u with
  | zero => intro i acc _ h; exact h
  | succ u ih =>
    intro i acc h1 h3
    unfold eiL
    split
    · rename_i hc
      have hb := bhF_bd (T := T) hk (i + 1) (by omega) (by omega)
      refine ih _ _ (by omega) ?_
      rw [runD_append, runD_append, h3]
      simp only [Option.bind_some]
      rw [bhF_run ho hk he (i + 1) (by omega) (d + 1) (by omega)]
      simp only [Option.bind_some]
      rw [show d + 1 + 1 = d + 2 by omega]
      exact (run_two hd).2
    · exact h3
theorem ei_run {T : Nat → Tn} {n : Nat} (ho : repsOk T n) : ∀ u, eRun n (n + 1 - u) (ei T n u) := by
  intro u
  induction u with
  | zero => intro a h1 h2; omega
  | succ u ih =>
    intro a h1 h2 d hd
    have hb := bhF_bd (T := T) (ei_ok T n u) a (by omega) h2
    exact eiL_run ho (ei_ok T n u) ih d hd _ _ _ (by omega) (bhF_run ho (ei_ok T n u) ih a (by omega) d hd)
end Go.Proofs.YtiahgcgpakgeeaaDoor
