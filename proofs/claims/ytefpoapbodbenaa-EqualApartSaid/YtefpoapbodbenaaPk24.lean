/-
  What a state of a decided automaton accepts; how long a word must be that tells two states apart. Plain.
  Things that are met one after the other, and where each goes: a machine of rounds. Plain.
  The least automaton of some words, by what is left of them behind a word. Plain.
  The fewest symbols that tell two automata apart, and the least of them: by the number of a word; ways that are met one after the other. Plain.
  What tells two automata apart, by what is left of words; how many ways can be met. Plain.
  Which of some things are kin: each one names another one, the one that names itself stands for all. Plain.
  Pairs that are met in the order of their words, needless ones left out: the first at which both part. Plain.
  Maps whose keys are pairs of numbers: what a key reads as; what either list tells apart, as a map.
-/
import Derived.Test.YtefpoapbodbenaaPk12
import Derived.Test.YtefpoapbodbenaaPk7
import Derived.Test.YtefpoapbodbenaaPk5
import Derived.Test.YtefpoapbodbenaaPk9
import Derived.Maps.OwnSet
import Derived.DeepKeys4
namespace Go.Proofs.Ytefpoapbodbenaa

def okw (w : List Nat) : Prop := ∀ y, y ∈ w → y < 259
theorem okw_nil : okw [] := fun _ h => absurd h List.not_mem_nil
theorem okw_cons {y : Nat} {w : List Nat} : okw (y :: w) ↔ y < 259 ∧ okw w :=
  ⟨fun h => ⟨h y (List.mem_cons_self ..), fun z hz => h z (List.mem_cons_of_mem _ hz)⟩, fun h z hz => by
    rcases List.mem_cons.1 hz with rfl | g
    · exact h.1
    · exact h.2 z g⟩
theorem okw_append {v w : List Nat} : okw (v ++ w) ↔ okw v ∧ okw w :=
  ⟨fun h => ⟨fun y hy => h y (List.mem_append_left _ hy), fun y hy => h y (List.mem_append_right _ hy)⟩, fun h y hy => by
    rcases List.mem_append.1 hy with g | g
    · exact h.1 y g
    · exact h.2 y g⟩
def runW (x : Da) (s : Nat) (w : List Nat) : Nat := w.foldl (goD x) s
theorem runW_cons (x : Da) (s y : Nat) (w : List Nat) : runW x s (y :: w) = runW x (goD x s y) w := rfl
theorem runW_append (x : Da) (s : Nat) (v w : List Nat) : runW x s (v ++ w) = runW x (runW x s v) w := by
  unfold runW
  rw [List.foldl_append]
theorem runW_lt {x : Da} (h : rgD x) : ∀ (w : List Nat) (s : Nat), s < x.n2 → okw w → runW x s w < x.n2
  | [], _, hs, _ => hs
  | y :: w, s, hs, hw => by
    rw [okw_cons] at hw
    rw [runW_cons]
    exact runW_lt h w _ (goD_at h hs hw.1).2.2 hw.2
abbrev Lng := List Nat → Prop
/-- The words that a state accepts. -/
def lnW (x : Da) (s : Nat) : Lng := fun w => okw w ∧ x.T (runW x s w) = true
/-- What is left of words behind a symbol. -/
def der (y : Nat) (X : Lng) : Lng := fun w => X (y :: w)
theorem lnW_go (x : Da) (s : Nat) {y : Nat} (hy : y < 259) : lnW x (goD x s y) = der y (lnW x s) := by
  funext w
  apply propext
  constructor
  · rintro ⟨h1, h2⟩; exact ⟨okw_cons.2 ⟨hy, h1⟩, h2⟩
  · rintro ⟨h1, h2⟩; exact ⟨(okw_cons.1 h1).2, h2⟩
def ders (v : List Nat) (X : Lng) : Lng := fun w => X (v ++ w)
theorem ders_cons (y : Nat) (v : List Nat) (X : Lng) : ders (y :: v) X = ders v (der y X) := rfl
theorem ders_snoc (v : List Nat) (y : Nat) (X : Lng) : ders (v ++ [y]) X = der y (ders v X) := by
  funext w
  show X (v ++ [y] ++ w) = X (v ++ (y :: w))
  rw [List.append_assoc]; rfl
theorem lnW_run (x : Da) : ∀ (v : List Nat) (s : Nat), okw v → lnW x (runW x s v) = ders v (lnW x s)
  | [], _, _ => rfl
  | y :: v, s, hv => by
    rw [okw_cons] at hv
    rw [runW_cons, ders_cons, lnW_run x v _ hv.2, lnW_go x s hv.1]
theorem lnW_T {x : Da} {i k : Nat} (h : lnW x i = lnW x k) : x.T i = x.T k := by
  have := congrFun h []
  unfold lnW at this
  rw [Bool.eq_iff_iff]
  exact ⟨fun g => (this.mp ⟨okw_nil, g⟩).2, fun g => (this.mpr ⟨okw_nil, g⟩).2⟩
theorem lnW_same {x : Da} {i k y : Nat} (h : lnW x i = lnW x k) (hy : y < 259) : lnW x (goD x i y) = lnW x (goD x k y) := by rw [lnW_go x i hy, lnW_go x k hy, h]

/-- No word so short tells two states apart. -/
def apR (x : Da) (t i k : Nat) : Prop := ∀ w, okw w → w.length ≤ t → x.T (runW x i w) = x.T (runW x k w)
theorem apR_succ {x : Da} {t i k : Nat} : apR x (t + 1) i k ↔ x.T i = x.T k ∧ ∀ y, y < 259 → apR x t (goD x i y) (goD x k y) := by
  constructor
  · intro h
    exact ⟨h [] okw_nil (Nat.zero_le _), fun y hy w hw hl => h (y :: w) (okw_cons.2 ⟨hy, hw⟩) (Nat.succ_le_succ hl)⟩
  · rintro ⟨h1, h2⟩ w hw hl
    match w, hw, hl with
    | [], _, _ => exact h1
    | y :: w, hw, hl =>
      rw [okw_cons] at hw
      exact h2 y hw.1 w hw.2 (Nat.le_of_succ_le_succ hl)
theorem apR_le {x : Da} {t u i k : Nat} (h : apR x u i k) (ht : t ≤ u) : apR x t i k := fun w hw hl => h w hw (Nat.le_trans hl ht)
theorem apR_all {x : Da} {i k : Nat} : (∀ t, apR x t i k) ↔ lnW x i = lnW x k := by
  constructor
  · intro h
    funext w
    apply propext
    unfold lnW
    constructor
    · rintro ⟨h1, h2⟩; exact ⟨h1, (h w.length w h1 (Nat.le_refl _)) ▸ h2⟩
    · rintro ⟨h1, h2⟩; exact ⟨h1, (h w.length w h1 (Nat.le_refl _)).symm ▸ h2⟩
  · intro h t w hw _
    have := congrFun (lnW_run x w i hw ▸ lnW_run x w k hw ▸ congrArg (ders w) h : lnW x (runW x i w) = lnW x (runW x k w)) []
    exact lnW_T (by rw [lnW_run x w i hw, lnW_run x w k hw, h])
noncomputable def apB (x : Da) (t i k : Nat) : Bool := @decide (apR x t i k) (Classical.propDecidable _)
theorem apB_iff {x : Da} {t i k : Nat} : apB x t i k = true ↔ apR x t i k := by unfold apB; simp
theorem apB_eq (x : Da) (t : Nat) : eqR (apB x t) where
  re _ := apB_iff.2 fun _ _ _ => rfl
  sy _ _ h := apB_iff.2 fun w hw hl => (apB_iff.1 h w hw hl).symm
  tr _ _ _ h g := apB_iff.2 fun w hw hl => (apB_iff.1 h w hw hl).trans (apB_iff.1 g w hw hl)
theorem cnt_strict {T U : Nat → Bool} (hTU : ∀ j, T j = true → U j = true) {j : Nat} (hj : U j = true) (hn : T j = false) : ∀ {n}, j < n → cntT T n < cntT U n
  | 0, h => absurd h (Nat.not_lt_zero _)
  | n + 1, h => by
    rw [cntT_succ, cntT_succ]
    have hle : ∀ n, cntT T n ≤ cntT U n := by
      intro n
      induction n with
      | zero => exact Nat.le_refl _
      | succ n ih =>
        rw [cntT_succ, cntT_succ]
        by_cases e : T n = true
        · rw [if_pos e, if_pos (hTU n e)]; omega
        · rw [if_neg e]; split <;> omega
    by_cases e : j = n
    · subst e
      rw [if_neg (by rw [hn]; simp), if_pos hj]
      have := hle j
      omega
    · have := cnt_strict hTU hj hn (n := n) (by omega)
      by_cases e : T n = true
      · rw [if_pos e, if_pos (hTU n e)]; omega
      · rw [if_neg e]; split <;> omega
/-- A finer relation has all heads of a coarser one. -/
theorem isH_fine {R R' : Nat → Nat → Bool} (h : ∀ i k, R' i k = true → R i k = true) {j : Nat} (hj : isH R j = true) : isH R' j = true := by
  unfold isH at hj ⊢
  rw [beq_iff_eq] at hj ⊢
  refine hdA_self fun i hi => ?_
  cases e : R' i j with
  | false => rfl
  | true =>
    have h1 := hdA_least (R := R) (x := j) (k := i) (by omega)
    rw [h i j e] at h1; cases h1
/-- Where a finer relation has no more heads, it is no finer. -/
theorem same_heads {R R' : Nat → Nat → Bool} (hR : eqR R) (hR' : eqR R') (h : ∀ i k, R' i k = true → R i k = true) {n : Nat} (hh : ∀ j, j < n → isH R' j = true → isH R j = true) {i k : Nat} (hi : i < n) (hk : k < n) (hik : R i k = true) : R' i k = true := by
  have key : ∀ a, a < n → hdA R' a = hdA R a := fun a ha => by
    have h1 := hdA_le R' a
    have h2 := hh _ (by omega) (hdA_head hR' a)
    have h3 : R (hdA R' a) a = true := h _ _ (hdA_like hR'.re a)
    have h4 := hdA_same hR h3
    unfold isH at h2
    rw [beq_iff_eq] at h2
    rw [← h2, h4]
  have h1 := hdA_same hR hik
  rw [← key i hi, ← key k hk] at h1
  have h2 := hdA_like hR'.re i
  have h3 := hdA_like hR'.re k
  rw [h1] at h2
  exact hR'.tr _ _ _ (hR'.sy _ _ h2) h3
theorem apB_fine {x : Da} {t u : Nat} (h : t ≤ u) : ∀ i k, apB x u i k = true → apB x t i k = true := fun _ _ g => apB_iff.2 (apR_le (apB_iff.1 g) h)
theorem apB_cnt {x : Da} {t u : Nat} (h : t ≤ u) {j n : Nat} (hj : isH (apB x u) j = true) (hn : isH (apB x t) j = false) (hl : j < n) : cntT (isH (apB x t)) n < cntT (isH (apB x u)) n :=
  cnt_strict (T := isH (apB x t)) (U := isH (apB x u)) (fun _ g => isH_fine (apB_fine h) g) hj hn hl
/-- Where the words of one length more tell no more states apart, no words do. -/
theorem apR_stop {x : Da} (hx : rgD x) {t : Nat} (h : ∀ i k, i < x.n2 → k < x.n2 → apR x t i k → apR x (t + 1) i k) : ∀ d i k, i < x.n2 → k < x.n2 → apR x t i k → apR x (t + d) i k
  | 0, _, _, _, _, g => g
  | d + 1, i, k, hi, hk, g => by
    have h1 := h i k hi hk g
    show apR x (t + d + 1) i k
    rw [apR_succ] at h1 ⊢
    exact ⟨h1.1, fun y hy => apR_stop hx h d _ _ (goD_at hx hi hy).2.2 (goD_at hx hk hy).2.2 (h1.2 y hy)⟩
/-- Words of as many symbols as there are states tell apart what can be told apart. -/
theorem apR_deep {x : Da} (hx : rgD x) {i k : Nat} (hi : i < x.n2) (hk : k < x.n2) (h : apR x x.n2 i k) : lnW x i = lnW x k := by
  have main : ∀ t, (∃ u, u ≤ t ∧ ∀ i k, i < x.n2 → k < x.n2 → apR x u i k → apR x (u + 1) i k) ∨ t + 2 ≤ cntT (isH (apB x (t + 1))) x.n2 := by
    intro t
    induction t with
    | zero =>
      by_cases e : ∀ i k, i < x.n2 → k < x.n2 → apR x 0 i k → apR x 1 i k
      · exact .inl ⟨0, Nat.le_refl _, e⟩
      · right
        simp only [Classical.not_forall] at e
        obtain ⟨i, k, hi, hk, h1, h2⟩ := e
        have h0 : 0 < cntT (isH (apB x 0)) x.n2 := by
          have := clA_lt (apB_eq x 0) (show 0 < x.n2 by omega)
          omega
        have hs : ∃ j, j < x.n2 ∧ isH (apB x 1) j = true ∧ isH (apB x 0) j = false := by
          apply Classical.byContradiction
          intro hno
          apply h2
          refine apB_iff.1 (same_heads (apB_eq x 0) (apB_eq x 1) (fun a b g => apB_iff.2 (apR_le (apB_iff.1 g) (Nat.zero_le _))) (fun j hj g => ?_) hi hk (apB_iff.2 h1))
          cases e : isH (apB x 0) j with
          | true => rfl
          | false => exact absurd ⟨j, hj, g, e⟩ hno
        obtain ⟨j, hj, g1, g2⟩ := hs
        have := apB_cnt (Nat.zero_le 1) g1 g2 hj
        show 0 + 2 ≤ cntT (isH (apB x 1)) x.n2
        omega
    | succ t ih =>
      rcases ih with ⟨u, hu, h⟩ | ih
      · exact .inl ⟨u, by omega, h⟩
      · by_cases e : ∀ i k, i < x.n2 → k < x.n2 → apR x (t + 1) i k → apR x (t + 2) i k
        · exact .inl ⟨t + 1, Nat.le_refl _, e⟩
        · right
          simp only [Classical.not_forall] at e
          obtain ⟨i, k, hi, hk, h1, h2⟩ := e
          have hs : ∃ j, j < x.n2 ∧ isH (apB x (t + 2)) j = true ∧ isH (apB x (t + 1)) j = false := by
            apply Classical.byContradiction
            intro hno
            apply h2
            refine apB_iff.1 (same_heads (apB_eq x (t + 1)) (apB_eq x (t + 2)) (fun a b g => apB_iff.2 (apR_le (apB_iff.1 g) (Nat.le_succ _))) (fun j hj g => ?_) hi hk (apB_iff.2 h1))
            cases e : isH (apB x (t + 1)) j with
            | true => rfl
            | false => exact absurd ⟨j, hj, g, e⟩ hno
          obtain ⟨j, hj, g1, g2⟩ := hs
          have := apB_cnt (show t + 1 ≤ t + 2 by omega) g1 g2 hj
          show t + 1 + 2 ≤ cntT (isH (apB x (t + 2))) x.n2
          omega
  rcases main x.n2 with ⟨u, hu, g⟩ | g
  · refine apR_all.1 fun t => ?_
    have h1 := apR_stop hx g t i k hi hk (apR_le h hu)
    exact apR_le h1 (Nat.le_add_left t u)
  · have := cntT_le (isH (apB x (x.n2 + 1))) x.n2
    omega
end Go.Proofs.Ytefpoapbodbenaa

namespace Go.Proofs.Ytefpoapbodbenaa

section
variable {α : Type}
/-- The place of a thing among some; how many they are, if it is none of them. -/
noncomputable def ixG (L : List α) (x : α) : Nat := L.findIdx fun y => @decide (y = x) (Classical.propDecidable _)
theorem ixG_le (L : List α) (x : α) : ixG L x ≤ L.length := List.findIdx_le_length
noncomputable def adG (L : List α) (x : α) : List α := if ixG L x < L.length then L else L ++ [x]
theorem ixG_at {L : List α} {x : α} (h : ixG L x < L.length) : L[ixG L x]? = some x := by
  rw [List.getElem?_eq_getElem h]
  have := List.findIdx_getElem (p := fun y => @decide (y = x) (Classical.propDecidable _)) (xs := L) (w := h)
  exact congrArg some (@of_decide_eq_true _ (Classical.propDecidable _) this)
theorem ixG_mem {L : List α} {x : α} : ixG L x < L.length ↔ x ∈ L := by
  constructor
  · intro h
    exact List.mem_of_getElem? (ixG_at h)
  · intro h
    unfold ixG
    exact List.findIdx_lt_length.2 ⟨x, h, by simp⟩
theorem ixG_is {L : List α} (hn : L.Nodup) {i : Nat} {x : α} (h : L[i]? = some x) : ixG L x = i := by
  have hi : i < L.length := by
    rcases Nat.lt_or_ge i L.length with g | g
    · exact g
    · rw [List.getElem?_eq_none g] at h; cases h
  have hlt : ixG L x < L.length := ixG_mem.2 (List.mem_of_getElem? h)
  have h2 := ixG_at hlt
  rw [List.getElem?_eq_getElem hi] at h
  rw [List.getElem?_eq_getElem hlt] at h2
  exact (List.getElem_inj hn).1 ((Option.some.inj h2).trans (Option.some.inj h).symm)
theorem adG_nodup {L : List α} (h : L.Nodup) (x : α) : (adG L x).Nodup := by
  unfold adG
  split
  · exact h
  · rename_i g
    rw [ixG_mem] at g
    rw [List.nodup_append]
    refine ⟨h, by simp, ?_⟩
    intro a ha b hb e
    have : b = x := by simpa using hb
    subst this
    exact g (e ▸ ha)
theorem adG_len (L : List α) (x : α) : L.length ≤ (adG L x).length ∧ (adG L x).length ≤ L.length + 1 := by
  unfold adG
  split
  · omega
  · simp
theorem adG_old {L : List α} {x : α} {j : Nat} (h : j < L.length) : (adG L x)[j]? = L[j]? := by
  unfold adG
  split
  · rfl
  · rw [List.getElem?_append_left h]
theorem adG_at (L : List α) (x : α) : (adG L x)[ixG L x]? = some x := by
  unfold adG
  split
  · rename_i h; exact ixG_at h
  · rename_i h
    have e : ixG L x = L.length := by have := ixG_le L x; omega
    rw [e]; simp
theorem adG_mem {L : List α} {x y : α} : y ∈ adG L x ↔ y ∈ L ∨ y = x := by
  unfold adG
  split
  · rename_i h
    constructor
    · exact .inl
    · rintro (g | rfl)
      · exact g
      · exact ixG_mem.1 h
  · simp
/-- What is met, and where each goes. -/
abbrev Mt (α : Type) := List α × List Nat
noncomputable def clG (go : Nat → α → α) (X : α) : Nat → Mt α → Mt α
  | 0, s => s
  | c + 1, s => (adG (clG go X c s).1 (go c X), (clG go X c s).2 ++ [ixG (clG go X c s).1 (go c X)])
noncomputable def atG (go : Nat → α → α) (width : Nat) (T0 : α) : Nat → Mt α
  | 0 => ([T0], [])
  | a + 1 => match (atG go width T0 a).1[a]? with
    | none => atG go width T0 a
    | some X => clG go X width (atG go width T0 a)
variable {go : Nat → α → α} {width : Nat} {T0 : α}
theorem clG_len {X : α} {s : Mt α} : ∀ c, s.1.length ≤ (clG go X c s).1.length ∧ (clG go X c s).1.length ≤ s.1.length + c ∧ (clG go X c s).2.length = s.2.length + c
  | 0 => ⟨Nat.le_refl _, Nat.le_refl _, rfl⟩
  | c + 1 => by
    obtain ⟨h1, h2, h3⟩ := clG_len (X := X) (s := s) c
    have h4 := adG_len (clG go X c s).1 (go c X)
    refine ⟨?_, ?_, ?_⟩
    · show _ ≤ (adG _ _).length; omega
    · show (adG _ _).length ≤ _; omega
    · show (_ ++ [_]).length = _
      rw [List.length_append, h3]; rfl
theorem clG_old {X : α} {s : Mt α} {j : Nat} (hj : j < s.1.length) : ∀ c, (clG go X c s).1[j]? = s.1[j]?
  | 0 => rfl
  | c + 1 => by
    show (adG _ _)[j]? = _
    rw [adG_old (Nat.lt_of_lt_of_le hj (clG_len c).1), clG_old hj c]
theorem clG_nodup {X : α} {s : Mt α} (h : s.1.Nodup) : ∀ c, (clG go X c s).1.Nodup
  | 0 => h
  | c + 1 => adG_nodup (clG_nodup h c) _
theorem clG_mem {X : α} {s : Mt α} {y : α} : ∀ c, y ∈ (clG go X c s).1 → y ∈ s.1 ∨ ∃ d, d < c ∧ y = go d X
  | 0, h => .inl h
  | c + 1, h => by
    rcases adG_mem.1 (show y ∈ adG _ _ from h) with g | g
    · rcases clG_mem c g with g | ⟨d, h1, h2⟩
      · exact .inl g
      · exact .inr ⟨d, by omega, h2⟩
    · exact .inr ⟨c, Nat.lt_succ_self c, g⟩
theorem clG_nx {X : α} {s : Mt α} : ∀ c, (∀ j, j < s.2.length → (clG go X c s).2[j]? = s.2[j]?) ∧ ∀ d, d < c → ∃ k, (clG go X c s).2[s.2.length + d]? = some k ∧ (clG go X c s).1[k]? = some (go d X)
  | 0 => ⟨fun _ _ => rfl, fun d hd => absurd hd (Nat.not_lt_zero _)⟩
  | c + 1 => by
    obtain ⟨h1, h2⟩ := clG_nx (X := X) (s := s) c
    have hl := (clG_len (go := go) (X := X) (s := s) c).2.2
    refine ⟨fun j hj => ?_, fun d hd => ?_⟩
    · show (_ ++ [_])[j]? = _
      rw [List.getElem?_append_left (by omega)]
      exact h1 j hj
    · by_cases e : d = c
      · subst e
        refine ⟨ixG (clG go X d s).1 (go d X), ?_, adG_at _ _⟩
        show (_ ++ [_])[s.2.length + d]? = _
        rw [← hl]
        simp
      · obtain ⟨k, g1, g2⟩ := h2 d (by omega)
        refine ⟨k, ?_, ?_⟩
        · show (_ ++ [_])[s.2.length + d]? = _
          rw [List.getElem?_append_left (by omega)]
          exact g1
        · show (adG _ _)[k]? = _
          rw [adG_old (by
            rcases Nat.lt_or_ge k (clG go X c s).1.length with h | h
            · exact h
            · rw [List.getElem?_eq_none h] at g2; cases g2)]
          exact g2
theorem atG_go {a : Nat} {X : α} (h : (atG go width T0 a).1[a]? = some X) : atG go width T0 (a + 1) = clG go X width (atG go width T0 a) := by
  show (match (atG go width T0 a).1[a]? with | none => _ | some X => _) = _
  rw [h]
theorem atG_stay {a : Nat} (h : (atG go width T0 a).1.length ≤ a) : atG go width T0 (a + 1) = atG go width T0 a := by
  show (match (atG go width T0 a).1[a]? with | none => _ | some X => _) = _
  rw [List.getElem?_eq_none h]
theorem atG_mono (a : Nat) : (atG go width T0 a).1.length ≤ (atG go width T0 (a + 1)).1.length := by
  cases h : (atG go width T0 a).1[a]? with
  | none => rw [atG_stay (List.getElem?_eq_none_iff.1 h)]; exact Nat.le_refl _
  | some X => rw [atG_go h]; exact (clG_len width).1
theorem atG_le {a b : Nat} (h : a ≤ b) : (atG go width T0 a).1.length ≤ (atG go width T0 b).1.length := by
  induction b with
  | zero => have : a = 0 := by omega
            subst this; exact Nat.le_refl _
  | succ b ih =>
    by_cases e : a = b + 1
    · subst e; exact Nat.le_refl _
    · exact Nat.le_trans (ih (by omega)) (atG_mono b)
theorem atG_one (a : Nat) : 1 ≤ (atG go width T0 a).1.length := atG_le (a := 0) (Nat.zero_le a)
theorem atG_end {a b : Nat} (hab : a ≤ b) (h : (atG go width T0 a).1.length ≤ a) : atG go width T0 b = atG go width T0 a := by
  induction b with
  | zero => have : a = 0 := by omega
            subst this; rfl
  | succ b ih =>
    by_cases e : a = b + 1
    · subst e; rfl
    · have := ih (by omega)
      rw [atG_stay (by rw [this]; omega), this]
theorem atG_old {a b j : Nat} (hab : a ≤ b) (hj : j < (atG go width T0 a).1.length) : (atG go width T0 b).1[j]? = (atG go width T0 a).1[j]? := by
  induction b with
  | zero => have : a = 0 := by omega
            subst this; rfl
  | succ b ih =>
    by_cases e : a = b + 1
    · subst e; rfl
    · have := ih (by omega)
      have hl := atG_le (go := go) (width := width) (T0 := T0) (show a ≤ b by omega)
      rw [← this]
      cases h : (atG go width T0 b).1[b]? with
      | none => rw [atG_stay (List.getElem?_eq_none_iff.1 h)]
      | some X => rw [atG_go h]; exact clG_old (by omega) width
theorem atG_zero (a : Nat) : (atG go width T0 a).1[0]? = some T0 := by
  rw [atG_old (Nat.zero_le a) (by show 0 < 1; decide)]; rfl
theorem atG_nodup : ∀ a, (atG go width T0 a).1.Nodup
  | 0 => by show [T0].Nodup; simp
  | a + 1 => by
    cases h : (atG go width T0 a).1[a]? with
    | none => rw [atG_stay (List.getElem?_eq_none_iff.1 h)]; exact atG_nodup a
    | some X => rw [atG_go h]; exact clG_nodup (atG_nodup a) width
/-- Whatever holds of the first one, and is kept, holds of all. -/
theorem atG_all {P : α → Prop} (h0 : P T0) (hs : ∀ X c, P X → c < width → P (go c X)) : ∀ a X, X ∈ (atG go width T0 a).1 → P X
  | 0, X, h => by
    have : X = T0 := by simpa using (show X ∈ [T0] from h)
    subst this; exact h0
  | a + 1, X, h => by
    cases e : (atG go width T0 a).1[a]? with
    | none => rw [atG_stay (List.getElem?_eq_none_iff.1 e)] at h; exact atG_all h0 hs a X h
    | some Y =>
      rw [atG_go e] at h
      have hY := atG_all h0 hs a Y (List.mem_of_getElem? e)
      rcases clG_mem width h with g | ⟨d, hd, rfl⟩
      · exact atG_all h0 hs a X g
      · exact hs Y d hY hd
theorem atG_nx : ∀ a, (∀ b, b < a → b < (atG go width T0 b).1.length) → (atG go width T0 a).2.length = a * width ∧ ∀ b, b < a → ∀ c, c < width → ∃ k X, (atG go width T0 a).2[b * width + c]? = some k ∧ (atG go width T0 a).1[b]? = some X ∧ (atG go width T0 a).1[k]? = some (go c X)
  | 0, _ => ⟨by rw [Nat.zero_mul]; rfl, fun b hb => absurd hb (Nat.not_lt_zero _)⟩
  | a + 1, ha => by
    obtain ⟨h1, h2⟩ := atG_nx a fun b hb => ha b (by omega)
    have hal := ha a (Nat.lt_succ_self a)
    have hX := List.getElem?_eq_getElem hal
    generalize (atG go width T0 a).1[a] = X at hX
    rw [atG_go hX]
    obtain ⟨g1, g2⟩ := clG_nx (go := go) (X := X) (s := atG go width T0 a) width
    refine ⟨by rw [(clG_len width).2.2, h1, Nat.succ_mul], fun b hb c hc => ?_⟩
    by_cases e : b = a
    · subst e
      obtain ⟨k, k1, k2⟩ := g2 c hc
      rw [h1] at k1
      exact ⟨k, X, k1, by rw [clG_old hal]; exact hX, k2⟩
    · obtain ⟨k, Y, k1, k2, k3⟩ := h2 b (by omega) c hc
      have lt_of : ∀ {j : Nat} {Z : α}, (atG go width T0 a).1[j]? = some Z → j < (atG go width T0 a).1.length := fun {j Z} h => by
        rcases Nat.lt_or_ge j (atG go width T0 a).1.length with g | g
        · exact g
        · rw [List.getElem?_eq_none g] at h; cases h
      have hlt : b * width + c < (atG go width T0 a).2.length := by
        rw [h1]
        have : (b + 1) * width ≤ a * width := Nat.mul_le_mul_right width (by omega)
        rw [Nat.succ_mul] at this
        omega
      exact ⟨k, Y, by rw [g1 _ hlt]; exact k1, by rw [clG_old (lt_of k2)]; exact k2, by rw [clG_old (lt_of k3)]; exact k3⟩
/-- Where no more than N things can be met, all is done behind N rounds: each goes somewhere by each class. -/
theorem atG_full {N : Nat} (h : (atG go width T0 N).1.length ≤ N) :
    (atG go width T0 N).2.length = (atG go width T0 N).1.length * width ∧
    ∀ b, b < (atG go width T0 N).1.length → ∀ c, c < width → ∃ k X, (atG go width T0 N).2[b * width + c]? = some k ∧ (atG go width T0 N).1[b]? = some X ∧ (atG go width T0 N).1[k]? = some (go c X) := by
  have main : ∀ K, (atG go width T0 K).1.length ≤ K → ∃ a, a ≤ K ∧ (∀ b, b < a → b < (atG go width T0 b).1.length) ∧ (atG go width T0 a).1.length ≤ a := by
    intro K
    induction K with
    | zero => intro h; exact ⟨0, Nat.le_refl _, fun b hb => absurd hb (Nat.not_lt_zero _), h⟩
    | succ K ih =>
      intro h
      by_cases e : (atG go width T0 K).1.length ≤ K
      · obtain ⟨a, h1, h2, h3⟩ := ih e
        exact ⟨a, by omega, h2, h3⟩
      · by_cases g : ∀ b, b < K + 1 → b < (atG go width T0 b).1.length
        · exact ⟨K + 1, Nat.le_refl _, g, h⟩
        · simp only [Classical.not_forall] at g
          obtain ⟨b, hb, hn⟩ := g
          have hbK : (atG go width T0 b).1.length ≤ b := by omega
          rw [atG_end (show b ≤ K by omega) hbK] at e
          omega
  obtain ⟨a, h1, h2, h3⟩ := main _ h
  have e : atG go width T0 N = atG go width T0 a := atG_end h1 h3
  have hal : (atG go width T0 a).1.length = a := by
    refine Nat.le_antisymm h3 ?_
    rcases Nat.eq_zero_or_pos a with rfl | hp
    · omega
    · have g1 := h2 (a - 1) (by omega)
      have g2 := atG_le (go := go) (width := width) (T0 := T0) (show a - 1 ≤ a by omega)
      omega
  rw [e, hal]
  exact atG_nx a h2
/-- Things that can be numbered below N, each by a number of its own, are no more than N. -/
theorem atG_bound {N : Nat} (f : Nat → α) (h0 : ∃ i, i < N ∧ f i = T0) (hs : ∀ i c, i < N → c < width → ∃ j, j < N ∧ f j = go c (f i)) (a : Nat) : (atG go width T0 a).1.length ≤ N := by
  have hall : ∀ X, X ∈ (atG go width T0 a).1 → ∃ i, i < N ∧ f i = X := atG_all (P := fun X => ∃ i, i < N ∧ f i = X) h0 (fun X c ⟨i, hi, e⟩ hc => e ▸ hs i c hi hc) a
  have hnd := atG_nodup (go := go) (width := width) (T0 := T0) a
  generalize (atG go width T0 a).1 = L at hall hnd
  have key : ∀ (L : List α), (∀ X, X ∈ L → ∃ i, i < N ∧ f i = X) → L.Nodup → ∃ A : List Nat, A.length = L.length ∧ A.Nodup ∧ (∀ i, i ∈ A → i < N) ∧ ∀ i, i ∈ A → f i ∈ L := by
    intro L
    induction L with
    | nil => intro _ _; exact ⟨[], rfl, List.nodup_nil, fun _ h => absurd h List.not_mem_nil, fun _ h => absurd h List.not_mem_nil⟩
    | cons X L ih =>
      intro h hn
      obtain ⟨A, h1, h2, h3, h4⟩ := ih (fun Y hY => h Y (List.mem_cons_of_mem _ hY)) (List.nodup_cons.1 hn).2
      obtain ⟨i, hi, e⟩ := h X (List.mem_cons_self ..)
      refine ⟨i :: A, by simp [h1], List.nodup_cons.2 ⟨fun hA => (List.nodup_cons.1 hn).1 (e ▸ h4 i hA), h2⟩, fun j hj => ?_, fun j hj => ?_⟩
      · rcases List.mem_cons.1 hj with rfl | g
        · exact hi
        · exact h3 j g
      · rcases List.mem_cons.1 hj with rfl | g
        · rw [e]; exact List.mem_cons_self ..
        · exact List.mem_cons_of_mem _ (h4 j g)
  obtain ⟨A, h1, h2, h3, _⟩ := key L hall hnd
  rw [← h1]
  exact okA_le (m := N) ⟨h2, h3⟩
end
end Go.Proofs.Ytefpoapbodbenaa

namespace Go.Proofs.Ytefpoapbodbenaa

/-- The first symbol of a class. -/
def fsR (R : Nat → Nat → Bool) (c : Nat) : Nat := (fsA (fun x => (clA R x : Nat)) 259 (c : Nat)).toNat
theorem fsR_hd {R : Nat → Nat → Bool} (hR : eqR R) {y : Nat} (hy : y < 259) : fsR R (clA R y) = hdA R y := by
  have hle := hdA_le R y
  have e : (List.range 259).find? (fun i => (((clA R i : Nat) : Int) == ((clA R y : Nat) : Int))) = some (hdA R y) := by
    refine find_range (by omega) ?_ fun j hj => ?_
    · simp only [beq_iff_eq]
      have := (clA_iff hR).2 (hdA_like hR.re y)
      omega
    · rw [beq_eq_false_iff_ne]
      intro h
      have : R j y = true := (clA_iff hR).1 (by omega)
      rw [hdA_least hj] at this
      cases this
  unfold fsR fsA
  rw [e]
  simp
theorem cntT_at {T : Nat → Bool} : ∀ {m j : Nat}, j < cntT T m → ∃ y, y < m ∧ T y = true ∧ cntT T y = j
  | 0, _, h => absurd h (Nat.not_lt_zero _)
  | m + 1, j, h => by
    rw [cntT_succ] at h
    by_cases e : j < cntT T m
    · obtain ⟨y, h1, h2, h3⟩ := cntT_at e
      exact ⟨y, by omega, h2, h3⟩
    · by_cases g : T m = true
      · rw [if_pos g] at h
        exact ⟨m, Nat.lt_succ_self m, g, by omega⟩
      · rw [if_neg g] at h
        omega
theorem fsR_of {R : Nat → Nat → Bool} (hR : eqR R) {c : Nat} (h : c < cntT (isH R) 259) : fsR R c < 259 ∧ clA R (fsR R c) = c := by
  obtain ⟨y, h1, h2, h3⟩ := cntT_at h
  have hc : clA R y = c := (clA_head h2).trans h3
  have := fsR_hd hR h1
  rw [hc] at this
  have hh : hdA R y = y := by unfold isH at h2; exact beq_iff_eq.1 h2
  rw [this, hh]
  exact ⟨h1, hc⟩

section
variable (L : Lng)
/-- Two symbols that lead alike behind all words. -/
def eqY (y z : Nat) : Prop := ∀ v, okw v → der y (ders v L) = der z (ders v L)
noncomputable def syB (y z : Nat) : Bool := @decide (eqY L y z) (Classical.propDecidable _)
theorem syB_iff {y z : Nat} : syB L y z = true ↔ eqY L y z := by unfold syB; simp
theorem syB_eq : eqR (syB L) where
  re _ := (syB_iff L).2 fun _ _ => rfl
  sy _ _ h := (syB_iff L).2 fun v hv => ((syB_iff L).1 h v hv).symm
  tr _ _ _ h g := (syB_iff L).2 fun v hv => ((syB_iff L).1 h v hv).trans ((syB_iff L).1 g v hv)
noncomputable def wdL : Nat := cntT (isH (syB L)) 259
theorem wdL_pos : 0 < wdL L := by
  have := clA_lt (syB_eq L) (show 0 < 259 by decide)
  unfold wdL
  omega
theorem wdL_le : wdL L ≤ 259 := cntT_le _ _
noncomputable def goL (c : Nat) (X : Lng) : Lng := der (fsR (syB L) c) X
noncomputable def leL (N : Nat) : Mt Lng := atG (goL L) (wdL L) L N
end
section
variable {L : Lng} {N : Nat}
/-- All that is met is what is left of the words behind some word. -/
theorem leL_mem {X : Lng} (h : X ∈ (leL L N).1) : ∃ v, okw v ∧ X = ders v L :=
  atG_all (P := fun X => ∃ v, okw v ∧ X = ders v L) ⟨[], okw_nil, rfl⟩ (fun X c ⟨v, hv, e⟩ hc => ⟨v ++ [fsR (syB L) c], okw_append.2 ⟨hv, okw_cons.2 ⟨(fsR_of (syB_eq L) hc).1, okw_nil⟩⟩, by rw [ders_snoc, ← e]; rfl⟩) N X h
theorem goL_is {v : List Nat} (hv : okw v) {y : Nat} (hy : y < 259) : goL L (clA (syB L) y) (ders v L) = der y (ders v L) := by
  unfold goL
  rw [fsR_hd (syB_eq L) hy]
  exact (syB_iff L).1 (hdA_like (syB_eq L).re y) v hv
/-- Of words that an automaton accepts no more is met than it has states. -/
theorem leL_bound {x : Da} (hx : rgD x) {s : Nat} (hs : s < x.n2) (h : lnW x s = L) (a : Nat) : (leL L a).1.length ≤ x.n2 :=
  atG_bound (f := lnW x) ⟨s, hs, h⟩ (fun i c hi hc => ⟨goD x i (fsR (syB L) c), (goD_at hx hi (fsR_of (syB_eq L) hc).1).2.2, by rw [lnW_go x i (fsR_of (syB_eq L) hc).1]; rfl⟩) a
theorem leL_stop {a b : Nat} (ha : (leL L a).1.length ≤ a) (hb : (leL L b).1.length ≤ b) : leL L a = leL L b := by
  rcases Nat.le_total a b with g | g
  · exact (atG_end g ha).symm
  · exact atG_end g hb
noncomputable def leT (L : Lng) (N i : Nat) : Bool := @decide ((leL L N).1.getD i (fun _ => False) []) (Classical.propDecidable _)
/-- The least automaton. -/
noncomputable def leD (L : Lng) (N : Nat) : Da := ⟨259, fun j => ((clA (syB L) j : Nat) : Int), (wdL L : Nat), 0, (leL L N).2.length, fun j => (((leL L N).2.getD j 0 : Nat) : Int), (leL L N).1.length, leT L N⟩
theorem leD_stop {a b : Nat} (ha : (leL L a).1.length ≤ a) (hb : (leL L b).1.length ≤ b) : leD L a = leD L b := by
  unfold leD leT
  rw [leL_stop ha hb]
theorem leD_rg (h : (leL L N).1.length ≤ N) (hN : N ≤ 4096) : rgD (leD L N) := by
  have h1 := atG_full h
  have hp := wdL_pos L
  have hl := wdL_le L
  have h0 := atG_one (go := goL L) (width := wdL L) (T0 := L) N
  refine ⟨rfl, by show (1 : Int) ≤ (wdL L : Nat); omega, by show ((wdL L : Nat) : Int) ≤ 259; omega, h0, by show (leL L N).1.length ≤ 4096; omega, by show (((leL L N).2.length : Nat) : Int) = _ * _; rw [show (leL L N).2.length = (leL L N).1.length * wdL L from h1.1]; exact Int.natCast_mul _ _, Int.le_refl 0, by show (0 : Int) < ((leL L N).1.length : Nat); have : 1 ≤ (leL L N).1.length := h0; omega, fun j hj => ?_, fun j hj => ?_⟩
  · have := clA_lt (syB_eq L) hj
    show (0 : Int) ≤ ((clA (syB L) j : Nat) : Int) ∧ ((clA (syB L) j : Nat) : Int) < (wdL L : Nat)
    unfold wdL
    omega
  · show (0 : Int) ≤ (((leL L N).2.getD j 0 : Nat) : Int) ∧ (((leL L N).2.getD j 0 : Nat) : Int) < ((leL L N).1.length : Nat)
    have hj : j < (leL L N).2.length := hj
    rw [show (leL L N).2.length = (leL L N).1.length * wdL L from h1.1] at hj
    obtain ⟨k, X, k1, _, k3⟩ := h1.2 (j / wdL L) (Nat.div_lt_of_lt_mul (by rw [Nat.mul_comm]; exact hj)) (j % wdL L) (Nat.mod_lt _ hp)
    rw [Nat.mul_comm, Nat.div_add_mod] at k1
    have hk : k < (leL L N).1.length := by
      rcases Nat.lt_or_ge k (leL L N).1.length with g | g
      · exact g
      · rw [show (atG (goL L) (wdL L) L N).1[k]? = none from List.getElem?_eq_none g] at k3; cases k3
    rw [List.getD_eq_getElem?_getD, show (leL L N).2[j]? = some k from k1]
    show (0 : Int) ≤ (k : Nat) ∧ ((k : Nat) : Int) < _
    omega
/-- Where its states go. -/
theorem leD_go (h : (leL L N).1.length ≤ N) {s y : Nat} {X : Lng} (hX : (leL L N).1[s]? = some X) (hy : y < 259) : (leL L N).1[goD (leD L N) s y]? = some (der y X) := by
  have hs : s < (leL L N).1.length := by
    rcases Nat.lt_or_ge s (leL L N).1.length with g | g
    · exact g
    · rw [List.getElem?_eq_none g] at hX; cases hX
  obtain ⟨k, X', k1, k2, k3⟩ := (atG_full h).2 s hs _ (clA_lt (syB_eq L) hy)
  have e : X' = X := Option.some.inj (k2.symm.trans hX)
  subst e
  obtain ⟨v, hv, rfl⟩ := leL_mem (List.mem_of_getElem? hX)
  rw [goL_is hv hy] at k3
  have hg : goD (leD L N) s y = k := by
    unfold goD leD
    dsimp only
    rw [Int.toNat_natCast, Int.toNat_natCast, Int.toNat_natCast, List.getD_eq_getElem?_getD]
    rw [show (leL L N).2[s * wdL L + clA (syB L) y]? = some k from k1]
    rfl
  rw [hg]
  exact k3
/-- What its states accept. -/
theorem leD_ln (hL : ∀ w, L w → okw w) (h : (leL L N).1.length ≤ N) {s : Nat} {X : Lng} (hX : (leL L N).1[s]? = some X) : lnW (leD L N) s = X := by
  have key : ∀ (w : List Nat) (s : Nat) (X : Lng), (leL L N).1[s]? = some X → okw w → ((leD L N).T (runW (leD L N) s w) = true ↔ X w) := by
    intro w
    induction w with
    | nil =>
      intro s X hX _
      show leT L N s = true ↔ _
      unfold leT
      rw [List.getD_eq_getElem?_getD, hX]
      simp
    | cons y w ih =>
      intro s X hX hw
      rw [okw_cons] at hw
      rw [runW_cons, ih _ _ (leD_go h hX hw.1) hw.2]
      rfl
  obtain ⟨v, hv, e⟩ := leL_mem (List.mem_of_getElem? hX)
  funext w
  apply propext
  constructor
  · rintro ⟨h1, h2⟩; exact (key w s X hX h1).1 h2
  · intro g
    have hw : okw w := by
      rw [e] at g
      exact (okw_append.1 (hL _ g)).2
    exact ⟨hw, (key w s X hX hw).2 g⟩
theorem leD_start (hL : ∀ w, L w → okw w) (h : (leL L N).1.length ≤ N) : lnW (leD L N) 0 = L := leD_ln hL h (atG_zero N)
/-- No two of its states are alike. -/
theorem leD_apart (hL : ∀ w, L w → okw w) (h : (leL L N).1.length ≤ N) {i k : Nat} (hi : i < (leL L N).1.length) (hk : k < (leL L N).1.length) (e : lnW (leD L N) i = lnW (leD L N) k) : i = k := by
  rw [leD_ln hL h (List.getElem?_eq_getElem hi), leD_ln hL h (List.getElem?_eq_getElem hk)] at e
  exact (List.getElem_inj (atG_nodup N)).1 e
theorem rt_run (x : Da) : ∀ (v : List Nat) (s : Nat), okw v → rtE (edD x) s (runW x s v)
  | [], s, _ => .refl s
  | y :: v, s, hv => by
    rw [okw_cons] at hv
    rw [runW_cons]
    exact rtE.trans (rtE.one (edD_iff.2 (.inr ⟨y, hv.1, rfl⟩))) (rt_run x v _ hv.2)
/-- All its states are reached. -/
theorem leD_reach (hL : ∀ w, L w → okw w) (h : (leL L N).1.length ≤ N) (hN : N ≤ 4096) {s : Nat} (hs : s < (leL L N).1.length) : rtE (edD (leD L N)) 0 s := by
  obtain ⟨v, hv, e⟩ := leL_mem (List.mem_of_getElem? (List.getElem?_eq_getElem hs))
  have h1 := lnW_run (leD L N) v 0 hv
  rw [leD_start hL h, ← e, ← leD_ln hL h (List.getElem?_eq_getElem hs)] at h1
  have hlt := runW_lt (leD_rg h hN) v 0 (atG_one (go := goL L) (width := wdL L) (T0 := L) N) hv
  have h2 := leD_apart hL h hlt hs h1
  have h3 := rt_run (leD L N) v 0 hv
  rw [h2] at h3
  exact h3
end
theorem lnW_ok (x : Da) (s : Nat) : ∀ w, lnW x s w → okw w := fun _ h => h.1
/-- The least automaton of an automaton; that of one that accepts the same words is the same. -/
noncomputable def mnD (x : Da) : Da := leD (lnW x x.st.toNat) x.n2
theorem st_lt {x : Da} (hx : rgD x) : x.st.toNat < x.n2 := by
  have h1 := hx.2.2.2.2.2.2.1
  have h2 := hx.2.2.2.2.2.2.2.1
  omega
theorem mnD_bound {x : Da} (hx : rgD x) (a : Nat) : (leL (lnW x x.st.toNat) a).1.length ≤ x.n2 := leL_bound hx (st_lt hx) rfl a
theorem mnD_same {x y : Da} (hx : rgD x) (hy : rgD y) (h : lnW x x.st.toNat = lnW y y.st.toNat) : mnD x = mnD y := by
  unfold mnD
  have h1 := mnD_bound hx x.n2
  have h2 := mnD_bound hy y.n2
  rw [h] at h1 ⊢
  exact leD_stop h1 h2
theorem mnD_rg {x : Da} (hx : rgD x) : rgD (mnD x) := leD_rg (mnD_bound hx _) hx.2.2.2.2.1
theorem mnD_ln {x : Da} (hx : rgD x) : lnW (mnD x) 0 = lnW x x.st.toNat := leD_start (lnW_ok _ _) (mnD_bound hx _)
theorem mnD_le {x : Da} (hx : rgD x) : (mnD x).n2 ≤ x.n2 := mnD_bound hx _
theorem mnD_reach {x : Da} (hx : rgD x) {s : Nat} (hs : s < (mnD x).n2) : rtE (edD (mnD x)) 0 s := leD_reach (lnW_ok _ _) (mnD_bound hx _) hx.2.2.2.2.1 hs
end Go.Proofs.Ytefpoapbodbenaa

namespace Go.Proofs.Ytefpoapbodbenaa

/-- The number of a word: fewer symbols first, then the lesser ones. -/
def nmW (w : List Nat) : Nat := w.foldl (fun n c => n * 259 + (c + 1)) 0
theorem nmW_nil : nmW [] = 0 := rfl
theorem nmW_snoc (w : List Nat) (c : Nat) : nmW (w ++ [c]) = nmW w * 259 + (c + 1) := by
  unfold nmW
  rw [List.foldl_append]
  rfl
theorem nmW_lt (w : List Nat) (c : Nat) : nmW w < nmW (w ++ [c]) := by rw [nmW_snoc]; omega
theorem snoc_cases (w : List Nat) : w = [] ∨ ∃ u c, w = u ++ [c] := by
  rcases List.eq_nil_or_concat w with h | ⟨u, c, h⟩
  · exact .inl h
  · exact .inr ⟨u, c, by rw [h]; simp⟩
theorem snoc_ind {P : List Nat → Prop} (h0 : P []) (h1 : ∀ u c, P u → P (u ++ [c])) : ∀ w, P w := by
  intro w
  have key : ∀ n (w : List Nat), w.length = n → P w := by
    intro n
    induction n with
    | zero =>
      intro w hw
      rw [List.length_eq_zero_iff.1 hw]; exact h0
    | succ n ih =>
      intro w hw
      rcases snoc_cases w with rfl | ⟨u, c, rfl⟩
      · exact h0
      · exact h1 u c (ih u (by simp at hw; exact hw))
  exact key _ w rfl
theorem nmW_inj : ∀ (w v : List Nat), okw w → okw v → nmW w = nmW v → w = v := by
  intro w
  refine snoc_ind (P := fun w => ∀ v, okw w → okw v → nmW w = nmW v → w = v) ?_ ?_ w
  · intro v _ _ h
    rcases snoc_cases v with rfl | ⟨u, c, rfl⟩
    · rfl
    · rw [nmW_nil, nmW_snoc] at h; omega
  · intro u c ih v hw hv h
    rcases snoc_cases v with rfl | ⟨u', c', rfl⟩
    · rw [nmW_nil, nmW_snoc] at h; omega
    · have a1 := (okw_append.1 hw); have a2 := (okw_append.1 hv)
      have b1 := (okw_cons.1 a1.2).1; have b2 := (okw_cons.1 a2.2).1
      rw [nmW_snoc, nmW_snoc] at h
      have e : nmW u = nmW u' := by omega
      have e2 : c = c' := by omega
      rw [ih u' a1.1 a2.1 e, e2]
theorem nmW_take {w : List Nat} {i : Nat} (hi : i < w.length) : nmW (w.take i) < nmW w := by
  have key : ∀ (v u : List Nat), v ≠ [] → nmW u < nmW (u ++ v) := by
    intro v
    refine snoc_ind (P := fun v => ∀ u, v ≠ [] → nmW u < nmW (u ++ v)) (fun _ h => absurd rfl h) ?_ v
    intro v c ih u _
    rw [← List.append_assoc]
    by_cases e : v = []
    · subst e
      rw [List.append_nil]; exact nmW_lt u c
    · exact Nat.lt_trans (ih u e) (nmW_lt _ c)
  have h := key (w.drop i) (w.take i) (by
    intro e
    have := congrArg List.length e
    rw [List.length_drop] at this
    simp at this
    omega)
  rwa [List.take_append_drop] at h

section
variable {α : Type}
/-- What is met, and by which word. -/
abbrev Wy (α : Type) := List (α × List Nat)
noncomputable def adW (l : Wy α) (P : α) (u : List Nat) : Wy α := @ite _ (∃ v, (P, v) ∈ l) (Classical.propDecidable _) l (l ++ [(P, u)])
variable {go : Nat → α → α} {T0 : α}
theorem adW_in {l : Wy α} {P : α} {u : List Nat} (h : ∃ v, (P, v) ∈ l) : adW l P u = l := by unfold adW; rw [if_pos h]
theorem adW_out {l : Wy α} {P : α} {u : List Nat} (h : ¬ ∃ v, (P, v) ∈ l) : adW l P u = l ++ [(P, u)] := by unfold adW; rw [if_neg h]
/-- Where some symbols lead. -/
def rnG (go : Nat → α → α) (P : α) (w : List Nat) : α := w.foldl (fun p c => go c p) P
theorem rnG_snoc (P : α) (w : List Nat) (c : Nat) : rnG go P (w ++ [c]) = go c (rnG go P w) := by
  unfold rnG
  rw [List.foldl_append]; rfl
/-- The list behind a ways whose symbols are done, and c symbols of the next one. -/
structure okY (go : Nat → α → α) (T0 : α) (l : Wy α) (a c : Nat) : Prop where
  /-- the first one -/
  zero : l[0]? = some (T0, [])
  /-- each word leads where it says -/
  run : ∀ (P : α) (u : List Nat), (P, u) ∈ l → P = rnG go T0 u ∧ okw u
  /-- words rise -/
  up : ∀ (i j : Nat) (e f : α × List Nat), i < j → l[i]? = some e → l[j]? = some f → nmW e.2 < nmW f.2
  /-- each thing is met once -/
  once : ∀ (i j : Nat) (e f : α × List Nat), l[i]? = some e → l[j]? = some f → e.1 = f.1 → i = j
  /-- where those that are done lead is met, by no later word -/
  done : ∀ (j d : Nat) (X : α) (w : List Nat), l[j]? = some (X, w) → d < 259 → (j < a ∨ (j = a ∧ d < c)) → ∃ u, (go d X, u) ∈ l ∧ nmW u ≤ nmW w * 259 + (d + 1)
  /-- what is met was met by no later word -/
  bound : ∀ (X : α) (w : List Nat), l[a]? = some (X, w) → ∀ (P : α) (u : List Nat), (P, u) ∈ l → nmW u ≤ nmW w * 259 + c
theorem mem_at {l : Wy α} {e : α × List Nat} (h : e ∈ l) : ∃ i : Nat, l[i]? = some e := List.mem_iff_getElem?.1 h
theorem okY_zero (go : Nat → α → α) (T0 : α) : okY go T0 [(T0, [])] 0 0 where
  zero := rfl
  run := fun P u h => by
    have e : (P, u) = (T0, []) := by simpa using h
    cases e
    exact ⟨rfl, okw_nil⟩
  up := fun i j e f hij he hf => by
    match i, j, hij, hf with
    | _, j + 1, _, hf => simp at hf
  once := fun i j e f he hf _ => by
    match i, j, he, hf with
    | 0, 0, _, _ => rfl
    | 0, j + 1, _, hf => simp at hf
    | i + 1, _, he, _ => simp at he
  done := fun j d X w _ _ h => by
    rcases h with h | ⟨_, h⟩
    · exact absurd h (Nat.not_lt_zero _)
    · exact absurd h (Nat.not_lt_zero _)
  bound := fun X w _ P u h => by
    have e : (P, u) = (T0, []) := by simpa using h
    cases e
    rw [nmW_nil]; exact Nat.zero_le _
/-- One symbol more. -/
theorem okY_put {l : Wy α} {a c : Nat} {X : α} {w : List Nat} (h : okY go T0 l a c) (hc : c < 259) (hX : l[a]? = some (X, w)) : okY go T0 (adW l (go c X) (w ++ [c])) a (c + 1) := by
  obtain ⟨hr1, hr2⟩ := h.run X w (List.mem_of_getElem? hX)
  have hal : a < l.length := by
    rcases Nat.lt_or_ge a l.length with g | g
    · exact g
    · rw [List.getElem?_eq_none g] at hX; cases hX
  have hb := h.bound X w hX
  by_cases hin : ∃ v, (go c X, v) ∈ l
  · rw [adW_in hin]
    refine ⟨h.zero, h.run, h.up, h.once, fun j d Y v hj hd hh => ?_, fun Y v hY P u hu => ?_⟩
    · by_cases e : j = a ∧ d = c
      · obtain ⟨rfl, rfl⟩ := e
        rw [hX] at hj; cases hj
        obtain ⟨v, hv⟩ := hin
        exact ⟨v, hv, Nat.le_trans (hb _ v hv) (by omega)⟩
      · exact h.done j d Y v hj hd (by
          rcases hh with g | ⟨g1, g2⟩
          · exact .inl g
          · exact .inr ⟨g1, by
              by_cases e2 : d = c
              · exact absurd ⟨g1, e2⟩ e
              · omega⟩)
    · rw [hX] at hY; cases hY
      exact Nat.le_trans (hb P u hu) (by omega)
  · rw [adW_out hin]
    have hnew : ∀ (i : Nat) (e : α × List Nat), (l ++ [(go c X, w ++ [c])])[i]? = some e → (i < l.length ∧ l[i]? = some e) ∨ (i = l.length ∧ e = (go c X, w ++ [c])) := fun i e he => by
      rcases Nat.lt_or_ge i l.length with g | g
      · rw [List.getElem?_append_left g] at he; exact .inl ⟨g, he⟩
      · rw [List.getElem?_append_right g] at he
        have : i - l.length = 0 := by
          rcases Nat.eq_zero_or_pos (i - l.length) with q | q
          · exact q
          · rw [List.getElem?_eq_none (by simp; omega)] at he; cases he
        rw [this] at he
        exact .inr ⟨by omega, by simpa using he.symm⟩
    have hmem : ∀ (P : α) (u : List Nat), (P, u) ∈ l ++ [(go c X, w ++ [c])] → (P, u) ∈ l ∨ (P = go c X ∧ u = w ++ [c]) := fun P u hu => by
      rcases List.mem_append.1 hu with g | g
      · exact .inl g
      · have : (P, u) = (go c X, w ++ [c]) := by simpa using g
        cases this; exact .inr ⟨rfl, rfl⟩
    refine ⟨by rw [List.getElem?_append_left (by omega)]; exact h.zero, fun P u hu => ?_, fun i j e f hij he hf => ?_, fun i j e f he hf hef => ?_, fun j d Y v hj hd hh => ?_, fun Y v hY P u hu => ?_⟩
    · rcases hmem P u hu with g | ⟨rfl, rfl⟩
      · exact h.run P u g
      · exact ⟨by rw [rnG_snoc, ← hr1], okw_append.2 ⟨hr2, okw_cons.2 ⟨hc, okw_nil⟩⟩⟩
    · rcases hnew i e he with ⟨g1, g2⟩ | ⟨g1, g2⟩
      · rcases hnew j f hf with ⟨k1, k2⟩ | ⟨k1, k2⟩
        · exact h.up i j e f hij g2 k2
        · subst k2
          rw [nmW_snoc]
          have := hb e.1 e.2 (List.mem_of_getElem? g2)
          omega
      · rcases hnew j f hf with ⟨k1, k2⟩ | ⟨k1, k2⟩ <;> omega
    · rcases hnew i e he with ⟨g1, g2⟩ | ⟨g1, g2⟩
      · rcases hnew j f hf with ⟨k1, k2⟩ | ⟨k1, k2⟩
        · exact h.once i j e f g2 k2 hef
        · subst k2
          have hef2 : e.1 = go c X := hef
          exact absurd ⟨e.2, by have := List.mem_of_getElem? g2; rw [← hef2]; exact this⟩ hin
      · rcases hnew j f hf with ⟨k1, k2⟩ | ⟨k1, k2⟩
        · subst g2
          have hef2 : go c X = f.1 := hef
          exact absurd ⟨f.2, by have := List.mem_of_getElem? k2; rw [hef2]; exact this⟩ hin
        · omega
    · have hj2 : j < l.length ∧ l[j]? = some (Y, v) := by
        rcases hnew j (Y, v) hj with g | ⟨g1, _⟩
        · exact g
        · exfalso
          rcases hh with k | ⟨k, _⟩ <;> omega
      by_cases e : j = a ∧ d = c
      · obtain ⟨rfl, rfl⟩ := e
        rw [hX] at hj2
        cases hj2.2
        exact ⟨w ++ [d], List.mem_append_right _ (by simp), by rw [nmW_snoc]; exact Nat.le_refl _⟩
      · obtain ⟨u, k1, k2⟩ := h.done j d Y v hj2.2 hd (by
          rcases hh with g | ⟨g1, g2⟩
          · exact .inl g
          · exact .inr ⟨g1, by
              by_cases e2 : d = c
              · exact absurd ⟨g1, e2⟩ e
              · omega⟩)
        exact ⟨u, List.mem_append_left _ k1, k2⟩
    · rcases hnew a (Y, v) hY with ⟨_, g⟩ | ⟨g, _⟩
      · rw [hX] at g; cases g
        rcases hmem P u hu with k | ⟨rfl, rfl⟩
        · exact Nat.le_trans (hb P u k) (by omega)
        · rw [nmW_snoc]; omega
      · omega
set_option maxRecDepth 100000 in
/-- The next one. -/
theorem okY_next {l : Wy α} {a : Nat} (h : okY go T0 l a 259) : okY go T0 l (a + 1) 0 := by
  refine ⟨h.zero, h.run, h.up, h.once, fun j d X w hj hd hh => h.done j d X w hj hd ?_, fun X w hX P u hu => ?_⟩
  · rcases hh with g | ⟨_, g⟩
    · by_cases e : j = a
      · exact .inr ⟨e, hd⟩
      · exact .inl (by omega)
    · exact absurd g (Nat.not_lt_zero _)
  · have hal : a < l.length := by
      rcases Nat.lt_or_ge (a + 1) l.length with g | g
      · omega
      · rw [List.getElem?_eq_none g] at hX; cases hX
    have hA : l[a]? = some ((l[a]).1, (l[a]).2) := List.getElem?_eq_getElem hal
    have h1 := h.bound _ _ hA P u hu
    have h2 := h.up a (a + 1) _ _ (Nat.lt_succ_self a) hA hX
    simp only at h1 h2
    have key : ∀ A B C : Nat, C ≤ A * 259 + 259 → A < B → C ≤ B * 259 + 0 := fun A B C k1 k2 => by omega
    exact key _ _ _ h1 h2
set_option maxRecDepth 100000 in
/-- All ways that are met, where all are done: each word leads to one of them, that was met by no later word. -/
theorem okY_all {l : Wy α} {a : Nat} (h : okY go T0 l a 0) (ha : l.length ≤ a) : ∀ v, okw v → ∃ u, (rnG go T0 v, u) ∈ l ∧ nmW u ≤ nmW v := by
  refine snoc_ind ?_ ?_
  · intro _
    exact ⟨[], List.mem_of_getElem? h.zero, Nat.le_refl _⟩
  · intro v c ih hv
    obtain ⟨h1, h2⟩ := okw_append.1 hv
    obtain ⟨u, h3, h4⟩ := ih h1
    obtain ⟨i, hi⟩ := mem_at h3
    have hil : i < l.length := by
      rcases Nat.lt_or_ge i l.length with g | g
      · exact g
      · rw [List.getElem?_eq_none g] at hi; cases hi
    obtain ⟨z, h5, h6⟩ := h.done i c _ u hi (okw_cons.1 h2).1 (.inl (by omega))
    refine ⟨z, by rw [rnG_snoc]; exact h5, ?_⟩
    rw [nmW_snoc]
    have key : ∀ A B C : Nat, C ≤ A * 259 + (c + 1) → A ≤ B → C ≤ B * 259 + (c + 1) := fun A B C k1 k2 => by omega
    exact key _ _ _ h6 h4
end
end Go.Proofs.Ytefpoapbodbenaa

namespace Go.Proofs.Ytefpoapbodbenaa

section
variable {α : Type} {go : Nat → α → α} {T0 : α}
set_option maxRecDepth 100000 in
/-- Each word ahead of the one by which the next way was met leads to a way that is done. -/
theorem okY_less {l : Wy α} {a : Nat} {X : α} {w : List Nat} (h : okY go T0 l a 0) (hX : l[a]? = some (X, w)) : ∀ v, okw v → nmW v < nmW w → ∃ j u, j < a ∧ l[j]? = some (rnG go T0 v, u) ∧ nmW u ≤ nmW v := by
  have hidx : ∀ (j : Nat) (P : α) (u : List Nat), l[j]? = some (P, u) → nmW u < nmW w → j < a := fun j P u hj hu => by
    rcases Nat.lt_or_ge j a with g | g
    · exact g
    · exfalso
      by_cases e : j = a
      · subst e
        rw [hX] at hj; cases hj
        exact Nat.lt_irrefl _ hu
      · have := h.up a j _ _ (by omega) hX hj
        exact Nat.lt_asymm this hu
  refine snoc_ind ?_ ?_
  · intro _ hlt
    exact ⟨0, [], hidx 0 T0 [] h.zero hlt, h.zero, Nat.le_refl _⟩
  · intro v c ih hv hlt
    obtain ⟨h1, h2⟩ := okw_append.1 hv
    obtain ⟨j, u, h3, h4, h5⟩ := ih h1 (Nat.lt_trans (nmW_lt v c) hlt)
    obtain ⟨z, h6, h7⟩ := h.done j c _ u h4 (okw_cons.1 h2).1 (.inl h3)
    obtain ⟨i, hi⟩ := mem_at h6
    have key : ∀ A B C : Nat, C ≤ A * 259 + (c + 1) → A ≤ B → C ≤ B * 259 + (c + 1) := fun A B C k1 k2 => by omega
    have h8 : nmW z ≤ nmW (v ++ [c]) := by rw [nmW_snoc]; exact key _ _ _ h7 h5
    rw [rnG_snoc]
    exact ⟨i, z, hidx i _ z hi (Nat.lt_of_le_of_lt h8 hlt), hi, h8⟩
/-- Ways that can be numbered below N, each by a number of its own, are no more than N. -/
theorem okY_few {l : Wy α} {a c N : Nat} (h : okY go T0 l a c) (f : α → Nat) (hf : ∀ P u, (P, u) ∈ l → f P < N) (hi : ∀ P u Q v, (P, u) ∈ l → (Q, v) ∈ l → f P = f Q → P = Q) : l.length ≤ N := by
  have hnd : (l.map fun e => f e.1).Nodup := by
    rw [List.nodup_iff_pairwise_ne, List.pairwise_map, List.pairwise_iff_getElem]
    intro i j h1 h2 hij e
    have e1 := List.getElem?_eq_getElem h1
    have e2 := List.getElem?_eq_getElem h2
    have := h.once i j _ _ e1 e2 (hi _ _ _ _ (List.getElem_mem h1) (List.getElem_mem h2) e)
    omega
  have := okA_le (m := N) (A := l.map fun e => f e.1) ⟨hnd, fun q hq => by
    obtain ⟨e, he, rfl⟩ := List.mem_map.1 hq
    exact hf e.1 e.2 he⟩
  rwa [List.length_map] at this
end

/-- Two automata go side by side. -/
def go14 (x y : Da) (c : Nat) (p : Nat × Nat) : Nat × Nat := (goD x p.1 c, goD y p.2 c)
def st14 (x y : Da) : Nat × Nat := (x.st.toNat, y.st.toNat)
theorem rn14 (x y : Da) : ∀ (w : List Nat) (p q : Nat), rnG (go14 x y) (p, q) w = (runW x p w, runW y q w)
  | [], _, _ => rfl
  | c :: w, p, q => rn14 x y w (goD x p c) (goD y q c)
/-- A word is accepted by one of both, and not by the other one. -/
def dfW (x y : Da) (w : List Nat) : Prop := okw w ∧ x.T (runW x x.st.toNat w) ≠ y.T (runW y y.st.toNat w)
/-- The fewest symbols that tell both apart, and the least of them. -/
def apW (x y : Da) (w : List Nat) : Prop := dfW x y w ∧ ∀ v, dfW x y v → nmW w ≤ nmW v
theorem apW_one {x y : Da} {w v : List Nat} (h : apW x y w) (g : apW x y v) : w = v := nmW_inj w v h.1.1 g.1.1 (Nat.le_antisymm (h.2 v g.1) (g.2 w h.1))
theorem dfW_symm {x y : Da} {w : List Nat} (h : dfW x y w) : dfW y x w := ⟨h.1, fun e => h.2 e.symm⟩
theorem apW_symm {x y : Da} {w : List Nat} (h : apW x y w) : apW y x w := ⟨dfW_symm h.1, fun v hv => h.2 v (dfW_symm hv)⟩
theorem dfW_ln {x y : Da} {w : List Nat} (hw : okw w) : dfW x y w ↔ ¬ (lnW x x.st.toNat w ↔ lnW y y.st.toNat w) := by
  unfold dfW lnW
  constructor
  · rintro ⟨_, h⟩ g
    refine h ?_
    rw [Bool.eq_iff_iff]
    exact ⟨fun k => (g.1 ⟨hw, k⟩).2, fun k => (g.2 ⟨hw, k⟩).2⟩
  · intro h
    refine ⟨hw, fun e => h ⟨fun k => ⟨hw, e ▸ k.2⟩, fun k => ⟨hw, e.symm ▸ k.2⟩⟩⟩
/-- Nothing tells them apart just if they accept the same words. -/
theorem dfW_none {x y : Da} : (∀ w, ¬ dfW x y w) ↔ lnW x x.st.toNat = lnW y y.st.toNat := by
  constructor
  · intro h
    funext w
    by_cases hw : okw w
    · exact propext (Classical.byContradiction fun g => h w ((dfW_ln hw).2 g))
    · exact propext ⟨fun g => absurd g.1 hw, fun g => absurd g.1 hw⟩
  · intro h w hw
    exact (dfW_ln hw.1).1 hw (by rw [h])
/-- No beginning of it tells them apart. -/
theorem apW_take {x y : Da} {w : List Nat} (h : apW x y w) {i : Nat} (hi : i < w.length) : ¬ dfW x y (w.take i) := fun g => by
  have := h.2 _ g
  have := nmW_take hi
  omega
/-- The first way at which they part. -/
theorem ap_found {x y : Da} {l : Wy (Nat × Nat)} {a : Nat} {p q : Nat} {w : List Nat} (h : okY (go14 x y) (st14 x y) l a 0) (hX : l[a]? = some ((p, q), w)) (hd : x.T p ≠ y.T q) (hb : ∀ j (p' q' : Nat) (u : List Nat), j < a → l[j]? = some ((p', q'), u) → x.T p' = y.T q') : apW x y w := by
  obtain ⟨hr, hw⟩ := h.run _ _ (List.mem_of_getElem? hX)
  rw [show st14 x y = (x.st.toNat, y.st.toNat) from rfl, rn14] at hr
  cases hr
  refine ⟨⟨hw, hd⟩, fun v hv => Nat.le_of_not_lt fun hlt => ?_⟩
  obtain ⟨j, u, h1, h2, _⟩ := okY_less h hX v hv.1 hlt
  rw [show st14 x y = (x.st.toNat, y.st.toNat) from rfl, rn14] at h2
  exact hv.2 (hb j _ _ u h1 h2)
/-- They part at no way. -/
theorem ap_none {x y : Da} {l : Wy (Nat × Nat)} {a : Nat} (h : okY (go14 x y) (st14 x y) l a 0) (ha : l.length ≤ a) (hb : ∀ j (p' q' : Nat) (u : List Nat), j < a → l[j]? = some ((p', q'), u) → x.T p' = y.T q') (v : List Nat) : ¬ dfW x y v := fun hv => by
  obtain ⟨u, h1, _⟩ := okY_all h ha v hv.1
  rw [show st14 x y = (x.st.toNat, y.st.toNat) from rfl, rn14] at h1
  obtain ⟨j, hj⟩ := mem_at h1
  have hjl : j < l.length := by
    rcases Nat.lt_or_ge j l.length with g | g
    · exact g
    · rw [List.getElem?_eq_none g] at hj; cases hj
  exact hv.2 (hb j _ _ u (by omega) hj)
/-- There are not more ways than pairs of states. -/
theorem ways_few {x y : Da} (hx : rgD x) (hy : rgD y) {l : Wy (Nat × Nat)} {a c : Nat} (h : okY (go14 x y) (st14 x y) l a c) : l.length ≤ x.n2 * y.n2 ∧ ∀ (p q : Nat) (u : List Nat), ((p, q), u) ∈ l → p < x.n2 ∧ q < y.n2 := by
  have hin : ∀ (p q : Nat) (u : List Nat), ((p, q), u) ∈ l → p < x.n2 ∧ q < y.n2 := fun p q u hu => by
    obtain ⟨hr, hw⟩ := h.run _ _ hu
    rw [show st14 x y = (x.st.toNat, y.st.toNat) from rfl, rn14] at hr
    cases hr
    exact ⟨runW_lt hx u _ (st_lt hx) hw, runW_lt hy u _ (st_lt hy) hw⟩
  refine ⟨okY_few h (fun P => P.1 * y.n2 + P.2) (fun P u hu => ?_) (fun P u Q v hu hv e => ?_), hin⟩
  · obtain ⟨h1, h2⟩ := hin P.1 P.2 u hu
    have := Nat.mul_le_mul_right y.n2 (show P.1 + 1 ≤ x.n2 from h1)
    rw [Nat.succ_mul] at this
    show P.1 * y.n2 + P.2 < _
    omega
  · obtain ⟨h1, h2⟩ := hin P.1 P.2 u hu
    obtain ⟨h3, h4⟩ := hin Q.1 Q.2 v hv
    have e : P.1 * y.n2 + P.2 = Q.1 * y.n2 + Q.2 := e
    have d : ∀ a b : Nat, b < y.n2 → (a * y.n2 + b) / y.n2 = a := fun a b hb => by
      rw [Nat.mul_comm, Nat.mul_add_div (by omega), Nat.div_eq_of_lt hb, Nat.add_zero]
    have e1 : P.1 = Q.1 := by rw [← d P.1 P.2 h2, e, d Q.1 Q.2 h4]
    have e2 : P.2 = Q.2 := by rw [e1] at e; omega
    exact Prod.ext e1 e2
end Go.Proofs.Ytefpoapbodbenaa

namespace Go.Proofs.Ytefpoapbodbenaa

def putN (K : Nat → Nat) (j v : Nat) : Nat → Nat := fun y => if y = j then v else K y
/-- n things; H z stands for all that are kin to z; d falls along the way there. -/
structure ufP (K : Nat → Nat) (n : Nat) (H d : Nat → Nat) : Prop where
  lt : ∀ z, z < n → K z < n
  hlt : ∀ z, z < n → H z < n
  step : ∀ z, z < n → H (K z) = H z
  head : ∀ z, z < n → K (H z) = H z
  own : ∀ z, z < n → K z = z → H z = z
  down : ∀ z, z < n → K z ≠ z → d (K z) < d z
theorem ufP_alone (n : Nat) : ufP (fun z => z) n (fun z => z) (fun _ => 0) where
  lt := fun _ h => h
  hlt := fun _ h => h
  step := fun _ _ => rfl
  head := fun _ _ => rfl
  own := fun _ _ _ => rfl
  down := fun _ _ h => absurd rfl h
section
variable {K : Nat → Nat} {n : Nat} {H d : Nat → Nat}
theorem ufP.hh (h : ufP K n H d) {z : Nat} (hz : z < n) : H (H z) = H z := h.own _ (h.hlt z hz) (h.head z hz)
/-- The way is made shorter: the same ones are kin. -/
theorem ufP.half (h : ufP K n H d) {x : Nat} (hx : x < n) (hne : K x ≠ x) : ufP (putN K x (K (K x))) n H d where
  lt := fun z hz => by
    unfold putN
    split
    · exact h.lt _ (h.lt x hx)
    · exact h.lt z hz
  hlt := h.hlt
  step := fun z hz => by
    unfold putN
    split
    · rename_i e
      subst e
      rw [h.step _ (h.lt z hx), h.step z hx]
    · exact h.step z hz
  head := fun z hz => by
    unfold putN
    split
    · rename_i e
      have := h.head z hz
      rw [e] at this
      exact absurd this hne
    · exact h.head z hz
  own := fun z hz hzz => by
    unfold putN at hzz
    split at hzz
    · rename_i e
      subst e
      exfalso
      have h1 := h.down z hx hne
      by_cases g : K (K z) = K z
      · exact hne (by rw [← g]; exact hzz)
      · have h2 := h.down _ (h.lt z hx) g
        rw [hzz] at h2
        omega
    · exact h.own z hz hzz
  down := fun z hz hzz => by
    unfold putN at hzz ⊢
    split
    · rename_i e
      subst e
      have h1 := h.down z hx hne
      by_cases g : K (K z) = K z
      · rw [g]; exact h1
      · exact Nat.lt_trans (h.down _ (h.lt z hx) g) h1
    · rename_i e
      rw [if_neg e] at hzz
      exact h.down z hz hzz
/-- What stands for all, behind two are made kin. -/
def joH (H : Nat → Nat) (x y : Nat) : Nat → Nat := fun z => if H z = H x then H y else H z
def joD (H d : Nat → Nat) (x y : Nat) : Nat → Nat := fun z => if H x ≠ H y ∧ H z = H x then d z + d (H y) + 1 else d z
theorem ufP.join (h : ufP K n H d) {x y : Nat} (hx : x < n) (hy : y < n) : ufP (putN K (H x) (H y)) n (joH H x y) (joD H d x y) where
  lt := fun z hz => by
    unfold putN
    split
    · exact h.hlt y hy
    · exact h.lt z hz
  hlt := fun z hz => by
    unfold joH
    split
    · exact h.hlt y hy
    · exact h.hlt z hz
  step := fun z hz => by
    unfold putN joH
    by_cases e : z = H x
    · subst e
      rw [if_pos rfl, h.hh hy, h.hh hx, if_pos rfl]
      split <;> rfl
    · rw [if_neg e, h.step z hz]
  head := fun z hz => by
    unfold putN joH
    by_cases e : H z = H x
    · rw [if_pos e]
      by_cases g : H y = H x
      · rw [if_pos g]
      · rw [if_neg g]; exact h.head y hy
    · rw [if_neg e, if_neg e]; exact h.head z hz
  own := fun z hz hzz => by
    unfold putN at hzz
    unfold joH
    by_cases e : z = H x
    · rw [if_pos e] at hzz
      rw [e, h.hh hx, if_pos rfl, ← e]; exact hzz
    · rw [if_neg e] at hzz
      have := h.own z hz hzz
      rw [this, if_neg e]
  down := fun z hz hzz => by
    unfold putN at hzz ⊢
    unfold joD
    by_cases e : z = H x
    · subst e
      rw [if_pos rfl] at hzz ⊢
      have hne : H x ≠ H y := fun g => hzz (by rw [g])
      rw [h.hh hx, h.hh hy, if_neg (fun g => hne g.2.symm), if_pos ⟨hne, rfl⟩]
      omega
    · rw [if_neg e] at hzz ⊢
      rw [h.step z hz]
      have := h.down z hz hzz
      split <;> omega
end

/-- Pairs that were met, as pairs of things: those of the second automaton stand behind the first one's. -/
abbrev Mt14 := Wy (Nat × Nat)
/-- What is alike on all pairs of a list is alike on a pair. -/
def cvZ (nx : Nat) (l : Mt14) (N : Nat) (P : Nat × Nat) : Prop := ∀ f : Nat → Bool, (∀ (Q : Nat × Nat) (u : List Nat), (Q, u) ∈ l → nmW u ≤ N → f Q.1 = f (nx + Q.2)) → f P.1 = f (nx + P.2)
theorem cvZ_mono {nx : Nat} {l l' : Mt14} {N N' : Nat} {P : Nat × Nat} (h : cvZ nx l N P) (hl : ∀ e, e ∈ l → e ∈ l') (hN : N ≤ N') : cvZ nx l' N' P := fun f hf => h f fun Q u hu hn => hf Q u (hl _ hu) (Nat.le_trans hn hN)
theorem cvZ_in {nx : Nat} {l : Mt14} {N : Nat} {P : Nat × Nat} {u : List Nat} (h : (P, u) ∈ l) (hn : nmW u ≤ N) : cvZ nx l N P := fun _ hf => hf P u h hn
/-- Those that are kin, by the pairs that were met. -/
structure kiP (nx n : Nat) (l : Mt14) (H : Nat → Nat) : Prop where
  met : ∀ (Q : Nat × Nat) (u : List Nat), (Q, u) ∈ l → H Q.1 = H (nx + Q.2)
  only : ∀ f : Nat → Bool, (∀ (Q : Nat × Nat) (u : List Nat), (Q, u) ∈ l → f Q.1 = f (nx + Q.2)) → ∀ a b, a < n → b < n → H a = H b → f a = f b
theorem kiP_nil (nx n : Nat) : kiP nx n [] (fun z => z) := ⟨fun _ _ h => by simp at h, fun f _ a b _ _ h => by rw [h]⟩
theorem kiP.put {nx n : Nat} {l : Mt14} {K H d : Nat → Nat} (h : kiP nx n l H) (hu : ufP K n H d) {p q : Nat} (hp : p < n) (hq : nx + q < n) (w : List Nat) : kiP nx n (l ++ [((p, q), w)]) (joH H p (nx + q)) where
  met := fun Q u hm => by
    rcases List.mem_append.1 hm with g | g
    · unfold joH
      rw [h.met Q u g]
    · have : (Q, u) = ((p, q), w) := by simpa using g
      cases this
      unfold joH
      rw [if_pos rfl]
      split <;> rfl
  only := fun f hf a b ha hb hab => by
    have hold : ∀ a b, a < n → b < n → H a = H b → f a = f b := h.only f fun Q u hm => hf Q u (List.mem_append_left _ hm)
    have hpq : f p = f (nx + q) := hf (p, q) w (List.mem_append_right _ (by simp))
    have key : ∀ z, z < n → f z = f (joH H p (nx + q) z) := fun z hz => by
      unfold joH
      split
      · rename_i e
        rw [hold z p hz hp e, hpq]
        exact hold _ _ hq (hu.hlt _ hq) (hu.hh hq).symm
      · exact hold _ _ hz (hu.hlt z hz) (hu.hh hz).symm
    rw [key a ha, key b hb, hab]
end Go.Proofs.Ytefpoapbodbenaa

namespace Go.Proofs.Ytefpoapbodbenaa

theorem nmW_pre : ∀ (v u : List Nat), nmW u ≤ nmW (u ++ v) := by
  intro v
  refine snoc_ind (P := fun v => ∀ u, nmW u ≤ nmW (u ++ v)) (fun u => by rw [List.append_nil]; exact Nat.le_refl _) ?_ v
  intro v c ih u
  rw [← List.append_assoc]
  exact Nat.le_trans (ih u) (Nat.le_of_lt (nmW_lt _ c))
/-- The list behind a pairs whose symbols are done, and the symbols below c of the next one. -/
structure okZ (x y : Da) (l : Mt14) (a c : Nat) : Prop where
  zero : l[0]? = some (st14 x y, [])
  run : ∀ (P : Nat × Nat) (u : List Nat), (P, u) ∈ l → P = rnG (go14 x y) (st14 x y) u ∧ okw u
  up : ∀ (i j : Nat) (e f : (Nat × Nat) × List Nat), i < j → l[i]? = some e → l[j]? = some f → nmW e.2 < nmW f.2
  once : ∀ (i j : Nat) (e f : (Nat × Nat) × List Nat), l[i]? = some e → l[j]? = some f → e.1 = f.1 → i = j
  done : ∀ (j d : Nat) (X : Nat × Nat) (w : List Nat), l[j]? = some (X, w) → d < 259 → (j < a ∨ (j = a ∧ d < c)) → cvZ x.n2 l (nmW w * 259 + (d + 1)) (go14 x y d X)
  bound : ∀ (X : Nat × Nat) (w : List Nat), l[a]? = some (X, w) → ∀ (P : Nat × Nat) (u : List Nat), (P, u) ∈ l → nmW u ≤ nmW w * 259 + c
theorem okZ_zero (x y : Da) : okZ x y [(st14 x y, [])] 0 0 where
  zero := rfl
  run := fun P u h => by
    have e : (P, u) = (st14 x y, []) := by simpa using h
    cases e
    exact ⟨rfl, okw_nil⟩
  up := fun i j e f hij he hf => by
    match i, j, hij, hf with
    | _, j + 1, _, hf => simp at hf
  once := fun i j e f he hf _ => by
    match i, j, he, hf with
    | 0, 0, _, _ => rfl
    | 0, j + 1, _, hf => simp at hf
    | i + 1, _, he, _ => simp at he
  done := fun j d X w _ _ h => by
    rcases h with h | ⟨_, h⟩
    · exact absurd h (Nat.not_lt_zero _)
    · exact absurd h (Nat.not_lt_zero _)
  bound := fun X w _ P u h => by
    have e : (P, u) = (st14 x y, []) := by simpa using h
    cases e
    rw [nmW_nil]; exact Nat.zero_le _
theorem lt_some {α : Type} {l : List α} {a : Nat} {e : α} (h : l[a]? = some e) : a < l.length := by
  rcases Nat.lt_or_ge a l.length with g | g
  · exact g
  · rw [List.getElem?_eq_none g] at h; cases h
/-- A symbol that leads where a lesser one leads. -/
theorem okZ_skip {x y : Da} {l : Mt14} {a c c0 : Nat} {X : Nat × Nat} {w : List Nat} (h : okZ x y l a c) (hX : l[a]? = some (X, w)) (hc : c < 259) (h0 : c0 < c) (hg : go14 x y c X = go14 x y c0 X) : okZ x y l a (c + 1) := by
  refine ⟨h.zero, h.run, h.up, h.once, fun j d Y v hj hd hh => ?_, fun Y v hY P u hu => ?_⟩
  · by_cases e : j = a ∧ d = c
    · obtain ⟨rfl, rfl⟩ := e
      rw [hX] at hj; cases hj
      rw [hg]
      exact cvZ_mono (h.done j c0 X w hX (by omega) (.inr ⟨rfl, h0⟩)) (fun _ k => k) (by omega)
    · exact h.done j d Y v hj hd (by
        rcases hh with g | ⟨g1, g2⟩
        · exact .inl g
        · exact .inr ⟨g1, by
            by_cases e2 : d = c
            · exact absurd ⟨g1, e2⟩ e
            · omega⟩)
  · exact Nat.le_trans (h.bound Y v hY P u hu) (by omega)
/-- All symbols up to the next one that leads elsewhere. -/
theorem okZ_upto {x y : Da} {l : Mt14} {a : Nat} {X : Nat × Nat} {w : List Nat} (hX : l[a]? = some (X, w)) : ∀ (k c : Nat), okZ x y l a c → c + k ≤ 259 → (∀ d, c ≤ d → d < c + k → ∃ c0, c0 < d ∧ go14 x y d X = go14 x y c0 X) → okZ x y l a (c + k)
  | 0, _, h, _, _ => h
  | k + 1, c, h, hk, hd => by
    obtain ⟨c0, h1, h2⟩ := hd c (Nat.le_refl _) (by omega)
    have h3 := okZ_skip h hX (by omega) h1 h2
    have h4 := okZ_upto hX k (c + 1) h3 (by omega) (fun d g1 g2 => hd d (by omega) (by omega))
    rw [show c + 1 + k = c + (k + 1) by omega] at h4
    exact h4
/-- What put does: a pair whose states are kin is left out. -/
def puZ (nx : Nat) (H : Nat → Nat) (l : Mt14) (P : Nat × Nat) (u : List Nat) : Mt14 := if H P.1 = H (nx + P.2) then l else l ++ [(P, u)]
theorem okZ_put {x y : Da} {l : Mt14} {a c n : Nat} {X : Nat × Nat} {w : List Nat} {H : Nat → Nat} (h : okZ x y l a c) (hk : kiP x.n2 n l H) (hc : c < 259) (hX : l[a]? = some (X, w)) (h1 : (go14 x y c X).1 < n) (h2 : x.n2 + (go14 x y c X).2 < n) : okZ x y (puZ x.n2 H l (go14 x y c X) (w ++ [c])) a (c + 1) := by
  obtain ⟨hr1, hr2⟩ := h.run X w (List.mem_of_getElem? hX)
  have hal := lt_some hX
  have hb := h.bound X w hX
  unfold puZ
  by_cases hin : H (go14 x y c X).1 = H (x.n2 + (go14 x y c X).2)
  · rw [if_pos hin]
    refine ⟨h.zero, h.run, h.up, h.once, fun j d Y v hj hd hh => ?_, fun Y v hY P u hu => ?_⟩
    · by_cases e : j = a ∧ d = c
      · obtain ⟨rfl, rfl⟩ := e
        rw [hX] at hj; cases hj
        exact fun f hf => hk.only f (fun Q u hu => hf Q u hu (Nat.le_trans (hb Q u hu) (by omega))) _ _ h1 h2 hin
      · exact h.done j d Y v hj hd (by
          rcases hh with g | ⟨g1, g2⟩
          · exact .inl g
          · exact .inr ⟨g1, by
              by_cases e2 : d = c
              · exact absurd ⟨g1, e2⟩ e
              · omega⟩)
    · rw [hX] at hY; cases hY
      exact Nat.le_trans (hb P u hu) (by omega)
  · rw [if_neg hin]
    have hnot : ∀ v, (go14 x y c X, v) ∉ l := fun v hv => hin (hk.met _ v hv)
    have hnew : ∀ (i : Nat) (e : (Nat × Nat) × List Nat), (l ++ [(go14 x y c X, w ++ [c])])[i]? = some e → (i < l.length ∧ l[i]? = some e) ∨ (i = l.length ∧ e = (go14 x y c X, w ++ [c])) := fun i e he => by
      rcases Nat.lt_or_ge i l.length with g | g
      · rw [List.getElem?_append_left g] at he; exact .inl ⟨g, he⟩
      · rw [List.getElem?_append_right g] at he
        have : i - l.length = 0 := by
          rcases Nat.eq_zero_or_pos (i - l.length) with q | q
          · exact q
          · rw [List.getElem?_eq_none (by simp; omega)] at he; cases he
        rw [this] at he
        exact .inr ⟨by omega, by simpa using he.symm⟩
    have hmem : ∀ (P : Nat × Nat) (u : List Nat), (P, u) ∈ l ++ [(go14 x y c X, w ++ [c])] → (P, u) ∈ l ∨ (P = go14 x y c X ∧ u = w ++ [c]) := fun P u hu => by
      rcases List.mem_append.1 hu with g | g
      · exact .inl g
      · have : (P, u) = (go14 x y c X, w ++ [c]) := by simpa using g
        exact .inr ⟨congrArg Prod.fst this, congrArg Prod.snd this⟩
    refine ⟨by rw [List.getElem?_append_left (by omega)]; exact h.zero, fun P u hu => ?_, fun i j e f hij he hf => ?_, fun i j e f he hf hef => ?_, fun j d Y v hj hd hh => ?_, fun Y v hY P u hu => ?_⟩
    · rcases hmem P u hu with g | ⟨rfl, rfl⟩
      · exact h.run P u g
      · exact ⟨by rw [rnG_snoc, ← hr1], okw_append.2 ⟨hr2, okw_cons.2 ⟨hc, okw_nil⟩⟩⟩
    · rcases hnew i e he with ⟨g1, g2⟩ | ⟨g1, g2⟩
      · rcases hnew j f hf with ⟨k1, k2⟩ | ⟨k1, k2⟩
        · exact h.up i j e f hij g2 k2
        · subst k2
          rw [nmW_snoc]
          have := hb e.1 e.2 (List.mem_of_getElem? g2)
          omega
      · rcases hnew j f hf with ⟨k1, k2⟩ | ⟨k1, k2⟩ <;> omega
    · rcases hnew i e he with ⟨g1, g2⟩ | ⟨g1, g2⟩
      · rcases hnew j f hf with ⟨k1, k2⟩ | ⟨k1, k2⟩
        · exact h.once i j e f g2 k2 hef
        · subst k2
          have hef2 : e.1 = go14 x y c X := hef
          exact absurd (by have := List.mem_of_getElem? g2; rw [← hef2]; exact this) (hnot e.2)
      · rcases hnew j f hf with ⟨k1, k2⟩ | ⟨k1, k2⟩
        · subst g2
          have hef2 : go14 x y c X = f.1 := hef
          exact absurd (by have := List.mem_of_getElem? k2; rw [hef2]; exact this) (hnot f.2)
        · omega
    · have hj2 : j < l.length ∧ l[j]? = some (Y, v) := by
        rcases hnew j (Y, v) hj with g | ⟨g1, _⟩
        · exact g
        · exfalso
          rcases hh with k | ⟨k, _⟩ <;> omega
      by_cases e : j = a ∧ d = c
      · obtain ⟨rfl, rfl⟩ := e
        rw [hX] at hj2
        cases hj2.2
        exact cvZ_in (List.mem_append_right _ (List.mem_singleton.2 rfl)) (by rw [nmW_snoc]; exact Nat.le_refl _)
      · exact cvZ_mono (h.done j d Y v hj2.2 hd (by
          rcases hh with g | ⟨g1, g2⟩
          · exact .inl g
          · exact .inr ⟨g1, by
              by_cases e2 : d = c
              · exact absurd ⟨g1, e2⟩ e
              · omega⟩)) (fun _ k => List.mem_append_left _ k) (Nat.le_refl _)
    · rcases hnew a (Y, v) hY with ⟨_, g⟩ | ⟨g, _⟩
      · rw [hX] at g; cases g
        rcases hmem P u hu with k | ⟨rfl, rfl⟩
        · exact Nat.le_trans (hb P u k) (by omega)
        · rw [nmW_snoc]; omega
      · omega
theorem puZ_old {nx : Nat} {H : Nat → Nat} {l : Mt14} {P : Nat × Nat} {u : List Nat} {a : Nat} {e : (Nat × Nat) × List Nat} (h : l[a]? = some e) : (puZ nx H l P u)[a]? = some e := by
  unfold puZ
  split
  · exact h
  · rw [List.getElem?_append_left (lt_some h)]; exact h
set_option maxRecDepth 100000 in
/-- The next one. -/
theorem okZ_next {x y : Da} {l : Mt14} {a : Nat} (h : okZ x y l a 259) : okZ x y l (a + 1) 0 := by
  refine ⟨h.zero, h.run, h.up, h.once, fun j d X w hj hd hh => h.done j d X w hj hd ?_, fun X w hX P u hu => ?_⟩
  · rcases hh with g | ⟨_, g⟩
    · by_cases e : j = a
      · exact .inr ⟨e, hd⟩
      · exact .inl (by omega)
    · exact absurd g (Nat.not_lt_zero _)
  · have hal : a < l.length := by have := lt_some hX; omega
    have hA : l[a]? = some ((l[a]).1, (l[a]).2) := List.getElem?_eq_getElem hal
    have h1 := h.bound _ _ hA P u hu
    have h2 := h.up a (a + 1) _ _ (Nat.lt_succ_self a) hA hX
    simp only at h1 h2
    have key : ∀ A B C : Nat, C ≤ A * 259 + 259 → A < B → C ≤ B * 259 + 0 := fun A B C k1 k2 => by omega
    exact key _ _ _ h1 h2
/-- Where its states lie. -/
theorem okZ_lt {x y : Da} (hx : rgD x) (hy : rgD y) {l : Mt14} {a c : Nat} (h : okZ x y l a c) {P : Nat × Nat} {u : List Nat} (hu : (P, u) ∈ l) : P.1 < x.n2 ∧ P.2 < y.n2 := by
  obtain ⟨hr, hw⟩ := h.run _ _ hu
  rw [show st14 x y = (x.st.toNat, y.st.toNat) from rfl, rn14] at hr
  rw [hr]
  exact ⟨runW_lt hx u _ (st_lt hx) hw, runW_lt hy u _ (st_lt hy) hw⟩
/-- What is left of a word, from a thing on. -/
def sfZ (x y : Da) (u : List Nat) (s : Nat) : Bool := if s < x.n2 then x.T (runW x s u) else y.T (runW y (s - x.n2) u)
set_option maxRecDepth 100000 in
/-- No word that is ahead of all that is not done tells the two apart. -/
theorem okZ_none {x y : Da} (hx : rgD x) (hy : rgD y) {l : Mt14} {a : Nat} (h : okZ x y l a 0) (hb : ∀ j (p' q' : Nat) (u : List Nat), j < a → l[j]? = some ((p', q'), u) → x.T p' = y.T q') (v : List Nat) (hi : ∀ (P : Nat × Nat) (z : List Nat), (P, z) ∈ l → nmW z ≤ nmW v → ∃ j, j < a ∧ l[j]? = some (P, z)) : ¬ dfW x y v := by
  rintro ⟨hv, hdf⟩
  have key : ∀ (u2 u1 : List Nat), u1 ++ u2 = v → ∀ (P : Nat × Nat) (z : List Nat), (P, z) ∈ l → nmW z ≤ nmW u1 → x.T (runW x P.1 u2) = y.T (runW y P.2 u2) := by
    intro u2
    induction u2 with
    | nil =>
      intro u1 e P z hz hle
      rw [List.append_nil] at e
      obtain ⟨j, h1, h2⟩ := hi P z hz (by rw [← e]; exact hle)
      exact hb j P.1 P.2 z h1 h2
    | cons c u2 ih =>
      intro u1 e P z hz hle
      have hpre : nmW u1 ≤ nmW v := by rw [← e]; exact nmW_pre _ _
      obtain ⟨j, h1, h2⟩ := hi P z hz (Nat.le_trans hle hpre)
      have hc : c < 259 := (okw_cons.1 (okw_append.1 (e ▸ hv)).2).1
      have hcv := h.done j c P z h2 hc (.inl h1)
      have hz2 := okZ_lt hx hy h hz
      have hall := hcv (sfZ x y u2) fun Q u hu hn => by
        have hQ := okZ_lt hx hy h hu
        have := ih (u1 ++ [c]) (by rw [List.append_assoc]; exact e) Q u hu (by rw [nmW_snoc]; exact Nat.le_trans hn (by have := Nat.mul_le_mul_right 259 hle; omega))
        unfold sfZ
        rw [if_pos hQ.1, if_neg (by omega), Nat.add_sub_cancel_left]
        exact this
      unfold sfZ at hall
      have g1 : (go14 x y c P).1 < x.n2 := runW_lt hx [c] _ hz2.1 (okw_cons.2 ⟨hc, okw_nil⟩)
      rw [if_pos g1, if_neg (by omega), Nat.add_sub_cancel_left] at hall
      exact hall
  refine hdf ?_
  exact key v [] rfl (st14 x y) [] (List.mem_of_getElem? h.zero) (Nat.le_refl _)
/-- The first pair at which they part. -/
theorem apZ_found {x y : Da} (hx : rgD x) (hy : rgD y) {l : Mt14} {a : Nat} {p q : Nat} {w : List Nat} (h : okZ x y l a 0) (hX : l[a]? = some ((p, q), w)) (hd : x.T p ≠ y.T q) (hb : ∀ j (p' q' : Nat) (u : List Nat), j < a → l[j]? = some ((p', q'), u) → x.T p' = y.T q') : apW x y w := by
  obtain ⟨hr, hw⟩ := h.run _ _ (List.mem_of_getElem? hX)
  rw [show st14 x y = (x.st.toNat, y.st.toNat) from rfl, rn14] at hr
  cases hr
  refine ⟨⟨hw, hd⟩, fun v hv => Nat.le_of_not_lt fun hlt => okZ_none hx hy h hb v (fun P z hz hle => ?_) hv⟩
  obtain ⟨j, hj⟩ := mem_at hz
  refine ⟨j, ?_, hj⟩
  rcases Nat.lt_or_ge j a with g | g
  · exact g
  · exfalso
    by_cases e : j = a
    · subst e
      rw [hX] at hj; cases hj
      omega
    · have := h.up a j _ _ (by omega) hX hj
      simp only at this
      omega
/-- They part at none. -/
theorem apZ_none {x y : Da} (hx : rgD x) (hy : rgD y) {l : Mt14} {a : Nat} (h : okZ x y l a 0) (ha : l.length ≤ a) (hb : ∀ j (p' q' : Nat) (u : List Nat), j < a → l[j]? = some ((p', q'), u) → x.T p' = y.T q') (v : List Nat) : ¬ dfW x y v :=
  okZ_none hx hy h hb v fun P z hz _ => by
    obtain ⟨j, hj⟩ := mem_at hz
    exact ⟨j, by have := lt_some hj; omega, hj⟩
/-- There are not more than pairs of states. -/
theorem okZ_few {x y : Da} (hx : rgD x) (hy : rgD y) {l : Mt14} {a c : Nat} (h : okZ x y l a c) : l.length ≤ x.n2 * y.n2 := by
  have hnd : (l.map fun e => e.1.1 * y.n2 + e.1.2).Nodup := by
    rw [List.nodup_iff_pairwise_ne, List.pairwise_map, List.pairwise_iff_getElem]
    intro i j h1 h2 hij e
    obtain ⟨a1, a2⟩ := okZ_lt hx hy h (List.getElem_mem h1)
    obtain ⟨b1, b2⟩ := okZ_lt hx hy h (List.getElem_mem h2)
    have dv : ∀ a b : Nat, b < y.n2 → (a * y.n2 + b) / y.n2 = a := fun a b hb => by
      rw [Nat.mul_comm, Nat.mul_add_div (by omega), Nat.div_eq_of_lt hb, Nat.add_zero]
    have e1 : (l[i]).1.1 = (l[j]).1.1 := by rw [← dv (l[i]).1.1 (l[i]).1.2 a2, e, dv (l[j]).1.1 (l[j]).1.2 b2]
    have e2 : (l[i]).1.2 = (l[j]).1.2 := by rw [e1] at e; omega
    have := h.once i j _ _ (List.getElem?_eq_getElem h1) (List.getElem?_eq_getElem h2) (Prod.ext e1 e2)
    omega
  have := okA_le (m := x.n2 * y.n2) (A := l.map fun e => e.1.1 * y.n2 + e.1.2) ⟨hnd, fun q hq => by
    obtain ⟨e, he, rfl⟩ := List.mem_map.1 hq
    obtain ⟨h1, h2⟩ := okZ_lt hx hy h he
    have := Nat.mul_le_mul_right y.n2 (show e.1.1 + 1 ≤ x.n2 from h1)
    rw [Nat.succ_mul] at this
    show e.1.1 * y.n2 + e.1.2 < _
    omega⟩
  rwa [List.length_map] at this
end Go.Proofs.Ytefpoapbodbenaa

namespace Go.Proofs.Ytefpoapbodbenaa
open Go.RowKit

theorem laidOut10 : laidOutB Try.prog = true := by kernel_rfl
theorem pairWide : (match Try.prog.underlying 103 with | some (.array _ _) | some (.struct _) => true | _ => false) = true := by kernel_rfl
set_option maxRecDepth 100000 in
theorem pairLaw : Go.Maps.Keyed Try.prog 103 := Go.Maps.Keyed.of_law (deep_law_laid laidOut10 (m := 3) (by omega) (of_decide_eq_true (by kernel_rfl)) (by kernel_rfl) pairWide)
theorem pairKey : Try.prog.keyType 103 = true := by kernel_rfl
theorem pairCells : Try.prog.cellsOf 103 = 2 := by kernel_rfl
theorem intCells10 : Try.prog.cellsOf 3 = 1 := by kernel_rfl
/-- What a pair reads as. -/
def kpL (a b : Int) : Lit := .string (keyBytes [.int .i64 a, .int .i64 b])
@[reducible] def prV (a b : Int) : Value := .agg #[.int .i64 a, .int .i64 b]
set_option maxRecDepth 100000 in
theorem pairLits (n : Nat) {a b : Int} (ha : wfI a) (hb : wfI b) : Try.prog.keyLits (n + 2) 103 [.int .i64 a, .int .i64 b] = some [.int .i64 a, .int .i64 b] := by
  unfold wfI at ha hb
  have e : ∀ x : Int, (Lit.int .i64 x).wf = true → Try.prog.keyLits (n + 1) 3 [.int .i64 x] = some [.int .i64 x] := fun x hx => by
    simp [Program.keyLits, Try.underlying3, hx]
  unfold Program.keyLits
  simp only [Try.underlying103]
  simp [pairCells, intCells10, e _ ha, e _ hb]
set_option maxRecDepth 100000 in
theorem pairSize : ∃ n, Try.prog.types.size = n + 1 := ⟨_, (rfl : Try.prog.types.size = (Try.prog.types.size - 1) + 1)⟩
theorem kp_key {a b : Int} (ha : wfI a) (hb : wfI b) : keyOf Try.prog 103 (prV a b) = some (kpL a b) := by
  obtain ⟨n, hn⟩ := pairSize
  have hl := pairLits n ha hb
  have hf : (prV a b).formed Try.prog 103 = true := by
    simp [Value.formed, Try.underlying103, pairCells]
  unfold keyOf
  rw [Try.underlying103]
  simp only [pairKey, hf, hn, Bool.and_self, if_true]
  have : (prV a b).cells.toList = [.int .i64 a, .int .i64 b] := rfl
  rw [this, hl]
  rfl
theorem kp_inj {a b a' b' : Int} (ha : wfI a) (hb : wfI b) (ha' : wfI a') (hb' : wfI b') : kpL a b = kpL a' b' ↔ a = a' ∧ b = b' := by
  constructor
  · intro h
    have h1 := kp_key ha hb
    rw [h] at h1
    have := pairLaw.inj h1 (kp_key ha' hb')
    simpa [prV] using this
  · rintro ⟨rfl, rfl⟩; rfl
theorem kp_lit {a b : Int} (ha : wfI a) (hb : wfI b) : WideAt.IsKeyLit (kpL a b) := pairLaw.key (kp_key ha hb)
theorem zeroI10 (w : World) : (zeroValue 3).run Try.prog w = .ok (.int .i64 0) w := by kernel_rfl

abbrev Dm := DataW Unit
@[reducible] def iL (x : Int) : Dm := .lit (.int .i64 x)
/-- The map behind i rounds: the pairs of the first i places, each with its class. -/
def mpJ (l l' : Nat → Int) (i : Nat) (D : Dm) : Prop :=
  Maps.size D = cntT (isH (joR l l')) i ∧ ∀ x : Nat, wfI (l x) → wfI (l' x) →
    ((∃ j, j < i ∧ joR l l' j x = true) → Maps.has D (kpL (l x) (l' x)) = true ∧ D.atKey (kpL (l x) (l' x)) (iL 0) = iL (clA (joR l l') x : Nat)) ∧
    ((∀ j, j < i → joR l l' j x = false) → Maps.has D (kpL (l x) (l' x)) = false)
theorem mpJ_zero (l l' : Nat → Int) : mpJ l l' 0 (.map []) := ⟨rfl, fun _ _ _ => ⟨fun ⟨_, h, _⟩ => absurd h (Nat.not_lt_zero _), fun _ => rfl⟩⟩
/-- A pair that was met: nothing turns. -/
theorem mpJ_old {l l' : Nat → Int} {i : Nat} {D : Dm} (h : mpJ l l' i D) (hm : ∃ j, j < i ∧ joR l l' j i = true) : mpJ l l' (i + 1) D := by
  obtain ⟨j, hj, hji⟩ := hm
  have hR := joR_eq l l'
  have hnh : isH (joR l l') i = false := by
    unfold isH
    have h1 := hdA_le (joR l l') j
    have h2 := hdA_same hR hji
    rw [← h2]
    simp; omega
  refine ⟨by rw [h.1, cntT_succ, if_neg (by rw [hnh]; simp)]; rfl, fun x hx hx' => ⟨fun ⟨k, hk, hkx⟩ => ?_, fun hn => (h.2 x hx hx').2 fun k hk => hn k (by omega)⟩⟩
  by_cases e : k = i
  · subst e
    exact (h.2 x hx hx').1 ⟨j, hj, hR.tr _ _ _ hji hkx⟩
  · exact (h.2 x hx hx').1 ⟨k, by omega, hkx⟩
/-- A pair that is new. -/
theorem mpJ_new {l l' : Nat → Int} {i : Nat} {D : Dm} (h : mpJ l l' i D) (ht : Maps.Tidy D) (hw : wfI (l i)) (hw' : wfI (l' i)) (hm : ∀ j, j < i → joR l l' j i = false) :
    mpJ l l' (i + 1) (D.put (kpL (l i) (l' i)) (iL (cntT (isH (joR l l')) i : Nat))) ∧ clA (joR l l') i = cntT (isH (joR l l')) i := by
  have hR := joR_eq l l'
  have hself := hdA_self hm
  have hih : isH (joR l l') i = true := by unfold isH; rw [beq_iff_eq]; exact hself
  have hcl := clA_head hih
  have hkl := kp_lit hw hw'
  have hno := (h.2 i hw hw').2 hm
  refine ⟨⟨?_, fun x hx hx' => ?_⟩, hcl⟩
  · rw [Maps.size_put ht, hno, h.1, cntT_succ, hih]; simp
  · by_cases e : joR l l' i x = true
    · have e2 := joR_iff.1 e
      have ek : kpL (l x) (l' x) = kpL (l i) (l' i) := by rw [e2.1, e2.2]
      rw [ek]
      refine ⟨fun _ => ⟨Maps.has_put_same ht.isMap hkl _, ?_⟩, fun hn => ?_⟩
      · rw [Maps.atKey_put_same ht.isMap hkl, ← hcl, (clA_iff hR).2 e]
      · rw [hn i (Nat.lt_succ_self i)] at e; cases e
    · have ek : kpL (l x) (l' x) ≠ kpL (l i) (l' i) := fun g => e (joR_iff.2 (by have := (kp_inj hx hx' hw hw').1 g; exact ⟨this.1.symm, this.2.symm⟩))
      rw [Maps.has_put_other ek, Maps.atKey_put_other ek]
      refine ⟨fun ⟨k, hk, hkx⟩ => ?_, fun hn => (h.2 x hx hx').2 fun k hk => hn k (by omega)⟩
      by_cases g : k = i
      · subst g; exact absurd hkx e
      · exact (h.2 x hx hx').1 ⟨k, by omega, hkx⟩
end Go.Proofs.Ytefpoapbodbenaa
