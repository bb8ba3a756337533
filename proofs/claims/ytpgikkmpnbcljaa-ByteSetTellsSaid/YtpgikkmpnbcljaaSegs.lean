/-
  The runs of a set, told by where they start and how far they go. Plain facts.
-/
import Derived.Test.YtpgikkmpnbcljaaRuns
namespace Go.Proofs.Ytpgikkmpnbcljaa

/-- A run starts here. -/
def st (f : Nat → Bool) (k : Nat) : Bool := f k && (decide (k = 0) || !f (k - 1))
/-- The places below n where a run starts, rising. -/
def starts (f : Nat → Bool) (n : Nat) : List Nat := (List.range n).filter (st f)
theorem starts_hit (f : Nat → Bool) (n : Nat) (h : st f n = true) : starts f (n + 1) = starts f n ++ [n] := by
  unfold starts; rw [List.range_succ, List.filter_append]; simp [h]
theorem starts_miss (f : Nat → Bool) (n : Nat) (h : st f n = false) : starts f (n + 1) = starts f n := by
  unfold starts; rw [List.range_succ, List.filter_append]; simp [h]
theorem starts_mem (f : Nat → Bool) (n x : Nat) (h : x ∈ starts f n) : x < n ∧ st f x = true := by
  unfold starts at h; rw [List.mem_filter, List.mem_range] at h; exact h

/-- How far the run that starts at lo goes, below k. -/
def upTo (f : Nat → Bool) (lo : Nat) : Nat → Nat
  | 0 => lo
  | k + 1 => if k ≤ lo then lo else if upTo f lo k + 1 = k ∧ f k = true then k else upTo f lo k
theorem upTo_props (f : Nat → Bool) (lo : Nat) (k : Nat) (hk : lo < k) :
    lo ≤ upTo f lo k ∧ upTo f lo k < k ∧ (∀ x, lo < x → x ≤ upTo f lo k → f x = true) ∧ (upTo f lo k + 1 < k → f (upTo f lo k + 1) = false) := by
  induction k with
  | zero => omega
  | succ k ih =>
    by_cases h0 : k ≤ lo
    · have hkl : k = lo := by omega
      have e : upTo f lo (k + 1) = lo := by simp [upTo, h0]
      rw [e]
      exact ⟨Nat.le_refl _, by omega, fun x h1 h2 => by omega, fun h => by omega⟩
    · obtain ⟨i1, i2, i3, i4⟩ := ih (by omega)
      by_cases h1 : upTo f lo k + 1 = k ∧ f k = true
      · have e : upTo f lo (k + 1) = k := by simp [upTo, h0, h1]
        rw [e]
        refine ⟨by omega, by omega, fun x a b => ?_, fun h => by omega⟩
        by_cases hx : x = k
        · rw [hx]; exact h1.2
        · exact i3 x a (by omega)
      · have e : upTo f lo (k + 1) = upTo f lo k := by simp only [upTo]; rw [if_neg h0, if_neg h1]
        rw [e]
        refine ⟨i1, by omega, i3, fun h => ?_⟩
        by_cases h2 : upTo f lo k + 1 < k
        · exact i4 h2
        · have h3 : upTo f lo k + 1 = k := by omega
          rw [h3]
          cases hf : f k
          · rfl
          · exact absurd ⟨h3, hf⟩ h1
theorem upTo_same (f : Nat → Bool) (lo k : Nat) (hk : lo < k) (h : upTo f lo k + 1 ≠ k ∨ f k = false) : upTo f lo (k + 1) = upTo f lo k := by
  simp only [upTo]
  rw [if_neg (by omega), if_neg]
  rintro ⟨a, b⟩
  rcases h with h | h
  · exact h a
  · rw [h] at b; cases b
theorem upTo_more (f : Nat → Bool) (lo k : Nat) (hk : lo < k) (h : upTo f lo k + 1 = k) (hf : f k = true) : upTo f lo (k + 1) = k := by
  simp only [upTo]
  rw [if_neg (by omega), if_pos ⟨h, hf⟩]
theorem upTo_own (f : Nat → Bool) (k : Nat) : upTo f k (k + 1) = k := by simp [upTo]
/-- There is but one end. -/
theorem upTo_only (f : Nat → Bool) (lo k h : Nat) (hk : lo < k) (h1 : lo ≤ h) (h2 : h < k) (h3 : ∀ x, lo < x → x ≤ h → f x = true) (h4 : h + 1 < k → f (h + 1) = false) : h = upTo f lo k := by
  obtain ⟨i1, i2, i3, i4⟩ := upTo_props f lo k hk
  rcases Nat.lt_trichotomy h (upTo f lo k) with h5 | h5 | h5
  · have := h4 (by omega)
    rw [i3 (h + 1) (by omega) (by omega)] at this
    cases this
  · exact h5
  · have := i4 (by omega)
    rw [h3 (upTo f lo k + 1) (by omega) (by omega)] at this
    cases this

/-- The runs that start below n, as far as they go below m. -/
def segs (f : Nat → Bool) (n m : Nat) : List (Nat × Nat) := (starts f n).map fun lo => (lo, upTo f lo m)

/-- What the last run is, ahead of k. -/
theorem segs_state (f : Nat → Bool) (k : Nat) :
    (0 < k ∧ f (k - 1) = true ∧ ∃ init lo, starts f k = init ++ [lo] ∧ upTo f lo k + 1 = k ∧ ∀ x, x ∈ init → upTo f x k + 1 < k) ∨
    ((k = 0 ∨ f (k - 1) = false) ∧ ∀ x, x ∈ starts f k → upTo f x k + 1 < k) := by
  induction k with
  | zero => exact .inr ⟨.inl rfl, fun x hx => by simp [starts] at hx⟩
  | succ k ih =>
    have low : ∀ x, x ∈ starts f k → upTo f x k < k := fun x hx => (upTo_props f x k (starts_mem f k x hx).1).2.1
    cases hf : f k
    · refine .inr ⟨.inr (by simpa using hf), fun x hx => ?_⟩
      have hs : st f k = false := by simp [st, hf]
      rw [starts_miss f k hs] at hx
      rw [upTo_same f x k (starts_mem f k x hx).1 (.inr hf)]
      have := low x hx
      omega
    · refine .inl ⟨by omega, by simpa using hf, ?_⟩
      rcases ih with ⟨hk0, hp, init, lo, hst, hlo, hin⟩ | ⟨hp, hin⟩
      · have hs : st f k = false := by
          have : ¬ k = 0 := by omega
          simp [st, hf, hp, this]
        rw [starts_miss f k hs]
        have hmem : ∀ x, x ∈ init → x ∈ starts f k := fun x hx => by rw [hst]; simp [hx]
        have hlm : lo ∈ starts f k := by rw [hst]; simp
        refine ⟨init, lo, hst, by rw [upTo_more f lo k (starts_mem f k lo hlm).1 hlo hf], fun x hx => ?_⟩
        have := hin x hx
        rw [upTo_same f x k (starts_mem f k x (hmem x hx)).1 (.inl (by omega))]
        omega
      · have hs : st f k = true := by
          rcases hp with hp | hp
          · subst hp; simp [st, hf]
          · simp [st, hf, hp]
        rw [starts_hit f k hs]
        refine ⟨starts f k, k, rfl, by rw [upTo_own], fun x hx => ?_⟩
        have := hin x hx
        rw [upTo_same f x k (starts_mem f k x hx).1 (.inl (by omega))]
        omega

theorem runsOf_snoc (l : List Nat) (b : Nat) : runsOf (l ++ [b]) = stepRun (runsOf l) b := by
  unfold runsOf; rw [List.foldl_append]; rfl

/-- The runs of the bytes below k are the runs that start below k, as far as they go below k. -/
theorem runs_segs (f : Nat → Bool) (k : Nat) (hk : k ≤ 256) : runsOf (bl f k) = segs f k k := by
  induction k with
  | zero => rfl
  | succ k ih =>
    have ih := ih (by omega)
    have low : ∀ x, x ∈ starts f k → x < k := fun x hx => (starts_mem f k x hx).1
    have same : ∀ l : List Nat, (∀ x, x ∈ l → upTo f x (k + 1) = upTo f x k) → (l.map fun lo => (lo, upTo f lo (k + 1))) = l.map fun lo => (lo, upTo f lo k) := fun l hl => List.map_congr_left fun x hx => by rw [hl x hx]
    cases hf : f k
    · have hs : st f k = false := by simp [st, hf]
      rw [bl_miss f k hf, ih]
      unfold segs
      rw [starts_miss f k hs, same _ fun x hx => upTo_same f x k (low x hx) (.inr hf)]
    · rw [bl_hit f k hf, runsOf_snoc, ih]
      unfold segs
      rcases segs_state f k with ⟨hk0, hp, init, lo, hst, hlo, hin⟩ | ⟨hp, hin⟩
      · have hs : st f k = false := by
          have : ¬ k = 0 := by omega
          simp [st, hf, hp, this]
        rw [starts_miss f k hs, hst, List.map_append, List.map_append]
        have hmem : ∀ x, x ∈ init → x ∈ starts f k := fun x hx => by rw [hst]; simp [hx]
        have hlm : lo ∈ starts f k := by rw [hst]; simp
        rw [same init fun x hx => upTo_same f x k (low x (hmem x hx)) (.inl (by have := hin x hx; omega))]
        simp only [List.map_cons, List.map_nil]
        rw [step_hit _ lo (upTo f lo k) k (by omega), upTo_more f lo k (low lo hlm) hlo hf]
      · have hs : st f k = true := by
          rcases hp with hp | hp
          · subst hp; simp [st, hf]
          · simp [st, hf, hp]
        rw [starts_hit f k hs, List.map_append, same _ fun x hx => upTo_same f x k (low x hx) (.inl (by have := hin x hx; omega))]
        simp only [List.map_cons, List.map_nil]
        rw [upTo_own]
        rcases List.eq_nil_or_concat (starts f k) with h0 | ⟨init, lo, h0⟩
        · rw [h0]; rfl
        · rw [List.concat_eq_append] at h0
          have hlm : lo ∈ starts f k := by rw [h0]; simp
          have := hin lo hlm
          rw [h0, List.map_append]
          simp only [List.map_cons, List.map_nil]
          rw [step_new _ lo (upTo f lo k) k (by omega)]

end Go.Proofs.Ytpgikkmpnbcljaa
