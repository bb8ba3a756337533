/-
  Runs of a set: plain facts (stage 1's, without any walk).
  Sets and trees as texts: what they are as lists of bytes. Plain facts.
-/
import Derived.Test.YtpfbmbegddemoaaPk5
import Derived.Test.YtpfbmbegddemoaaPk1
namespace Go.Proofs.Ytpfbmbegddemoaa

/-- One byte more, behind the runs of those ahead of it. -/
def stepRun (acc : List (Nat × Nat)) (b : Nat) : List (Nat × Nat) :=
  match acc.getLast? with
  | some (lo, hi) => if (hi + 1) % 256 = b then acc.dropLast ++ [(lo, b)] else acc ++ [(b, b)]
  | none => [(b, b)]
/-- The runs of rising bytes. -/
def runsOf (l : List Nat) : List (Nat × Nat) := l.foldl stepRun []
theorem runsOf_take (l : List Nat) (k : Nat) (h : k < l.length) : runsOf (l.take (k + 1)) = stepRun (runsOf (l.take k)) l[k] := by
  unfold runsOf
  rw [List.take_succ_eq_append_getElem h, List.foldl_append]
  rfl
theorem step_nil (b : Nat) : stepRun [] b = [(b, b)] := rfl
theorem step_hit (init : List (Nat × Nat)) (lo hi b : Nat) (h : (hi + 1) % 256 = b) : stepRun (init ++ [(lo, hi)]) b = init ++ [(lo, b)] := by
  unfold stepRun; simp [h]
theorem step_new (init : List (Nat × Nat)) (lo hi b : Nat) (h : (hi + 1) % 256 ≠ b) : stepRun (init ++ [(lo, hi)]) b = init ++ [(lo, hi)] ++ [(b, b)] := by
  unfold stepRun; simp [h]
theorem step_length (acc : List (Nat × Nat)) (b : Nat) : (stepRun acc b).length ≤ acc.length + 1 := by
  rcases List.eq_nil_or_concat acc with rfl | ⟨init, ⟨lo, hi⟩, rfl⟩
  · simp [step_nil]
  · rw [List.concat_eq_append]
    by_cases h : (hi + 1) % 256 = b
    · rw [step_hit init lo hi b h]; simp
    · rw [step_new init lo hi b h]; simp
theorem runsOf_length (l : List Nat) (k : Nat) (hk : k ≤ l.length) : (runsOf (l.take k)).length ≤ k := by
  induction k with
  | zero => simp [runsOf]
  | succ k ih =>
    rw [runsOf_take l k (by omega)]
    have := step_length (runsOf (l.take k)) l[k]
    have := ih (by omega)
    omega
theorem step_bytes (acc : List (Nat × Nat)) (b : Nat) (hb : b < 256) (h : ∀ r, r ∈ acc → r.1 < 256 ∧ r.2 < 256) : ∀ r, r ∈ stepRun acc b → r.1 < 256 ∧ r.2 < 256 := by
  rcases List.eq_nil_or_concat acc with rfl | ⟨init, ⟨lo, hi⟩, rfl⟩
  · intro r hr; rw [step_nil] at hr; simp at hr; subst hr; exact ⟨hb, hb⟩
  · rw [List.concat_eq_append] at *
    have hl := h (lo, hi) (by simp)
    intro r hr
    by_cases he : (hi + 1) % 256 = b
    · rw [step_hit init lo hi b he] at hr
      rcases List.mem_append.1 hr with hr | hr
      · exact h r (by simp [hr])
      · simp at hr; subst hr; exact ⟨hl.1, hb⟩
    · rw [step_new init lo hi b he] at hr
      rcases List.mem_append.1 hr with hr | hr
      · exact h r hr
      · simp at hr; subst hr; exact ⟨hb, hb⟩
theorem runsOf_bytes (l : List Nat) (hl : ∀ x, x ∈ l → x < 256) (k : Nat) (hk : k ≤ l.length) : ∀ r, r ∈ runsOf (l.take k) → r.1 < 256 ∧ r.2 < 256 := by
  induction k with
  | zero => intro r hr; simp [runsOf] at hr
  | succ k ih =>
    rw [runsOf_take l k (by omega)]
    exact step_bytes _ _ (hl _ (List.getElem_mem _)) (ih (by omega))
/-- A run starts here. -/
def st (f : Nat → Bool) (k : Nat) : Bool := f k && (decide (k = 0) || !f (k - 1))
/-- The places below n where a run starts, rising. -/
def starts (f : Nat → Bool) (n : Nat) : List Nat := (List.range n).filter (st f)
theorem starts_hit (f : Nat → Bool) (n : Nat) (h : st f n = true) : starts f (n + 1) = starts f n ++ [n] := by
  unfold starts; rw [List.range_succ, List.filter_append]; simp [h]
theorem starts_miss (f : Nat → Bool) (n : Nat) (h : st f n = false) : starts f (n + 1) = starts f n := by
  unfold starts; rw [List.range_succ, List.filter_append]; simp [h]
theorem starts_mem (f : Nat → Bool) (n x : Nat) (h : x ∈ starts f n) : x < n ∧ st f x = true := by
  unfold starts at h; rw [List.mem_filter, List.mem_range] at h; exact h
/-- How far the run that starts at lo goes, below k. -/
def upTo (f : Nat → Bool) (lo : Nat) : Nat → Nat
  | 0 => lo
  | k + 1 => if k ≤ lo then lo else if upTo f lo k + 1 = k ∧ f k = true then k else upTo f lo k
theorem upTo_props (f : Nat → Bool) (lo : Nat) (k : Nat) (hk : lo < k) :
    lo ≤ upTo f lo k ∧ upTo f lo k < k ∧ (∀ x, lo < x → x ≤ upTo f lo k → f x = true) ∧ (upTo f lo k + 1 < k → f (upTo f lo k + 1) = false) := by
  induction k with
  | zero => omega
  | succ k ih =>
    by_cases h0 : k ≤ lo
    · have hkl : k = lo := by omega
      have e : upTo f lo (k + 1) = lo := by simp [upTo, h0]
      rw [e]
      exact ⟨Nat.le_refl _, by omega, fun x h1 h2 => by omega, fun h => by omega⟩
    · obtain ⟨i1, i2, i3, i4⟩ := ih (by omega)
      by_cases h1 : upTo f lo k + 1 = k ∧ f k = true
      · have e : upTo f lo (k + 1) = k := by simp [upTo, h0, h1]
        rw [e]
        refine ⟨by omega, by omega, fun x a b => ?_, fun h => by omega⟩
        by_cases hx : x = k
        · rw [hx]; exact h1.2
        · exact i3 x a (by omega)
      · have e : upTo f lo (k + 1) = upTo f lo k := by simp only [upTo]; rw [if_neg h0, if_neg h1]
        rw [e]
        refine ⟨i1, by omega, i3, fun h => ?_⟩
        by_cases h2 : upTo f lo k + 1 < k
        · exact i4 h2
        · have h3 : upTo f lo k + 1 = k := by omega
          rw [h3]
          cases hf : f k
          · rfl
          · exact absurd ⟨h3, hf⟩ h1
theorem upTo_same (f : Nat → Bool) (lo k : Nat) (hk : lo < k) (h : upTo f lo k + 1 ≠ k ∨ f k = false) : upTo f lo (k + 1) = upTo f lo k := by
  simp only [upTo]
  rw [if_neg (by omega), if_neg]
  rintro ⟨a, b⟩
  rcases h with h | h
  · exact h a
  · rw [h] at b; cases b
theorem upTo_more (f : Nat → Bool) (lo k : Nat) (hk : lo < k) (h : upTo f lo k + 1 = k) (hf : f k = true) : upTo f lo (k + 1) = k := by
  simp only [upTo]
  rw [if_neg (by omega), if_pos ⟨h, hf⟩]
theorem upTo_own (f : Nat → Bool) (k : Nat) : upTo f k (k + 1) = k := by simp [upTo]
/-- There is but one end. -/
theorem upTo_only (f : Nat → Bool) (lo k h : Nat) (hk : lo < k) (h1 : lo ≤ h) (h2 : h < k) (h3 : ∀ x, lo < x → x ≤ h → f x = true) (h4 : h + 1 < k → f (h + 1) = false) : h = upTo f lo k := by
  obtain ⟨i1, i2, i3, i4⟩ := upTo_props f lo k hk
  rcases Nat.lt_trichotomy h (upTo f lo k) with h5 | h5 | h5
  · have := h4 (by omega)
    rw [i3 (h + 1) (by omega) (by omega)] at this
    cases this
  · exact h5
  · have := i4 (by omega)
    rw [h3 (upTo f lo k + 1) (by omega) (by omega)] at this
    cases this
/-- The runs that start below n, as far as they go below m. -/
def segs (f : Nat → Bool) (n m : Nat) : List (Nat × Nat) := (starts f n).map fun lo => (lo, upTo f lo m)
/-- What the last run is, ahead of k. -/
theorem segs_state (f : Nat → Bool) (k : Nat) :
    (0 < k ∧ f (k - 1) = true ∧ ∃ init lo, starts f k = init ++ [lo] ∧ upTo f lo k + 1 = k ∧ ∀ x, x ∈ init → upTo f x k + 1 < k) ∨
    ((k = 0 ∨ f (k - 1) = false) ∧ ∀ x, x ∈ starts f k → upTo f x k + 1 < k) := by
  induction k with
  | zero => exact .inr ⟨.inl rfl, fun x hx => by simp [starts] at hx⟩
  | succ k ih =>
    have low : ∀ x, x ∈ starts f k → upTo f x k < k := fun x hx => (upTo_props f x k (starts_mem f k x hx).1).2.1
    cases hf : f k
    · refine .inr ⟨.inr (by simpa using hf), fun x hx => ?_⟩
      have hs : st f k = false := by simp [st, hf]
      rw [starts_miss f k hs] at hx
      rw [upTo_same f x k (starts_mem f k x hx).1 (.inr hf)]
      have := low x hx
      omega
    · refine .inl ⟨by omega, by simpa using hf, ?_⟩
      rcases ih with ⟨hk0, hp, init, lo, hst, hlo, hin⟩ | ⟨hp, hin⟩
      · have hs : st f k = false := by
          have : ¬ k = 0 := by omega
          simp [st, hf, hp, this]
        rw [starts_miss f k hs]
        have hmem : ∀ x, x ∈ init → x ∈ starts f k := fun x hx => by rw [hst]; simp [hx]
        have hlm : lo ∈ starts f k := by rw [hst]; simp
        refine ⟨init, lo, hst, by rw [upTo_more f lo k (starts_mem f k lo hlm).1 hlo hf], fun x hx => ?_⟩
        have := hin x hx
        rw [upTo_same f x k (starts_mem f k x (hmem x hx)).1 (.inl (by omega))]
        omega
      · have hs : st f k = true := by
          rcases hp with hp | hp
          · subst hp; simp [st, hf]
          · simp [st, hf, hp]
        rw [starts_hit f k hs]
        refine ⟨starts f k, k, rfl, by rw [upTo_own], fun x hx => ?_⟩
        have := hin x hx
        rw [upTo_same f x k (starts_mem f k x hx).1 (.inl (by omega))]
        omega
theorem runsOf_snoc (l : List Nat) (b : Nat) : runsOf (l ++ [b]) = stepRun (runsOf l) b := by
  unfold runsOf; rw [List.foldl_append]; rfl
/-- The runs of the bytes below k are the runs that start below k, as far as they go below k. -/
theorem runs_segs (f : Nat → Bool) (k : Nat) (hk : k ≤ 256) : runsOf (bl f k) = segs f k k := by
  induction k with
  | zero => rfl
  | succ k ih =>
    have ih := ih (by omega)
    have low : ∀ x, x ∈ starts f k → x < k := fun x hx => (starts_mem f k x hx).1
    have same : ∀ l : List Nat, (∀ x, x ∈ l → upTo f x (k + 1) = upTo f x k) → (l.map fun lo => (lo, upTo f lo (k + 1))) = l.map fun lo => (lo, upTo f lo k) := fun l hl => List.map_congr_left fun x hx => by rw [hl x hx]
    cases hf : f k
    · have hs : st f k = false := by simp [st, hf]
      rw [bl_miss f k hf, ih]
      unfold segs
      rw [starts_miss f k hs, same _ fun x hx => upTo_same f x k (low x hx) (.inr hf)]
    · rw [bl_hit f k hf, runsOf_snoc, ih]
      unfold segs
      rcases segs_state f k with ⟨hk0, hp, init, lo, hst, hlo, hin⟩ | ⟨hp, hin⟩
      · have hs : st f k = false := by
          have : ¬ k = 0 := by omega
          simp [st, hf, hp, this]
        rw [starts_miss f k hs, hst, List.map_append, List.map_append]
        have hmem : ∀ x, x ∈ init → x ∈ starts f k := fun x hx => by rw [hst]; simp [hx]
        have hlm : lo ∈ starts f k := by rw [hst]; simp
        rw [same init fun x hx => upTo_same f x k (low x (hmem x hx)) (.inl (by have := hin x hx; omega))]
        simp only [List.map_cons, List.map_nil]
        rw [step_hit _ lo (upTo f lo k) k (by omega), upTo_more f lo k (low lo hlm) hlo hf]
      · have hs : st f k = true := by
          rcases hp with hp | hp
          · subst hp; simp [st, hf]
          · simp [st, hf, hp]
        rw [starts_hit f k hs, List.map_append, same _ fun x hx => upTo_same f x k (low x hx) (.inl (by have := hin x hx; omega))]
        simp only [List.map_cons, List.map_nil]
        rw [upTo_own]
        rcases List.eq_nil_or_concat (starts f k) with h0 | ⟨init, lo, h0⟩
        · rw [h0]; rfl
        · rw [List.concat_eq_append] at h0
          have hlm : lo ∈ starts f k := by rw [h0]; simp
          have := hin lo hlm
          rw [h0, List.map_append]
          simp only [List.map_cons, List.map_nil]
          rw [step_new _ lo (upTo f lo k) k (by omega)]
/-- What is in any of some runs. -/
def inU (l : List (Nat × Nat)) (x : Nat) : Bool := l.any fun r => decide (r.1 ≤ x) && decide (x ≤ r.2)
theorem inU_take (l : List (Nat × Nat)) (k : Nat) (h : k < l.length) : (fun x => inU (l.take k) x || (decide (l[k].1 ≤ x) && decide (x ≤ l[k].2))) = inU (l.take (k + 1)) := by
  funext x
  unfold inU
  rw [List.take_succ_eq_append_getElem h, List.any_append]
  simp
theorem inU_none (l : List (Nat × Nat)) : inU (l.take 0) = fun _ => false := rfl
theorem inU_nil : inU [] = fun _ => false := rfl
theorem starts_nodup (f : Nat → Bool) (n : Nat) : (starts f n).Nodup := List.Nodup.sublist List.filter_sublist List.nodup_range
/-- A start of a union of runs is where one of them begins. -/
theorem start_in (l : List (Nat × Nat)) (x : Nat) (h : st (inU l) x = true) : x ∈ l.map (·.1) := by
  unfold st at h
  simp only [Bool.and_eq_true, Bool.or_eq_true, decide_eq_true_eq, Bool.not_eq_true'] at h
  obtain ⟨h1, h2⟩ := h
  unfold inU at h1
  rw [List.any_eq_true] at h1
  obtain ⟨r, hr, hx⟩ := h1
  simp only [Bool.and_eq_true, decide_eq_true_eq] at hx
  refine List.mem_map.2 ⟨r, hr, ?_⟩
  rcases Nat.lt_or_ge r.1 x with h3 | h3
  · exfalso
    rcases h2 with h2 | h2
    · omega
    · unfold inU at h2
      rw [List.any_eq_false] at h2
      have := h2 r hr
      simp only [Bool.and_eq_true, decide_eq_true_eq] at this
      omega
  · omega
theorem nodup_subset_length {a b : List Nat} (hn : a.Nodup) (hs : ∀ x, x ∈ a → x ∈ b) : a.length ≤ b.length := by
  induction a generalizing b with
  | nil => simp
  | cons x a ih =>
    have hx : x ∈ b := hs x (by simp)
    have hn' := List.nodup_cons.1 hn
    have : a.length ≤ (b.erase x).length := ih hn'.2 fun y hy => by
      have hne : y ≠ x := fun e => hn'.1 (e ▸ hy)
      exact (List.mem_erase_of_ne hne).2 (hs y (by simp [hy]))
    rw [List.length_erase_of_mem hx] at this
    have hpos : 0 < b.length := List.length_pos_of_mem hx
    simp only [List.length_cons]
    omega
theorem segs_few (l : List (Nat × Nat)) (n m : Nat) : (segs (inU l) n m).length ≤ l.length := by
  have := nodup_subset_length (starts_nodup (inU l) n) fun x hx => start_in l x (starts_mem _ _ _ hx).2
  unfold segs
  rw [List.length_map]
  rw [List.length_map] at this
  exact this
/-- Each run is whole, and lies within the bytes. -/
theorem segs_whole (f : Nat → Bool) (r : Nat × Nat) (h : r ∈ segs f 256 256) : r.1 ≤ r.2 ∧ r.2 < 256 ∧ r.1 < 256 := by
  unfold segs at h
  obtain ⟨lo, hlo, rfl⟩ := List.mem_map.1 h
  have hs := starts_mem f 256 lo hlo
  have := upTo_props f lo 256 hs.1
  exact ⟨this.1, this.2.1, hs.1⟩
/-- The starts rise. -/
theorem starts_rise (f : Nat → Bool) (n : Nat) : (starts f n).Pairwise (· < ·) := List.Pairwise.sublist List.filter_sublist List.pairwise_lt_range
/-- Between two runs there is a gap. -/
theorem segs_gap (f : Nat → Bool) (i : Nat) (h0 : 0 < i) (h : i < (segs f 256 256).length) : (segs f 256 256)[i - 1].2 + 2 ≤ (segs f 256 256)[i].1 := by
  have hl : (segs f 256 256).length = (starts f 256).length := by simp [segs]
  have e1 : (segs f 256 256)[i].1 = (starts f 256)[i]'(by omega) := by simp [segs]
  have e2 : (segs f 256 256)[i - 1].2 = upTo f ((starts f 256)[i - 1]'(by omega)) 256 := by simp [segs]
  rw [e1, e2]
  have hr := List.pairwise_iff_getElem.1 (starts_rise f 256) (i - 1) i (by omega) (by omega) (by omega)
  have m1 := starts_mem f 256 _ (List.getElem_mem (show i - 1 < (starts f 256).length by omega))
  have m2 := starts_mem f 256 _ (List.getElem_mem (show i < (starts f 256).length by omega))
  generalize (starts f 256)[i - 1]'(by omega) = a at *
  generalize (starts f 256)[i]'(by omega) = b at *
  obtain ⟨p1, p2, p3, p4⟩ := upTo_props f a 256 m1.1
  have hb := m2.2
  unfold st at hb
  simp only [Bool.and_eq_true, Bool.or_eq_true, decide_eq_true_eq, Bool.not_eq_true'] at hb
  rcases hb.2 with h3 | h3
  · omega
  · rcases Nat.lt_or_ge (upTo f a 256) (b - 1) with h4 | h4
    · omega
    · exfalso
      rcases Nat.lt_or_ge a (b - 1) with h5 | h5
      · rw [p3 (b - 1) h5 h4] at h3; cases h3
      · have hab : a = b - 1 := by omega
        have ha := m1.2
        unfold st at ha
        simp only [Bool.and_eq_true] at ha
        rw [← hab, ha.1] at h3
        cases h3
/-- Each byte of a set lies in the run that starts at some place at or ahead of it. -/
theorem byte_start (f : Nat → Bool) (x : Nat) (h : f x = true) : ∃ a, a ≤ x ∧ st f a = true ∧ ∀ y, a < y → y ≤ x → f y = true := by
  induction x with
  | zero => exact ⟨0, Nat.le_refl _, by simp [st, h], fun y h1 h2 => by omega⟩
  | succ x ih =>
    cases hx : f x
    · exact ⟨x + 1, Nat.le_refl _, by simp [st, h, hx], fun y h1 h2 => by omega⟩
    · obtain ⟨a, h1, h2, h3⟩ := ih hx
      refine ⟨a, by omega, h2, fun y h4 h5 => ?_⟩
      by_cases hy : y = x + 1
      · rw [hy]; exact h
      · exact h3 y h4 (by omega)
theorem segs_union (f : Nat → Bool) (x : Nat) (hx : x < 256) : inU (segs f 256 256) x = f x := by
  rw [Bool.eq_iff_iff]
  unfold inU
  rw [List.any_eq_true]
  constructor
  · rintro ⟨r, hr, h⟩
    simp only [Bool.and_eq_true, decide_eq_true_eq] at h
    unfold segs at hr
    obtain ⟨lo, hlo, rfl⟩ := List.mem_map.1 hr
    have hs := starts_mem f 256 lo hlo
    have hp := upTo_props f lo 256 hs.1
    by_cases he : x = lo
    · have := hs.2
      unfold st at this
      simp only [Bool.and_eq_true] at this
      rw [he]; exact this.1
    · exact hp.2.2.1 x (by have := h.1; show lo < x; omega) h.2
  · intro h
    obtain ⟨a, h1, h2, h3⟩ := byte_start f x h
    have ha : a ∈ starts f 256 := by
      unfold starts
      rw [List.mem_filter, List.mem_range]
      exact ⟨by omega, h2⟩
    refine ⟨(a, upTo f a 256), List.mem_map.2 ⟨a, ha, rfl⟩, ?_⟩
    simp only [Bool.and_eq_true, decide_eq_true_eq]
    refine ⟨h1, ?_⟩
    obtain ⟨p1, p2, p3, p4⟩ := upTo_props f a 256 (by omega)
    rcases Nat.lt_or_ge (upTo f a 256) x with h4 | h4
    · exfalso
      have := p4 (by omega)
      rw [h3 _ (by omega) (by omega)] at this
      cases this
    · exact h4
end Go.Proofs.Ytpfbmbegddemoaa

namespace Go.Proofs.Ytpfbmbegddemoaa

def plainB (b : Nat) : Bool := (decide (48 ≤ b) && decide (b ≤ 57)) || (decide (65 ≤ b) && decide (b ≤ 90)) || (decide (97 ≤ b) && decide (b ≤ 122))
def hxd (d : Nat) : Nat := if d < 10 then 48 + d else 87 + d
/-- An end of a run. -/
def endL (b : Nat) : List Nat := if plainB b = true then [b] else [92, 120, hxd (b / 16), hxd (b % 16)]
/-- A run of a set, as a bracket has it. -/
def runL (r : Nat × Nat) : List Nat := endL r.1 ++ if r.2 = r.1 + 1 then endL r.2 else if r.1 + 1 < r.2 then 45 :: endL r.2 else []
theorem end_len (b : Nat) : 1 ≤ (endL b).length ∧ (endL b).length ≤ 4 := by unfold endL; split <;> simp
/-- A set as a pattern has it. -/
def setL (f : Nat → Bool) : List Nat :=
  if (bl f 256).length = 255 ∧ f 10 = false then [46]
  else if (bl f 256).length = 1 then (if 33 ≤ (bl f 256).headD 0 ∧ (bl f 256).headD 0 ≤ 126 ∧ plainB ((bl f 256).headD 0) = false then [92, (bl f 256).headD 0] else endL ((bl f 256).headD 0))
  else 91 :: ((segs f 256 256).flatMap runL ++ [93])
def bs (s : List Nat) : ByteArray := ⟨(s.map UInt8.ofNat).toArray⟩
theorem bs_size (s : List Nat) : (bs s).size = s.length := by unfold bs; simp [ByteArray.size]
def numL (n : Nat) : List Nat := if n < 10 then [48 + n] else [48 + n / 10, 48 + n % 10]
def oftL (lo hi : Int) : List Nat :=
  if hi = -1 ∧ lo = 0 then [42] else if hi = -1 ∧ lo = 1 then [43] else if lo = 0 ∧ hi = 1 then [63]
  else 123 :: (numL lo.toNat ++ (if hi = -1 then [44, 125] else if hi = lo then [125] else 44 :: (numL hi.toNat ++ [125])))
def fOf (x : Nd) : Nat → Bool := ofWords x.a.toNat x.b.toNat x.c.toNat x.d.toNat
/-- A node's words are such as words may be. -/
def okW (x : Nd) : Prop := (0 ≤ x.a ∧ x.a < 18446744073709551616) ∧ (0 ≤ x.b ∧ x.b < 18446744073709551616) ∧ (0 ≤ x.c ∧ x.c < 18446744073709551616) ∧ (0 ≤ x.d ∧ x.d < 18446744073709551616)
theorem fOf_wd {x : Nd} (h : okW x) : x.a = (wd (fOf x) 0 : Int) ∧ x.b = (wd (fOf x) 1 : Int) ∧ x.c = (wd (fOf x) 2 : Int) ∧ x.d = (wd (fOf x) 3 : Int) := by
  obtain ⟨⟨a1, a2⟩, ⟨b1, b2⟩, ⟨c1, c2⟩, ⟨d1, d2⟩⟩ := h
  obtain ⟨e1, e2, e3, e4⟩ := ofWords_wd (x0 := x.a.toNat) (x1 := x.b.toNat) (x2 := x.c.toNat) (x3 := x.d.toNat) (by omega) (by omega) (by omega) (by omega)
  unfold fOf
  omega
def par (b : Bool) (l : List Nat) : List Nat := if b = true then 40 :: (l ++ [41]) else l
theorem bs_append (a b : List Nat) : bs (a ++ b) = bs a ++ bs b := by
  unfold bs
  apply ByteArray.ext
  simp [ByteArray.data_append]
theorem bs_nil : bs [] = ByteArray.empty := rfl
/-- A text, with a group about it, if that is to be. -/
def parB (b : Bool) (s : ByteArray) : ByteArray := if b = true then ⟨#[40]⟩ ++ s ++ ⟨#[41]⟩ else s
theorem parB_bs (b : Bool) (l : List Nat) : parB b (bs l) = bs (par b l) := by
  unfold parB par
  cases b
  · rfl
  · rw [if_pos rfl, if_pos rfl, show 40 :: (l ++ [41]) = [40] ++ l ++ [41] from rfl, bs_append, bs_append]; rfl
theorem parB_len (b : Bool) (s : ByteArray) : (parB b s).size ≤ s.size + 2 := by
  unfold parB
  split
  · rw [ByteArray.size_append, ByteArray.size_append]; show 1 + s.size + 1 ≤ _; omega
  · omega
end Go.Proofs.Ytpfbmbegddemoaa
