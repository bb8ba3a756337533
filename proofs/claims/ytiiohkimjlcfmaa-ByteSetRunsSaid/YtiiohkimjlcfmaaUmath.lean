/-
  What the runs of a union of runs are: a gap between each two, no more than came, and the same bytes. Plain facts.
-/
import Derived.Test.YtiiohkimjlcfmaaUnion
namespace Go.Proofs.Ytiiohkimjlcfmaa

theorem starts_nodup (f : Nat → Bool) (n : Nat) : (starts f n).Nodup := List.Nodup.sublist List.filter_sublist List.nodup_range

/-- A start of a union of runs is where one of them begins. -/
theorem start_in (l : List (Nat × Nat)) (x : Nat) (h : st (inU l) x = true) : x ∈ l.map (·.1) := by
  unfold st at h
  simp only [Bool.and_eq_true, Bool.or_eq_true, decide_eq_true_eq, Bool.not_eq_true'] at h
  obtain ⟨h1, h2⟩ := h
  unfold inU at h1
  rw [List.any_eq_true] at h1
  obtain ⟨r, hr, hx⟩ := h1
  simp only [Bool.and_eq_true, decide_eq_true_eq] at hx
  refine List.mem_map.2 ⟨r, hr, ?_⟩
  rcases Nat.lt_or_ge r.1 x with h3 | h3
  · exfalso
    rcases h2 with h2 | h2
    · omega
    · unfold inU at h2
      rw [List.any_eq_false] at h2
      have := h2 r hr
      simp only [Bool.and_eq_true, decide_eq_true_eq] at this
      omega
  · omega
theorem nodup_subset_length {a b : List Nat} (hn : a.Nodup) (hs : ∀ x, x ∈ a → x ∈ b) : a.length ≤ b.length := by
  induction a generalizing b with
  | nil => simp
  | cons x a ih =>
    have hx : x ∈ b := hs x (by simp)
    have hn' := List.nodup_cons.1 hn
    have : a.length ≤ (b.erase x).length := ih hn'.2 fun y hy => by
      have hne : y ≠ x := fun e => hn'.1 (e ▸ hy)
      exact (List.mem_erase_of_ne hne).2 (hs y (by simp [hy]))
    rw [List.length_erase_of_mem hx] at this
    have hpos : 0 < b.length := List.length_pos_of_mem hx
    simp only [List.length_cons]
    omega
theorem segs_few (l : List (Nat × Nat)) (n m : Nat) : (segs (inU l) n m).length ≤ l.length := by
  have := nodup_subset_length (starts_nodup (inU l) n) fun x hx => start_in l x (starts_mem _ _ _ hx).2
  unfold segs
  rw [List.length_map]
  rw [List.length_map] at this
  exact this

/-- Each run is whole, and lies within the bytes. -/
theorem segs_whole (f : Nat → Bool) (r : Nat × Nat) (h : r ∈ segs f 256 256) : r.1 ≤ r.2 ∧ r.2 < 256 ∧ r.1 < 256 := by
  unfold segs at h
  obtain ⟨lo, hlo, rfl⟩ := List.mem_map.1 h
  have hs := starts_mem f 256 lo hlo
  have := upTo_props f lo 256 hs.1
  exact ⟨this.1, this.2.1, hs.1⟩
/-- The starts rise. -/
theorem starts_rise (f : Nat → Bool) (n : Nat) : (starts f n).Pairwise (· < ·) := List.Pairwise.sublist List.filter_sublist List.pairwise_lt_range
/-- Between two runs there is a gap. -/
theorem segs_gap (f : Nat → Bool) (i : Nat) (h0 : 0 < i) (h : i < (segs f 256 256).length) : (segs f 256 256)[i - 1].2 + 2 ≤ (segs f 256 256)[i].1 := by
  have hl : (segs f 256 256).length = (starts f 256).length := by simp [segs]
  have e1 : (segs f 256 256)[i].1 = (starts f 256)[i]'(by omega) := by simp [segs]
  have e2 : (segs f 256 256)[i - 1].2 = upTo f ((starts f 256)[i - 1]'(by omega)) 256 := by simp [segs]
  rw [e1, e2]
  have hr := List.pairwise_iff_getElem.1 (starts_rise f 256) (i - 1) i (by omega) (by omega) (by omega)
  have m1 := starts_mem f 256 _ (List.getElem_mem (show i - 1 < (starts f 256).length by omega))
  have m2 := starts_mem f 256 _ (List.getElem_mem (show i < (starts f 256).length by omega))
  generalize (starts f 256)[i - 1]'(by omega) = a at *
  generalize (starts f 256)[i]'(by omega) = b at *
  obtain ⟨p1, p2, p3, p4⟩ := upTo_props f a 256 m1.1
  have hb := m2.2
  unfold st at hb
  simp only [Bool.and_eq_true, Bool.or_eq_true, decide_eq_true_eq, Bool.not_eq_true'] at hb
  rcases hb.2 with h3 | h3
  · omega
  · rcases Nat.lt_or_ge (upTo f a 256) (b - 1) with h4 | h4
    · omega
    · exfalso
      rcases Nat.lt_or_ge a (b - 1) with h5 | h5
      · rw [p3 (b - 1) h5 h4] at h3; cases h3
      · have hab : a = b - 1 := by omega
        have ha := m1.2
        unfold st at ha
        simp only [Bool.and_eq_true] at ha
        rw [← hab, ha.1] at h3
        cases h3

/-- Each byte of a set lies in the run that starts at some place at or ahead of it. -/
theorem byte_start (f : Nat → Bool) (x : Nat) (h : f x = true) : ∃ a, a ≤ x ∧ st f a = true ∧ ∀ y, a < y → y ≤ x → f y = true := by
  induction x with
  | zero => exact ⟨0, Nat.le_refl _, by simp [st, h], fun y h1 h2 => by omega⟩
  | succ x ih =>
    cases hx : f x
    · exact ⟨x + 1, Nat.le_refl _, by simp [st, h, hx], fun y h1 h2 => by omega⟩
    · obtain ⟨a, h1, h2, h3⟩ := ih hx
      refine ⟨a, by omega, h2, fun y h4 h5 => ?_⟩
      by_cases hy : y = x + 1
      · rw [hy]; exact h
      · exact h3 y h4 (by omega)
theorem segs_union (f : Nat → Bool) (x : Nat) (hx : x < 256) : inU (segs f 256 256) x = f x := by
  rw [Bool.eq_iff_iff]
  unfold inU
  rw [List.any_eq_true]
  constructor
  · rintro ⟨r, hr, h⟩
    simp only [Bool.and_eq_true, decide_eq_true_eq] at h
    unfold segs at hr
    obtain ⟨lo, hlo, rfl⟩ := List.mem_map.1 hr
    have hs := starts_mem f 256 lo hlo
    have hp := upTo_props f lo 256 hs.1
    by_cases he : x = lo
    · have := hs.2
      unfold st at this
      simp only [Bool.and_eq_true] at this
      rw [he]; exact this.1
    · exact hp.2.2.1 x (by have := h.1; show lo < x; omega) h.2
  · intro h
    obtain ⟨a, h1, h2, h3⟩ := byte_start f x h
    have ha : a ∈ starts f 256 := by
      unfold starts
      rw [List.mem_filter, List.mem_range]
      exact ⟨by omega, h2⟩
    refine ⟨(a, upTo f a 256), List.mem_map.2 ⟨a, ha, rfl⟩, ?_⟩
    simp only [Bool.and_eq_true, decide_eq_true_eq]
    refine ⟨h1, ?_⟩
    obtain ⟨p1, p2, p3, p4⟩ := upTo_props f a 256 (by omega)
    rcases Nat.lt_or_ge (upTo f a 256) x with h4 | h4
    · exfalso
      have := p4 (by omega)
      rw [h3 _ (by omega) (by omega)] at this
      cases this
    · exact h4
end Go.Proofs.Ytiiohkimjlcfmaa
