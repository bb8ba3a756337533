/-
  Sets as patterns have them, as lists of bytes; what they are as tokens, wherever they stand in a text. Plain facts.
  The walks of show's in, digit, end, alone.
  The walks of slices.Grow (of nil) and slices.Concat, over runes.
-/
import Derived.Test.YtgjpmfdiidkdnaaGreatDoorPk1
import Derived.Test.YtgjpmfdiidkdnaaGreatDoorPk22
import Derived.Test.YtgjpmfdiidkdnaaGreatDoorPk15
import Derived.Test.YtgjpmfdiidkdnaaGreatDoorPk13
import Derived.Lib.AppendZeros
namespace Go.Proofs.YtgjpmfdiidkdnaaGreatDoor

/-- The bytes that stand in a text from a place on. -/
def has (p : ByteArray) (k : Nat) (s : List Nat) : Prop := ∀ i (h : i < s.length), gb p (k + i) = s[i] ∧ s[i] < 256
theorem has.head {p : ByteArray} {k c : Nat} {s : List Nat} (h : has p k (c :: s)) : gb p k = c ∧ c < 256 := h 0 (by simp)
theorem has.tail {p : ByteArray} {k c : Nat} {s : List Nat} (h : has p k (c :: s)) : has p (k + 1) s := fun i hi => by
  have := h (i + 1) (by simp; omega)
  simpa [show k + 1 + i = k + (i + 1) by omega] using this
theorem has.left {p : ByteArray} {k : Nat} {s t : List Nat} (h : has p k (s ++ t)) : has p k s := fun i hi => by
  have := h i (by simp; omega)
  simpa [List.getElem_append_left hi] using this
theorem has.right {p : ByteArray} {k : Nat} {s t : List Nat} (h : has p k (s ++ t)) : has p (k + s.length) t := fun i hi => by
  have := h (s.length + i) (by simp; omega)
  simpa [Nat.add_assoc] using this
theorem has.lt {p : ByteArray} {k c : Nat} {s : List Nat} (h : has p k (c :: s)) : k < p.size := by
  have h1 := h.head
  rw [← gb_lt_iff, h1.1]; exact h1.2

theorem hex_tab : ∀ b, b < 256 → 0 ≤ dig16 (hxd (b / 16)) ∧ 0 ≤ dig16 (hxd (b % 16)) ∧ (dig16 (hxd (b / 16)) * 16 + dig16 (hxd (b % 16))).toNat = b := by decide +kernel
theorem sign_tab0 : ∀ c, c < 256 → (plainB c || (c != 110 && c != 116 && c != 114 && c != 100 && c != 115 && c != 119 && c != 68 && c != 83 && c != 87 && c != 120 && !isA c)) = true := by decide +kernel
theorem sign_tab (c : Nat) (hc : c < 256) (h : plainB c = false) : escOk c = true ∧ c ≠ 120 ∧ escF c = (fun k => decide (k = c)) := by
  have h1 := sign_tab0 c hc
  rw [h, Bool.false_or] at h1
  simp only [Bool.and_eq_true, bne_iff_ne, ne_eq, Bool.not_eq_true'] at h1
  obtain ⟨⟨⟨⟨⟨⟨⟨⟨⟨⟨a1, a2⟩, a3⟩, a4⟩, a5⟩, a6⟩, a7⟩, a8⟩, a9⟩, a10⟩, a11⟩ := h1
  refine ⟨by unfold escOk; simp [a11], a10, ?_⟩
  unfold escF
  simp [a1, a2, a3, a4, a5, a6, a7, a8, a9, a11]
theorem plain_tab : ∀ c, c < 256 → (!plainB c || (tkSign c == none && c != 123 && c != 91 && c != 92 && c != 46)) = true := by decide +kernel
theorem end_head (b : Nat) (hb : b < 256) : ∃ c s, endL b = c :: s ∧ c < 256 ∧ c ≠ 45 ∧ c ≠ 93 ∧ c ≠ 94 ∧ c ≠ 91 ∧ (c = 92 ∨ plainB c = true) := by
  unfold endL
  cases h : plainB b
  · exact ⟨92, _, by rw [if_neg (by decide)], by decide, by decide, by decide, by decide, by decide, .inl rfl⟩
  · refine ⟨b, [], by rw [if_pos rfl], hb, ?_, ?_, ?_, ?_, .inr h⟩ <;> (intro e; subst e; revert h; decide)
theorem beh_end {p : ByteArray} {k b : Nat} (hb : b < 256) (h : has p k [92, 120, hxd (b / 16), hxd (b % 16)]) : behOk p k = true ∧ behN p k = k + 4 ∧ behF p k = oneR b := by
  obtain ⟨t1, t2, t3⟩ := hex_tab b hb
  have g1 := h.tail.head.1
  have g2 := h.tail.tail.head.1
  have g3 := h.tail.tail.tail.head.1
  have l3 := h.tail.tail.tail.lt
  have e2 : k + 1 + 1 = k + 2 := rfl
  have e3 : k + 1 + 1 + 1 = k + 3 := rfl
  rw [e2] at g2
  rw [e3] at g3 l3
  have c1 : ¬ p.size ≤ k + 1 := by omega
  have c2 : ¬ gb p (k + 1) ≠ 120 := by simp [g1]
  have hn : ¬ (p.size ≤ k + 3 ∨ dig16 (hxd (b / 16)) < 0 ∨ dig16 (hxd (b % 16)) < 0) := by omega
  unfold behOk behN behF
  simp only [if_neg c1, if_neg c2, g2, g3, if_neg hn, t3]
  refine ⟨?_, ?_, ?_⟩ <;> first | trivial | rfl
/-- An end of a run as an item of a bracket. -/
theorem sin_end {p : ByteArray} {k b : Nat} (hb : b < 256) (h : has p k (endL b)) : sinOk p k = true ∧ sinN p k = k + (endL b).length ∧ sinF p k = oneR b ∧ sinNm p k = false := by
  unfold endL at h ⊢
  cases hpl : plainB b
  · rw [hpl, if_neg (by decide)] at h
    rw [if_neg (by decide)]
    obtain ⟨b1, b2, b3⟩ := beh_end hb h
    have g0 := h.head.1
    unfold sinOk sinN sinF sinNm
    rw [if_pos g0, if_pos g0, if_pos g0, if_pos g0]
    exact ⟨b1, b2, b3, rfl⟩
  · rw [hpl, if_pos rfl] at h
    rw [if_pos rfl]
    have g0 := h.head.1
    have n1 : ¬ gb p k = 92 := by rw [g0]; intro e; subst e; revert hpl; decide
    have n2 : ¬ (gb p k = 91 ∧ gb p (k + 1) = 58) := by rw [g0]; rintro ⟨e, -⟩; subst e; revert hpl; decide
    unfold sinOk sinN sinF sinNm
    rw [if_neg n1, if_neg n1, if_neg n1, if_neg n1, if_neg n2, if_neg n2, if_neg n2, if_neg n2, g0]
    exact ⟨rfl, rfl, rfl, rfl⟩
theorem bl_one (b : Nat) (hb : b < 256) : bl (oneR b) 256 = [b] := by
  have h : ∀ n, bl (oneR b) n = if b < n then [b] else [] := by
    intro n
    induction n with
    | zero => simp [bl]
    | succ n ih =>
      by_cases hn : b = n
      · rw [bl_hit _ _ (by simp [oneR, hn]), ih, if_neg (by omega), if_pos (by omega), hn]; rfl
      · rw [bl_miss _ _ (by unfold oneR; cases h1 : decide (b ≤ n) <;> cases h2 : decide (n ≤ b) <;> simp_all; omega), ih]
        by_cases h1 : b < n
        · rw [if_pos h1, if_pos (by omega)]
        · rw [if_neg h1, if_neg (by omega)]
  rw [h, if_pos hb]
theorem one_end {p : ByteArray} {k b : Nat} (hb : b < 256) (h : has p k (endL b)) : oneF (sinF p k) (sinNm p k) = (b : Int) := by
  obtain ⟨-, -, h3, h4⟩ := sin_end hb h
  unfold oneF
  rw [h3, h4, bl_one b hb]
  rfl
/-- An end of a run that no hyphen follows. -/
theorem it_end {p : ByteArray} {k b : Nat} (hb : b < 256) (h : has p k (endL b)) (hn : gb p (k + (endL b).length) ≠ 45) : itOk p k = true ∧ itN p k = k + (endL b).length ∧ itF p k = fun x => decide (b ≤ x) && decide (x ≤ b) := by
  obtain ⟨h1, h2, h3, h4⟩ := sin_end hb h
  have hh : itHyp p k = false := by
    unfold itHyp
    rw [h2, beq_eq_false_iff_ne.2 hn]; simp
  unfold itOk itN itF
  rw [hh, h1, h2, h3]
  exact ⟨rfl, rfl, rfl⟩
/-- Two ends with a hyphen between. -/
theorem it_two {p : ByteArray} {k a b : Nat} (ha : a < 256) (hb : b < 256) (hab : a ≤ b) (h : has p k (endL a ++ 45 :: endL b)) :
    itOk p k = true ∧ itN p k = k + (endL a ++ 45 :: endL b).length ∧ itF p k = fun x => decide (a ≤ x) && decide (x ≤ b) := by
  have hA := h.left
  have hH := h.right
  have hB := hH.tail
  obtain ⟨a1, a2, a3, a4⟩ := sin_end ha hA
  obtain ⟨b1, b2, b3, b4⟩ := sin_end hb hB
  obtain ⟨c, s, hc, hc1, hc2, hc3, -⟩ := end_head b hb
  have hB' := hB
  rw [hc] at hB'
  have g1 := hB'.head.1
  have l1 := hB'.lt
  have oA := one_end ha hA
  have oB := one_end hb hB
  have hh : itHyp p k = true := by
    unfold itHyp
    rw [oA, a2, hH.head.1, g1]
    have : k + (endL a).length + 1 < p.size := l1
    simp [this, hc3]
  have e1 : itLo p k = (a : Int) := oA
  have e2 : itHi p k = (b : Int) := by unfold itHi; rw [a2]; exact oB
  unfold itOk itN itF
  rw [hh, a1, a2, b1, b2, e1, e2]
  refine ⟨by simp; omega, by rw [if_pos rfl, List.length_append, List.length_cons]; omega, ?_⟩
  funext x
  simp

theorem run_head (r : Nat × Nat) (h : r.1 < 256) : ∃ c s, runL r = c :: s ∧ c ≠ 45 ∧ c ≠ 93 ∧ c ≠ 94 := by
  obtain ⟨c, s, hc, h1, h2, h3, h4, -⟩ := end_head r.1 h
  exact ⟨c, _, by unfold runL; rw [hc]; rfl, h2, h3, h4⟩
theorem runs_next (l : List (Nat × Nat)) (hl : ∀ r, r ∈ l → r.1 < 256) : ∃ c s, l.flatMap runL ++ [93] = c :: s ∧ c ≠ 45 ∧ c ≠ 94 := by
  cases l with
  | nil => exact ⟨93, [], rfl, by decide, by decide⟩
  | cons r l =>
    obtain ⟨c, s, hc, h1, h2, h3⟩ := run_head r (hl r (by simp))
    exact ⟨c, s ++ l.flatMap runL ++ [93], by rw [List.flatMap_cons, hc]; simp, h1, h3⟩
theorem brk_runs {p : ByteArray} : ∀ (l : List (Nat × Nat)), (∀ r, r ∈ l → r.1 ≤ r.2 ∧ r.2 < 256) → ∀ (i u : Nat) (f : Nat → Bool), has p i (l.flatMap runL ++ [93]) → p.size + 1 ≤ u + i →
    ∃ g, brkL p u i f = some (g, i + (l.flatMap runL ++ [93]).length) ∧ ∀ x, g x = (f x || inU l x) := by
  intro l
  induction l with
  | nil =>
    intro _ i u f h hu
    have h0 := h.head.1
    have hl := h.lt
    obtain ⟨v, rfl⟩ : ∃ v, u = v + 1 := ⟨u - 1, by omega⟩
    exact ⟨f, brkL_hit hl h0, fun x => by simp [inU]⟩
  | cons r l ih =>
    intro hl i u f h hu
    obtain ⟨r1, r2⟩ := hl r (by simp)
    have hl' : ∀ r, r ∈ l → r.1 ≤ r.2 ∧ r.2 < 256 := fun r hr => hl r (by simp [hr])
    rw [List.flatMap_cons, List.append_assoc] at h
    have hR := h.left
    have hT := h.right
    obtain ⟨c0, s0, e0, n1, n2, n3⟩ := run_head r (by omega)
    have hR' := hR
    rw [e0] at hR'
    have hi := hR'.lt
    have hi0 := hR'.head.1
    obtain ⟨cn, sn, en, m1, m2⟩ := runs_next l (fun r hr => by have := hl' r hr; omega)
    have hT' := hT
    rw [en] at hT'
    have hnx := hT'.head.1
    obtain ⟨v, rfl⟩ : ∃ v, u = v + 1 := ⟨u - 1, by omega⟩
    have hlen : (l.flatMap runL ++ [93]).length + (runL r).length = ((r :: l).flatMap runL ++ [93]).length := by simp [List.flatMap_cons]; omega
    have hin : ∀ x, inU (r :: l) x = ((decide (r.1 ≤ x) && decide (x ≤ r.2)) || inU l x) := fun x => by simp [inU]
    -- one item, or two
    by_cases c1 : r.2 = r.1 + 1
    · have eR : runL r = endL r.1 ++ endL r.2 := by unfold runL; rw [if_pos c1]
      rw [eR] at hR hT hlen hnx
      have hA := hR.left
      have hB := hR.right
      obtain ⟨cb, sb, eb, nb1, nb2, nb3, nb4, nb5, -⟩ := end_head r.2 r2
      have hB' := hB
      rw [eb] at hB'
      obtain ⟨a1, a2, a3⟩ := it_end (by omega) hA (by rw [hB'.head.1]; exact nb2)
      obtain ⟨b1, b2, b3⟩ := it_end r2 hB (by rw [Nat.add_assoc, ← List.length_append, hnx]; exact m1)
      have z1 := end_len r.1
      have z2 := end_len r.2
      obtain ⟨v', rfl⟩ : ∃ v', v = v' + 1 := ⟨v - 1, by have := hB'.lt; omega⟩
      rw [brkL_step hi (by rw [hi0]; exact n2) a1, a2, brkL_step hB'.lt (by rw [hB'.head.1]; exact nb3) b1, b2]
      have eL : (endL r.1 ++ endL r.2).length = (endL r.1).length + (endL r.2).length := List.length_append
      rw [eL] at hT hlen
      obtain ⟨g, hg, hx⟩ := ih hl' (i + (endL r.1).length + (endL r.2).length) v' _ (by rw [Nat.add_assoc]; exact hT) (by omega)
      refine ⟨g, by rw [hg]; congr 2; omega, fun x => ?_⟩
      rw [hx, a3, b3, hin, Bool.or_assoc, Bool.or_assoc]
      congr 1
      rw [← Bool.or_assoc]
      congr 1
      rw [Bool.eq_iff_iff]; simp; omega
    · by_cases c2 : r.1 + 1 < r.2
      · have eR : runL r = endL r.1 ++ 45 :: endL r.2 := by unfold runL; rw [if_neg c1, if_pos c2]
        rw [eR] at hR hT hlen
        obtain ⟨a1, a2, a3⟩ := it_two (by omega) r2 r1 hR
        rw [brkL_step hi (by rw [hi0]; exact n2) a1, a2]
        have z1 : 1 ≤ (endL r.1 ++ 45 :: endL r.2).length := by simp; omega
        obtain ⟨g, hg, hx⟩ := ih hl' (i + (endL r.1 ++ 45 :: endL r.2).length) v _ hT (by omega)
        refine ⟨g, by rw [hg]; congr 2; omega, fun x => ?_⟩
        rw [hx, a3, hin, Bool.or_assoc]
      · have c3 : r.2 = r.1 := by omega
        have eR : runL r = endL r.1 := by unfold runL; rw [if_neg c1, if_neg c2, List.append_nil]
        rw [eR] at hR hT hlen hnx
        obtain ⟨a1, a2, a3⟩ := it_end (by omega) hR (by rw [hnx]; exact m1)
        rw [brkL_step hi (by rw [hi0]; exact n2) a1, a2]
        have z1 := end_len r.1
        obtain ⟨g, hg, hx⟩ := ih hl' (i + (endL r.1).length) v _ hT (by omega)
        refine ⟨g, by rw [hg]; congr 2; omega, fun x => ?_⟩
        rw [hx, a3, hin, Bool.or_assoc, c3]

theorem bl_all (f : Nat → Bool) (y : Nat) : ∀ n, y < n → f y = false → ((bl f n).length + 1 ≤ n ∧ ((bl f n).length + 1 = n → ∀ x, x < n → x ≠ y → f x = true)) := by
  have full : ∀ n, (bl f n).length = n → ∀ x, x < n → f x = true := by
    intro n
    induction n with
    | zero => intro _ x hx; omega
    | succ n ih =>
      intro h x hx
      have hle := bl_le f n
      cases hf : f n
      · rw [bl_miss f n hf] at h; omega
      · rw [bl_hit f n hf, List.length_append] at h
        by_cases hxn : x = n
        · rw [hxn]; exact hf
        · exact ih (by simpa using h) x (by omega)
  intro n
  induction n with
  | zero => intro h; omega
  | succ n ih =>
    intro hy hf
    have hle := bl_le f n
    by_cases hyn : y = n
    · subst hyn
      rw [bl_miss f y hf]
      exact ⟨by omega, fun h x hx hxy => full y (by omega) x (by omega)⟩
    · obtain ⟨i1, i2⟩ := ih (by omega) hf
      cases hfn : f n
      · rw [bl_miss f n hfn]
        exact ⟨by omega, fun h => by omega⟩
      · rw [bl_hit f n hfn, List.length_append]
        refine ⟨by simp; omega, fun h x hx hxy => ?_⟩
        by_cases hxn : x = n
        · rw [hxn]; exact hfn
        · exact i2 (by simpa using h) x (by omega) hxy
theorem bl_mem {f : Nat → Bool} {x : Nat} (hx : x < 256) : x ∈ bl f 256 ↔ f x = true := by unfold bl; rw [List.mem_filter, List.mem_range]; simp [hx]
theorem tk_back {p : ByteArray} {k : Nat} (h : gb p k = 92) : tk p k = if behOk p k = true then some ((1, behF p k, 0, 0), behN p k) else none := by unfold tk; rw [h]; rfl
theorem tk_brk {p : ByteArray} {k : Nat} (h : gb p k = 91) : tk p k = (brk p k).map fun r => ((1, r.1, 0, 0), r.2) := by unfold tk; rw [h]; rfl
/-- A set's text is one token, that set, wherever it stands. -/
theorem tk_set {p : ByteArray} {k : Nat} (f : Nat → Bool) (h : has p k (setL f)) : ∃ F, tk p k = some ((1, F, 0, 0), k + (setL f).length) ∧ ∀ x, x < 256 → F x = f x := by
  unfold setL at h ⊢
  by_cases c1 : (bl f 256).length = 255 ∧ f 10 = false
  · rw [if_pos c1] at h ⊢
    have g0 := h.head.1
    refine ⟨dotF, by unfold tk; rw [g0]; rfl, fun x hx => ?_⟩
    unfold dotF
    by_cases hx10 : x = 10
    · rw [hx10, c1.2]; rfl
    · rw [(bl_all f 10 256 (by decide) c1.2).2 (by omega) x hx hx10]; simp [hx10]
  rw [if_neg c1] at h ⊢
  by_cases c2 : (bl f 256).length = 1
  · rw [if_pos c2] at h ⊢
    obtain ⟨c, hc⟩ : ∃ c, bl f 256 = [c] := List.length_eq_one_iff.1 c2
    have hc0 : (bl f 256).headD 0 = c := by rw [hc]; rfl
    have hc256 : c < 256 := bl_bytes f 256 c (by rw [hc]; simp)
    have hfc : ∀ x, x < 256 → oneR c x = f x := fun x hx => by
      have := bl_mem (f := f) hx
      rw [hc, List.mem_singleton] at this
      rw [Bool.eq_iff_iff, ← this]
      simp [oneR]; omega
    rw [hc0] at h ⊢
    by_cases c3 : 33 ≤ c ∧ c ≤ 126 ∧ plainB c = false
    · rw [if_pos c3] at h ⊢
      obtain ⟨t1, t2, t3⟩ := sign_tab c hc256 c3.2.2
      have g0 := h.head.1
      have g1 := h.tail.head.1
      have l1 := h.tail.lt
      refine ⟨fun x => decide (x = c), ?_, fun x hx => ?_⟩
      · have b1 : behOk p k = true := by unfold behOk; rw [if_neg (by omega), if_pos (by rw [g1]; exact t2), g1]; exact t1
        have b2 : behN p k = k + 2 := by unfold behN; rw [if_neg (by omega), if_pos (by rw [g1]; exact t2)]
        have b3 : behF p k = fun x => decide (x = c) := by unfold behF; rw [if_neg (by omega), if_pos (by rw [g1]; exact t2), g1]; exact t3
        rw [tk_back g0, if_pos b1, b2, b3]; rfl
      · rw [← hfc x hx]; unfold oneR; rw [Bool.eq_iff_iff]; simp; omega
    · rw [if_neg c3] at h ⊢
      refine ⟨oneR c, ?_, hfc⟩
      unfold endL at h ⊢
      cases hpl : plainB c
      · rw [hpl, if_neg (by decide)] at h
        rw [if_neg (by decide)]
        obtain ⟨b1, b2, b3⟩ := beh_end hc256 h
        rw [tk_back h.head.1, if_pos b1, b2, b3]; rfl
      · rw [hpl, if_pos rfl] at h
        rw [if_pos rfl]
        have n : tkSign c = none ∧ c ≠ 123 ∧ c ≠ 91 ∧ c ≠ 92 ∧ c ≠ 46 := by
          have h1 := plain_tab c hc256
          rw [hpl, Bool.not_true, Bool.false_or] at h1
          simp only [Bool.and_eq_true, bne_iff_ne, ne_eq, beq_iff_eq] at h1
          obtain ⟨⟨⟨⟨a1, a2⟩, a3⟩, a4⟩, a5⟩ := h1
          exact ⟨a1, a2, a3, a4, a5⟩
        unfold tk
        rw [h.head.1, n.1]
        simp only
        rw [if_neg n.2.1, if_neg n.2.2.1, if_neg n.2.2.2.1, if_neg n.2.2.2.2]
        rfl
  rw [if_neg c2] at h ⊢
  have hsg := fun r hr => segs_whole f r hr
  obtain ⟨g, hg, hx⟩ := brk_runs (p := p) (segs f 256 256) (fun r hr => ⟨(hsg r hr).1, (hsg r hr).2.1⟩) (k + 1) (p.size + 1) (fun _ => false) h.tail (by omega)
  obtain ⟨cn, sn, en, m1, m2⟩ := runs_next (segs f 256 256) (fun r hr => (hsg r hr).2.2)
  have ht := h.tail
  have ht' := ht
  rw [en] at ht'
  refine ⟨g, ?_, fun x hx' => by rw [hx, segs_union f x hx']; rfl⟩
  rw [tk_brk h.head.1]
  unfold brk
  rw [if_neg (by rw [ht'.head.1]; exact m2), hg]
  have e1 : k + 1 + ((segs f 256 256).flatMap runL ++ [93]).length = k + (91 :: ((segs f 256 256).flatMap runL ++ [93])).length := by rw [List.length_cons]; omega
  rw [e1]
  rfl
end Go.Proofs.YtgjpmfdiidkdnaaGreatDoor

namespace Go.Proofs.YtgjpmfdiidkdnaaGreatDoor
open Go.RowKit

/-- Numbers as runes. -/
def r32 (l : List Nat) : List Value := l.map fun x : Nat => .int .i32 (x : Int)
theorem r32_length (l : List Nat) : (r32 l).length = l.length := by simp [r32]
theorem r32_append (a b : List Nat) : r32 (a ++ b) = r32 a ++ r32 b := by simp [r32]
def alnS : ByteArray := { data := #[97, 108, 110, 117, 109] }
def punS : ByteArray := { data := #[112, 117, 110, 99, 116] }
def punB (b : Nat) : Bool := decide (33 ≤ b) && decide (b ≤ 126) && !plainB b
theorem aln_tab : ∀ b, b < 256 → clsD [97, 108, 110, 117, 109] 23 b = plainB b := by decide +kernel
theorem pun_tab : ∀ b, b < 256 → clsD [112, 117, 110, 99, 116] 23 b = punB b := by decide +kernel
theorem own_lit {w w1 : World} (hb : w.heap.size ≤ w1.heap.size) (cs : Array Value) (n : Nat) (hm : n ≤ 1000) (hs : cs.size = n) : (w1.alloc (.cells cs 21)).ownsRow w.heap.size 21 1 (.slice (some ⟨w1.heap.size, 0, none⟩) n n) n cs.toList :=
  World.ownsRow_lit w1 cs n hb (by unfold maxLen; omega) (by omega)
theorem in_any (s : ByteArray) (b : Nat) (hb : b < 256) (w : World) (hT : Tabbed w) :
    Calls Tryz.prog 41 #[.string s, .int .u8 (b : Int)] w fun e w' => e = .returned (.bool (clsK s 23 b)) ∧ Below w.heap.size w w' := by
  have HC := Lib.hid (class_any s w hT)
  obtain ⟨F, hF⟩ : ∃ F, clsK s 23 = F := ⟨_, rfl⟩
  rw [hF] at HC ⊢
  have HH := Lib.hid (fun w => has_lit F b hb w)
  clear hF
  go_enter Tryz.func41, Tryz.ntmps41
  go_wp2_with fail
  refine HC.out.mono ?_
  rintro e w1 ⟨rfl, hb1⟩
  have HB := Lib.hid hb1
  clear hb1
  go_wp2_with fail
  refine (HH.out _).mono ?_
  rintro e w2 ⟨rfl, hb2⟩
  go_wp2
  go_returns
  exact ⟨rfl, (HB.out.alloc HB.out.size _).trans (hb2.mono (by have := HB.out.size; simp; omega))⟩
theorem inA_any (b : Nat) (hb : b < 256) (w : World) (hT : Tabbed w) :
    Calls Tryz.prog 41 #[.string { data := #[97, 108, 110, 117, 109] }, .int .u8 (b : Int)] w fun e w' => e = .returned (.bool (plainB b)) ∧ Below w.heap.size w w' := by
  have := in_any { data := #[97, 108, 110, 117, 109] } b hb w hT
  rw [clsK_eq] at this
  exact (aln_tab b hb) ▸ this
theorem inP_any (b : Nat) (hb : b < 256) (w : World) (hT : Tabbed w) :
    Calls Tryz.prog 41 #[.string { data := #[112, 117, 110, 99, 116] }, .int .u8 (b : Int)] w fun e w' => e = .returned (.bool (punB b)) ∧ Below w.heap.size w w' := by
  have := in_any { data := #[112, 117, 110, 99, 116] } b hb w hT
  rw [clsK_eq] at this
  exact (pun_tab b hb) ▸ this
set_option maxRecDepth 100000 in
theorem cdg_any : ∀ (n : Nat), n < 16 → ∀ (w : World), Calls Tryz.prog 58 #[.int .u8 (n : Int)] w fun e w' => e = .returned (.int .i32 (hxd n : Nat)) ∧ w' = w
  | 0, _, w => by go_enter Tryz.func58, Tryz.ntmps58; go_wp2; go_returns; exact ⟨congrArg (fun z => Ending.returned (Value.int .i32 z)) (show wrap32 ((({ data := #[48, 49, 50, 51, 52, 53, 54, 55, 56, 57, 97, 98, 99, 100, 101, 102] } : ByteArray)[0]'(by decide)).toNat : Int) = ((hxd 0 : Nat) : Int) by decide +kernel), rfl⟩
  | 1, _, w => by go_enter Tryz.func58, Tryz.ntmps58; go_wp2; go_returns; exact ⟨congrArg (fun z => Ending.returned (Value.int .i32 z)) (show wrap32 ((({ data := #[48, 49, 50, 51, 52, 53, 54, 55, 56, 57, 97, 98, 99, 100, 101, 102] } : ByteArray)[1]'(by decide)).toNat : Int) = ((hxd 1 : Nat) : Int) by decide +kernel), rfl⟩
  | 2, _, w => by go_enter Tryz.func58, Tryz.ntmps58; go_wp2; go_returns; exact ⟨congrArg (fun z => Ending.returned (Value.int .i32 z)) (show wrap32 ((({ data := #[48, 49, 50, 51, 52, 53, 54, 55, 56, 57, 97, 98, 99, 100, 101, 102] } : ByteArray)[2]'(by decide)).toNat : Int) = ((hxd 2 : Nat) : Int) by decide +kernel), rfl⟩
  | 3, _, w => by go_enter Tryz.func58, Tryz.ntmps58; go_wp2; go_returns; exact ⟨congrArg (fun z => Ending.returned (Value.int .i32 z)) (show wrap32 ((({ data := #[48, 49, 50, 51, 52, 53, 54, 55, 56, 57, 97, 98, 99, 100, 101, 102] } : ByteArray)[3]'(by decide)).toNat : Int) = ((hxd 3 : Nat) : Int) by decide +kernel), rfl⟩
  | 4, _, w => by go_enter Tryz.func58, Tryz.ntmps58; go_wp2; go_returns; exact ⟨congrArg (fun z => Ending.returned (Value.int .i32 z)) (show wrap32 ((({ data := #[48, 49, 50, 51, 52, 53, 54, 55, 56, 57, 97, 98, 99, 100, 101, 102] } : ByteArray)[4]'(by decide)).toNat : Int) = ((hxd 4 : Nat) : Int) by decide +kernel), rfl⟩
  | 5, _, w => by go_enter Tryz.func58, Tryz.ntmps58; go_wp2; go_returns; exact ⟨congrArg (fun z => Ending.returned (Value.int .i32 z)) (show wrap32 ((({ data := #[48, 49, 50, 51, 52, 53, 54, 55, 56, 57, 97, 98, 99, 100, 101, 102] } : ByteArray)[5]'(by decide)).toNat : Int) = ((hxd 5 : Nat) : Int) by decide +kernel), rfl⟩
  | 6, _, w => by go_enter Tryz.func58, Tryz.ntmps58; go_wp2; go_returns; exact ⟨congrArg (fun z => Ending.returned (Value.int .i32 z)) (show wrap32 ((({ data := #[48, 49, 50, 51, 52, 53, 54, 55, 56, 57, 97, 98, 99, 100, 101, 102] } : ByteArray)[6]'(by decide)).toNat : Int) = ((hxd 6 : Nat) : Int) by decide +kernel), rfl⟩
  | 7, _, w => by go_enter Tryz.func58, Tryz.ntmps58; go_wp2; go_returns; exact ⟨congrArg (fun z => Ending.returned (Value.int .i32 z)) (show wrap32 ((({ data := #[48, 49, 50, 51, 52, 53, 54, 55, 56, 57, 97, 98, 99, 100, 101, 102] } : ByteArray)[7]'(by decide)).toNat : Int) = ((hxd 7 : Nat) : Int) by decide +kernel), rfl⟩
  | 8, _, w => by go_enter Tryz.func58, Tryz.ntmps58; go_wp2; go_returns; exact ⟨congrArg (fun z => Ending.returned (Value.int .i32 z)) (show wrap32 ((({ data := #[48, 49, 50, 51, 52, 53, 54, 55, 56, 57, 97, 98, 99, 100, 101, 102] } : ByteArray)[8]'(by decide)).toNat : Int) = ((hxd 8 : Nat) : Int) by decide +kernel), rfl⟩
  | 9, _, w => by go_enter Tryz.func58, Tryz.ntmps58; go_wp2; go_returns; exact ⟨congrArg (fun z => Ending.returned (Value.int .i32 z)) (show wrap32 ((({ data := #[48, 49, 50, 51, 52, 53, 54, 55, 56, 57, 97, 98, 99, 100, 101, 102] } : ByteArray)[9]'(by decide)).toNat : Int) = ((hxd 9 : Nat) : Int) by decide +kernel), rfl⟩
  | 10, _, w => by go_enter Tryz.func58, Tryz.ntmps58; go_wp2; go_returns; exact ⟨congrArg (fun z => Ending.returned (Value.int .i32 z)) (show wrap32 ((({ data := #[48, 49, 50, 51, 52, 53, 54, 55, 56, 57, 97, 98, 99, 100, 101, 102] } : ByteArray)[10]'(by decide)).toNat : Int) = ((hxd 10 : Nat) : Int) by decide +kernel), rfl⟩
  | 11, _, w => by go_enter Tryz.func58, Tryz.ntmps58; go_wp2; go_returns; exact ⟨congrArg (fun z => Ending.returned (Value.int .i32 z)) (show wrap32 ((({ data := #[48, 49, 50, 51, 52, 53, 54, 55, 56, 57, 97, 98, 99, 100, 101, 102] } : ByteArray)[11]'(by decide)).toNat : Int) = ((hxd 11 : Nat) : Int) by decide +kernel), rfl⟩
  | 12, _, w => by go_enter Tryz.func58, Tryz.ntmps58; go_wp2; go_returns; exact ⟨congrArg (fun z => Ending.returned (Value.int .i32 z)) (show wrap32 ((({ data := #[48, 49, 50, 51, 52, 53, 54, 55, 56, 57, 97, 98, 99, 100, 101, 102] } : ByteArray)[12]'(by decide)).toNat : Int) = ((hxd 12 : Nat) : Int) by decide +kernel), rfl⟩
  | 13, _, w => by go_enter Tryz.func58, Tryz.ntmps58; go_wp2; go_returns; exact ⟨congrArg (fun z => Ending.returned (Value.int .i32 z)) (show wrap32 ((({ data := #[48, 49, 50, 51, 52, 53, 54, 55, 56, 57, 97, 98, 99, 100, 101, 102] } : ByteArray)[13]'(by decide)).toNat : Int) = ((hxd 13 : Nat) : Int) by decide +kernel), rfl⟩
  | 14, _, w => by go_enter Tryz.func58, Tryz.ntmps58; go_wp2; go_returns; exact ⟨congrArg (fun z => Ending.returned (Value.int .i32 z)) (show wrap32 ((({ data := #[48, 49, 50, 51, 52, 53, 54, 55, 56, 57, 97, 98, 99, 100, 101, 102] } : ByteArray)[14]'(by decide)).toNat : Int) = ((hxd 14 : Nat) : Int) by decide +kernel), rfl⟩
  | 15, _, w => by go_enter Tryz.func58, Tryz.ntmps58; go_wp2; go_returns; exact ⟨congrArg (fun z => Ending.returned (Value.int .i32 z)) (show wrap32 ((({ data := #[48, 49, 50, 51, 52, 53, 54, 55, 56, 57, 97, 98, 99, 100, 101, 102] } : ByteArray)[15]'(by decide)).toNat : Int) = ((hxd 15 : Nat) : Int) by decide +kernel), rfl⟩
  | _ + 16, h, _ => absurd h (by omega)

/-- What a call that makes runes tells. -/
def runesPost (l : List Nat) (w : World) (e : Ending) (w' : World) : Prop := ∃ v, e = .returned v ∧ w'.ownsRow w.heap.size 21 1 v l.length (r32 l) ∧ Below w.heap.size w w'
set_option maxRecDepth 100000 in
set_option maxHeartbeats 1000000 in
theorem cend_plain (b : Nat) (hb : b < 256) (hp : plainB b = true) (w : World) (hT : Tabbed w) : Calls Tryz.prog 42 #[.int .u8 (b : Int)] w (runesPost [b] w) := by
  have HP := Lib.hid hp
  have HI := Lib.hid (inA_any b hb w hT)
  clear hp hT
  go_enter Tryz.func42, Tryz.ntmps42
  go_wp2_with fail
  refine HI.out.mono ?_
  rintro e w1 ⟨rfl, hb1⟩
  rw [HP.out]
  have HB := Lib.hid hb1
  clear hb1
  go_wp2
  go_returns
  exact ⟨_, rfl, own_lit HB.out.size #[.int .i32 (b : Int)] 1 (by decide) rfl, HB.out.alloc HB.out.size _⟩
set_option maxRecDepth 100000 in
set_option maxHeartbeats 1000000 in
theorem cend_hex (b : Nat) (hb : b < 256) (hp : plainB b = false) (w : World) (hT : Tabbed w) : Calls Tryz.prog 42 #[.int .u8 (b : Int)] w (runesPost [92, 120, hxd (b / 16), hxd (b % 16)] w) := by
  have HP := Lib.hid hp
  have HI := Lib.hid (inA_any b hb w hT)
  have HD1 := Lib.hid (cdg_any (b / 16) (by omega))
  have HD2 := Lib.hid (cdg_any (b % 16) (by omega))
  have hq : (b : Int) / 16 = ((b / 16 : Nat) : Int) := by omega
  have hr : (b : Int) % 16 = ((b % 16 : Nat) : Int) := by omega
  have i1 : b / 16 < 256 := by omega
  have i2 : b % 16 < 256 := by omega
  generalize hxd (b / 16) = x at *
  generalize hxd (b % 16) = y at *
  generalize b / 16 = i at *
  generalize b % 16 = j at *
  clear hp hT
  go_enter Tryz.func42, Tryz.ntmps42
  go_wp2_with fail
  refine HI.out.mono ?_
  rintro e w1 ⟨rfl, hb1⟩
  rw [HP.out]
  have HB := Lib.hid hb1
  clear hb1
  go_wp2_with fail
  refine (HD1.out _).mono ?_
  rintro e wk ⟨rfl, rfl⟩
  go_wp2_with fail
  refine (HD2.out _).mono ?_
  rintro e wk ⟨rfl, rfl⟩
  go_wp2
  go_returns
  exact ⟨_, rfl, own_lit HB.out.size #[.int .i32 92, .int .i32 120, .int .i32 (x : Int), .int .i32 (y : Int)] 4 (by decide) rfl, HB.out.alloc HB.out.size _⟩
theorem cend_any (b : Nat) (hb : b < 256) (w : World) (hT : Tabbed w) : Calls Tryz.prog 42 #[.int .u8 (b : Int)] w (runesPost (endL b) w) := by
  unfold endL
  cases hp : plainB b
  · exact cend_hex b hb hp w hT
  · exact cend_plain b hb hp w hT
set_option maxRecDepth 100000 in
set_option maxHeartbeats 1000000 in
theorem alone_any (b : Nat) (hb : b < 256) (w : World) (hT : Tabbed w) : Calls Tryz.prog 24 #[.int .u8 (b : Int)] w (runesPost (if 33 ≤ b ∧ b ≤ 126 ∧ plainB b = false then [92, b] else endL b) w) := by
  have HI := Lib.hid (inP_any b hb w hT)
  by_cases hp : 33 ≤ b ∧ b ≤ 126 ∧ plainB b = false
  · have HP : Hid (punB b = true) := Lib.hid (by unfold punB; rw [hp.2.2, decide_eq_true hp.1, decide_eq_true hp.2.1]; rfl)
    rw [if_pos hp]
    clear hp hT
    go_enter Tryz.func24, Tryz.ntmps24
    go_wp2_with fail
    refine HI.out.mono ?_
    rintro e w1 ⟨rfl, hb1⟩
    rw [HP.out]
    have HB := Lib.hid hb1
    clear hb1
    go_wp2
    go_returns
    exact ⟨_, rfl, own_lit HB.out.size #[.int .i32 92, .int .i32 (b : Int)] 2 (by decide) rfl, HB.out.alloc HB.out.size _⟩
  · have HP : Hid (punB b = false) := Lib.hid (by
      unfold punB
      cases h : plainB b
      · by_cases h1 : 33 ≤ b
        · by_cases h2 : b ≤ 126
          · exact absurd ⟨h1, h2, h⟩ hp
          · rw [decide_eq_false h2]; simp
        · rw [decide_eq_false h1]; simp
      · simp)
    rw [if_neg hp]
    have HT := Lib.hid hT
    clear hp hT
    go_enter Tryz.func24, Tryz.ntmps24
    go_wp2_with fail
    refine HI.out.mono ?_
    rintro e w1 ⟨rfl, hb1⟩
    rw [HP.out]
    have HB := Lib.hid hb1
    clear hb1
    go_wp2_with fail
    refine (cend_any b hb _ (HT.out.to HB.out)).mono ?_
    rintro e w2 ⟨v, rfl, hown, hb2⟩
    have HO := Lib.hid hown
    have HB2 := Lib.hid (HB.out.trans (hb2.mono HB.out.size))
    clear hown hb2
    go_wp2
    go_returns
    exact ⟨_, rfl, owns_mono HO.out HB.out.size, HB2.out⟩
end Go.Proofs.YtgjpmfdiidkdnaaGreatDoor

namespace Go.Proofs.YtgjpmfdiidkdnaaGreatDoor
open Go.RowKit

theorem infoI32 : (Tryz.prog.info? 21).map (fun i => (i.zero, i.size, i.bytes)) = some (some (.int .i32 0), 1, 4) := by kernel_rfl

set_option maxRecDepth 100000 in
set_option maxHeartbeats 1000000 in
theorem grow_any (n : Nat) (h0 : 0 < n) (hn : n ≤ 100) (w : World) : Calls Tryz.prog 59 #[.slice none 0 0, .int .i64 (n : Int)] w (runesPost [] w) := by
  obtain ⟨i0, hi, hz0, hz1, hz2⟩ := info_parts infoI32
  have hg := grownCap_le_maxLen w n 0 21 (by unfold maxLen; omega)
  have hge := grownCap_ge w n 0 21
  have hr : ∀ ty, (Builtin.append_ #[56, 3] ty #[.slice none 0 0, .int .i64 (n : Int)]).run Tryz.prog w = _ := fun ty =>
    Go.Lib.run_append_nil_zeros w 56 3 ty 21 i0 (.int .i32 0) .i64 .i64 Tryz.underlying56 Tryz.underlying3 hi hz0 n h0 (by omega) (by omega) (by rw [hz2]; omega)
  have hcs : (Builtin.zeroCells (Value.int .i32 0).cells n ++ Builtin.zeroCells (Value.int .i32 0).cells (grownCap w n 0 21 - n)).size = grownCap w n 0 21 * 1 := by
    have : ∀ k, (Builtin.zeroCells (Value.int .i32 0).cells k).size = k := fun k => by rw [size_zeroCells]; exact Nat.mul_one k
    rw [Array.size_append, this, this]; omega
  generalize grownCap w n 0 21 = c at *
  generalize Builtin.zeroCells (Value.int .i32 0).cells n ++ Builtin.zeroCells (Value.int .i32 0).cells (c - n) = cs at *
  have d1 : decide ((n : Int) < 0) = false := decide_eq_false (by omega)
  have d2 : decide ((0 : Int) < (n : Int)) = true := decide_eq_true (by omega)
  have HR := Lib.hid hr
  have HCS := Lib.hid hcs
  have HG := Lib.hid hg
  clear hr hcs hg hge
  go_enter Tryz.func59, Tryz.ntmps59
  go_wp2_with (at_builtin; refine Go.Lib.wpList_append_run _ rfl _ _ _ _ rfl _ _ rfl rfl _ _ (HR.out _) ?_)
  go_returns
  exact ⟨_, rfl, World.ownsRow_made w cs c (Nat.le_refl _) HG.out HCS.out, by go_grown⟩

/-- A slice of slices of runes: what each reads as. -/
def rdLL (w : World) (b : Nat) (LL : List (List Nat)) : Prop :=
  ∀ j (h : j < LL.length), ∃ g c, w.cell? ⟨b, j, none⟩ = some (.slice (some ⟨g, 0, none⟩) LL[j].length c) ∧ g < w.heap.size ∧ ∀ i (h : i < LL[j].length), w.cell? ⟨g, i, none⟩ = some (.int .i32 (LL[j][i] : Nat))
theorem rdLL.below {w w' : World} {b B : Nat} {LL : List (List Nat)} (h : rdLL w b LL) (hb : Below B w w') (hB : w.heap.size ≤ B) (hlt : b < w.heap.size) : rdLL w' b LL := fun j hj => by
  obtain ⟨g, c, h1, h2, h3⟩ := h j hj
  refine ⟨g, c, by rw [hb.cell (p := ⟨b, j, none⟩) (by show b < B; omega)]; exact h1, by have := hb.size; omega, fun i hi => ?_⟩
  rw [hb.cell (p := ⟨g, i, none⟩) (by show g < B; omega)]; exact h3 i hi
theorem flat_step (LL : List (List Nat)) (k : Nat) (h : k < LL.length) : (LL.take (k + 1)).flatten = (LL.take k).flatten ++ LL[k] := by
  rw [List.take_succ_eq_append_getElem h, List.flatten_append]; simp
theorem flat_len (LL : List (List Nat)) (h : ∀ l, l ∈ LL → 1 ≤ l.length ∧ l.length ≤ 4) : ∀ k, k ≤ LL.length → (LL.take k).flatten.length ≤ 4 * k ∧ k ≤ (LL.take k).flatten.length := by
  intro k
  induction k with
  | zero => intro _; simp
  | succ k ih =>
    intro hk
    have := ih (by omega)
    have h2 := h _ (List.getElem_mem (show k < LL.length by omega))
    rw [flat_step LL k (by omega), List.length_append]
    omega

set_option maxRecDepth 100000 in
set_option maxHeartbeats 4000000 in
theorem concat_any (LL : List (List Nat)) (b n cap : Nat) (hn : LL.length = n) (h0 : 0 < n) (h3 : n ≤ 3) (hl : ∀ l, l ∈ LL → 1 ≤ l.length ∧ l.length ≤ 4) (w : World) (hb : b < w.heap.size) (hR : rdLL w b LL) :
    Calls Tryz.prog 44 #[.slice (some ⟨b, 0, none⟩) n cap] w (runesPost LL.flatten w) := by
  obtain ⟨i0, hi, hz0, hz1, hz2⟩ := info_parts infoI32
  have HR := Lib.hid hR
  have HN := Lib.hid hn
  have HL := Lib.hid hl
  have HF := Lib.hid (flat_len LL hl)
  clear hR hn hl
  go_enter Tryz.func44, Tryz.ntmps44
  go_wp2_with fail
  go_loopw [3, 11] (fun s i wr => ∃ k z : Nat, k ≤ n ∧ i = .int .i64 k ∧ s = .int .i64 z ∧ z ≤ 12 ∧ Hid (z = (LL.take k).flatten.length) ∧ wr = w) (fun _ i _ => n - (intOf i).toNat)
  case atStart => exact ⟨0, 0, Nat.zero_le _, rfl, rfl, by omega, Lib.hid (by simp), rfl⟩
  case round =>
    obtain ⟨k, z, hk, rfl, rfl, hz, HZ, hwr⟩ := hrel
    have hwr' := hwr.symm
    subst hwr'
    by_cases hlt : k < n
    · have hlt' : k < LL.length := by rw [HN.out]; exact hlt
      obtain ⟨g, c, c0, hg, -⟩ := HR.out k hlt'
      have hlk := HL.out _ (List.getElem_mem hlt')
      have hst := flat_step LL k hlt'
      have hz2 := (HF.out (k + 1) (by omega)).1
      have HZ2 : Hid ((LL.take (k + 1)).flatten.length = z + LL[k].length) := Lib.hid (by rw [hst, List.length_append, HZ.out])
      have hle : z + LL[k].length ≤ 12 := by have := HZ2.out; omega
      obtain ⟨q, hq⟩ : ∃ q, LL[k].length = q := ⟨_, rfl⟩
      rw [hq] at c0 hlk HZ2 hle
      have i0' : (0 : Int) ≤ (k : Int) := by omega
      have i1 : (k : Int) < (n : Int) := by omega
      have d1 : decide ((z : Int) + (q : Int) < 0) = false := decide_eq_false (by omega)
      clear hq hst hz2 hlt'
      go_wp2_with fail
      go_roundw
      case rel => exact ⟨k + 1, z + q, by omega, by go_num, by go_num, hle, Lib.hid HZ2.out.symm, trivial⟩
      case measure => simp [intOf]; omega
    · have hkn : k = n := by omega
      have HZ2 : Hid (LL.flatten.length = z) := Lib.hid (by rw [HZ.out, hkn, ← HN.out, List.take_length])
      have hz0' : 0 < z := by have := (HF.out k (by rw [HN.out]; exact hk)).2; have := HZ.out; omega
      have HG := Lib.hid (grow_any z hz0' (by omega) w)
      clear HZ
      go_wp2_with fail
      refine HG.out.mono ?_
      rintro e w1 ⟨v, rfl, hown, hB⟩
      have HR1 := Lib.hid (HR.out.below hB (Nat.le_refl _) hb)
      have hb1 : b < w1.heap.size := by have := hB.size; omega
      have HO := Lib.hid hown
      have HB := Lib.hid hB
      clear hown hB HG hkn
      go_wp2_with fail
      go_loopw [6, 27] (fun v i w2 => ∃ k : Nat, k ≤ n ∧ i = .int .i64 k ∧ Hid (w2.ownsRow w.heap.size 21 1 v (LL.take k).flatten.length (r32 (LL.take k).flatten)) ∧ Below w.heap.size w w2) (fun _ i _ => n - (intOf i).toNat)
      case atStart => exact ⟨0, Nat.zero_le _, rfl, HO, HB.out⟩
      case round =>
        obtain ⟨k, hk, rfl, HO2, hB2⟩ := hrel
        by_cases hlt : k < n
        · have hlt' : k < LL.length := by rw [HN.out]; exact hlt
          obtain ⟨g, c, c0, hg, hcs⟩ := (HR.out.below hB2 (Nat.le_refl _) hb) k hlt'
          have hlk := HL.out _ (List.getElem_mem hlt')
          have HST := Lib.hid (flat_step LL k hlt')
          have hfl := (HF.out k (by omega)).1
          generalize LL[k] = l at *
          obtain ⟨q, hq⟩ : ∃ q, l.length = q := ⟨_, rfl⟩
          obtain ⟨F, hF⟩ : ∃ F, (LL.take k).flatten = F := ⟨_, rfl⟩
          rw [hF] at HO2 HST hfl
          have hown := HO2.out
          rw [hq] at c0 hlk
          have HQ := Lib.hid hq
          have HCS := Lib.hid hcs
          have hwb := HB.out.size
          have hwb2 := hB2.size
          have hfm : F.length + q ≤ maxLen := by unfold maxLen; omega
          have hfm2 : (F.length + q) * 4 ≤ 140737488355328 := by omega
          have HM := Lib.hid hfm; have HM2 := Lib.hid hfm2
          have HB2 := Lib.hid hB2
          have i0' : (0 : Int) ≤ (k : Int) := by omega
          have i1 : (k : Int) < (n : Int) := by omega
          clear hq hF hcs hlt' hfl hfm hfm2 hB2 HO2
          go_wp2_with (at_builtin; refine wpList_append_own _ rfl _ _ 56 rfl w.heap.size 21 i0 (.int .i32 0) 1 4 Tryz.underlying56 hi hz0 hz1 hz2 rfl (by decide) _ _ _ rfl hown ⟨g, 0, none⟩ q c (r32 l) rfl ?c1 ?c2 ?c3 HM.out HM2.out ?c5 ?_)
          case c1 => rw [r32_length, HQ.out, Nat.mul_one]
          case c2 =>
            intro j u hj
            have hjl : j < l.length := by
              rcases Nat.lt_or_ge j l.length with h | h
              · exact h
              · rw [List.getElem?_eq_none (by rw [r32_length]; exact h)] at hj; cases hj
            have := HCS.out j hjl
            rw [show ((⟨g, 0, none⟩ : Addr).add j) = ⟨g, j, none⟩ by unfold Addr.add; split <;> simp_all, this]
            simp only [r32, List.getElem?_map, List.getElem?_eq_getElem hjl, Option.map_some] at hj
            exact hj
          case c3 => intro u hu; unfold r32 at hu; obtain ⟨x, -, rfl⟩ := List.mem_map.1 hu; rfl
          case c5 => omega
          intro v' w3 hown3 hgrow _
          have HB3 : Hid (Below w.heap.size w w3) := Lib.hid (HB2.out.grown hgrow (by omega) fun r hr => (hown.lt r hr).1)
          have HO3 : Hid (w3.ownsRow w.heap.size 21 1 v' (LL.take (k + 1)).flatten.length (r32 (LL.take (k + 1)).flatten)) := Lib.hid (by
            rw [HST.out, List.length_append, HQ.out, r32_append]
            exact hown3)
          clear hown3 hgrow hown HB2 HCS
          go_wp2_with fail
          go_roundw
          case rel => exact ⟨k + 1, by omega, by go_num, HO3, HB3.out⟩
          case measure => simp [intOf]; omega
        · have HO3 : Hid (wr.ownsRow w.heap.size 21 1 u6 LL.flatten.length (r32 LL.flatten)) := Lib.hid (by
            have := HO2.out
            rw [show k = LL.length by have := HN.out; omega, List.take_length] at this
            exact this)
          have HB2 := Lib.hid hB2
          clear HO2 hB2
          go_wp2_with fail
          go_returns
          exact ⟨_, rfl, HO3.out, HB2.out⟩
end Go.Proofs.YtgjpmfdiidkdnaaGreatDoor
