/-
  The walks of within and fieldsFit: are a node's Set, Lo and Hi such as its kind lets be?
-/
import Derived.Test.YtdhplphgackjaaaPk14
namespace Go.Proofs.Ytdhplphgackjaaa
open Go.RowKit

theorem within_any (n l : Int) (w : World) : Calls Try.prog 66 #[.int .i64 n, .int .i64 l] w fun e w' => e = .returned (.bool (decide (l ≤ n) && decide (n ≤ 32))) ∧ w = w' := by
  cases h1 : decide (l ≤ n) <;> cases h2 : decide (n ≤ 32)
  all_goals
    go_enter Try.func66, Try.ntmps66
    go_wp2
    go_ret
    exact ⟨rfl, rfl⟩
theorem within_b (n l : Int) (r : Bool) (h : (decide (l ≤ n) && decide (n ≤ 32)) = r) (w : World) : Calls Try.prog 66 #[.int .i64 n, .int .i64 l] w fun e w' => e = .returned (.bool r) ∧ w = w' := by
  rw [← h]; exact within_any n l w

/-- A node as a value. -/
@[reducible] def nv (x : Nd) : Value := .agg #[.int .i64 x.k, .int .u64 x.a, .int .u64 x.b, .int .u64 x.c, .int .u64 x.d, .int .i64 x.lo, .int .i64 x.hi]
theorem set_eq (a b c d : Int) (r : Bool) (h : (a == 0 && b == 0 && c == 0 && d == 0) = r) : ∀ w : World, (Op.equalIn 10000 54 (.agg #[.int .u64 a, .int .u64 b, .int .u64 c, .int .u64 d]) (.agg #[.int .u64 0, .int .u64 0, .int .u64 0, .int .u64 0])).run Try.prog w = .ok r w := fun w => by
  rw [← h]; exact eq_set_any 9998 a b c d 0 0 0 0 w

set_option maxHeartbeats 2000000 in
theorem fits_any (x : Nd) (w : World) : Calls Try.prog 59 #[nv x] w fun e w' => e = .returned (.bool (okN x)) ∧ Below w.heap.size w w' := by
  obtain ⟨k, a, b, c, d, lo, hi⟩ := x
  show Calls Try.prog 59 #[.agg #[.int .i64 k, .int .u64 a, .int .u64 b, .int .u64 c, .int .u64 d, .int .i64 lo, .int .i64 hi]] w fun e w' => e = .returned (.bool (okN ⟨k, a, b, c, d, lo, hi⟩)) ∧ Below w.heap.size w w'
  cases hs : (a == 0 && b == 0 && c == 0 && d == 0)
  · have hq := set_eq a b c d false hs
    have HS := Lib.hid hs
    clear hs
    by_cases hk1 : k = 1
    · subst hk1
      cases hl : (lo == 0) <;> cases hh : (hi == 0)
      all_goals
        have HL := Lib.hid hl; have HH := Lib.hid hh
        obtain ⟨r, hr⟩ : ∃ r, r = okN ⟨1, a, b, c, d, lo, hi⟩ := ⟨_, rfl⟩
        have HO : Hid (okN ⟨1, a, b, c, d, lo, hi⟩ = ((lo == 0) && (hi == 0))) := Lib.hid (by simp [okN])
        have HO2 : Hid (okN ⟨1, a, b, c, d, lo, hi⟩ = _) := Lib.hid (HO.out.trans (by rw [HL.out, HH.out]))
        clear HO hr r
        go_enter Try.func59, Try.ntmps59
        go_wp2
        go_ret
        exact ⟨by rw [HO2.out] <;> rfl, by go_grown⟩
    · have k1 : (k == 1) = false := beq_eq_false_iff_ne.2 hk1
      have k1' : (k != 1) = true := by simp [hk1]
      have HO : Hid (okN ⟨k, a, b, c, d, lo, hi⟩ = false) := Lib.hid (by unfold okN; simp only [k1, HS.out]; rfl)
      clear hk1 HS
      go_enter Try.func59, Try.ntmps59
      go_wp2
      go_ret
      exact ⟨by rw [HO.out] <;> rfl, by go_grown⟩
  · have hq := set_eq a b c d true hs
    have HS := Lib.hid hs
    clear hs
    by_cases hk1 : k = 1
    · subst hk1
      cases hl : (lo == 0) <;> cases hh : (hi == 0)
      all_goals
        have HL := Lib.hid hl; have HH := Lib.hid hh
        obtain ⟨r, hr⟩ : ∃ r, r = okN ⟨1, a, b, c, d, lo, hi⟩ := ⟨_, rfl⟩
        have HO : Hid (okN ⟨1, a, b, c, d, lo, hi⟩ = ((lo == 0) && (hi == 0))) := Lib.hid (by simp [okN])
        have HO2 : Hid (okN ⟨1, a, b, c, d, lo, hi⟩ = _) := Lib.hid (HO.out.trans (by rw [HL.out, HH.out]))
        clear HO hr r
        go_enter Try.func59, Try.ntmps59
        go_wp2
        go_ret
        exact ⟨by rw [HO2.out] <;> rfl, by go_grown⟩
    · have k1 : (k == 1) = false := beq_eq_false_iff_ne.2 hk1
      have k1' : (k != 1) = true := by simp [hk1]
      by_cases hk7 : k = 7
      · subst hk7
        have HO : Hid (okN ⟨7, a, b, c, d, lo, hi⟩ = (decide (0 ≤ lo) && decide (lo ≤ 32) && (hi == -1 || (decide (lo ≤ hi) && decide (hi ≤ 32))))) := Lib.hid (by unfold okN; simp only [HS.out]; simp)
        clear k1 k1' hk1 HS
        cases h1 : (decide (0 ≤ lo) && decide (lo ≤ 32))
        · have H1 := Lib.hid h1
          have HO2 : Hid (okN ⟨7, a, b, c, d, lo, hi⟩ = false) := Lib.hid (by rw [HO.out, h1]; rfl)
          clear h1 HO
          go_enter Try.func59, Try.ntmps59
          go_wp2_with (go_at_call 66; (with_reducible refine (within_b lo 0 _ H1.out _).mono ?_); rintro e w' ⟨rfl, rfl⟩)
          go_ret
          exact ⟨by rw [HO2.out] <;> rfl, by go_grown⟩
        · have H1 := Lib.hid h1
          cases h2 : (hi == -1)
          · obtain ⟨r, hr⟩ : ∃ r, (decide (lo ≤ hi) && decide (hi ≤ 32)) = r := ⟨_, rfl⟩
            have H3 := Lib.hid hr
            have HO2 : Hid (okN ⟨7, a, b, c, d, lo, hi⟩ = r) := Lib.hid (by rw [HO.out, h1, h2, hr]; rfl)
            clear h1 HO hr
            go_enter Try.func59, Try.ntmps59
            go_wp2_with (first | (go_at_call 66; (with_reducible refine (within_b lo 0 _ H1.out _).mono ?_); rintro e w' ⟨rfl, rfl⟩) | (go_at_call 66; (with_reducible refine (within_b hi lo _ H3.out _).mono ?_); rintro e w' ⟨rfl, rfl⟩))
            go_ret
            exact ⟨by rw [HO2.out] <;> rfl, by go_grown⟩
          · have HO2 : Hid (okN ⟨7, a, b, c, d, lo, hi⟩ = true) := Lib.hid (by rw [HO.out, h1, h2]; rfl)
            clear h1 HO
            go_enter Try.func59, Try.ntmps59
            go_wp2_with (go_at_call 66; (with_reducible refine (within_b lo 0 _ H1.out _).mono ?_); rintro e w' ⟨rfl, rfl⟩)
            go_ret
            exact ⟨by rw [HO2.out] <;> rfl, by go_grown⟩
      · have k7 : (k == 7) = false := beq_eq_false_iff_ne.2 hk7
        have k7' : (k != 7) = true := by simp [hk7]
        have HO : Hid (okN ⟨k, a, b, c, d, lo, hi⟩ = ((lo == 0) && (hi == 0))) := Lib.hid (by unfold okN; simp only [HS.out]; simp [hk7])
        clear hk1 hk7 HS
        cases hl : (lo == 0) <;> cases hh : (hi == 0)
        all_goals
          have HO2 : Hid (okN ⟨k, a, b, c, d, lo, hi⟩ = _) := Lib.hid (HO.out.trans (by rw [hl, hh]))
          clear HO
          go_enter Try.func59, Try.ntmps59
          go_wp2
          go_ret
          exact ⟨by rw [HO2.out] <;> rfl, by go_grown⟩
end Go.Proofs.Ytdhplphgackjaaa
