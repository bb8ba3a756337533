/-
  The walks of isPlace, goes, fieldsFit and Right of nfa.
-/
import Derived.Test.YtepegohopgnmnaaPk13
import Derived.Test.YtepegohopgnmnaaPk15
import Derived.Test.YtepegohopgnmnaaPk18
namespace Go.Proofs.Ytepegohopgnmnaa
open Go.RowKit

theorem place9 (x : Int) (m : Nat) (w : World) : Calls Try.prog 39 #[.int .i64 x, .int .i64 (m : Int)] w fun e w' => e = .returned (.bool (decide (0 ≤ x) && decide (x < (m : Int)))) ∧ w' = w := by
  by_cases h0 : 0 ≤ x
  · by_cases h1 : x < (m : Int)
    · have e : (decide (0 ≤ x) && decide (x < (m : Int))) = true := by rw [decide_eq_true h0, decide_eq_true h1]; rfl
      have d0 : decide ((0 : Int) ≤ x) = true := decide_eq_true h0
      have d1 : decide (x < (m : Int)) = true := decide_eq_true h1
      rw [e]
      clear e
      go_enter Try.func39, Try.ntmps39
      go_wp2; go_ret; exact ⟨rfl, rfl⟩
    · have e : (decide (0 ≤ x) && decide (x < (m : Int))) = false := by rw [decide_eq_false h1, Bool.and_false]
      have d0 : decide ((0 : Int) ≤ x) = true := decide_eq_true h0
      have d1 : decide (x < (m : Int)) = false := decide_eq_false h1
      rw [e]
      clear e
      go_enter Try.func39, Try.ntmps39
      go_wp2; go_ret; exact ⟨rfl, rfl⟩
  · have e : (decide (0 ≤ x) && decide (x < (m : Int))) = false := by rw [decide_eq_false h0, Bool.false_and]
    have d0 : decide ((0 : Int) ≤ x) = false := decide_eq_false h0
    rw [e]
    clear e
    go_enter Try.func39, Try.ntmps39
    go_wp2; go_ret; exact ⟨rfl, rfl⟩
theorem placeb9 (x : Int) (m : Nat) (r : Bool) (h : (decide (0 ≤ x) && decide (x < (m : Int))) = r) (w : World) : Calls Try.prog 39 #[.int .i64 x, .int .i64 (m : Int)] w fun e w' => e = .returned (.bool r) ∧ w' = w := by
  rw [← h]; exact place9 x m w
/-- What a field may tell. -/
def goP (x : Int) (m : Nat) (must : Bool) : Bool := if must then (decide (0 ≤ x) && decide (x < (m : Int))) else x == 0
theorem goes9 (x : Int) (m : Nat) (must : Bool) (w : World) : Calls Try.prog 65 #[.int .i64 x, .int .i64 (m : Int), .bool must] w fun e w' => e = .returned (.bool (goP x m must)) ∧ w' = w := by
  cases must with
  | true =>
    go_enter Try.func65, Try.ntmps65
    go_wp2_with fail
    refine (place9 x m _).mono ?_; rintro e w' ⟨rfl, rfl⟩
    go_wp2; go_ret; exact ⟨rfl, rfl⟩
  | false =>
    go_enter Try.func65, Try.ntmps65
    go_wp2; go_ret; exact ⟨rfl, rfl⟩



/-- Does a state fit among m? -/
def ffB (x : Sd) (m : Nat) : Bool := decide (1 ≤ x.k) && decide (x.k ≤ 6) && (x.k == 1 || (x.a == 0 && x.b == 0 && x.c == 0 && x.d == 0)) && goP x.A m (x.k != 6) && goP x.B m (x.k == 3)
theorem ffB_low {x : Sd} {m : Nat} (h : x.k < 1) : ffB x m = false := by unfold ffB; rw [decide_eq_false (show ¬ 1 ≤ x.k by omega)]; rfl
theorem ffB_high {x : Sd} {m : Nat} (h : 6 < x.k) : ffB x m = false := by unfold ffB; rw [decide_eq_false (show ¬ x.k ≤ 6 by omega), Bool.and_false]; rfl
theorem ffB_set {x : Sd} {m : Nat} (h : (x.k == 1 || (x.a == 0 && x.b == 0 && x.c == 0 && x.d == 0)) = false) : ffB x m = false := by unfold ffB; rw [h, Bool.and_false]; rfl
theorem ffB_in {x : Sd} {m : Nat} (h1 : 1 ≤ x.k) (h6 : x.k ≤ 6) (h : (x.k == 1 || (x.a == 0 && x.b == 0 && x.c == 0 && x.d == 0)) = true) {p q : Bool} (hp : (x.k != 6) = p) (hq : (x.k == 3) = q) {r s : Bool} (hr : goP x.A m p = r) (hs : goP x.B m q = s) : ffB x m = (r && s) := by
  unfold ffB; rw [decide_eq_true h1, decide_eq_true h6, h, hp, hq, hr, hs]; rfl
theorem goesb9 (x : Int) (m : Nat) (must r : Bool) (h : goP x m must = r) (w : World) : Calls Try.prog 65 #[.int .i64 x, .int .i64 (m : Int), .bool must] w fun e w' => e = .returned (.bool r) ∧ w' = w := by
  rw [← h]; exact goes9 x m must w
set_option maxRecDepth 100000 in
set_option maxHeartbeats 8000000 in
theorem ff9_is (k a b c d A B : Int) (m : Nat) (w : World) :
    Calls Try.prog 40 #[.agg #[.int .i64 k, .int .i64 A, .int .i64 B, .int .u64 a, .int .u64 b, .int .u64 c, .int .u64 d], .int .i64 (m : Int)] w fun e w' => e = .returned (.bool (ffB ⟨k, a, b, c, d, A, B⟩ m)) ∧ Below w.heap.size w w' := by
  have HB := Lib.hid ((Below.refl w.heap.size w).alloc (Nat.le_refl _) (.cells #[.int .i64 k, .int .i64 A, .int .i64 B, .int .u64 a, .int .u64 b, .int .u64 c, .int .u64 d] 64))
  by_cases h1 : k < 1
  · have HF : Hid (ffB ⟨k, a, b, c, d, A, B⟩ m = false) := Lib.hid (ffB_low h1)
    have d1 : decide (k < 1) = true := decide_eq_true h1
    go_enter Try.func40, Try.ntmps40
    go_wp2
    go_ret
    exact ⟨by rw [HF.out] <;> rfl, HB.out⟩
  by_cases h6 : 6 < k
  · have HF : Hid (ffB ⟨k, a, b, c, d, A, B⟩ m = false) := Lib.hid (ffB_high h6)
    have d6 : decide (6 < k) = true := decide_eq_true h6
    go_enter Try.func40, Try.ntmps40
    go_wp2
    go_ret
    exact ⟨by rw [HF.out] <;> rfl, HB.out⟩
  rcases (show k = 1 ∨ k = 2 ∨ k = 3 ∨ k = 4 ∨ k = 5 ∨ k = 6 by omega) with rfl | rfl | rfl | rfl | rfl | rfl
  · clear h1 h6
    have HZ : Hid (((1 : Int) == 1 || (a == 0 && b == 0 && c == 0 && d == 0)) = true) := Lib.hid rfl
    obtain ⟨s, hb⟩ : ∃ s, goP B m false = s := ⟨_, rfl⟩
    have GB := Lib.hid hb
    cases ha : goP A m true
    · have GA := Lib.hid ha
      have HF : Hid (ffB ⟨1, a, b, c, d, A, B⟩ m = (false && s)) := Lib.hid (ffB_in (show (1 : Int) ≤ 1 by decide) (show (1 : Int) ≤ 6 by decide) HZ.out rfl rfl ha hb)
      clear ha hb
      go_enter Try.func40, Try.ntmps40
      go_wp2_with (first | (go_at_call 65; (with_reducible refine (goesb9 A m true _ GA.out _).mono ?_); rintro e w' ⟨rfl, rfl⟩) | (go_at_call 65; (with_reducible refine (goesb9 B m false _ GB.out _).mono ?_); rintro e w' ⟨rfl, rfl⟩))
      go_ret
      exact ⟨by rw [HF.out] <;> rfl, HB.out⟩
    · have GA := Lib.hid ha
      have HF : Hid (ffB ⟨1, a, b, c, d, A, B⟩ m = (true && s)) := Lib.hid (ffB_in (show (1 : Int) ≤ 1 by decide) (show (1 : Int) ≤ 6 by decide) HZ.out rfl rfl ha hb)
      clear ha hb
      go_enter Try.func40, Try.ntmps40
      go_wp2_with (first | (go_at_call 65; (with_reducible refine (goesb9 A m true _ GA.out _).mono ?_); rintro e w' ⟨rfl, rfl⟩) | (go_at_call 65; (with_reducible refine (goesb9 B m false _ GB.out _).mono ?_); rintro e w' ⟨rfl, rfl⟩))
      go_ret
      exact ⟨by rw [HF.out] <;> rfl, HB.out⟩
  · clear h1 h6
    cases hs : (a == 0 && b == 0 && c == 0 && d == 0)
    · have hq := set_eq a b c d false hs
      have HF : Hid (ffB ⟨2, a, b, c, d, A, B⟩ m = false) := Lib.hid (ffB_set (by rw [hs]; rfl))
      clear hs
      go_enter Try.func40, Try.ntmps40
      go_wp2
      go_ret
      exact ⟨by rw [HF.out] <;> rfl, HB.out⟩
    have hq := set_eq a b c d true hs
    have HZ : Hid (((2 : Int) == 1 || (a == 0 && b == 0 && c == 0 && d == 0)) = true) := Lib.hid (by rw [hs]; rfl)
    clear hs
    obtain ⟨s, hb⟩ : ∃ s, goP B m false = s := ⟨_, rfl⟩
    have GB := Lib.hid hb
    cases ha : goP A m true
    · have GA := Lib.hid ha
      have HF : Hid (ffB ⟨2, a, b, c, d, A, B⟩ m = (false && s)) := Lib.hid (ffB_in (show (1 : Int) ≤ 2 by decide) (show (2 : Int) ≤ 6 by decide) HZ.out rfl rfl ha hb)
      clear ha hb
      go_enter Try.func40, Try.ntmps40
      go_wp2_with (first | (go_at_call 65; (with_reducible refine (goesb9 A m true _ GA.out _).mono ?_); rintro e w' ⟨rfl, rfl⟩) | (go_at_call 65; (with_reducible refine (goesb9 B m false _ GB.out _).mono ?_); rintro e w' ⟨rfl, rfl⟩))
      go_ret
      exact ⟨by rw [HF.out] <;> rfl, HB.out⟩
    · have GA := Lib.hid ha
      have HF : Hid (ffB ⟨2, a, b, c, d, A, B⟩ m = (true && s)) := Lib.hid (ffB_in (show (1 : Int) ≤ 2 by decide) (show (2 : Int) ≤ 6 by decide) HZ.out rfl rfl ha hb)
      clear ha hb
      go_enter Try.func40, Try.ntmps40
      go_wp2_with (first | (go_at_call 65; (with_reducible refine (goesb9 A m true _ GA.out _).mono ?_); rintro e w' ⟨rfl, rfl⟩) | (go_at_call 65; (with_reducible refine (goesb9 B m false _ GB.out _).mono ?_); rintro e w' ⟨rfl, rfl⟩))
      go_ret
      exact ⟨by rw [HF.out] <;> rfl, HB.out⟩
  · clear h1 h6
    cases hs : (a == 0 && b == 0 && c == 0 && d == 0)
    · have hq := set_eq a b c d false hs
      have HF : Hid (ffB ⟨3, a, b, c, d, A, B⟩ m = false) := Lib.hid (ffB_set (by rw [hs]; rfl))
      clear hs
      go_enter Try.func40, Try.ntmps40
      go_wp2
      go_ret
      exact ⟨by rw [HF.out] <;> rfl, HB.out⟩
    have hq := set_eq a b c d true hs
    have HZ : Hid (((3 : Int) == 1 || (a == 0 && b == 0 && c == 0 && d == 0)) = true) := Lib.hid (by rw [hs]; rfl)
    clear hs
    obtain ⟨s, hb⟩ : ∃ s, goP B m true = s := ⟨_, rfl⟩
    have GB := Lib.hid hb
    cases ha : goP A m true
    · have GA := Lib.hid ha
      have HF : Hid (ffB ⟨3, a, b, c, d, A, B⟩ m = (false && s)) := Lib.hid (ffB_in (show (1 : Int) ≤ 3 by decide) (show (3 : Int) ≤ 6 by decide) HZ.out rfl rfl ha hb)
      clear ha hb
      go_enter Try.func40, Try.ntmps40
      go_wp2_with (first | (go_at_call 65; (with_reducible refine (goesb9 A m true _ GA.out _).mono ?_); rintro e w' ⟨rfl, rfl⟩) | (go_at_call 65; (with_reducible refine (goesb9 B m true _ GB.out _).mono ?_); rintro e w' ⟨rfl, rfl⟩))
      go_ret
      exact ⟨by rw [HF.out] <;> rfl, HB.out⟩
    · have GA := Lib.hid ha
      have HF : Hid (ffB ⟨3, a, b, c, d, A, B⟩ m = (true && s)) := Lib.hid (ffB_in (show (1 : Int) ≤ 3 by decide) (show (3 : Int) ≤ 6 by decide) HZ.out rfl rfl ha hb)
      clear ha hb
      go_enter Try.func40, Try.ntmps40
      go_wp2_with (first | (go_at_call 65; (with_reducible refine (goesb9 A m true _ GA.out _).mono ?_); rintro e w' ⟨rfl, rfl⟩) | (go_at_call 65; (with_reducible refine (goesb9 B m true _ GB.out _).mono ?_); rintro e w' ⟨rfl, rfl⟩))
      go_ret
      exact ⟨by rw [HF.out] <;> rfl, HB.out⟩
  · clear h1 h6
    cases hs : (a == 0 && b == 0 && c == 0 && d == 0)
    · have hq := set_eq a b c d false hs
      have HF : Hid (ffB ⟨4, a, b, c, d, A, B⟩ m = false) := Lib.hid (ffB_set (by rw [hs]; rfl))
      clear hs
      go_enter Try.func40, Try.ntmps40
      go_wp2
      go_ret
      exact ⟨by rw [HF.out] <;> rfl, HB.out⟩
    have hq := set_eq a b c d true hs
    have HZ : Hid (((4 : Int) == 1 || (a == 0 && b == 0 && c == 0 && d == 0)) = true) := Lib.hid (by rw [hs]; rfl)
    clear hs
    obtain ⟨s, hb⟩ : ∃ s, goP B m false = s := ⟨_, rfl⟩
    have GB := Lib.hid hb
    cases ha : goP A m true
    · have GA := Lib.hid ha
      have HF : Hid (ffB ⟨4, a, b, c, d, A, B⟩ m = (false && s)) := Lib.hid (ffB_in (show (1 : Int) ≤ 4 by decide) (show (4 : Int) ≤ 6 by decide) HZ.out rfl rfl ha hb)
      clear ha hb
      go_enter Try.func40, Try.ntmps40
      go_wp2_with (first | (go_at_call 65; (with_reducible refine (goesb9 A m true _ GA.out _).mono ?_); rintro e w' ⟨rfl, rfl⟩) | (go_at_call 65; (with_reducible refine (goesb9 B m false _ GB.out _).mono ?_); rintro e w' ⟨rfl, rfl⟩))
      go_ret
      exact ⟨by rw [HF.out] <;> rfl, HB.out⟩
    · have GA := Lib.hid ha
      have HF : Hid (ffB ⟨4, a, b, c, d, A, B⟩ m = (true && s)) := Lib.hid (ffB_in (show (1 : Int) ≤ 4 by decide) (show (4 : Int) ≤ 6 by decide) HZ.out rfl rfl ha hb)
      clear ha hb
      go_enter Try.func40, Try.ntmps40
      go_wp2_with (first | (go_at_call 65; (with_reducible refine (goesb9 A m true _ GA.out _).mono ?_); rintro e w' ⟨rfl, rfl⟩) | (go_at_call 65; (with_reducible refine (goesb9 B m false _ GB.out _).mono ?_); rintro e w' ⟨rfl, rfl⟩))
      go_ret
      exact ⟨by rw [HF.out] <;> rfl, HB.out⟩
  · clear h1 h6
    cases hs : (a == 0 && b == 0 && c == 0 && d == 0)
    · have hq := set_eq a b c d false hs
      have HF : Hid (ffB ⟨5, a, b, c, d, A, B⟩ m = false) := Lib.hid (ffB_set (by rw [hs]; rfl))
      clear hs
      go_enter Try.func40, Try.ntmps40
      go_wp2
      go_ret
      exact ⟨by rw [HF.out] <;> rfl, HB.out⟩
    have hq := set_eq a b c d true hs
    have HZ : Hid (((5 : Int) == 1 || (a == 0 && b == 0 && c == 0 && d == 0)) = true) := Lib.hid (by rw [hs]; rfl)
    clear hs
    obtain ⟨s, hb⟩ : ∃ s, goP B m false = s := ⟨_, rfl⟩
    have GB := Lib.hid hb
    cases ha : goP A m true
    · have GA := Lib.hid ha
      have HF : Hid (ffB ⟨5, a, b, c, d, A, B⟩ m = (false && s)) := Lib.hid (ffB_in (show (1 : Int) ≤ 5 by decide) (show (5 : Int) ≤ 6 by decide) HZ.out rfl rfl ha hb)
      clear ha hb
      go_enter Try.func40, Try.ntmps40
      go_wp2_with (first | (go_at_call 65; (with_reducible refine (goesb9 A m true _ GA.out _).mono ?_); rintro e w' ⟨rfl, rfl⟩) | (go_at_call 65; (with_reducible refine (goesb9 B m false _ GB.out _).mono ?_); rintro e w' ⟨rfl, rfl⟩))
      go_ret
      exact ⟨by rw [HF.out] <;> rfl, HB.out⟩
    · have GA := Lib.hid ha
      have HF : Hid (ffB ⟨5, a, b, c, d, A, B⟩ m = (true && s)) := Lib.hid (ffB_in (show (1 : Int) ≤ 5 by decide) (show (5 : Int) ≤ 6 by decide) HZ.out rfl rfl ha hb)
      clear ha hb
      go_enter Try.func40, Try.ntmps40
      go_wp2_with (first | (go_at_call 65; (with_reducible refine (goesb9 A m true _ GA.out _).mono ?_); rintro e w' ⟨rfl, rfl⟩) | (go_at_call 65; (with_reducible refine (goesb9 B m false _ GB.out _).mono ?_); rintro e w' ⟨rfl, rfl⟩))
      go_ret
      exact ⟨by rw [HF.out] <;> rfl, HB.out⟩
  · clear h1 h6
    cases hs : (a == 0 && b == 0 && c == 0 && d == 0)
    · have hq := set_eq a b c d false hs
      have HF : Hid (ffB ⟨6, a, b, c, d, A, B⟩ m = false) := Lib.hid (ffB_set (by rw [hs]; rfl))
      clear hs
      go_enter Try.func40, Try.ntmps40
      go_wp2
      go_ret
      exact ⟨by rw [HF.out] <;> rfl, HB.out⟩
    have hq := set_eq a b c d true hs
    have HZ : Hid (((6 : Int) == 1 || (a == 0 && b == 0 && c == 0 && d == 0)) = true) := Lib.hid (by rw [hs]; rfl)
    clear hs
    obtain ⟨s, hb⟩ : ∃ s, goP B m false = s := ⟨_, rfl⟩
    have GB := Lib.hid hb
    cases ha : goP A m false
    · have GA := Lib.hid ha
      have HF : Hid (ffB ⟨6, a, b, c, d, A, B⟩ m = (false && s)) := Lib.hid (ffB_in (show (1 : Int) ≤ 6 by decide) (show (6 : Int) ≤ 6 by decide) HZ.out rfl rfl ha hb)
      clear ha hb
      go_enter Try.func40, Try.ntmps40
      go_wp2_with (first | (go_at_call 65; (with_reducible refine (goesb9 A m false _ GA.out _).mono ?_); rintro e w' ⟨rfl, rfl⟩) | (go_at_call 65; (with_reducible refine (goesb9 B m false _ GB.out _).mono ?_); rintro e w' ⟨rfl, rfl⟩))
      go_ret
      exact ⟨by rw [HF.out] <;> rfl, HB.out⟩
    · have GA := Lib.hid ha
      have HF : Hid (ffB ⟨6, a, b, c, d, A, B⟩ m = (true && s)) := Lib.hid (ffB_in (show (1 : Int) ≤ 6 by decide) (show (6 : Int) ≤ 6 by decide) HZ.out rfl rfl ha hb)
      clear ha hb
      go_enter Try.func40, Try.ntmps40
      go_wp2_with (first | (go_at_call 65; (with_reducible refine (goesb9 A m false _ GA.out _).mono ?_); rintro e w' ⟨rfl, rfl⟩) | (go_at_call 65; (with_reducible refine (goesb9 B m false _ GB.out _).mono ?_); rintro e w' ⟨rfl, rfl⟩))
      go_ret
      exact ⟨by rw [HF.out] <;> rfl, HB.out⟩
end Go.Proofs.Ytepegohopgnmnaa
