/-
  The walks of facts' either and again, where one of them never fits; of facts' Can.
-/
import Derived.Test.YtpjmogcphgaimaaPk14
namespace Go.Proofs.Ytpjmogcphgaimaa
open Go.RowKit

theorem either_nv (als ams a0 a1 a2 a3 : Int) (bn : Bool) (bls bms b0 b1 b2 b3 : Int) (ea eb : Bool) (w : World) :
    Calls Try.prog 35 #[fxr true als ams a0 a1 a2 a3 ea, fxr bn bls bms b0 b1 b2 b3 eb] w fun e w' => e = .returned (fxr bn bls bms b0 b1 b2 b3 eb) ∧ Below w.heap.size w w' := by
  unfold fxr
  go_enter Try.func35, Try.ntmps35
  go_wp2_with fail
  go_returns
  exact ⟨rfl, by go_grown⟩
theorem either_vn (als ams a0 a1 a2 a3 bls bms b0 b1 b2 b3 : Int) (ea eb : Bool) (w : World) :
    Calls Try.prog 35 #[fxr false als ams a0 a1 a2 a3 ea, fxr true bls bms b0 b1 b2 b3 eb] w fun e w' => e = .returned (fxr false als ams a0 a1 a2 a3 ea) ∧ Below w.heap.size w w' := by
  unfold fxr
  go_enter Try.func35, Try.ntmps35
  go_wp2_with fail
  go_returns
  exact ⟨rfl, by go_grown⟩
theorem again_zero (an : Bool) (als ams a0 a1 a2 a3 lo hi : Int) (ea : Bool) (w : World) (h : hi = 0 ∨ (lo = 0 ∧ an = true)) :
    Calls Try.prog 36 #[fxr an als ams a0 a1 a2 a3 ea, .int .i64 lo, .int .i64 hi] w fun e w' => e = .returned (fxr false 0 0 0 0 0 0 false) ∧ Below w.heap.size w w' := by
  unfold fxr
  by_cases h0 : hi = 0
  · subst h0
    go_enter Try.func36, Try.ntmps36
    go_wp2_with fail
    go_returns
    exact ⟨rfl, by go_grown⟩
  · obtain ⟨rfl, rfl⟩ : lo = 0 ∧ an = true := by rcases h with h | h; exact absurd h h0; exact h
    have d : (hi == 0) = false := beq_eq_false_iff_ne.2 h0
    clear h
    go_enter Try.func36, Try.ntmps36
    go_wp2_with fail
    go_returns
    exact ⟨rfl, by go_grown⟩
theorem again_nv (als ams a0 a1 a2 a3 lo hi : Int) (ea : Bool) (w : World) (d : (hi == 0) = false) (d2 : (lo == 0) = false) :
    Calls Try.prog 36 #[fxr true als ams a0 a1 a2 a3 ea, .int .i64 lo, .int .i64 hi] w fun e w' => e = .returned (fxr true 0 0 0 0 0 0 false) ∧ Below w.heap.size w w' := by
  unfold fxr
  go_enter Try.func36, Try.ntmps36
  go_wp2_with fail
  go_returns
  exact ⟨rfl, by go_grown⟩
/-- What a length may be. -/
def canX (nv : Bool) (ls ms n : Int) : Bool := !nv && decide (ls ≤ n) && (decide (ms < 0) || decide (n ≤ ms))
theorem can_any (nv : Bool) (ls ms x0 x1 x2 x3 n : Int) (ed : Bool) (w : World) :
    Calls Try.prog 11 #[fxr nv ls ms x0 x1 x2 x3 ed, .int .i64 n] w fun e w' => e = .returned (.bool (canX nv ls ms n)) ∧ Below w.heap.size w w' := by
  obtain ⟨r, hr⟩ : ∃ r, canX nv ls ms n = r := ⟨_, rfl⟩
  have HR := Lib.hid hr
  rw [hr]
  unfold canX at hr
  unfold fxr
  cases nv with
  | true =>
    obtain rfl : false = r := by simpa using hr
    clear hr
    go_enter Try.func11, Try.ntmps11
    go_wp2_with fail
    go_returns
    exact ⟨rfl, by go_grown⟩
  | false =>
    cases d1 : decide (ls ≤ n) with
    | false =>
      obtain rfl : false = r := by simpa [d1] using hr
      clear hr HR
      go_enter Try.func11, Try.ntmps11
      go_wp2_with fail
      go_returns
      exact ⟨rfl, by go_grown⟩
    | true =>
      cases d2 : decide (ms < 0) with
      | true =>
        obtain rfl : true = r := by rw [d1, d2] at hr; exact hr
        clear hr HR
        go_enter Try.func11, Try.ntmps11
        go_wp2_with fail
        go_returns
        exact ⟨rfl, by go_grown⟩
      | false =>
        obtain rfl : decide (n ≤ ms) = r := by rw [d1, d2] at hr; simpa using hr
        clear hr HR
        go_enter Try.func11, Try.ntmps11
        go_wp2_with fail
        go_returns
        exact ⟨rfl, by go_grown⟩
end Go.Proofs.Ytpjmogcphgaimaa
