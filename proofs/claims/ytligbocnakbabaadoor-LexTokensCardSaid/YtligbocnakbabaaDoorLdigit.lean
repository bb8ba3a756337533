/-
  The walk of the third reference's digit.
-/
import Derived.Test.YtligbocnakbabaaDoorBase
namespace Go.Proofs.YtligbocnakbabaaDoor
open Go.RowKit

/-- What a digit of sixteen is worth; -1: it is none. -/
def dig16 (c : Nat) : Int := if 48 ≤ c ∧ c ≤ 57 then (c : Int) - 48 else if 97 ≤ c ∧ c ≤ 102 then (c : Int) - 87 else if 65 ≤ c ∧ c ≤ 70 then (c : Int) - 55 else -1
def dig16Post (c : Nat) (w : World) (e : Ending) (w' : World) : Prop := e = .returned (.int .i64 (dig16 c)) ∧ w = w'
theorem dig16Post.mk {c : Nat} {w : World} {x : Int} (h : x = dig16 c) : dig16Post c w (.returned (.int .i64 x)) w := ⟨by rw [h], rfl⟩
set_option maxHeartbeats 1000000 in
theorem dig16_any (c : Nat) (hc : c < 256) (w : World) : Calls Tryd.prog 35 #[.int .u8 (c : Int)] w (dig16Post c w) := by
  have h0 : (0 : Int) ≤ (c : Int) := by omega
  have h1 : (c : Int) ≤ 255 := by omega
  go_enter Tryd.func35, Tryd.ntmps35
  go_wp2
  all_goals go_ret
  all_goals refine dig16Post.mk ?_
  all_goals (unfold dig16; (repeat' split) <;> omega)
end Go.Proofs.YtligbocnakbabaaDoor
