/-
  The walk of byteset's Has.
-/
import Derived.Test.YtdhplphgackjaaaPk1
namespace Go.Proofs.Ytdhplphgackjaaa
open Go.RowKit

set_option maxHeartbeats 1000000 in
theorem has_any (f : Nat → Bool) (b : Nat) (hn : b < 256) (w : World) :
    Calls Try.prog 53 #[sv f, .int .u8 (b : Int)] w fun e w' => e = .returned (.bool (f b)) ∧ Below w.heap.size w w' := by
  have W := word_has f
  have q : b / 64 = 0 ∨ b / 64 = 1 ∨ b / 64 = 2 ∨ b / 64 = 3 := by omega
  have key : ∀ i, b / 64 = i → Hid ((bits .and .u64 ((wd f i : Int) / 2 ^ (b % 64)) 1 == 1) = f b) := fun i hi => by
    have := W i (b % 64) (by omega)
    rw [show 64 * i + b % 64 = b from by omega] at this
    exact this
  clear W
  unfold sv
  rcases q with q | q | q | q
  · have key' := key _ q
    clear key
    have q' : (b : Int) / 64 = 0 := by omega
    clear q
    go_enter Try.func53, Try.ntmps53
    go_wp2
    go_ret
    exact ⟨by rw [← key'.out] <;> rfl, by go_grown⟩
  · have key' := key _ q
    clear key
    have q' : (b : Int) / 64 = 1 := by omega
    clear q
    go_enter Try.func53, Try.ntmps53
    go_wp2
    go_ret
    exact ⟨by rw [← key'.out] <;> rfl, by go_grown⟩
  · have key' := key _ q
    clear key
    have q' : (b : Int) / 64 = 2 := by omega
    clear q
    go_enter Try.func53, Try.ntmps53
    go_wp2
    go_ret
    exact ⟨by rw [← key'.out] <;> rfl, by go_grown⟩
  · have key' := key _ q
    clear key
    have q' : (b : Int) / 64 = 3 := by omega
    clear q
    go_enter Try.func53, Try.ntmps53
    go_wp2
    go_ret
    exact ⟨by rw [← key'.out] <;> rfl, by go_grown⟩
theorem has_lit (f : Nat → Bool) (b : Nat) (hn : b < 256) (w : World) : Calls Try.prog 53 #[svr f, .int .u8 (b : Int)] w fun e w' => e = .returned (.bool (f b)) ∧ Below w.heap.size w w' := has_any f b hn w
end Go.Proofs.Ytdhplphgackjaaa
