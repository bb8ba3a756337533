/-
  The walk of the reference's Has.
-/
import Derived.Test.YtligbocnakbabaaDoorBase
namespace Go.Proofs.YtligbocnakbabaaDoor
open Go.RowKit

set_option maxHeartbeats 1000000 in
theorem rhas_any (f : Nat → Bool) (b : Int) (h0 : 0 ≤ b) (hn : b < 256) (w : World) :
    Calls Tryd.prog 46 #[sv f, .int .i64 b] w fun e w' => e = .returned (.bool (f b.toNat)) ∧ Below w.heap.size w w' := by
  obtain ⟨m, rfl⟩ := Int.eq_ofNat_of_zero_le h0
  rw [Int.toNat_natCast]
  have W := word_has f
  have q : m / 64 = 0 ∨ m / 64 = 1 ∨ m / 64 = 2 ∨ m / 64 = 3 := by omega
  have key : ∀ i, m / 64 = i → Hid ((bits .and .u64 ((wd f i : Int) / 2 ^ (m % 64)) 1 == 1) = f m) := fun i hi => by
    have := W i (m % 64) (by omega)
    rw [show 64 * i + m % 64 = m from by omega] at this
    exact this
  clear W
  unfold sv
  rcases q with q | q | q | q
  · have key' := key _ q
    clear key
    have q' : (m : Int) / 64 = 0 := by omega
    clear q
    go_enter Tryd.func46, Tryd.ntmps46
    go_wp2
    go_ret
    exact ⟨by rw [← key'.out] <;> rfl, by go_grown⟩
  · have key' := key _ q
    clear key
    have q' : (m : Int) / 64 = 1 := by omega
    clear q
    go_enter Tryd.func46, Tryd.ntmps46
    go_wp2
    go_ret
    exact ⟨by rw [← key'.out] <;> rfl, by go_grown⟩
  · have key' := key _ q
    clear key
    have q' : (m : Int) / 64 = 2 := by omega
    clear q
    go_enter Tryd.func46, Tryd.ntmps46
    go_wp2
    go_ret
    exact ⟨by rw [← key'.out] <;> rfl, by go_grown⟩
  · have key' := key _ q
    clear key
    have q' : (m : Int) / 64 = 3 := by omega
    clear q
    go_enter Tryd.func46, Tryd.ntmps46
    go_wp2
    go_ret
    exact ⟨by rw [← key'.out] <;> rfl, by go_grown⟩

theorem rhas_lit (f : Nat → Bool) (b : Nat) (hn : b < 256) (w : World) : Calls Tryd.prog 46 #[svr f, .int .i64 (b : Int)] w fun e w' => e = .returned (.bool (f b)) ∧ Below w.heap.size w w' := rhas_any f b (by omega) (by omega) w
end Go.Proofs.YtligbocnakbabaaDoor
