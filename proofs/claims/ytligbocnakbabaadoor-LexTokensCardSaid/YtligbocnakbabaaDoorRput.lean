/-
  The walk of the reference's Put.
-/
import Derived.Test.YtligbocnakbabaaDoorPut
import Derived.Test.YtligbocnakbabaaDoorBlk
namespace Go.Proofs.YtligbocnakbabaaDoor
open Go.RowKit

set_option maxHeartbeats 1000000 in
theorem rput_any (f : Nat → Bool) (b : Int) (h0 : 0 ≤ b) (hn : b < 256) (w : World) :
    Calls Tryd.prog 29 #[sv f, .int .i64 b] w fun e w' => e = .returned (sv (put f b.toNat)) ∧ Below w.heap.size w w' := by
  obtain ⟨m, rfl⟩ := Int.eq_ofNat_of_zero_le h0
  rw [Int.toNat_natCast]
  have hit := put_hit f m
  have miss := put_miss f m
  have q : m / 64 = 0 ∨ m / 64 = 1 ∨ m / 64 = 2 ∨ m / 64 = 3 := by omega
  rcases q with q | q | q | q
  · have q' : (m : Int) / 64 = 0 := by omega
    have e0 := Lib.hid (hit 0 q); have e1 := Lib.hid (miss 1 (by omega)); have e2 := Lib.hid (miss 2 (by omega)); have e3 := Lib.hid (miss 3 (by omega))
    clear hit miss q
    unfold sv
    go_enter Tryd.func29, Tryd.ntmps29
    go_wp2
    go_returns
    exact ⟨by rw [← e0.out, ← e1.out, ← e2.out, ← e3.out] <;> rfl, by go_grown⟩
  · have q' : (m : Int) / 64 = 1 := by omega
    have e0 := Lib.hid (miss 0 (by omega)); have e1 := Lib.hid (hit 1 q); have e2 := Lib.hid (miss 2 (by omega)); have e3 := Lib.hid (miss 3 (by omega))
    clear hit miss q
    unfold sv
    go_enter Tryd.func29, Tryd.ntmps29
    go_wp2
    go_returns
    exact ⟨by rw [← e0.out, ← e1.out, ← e2.out, ← e3.out] <;> rfl, by go_grown⟩
  · have q' : (m : Int) / 64 = 2 := by omega
    have e0 := Lib.hid (miss 0 (by omega)); have e1 := Lib.hid (miss 1 (by omega)); have e2 := Lib.hid (hit 2 q); have e3 := Lib.hid (miss 3 (by omega))
    clear hit miss q
    unfold sv
    go_enter Tryd.func29, Tryd.ntmps29
    go_wp2
    go_returns
    exact ⟨by rw [← e0.out, ← e1.out, ← e2.out, ← e3.out] <;> rfl, by go_grown⟩
  · have q' : (m : Int) / 64 = 3 := by omega
    have e0 := Lib.hid (miss 0 (by omega)); have e1 := Lib.hid (miss 1 (by omega)); have e2 := Lib.hid (miss 2 (by omega)); have e3 := Lib.hid (hit 3 q)
    clear hit miss q
    unfold sv
    go_enter Tryd.func29, Tryd.ntmps29
    go_wp2
    go_returns
    exact ⟨by rw [← e0.out, ← e1.out, ← e2.out, ← e3.out] <;> rfl, by go_grown⟩
theorem put_lit (f : Nat → Bool) (z : Int) (c : Nat) (h : z = (c : Int)) (hn : c < 256) (w : World) : Calls Tryd.prog 29 #[svr f, .int .i64 z] w fun e w' => e = .returned (sv (put f c)) ∧ Below w.heap.size w w' := by
  subst h
  refine (rput_any f c (by omega) (by omega) w).mono ?_
  rw [Int.toNat_natCast]
  exact fun _ _ h => h
end Go.Proofs.YtligbocnakbabaaDoor
