/-
  The walks of the reference's Has, Put.
-/
import Derived.Test.YtpgikkmpnbcljaaDoorOf
namespace Go.Proofs.YtpgikkmpnbcljaaDoor
open Go.RowKit

set_option maxHeartbeats 1000000 in
theorem rhas_any (f : Nat → Bool) (b : Int) (h0 : 0 ≤ b) (hn : b < 256) (w : World) :
    Calls Tryd.prog 30 #[sv f, .int .i64 b] w fun e w' => e = .returned (.bool (f b.toNat)) ∧ Below w.heap.size w w' := by
  obtain ⟨m, rfl⟩ := Int.eq_ofNat_of_zero_le h0
  rw [Int.toNat_natCast]
  have W := word_has f
  have q : m / 64 = 0 ∨ m / 64 = 1 ∨ m / 64 = 2 ∨ m / 64 = 3 := by omega
  have key : ∀ i, m / 64 = i → Hid ((bits .and .u64 ((wd f i : Int) / 2 ^ (m % 64)) 1 == 1) = f m) := fun i hi => by
    have := W i (m % 64) (by omega)
    rw [show 64 * i + m % 64 = m from by omega] at this
    exact this
  clear W
  unfold sv
  rcases q with q | q | q | q
  · have key' := key _ q
    clear key
    have q' : (m : Int) / 64 = 0 := by omega
    clear q
    go_enter Tryd.func30, Tryd.ntmps30
    go_wp2
    go_ret
    exact ⟨by rw [← key'.out] <;> rfl, by go_grown⟩
  · have key' := key _ q
    clear key
    have q' : (m : Int) / 64 = 1 := by omega
    clear q
    go_enter Tryd.func30, Tryd.ntmps30
    go_wp2
    go_ret
    exact ⟨by rw [← key'.out] <;> rfl, by go_grown⟩
  · have key' := key _ q
    clear key
    have q' : (m : Int) / 64 = 2 := by omega
    clear q
    go_enter Tryd.func30, Tryd.ntmps30
    go_wp2
    go_ret
    exact ⟨by rw [← key'.out] <;> rfl, by go_grown⟩
  · have key' := key _ q
    clear key
    have q' : (m : Int) / 64 = 3 := by omega
    clear q
    go_enter Tryd.func30, Tryd.ntmps30
    go_wp2
    go_ret
    exact ⟨by rw [← key'.out] <;> rfl, by go_grown⟩

/-- A set with one number more. -/
def put (f : Nat → Bool) (c : Nat) (x : Nat) : Bool := f x || decide (x = c)
theorem put_hit (f : Nat → Bool) (c i : Nat) (hi : c / 64 = i) : bits .or .u64 (wd f i : Int) (IntKind.u64.wrap (2 ^ (c % 64))) = (wd (put f c) i : Nat) := by
  rw [word_put _ _ _ (Nat.mod_lt _ (by decide)), show 64 * i + c % 64 = c from by omega]
  rfl
theorem put_miss (f : Nat → Bool) (c i : Nat) (hi : c / 64 ≠ i) : wd f i = wd (put f c) i := (word_put_other f i c hi).symm

set_option maxHeartbeats 1000000 in
theorem rput_any (f : Nat → Bool) (b : Int) (h0 : 0 ≤ b) (hn : b < 256) (w : World) :
    Calls Tryd.prog 22 #[sv f, .int .i64 b] w fun e w' => e = .returned (sv (put f b.toNat)) ∧ Below w.heap.size w w' := by
  obtain ⟨m, rfl⟩ := Int.eq_ofNat_of_zero_le h0
  rw [Int.toNat_natCast]
  have hit := put_hit f m
  have miss := put_miss f m
  have q : m / 64 = 0 ∨ m / 64 = 1 ∨ m / 64 = 2 ∨ m / 64 = 3 := by omega
  rcases q with q | q | q | q
  · have q' : (m : Int) / 64 = 0 := by omega
    have e0 := Lib.hid (hit 0 q); have e1 := Lib.hid (miss 1 (by omega)); have e2 := Lib.hid (miss 2 (by omega)); have e3 := Lib.hid (miss 3 (by omega))
    clear hit miss q
    unfold sv
    go_enter Tryd.func22, Tryd.ntmps22
    go_wp2
    go_returns
    exact ⟨by rw [← e0.out, ← e1.out, ← e2.out, ← e3.out] <;> rfl, by go_grown⟩
  · have q' : (m : Int) / 64 = 1 := by omega
    have e0 := Lib.hid (miss 0 (by omega)); have e1 := Lib.hid (hit 1 q); have e2 := Lib.hid (miss 2 (by omega)); have e3 := Lib.hid (miss 3 (by omega))
    clear hit miss q
    unfold sv
    go_enter Tryd.func22, Tryd.ntmps22
    go_wp2
    go_returns
    exact ⟨by rw [← e0.out, ← e1.out, ← e2.out, ← e3.out] <;> rfl, by go_grown⟩
  · have q' : (m : Int) / 64 = 2 := by omega
    have e0 := Lib.hid (miss 0 (by omega)); have e1 := Lib.hid (miss 1 (by omega)); have e2 := Lib.hid (hit 2 q); have e3 := Lib.hid (miss 3 (by omega))
    clear hit miss q
    unfold sv
    go_enter Tryd.func22, Tryd.ntmps22
    go_wp2
    go_returns
    exact ⟨by rw [← e0.out, ← e1.out, ← e2.out, ← e3.out] <;> rfl, by go_grown⟩
  · have q' : (m : Int) / 64 = 3 := by omega
    have e0 := Lib.hid (miss 0 (by omega)); have e1 := Lib.hid (miss 1 (by omega)); have e2 := Lib.hid (miss 2 (by omega)); have e3 := Lib.hid (hit 3 q)
    clear hit miss q
    unfold sv
    go_enter Tryd.func22, Tryd.ntmps22
    go_wp2
    go_returns
    exact ⟨by rw [← e0.out, ← e1.out, ← e2.out, ← e3.out] <;> rfl, by go_grown⟩
end Go.Proofs.YtpgikkmpnbcljaaDoor
