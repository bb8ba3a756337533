/-
  A set is the same as itself.
  Two sets are the same just if their words are.
  A set with one byte more.
  The walk of the reference's Put.
-/
import Derived.Test.YtiahgcgpakgeeaaGreatDoorPk1
import Derived.Test.YtiahgcgpakgeeaaGreatDoorProg
import Derived.Laws.StructEq
import Derived.KernelRfl
import Derived.Test.YtiahgcgpakgeeaaGreatDoorPk8
namespace Go.Proofs.YtiahgcgpakgeeaaGreatDoor
open Go.RowKit
/-- A set is the same as itself. -/
theorem eq_set' (d : Nat) (x0 x1 x2 x3 : Int) (w : World) :
    (Op.equalIn (d + 2) 36 (.agg #[.int .u64 x0, .int .u64 x1, .int .u64 x2, .int .u64 x3]) (.agg #[.int .u64 x0, .int .u64 x1, .int .u64 x2, .int .u64 x3])).run Tryz.prog w = .ok true w := by
  have hs : ∀ w, (sizeOf 34).run Tryz.prog w = .ok 1 w := fun _ => by kernel_rfl
  have hp : ∀ (xs : Array Value) (i : Nat) (v : Value) (w : World), xs[i]? = some v → (part 34 xs i).run Tryz.prog w = .ok v w := by
    intro xs i v w hv
    simp [part, go_sem, hv, isAgg, run_underlying Tryz.underlying34]
  have e : ∀ (x : Int) (w : World), (Op.equalIn (d + 1) 34 (.int .u64 x) (.int .u64 x)).run Tryz.prog w = .ok true w := fun x w => by
    rw [run_equalIn_int w d 34 .u64 .u64 x x Tryz.underlying34]; simp
  rw [show d + 2 = (d + 1) + 1 from rfl, Op.equalIn]
  simp only [Sem.run_bind, run_underlying Tryz.underlying36, Result.andThen_ok, hs, Std.Legacy.Range.forIn_eq_forIn_range', Std.Legacy.Range.size]
  simp [List.range', hp, e]
theorem eq_set (x0 x1 x2 x3 : Int) (w : World) :
    (Op.equalIn 10000 36 (.agg #[.int .u64 x0, .int .u64 x1, .int .u64 x2, .int .u64 x3]) (.agg #[.int .u64 x0, .int .u64 x1, .int .u64 x2, .int .u64 x3])).run Tryz.prog w = .ok true w := eq_set' 9998 x0 x1 x2 x3 w

end Go.Proofs.YtiahgcgpakgeeaaGreatDoor

namespace Go.Proofs.YtiahgcgpakgeeaaGreatDoor
open Go.RowKit

theorem eq_any' (d : Nat) (x0 x1 x2 x3 y0 y1 y2 y3 : Int) (w : World) :
    (Op.equalIn (d + 2) 36 (.agg #[.int .u64 x0, .int .u64 x1, .int .u64 x2, .int .u64 x3]) (.agg #[.int .u64 y0, .int .u64 y1, .int .u64 y2, .int .u64 y3])).run Tryz.prog w = .ok (x0 == y0 && x1 == y1 && x2 == y2 && x3 == y3) w := by
  have hs : ∀ w, (sizeOf 34).run Tryz.prog w = .ok 1 w := fun _ => by kernel_rfl
  have hp : ∀ (xs : Array Value) (i : Nat) (v : Value) (w : World), xs[i]? = some v → (part 34 xs i).run Tryz.prog w = .ok v w := by
    intro xs i v w hv
    simp [part, go_sem, hv, isAgg, run_underlying Tryz.underlying34]
  have e : ∀ (x y : Int) (w : World), (Op.equalIn (d + 1) 34 (.int .u64 x) (.int .u64 y)).run Tryz.prog w = .ok (x == y) w := fun x y w => by
    rw [run_equalIn_int w d 34 .u64 .u64 x y Tryz.underlying34]
  rw [show d + 2 = (d + 1) + 1 from rfl, Op.equalIn]
  simp only [Sem.run_bind, run_underlying Tryz.underlying36, Result.andThen_ok, hs, Std.Legacy.Range.forIn_eq_forIn_range', Std.Legacy.Range.size]
  by_cases h0 : x0 = y0 <;> by_cases h1 : x1 = y1 <;> by_cases h2 : x2 = y2 <;> by_cases h3 : x3 = y3 <;> simp [List.range', hp, e, h0, h1, h2, h3]
theorem eq_any (x0 x1 x2 x3 y0 y1 y2 y3 : Int) (w : World) :
    (Op.equalIn 10000 36 (.agg #[.int .u64 x0, .int .u64 x1, .int .u64 x2, .int .u64 x3]) (.agg #[.int .u64 y0, .int .u64 y1, .int .u64 y2, .int .u64 y3])).run Tryz.prog w = .ok (x0 == y0 && x1 == y1 && x2 == y2 && x3 == y3) w := eq_any' 9998 x0 x1 x2 x3 y0 y1 y2 y3 w
end Go.Proofs.YtiahgcgpakgeeaaGreatDoor

namespace Go.Proofs.YtiahgcgpakgeeaaGreatDoor
open Go.RowKit

/-- A set with one number more. -/
def put (f : Nat → Bool) (c : Nat) (x : Nat) : Bool := f x || decide (x = c)
theorem put_hit (f : Nat → Bool) (c i : Nat) (hi : c / 64 = i) : bits .or .u64 (wd f i : Int) (IntKind.u64.wrap (2 ^ (c % 64))) = (wd (put f c) i : Nat) := by
  rw [word_put _ _ _ (Nat.mod_lt _ (by decide)), show 64 * i + c % 64 = c from by omega]
  rfl
theorem put_miss (f : Nat → Bool) (c i : Nat) (hi : c / 64 ≠ i) : wd f i = wd (put f c) i := (word_put_other f i c hi).symm
end Go.Proofs.YtiahgcgpakgeeaaGreatDoor

namespace Go.Proofs.YtiahgcgpakgeeaaGreatDoor
open Go.RowKit

set_option maxHeartbeats 1000000 in
theorem rput_any (f : Nat → Bool) (b : Int) (h0 : 0 ≤ b) (hn : b < 256) (w : World) :
    Calls Tryz.prog 36 #[sv f, .int .i64 b] w fun e w' => e = .returned (sv (put f b.toNat)) ∧ Below w.heap.size w w' := by
  obtain ⟨m, rfl⟩ := Int.eq_ofNat_of_zero_le h0
  rw [Int.toNat_natCast]
  have hit := put_hit f m
  have miss := put_miss f m
  have q : m / 64 = 0 ∨ m / 64 = 1 ∨ m / 64 = 2 ∨ m / 64 = 3 := by omega
  rcases q with q | q | q | q
  · have q' : (m : Int) / 64 = 0 := by omega
    have e0 := Lib.hid (hit 0 q); have e1 := Lib.hid (miss 1 (by omega)); have e2 := Lib.hid (miss 2 (by omega)); have e3 := Lib.hid (miss 3 (by omega))
    clear hit miss q
    unfold sv
    go_enter Tryz.func36, Tryz.ntmps36
    go_wp2
    go_returns
    exact ⟨by rw [← e0.out, ← e1.out, ← e2.out, ← e3.out] <;> rfl, by go_grown⟩
  · have q' : (m : Int) / 64 = 1 := by omega
    have e0 := Lib.hid (miss 0 (by omega)); have e1 := Lib.hid (hit 1 q); have e2 := Lib.hid (miss 2 (by omega)); have e3 := Lib.hid (miss 3 (by omega))
    clear hit miss q
    unfold sv
    go_enter Tryz.func36, Tryz.ntmps36
    go_wp2
    go_returns
    exact ⟨by rw [← e0.out, ← e1.out, ← e2.out, ← e3.out] <;> rfl, by go_grown⟩
  · have q' : (m : Int) / 64 = 2 := by omega
    have e0 := Lib.hid (miss 0 (by omega)); have e1 := Lib.hid (miss 1 (by omega)); have e2 := Lib.hid (hit 2 q); have e3 := Lib.hid (miss 3 (by omega))
    clear hit miss q
    unfold sv
    go_enter Tryz.func36, Tryz.ntmps36
    go_wp2
    go_returns
    exact ⟨by rw [← e0.out, ← e1.out, ← e2.out, ← e3.out] <;> rfl, by go_grown⟩
  · have q' : (m : Int) / 64 = 3 := by omega
    have e0 := Lib.hid (miss 0 (by omega)); have e1 := Lib.hid (miss 1 (by omega)); have e2 := Lib.hid (miss 2 (by omega)); have e3 := Lib.hid (hit 3 q)
    clear hit miss q
    unfold sv
    go_enter Tryz.func36, Tryz.ntmps36
    go_wp2
    go_returns
    exact ⟨by rw [← e0.out, ← e1.out, ← e2.out, ← e3.out] <;> rfl, by go_grown⟩
theorem put_lit (f : Nat → Bool) (z : Int) (c : Nat) (h : z = (c : Int)) (hn : c < 256) (w : World) : Calls Tryz.prog 36 #[svr f, .int .i64 z] w fun e w' => e = .returned (sv (put f c)) ∧ Below w.heap.size w w' := by
  subst h
  refine (rput_any f c (by omega) (by omega) w).mono ?_
  rw [Int.toNat_natCast]
  exact fun _ _ h => h
end Go.Proofs.YtiahgcgpakgeeaaGreatDoor
