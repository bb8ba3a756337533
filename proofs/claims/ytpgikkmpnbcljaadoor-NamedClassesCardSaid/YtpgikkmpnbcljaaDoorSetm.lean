/-
  The walks of byteset's Range, Not, Count, and of math/bits.OnesCount64.
-/
import Derived.Test.YtpgikkmpnbcljaaDoorSets
namespace Go.Proofs.YtpgikkmpnbcljaaDoor
open Go.RowKit

/-- The numbers on the way of OnesCount64. -/
theorem ones_steps (x : Nat) (hx : x < 18446744073709551616) : ∃ a b c d e g : Nat,
    IntKind.u64.wrap (bits .and .u64 ((x : Int) / 2) 6148914691236517205 + bits .and .u64 (x : Int) 6148914691236517205) = (a : Int) ∧
    IntKind.u64.wrap (bits .and .u64 ((a : Int) / 4) 3689348814741910323 + bits .and .u64 (a : Int) 3689348814741910323) = (b : Int) ∧
    bits .and .u64 (IntKind.u64.wrap ((b : Int) / 16 + (b : Int))) 1085102592571150095 = (c : Int) ∧
    IntKind.u64.wrap ((c : Int) + (c : Int) / 256) = (d : Int) ∧ IntKind.u64.wrap ((d : Int) + (d : Int) / 65536) = (e : Int) ∧
    IntKind.u64.wrap ((e : Int) + (e : Int) / 4294967296) = (g : Int) ∧ g < 1152921504606846976 ∧ g % 128 = popTo (fun j => x.testBit j) 0 64 := by
  have s := swar x
  simp only [] at s
  obtain ⟨s1, s2, s3, s4⟩ := s
  have en := swar_end x _ s4
  have andn : ∀ (y m : Nat), y < 18446744073709551616 → m < 18446744073709551616 → bits .and .u64 (y : Int) (m : Int) = ((y &&& m : Nat) : Int) := fun y m => bits_and_u64_nat y m
  have wr : ∀ y : Nat, y < 18446744073709551616 → IntKind.u64.wrap (y : Int) = (y : Int) := fun y hy => by rw [IntKind.wrap_u64]; omega
  have dv : ∀ (y m : Nat), ((y : Int) / (m : Int)) = ((y / m : Nat) : Int) := fun y m => by simp
  generalize ha : (x / 2 &&& 6148914691236517205) + (x &&& 6148914691236517205) = a at *
  generalize hb : (a / 4 &&& 3689348814741910323) + (a &&& 3689348814741910323) = b at *
  generalize hc : (b / 16 + b) &&& 1085102592571150095 = c at *
  obtain ⟨e1, e2, e3, e4⟩ := en
  refine ⟨a, b, c, c + c / 256, c + c / 256 + (c + c / 256) / 65536, c + c / 256 + (c + c / 256) / 65536 + (c + c / 256 + (c + c / 256) / 65536) / 4294967296, ?_, ?_, ?_, ?_, ?_, ?_, e3, e4⟩
  · rw [show ((x : Int) / 2) = ((x / 2 : Nat) : Int) from dv x 2, show (6148914691236517205 : Int) = ((6148914691236517205 : Nat) : Int) from rfl, andn _ _ (by omega) (by omega), andn _ _ hx (by omega), ← Int.natCast_add, ha, wr _ s1]
  · rw [show ((a : Int) / 4) = ((a / 4 : Nat) : Int) from dv a 4, show (3689348814741910323 : Int) = ((3689348814741910323 : Nat) : Int) from rfl, andn _ _ (by omega) (by omega), andn _ _ s1 (by omega), ← Int.natCast_add, hb, wr _ s2]
  · rw [show ((b : Int) / 16) = ((b / 16 : Nat) : Int) from dv b 16, show (1085102592571150095 : Int) = ((1085102592571150095 : Nat) : Int) from rfl, ← Int.natCast_add, wr _ s3, andn _ _ s3 (by omega), hc]
  · rw [show ((c : Int) / 256) = ((c / 256 : Nat) : Int) from dv c 256, ← Int.natCast_add, wr _ (by omega)]
  · generalize c + c / 256 = d at *
    rw [show ((d : Int) / 65536) = ((d / 65536 : Nat) : Int) from dv d 65536, ← Int.natCast_add, wr _ (by omega)]
  · generalize c + c / 256 + (c + c / 256) / 65536 = d at *
    rw [show ((d : Int) / 4294967296) = ((d / 4294967296 : Nat) : Int) from dv d 4294967296, ← Int.natCast_add, wr _ (by omega)]

set_option maxHeartbeats 1000000 in
theorem ones_any (x : Nat) (hx : x < 18446744073709551616) (w : World) :
    Calls Tryd.prog 28 #[.int .u64 (x : Int)] w fun e w' => e = .returned (.int .i64 (popTo (fun j => x.testBit j) 0 64 : Nat)) ∧ w' = w := by
  obtain ⟨a, b, c, d, e, g, h1, h2, h3, h4, h5, h6, h7, h8⟩ := ones_steps x hx
  have h9 : bits .and .i64 (g : Int) 127 = ((g % 128 : Nat) : Int) := by
    have := bits_mask .i64 62 (by decide) (fun n h0 h1 => by rw [IntKind.wrap_i64]; omega) 7 (by decide) (g : Int) (by omega) (by omega)
    simpa using this
  rw [h8] at h9
  have hg : (g : Int) < 1152921504606846976 := by omega
  clear h7 h8
  go_enter Tryd.func28, Tryd.ntmps28
  go_wp2
  go_ret
  exact ⟨rfl, rfl⟩
end Go.Proofs.YtpgikkmpnbcljaaDoor
