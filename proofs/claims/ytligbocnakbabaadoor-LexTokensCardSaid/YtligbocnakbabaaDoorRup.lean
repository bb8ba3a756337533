/-
  The walks of the second reference's upper, lower and digit.
-/
import Derived.Test.YtligbocnakbabaaDoorBase
namespace Go.Proofs.YtligbocnakbabaaDoor
open Go.RowKit

def upB (x : Nat) : Bool := decide (65 ≤ x) && decide (x ≤ 90)
def loB (x : Nat) : Bool := decide (97 ≤ x) && decide (x ≤ 122)
def diB (x : Nat) : Bool := decide (48 ≤ x) && decide (x ≤ 57)
set_option maxHeartbeats 1000000 in
theorem upper_any (k : Nat) (w : World) : Calls Tryd.prog 59 #[.int .i64 (k : Int)] w fun e w' => e = .returned (.bool (upB k)) ∧ w = w' := by
  rcases Nat.lt_or_ge k 65 with h | h
  · have h1 : decide ((65 : Int) ≤ (k : Int)) = false := by simp; omega
    have hz : upB k = false := by unfold upB; simp; omega
    have HZ := Lib.hid hz
    clear hz
    go_enter Tryd.func59, Tryd.ntmps59
    go_wp2
    go_ret
    exact ⟨by rw [HZ.out]; rfl, rfl⟩
  · have h1 : decide ((65 : Int) ≤ (k : Int)) = true := by simp; omega
    rcases Nat.lt_or_ge 90 k with h' | h'
    · have h2 : decide ((k : Int) ≤ 90) = false := by simp; omega
      have hz : upB k = false := by unfold upB; simp; omega
      have HZ := Lib.hid hz
      clear hz
      go_enter Tryd.func59, Tryd.ntmps59
      go_wp2
      go_ret
      exact ⟨by rw [HZ.out]; rfl, rfl⟩
    · have h2 : decide ((k : Int) ≤ 90) = true := by simp; omega
      have hz : upB k = true := by unfold upB; simp; omega
      have HZ := Lib.hid hz
      clear hz
      go_enter Tryd.func59, Tryd.ntmps59
      go_wp2
      go_ret
      exact ⟨by rw [HZ.out]; rfl, rfl⟩

set_option maxHeartbeats 1000000 in
theorem lower_any (k : Nat) (w : World) : Calls Tryd.prog 60 #[.int .i64 (k : Int)] w fun e w' => e = .returned (.bool (loB k)) ∧ w = w' := by
  rcases Nat.lt_or_ge k 97 with h | h
  · have h1 : decide ((97 : Int) ≤ (k : Int)) = false := by simp; omega
    have hz : loB k = false := by unfold loB; simp; omega
    have HZ := Lib.hid hz
    clear hz
    go_enter Tryd.func60, Tryd.ntmps60
    go_wp2
    go_ret
    exact ⟨by rw [HZ.out]; rfl, rfl⟩
  · have h1 : decide ((97 : Int) ≤ (k : Int)) = true := by simp; omega
    rcases Nat.lt_or_ge 122 k with h' | h'
    · have h2 : decide ((k : Int) ≤ 122) = false := by simp; omega
      have hz : loB k = false := by unfold loB; simp; omega
      have HZ := Lib.hid hz
      clear hz
      go_enter Tryd.func60, Tryd.ntmps60
      go_wp2
      go_ret
      exact ⟨by rw [HZ.out]; rfl, rfl⟩
    · have h2 : decide ((k : Int) ≤ 122) = true := by simp; omega
      have hz : loB k = true := by unfold loB; simp; omega
      have HZ := Lib.hid hz
      clear hz
      go_enter Tryd.func60, Tryd.ntmps60
      go_wp2
      go_ret
      exact ⟨by rw [HZ.out]; rfl, rfl⟩

set_option maxHeartbeats 1000000 in
theorem digit_any (k : Nat) (w : World) : Calls Tryd.prog 48 #[.int .i64 (k : Int)] w fun e w' => e = .returned (.bool (diB k)) ∧ w = w' := by
  rcases Nat.lt_or_ge k 48 with h | h
  · have h1 : decide ((48 : Int) ≤ (k : Int)) = false := by simp; omega
    have hz : diB k = false := by unfold diB; simp; omega
    have HZ := Lib.hid hz
    clear hz
    go_enter Tryd.func48, Tryd.ntmps48
    go_wp2
    go_ret
    exact ⟨by rw [HZ.out]; rfl, rfl⟩
  · have h1 : decide ((48 : Int) ≤ (k : Int)) = true := by simp; omega
    rcases Nat.lt_or_ge 57 k with h' | h'
    · have h2 : decide ((k : Int) ≤ 57) = false := by simp; omega
      have hz : diB k = false := by unfold diB; simp; omega
      have HZ := Lib.hid hz
      clear hz
      go_enter Tryd.func48, Tryd.ntmps48
      go_wp2
      go_ret
      exact ⟨by rw [HZ.out]; rfl, rfl⟩
    · have h2 : decide ((k : Int) ≤ 57) = true := by simp; omega
      have hz : diB k = true := by unfold diB; simp; omega
      have HZ := Lib.hid hz
      clear hz
      go_enter Tryd.func48, Tryd.ntmps48
      go_wp2
      go_ret
      exact ⟨by rw [HZ.out]; rfl, rfl⟩
end Go.Proofs.YtligbocnakbabaaDoor
