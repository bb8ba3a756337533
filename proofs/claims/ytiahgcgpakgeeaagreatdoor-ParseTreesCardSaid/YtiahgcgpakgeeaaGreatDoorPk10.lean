/-
  The walks of the second reference's upper, lower and digit.
  The walk of the second reference's is: any name, any byte.
-/
import Derived.Test.YtiahgcgpakgeeaaGreatDoorPk1
namespace Go.Proofs.YtiahgcgpakgeeaaGreatDoor
open Go.RowKit

def upB (x : Nat) : Bool := decide (65 ≤ x) && decide (x ≤ 90)
def loB (x : Nat) : Bool := decide (97 ≤ x) && decide (x ≤ 122)
def diB (x : Nat) : Bool := decide (48 ≤ x) && decide (x ≤ 57)
set_option maxHeartbeats 1000000 in
theorem upper_any (k : Nat) (w : World) : Calls Tryz.prog 66 #[.int .i64 (k : Int)] w fun e w' => e = .returned (.bool (upB k)) ∧ w = w' := by
  rcases Nat.lt_or_ge k 65 with h | h
  · have h1 : decide ((65 : Int) ≤ (k : Int)) = false := by simp; omega
    have hz : upB k = false := by unfold upB; simp; omega
    have HZ := Lib.hid hz
    clear hz
    go_enter Tryz.func66, Tryz.ntmps66
    go_wp2
    go_ret
    exact ⟨by rw [HZ.out]; rfl, rfl⟩
  · have h1 : decide ((65 : Int) ≤ (k : Int)) = true := by simp; omega
    rcases Nat.lt_or_ge 90 k with h' | h'
    · have h2 : decide ((k : Int) ≤ 90) = false := by simp; omega
      have hz : upB k = false := by unfold upB; simp; omega
      have HZ := Lib.hid hz
      clear hz
      go_enter Tryz.func66, Tryz.ntmps66
      go_wp2
      go_ret
      exact ⟨by rw [HZ.out]; rfl, rfl⟩
    · have h2 : decide ((k : Int) ≤ 90) = true := by simp; omega
      have hz : upB k = true := by unfold upB; simp; omega
      have HZ := Lib.hid hz
      clear hz
      go_enter Tryz.func66, Tryz.ntmps66
      go_wp2
      go_ret
      exact ⟨by rw [HZ.out]; rfl, rfl⟩

set_option maxHeartbeats 1000000 in
theorem lower_any (k : Nat) (w : World) : Calls Tryz.prog 67 #[.int .i64 (k : Int)] w fun e w' => e = .returned (.bool (loB k)) ∧ w = w' := by
  rcases Nat.lt_or_ge k 97 with h | h
  · have h1 : decide ((97 : Int) ≤ (k : Int)) = false := by simp; omega
    have hz : loB k = false := by unfold loB; simp; omega
    have HZ := Lib.hid hz
    clear hz
    go_enter Tryz.func67, Tryz.ntmps67
    go_wp2
    go_ret
    exact ⟨by rw [HZ.out]; rfl, rfl⟩
  · have h1 : decide ((97 : Int) ≤ (k : Int)) = true := by simp; omega
    rcases Nat.lt_or_ge 122 k with h' | h'
    · have h2 : decide ((k : Int) ≤ 122) = false := by simp; omega
      have hz : loB k = false := by unfold loB; simp; omega
      have HZ := Lib.hid hz
      clear hz
      go_enter Tryz.func67, Tryz.ntmps67
      go_wp2
      go_ret
      exact ⟨by rw [HZ.out]; rfl, rfl⟩
    · have h2 : decide ((k : Int) ≤ 122) = true := by simp; omega
      have hz : loB k = true := by unfold loB; simp; omega
      have HZ := Lib.hid hz
      clear hz
      go_enter Tryz.func67, Tryz.ntmps67
      go_wp2
      go_ret
      exact ⟨by rw [HZ.out]; rfl, rfl⟩

set_option maxHeartbeats 1000000 in
theorem digit_any (k : Nat) (w : World) : Calls Tryz.prog 57 #[.int .i64 (k : Int)] w fun e w' => e = .returned (.bool (diB k)) ∧ w = w' := by
  rcases Nat.lt_or_ge k 48 with h | h
  · have h1 : decide ((48 : Int) ≤ (k : Int)) = false := by simp; omega
    have hz : diB k = false := by unfold diB; simp; omega
    have HZ := Lib.hid hz
    clear hz
    go_enter Tryz.func57, Tryz.ntmps57
    go_wp2
    go_ret
    exact ⟨by rw [HZ.out]; rfl, rfl⟩
  · have h1 : decide ((48 : Int) ≤ (k : Int)) = true := by simp; omega
    rcases Nat.lt_or_ge 57 k with h' | h'
    · have h2 : decide ((k : Int) ≤ 57) = false := by simp; omega
      have hz : diB k = false := by unfold diB; simp; omega
      have HZ := Lib.hid hz
      clear hz
      go_enter Tryz.func57, Tryz.ntmps57
      go_wp2
      go_ret
      exact ⟨by rw [HZ.out]; rfl, rfl⟩
    · have h2 : decide ((k : Int) ≤ 57) = true := by simp; omega
      have hz : diB k = true := by unfold diB; simp; omega
      have HZ := Lib.hid hz
      clear hz
      go_enter Tryz.func57, Tryz.ntmps57
      go_wp2
      go_ret
      exact ⟨by rw [HZ.out]; rfl, rfl⟩
end Go.Proofs.YtiahgcgpakgeeaaGreatDoor

namespace Go.Proofs.YtiahgcgpakgeeaaGreatDoor
open Go.RowKit

/-- Is a byte one of a name's? Is there such a name? -/
def isB (l : List UInt8) (k : Nat) : Bool :=
  if (l == [97, 108, 112, 104, 97]) = true then upB k || loB k
  else if (l == [100, 105, 103, 105, 116]) = true then diB k
  else if (l == [97, 108, 110, 117, 109]) = true then upB k || loB k || diB k
  else if (l == [117, 112, 112, 101, 114]) = true then upB k
  else if (l == [108, 111, 119, 101, 114]) = true then loB k
  else if (l == [115, 112, 97, 99, 101]) = true then decide (9 ≤ k) && decide (k ≤ 13) || decide (k = 32)
  else if (l == [98, 108, 97, 110, 107]) = true then decide (k = 9) || decide (k = 32)
  else if (l == [112, 117, 110, 99, 116]) = true then decide (33 ≤ k) && decide (k ≤ 126) && !upB k && !loB k && !diB k
  else if (l == [103, 114, 97, 112, 104]) = true then decide (33 ≤ k) && decide (k ≤ 126)
  else if (l == [112, 114, 105, 110, 116]) = true then decide (32 ≤ k) && decide (k ≤ 126)
  else if (l == [99, 110, 116, 114, 108]) = true then decide (k < 32) || decide (k = 127)
  else if (l == [120, 100, 105, 103, 105, 116]) = true then diB k || (decide (65 ≤ k) && decide (k ≤ 70)) || (decide (97 ≤ k) && decide (k ≤ 102))
  else false
def isN (l : List UInt8) : Bool :=
  (l == [97, 108, 112, 104, 97]) || (l == [100, 105, 103, 105, 116]) || (l == [97, 108, 110, 117, 109]) || (l == [117, 112, 112, 101, 114]) || (l == [108, 111, 119, 101, 114]) || (l == [115, 112, 97, 99, 101]) ||
  (l == [98, 108, 97, 110, 107]) || (l == [112, 117, 110, 99, 116]) || (l == [103, 114, 97, 112, 104]) || (l == [112, 114, 105, 110, 116]) || (l == [99, 110, 116, 114, 108]) || (l == [120, 100, 105, 103, 105, 116])

/-- What is answers. -/
def isPost (s : ByteArray) (k : Nat) (w : World) (e : Ending) (w' : World) : Prop := e = .returned (.tuple #[.bool (isB s.toList k), .bool (isN s.toList)]) ∧ w = w'
theorem isPost.mk {s : ByteArray} {k : Nat} {w : World} {x y : Bool} (hx : x = isB s.toList k) (hy : y = isN s.toList) : isPost s k w (.returned (.tuple #[.bool x, .bool y])) w := ⟨by rw [hx, hy], rfl⟩

set_option maxRecDepth 100000 in
set_option maxHeartbeats 4000000 in
theorem is_any (s : ByteArray) (k : Nat) (w : World) :
    Calls Tryz.prog 56 #[.string s, .int .i64 (k : Int)] w (isPost s k w) := by
  go_enter Tryz.func56, Tryz.ntmps56
  go_wp2_with (first | (go_at_call 66; (with_reducible refine (upper_any k _).mono ?_); rintro e wc ⟨rfl, rfl⟩) | (go_at_call 67; (with_reducible refine (lower_any k _).mono ?_); rintro e wc ⟨rfl, rfl⟩) | (go_at_call 57; (with_reducible refine (digit_any k _).mono ?_); rintro e wc ⟨rfl, rfl⟩))
  all_goals go_ret2
  all_goals refine isPost.mk ?_ ?_
  all_goals (first | (simp [isN, *]; done) | (simp [isB, *]; done) | (rw [Bool.eq_iff_iff]; simp [isB, *]; done) | (rw [Bool.eq_iff_iff]; simp [isB, *]; omega) | (unfold isB; simp only [*, if_true, if_false, Bool.false_eq_true]; rw [Bool.eq_iff_iff]; simp; omega))
end Go.Proofs.YtiahgcgpakgeeaaGreatDoor
