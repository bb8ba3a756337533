/-
  The walk of lex's number: which of the numbers 0 to 32 is written so.
-/
import Derived.Test.YtiahgcgpakgeeaaDoorPk11
namespace Go.Proofs.YtiahgcgpakgeeaaDoor
open Go.RowKit

/-- A number as it is written. -/
def itB (k : Nat) : ByteArray := ⟨(Lib.decDigits k).toArray⟩
/-- The number that a text is, and whether it is one. -/
def numS (s : ByteArray) : Option Nat := (List.range 33).find? fun n => (s.toList == (itB n).toList)
def nmV (s : ByteArray) : Nat := (numS s).getD 0
def nmO (s : ByteArray) : Bool := (numS s).isSome
theorem itoa_sym (k : Nat) (hk : k < 100) (w : World) : Calls Tryd.prog 35 #[.int .i64 (k : Int)] w fun e w' => e = .returned (.string (itB k)) ∧ w' = w := Sh.strconv_Itoa_small k hk w
theorem numS_some {s : ByteArray} {k : Nat} (hk : k < 33) (h : (s.toList == (itB k).toList) = true) (hno : ∀ j, j < k → (s.toList == (itB j).toList) = false) : numS s = some k := by
  unfold numS
  rw [List.find?_range_eq_some]
  exact ⟨h, by rw [List.mem_range]; exact hk, fun j hj => by rw [hno j hj]; rfl⟩
theorem numS_none {s : ByteArray} (hno : ∀ j, j < 33 → (s.toList == (itB j).toList) = false) : numS s = none := by
  unfold numS
  rw [List.find?_range_eq_none]
  intro j hj
  rw [hno j hj]; rfl

set_option maxRecDepth 100000 in
set_option maxHeartbeats 1000000 in
theorem lnum_any (s : ByteArray) (w : World) :
    Calls Tryd.prog 29 #[.string s] w fun e w' => e = .returned (.tuple #[.int .i64 (nmV s : Int), .bool (nmO s)]) ∧ w = w' := by
  go_enter Tryd.func29, Tryd.ntmps29
  go_wp2
  go_loop [5] (fun i => ∃ k : Nat, k ≤ 33 ∧ i = .int .i64 k ∧ Hid (∀ j, j < k → (s.toList == (itB j).toList) = false)) (fun i => 33 - (intOf i).toNat)
  case atStart => exact ⟨0, Nat.zero_le _, rfl, Lib.hid fun j h => absurd h (Nat.not_lt_zero j)⟩
  case round =>
    obtain ⟨k, hk, rfl, hno⟩ := hrel
    by_cases hlt : k < 33
    · have i1 : decide ((k : Int) < 33) = true := decide_eq_true (by omega)
      cases hq : (s.toList == (itB k).toList)
      · have HNO : Hid (∀ j, j < k + 1 → (s.toList == (itB j).toList) = false) := Lib.hid (fun j h1 => by
          rcases Nat.lt_or_ge j k with h | h
          · exact hno.out j h
          · rw [show j = k by omega]; exact hq)
        clear hno
        go_wp2_with (go_at_call 35; (with_reducible refine (itoa_sym k (by omega) _).mono ?_); rintro e wc ⟨rfl, rfl⟩)
        go_round
        case rel => exact ⟨k + 1, by omega, by go_num, HNO⟩
        case measure => simp [intOf]; omega
      · have HS := Lib.hid (numS_some hlt hq hno.out)
        clear hno
        go_wp2_with (go_at_call 35; (with_reducible refine (itoa_sym k (by omega) _).mono ?_); rintro e wc ⟨rfl, rfl⟩)
        go_ret2
        exact ⟨by unfold nmV nmO; rw [HS.out]; rfl, rfl⟩
    · have i1 : decide ((k : Int) < 33) = false := decide_eq_false (by omega)
      have HS := Lib.hid (numS_none (s := s) fun j hj => hno.out j (by omega))
      clear hno
      go_wp2
      go_ret2
      exact ⟨by unfold nmV nmO; rw [HS.out]; rfl, rfl⟩
end Go.Proofs.YtiahgcgpakgeeaaDoor
