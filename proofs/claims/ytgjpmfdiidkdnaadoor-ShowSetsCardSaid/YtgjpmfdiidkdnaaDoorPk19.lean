/-
  The walk of named's Dot.
  The walk of the third reference's Often.
  The walk of lex's number: which of the numbers 0 to 32 is written so.
-/
import Derived.Test.YtgjpmfdiidkdnaaDoorPk7
import Derived.Test.YtgjpmfdiidkdnaaDoorPk12
import Derived.Test.YtgjpmfdiidkdnaaDoorPk4
namespace Go.Proofs.YtgjpmfdiidkdnaaDoor
open Go.RowKit

/-- All bytes but the line feed. -/
def dotF (k : Nat) : Bool := !decide (k = 10)
set_option maxRecDepth 100000 in
set_option maxHeartbeats 1000000 in
theorem dot_any (w : World) : Calls Tryd.prog 21 #[] w fun e w' => e = .returned (sv dotF) ∧ Below w.heap.size w w' := by
  have e0 := (isSet.newNone w).alloc (.cells #[.int .u8 10] 5)
  have hW : Below w.heap.size w ((w.alloc (.cells #[.int .u64 0, .int .u64 0, .int .u64 0, .int .u64 0] 32)).alloc (.cells #[.int .u8 10] 5)) := ((Below.refl _ _).alloc (Nat.le_refl _) _).alloc (by simp) _
  have HW := Lib.hid hW; have E0 := Lib.hid e0
  clear hW e0
  go_enter Tryd.func21, Tryd.ntmps21
  go_wp2_with fail
  refine (of_one 10 (by decide) _ _ (by simp) (by simp [go_sem])).mono ?_
  rintro e w1 ⟨rfl, hb⟩
  have hW := HW.out.trans (hb.mono HW.out.size)
  have e0 := E0.out.below hb E0.out.lt
  clear hb HW E0
  have HW := Lib.hid hW; have E0 := Lib.hid e0
  clear hW e0
  go_wp2_with fail
  refine (not_lit _ _).mono ?_
  rw [show (fun k => !decide (k = 10)) = dotF from rfl]
  rintro e w2 ⟨rfl, hb⟩
  have hW := HW.out.trans (hb.mono HW.out.size)
  have e0 := E0.out.below hb E0.out.lt
  clear hb HW E0
  have l9 : w.heap.size < w2.heap.size := e0.lt
  obtain ⟨r0, r1, r2, r3⟩ := e0.free
  obtain ⟨q0, q1, q2, q3⟩ := e0.cells
  have HR := Lib.hid (below_set4 (c := w.heap.size) hW (Nat.le_refl _) (.int .u64 (wd dotF 0 : Int)) (.int .u64 (wd dotF 1 : Int)) (.int .u64 (wd dotF 2 : Int)) (.int .u64 (wd dotF 3 : Int)))
  have Z := Lib.hid (e0.stored dotF).cells
  clear e0 hW
  go_wp2
  refine bodyPost_ret (v := sv dotF) (by simp [results, Tryd.results21, go_sem, Z.out]) rfl ⟨rfl, HR.out⟩
end Go.Proofs.YtgjpmfdiidkdnaaDoor

namespace Go.Proofs.YtgjpmfdiidkdnaaDoor
open Go.RowKit

/-- How often, and where that ends; 0: it cannot be made. -/
def oftF (p : ByteArray) (k : Nat) : Int × Int × Nat :=
  if numF p (k + 1) < 0 then (0, 0, 0)
  else if gb p (numN p (k + 1)) = 125 then (numF p (k + 1), numF p (k + 1), numN p (k + 1) + 1)
  else if gb p (numN p (k + 1)) ≠ 44 then (0, 0, 0)
  else if gb p (numN p (k + 1) + 1) = 125 then (numF p (k + 1), -1, numN p (k + 1) + 2)
  else if p.size ≤ numN p (k + 1) + 1 then (0, 0, 0)
  else if numF p (numN p (k + 1) + 1) < numF p (k + 1) ∨ gb p (numN p (numN p (k + 1) + 1)) ≠ 125 then (0, 0, 0)
  else (numF p (k + 1), numF p (numN p (k + 1) + 1), numN p (numN p (k + 1) + 1) + 1)
theorem numF_lo (p : ByteArray) (k : Nat) : -1 ≤ numF p k ∧ numF p k ≤ 32 := by
  unfold numF
  repeat' split
  all_goals first | omega | skip
  · rename_i h _
    have h' : 48 ≤ gb p k ∧ gb p k ≤ 57 := by simpa [isD] using h
    unfold dv
    omega
theorem numN_le (p : ByteArray) (k : Nat) (hk : k ≤ p.size) : k ≤ numN p k ∧ numN p k ≤ p.size := by
  unfold numN
  have g : ∀ j, isD p j = true → j < p.size := fun j h => by
    obtain ⟨_, _, _, _, _, hj, _⟩ := isD_true h
    exact hj
  repeat' split
  · have := g (k + 2) ‹_›; omega
  · have := g (k + 1) ‹_›; omega
  · have := g k ‹_›; omega
  · omega

def oftPost (p : ByteArray) (k : Nat) (w : World) (e : Ending) (w' : World) : Prop := e = .returned (.tuple #[.int .i64 (oftF p k).1, .int .i64 (oftF p k).2.1, .int .i64 ((oftF p k).2.2 : Nat)]) ∧ w = w'
theorem oftPost.mk {p : ByteArray} {k : Nat} {w : World} {x y : Int} {z : Nat} {z' : Int} (h : oftF p k = (x, y, z)) (hz : z' = (z : Int) := by omega) : oftPost p k w (.returned (.tuple #[.int .i64 x, .int .i64 y, .int .i64 z'])) w := ⟨by rw [h, hz], rfl⟩
end Go.Proofs.YtgjpmfdiidkdnaaDoor

namespace Go.Proofs.YtgjpmfdiidkdnaaDoor
open Go.RowKit

/-- A number as it is written. -/
def itB (k : Nat) : ByteArray := ⟨(Lib.decDigits k).toArray⟩
/-- The number that a text is, and whether it is one. -/
def numS (s : ByteArray) : Option Nat := (List.range 33).find? fun n => (s.toList == (itB n).toList)
def nmV (s : ByteArray) : Nat := (numS s).getD 0
def nmO (s : ByteArray) : Bool := (numS s).isSome
theorem itoa_sym (k : Nat) (hk : k < 100) (w : World) : Calls Tryd.prog 55 #[.int .i64 (k : Int)] w fun e w' => e = .returned (.string (itB k)) ∧ w' = w := Sh.strconv_Itoa_small k hk w
theorem numS_some {s : ByteArray} {k : Nat} (hk : k < 33) (h : (s.toList == (itB k).toList) = true) (hno : ∀ j, j < k → (s.toList == (itB j).toList) = false) : numS s = some k := by
  unfold numS
  rw [List.find?_range_eq_some]
  exact ⟨h, by rw [List.mem_range]; exact hk, fun j hj => by rw [hno j hj]; rfl⟩
theorem numS_none {s : ByteArray} (hno : ∀ j, j < 33 → (s.toList == (itB j).toList) = false) : numS s = none := by
  unfold numS
  rw [List.find?_range_eq_none]
  intro j hj
  rw [hno j hj]; rfl

set_option maxRecDepth 100000 in
set_option maxHeartbeats 1000000 in
theorem lnum_any (s : ByteArray) (w : World) :
    Calls Tryd.prog 60 #[.string s] w fun e w' => e = .returned (.tuple #[.int .i64 (nmV s : Int), .bool (nmO s)]) ∧ w = w' := by
  go_enter Tryd.func60, Tryd.ntmps60
  go_wp2
  go_loop [5] (fun i => ∃ k : Nat, k ≤ 33 ∧ i = .int .i64 k ∧ Hid (∀ j, j < k → (s.toList == (itB j).toList) = false)) (fun i => 33 - (intOf i).toNat)
  case atStart => exact ⟨0, Nat.zero_le _, rfl, Lib.hid fun j h => absurd h (Nat.not_lt_zero j)⟩
  case round =>
    obtain ⟨k, hk, rfl, hno⟩ := hrel
    by_cases hlt : k < 33
    · have i1 : decide ((k : Int) < 33) = true := decide_eq_true (by omega)
      cases hq : (s.toList == (itB k).toList)
      · have HNO : Hid (∀ j, j < k + 1 → (s.toList == (itB j).toList) = false) := Lib.hid (fun j h1 => by
          rcases Nat.lt_or_ge j k with h | h
          · exact hno.out j h
          · rw [show j = k by omega]; exact hq)
        clear hno
        go_wp2_with (go_at_call 55; (with_reducible refine (itoa_sym k (by omega) _).mono ?_); rintro e wc ⟨rfl, rfl⟩)
        go_round
        case rel => exact ⟨k + 1, by omega, by go_num, HNO⟩
        case measure => simp [intOf]; omega
      · have HS := Lib.hid (numS_some hlt hq hno.out)
        clear hno
        go_wp2_with (go_at_call 55; (with_reducible refine (itoa_sym k (by omega) _).mono ?_); rintro e wc ⟨rfl, rfl⟩)
        go_ret2
        exact ⟨by unfold nmV nmO; rw [HS.out]; rfl, rfl⟩
    · have i1 : decide ((k : Int) < 33) = false := decide_eq_false (by omega)
      have HS := Lib.hid (numS_none (s := s) fun j hj => hno.out j (by omega))
      clear hno
      go_wp2
      go_ret2
      exact ⟨by unfold nmV nmO; rw [HS.out]; rfl, rfl⟩
end Go.Proofs.YtgjpmfdiidkdnaaDoor
