/-
  The walk of named's Dot.
  The walk of the third reference's Often.
  The walk of lex's number: which of the numbers 0 to 32 is written so.
-/
import Derived.Test.YtiahgcgpakgeeaaGreatDoorPk15
import Derived.Test.YtiahgcgpakgeeaaGreatDoorPk21
import Derived.Test.YtiahgcgpakgeeaaGreatDoorPk8
import Derived.Test.YtiahgcgpakgeeaaGreatDoorPk9
import Derived.Test.YtiahgcgpakgeeaaGreatDoorPk7
namespace Go.Proofs.YtiahgcgpakgeeaaGreatDoor
open Go.RowKit

/-- All bytes but the line feed. -/
def dotF (k : Nat) : Bool := !decide (k = 10)
set_option maxRecDepth 100000 in
set_option maxHeartbeats 1000000 in
theorem dot_any (w : World) : Calls Tryz.prog 45 #[] w fun e w' => e = .returned (sv dotF) ∧ Below w.heap.size w w' := by
  have e0 := (isSet.newNone w).alloc (.cells #[.int .u8 10] 5)
  have hW : Below w.heap.size w ((w.alloc (.cells #[.int .u64 0, .int .u64 0, .int .u64 0, .int .u64 0] 36)).alloc (.cells #[.int .u8 10] 5)) := ((Below.refl _ _).alloc (Nat.le_refl _) _).alloc (by simp) _
  have HW := Lib.hid hW; have E0 := Lib.hid e0
  clear hW e0
  go_enter Tryz.func45, Tryz.ntmps45
  go_wp2_with fail
  refine (of_one 10 (by decide) _ _ (by simp) (by simp [go_sem])).mono ?_
  rintro e w1 ⟨rfl, hb⟩
  have hW := HW.out.trans (hb.mono HW.out.size)
  have e0 := E0.out.below hb E0.out.lt
  clear hb HW E0
  have HW := Lib.hid hW; have E0 := Lib.hid e0
  clear hW e0
  go_wp2_with fail
  refine (not_lit _ _).mono ?_
  rw [show (fun k => !decide (k = 10)) = dotF from rfl]
  rintro e w2 ⟨rfl, hb⟩
  have hW := HW.out.trans (hb.mono HW.out.size)
  have e0 := E0.out.below hb E0.out.lt
  clear hb HW E0
  have l9 : w.heap.size < w2.heap.size := e0.lt
  obtain ⟨r0, r1, r2, r3⟩ := e0.free
  obtain ⟨q0, q1, q2, q3⟩ := e0.cells
  have HR := Lib.hid (below_set4 (c := w.heap.size) hW (Nat.le_refl _) (.int .u64 (wd dotF 0 : Int)) (.int .u64 (wd dotF 1 : Int)) (.int .u64 (wd dotF 2 : Int)) (.int .u64 (wd dotF 3 : Int)))
  have Z := Lib.hid (e0.stored dotF).cells
  clear e0 hW
  go_wp2
  refine bodyPost_ret (v := sv dotF) (by simp [results, Tryz.results45, go_sem, Z.out]) rfl ⟨rfl, HR.out⟩
end Go.Proofs.YtiahgcgpakgeeaaGreatDoor

namespace Go.Proofs.YtiahgcgpakgeeaaGreatDoor
open Go.RowKit

/-- How often, and where that ends; 0: it cannot be made. -/
def oftF (p : ByteArray) (k : Nat) : Int × Int × Nat :=
  if numF p (k + 1) < 0 then (0, 0, 0)
  else if gb p (numN p (k + 1)) = 125 then (numF p (k + 1), numF p (k + 1), numN p (k + 1) + 1)
  else if gb p (numN p (k + 1)) ≠ 44 then (0, 0, 0)
  else if gb p (numN p (k + 1) + 1) = 125 then (numF p (k + 1), -1, numN p (k + 1) + 2)
  else if p.size ≤ numN p (k + 1) + 1 then (0, 0, 0)
  else if numF p (numN p (k + 1) + 1) < numF p (k + 1) ∨ gb p (numN p (numN p (k + 1) + 1)) ≠ 125 then (0, 0, 0)
  else (numF p (k + 1), numF p (numN p (k + 1) + 1), numN p (numN p (k + 1) + 1) + 1)
theorem numF_lo (p : ByteArray) (k : Nat) : -1 ≤ numF p k ∧ numF p k ≤ 32 := by
  unfold numF
  repeat' split
  all_goals first | omega | skip
  · rename_i h _
    have h' : 48 ≤ gb p k ∧ gb p k ≤ 57 := by simpa [isD] using h
    unfold dv
    omega
theorem numN_le (p : ByteArray) (k : Nat) (hk : k ≤ p.size) : k ≤ numN p k ∧ numN p k ≤ p.size := by
  unfold numN
  have g : ∀ j, isD p j = true → j < p.size := fun j h => by
    obtain ⟨_, _, _, _, _, hj, _⟩ := isD_true h
    exact hj
  repeat' split
  · have := g (k + 2) ‹_›; omega
  · have := g (k + 1) ‹_›; omega
  · have := g k ‹_›; omega
  · omega

def oftPost (p : ByteArray) (k : Nat) (w : World) (e : Ending) (w' : World) : Prop := e = .returned (.tuple #[.int .i64 (oftF p k).1, .int .i64 (oftF p k).2.1, .int .i64 ((oftF p k).2.2 : Nat)]) ∧ w = w'
theorem oftPost.mk {p : ByteArray} {k : Nat} {w : World} {x y : Int} {z : Nat} {z' : Int} (h : oftF p k = (x, y, z)) (hz : z' = (z : Int) := by omega) : oftPost p k w (.returned (.tuple #[.int .i64 x, .int .i64 y, .int .i64 z'])) w := ⟨by rw [h, hz], rfl⟩
theorem number_eq (p : ByteArray) (z : Int) (k : Nat) (m : Int) (i : Nat) (hz : z = (k : Int)) (hp : p.size ≤ 200) (hk : k ≤ p.size) (hm : numF p k = m) (hi : numN p k = i) (w : World) :
    Calls Tryz.prog 37 #[.string p, .int .i64 z] w fun e w' => e = .returned (.tuple #[.int .i64 m, .int .i64 (i : Int)]) ∧ w = w' := by
  subst hz hm hi
  exact (number_any p k w hp hk).mono fun _ _ h => h

set_option maxRecDepth 100000 in
set_option maxHeartbeats 4000000 in
theorem often_any (p : ByteArray) (k : Nat) (w : World) (hp : p.size ≤ 200) (hk : k + 1 ≤ p.size) :
    Calls Tryz.prog 22 #[.string p, .int .i64 (k : Int)] w (oftPost p k w) := by
  have b1 := numF_lo p (k + 1)
  have b2 := numN_le p (k + 1) hk
  obtain ⟨m, hm⟩ : ∃ m, numF p (k + 1) = m := ⟨_, rfl⟩
  obtain ⟨i, hi⟩ : ∃ i, numN p (k + 1) = i := ⟨_, rfl⟩
  rw [hm] at b1; rw [hi] at b2
  have HM := Lib.hid hm; have HI := Lib.hid hi
  clear hm hi
  obtain ⟨m1, m2⟩ := b1
  obtain ⟨i1, i2⟩ := b2
  by_cases c0 : m < 0
  · have t0 : decide (m < 0) = true := decide_eq_true c0
    have HV : Hid (oftF p k = (0, 0, 0)) := Lib.hid (by unfold oftF; rw [HM.out, HI.out]; rw [if_pos c0])
    go_enter Tryz.func22, Tryz.ntmps22
    go_wp2_with (first | (go_at_call 37; (with_reducible refine (number_eq p _ (k + 1) m i (by omega) hp hk HM.out HI.out _).mono ?_); rintro e wc ⟨rfl, rfl⟩))
    go_ret3
    exact oftPost.mk HV.out
  have t0 : decide (m < 0) = false := decide_eq_false c0
  rcases Nat.lt_or_ge i p.size with hi | hi
  · have g1 := gb_in hi
    have g2 := gb_lt hi
    obtain ⟨c, hc⟩ : ∃ c, gb p i = c := ⟨_, rfl⟩
    rw [hc] at g1 g2
    have HC := Lib.hid hc
    clear hc
    have l1 : decide (p.size ≤ i) = false := decide_eq_false (by omega)
    by_cases c1 : c = 125
    · have t1 : ((c : Int) == 125) = true := by simp [c1]
      have HC1 := Lib.hid c1
      clear c1
      have HV : Hid (oftF p k = (m, m, i + 1)) := Lib.hid (by unfold oftF; rw [HM.out, HI.out]; rw [if_neg c0, HC.out, if_pos HC1.out])
      go_enter Tryz.func22, Tryz.ntmps22
      go_wp2_with (first | (go_at_call 37; (with_reducible refine (number_eq p _ (k + 1) m i (by omega) hp hk HM.out HI.out _).mono ?_); rintro e wc ⟨rfl, rfl⟩))
      go_ret3
      exact oftPost.mk HV.out
    have t1 : ((c : Int) == 125) = false := beq_eq_false_iff_ne.2 (by omega)
    by_cases c2 : c = 44
    · have t2 : ((c : Int) != 44) = false := by simp [c2]
      have HC2 := Lib.hid c2
      have hneg : ¬ c ≠ 44 := fun h => h c2
      have HNEG := Lib.hid hneg
      clear c2 hneg
      rcases Nat.lt_or_ge (i + 1) p.size with hi1 | hi1
      · have g3 := gb_in hi1
        have g4 := gb_lt hi1
        obtain ⟨d, hd⟩ : ∃ d, gb p (i + 1) = d := ⟨_, rfl⟩
        rw [hd] at g3 g4
        have HD := Lib.hid hd
        clear hd
        have l2 : decide ((p.size : Int) ≤ (i : Int) + 1) = false := decide_eq_false (by omega)
        by_cases c3 : d = 125
        · have t3 : ((d : Int) == 125) = true := by simp [c3]
          have HC3 := Lib.hid c3
          clear c3
          have HV : Hid (oftF p k = (m, -1, i + 2)) := Lib.hid (by unfold oftF; rw [HM.out, HI.out]; rw [if_neg c0, HC.out, if_neg c1, if_neg HNEG.out, HD.out, if_pos HC3.out])
          go_enter Tryz.func22, Tryz.ntmps22
          go_wp2_with (first | (go_at_call 37; (with_reducible refine (number_eq p _ (k + 1) m i (by omega) hp hk HM.out HI.out _).mono ?_); rintro e wc ⟨rfl, rfl⟩))
          go_ret3
          exact oftPost.mk HV.out
        have t3 : ((d : Int) == 125) = false := beq_eq_false_iff_ne.2 (by omega)
        have b3 := numF_lo p (i + 1)
        have b4 := numN_le p (i + 1) (by omega)
        obtain ⟨n, hn⟩ : ∃ n, numF p (i + 1) = n := ⟨_, rfl⟩
        obtain ⟨j, hj⟩ : ∃ j, numN p (i + 1) = j := ⟨_, rfl⟩
        rw [hn] at b3; rw [hj] at b4
        have HN := Lib.hid hn; have HJ := Lib.hid hj
        have L3 : Hid (i + 1 ≤ p.size) := Lib.hid (by omega)
        clear hn hj
        obtain ⟨n1, n2⟩ := b3
        obtain ⟨j1, j2⟩ := b4
        have hle : ¬ p.size ≤ i + 1 := by omega
        by_cases c4 : n < m
        · have t4 : decide (n < m) = true := decide_eq_true c4
          have HV : Hid (oftF p k = (0, 0, 0)) := Lib.hid (by unfold oftF; rw [HM.out, HI.out]; rw [if_neg c0, HC.out, if_neg c1, if_neg HNEG.out, HD.out, if_neg c3, if_neg hle, HN.out, HJ.out, if_pos (.inl c4)])
          go_enter Tryz.func22, Tryz.ntmps22
          go_wp2_with (first | (go_at_call 37; (with_reducible refine (number_eq p _ (k + 1) m i (by omega) hp hk HM.out HI.out _).mono ?_); rintro e wc ⟨rfl, rfl⟩) | (go_at_call 37; (with_reducible refine (number_eq p _ (i + 1) n j (by omega) hp L3.out HN.out HJ.out _).mono ?_); rintro e wc ⟨rfl, rfl⟩))
          go_ret3
          exact oftPost.mk HV.out
        have t4 : decide (n < m) = false := decide_eq_false c4
        rcases Nat.lt_or_ge j p.size with hj1 | hj1
        · have g5 := gb_in hj1
          have g6 := gb_lt hj1
          obtain ⟨x, hx⟩ : ∃ x, gb p j = x := ⟨_, rfl⟩
          rw [hx] at g5 g6
          have HX := Lib.hid hx
          clear hx
          have l3 : decide (p.size ≤ j) = false := decide_eq_false (by omega)
          by_cases c5 : x = 125
          · have t5 : ((x : Int) != 125) = false := by simp [c5]
            have HC5 := Lib.hid c5
            clear c5
            have HV : Hid (oftF p k = (m, n, j + 1)) := Lib.hid (by unfold oftF; rw [HM.out, HI.out]; rw [if_neg c0, HC.out, if_neg c1, if_neg HNEG.out, HD.out, if_neg c3, if_neg hle, HN.out, HJ.out, HX.out, if_neg (by have := HC5.out; omega)])
            go_enter Tryz.func22, Tryz.ntmps22
            go_wp2_with (first | (go_at_call 37; (with_reducible refine (number_eq p _ (k + 1) m i (by omega) hp hk HM.out HI.out _).mono ?_); rintro e wc ⟨rfl, rfl⟩) | (go_at_call 37; (with_reducible refine (number_eq p _ (i + 1) n j (by omega) hp L3.out HN.out HJ.out _).mono ?_); rintro e wc ⟨rfl, rfl⟩))
            go_ret3
            exact oftPost.mk HV.out
          have t5 : ((x : Int) != 125) = true := by simp; omega
          have HV : Hid (oftF p k = (0, 0, 0)) := Lib.hid (by unfold oftF; rw [HM.out, HI.out]; rw [if_neg c0, HC.out, if_neg c1, if_neg HNEG.out, HD.out, if_neg c3, if_neg hle, HN.out, HJ.out, HX.out, if_pos (.inr c5)])
          go_enter Tryz.func22, Tryz.ntmps22
          go_wp2_with (first | (go_at_call 37; (with_reducible refine (number_eq p _ (k + 1) m i (by omega) hp hk HM.out HI.out _).mono ?_); rintro e wc ⟨rfl, rfl⟩) | (go_at_call 37; (with_reducible refine (number_eq p _ (i + 1) n j (by omega) hp L3.out HN.out HJ.out _).mono ?_); rintro e wc ⟨rfl, rfl⟩))
          go_ret3
          exact oftPost.mk HV.out
        have l3 : decide (p.size ≤ j) = true := decide_eq_true (by omega)
        have HV : Hid (oftF p k = (0, 0, 0)) := Lib.hid (by unfold oftF; rw [HM.out, HI.out]; rw [if_neg c0, HC.out, if_neg c1, if_neg HNEG.out, HD.out, if_neg c3, if_neg hle, HN.out, HJ.out, gb_out hj1, if_pos (.inr (by decide))])
        go_enter Tryz.func22, Tryz.ntmps22
        go_wp2_with (first | (go_at_call 37; (with_reducible refine (number_eq p _ (k + 1) m i (by omega) hp hk HM.out HI.out _).mono ?_); rintro e wc ⟨rfl, rfl⟩) | (go_at_call 37; (with_reducible refine (number_eq p _ (i + 1) n j (by omega) hp L3.out HN.out HJ.out _).mono ?_); rintro e wc ⟨rfl, rfl⟩))
        go_ret3
        exact oftPost.mk HV.out
      have l2 : decide ((p.size : Int) ≤ (i : Int) + 1) = true := decide_eq_true (by omega)
      have HV : Hid (oftF p k = (0, 0, 0)) := Lib.hid (by unfold oftF; rw [HM.out, HI.out]; rw [if_neg c0, HC.out, if_neg c1, if_neg HNEG.out, gb_out hi1, if_neg (by decide), if_pos hi1])
      go_enter Tryz.func22, Tryz.ntmps22
      go_wp2_with (first | (go_at_call 37; (with_reducible refine (number_eq p _ (k + 1) m i (by omega) hp hk HM.out HI.out _).mono ?_); rintro e wc ⟨rfl, rfl⟩))
      go_ret3
      exact oftPost.mk HV.out
    have t2 : ((c : Int) != 44) = true := by simp; omega
    have HV : Hid (oftF p k = (0, 0, 0)) := Lib.hid (by unfold oftF; rw [HM.out, HI.out]; rw [if_neg c0, HC.out, if_neg c1, if_pos c2])
    go_enter Tryz.func22, Tryz.ntmps22
    go_wp2_with (first | (go_at_call 37; (with_reducible refine (number_eq p _ (k + 1) m i (by omega) hp hk HM.out HI.out _).mono ?_); rintro e wc ⟨rfl, rfl⟩))
    go_ret3
    exact oftPost.mk HV.out
  have l1 : decide (p.size ≤ i) = true := decide_eq_true (by omega)
  have HV : Hid (oftF p k = (0, 0, 0)) := Lib.hid (by unfold oftF; rw [HM.out, HI.out]; rw [if_neg c0, gb_out hi, if_neg (by decide), if_pos (by decide)])
  go_enter Tryz.func22, Tryz.ntmps22
  go_wp2_with (first | (go_at_call 37; (with_reducible refine (number_eq p _ (k + 1) m i (by omega) hp hk HM.out HI.out _).mono ?_); rintro e wc ⟨rfl, rfl⟩))
  go_ret3
  exact oftPost.mk HV.out
end Go.Proofs.YtiahgcgpakgeeaaGreatDoor

namespace Go.Proofs.YtiahgcgpakgeeaaGreatDoor
open Go.RowKit

/-- A number as it is written. -/
def itB (k : Nat) : ByteArray := ⟨(Lib.decDigits k).toArray⟩
/-- The number that a text is, and whether it is one. -/
def numS (s : ByteArray) : Option Nat := (List.range 33).find? fun n => (s.toList == (itB n).toList)
def nmV (s : ByteArray) : Nat := (numS s).getD 0
def nmO (s : ByteArray) : Bool := (numS s).isSome
theorem itoa_sym (k : Nat) (hk : k < 100) (w : World) : Calls Tryz.prog 59 #[.int .i64 (k : Int)] w fun e w' => e = .returned (.string (itB k)) ∧ w' = w := Sh.strconv_Itoa_small k hk w
theorem numS_some {s : ByteArray} {k : Nat} (hk : k < 33) (h : (s.toList == (itB k).toList) = true) (hno : ∀ j, j < k → (s.toList == (itB j).toList) = false) : numS s = some k := by
  unfold numS
  rw [List.find?_range_eq_some]
  exact ⟨h, by rw [List.mem_range]; exact hk, fun j hj => by rw [hno j hj]; rfl⟩
theorem numS_none {s : ByteArray} (hno : ∀ j, j < 33 → (s.toList == (itB j).toList) = false) : numS s = none := by
  unfold numS
  rw [List.find?_range_eq_none]
  intro j hj
  rw [hno j hj]; rfl

set_option maxRecDepth 100000 in
set_option maxHeartbeats 1000000 in
theorem lnum_any (s : ByteArray) (w : World) :
    Calls Tryz.prog 44 #[.string s] w fun e w' => e = .returned (.tuple #[.int .i64 (nmV s : Int), .bool (nmO s)]) ∧ w = w' := by
  go_enter Tryz.func44, Tryz.ntmps44
  go_wp2
  go_loop [5] (fun i => ∃ k : Nat, k ≤ 33 ∧ i = .int .i64 k ∧ Hid (∀ j, j < k → (s.toList == (itB j).toList) = false)) (fun i => 33 - (intOf i).toNat)
  case atStart => exact ⟨0, Nat.zero_le _, rfl, Lib.hid fun j h => absurd h (Nat.not_lt_zero j)⟩
  case round =>
    obtain ⟨k, hk, rfl, hno⟩ := hrel
    by_cases hlt : k < 33
    · have i1 : decide ((k : Int) < 33) = true := decide_eq_true (by omega)
      cases hq : (s.toList == (itB k).toList)
      · have HNO : Hid (∀ j, j < k + 1 → (s.toList == (itB j).toList) = false) := Lib.hid (fun j h1 => by
          rcases Nat.lt_or_ge j k with h | h
          · exact hno.out j h
          · rw [show j = k by omega]; exact hq)
        clear hno
        go_wp2_with (go_at_call 59; (with_reducible refine (itoa_sym k (by omega) _).mono ?_); rintro e wc ⟨rfl, rfl⟩)
        go_round
        case rel => exact ⟨k + 1, by omega, by go_num, HNO⟩
        case measure => simp [intOf]; omega
      · have HS := Lib.hid (numS_some hlt hq hno.out)
        clear hno
        go_wp2_with (go_at_call 59; (with_reducible refine (itoa_sym k (by omega) _).mono ?_); rintro e wc ⟨rfl, rfl⟩)
        go_ret2
        exact ⟨by unfold nmV nmO; rw [HS.out]; rfl, rfl⟩
    · have i1 : decide ((k : Int) < 33) = false := decide_eq_false (by omega)
      have HS := Lib.hid (numS_none (s := s) fun j hj => hno.out j (by omega))
      clear hno
      go_wp2
      go_ret2
      exact ⟨by unfold nmV nmO; rw [HS.out]; rfl, rfl⟩
end Go.Proofs.YtiahgcgpakgeeaaGreatDoor
