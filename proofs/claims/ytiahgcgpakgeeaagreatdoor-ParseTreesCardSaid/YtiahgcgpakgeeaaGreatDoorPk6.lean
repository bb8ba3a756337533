/-
  The walk of the fifth reference's Wrong.
-/
import Derived.Test.YtiahgcgpakgeeaaGreatDoorPk2
import Derived.Deep.Cut
import Derived.Deep.CutRange
namespace Go.Proofs.YtiahgcgpakgeeaaGreatDoor
open Go.RowKit

theorem wrong_zero (p : Option Addr) (cap : Nat) (w : World) :
    Calls Tryz.prog 19 #[.slice p 0 cap] w fun e w' => e = .returned (.tuple #[.int .i64 (-1), .int .i64 0, .int .i64 0]) ∧ w = w' := by
  go_enter Tryz.func19, Tryz.ntmps19
  go_wp2
  refine wp_loop_rounds 1 ?_
  rw [rounds_succ]; go_wp2
  go_ret3
  exact ⟨rfl, rfl⟩

/-- Does the token ahead end a part? -/
def ahead (T : Nat → Tn) (i : Nat) : Bool := decide (0 < i) && endsP (T (i - 1)).k
def wrRel (T : Nat → Tn) (n : Nat) (R : Int × Int × Nat) (w : World) (o x : Value) (wr : World) : Prop :=
  ∃ (i u op : Nat), x = .int .i64 (i : Int) ∧ o = .int .i64 (op : Int) ∧ i ≤ n ∧ op ≤ 20 ∧ Below w.heap.size w wr ∧ Hid (wrF T n u i op = R ∧ n + 1 ≤ u + i)

set_option maxRecDepth 100000 in
set_option maxHeartbeats 16000000 in
theorem wrong_some (T : Nat → Tn) (n b off cap : Nat) (hn : n ≤ 1000) (w : World) (hr : rdTn w b off n T) :
    Calls Tryz.prog 19 #[.slice (some ⟨b, off, none⟩) n cap] w fun e w' => e = .returned (.tuple #[.int .i64 (wrF T n (n + 1) 0 0).1, .int .i64 (wrF T n (n + 1) 0 0).2.1, .int .i64 ((wrF T n (n + 1) 0 0).2.2 : Int)]) ∧ Below w.heap.size w w' := by
  obtain ⟨R, hR⟩ : ∃ R, wrF T n (n + 1) 0 0 = R := ⟨_, rfl⟩
  rw [hR]
  have HR := Lib.hid hR
  have HRD := Lib.hid hr
  clear hR hr
  go_enter Tryz.func19, Tryz.ntmps19
  go_wp2
  go_loopw [5, 6] (fun o x wr => wrRel T n R w o x wr) (fun _ x _ => n - (intOf x).toNat)
  case atStart => exact ⟨0, n + 1, 0, rfl, rfl, by omega, by omega, Below.refl _ _, Lib.hid ⟨HR.out, by omega⟩⟩
  case round =>
    obtain ⟨i, u, op, rfl, rfl, q1, q2, hW, hh⟩ := hrel
    clear HR
    by_cases hlt : i < n
    · have d0 : decide ((i : Int) < (n : Int)) = true := decide_eq_true (by omega)
      have i0 : (0 : Int) ≤ (i : Int) := by omega
      have i1 : (i : Int) < (n : Int) := by omega
      have hsz := hW.size
      obtain ⟨p0, p1, p2, p3, p4, p5, p6, p7⟩ := ((HRD.out.below hW) i hlt).2
      have HW := Lib.hid (hW.alloc hsz (.cells #[.int .i64 (T i).k, .int .i64 (T i).p, .int .u64 (T i).a, .int .u64 (T i).b, .int .u64 (T i).c, .int .u64 (T i).d, .int .i64 (T i).lo, .int .i64 (T i).hi] 40))
      have HRW := Lib.hid (HRD.out.below hW)
      have hbl := ((HRD.out.below hW) i hlt).1
      obtain ⟨u', hu'⟩ : ∃ u', u = u' + 1 := ⟨u - 1, by have := hh.out.2; omega⟩
      have HE : Hid (wrF T n (u' + 1) i op = R ∧ n + 1 ≤ u' + 1 + i) := Lib.hid (by rw [← hu']; exact hh.out)
      clear hh hu' hW
      obtain ⟨A, hA⟩ : ∃ A, ahead T i = A := ⟨_, rfl⟩
      have HA := Lib.hid hA
      clear hA
      go_upto_region 6 with (fail)
      go_cut [8] from 19 to 65 (fun v wx => v = .bool A ∧ wx = wr.alloc (.cells #[.int .i64 (T i).k, .int .i64 (T i).p, .int .u64 (T i).a, .int .u64 (T i).b, .int .u64 (T i).c, .int .u64 (T i).d, .int .i64 (T i).lo, .int .i64 (T i).hi] 40))
      case first =>
        rcases i with _ | j
        · have HA2 : Hid (A = false) := Lib.hid (by rw [← HA.out]; rfl)
          clear HA
          go_wp2
          go_meet
          case rel => exact ⟨by rw [HA2.out], rfl⟩
        · have hc := ((HRW.out) j (by omega)).2.1
          have j0 : (0 : Int) ≤ (j : Int) := by omega
          have j1 : (j : Int) < (n : Int) := by omega
          have jb : (j : Int) ≤ 1000 := by omega
          have d1 : decide (0 < j + 1) = true := by simp
          obtain ⟨kp, hkp⟩ : ∃ kp, (T j).k = kp := ⟨_, rfl⟩
          have HA1 : Hid (A = endsP kp) := Lib.hid (by rw [← HA.out, ← hkp]; unfold ahead; simp)
          rw [hkp] at hc
          clear hkp HA
          by_cases k1 : kp = 1
          · subst k1
            have HA2 : Hid (A = true) := Lib.hid (by rw [HA1.out]; rfl)
            clear HA1
            go_wp2
            go_meet
            case rel => exact ⟨by rw [HA2.out], rfl⟩
          have e1 : (kp == 1) = false := beq_eq_false_iff_ne.2 k1
          by_cases k6 : kp = 6
          · subst k6
            have HA2 : Hid (A = true) := Lib.hid (by rw [HA1.out]; rfl)
            clear HA1
            go_wp2
            go_meet
            case rel => exact ⟨by rw [HA2.out], rfl⟩
          have e6 : (kp == 6) = false := beq_eq_false_iff_ne.2 k6
          by_cases k7 : kp = 7
          · subst k7
            have HA2 : Hid (A = true) := Lib.hid (by rw [HA1.out]; rfl)
            clear HA1
            go_wp2
            go_meet
            case rel => exact ⟨by rw [HA2.out], rfl⟩
          have e7 : (kp == 7) = false := beq_eq_false_iff_ne.2 k7
          by_cases k5 : kp = 5
          · subst k5
            have HA2 : Hid (A = true) := Lib.hid (by rw [HA1.out]; rfl)
            clear HA1
            go_wp2
            go_meet
            case rel => exact ⟨by rw [HA2.out], rfl⟩
          have e5 : (kp == 5) = false := beq_eq_false_iff_ne.2 k5
          by_cases k4 : kp = 4
          · subst k4
            have HA2 : Hid (A = true) := Lib.hid (by rw [HA1.out]; rfl)
            clear HA1
            go_wp2
            go_meet
            case rel => exact ⟨by rw [HA2.out], rfl⟩
          have e4 : (kp == 4) = false := beq_eq_false_iff_ne.2 k4
          have HA2 : Hid (A = false) := Lib.hid (by rw [HA1.out]; unfold endsP; rw [e1, e4, e5, e6, e7]; rfl)
          clear k1 k4 k5 k6 k7 HA1
          go_wp2
          go_meet
          case rel => exact ⟨by rw [HA2.out], rfl⟩
      case rest =>
        obtain ⟨rfl, rfl⟩ := hcut
        have HA3 : Hid (A = ahead T i) := Lib.hid HA.out.symm
        clear p1 p2 p3 p4 p5
        obtain ⟨kk, hkk⟩ : ∃ kk, (T i).k = kk := ⟨_, rfl⟩
        obtain ⟨lo, hlo⟩ : ∃ x, (T i).lo = x := ⟨_, rfl⟩
        obtain ⟨hi', hhi⟩ : ∃ x, (T i).hi = x := ⟨_, rfl⟩
        have HB : Hid (badRep (T i) = (decide (lo < 0) || decide (32 < lo) || (hi' != -1 && decide (hi' < lo)) || decide (32 < hi'))) := Lib.hid (by rw [← hlo, ← hhi]; rfl)
        rw [hkk, hlo, hhi] at HW ⊢
        clear hlo hhi p0 p6 p7 HA HRW hbl
        by_cases k1 : kk < 1
        · have d1 : decide (kk < 1) = true := decide_eq_true k1
          have HE2 : Hid (R = ((i : Int), 9, op)) := Lib.hid (by rw [← HE.out.1]; unfold wrF; rw [hkk, if_neg (by omega), if_pos (.inl k1)])
          clear HE hkk
          go_wp2
          go_ret3
          exact ⟨by rw [HE2.out] <;> rfl, HW.out⟩
        have d1 : decide (kk < 1) = false := decide_eq_false k1
        by_cases k7 : 7 < kk
        · have d7 : decide (7 < kk) = true := decide_eq_true k7
          have HE2 : Hid (R = ((i : Int), 9, op)) := Lib.hid (by rw [← HE.out.1]; unfold wrF; rw [hkk, if_neg (by omega), if_pos (.inr k7)])
          clear HE hkk
          go_wp2
          go_ret3
          exact ⟨by rw [HE2.out] <;> rfl, HW.out⟩
        have d7 : decide (7 < kk) = false := decide_eq_false k7
        by_cases k5 : kk = 5
        · subst k5
          by_cases lo0 : lo < 0
          · have dlo0 : decide (lo < 0) = true := decide_eq_true lo0
            have HE2 : Hid (R = ((i : Int), 9, op)) := Lib.hid (by rw [← HE.out.1]; unfold wrF; rw [hkk, if_neg (by omega), if_neg (by omega), if_pos ⟨rfl, by rw [HB.out]; simp; omega⟩])
            clear HE hkk
            go_wp2
            go_ret3
            exact ⟨by rw [HE2.out] <;> rfl, HW.out⟩
          have dlo0 : decide (lo < 0) = false := decide_eq_false lo0
          by_cases lo32 : 32 < lo
          · have dlo32 : decide (32 < lo) = true := decide_eq_true lo32
            have HE2 : Hid (R = ((i : Int), 9, op)) := Lib.hid (by rw [← HE.out.1]; unfold wrF; rw [hkk, if_neg (by omega), if_neg (by omega), if_pos ⟨rfl, by rw [HB.out]; simp; omega⟩])
            clear HE hkk
            go_wp2
            go_ret3
            exact ⟨by rw [HE2.out] <;> rfl, HW.out⟩
          have dlo32 : decide (32 < lo) = false := decide_eq_false lo32
          by_cases hm : hi' = -1
          · subst hm
            have hbr : Hid (badRep (T i) = false) := Lib.hid (by rw [HB.out]; simp; omega)
            cases A
            · have ha : Hid (¬ (0 < i ∧ endsP (T (i - 1)).k = true)) := Lib.hid (fun hh => by have := HA3.out; unfold ahead at this; rw [decide_eq_true hh.1, hh.2] at this; exact absurd this (by decide))
              have HE2 : Hid (R = ((i : Int), 3, op)) := Lib.hid (by rw [← HE.out.1]; unfold wrF; rw [hkk, if_neg (by omega), if_neg (by omega), if_neg (fun hc => by rw [hbr.out] at hc; exact absurd hc.2 (by decide)), if_pos ⟨rfl, ha.out⟩])
              clear HE hkk
              go_wp2
              go_ret3
              exact ⟨by rw [HE2.out] <;> rfl, HW.out⟩
            · have ha : Hid (0 < i ∧ endsP (T (i - 1)).k = true) := Lib.hid (by have := HA3.out; unfold ahead at this; simpa using this.symm)
              have HE2 : Hid (wrF T n u' (i + 1) (op) = R) := Lib.hid (by
                rw [← HE.out.1]
                conv => rhs; unfold wrF
                rw [hkk, if_neg (by omega), if_neg (by omega), if_neg (fun hc => by rw [hbr.out] at hc; exact absurd hc.2 (by decide)), if_neg (fun hc => hc.2 ha.out), if_neg (by omega), if_neg (by omega), if_neg (by omega), if_neg (by omega)])
              have HU := Lib.hid HE.out.2
              clear HE hkk
              go_wp2
              go_roundw
              case rel => exact ⟨i + 1, u', op, by go_num, rfl, by omega, by omega, HW.out, Lib.hid ⟨HE2.out, by have := HU.out; omega⟩⟩
              case measure => simp [intOf]; omega
          have dm : (hi' == -1) = false := beq_eq_false_iff_ne.2 hm
          have dm' : (hi' != -1) = true := by simp [hm]
          have HM := Lib.hid hm
          clear hm
          by_cases hl : hi' < lo
          · have dl : decide (hi' < lo) = true := decide_eq_true hl
            have HE2 : Hid (R = ((i : Int), 9, op)) := Lib.hid (by rw [← HE.out.1]; unfold wrF; rw [hkk, if_neg (by omega), if_neg (by omega), if_pos ⟨rfl, by rw [HB.out]; have := HM.out; simp; omega⟩])
            clear HE hkk
            go_wp2
            go_ret3
            exact ⟨by rw [HE2.out] <;> rfl, HW.out⟩
          have dl : decide (hi' < lo) = false := decide_eq_false hl
          by_cases hh32 : 32 < hi'
          · have dh : decide (32 < hi') = true := decide_eq_true hh32
            have HE2 : Hid (R = ((i : Int), 9, op)) := Lib.hid (by rw [← HE.out.1]; unfold wrF; rw [hkk, if_neg (by omega), if_neg (by omega), if_pos ⟨rfl, by rw [HB.out]; simp; omega⟩])
            clear HE hkk
            go_wp2
            go_ret3
            exact ⟨by rw [HE2.out] <;> rfl, HW.out⟩
          have dh : decide (32 < hi') = false := decide_eq_false hh32
          have hbr : Hid (badRep (T i) = false) := Lib.hid (by rw [HB.out]; have := HM.out; simp; omega)
          cases A
          · have ha : Hid (¬ (0 < i ∧ endsP (T (i - 1)).k = true)) := Lib.hid (fun hh => by have := HA3.out; unfold ahead at this; rw [decide_eq_true hh.1, hh.2] at this; exact absurd this (by decide))
            have HE2 : Hid (R = ((i : Int), 3, op)) := Lib.hid (by rw [← HE.out.1]; unfold wrF; rw [hkk, if_neg (by omega), if_neg (by omega), if_neg (fun hc => by rw [hbr.out] at hc; exact absurd hc.2 (by decide)), if_pos ⟨rfl, ha.out⟩])
            clear HE hkk
            go_wp2
            go_ret3
            exact ⟨by rw [HE2.out] <;> rfl, HW.out⟩
          · have ha : Hid (0 < i ∧ endsP (T (i - 1)).k = true) := Lib.hid (by have := HA3.out; unfold ahead at this; simpa using this.symm)
            have HE2 : Hid (wrF T n u' (i + 1) (op) = R) := Lib.hid (by
              rw [← HE.out.1]
              conv => rhs; unfold wrF
              rw [hkk, if_neg (by omega), if_neg (by omega), if_neg (fun hc => by rw [hbr.out] at hc; exact absurd hc.2 (by decide)), if_neg (fun hc => hc.2 ha.out), if_neg (by omega), if_neg (by omega), if_neg (by omega), if_neg (by omega)])
            have HU := Lib.hid HE.out.2
            clear HE hkk
            go_wp2
            go_roundw
            case rel => exact ⟨i + 1, u', op, by go_num, rfl, by omega, by omega, HW.out, Lib.hid ⟨HE2.out, by have := HU.out; omega⟩⟩
            case measure => simp [intOf]; omega
        have d5 : (kk == 5) = false := beq_eq_false_iff_ne.2 k5
        by_cases k3 : kk = 3
        · subst k3
          by_cases o20 : op = 20
          · subst o20
            have HE2 : Hid (R = ((i : Int), 4, 20)) := Lib.hid (by rw [← HE.out.1]; unfold wrF; rw [hkk, if_neg (by omega), if_neg (by omega), if_neg (by omega), if_neg (by omega), if_pos ⟨rfl, rfl⟩])
            clear HE hkk
            go_wp2
            go_ret3
            exact ⟨by rw [HE2.out] <;> rfl, HW.out⟩
          have e20 : ((op : Int) == 20) = false := beq_eq_false_iff_ne.2 (by omega)
          have HE2 : Hid (wrF T n u' (i + 1) (op + 1) = R) := Lib.hid (by
            rw [← HE.out.1]
            conv => rhs; unfold wrF
            rw [hkk, if_neg (by omega), if_neg (by omega), if_neg (by omega), if_neg (by omega), if_neg (by omega), if_neg (by omega), if_pos rfl])
          have HU := Lib.hid HE.out.2
          clear HE hkk
          go_wp2
          go_roundw
          case rel => exact ⟨i + 1, u', op + 1, by go_num, by go_num, by omega, by omega, HW.out, Lib.hid ⟨HE2.out, by have := HU.out; omega⟩⟩
          case measure => simp [intOf]; omega
        have d3 : (kk == 3) = false := beq_eq_false_iff_ne.2 k3
        by_cases k4 : kk = 4
        · subst k4
          by_cases o0 : op = 0
          · subst o0
            have HE2 : Hid (R = ((i : Int), 3, 0)) := Lib.hid (by rw [← HE.out.1]; unfold wrF; rw [hkk, if_neg (by omega), if_neg (by omega), if_neg (by omega), if_neg (by omega), if_neg (by omega), if_pos ⟨rfl, rfl⟩])
            clear HE hkk
            go_wp2
            go_ret3
            exact ⟨by rw [HE2.out] <;> rfl, HW.out⟩
          have e0 : ((op : Int) == 0) = false := beq_eq_false_iff_ne.2 (by omega)
          have op1 : 1 ≤ op := by omega
          have HE2 : Hid (wrF T n u' (i + 1) (op - 1) = R) := Lib.hid (by
            rw [← HE.out.1]
            conv => rhs; unfold wrF
            rw [hkk, if_neg (by omega), if_neg (by omega), if_neg (by omega), if_neg (by omega), if_neg (by omega), if_neg (by omega), if_neg (by omega), if_pos rfl])
          have HU := Lib.hid HE.out.2
          clear HE hkk
          go_wp2
          go_roundw
          case rel => exact ⟨i + 1, u', op - 1, by go_num, by rw [show ((op - 1 : Nat) : Int) = (op : Int) - 1 by omega], by omega, by omega, HW.out, Lib.hid ⟨HE2.out, by have := HU.out; omega⟩⟩
          case measure => simp [intOf]; omega
        have d4 : (kk == 4) = false := beq_eq_false_iff_ne.2 k4
        have HE2 : Hid (wrF T n u' (i + 1) (op) = R) := Lib.hid (by
          rw [← HE.out.1]
          conv => rhs; unfold wrF
          rw [hkk, if_neg (by omega), if_neg (by omega), if_neg (fun hc => k5 hc.1), if_neg (fun hc => k5 hc.1), if_neg (fun hc => k3 hc.1), if_neg (fun hc => k4 hc.1), if_neg k3, if_neg k4])
        have HU := Lib.hid HE.out.2
        clear HE hkk
        go_wp2
        go_roundw
        case rel => exact ⟨i + 1, u', op, by go_num, rfl, by omega, by omega, HW.out, Lib.hid ⟨HE2.out, by have := HU.out; omega⟩⟩
        case measure => simp [intOf]; omega
    · have d0 : decide ((i : Int) < (n : Int)) = false := decide_eq_false (by omega)
      have HE : Hid (R = (-1, 0, op)) := Lib.hid (by
        rw [← hh.out.1]
        cases u with
        | zero => rfl
        | succ u => unfold wrF; rw [if_pos (by omega)])
      have HW := Lib.hid hW
      clear hh hW
      go_wp2
      go_ret3
      exact ⟨by rw [HE.out] <;> rfl, HW.out⟩
end Go.Proofs.YtiahgcgpakgeeaaGreatDoor
