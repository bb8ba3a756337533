/-
  The walks of bounded, fault and check: the code's check of tokens.
  The walk of check: what the reference's Wrong tells, as a place and an error.
  The walks of row, given part, and of either, given row; either, by recursion over the tokens that are left.
-/
import Derived.Test.YtgjpmfdiidkdnaaGreatDoorPk43
namespace Go.Proofs.YtgjpmfdiidkdnaaGreatDoor
open Go.RowKit

set_option maxRecDepth 100000 in
set_option maxHeartbeats 1000000 in
theorem bounded_any (t : Tn) (w : World) :
    Calls Tryz.prog 66 #[.int .i64 t.lo, .int .i64 t.hi] w fun e w' => e = .returned (.bool (!badRep t)) ∧ w' = w := by
  obtain ⟨R, hR⟩ : ∃ R, (!badRep t) = R := ⟨_, rfl⟩
  rw [hR]
  unfold badRep at hR
  obtain ⟨k, p, a, b, c, d, lo, hi⟩ := t
  simp only at hR ⊢
  have HR := Lib.hid hR
  clear hR
  by_cases h0 : lo < 0
  · have d0 : decide (lo < 0) = true := decide_eq_true h0
    have HE : Hid (R = false) := Lib.hid (by rw [← HR.out, d0]; rfl)
    clear HR
    go_enter Tryz.func66, Tryz.ntmps66
    go_wp2
    go_returns
    exact ⟨by rw [HE.out] <;> rfl, rfl⟩
  have d0 : decide (lo < 0) = false := decide_eq_false h0
  by_cases h1 : 32 < lo
  · have d1 : decide (32 < lo) = true := decide_eq_true h1
    have HE : Hid (R = false) := Lib.hid (by rw [← HR.out, d0, d1]; rfl)
    clear HR
    go_enter Tryz.func66, Tryz.ntmps66
    go_wp2
    go_returns
    exact ⟨by rw [HE.out] <;> rfl, rfl⟩
  have d1 : decide (32 < lo) = false := decide_eq_false h1
  by_cases h2 : hi = -1
  · subst h2
    have HE : Hid (R = true) := Lib.hid (by rw [← HR.out, d0, d1]; rfl)
    clear HR
    go_enter Tryz.func66, Tryz.ntmps66
    go_wp2
    go_returns
    exact ⟨by rw [HE.out] <;> rfl, rfl⟩
  have d2 : (hi == -1) = false := beq_eq_false_iff_ne.2 h2
  have d2' : (hi != -1) = true := by simp [h2]
  by_cases h3 : hi < lo
  · have d3 : decide (hi < lo) = true := decide_eq_true h3
    have d4 : decide (lo ≤ hi) = false := decide_eq_false (by omega)
    have HE : Hid (R = false) := Lib.hid (by rw [← HR.out, d0, d1, d2', d3]; rfl)
    clear HR
    go_enter Tryz.func66, Tryz.ntmps66
    go_wp2
    go_returns
    exact ⟨by rw [HE.out] <;> rfl, rfl⟩
  have d3 : decide (hi < lo) = false := decide_eq_false h3
  have d4 : decide (lo ≤ hi) = true := decide_eq_true (by omega)
  by_cases h5 : 32 < hi
  · have d5 : decide (32 < hi) = true := decide_eq_true h5
    have d6 : decide (hi ≤ 32) = false := decide_eq_false (by omega)
    have HE : Hid (R = false) := Lib.hid (by rw [← HR.out, d0, d1, d2', d3, d5]; rfl)
    clear HR
    go_enter Tryz.func66, Tryz.ntmps66
    go_wp2
    go_returns
    exact ⟨by rw [HE.out] <;> rfl, rfl⟩
  have d5 : decide (32 < hi) = false := decide_eq_false h5
  have d6 : decide (hi ≤ 32) = true := decide_eq_true (by omega)
  have HE : Hid (R = true) := Lib.hid (by rw [← HR.out, d0, d1, d2', d3, d5]; rfl)
  clear HR
  go_enter Tryz.func66, Tryz.ntmps66
  go_wp2
  go_returns
  exact ⟨by rw [HE.out] <;> rfl, rfl⟩

set_option maxRecDepth 100000 in
set_option maxHeartbeats 2000000 in
theorem fault_any (t : Tn) (A : Int) (o : Nat) (w : World) :
    Calls Tryz.prog 52 #[tnv t, .int .i64 A, .int .i64 (o : Int)] w fun e w' => e = .returned (.int .i64 (faF t A o)) ∧ Below w.heap.size w w' := by
  have HQ := Lib.hid (bounded_any t)
  obtain ⟨R, hR⟩ : ∃ R, faF t A o = R := ⟨_, rfl⟩
  rw [hR]
  obtain ⟨BD, hBD⟩ : ∃ BD, badRep t = BD := ⟨_, rfl⟩
  unfold faF at hR
  rw [hBD] at hR HQ
  unfold tnv
  obtain ⟨k, p, a, b, c, d, lo, hi⟩ := t
  simp only at hR HQ ⊢
  have HR := Lib.hid hR
  clear hR hBD
  have hw : Below w.heap.size w (w.alloc (.cells #[.int .i64 k, .int .i64 p, .int .u64 a, .int .u64 b, .int .u64 c, .int .u64 d, .int .i64 lo, .int .i64 hi] 72)) := (Below.refl _ _).alloc (Nat.le_refl _) _
  have HW := Lib.hid hw
  clear hw
  by_cases h1 : k = 1
  · subst h1
    have HE : Hid (R = 0) := Lib.hid (by rw [← HR.out, if_pos (by omega)])
    clear HR HQ
    go_enter Tryz.func52, Tryz.ntmps52
    go_wp2
    go_returns
    exact ⟨by rw [HE.out] <;> rfl, HW.out⟩
  by_cases h2 : k = 2
  · subst h2
    have HE : Hid (R = 0) := Lib.hid (by rw [← HR.out, if_pos (by omega)])
    clear HR HQ
    go_enter Tryz.func52, Tryz.ntmps52
    go_wp2
    go_returns
    exact ⟨by rw [HE.out] <;> rfl, HW.out⟩
  by_cases h6 : k = 6
  · subst h6
    have HE : Hid (R = 0) := Lib.hid (by rw [← HR.out, if_pos (by omega)])
    clear HR HQ
    go_enter Tryz.func52, Tryz.ntmps52
    go_wp2
    go_returns
    exact ⟨by rw [HE.out] <;> rfl, HW.out⟩
  by_cases h7 : k = 7
  · subst h7
    have HE : Hid (R = 0) := Lib.hid (by rw [← HR.out, if_pos (by omega)])
    clear HR HQ
    go_enter Tryz.func52, Tryz.ntmps52
    go_wp2
    go_returns
    exact ⟨by rw [HE.out] <;> rfl, HW.out⟩
  by_cases h3 : k = 3
  · subst h3
    by_cases h20 : o = 20
    · subst h20
      have HE : Hid (R = 4) := Lib.hid (by rw [← HR.out]; rfl)
      clear HR HQ h1 h2 h6 h7
      go_enter Tryz.func52, Tryz.ntmps52
      go_wp2
      go_returns
      exact ⟨by rw [HE.out] <;> rfl, HW.out⟩
    · have e20 : ((o : Int) == 20) = false := beq_eq_false_iff_ne.2 (by omega)
      have HE : Hid (R = 0) := Lib.hid (by rw [← HR.out, if_neg (by omega), if_pos rfl, if_neg h20])
      clear HR HQ h1 h2 h6 h7 h20
      go_enter Tryz.func52, Tryz.ntmps52
      go_wp2
      go_returns
      exact ⟨by rw [HE.out] <;> rfl, HW.out⟩
  by_cases h4 : k = 4
  · subst h4
    by_cases h20 : o = 0
    · subst h20
      have HE : Hid (R = 3) := Lib.hid (by rw [← HR.out]; rfl)
      clear HR HQ h1 h2 h6 h7 h3
      go_enter Tryz.func52, Tryz.ntmps52
      go_wp2
      go_returns
      exact ⟨by rw [HE.out] <;> rfl, HW.out⟩
    · have e20 : ((o : Int) == 0) = false := beq_eq_false_iff_ne.2 (by omega)
      have HE : Hid (R = 0) := Lib.hid (by rw [← HR.out, if_neg (by omega), if_neg (by omega), if_pos rfl, if_neg h20])
      clear HR HQ h1 h2 h6 h7 h20 h3
      go_enter Tryz.func52, Tryz.ntmps52
      go_wp2
      go_returns
      exact ⟨by rw [HE.out] <;> rfl, HW.out⟩
  by_cases h5 : k = 5
  · subst h5
    have HR5 : Hid ((if BD = true then 9 else if A = 3 ∨ A = 2 then 3 else 0) = R) := Lib.hid (by rw [← HR.out]; rfl)
    clear HR h1 h2 h6 h7 h3 h4
    cases BD
    · simp only [Bool.not_false] at HQ
      by_cases a3 : A = 3
      · subst a3
        have HE : Hid (R = 3) := Lib.hid (by rw [← HR5.out]; rfl)
        clear HR5
        go_enter Tryz.func52, Tryz.ntmps52
        go_wp2_with fail
        refine (HQ.out _).mono ?_
        rintro e1 w1 ⟨rfl, rfl⟩
        go_wp2
        go_returns
        exact ⟨by rw [HE.out] <;> rfl, HW.out⟩
      have e3 : (A == 3) = false := beq_eq_false_iff_ne.2 a3
      by_cases a2 : A = 2
      · subst a2
        have HE : Hid (R = 3) := Lib.hid (by rw [← HR5.out]; rfl)
        clear HR5
        go_enter Tryz.func52, Tryz.ntmps52
        go_wp2_with fail
        refine (HQ.out _).mono ?_
        rintro e1 w1 ⟨rfl, rfl⟩
        go_wp2
        go_returns
        exact ⟨by rw [HE.out] <;> rfl, HW.out⟩
      have e2 : (A == 2) = false := beq_eq_false_iff_ne.2 a2
      have HE : Hid (R = 0) := Lib.hid (by rw [← HR5.out, if_neg (by simp), if_neg (by omega)])
      clear HR5 a2 a3
      go_enter Tryz.func52, Tryz.ntmps52
      go_wp2_with fail
      refine (HQ.out _).mono ?_
      rintro e1 w1 ⟨rfl, rfl⟩
      go_wp2
      go_returns
      exact ⟨by rw [HE.out] <;> rfl, HW.out⟩
    · simp only [Bool.not_true] at HQ
      have HE : Hid (R = 9) := Lib.hid (by rw [← HR5.out, if_pos rfl])
      clear HR5
      go_enter Tryz.func52, Tryz.ntmps52
      go_wp2_with fail
      refine (HQ.out _).mono ?_
      rintro e1 w1 ⟨rfl, rfl⟩
      go_wp2
      go_returns
      exact ⟨by rw [HE.out] <;> rfl, HW.out⟩
  have k1 : (k == 1) = false := beq_eq_false_iff_ne.2 h1
  have k2 : (k == 2) = false := beq_eq_false_iff_ne.2 h2
  have k3 : (k == 3) = false := beq_eq_false_iff_ne.2 h3
  have k4 : (k == 4) = false := beq_eq_false_iff_ne.2 h4
  have k5 : (k == 5) = false := beq_eq_false_iff_ne.2 h5
  have k6 : (k == 6) = false := beq_eq_false_iff_ne.2 h6
  have k7 : (k == 7) = false := beq_eq_false_iff_ne.2 h7
  have HE : Hid (R = 9) := Lib.hid (by rw [← HR.out, if_neg (by omega), if_neg (by omega), if_neg (by omega), if_neg (by omega)])
  clear HR HQ h1 h2 h3 h4 h5 h6 h7
  go_enter Tryz.func52, Tryz.ntmps52
  go_wp2
  go_returns
  exact ⟨by rw [HE.out] <;> rfl, HW.out⟩
end Go.Proofs.YtgjpmfdiidkdnaaGreatDoor

namespace Go.Proofs.YtgjpmfdiidkdnaaGreatDoor
open Go.RowKit

/-- What check tells. -/
def chF (T : Nat → Tn) (n : Nat) (end_ : Int) : Int × Int :=
  if (wrF T n (n + 1) 0 0).2.1 ≠ 0 then ((T (wrF T n (n + 1) 0 0).1.toNat).p, (wrF T n (n + 1) 0 0).2.1) else if 0 < (wrF T n (n + 1) 0 0).2.2 then (end_, 3) else (0, 0)

theorem check_zero (T : Nat → Tn) (p : Option Addr) (cap : Nat) (end_ : Int) (w : World) :
    Calls Tryz.prog 37 #[.slice p 0 cap, .int .i64 end_] w fun e w' => e = .returned (.tuple #[.int .i64 (chF T 0 end_).1, .int .i64 (chF T 0 end_).2]) ∧ Below w.heap.size w w' := by
  have h1 : wrF T 0 (0 + 1) 0 0 = (-1, 0, 0) := by unfold wrF; rw [if_pos (by omega)]
  have h2 : chF T 0 end_ = (0, 0) := by unfold chF; rw [h1]; rfl
  rw [h2]
  clear h1 h2
  go_enter Tryz.func37, Tryz.ntmps37
  go_wp2
  refine wp_loop_rounds 1 ?_
  rw [rounds_succ]; go_wp2
  go_returns
  exact ⟨rfl, Below.refl _ _⟩

set_option maxRecDepth 100000 in
set_option maxHeartbeats 4000000 in
theorem check_some (T : Nat → Tn) (n b off cap : Nat) (end_ : Int) (hn : n ≤ 1000) (w : World) (hr : rdTn w b off n T) :
    Calls Tryz.prog 37 #[.slice (some ⟨b, off, none⟩) n cap, .int .i64 end_] w fun e w' => e = .returned (.tuple #[.int .i64 (chF T n end_).1, .int .i64 (chF T n end_).2]) ∧ Below w.heap.size w w' := by
  obtain ⟨R, hR⟩ : ∃ R, chF T n end_ = R := ⟨_, rfl⟩
  rw [hR]
  have HR := Lib.hid hR
  have HRD := Lib.hid hr
  have HFA := Lib.hid (fun (t : Tn) (A : Int) (o : Nat) (w : World) => fault_any t A o w)
  clear hR hr
  go_enter Tryz.func37, Tryz.ntmps37
  go_wp2
  go_loopw [6, 7, 13] (fun d ah x wr => ∃ (i u op : Nat), x = .int .i64 (i : Int) ∧ d = .int .i64 (op : Int) ∧ i ≤ n ∧ op ≤ 20 ∧ ah = .int .i64 (ahK T i) ∧ Below w.heap.size w wr ∧ Hid ((0 < i → 1 ≤ (T (i - 1)).k ∧ (T (i - 1)).k ≤ 7) ∧ wrF T n u i op = wrF T n (n + 1) 0 0 ∧ n + 1 ≤ u + i)) (fun _ _ x _ => n - (intOf x).toNat)
  case atStart => exact ⟨0, n + 1, 0, rfl, rfl, by omega, by omega, rfl, Below.refl _ _, Lib.hid ⟨fun h => absurd h (by omega), rfl, by omega⟩⟩
  case round =>
    obtain ⟨i, u, op, rfl, rfl, q1, q2, rfl, hW, hh⟩ := hrel
    by_cases hlt : i < n
    · have d0 : decide ((i : Int) < (n : Int)) = true := decide_eq_true (by omega)
      have i0 : (0 : Int) ≤ (i : Int) := by omega
      have i1 : (i : Int) < (n : Int) := by omega
      have hsz := hW.size
      obtain ⟨p0, p1, p2, p3, p4, p5, p6, p7⟩ := ((HRD.out.below hW) i hlt).2
      have HW := Lib.hid hW
      have hbl := ((HRD.out.below hW) i hlt).1
      obtain ⟨A, hA⟩ : ∃ A, ahK T i = A := ⟨_, rfl⟩
      have HST : Hid (wrF T n (n + 1) 0 0 = if faF (T i) A op ≠ 0 then ((i : Int), faF (T i) A op, op) else wrF T n (u - 1) (i + 1) (nxD (T i).k op)) := Lib.hid (by
        obtain ⟨y0, y1, y2⟩ := hh.out
        obtain ⟨u', rfl⟩ : ∃ u', u = u' + 1 := ⟨u - 1, by omega⟩
        rw [← y1, wrF_fa T n u' i op y0 hlt, hA]; rfl)
      have HU : Hid (n + 1 ≤ u - 1 + (i + 1)) := Lib.hid (by have := hh.out.2.2; omega)
      have HZ : Hid (faF (T i) A op = 0 → (1 ≤ (T i).k ∧ (T i).k ≤ 7) ∧ nxD (T i).k op ≤ 20) := Lib.hid fun h => faF_zero h q2
      have HAK : Hid (ahK T (i + 1) = (T i).k) := Lib.hid (by unfold ahK; rw [if_neg (by omega)]; rfl)
      rw [hA]
      have HQ := Lib.hid (HFA.out (T i) A op)
      unfold tnv at HQ
      have HN0 : Hid (faF (T i) A op = 0 → (T i).k = 4 → 1 ≤ op) := Lib.hid (fun ho k4 => by
        rcases Nat.eq_zero_or_pos op with h0 | h0
        · unfold faF at ho
          rw [if_neg (by omega), if_neg (by omega), if_pos k4, if_pos h0] at ho
          omega
        · exact h0)
      obtain ⟨F, hF⟩ : ∃ F, faF (T i) A op = F := ⟨_, rfl⟩
      rw [hF] at HST HZ HQ HN0
      clear hh hW hA hF
      obtain ⟨kk, hkk⟩ : ∃ kk, (T i).k = kk := ⟨_, rfl⟩
      rw [hkk] at p0 HST HZ HAK HQ HN0
      have HKK := Lib.hid hkk
      clear hkk
      go_wp2_with fail
      refine (HQ.out _).mono ?_
      rintro e1 w1 ⟨rfl, hb1⟩
      obtain ⟨z0, z1, -, -, -, -, -, -⟩ := (tn_new wr ⟨kk, (T i).p, (T i).a, (T i).b, (T i).c, (T i).d, (T i).lo, (T i).hi⟩).below hb1 (by simp)
      simp only [Nat.zero_add] at z0 z1
      have HW2 := Lib.hid ((HW.out.alloc hsz _).trans (hb1.mono (by simp; omega)))
      have hsz1 := HW2.out.size
      clear hb1 HQ HW p0 p1 p2 p3 p4 p5 p6 p7 HRD HFA
      by_cases hF0 : F = 0
      · subst hF0
        replace HST : Hid (wrF T n (n + 1) 0 0 = wrF T n (u - 1) (i + 1) (nxD kk op)) := Lib.hid (by rw [HST.out, if_neg (by simp)])
        replace HZ := Lib.hid (HZ.out rfl)
        by_cases k3 : kk = 3
        · subst k3
          have h20 : op + 1 ≤ 20 := HZ.out.2
          go_wp2
          go_roundw
          case rel => exact ⟨i + 1, u - 1, op + 1, by go_num, by go_num, by omega, h20, by rw [HAK.out], HW2.out, Lib.hid ⟨fun _ => by have := HZ.out.1; rw [← HKK.out] at this; simpa using this, by rw [HST.out]; rfl, HU.out⟩⟩
          case measure => simp [intOf]; omega
        have e3 : (kk == 3) = false := beq_eq_false_iff_ne.2 k3
        by_cases k4 : kk = 4
        · subst k4
          have h20 : 1 ≤ op := HN0.out rfl rfl
          go_wp2
          go_roundw
          case rel => exact ⟨i + 1, u - 1, op - 1, by go_num, by go_num, by omega, by omega, by rw [HAK.out], HW2.out, Lib.hid ⟨fun _ => by have := HZ.out.1; rw [← HKK.out] at this; simpa using this, by rw [HST.out]; rfl, HU.out⟩⟩
          case measure => simp [intOf]; omega
        · have e4 : (kk == 4) = false := beq_eq_false_iff_ne.2 k4
          have hnx : nxD kk op = op := by unfold nxD; rw [if_neg k3, if_neg k4]
          replace HST : Hid (wrF T n (n + 1) 0 0 = wrF T n (u - 1) (i + 1) op) := Lib.hid (by rw [HST.out, hnx])
          clear k3 k4 hnx HN0
          go_wp2
          go_roundw
          case rel => exact ⟨i + 1, u - 1, op, by go_num, rfl, by omega, q2, by rw [HAK.out], HW2.out, Lib.hid ⟨fun _ => by have := HZ.out.1; rw [← HKK.out] at this; simpa using this, by rw [HST.out], HU.out⟩⟩
          case measure => simp [intOf]; omega
      · have eF : (F == 0) = false := beq_eq_false_iff_ne.2 hF0
        have eF' : (F != 0) = true := by simp [hF0]
        have HE : Hid (R = ((T i).p, F)) := Lib.hid (by
          rw [← HR.out]; unfold chF
          rw [HST.out, if_pos hF0, if_pos (by exact hF0), Int.toNat_natCast])
        clear HST HZ hF0 HR
        go_wp2
        go_returns
        exact ⟨by rw [HE.out] <;> rfl, HW2.out⟩
    · have d0 : decide ((i : Int) < (n : Int)) = false := decide_eq_false (by omega)
      have HE : Hid (R = if 0 < op then (end_, 3) else (0, 0)) := Lib.hid (by
        obtain ⟨y0, y1, y2⟩ := hh.out
        have hw : wrF T n (n + 1) 0 0 = (-1, 0, op) := by
          obtain ⟨u', rfl⟩ : ∃ u', u = u' + 1 := ⟨u - 1, by omega⟩
          rw [← y1]; unfold wrF
          rw [if_pos (by omega)]
        rw [← HR.out]; unfold chF
        rw [hw]; rfl)
      have HW := Lib.hid hW
      clear hh hW HR HRD HFA
      by_cases ho : 0 < op
      · have d1 : decide ((0 : Int) < (op : Int)) = true := decide_eq_true (by omega)
        have d2 : decide (0 < op) = true := decide_eq_true ho
        have HE2 : Hid (R = (end_, 3)) := Lib.hid (by rw [HE.out, if_pos ho])
        clear HE
        go_wp2
        go_returns
        exact ⟨by rw [HE2.out] <;> rfl, HW.out⟩
      · have d1 : decide ((0 : Int) < (op : Int)) = false := decide_eq_false (by omega)
        have d2 : decide (0 < op) = false := decide_eq_false ho
        have HE2 : Hid (R = (0, 0)) := Lib.hid (by rw [HE.out, if_neg ho])
        clear HE
        go_wp2
        go_returns
        exact ⟨by rw [HE2.out] <;> rfl, HW.out⟩
end Go.Proofs.YtgjpmfdiidkdnaaGreatDoor

namespace Go.Proofs.YtgjpmfdiidkdnaaGreatDoor
open Go.RowKit

/-- At a place where a part may begin: a part begins just if there is a token that is no end of parts. -/
theorem pt_iff {T : Nat → Tn} {n i : Nat} (hf : fitT T n) (hs : startOk T n i) : ptK (nxK T n i) = true ↔ i < n ∧ (T i).k ≠ 2 ∧ (T i).k ≠ 4 := by
  unfold nxK
  by_cases hlt : i < n
  · rw [if_pos hlt]
    have h1 := hf.w.1 i hlt
    have h5 := hs hlt
    unfold ptK
    simp
    omega
  · rw [if_neg hlt]
    exact ⟨fun h => absurd h (by decide), fun h => absurd h.1 hlt⟩

set_option maxRecDepth 100000 in
set_option maxHeartbeats 4000000 in
theorem crow_of (T : Nat → Tn) (n m B b off : Nat) (e : Nat → List Nd × Nat) (hn : n ≤ 1000) (hbB : 0 < n → b < B) (hfit : fitT T n) (hk : eOk n m e) (hl : eLeaf T n m e)
    (hP : ∀ a, m ≤ a + 1 → a < n → ptK (T a).k = true → ∀ L w, rdTn w b off n T → bld w B b off n a L → Calls Tryz.prog 68 #[.pointer (some ⟨B, 0, none⟩)] w (bPost B b off n (partF T n e a).2 (L ++ (partF T n e a).1) w))
    (a : Nat) (h1 : m ≤ a + 1) (hs : startOk T n a) (L : List Nd) (w : World) (hr : rdTn w b off n T) (hb : bld w B b off n a L) :
    Calls Tryz.prog 53 #[.pointer (some ⟨B, 0, none⟩)] w (bPost B b off n (bhF T n e a).2 (L ++ (bhF T n e a).1) w) := by
  have S := Lib.hid (small_any T n B b off hn)
  have HP := Lib.hid hP
  have HR := Lib.hid hr
  have HBB := Lib.hid hbB
  have HQ := Lib.hid (S.out.partNext a L w hr hb)
  have hB := hb.lt
  have HF := Lib.hid hfit
  -- a part, where one begins
  have HG : Hid (∀ i, m ≤ i + 1 → i < n ∧ (T i).k ≠ 2 ∧ (T i).k ≠ 4 → startOk T n i → startOk T n (partF T n e i).2 ∧ i + 1 ≤ (partF T n e i).2) := Lib.hid fun i h1 hc hs =>
    ⟨(partF_leaf hfit.w hk hl h1 hc.1 hc.2.1 hc.2.2 (hs hc.1)).1, (partF_bd (T := T) hk h1 hc.1).1⟩
  have hale := hb.le
  obtain ⟨R, hR⟩ : ∃ R, bhF T n e a = R := ⟨_, rfl⟩
  rw [hR]
  have HR0 : Hid (behL T n e (n + 2) a [] 0 = R) := Lib.hid hR
  have HB0 := Lib.hid hb
  have HS := Lib.hid hs
  obtain ⟨A, hA⟩ : ∃ A, ptK (nxK T n a) = A := ⟨_, rfl⟩
  have hAi := pt_iff hfit hs
  rw [hA] at HQ hAi
  clear hP hr hbB hb hR hfit hk hl hs hA
  cases A
  · have HE : Hid (R = ([nd0 2], a)) := Lib.hid (by
      rw [← HR0.out]; unfold behL
      rw [if_neg (c := a < n ∧ (T a).k ≠ 2 ∧ (T a).k ≠ 4) (fun h => absurd (hAi.2 h) (by simp))]; rfl)
    clear hAi
    go_enter Tryz.func53, Tryz.ntmps53
    go_wp2_with fail
    refine HQ.out.mono ?_
    rintro e1 w1 ⟨rfl, rfl⟩
    go_wp2_with fail
    refine (put_any (nd0 2) n B b off a L _ HB0.out).mono ?_
    rintro e2 w2 ⟨rfl, hb2, hl2⟩
    have HL2 := Lib.hid hl2; have HB2 := Lib.hid hb2
    clear hb2 hl2
    go_wp2
    go_returns
    exact ⟨rfl, HB2.out, by rw [HE.out]; exact HL2.out⟩
  · have hgo := hAi.1 rfl
    have HGO := Lib.hid hgo
    have HPK : Hid (ptK (T a).k = true) := Lib.hid (by have := hAi.2 hgo; have h3 := (pt_iff HF.out HS.out).2 hgo; unfold nxK at h3; rwa [if_pos hgo.1] at h3)
    have hlt := hgo.1
    clear hAi hgo
    go_enter Tryz.func53, Tryz.ntmps53
    go_wp2_with fail
    refine HQ.out.mono ?_
    rintro e1 w1 ⟨rfl, rfl⟩
    clear HQ
    go_wp2_with fail
    refine (HP.out a h1 hlt HPK.out L _ HR.out HB0.out).mono ?_
    rintro e2 w2 ⟨rfl, hb2, hl2⟩
    have HI : Hid (∃ (i u many : Nat) (acc : List Nd), Below B w1 w2 ∧ bld w2 B b off n i (L ++ acc) ∧ startOk T n i ∧ m ≤ i + 1 ∧ 0 < many ∧ Hid (behL T n e u i acc many = R ∧ n + 2 ≤ u + i)) :=
      Lib.hid ⟨(partF T n e a).2, n + 1, 1, (partF T n e a).1, hb2, hl2, (HG.out a h1 HGO.out HS.out).1, by have := (HG.out a h1 HGO.out HS.out).2; omega, by omega, Lib.hid ⟨by
        rw [← HR0.out]; conv => rhs; unfold behL
        rw [if_pos (c := a < n ∧ (T a).k ≠ 2 ∧ (T a).k ≠ 4) HGO.out]; simp, by have := (HG.out a h1 HGO.out HS.out).2; omega⟩⟩
    clear hb2 hl2 HB0 HPK HGO HR0 HS
    go_wp2_with fail
    go_loopw [] (fun wr => ∃ (i u many : Nat) (acc : List Nd), Below B w1 wr ∧ bld wr B b off n i (L ++ acc) ∧ startOk T n i ∧ m ≤ i + 1 ∧ 0 < many ∧ Hid (behL T n e u i acc many = R ∧ n + 2 ≤ u + i)) (fun wr => restLen B wr)
    case atStart => exact HI.out
    case round =>
      obtain ⟨i, u, many, acc, hW, hK, hs, q1, q2, hh⟩ := hrel
      clear HI
      have HQ := Lib.hid (S.out.partNext i (L ++ acc) wr (HR.out.belowB hW HBB.out) hK)
      have hile := hK.le
      have HS0 := Lib.hid hK.rest
      have hBr := hK.lt
      have hAi := pt_iff HF.out hs
      obtain ⟨A, hA⟩ : ∃ A, ptK (nxK T n i) = A := ⟨_, rfl⟩
      rw [hA] at HQ hAi
      have HW := Lib.hid hW; have HK := Lib.hid hK
      cases A
      · have HE : Hid (R = (acc, i)) := Lib.hid (by
          obtain ⟨y1, y2⟩ := hh.out
          obtain ⟨u', rfl⟩ : ∃ u', u = u' + 1 := ⟨u - 1, by omega⟩
          rw [← y1]; unfold behL
          rw [if_neg (c := i < n ∧ (T i).k ≠ 2 ∧ (T i).k ≠ 4) (fun h => absurd (hAi.2 h) (by simp)), if_neg (by omega)])
        clear hh hW hK hAi hA hs
        go_wp2_with fail
        refine HQ.out.mono ?_
        rintro e5 w5 ⟨rfl, rfl⟩
        clear HQ
        go_wp2
        go_returns
        exact ⟨rfl, HW.out, by rw [HE.out]; exact HK.out⟩
      · have hgo := hAi.1 rfl
        have HPK : Hid (ptK (T i).k = true) := Lib.hid (by unfold nxK at hA; rwa [if_pos hgo.1] at hA)
        have HG1 := Lib.hid (HG.out i q1 hgo hs)
        have HE5 : Hid (∃ u', behL T n e u' (partF T n e i).2 (acc ++ (partF T n e i).1 ++ [nd0 5]) (many + 1) = R ∧ n + 2 ≤ u' + (partF T n e i).2) := Lib.hid (by
          obtain ⟨y1, y2⟩ := hh.out
          obtain ⟨u', rfl⟩ : ∃ u', u = u' + 1 := ⟨u - 1, by omega⟩
          refine ⟨u', ?_, by have := HG1.out.2; omega⟩
          rw [← y1]; conv => rhs; unfold behL
          rw [if_pos (c := i < n ∧ (T i).k ≠ 2 ∧ (T i).k ≠ 4) hgo, if_neg (show ¬ many = 0 by omega)])
        have hlt := hgo.1
        clear hh hW hK hAi hA hs hgo
        go_wp2_with fail
        refine HQ.out.mono ?_
        rintro e5 w5 ⟨rfl, rfl⟩
        clear HQ
        go_wp2_with fail
        refine (HP.out i q1 hlt HPK.out (L ++ acc) _ (HR.out.belowB HW.out HBB.out) HK.out).mono ?_
        rintro e6 w6 ⟨rfl, hb6, hl6⟩
        have HB6 := Lib.hid (HW.out.trans hb6); have HL6 := Lib.hid hl6
        clear hb6 hl6 HW HK
        go_wp2_with fail
        refine (put_any (nd0 5) n B b off (partF T n e i).2 _ _ HL6.out).mono ?_
        rintro e7 w7 ⟨rfl, hb7, hl7⟩
        have HB7 := Lib.hid (HB6.out.trans hb7); have HL7 := Lib.hid hl7
        clear hb7 hl7 HB6 HL6
        go_wp2
        go_roundw
        case rel =>
          obtain ⟨u', y1, y2⟩ := HE5.out
          exact ⟨(partF T n e i).2, u', many + 1, acc ++ (partF T n e i).1 ++ [nd0 5], HB7.out, by have := HL7.out; simpa using this, HG1.out.1, by have := HG1.out.2; omega, by omega, Lib.hid ⟨y1, y2⟩⟩
        case measure => rw [HL7.out.rest, HS0.out]; have := HG1.out.2; omega
end Go.Proofs.YtgjpmfdiidkdnaaGreatDoor
