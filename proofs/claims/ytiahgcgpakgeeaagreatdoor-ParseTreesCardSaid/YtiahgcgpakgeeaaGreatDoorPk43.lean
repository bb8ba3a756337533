/-
  The walk of check: what the reference's Wrong tells, as a place and an error.
  The walks of row, given part, and of either, given row; either, by recursion over the tokens that are left.
  The walk of the builder's either, given row; and by recursion over the tokens that are left.
-/
import Derived.Test.YtiahgcgpakgeeaaGreatDoorPk42
import Derived.Test.YtiahgcgpakgeeaaGreatDoorPk41
namespace Go.Proofs.YtiahgcgpakgeeaaGreatDoor
open Go.RowKit

/-- What check tells. -/
def chF (T : Nat → Tn) (n : Nat) (end_ : Int) : Int × Int :=
  if (wrF T n (n + 1) 0 0).2.1 ≠ 0 then ((T (wrF T n (n + 1) 0 0).1.toNat).p, (wrF T n (n + 1) 0 0).2.1) else if 0 < (wrF T n (n + 1) 0 0).2.2 then (end_, 3) else (0, 0)

theorem check_zero (T : Nat → Tn) (p : Option Addr) (cap : Nat) (end_ : Int) (w : World) :
    Calls Tryz.prog 17 #[.slice p 0 cap, .int .i64 end_] w fun e w' => e = .returned (.tuple #[.int .i64 (chF T 0 end_).1, .int .i64 (chF T 0 end_).2]) ∧ Below w.heap.size w w' := by
  have h1 : wrF T 0 (0 + 1) 0 0 = (-1, 0, 0) := by unfold wrF; rw [if_pos (by omega)]
  have h2 : chF T 0 end_ = (0, 0) := by unfold chF; rw [h1]; rfl
  rw [h2]
  clear h1 h2
  go_enter Tryz.func17, Tryz.ntmps17
  go_wp2
  refine wp_loop_rounds 1 ?_
  rw [rounds_succ]; go_wp2
  go_returns
  exact ⟨rfl, Below.refl _ _⟩

set_option maxRecDepth 100000 in
set_option maxHeartbeats 4000000 in
theorem check_some (T : Nat → Tn) (n b off cap : Nat) (end_ : Int) (hn : n ≤ 1000) (w : World) (hr : rdTn w b off n T) :
    Calls Tryz.prog 17 #[.slice (some ⟨b, off, none⟩) n cap, .int .i64 end_] w fun e w' => e = .returned (.tuple #[.int .i64 (chF T n end_).1, .int .i64 (chF T n end_).2]) ∧ Below w.heap.size w w' := by
  obtain ⟨R, hR⟩ : ∃ R, chF T n end_ = R := ⟨_, rfl⟩
  rw [hR]
  have HR := Lib.hid hR
  have HRD := Lib.hid hr
  have HFA := Lib.hid (fun (t : Tn) (A : Int) (o : Nat) (w : World) => fault_any t A o w)
  clear hR hr
  go_enter Tryz.func17, Tryz.ntmps17
  go_wp2
  go_loopw [6, 7, 13] (fun d ah x wr => ∃ (i u op : Nat), x = .int .i64 (i : Int) ∧ d = .int .i64 (op : Int) ∧ i ≤ n ∧ op ≤ 20 ∧ ah = .int .i64 (ahK T i) ∧ Below w.heap.size w wr ∧ Hid ((0 < i → 1 ≤ (T (i - 1)).k ∧ (T (i - 1)).k ≤ 7) ∧ wrF T n u i op = wrF T n (n + 1) 0 0 ∧ n + 1 ≤ u + i)) (fun _ _ x _ => n - (intOf x).toNat)
  case atStart => exact ⟨0, n + 1, 0, rfl, rfl, by omega, by omega, rfl, Below.refl _ _, Lib.hid ⟨fun h => absurd h (by omega), rfl, by omega⟩⟩
  case round =>
    obtain ⟨i, u, op, rfl, rfl, q1, q2, rfl, hW, hh⟩ := hrel
    by_cases hlt : i < n
    · have d0 : decide ((i : Int) < (n : Int)) = true := decide_eq_true (by omega)
      have i0 : (0 : Int) ≤ (i : Int) := by omega
      have i1 : (i : Int) < (n : Int) := by omega
      have hsz := hW.size
      obtain ⟨p0, p1, p2, p3, p4, p5, p6, p7⟩ := ((HRD.out.below hW) i hlt).2
      have HW := Lib.hid hW
      have hbl := ((HRD.out.below hW) i hlt).1
      obtain ⟨A, hA⟩ : ∃ A, ahK T i = A := ⟨_, rfl⟩
      have HST : Hid (wrF T n (n + 1) 0 0 = if faF (T i) A op ≠ 0 then ((i : Int), faF (T i) A op, op) else wrF T n (u - 1) (i + 1) (nxD (T i).k op)) := Lib.hid (by
        obtain ⟨y0, y1, y2⟩ := hh.out
        obtain ⟨u', rfl⟩ : ∃ u', u = u' + 1 := ⟨u - 1, by omega⟩
        rw [← y1, wrF_fa T n u' i op y0 hlt, hA]; rfl)
      have HU : Hid (n + 1 ≤ u - 1 + (i + 1)) := Lib.hid (by have := hh.out.2.2; omega)
      have HZ : Hid (faF (T i) A op = 0 → (1 ≤ (T i).k ∧ (T i).k ≤ 7) ∧ nxD (T i).k op ≤ 20) := Lib.hid fun h => faF_zero h q2
      have HAK : Hid (ahK T (i + 1) = (T i).k) := Lib.hid (by unfold ahK; rw [if_neg (by omega)]; rfl)
      rw [hA]
      have HQ := Lib.hid (HFA.out (T i) A op)
      unfold tnv at HQ
      have HN0 : Hid (faF (T i) A op = 0 → (T i).k = 4 → 1 ≤ op) := Lib.hid (fun ho k4 => by
        rcases Nat.eq_zero_or_pos op with h0 | h0
        · unfold faF at ho
          rw [if_neg (by omega), if_neg (by omega), if_pos k4, if_pos h0] at ho
          omega
        · exact h0)
      obtain ⟨F, hF⟩ : ∃ F, faF (T i) A op = F := ⟨_, rfl⟩
      rw [hF] at HST HZ HQ HN0
      clear hh hW hA hF
      obtain ⟨kk, hkk⟩ : ∃ kk, (T i).k = kk := ⟨_, rfl⟩
      rw [hkk] at p0 HST HZ HAK HQ HN0
      have HKK := Lib.hid hkk
      clear hkk
      go_wp2_with fail
      refine (HQ.out _).mono ?_
      rintro e1 w1 ⟨rfl, hb1⟩
      obtain ⟨z0, z1, -, -, -, -, -, -⟩ := (tn_new wr ⟨kk, (T i).p, (T i).a, (T i).b, (T i).c, (T i).d, (T i).lo, (T i).hi⟩).below hb1 (by simp)
      simp only [Nat.zero_add] at z0 z1
      have HW2 := Lib.hid ((HW.out.alloc hsz _).trans (hb1.mono (by simp; omega)))
      have hsz1 := HW2.out.size
      clear hb1 HQ HW p0 p1 p2 p3 p4 p5 p6 p7 HRD HFA
      by_cases hF0 : F = 0
      · subst hF0
        replace HST : Hid (wrF T n (n + 1) 0 0 = wrF T n (u - 1) (i + 1) (nxD kk op)) := Lib.hid (by rw [HST.out, if_neg (by simp)])
        replace HZ := Lib.hid (HZ.out rfl)
        by_cases k3 : kk = 3
        · subst k3
          have h20 : op + 1 ≤ 20 := HZ.out.2
          go_wp2
          go_roundw
          case rel => exact ⟨i + 1, u - 1, op + 1, by go_num, by go_num, by omega, h20, by rw [HAK.out], HW2.out, Lib.hid ⟨fun _ => by have := HZ.out.1; rw [← HKK.out] at this; simpa using this, by rw [HST.out]; rfl, HU.out⟩⟩
          case measure => simp [intOf]; omega
        have e3 : (kk == 3) = false := beq_eq_false_iff_ne.2 k3
        by_cases k4 : kk = 4
        · subst k4
          have h20 : 1 ≤ op := HN0.out rfl rfl
          go_wp2
          go_roundw
          case rel => exact ⟨i + 1, u - 1, op - 1, by go_num, by go_num, by omega, by omega, by rw [HAK.out], HW2.out, Lib.hid ⟨fun _ => by have := HZ.out.1; rw [← HKK.out] at this; simpa using this, by rw [HST.out]; rfl, HU.out⟩⟩
          case measure => simp [intOf]; omega
        · have e4 : (kk == 4) = false := beq_eq_false_iff_ne.2 k4
          have hnx : nxD kk op = op := by unfold nxD; rw [if_neg k3, if_neg k4]
          replace HST : Hid (wrF T n (n + 1) 0 0 = wrF T n (u - 1) (i + 1) op) := Lib.hid (by rw [HST.out, hnx])
          clear k3 k4 hnx HN0
          go_wp2
          go_roundw
          case rel => exact ⟨i + 1, u - 1, op, by go_num, rfl, by omega, q2, by rw [HAK.out], HW2.out, Lib.hid ⟨fun _ => by have := HZ.out.1; rw [← HKK.out] at this; simpa using this, by rw [HST.out], HU.out⟩⟩
          case measure => simp [intOf]; omega
      · have eF : (F == 0) = false := beq_eq_false_iff_ne.2 hF0
        have eF' : (F != 0) = true := by simp [hF0]
        have HE : Hid (R = ((T i).p, F)) := Lib.hid (by
          rw [← HR.out]; unfold chF
          rw [HST.out, if_pos hF0, if_pos (by exact hF0), Int.toNat_natCast])
        clear HST HZ hF0 HR
        go_wp2
        go_returns
        exact ⟨by rw [HE.out] <;> rfl, HW2.out⟩
    · have d0 : decide ((i : Int) < (n : Int)) = false := decide_eq_false (by omega)
      have HE : Hid (R = if 0 < op then (end_, 3) else (0, 0)) := Lib.hid (by
        obtain ⟨y0, y1, y2⟩ := hh.out
        have hw : wrF T n (n + 1) 0 0 = (-1, 0, op) := by
          obtain ⟨u', rfl⟩ : ∃ u', u = u' + 1 := ⟨u - 1, by omega⟩
          rw [← y1]; unfold wrF
          rw [if_pos (by omega)]
        rw [← HR.out]; unfold chF
        rw [hw]; rfl)
      have HW := Lib.hid hW
      clear hh hW HR HRD HFA
      by_cases ho : 0 < op
      · have d1 : decide ((0 : Int) < (op : Int)) = true := decide_eq_true (by omega)
        have d2 : decide (0 < op) = true := decide_eq_true ho
        have HE2 : Hid (R = (end_, 3)) := Lib.hid (by rw [HE.out, if_pos ho])
        clear HE
        go_wp2
        go_returns
        exact ⟨by rw [HE2.out] <;> rfl, HW.out⟩
      · have d1 : decide ((0 : Int) < (op : Int)) = false := decide_eq_false (by omega)
        have d2 : decide (0 < op) = false := decide_eq_false ho
        have HE2 : Hid (R = (0, 0)) := Lib.hid (by rw [HE.out, if_neg ho])
        clear HE
        go_wp2
        go_returns
        exact ⟨by rw [HE2.out] <;> rfl, HW.out⟩
end Go.Proofs.YtiahgcgpakgeeaaGreatDoor

namespace Go.Proofs.YtiahgcgpakgeeaaGreatDoor
open Go.RowKit

/-- At a place where a part may begin: a part begins just if there is a token that is no end of parts. -/
theorem pt_iff {T : Nat → Tn} {n i : Nat} (hf : fitT T n) (hs : startOk T n i) : ptK (nxK T n i) = true ↔ i < n ∧ (T i).k ≠ 2 ∧ (T i).k ≠ 4 := by
  unfold nxK
  by_cases hlt : i < n
  · rw [if_pos hlt]
    have h1 := hf.w.1 i hlt
    have h5 := hs hlt
    unfold ptK
    simp
    omega
  · rw [if_neg hlt]
    exact ⟨fun h => absurd h (by decide), fun h => absurd h.1 hlt⟩

set_option maxRecDepth 100000 in
set_option maxHeartbeats 4000000 in
theorem crow_of (T : Nat → Tn) (n m B b off : Nat) (e : Nat → List Nd × Nat) (hn : n ≤ 1000) (hbB : 0 < n → b < B) (hfit : fitT T n) (hk : eOk n m e) (hl : eLeaf T n m e)
    (hP : ∀ a, m ≤ a + 1 → a < n → ptK (T a).k = true → ∀ L w, rdTn w b off n T → bld w B b off n a L → Calls Tryz.prog 51 #[.pointer (some ⟨B, 0, none⟩)] w (bPost B b off n (partF T n e a).2 (L ++ (partF T n e a).1) w))
    (a : Nat) (h1 : m ≤ a + 1) (hs : startOk T n a) (L : List Nd) (w : World) (hr : rdTn w b off n T) (hb : bld w B b off n a L) :
    Calls Tryz.prog 31 #[.pointer (some ⟨B, 0, none⟩)] w (bPost B b off n (bhF T n e a).2 (L ++ (bhF T n e a).1) w) := by
  have S := Lib.hid (small_any T n B b off hn)
  have HP := Lib.hid hP
  have HR := Lib.hid hr
  have HBB := Lib.hid hbB
  have HQ := Lib.hid (S.out.partNext a L w hr hb)
  have hB := hb.lt
  have HF := Lib.hid hfit
  -- a part, where one begins
  have HG : Hid (∀ i, m ≤ i + 1 → i < n ∧ (T i).k ≠ 2 ∧ (T i).k ≠ 4 → startOk T n i → startOk T n (partF T n e i).2 ∧ i + 1 ≤ (partF T n e i).2) := Lib.hid fun i h1 hc hs =>
    ⟨(partF_leaf hfit.w hk hl h1 hc.1 hc.2.1 hc.2.2 (hs hc.1)).1, (partF_bd (T := T) hk h1 hc.1).1⟩
  have hale := hb.le
  obtain ⟨R, hR⟩ : ∃ R, bhF T n e a = R := ⟨_, rfl⟩
  rw [hR]
  have HR0 : Hid (behL T n e (n + 2) a [] 0 = R) := Lib.hid hR
  have HB0 := Lib.hid hb
  have HS := Lib.hid hs
  obtain ⟨A, hA⟩ : ∃ A, ptK (nxK T n a) = A := ⟨_, rfl⟩
  have hAi := pt_iff hfit hs
  rw [hA] at HQ hAi
  clear hP hr hbB hb hR hfit hk hl hs hA
  cases A
  · have HE : Hid (R = ([nd0 2], a)) := Lib.hid (by
      rw [← HR0.out]; unfold behL
      rw [if_neg (c := a < n ∧ (T a).k ≠ 2 ∧ (T a).k ≠ 4) (fun h => absurd (hAi.2 h) (by simp))]; rfl)
    clear hAi
    go_enter Tryz.func31, Tryz.ntmps31
    go_wp2_with fail
    refine HQ.out.mono ?_
    rintro e1 w1 ⟨rfl, rfl⟩
    go_wp2_with fail
    refine (put_any (nd0 2) n B b off a L _ HB0.out).mono ?_
    rintro e2 w2 ⟨rfl, hb2, hl2⟩
    have HL2 := Lib.hid hl2; have HB2 := Lib.hid hb2
    clear hb2 hl2
    go_wp2
    go_returns
    exact ⟨rfl, HB2.out, by rw [HE.out]; exact HL2.out⟩
  · have hgo := hAi.1 rfl
    have HGO := Lib.hid hgo
    have HPK : Hid (ptK (T a).k = true) := Lib.hid (by have := hAi.2 hgo; have h3 := (pt_iff HF.out HS.out).2 hgo; unfold nxK at h3; rwa [if_pos hgo.1] at h3)
    have hlt := hgo.1
    clear hAi hgo
    go_enter Tryz.func31, Tryz.ntmps31
    go_wp2_with fail
    refine HQ.out.mono ?_
    rintro e1 w1 ⟨rfl, rfl⟩
    clear HQ
    go_wp2_with fail
    refine (HP.out a h1 hlt HPK.out L _ HR.out HB0.out).mono ?_
    rintro e2 w2 ⟨rfl, hb2, hl2⟩
    have HI : Hid (∃ (i u many : Nat) (acc : List Nd), Below B w1 w2 ∧ bld w2 B b off n i (L ++ acc) ∧ startOk T n i ∧ m ≤ i + 1 ∧ 0 < many ∧ Hid (behL T n e u i acc many = R ∧ n + 2 ≤ u + i)) :=
      Lib.hid ⟨(partF T n e a).2, n + 1, 1, (partF T n e a).1, hb2, hl2, (HG.out a h1 HGO.out HS.out).1, by have := (HG.out a h1 HGO.out HS.out).2; omega, by omega, Lib.hid ⟨by
        rw [← HR0.out]; conv => rhs; unfold behL
        rw [if_pos (c := a < n ∧ (T a).k ≠ 2 ∧ (T a).k ≠ 4) HGO.out]; simp, by have := (HG.out a h1 HGO.out HS.out).2; omega⟩⟩
    clear hb2 hl2 HB0 HPK HGO HR0 HS
    go_wp2_with fail
    go_loopw [] (fun wr => ∃ (i u many : Nat) (acc : List Nd), Below B w1 wr ∧ bld wr B b off n i (L ++ acc) ∧ startOk T n i ∧ m ≤ i + 1 ∧ 0 < many ∧ Hid (behL T n e u i acc many = R ∧ n + 2 ≤ u + i)) (fun wr => restLen B wr)
    case atStart => exact HI.out
    case round =>
      obtain ⟨i, u, many, acc, hW, hK, hs, q1, q2, hh⟩ := hrel
      clear HI
      have HQ := Lib.hid (S.out.partNext i (L ++ acc) wr (HR.out.belowB hW HBB.out) hK)
      have hile := hK.le
      have HS0 := Lib.hid hK.rest
      have hBr := hK.lt
      have hAi := pt_iff HF.out hs
      obtain ⟨A, hA⟩ : ∃ A, ptK (nxK T n i) = A := ⟨_, rfl⟩
      rw [hA] at HQ hAi
      have HW := Lib.hid hW; have HK := Lib.hid hK
      cases A
      · have HE : Hid (R = (acc, i)) := Lib.hid (by
          obtain ⟨y1, y2⟩ := hh.out
          obtain ⟨u', rfl⟩ : ∃ u', u = u' + 1 := ⟨u - 1, by omega⟩
          rw [← y1]; unfold behL
          rw [if_neg (c := i < n ∧ (T i).k ≠ 2 ∧ (T i).k ≠ 4) (fun h => absurd (hAi.2 h) (by simp)), if_neg (by omega)])
        clear hh hW hK hAi hA hs
        go_wp2_with fail
        refine HQ.out.mono ?_
        rintro e5 w5 ⟨rfl, rfl⟩
        clear HQ
        go_wp2
        go_returns
        exact ⟨rfl, HW.out, by rw [HE.out]; exact HK.out⟩
      · have hgo := hAi.1 rfl
        have HPK : Hid (ptK (T i).k = true) := Lib.hid (by unfold nxK at hA; rwa [if_pos hgo.1] at hA)
        have HG1 := Lib.hid (HG.out i q1 hgo hs)
        have HE5 : Hid (∃ u', behL T n e u' (partF T n e i).2 (acc ++ (partF T n e i).1 ++ [nd0 5]) (many + 1) = R ∧ n + 2 ≤ u' + (partF T n e i).2) := Lib.hid (by
          obtain ⟨y1, y2⟩ := hh.out
          obtain ⟨u', rfl⟩ : ∃ u', u = u' + 1 := ⟨u - 1, by omega⟩
          refine ⟨u', ?_, by have := HG1.out.2; omega⟩
          rw [← y1]; conv => rhs; unfold behL
          rw [if_pos (c := i < n ∧ (T i).k ≠ 2 ∧ (T i).k ≠ 4) hgo, if_neg (show ¬ many = 0 by omega)])
        have hlt := hgo.1
        clear hh hW hK hAi hA hs hgo
        go_wp2_with fail
        refine HQ.out.mono ?_
        rintro e5 w5 ⟨rfl, rfl⟩
        clear HQ
        go_wp2_with fail
        refine (HP.out i q1 hlt HPK.out (L ++ acc) _ (HR.out.belowB HW.out HBB.out) HK.out).mono ?_
        rintro e6 w6 ⟨rfl, hb6, hl6⟩
        have HB6 := Lib.hid (HW.out.trans hb6); have HL6 := Lib.hid hl6
        clear hb6 hl6 HW HK
        go_wp2_with fail
        refine (put_any (nd0 5) n B b off (partF T n e i).2 _ _ HL6.out).mono ?_
        rintro e7 w7 ⟨rfl, hb7, hl7⟩
        have HB7 := Lib.hid (HB6.out.trans hb7); have HL7 := Lib.hid hl7
        clear hb7 hl7 HB6 HL6
        go_wp2
        go_roundw
        case rel =>
          obtain ⟨u', y1, y2⟩ := HE5.out
          exact ⟨(partF T n e i).2, u', many + 1, acc ++ (partF T n e i).1 ++ [nd0 5], HB7.out, by have := HL7.out; simpa using this, HG1.out.1, by have := HG1.out.2; omega, by omega, Lib.hid ⟨y1, y2⟩⟩
        case measure => rw [HL7.out.rest, HS0.out]; have := HG1.out.2; omega
end Go.Proofs.YtiahgcgpakgeeaaGreatDoor

namespace Go.Proofs.YtiahgcgpakgeeaaGreatDoor
open Go.RowKit

set_option maxRecDepth 100000 in
set_option maxHeartbeats 4000000 in
theorem ceither_of (T : Nat → Tn) (n m B b off : Nat) (e : Nat → List Nd × Nat) (hn : n ≤ 1000) (hbB : 0 < n → b < B) (hfit : fitT T n) (hk : eOk n m e)
    (hP : ∀ a, m ≤ a + 1 → startOk T n a → ∀ L w, rdTn w b off n T → bld w B b off n a L → Calls Tryz.prog 31 #[.pointer (some ⟨B, 0, none⟩)] w (bPost B b off n (bhF T n e a).2 (L ++ (bhF T n e a).1) w))
    (a : Nat) (h1 : m ≤ a + 1) (hs : startOk T n a) (L : List Nd) (w : World) (hr : rdTn w b off n T) (hb : bld w B b off n a L) :
    Calls Tryz.prog 18 #[.pointer (some ⟨B, 0, none⟩)] w (bPost B b off n (eiF T n e a).2 (L ++ (eiF T n e a).1) w) := by
  have S := Lib.hid (small_any T n B b off hn)
  have HP := Lib.hid hP
  have HR := Lib.hid hr
  have HBB := Lib.hid hbB
  have HQ := Lib.hid (hP a h1 hs L w hr hb)
  have hB := hb.lt
  have hale := hb.le
  -- choices, where there are more
  have HG : Hid (∀ i, m ≤ i + 1 → i < n ∧ (T i).k = 2 → startOk T n (i + 1) ∧ i + 1 ≤ (bhF T n e (i + 1)).2) := Lib.hid fun i h1 hc =>
    ⟨hfit.w.start (.inr (.inl (by simpa using hc.2))), (bhF_bd (T := T) hk (i + 1) (by omega) (by omega)).1⟩
  have hge := (bhF_bd (T := T) hk a h1 hale).1
  obtain ⟨R, hR⟩ : ∃ R, eiF T n e a = R := ⟨_, rfl⟩
  rw [hR]
  have HR0 : Hid (eiL T n e (n + 2) (bhF T n e a).2 (bhF T n e a).1 = R) := Lib.hid hR
  clear hP hr hbB hb hR hfit hk hs
  go_enter Tryz.func18, Tryz.ntmps18
  go_wp2_with fail
  refine HQ.out.mono ?_
  rintro e1 w1 ⟨rfl, hb1, hl1⟩
  have HI : Hid (∃ (i u : Nat) (acc : List Nd), Below B w w1 ∧ bld w1 B b off n i (L ++ acc) ∧ m ≤ i + 1 ∧ Hid (eiL T n e u i acc = R ∧ n + 1 ≤ u + i)) :=
    Lib.hid ⟨(bhF T n e a).2, n + 2, (bhF T n e a).1, hb1, hl1, by omega, Lib.hid ⟨HR0.out, by omega⟩⟩
  clear hb1 hl1 HQ HR0
  go_wp2_with fail
  go_loopw [] (fun wr => ∃ (i u : Nat) (acc : List Nd), Below B w wr ∧ bld wr B b off n i (L ++ acc) ∧ m ≤ i + 1 ∧ Hid (eiL T n e u i acc = R ∧ n + 1 ≤ u + i)) (fun wr => restLen B wr)
  case atStart => exact HI.out
  case round =>
    obtain ⟨i, u, acc, hW, hK, q1, hh⟩ := hrel
    clear HI
    have HQ := Lib.hid (S.out.next i (L ++ acc) wr (HR.out.belowB hW HBB.out) hK)
    have hile := hK.le
    have HS0 := Lib.hid hK.rest
    have hBr := hK.lt
    obtain ⟨x, hx⟩ : ∃ x, nxK T n i = x := ⟨_, rfl⟩
    rw [hx] at HQ
    by_cases h5 : x = 2
    · subst h5
      have hin : i < n ∧ (T i).k = 2 := by
        unfold nxK at hx
        by_cases hlt : i < n
        · rw [if_pos hlt] at hx; exact ⟨hlt, hx⟩
        · rw [if_neg hlt] at hx; exact absurd hx (by omega)
      have HG1 := Lib.hid (HG.out i q1 hin)
      have HE5 : Hid (∃ u', eiL T n e u' (bhF T n e (i + 1)).2 (acc ++ (bhF T n e (i + 1)).1 ++ [nd0 6]) = R ∧ n + 1 ≤ u' + (bhF T n e (i + 1)).2) := Lib.hid (by
        obtain ⟨y1, y2⟩ := hh.out
        obtain ⟨u', rfl⟩ : ∃ u', u = u' + 1 := ⟨u - 1, by omega⟩
        refine ⟨u', ?_, by have := HG1.out.2; omega⟩
        rw [← y1]; conv => rhs; unfold eiL
        rw [if_pos hin])
      have HTi := Lib.hid (S.out.take i (L ++ acc) wr hin.1 (HR.out.belowB hW HBB.out) hK)
      have HW := Lib.hid hW
      have hlt := hin.1
      clear hx hin hh hW hK
      go_wp2_with fail
      refine HQ.out.mono ?_
      rintro e5 w5 ⟨rfl, rfl⟩
      clear HQ
      go_wp2_with fail
      refine HTi.out.mono ?_
      rintro e6 w6 ⟨rfl, hb6, hl6⟩
      have HB6 := Lib.hid (HW.out.trans hb6); have HL6 := Lib.hid hl6
      have hB6 := hl6.lt
      clear hb6 hl6 HTi HW
      unfold tnv
      go_wp2_with fail
      refine (HP.out (i + 1) (by omega) HG1.out.1 _ _ (HR.out.belowB HB6.out HBB.out) HL6.out).mono ?_
      rintro e7 w7 ⟨rfl, hb7, hl7⟩
      have HB7 := Lib.hid (HB6.out.trans hb7); have HL7 := Lib.hid hl7
      clear hb7 hl7 HB6 HL6
      go_wp2_with fail
      refine (put_any (nd0 6) n B b off _ _ _ HL7.out).mono ?_
      rintro e8 w8 ⟨rfl, hb8, hl8⟩
      have HB8 := Lib.hid (HB7.out.trans hb8); have HL8 := Lib.hid hl8
      clear hb8 hl8 HB7 HL7
      go_wp2
      go_roundw
      case rel =>
        obtain ⟨u', y1, y2⟩ := HE5.out
        exact ⟨(bhF T n e (i + 1)).2, u', acc ++ (bhF T n e (i + 1)).1 ++ [nd0 6], HB8.out, by have := HL8.out; simpa using this, by have := HG1.out.2; omega, Lib.hid ⟨y1, y2⟩⟩
      case measure => rw [HL8.out.rest, HS0.out]; have := HG1.out.2; omega
    · have d5 : (x == 2) = false := beq_eq_false_iff_ne.2 h5
      have HE : Hid (R = (acc, i)) := Lib.hid (by
        obtain ⟨y1, y2⟩ := hh.out
        obtain ⟨u', rfl⟩ : ∃ u', u = u' + 1 := ⟨u - 1, by omega⟩
        have hn5 : ¬ (i < n ∧ (T i).k = 2) := fun hc => h5 (by rw [← hx]; unfold nxK; rw [if_pos hc.1]; exact hc.2)
        rw [← y1]; unfold eiL
        rw [if_neg hn5])
      have HW := Lib.hid hW; have HK := Lib.hid hK
      clear hh hx hW hK h5
      go_wp2_with fail
      refine HQ.out.mono ?_
      rintro e5 w5 ⟨rfl, rfl⟩
      clear HQ
      go_wp2
      go_returns
      exact ⟨rfl, HW.out, by rw [HE.out]; exact HK.out⟩

theorem ceither_any (T : Nat → Tn) (n B b off : Nat) (hn : n ≤ 1000) (hbB : 0 < n → b < B) (hfit : fitT T n) : ∀ u a, n + 1 ≤ a + u → a ≤ n → startOk T n a → ∀ L w, rdTn w b off n T → bld w B b off n a L →
    Calls Tryz.prog 18 #[.pointer (some ⟨B, 0, none⟩)] w (bPost B b off n (ei T n u a).2 (L ++ (ei T n u a).1) w) := by
  intro u
  induction u with
  | zero => intro a h1 h2; omega
  | succ u ih =>
    intro a h1 h2 hs L w hr hb
    have hk := ei_ok T n u
    have hl := ei_leaf hfit.w u
    have hc := ei_cnt hfit.w u
    exact ceither_of T n (n + 1 - u) B b off (ei T n u) hn hbB hfit hk
      (fun a ha hs L w hr hb => crow_of T n (n + 1 - u) B b off (ei T n u) hn hbB hfit hk hl
        (fun a ha hlt hp L w hr hb => cpart_of T n (n + 1 - u) B b off (ei T n u) hn hbB hfit hl hc (fun a ha hle hs L w hr hb => ih a (by omega) hle hs L w hr hb) a ha hlt hp L w hr hb) a ha hs L w hr hb)
      a (by omega) hs L w hr hb
end Go.Proofs.YtiahgcgpakgeeaaGreatDoor
