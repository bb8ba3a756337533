/-
  The walk of EqualTells: what tells two automata apart is accepted by just one of them, and no beginning of it tells them apart.
-/
import Derived.Test.YtefpoapbodbenaaPk40
import Derived.Test.YtefpoapbodbenaaPk19
import Derived.Deep.RegionHeldLaw
namespace Go.Proofs.Ytefpoapbodbenaa
open Go.RowKit

set_option maxRecDepth 100000 in
set_option maxHeartbeats 16000000 in
theorem etells14 (hA : ∀ w, Calls Try.prog 6 #[] w fun e w' => e = .returned (.bool true) ∧ Below w.heap.size w w') (hP : AptD) (hAc : AccD)
    (q0 : Option Addr) (c0 : Nat) (q1 : Option Addr) (c1 : Nat) (q2 : Option Addr) (c2 : Nat) (q0' : Option Addr) (c0' : Nat) (q1' : Option Addr) (c1' : Nat) (q2' : Option Addr) (c2' : Nat) (x y : Da)  (w : World)
    (hd : daAt w (dfV q0 x.n0 c0 x.wd x.st q1 x.n1 c1 q2 x.n2 c2) x) (hd' : daAt w (dfV q0' y.n0 c0' y.wd y.st q1' y.n1 c1' q2' y.n2 c2') y) :
    Calls Try.prog 4 #[dfV q0 x.n0 c0 x.wd x.st q1 x.n1 c1 q2 x.n2 c2, dfV q0' y.n0 c0' y.wd y.st q1' y.n1 c1' q2' y.n2 c2'] w fun e w' => e = .returned (.bool true) ∧ Below w.heap.size w w' := by
  obtain ⟨D, hD⟩ : ∃ D, w.heap.size = D := ⟨_, rfl⟩
  obtain ⟨W1, hW1⟩ : ∃ W1, (w.alloc (.cells #[.slice q0 x.n0 c0, .int .i64 x.wd, .int .i64 x.st, .slice q1 x.n1 c1, .slice q2 x.n2 c2] 25)).alloc (.cells #[.slice q0' y.n0 c0', .int .i64 y.wd, .int .i64 y.st, .slice q1' y.n1 c1', .slice q2' y.n2 c2'] 25) = W1 := ⟨_, rfl⟩
  have hb1 : Below D w W1 := hW1 ▸ hD ▸ (((Below.refl _ _).alloc (Nat.le_refl _) _).alloc (by rw [World.size_alloc]; omega) _)
  have hz1 : W1.heap.size = D + 2 := by rw [← hW1, World.size_alloc, World.size_alloc, hD]
  have hk1 : isDf W1 D q0 x.n0 c0 x.wd x.st q1 x.n1 c1 q2 x.n2 c2 := by
    rw [← hW1, ← hD]
    exact (Below.heap_alloc (w.alloc _) _ w.heap.size (by rw [World.size_alloc]; omega)).trans (heap_alloc_new w _)
  have hk2 : isDf W1 (D + 1) q0' y.n0 c0' y.wd y.st q1' y.n1 c1' q2' y.n2 c2' := by
    rw [← hW1, ← hD, show w.heap.size + 1 = (w.alloc (.cells #[.slice q0 x.n0 c0, .int .i64 x.wd, .int .i64 x.st, .slice q1 x.n1 c1, .slice q2 x.n2 c2] 25)).heap.size by rw [World.size_alloc]]
    exact heap_alloc_new _ _
  have HDA : Hid (∀ w', Below (D + 2) W1 w' → daAt w' (dfV q0 x.n0 c0 x.wd x.st q1 x.n1 c1 q2 x.n2 c2) x) := Lib.hid fun w' h => hd.below (hD.symm ▸ hb1.trans (h.mono (by omega)))
  have HDB : Hid (∀ w', Below (D + 2) W1 w' → daAt w' (dfV q0' y.n0 c0' y.wd y.st q1' y.n1 c1' q2' y.n2 c2') y) := Lib.hid fun w' h => hd'.below (hD.symm ▸ hb1.trans (h.mono (by omega)))
  have HK : Hid (∀ w', Below (D + 2) W1 w' → w'.cell? ⟨D, 0, none⟩ = some (.slice q0 x.n0 c0) ∧ w'.cell? ⟨D, 1, none⟩ = some (.int .i64 x.wd) ∧ w'.cell? ⟨D, 2, none⟩ = some (.int .i64 x.st) ∧ w'.cell? ⟨D, 3, none⟩ = some (.slice q1 x.n1 c1) ∧ w'.cell? ⟨D, 4, none⟩ = some (.slice q2 x.n2 c2) ∧ w'.cell? ⟨D + 1, 0, none⟩ = some (.slice q0' y.n0 c0') ∧ w'.cell? ⟨D + 1, 1, none⟩ = some (.int .i64 y.wd) ∧ w'.cell? ⟨D + 1, 2, none⟩ = some (.int .i64 y.st) ∧ w'.cell? ⟨D + 1, 3, none⟩ = some (.slice q1' y.n1 c1') ∧ w'.cell? ⟨D + 1, 4, none⟩ = some (.slice q2' y.n2 c2')) := Lib.hid fun w' h => by
    obtain ⟨y0, y1, y2, y3, y4⟩ := (hk1.below h (by omega)).cells
    obtain ⟨z0, z1, z2, z3, z4⟩ := (hk2.below h (by omega)).cells
    exact ⟨y0, y1, y2, y3, y4, z0, z1, z2, z3, z4⟩
  have HF : Hid (∀ w', Below (D + 2) W1 w' → Below w.heap.size w w') := Lib.hid fun w' h => by rw [hD]; exact hb1.trans (h.mono (by omega))
  have HSZ : Hid (∀ w' w'', Below (D + 2) W1 w' → Below w'.heap.size w' w'' → Below (D + 2) W1 w'') := Lib.hid fun w' w'' h h' => h.trans (h'.mono (by have := h.size; omega))
  have HAw := Lib.hid hA; have HW1 := Lib.hid hW1; have HZ := Lib.hid hz1
  have HSm := Lib.hid (fun w => small14 q0 x.n0 c0 x.wd x.st q1 x.n1 c1 q2 x.n2 c2 w)
  have HSn := Lib.hid (fun w => small14 q0' y.n0 c0' y.wd y.st q1' y.n1 c1' q2' y.n2 c2' w)
  cases hsm : (decide ((x.n2 : Int) ≤ 10) && decide ((x.n1 : Int) ≤ 3000) && decide ((x.n0 : Int) ≤ 300))
  · rw [hsm] at HSm
    clear hW1 hb1 hz1 hk1 hk2 hd hd' hA hP hAc hsm HSn
    go_enter Try.func4, Try.ntmps4
    go_upto_region 1 with (fail)
    rw [HW1.out]
    clear hD
    go_wp2_with fail
    refine (HAw.out _).mono ?_
    rintro e w2 ⟨rfl, hb2⟩
    have HB2 : Hid (Below (D + 2) W1 w2) := Lib.hid (HZ.out ▸ hb2)
    obtain ⟨y0, y1, y2, y3, y4, z0, z1, z2, z3, z4⟩ := HK.out _ HB2.out
    clear hb2
    go_wp2_with fail
    refine (HSm.out _).mono ?_
    rintro e w3 ⟨rfl, hb3⟩
    have HB3 : Hid (Below (D + 2) W1 w3) := Lib.hid (HSZ.out _ _ HB2.out hb3)
    clear hb3 y0 y1 y2 y3 y4 z0 z1 z2 z3 z4 HSm HAw HB2
    go_wp2_with fail
    go_returns
    exact ⟨rfl, HF.out _ HB3.out⟩
  rw [hsm] at HSm
  have hs3 : x.n2 ≤ 10 ∧ x.n1 ≤ 3000 ∧ x.n0 ≤ 300 := by
    simp only [Bool.and_eq_true, decide_eq_true_eq] at hsm
    omega
  cases hsn : (decide ((y.n2 : Int) ≤ 10) && decide ((y.n1 : Int) ≤ 3000) && decide ((y.n0 : Int) ≤ 300))
  · rw [hsn] at HSn
    clear hW1 hb1 hz1 hk1 hk2 hd hd' hA hP hAc hsm hsn hs3
    go_enter Try.func4, Try.ntmps4
    go_upto_region 1 with (fail)
    rw [HW1.out]
    clear hD
    go_wp2_with fail
    refine (HAw.out _).mono ?_
    rintro e w2 ⟨rfl, hb2⟩
    have HB2 : Hid (Below (D + 2) W1 w2) := Lib.hid (HZ.out ▸ hb2)
    obtain ⟨y0, y1, y2, y3, y4, z0, z1, z2, z3, z4⟩ := HK.out _ HB2.out
    clear hb2
    go_wp2_with fail
    refine (HSm.out _).mono ?_
    rintro e w3 ⟨rfl, hb3⟩
    have HB3 : Hid (Below (D + 2) W1 w3) := Lib.hid (HSZ.out _ _ HB2.out hb3)
    clear hb3 y0 y1 y2 y3 y4 z0 z1 z2 z3 z4 HSm HAw HB2
    obtain ⟨y0, y1, y2, y3, y4, z0, z1, z2, z3, z4⟩ := HK.out _ HB3.out
    go_wp2_with fail
    refine (HSn.out _).mono ?_
    rintro e w4 ⟨rfl, hb4⟩
    have HB4 : Hid (Below (D + 2) W1 w4) := Lib.hid (HSZ.out _ _ HB3.out hb4)
    clear hb4 y0 y1 y2 y3 y4 z0 z1 z2 z3 z4 HSn
    go_wp2_with fail
    go_returns
    exact ⟨rfl, HF.out _ HB4.out⟩
  rw [hsn] at HSn
  have hs4 : y.n2 ≤ 10 ∧ y.n1 ≤ 3000 ∧ y.n0 ≤ 300 := by
    simp only [Bool.and_eq_true, decide_eq_true_eq] at hsn
    omega
  have hsx : smD x := ⟨by omega, by omega, by omega⟩
  have hsy : smD y := ⟨by omega, by omega, by omega⟩
  have hm100 : x.n2 * y.n2 ≤ 100 := Nat.mul_le_mul hs3.1 hs4.1
  have hm100' : y.n2 * x.n2 ≤ 100 := Nat.mul_le_mul hs4.1 hs3.1
  have HXY := Lib.hid (fun w' (h : Below (D + 2) W1 w') => hP _ _ x y w' hsx hsy (HDA.out w' h) (HDB.out w' h))
  have HYX := Lib.hid (fun w' (h : Below (D + 2) W1 w') => hP _ _ y x w' hsy hsx (HDB.out w' h) (HDA.out w' h))
  have HAX := Lib.hid (fun q k cap l w' (hk : k ≤ 100) (h : Below (D + 2) W1 w') (hl : rdL w' q k l) => hAc _ x q k cap l w' hsx (by omega) (HDA.out w' h) hl)
  have HAY := Lib.hid (fun q k cap l w' (hk : k ≤ 100) (h : Below (D + 2) W1 w') (hl : rdL w' q k l) => hAc _ y q k cap l w' hsy (by omega) (HDB.out w' h) hl)
  have HM1 := Lib.hid hm100; have HM2 := Lib.hid hm100'
  clear hW1 hb1 hz1 hk1 hk2 hd hd' hA hP hAc hsm hsn hs3 hs4 hsx hsy hm100 hm100'
  go_enter Try.func4, Try.ntmps4
  go_upto_region 1 with (fail)
  rw [HW1.out]
  clear hD
  go_wp2_with fail
  refine (HAw.out _).mono ?_
  rintro e w2 ⟨rfl, hb2⟩
  have HB2 : Hid (Below (D + 2) W1 w2) := Lib.hid (HZ.out ▸ hb2)
  obtain ⟨y0, y1, y2, y3, y4, z0, z1, z2, z3, z4⟩ := HK.out _ HB2.out
  clear hb2
  go_wp2_with fail
  refine (HSm.out _).mono ?_
  rintro e w3 ⟨rfl, hb3⟩
  have HB3 : Hid (Below (D + 2) W1 w3) := Lib.hid (HSZ.out _ _ HB2.out hb3)
  clear hb3 y0 y1 y2 y3 y4 z0 z1 z2 z3 z4 HSm HAw HB2
  obtain ⟨y0, y1, y2, y3, y4, z0, z1, z2, z3, z4⟩ := HK.out _ HB3.out
  go_wp2_with fail
  refine (HSn.out _).mono ?_
  rintro e w4 ⟨rfl, hb4⟩
  have HB4 : Hid (Below (D + 2) W1 w4) := Lib.hid (HSZ.out _ _ HB3.out hb4)
  clear hb4 y0 y1 y2 y3 y4 z0 z1 z2 z3 z4 HSn HB3
  obtain ⟨y0, y1, y2, y3, y4, z0, z1, z2, z3, z4⟩ := HK.out _ HB4.out
  go_wp2_with fail
  refine (HXY.out _ HB4.out).mono ?_
  rintro e w5 ⟨hn5, hy5, hb5⟩
  have HB5 : Hid (Below (D + 2) W1 w5) := Lib.hid (HSZ.out _ _ HB4.out hb5)
  have HB45 := Lib.hid hb5
  clear hb5 y0 y1 y2 y3 y4 z0 z1 z2 z3 z4
  obtain ⟨y0, y1, y2, y3, y4, z0, z1, z2, z3, z4⟩ := HK.out _ HB5.out
  by_cases hxy : rgD x ∧ rgD y
  · obtain ⟨hx, hy⟩ := hxy
    have HX := Lib.hid hx; have HY := Lib.hid hy
    rcases hy5 hx hy with ⟨u, pt, cc, rfl, hr, hcap, hap, hul⟩ | ⟨rfl, hno⟩
    · have HR5 := Lib.hid hr; have HAP := Lib.hid hap
      have hu100 : u.length ≤ 100 := Nat.le_trans hul HM1.out
      clear hn5 hy5 hx hy hr hap hul
      go_wp2_with fail
      refine (HYX.out _ HB5.out).mono ?_
      rintro e w6 ⟨hn6, hy6, hb6⟩
      have HB6 : Hid (Below (D + 2) W1 w6) := Lib.hid (HSZ.out _ _ HB5.out hb6)
      rcases hy6 HY.out HX.out with ⟨v, pt', cc', rfl, hr', -, hap', -⟩ | ⟨rfl, hno⟩
      · obtain rfl : u = v := apW_one HAP.out (apW_symm hap')
        have HSA := Lib.hid (same10n pt u.length cc (wdF u) pt' u.length cc' (wdF u) true ⟨fun _ => ⟨rfl, fun _ _ => rfl⟩, fun _ => rfl⟩ (by unfold maxLen; omega) w6 (HR5.out.below hb6) hr')
        have HR6 := Lib.hid (HR5.out.below hb6)
        clear hn6 hy6 hr' hap' hb6 y0 y1 y2 y3 y4 z0 z1 z2 z3 z4 HR5
        have n0 : (0 : Int) ≤ (u.length : Int) := by omega
        have n1 : (u.length : Int) ≤ 100 := by omega
        go_wp2_with fail
        refine HSA.out.mono ?_
        rintro e w7 ⟨rfl, hb7⟩
        have HB7 : Hid (Below (D + 2) W1 w7) := Lib.hid (HSZ.out _ _ HB6.out hb7)
        have HR7 := Lib.hid (HR6.out.below hb7)
        obtain ⟨n, hn⟩ : ∃ n, u.length = n := ⟨_, rfl⟩
        have HNN := Lib.hid hn
        rw [hn] at hcap hu100 n0 n1 HR7 ⊢
        have hcc : (n : Int) ≤ (cc : Int) := by omega
        clear hb7 HSA HR6 hn
        go_wp2_with fail
        go_loopw [11] (fun iv wr => ∃ i : Nat, i ≤ n ∧ iv = .int .i64 i ∧ Hid (Below (D + 2) W1 wr) ∧ Hid (Below w7.heap.size w7 wr)) (fun iv _ => n - (intOf iv).toNat)
        case atStart => exact ⟨0, Nat.zero_le _, rfl, HB7, Lib.hid (Below.refl _ _)⟩
        case round =>
          obtain ⟨i, hi, rfl, HB, HBr⟩ := hrel
          obtain ⟨y0, y1, y2, y3, y4, z0, z1, z2, z3, z4⟩ := HK.out _ HB.out
          by_cases hlt : i < n
          · have i0 : (0 : Int) ≤ (i : Int) := by omega
            have i1 : (i : Int) < (n : Int) := by omega
            have i2 : (i : Int) ≤ (cc : Int) := by omega
            obtain ⟨t, ht⟩ : ∃ t, acD x (wdF u) i = t := ⟨_, rfl⟩
            have ht' : acD y (wdF u) i = t := by
              rw [← ht]
              exact (ap_begin HX.out HY.out HAP.out (l := wdF u) (fun j _ => rfl) (by rw [HNN.out]; exact hlt)).symm
            have HTX : Hid (∀ w', Below wr.heap.size wr w' → Calls Try.prog 14 #[.agg #[.slice q0 x.n0 c0, .int .i64 x.wd, .int .i64 x.st, .slice q1 x.n1 c1, .slice q2 x.n2 c2], .slice pt i cc] w' fun e w'' => e = .returned (.bool t) ∧ Below w'.heap.size w' w'') := Lib.hid fun w' h => by
              have := HAX.out pt i cc (wdF u) w' (by omega) (HSZ.out _ _ HB.out h) (fun j hj => ((HR7.out.below HBr.out).below h) j (by omega))
              rw [ht] at this
              exact this
            have HTY : Hid (∀ w', Below wr.heap.size wr w' → Calls Try.prog 14 #[.agg #[.slice q0' y.n0 c0', .int .i64 y.wd, .int .i64 y.st, .slice q1' y.n1 c1', .slice q2' y.n2 c2'], .slice pt i cc] w' fun e w'' => e = .returned (.bool t) ∧ Below w'.heap.size w' w'') := Lib.hid fun w' h => by
              have := HAY.out pt i cc (wdF u) w' (by omega) (HSZ.out _ _ HB.out h) (fun j hj => ((HR7.out.below HBr.out).below h) j (by omega))
              rw [ht'] at this
              exact this
            have hB : Below wr.heap.size wr wr.drew := (Below.refl _ _).drew
            have HKr : Hid (∀ w', Below wr.heap.size wr w' → w'.cell? ⟨D, 0, none⟩ = some (.slice q0 x.n0 c0) ∧ w'.cell? ⟨D, 1, none⟩ = some (.int .i64 x.wd) ∧ w'.cell? ⟨D, 2, none⟩ = some (.int .i64 x.st) ∧ w'.cell? ⟨D, 3, none⟩ = some (.slice q1 x.n1 c1) ∧ w'.cell? ⟨D, 4, none⟩ = some (.slice q2 x.n2 c2) ∧ w'.cell? ⟨D + 1, 0, none⟩ = some (.slice q0' y.n0 c0') ∧ w'.cell? ⟨D + 1, 1, none⟩ = some (.int .i64 y.wd) ∧ w'.cell? ⟨D + 1, 2, none⟩ = some (.int .i64 y.st) ∧ w'.cell? ⟨D + 1, 3, none⟩ = some (.slice q1' y.n1 c1') ∧ w'.cell? ⟨D + 1, 4, none⟩ = some (.slice q2' y.n2 c2')) := Lib.hid fun w' h => HK.out _ (HSZ.out _ _ HB.out h)
            clear ht ht' y0 y1 y2 y3 y4 z0 z1 z2 z3 z4
            go_wp2_with fail
            go_region_held_law (fun w' => w'.cell? ⟨D, 0, none⟩ = some (.slice q0 x.n0 c0) ∧ w'.cell? ⟨D, 1, none⟩ = some (.int .i64 x.wd) ∧ w'.cell? ⟨D, 2, none⟩ = some (.int .i64 x.st) ∧ w'.cell? ⟨D, 3, none⟩ = some (.slice q1 x.n1 c1) ∧ w'.cell? ⟨D, 4, none⟩ = some (.slice q2 x.n2 c2) ∧ w'.cell? ⟨D + 1, 0, none⟩ = some (.slice q0' y.n0 c0') ∧ w'.cell? ⟨D + 1, 1, none⟩ = some (.int .i64 y.wd) ∧ w'.cell? ⟨D + 1, 2, none⟩ = some (.int .i64 y.st) ∧ w'.cell? ⟨D + 1, 3, none⟩ = some (.slice q1' y.n1 c1') ∧ w'.cell? ⟨D + 1, 4, none⟩ = some (.slice q2' y.n2 c2'))
              (exact HKr.out _ hB)
              (first | (with_reducible refine (HTX.out _ hB).mono ?_; rintro e wa ⟨rfl, hba⟩; replace hB := hB.trans (hba.mono hB.size); clear hba) | (with_reducible refine (HTY.out _ hB).mono ?_; rintro e wa ⟨rfl, hba⟩; replace hB := hB.trans (hba.mono hB.size); clear hba))
            all_goals
              have HBn := Lib.hid (HSZ.out _ _ HB.out hB)
              have HBq := Lib.hid (HBr.out.trans (hB.mono HBr.out.size))
              clear hB HTX HTY HKr
              have htt : (t != t) = false := by cases t <;> rfl
              go_wp2_with fail
              go_roundw
              case rel => exact ⟨i + 1, by omega, by go_num, HBn, HBq⟩
              case measure => simp [intOf]; omega
          · obtain rfl : i = n := by omega
            obtain ⟨ta, hta⟩ : ∃ ta, acD x (wdF u) i = ta := ⟨_, rfl⟩
            obtain ⟨tb, htb⟩ : ∃ tb, acD y (wdF u) i = tb := ⟨_, rfl⟩
            have hne : ta ≠ tb := by
              rw [← hta, ← htb, ← HNN.out]
              exact ap_whole HX.out HY.out HAP.out (l := wdF u) (fun j _ => rfl)
            obtain rfl : tb = !ta := by cases ta <;> cases tb <;> simp_all
            have HTX : Hid (∀ w', Below wr.heap.size wr w' → Calls Try.prog 14 #[.agg #[.slice q0 x.n0 c0, .int .i64 x.wd, .int .i64 x.st, .slice q1 x.n1 c1, .slice q2 x.n2 c2], .slice pt i cc] w' fun e w'' => e = .returned (.bool ta) ∧ Below w'.heap.size w' w'') := Lib.hid fun w' h => by
              have := HAX.out pt i cc (wdF u) w' (by omega) (HSZ.out _ _ HB.out h) ((HR7.out.below HBr.out).below h)
              rw [hta] at this
              exact this
            have HTY : Hid (∀ w', Below wr.heap.size wr w' → Calls Try.prog 14 #[.agg #[.slice q0' y.n0 c0', .int .i64 y.wd, .int .i64 y.st, .slice q1' y.n1 c1', .slice q2' y.n2 c2'], .slice pt i cc] w' fun e w'' => e = .returned (.bool (!ta)) ∧ Below w'.heap.size w' w'') := Lib.hid fun w' h => by
              have := HAY.out pt i cc (wdF u) w' (by omega) (HSZ.out _ _ HB.out h) ((HR7.out.below HBr.out).below h)
              rw [htb] at this
              exact this
            have hB : Below wr.heap.size wr wr.drew := (Below.refl _ _).drew
            have HKr : Hid (∀ w', Below wr.heap.size wr w' → w'.cell? ⟨D, 0, none⟩ = some (.slice q0 x.n0 c0) ∧ w'.cell? ⟨D, 1, none⟩ = some (.int .i64 x.wd) ∧ w'.cell? ⟨D, 2, none⟩ = some (.int .i64 x.st) ∧ w'.cell? ⟨D, 3, none⟩ = some (.slice q1 x.n1 c1) ∧ w'.cell? ⟨D, 4, none⟩ = some (.slice q2 x.n2 c2) ∧ w'.cell? ⟨D + 1, 0, none⟩ = some (.slice q0' y.n0 c0') ∧ w'.cell? ⟨D + 1, 1, none⟩ = some (.int .i64 y.wd) ∧ w'.cell? ⟨D + 1, 2, none⟩ = some (.int .i64 y.st) ∧ w'.cell? ⟨D + 1, 3, none⟩ = some (.slice q1' y.n1 c1') ∧ w'.cell? ⟨D + 1, 4, none⟩ = some (.slice q2' y.n2 c2')) := Lib.hid fun w' h => HK.out _ (HSZ.out _ _ HB.out h)
            clear hta htb hne y0 y1 y2 y3 y4 z0 z1 z2 z3 z4
            cases ta
            all_goals
              go_upto_region 14 with (fail)
              go_region_held_law (fun w' => w'.cell? ⟨D, 0, none⟩ = some (.slice q0 x.n0 c0) ∧ w'.cell? ⟨D, 1, none⟩ = some (.int .i64 x.wd) ∧ w'.cell? ⟨D, 2, none⟩ = some (.int .i64 x.st) ∧ w'.cell? ⟨D, 3, none⟩ = some (.slice q1 x.n1 c1) ∧ w'.cell? ⟨D, 4, none⟩ = some (.slice q2 x.n2 c2) ∧ w'.cell? ⟨D + 1, 0, none⟩ = some (.slice q0' y.n0 c0') ∧ w'.cell? ⟨D + 1, 1, none⟩ = some (.int .i64 y.wd) ∧ w'.cell? ⟨D + 1, 2, none⟩ = some (.int .i64 y.st) ∧ w'.cell? ⟨D + 1, 3, none⟩ = some (.slice q1' y.n1 c1') ∧ w'.cell? ⟨D + 1, 4, none⟩ = some (.slice q2' y.n2 c2'))
                (exact HKr.out _ hB)
                (first | (with_reducible refine (HTX.out _ hB).mono ?_; rintro e wa ⟨rfl, hba⟩; replace hB := hB.trans (hba.mono hB.size); clear hba) | (with_reducible refine (HTY.out _ hB).mono ?_; rintro e wa ⟨rfl, hba⟩; replace hB := hB.trans (hba.mono hB.size); clear hba))
              all_goals
                have HBn := Lib.hid (HF.out _ (HSZ.out _ _ HB.out hB))
                clear hB HTX HTY HKr
                go_wp2_with fail
                go_returns
                exact ⟨rfl, HBn.out⟩
      · exact absurd (dfW_symm HAP.out.1) (hno u)
    · have HNO := Lib.hid hno
      clear hn5 hy5 hx hy hno
      go_wp2_with fail
      refine (HYX.out _ HB5.out).mono ?_
      rintro e w6 ⟨hn6, hy6, hb6⟩
      have HB6 : Hid (Below (D + 2) W1 w6) := Lib.hid (HSZ.out _ _ HB5.out hb6)
      rcases hy6 HY.out HX.out with ⟨v, pt', cc', rfl, hr', -, hap', -⟩ | ⟨rfl, hno⟩
      · exact absurd (dfW_symm hap'.1) (HNO.out v)
      · have HSA := Lib.hid (same10n none 0 0 (fun _ => 0) none 0 0 (fun _ => 0) true ⟨fun _ => ⟨rfl, fun _ _ => rfl⟩, fun _ => rfl⟩ (by unfold maxLen; omega) w6 (fun j hj => absurd hj (Nat.not_lt_zero _)) (fun j hj => absurd hj (Nat.not_lt_zero _)))
        clear hn6 hy6 hno hb6 y0 y1 y2 y3 y4 z0 z1 z2 z3 z4
        go_wp2_with fail
        refine HSA.out.mono ?_
        rintro e w7 ⟨rfl, hb7⟩
        have HB : Hid (Below (D + 2) W1 w7) := Lib.hid (HSZ.out _ _ HB6.out hb7)
        clear hb7 HSA
        go_wp2_with fail
        go_loopw [11] (fun iv wr => iv = .int .i64 0 ∧ wr = w7) (fun _ _ => 0)
        case atStart => exact ⟨rfl, rfl⟩
        case round =>
          obtain ⟨rfl, rfl⟩ := hrel
          obtain ⟨y0, y1, y2, y3, y4, z0, z1, z2, z3, z4⟩ := HK.out _ HB.out
          obtain ⟨t, ht⟩ : ∃ t, acD x (fun _ => 0) 0 = t := ⟨_, rfl⟩
          have ht' : acD y (fun _ => 0) 0 = t := by rw [← ht]; exact (acD_same HX.out HY.out HNO.out _ 0).symm
          have HTX : Hid (∀ w', Below wr.heap.size wr w' → Calls Try.prog 14 #[.agg #[.slice q0 x.n0 c0, .int .i64 x.wd, .int .i64 x.st, .slice q1 x.n1 c1, .slice q2 x.n2 c2], .slice none 0 0] w' fun e w'' => e = .returned (.bool t) ∧ Below w'.heap.size w' w'') := Lib.hid fun w' h => by
            have := HAX.out none 0 0 (fun _ => 0) w' (Nat.zero_le _) (HSZ.out _ _ HB.out h) (fun j hj => absurd hj (Nat.not_lt_zero _))
            rw [ht] at this
            exact this
          have HTY : Hid (∀ w', Below wr.heap.size wr w' → Calls Try.prog 14 #[.agg #[.slice q0' y.n0 c0', .int .i64 y.wd, .int .i64 y.st, .slice q1' y.n1 c1', .slice q2' y.n2 c2'], .slice none 0 0] w' fun e w'' => e = .returned (.bool t) ∧ Below w'.heap.size w' w'') := Lib.hid fun w' h => by
            have := HAY.out none 0 0 (fun _ => 0) w' (Nat.zero_le _) (HSZ.out _ _ HB.out h) (fun j hj => absurd hj (Nat.not_lt_zero _))
            rw [ht'] at this
            exact this
          have hB : Below wr.heap.size wr wr.drew := (Below.refl _ _).drew
          have HKr : Hid (∀ w', Below wr.heap.size wr w' → w'.cell? ⟨D, 0, none⟩ = some (.slice q0 x.n0 c0) ∧ w'.cell? ⟨D, 1, none⟩ = some (.int .i64 x.wd) ∧ w'.cell? ⟨D, 2, none⟩ = some (.int .i64 x.st) ∧ w'.cell? ⟨D, 3, none⟩ = some (.slice q1 x.n1 c1) ∧ w'.cell? ⟨D, 4, none⟩ = some (.slice q2 x.n2 c2) ∧ w'.cell? ⟨D + 1, 0, none⟩ = some (.slice q0' y.n0 c0') ∧ w'.cell? ⟨D + 1, 1, none⟩ = some (.int .i64 y.wd) ∧ w'.cell? ⟨D + 1, 2, none⟩ = some (.int .i64 y.st) ∧ w'.cell? ⟨D + 1, 3, none⟩ = some (.slice q1' y.n1 c1') ∧ w'.cell? ⟨D + 1, 4, none⟩ = some (.slice q2' y.n2 c2')) := Lib.hid fun w' h => HK.out _ (HSZ.out _ _ HB.out h)
          clear ht ht' y0 y1 y2 y3 y4 z0 z1 z2 z3 z4
          cases t
          all_goals
            go_upto_region 14 with (fail)
            go_region_held_law (fun w' => w'.cell? ⟨D, 0, none⟩ = some (.slice q0 x.n0 c0) ∧ w'.cell? ⟨D, 1, none⟩ = some (.int .i64 x.wd) ∧ w'.cell? ⟨D, 2, none⟩ = some (.int .i64 x.st) ∧ w'.cell? ⟨D, 3, none⟩ = some (.slice q1 x.n1 c1) ∧ w'.cell? ⟨D, 4, none⟩ = some (.slice q2 x.n2 c2) ∧ w'.cell? ⟨D + 1, 0, none⟩ = some (.slice q0' y.n0 c0') ∧ w'.cell? ⟨D + 1, 1, none⟩ = some (.int .i64 y.wd) ∧ w'.cell? ⟨D + 1, 2, none⟩ = some (.int .i64 y.st) ∧ w'.cell? ⟨D + 1, 3, none⟩ = some (.slice q1' y.n1 c1') ∧ w'.cell? ⟨D + 1, 4, none⟩ = some (.slice q2' y.n2 c2'))
              (exact HKr.out _ hB)
              (first | (with_reducible refine (HTX.out _ hB).mono ?_; rintro e wa ⟨rfl, hba⟩; replace hB := hB.trans (hba.mono hB.size); clear hba) | (with_reducible refine (HTY.out _ hB).mono ?_; rintro e wa ⟨rfl, hba⟩; replace hB := hB.trans (hba.mono hB.size); clear hba))
            all_goals
              have HBn := Lib.hid (HF.out _ (HSZ.out _ _ HB.out hB))
              clear hB HTX HTY HKr
              go_wp2_with fail
              go_returns
              exact ⟨rfl, HBn.out⟩
  · obtain rfl := hn5 hxy
    have HXY2 := Lib.hid hxy
    clear hn5 hy5 hxy
    go_wp2_with fail
    refine (HYX.out _ HB5.out).mono ?_
    rintro e w6 ⟨hn6, hy6, hb6⟩
    obtain rfl := hn6 fun h => HXY2.out ⟨h.2, h.1⟩
    have HB6 : Hid (Below (D + 2) W1 w6) := Lib.hid (HSZ.out _ _ HB5.out hb6)
    have HSA := Lib.hid (same10n none 0 0 (fun _ => 0) none 0 0 (fun _ => 0) true ⟨fun _ => ⟨rfl, fun _ _ => rfl⟩, fun _ => rfl⟩ (by unfold maxLen; omega) w6 (fun j hj => absurd hj (Nat.not_lt_zero _)) (fun j hj => absurd hj (Nat.not_lt_zero _)))
    clear hn6 hy6 hb6 y0 y1 y2 y3 y4 z0 z1 z2 z3 z4
    go_wp2_with fail
    refine HSA.out.mono ?_
    rintro e w7 ⟨rfl, hb7⟩
    have HB7 : Hid (Below w.heap.size w w7) := Lib.hid (HF.out _ (HSZ.out _ _ HB6.out hb7))
    clear hb7 HSA
    go_wp2_with fail
    go_returns
    exact ⟨rfl, HB7.out⟩
end Go.Proofs.Ytefpoapbodbenaa
