/-
  The walk of EqualApart: two automata are told apart by the page's symbols, or by nothing.
-/
import Derived.Test.YtefpoapbodbenaaPk40
import Derived.Test.YtefpoapbodbenaaPk41
import Derived.Test.YtefpoapbodbenaaPk42
import Derived.Test.YtefpoapbodbenaaPk19
import Derived.Test.YtefpoapbodbenaaPk11
namespace Go.Proofs.Ytefpoapbodbenaa
open Go.RowKit

set_option maxRecDepth 100000 in
set_option maxHeartbeats 16000000 in
theorem eapart14 (hA : ∀ w, Calls Try.prog 6 #[] w fun e w' => e = .returned (.bool true) ∧ Below w.heap.size w w') (hP : AptD) (hE : EmpD)
    (q0 : Option Addr) (c0 : Nat) (q1 : Option Addr) (c1 : Nat) (q2 : Option Addr) (c2 : Nat) (q0' : Option Addr) (c0' : Nat) (q1' : Option Addr) (c1' : Nat) (q2' : Option Addr) (c2' : Nat) (x y : Da)  (w : World)
    (hd : daAt w (dfV q0 x.n0 c0 x.wd x.st q1 x.n1 c1 q2 x.n2 c2) x) (hd' : daAt w (dfV q0' y.n0 c0' y.wd y.st q1' y.n1 c1' q2' y.n2 c2') y) :
    Calls Try.prog 3 #[dfV q0 x.n0 c0 x.wd x.st q1 x.n1 c1 q2 x.n2 c2, dfV q0' y.n0 c0' y.wd y.st q1' y.n1 c1' q2' y.n2 c2'] w fun e w' => e = .returned (.bool true) ∧ Below w.heap.size w w' := by
  obtain ⟨D, hD⟩ : ∃ D, w.heap.size = D := ⟨_, rfl⟩
  obtain ⟨W1, hW1⟩ : ∃ W1, (w.alloc (.cells #[.slice q0 x.n0 c0, .int .i64 x.wd, .int .i64 x.st, .slice q1 x.n1 c1, .slice q2 x.n2 c2] 25)).alloc (.cells #[.slice q0' y.n0 c0', .int .i64 y.wd, .int .i64 y.st, .slice q1' y.n1 c1', .slice q2' y.n2 c2'] 25) = W1 := ⟨_, rfl⟩
  have hb1 : Below D w W1 := hW1 ▸ hD ▸ (((Below.refl _ _).alloc (Nat.le_refl _) _).alloc (by rw [World.size_alloc]; omega) _)
  have hz1 : W1.heap.size = D + 2 := by rw [← hW1, World.size_alloc, World.size_alloc, hD]
  have hk1 : isDf W1 D q0 x.n0 c0 x.wd x.st q1 x.n1 c1 q2 x.n2 c2 := by
    rw [← hW1, ← hD]
    exact (Below.heap_alloc (w.alloc _) _ w.heap.size (by rw [World.size_alloc]; omega)).trans (heap_alloc_new w _)
  have hk2 : isDf W1 (D + 1) q0' y.n0 c0' y.wd y.st q1' y.n1 c1' q2' y.n2 c2' := by
    rw [← hW1, ← hD, show w.heap.size + 1 = (w.alloc (.cells #[.slice q0 x.n0 c0, .int .i64 x.wd, .int .i64 x.st, .slice q1 x.n1 c1, .slice q2 x.n2 c2] 25)).heap.size by rw [World.size_alloc]]
    exact heap_alloc_new _ _
  have HDA : Hid (∀ w', Below (D + 2) W1 w' → daAt w' (dfV q0 x.n0 c0 x.wd x.st q1 x.n1 c1 q2 x.n2 c2) x) := Lib.hid fun w' h => hd.below (hD.symm ▸ hb1.trans (h.mono (by omega)))
  have HDB : Hid (∀ w', Below (D + 2) W1 w' → daAt w' (dfV q0' y.n0 c0' y.wd y.st q1' y.n1 c1' q2' y.n2 c2') y) := Lib.hid fun w' h => hd'.below (hD.symm ▸ hb1.trans (h.mono (by omega)))
  have HK : Hid (∀ w', Below (D + 2) W1 w' → w'.cell? ⟨D, 0, none⟩ = some (.slice q0 x.n0 c0) ∧ w'.cell? ⟨D, 1, none⟩ = some (.int .i64 x.wd) ∧ w'.cell? ⟨D, 2, none⟩ = some (.int .i64 x.st) ∧ w'.cell? ⟨D, 3, none⟩ = some (.slice q1 x.n1 c1) ∧ w'.cell? ⟨D, 4, none⟩ = some (.slice q2 x.n2 c2) ∧ w'.cell? ⟨D + 1, 0, none⟩ = some (.slice q0' y.n0 c0') ∧ w'.cell? ⟨D + 1, 1, none⟩ = some (.int .i64 y.wd) ∧ w'.cell? ⟨D + 1, 2, none⟩ = some (.int .i64 y.st) ∧ w'.cell? ⟨D + 1, 3, none⟩ = some (.slice q1' y.n1 c1') ∧ w'.cell? ⟨D + 1, 4, none⟩ = some (.slice q2' y.n2 c2')) := Lib.hid fun w' h => by
    obtain ⟨y0, y1, y2, y3, y4⟩ := (hk1.below h (by omega)).cells
    obtain ⟨z0, z1, z2, z3, z4⟩ := (hk2.below h (by omega)).cells
    exact ⟨y0, y1, y2, y3, y4, z0, z1, z2, z3, z4⟩
  have HF : Hid (∀ w', Below (D + 2) W1 w' → Below w.heap.size w w') := Lib.hid fun w' h => by rw [hD]; exact hb1.trans (h.mono (by omega))
  have HSZ : Hid (∀ w' w'', Below (D + 2) W1 w' → Below w'.heap.size w' w'' → Below (D + 2) W1 w'') := Lib.hid fun w' w'' h h' => h.trans (h'.mono (by have := h.size; omega))
  have HAw := Lib.hid hA; have HW1 := Lib.hid hW1; have HZ := Lib.hid hz1
  have HSm := Lib.hid (fun w => small14 q0 x.n0 c0 x.wd x.st q1 x.n1 c1 q2 x.n2 c2 w)
  have HSn := Lib.hid (fun w => small14 q0' y.n0 c0' y.wd y.st q1' y.n1 c1' q2' y.n2 c2' w)
  cases hsm : (decide ((x.n2 : Int) ≤ 10) && decide ((x.n1 : Int) ≤ 3000) && decide ((x.n0 : Int) ≤ 300))
  · rw [hsm] at HSm
    clear hW1 hb1 hz1 hk1 hk2 hd hd' hA hP hE hsm HSn
    go_enter Try.func3, Try.ntmps3
    go_upto_region 1 with (fail)
    rw [HW1.out]
    clear hD
    go_wp2_with fail
    refine (HAw.out _).mono ?_
    rintro e w2 ⟨rfl, hb2⟩
    have HB2 : Hid (Below (D + 2) W1 w2) := Lib.hid (HZ.out ▸ hb2)
    obtain ⟨y0, y1, y2, y3, y4, z0, z1, z2, z3, z4⟩ := HK.out _ HB2.out
    clear hb2
    go_wp2_with fail
    refine (HSm.out _).mono ?_
    rintro e w3 ⟨rfl, hb3⟩
    have HB3 : Hid (Below (D + 2) W1 w3) := Lib.hid (HSZ.out _ _ HB2.out hb3)
    clear hb3 y0 y1 y2 y3 y4 z0 z1 z2 z3 z4 HSm HAw HB2
    go_wp2_with fail
    go_returns
    exact ⟨rfl, HF.out _ HB3.out⟩
  rw [hsm] at HSm
  have hs3 : x.n2 ≤ 10 ∧ x.n1 ≤ 3000 ∧ x.n0 ≤ 300 := by
    simp only [Bool.and_eq_true, decide_eq_true_eq] at hsm
    omega
  cases hsn : (decide ((y.n2 : Int) ≤ 10) && decide ((y.n1 : Int) ≤ 3000) && decide ((y.n0 : Int) ≤ 300))
  · rw [hsn] at HSn
    clear hW1 hb1 hz1 hk1 hk2 hd hd' hA hP hE hsm hsn hs3
    go_enter Try.func3, Try.ntmps3
    go_upto_region 1 with (fail)
    rw [HW1.out]
    clear hD
    go_wp2_with fail
    refine (HAw.out _).mono ?_
    rintro e w2 ⟨rfl, hb2⟩
    have HB2 : Hid (Below (D + 2) W1 w2) := Lib.hid (HZ.out ▸ hb2)
    obtain ⟨y0, y1, y2, y3, y4, z0, z1, z2, z3, z4⟩ := HK.out _ HB2.out
    clear hb2
    go_wp2_with fail
    refine (HSm.out _).mono ?_
    rintro e w3 ⟨rfl, hb3⟩
    have HB3 : Hid (Below (D + 2) W1 w3) := Lib.hid (HSZ.out _ _ HB2.out hb3)
    clear hb3 y0 y1 y2 y3 y4 z0 z1 z2 z3 z4 HSm HAw HB2
    obtain ⟨y0, y1, y2, y3, y4, z0, z1, z2, z3, z4⟩ := HK.out _ HB3.out
    go_wp2_with fail
    refine (HSn.out _).mono ?_
    rintro e w4 ⟨rfl, hb4⟩
    have HB4 : Hid (Below (D + 2) W1 w4) := Lib.hid (HSZ.out _ _ HB3.out hb4)
    clear hb4 y0 y1 y2 y3 y4 z0 z1 z2 z3 z4 HSn
    go_wp2_with fail
    go_returns
    exact ⟨rfl, HF.out _ HB4.out⟩
  rw [hsn] at HSn
  have hs4 : y.n2 ≤ 10 ∧ y.n1 ≤ 3000 ∧ y.n0 ≤ 300 := by
    simp only [Bool.and_eq_true, decide_eq_true_eq] at hsn
    omega
  have hsx : smD x := ⟨by omega, by omega, by omega⟩
  have hsy : smD y := ⟨by omega, by omega, by omega⟩
  have hm100 : x.n2 * y.n2 ≤ 100 := Nat.mul_le_mul hs3.1 hs4.1
  have HXY := Lib.hid (fun w' (h : Below (D + 2) W1 w') => hP _ _ x y w' hsx hsy (HDA.out w' h) (HDB.out w' h))
  have HEX := Lib.hid (fun w' (h : Below (D + 2) W1 w') => hE _ x w' hsx (HDA.out w' h))
  have HRX := Lib.hid (fun w' (h : Below (D + 2) W1 w') => rright12 _ x hsx.1 hsx.2.1 hsx.2.2 w' (HDA.out w' h))
  have HRY := Lib.hid (fun w' (h : Below (D + 2) W1 w') => rright12 _ y hsy.1 hsy.2.1 hsy.2.2 w' (HDB.out w' h))
  have HEM := Lib.hid (fun (hx : rgD x) w' (h : Below (D + 2) W1 w') => rem14 _ x hx hsx.2.1 hsx.2.2 w' (HDA.out w' h))
  have HRA := Lib.hid (fun (hx : rgD x) (hy : rgD y) w' (h : Below (D + 2) W1 w') => rap14 q0 c0 q1 c1 q2 c2 q0' c0' q1' c1' q2' c2' x y hx hy hsx.2.1 hsy.2.1 (by omega) w' (HDA.out w' h) (HDB.out w' h))
  have HM1 := Lib.hid hm100
  clear hW1 hb1 hz1 hk1 hk2 hd hd' hA hP hE hsm hsn hs3 hs4 hsx hsy hm100
  go_enter Try.func3, Try.ntmps3
  go_upto_region 1 with (fail)
  rw [HW1.out]
  clear hD
  go_wp2_with fail
  refine (HAw.out _).mono ?_
  rintro e w2 ⟨rfl, hb2⟩
  have HB2 : Hid (Below (D + 2) W1 w2) := Lib.hid (HZ.out ▸ hb2)
  obtain ⟨y0, y1, y2, y3, y4, z0, z1, z2, z3, z4⟩ := HK.out _ HB2.out
  clear hb2
  go_wp2_with fail
  refine (HSm.out _).mono ?_
  rintro e w3 ⟨rfl, hb3⟩
  have HB3 : Hid (Below (D + 2) W1 w3) := Lib.hid (HSZ.out _ _ HB2.out hb3)
  clear hb3 y0 y1 y2 y3 y4 z0 z1 z2 z3 z4 HSm HAw HB2
  obtain ⟨y0, y1, y2, y3, y4, z0, z1, z2, z3, z4⟩ := HK.out _ HB3.out
  go_wp2_with fail
  refine (HSn.out _).mono ?_
  rintro e w4 ⟨rfl, hb4⟩
  have HB4 : Hid (Below (D + 2) W1 w4) := Lib.hid (HSZ.out _ _ HB3.out hb4)
  clear hb4 y0 y1 y2 y3 y4 z0 z1 z2 z3 z4 HSn HB3
  obtain ⟨y0, y1, y2, y3, y4, z0, z1, z2, z3, z4⟩ := HK.out _ HB4.out
  go_wp2_with fail
  refine (HXY.out _ HB4.out).mono ?_
  rintro e w5 ⟨hn5, hy5, hb5⟩
  have HB5 : Hid (Below (D + 2) W1 w5) := Lib.hid (HSZ.out _ _ HB4.out hb5)
  clear hb5 y0 y1 y2 y3 y4 z0 z1 z2 z3 z4
  by_cases hx : rgD x
  · have HX := Lib.hid hx
    rw [rgB_yes hx] at HRX
    obtain ⟨eb, heb⟩ : ∃ eb, emB x = eb := ⟨_, rfl⟩
    have HEB := Lib.hid heb
    rw [heb] at HEM
    clear heb
    cases eb
    all_goals
      by_cases hy : rgD y
      · have HY := Lib.hid hy
        rw [rgB_yes hy] at HRY
        rcases hy5 hx hy with ⟨u, pt, cc, rfl, hr, -, hap, hul⟩ | ⟨rfl, hno⟩
        · have HR5 := Lib.hid hr; have HAP := Lib.hid hap
          have hu100 : u.length ≤ 100 := Nat.le_trans hul HM1.out
          clear hn5 hy5 hx hy hr hap hul
          obtain ⟨y0, y1, y2, y3, y4, z0, z1, z2, z3, z4⟩ := HK.out _ HB5.out
          go_wp2_with fail
          refine (HEX.out _ HB5.out).mono ?_
          rintro e w6 ⟨h6, -, hb6⟩
          obtain rfl := h6 HX.out
          have HB6 : Hid (Below (D + 2) W1 w6) := Lib.hid (HSZ.out _ _ HB5.out hb6)
          have HR6 := Lib.hid (HR5.out.below hb6)
          rw [HEB.out]
          clear h6 hb6 y0 y1 y2 y3 y4 z0 z1 z2 z3 z4 HR5
          obtain ⟨y0, y1, y2, y3, y4, z0, z1, z2, z3, z4⟩ := HK.out _ HB6.out
          go_wp2_with fail
          refine (HRX.out _ HB6.out).mono ?_
          rintro e w7 ⟨rfl, hb7⟩
          have HB7 : Hid (Below (D + 2) W1 w7) := Lib.hid (HSZ.out _ _ HB6.out hb7)
          have HR7 := Lib.hid (HR6.out.below hb7)
          clear hb7 y0 y1 y2 y3 y4 z0 z1 z2 z3 z4 HR6 HB6
          obtain ⟨y0, y1, y2, y3, y4, z0, z1, z2, z3, z4⟩ := HK.out _ HB7.out
          go_wp2_with fail
          refine (HEM.out HX.out _ HB7.out).mono ?_
          rintro e w8 ⟨rfl, hb8⟩
          have HB8 : Hid (Below (D + 2) W1 w8) := Lib.hid (HSZ.out _ _ HB7.out hb8)
          have HR8 := Lib.hid (HR7.out.below hb8)
          clear hb8 y0 y1 y2 y3 y4 z0 z1 z2 z3 z4 HR7 HB7
          obtain ⟨y0, y1, y2, y3, y4, z0, z1, z2, z3, z4⟩ := HK.out _ HB8.out
          go_wp2_with fail
          refine (HRY.out _ HB8.out).mono ?_
          rintro e w9 ⟨rfl, hb9⟩
          have HB9 : Hid (Below (D + 2) W1 w9) := Lib.hid (HSZ.out _ _ HB8.out hb9)
          have HR9 := Lib.hid (HR8.out.below hb9)
          clear hb9 y0 y1 y2 y3 y4 z0 z1 z2 z3 z4 HR8 HB8
          obtain ⟨y0, y1, y2, y3, y4, z0, z1, z2, z3, z4⟩ := HK.out _ HB9.out
          go_wp2_with fail
          refine (HRA.out HX.out HY.out _ HB9.out).mono ?_
          rintro e w10 ⟨h10, hb10⟩
          have HB10 : Hid (Below (D + 2) W1 w10) := Lib.hid (HSZ.out _ _ HB9.out hb10)
          rcases h10 with ⟨v, pt', cc', rfl, hr', hap'⟩ | ⟨rfl, hno⟩
          · obtain rfl : u = v := apW_one HAP.out hap'
            have HSA := Lib.hid (same10n pt u.length cc (wdF u) pt' u.length cc' (wdF u) true ⟨fun _ => ⟨rfl, fun _ _ => rfl⟩, fun _ => rfl⟩ (by unfold maxLen; omega) w10 (HR9.out.below hb10) hr')
            clear hb10 hr' hap' y0 y1 y2 y3 y4 z0 z1 z2 z3 z4 HR9
            go_wp2_with fail
            refine HSA.out.mono ?_
            rintro e w11 ⟨rfl, hb11⟩
            have HB11 : Hid (Below w.heap.size w w11) := Lib.hid (HF.out _ (HSZ.out _ _ HB10.out hb11))
            clear hb11 HSA
            go_wp2_with fail
            go_returns
            exact ⟨rfl, HB11.out⟩
          · exact absurd HAP.out.1 (hno u)
        · have HNO := Lib.hid hno
          have HR5 : Hid (rdL w5 none 0 (fun _ => 0)) := Lib.hid fun j hj => absurd hj (Nat.not_lt_zero _)
          clear hn5 hy5 hx hy hno
          obtain ⟨y0, y1, y2, y3, y4, z0, z1, z2, z3, z4⟩ := HK.out _ HB5.out
          go_wp2_with fail
          refine (HEX.out _ HB5.out).mono ?_
          rintro e w6 ⟨h6, -, hb6⟩
          obtain rfl := h6 HX.out
          have HB6 : Hid (Below (D + 2) W1 w6) := Lib.hid (HSZ.out _ _ HB5.out hb6)
          have HR6 := Lib.hid (HR5.out.below hb6)
          rw [HEB.out]
          clear h6 hb6 y0 y1 y2 y3 y4 z0 z1 z2 z3 z4 HR5
          obtain ⟨y0, y1, y2, y3, y4, z0, z1, z2, z3, z4⟩ := HK.out _ HB6.out
          go_wp2_with fail
          refine (HRX.out _ HB6.out).mono ?_
          rintro e w7 ⟨rfl, hb7⟩
          have HB7 : Hid (Below (D + 2) W1 w7) := Lib.hid (HSZ.out _ _ HB6.out hb7)
          have HR7 := Lib.hid (HR6.out.below hb7)
          clear hb7 y0 y1 y2 y3 y4 z0 z1 z2 z3 z4 HR6 HB6
          obtain ⟨y0, y1, y2, y3, y4, z0, z1, z2, z3, z4⟩ := HK.out _ HB7.out
          go_wp2_with fail
          refine (HEM.out HX.out _ HB7.out).mono ?_
          rintro e w8 ⟨rfl, hb8⟩
          have HB8 : Hid (Below (D + 2) W1 w8) := Lib.hid (HSZ.out _ _ HB7.out hb8)
          have HR8 := Lib.hid (HR7.out.below hb8)
          clear hb8 y0 y1 y2 y3 y4 z0 z1 z2 z3 z4 HR7 HB7
          obtain ⟨y0, y1, y2, y3, y4, z0, z1, z2, z3, z4⟩ := HK.out _ HB8.out
          go_wp2_with fail
          refine (HRY.out _ HB8.out).mono ?_
          rintro e w9 ⟨rfl, hb9⟩
          have HB9 : Hid (Below (D + 2) W1 w9) := Lib.hid (HSZ.out _ _ HB8.out hb9)
          have HR9 := Lib.hid (HR8.out.below hb9)
          clear hb9 y0 y1 y2 y3 y4 z0 z1 z2 z3 z4 HR8 HB8
          obtain ⟨y0, y1, y2, y3, y4, z0, z1, z2, z3, z4⟩ := HK.out _ HB9.out
          go_wp2_with fail
          refine (HRA.out HX.out HY.out _ HB9.out).mono ?_
          rintro e w10 ⟨h10, hb10⟩
          have HB10 : Hid (Below (D + 2) W1 w10) := Lib.hid (HSZ.out _ _ HB9.out hb10)
          rcases h10 with ⟨v, pt', cc', rfl, hr', hap'⟩ | ⟨rfl, hno⟩
          · exact absurd hap'.1 (HNO.out v)
          · have HSA := Lib.hid (same10n none 0 0 (fun _ => 0) none 0 0 (fun _ => 0) true ⟨fun _ => ⟨rfl, fun _ _ => rfl⟩, fun _ => rfl⟩ (by unfold maxLen; omega) w10 (fun j hj => absurd hj (Nat.not_lt_zero _)) (fun j hj => absurd hj (Nat.not_lt_zero _)))
            clear hb10 hno y0 y1 y2 y3 y4 z0 z1 z2 z3 z4 HR9
            go_wp2_with fail
            refine HSA.out.mono ?_
            rintro e w11 ⟨rfl, hb11⟩
            have HB11 : Hid (Below w.heap.size w w11) := Lib.hid (HF.out _ (HSZ.out _ _ HB10.out hb11))
            clear hb11 HSA
            go_wp2_with fail
            go_returns
            exact ⟨rfl, HB11.out⟩
      · have HNY := Lib.hid hy
        rw [rgB_no hy] at HRY
        obtain rfl := hn5 fun h => hy h.2
        have HR5 : Hid (rdL w5 none 0 (fun _ => 0)) := Lib.hid fun j hj => absurd hj (Nat.not_lt_zero _)
        clear hn5 hy5 hx hy
        obtain ⟨y0, y1, y2, y3, y4, z0, z1, z2, z3, z4⟩ := HK.out _ HB5.out
        go_wp2_with fail
        refine (HEX.out _ HB5.out).mono ?_
        rintro e w6 ⟨h6, -, hb6⟩
        obtain rfl := h6 HX.out
        have HB6 : Hid (Below (D + 2) W1 w6) := Lib.hid (HSZ.out _ _ HB5.out hb6)
        have HR6 := Lib.hid (HR5.out.below hb6)
        rw [HEB.out]
        clear h6 hb6 y0 y1 y2 y3 y4 z0 z1 z2 z3 z4 HR5
        obtain ⟨y0, y1, y2, y3, y4, z0, z1, z2, z3, z4⟩ := HK.out _ HB6.out
        go_wp2_with fail
        refine (HRX.out _ HB6.out).mono ?_
        rintro e w7 ⟨rfl, hb7⟩
        have HB7 : Hid (Below (D + 2) W1 w7) := Lib.hid (HSZ.out _ _ HB6.out hb7)
        have HR7 := Lib.hid (HR6.out.below hb7)
        clear hb7 y0 y1 y2 y3 y4 z0 z1 z2 z3 z4 HR6 HB6
        obtain ⟨y0, y1, y2, y3, y4, z0, z1, z2, z3, z4⟩ := HK.out _ HB7.out
        go_wp2_with fail
        refine (HEM.out HX.out _ HB7.out).mono ?_
        rintro e w8 ⟨rfl, hb8⟩
        have HB8 : Hid (Below (D + 2) W1 w8) := Lib.hid (HSZ.out _ _ HB7.out hb8)
        have HR8 := Lib.hid (HR7.out.below hb8)
        clear hb8 y0 y1 y2 y3 y4 z0 z1 z2 z3 z4 HR7 HB7
        obtain ⟨y0, y1, y2, y3, y4, z0, z1, z2, z3, z4⟩ := HK.out _ HB8.out
        go_wp2_with fail
        refine (HRY.out _ HB8.out).mono ?_
        rintro e w9 ⟨rfl, hb9⟩
        have HB9 : Hid (Below (D + 2) W1 w9) := Lib.hid (HSZ.out _ _ HB8.out hb9)
        have HR9 := Lib.hid (HR8.out.below hb9)
        clear hb9 y0 y1 y2 y3 y4 z0 z1 z2 z3 z4 HR8 HB8
        obtain ⟨y0, y1, y2, y3, y4, z0, z1, z2, z3, z4⟩ := HK.out _ HB9.out
        have HB9F := Lib.hid (HF.out _ HB9.out)
        clear y0 y1 y2 y3 y4 z0 z1 z2 z3 z4
        go_wp2_with fail
        go_returns
        exact ⟨rfl, HB9F.out⟩
  · rw [rgB_no hx] at HRX
    obtain rfl := hn5 fun h => hx h.1
    have HNX := Lib.hid hx
    clear hn5 hy5 hx HEM HRA HRY
    obtain ⟨y0, y1, y2, y3, y4, z0, z1, z2, z3, z4⟩ := HK.out _ HB5.out
    go_wp2_with fail
    refine (HEX.out _ HB5.out).mono ?_
    rintro e w6 ⟨-, h6, hb6⟩
    obtain rfl := h6 HNX.out
    have HB6 : Hid (Below (D + 2) W1 w6) := Lib.hid (HSZ.out _ _ HB5.out hb6)
    clear h6 hb6 y0 y1 y2 y3 y4 z0 z1 z2 z3 z4
    obtain ⟨y0, y1, y2, y3, y4, z0, z1, z2, z3, z4⟩ := HK.out _ HB6.out
    go_wp2_with fail
    refine (HRX.out _ HB6.out).mono ?_
    rintro e w7 ⟨rfl, hb7⟩
    have HB7 : Hid (Below w.heap.size w w7) := Lib.hid (HF.out _ (HSZ.out _ _ HB6.out hb7))
    clear hb7 y0 y1 y2 y3 y4 z0 z1 z2 z3 z4
    go_wp2_with fail
    go_returns
    exact ⟨rfl, HB7.out⟩
end Go.Proofs.Ytefpoapbodbenaa
