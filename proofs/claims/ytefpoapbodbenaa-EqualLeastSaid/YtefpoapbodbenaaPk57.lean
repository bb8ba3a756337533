/-
  The walk of EqualLeast: two automata are told apart just if their least ones part.
-/
import Derived.Test.YtefpoapbodbenaaPk40
import Derived.Test.YtefpoapbodbenaaPk35
import Derived.Test.YtefpoapbodbenaaPk23
import Derived.Deep.RegionHeldLaw
import Derived.BigQuiet
import Derived.Deep.QuietTactic
namespace Go.Proofs.Ytefpoapbodbenaa
open Go.RowKit

noncomputable def ofE (x : Da) : Int := if rgB x then 0 else 3
theorem mo14 (hO : MofD) (v : Value) (x : Da) (w : World) (hs : smD x) (hd : daAt w v x) : Calls Try.prog 15 #[v] w fun e w' => ∃ (x' : Da) (p0 : Option Addr) (d0 : Nat) (p1 : Option Addr) (d1 : Nat) (p2 : Option Addr) (d2 : Nat), e = .returned (.tuple #[dfV p0 x'.n0 d0 x'.wd x'.st p1 x'.n1 d1 p2 x'.n2 d2, .int .i64 (ofE x)]) ∧ daAt w' (dfV p0 x'.n0 d0 x'.wd x'.st p1 x'.n1 d1 p2 x'.n2 d2) x' ∧ (rgD x → x' = mnD x) ∧ Below w.heap.size w w' := by
  refine (hO v x w hs hd).mono ?_
  rintro e w' ⟨h1, h2, hb⟩
  by_cases hx : rgD x
  · obtain ⟨v', rfl, hd'⟩ := h1 hx
    have hd9 := hd'
    obtain ⟨p0, d0, p1, d1, p2, d2, rfl, -, -, -⟩ := hd'
    exact ⟨mnD x, p0, d0, p1, d1, p2, d2, by unfold ofE; rw [rgB_yes hx]; rfl, hd9, fun _ => rfl, hb⟩
  · obtain ⟨v', x', rfl, hd', -⟩ := h2 hx
    have hd9 := hd'
    obtain ⟨p0, d0, p1, d1, p2, d2, rfl, -, -, -⟩ := hd'
    exact ⟨x', p0, d0, p1, d1, p2, d2, by unfold ofE; rw [rgB_no hx]; rfl, hd9, fun h => absurd h hx, hb⟩

set_option maxRecDepth 100000 in
set_option maxHeartbeats 16000000 in
theorem eleast14 (hA : ∀ w, Calls Try.prog 6 #[] w fun e w' => e = .returned (.bool true) ∧ Below w.heap.size w w') (hP : AptD) (hO : MofD) (hS : SamD) (hAc : AccD)
    (q0 : Option Addr) (c0 : Nat) (q1 : Option Addr) (c1 : Nat) (q2 : Option Addr) (c2 : Nat) (q0' : Option Addr) (c0' : Nat) (q1' : Option Addr) (c1' : Nat) (q2' : Option Addr) (c2' : Nat) (x y : Da) (q : Option Addr) (n cap k : Nat) (hk : k = min n 30) (hcap : n ≤ cap) (l : Nat → Int) (w : World)
    (hd : daAt w (dfV q0 x.n0 c0 x.wd x.st q1 x.n1 c1 q2 x.n2 c2) x) (hd' : daAt w (dfV q0' y.n0 c0' y.wd y.st q1' y.n1 c1' q2' y.n2 c2') y) (hl : rdL w q k l) :
    Calls Try.prog 5 #[dfV q0 x.n0 c0 x.wd x.st q1 x.n1 c1 q2 x.n2 c2, dfV q0' y.n0 c0' y.wd y.st q1' y.n1 c1' q2' y.n2 c2', .slice q n cap] w fun e w' => e = .returned (.bool true) ∧ Below w.heap.size w w' := by
  obtain ⟨D, hD⟩ : ∃ D, w.heap.size = D := ⟨_, rfl⟩
  obtain ⟨W1, hW1⟩ : ∃ W1, (w.alloc (.cells #[.slice q0 x.n0 c0, .int .i64 x.wd, .int .i64 x.st, .slice q1 x.n1 c1, .slice q2 x.n2 c2] 25)).alloc (.cells #[.slice q0' y.n0 c0', .int .i64 y.wd, .int .i64 y.st, .slice q1' y.n1 c1', .slice q2' y.n2 c2'] 25) = W1 := ⟨_, rfl⟩
  have hb1 : Below D w W1 := hW1 ▸ hD ▸ (((Below.refl _ _).alloc (Nat.le_refl _) _).alloc (by rw [World.size_alloc]; omega) _)
  have hz1 : W1.heap.size = D + 2 := by rw [← hW1, World.size_alloc, World.size_alloc, hD]
  have hk1 : isDf W1 D q0 x.n0 c0 x.wd x.st q1 x.n1 c1 q2 x.n2 c2 := by
    rw [← hW1, ← hD]
    exact (Below.heap_alloc (w.alloc _) _ w.heap.size (by rw [World.size_alloc]; omega)).trans (heap_alloc_new w _)
  have hk2 : isDf W1 (D + 1) q0' y.n0 c0' y.wd y.st q1' y.n1 c1' q2' y.n2 c2' := by
    rw [← hW1, ← hD, show w.heap.size + 1 = (w.alloc (.cells #[.slice q0 x.n0 c0, .int .i64 x.wd, .int .i64 x.st, .slice q1 x.n1 c1, .slice q2 x.n2 c2] 25)).heap.size by rw [World.size_alloc]]
    exact heap_alloc_new _ _
  have HDA : Hid (∀ w', Below (D + 2) W1 w' → daAt w' (dfV q0 x.n0 c0 x.wd x.st q1 x.n1 c1 q2 x.n2 c2) x) := Lib.hid fun w' h => hd.below (hD.symm ▸ hb1.trans (h.mono (by omega)))
  have HDB : Hid (∀ w', Below (D + 2) W1 w' → daAt w' (dfV q0' y.n0 c0' y.wd y.st q1' y.n1 c1' q2' y.n2 c2') y) := Lib.hid fun w' h => hd'.below (hD.symm ▸ hb1.trans (h.mono (by omega)))
  have HK : Hid (∀ w', Below (D + 2) W1 w' → w'.cell? ⟨D, 0, none⟩ = some (.slice q0 x.n0 c0) ∧ w'.cell? ⟨D, 1, none⟩ = some (.int .i64 x.wd) ∧ w'.cell? ⟨D, 2, none⟩ = some (.int .i64 x.st) ∧ w'.cell? ⟨D, 3, none⟩ = some (.slice q1 x.n1 c1) ∧ w'.cell? ⟨D, 4, none⟩ = some (.slice q2 x.n2 c2) ∧ w'.cell? ⟨D + 1, 0, none⟩ = some (.slice q0' y.n0 c0') ∧ w'.cell? ⟨D + 1, 1, none⟩ = some (.int .i64 y.wd) ∧ w'.cell? ⟨D + 1, 2, none⟩ = some (.int .i64 y.st) ∧ w'.cell? ⟨D + 1, 3, none⟩ = some (.slice q1' y.n1 c1') ∧ w'.cell? ⟨D + 1, 4, none⟩ = some (.slice q2' y.n2 c2')) := Lib.hid fun w' h => by
    obtain ⟨y0, y1, y2, y3, y4⟩ := (hk1.below h (by omega)).cells
    obtain ⟨z0, z1, z2, z3, z4⟩ := (hk2.below h (by omega)).cells
    exact ⟨y0, y1, y2, y3, y4, z0, z1, z2, z3, z4⟩
  have HF : Hid (∀ w', Below (D + 2) W1 w' → Below w.heap.size w w') := Lib.hid fun w' h => by rw [hD]; exact hb1.trans (h.mono (by omega))
  have HSZ : Hid (∀ w' w'', Below (D + 2) W1 w' → Below w'.heap.size w' w'' → Below (D + 2) W1 w'') := Lib.hid fun w' w'' h h' => h.trans (h'.mono (by have := h.size; omega))
  have HAw := Lib.hid hA; have HW1 := Lib.hid hW1; have HZ := Lib.hid hz1
  have HSm := Lib.hid (fun w => small14 q0 x.n0 c0 x.wd x.st q1 x.n1 c1 q2 x.n2 c2 w)
  have HSn := Lib.hid (fun w => small14 q0' y.n0 c0' y.wd y.st q1' y.n1 c1' q2' y.n2 c2' w)
  have h1 : (if (30 : Int) < (n : Int) then (30 : Int) else (n : Int)) = (k : Int) := by split <;> omega
  have e1 : min (n : Int) 30 = (k : Int) := by omega
  have H1 := Lib.hid h1
  have k0 : (0 : Int) ≤ (k : Int) := by omega
  have k1 : (k : Int) ≤ (cap : Int) := by omega
  have k2 : k ≤ 30 := by omega
  have HL : Hid (∀ w', Below (D + 2) W1 w' → rdL w' q k l) := Lib.hid fun w' h => hl.below (hD.symm ▸ hb1.trans (h.mono (by omega)))
  clear h1 hk
  cases hsm : (decide ((x.n2 : Int) ≤ 10) && decide ((x.n1 : Int) ≤ 3000) && decide ((x.n0 : Int) ≤ 300))
  · rw [hsm] at HSm
    clear hW1 hb1 hz1 hk1 hk2 hd hd' hA hl hP hO hS hAc hsm HSn
    go_enter Try.func5, Try.ntmps5
    go_upto_region 1 with (fail)
    rw [HW1.out]
    clear hD
    go_wp2_with fail
    refine (HAw.out _).mono ?_
    rintro e w2 ⟨rfl, hb2⟩
    have HB2 : Hid (Below (D + 2) W1 w2) := Lib.hid (HZ.out ▸ hb2)
    obtain ⟨y0, y1, y2, y3, y4, z0, z1, z2, z3, z4⟩ := HK.out _ HB2.out
    clear hb2
    go_wp2_with (refine wpList_plain rfl fun _ hK => wp_min9 _ _ rfl (n : Int) 30 (k : Int) rfl rfl H1.out (hK _ _ ?_))
    refine (HSm.out _).mono ?_
    rintro e w3 ⟨rfl, hb3⟩
    have HB3 : Hid (Below (D + 2) W1 w3) := Lib.hid (HSZ.out _ _ HB2.out hb3)
    clear hb3 y0 y1 y2 y3 y4 z0 z1 z2 z3 z4 HSm HAw HB2
    go_wp2_with fail
    go_returns
    exact ⟨rfl, HF.out _ HB3.out⟩
  rw [hsm] at HSm
  have hs3 : x.n2 ≤ 10 ∧ x.n1 ≤ 3000 ∧ x.n0 ≤ 300 := by
    simp only [Bool.and_eq_true, decide_eq_true_eq] at hsm
    omega
  cases hsn : (decide ((y.n2 : Int) ≤ 10) && decide ((y.n1 : Int) ≤ 3000) && decide ((y.n0 : Int) ≤ 300))
  · rw [hsn] at HSn
    clear hW1 hb1 hz1 hk1 hk2 hd hd' hA hl hP hO hS hAc hsm hsn hs3
    go_enter Try.func5, Try.ntmps5
    go_upto_region 1 with (fail)
    rw [HW1.out]
    clear hD
    go_wp2_with fail
    refine (HAw.out _).mono ?_
    rintro e w2 ⟨rfl, hb2⟩
    have HB2 : Hid (Below (D + 2) W1 w2) := Lib.hid (HZ.out ▸ hb2)
    obtain ⟨y0, y1, y2, y3, y4, z0, z1, z2, z3, z4⟩ := HK.out _ HB2.out
    clear hb2
    go_wp2_with (refine wpList_plain rfl fun _ hK => wp_min9 _ _ rfl (n : Int) 30 (k : Int) rfl rfl H1.out (hK _ _ ?_))
    refine (HSm.out _).mono ?_
    rintro e w3 ⟨rfl, hb3⟩
    have HB3 : Hid (Below (D + 2) W1 w3) := Lib.hid (HSZ.out _ _ HB2.out hb3)
    clear hb3 y0 y1 y2 y3 y4 z0 z1 z2 z3 z4 HSm HAw HB2
    obtain ⟨y0, y1, y2, y3, y4, z0, z1, z2, z3, z4⟩ := HK.out _ HB3.out
    go_wp2_with fail
    refine (HSn.out _).mono ?_
    rintro e w4 ⟨rfl, hb4⟩
    have HB4 : Hid (Below (D + 2) W1 w4) := Lib.hid (HSZ.out _ _ HB3.out hb4)
    clear hb4 y0 y1 y2 y3 y4 z0 z1 z2 z3 z4 HSn
    go_wp2_with fail
    go_returns
    exact ⟨rfl, HF.out _ HB4.out⟩
  rw [hsn] at HSn
  have hs4 : y.n2 ≤ 10 ∧ y.n1 ≤ 3000 ∧ y.n0 ≤ 300 := by
    simp only [Bool.and_eq_true, decide_eq_true_eq] at hsn
    omega
  have hsx : smD x := ⟨by omega, by omega, by omega⟩
  have hsy : smD y := ⟨by omega, by omega, by omega⟩
  have HXY := Lib.hid (fun w' (h : Below (D + 2) W1 w') => hP _ _ x y w' hsx hsy (HDA.out w' h) (HDB.out w' h))
  have HOX := Lib.hid (fun w' (h : Below (D + 2) W1 w') => mo14 hO _ x w' hsx (HDA.out w' h))
  have HOY := Lib.hid (fun w' (h : Below (D + 2) W1 w') => mo14 hO _ y w' hsy (HDB.out w' h))
  have HAX := Lib.hid (fun w' (h : Below (D + 2) W1 w') => hAc _ x q k cap l w' hsx (by omega) (HDA.out w' h) (HL.out w' h))
  have HAY := Lib.hid (fun w' (h : Below (D + 2) W1 w') => hAc _ y q k cap l w' hsy (by omega) (HDB.out w' h) (HL.out w' h))
  have HSS := Lib.hid hS
  have HN3 := Lib.hid hs3; have HN4 := Lib.hid hs4
  clear hW1 hb1 hz1 hk1 hk2 hd hd' hA hl hP hO hS hAc hsm hsn hs3 hs4 hsx hsy
  go_enter Try.func5, Try.ntmps5
  go_upto_region 1 with (fail)
  rw [HW1.out]
  clear hD
  go_wp2_with fail
  refine (HAw.out _).mono ?_
  rintro e w2 ⟨rfl, hb2⟩
  have HB2 : Hid (Below (D + 2) W1 w2) := Lib.hid (HZ.out ▸ hb2)
  obtain ⟨y0, y1, y2, y3, y4, z0, z1, z2, z3, z4⟩ := HK.out _ HB2.out
  clear hb2
  go_wp2_with (refine wpList_plain rfl fun _ hK => wp_min9 _ _ rfl (n : Int) 30 (k : Int) rfl rfl H1.out (hK _ _ ?_))
  refine (HSm.out _).mono ?_
  rintro e w3 ⟨rfl, hb3⟩
  have HB3 : Hid (Below (D + 2) W1 w3) := Lib.hid (HSZ.out _ _ HB2.out hb3)
  clear hb3 y0 y1 y2 y3 y4 z0 z1 z2 z3 z4 HSm HAw HB2
  obtain ⟨y0, y1, y2, y3, y4, z0, z1, z2, z3, z4⟩ := HK.out _ HB3.out
  go_wp2_with fail
  refine (HSn.out _).mono ?_
  rintro e w4 ⟨rfl, hb4⟩
  have HB4 : Hid (Below (D + 2) W1 w4) := Lib.hid (HSZ.out _ _ HB3.out hb4)
  clear hb4 y0 y1 y2 y3 y4 z0 z1 z2 z3 z4 HSn HB3
  obtain ⟨y0, y1, y2, y3, y4, z0, z1, z2, z3, z4⟩ := HK.out _ HB4.out
  go_wp2_with fail
  refine (HXY.out _ HB4.out).mono ?_
  rintro e w5 ⟨hn5, hy5, hb5⟩
  have HB5 : Hid (Below (D + 2) W1 w5) := Lib.hid (HSZ.out _ _ HB4.out hb5)
  clear hb5 y0 y1 y2 y3 y4 z0 z1 z2 z3 z4
  by_cases hxy : rgD x ∧ rgD y
  · obtain ⟨hx, hy⟩ := hxy
    have HX := Lib.hid hx; have HY := Lib.hid hy
    obtain ⟨is, pv, rfl, his⟩ : ∃ (is : Bool) (pv : Value), e = .returned (.tuple #[pv, .bool is, .int .i64 0]) ∧ (is = true ↔ ∃ w, dfW x y w) := by
      rcases hy5 hx hy with ⟨u, pt, cc, rfl, -, -, hap, -⟩ | ⟨rfl, hno⟩
      · exact ⟨true, _, rfl, fun _ => ⟨u, hap.1⟩, fun _ => rfl⟩
      · exact ⟨false, _, rfl, fun h => (by cases h), fun ⟨v, hv⟩ => absurd hv (hno v)⟩
    have HIS := Lib.hid his
    have hox : ofE x = 0 := by unfold ofE; rw [rgB_yes hx]; rfl
    have hoy : ofE y = 0 := by unfold ofE; rw [rgB_yes hy]; rfl
    rw [hox] at HOX; rw [hoy] at HOY
    clear hn5 hy5 hx hy his hox hoy
    obtain ⟨y0, y1, y2, y3, y4, z0, z1, z2, z3, z4⟩ := HK.out _ HB5.out
    go_wp2_with fail
    refine (HOX.out _ HB5.out).mono ?_
    rintro e w6 ⟨x', p0, d0, p1, d1, p2, d2, rfl, hdx, hx', hb6⟩
    obtain rfl := hx' HX.out
    have HB6 : Hid (Below (D + 2) W1 w6) := Lib.hid (HSZ.out _ _ HB5.out hb6)
    obtain ⟨X, hX⟩ : ∃ X, mnD x = X := ⟨_, rfl⟩
    have HMX := Lib.hid hX
    rw [hX] at hdx ⊢
    obtain ⟨M, hM⟩ : ∃ M, w6.heap.size = M := ⟨_, rfl⟩
    obtain ⟨wa, hwa⟩ : ∃ wa, w6.alloc (.cells #[.slice p0 X.n0 d0, .int .i64 X.wd, .int .i64 X.st, .slice p1 X.n1 d1, .slice p2 X.n2 d2] 25) = wa := ⟨_, rfl⟩
    have hba : Below w6.heap.size w6 wa := hwa ▸ (Below.refl _ _).alloc (Nat.le_refl _) _
    have hka : isDf wa M p0 X.n0 d0 X.wd X.st p1 X.n1 d1 p2 X.n2 d2 := hwa ▸ hM ▸ heap_alloc_new w6 _
    have HBa : Hid (Below (D + 2) W1 wa) := Lib.hid (HSZ.out _ _ HB6.out hba)
    have HDX := Lib.hid (hdx.below hba); have HKA := Lib.hid hka; have HWA := Lib.hid hwa
    clear hb6 hx' hX hdx hwa hba hka y0 y1 y2 y3 y4 z0 z1 z2 z3 z4 HOX HB6
    obtain ⟨y0, y1, y2, y3, y4, z0, z1, z2, z3, z4⟩ := HK.out _ HBa.out
    go_upto_region 8 with (fail)
    rw [HWA.out]
    clear hM HWA
    go_wp2_with fail
    refine (HOY.out _ HBa.out).mono ?_
    rintro e w7 ⟨y', p0', d0', p1', d1', p2', d2', rfl, hdy, hy', hb7⟩
    obtain rfl := hy' HY.out
    have HB7 : Hid (Below (D + 2) W1 w7) := Lib.hid (HSZ.out _ _ HBa.out hb7)
    obtain ⟨Y, hY⟩ : ∃ Y, mnD y = Y := ⟨_, rfl⟩
    have HMY := Lib.hid hY
    rw [hY] at hdy ⊢
    obtain ⟨M', hM'⟩ : ∃ M', w7.heap.size = M' := ⟨_, rfl⟩
    obtain ⟨wb, hwb⟩ : ∃ wb, w7.alloc (.cells #[.slice p0' Y.n0 d0', .int .i64 Y.wd, .int .i64 Y.st, .slice p1' Y.n1 d1', .slice p2' Y.n2 d2'] 25) = wb := ⟨_, rfl⟩
    have hbb : Below w7.heap.size w7 wb := hwb ▸ (Below.refl _ _).alloc (Nat.le_refl _) _
    have hkb : isDf wb M' p0' Y.n0 d0' Y.wd Y.st p1' Y.n1 d1' p2' Y.n2 d2' := hwb ▸ hM' ▸ heap_alloc_new w7 _
    have hka := (HKA.out.below hb7 HKA.out.lt).below hbb (Nat.lt_of_lt_of_le HKA.out.lt hb7.size)
    have HBb : Hid (Below (D + 2) W1 wb) := Lib.hid (HSZ.out _ _ HB7.out hbb)
    have hdx := (HDX.out.below hb7).below hbb
    have hdy' := hdy.below hbb
    have hsX := mnD_sm HX.out (by have := HN3.out.1; omega)
    have hsY := mnD_sm HY.out (by have := HN4.out.1; omega)
    rw [HMX.out] at hsX
    rw [hY] at hsY
    have HSA := Lib.hid (HSS.out _ _ X Y wb (by have := hsX.1; unfold maxLen; omega) (by have := hsX.2.1; unfold maxLen; omega) (by have := hsX.2.2; unfold maxLen; omega) (by have := hsY.1; unfold maxLen; omega) (by have := hsY.2.1; unfold maxLen; omega) (by have := hsY.2.2; unfold maxLen; omega) hdx hdy')
    have hsa : saB X Y = !is := by rw [← HMX.out, ← hY]; exact saB_mn HX.out HY.out is HIS.out
    rw [hsa] at HSA
    obtain ⟨m0, m1, m2, m3, m4⟩ := hka.cells
    obtain ⟨n0', n1', n2', n3', n4'⟩ := hkb.cells
    have HWB := Lib.hid hwb
    clear hb7 hy' hY hdy hwb hbb hkb hka hdx hdy' hsX hsY hsa y0 y1 y2 y3 y4 z0 z1 z2 z3 z4 HOY HDX HKA HB7 HBa
    go_upto_region 9 with (fail)
    rw [HWB.out]
    clear hM' HWB
    cases is with
    | true =>
      go_wp2_with fail
      refine HSA.out.mono ?_
      rintro e w8 ⟨rfl, hb8⟩
      have HB8 : Hid (Below w.heap.size w w8) := Lib.hid (HF.out _ (HSZ.out _ _ HBb.out hb8))
      clear hb8 m0 m1 m2 m3 m4 n0' n1' n2' n3' n4' HSA
      have HB8n : Hid (∀ n, Below w.heap.size w (w8.drewN n)) := Lib.hid fun n => below_drewN n HB8.out
      go_upto_region 13 with (fail)
      go_quiet (fail)
      go_wp2_with fail
      go_returns
      exact ⟨rfl, HB8n.out _⟩
    | false =>
      have HNO : Hid (∀ w, ¬ dfW x y w) := Lib.hid fun w hw => by have := HIS.out.2 ⟨w, hw⟩; cases this
      go_wp2_with fail
      refine HSA.out.mono ?_
      rintro e w8 ⟨rfl, hb8⟩
      have HB8 : Hid (Below (D + 2) W1 w8) := Lib.hid (HSZ.out _ _ HBb.out hb8)
      clear hb8 m0 m1 m2 m3 m4 n0' n1' n2' n3' n4' HSA
      obtain ⟨y0, y1, y2, y3, y4, z0, z1, z2, z3, z4⟩ := HK.out _ HB8.out
      obtain ⟨t, ht⟩ : ∃ t, acD x l k = t := ⟨_, rfl⟩
      have ht' : acD y l k = t := by rw [← ht]; exact (acD_same HX.out HY.out HNO.out l k).symm
      have HTX : Hid (∀ w', Below w8.heap.size w8 w' → Calls Try.prog 14 #[.agg #[.slice q0 x.n0 c0, .int .i64 x.wd, .int .i64 x.st, .slice q1 x.n1 c1, .slice q2 x.n2 c2], .slice q k cap] w' fun e w'' => e = .returned (.bool t) ∧ Below w'.heap.size w' w'') := Lib.hid fun w' h => by
        have := HAX.out w' (HSZ.out _ _ HB8.out h)
        rw [ht] at this
        exact this
      have HTY : Hid (∀ w', Below w8.heap.size w8 w' → Calls Try.prog 14 #[.agg #[.slice q0' y.n0 c0', .int .i64 y.wd, .int .i64 y.st, .slice q1' y.n1 c1', .slice q2' y.n2 c2'], .slice q k cap] w' fun e w'' => e = .returned (.bool t) ∧ Below w'.heap.size w' w'') := Lib.hid fun w' h => by
        have := HAY.out w' (HSZ.out _ _ HB8.out h)
        rw [ht'] at this
        exact this
      have hB : Below w8.heap.size w8 w8.drew := (Below.refl _ _).drew
      have HKr : Hid (∀ w', Below w8.heap.size w8 w' → w'.cell? ⟨D, 0, none⟩ = some (.slice q0 x.n0 c0) ∧ w'.cell? ⟨D, 1, none⟩ = some (.int .i64 x.wd) ∧ w'.cell? ⟨D, 2, none⟩ = some (.int .i64 x.st) ∧ w'.cell? ⟨D, 3, none⟩ = some (.slice q1 x.n1 c1) ∧ w'.cell? ⟨D, 4, none⟩ = some (.slice q2 x.n2 c2) ∧ w'.cell? ⟨D + 1, 0, none⟩ = some (.slice q0' y.n0 c0') ∧ w'.cell? ⟨D + 1, 1, none⟩ = some (.int .i64 y.wd) ∧ w'.cell? ⟨D + 1, 2, none⟩ = some (.int .i64 y.st) ∧ w'.cell? ⟨D + 1, 3, none⟩ = some (.slice q1' y.n1 c1') ∧ w'.cell? ⟨D + 1, 4, none⟩ = some (.slice q2' y.n2 c2')) := Lib.hid fun w' h => HK.out _ (HSZ.out _ _ HB8.out h)
      clear ht ht' y0 y1 y2 y3 y4 z0 z1 z2 z3 z4
      go_upto_region 13 with (fail)
      go_region_held_law (fun w' => w'.cell? ⟨D, 0, none⟩ = some (.slice q0 x.n0 c0) ∧ w'.cell? ⟨D, 1, none⟩ = some (.int .i64 x.wd) ∧ w'.cell? ⟨D, 2, none⟩ = some (.int .i64 x.st) ∧ w'.cell? ⟨D, 3, none⟩ = some (.slice q1 x.n1 c1) ∧ w'.cell? ⟨D, 4, none⟩ = some (.slice q2 x.n2 c2) ∧ w'.cell? ⟨D + 1, 0, none⟩ = some (.slice q0' y.n0 c0') ∧ w'.cell? ⟨D + 1, 1, none⟩ = some (.int .i64 y.wd) ∧ w'.cell? ⟨D + 1, 2, none⟩ = some (.int .i64 y.st) ∧ w'.cell? ⟨D + 1, 3, none⟩ = some (.slice q1' y.n1 c1') ∧ w'.cell? ⟨D + 1, 4, none⟩ = some (.slice q2' y.n2 c2'))
        (exact HKr.out _ hB)
        (first | (with_reducible refine (HTX.out _ hB).mono ?_; rintro e wc ⟨rfl, hbc⟩; replace hB := hB.trans (hbc.mono hB.size); clear hbc) | (with_reducible refine (HTY.out _ hB).mono ?_; rintro e wc ⟨rfl, hbc⟩; replace hB := hB.trans (hbc.mono hB.size); clear hbc))
      all_goals
        have HBn := Lib.hid (HF.out _ (HSZ.out _ _ HB8.out hB))
        clear hB HTX HTY HKr
        cases t <;> (go_wp2_with fail; go_returns; exact ⟨rfl, HBn.out⟩)
  · obtain rfl := hn5 hxy
    have hcc : ofE x = 3 ∨ (ofE x = 0 ∧ ofE y = 3) := by
      by_cases hx : rgD x
      · have hy : ¬ rgD y := fun h => hxy ⟨hx, h⟩
        exact .inr ⟨by unfold ofE; rw [rgB_yes hx]; rfl, by unfold ofE; rw [rgB_no hy]; rfl⟩
      · exact .inl (by unfold ofE; rw [rgB_no hx]; rfl)
    obtain ⟨cx, hcx⟩ : ∃ cx, ofE x = cx := ⟨_, rfl⟩
    obtain ⟨cy, hcy⟩ : ∃ cy, ofE y = cy := ⟨_, rfl⟩
    rw [hcx] at HOX hcc; rw [hcy] at HOY hcc
    clear hn5 hy5 hxy hcx hcy
    obtain ⟨y0, y1, y2, y3, y4, z0, z1, z2, z3, z4⟩ := HK.out _ HB5.out
    go_wp2_with fail
    refine (HOX.out _ HB5.out).mono ?_
    rintro e w6 ⟨x', p0, d0, p1, d1, p2, d2, rfl, -, -, hb6⟩
    have HB6 : Hid (Below (D + 2) W1 w6) := Lib.hid (HSZ.out _ _ HB5.out hb6)
    obtain ⟨wa, hwa⟩ : ∃ wa, w6.alloc (.cells #[.slice p0 x'.n0 d0, .int .i64 x'.wd, .int .i64 x'.st, .slice p1 x'.n1 d1, .slice p2 x'.n2 d2] 25) = wa := ⟨_, rfl⟩
    have hba : Below w6.heap.size w6 wa := hwa ▸ (Below.refl _ _).alloc (Nat.le_refl _) _
    have HBa : Hid (Below (D + 2) W1 wa) := Lib.hid (HSZ.out _ _ HB6.out hba)
    have HWA := Lib.hid hwa
    clear hb6 hwa hba y0 y1 y2 y3 y4 z0 z1 z2 z3 z4 HOX HB6
    obtain ⟨y0, y1, y2, y3, y4, z0, z1, z2, z3, z4⟩ := HK.out _ HBa.out
    go_upto_region 8 with (fail)
    rw [HWA.out]
    clear HWA
    go_wp2_with fail
    refine (HOY.out _ HBa.out).mono ?_
    rintro e w7 ⟨y', p0', d0', p1', d1', p2', d2', rfl, -, -, hb7⟩
    have HB7 : Hid (Below (D + 2) W1 w7) := Lib.hid (HSZ.out _ _ HBa.out hb7)
    obtain ⟨wb, hwb⟩ : ∃ wb, w7.alloc (.cells #[.slice p0' y'.n0 d0', .int .i64 y'.wd, .int .i64 y'.st, .slice p1' y'.n1 d1', .slice p2' y'.n2 d2'] 25) = wb := ⟨_, rfl⟩
    have hbb : Below w7.heap.size w7 wb := hwb ▸ (Below.refl _ _).alloc (Nat.le_refl _) _
    have HBb : Hid (Below w.heap.size w wb) := Lib.hid (HF.out _ (HSZ.out _ _ HB7.out hbb))
    have HWB := Lib.hid hwb
    clear hb7 hwb hbb y0 y1 y2 y3 y4 z0 z1 z2 z3 z4 HOY HB7 HBa
    go_upto_region 9 with (fail)
    rw [HWB.out]
    clear HWB
    rcases hcc with rfl | ⟨rfl, rfl⟩
    · go_wp2_with fail
      go_returns
      exact ⟨rfl, HBb.out⟩
    · go_wp2_with fail
      go_returns
      exact ⟨rfl, HBb.out⟩
end Go.Proofs.Ytefpoapbodbenaa
