/-
  The walk of the law MiniBlocks, over whatever Of (and Blocks) are that do as the page says.
-/
import Derived.Test.YtnoaejpabfnfpaaPk35
import Derived.Test.YtnoaejpabfnfpaaPk8
namespace Go.Proofs.Ytnoaejpabfnfpaa
open Go.RowKit

set_option maxRecDepth 100000 in
set_option maxHeartbeats 20000000 in
theorem mblocks13 (hA : ∀ w, Calls Try.prog 6 #[] w fun e w' => e = .returned (.bool true) ∧ Below w.heap.size w w') (hB : MblD) (hO : MofD)
    (q0 : Option Addr) (n0 c0 : Nat) (wd st : Int) (q1 : Option Addr) (n1 c1 : Nat) (q2 : Option Addr) (n2 c2 : Nat) (l0 l1 : Nat → Int) (T : Nat → Bool) (w : World) (hr0 : n0 ≤ 300 → rdL w q0 n0 l0) (hr1 : n1 ≤ 4000 → rdL w q1 n1 l1) (hr2 : n2 ≤ 12 → rdBs w q2 n2 T) :
    Calls Try.prog 3 #[dfV q0 n0 c0 wd st q1 n1 c1 q2 n2 c2] w fun e w' => e = .returned (.bool true) ∧ Below w.heap.size w w' := by
  obtain ⟨D, hD⟩ : ∃ D, w.heap.size = D := ⟨_, rfl⟩
  obtain ⟨w1, hw1⟩ : ∃ w1, w.alloc (.cells #[.slice q0 n0 c0, .int .i64 wd, .int .i64 st, .slice q1 n1 c1, .slice q2 n2 c2] 25) = w1 := ⟨_, rfl⟩
  have hz1 : w1.heap.size = D + 1 := by rw [← hw1, World.size_alloc, hD]
  have hb1 : Below D w w1 := hw1 ▸ (Below.refl _ _).alloc (by omega) _
  have hk1 : isDf w1 D q0 n0 c0 wd st q1 n1 c1 q2 n2 c2 := hw1 ▸ hD ▸ heap_alloc_new w _
  have HK := Lib.hid (fun w' (h : Below (D + 1) w1 w') => (hk1.below h (Nat.lt_succ_self D)).cells)
  have HAw := Lib.hid hA
  have HSm := Lib.hid (fun w => small13 q0 n0 c0 wd st q1 n1 c1 q2 n2 c2 w)
  have HF : Hid (∀ w', Below (D + 1) w1 w' → Below w.heap.size w w') := Lib.hid fun w' h => by rw [hD]; exact hb1.trans (h.mono (by omega))
  have HW1 := Lib.hid hw1; have HZ := Lib.hid hz1
  have HSZ : Hid (∀ w' w'', Below (D + 1) w1 w' → Below w'.heap.size w' w'' → Below (D + 1) w1 w'') := Lib.hid fun w' w'' h h' => h.trans (h'.mono (by have := h.size; omega))
  cases hsm : (decide ((n2 : Int) ≤ 12) && decide ((n1 : Int) ≤ 4000) && decide ((n0 : Int) ≤ 300))
  · rw [hsm] at HSm
    clear hw1 hk1 hb1 hz1 hA hB hO hr0 hr1 hr2 hsm
    go_enter Try.func3, Try.ntmps3
    go_upto_region 1 with (fail)
    rw [HW1.out]
    clear hD
    go_wp2_with fail
    refine (HAw.out _).mono ?_
    rintro e w2 ⟨rfl, hb2⟩
    have HB2 : Hid (Below (D + 1) w1 w2) := Lib.hid (HZ.out ▸ hb2)
    obtain ⟨z0, z1, z2, z3, z4⟩ := HK.out _ HB2.out
    clear hb2
    go_wp2_with fail
    refine (HSm.out _).mono ?_
    rintro e w3 ⟨rfl, hb3⟩
    have HB3 : Hid (Below (D + 1) w1 w3) := Lib.hid (HSZ.out _ _ HB2.out hb3)
    clear hb3 z0 z1 z2 z3 z4 HSm HAw HB2
    obtain ⟨z0, z1, z2, z3, z4⟩ := HK.out _ HB3.out
    go_wp2_with fail
    go_returns
    exact ⟨rfl, HF.out _ HB3.out⟩
  rw [hsm] at HSm
  have hs3 : n2 ≤ 12 ∧ n1 ≤ 4000 ∧ n0 ≤ 300 := by
    simp only [Bool.and_eq_true, decide_eq_true_eq] at hsm
    omega
  have hd1 : daAt w (dfV q0 n0 c0 wd st q1 n1 c1 q2 n2 c2) ⟨n0, l0, wd, st, n1, l1, n2, T⟩ := ⟨q0, c0, q1, c1, q2, c2, rfl, hr0 hs3.2.2, hr1 hs3.2.1, hr2 hs3.1⟩
  obtain ⟨x, hx⟩ : ∃ x : Da, ⟨n0, l0, wd, st, n1, l1, n2, T⟩ = x := ⟨_, rfl⟩
  rw [hx] at hd1
  have hxn : x.n2 = n2 ∧ x.st = st ∧ x.T = T ∧ x.wd = wd ∧ x.n0 = n0 ∧ x.n1 = n1 ∧ x.l0 = l0 ∧ x.l1 = l1 := by rw [← hx]; exact ⟨rfl, rfl, rfl, rfl, rfl, rfl, rfl, rfl⟩
  have hsd : smD x := by rw [← hx]; exact ⟨show n0 ≤ 10000 by omega, show n1 ≤ 100000 by omega, show n2 ≤ 1000 by omega⟩
  have HDA := Lib.hid (fun w' (h : Below (D + 1) w1 w') => hd1.below (hD.symm ▸ hb1.trans (h.mono (Nat.le_succ D))))
  have HXN := Lib.hid hxn
  have HSD := Lib.hid hsd
  have HBl := Lib.hid (fun w' (h : Below (D + 1) w1 w') => hB _ x w' hsd (HDA.out w' h))
  have HOf := Lib.hid (fun w' (h : Below (D + 1) w1 w') => hO _ x w' hsd (HDA.out w' h))
  have HRt := Lib.hid (fun w' (h : Below (D + 1) w1 w') => rright12 _ x hsd.1 hsd.2.1 hsd.2.2 w' (HDA.out w' h))
  have HRB := Lib.hid (fun w' (hx : rgD x) (h : Below (D + 1) w1 w') => blocks13 _ x hx hsd.2.1 hsd.2.2 w' (HDA.out w' h))
  have HRO := Lib.hid (fun w' (hx : rgD x) (h : Below (D + 1) w1 w') => rof13 _ x hx hsd.2.1 hsd.2.2 w' (HDA.out w' h))
  clear hw1 hk1 hb1 hz1 hA hB hO hr0 hr1 hr2 hsm hd1 hx hxn hsd
  go_enter Try.func3, Try.ntmps3
  go_upto_region 1 with (fail)
  rw [HW1.out]
  clear hD
  go_wp2_with fail
  refine (HAw.out _).mono ?_
  rintro e w2 ⟨rfl, hb2⟩
  have HB2 : Hid (Below (D + 1) w1 w2) := Lib.hid (HZ.out ▸ hb2)
  obtain ⟨z0, z1, z2, z3, z4⟩ := HK.out _ HB2.out
  clear hb2
  go_wp2_with fail
  refine (HSm.out _).mono ?_
  rintro e w3 ⟨rfl, hb3⟩
  have HB3 : Hid (Below (D + 1) w1 w3) := Lib.hid (HSZ.out _ _ HB2.out hb3)
  clear hb3 z0 z1 z2 z3 z4 HSm HAw HB2
  obtain ⟨z0, z1, z2, z3, z4⟩ := HK.out _ HB3.out
  go_wp2_with fail
  refine (HBl.out _ HB3.out).mono ?_
  rintro e w4 ⟨hb41, hb42, hb43⟩
  have HB4 : Hid (Below (D + 1) w1 w4) := Lib.hid (HSZ.out _ _ HB3.out hb43)
  cases hg : rgB x with
  | false =>
    have hng : ¬ rgD x := fun h => by rw [rgB_yes h] at hg; cases hg
    obtain ⟨qb, cb, rfl⟩ := hb42 hng
    have hrt := fun w' h => HRt.out w' h
    rw [hg] at hrt
    have HRT := Lib.hid hrt
    have HNG := Lib.hid hng
    clear hb41 hb42 hb43 hg hng hrt z0 z1 z2 z3 z4 HBl HRt
    obtain ⟨z0, z1, z2, z3, z4⟩ := HK.out _ HB4.out
    go_wp2_with fail
    refine (HOf.out _ HB4.out).mono ?_
    rintro e w5 ⟨-, ho2, ho3⟩
    have HB5 : Hid (Below (D + 1) w1 w5) := Lib.hid (HSZ.out _ _ HB4.out ho3)
    obtain ⟨v', x', rfl, hd', hn'⟩ := ho2 HNG.out
    obtain ⟨p0, d0, p1, d1, p2, d2, rfl, -, -, -⟩ := hd'
    rw [hn']
    obtain ⟨wa, hwa⟩ : ∃ wa, w5.alloc (.cells #[.slice p0 x'.n0 d0, .int .i64 x'.wd, .int .i64 x'.st, .slice p1 0 d1, .slice p2 x'.n2 d2] 25) = wa := ⟨_, rfl⟩
    have hba : Below w5.heap.size w5 wa := hwa ▸ (Below.refl _ _).alloc (Nat.le_refl _) _
    obtain ⟨M, hM⟩ : ∃ M, w5.heap.size = M := ⟨_, rfl⟩
    have hka : isDf wa M p0 x'.n0 d0 x'.wd x'.st p1 0 d1 p2 x'.n2 d2 := by rw [← hwa, ← hM]; exact heap_alloc_new w5 _
    have HBa : Hid (Below (D + 1) w1 wa) := Lib.hid (HSZ.out _ _ HB5.out hba)
    have HKM : Hid (∀ w', Below wa.heap.size wa w' → isDf w' M p0 x'.n0 d0 x'.wd x'.st p1 0 d1 p2 x'.n2 d2) := Lib.hid fun w' h => hka.below h hka.lt
    have HWA := Lib.hid hwa
    clear ho2 ho3 hn' hwa hba hka z0 z1 z2 z3 z4 HOf
    obtain ⟨z0, z1, z2, z3, z4⟩ := HK.out _ HBa.out
    go_upto_region 7 with (fail)
    rw [HWA.out]
    clear HWA hM
    go_wp2_with fail
    refine (HRT.out _ HBa.out).mono ?_
    rintro e w6 ⟨rfl, hb6⟩
    have HB6 : Hid (Below (D + 1) w1 w6) := Lib.hid (HSZ.out _ _ HBa.out hb6)
    obtain ⟨y0, y1, y2, y3, y4⟩ := (HKM.out _ hb6).cells
    clear hb6 z0 z1 z2 z3 z4
    go_wp2_with fail
    go_returns
    exact ⟨rfl, HF.out _ HB6.out⟩
  | true =>
    have hrg := rgB_iff.1 hg
    obtain ⟨qb, cb, rfl, hrb⟩ := hb41 hrg
    have hrt := fun w' h => HRt.out w' h
    rw [hg] at hrt
    have HRT := Lib.hid hrt
    have HRG := Lib.hid hrg
    have HLB : Hid (∀ w', Below w4.heap.size w4 w' → rdL w' qb x.n2 (fun i => (clA (lnB x) i : Nat))) := Lib.hid fun w' h => hrb.below h
    clear hb41 hb42 hb43 hg hrg hrt hrb z0 z1 z2 z3 z4 HBl HRt
    obtain ⟨z0, z1, z2, z3, z4⟩ := HK.out _ HB4.out
    go_wp2_with fail
    refine (HOf.out _ HB4.out).mono ?_
    rintro e w5 ⟨ho1, -, ho3⟩
    have HB5 : Hid (Below (D + 1) w1 w5) := Lib.hid (HSZ.out _ _ HB4.out ho3)
    obtain ⟨v', rfl, hd'⟩ := ho1 HRG.out
    obtain ⟨y, hy⟩ : ∃ y, mnD x = y := ⟨_, rfl⟩
    rw [hy] at hd'
    have hd9 := hd'
    obtain ⟨p0, d0, p1, d1, p2, d2, rfl, -, -, -⟩ := hd'
    obtain ⟨wa, hwa⟩ : ∃ wa, w5.alloc (.cells #[.slice p0 y.n0 d0, .int .i64 y.wd, .int .i64 y.st, .slice p1 y.n1 d1, .slice p2 y.n2 d2] 25) = wa := ⟨_, rfl⟩
    have hba : Below w5.heap.size w5 wa := hwa ▸ (Below.refl _ _).alloc (Nat.le_refl _) _
    obtain ⟨M, hM⟩ : ∃ M, w5.heap.size = M := ⟨_, rfl⟩
    have hka : isDf wa M p0 y.n0 d0 y.wd y.st p1 y.n1 d1 p2 y.n2 d2 := by rw [← hwa, ← hM]; exact heap_alloc_new w5 _
    have HBa : Hid (Below (D + 1) w1 wa) := Lib.hid (HSZ.out _ _ HB5.out hba)
    have HKM : Hid (∀ w', Below wa.heap.size wa w' → isDf w' M p0 y.n0 d0 y.wd y.st p1 y.n1 d1 p2 y.n2 d2) := Lib.hid fun w' h => hka.below h hka.lt
    have HDM : Hid (∀ w', Below wa.heap.size wa w' → daAt w' (dfV p0 y.n0 d0 y.wd y.st p1 y.n1 d1 p2 y.n2 d2) y) := Lib.hid fun w' h => (hd9.below hba).below h
    have HL4 : Hid (∀ w', Below wa.heap.size wa w' → rdL w' qb x.n2 (fun i => (clA (lnB x) i : Nat))) := Lib.hid fun w' h => (HLB.out _ (ho3.trans (hba.mono ho3.size))).below h
    have HWA := Lib.hid hwa
    have HY := Lib.hid hy
    have HYB : Hid (y.n0 ≤ maxLen ∧ y.n1 ≤ maxLen ∧ y.n2 ≤ maxLen) := Lib.hid (by
      have hs := mnD_sm HRG.out (by rw [HXN.out.1]; exact hs3.1)
      rw [hy] at hs
      obtain ⟨a, b, c⟩ := hs
      unfold maxLen
      omega)
    clear ho1 ho3 hwa hba hka hd9 hy z0 z1 z2 z3 z4 HOf HLB
    obtain ⟨z0, z1, z2, z3, z4⟩ := HK.out _ HBa.out
    go_upto_region 7 with (fail)
    rw [HWA.out]
    clear HWA hM
    go_wp2_with fail
    refine (HRT.out _ HBa.out).mono ?_
    rintro e w6 ⟨rfl, hb6⟩
    have HB6 : Hid (Below (D + 1) w1 w6) := Lib.hid (HSZ.out _ _ HBa.out hb6)
    have HA6 := Lib.hid hb6
    clear hb6 z0 z1 z2 z3 z4
    obtain ⟨z0, z1, z2, z3, z4⟩ := HK.out _ HB6.out
    go_wp2_with fail
    refine (HRB.out _ HRG.out HB6.out).mono ?_
    rintro e w7 ⟨qr, cr, rfl, hrr, hb7⟩
    have HB7 : Hid (Below (D + 1) w1 w7) := Lib.hid (HSZ.out _ _ HB6.out hb7)
    have HA7 : Hid (Below wa.heap.size wa w7) := Lib.hid (HA6.out.trans (hb7.mono HA6.out.size))
    have HSame : Hid (∀ w', Below w7.heap.size w7 w' → Calls Try.prog 12 #[.slice qb x.n2 cb, .slice qr x.n2 cr] w' fun e w'' => e = .returned (.bool true) ∧ Below w'.heap.size w' w'') := Lib.hid fun w' h =>
      same10n qb x.n2 cb _ qr x.n2 cr _ true (by simp) (by rw [HXN.out.1]; unfold maxLen; omega) w' (HL4.out _ (HA7.out.trans (h.mono HA7.out.size))) (hrr.below h)
    obtain ⟨K, hK⟩ : ∃ K, cntT (isH (lnB x)) x.n2 = K := ⟨_, rfl⟩
    obtain ⟨m2, hm2⟩ : ∃ m2, x.n2 = m2 := ⟨_, rfl⟩
    have HS7 : Hid (∀ w', Below w7.heap.size w7 w' → w'.cell? ⟨D, 0, none⟩ = some (.slice q0 n0 c0) ∧ w'.cell? ⟨D, 1, none⟩ = some (.int .i64 wd) ∧ w'.cell? ⟨D, 2, none⟩ = some (.int .i64 st) ∧ w'.cell? ⟨D, 3, none⟩ = some (.slice q1 n1 c1) ∧ w'.cell? ⟨D, 4, none⟩ = some (.slice q2 n2 c2) ∧ w'.cell? ⟨M, 0, none⟩ = some (.slice p0 y.n0 d0) ∧ w'.cell? ⟨M, 1, none⟩ = some (.int .i64 y.wd) ∧ w'.cell? ⟨M, 2, none⟩ = some (.int .i64 y.st) ∧ w'.cell? ⟨M, 3, none⟩ = some (.slice p1 y.n1 d1) ∧ w'.cell? ⟨M, 4, none⟩ = some (.slice p2 y.n2 d2)) := Lib.hid fun w' h => by
      obtain ⟨e0, e1, e2, e3, e4⟩ := HK.out _ (HSZ.out _ _ HB7.out h)
      obtain ⟨f0, f1, f2, f3, f4⟩ := (HKM.out _ (HA7.out.trans (h.mono HA7.out.size))).cells
      exact ⟨e0, e1, e2, e3, e4, f0, f1, f2, f3, f4⟩
    have HOfx : Hid (∀ w', Below w7.heap.size w7 w' → Calls Try.prog 14 #[dfV q0 n0 c0 wd st q1 n1 c1 q2 n2 c2] w' fun e w'' => ∃ v', e = .returned v' ∧ daAt w'' v' y ∧ Below w'.heap.size w' w'') := Lib.hid fun w' h =>
      (HRO.out w' HRG.out (HSZ.out _ _ HB7.out h)).mono fun e w'' ⟨v', x', h1, h2, h3, h4⟩ => ⟨v', h1, h2.same (HY.out ▸ h3), h4⟩
    have HSm2 : Hid (∀ v' w', Below w7.heap.size w7 w' → daAt w' v' y → Calls Try.prog 13 #[dfV p0 y.n0 d0 y.wd y.st p1 y.n1 d1 p2 y.n2 d2, v'] w' fun e wz => e = .returned (.bool true) ∧ Below w'.heap.size w' wz) := Lib.hid fun v' w' h hv => by
      have := rsame12 _ v' y y HYB.out.1 HYB.out.2.1 HYB.out.2.2 HYB.out.2.2 w' (HDM.out _ (HA7.out.trans (h.mono HA7.out.size))) hv
      rw [saB_iff.2 (saP_refl y)] at this
      exact this
    rw [hK]
    rw [hm2] at HSame ⊢
    have hB : Below w7.heap.size w7 w7.drew := (Below.refl _ _).drew
    clear hrr hb7 hK hm2 z0 z1 z2 z3 z4 HRB HRO HA6 HB6
    go_wp2_with fail
    go_region_held_law (fun w' => w'.cell? ⟨D, 0, none⟩ = some (.slice q0 n0 c0) ∧ w'.cell? ⟨D, 1, none⟩ = some (.int .i64 wd) ∧ w'.cell? ⟨D, 2, none⟩ = some (.int .i64 st) ∧ w'.cell? ⟨D, 3, none⟩ = some (.slice q1 n1 c1) ∧ w'.cell? ⟨D, 4, none⟩ = some (.slice q2 n2 c2) ∧ w'.cell? ⟨M, 0, none⟩ = some (.slice p0 y.n0 d0) ∧ w'.cell? ⟨M, 1, none⟩ = some (.int .i64 y.wd) ∧ w'.cell? ⟨M, 2, none⟩ = some (.int .i64 y.st) ∧ w'.cell? ⟨M, 3, none⟩ = some (.slice p1 y.n1 d1) ∧ w'.cell? ⟨M, 4, none⟩ = some (.slice p2 y.n2 d2))
      (exact HS7.out _ hB)
      (first
        | (go_at_call 12; (with_reducible refine (HSame.out _ hB).mono ?_); rintro e wc ⟨rfl, hbc⟩; (replace hB := hB.trans (hbc.mono hB.size)); clear hbc)
        | (go_at_call 14; (with_reducible refine (HOfx.out _ hB).mono ?_); rintro e wc ⟨vo, rfl, hvo, hbc⟩; (replace hB := hB.trans (hbc.mono hB.size)); have HVO := Lib.hid hvo; clear hbc hvo)
        | (go_at_call 13; (with_reducible refine (HSm2.out _ _ hB HVO.out).mono ?_); rintro e wc ⟨rfl, hbc⟩; (replace hB := hB.trans (hbc.mono hB.size)); clear hbc))
    all_goals
      have HBe := Lib.hid (HF.out _ (HSZ.out _ _ HB7.out hB))
      clear hB
      go_wp2_with fail
      go_returns
      exact ⟨rfl, HBe.out⟩
end Go.Proofs.Ytnoaejpabfnfpaa
