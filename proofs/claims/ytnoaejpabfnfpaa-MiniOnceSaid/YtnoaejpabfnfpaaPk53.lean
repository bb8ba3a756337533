/-
  The walk of the law MiniOnce, over whatever Of (and Blocks) are that do as the page says.
-/
import Derived.Test.YtnoaejpabfnfpaaPk35
import Derived.Test.YtnoaejpabfnfpaaPk52
import Derived.Deep.RegionLaw
import Derived.Deep.RegionWith
import Derived.Deep.Cut
import Derived.Deep.OwnRows
namespace Go.Proofs.Ytnoaejpabfnfpaa
open Go.RowKit

theorem al3 (W0 : World) (o0 o1 o2 : Obj) : (((W0.alloc o0).alloc o1).alloc o2).drew.heap[W0.heap.size]? = some o0 ∧ (((W0.alloc o0).alloc o1).alloc o2).drew.heap[W0.heap.size + 1]? = some o1 ∧ (((W0.alloc o0).alloc o1).alloc o2).drew.heap[W0.heap.size + 1 + 1]? = some o2 ∧ Below W0.heap.size W0 (((W0.alloc o0).alloc o1).alloc o2).drew := by
  have h0 := heap_alloc_new W0 o0
  have h1 := heap_alloc_new (W0.alloc o0) o1
  have h2 := heap_alloc_new ((W0.alloc o0).alloc o1) o2
  rw [World.size_alloc] at h1
  rw [World.size_alloc, World.size_alloc] at h2
  refine ⟨?_, ?_, h2, (((Below.refl _ _).alloc (Nat.le_refl _) _).alloc (by simp) _ |>.alloc (by simp; omega) _).drew⟩
  · exact (heap_alloc_old _ o2 (by simp; omega)).trans ((heap_alloc_old _ o1 (by simp)).trans h0)
  · exact (heap_alloc_old _ o2 (by simp)).trans h1
theorem ipR_of13 {w : World} {B g m : Nat} (h : w.heap[g]? = some (.cells (madeCells #[.int .i64 0] m) 3 (0, 0))) (hB : B ≤ g) (hm : m ≤ maxLen) : ipR w B g m (fun _ => 0) := by
  refine ⟨by rw [fnv_len, Nat.mul_one], .inr ⟨g, m, _, rfl, hB, h, Nat.le_refl _, hm, by simp [madeCells], ?_⟩⟩
  rw [made_fnv, Nat.mul_one, List.take_of_length_le (by rw [fnv_len]; exact Nat.le_refl _)]
theorem blR_of13 {w : World} {B g m : Nat} (h : w.heap[g]? = some (.cells (madeCells #[.bool false] m) 4 (0, 0))) (hB : B ≤ g) (hm : m ≤ maxLen) : blR w B g m m (fun _ => false) := by
  have hl : (bls (fun _ => false) m).length = m := by unfold bls; simp
  refine ⟨by rw [hl, Nat.mul_one], .inr ⟨g, m, _, rfl, hB, h, Nat.le_refl _, hm, by simp [madeCells], ?_⟩⟩
  rw [made_bls, Nat.mul_one, List.take_of_length_le (by rw [hl]; exact Nat.le_refl _)]

theorem build_df13 (q0 : Option Addr) (n0 c0 : Nat) (wd st : Int) (q1 : Option Addr) (n1 c1 : Nat) (q2 : Option Addr) (n2 c2 : Nat) (w : World) : (Instr.build 25 #[(0, .slice q0 n0 c0), (1, .int .i64 wd), (2, .int .i64 st), (3, .slice q1 n1 c1), (4, .slice q2 n2 c2)]).run Try.prog w = .ok (dfV q0 n0 c0 wd st q1 n1 c1 q2 n2 c2) w := by kernel_rfl

set_option maxRecDepth 100000 in
set_option maxHeartbeats 20000000 in
theorem monce13 (hA : ∀ w, Calls Try.prog 6 #[] w fun e w' => e = .returned (.bool true) ∧ Below w.heap.size w w') (hO : MofD) (hG : RigD) (hSa : SamD)
    (q0 : Option Addr) (n0 c0 : Nat) (wd st : Int) (q1 : Option Addr) (n1 c1 : Nat) (q2 : Option Addr) (n2 c2 : Nat) (l0 l1 : Nat → Int) (T : Nat → Bool) (tn : Nat) (htn : tn < 256) (w : World) (hr0 : n0 ≤ 300 → rdL w q0 n0 l0) (hr1 : n1 ≤ 4000 → rdL w q1 n1 l1) (hr2 : n2 ≤ 12 → rdBs w q2 n2 T) :
    Calls Try.prog 5 #[dfV q0 n0 c0 wd st q1 n1 c1 q2 n2 c2, .int .u8 (tn : Int)] w fun e w' => e = .returned (.bool true) ∧ Below w.heap.size w w' := by
  obtain ⟨D, hD⟩ : ∃ D, w.heap.size = D := ⟨_, rfl⟩
  obtain ⟨w1, hw1⟩ : ∃ w1, w.alloc (.cells #[.slice q0 n0 c0, .int .i64 wd, .int .i64 st, .slice q1 n1 c1, .slice q2 n2 c2] 25) = w1 := ⟨_, rfl⟩
  have hz1 : w1.heap.size = D + 1 := by rw [← hw1, World.size_alloc, hD]
  have hb1 : Below D w w1 := hw1 ▸ (Below.refl _ _).alloc (by omega) _
  have hk1 : isDf w1 D q0 n0 c0 wd st q1 n1 c1 q2 n2 c2 := hw1 ▸ hD ▸ heap_alloc_new w _
  have HK := Lib.hid (fun w' (h : Below (D + 1) w1 w') => (hk1.below h (Nat.lt_succ_self D)).cells)
  have HAw := Lib.hid hA
  have HSm := Lib.hid (fun w => small13 q0 n0 c0 wd st q1 n1 c1 q2 n2 c2 w)
  have HF : Hid (∀ w', Below (D + 1) w1 w' → Below w.heap.size w w') := Lib.hid fun w' h => by rw [hD]; exact hb1.trans (h.mono (by omega))
  have HW1 := Lib.hid hw1; have HZ := Lib.hid hz1
  have HSZ : Hid (∀ w' w'', Below (D + 1) w1 w' → Below w'.heap.size w' w'' → Below (D + 1) w1 w'') := Lib.hid fun w' w'' h h' => h.trans (h'.mono (by have := h.size; omega))
  cases hsm : (decide ((n2 : Int) ≤ 12) && decide ((n1 : Int) ≤ 4000) && decide ((n0 : Int) ≤ 300))
  · rw [hsm] at HSm
    clear hw1 hk1 hb1 hz1 hA hO hG hSa hr0 hr1 hr2 hsm
    go_enter Try.func5, Try.ntmps5
    go_upto_region 1 with (fail)
    rw [HW1.out]
    clear hD
    go_wp2_with fail
    refine (HAw.out _).mono ?_
    rintro e w2 ⟨rfl, hb2⟩
    have HB2 : Hid (Below (D + 1) w1 w2) := Lib.hid (HZ.out ▸ hb2)
    obtain ⟨z0, z1, z2, z3, z4⟩ := HK.out _ HB2.out
    clear hb2
    go_wp2_with fail
    refine (HSm.out _).mono ?_
    rintro e w3 ⟨rfl, hb3⟩
    have HB3 : Hid (Below (D + 1) w1 w3) := Lib.hid (HSZ.out _ _ HB2.out hb3)
    clear hb3 z0 z1 z2 z3 z4 HSm HAw HB2
    obtain ⟨z0, z1, z2, z3, z4⟩ := HK.out _ HB3.out
    go_wp2_with fail
    go_returns
    exact ⟨rfl, HF.out _ HB3.out⟩
  rw [hsm] at HSm
  have hs3 : n2 ≤ 12 ∧ n1 ≤ 4000 ∧ n0 ≤ 300 := by
    simp only [Bool.and_eq_true, decide_eq_true_eq] at hsm
    omega
  have hd1 : daAt w (dfV q0 n0 c0 wd st q1 n1 c1 q2 n2 c2) ⟨n0, l0, wd, st, n1, l1, n2, T⟩ := ⟨q0, c0, q1, c1, q2, c2, rfl, hr0 hs3.2.2, hr1 hs3.2.1, hr2 hs3.1⟩
  obtain ⟨x, hx⟩ : ∃ x : Da, ⟨n0, l0, wd, st, n1, l1, n2, T⟩ = x := ⟨_, rfl⟩
  rw [hx] at hd1
  have hxn : x.n2 = n2 ∧ x.st = st ∧ x.T = T ∧ x.wd = wd ∧ x.n0 = n0 ∧ x.n1 = n1 ∧ x.l0 = l0 ∧ x.l1 = l1 := by rw [← hx]; exact ⟨rfl, rfl, rfl, rfl, rfl, rfl, rfl, rfl⟩
  have hsd : smD x := by rw [← hx]; exact ⟨show n0 ≤ 10000 by omega, show n1 ≤ 100000 by omega, show n2 ≤ 1000 by omega⟩
  have HDA := Lib.hid (fun w' (h : Below (D + 1) w1 w') => hd1.below (hD.symm ▸ hb1.trans (h.mono (Nat.le_succ D))))
  have HXN := Lib.hid hxn
  have HSD := Lib.hid hsd
  have HOf := Lib.hid (fun w' (h : Below (D + 1) w1 w') => hO _ x w' hsd (HDA.out w' h))
  have HRt := Lib.hid (fun w' (h : Below (D + 1) w1 w') => hG _ x w' hsd (HDA.out w' h))
  have HOO := Lib.hid hO; have HSA := Lib.hid hSa
  have HR0 := Lib.hid (fun w' (h : Below (D + 1) w1 w') => (hr0 hs3.2.2).below (hD.symm ▸ hb1.trans (h.mono (Nat.le_succ D))))
  have HR1 := Lib.hid (fun w' (h : Below (D + 1) w1 w') => (hr1 hs3.2.1).below (hD.symm ▸ hb1.trans (h.mono (Nat.le_succ D))))
  have HR2 := Lib.hid (fun w' (h : Below (D + 1) w1 w') => (hr2 hs3.1).below (hD.symm ▸ hb1.trans (h.mono (Nat.le_succ D))))
  clear hw1 hk1 hb1 hz1 hA hO hG hSa hr0 hr1 hr2 hsm hd1 hx hxn hsd
  go_enter Try.func5, Try.ntmps5
  go_upto_region 1 with (fail)
  rw [HW1.out]
  clear hD
  go_wp2_with fail
  refine (HAw.out _).mono ?_
  rintro e w2 ⟨rfl, hb2⟩
  have HB2 : Hid (Below (D + 1) w1 w2) := Lib.hid (HZ.out ▸ hb2)
  obtain ⟨z0, z1, z2, z3, z4⟩ := HK.out _ HB2.out
  clear hb2
  go_wp2_with fail
  refine (HSm.out _).mono ?_
  rintro e w3 ⟨rfl, hb3⟩
  have HB3 : Hid (Below (D + 1) w1 w3) := Lib.hid (HSZ.out _ _ HB2.out hb3)
  clear hb3 z0 z1 z2 z3 z4 HSm HAw HB2
  obtain ⟨z0, z1, z2, z3, z4⟩ := HK.out _ HB3.out
  go_wp2_with fail
  refine (HOf.out _ HB3.out).mono ?_
  rintro e w5 ⟨ho1, ho2, ho3⟩
  have HB5 : Hid (Below (D + 1) w1 w5) := Lib.hid (HSZ.out _ _ HB3.out ho3)
  cases hg : rgB x with
  | false =>
    have hng : ¬ rgD x := fun h => by rw [rgB_yes h] at hg; cases hg
    obtain ⟨v', x', rfl, hd', hn'⟩ := ho2 hng
    obtain ⟨p0, d0, p1, d1, p2, d2, rfl, -, -, -⟩ := hd'
    have hrt := fun w' h => HRt.out w' h
    rw [hg] at hrt
    have HRT := Lib.hid hrt
    obtain ⟨wa, hwa⟩ : ∃ wa, w5.alloc (.cells #[.slice p0 x'.n0 d0, .int .i64 x'.wd, .int .i64 x'.st, .slice p1 x'.n1 d1, .slice p2 x'.n2 d2] 25) = wa := ⟨_, rfl⟩
    have hba : Below w5.heap.size w5 wa := hwa ▸ (Below.refl _ _).alloc (Nat.le_refl _) _
    have HBa : Hid (Below (D + 1) w1 wa) := Lib.hid (HSZ.out _ _ HB5.out hba)
    have HWA := Lib.hid hwa
    clear ho1 ho2 ho3 hn' hwa hba hg hng hrt z0 z1 z2 z3 z4 HOf HRt
    obtain ⟨z0, z1, z2, z3, z4⟩ := HK.out _ HBa.out
    go_upto_region 6 with (fail)
    rw [HWA.out]
    clear HWA
    go_wp2_with fail
    refine (HRT.out _ HBa.out).mono ?_
    rintro e w6 ⟨rfl, hb6⟩
    have HB6 : Hid (Below (D + 1) w1 w6) := Lib.hid (HSZ.out _ _ HBa.out hb6)
    clear hb6 z0 z1 z2 z3 z4
    go_wp2_with fail
    go_returns
    exact ⟨rfl, HF.out _ HB6.out⟩
  | true =>
    have hrg := rgB_iff.1 hg
    have HRG := Lib.hid hrg
    obtain ⟨v', rfl, hd'⟩ := ho1 hrg
    have hyr := mnD_rg hrg
    have hym := mnD_sm hrg (by rw [HXN.out.1]; exact hs3.1)
    have hyy := mnD_mnD hrg
    obtain ⟨y, hy⟩ : ∃ y, mnD x = y := ⟨_, rfl⟩
    rw [hy] at hd' hyr hym hyy
    have HY := Lib.hid hy
    have hd9 := hd'
    obtain ⟨p0, d0, p1, d1, p2, d2, rfl, -, -, -⟩ := hd'
    obtain ⟨wa, hwa⟩ : ∃ wa, w5.alloc (.cells #[.slice p0 y.n0 d0, .int .i64 y.wd, .int .i64 y.st, .slice p1 y.n1 d1, .slice p2 y.n2 d2] 25) = wa := ⟨_, rfl⟩
    have hba : Below w5.heap.size w5 wa := hwa ▸ (Below.refl _ _).alloc (Nat.le_refl _) _
    obtain ⟨M, hM⟩ : ∃ M, w5.heap.size = M := ⟨_, rfl⟩
    have hka : isDf wa M p0 y.n0 d0 y.wd y.st p1 y.n1 d1 p2 y.n2 d2 := by rw [← hwa, ← hM]; exact heap_alloc_new w5 _
    have HBa : Hid (Below (D + 1) w1 wa) := Lib.hid (HSZ.out _ _ HB5.out hba)
    have HKM : Hid (∀ w', Below wa.heap.size wa w' → isDf w' M p0 y.n0 d0 y.wd y.st p1 y.n1 d1 p2 y.n2 d2) := Lib.hid fun w' h => hka.below h hka.lt
    have HDM : Hid (∀ w', Below wa.heap.size wa w' → daAt w' (dfV p0 y.n0 d0 y.wd y.st p1 y.n1 d1 p2 y.n2 d2) y) := Lib.hid fun w' h => (hd9.below hba).below h
    have HOy := Lib.hid (HOO.out _ y wa hym (HDM.out _ (Below.refl _ _)))
    have HYR := Lib.hid hyr; have HYM := Lib.hid hym; have HYY := Lib.hid hyy
    have HWA := Lib.hid hwa
    clear ho1 ho2 ho3 hwa hba hka hd9 hy z0 z1 z2 z3 z4 HOf HRt hg hrg hyr hym hyy
    obtain ⟨z0, z1, z2, z3, z4⟩ := HK.out _ HBa.out
    obtain ⟨y0, y1, y2, y3, y4⟩ := (HKM.out _ (Below.refl _ _)).cells
    go_upto_region 6 with (fail)
    rw [HWA.out]
    clear HWA hM
    go_wp2_with fail
    refine HOy.out.mono ?_
    rintro e w6 ⟨ho1, -, ho3⟩
    obtain ⟨v'', rfl, hd''⟩ := ho1 HYR.out
    rw [HYY.out] at hd''
    have hd8 := hd''
    obtain ⟨r0, e0, r1, e1, r2, e2, rfl, -, -, -⟩ := hd''
    obtain ⟨wb, hwb⟩ : ∃ wb, w6.alloc (.cells #[.slice r0 y.n0 e0, .int .i64 y.wd, .int .i64 y.st, .slice r1 y.n1 e1, .slice r2 y.n2 e2] 25) = wb := ⟨_, rfl⟩
    have hbb : Below w6.heap.size w6 wb := hwb ▸ (Below.refl _ _).alloc (Nat.le_refl _) _
    obtain ⟨O, hO⟩ : ∃ O, w6.heap.size = O := ⟨_, rfl⟩
    have hkb : isDf wb O r0 y.n0 e0 y.wd y.st r1 y.n1 e1 r2 y.n2 e2 := by rw [← hwb, ← hO]; exact heap_alloc_new w6 _
    have HAB : Hid (Below wa.heap.size wa wb) := Lib.hid (ho3.trans (hbb.mono ho3.size))
    have HBb : Hid (Below (D + 1) w1 wb) := Lib.hid (HSZ.out _ _ HBa.out HAB.out)
    have HKO : Hid (∀ w', Below wb.heap.size wb w' → isDf w' O r0 y.n0 e0 y.wd y.st r1 y.n1 e1 r2 y.n2 e2) := Lib.hid fun w' h => hkb.below h hkb.lt
    have HDO : Hid (∀ w', Below wb.heap.size wb w' → daAt w' (dfV r0 y.n0 e0 y.wd y.st r1 y.n1 e1 r2 y.n2 e2) y) := Lib.hid fun w' h => (hd8.below hbb).below h
    have HWB := Lib.hid hwb
    -- the turned automaton's numbers
    have hrg := HRG.out
    have hxe := HXN.out
    obtain ⟨S0, hS0⟩ : ∃ S0 : Nat, st = S0 := ⟨st.toNat, by have := hrg.2.2.2.2.2.2.1; omega⟩
    obtain ⟨W, hW⟩ : ∃ W : Nat, wd = W := ⟨wd.toNat, by have := hrg.2.1; omega⟩
    have hn0 : n0 = 259 := by have := hrg.1; omega
    have hSl : S0 < n2 := by have := hrg.2.2.2.2.2.2.2.1; omega
    have hnp : 0 < n2 := by omega
    have hWl : W ≤ 259 := by have := hrg.2.2.1; omega
    have hn1 : n1 = n2 * W := by
      have := hrg.2.2.2.2.2.1
      rw [hxe.1, hxe.2.2.2.1, hxe.2.2.2.2.2.1, hW] at this
      exact_mod_cast this
    have HN1 := Lib.hid hn1
    have HATs := Lib.hid (fun s (hs : s < n2) w => at13 s tn n2 hnp (by omega) hs htn w)
    have HXR : Hid (∀ j, j < n1 → 0 ≤ l1 j ∧ l1 j < n2) := Lib.hid fun j hj => by
      have := hrg.2.2.2.2.2.2.2.2.2 j (by omega)
      rw [hxe.2.2.2.2.2.2.2, hxe.1] at this; exact this
    subst hS0; subst hW; subst hn0
    clear ho1 ho3 hwb hbb hkb hd8 z0 z1 z2 z3 z4 y0 y1 y2 y3 y4 HOy hrg hxe hn1
    obtain ⟨z0, z1, z2, z3, z4⟩ := HK.out _ HBb.out
    go_upto_region 9 with (fail)
    rw [HWB.out]
    clear HWB hO
    obtain ⟨B, hB⟩ : ∃ B, wb.heap.size = B := ⟨_, rfl⟩
    have HZB := Lib.hid hB
    have hDB : D < wb.heap.size := by have := HBb.out.size; have := HZ.out; omega
    have n20 : (0 : Int) ≤ (n2 : Int) := by omega
    have n21 : (n2 : Int) ≤ 12 := by omega
    have n10 : (0 : Int) ≤ (n1 : Int) := by omega
    have n11 : (n1 : Int) ≤ 4000 := by omega
    have hmkI : ∀ w, (Instr.makeSlice 22 (.int .i64 (n1 : Int)) (.int .i64 (n1 : Int))).run Try.prog w = .ok (.slice (some ⟨w.heap.size, 0, none⟩) n1 n1) (w.alloc (.cells (madeCells #[.int .i64 0] n1) 3)) := fun w => run_make_row' (P := Try.prog) 22 3 (.int .i64 0) 8 Try.underlying22 infoInt9w rfl .i64 .i64 n1 (by omega) (by omega) w
    have hmkB : ∀ w, (Instr.makeSlice 23 (.int .i64 (n2 : Int)) (.int .i64 (n2 : Int))).run Try.prog w = .ok (.slice (some ⟨w.heap.size, 0, none⟩) n2 n2) (w.alloc (.cells (madeCells #[.bool false] n2) 4)) := fun w => run_make_row' (P := Try.prog) 23 4 (.bool false) 1 Try.underlying23 infoBool9 rfl .i64 .i64 n2 (by omega) (by omega) w
    have hbd := build_df13
    have HAT0 := Lib.hid (HATs.out S0 hSl)
    clear hB
    go_upto_region 10 with (fail)
    go_cut [10] from 38 to 122 (fun tv wx => ∃ Tb g1 g2, tv = .pointer (some ⟨Tb, 0, none⟩) ∧ Hid (isDf wx Tb q0 259 c0 (W : Int) (rtN tn n2 S0 : Nat) (some ⟨g1, 0, none⟩) n1 n1 (some ⟨g2, 0, none⟩) n2 n2) ∧ Hid (ipR wx B g1 n1 (fun _ => 0)) ∧ Hid (blR wx B g2 n2 n2 (fun _ => false)) ∧ B ≤ Tb ∧ Hid (Below B wb wx))
    case first =>
      have HKB : Hid (∀ w', Below B wb w' → w'.cell? ⟨D, 0, none⟩ = some (.slice q0 259 c0) ∧ w'.cell? ⟨D, 1, none⟩ = some (.int .i64 (W : Int)) ∧ w'.cell? ⟨D, 2, none⟩ = some (.int .i64 (S0 : Int)) ∧ w'.cell? ⟨D, 3, none⟩ = some (.slice q1 n1 c1) ∧ w'.cell? ⟨D, 4, none⟩ = some (.slice q2 n2 c2)) := Lib.hid fun w' h => HK.out _ (HSZ.out _ _ HBb.out (HZB.out ▸ h))
      go_region_held_law (fun w' => w'.cell? ⟨D, 0, none⟩ = some (.slice q0 259 c0) ∧ w'.cell? ⟨D, 1, none⟩ = some (.int .i64 (W : Int)) ∧ w'.cell? ⟨D, 2, none⟩ = some (.int .i64 (S0 : Int)) ∧ w'.cell? ⟨D, 3, none⟩ = some (.slice q1 n1 c1) ∧ w'.cell? ⟨D, 4, none⟩ = some (.slice q2 n2 c2))
        (exact HKB.out _ (by repeat' first | exact Below.refl _ _ | refine Below.drew ?_ | refine Below.setCell ?_ ?_ _ | refine Below.alloc ?_ ?_ _ | (simp; done) | (have := HZB.out; simp; omega) | (have := HZB.out; omega)))
        (first | (go_at_call 19; (with_reducible refine (HAT0.out _).mono ?_); rintro e wc ⟨rfl, rfl⟩))
      all_goals
        have hbz := HZB.out
        go_wp2_with fail
        go_meet
        first
          | exact ⟨wb.heap.size + 1 + 1, wb.heap.size, wb.heap.size + 1, rfl, Lib.hid (al3 wb _ _ _).2.2.1, Lib.hid (ipR_of13 (al3 wb _ _ _).1 (by omega) (by unfold maxLen; omega)), Lib.hid (blR_of13 (al3 wb _ _ _).2.1 (by omega) (by unfold maxLen; omega)), by omega, Lib.hid (hbz ▸ (al3 wb _ _ _).2.2.2)⟩
          | exact ⟨wb.heap.size + 1, wb.heap.size, wb.heap.size + 1 + 1, rfl, Lib.hid (al3 wb _ _ _).2.1, Lib.hid (ipR_of13 (al3 wb _ _ _).1 (by omega) (by unfold maxLen; omega)), Lib.hid (blR_of13 (al3 wb _ _ _).2.2.1 (by omega) (by unfold maxLen; omega)), by omega, Lib.hid (hbz ▸ (al3 wb _ _ _).2.2.2)⟩
          | exact ⟨wb.heap.size + 1 + 1, wb.heap.size + 1, wb.heap.size, rfl, Lib.hid (al3 wb _ _ _).2.2.1, Lib.hid (ipR_of13 (al3 wb _ _ _).2.1 (by omega) (by unfold maxLen; omega)), Lib.hid (blR_of13 (al3 wb _ _ _).1 (by omega) (by unfold maxLen; omega)), by omega, Lib.hid (hbz ▸ (al3 wb _ _ _).2.2.2)⟩
          | exact ⟨wb.heap.size + 1, wb.heap.size + 1 + 1, wb.heap.size, rfl, Lib.hid (al3 wb _ _ _).2.1, Lib.hid (ipR_of13 (al3 wb _ _ _).2.2.1 (by omega) (by unfold maxLen; omega)), Lib.hid (blR_of13 (al3 wb _ _ _).1 (by omega) (by unfold maxLen; omega)), by omega, Lib.hid (hbz ▸ (al3 wb _ _ _).2.2.2)⟩
          | exact ⟨wb.heap.size, wb.heap.size + 1, wb.heap.size + 1 + 1, rfl, Lib.hid (al3 wb _ _ _).1, Lib.hid (ipR_of13 (al3 wb _ _ _).2.1 (by omega) (by unfold maxLen; omega)), Lib.hid (blR_of13 (al3 wb _ _ _).2.2.1 (by omega) (by unfold maxLen; omega)), by omega, Lib.hid (hbz ▸ (al3 wb _ _ _).2.2.2)⟩
          | exact ⟨wb.heap.size, wb.heap.size + 1 + 1, wb.heap.size + 1, rfl, Lib.hid (al3 wb _ _ _).1, Lib.hid (ipR_of13 (al3 wb _ _ _).2.2.1 (by omega) (by unfold maxLen; omega)), Lib.hid (blR_of13 (al3 wb _ _ _).2.1 (by omega) (by unfold maxLen; omega)), by omega, Lib.hid (hbz ▸ (al3 wb _ _ _).2.2.2)⟩
    case rest =>
      obtain ⟨Tb, g1, g2, rfl, HT, HI, HL, hBT, HBB⟩ := hcut
      have HXE := HXN
      have HTT0 : Hid (tuT x tn 0 (fun _ => false)) := Lib.hid fun i hi => absurd hi (Nat.not_lt_zero _)
      have HTN0 : Hid (tuN x tn W 0 0 (fun _ => 0)) := Lib.hid fun i c _ _ h => by
        rcases h with h | ⟨_, h⟩
        · exact absurd h (Nat.not_lt_zero _)
        · exact absurd h (Nat.not_lt_zero _)
      clear z0 z1 z2 z3 z4 hmkI hmkB hbd HAT0 hDB
      have HDX : Hid (∀ w', Below B wb w' → Below (D + 1) w1 w') := Lib.hid fun w' h => HSZ.out _ _ HBb.out (HZB.out.symm ▸ h)
      go_wp2_with fail
      go_loopw [11] (fun sv wr => ∃ (s : Nat) (F : Nat → Bool) (G : Nat → Int), s ≤ n2 ∧ sv = .int .i64 s ∧ Hid (tuT x tn s F) ∧ Hid (tuN x tn W s 0 G) ∧ Hid (isDf wr Tb q0 259 c0 (W : Int) (rtN tn n2 S0 : Nat) (some ⟨g1, 0, none⟩) n1 n1 (some ⟨g2, 0, none⟩) n2 n2) ∧ Hid (ipR wr B g1 n1 G) ∧ Hid (blR wr B g2 n2 n2 F) ∧ Hid (Below B wb wr)) (fun sv _ => n2 - (intOf sv).toNat)
      case atStart => exact ⟨0, _, _, Nat.zero_le _, rfl, HTT0, HTN0, HT, HI, HL, HBB⟩
      case round =>
        clear HTT0 HTN0 HT HI HL HBB
        obtain ⟨s, F, G, hs, rfl, HTT, HTN, HT, HI, HL, HBB⟩ := hrel
        by_cases hlt : s < n2
        · have s0 : (0 : Int) ≤ (s : Int) := by omega
          have s1 : (s : Int) < (n2 : Int) := by omega
          obtain ⟨b2, o2, rfl, hb2, kt⟩ := HR2.out _ (HDX.out _ HBB.out) s hlt
          obtain ⟨u, hu⟩ : ∃ u, T s = u := ⟨_, rfl⟩
          rw [hu] at kt
          have HU : Hid (x.T s = u) := Lib.hid (by rw [HXE.out.2.2.1]; exact hu)
          have hAT := Lib.hid (HATs.out s hlt)
          obtain ⟨a, ha⟩ : ∃ a, rtN tn n2 s = a := ⟨_, rfl⟩
          have HA := Lib.hid ha
          rw [ha] at hAT
          have hal : a < n2 := by rw [← ha]; exact rtN_lt hnp s
          have a0 : (0 : Int) ≤ (a : Int) := by omega
          have a1 : (a : Int) < (n2 : Int) := by omega
          have hgl2 := HL.out.lt
          have hTl := HT.out.lt
          have hgT : g2 ≠ Tb := fun e => by
            have h1 := HT.out
            unfold isDf at h1
            rcases HL.out.2 with ⟨e2, _⟩ | ⟨k, cap, cur, e2, _, h2, _⟩
            · cases e2
            · cases e2
              rw [e, h1] at h2
              simp at h2
          have hTd : isDf wr.drew Tb q0 259 c0 (W : Int) (rtN tn n2 S0 : Nat) (some ⟨g1, 0, none⟩) n1 n1 (some ⟨g2, 0, none⟩) n2 n2 := HT.out
          have HTs : Hid (isDf (wr.setCell ⟨g2, a, none⟩ (.bool u)).drew Tb q0 259 c0 (W : Int) (rtN tn n2 S0 : Nat) (some ⟨g1, 0, none⟩) n1 n1 (some ⟨g2, 0, none⟩) n2 n2) := Lib.hid ((heap_setCell_other wr ⟨g2, a, none⟩ Tb (.bool u) (fun e => hgT e.symm)).trans HT.out)
          have HBs : Hid (Below B wb (wr.setCell ⟨g2, a, none⟩ (.bool u)).drew) := Lib.hid (HBB.out.setCell (p := ⟨g2, a, none⟩) hgl2.1 _).drew
          have HSf : Hid (∀ w', isDf w' Tb q0 259 c0 (W : Int) (rtN tn n2 S0 : Nat) (some ⟨g1, 0, none⟩) n1 n1 (some ⟨g2, 0, none⟩) n2 n2 → Below B wb w' → w'.cell? ⟨Tb, 3, none⟩ = some (.slice (some ⟨g1, 0, none⟩) n1 n1) ∧ w'.cell? ⟨Tb, 4, none⟩ = some (.slice (some ⟨g2, 0, none⟩) n2 n2) ∧ w'.cell? ⟨D, 0, none⟩ = some (.slice q0 259 c0) ∧ w'.cell? ⟨D, 1, none⟩ = some (.int .i64 (W : Int)) ∧ w'.cell? ⟨D, 2, none⟩ = some (.int .i64 (S0 : Int)) ∧ w'.cell? ⟨D, 3, none⟩ = some (.slice q1 n1 c1) ∧ w'.cell? ⟨D, 4, none⟩ = some (.slice (some ⟨b2, o2, none⟩) n2 c2) ∧ w'.cell? ⟨b2, o2 + s, none⟩ = some (.bool u)) := Lib.hid fun w' h h2 => by
            obtain ⟨-, -, -, f3, f4⟩ := h.cells
            obtain ⟨e0, e1, e2, e3, e4⟩ := HK.out _ (HDX.out _ h2)
            obtain ⟨bb, oo, ee, -, kk⟩ := HR2.out _ (HDX.out _ h2) s hlt
            cases ee
            rw [hu] at kk
            exact ⟨f3, f4, e0, e1, e2, e3, e4, kk⟩
          have HL2 : Hid (blR (wr.setCell ⟨g2, a, none⟩ (.bool u)).drew B g2 n2 n2 (putT F a u)) := Lib.hid (blR.put HL.out a u)
          have HI2 : Hid (ipR (wr.setCell ⟨g2, a, none⟩ (.bool u)).drew B g1 n1 G) := Lib.hid (World.ownsRow.kept (w' := wr.setCell ⟨g2, a, none⟩ (.bool u)) HI.out (grown_setCell wr g2 a _) (by
            rcases rows_apart9 HI.out HL.out (by decide) with h | h
            · exact .inl h
            · exact .inr (by simpa [Value.ownBlock] using h)))
          have HTT2 : Hid (tuT x tn (s + 1) (putT F a u)) := Lib.hid (by
            have h := tuT_put (t := tn) (show s < x.n2 by have := HXE.out.1; omega) HTT.out
            rw [HU.out, HXE.out.1, HA.out] at h
            exact h)
          have ck : wr.drew.cell? ⟨g2, a, none⟩ = some (.bool (F a)) := HL.out.cell a hal
          have fk : wr.drew.frozen? ⟨g2, a, none⟩ = false := HL.out.free a
          clear hu ha kt HTT HL HI hb2
          go_wp2_with fail
          go_region_held_law (fun w' => w'.cell? ⟨Tb, 3, none⟩ = some (.slice (some ⟨g1, 0, none⟩) n1 n1) ∧ w'.cell? ⟨Tb, 4, none⟩ = some (.slice (some ⟨g2, 0, none⟩) n2 n2) ∧ w'.cell? ⟨D, 0, none⟩ = some (.slice q0 259 c0) ∧ w'.cell? ⟨D, 1, none⟩ = some (.int .i64 (W : Int)) ∧ w'.cell? ⟨D, 2, none⟩ = some (.int .i64 (S0 : Int)) ∧ w'.cell? ⟨D, 3, none⟩ = some (.slice q1 n1 c1) ∧ w'.cell? ⟨D, 4, none⟩ = some (.slice (some ⟨b2, o2, none⟩) n2 c2) ∧ w'.cell? ⟨b2, o2 + s, none⟩ = some (.bool u))
            (first | exact HSf.out _ HT.out HBB.out.drew | exact HSf.out _ HTs.out HBs.out)
            (first | (go_at_call 19; (with_reducible refine (hAT.out _).mono ?_); rintro e wc ⟨rfl, rfl⟩))
          all_goals
            clear ck fk HT HBB hTd
            go_wp2_with fail
            obtain ⟨wq, hwq⟩ : ∃ wq, (wr.setCell ⟨g2, a, none⟩ (.bool u)).drew = wq := ⟨_, rfl⟩
            rw [hwq] at HTs HBs HL2 HI2 ⊢
            clear hwq
            have HTN2 : Hid (tuN x tn W s 0 G) := HTN
            go_loopw [12] (fun cv wr => ∃ (cc : Nat) (G : Nat → Int), cc ≤ W ∧ cv = .int .i64 cc ∧ Hid (tuN x tn W s cc G) ∧ Hid (isDf wr Tb q0 259 c0 (W : Int) (rtN tn n2 S0 : Nat) (some ⟨g1, 0, none⟩) n1 n1 (some ⟨g2, 0, none⟩) n2 n2) ∧ Hid (ipR wr B g1 n1 G) ∧ Hid (blR wr B g2 n2 n2 (putT F a u)) ∧ Hid (Below B wb wr)) (fun cv _ => W - (intOf cv).toNat)
            case atStart => exact ⟨0, G, Nat.zero_le _, rfl, HTN2, HTs, HI2, HL2, HBs⟩
            case round =>
              clear HTN HTN2 HTs HI2 HL2 HBs
              obtain ⟨cc, G, hcc, rfl, HTN, HT, HI, HL, HBB⟩ := hrel
              obtain ⟨y0, y1, y2, y3, y4⟩ := HK.out _ (HDX.out _ HBB.out)
              by_cases hltc : cc < W
              · have c0' : (0 : Int) ≤ (cc : Int) := by omega
                have c1' : (cc : Int) < (W : Int) := by omega
                obtain ⟨p, hp⟩ : ∃ p, s * W = p := ⟨_, rfl⟩
                obtain ⟨pa, hpa⟩ : ∃ pa, a * W = pa := ⟨_, rfl⟩
                have hpl : p + cc < n1 := by
                  rw [HN1.out, ← hp]
                  have := Nat.mul_le_mul_right W (show s + 1 ≤ n2 from hlt)
                  rw [Nat.succ_mul] at this
                  omega
                have hpal : pa + cc < n1 := by
                  rw [HN1.out, ← hpa]
                  have := Nat.mul_le_mul_right W (show a + 1 ≤ n2 from hal)
                  rw [Nat.succ_mul] at this
                  omega
                obtain ⟨hx0, hx1⟩ := HXR.out _ hpl
                obtain ⟨nx, hnx⟩ : ∃ nx : Nat, l1 (p + cc) = nx := ⟨(l1 (p + cc)).toNat, by omega⟩
                have hnl : nx < n2 := by omega
                obtain ⟨b1, o1, rfl, hb1, kn⟩ := HR1.out _ (HDX.out _ HBB.out) _ hpl
                rw [hnx] at kn
                have hAN := Lib.hid (HATs.out nx hnl)
                obtain ⟨an, han⟩ : ∃ an, rtN tn n2 nx = an := ⟨_, rfl⟩
                rw [han] at hAN
                have hmul : (s : Int) * (W : Int) = (p : Int) := by rw [← hp]; simp
                have hmula : (a : Int) * (W : Int) = (pa : Int) := by rw [← hpa]; simp
                have p0 : (0 : Int) ≤ (p : Int) := by omega
                have pa0 : (0 : Int) ≤ (pa : Int) := by omega
                have p1 : (p : Int) + (cc : Int) < (n1 : Int) := by omega
                have pa1 : (pa : Int) + (cc : Int) < (n1 : Int) := by omega
                have p2 : (0 : Int) ≤ (p : Int) + (cc : Int) := by omega
                have pa2 : (0 : Int) ≤ (pa : Int) + (cc : Int) := by omega
                have p4 : ((p : Int) + (cc : Int)).toNat = p + cc := by omega
                have pa4 : ((pa : Int) + (cc : Int)).toNat = pa + cc := by omega
                have wl : (W : Int) ≤ 259 := by omega
                have hgl1 := HI.out.lt
                have hgT1 : g1 ≠ Tb := fun e => by
                  have h1 := HT.out
                  unfold isDf at h1
                  rcases HI.out.2 with ⟨e2, _⟩ | ⟨k, cap, cur, e2, _, h2, _⟩
                  · cases e2
                  · cases e2
                    rw [e, h1] at h2
                    simp at h2
                have HTs : Hid (isDf (wr.setCell ⟨g1, pa + cc, none⟩ (.int .i64 (an : Int))).drew Tb q0 259 c0 (W : Int) (rtN tn n2 S0 : Nat) (some ⟨g1, 0, none⟩) n1 n1 (some ⟨g2, 0, none⟩) n2 n2) := Lib.hid ((heap_setCell_other wr ⟨g1, pa + cc, none⟩ Tb (.int .i64 (an : Int)) (fun e => hgT1 e.symm)).trans HT.out)
                have HBs : Hid (Below B wb (wr.setCell ⟨g1, pa + cc, none⟩ (.int .i64 (an : Int))).drew) := Lib.hid (HBB.out.setCell (p := ⟨g1, pa + cc, none⟩) hgl1.1 _).drew
                have HI2 : Hid (ipR (wr.setCell ⟨g1, pa + cc, none⟩ (.int .i64 (an : Int))).drew B g1 n1 (putF G (pa + cc) an)) := Lib.hid (ipR.put HI.out (pa + cc) an)
                have HL2 : Hid (blR (wr.setCell ⟨g1, pa + cc, none⟩ (.int .i64 (an : Int))).drew B g2 n2 n2 (putT F a u)) := Lib.hid (World.ownsRow.kept (w' := wr.setCell ⟨g1, pa + cc, none⟩ (.int .i64 (an : Int))) HL.out (grown_setCell wr g1 (pa + cc) _) (by
                  rcases rows_apart9 HL.out HI.out (by decide) with h | h
                  · exact .inl h
                  · exact .inr (by simpa [Value.ownBlock] using h)))
                have HSf : Hid (∀ w', isDf w' Tb q0 259 c0 (W : Int) (rtN tn n2 S0 : Nat) (some ⟨g1, 0, none⟩) n1 n1 (some ⟨g2, 0, none⟩) n2 n2 → Below B wb w' → w'.cell? ⟨Tb, 3, none⟩ = some (.slice (some ⟨g1, 0, none⟩) n1 n1) ∧ w'.cell? ⟨Tb, 4, none⟩ = some (.slice (some ⟨g2, 0, none⟩) n2 n2) ∧ w'.cell? ⟨D, 0, none⟩ = some (.slice q0 259 c0) ∧ w'.cell? ⟨D, 1, none⟩ = some (.int .i64 (W : Int)) ∧ w'.cell? ⟨D, 2, none⟩ = some (.int .i64 (S0 : Int)) ∧ w'.cell? ⟨D, 3, none⟩ = some (.slice (some ⟨b1, o1, none⟩) n1 c1) ∧ w'.cell? ⟨D, 4, none⟩ = some (.slice (some ⟨b2, o2, none⟩) n2 c2) ∧ w'.cell? ⟨b1, o1 + (p + cc), none⟩ = some (.int .i64 (nx : Int))) := Lib.hid fun w' h h2 => by
                  obtain ⟨-, -, -, f3, f4⟩ := h.cells
                  obtain ⟨e0, e1, e2, e3, e4⟩ := HK.out _ (HDX.out _ h2)
                  obtain ⟨bb, oo, ee, -, kk⟩ := HR1.out _ (HDX.out _ h2) _ hpl
                  cases ee
                  rw [hnx] at kk
                  exact ⟨f3, f4, e0, e1, e2, e3, e4, kk⟩
                have HTN2 : Hid (tuN x tn W s (cc + 1) (putF G (pa + cc) an)) := Lib.hid (by
                  have h := tuN_put (t := tn) (show s < x.n2 by have := HXE.out.1; omega) hltc HTN.out
                  rw [HXE.out.1, HA.out, hpa, HXE.out.2.2.2.2.2.2.2, hp, hnx, Int.toNat_natCast, han] at h
                  exact h)
                have ck : wr.drew.cell? ⟨g1, pa + cc, none⟩ = some (.int .i64 (G (pa + cc))) := HI.out.cell _ hpal
                have fk : wr.drew.frozen? ⟨g1, pa + cc, none⟩ = false := HI.out.free _
                have n0l : (0 : Int) ≤ (nx : Int) := by omega
                have p3 : (n1 : Int) ≤ 4000 := by omega
                have q1' : decide ((p : Int) + (cc : Int) < (n1 : Int)) = true := decide_eq_true p1
                have q2' : decide ((pa : Int) + (cc : Int) < (n1 : Int)) = true := decide_eq_true pa1
                have w1' : IntKind.i64.wrap (p : Int) = (p : Int) := by rw [IntKind.wrap_i64]; omega
                have w2' : IntKind.i64.wrap (pa : Int) = (pa : Int) := by rw [IntKind.wrap_i64]; omega
                have w3' : IntKind.i64.wrap ((p : Int) + (cc : Int)) = (p : Int) + (cc : Int) := by rw [IntKind.wrap_i64]; omega
                have w4' : IntKind.i64.wrap ((pa : Int) + (cc : Int)) = (pa : Int) + (cc : Int) := by rw [IntKind.wrap_i64]; omega
                clear hp hpa hnx han kn HTN HL HI hb1 hpl hpal hx0 hx1 hnl
                go_wp2_with fail
                clear y0 y1 y2 y3 y4
                go_region_held_law (fun w' => w'.cell? ⟨Tb, 3, none⟩ = some (.slice (some ⟨g1, 0, none⟩) n1 n1) ∧ w'.cell? ⟨Tb, 4, none⟩ = some (.slice (some ⟨g2, 0, none⟩) n2 n2) ∧ w'.cell? ⟨D, 0, none⟩ = some (.slice q0 259 c0) ∧ w'.cell? ⟨D, 1, none⟩ = some (.int .i64 (W : Int)) ∧ w'.cell? ⟨D, 2, none⟩ = some (.int .i64 (S0 : Int)) ∧ w'.cell? ⟨D, 3, none⟩ = some (.slice (some ⟨b1, o1, none⟩) n1 c1) ∧ w'.cell? ⟨D, 4, none⟩ = some (.slice (some ⟨b2, o2, none⟩) n2 c2) ∧ w'.cell? ⟨b1, o1 + (p + cc), none⟩ = some (.int .i64 (nx : Int)))
                  (first | exact HSf.out _ HT.out HBB.out.drew | exact HSf.out _ HTs.out HBs.out)
                  (first | (go_at_call 19; (with_reducible refine (hAT.out _).mono ?_); rintro e wc ⟨rfl, rfl⟩) | (go_at_call 19; (with_reducible refine (hAN.out _).mono ?_); rintro e wc ⟨rfl, rfl⟩))
                all_goals
                  clear ck fk HT HBB
                  go_wp2_with fail
                  go_roundw
                  case rel => exact ⟨cc + 1, _, by omega, by go_num, HTN2, HTs, HI2, HL2, HBs⟩
                  case measure => simp [intOf]; omega
              · have hcw : cc = W := by omega
                have dcw : decide ((cc : Int) < (W : Int)) = false := decide_eq_false (by omega)
                have HTNo : Hid (tuN x tn W (s + 1) 0 G) := Lib.hid (tuN_next (hcw ▸ HTN.out))
                clear hcw HTN
                go_wp2_with fail
                go_roundw
                case rel => exact ⟨s + 1, _, _, by omega, by go_num, HTT2, HTNo, HT, HI, HL, HBB⟩
                case measure => simp [intOf]; omega
        · have hsn : s = n2 := by omega
          obtain ⟨tt, htt⟩ : ∃ tt : Da, ⟨259, x.l0, (W : Int), ((rtN tn x.n2 x.st.toNat : Nat) : Int), x.n1, G, x.n2, F⟩ = tt := ⟨_, rfl⟩
          obtain ⟨e1, e2, e3, e4, e5, e6, e7, e8⟩ := HXE.out
          have hmn := tu_mn (t := tn) HRG.out e4 (F := F) (G := G) (by rw [e1, ← hsn]; exact HTT.out) (by rw [e1, ← hsn]; exact HTN.out)
          rw [htt] at hmn
          have hts : smD tt := by rw [← htt]; exact ⟨by show 259 ≤ 10000; omega, by show x.n1 ≤ 100000; omega, by show x.n2 ≤ 1000; omega⟩
          have htd : daAt wr (dfV q0 259 c0 (W : Int) (rtN tn n2 S0 : Nat) (some ⟨g1, 0, none⟩) n1 n1 (some ⟨g2, 0, none⟩) n2 n2) tt := by
            rw [← htt, e1, e2, e6, e7, Int.toNat_natCast]
            exact ⟨q0, c0, some ⟨g1, 0, none⟩, n1, some ⟨g2, 0, none⟩, n2, rfl, HR0.out _ (HDX.out _ HBB.out), HI.out.rd, fun j hj => ⟨g2, 0, rfl, HL.out.lt.2, by rw [Nat.zero_add]; exact HL.out.cell j hj⟩⟩
          have HOt := Lib.hid (HOO.out _ tt wr hts htd)
          have HTG := Lib.hid hmn.1
          have HTE : Hid (mnD tt = y) := Lib.hid (hmn.2.trans HY.out)
          obtain ⟨f0, f1, f2, f3, f4⟩ := HT.out.cells
          have ds : decide ((s : Int) < (n2 : Int)) = false := decide_eq_false (by omega)
          have dsn : decide (s < n2) = false := decide_eq_false hlt
          have hTbl := HT.out.lt
          clear htt hmn hts htd hsn e1 e2 e3 e4 e5 e6 e7 e8 HTT HTN HI HL
          go_wp2_with fail
          refine HOt.out.mono ?_
          rintro e wp ⟨ho1, -, ho3⟩
          obtain ⟨vp, rfl, hdp⟩ := ho1 HTG.out
          rw [HTE.out] at hdp
          have hdq := hdp
          obtain ⟨t0, h0, t1, h1, t2, h2, rfl, -, -, -⟩ := hdp
          obtain ⟨wz, hwz⟩ : ∃ wz, wp.alloc (.cells #[.slice t0 y.n0 h0, .int .i64 y.wd, .int .i64 y.st, .slice t1 y.n1 h1, .slice t2 y.n2 h2] 25) = wz := ⟨_, rfl⟩
          have hbz : Below wp.heap.size wp wz := hwz ▸ (Below.refl _ _).alloc (Nat.le_refl _) _
          obtain ⟨P, hP⟩ : ∃ P, wp.heap.size = P := ⟨_, rfl⟩
          have hkz : isDf wz P t0 y.n0 h0 y.wd y.st t1 y.n1 h1 t2 y.n2 h2 := by rw [← hwz, ← hP]; exact heap_alloc_new wp _
          have hBz : Below B wb wz := HBB.out.trans ((ho3.trans (hbz.mono ho3.size)).mono (by have := HBB.out.size; have := HZB.out; omega))
          have HAz : Hid (Below wb.heap.size wb wz) := Lib.hid (HZB.out.symm ▸ hBz)
          have HMz : Hid (Below wa.heap.size wa wz) := Lib.hid (HAB.out.trans (HAz.out.mono HAB.out.size))
          have HDP : Hid (∀ w', Below wz.heap.size wz w' → daAt w' (dfV t0 y.n0 h0 y.wd y.st t1 y.n1 h1 t2 y.n2 h2) y) := Lib.hid fun w' h => (hdq.below hbz).below h
          have HSb : Hid (y.n0 ≤ maxLen ∧ y.n1 ≤ maxLen ∧ y.n2 ≤ maxLen) := Lib.hid (by
            obtain ⟨a, b, c⟩ := HYM.out
            unfold maxLen
            omega)
          have HSs : Hid (∀ v' w', daAt w' (dfV p0 y.n0 d0 y.wd y.st p1 y.n1 d1 p2 y.n2 d2) y → daAt w' v' y → Calls Try.prog 20 #[dfV p0 y.n0 d0 y.wd y.st p1 y.n1 d1 p2 y.n2 d2, v'] w' fun e wf => e = .returned (.bool true) ∧ Below w'.heap.size w' wf) := Lib.hid fun v' w' hv hv' => by
            have := HSA.out _ v' y y w' HSb.out.1 HSb.out.2.1 HSb.out.2.2 HSb.out.1 HSb.out.2.1 HSb.out.2.2 hv hv'
            rw [saB_iff.2 (saP_refl y)] at this
            exact this
          have HKP : Hid (∀ w', Below wz.heap.size wz w' → isDf w' P t0 y.n0 h0 y.wd y.st t1 y.n1 h1 t2 y.n2 h2) := Lib.hid fun w' h => hkz.below h hkz.lt
          have HWZ := Lib.hid hwz
          have HZD : Hid (Below (D + 1) w1 wz) := Lib.hid (HDX.out _ hBz)
          clear ho1 ho3 hwz hbz hkz hBz hdq f0 f1 f2 f3 f4 HOt HBB HT
          obtain ⟨m0, m1, m2, m3, m4⟩ := (HKM.out _ HMz.out).cells
          obtain ⟨o0, o1, o2, o3, o4⟩ := (HKO.out _ HAz.out).cells
          obtain ⟨r0', r1', r2', r3', r4'⟩ := (HKP.out _ (Below.refl _ _)).cells
          go_upto_region 20 with (fail)
          rw [HWZ.out]
          clear HWZ hP
          go_wp2_with fail
          refine (HSs.out _ _ (HDM.out _ HMz.out) (HDO.out _ HAz.out)).mono ?_
          rintro e wf ⟨rfl, hbf⟩
          have HBF := Lib.hid hbf
          clear hbf m0 m1 m2 m3 m4 o0 o1 o2 o3 o4 r0' r1' r2' r3' r4'
          obtain ⟨m0, m1, m2, m3, m4⟩ := (HKM.out _ (HMz.out.trans (HBF.out.mono HMz.out.size))).cells
          obtain ⟨r0', r1', r2', r3', r4'⟩ := (HKP.out _ HBF.out).cells
          go_wp2_with fail
          refine (HSs.out _ _ (HDM.out _ (HMz.out.trans (HBF.out.mono HMz.out.size))) (HDP.out _ HBF.out)).mono ?_
          rintro e wg ⟨rfl, hbg⟩
          have HBG : Hid (Below w.heap.size w wg) := Lib.hid (HF.out _ (HSZ.out _ _ (HSZ.out _ _ HZD.out HBF.out) hbg))
          clear hbg m0 m1 m2 m3 m4 r0' r1' r2' r3' r4'
          go_wp2_with fail
          go_returns
          exact ⟨rfl, HBG.out⟩
end Go.Proofs.Ytnoaejpabfnfpaa
