/-
  The walk of the law MiniLeast, over whatever Of (and Blocks) are that do as the page says.
-/
import Derived.Test.YtnoaejpabfnfpaaPk35
import Derived.Test.YtnoaejpabfnfpaaPk8
import Derived.Test.YtnoaejpabfnfpaaPk27
namespace Go.Proofs.Ytnoaejpabfnfpaa
open Go.RowKit

theorem rwD_run {x : Da} (s : Nat) (l : Nat → Int) : ∀ k, (∀ j, j < k → 0 ≤ l j ∧ l j < 259) → rwD x s l k = some (runW x s ((List.range k).map fun j => (l j).toNat))
  | 0, _ => rfl
  | k + 1, h => by
    rw [rwD_go (rwD_run s l k fun j hj => h j (by omega)) (by have := h k (by omega); omega), List.range_succ, List.map_append, runW_append]
    rfl
theorem rwD_bad13 {x : Da} {s : Nat} {l : Nat → Int} {j k : Nat} (hj : j < k) (hl : ¬ (0 ≤ l j ∧ l j < 259)) : rwD x s l k = none := by
  cases h : rwD x s l j with
  | none => exact rwD_none h k (by omega)
  | some t => exact rwD_stop h (by omega) hj
/-- What is accepted, by what is left of words. -/
theorem acD_ln {x : Da} (hx : rgD x) (l : Nat → Int) (k : Nat) : acD x l k = true ↔ (∀ j, j < k → 0 ≤ l j ∧ l j < 259) ∧ lnW x x.st.toNat ((List.range k).map fun j => (l j).toNat) := by
  have hs : 0 ≤ x.st ∧ x.st < x.n2 := ⟨hx.2.2.2.2.2.2.1, hx.2.2.2.2.2.2.2.1⟩
  have hr : rnD x x.st l k = match rwD x x.st.toNat l k with | none => -1 | some t => (t : Int) := by
    unfold rnD
    rw [if_pos ⟨rgB_yes hx, hs.1, hs.2⟩] <;> rfl
  unfold acD
  rw [@decide_eq_true_iff _ (Classical.propDecidable _), hr]
  by_cases h : ∀ j, j < k → 0 ≤ l j ∧ l j < 259
  · rw [rwD_run _ l k h]
    constructor
    · rintro ⟨-, h2⟩
      refine ⟨h, fun y hy => ?_, by simpa using h2⟩
      obtain ⟨j, hj, rfl⟩ := List.mem_map.1 hy
      have := h j (List.mem_range.1 hj)
      omega
    · rintro ⟨-, -, h2⟩
      exact ⟨Int.natCast_nonneg _, by simpa using h2⟩
  · have : ∃ j, j < k ∧ ¬ (0 ≤ l j ∧ l j < 259) := Classical.byContradiction fun hn => h fun j hj => Classical.byContradiction fun g => hn ⟨j, hj, g⟩
    obtain ⟨j, h1, h2⟩ := this
    rw [rwD_bad13 h1 h2]
    exact ⟨fun g => absurd g.1 (by decide), fun g => absurd (g.1 j h1) h2⟩
theorem acD_mn {x : Da} (hx : rgD x) (l : Nat → Int) (k : Nat) : acD (mnD x) l k = acD x l k := by
  rw [Bool.eq_iff_iff, acD_ln (mnD_rg hx), acD_ln hx]
  have e : lnW (mnD x) (mnD x).st.toNat = lnW x x.st.toNat := mnD_ln hx
  rw [e]

set_option maxRecDepth 100000 in
set_option maxHeartbeats 20000000 in
theorem mleast13 (hA : ∀ w, Calls Try.prog 6 #[] w fun e w' => e = .returned (.bool true) ∧ Below w.heap.size w w') (hO : MofD) (hG : RigD) (hAc : AccD)
    (q0 : Option Addr) (n0 c0 : Nat) (wd st : Int) (q1 : Option Addr) (n1 c1 : Nat) (q2 : Option Addr) (n2 c2 : Nat) (l0 l1 : Nat → Int) (T : Nat → Bool) (q : Option Addr) (n cap k : Nat) (hk : k = min n 30) (hcap : n ≤ cap) (l : Nat → Int) (w : World) (hl : rdL w q k l) (hr0 : n0 ≤ 300 → rdL w q0 n0 l0) (hr1 : n1 ≤ 4000 → rdL w q1 n1 l1) (hr2 : n2 ≤ 12 → rdBs w q2 n2 T) :
    Calls Try.prog 4 #[dfV q0 n0 c0 wd st q1 n1 c1 q2 n2 c2, .slice q n cap] w fun e w' => e = .returned (.bool true) ∧ Below w.heap.size w w' := by
  have h1 : (if (30 : Int) < (n : Int) then (30 : Int) else (n : Int)) = (k : Int) := by split <;> omega
  have e1 : min (n : Int) 30 = (k : Int) := by omega
  have H1 := Lib.hid h1
  have k0 : (0 : Int) ≤ (k : Int) := by omega
  have k1 : (k : Int) ≤ (cap : Int) := by omega
  have k2 : k ≤ 30 := by omega
  clear h1 hk
  obtain ⟨D, hD⟩ : ∃ D, w.heap.size = D := ⟨_, rfl⟩
  obtain ⟨w1, hw1⟩ : ∃ w1, w.alloc (.cells #[.slice q0 n0 c0, .int .i64 wd, .int .i64 st, .slice q1 n1 c1, .slice q2 n2 c2] 25) = w1 := ⟨_, rfl⟩
  have hz1 : w1.heap.size = D + 1 := by rw [← hw1, World.size_alloc, hD]
  have hb1 : Below D w w1 := hw1 ▸ (Below.refl _ _).alloc (by omega) _
  have hk1 : isDf w1 D q0 n0 c0 wd st q1 n1 c1 q2 n2 c2 := hw1 ▸ hD ▸ heap_alloc_new w _
  have HK := Lib.hid (fun w' (h : Below (D + 1) w1 w') => (hk1.below h (Nat.lt_succ_self D)).cells)
  have HAw := Lib.hid hA
  have HSm := Lib.hid (fun w => small13 q0 n0 c0 wd st q1 n1 c1 q2 n2 c2 w)
  have HF : Hid (∀ w', Below (D + 1) w1 w' → Below w.heap.size w w') := Lib.hid fun w' h => by rw [hD]; exact hb1.trans (h.mono (by omega))
  have HW1 := Lib.hid hw1; have HZ := Lib.hid hz1
  have HSZ : Hid (∀ w' w'', Below (D + 1) w1 w' → Below w'.heap.size w' w'' → Below (D + 1) w1 w'') := Lib.hid fun w' w'' h h' => h.trans (h'.mono (by have := h.size; omega))
  cases hsm : (decide ((n2 : Int) ≤ 12) && decide ((n1 : Int) ≤ 4000) && decide ((n0 : Int) ≤ 300))
  · rw [hsm] at HSm
    clear hw1 hk1 hb1 hz1 hA hO hG hAc hr0 hr1 hr2 hl hsm
    go_enter Try.func4, Try.ntmps4
    go_upto_region 1 with (fail)
    rw [HW1.out]
    clear hD
    go_wp2_with fail
    refine (HAw.out _).mono ?_
    rintro e w2 ⟨rfl, hb2⟩
    have HB2 : Hid (Below (D + 1) w1 w2) := Lib.hid (HZ.out ▸ hb2)
    obtain ⟨z0, z1, z2, z3, z4⟩ := HK.out _ HB2.out
    clear hb2
    go_wp2_with (refine wpList_plain rfl fun _ hK => wp_min9 _ _ rfl (n : Int) 30 (k : Int) rfl rfl H1.out (hK _ _ ?_))
    refine (HSm.out _).mono ?_
    rintro e w3 ⟨rfl, hb3⟩
    have HB3 : Hid (Below (D + 1) w1 w3) := Lib.hid (HSZ.out _ _ HB2.out hb3)
    clear hb3 z0 z1 z2 z3 z4 HSm HAw HB2
    obtain ⟨z0, z1, z2, z3, z4⟩ := HK.out _ HB3.out
    go_wp2_with fail
    go_returns
    exact ⟨rfl, HF.out _ HB3.out⟩
  rw [hsm] at HSm
  have hs3 : n2 ≤ 12 ∧ n1 ≤ 4000 ∧ n0 ≤ 300 := by
    simp only [Bool.and_eq_true, decide_eq_true_eq] at hsm
    omega
  have hd1 : daAt w (dfV q0 n0 c0 wd st q1 n1 c1 q2 n2 c2) ⟨n0, l0, wd, st, n1, l1, n2, T⟩ := ⟨q0, c0, q1, c1, q2, c2, rfl, hr0 hs3.2.2, hr1 hs3.2.1, hr2 hs3.1⟩
  obtain ⟨x, hx⟩ : ∃ x : Da, ⟨n0, l0, wd, st, n1, l1, n2, T⟩ = x := ⟨_, rfl⟩
  rw [hx] at hd1
  have hxn : x.n2 = n2 ∧ x.st = st ∧ x.T = T ∧ x.wd = wd ∧ x.n0 = n0 ∧ x.n1 = n1 ∧ x.l0 = l0 ∧ x.l1 = l1 := by rw [← hx]; exact ⟨rfl, rfl, rfl, rfl, rfl, rfl, rfl, rfl⟩
  have hsd : smD x := by rw [← hx]; exact ⟨show n0 ≤ 10000 by omega, show n1 ≤ 100000 by omega, show n2 ≤ 1000 by omega⟩
  have HDA := Lib.hid (fun w' (h : Below (D + 1) w1 w') => hd1.below (hD.symm ▸ hb1.trans (h.mono (Nat.le_succ D))))
  have HXN := Lib.hid hxn
  have HSD := Lib.hid hsd
  have HOf := Lib.hid (fun w' (h : Below (D + 1) w1 w') => hO _ x w' hsd (HDA.out w' h))
  have HRt := Lib.hid (fun w' (h : Below (D + 1) w1 w') => rright12 _ x hsd.1 hsd.2.1 hsd.2.2 w' (HDA.out w' h))
  have HL := Lib.hid (fun w' (h : Below (D + 1) w1 w') => hl.below (hD.symm ▸ hb1.trans (h.mono (Nat.le_succ D))))
  have HAd := Lib.hid (fun w' (h : Below (D + 1) w1 w') => hAc _ x q k cap l w' hsd (by omega) (HDA.out w' h) (HL.out w' h))
  have HGG := Lib.hid hG; have HAC := Lib.hid hAc
  clear hw1 hk1 hb1 hz1 hA hO hG hAc hr0 hr1 hr2 hsm hd1 hx hxn hsd hl
  go_enter Try.func4, Try.ntmps4
  go_upto_region 1 with (fail)
  rw [HW1.out]
  clear hD
  go_wp2_with fail
  refine (HAw.out _).mono ?_
  rintro e w2 ⟨rfl, hb2⟩
  have HB2 : Hid (Below (D + 1) w1 w2) := Lib.hid (HZ.out ▸ hb2)
  obtain ⟨z0, z1, z2, z3, z4⟩ := HK.out _ HB2.out
  clear hb2
  go_wp2_with (refine wpList_plain rfl fun _ hK => wp_min9 _ _ rfl (n : Int) 30 (k : Int) rfl rfl H1.out (hK _ _ ?_))
  refine (HSm.out _).mono ?_
  rintro e w3 ⟨rfl, hb3⟩
  have HB3 : Hid (Below (D + 1) w1 w3) := Lib.hid (HSZ.out _ _ HB2.out hb3)
  clear hb3 z0 z1 z2 z3 z4 HSm HAw HB2
  obtain ⟨z0, z1, z2, z3, z4⟩ := HK.out _ HB3.out
  go_wp2_with fail
  refine (HOf.out _ HB3.out).mono ?_
  rintro e w5 ⟨ho1, ho2, ho3⟩
  have HB5 : Hid (Below (D + 1) w1 w5) := Lib.hid (HSZ.out _ _ HB3.out ho3)
  cases hg : rgB x with
  | false =>
    have hng : ¬ rgD x := fun h => by rw [rgB_yes h] at hg; cases hg
    obtain ⟨v', x', rfl, hd', hn'⟩ := ho2 hng
    obtain ⟨p0, d0, p1, d1, p2, d2, rfl, -, -, -⟩ := hd'
    have hrt := fun w' h => HRt.out w' h
    rw [hg] at hrt
    have HRT := Lib.hid hrt
    obtain ⟨wa, hwa⟩ : ∃ wa, w5.alloc (.cells #[.slice p0 x'.n0 d0, .int .i64 x'.wd, .int .i64 x'.st, .slice p1 x'.n1 d1, .slice p2 x'.n2 d2] 25) = wa := ⟨_, rfl⟩
    have hba : Below w5.heap.size w5 wa := hwa ▸ (Below.refl _ _).alloc (Nat.le_refl _) _
    have HBa : Hid (Below (D + 1) w1 wa) := Lib.hid (HSZ.out _ _ HB5.out hba)
    have HWA := Lib.hid hwa
    clear ho1 ho2 ho3 hn' hwa hba hg hng hrt z0 z1 z2 z3 z4 HOf HRt
    obtain ⟨z0, z1, z2, z3, z4⟩ := HK.out _ HBa.out
    go_upto_region 7 with (fail)
    rw [HWA.out]
    clear HWA
    go_wp2_with fail
    refine (HRT.out _ HBa.out).mono ?_
    rintro e w6 ⟨rfl, hb6⟩
    have HB6 : Hid (Below (D + 1) w1 w6) := Lib.hid (HSZ.out _ _ HBa.out hb6)
    clear hb6 z0 z1 z2 z3 z4
    go_wp2_with fail
    go_returns
    exact ⟨rfl, HF.out _ HB6.out⟩
  | true =>
    have hrg := rgB_iff.1 hg
    have HRG := Lib.hid hrg
    obtain ⟨v', rfl, hd'⟩ := ho1 hrg
    have hyr := mnD_rg hrg
    have hys : (mnD x).st = 0 := rfl
    have hyl := mnD_le hrg
    have hym := mnD_sm hrg (by rw [HXN.out.1]; exact hs3.1)
    have hyR : ∀ i, i < (mnD x).n2 → rtE (edD (mnD x)) 0 i := fun i hi => mnD_reach hrg hi
    have hyA : ∀ i j, i < (mnD x).n2 → j < (mnD x).n2 → lnW (mnD x) i = lnW (mnD x) j → i = j := fun i j hi hj e => mnD_apart hrg hi hj e
    have hyc : acD (mnD x) l k = acD x l k := acD_mn hrg l k
    obtain ⟨y, hy⟩ : ∃ y, mnD x = y := ⟨_, rfl⟩
    rw [hy] at hd' hyr hys hyl hym hyR hyA hyc
    obtain ⟨N, hN⟩ : ∃ N, y.n2 = N + 1 := ⟨y.n2 - 1, by have := hyr.2.2.2.1; omega⟩
    have hd9 := hd'
    obtain ⟨p0, d0, p1, d1, p2, d2, rfl, -, -, -⟩ := hd'
    rw [hys] at hd9 ⊢
    obtain ⟨wa, hwa⟩ : ∃ wa, w5.alloc (.cells #[.slice p0 y.n0 d0, .int .i64 y.wd, .int .i64 0, .slice p1 y.n1 d1, .slice p2 y.n2 d2] 25) = wa := ⟨_, rfl⟩
    have hba : Below w5.heap.size w5 wa := hwa ▸ (Below.refl _ _).alloc (Nat.le_refl _) _
    obtain ⟨M, hM⟩ : ∃ M, w5.heap.size = M := ⟨_, rfl⟩
    have hka : isDf wa M p0 y.n0 d0 y.wd 0 p1 y.n1 d1 p2 y.n2 d2 := by rw [← hwa, ← hM]; exact heap_alloc_new w5 _
    have HBa : Hid (Below (D + 1) w1 wa) := Lib.hid (HSZ.out _ _ HB5.out hba)
    have HKM : Hid (∀ w', Below wa.heap.size wa w' → isDf w' M p0 y.n0 d0 y.wd 0 p1 y.n1 d1 p2 y.n2 d2) := Lib.hid fun w' h => hka.below h hka.lt
    have HDM : Hid (∀ w', Below wa.heap.size wa w' → daAt w' (dfV p0 y.n0 d0 y.wd 0 p1 y.n1 d1 p2 y.n2 d2) y) := Lib.hid fun w' h => (hd9.below hba).below h
    have HUn := Lib.hid (fun w' (h : Below wa.heap.size wa w') => unlike13 _ y hyr hym.2.1 hym.2.2 N hN w' (HDM.out w' h))
    have HCm := Lib.hid (fun w' (h : Below wa.heap.size wa w') => comes12 _ y hyr hym.2.1 hym.2.2 N hN w' (HDM.out w' h))
    have HRy : Hid (∀ w', Below wa.heap.size wa w' → Calls Try.prog 17 #[dfV p0 y.n0 d0 y.wd 0 p1 y.n1 d1 p2 y.n2 d2] w' fun e w'' => e = .returned (.bool true) ∧ Below w'.heap.size w' w'') := Lib.hid fun w' h => by
      have := HGG.out _ y w' hym (HDM.out w' h)
      rw [rgB_yes hyr] at this
      exact this
    have HAy := Lib.hid (fun w' (h : Below wa.heap.size wa w') => HAC.out _ y q k cap l w' hym (by omega) (HDM.out w' h) (HL.out _ (HSZ.out _ _ HBa.out h)))
    obtain ⟨ac, hac⟩ : ∃ ac, acD x l k = ac := ⟨_, rfl⟩
    rw [hac] at HAd hyc
    rw [hyc] at HAy
    have HYR : Hid (∀ i, i < y.n2 → wsh (edD y) (N + 1) 0 i = true) := Lib.hid fun i hi => by
      rw [← hN, comes_iff hyr (by rw [hN]; omega)]
      exact hyR i hi
    have HYA := Lib.hid hyA
    have hn2l : decide ((y.n2 : Int) ≤ (n2 : Int)) = true := decide_eq_true (by have := HXN.out.1; omega)
    obtain ⟨m, hm⟩ : ∃ m, y.n2 = m := ⟨_, rfl⟩
    have hmN : N + 1 = m := by omega
    have HMN := Lib.hid hmN
    have hm12 : m ≤ 12 := by have := HXN.out.1; omega
    rw [hm] at HKM HDM HUn HCm HRy HAy HYR HYA hn2l hwa ⊢
    have HWA := Lib.hid hwa
    clear ho1 ho2 ho3 hwa hba hka hd9 hy z0 z1 z2 z3 z4 HOf HRt hg hrg hyr hys hyl hym hyR hyA hyc hN hac hm hmN
    obtain ⟨z0, z1, z2, z3, z4⟩ := HK.out _ HBa.out
    go_upto_region 7 with (fail)
    rw [HWA.out]
    clear HWA hM
    have HKC : Hid (∀ w', Below wa.heap.size wa w' → w'.cell? ⟨M, 0, none⟩ = some (.slice p0 y.n0 d0) ∧ w'.cell? ⟨M, 1, none⟩ = some (.int .i64 y.wd) ∧ w'.cell? ⟨M, 2, none⟩ = some (.int .i64 0) ∧ w'.cell? ⟨M, 3, none⟩ = some (.slice p1 y.n1 d1) ∧ w'.cell? ⟨M, 4, none⟩ = some (.slice p2 m d2)) := Lib.hid fun w' h => (HKM.out w' h).cells
    obtain ⟨y0, y1, y2, y3, y4⟩ := HKC.out _ (Below.refl _ _)
    have hB : Below wa.heap.size wa wa.drew := (Below.refl _ _).drew
    go_wp2_with fail
    clear z0 z1 z2 z3 z4 y0 y1 y2 y3 y4
    go_region_held_law (fun w' => w'.cell? ⟨M, 0, none⟩ = some (.slice p0 y.n0 d0) ∧ w'.cell? ⟨M, 1, none⟩ = some (.int .i64 y.wd) ∧ w'.cell? ⟨M, 2, none⟩ = some (.int .i64 0) ∧ w'.cell? ⟨M, 3, none⟩ = some (.slice p1 y.n1 d1) ∧ w'.cell? ⟨M, 4, none⟩ = some (.slice p2 m d2))
      (exact HKC.out _ hB)
      (first
        | (go_at_call 15; (with_reducible refine (HUn.out _ hB).mono ?_); rintro e wu ⟨vu, Mu, rfl, hgu, hmu, hbu⟩; obtain ⟨gu, cu, ru, rfl, hu1, hu2, hu3⟩ := rdG.of hgu; have HU1 := Lib.hid hu1; have HU2 := Lib.hid hu2; have HU3 := Lib.hid hu3; have HMU := Lib.hid hmu; have HBU := Lib.hid hbu; have HWU := Lib.hid hB; (replace hB := hB.trans (hbu.mono hB.size)); clear hgu hmu hbu hu1 hu2 hu3)
        | (go_at_call 16; (with_reducible refine (HCm.out _ hB).mono ?_); rintro e wc ⟨vc, rfl, hgc, hbc⟩; obtain ⟨gc, cc, rc, rfl, hc1, hc2, hc3⟩ := rdG.of hgc; have HC1 := Lib.hid hc1; have HC2 := Lib.hid hc2; have HC3 := Lib.hid hc3; have HBC := Lib.hid hbc; (replace hB := hB.trans (hbc.mono hB.size)); clear hgc hbc hc1 hc2 hc3))
    all_goals
      rw [HMN.out]
      have HB8 : Hid (Below wa.heap.size wa wc) := Lib.hid hB
      have HU : Hid (∀ w', Below wc.heap.size wc w' → ∀ i j, i < m → j < m → w'.cell? ⟨gu, i, none⟩ = some (.slice (some ⟨ru i, 0, none⟩) m m) ∧ w'.cell? ⟨ru i, j, none⟩ = some (.bool (Mu i j))) := Lib.hid fun w' h i j hi hj => by
        have e := HMN.out
        subst e
        have hh : Below wu.heap.size wu w' := HBC.out.trans (h.mono HBC.out.size)
        exact ⟨(hh.cell (p := ⟨gu, i, none⟩) HU1.out).trans (HU2.out i (by omega)), (hh.cell (p := ⟨ru i, j, none⟩) (HU3.out i (by omega)).1).trans ((HU3.out i (by omega)).2 j (by omega))⟩
      have HC : Hid (∀ w', Below wc.heap.size wc w' → ∀ j, j < m → w'.cell? ⟨gc, 0, none⟩ = some (.slice (some ⟨rc 0, 0, none⟩) m m) ∧ w'.cell? ⟨rc 0, j, none⟩ = some (.bool true)) := Lib.hid fun w' h j hj => by
        have e := HMN.out
        subst e
        have h2 := (HC3.out 0 (by omega)).2 j (by omega)
        rw [HYR.out j hj] at h2
        exact ⟨(h.cell (p := ⟨gc, 0, none⟩) HC1.out).trans (HC2.out 0 (by omega)), (h.cell (p := ⟨rc 0, j, none⟩) (HC3.out 0 (by omega)).1).trans h2⟩
      have HAP : Hid (∀ i j, i < m → j < i → Mu i j = true) := Lib.hid fun i j hi hj => (HMU.out i j (by have := HMN.out; omega) (by have := HMN.out; omega)).2 fun e => by
        have := HYA.out i j hi (by omega) e
        omega
      clear hB HU1 HU2 HU3 HC1 HC2 HC3 HMU HBU HBC HWU HUn HCm
      have m0 : (0 : Int) < (m : Int) := by have := HMN.out; omega
      go_wp2_with fail
      go_loopw [9] (fun iv wr => ∃ i : Nat, i ≤ m ∧ iv = .int .i64 i ∧ Hid (Below wc.heap.size wc wr)) (fun iv _ => m - (intOf iv).toNat)
      case atStart => exact ⟨0, Nat.zero_le _, rfl, Lib.hid (Below.refl _ _)⟩
      case round =>
        obtain ⟨i, hi, rfl, HB⟩ := hrel
        by_cases hlt : i < m
        · have i0 : (0 : Int) ≤ (i : Int) := by omega
          have i1 : (i : Int) < (m : Int) := by omega
          obtain ⟨cg, cr⟩ := HC.out _ HB.out i hlt
          obtain ⟨y0, y1, y2, y3, y4⟩ := HKC.out _ (HB8.out.trans (HB.out.mono HB8.out.size))
          go_wp2_with fail
          clear cg cr y0 y1 y2 y3 y4
          go_loopw [10] (fun jv wr => ∃ j : Nat, j ≤ i ∧ jv = .int .i64 j ∧ Hid (Below wc.heap.size wc wr)) (fun jv _ => i - (intOf jv).toNat)
          case atStart => exact ⟨0, Nat.zero_le _, rfl, HB⟩
          case round =>
            clear HB
            obtain ⟨j, hj, rfl, HB⟩ := hrel
            by_cases hltj : j < i
            · have j0 : (0 : Int) ≤ (j : Int) := by omega
              have j1 : (j : Int) < (i : Int) := by omega
              have j2 : (j : Int) < (m : Int) := by omega
              obtain ⟨ug, ur⟩ := HU.out _ HB.out i j hlt (by omega)
              rw [HAP.out i j hlt hltj] at ur
              go_wp2_with fail
              go_roundw
              case rel => exact ⟨j + 1, by omega, by go_num, HB⟩
              case measure => simp [intOf]; omega
            · obtain hji : j = i := by omega
              have dji : decide ((j : Int) < (i : Int)) = false := decide_eq_false (by omega)
              clear hji
              go_wp2_with fail
              go_roundw
              case rel => exact ⟨i + 1, by omega, by go_num, HB⟩
              case measure => simp [intOf]; omega
        · have hmi : decide ((i : Int) < (m : Int)) = false := decide_eq_false (by omega)
          have hmn : decide (i < m) = false := decide_eq_false hlt
          have HB9 : Hid (Below wa.heap.size wa wr) := Lib.hid (HB8.out.trans (HB.out.mono HB8.out.size))
          have HS9 : Hid (∀ w', Below wr.heap.size wr w' → w'.cell? ⟨D, 0, none⟩ = some (.slice q0 n0 c0) ∧ w'.cell? ⟨D, 1, none⟩ = some (.int .i64 wd) ∧ w'.cell? ⟨D, 2, none⟩ = some (.int .i64 st) ∧ w'.cell? ⟨D, 3, none⟩ = some (.slice q1 n1 c1) ∧ w'.cell? ⟨D, 4, none⟩ = some (.slice q2 n2 c2) ∧ w'.cell? ⟨M, 0, none⟩ = some (.slice p0 y.n0 d0) ∧ w'.cell? ⟨M, 1, none⟩ = some (.int .i64 y.wd) ∧ w'.cell? ⟨M, 2, none⟩ = some (.int .i64 0) ∧ w'.cell? ⟨M, 3, none⟩ = some (.slice p1 y.n1 d1) ∧ w'.cell? ⟨M, 4, none⟩ = some (.slice p2 m d2)) := Lib.hid fun w' h => by
            have hh := HB9.out.trans (h.mono HB9.out.size)
            obtain ⟨e0, e1, e2, e3, e4⟩ := HK.out _ (HSZ.out _ _ HBa.out hh)
            obtain ⟨f0, f1, f2, f3, f4⟩ := HKC.out _ hh
            exact ⟨e0, e1, e2, e3, e4, f0, f1, f2, f3, f4⟩
          have HRz : Hid (∀ w', Below wr.heap.size wr w' → Calls Try.prog 17 #[dfV p0 y.n0 d0 y.wd 0 p1 y.n1 d1 p2 m d2] w' fun e w'' => e = .returned (.bool true) ∧ Below w'.heap.size w' w'') := Lib.hid fun w' h => HRy.out w' (HB9.out.trans (h.mono HB9.out.size))
          have HAz := Lib.hid (fun w' (h : Below wr.heap.size wr w') => HAy.out w' (HB9.out.trans (h.mono HB9.out.size)))
          have HAe := Lib.hid (fun w' (h : Below wr.heap.size wr w') => HAd.out w' (HSZ.out _ _ HBa.out (HB9.out.trans (h.mono HB9.out.size))))
          have hB : Below wr.heap.size wr wr.drew := (Below.refl _ _).drew
          have hcc : (ac == ac) = true := by simp
          have hn2n : decide (m ≤ n2) = true := decide_eq_true (by have := of_decide_eq_true hn2l; omega)
          have hn2p : (m : Int) ≤ (n2 : Int) := of_decide_eq_true hn2l
          have hn2q : m ≤ n2 := by omega
          clear hlt
          go_wp2_with fail
          go_region_held_law (fun w' => w'.cell? ⟨D, 0, none⟩ = some (.slice q0 n0 c0) ∧ w'.cell? ⟨D, 1, none⟩ = some (.int .i64 wd) ∧ w'.cell? ⟨D, 2, none⟩ = some (.int .i64 st) ∧ w'.cell? ⟨D, 3, none⟩ = some (.slice q1 n1 c1) ∧ w'.cell? ⟨D, 4, none⟩ = some (.slice q2 n2 c2) ∧ w'.cell? ⟨M, 0, none⟩ = some (.slice p0 y.n0 d0) ∧ w'.cell? ⟨M, 1, none⟩ = some (.int .i64 y.wd) ∧ w'.cell? ⟨M, 2, none⟩ = some (.int .i64 0) ∧ w'.cell? ⟨M, 3, none⟩ = some (.slice p1 y.n1 d1) ∧ w'.cell? ⟨M, 4, none⟩ = some (.slice p2 m d2))
            (exact HS9.out _ hB)
            (first
              | (go_at_call 17; (with_reducible refine (HRz.out _ hB).mono ?_); rintro e wx ⟨rfl, hbx⟩; (replace hB := hB.trans (hbx.mono hB.size)); clear hbx)
              | (go_at_call 18; (with_reducible refine (HAz.out _ hB).mono ?_); rintro e wy ⟨rfl, hby⟩; (replace hB := hB.trans (hby.mono hB.size)); clear hby)
              | (go_at_call 18; (with_reducible refine (HAe.out _ hB).mono ?_); rintro e wz ⟨rfl, hbz⟩; (replace hB := hB.trans (hbz.mono hB.size)); clear hbz))
          all_goals
            have HBe := Lib.hid (HF.out _ (HSZ.out _ _ HBa.out (HB9.out.trans (hB.mono HB9.out.size))))
            clear hB
            go_wp2_with fail
            go_returns
            exact ⟨rfl, HBe.out⟩
end Go.Proofs.Ytnoaejpabfnfpaa
