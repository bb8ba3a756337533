/-
  The walks of mini's blocksBehind and parted: the classes of symbols that no state that is reached tells apart.
-/
import Derived.Test.YtnoaejpabfnfpaaPk44
import Derived.Test.YtnoaejpabfnfpaaPk39
import Derived.Test.YtnoaejpabfnfpaaPk29
namespace Go.Proofs.Ytnoaejpabfnfpaa
open Go.RowKit

/-- The block of each state. -/
noncomputable def bkF (x : Da) (i : Nat) : Int := (clA (lnB x) i : Nat)
theorem bkF_bd (x : Da) {i n : Nat} (hi : i < n) : bkF x i ≤ (n : Int) := by
  have := clA_lt (lnB_eq x) hi
  have h2 := cntT_le (isH (lnB x)) n
  unfold bkF
  omega
theorem bkF_nn (x : Da) (i : Nat) : 0 ≤ bkF x i := by unfold bkF; omega

theorem cls_wf13 (R : Nat → Nat → Bool) : ∀ j, j < 259 → wfI ((clA R j : Nat) : Int) := fun j hj => by
  have h1 := cntT_le (isH R) (hdA R j); have h2 := hdA_le R j
  exact wfI_of (by unfold clA; omega) (by unfold clA; omega)

set_option maxRecDepth 100000 in
set_option maxHeartbeats 4000000 in
theorem behind13 (v : Value) (x : Da) (s : Nat) (qb : Option Addr) (cb : Nat) (w : World) (hs : smD x) (hx : rgD x) (hst : s < x.n2) (hd : daAt w v x) (hb : rdL w qb x.n2 (bkF x)) :
    Calls Try.prog 46 #[v, .int .i64 (s : Int), .slice qb x.n2 cb] w fun e w' => ∃ p c, e = .returned (.slice p 259 c) ∧ rdL w' p 259 (fun y => bkF x (goD x s y)) ∧ Below w.heap.size w w' := by
  obtain ⟨D, hD⟩ : ∃ D, w.heap.size = D := ⟨_, rfl⟩
  have hd' := hd
  obtain ⟨q0, c0, q1, c1, q2, c2, rfl, -, -, -⟩ := hd'
  obtain ⟨w1, hw1⟩ : ∃ w1, w.alloc (.cells #[.slice q0 x.n0 c0, .int .i64 x.wd, .int .i64 x.st, .slice q1 x.n1 c1, .slice q2 x.n2 c2] 25) = w1 := ⟨_, rfl⟩
  have hz1 : w1.heap.size = D + 1 := by rw [← hw1, World.size_alloc, hD]
  have hb1 : Below D w w1 := hw1 ▸ (Below.refl _ _).alloc (by omega) _
  have hk1 : isDf w1 D q0 x.n0 c0 x.wd x.st q1 x.n1 c1 q2 x.n2 c2 := hw1 ▸ hD ▸ heap_alloc_new w _
  have HK := Lib.hid (fun w' (h : Below (D + 1) w1 w') => (hk1.below h (Nat.lt_succ_self D)).cells)
  have HDA := Lib.hid (fun w' (h : Below (D + 1) w1 w') => hd.below (hD.symm ▸ hb1.trans (h.mono (Nat.le_succ D))))
  have HBL := Lib.hid (fun w' (h : Below (D + 1) w1 w') => hb.below (hD.symm ▸ hb1.trans (h.mono (Nat.le_succ D))))
  have HBY := Lib.hid (fun y w' (hy : y < 259) (h : Below (D + 1) w1 w') => by13 _ x s y w' hs hx hst hy (HDA.out w' h))
  have HGD := Lib.hid (fun y (hy : y < 259) => (goD_at hx hst hy).2.2)
  have HW1 := Lib.hid hw1; have HZ := Lib.hid hz1; have HDG := Lib.hid hD; have HB1 := Lib.hid hb1
  have hm : x.n2 ≤ 1000 := hs.2.2
  obtain ⟨n, hn⟩ : ∃ n, x.n2 = n := ⟨_, rfl⟩
  rw [hn] at HBL HBY HGD HK HW1 hst hm ⊢
  have s0 : (0 : Int) ≤ (s : Int) := by omega
  have s1 : (s : Int) < (n : Int) := by omega
  have n1 : (n : Int) ≤ 1000 := by omega
  have HO0 : Hid (spF w1 (D + 1) (.slice none 0 0) (fun y => bkF x (goD x s y)) 0) := Lib.hid (spF_zero _ _ _)
  have HB0 : Hid (Below (D + 1) w1 w1) := Lib.hid (Below.refl _ _)
  clear hw1 hz1 hb1 hk1 hd hs hx hb hn HDA
  go_enter Try.func46, Try.ntmps46
  go_upto_region 1 with (fail)
  rw [HW1.out]
  clear hD
  go_wp2_with fail
  go_loopw [7, 9] (fun av iv wr => ∃ (i : Nat) (vn : Value), i ≤ 259 ∧ iv = .int .i64 i ∧ vn = av ∧ Hid (spF wr (D + 1) vn (fun y => bkF x (goD x s y)) i) ∧ Hid (Below (D + 1) w1 wr)) (fun _ iv _ => 259 - (intOf iv).toNat)
  case atStart => exact ⟨0, _, Nat.zero_le _, rfl, rfl, HO0, HB0⟩
  case round =>
    clear HO0 HB0
    obtain ⟨i, vn, hi, rfl, rfl, HO, HB⟩ := hrel
    by_cases hlt : i < 259
    · have i0 : (0 : Int) ≤ (i : Int) := by omega
      have i1 : (i : Int) < 259 := by omega
      obtain ⟨y0, y1, y2, y3, y4⟩ := HK.out _ HB.out
      have HCALL := Lib.hid (HBY.out i wr hlt HB.out)
      have htn := HGD.out i hlt
      obtain ⟨t, ht⟩ : ∃ t, goD x s i = t := ⟨_, rfl⟩
      rw [ht] at HCALL htn
      obtain ⟨z, hz⟩ : ∃ z, bkF x t = z := ⟨_, rfl⟩
      have HFI : Hid ((fun y => bkF x (goD x s y)) i = z) := Lib.hid (by show bkF x (goD x s i) = z; rw [ht, hz])
      have HZZ := Lib.hid hz
      have HTN := Lib.hid htn
      clear ht hz
      go_wp2_with fail
      refine HCALL.out.mono ?_
      rintro e w4 ⟨rfl, hb4⟩
      have hDl : D + 1 ≤ wr.heap.size := by have := HB.out.size; have := HZ.out; omega
      have HO4 := Lib.hid (HO.out.below hb4)
      have HB4 : Hid (Below (D + 1) w1 w4) := Lib.hid (HB.out.trans (hb4.mono hDl))
      obtain ⟨bb, bo, rfl, hbl, hcb⟩ := HBL.out _ HB4.out t HTN.out
      rw [HZZ.out] at hcb
      have t0 : (0 : Int) ≤ (t : Int) := by omega
      have t1 : (t : Int) < (n : Int) := by omega
      have HAL : Hid (Below w4.heap.size w4 (w4.alloc (.cells #[.int .i64 z] 3))) := Lib.hid ((Below.refl _ _).alloc (Nat.le_refl _) _)
      have hD4 : D + 1 ≤ w4.heap.size := by have := hb4.size; omega
      have HXA := Lib.hid (HO4.out.below HAL.out)
      have HBA : Hid (Below (D + 1) w1 (w4.alloc (.cells #[.int .i64 z] 3))) := Lib.hid (HB4.out.trans (HAL.out.mono hD4))
      have HSZ : Hid (D + 1 ≤ (w4.alloc (.cells #[.int .i64 z] 3)).heap.size) := Lib.hid (by rw [World.size_alloc]; omega)
      have HNI : Hid (i ≤ 10000) := Lib.hid (by omega)
      clear hb4 hDl HO HB HO4 HB4 HAL hbl HCALL htn hD4 y0 y1 y2 y3 y4
      go_wp2_with (at_builtin; refine append_fn rfl _ _ rfl (D + 1) vn _ i rfl HXA.out w4.heap.size z HFI.out rfl (by simp) HNI.out HSZ.out ?_)
      intro v7 w7 hn7 hg7
      have HX7 := Lib.hid hn7
      have HB7 : Hid (Below (D + 1) w1 w7) := Lib.hid (HBA.out.grown hg7 HSZ.out (fun r hr => (World.ownsRow.lt HXA.out r hr).1))
      clear hn7 hg7 HXA HBA hcb
      go_wp2_with fail
      go_roundw
      case rel => exact ⟨i + 1, _, by omega, by go_num, rfl, HX7, HB7⟩
      case measure => simp [intOf]; omega
    · obtain rfl : i = 259 := by omega
      obtain ⟨pp, cc, rfl⟩ := spF_of HO.out
      have HE := Lib.hid (spF.rd HO.out)
      have HF : Hid (Below w.heap.size w wr) := Lib.hid (by have h1 := HB1.out.trans (HB.out.mono (Nat.le_succ D)); rw [← HDG.out] at h1; exact h1)
      clear HO HB
      go_wp2_with fail
      go_returns
      exact ⟨pp, cc, rfl, HE.out, HF.out⟩

/-- No state below s that is reached tells two symbols apart. -/
noncomputable def ptR (x : Da) (s y z : Nat) : Bool := @decide (∀ t, t < s → rtE (edD x) x.st.toNat t → bkF x (goD x t y) = bkF x (goD x t z)) (Classical.propDecidable _)
theorem ptR_iff {x : Da} {s y z : Nat} : ptR x s y z = true ↔ ∀ t, t < s → rtE (edD x) x.st.toNat t → bkF x (goD x t y) = bkF x (goD x t z) := by unfold ptR; simp
theorem ptR_eq (x : Da) (s : Nat) : eqR (ptR x s) where
  re _ := ptR_iff.2 fun _ _ _ => rfl
  sy _ _ h := ptR_iff.2 fun t h1 h2 => (ptR_iff.1 h t h1 h2).symm
  tr _ _ _ h g := ptR_iff.2 fun t h1 h2 => (ptR_iff.1 h t h1 h2).trans (ptR_iff.1 g t h1 h2)
theorem ptR_skip {x : Da} {s : Nat} (h : ¬ rtE (edD x) x.st.toNat s) : ptR x (s + 1) = ptR x s := by
  funext y z
  rw [Bool.eq_iff_iff, ptR_iff, ptR_iff]
  constructor
  · intro g t ht hr; exact g t (by omega) hr
  · intro g t ht hr
    refine g t ?_ hr
    rcases Nat.lt_or_ge t s with k | k
    · exact k
    · have : t = s := by omega
      subst this; exact absurd hr h
theorem ptR_join {x : Da} {s : Nat} (h : rtE (edD x) x.st.toNat s) : joR (fun y => (clA (ptR x s) y : Nat)) (fun y => bkF x (goD x s y)) = ptR x (s + 1) := by
  funext y z
  rw [Bool.eq_iff_iff, joR_iff, ptR_iff]
  have e1 : ((clA (ptR x s) y : Nat) : Int) = ((clA (ptR x s) z : Nat) : Int) ↔ ptR x s y z = true := by
    rw [← clA_iff (ptR_eq x s)]; omega
  rw [e1, ptR_iff]
  constructor
  · rintro ⟨g1, g2⟩ t ht hr
    rcases Nat.lt_or_ge t s with k | k
    · exact g1 t k hr
    · have : t = s := by omega
      subst this; exact g2
  · intro g
    exact ⟨fun t ht hr => g t (by omega) hr, g s (by omega) h⟩
theorem ptR_zero (x : Da) : (∀ y, clA (ptR x 0) y = 0) ∧ cntT (isH (ptR x 0)) 259 = 1 := by
  have h0 : ∀ y z, ptR x 0 y z = true := fun y z => ptR_iff.2 fun t ht => absurd ht (Nat.not_lt_zero _)
  have h1 : ∀ y, hdA (ptR x 0) y = 0 := fun y => by
    rcases Nat.eq_zero_or_pos y with rfl | h
    · have := hdA_le (ptR x 0) 0; omega
    · exact hdA_is h (h0 0 y) fun j hj => absurd hj (Nat.not_lt_zero _)
  refine ⟨fun y => by unfold clA; rw [h1]; rfl, ?_⟩
  have h2 : ∀ m, cntT (isH (ptR x 0)) (m + 1) = 1 := by
    intro m
    induction m with
    | zero =>
      rw [cntT_succ]
      have : isH (ptR x 0) 0 = true := by unfold isH; rw [h1]; rfl
      rw [if_pos this]; rfl
    | succ m ih =>
      rw [cntT_succ, ih]
      have : isH (ptR x 0) (m + 1) = false := by unfold isH; rw [h1]; simp
      rw [if_neg (by rw [this]; simp)]
  exact h2 258
theorem ptR_end {x : Da} (hx : rgD x) : (∀ j, j < 259 → clA (ptR x x.n2) j = clA (syB (lnW x x.st.toNat)) j) ∧ cntT (isH (ptR x x.n2)) 259 = wdL (lnW x x.st.toNat) := by
  refine cla_on (n := 259) fun y z hy hz => ?_
  rw [Bool.eq_iff_iff, ptR_iff, syB_reach hx hy hz]
  constructor
  · intro g t ht hr
    rw [comes_iff hx (st_lt hx)] at hr
    have := g t ht hr
    unfold bkF at this
    omega
  · intro g t ht hr
    have := g t ht ((comes_iff hx (st_lt hx) t).2 hr)
    unfold bkF
    omega

set_option maxRecDepth 100000 in
set_option maxHeartbeats 4000000 in
theorem parted13 (v : Value) (x : Da) (qb : Option Addr) (cb : Nat) (w : World) (hs : smD x) (hx : rgD x) (hd : daAt w v x) (hb : rdL w qb x.n2 (bkF x)) :
    Calls Try.prog 29 #[v, .slice qb x.n2 cb] w fun e w' => ∃ p c, e = .returned (.tuple #[.slice p 259 c, .int .i64 (wdL (lnW x x.st.toNat) : Nat)]) ∧ rdL w' p 259 (fun y => (clA (syB (lnW x x.st.toNat)) y : Nat)) ∧ Below w.heap.size w w' := by
  obtain ⟨D, hD⟩ : ∃ D, w.heap.size = D := ⟨_, rfl⟩
  have hd' := hd
  obtain ⟨q0, c0, q1, c1, q2, c2, rfl, -, -, -⟩ := hd'
  obtain ⟨w1, hw1⟩ : ∃ w1, w.alloc (.cells #[.slice q0 x.n0 c0, .int .i64 x.wd, .int .i64 x.st, .slice q1 x.n1 c1, .slice q2 x.n2 c2] 25) = w1 := ⟨_, rfl⟩
  have hz1 : w1.heap.size = D + 1 := by rw [← hw1, World.size_alloc, hD]
  have hb1 : Below D w w1 := hw1 ▸ (Below.refl _ _).alloc (by omega) _
  have hk1 : isDf w1 D q0 x.n0 c0 x.wd x.st q1 x.n1 c1 q2 x.n2 c2 := hw1 ▸ hD ▸ heap_alloc_new w _
  have HK := Lib.hid (fun w' (h : Below (D + 1) w1 w') => (hk1.below h (Nat.lt_succ_self D)).cells)
  have HDA := Lib.hid (fun w' (h : Below (D + 1) w1 w') => hd.below (hD.symm ▸ hb1.trans (h.mono (Nat.le_succ D))))
  have HBL := Lib.hid (fun w' (h : Below (D + 1) w1 w') => hb.below (hD.symm ▸ hb1.trans (h.mono (Nat.le_succ D))))
  have HBH := Lib.hid (fun s w' (hst : s < x.n2) (h : Below (D + 1) w1 w') => behind13 _ x s qb cb w' hs hx hst (HDA.out w' h) (HBL.out w' h))
  have HRC := Lib.hid (fun w' (h : Below (D + 1) w1 w') => rch_any _ x w' hs (HDA.out w' h))
  have HX := Lib.hid hx
  have HW1 := Lib.hid hw1; have HZ := Lib.hid hz1; have HDG := Lib.hid hD; have HB1 := Lib.hid hb1
  have hm : x.n2 ≤ 1000 := hs.2.2
  obtain ⟨n, hn⟩ : ∃ n, x.n2 = n := ⟨_, rfl⟩
  have HN := Lib.hid hn
  obtain ⟨y0, y1, y2, y3, y4⟩ := hk1.cells
  rw [hn] at HBH HRC HK HW1 y4 hm ⊢
  have n0 : (0 : Int) ≤ (n : Int) := by omega
  have n1 : (n : Int) ≤ 1000 := by omega
  clear hw1 hb1 hk1 hd hs hx hb hn HDA HBL
  go_enter Try.func29, Try.ntmps29
  go_upto_region 1 with (fail)
  rw [HW1.out]
  clear hD
  go_wp2_with (refine make_ints rfl _ _ rfl (D + 1) 259 rfl rfl (by omega) (by omega) ?_)
  intro w2 hip hb2
  have HB2 := Lib.hid hb2
  have HC2 : Hid (rdL w2 (some ⟨D + 1, 0, none⟩) 259 (fun y => (clA (ptR x 0) y : Nat))) := Lib.hid ((hip.same fun j _ => by rw [(ptR_zero x).1]; rfl).rd)
  have HW0 : Hid (((1 : Int)) = (cntT (isH (ptR x 0)) 259 : Nat)) := Lib.hid (by rw [(ptR_zero x).2]; rfl)
  clear hip hb2 hz1 y0 y1 y2 y3 y4
  obtain ⟨y0, y1, y2, y3, y4⟩ := HK.out _ HB2.out
  have HRCH := Lib.hid (HRC.out w2 HB2.out)
  go_wp2_with fail
  refine HRCH.out.mono ?_
  rintro e w3 ⟨pt, nt, ct, T, rfl, hT, -, hY, hb3⟩
  obtain ⟨hnt, hTs⟩ := hY HX.out
  subst hnt
  have hDl : D + 1 ≤ w2.heap.size := by have := HB2.out.size; have := HZ.out; omega
  have HB3 : Hid (Below (D + 1) w1 w3) := Lib.hid (HB2.out.trans (hb3.mono hDl))
  have HC3 := Lib.hid (HC2.out.below hb3)
  have hD3 : D + 1 ≤ w3.heap.size := by have := hb3.size; omega
  obtain ⟨E, hE⟩ : ∃ E, w3.heap.size = E := ⟨_, rfl⟩
  have HTR := Lib.hid (fun w' (h : Below E w3 w') => hT.below (hE.symm ▸ h))
  have HEB : Hid (∀ w', Below E w3 w' → Below (D + 1) w1 w') := Lib.hid fun w' h => HB3.out.trans (h.mono (hE ▸ hD3))
  have HTS := Lib.hid hTs
  have HEZ := Lib.hid hE
  have HB0 : Hid (Below E w3 w3) := Lib.hid (Below.refl _ _)
  clear hT hTs hb3 hDl hD3 HC2 HB2 HRCH y0 y1 y2 y3 y4 hE hY
  go_wp2_with fail
  go_loopw [6, 7, 14] (fun cv wv sv wr => ∃ (s : Nat) (p : Option Addr) (c : Nat) (k : Int), s ≤ nt ∧ sv = .int .i64 s ∧ cv = .slice p 259 c ∧ wv = .int .i64 k ∧ Hid (k = (cntT (isH (ptR x s)) 259 : Nat)) ∧ Hid (rdL wr p 259 (fun y => (clA (ptR x s) y : Nat))) ∧ Hid (Below E w3 wr)) (fun _ _ sv _ => nt - (intOf sv).toNat)
  case atStart => exact ⟨0, _, _, _, Nat.zero_le _, rfl, rfl, rfl, HW0, HC3, HB0⟩
  case round =>
    clear HC3 HW0 HB0
    obtain ⟨s, p, c, k, hsn, rfl, rfl, rfl, HW, HC, HB⟩ := hrel
    by_cases hlt : s < nt
    · have s0 : (0 : Int) ≤ (s : Int) := by omega
      have s1 : (s : Int) < (nt : Int) := by omega
      obtain ⟨tb, tq, rfl, htl, htc⟩ := HTR.out _ HB.out s hlt
      have hts := HTS.out s hlt
      obtain ⟨u, hu⟩ : ∃ u, T s = u := ⟨_, rfl⟩
      rw [hu] at htc hts
      clear hu htl
      cases u with
      | true =>
        have hr := hts.1 rfl
        have HJR := Lib.hid (ptR_join hr)
        obtain ⟨y0, y1, y2, y3, y4⟩ := HK.out _ (HEB.out _ HB.out)
        have HCALL := Lib.hid (HBH.out s wr hlt (HEB.out _ HB.out))
        clear hts hr
        go_wp2_with fail
        refine HCALL.out.mono ?_
        rintro e w4 ⟨p4, c4, rfl, hr4, hb4⟩
        have hEl : E ≤ wr.heap.size := by have := HB.out.size; have := HEZ.out; omega
        have HC4 := Lib.hid (HC.out.below hb4)
        have HB4 : Hid (Below E w3 w4) := Lib.hid (HB.out.trans (hb4.mono hEl))
        have HJ := Lib.hid ((joi_any p 259 c _ p4 259 c4 _ w4 (by decide) (by decide) (cls_wf13 (ptR x s)) (fun j hj => wfI_of (by have := bkF_nn x (goD x s j); omega) (by have := bkF_bd x (i := goD x s j) (n := nt) (by rw [← HN.out]; exact (goD_at HX.out (by rw [HN.out]; exact hlt) hj).2.2); omega)) HC4.out hr4).mono fun e w' hp => hp.1 rfl)
        rw [HJR.out] at HJ
        have hE4 : E ≤ w4.heap.size := by have := hb4.size; omega
        clear hr4 hb4 hEl HC HB HCALL y0 y1 y2 y3 y4
        go_wp2_with fail
        refine HJ.out.mono ?_
        rintro e w5 ⟨q5, c5, l5, rfl, hr5, hl5, hb5⟩
        have HC5 : Hid (rdL w5 q5 259 (fun y => (clA (ptR x (s + 1)) y : Nat))) := Lib.hid (hr5.eqv13 hl5)
        have HB5 : Hid (Below E w3 w5) := Lib.hid (HB4.out.trans (hb5.mono hE4))
        clear hr5 hl5 hb5 HJ HC4 HB4 hE4
        go_wp2_with fail
        go_roundw
        case rel => exact ⟨s + 1, _, _, _, by omega, by go_num, rfl, rfl, Lib.hid rfl, HC5, HB5⟩
        case measure => simp [intOf]; omega
      | false =>
        have HSK := Lib.hid (ptR_skip (x := x) (s := s) fun h => by have := hts.2 h; cases this)
        have HW2 : Hid (k = (cntT (isH (ptR x (s + 1))) 259 : Nat)) := Lib.hid (by rw [HSK.out]; exact HW.out)
        have HC2 : Hid (rdL wr p 259 (fun y => (clA (ptR x (s + 1)) y : Nat))) := Lib.hid (by rw [HSK.out]; exact HC.out)
        clear hts HC HW HSK
        go_wp2_with fail
        go_roundw
        case rel => exact ⟨s + 1, _, _, _, by omega, by go_num, rfl, rfl, HW2, HC2, HB⟩
        case measure => simp [intOf]; omega
    · obtain rfl : s = nt := by omega
      have hpe := ptR_end HX.out
      rw [HN.out] at hpe
      have HWE : Hid (k = (wdL (lnW x x.st.toNat) : Nat)) := Lib.hid (by rw [HW.out, hpe.2])
      have HCE : Hid (rdL wr p 259 (fun y => (clA (syB (lnW x x.st.toNat)) y : Nat))) := Lib.hid (HC.out.eqv13 fun j hj => by rw [hpe.1 j hj])
      have HF : Hid (Below w.heap.size w wr) := Lib.hid (by have h1 := HB1.out.trans ((HEB.out _ HB.out).mono (Nat.le_succ D)); rw [← HDG.out] at h1; exact h1)
      clear HC HB HW hpe
      go_wp2_with fail
      go_returns
      exact ⟨p, c, by rw [HWE.out] <;> rfl, HCE.out, HF.out⟩
end Go.Proofs.Ytnoaejpabfnfpaa
