/-
  The walks of mini's blocksBehind and parted: the classes of symbols that no state that is reached tells apart.
  What mini.Of makes, in memory: what is met in a map and a list, and the automaton's rows; the walk of met's put.
-/
import Derived.Test.YtefpoapbodbenaaPk53
import Derived.Test.YtefpoapbodbenaaPk22
import Derived.Test.YtefpoapbodbenaaPk33
import Derived.Test.YtefpoapbodbenaaPk25
import Derived.Test.YtefpoapbodbenaaPk46
namespace Go.Proofs.Ytefpoapbodbenaa
open Go.RowKit

/-- The block of each state. -/
noncomputable def bkF (x : Da) (i : Nat) : Int := (clA (lnB x) i : Nat)
theorem bkF_bd (x : Da) {i n : Nat} (hi : i < n) : bkF x i ≤ (n : Int) := by
  have := clA_lt (lnB_eq x) hi
  have h2 := cntT_le (isH (lnB x)) n
  unfold bkF
  omega
theorem bkF_nn (x : Da) (i : Nat) : 0 ≤ bkF x i := by unfold bkF; omega

theorem cls_wf13 (R : Nat → Nat → Bool) : ∀ j, j < 259 → wfI ((clA R j : Nat) : Int) := fun j hj => by
  have h1 := cntT_le (isH R) (hdA R j); have h2 := hdA_le R j
  exact wfI_of (by unfold clA; omega) (by unfold clA; omega)

set_option maxRecDepth 100000 in
set_option maxHeartbeats 4000000 in
theorem behind13 (v : Value) (x : Da) (s : Nat) (qb : Option Addr) (cb : Nat) (w : World) (hs : smD x) (hx : rgD x) (hst : s < x.n2) (hd : daAt w v x) (hb : rdL w qb x.n2 (bkF x)) :
    Calls Try.prog 56 #[v, .int .i64 (s : Int), .slice qb x.n2 cb] w fun e w' => ∃ p c, e = .returned (.slice p 259 c) ∧ rdL w' p 259 (fun y => bkF x (goD x s y)) ∧ Below w.heap.size w w' := by
  obtain ⟨D, hD⟩ : ∃ D, w.heap.size = D := ⟨_, rfl⟩
  have hd' := hd
  obtain ⟨q0, c0, q1, c1, q2, c2, rfl, -, -, -⟩ := hd'
  obtain ⟨w1, hw1⟩ : ∃ w1, w.alloc (.cells #[.slice q0 x.n0 c0, .int .i64 x.wd, .int .i64 x.st, .slice q1 x.n1 c1, .slice q2 x.n2 c2] 25) = w1 := ⟨_, rfl⟩
  have hz1 : w1.heap.size = D + 1 := by rw [← hw1, World.size_alloc, hD]
  have hb1 : Below D w w1 := hw1 ▸ (Below.refl _ _).alloc (by omega) _
  have hk1 : isDf w1 D q0 x.n0 c0 x.wd x.st q1 x.n1 c1 q2 x.n2 c2 := hw1 ▸ hD ▸ heap_alloc_new w _
  have HK := Lib.hid (fun w' (h : Below (D + 1) w1 w') => (hk1.below h (Nat.lt_succ_self D)).cells)
  have HDA := Lib.hid (fun w' (h : Below (D + 1) w1 w') => hd.below (hD.symm ▸ hb1.trans (h.mono (Nat.le_succ D))))
  have HBL := Lib.hid (fun w' (h : Below (D + 1) w1 w') => hb.below (hD.symm ▸ hb1.trans (h.mono (Nat.le_succ D))))
  have HBY := Lib.hid (fun y w' (hy : y < 259) (h : Below (D + 1) w1 w') => by13 _ x s y w' hs hx hst hy (HDA.out w' h))
  have HGD := Lib.hid (fun y (hy : y < 259) => (goD_at hx hst hy).2.2)
  have HW1 := Lib.hid hw1; have HZ := Lib.hid hz1; have HDG := Lib.hid hD; have HB1 := Lib.hid hb1
  have hm : x.n2 ≤ 1000 := hs.2.2
  obtain ⟨n, hn⟩ : ∃ n, x.n2 = n := ⟨_, rfl⟩
  rw [hn] at HBL HBY HGD HK HW1 hst hm ⊢
  have s0 : (0 : Int) ≤ (s : Int) := by omega
  have s1 : (s : Int) < (n : Int) := by omega
  have n1 : (n : Int) ≤ 1000 := by omega
  have HO0 : Hid (spF w1 (D + 1) (.slice none 0 0) (fun y => bkF x (goD x s y)) 0) := Lib.hid (spF_zero _ _ _)
  have HB0 : Hid (Below (D + 1) w1 w1) := Lib.hid (Below.refl _ _)
  clear hw1 hz1 hb1 hk1 hd hs hx hb hn HDA
  go_enter Try.func56, Try.ntmps56
  go_upto_region 1 with (fail)
  rw [HW1.out]
  clear hD
  go_wp2_with fail
  go_loopw [7, 9] (fun av iv wr => ∃ (i : Nat) (vn : Value), i ≤ 259 ∧ iv = .int .i64 i ∧ vn = av ∧ Hid (spF wr (D + 1) vn (fun y => bkF x (goD x s y)) i) ∧ Hid (Below (D + 1) w1 wr)) (fun _ iv _ => 259 - (intOf iv).toNat)
  case atStart => exact ⟨0, _, Nat.zero_le _, rfl, rfl, HO0, HB0⟩
  case round =>
    clear HO0 HB0
    obtain ⟨i, vn, hi, rfl, rfl, HO, HB⟩ := hrel
    by_cases hlt : i < 259
    · have i0 : (0 : Int) ≤ (i : Int) := by omega
      have i1 : (i : Int) < 259 := by omega
      obtain ⟨y0, y1, y2, y3, y4⟩ := HK.out _ HB.out
      have HCALL := Lib.hid (HBY.out i wr hlt HB.out)
      have htn := HGD.out i hlt
      obtain ⟨t, ht⟩ : ∃ t, goD x s i = t := ⟨_, rfl⟩
      rw [ht] at HCALL htn
      obtain ⟨z, hz⟩ : ∃ z, bkF x t = z := ⟨_, rfl⟩
      have HFI : Hid ((fun y => bkF x (goD x s y)) i = z) := Lib.hid (by show bkF x (goD x s i) = z; rw [ht, hz])
      have HZZ := Lib.hid hz
      have HTN := Lib.hid htn
      clear ht hz
      go_wp2_with fail
      refine HCALL.out.mono ?_
      rintro e w4 ⟨rfl, hb4⟩
      have hDl : D + 1 ≤ wr.heap.size := by have := HB.out.size; have := HZ.out; omega
      have HO4 := Lib.hid (HO.out.below hb4)
      have HB4 : Hid (Below (D + 1) w1 w4) := Lib.hid (HB.out.trans (hb4.mono hDl))
      obtain ⟨bb, bo, rfl, hbl, hcb⟩ := HBL.out _ HB4.out t HTN.out
      rw [HZZ.out] at hcb
      have t0 : (0 : Int) ≤ (t : Int) := by omega
      have t1 : (t : Int) < (n : Int) := by omega
      have HAL : Hid (Below w4.heap.size w4 (w4.alloc (.cells #[.int .i64 z] 3))) := Lib.hid ((Below.refl _ _).alloc (Nat.le_refl _) _)
      have hD4 : D + 1 ≤ w4.heap.size := by have := hb4.size; omega
      have HXA := Lib.hid (HO4.out.below HAL.out)
      have HBA : Hid (Below (D + 1) w1 (w4.alloc (.cells #[.int .i64 z] 3))) := Lib.hid (HB4.out.trans (HAL.out.mono hD4))
      have HSZ : Hid (D + 1 ≤ (w4.alloc (.cells #[.int .i64 z] 3)).heap.size) := Lib.hid (by rw [World.size_alloc]; omega)
      have HNI : Hid (i ≤ 10000) := Lib.hid (by omega)
      clear hb4 hDl HO HB HO4 HB4 HAL hbl HCALL htn hD4 y0 y1 y2 y3 y4
      go_wp2_with (at_builtin; refine append_fn rfl _ _ rfl (D + 1) vn _ i rfl HXA.out w4.heap.size z HFI.out rfl (by simp) HNI.out HSZ.out ?_)
      intro v7 w7 hn7 hg7
      have HX7 := Lib.hid hn7
      have HB7 : Hid (Below (D + 1) w1 w7) := Lib.hid (HBA.out.grown hg7 HSZ.out (fun r hr => (World.ownsRow.lt HXA.out r hr).1))
      clear hn7 hg7 HXA HBA hcb
      go_wp2_with fail
      go_roundw
      case rel => exact ⟨i + 1, _, by omega, by go_num, rfl, HX7, HB7⟩
      case measure => simp [intOf]; omega
    · obtain rfl : i = 259 := by omega
      obtain ⟨pp, cc, rfl⟩ := spF_of HO.out
      have HE := Lib.hid (spF.rd HO.out)
      have HF : Hid (Below w.heap.size w wr) := Lib.hid (by have h1 := HB1.out.trans (HB.out.mono (Nat.le_succ D)); rw [← HDG.out] at h1; exact h1)
      clear HO HB
      go_wp2_with fail
      go_returns
      exact ⟨pp, cc, rfl, HE.out, HF.out⟩

/-- No state below s that is reached tells two symbols apart. -/
noncomputable def ptR (x : Da) (s y z : Nat) : Bool := @decide (∀ t, t < s → rtE (edD x) x.st.toNat t → bkF x (goD x t y) = bkF x (goD x t z)) (Classical.propDecidable _)
theorem ptR_iff {x : Da} {s y z : Nat} : ptR x s y z = true ↔ ∀ t, t < s → rtE (edD x) x.st.toNat t → bkF x (goD x t y) = bkF x (goD x t z) := by unfold ptR; simp
theorem ptR_eq (x : Da) (s : Nat) : eqR (ptR x s) where
  re _ := ptR_iff.2 fun _ _ _ => rfl
  sy _ _ h := ptR_iff.2 fun t h1 h2 => (ptR_iff.1 h t h1 h2).symm
  tr _ _ _ h g := ptR_iff.2 fun t h1 h2 => (ptR_iff.1 h t h1 h2).trans (ptR_iff.1 g t h1 h2)
theorem ptR_skip {x : Da} {s : Nat} (h : ¬ rtE (edD x) x.st.toNat s) : ptR x (s + 1) = ptR x s := by
  funext y z
  rw [Bool.eq_iff_iff, ptR_iff, ptR_iff]
  constructor
  · intro g t ht hr; exact g t (by omega) hr
  · intro g t ht hr
    refine g t ?_ hr
    rcases Nat.lt_or_ge t s with k | k
    · exact k
    · have : t = s := by omega
      subst this; exact absurd hr h
theorem ptR_join {x : Da} {s : Nat} (h : rtE (edD x) x.st.toNat s) : joR (fun y => (clA (ptR x s) y : Nat)) (fun y => bkF x (goD x s y)) = ptR x (s + 1) := by
  funext y z
  rw [Bool.eq_iff_iff, joR_iff, ptR_iff]
  have e1 : ((clA (ptR x s) y : Nat) : Int) = ((clA (ptR x s) z : Nat) : Int) ↔ ptR x s y z = true := by
    rw [← clA_iff (ptR_eq x s)]; omega
  rw [e1, ptR_iff]
  constructor
  · rintro ⟨g1, g2⟩ t ht hr
    rcases Nat.lt_or_ge t s with k | k
    · exact g1 t k hr
    · have : t = s := by omega
      subst this; exact g2
  · intro g
    exact ⟨fun t ht hr => g t (by omega) hr, g s (by omega) h⟩
theorem ptR_zero (x : Da) : (∀ y, clA (ptR x 0) y = 0) ∧ cntT (isH (ptR x 0)) 259 = 1 := by
  have h0 : ∀ y z, ptR x 0 y z = true := fun y z => ptR_iff.2 fun t ht => absurd ht (Nat.not_lt_zero _)
  have h1 : ∀ y, hdA (ptR x 0) y = 0 := fun y => by
    rcases Nat.eq_zero_or_pos y with rfl | h
    · have := hdA_le (ptR x 0) 0; omega
    · exact hdA_is h (h0 0 y) fun j hj => absurd hj (Nat.not_lt_zero _)
  refine ⟨fun y => by unfold clA; rw [h1]; rfl, ?_⟩
  have h2 : ∀ m, cntT (isH (ptR x 0)) (m + 1) = 1 := by
    intro m
    induction m with
    | zero =>
      rw [cntT_succ]
      have : isH (ptR x 0) 0 = true := by unfold isH; rw [h1]; rfl
      rw [if_pos this]; rfl
    | succ m ih =>
      rw [cntT_succ, ih]
      have : isH (ptR x 0) (m + 1) = false := by unfold isH; rw [h1]; simp
      rw [if_neg (by rw [this]; simp)]
  exact h2 258
theorem ptR_end {x : Da} (hx : rgD x) : (∀ j, j < 259 → clA (ptR x x.n2) j = clA (syB (lnW x x.st.toNat)) j) ∧ cntT (isH (ptR x x.n2)) 259 = wdL (lnW x x.st.toNat) := by
  refine cla_on (n := 259) fun y z hy hz => ?_
  rw [Bool.eq_iff_iff, ptR_iff, syB_reach hx hy hz]
  constructor
  · intro g t ht hr
    rw [comes_iff hx (st_lt hx)] at hr
    have := g t ht hr
    unfold bkF at this
    omega
  · intro g t ht hr
    have := g t ht ((comes_iff hx (st_lt hx) t).2 hr)
    unfold bkF
    omega

set_option maxRecDepth 100000 in
set_option maxHeartbeats 4000000 in
theorem parted13 (v : Value) (x : Da) (qb : Option Addr) (cb : Nat) (w : World) (hs : smD x) (hx : rgD x) (hd : daAt w v x) (hb : rdL w qb x.n2 (bkF x)) :
    Calls Try.prog 28 #[v, .slice qb x.n2 cb] w fun e w' => ∃ p c, e = .returned (.tuple #[.slice p 259 c, .int .i64 (wdL (lnW x x.st.toNat) : Nat)]) ∧ rdL w' p 259 (fun y => (clA (syB (lnW x x.st.toNat)) y : Nat)) ∧ Below w.heap.size w w' := by
  obtain ⟨D, hD⟩ : ∃ D, w.heap.size = D := ⟨_, rfl⟩
  have hd' := hd
  obtain ⟨q0, c0, q1, c1, q2, c2, rfl, -, -, -⟩ := hd'
  obtain ⟨w1, hw1⟩ : ∃ w1, w.alloc (.cells #[.slice q0 x.n0 c0, .int .i64 x.wd, .int .i64 x.st, .slice q1 x.n1 c1, .slice q2 x.n2 c2] 25) = w1 := ⟨_, rfl⟩
  have hz1 : w1.heap.size = D + 1 := by rw [← hw1, World.size_alloc, hD]
  have hb1 : Below D w w1 := hw1 ▸ (Below.refl _ _).alloc (by omega) _
  have hk1 : isDf w1 D q0 x.n0 c0 x.wd x.st q1 x.n1 c1 q2 x.n2 c2 := hw1 ▸ hD ▸ heap_alloc_new w _
  have HK := Lib.hid (fun w' (h : Below (D + 1) w1 w') => (hk1.below h (Nat.lt_succ_self D)).cells)
  have HDA := Lib.hid (fun w' (h : Below (D + 1) w1 w') => hd.below (hD.symm ▸ hb1.trans (h.mono (Nat.le_succ D))))
  have HBL := Lib.hid (fun w' (h : Below (D + 1) w1 w') => hb.below (hD.symm ▸ hb1.trans (h.mono (Nat.le_succ D))))
  have HBH := Lib.hid (fun s w' (hst : s < x.n2) (h : Below (D + 1) w1 w') => behind13 _ x s qb cb w' hs hx hst (HDA.out w' h) (HBL.out w' h))
  have HRC := Lib.hid (fun w' (h : Below (D + 1) w1 w') => rch_any _ x w' hs (HDA.out w' h))
  have HX := Lib.hid hx
  have HW1 := Lib.hid hw1; have HZ := Lib.hid hz1; have HDG := Lib.hid hD; have HB1 := Lib.hid hb1
  have hm : x.n2 ≤ 1000 := hs.2.2
  obtain ⟨n, hn⟩ : ∃ n, x.n2 = n := ⟨_, rfl⟩
  have HN := Lib.hid hn
  obtain ⟨y0, y1, y2, y3, y4⟩ := hk1.cells
  rw [hn] at HBH HRC HK HW1 y4 hm ⊢
  have n0 : (0 : Int) ≤ (n : Int) := by omega
  have n1 : (n : Int) ≤ 1000 := by omega
  clear hw1 hb1 hk1 hd hs hx hb hn HDA HBL
  go_enter Try.func28, Try.ntmps28
  go_upto_region 1 with (fail)
  rw [HW1.out]
  clear hD
  go_wp2_with (refine make_ints rfl _ _ rfl (D + 1) 259 rfl rfl (by omega) (by omega) ?_)
  intro w2 hip hb2
  have HB2 := Lib.hid hb2
  have HC2 : Hid (rdL w2 (some ⟨D + 1, 0, none⟩) 259 (fun y => (clA (ptR x 0) y : Nat))) := Lib.hid ((hip.same fun j _ => by rw [(ptR_zero x).1]; rfl).rd)
  have HW0 : Hid (((1 : Int)) = (cntT (isH (ptR x 0)) 259 : Nat)) := Lib.hid (by rw [(ptR_zero x).2]; rfl)
  clear hip hb2 hz1 y0 y1 y2 y3 y4
  obtain ⟨y0, y1, y2, y3, y4⟩ := HK.out _ HB2.out
  have HRCH := Lib.hid (HRC.out w2 HB2.out)
  go_wp2_with fail
  refine HRCH.out.mono ?_
  rintro e w3 ⟨pt, nt, ct, T, rfl, hT, -, hY, hb3⟩
  obtain ⟨hnt, hTs⟩ := hY HX.out
  subst hnt
  have hDl : D + 1 ≤ w2.heap.size := by have := HB2.out.size; have := HZ.out; omega
  have HB3 : Hid (Below (D + 1) w1 w3) := Lib.hid (HB2.out.trans (hb3.mono hDl))
  have HC3 := Lib.hid (HC2.out.below hb3)
  have hD3 : D + 1 ≤ w3.heap.size := by have := hb3.size; omega
  obtain ⟨E, hE⟩ : ∃ E, w3.heap.size = E := ⟨_, rfl⟩
  have HTR := Lib.hid (fun w' (h : Below E w3 w') => hT.below (hE.symm ▸ h))
  have HEB : Hid (∀ w', Below E w3 w' → Below (D + 1) w1 w') := Lib.hid fun w' h => HB3.out.trans (h.mono (hE ▸ hD3))
  have HTS := Lib.hid hTs
  have HEZ := Lib.hid hE
  have HB0 : Hid (Below E w3 w3) := Lib.hid (Below.refl _ _)
  clear hT hTs hb3 hDl hD3 HC2 HB2 HRCH y0 y1 y2 y3 y4 hE hY
  go_wp2_with fail
  go_loopw [6, 7, 14] (fun cv wv sv wr => ∃ (s : Nat) (p : Option Addr) (c : Nat) (k : Int), s ≤ nt ∧ sv = .int .i64 s ∧ cv = .slice p 259 c ∧ wv = .int .i64 k ∧ Hid (k = (cntT (isH (ptR x s)) 259 : Nat)) ∧ Hid (rdL wr p 259 (fun y => (clA (ptR x s) y : Nat))) ∧ Hid (Below E w3 wr)) (fun _ _ sv _ => nt - (intOf sv).toNat)
  case atStart => exact ⟨0, _, _, _, Nat.zero_le _, rfl, rfl, rfl, HW0, HC3, HB0⟩
  case round =>
    clear HC3 HW0 HB0
    obtain ⟨s, p, c, k, hsn, rfl, rfl, rfl, HW, HC, HB⟩ := hrel
    by_cases hlt : s < nt
    · have s0 : (0 : Int) ≤ (s : Int) := by omega
      have s1 : (s : Int) < (nt : Int) := by omega
      obtain ⟨tb, tq, rfl, htl, htc⟩ := HTR.out _ HB.out s hlt
      have hts := HTS.out s hlt
      obtain ⟨u, hu⟩ : ∃ u, T s = u := ⟨_, rfl⟩
      rw [hu] at htc hts
      clear hu htl
      cases u with
      | true =>
        have hr := hts.1 rfl
        have HJR := Lib.hid (ptR_join hr)
        obtain ⟨y0, y1, y2, y3, y4⟩ := HK.out _ (HEB.out _ HB.out)
        have HCALL := Lib.hid (HBH.out s wr hlt (HEB.out _ HB.out))
        clear hts hr
        go_wp2_with fail
        refine HCALL.out.mono ?_
        rintro e w4 ⟨p4, c4, rfl, hr4, hb4⟩
        have hEl : E ≤ wr.heap.size := by have := HB.out.size; have := HEZ.out; omega
        have HC4 := Lib.hid (HC.out.below hb4)
        have HB4 : Hid (Below E w3 w4) := Lib.hid (HB.out.trans (hb4.mono hEl))
        have HJ := Lib.hid ((joi_any p 259 c _ p4 259 c4 _ w4 (by decide) (by decide) (cls_wf13 (ptR x s)) (fun j hj => wfI_of (by have := bkF_nn x (goD x s j); omega) (by have := bkF_bd x (i := goD x s j) (n := nt) (by rw [← HN.out]; exact (goD_at HX.out (by rw [HN.out]; exact hlt) hj).2.2); omega)) HC4.out hr4).mono fun e w' hp => hp.1 rfl)
        rw [HJR.out] at HJ
        have hE4 : E ≤ w4.heap.size := by have := hb4.size; omega
        clear hr4 hb4 hEl HC HB HCALL y0 y1 y2 y3 y4
        go_wp2_with fail
        refine HJ.out.mono ?_
        rintro e w5 ⟨q5, c5, l5, rfl, hr5, hl5, hb5⟩
        have HC5 : Hid (rdL w5 q5 259 (fun y => (clA (ptR x (s + 1)) y : Nat))) := Lib.hid (hr5.eqv13 hl5)
        have HB5 : Hid (Below E w3 w5) := Lib.hid (HB4.out.trans (hb5.mono hE4))
        clear hr5 hl5 hb5 HJ HC4 HB4 hE4
        go_wp2_with fail
        go_roundw
        case rel => exact ⟨s + 1, _, _, _, by omega, by go_num, rfl, rfl, Lib.hid rfl, HC5, HB5⟩
        case measure => simp [intOf]; omega
      | false =>
        have HSK := Lib.hid (ptR_skip (x := x) (s := s) fun h => by have := hts.2 h; cases this)
        have HW2 : Hid (k = (cntT (isH (ptR x (s + 1))) 259 : Nat)) := Lib.hid (by rw [HSK.out]; exact HW.out)
        have HC2 : Hid (rdL wr p 259 (fun y => (clA (ptR x (s + 1)) y : Nat))) := Lib.hid (by rw [HSK.out]; exact HC.out)
        clear hts HC HW HSK
        go_wp2_with fail
        go_roundw
        case rel => exact ⟨s + 1, _, _, _, by omega, by go_num, rfl, rfl, HW2, HC2, HB⟩
        case measure => simp [intOf]; omega
    · obtain rfl : s = nt := by omega
      have hpe := ptR_end HX.out
      rw [HN.out] at hpe
      have HWE : Hid (k = (wdL (lnW x x.st.toNat) : Nat)) := Lib.hid (by rw [HW.out, hpe.2])
      have HCE : Hid (rdL wr p 259 (fun y => (clA (syB (lnW x x.st.toNat)) y : Nat))) := Lib.hid (HC.out.eqv13 fun j hj => by rw [hpe.1 j hj])
      have HF : Hid (Below w.heap.size w wr) := Lib.hid (by have h1 := HB1.out.trans ((HEB.out _ HB.out).mono (Nat.le_succ D)); rw [← HDG.out] at h1; exact h1)
      clear HC HB HW hpe
      go_wp2_with fail
      go_returns
      exact ⟨p, c, by rw [HWE.out] <;> rfl, HCE.out, HF.out⟩
end Go.Proofs.Ytefpoapbodbenaa

namespace Go.Proofs.Ytefpoapbodbenaa
open Go.RowKit

theorem intLaw13 : Go.Maps.Keyed Try.prog 3 := Go.Maps.int_keyed Try.underlying3
/-- A block's number as a key. -/
noncomputable def kz13 (x : Da) (u : Nat) : Lit := .int .i64 ((clA (lnB x) u : Nat) : Int)
theorem kz13_eq {x : Da} {u v : Nat} : kz13 x u = kz13 x v ↔ lnW x u = lnW x v := by
  unfold kz13
  rw [← lnB_iff, ← clA_iff (lnB_eq x)]
  constructor
  · intro h
    have := (Lit.int.inj h).2
    omega
  · intro h; rw [h]
theorem kz13_key {x : Da} {u n : Nat} (hn : n ≤ 1000) (hu : u < n) : keyOf Try.prog 3 (.int .i64 ((clA (lnB x) u : Nat) : Int)) = some (kz13 x u) := by
  have h1 := clA_lt (lnB_eq x) hu
  have h2 := cntT_le (isH (lnB x)) n
  exact Go.Maps.keyOf_int_mk Try.underlying3 (WalkArith.wf_i64 (by omega))
/-- The map tells of each block that was met its place. -/
def dmI (x : Da) (st : List Nat) (D : Dm) : Prop := ∀ u,
  (ixG (st.map (lnW x)) (lnW x u) < st.length → Maps.has D (kz13 x u) = true ∧ D.atKey (kz13 x u) (iL 0) = iL (ixG (st.map (lnW x)) (lnW x u) : Nat)) ∧ (¬ ixG (st.map (lnW x)) (lnW x u) < st.length → Maps.has D (kz13 x u) = false)
theorem dmI_nil (x : Da) : dmI x [] (.map []) := fun _ => ⟨fun h => absurd h (Nat.not_lt_zero _), fun _ => rfl⟩
theorem dmI_put {x : Da} {st : List Nat} {D : Dm} {u n : Nat} (h : dmI x st D) (hnd : (st.map (lnW x)).Nodup) (ht : Maps.Tidy D) (hn : n ≤ 1000) (hu : u < n) (hno : ¬ ixG (st.map (lnW x)) (lnW x u) < st.length) : dmI x (st ++ [u]) (D.put (kz13 x u) (iL (st.length : Nat))) := fun v => by
  have hl : (st.map (lnW x)).length = st.length := List.length_map ..
  have hmem : lnW x u ∉ st.map (lnW x) := fun g => hno (by rw [← hl]; exact ixG_mem.2 g)
  have hnd2 : (st.map (lnW x) ++ [lnW x u]).Nodup := by
    have := adG_nodup hnd (lnW x u)
    unfold adG at this
    rw [if_neg (by rw [hl]; exact hno)] at this
    exact this
  have hkl := intLaw13.key (kz13_key (x := x) hn hu)
  rw [List.map_append, List.map_singleton, List.length_append]
  show (ixG (st.map (lnW x) ++ [lnW x u]) (lnW x v) < st.length + 1 → _) ∧ (¬ ixG (st.map (lnW x) ++ [lnW x u]) (lnW x v) < st.length + 1 → _)
  by_cases e : lnW x v = lnW x u
  · have ek : kz13 x v = kz13 x u := kz13_eq.2 e
    have ei : ixG (st.map (lnW x) ++ [lnW x u]) (lnW x v) = st.length := ixG_is hnd2 (by rw [e, ← hl]; simp)
    rw [ek, ei]
    exact ⟨fun _ => ⟨Maps.has_put_same ht.isMap hkl _, Maps.atKey_put_same ht.isMap hkl _ _⟩, fun g => absurd (Nat.lt_succ_self _) g⟩
  · have ek : kz13 x v ≠ kz13 x u := fun g => e (kz13_eq.1 g)
    rw [Maps.has_put_other ek, Maps.atKey_put_other ek]
    by_cases g : lnW x v ∈ st.map (lnW x)
    · have g1 : ixG (st.map (lnW x)) (lnW x v) < (st.map (lnW x)).length := ixG_mem.2 g
      have g2 := ixG_at g1
      have ei : ixG (st.map (lnW x) ++ [lnW x u]) (lnW x v) = ixG (st.map (lnW x)) (lnW x v) := ixG_is hnd2 (by rw [List.getElem?_append_left g1]; exact g2)
      rw [ei]
      rw [hl] at g1
      exact ⟨fun _ => (h v).1 g1, fun k => absurd (by omega) k⟩
    · have g1 : ¬ ixG (st.map (lnW x)) (lnW x v) < st.length := fun k => g (ixG_mem.1 (by rw [hl]; exact k))
      have g3 : ¬ ixG (st.map (lnW x) ++ [lnW x u]) (lnW x v) < st.length + 1 := fun k => by
        have k2 : lnW x v ∈ st.map (lnW x) ++ [lnW x u] := ixG_mem.1 (by simpa using k)
        rcases List.mem_append.1 k2 with k3 | k3
        · exact g k3
        · exact e (by simpa using k3)
      exact ⟨fun k => absurd k g3, fun _ => (h v).2 g1⟩

/-- The struct that names what is met. -/
def isMe (w : World) (h mb : Nat) (v : Value) : Prop := w.heap[h]? = some (.cells #[.map (some mb), v] 67 (0, 0))
section
variable {w w' : World} {h mb : Nat} {v : Value}
theorem isMe.lt (H : isMe w h mb v) : h < w.heap.size := lt_of_block H
theorem isMe.cells (H : isMe w h mb v) : w.cell? ⟨h, 0, none⟩ = some (.map (some mb)) ∧ w.cell? ⟨h, 1, none⟩ = some v := by
  unfold isMe at H
  refine ⟨?_, ?_⟩ <;> simp [World.cell?, H]
theorem isMe.free (H : isMe w h mb v) (j : Nat) : w.frozen? ⟨h, j, none⟩ = false := by
  unfold isMe at H
  simp [World.frozen?, H]
theorem isMe.kept {r : Option Nat} (H : isMe w h mb v) (hg : w.grownBy w' r) (hr : some h ≠ r) : isMe w' h mb v := (hg.block h H.lt hr).trans H
theorem isMe.below (H : isMe w h mb v) (hb : Below w.heap.size w w') : isMe w' h mb v := (hb.block h H.lt).trans H
theorem isMe.put1 (H : isMe w h mb v) (u : Value) : isMe (w.setCell ⟨h, 1, none⟩ u) h mb u := by
  have h1 := heap_setCell_same w h 1 _ _ u H
  unfold isMe
  rw [h1]; simp
end
abbrev ownsI (w : World) (b n : Nat) (D : Dm) : Prop := w.ownsMap Try.prog 3 (plainElem Try.prog 3) b n D
theorem ownsI.kept {w w' : World} {b n : Nat} {D : Dm} {r : Option Nat} (h : ownsI w b n D) (hg : w.grownBy w' r) (hr : some b ≠ r) : ownsI w' b n D := by
  obtain ⟨es, clock, h1, h2⟩ := h
  exact ⟨es, clock, (hg.block b (lt_of_block h1) hr).trans h1, h2⟩
theorem ownsI.lt {w : World} {b n : Nat} {D : Dm} (h : ownsI w b n D) : b < w.heap.size := by
  obtain ⟨es, clock, h1, h2⟩ := h
  exact lt_of_block h1
/-- What is made, and what is met. -/
structure OfM (w : World) (O G hm mb : Nat) (q : Option Addr) (c : Nat) (Wd : Int) (vs : Value) (ls ln : List Nat) (T : Nat → Bool) (a : Nat) (pn : Option Addr) (cn : Nat) (pa : Option Addr) (ca : Nat) (D : Dm) : Prop where
  om : om13 w O G q c Wd (.slice none 0 0) vs [] ls ln T a pn cn pa ca
  me : isMe w hm mb vs
  mp : ownsI w mb ls.length D
  lh : hm < G
  lm : mb < G
  oh : O ≠ hm
  ob : O ≠ mb
  hb : hm ≠ mb
/-- What is kept while it grows. -/
def xOf (O G hm mb : Nat) : Nat → Prop := fun k => k < G ∧ k ≠ O ∧ k ≠ hm ∧ k ≠ mb
section
variable {w w' : World} {O G hm mb : Nat} {q : Option Addr} {c : Nat} {Wd : Int} {vs : Value} {ls ln : List Nat} {T : Nat → Bool} {a : Nat} {pn : Option Addr} {cn : Nat} {pa : Option Addr} {ca : Nat} {D : Dm}
theorem OfM.below (H : OfM w O G hm mb q c Wd vs ls ln T a pn cn pa ca D) (hb : Below w.heap.size w w') : OfM w' O G hm mb q c Wd vs ls ln T a pn cn pa ca D :=
  ⟨H.om.below hb, H.me.below hb, ownsMap_below H.mp hb (ownsI.lt H.mp), H.lh, H.lm, H.oh, H.ob, H.hb⟩
/-- A block below the rows that is not the automaton's has turned: its rows stand. -/
theorem om13.side13 {r : Nat} (H : om13 w O G q c Wd (.slice none 0 0) vs [] ls ln T a pn cn pa ca) (hg : w.grownBy w' (some r)) (hr : r < G) (hO : O ≠ r) : om13 w' O G q c Wd (.slice none 0 0) vs [] ls ln T a pn cn pa ca := by
  have key : ∀ {e n : Nat} {v : Value} {xs : List Value}, w.ownsRow G e 1 v n xs → w'.ownsRow G e 1 v n xs := fun {e n v xs} h => World.ownsRow.kept h hg (.inr fun e2 => by have := (World.ownsRow.lt h r e2).1; omega)
  exact ⟨(hg.block O H.df.lt (by simpa using hO)).trans H.df, key H.m, key H.s, key H.n, key H.ac, H.ms, H.mn, H.sn, H.le⟩
theorem row_ne13 {e n r : Nat} {v : Value} {xs : List Value} (h : w.ownsRow G e 1 v n xs) (hr : r < G) : some r ≠ v.ownBlock := fun e2 => by have := (World.ownsRow.lt h r e2.symm).1; omega
end

set_option maxRecDepth 100000 in
set_option maxHeartbeats 4000000 in
theorem mput13 (x : Da) (O G hm mb : Nat) (q : Option Addr) (c : Nat) (Wd : Int) (vs : Value) (ls ln : List Nat) (T : Nat → Bool) (a : Nat) (pn : Option Addr) (cn : Nat) (pa : Option Addr) (ca : Nat) (D : Dm) (u n : Nat) (z : Int) (w : World)
    (H : OfM w O G hm mb q c Wd vs ls ln T a pn cn pa ca D) (hd : dmI x ls D) (hnd : (ls.map (lnW x)).Nodup) (hn : n ≤ 1000) (hu : u < n) (hls : ls.length ≤ 2000) (hz : ((clA (lnB x) u : Nat) : Int) = z) (hG : G ≤ w.heap.size) :
    Calls Try.prog 30 #[.pointer (some ⟨hm, 0, none⟩), .int .i64 z, .int .i64 (u : Int)] w fun e w' => e = .returned (.int .i64 (ixG (ls.map (lnW x)) (lnW x u) : Nat)) ∧ (∃ vs' D', OfM w' O G hm mb q c Wd vs' (stA x ls u) ln T a pn cn pa ca D' ∧ dmI x (stA x ls u) D') ∧ kpX (xOf O G hm mb) w w' := by
  have HKY : Hid (keyOf Try.prog 3 (.int .i64 z) = some (kz13 x u)) := Lib.hid (hz ▸ kz13_key hn hu)
  obtain ⟨y0, y1⟩ := H.me.cells
  obtain ⟨ps, cs, rfl⟩ := spO_of H.om.s
  have hhl := H.me.lt
  have HH := Lib.hid H
  obtain ⟨len, hlen⟩ : ∃ len, ls.length = len := ⟨_, rfl⟩
  have HLEN := Lib.hid hlen
  have HMP : Hid (ownsI w mb len D) := Lib.hid (hlen ▸ H.mp)
  obtain ⟨ix, hix⟩ : ∃ ix, ixG (ls.map (lnW x)) (lnW x u) = ix := ⟨_, rfl⟩
  have hile : ix ≤ len := by have := ixG_le (ls.map (lnW x)) (lnW x u); rw [hix, List.length_map, hlen] at this; exact this
  rw [hlen] at y1 hls
  have l0 : (0 : Int) ≤ (len : Int) := by omega
  have l1 : (len : Int) ≤ 2000 := by omega
  by_cases hin : ix < len
  · obtain ⟨h1, h2⟩ := (hd u).1 (by rw [hix, hlen]; exact hin)
    rw [hix] at h2
    have HHAS := Lib.hid h1; have HAT := Lib.hid h2
    have HST : Hid (stA x ls u = ls) := Lib.hid (by unfold stA; rw [if_pos (by rw [hix, hlen]; exact hin)])
    have HD := Lib.hid hd
    have HIX := Lib.hid hix
    clear H hd hnd hix hin h1 h2 hz hlen hG
    go_enter Try.func30, Try.ntmps30
    go_wp2_with (at_lookup; refine wpList_lookup_own_ok_int _ rfl _ _ 65 rfl 3 3 .i64 intLaw13 Try.underlying65 Try.underlying3 (zeroI10 _) mb len D rfl HMP.out _ _ rfl HKY.out ?_; intro zz hzz _; rw [HHAS.out]; obtain rfl : zz = (ix : Int) := (Lit.int.inj (DataW.lit.inj (hzz.symm.trans HAT.out))).2)
    go_returns
    exact ⟨by rw [HIX.out] <;> rfl, ⟨_, D, by rw [HST.out]; exact HH.out, by rw [HST.out]; exact HD.out⟩, kpX.refl _ _⟩
  · have hno := (hd u).2 (by rw [hix, hlen]; exact hin)
    have hie : ix = len := by omega
    subst hie
    have HHAS := Lib.hid hno
    have HST : Hid (stA x ls u = ls ++ [u]) := Lib.hid (by unfold stA; rw [if_neg (by rw [hix, hlen]; exact hin)])
    have HD2 : Hid (dmI x (ls ++ [u]) (D.put (kz13 x u) (iL (ix : Nat)))) := Lib.hid (by
      have := dmI_put hd hnd (H.mp.tidy intLaw13) hn hu (by rw [hix, hlen]; exact hin)
      rw [hlen] at this; exact this)
    have HMX : Hid (ix < maxLen) := Lib.hid (by unfold maxLen; omega)
    have HWF : Hid ((Lit.int .i64 (ix : Int)).wf = true) := Lib.hid (WalkArith.wf_i64 (by omega))
    have HGS := Lib.hid hG
    have HLM : Hid (ls.length ≤ 1000000) := Lib.hid (by omega)
    have HIX := Lib.hid hix
    clear H hd hnd hix hin hno hz hlen hG hile
    go_enter Try.func30, Try.ntmps30
    go_wp2_with (first | (at_lookup; refine wpList_lookup_own_ok_int _ rfl _ _ 65 rfl 3 3 .i64 intLaw13 Try.underlying65 Try.underlying3 (zeroI10 _) mb ix D rfl HMP.out _ _ rfl HKY.out ?_; intro zz _ _; rw [HHAS.out]) | (at_mapUpdate; refine wpList_mapUpdate_own _ rfl _ _ _ 65 rfl 3 3 intLaw13 Try.underlying65 _ mb ix D rfl HMP.out HMX.out _ _ _ rfl rfl HKY.out (iL (ix : Int)) [] (plainElem_int Try.underlying3 HWF.out) ?_))
    intro w3 hown3 hg3
    have om3 := HH.out.om.side13 hg3 HH.out.lm HH.out.ob
    have me3 := HH.out.me.kept hg3 (by have := HH.out.hb; simp; exact this)
    have hz3 : G ≤ w3.heap.size := Nat.le_trans HGS.out hg3.size
    rw [HLEN.out] at me3
    obtain ⟨z0, z1⟩ := me3.cells
    have HAL : Hid (Below w3.heap.size w3 (w3.alloc (.cells #[.int .i64 (u : Int)] 3))) := Lib.hid ((Below.refl _ _).alloc (Nat.le_refl _) _)
    have HOM := Lib.hid (om3.below HAL.out)
    have HME := Lib.hid (me3.below HAL.out)
    have HMAP : Hid (ownsI w3 mb (ix + 1) (D.put (kz13 x u) (iL (ix : Nat)))) := Lib.hid hown3
    have HMA := Lib.hid (ownsMap_below HMAP.out HAL.out (ownsI.lt HMAP.out))
    have HKP : Hid (kpX (xOf O G hm mb) w (w3.alloc (.cells #[.int .i64 (u : Int)] 3))) := Lib.hid ((kpX.of_grown hg3 fun k e => by cases e; exact fun h => h.2.2.2 rfl).trans (kpX.of_below HAL.out))
    have HS := Lib.hid HOM.out.s
    rw [HLEN.out] at HS
    have HSZ : Hid (G ≤ (w3.alloc (.cells #[.int .i64 (u : Int)] 3)).heap.size) := Lib.hid (by rw [World.size_alloc]; omega)
    clear hown3 hg3 om3 me3 hz3 y0 y1 HMAP
    go_wp2_with (at_builtin; refine append_nx2 rfl _ _ rfl G _ ls rfl HS.out w3.heap.size u rfl (by simp) HLM.out HSZ.out ?_; intro v' w5 hown hgrow hat; have HO := Lib.hid hown; have HG5 := Lib.hid hgrow; have HAT := Lib.hid hat; clear hown hgrow hat; refine Hid.out ?_)
    obtain ⟨p', c', hv'⟩ := spO_of HO.out
    have hl : (ls ++ [u]).length = ix + 1 := by rw [List.length_append, HLEN.out]; rfl
    rw [hl] at hv'
    subst hv'
    have om5 := HOM.out.growS HO.out (by rw [HLEN.out]; exact HG5.out) (by rw [HLEN.out]; exact HAT.out)
    have hne : ∀ r, r < G → some r ≠ (Value.slice ps ix cs).ownBlock := fun r hr => row_ne13 HS.out hr
    have me5 := HME.out.kept HG5.out (hne hm HH.out.lh)
    have mp5 := ownsI.kept HMA.out HG5.out (hne mb HH.out.lm)
    have hgs := grown_setCell w5 hm 1 (.slice p' (ix + 1) c')
    have HFIN : Hid (OfM (w5.setCell ⟨hm, 1, none⟩ (.slice p' (ix + 1) c')) O G hm mb q c Wd (.slice p' (ix + 1) c') (stA x ls u) ln T a pn cn pa ca (D.put (kz13 x u) (iL (ix : Nat)))) := Lib.hid (by
      rw [HST.out]
      exact ⟨om5.side13 hgs HH.out.lh HH.out.oh, me5.put1 _, by rw [hl]; exact ownsI.kept mp5 hgs (by have := HH.out.hb; simp; exact fun e => this e.symm), HH.out.lh, HH.out.lm, HH.out.oh, HH.out.ob, HH.out.hb⟩)
    have HKF : Hid (kpX (xOf O G hm mb) w (w5.setCell ⟨hm, 1, none⟩ (.slice p' (ix + 1) c'))) := Lib.hid ((HKP.out.trans (kpX.of_grown HG5.out fun k e hk => hne k hk.1 e.symm)).trans (kpX.of_grown hgs fun k e => by cases e; exact fun h => h.2.2.1 rfl))
    have d1 := me5.cells.2
    have d2 := me5.free 1
    have d3 := me5.lt
    clear om5 hne me5 mp5 hgs HO HG5 HAT HOM HME HMA HKP HS hl z0 z1
    refine Lib.hid ?_
    go_wp2_with fail
    go_returns
    exact ⟨by rw [HIX.out] <;> rfl, ⟨_, _, HFIN.out, by rw [HST.out]; exact HD2.out⟩, HKF.out⟩
end Go.Proofs.Ytefpoapbodbenaa
