/-
  The walks of dfa.Run, Go and Accepts.
-/
import Derived.Test.YtefpoapbodbenaaPk20
namespace Go.Proofs.Ytefpoapbodbenaa
open Go.RowKit

theorem rwD_bad {x : Da} {s : Nat} {l : Nat → Int} {j k : Nat} (hj : j < k) (hl : ¬ (0 ≤ l j ∧ l j < 259)) : rwD x s l k = none := by
  cases h : rwD x s l j with
  | none => exact rwD_none h k (by omega)
  | some t => exact rwD_stop h (by omega) hj

set_option maxRecDepth 100000 in
set_option maxHeartbeats 20000000 in
theorem run_any : RunD := by
  intro v x s q k c l w hs hk hd hl
  obtain ⟨h0, h1, h2⟩ := hs
  obtain ⟨D, hD⟩ : ∃ D, w.heap.size = D := ⟨_, rfl⟩
  obtain ⟨z, hz⟩ : ∃ z, rnD x s l k = z := ⟨_, rfl⟩
  rw [hz]
  have hd' := hd
  obtain ⟨q0, c0, q1, c1, q2, c2, rfl, hr0, hr1, hr2⟩ := hd'
  obtain ⟨w1, hw1⟩ : ∃ w1, w.alloc (.cells #[.slice q0 x.n0 c0, .int .i64 x.wd, .int .i64 x.st, .slice q1 x.n1 c1, .slice q2 x.n2 c2] 25) = w1 := ⟨_, rfl⟩
  have hz1 : w1.heap.size = D + 1 := by rw [← hw1, World.size_alloc, hD]
  have hb1 : Below D w w1 := hw1 ▸ (Below.refl _ _).alloc (by omega) _
  have hk1 : isDf w1 D q0 x.n0 c0 x.wd x.st q1 x.n1 c1 q2 x.n2 c2 := hw1 ▸ hD ▸ heap_alloc_new w _
  have HK := Lib.hid (fun w' (h : Below (D + 1) w1 w') => (hk1.below h (Nat.lt_succ_self D)).cells)
  have HR0 := Lib.hid (fun w' (h : Below (D + 1) w1 w') => hr0.below (hD.symm ▸ hb1.trans (h.mono (Nat.le_succ D))))
  have HR1 := Lib.hid (fun w' (h : Below (D + 1) w1 w') => hr1.below (hD.symm ▸ hb1.trans (h.mono (Nat.le_succ D))))
  have HL := Lib.hid (fun w' (h : Below (D + 1) w1 w') => hl.below (hD.symm ▸ hb1.trans (h.mono (Nat.le_succ D))))
  have HRG := Lib.hid (rig_any _ x w1 ⟨h0, h1, h2⟩ (hd.below (hD.symm ▸ hb1)))
  obtain ⟨a, ha⟩ : ∃ a, allB k l 259 = a := ⟨_, rfl⟩
  have hia : a = true ↔ ∀ j, j < k → 0 ≤ l j ∧ l j < 259 := by rw [← ha]; exact allB_iff
  have HA := Lib.hid (fun w' (h : Below (D + 1) w1 w') => allb12 q k c l 259 a hia (by omega) w' (HL.out w' h))
  have HIA := Lib.hid hia
  have HW1 := Lib.hid hw1; have HZ := Lib.hid hz1
  have HF : Hid (∀ w', Below (D + 1) w1 w' → Below w.heap.size w w') := Lib.hid fun w' h => by rw [hD]; exact hb1.trans (h.mono (by omega))
  have b2 : (0 : Int) ≤ (x.n2 : Int) := by omega
  have b3 : (x.n2 : Int) ≤ 1000 := by omega
  have bk : (0 : Int) ≤ (k : Int) := by omega
  clear hw1 hk1 hr0 hr1 hr2 hb1 hd hl ha hia hz1
  cases hg : rgB x with
  | false =>
    have HM : Hid (z = -1) := Lib.hid (by rw [← hz]; unfold rnD; rw [if_neg (by rw [hg]; simp)])
    rw [hg] at HRG
    clear hg hz
    go_enter Try.func26, Try.ntmps26
    go_upto_region 1 with (fail)
    rw [HW1.out]
    clear hD
    obtain ⟨y0, y1, y2, y3, y4⟩ := HK.out _ (Below.refl _ _)
    go_wp2_with fail
    refine HRG.out.mono ?_
    rintro e w2 ⟨rfl, hb2⟩
    have HB2 : Hid (Below (D + 1) w1 w2) := Lib.hid (HZ.out ▸ hb2)
    clear hb2 HRG y0 y1 y2 y3 y4
    obtain ⟨y0, y1, y2, y3, y4⟩ := HK.out _ HB2.out
    go_wp2_with fail
    go_returns
    exact ⟨by rw [HM.out] <;> rfl, HF.out _ HB2.out⟩
  | true =>
    rw [hg] at HRG
    cases hb : (decide (0 ≤ s) && decide (s < (x.n2 : Int)))
    case false =>
      have HBw := Lib.hid (below12 s (x.n2 : Int) false hb)
      have HM : Hid (z = -1) := Lib.hid (by
        rw [← hz]; unfold rnD
        rw [if_neg (fun h => by rw [decide_eq_true h.2.1, decide_eq_true h.2.2] at hb; cases hb)])
      clear hg hz hb
      go_enter Try.func26, Try.ntmps26
      go_upto_region 1 with (fail)
      rw [HW1.out]
      clear hD
      obtain ⟨y0, y1, y2, y3, y4⟩ := HK.out _ (Below.refl _ _)
      go_wp2_with fail
      refine HRG.out.mono ?_
      rintro e w2 ⟨rfl, hb2⟩
      have HB2 : Hid (Below (D + 1) w1 w2) := Lib.hid (HZ.out ▸ hb2)
      clear hb2 HRG y0 y1 y2 y3 y4
      obtain ⟨y0, y1, y2, y3, y4⟩ := HK.out _ HB2.out
      go_wp2_with fail
      refine (HBw.out _).mono ?_
      rintro e w3 ⟨rfl, rfl⟩
      go_wp2_with fail
      go_returns
      exact ⟨by rw [HM.out] <;> rfl, HF.out _ HB2.out⟩
    have HBw := Lib.hid (below12 s (x.n2 : Int) true hb)
    simp only [Bool.and_eq_true, decide_eq_true_eq] at hb
    obtain ⟨s0, rfl⟩ : ∃ s0 : Nat, s = s0 := ⟨s.toNat, by omega⟩
    have hst : s0 < x.n2 := by omega
    have HM : Hid (z = match rwD x s0 l k with | none => -1 | some t => (t : Int)) := Lib.hid (by rw [← hz]; unfold rnD; rw [if_pos ⟨hg, by omega, by omega⟩, Int.toNat_natCast] <;> rfl)
    clear hb
    cases a
    case false =>
      have HE : Hid (z = -1) := Lib.hid (by
        have : ∃ j, j < k ∧ ¬ (0 ≤ l j ∧ l j < 259) := Classical.byContradiction fun hn => by
          have := HIA.out.2 (fun j hj => Classical.byContradiction fun h => hn ⟨j, hj, h⟩)
          cases this
        obtain ⟨j, hj, hl⟩ := this
        rw [HM.out, rwD_bad hj hl])
      clear hg hz
      go_enter Try.func26, Try.ntmps26
      go_upto_region 1 with (fail)
      rw [HW1.out]
      clear hD
      obtain ⟨y0, y1, y2, y3, y4⟩ := HK.out _ (Below.refl _ _)
      go_wp2_with fail
      refine HRG.out.mono ?_
      rintro e w2 ⟨rfl, hb2⟩
      have HB2 : Hid (Below (D + 1) w1 w2) := Lib.hid (HZ.out ▸ hb2)
      clear hb2 HRG y0 y1 y2 y3 y4
      obtain ⟨y0, y1, y2, y3, y4⟩ := HK.out _ HB2.out
      go_wp2_with fail
      refine (HBw.out _).mono ?_
      rintro e w3 ⟨rfl, rfl⟩
      go_wp2_with fail
      refine (HA.out _ HB2.out).mono ?_
      rintro e w4 ⟨rfl, hb4⟩
      have HB4 : Hid (Below (D + 1) w1 w4) := Lib.hid (HB2.out.trans (hb4.mono (by have := HB2.out.size; have := HZ.out; omega)))
      clear hb4 HA y0 y1 y2 y3 y4
      obtain ⟨y0, y1, y2, y3, y4⟩ := HK.out _ HB4.out
      go_wp2_with fail
      go_returns
      exact ⟨by rw [HE.out] <;> rfl, HF.out _ HB4.out⟩
    have HAL : Hid (∀ j, j < k → 0 ≤ l j ∧ l j < 259) := Lib.hid (HIA.out.1 rfl)
    have hrg := rgB_iff.1 hg
    have HRd := Lib.hid hrg
    have hn0 : x.n0 = 259 := hrg.1
    obtain ⟨W, hW⟩ : ∃ W : Nat, x.wd = W := ⟨x.wd.toNat, by have := hrg.2.1; omega⟩
    have hWl : W ≤ 259 := by have := hrg.2.2.1; omega
    have HGA := Lib.hid (fun s y (hs : s < x.n2) (hy : y < 259) => goD_at hrg hs hy)
    have HC0 := Lib.hid (fun y (hy : y < 259) => (hrg.2.2.2.2.2.2.2.2.1 y hy).1)
    have HWW := Lib.hid hW
    have HS0 : Hid (rwD x s0 l 0 = some s0) := Lib.hid rfl
    rw [hn0] at HK HR0 ⊢
    rw [hW] at HK ⊢
    rw [hn0, hW] at HW1 HRG
    clear hg hz hrg hn0 hW
    go_enter Try.func26, Try.ntmps26
    go_upto_region 1 with (fail)
    rw [HW1.out]
    clear hD
    obtain ⟨y0, y1, y2, y3, y4⟩ := HK.out _ (Below.refl _ _)
    go_wp2_with fail
    refine HRG.out.mono ?_
    rintro e w2 ⟨rfl, hb2⟩
    have HB2 : Hid (Below (D + 1) w1 w2) := Lib.hid (HZ.out ▸ hb2)
    clear hb2 HRG y0 y1 y2 y3 y4
    obtain ⟨y0, y1, y2, y3, y4⟩ := HK.out _ HB2.out
    go_wp2_with fail
    refine (HBw.out _).mono ?_
    rintro e w3 ⟨rfl, rfl⟩
    go_wp2_with fail
    refine (HA.out _ HB2.out).mono ?_
    rintro e w4 ⟨rfl, hb4⟩
    have HB4 : Hid (Below (D + 1) w1 w4) := Lib.hid (HB2.out.trans (hb4.mono (by have := HB2.out.size; have := HZ.out; omega)))
    clear hb4 HA y0 y1 y2 y3 y4
    obtain ⟨y0, y1, y2, y3, y4⟩ := HK.out _ HB4.out
    go_wp2_with fail
    clear y0 y1 y2 y3 y4
    go_loopw [1, 27] (fun sv iv wr => ∃ i t : Nat, i ≤ k ∧ iv = .int .i64 i ∧ sv = .int .i64 t ∧ t < x.n2 ∧ Hid (rwD x s0 l i = some t) ∧ Hid (Below (D + 1) w1 wr)) (fun _ iv _ => k - (intOf iv).toNat)
    case atStart => exact ⟨0, s0, Nat.zero_le _, rfl, rfl, hst, HS0, HB4⟩
    case round =>
      clear HS0 HB4 HB2
      obtain ⟨i, t, hi, rfl, rfl, ht, HQ, HB⟩ := hrel
      by_cases hlt : i < k
      · have i0 : (0 : Int) ≤ (i : Int) := by omega
        have i1 : (i : Int) < (k : Int) := by omega
        obtain ⟨b, o, rfl, hb, hc⟩ := HL.out _ HB.out i hlt
        have hyr := HAL.out i hlt
        obtain ⟨y, hy⟩ : ∃ y, l i = y := ⟨_, rfl⟩
        have HY := Lib.hid hy
        rw [hy] at hc hyr
        clear hy
        obtain ⟨Y, rfl⟩ : ∃ Y : Nat, y = Y := ⟨y.toNat, by omega⟩
        have hY : Y < 259 := by omega
        clear hyr
        obtain ⟨g1, g2, g3⟩ := HGA.out t Y ht hY
        have HQ2 : Hid (rwD x s0 l (i + 1) = some (goD x t Y)) := Lib.hid (by
          have := rwD_go HQ.out (by rw [HY.out]; omega)
          rw [HY.out, Int.toNat_natCast] at this; exact this)
        obtain ⟨y0, y1, y2, y3, y4⟩ := HK.out _ HB.out
        obtain ⟨b0, o0, rfl, -, k0⟩ := HR0.out _ HB.out Y hY
        obtain ⟨b1, o1, rfl, -, k1⟩ := HR1.out _ HB.out _ g1
        rw [HWW.out, Int.toNat_natCast] at g1 k1
        have hcc := HC0.out Y hY
        obtain ⟨C, hC⟩ : ∃ C : Nat, x.l0 Y = C := ⟨(x.l0 Y).toNat, by omega⟩
        have HGD : Hid (x.l1 (t * W + C) = (goD x t Y : Nat)) := Lib.hid (by
          unfold goD
          rw [HWW.out, Int.toNat_natCast, hC, Int.toNat_natCast]
          have := g2
          rw [HWW.out, Int.toNat_natCast, hC, Int.toNat_natCast] at this
          omega)
        rw [hC] at k0
        rw [hC, Int.toNat_natCast] at g1 k1
        rw [HGD.out] at k1
        obtain ⟨p, hp⟩ : ∃ p, t * W = p := ⟨_, rfl⟩
        have hmul : (t : Int) * (W : Int) = (p : Int) := by rw [← hp]; simp
        rw [hp] at g1 k1
        have j0 : (0 : Int) ≤ (Y : Int) := by omega
        have j1 : (Y : Int) < 259 := by omega
        have p0 : (0 : Int) ≤ (p : Int) := by omega
        have p1 : (p : Int) + (C : Int) < (x.n1 : Int) := by omega
        have p2 : (0 : Int) ≤ (p : Int) + (C : Int) := by omega
        have p3 : (x.n1 : Int) ≤ 100000 := by omega
        have p4 : ((p : Int) + (C : Int)).toNat = p + C := by omega
        obtain ⟨gt, hgt⟩ : ∃ gt, goD x t Y = gt := ⟨_, rfl⟩
        rw [hgt] at HQ2 k1 g3
        clear hb hC hp hcc g1 g2 HGD hgt HQ HY
        go_wp2_with fail
        go_quiet (fail)
        have HBd : Hid (Below (D + 1) w1 (wr.drewN nq)) := Lib.hid (below_drewN nq HB.out)
        go_wp2_with fail
        go_roundw
        case rel => exact ⟨i + 1, gt, by omega, by go_num, rfl, g3, HQ2, HBd⟩
        case measure => simp [intOf]; omega
      · obtain rfl : i = k := by omega
        have HE : Hid (z = (t : Int)) := Lib.hid (by rw [HM.out, HQ.out])
        go_wp2_with fail
        go_returns
        exact ⟨by rw [HE.out] <;> rfl, HF.out _ HB.out⟩

/-- Where a state goes by a symbol, as a block that the call makes holds it. -/
theorem one_rdL (w : World) (y : Int) : rdL (w.alloc (.cells #[.int .i64 y] 3)) (some ⟨w.heap.size, 0, none⟩) 1 (fun _ => y) := fun j hj => by
  obtain rfl : j = 0 := by omega
  exact ⟨_, _, rfl, by simp, by simp⟩

theorem rnD_at (x : Da) (l : Nat → Int) (k : Nat) (s : Int) : rnD x s l k = -1 ∨ (0 ≤ rnD x s l k ∧ (rnD x s l k < x.n2 ∨ ¬ ∀ j, j < k → 0 ≤ l j)) := by
  by_cases h : rnD x s l k = -1
  · exact .inl h
  · right
    unfold rnD at h ⊢
    by_cases hc : rgB x = true ∧ 0 ≤ s ∧ s < x.n2
    · rw [if_pos hc] at h ⊢
      cases hr : rwD x s.toNat l k with
      | none => rw [hr] at h; exact absurd rfl h
      | some t =>
        refine ⟨Int.natCast_nonneg _, .inl ?_⟩
        have key : ∀ i t, rwD x s.toNat l i = some t → t < x.n2 := by
          intro i
          induction i with
          | zero => intro t ht; have : s.toNat = t := by simpa [rwD] using ht
                    omega
          | succ i ih =>
            intro t ht
            cases hi : rwD x s.toNat l i with
            | none => rw [rwD_none hi (i + 1) (by omega)] at ht; cases ht
            | some u =>
              by_cases hl : 0 ≤ l i ∧ l i ≤ 258
              · rw [rwD_go hi hl] at ht
                cases ht
                exact (goD_at (rgB_iff.1 hc.1) (ih u hi) (by omega)).2.2
              · rw [rwD_stop hi hl (by omega : i < i + 1)] at ht; cases ht
        have := key k t hr
        show (t : Int) < x.n2
        omega
    · rw [if_neg hc] at h; exact absurd rfl h

set_option maxRecDepth 100000 in
set_option maxHeartbeats 8000000 in
theorem acc_any : AccD := by
  intro v x q k c l w hs hk hd hl
  have hlt : rnD x x.st l k = -1 ∨ (0 ≤ rnD x x.st l k ∧ rnD x x.st l k < x.n2) := by
    rcases rnD_at x l k x.st with h | ⟨h, h2 | h2⟩
    · exact .inl h
    · exact .inr ⟨h, h2⟩
    · by_cases h3 : rnD x x.st l k = -1
      · exact .inl h3
      · exfalso
        unfold rnD at h3
        by_cases hc : rgB x = true ∧ 0 ≤ x.st ∧ x.st < x.n2
        · rw [if_pos hc] at h3
          refine h2 fun j hj => Classical.byContradiction fun hn => ?_
          rw [rwD_bad hj (fun h => hn h.1)] at h3
          exact h3 rfl
        · rw [if_neg hc] at h3; exact h3 rfl
  have HACX := Lib.hid (show acD x l k = true ↔ (0 ≤ rnD x x.st l k ∧ x.T (rnD x x.st l k).toNat = true) by unfold acD; simp)
  obtain ⟨r, hr⟩ : ∃ r, acD x l k = r := ⟨_, rfl⟩
  rw [hr] at HACX ⊢
  have h2 := hs.2.2
  obtain ⟨D, hD⟩ : ∃ D, w.heap.size = D := ⟨_, rfl⟩
  have hd' := hd
  obtain ⟨q0, c0, q1, c1, q2, c2, rfl, -, -, hr2⟩ := hd'
  obtain ⟨w1, hw1⟩ : ∃ w1, w.alloc (.cells #[.slice q0 x.n0 c0, .int .i64 x.wd, .int .i64 x.st, .slice q1 x.n1 c1, .slice q2 x.n2 c2] 25) = w1 := ⟨_, rfl⟩
  have hz1 : w1.heap.size = D + 1 := by rw [← hw1, World.size_alloc, hD]
  have hb1 : Below D w w1 := hw1 ▸ (Below.refl _ _).alloc (by omega) _
  have hk1 : isDf w1 D q0 x.n0 c0 x.wd x.st q1 x.n1 c1 q2 x.n2 c2 := hw1 ▸ hD ▸ heap_alloc_new w _
  have HC := Lib.hid (run_any _ x x.st q k c l w1 hs hk (hd.below (hD.symm ▸ hb1)) (hl.below (hD.symm ▸ hb1)))
  have HK := Lib.hid (fun w' (h : Below (D + 1) w1 w') => (hk1.below h (Nat.lt_succ_self D)).cells)
  have HR2 := Lib.hid (fun w' (h : Below (D + 1) w1 w') => hr2.below (hD.symm ▸ hb1.trans (h.mono (Nat.le_succ D))))
  have HW1 := Lib.hid hw1; have HZ := Lib.hid hz1
  have HF : Hid (∀ w', Below (D + 1) w1 w' → Below w.heap.size w w') := Lib.hid fun w' h => by rw [hD]; exact hb1.trans (h.mono (by omega))
  obtain ⟨y0, y1, y2, y3, y4⟩ := hk1.cells
  clear hw1 hk1 hb1 hd hl hr2 hr hs
  obtain ⟨z, hz⟩ : ∃ z, rnD x x.st l k = z := ⟨_, rfl⟩
  rw [hz] at HC HACX hlt
  clear hz
  have b3 : (x.n2 : Int) ≤ 1000 := by omega
  by_cases hzz : z = -1
  · have dz : (z != -1) = false := by simp [hzz]
    have HE : Hid (r = false) := Lib.hid (by
      cases r with
      | false => rfl
      | true => have := (HACX.out.1 rfl).1; omega)
    clear hlt hzz
    go_enter Try.func14, Try.ntmps14
    go_upto_region 1 with (fail)
    rw [HW1.out]
    clear hD hz1
    go_wp2_with fail
    refine HC.out.mono ?_
    rintro e w3 ⟨rfl, hb3⟩
    have HB3 : Hid (Below (D + 1) w1 w3) := Lib.hid (HZ.out ▸ hb3)
    clear hb3 y0 y1 y2 y3 y4
    obtain ⟨y0, y1, y2, y3, y4⟩ := HK.out _ HB3.out
    go_wp2_with fail
    go_returns
    exact ⟨by rw [HE.out] <;> rfl, HF.out _ HB3.out⟩
  · have dz : (z != -1) = true := by simp [hzz]
    obtain ⟨t, rfl⟩ : ∃ t : Nat, z = t := ⟨z.toNat, by omega⟩
    have t0 : (0 : Int) ≤ (t : Int) := by omega
    have t1 : (t : Int) < (x.n2 : Int) := by omega
    have htn : t < x.n2 := by omega
    obtain ⟨u, hu⟩ : ∃ u, x.T t = u := ⟨_, rfl⟩
    have HE : Hid (r = u) := Lib.hid (by
      have := HACX.out
      rw [Int.toNat_natCast, hu] at this
      cases r <;> cases u
      · rfl
      · exact absurd (this.2 ⟨t0, rfl⟩) (by decide)
      · exact absurd (this.1 rfl).2 (by decide)
      · rfl)
    have HU := Lib.hid hu
    clear hlt hzz hu
    go_enter Try.func14, Try.ntmps14
    go_upto_region 1 with (fail)
    rw [HW1.out]
    clear hD hz1
    go_wp2_with fail
    refine HC.out.mono ?_
    rintro e w3 ⟨rfl, hb3⟩
    have HB3 : Hid (Below (D + 1) w1 w3) := Lib.hid (HZ.out ▸ hb3)
    clear hb3 y0 y1 y2 y3 y4
    obtain ⟨y0, y1, y2, y3, y4⟩ := HK.out _ HB3.out
    obtain ⟨b2, o2, rfl, -, kt⟩ := HR2.out _ HB3.out t htn
    rw [HU.out] at kt
    go_wp2_with fail
    go_returns
    exact ⟨by rw [HE.out] <;> rfl, HF.out _ HB3.out⟩
end Go.Proofs.Ytefpoapbodbenaa
