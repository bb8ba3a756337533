/-
  The walk of the twelfth reference's Run.
-/
import Derived.Test.YtpfbmbegddemoaaPk28
namespace Go.Proofs.Ytpfbmbegddemoaa
open Go.RowKit

/-- Where a state goes by a symbol. -/
def goD (x : Da) (s y : Nat) : Nat := (x.l1 (s * x.wd.toNat + (x.l0 y).toNat)).toNat
/-- Where the first k symbols of a word lead; nowhere, if one of them is none. -/
def rwD (x : Da) (s : Nat) (l : Nat → Int) : Nat → Option Nat
  | 0 => some s
  | k + 1 => match rwD x s l k with
    | none => none
    | some t => if 0 ≤ l k ∧ l k ≤ 258 then some (goD x t (l k).toNat) else none
theorem rwD_none {x : Da} {s : Nat} {l : Nat → Int} {i : Nat} (h : rwD x s l i = none) : ∀ k, i ≤ k → rwD x s l k = none
  | 0, hk => by have : i = 0 := by omega
                subst this; exact h
  | k + 1, hk => by
    by_cases e : i = k + 1
    · subst e; exact h
    · show (match rwD x s l k with | none => none | some t => _) = none
      rw [rwD_none h k (by omega)]
theorem rwD_go {x : Da} {s : Nat} {l : Nat → Int} {i t : Nat} (h : rwD x s l i = some t) (hl : 0 ≤ l i ∧ l i ≤ 258) : rwD x s l (i + 1) = some (goD x t (l i).toNat) := by
  show (match rwD x s l i with | none => none | some t => _) = _
  rw [h]
  exact if_pos hl
theorem rwD_stop {x : Da} {s : Nat} {l : Nat → Int} {i t k : Nat} (h : rwD x s l i = some t) (hl : ¬ (0 ≤ l i ∧ l i ≤ 258)) (hk : i < k) : rwD x s l k = none := by
  refine rwD_none (i := i + 1) ?_ k hk
  show (match rwD x s l i with | none => none | some t => _) = _
  rw [h]
  exact if_neg hl
theorem goD_at {x : Da} (h : rgD x) {s y : Nat} (hs : s < x.n2) (hy : y < 259) : s * x.wd.toNat + (x.l0 y).toNat < x.n1 ∧ 0 ≤ x.l1 (s * x.wd.toNat + (x.l0 y).toNat) ∧ goD x s y < x.n2 := by
  obtain ⟨-, h1, h2, h3, h4, h5, -, -, h6, h7⟩ := h
  have a := h6 y hy
  obtain ⟨W, hW⟩ : ∃ W : Nat, x.wd = W := ⟨x.wd.toNat, by omega⟩
  rw [hW] at a h5 ⊢
  rw [Int.toNat_natCast]
  have e : (x.l0 y).toNat < W := by omega
  have h8 : x.n1 = x.n2 * W := by exact_mod_cast h5
  have h9 : (s + 1) * W ≤ x.n2 * W := Nat.mul_le_mul_right W hs
  rw [Nat.succ_mul] at h9
  have h10 : s * W + (x.l0 y).toNat < x.n1 := by omega
  have h11 := h7 _ h10
  refine ⟨h10, h11.1, ?_⟩
  unfold goD
  rw [hW, Int.toNat_natCast]
  omega
noncomputable def rnD (x : Da) (s : Int) (l : Nat → Int) (k : Nat) : Int := if rgB x = true ∧ 0 ≤ s ∧ s < x.n2 then (match rwD x s.toNat l k with | none => -1 | some t => (t : Int)) else -1

set_option maxRecDepth 100000 in
set_option maxHeartbeats 20000000 in
theorem rrun12 (v : Value) (x : Da) (h0 : x.n0 ≤ 10000) (h1 : x.n1 ≤ 100000) (h2 : x.n2 ≤ 1000) (s : Int) (q : Option Addr) (k c : Nat) (hk : k ≤ 10000) (l : Nat → Int) (w : World) (hd : daAt w v x) (hl : rdL w q k l) :
    Calls Try.prog 8 #[v, .int .i64 s, .slice q k c] w fun e w' => e = .returned (.int .i64 (rnD x s l k)) ∧ Below w.heap.size w w' := by
  have hRg := rright12 v x h0 h1 h2
  obtain ⟨D, hD⟩ : ∃ D, w.heap.size = D := ⟨_, rfl⟩
  obtain ⟨z, hz⟩ : ∃ z, rnD x s l k = z := ⟨_, rfl⟩
  rw [hz]
  have hd' := hd
  obtain ⟨q0, c0, q1, c1, q2, c2, rfl, hr0, hr1, hr2⟩ := hd'
  obtain ⟨w1, hw1⟩ : ∃ w1, w.alloc (.cells #[.slice q0 x.n0 c0, .int .i64 x.wd, .int .i64 x.st, .slice q1 x.n1 c1, .slice q2 x.n2 c2] 25) = w1 := ⟨_, rfl⟩
  have hz1 : w1.heap.size = D + 1 := by rw [← hw1, World.size_alloc, hD]
  have hb1 : Below D w w1 := hw1 ▸ (Below.refl _ _).alloc (by omega) _
  have hk1 : isDf w1 D q0 x.n0 c0 x.wd x.st q1 x.n1 c1 q2 x.n2 c2 := hw1 ▸ hD ▸ heap_alloc_new w _
  have HK := Lib.hid (fun w' (h : Below (D + 1) w1 w') => (hk1.below h (Nat.lt_succ_self D)).cells)
  have HR0 := Lib.hid (fun w' (h : Below (D + 1) w1 w') => hr0.below (hD.symm ▸ hb1.trans (h.mono (Nat.le_succ D))))
  have HR1 := Lib.hid (fun w' (h : Below (D + 1) w1 w') => hr1.below (hD.symm ▸ hb1.trans (h.mono (Nat.le_succ D))))
  have HL := Lib.hid (fun w' (h : Below (D + 1) w1 w') => hl.below (hD.symm ▸ hb1.trans (h.mono (Nat.le_succ D))))
  have HRG := Lib.hid (hRg w1 (hd.below (hD.symm ▸ hb1)))
  have HW1 := Lib.hid hw1; have HG := Lib.hid hD; have HB1 := Lib.hid hb1; have HZ := Lib.hid hz1
  have b2 : (0 : Int) ≤ (x.n2 : Int) := by omega
  have b3 : (x.n2 : Int) ≤ 1000 := by omega
  have bk : (0 : Int) ≤ (k : Int) := by omega
  obtain ⟨y0, y1, y2, y3, y4⟩ := hk1.cells
  clear hw1 hk1 hr0 hr1 hr2 hb1 hRg hd hl
  cases hg : rgB x with
  | false =>
    have HM : Hid (z = -1) := Lib.hid (by rw [← hz]; unfold rnD; rw [if_neg (by rw [hg]; simp)])
    rw [hg] at HRG
    clear hg hz
    go_enter Try.func8, Try.ntmps8
    go_upto_region 1 with (fail)
    rw [HW1.out]
    clear hD
    go_wp2_with fail
    refine HRG.out.mono ?_
    rintro e w2 ⟨rfl, hb2⟩
    have HB2 : Hid (Below (D + 1) w1 w2) := Lib.hid (HZ.out ▸ hb2)
    clear hb2 HRG y0 y1 y2 y3 y4
    obtain ⟨y0, y1, y2, y3, y4⟩ := HK.out _ HB2.out
    go_wp2_with fail
    go_returns
    exact ⟨by rw [HM.out] <;> rfl, HG.out.symm ▸ HB1.out.trans (HB2.out.mono (Nat.le_succ D))⟩
  | true =>
    rw [hg] at HRG
    by_cases hs0 : s < 0
    · have ds : decide (s < 0) = true := decide_eq_true hs0
      have HM : Hid (z = -1) := Lib.hid (by rw [← hz]; unfold rnD; rw [if_neg (by omega)])
      clear hg hz
      go_enter Try.func8, Try.ntmps8
      go_upto_region 1 with (fail)
      rw [HW1.out]
      clear hD
      go_wp2_with fail
      refine HRG.out.mono ?_
      rintro e w2 ⟨rfl, hb2⟩
      have HB2 : Hid (Below (D + 1) w1 w2) := Lib.hid (HZ.out ▸ hb2)
      clear hb2 HRG y0 y1 y2 y3 y4
      obtain ⟨y0, y1, y2, y3, y4⟩ := HK.out _ HB2.out
      go_wp2_with fail
      go_returns
      exact ⟨by rw [HM.out] <;> rfl, HG.out.symm ▸ HB1.out.trans (HB2.out.mono (Nat.le_succ D))⟩
    have ds : decide (s < 0) = false := decide_eq_false hs0
    by_cases hs1 : (x.n2 : Int) ≤ s
    · have ds1 : decide ((x.n2 : Int) ≤ s) = true := decide_eq_true hs1
      have HM : Hid (z = -1) := Lib.hid (by rw [← hz]; unfold rnD; rw [if_neg (by omega)])
      clear hg hz
      go_enter Try.func8, Try.ntmps8
      go_upto_region 1 with (fail)
      rw [HW1.out]
      clear hD
      go_wp2_with fail
      refine HRG.out.mono ?_
      rintro e w2 ⟨rfl, hb2⟩
      have HB2 : Hid (Below (D + 1) w1 w2) := Lib.hid (HZ.out ▸ hb2)
      clear hb2 HRG y0 y1 y2 y3 y4
      obtain ⟨y0, y1, y2, y3, y4⟩ := HK.out _ HB2.out
      go_wp2_with fail
      go_returns
      exact ⟨by rw [HM.out] <;> rfl, HG.out.symm ▸ HB1.out.trans (HB2.out.mono (Nat.le_succ D))⟩
    have ds1 : decide ((x.n2 : Int) ≤ s) = false := decide_eq_false hs1
    obtain ⟨s0, rfl⟩ : ∃ s0 : Nat, s = s0 := ⟨s.toNat, by omega⟩
    have ds2 : decide (x.n2 ≤ s0) = false := decide_eq_false (by omega)
    have hrg := rgB_iff.1 hg
    have HRd := Lib.hid hrg
    have HM : Hid (z = match rwD x s0 l k with | none => -1 | some t => (t : Int)) := Lib.hid (by rw [← hz]; unfold rnD; rw [if_pos ⟨hg, by omega, by omega⟩, Int.toNat_natCast])
    have hn0 : x.n0 = 259 := hrg.1
    obtain ⟨W, hW⟩ : ∃ W : Nat, x.wd = W := ⟨x.wd.toNat, by have := hrg.2.1; omega⟩
    have hWl : W ≤ 259 := by have := hrg.2.2.1; omega
    have HGA := Lib.hid (fun s y (hs : s < x.n2) (hy : y < 259) => goD_at hrg hs hy)
    have HC0 := Lib.hid (fun y (hy : y < 259) => (hrg.2.2.2.2.2.2.2.2.1 y hy).1)
    have HWW := Lib.hid hW
    have hst : s0 < x.n2 := by omega
    have HS0 : Hid (rwD x s0 l 0 = some s0) := Lib.hid rfl
    rw [hn0] at HK HR0 ⊢
    rw [hW] at HK ⊢
    rw [hn0, hW] at HW1 HRG
    rw [hn0] at y0
    rw [hW] at y1
    clear hg hz hrg hn0 hW
    go_enter Try.func8, Try.ntmps8
    go_upto_region 1 with (fail)
    rw [HW1.out]
    clear hD
    go_wp2_with fail
    refine HRG.out.mono ?_
    rintro e w2 ⟨rfl, hb2⟩
    have HB2 : Hid (Below (D + 1) w1 w2) := Lib.hid (HZ.out ▸ hb2)
    clear hb2 HRG y0 y1 y2 y3 y4
    obtain ⟨y0, y1, y2, y3, y4⟩ := HK.out _ HB2.out
    go_wp2_with fail
    clear y0 y1 y2 y3 y4
    go_loopw [1, 7] (fun sv iv wr => ∃ i t : Nat, i ≤ k ∧ iv = .int .i64 i ∧ sv = .int .i64 t ∧ t < x.n2 ∧ Hid (rwD x s0 l i = some t) ∧ Hid (Below (D + 1) w1 wr)) (fun _ iv _ => k - (intOf iv).toNat)
    case atStart => exact ⟨0, s0, Nat.zero_le _, rfl, rfl, hst, HS0, HB2⟩
    case round =>
      clear HS0 HB2
      obtain ⟨i, t, hi, rfl, rfl, ht, HQ, HB⟩ := hrel
      by_cases hlt : i < k
      · have i0 : (0 : Int) ≤ (i : Int) := by omega
        have i1 : (i : Int) < (k : Int) := by omega
        obtain ⟨b, o, rfl, hb, hc⟩ := HL.out _ HB.out i hlt
        obtain ⟨y, hy⟩ : ∃ y, l i = y := ⟨_, rfl⟩
        have HY := Lib.hid hy
        rw [hy] at hc
        clear hy
        have HBf : Hid (Below w.heap.size w wr) := Lib.hid (HG.out.symm ▸ HB1.out.trans (HB.out.mono (Nat.le_succ D)))
        by_cases hy0 : y < 0
        · have dy : decide (y < 0) = true := decide_eq_true hy0
          have HE : Hid (z = -1) := Lib.hid (by rw [HM.out, rwD_stop HQ.out (by rw [HY.out]; omega) hlt])
          clear hb
          go_wp2_with fail
          go_returns
          exact ⟨by rw [HE.out] <;> rfl, HBf.out⟩
        · have dy : decide (y < 0) = false := decide_eq_false hy0
          by_cases hy1 : 258 < y
          · have dz : decide (258 < y) = true := decide_eq_true hy1
            have HE : Hid (z = -1) := Lib.hid (by rw [HM.out, rwD_stop HQ.out (by rw [HY.out]; omega) hlt])
            clear hb
            go_wp2_with fail
            go_returns
            exact ⟨by rw [HE.out] <;> rfl, HBf.out⟩
          · have dz : decide (258 < y) = false := decide_eq_false hy1
            obtain ⟨Y, rfl⟩ : ∃ Y : Nat, y = Y := ⟨y.toNat, by omega⟩
            have hY : Y < 259 := by omega
            obtain ⟨g1, g2, g3⟩ := HGA.out t Y ht hY
            have HQ2 : Hid (rwD x s0 l (i + 1) = some (goD x t Y)) := Lib.hid (by
              have := rwD_go HQ.out (by rw [HY.out]; omega)
              rw [HY.out, Int.toNat_natCast] at this; exact this)
            obtain ⟨y0, y1, y2, y3, y4⟩ := HK.out _ HB.out
            obtain ⟨b0, o0, rfl, -, k0⟩ := HR0.out _ HB.out Y hY
            obtain ⟨b1, o1, rfl, -, k1⟩ := HR1.out _ HB.out _ g1
            rw [HWW.out, Int.toNat_natCast] at g1 k1
            have hcc := HC0.out Y hY
            obtain ⟨C, hC⟩ : ∃ C : Nat, x.l0 Y = C := ⟨(x.l0 Y).toNat, by omega⟩
            have HGD : Hid (x.l1 (t * W + C) = (goD x t Y : Nat)) := Lib.hid (by
              unfold goD
              rw [HWW.out, Int.toNat_natCast, hC, Int.toNat_natCast]
              have := g2
              rw [HWW.out, Int.toNat_natCast, hC, Int.toNat_natCast] at this
              omega)
            rw [hC] at k0
            rw [hC, Int.toNat_natCast] at g1 k1
            rw [HGD.out] at k1
            obtain ⟨p, hp⟩ : ∃ p, t * W = p := ⟨_, rfl⟩
            have hmul : (t : Int) * (W : Int) = (p : Int) := by rw [← hp]; simp
            rw [hp] at g1 k1
            have j0 : (0 : Int) ≤ (Y : Int) := by omega
            have j1 : (Y : Int) < 259 := by omega
            have p0 : (0 : Int) ≤ (p : Int) := by omega
            have p1 : (p : Int) + (C : Int) < (x.n1 : Int) := by omega
            have p2 : (0 : Int) ≤ (p : Int) + (C : Int) := by omega
            have p3 : (x.n1 : Int) ≤ 100000 := by omega
            have p4 : ((p : Int) + (C : Int)).toNat = p + C := by omega
            obtain ⟨gt, hgt⟩ : ∃ gt, goD x t Y = gt := ⟨_, rfl⟩
            rw [hgt] at HQ2 k1 g3
            clear hb hC hp hcc g1 g2 HGD hgt HQ HY
            go_wp2_with fail
            go_quiet (fail)
            have HBd : Hid (Below (D + 1) w1 (wr.drewN nq)) := Lib.hid (below_drewN nq HB.out)
            go_wp2_with fail
            go_roundw
            case rel => exact ⟨i + 1, gt, by omega, by go_num, rfl, g3, HQ2, HBd⟩
            case measure => simp [intOf]; omega
      · obtain rfl : i = k := by omega
        have HE : Hid (z = (t : Int)) := Lib.hid (by rw [HM.out, HQ.out])
        have HBf : Hid (Below w.heap.size w wr) := Lib.hid (HG.out.symm ▸ HB1.out.trans (HB.out.mono (Nat.le_succ D)))
        go_wp2_with fail
        go_returns
        exact ⟨by rw [HE.out] <;> rfl, HBf.out⟩
end Go.Proofs.Ytpfbmbegddemoaa
