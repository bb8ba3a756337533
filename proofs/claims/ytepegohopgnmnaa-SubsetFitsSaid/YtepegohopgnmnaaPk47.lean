/-
  The walk of the eleventh reference's Build.
-/
import Derived.Test.YtepegohopgnmnaaPk21
import Derived.Test.YtepegohopgnmnaaPk15
import Derived.Test.YtepegohopgnmnaaPk30
import Derived.Test.YtepegohopgnmnaaPk17
import Derived.Test.YtepegohopgnmnaaPk45
import Derived.Test.YtepegohopgnmnaaPk46
import Derived.Test.YtepegohopgnmnaaPk6
import Derived.Deep.RegionHeldLaw
import Derived.Deep.RegionLaw
import Derived.BigRegion
import Derived.Deep.RegionWith
namespace Go.Proofs.Ytepegohopgnmnaa
open Go.RowKit

theorem rdL.eqv {w : World} {p : Option Addr} {n : Nat} {l l' : Nat → Int} (h : rdL w p n l) (hl : ∀ j, j < n → l j = l' j) : rdL w p n l' := fun j hj => by
  obtain ⟨b, o, h1, h2, h3⟩ := h j hj
  exact ⟨b, o, h1, h2, by rw [← hl j hj]; exact h3⟩
theorem clM_succ (go : Nat → Bf → Bf) (m : Nat) (X : Bf) (c : Nat) (s : Ms) : clM go m X (c + 1) s = (adS m (clM go m X c s).1 (go c X), (clM go m X c s).2 ++ [fiS m (clM go m X c s).1 (go c X)]) := rfl

set_option maxRecDepth 100000 in
set_option maxHeartbeats 20000000 in
theorem rbuild11 (b off m cap : Nat) (S : Nat → Sd) (st : Int) (F : Nat) (most : Int) (hm : m ≤ 600) (hpos : 0 < m) (hF : F < m) (hR : rng S m) (hw : ∀ q, q < m → okWs (S q)) (hmost : most ≤ 64) (w : World) (hS : rdS w b off m S) :
    Calls Try.prog 10 #[.agg #[.slice (some ⟨b, off, none⟩) m cap, .int .i64 st, .int .i64 (F : Int)], .int .i64 most] w (rbPost S m st F most w) := by
  obtain ⟨A, hA⟩ : ∃ A, w.heap.size = A := ⟨_, rfl⟩
  obtain ⟨w1, hw1⟩ : ∃ w1, w.alloc (.cells #[.slice (some ⟨b, off, none⟩) m cap, .int .i64 st, .int .i64 (F : Int)] 24) = w1 := ⟨_, rfl⟩
  have hz1 : w1.heap.size = A + 1 := by rw [← hw1, World.size_alloc, hA]
  have hb1 : Below A w w1 := hw1 ▸ (Below.refl _ _).alloc (by omega) _
  have hn1 : is3 24 w1 A (.slice (some ⟨b, off, none⟩) m cap) st F := hw1 ▸ hA ▸ is3.new 24 w (.slice (some ⟨b, off, none⟩) m cap) st F
  obtain ⟨w2, hw2⟩ : ∃ w2, w1.alloc (.cells #[.slice none 0 0, .int .i64 0, .int .i64 0, .slice none 0 0, .slice none 0 0] 30) = w2 := ⟨_, rfl⟩
  have hz2 : w2.heap.size = A + 2 := by rw [← hw2, World.size_alloc, hz1]
  have hb2 : Below (A + 1) w1 w2 := hw2 ▸ (Below.refl _ _).alloc (by omega) _
  have hb02 : Below A w w2 := hb1.trans (hb2.mono (by omega))
  have HD : Hid (∀ w', Below (A + 2) w2 w' → w'.heap[A + 1]? = some (.cells #[.slice none 0 0, .int .i64 0, .int .i64 0, .slice none 0 0, .slice none 0 0] 30 (0, 0))) := Lib.hid fun w' h => (h.block (A + 1) (by omega)).trans (by rw [← hw2, ← hz1]; exact heap_alloc_new w1 _)
  have HN : Hid (∀ w', Below (A + 2) w2 w' → is3 24 w' A (.slice (some ⟨b, off, none⟩) m cap) st F) := Lib.hid fun w' h => (hn1.below hb2 (by omega)).below h (by omega)
  have hS2 : rdS w2 b off m S := hS.below (hA ▸ hb02)
  have HS : Hid (∀ w', Below (A + 2) w2 w' → rdS w' b off m S) := Lib.hid fun w' h => hS2.below (hz2 ▸ h)
  have HCls := Lib.hid (classes10 b off m cap S st F (by omega) hw w2 hS2)
  have HCL := Lib.hid (fun g c T sym w' (hB : Below (A + 2) w2 w') hT => rcl_is b off m cap g c S T st F sym (by omega) hpos hR w' (hS2.below (hz2 ▸ hB)) hT)
  have HST := Lib.hid (fun g c T y (hy : y < 256) w' (hB : Below (A + 2) w2 w') hT => rst_is b off m cap g c S T st F y hy (by omega) hpos hR hw w' (hS2.below (hz2 ▸ hB)) hT)
  have HOF := Lib.hid (fun (p : Option Addr) (c : Nat) w' hl => rof9_is b off m cap st F (by omega) hpos p 1 c (fun _ => st) (by decide) w' hl)
  have HB02 := Lib.hid hb02
  have HW1 := Lib.hid hw1; have HW2 := Lib.hid hw2
  have HGA := Lib.hid hA; have HZ2 := Lib.hid hz2
  have hwl := wdY_le S m
  have HCT : Hid (cntT (isH (alk S m)) 259 = wdY S m) := Lib.hid rfl
  have HFS := Lib.hid (fun c (h : c < wdY S m) => fsY_int h)
  clear hz1 hb1 hn1 hb2 hb02 hS2 hw hR hS hw1 hw2
  go_enter Try.func10, Try.ntmps10
  go_upto_region 1 with (fail)
  rw [HW1.out, HW2.out]
  obtain ⟨z0, z1, z2⟩ := (HN.out _ (Below.refl _ _)).cells
  go_wp2_with fail
  refine HCls.out.mono ?_
  rintro e w3 ⟨q, cq, rfl, hq, hb3⟩
  rw [HCT.out]
  have HB3 : Hid (Below (A + 2) w2 w3) := Lib.hid (HZ2.out ▸ hb3)
  have HQ3 := Lib.hid hq
  have hfi := firsts10 q 259 cq _ ((wdY S m : Nat) : Int) (by decide) w3 hq
  have hmin : (min ((wdY S m : Nat) : Int) 259).toNat = wdY S m := by omega
  rw [hmin] at hfi
  have HFi := Lib.hid hfi
  clear hq hb3 hfi hmin HCls HCT z0 z1 z2
  obtain ⟨W, hW⟩ : ∃ W, wdY S m = W := ⟨_, rfl⟩
  have HWW := Lib.hid hW
  rw [hW] at HFi HFS hwl ⊢
  clear hW
  go_wp2_with fail
  refine HFi.out.mono ?_
  rintro e w4 ⟨qf, cf, rfl, hqf, hb4⟩
  have HB4 : Hid (Below (A + 2) w2 w4) := Lib.hid (HB3.out.trans (hb4.mono (by have := HB3.out.size; have := HZ2.out; omega)))
  have HQ4 := Lib.hid (HQ3.out.below hb4)
  have HF4 : Hid (rdL w4 qf W (fun j => (fsY S m j : Nat))) := Lib.hid (hqf.eqv fun j hj => (HFS.out j hj).1)
  obtain ⟨B, hBz⟩ : ∃ B, w4.heap.size = B := ⟨_, rfl⟩
  have hAB : A + 2 ≤ B := by have := HB4.out.size; have := HZ2.out; omega
  have HZ4 := Lib.hid hBz
  clear hqf hb4 HFi HB3 HQ3
  have hB : Below B w4 w4 := Below.refl _ _
  have HKS : Hid (∀ w', Below B w4 w' → w'.cell? ⟨A, 0, none⟩ = some (.slice (some ⟨b, off, none⟩) m cap) ∧ w'.cell? ⟨A, 1, none⟩ = some (.int .i64 st) ∧ w'.cell? ⟨A, 2, none⟩ = some (.int .i64 (F : Int))) := Lib.hid fun w' h =>
    (HN.out _ (HB4.out.trans (h.mono hAB))).cells
  have HBL : Hid (Below B w4 (w4.alloc (.cells #[.int .i64 st] 3)).drew) := Lib.hid ((Below.refl _ _).alloc (by omega) _).drew
  have hlit := (lit_rdL w4 st).below ((Below.refl _ _).drew)
  rw [hBz] at hlit
  have HOF4 := Lib.hid (HOF.out (some ⟨B, 0, none⟩) 1 _ hlit)
  clear hlit HOF
  go_wp2_with fail
  go_region_held_law (fun w' => w'.cell? ⟨A, 0, none⟩ = some (.slice (some ⟨b, off, none⟩) m cap) ∧ w'.cell? ⟨A, 1, none⟩ = some (.int .i64 st) ∧ w'.cell? ⟨A, 2, none⟩ = some (.int .i64 (F : Int)))
    (first | with_reducible exact HKS.out _ hB | with_reducible exact HKS.out _ hB.drew | with_reducible exact HKS.out _ HBL.out | exact HKS.out _ (hB.alloc (Nat.le_trans (Nat.le_of_eq HZ4.out.symm) hB.size) _))
    (first
      | (go_at_call 28; (with_reducible refine HOF4.out.mono ?_); rintro e wk ⟨G0, rfl, ho, hb⟩; have HO0 := Lib.hid ho; (replace hB := HBL.out.trans (hb.mono (Nat.le_trans (Nat.le_of_eq HZ4.out.symm) HBL.out.size))); clear ho hb)
      | (go_at_call 27; (with_reducible refine (HCL.out _ _ _ 0 _ (HB4.out.trans (hB.mono hAB)) HO0.out.rd).mono ?_); rintro e wc ⟨G1, C1, rfl, ho, hb⟩; have HO1 := Lib.hid ho; have HBc := Lib.hid hB; (replace hB := hB.trans (hb.mono (Nat.le_trans (Nat.le_of_eq HZ4.out.symm) hB.size))); clear ho hb))
  obtain ⟨T0, hT0⟩ : ∃ T0, T0Y S m st = T0 := ⟨_, rfl⟩
  have hT0' : upN S 0 m (inL m (fun _ => st) 1) m = T0 := hT0
  rw [hT0'] at HO1
  have HT0 := Lib.hid hT0
  obtain ⟨w5, hw5⟩ : ∃ w5, wc.alloc (.cells #[.slice (some ⟨G1, 0, none⟩) m C1] 28) = w5 := ⟨_, rfl⟩
  obtain ⟨g5, hg5⟩ : ∃ g5, wc.heap.size = g5 := ⟨_, rfl⟩
  have hbc : Below wc.heap.size wc w5 := hw5 ▸ (Below.refl _ _).alloc (Nat.le_refl _) _
  have hBk : B ≤ wk.heap.size := by have := HBc.out.size; have := HZ4.out; omega
  have HG5 : Hid (gsR w5 B (.slice (some ⟨g5, 0, none⟩) 1 1) (fun _ => G1) (fun _ => C1) m [T0]) := Lib.hid (by
    refine ⟨?_, fun i hi => ?_⟩
    · rw [← hw5, ← hg5]
      exact World.ownsRow_lit wc #[.slice (some ⟨G1, 0, none⟩) m C1] 1 (by have := hB.size; have := HZ4.out; omega) (by decide) rfl
    · obtain rfl : i = 0 := by simp at hi; omega
      exact owns_mono (HO1.out.below hbc) hBk)
  have HB5 : Hid (Below B w4 w5) := Lib.hid (hB.trans (hbc.mono (by have := hB.size; have := HZ4.out; omega)))
  have HN5 : Hid (spO w5 B (.slice none 0 0) []) := Lib.hid ⟨rfl, .inl ⟨rfl, rfl⟩⟩
  rw [hw5, hg5]
  clear hT0 hT0' hw5 hg5 hbc hBk hB HO1 HBc HOF4 HBL HO0
  go_wp2_with fail
  go_loopw [9, 10, 11] (fun sv xv iv wr => ∃ (a g c : Nat) (vn : Value), a ≤ rdM most ∧ iv = .int .i64 a ∧ vn = xv ∧ sv = .slice (some ⟨g, 0, none⟩) (atM (goC S m) m W T0 a).1.length c ∧ Hid (∀ b, b < a → b < (atM (goC S m) m W T0 b).1.length ∧ ((atM (goC S m) m W T0 b).1.length : Int) ≤ most) ∧ Hid (∃ r C, gsR wr B sv r C m (atM (goC S m) m W T0 a).1) ∧ Hid (spO wr B vn (atM (goC S m) m W T0 a).2) ∧ Hid (Below B w4 wr)) (fun _ _ iv _ => rdM most + 1 - (intOf iv).toNat)
  case atStart => exact ⟨0, g5, 1, _, Nat.zero_le _, rfl, rfl, rfl, Lib.hid (fun _ h => absurd h (Nat.not_lt_zero _)), Lib.hid ⟨_, _, HG5.out⟩, HN5, HB5⟩
  case round =>
    clear HG5 HN5 HB5
    obtain ⟨a, g, c, va, haR, rfl, rfl, rfl, HA, HG, HN', HBx⟩ := hrel
    have HST0 := Lib.hid (atM_stop (most := most) HA.out)
    have HNX := Lib.hid (atM_nx a fun b hb => (HA.out b hb).1)
    obtain ⟨s, hs⟩ : ∃ s, atM (goC S m) m W T0 a = s := ⟨_, rfl⟩
    have HSS := Lib.hid hs
    rw [hs] at HG HN' HST0 HNX ⊢
    clear hs
    obtain ⟨n, hn⟩ : ∃ n, s.1.length = n := ⟨_, rfl⟩
    have HNn := Lib.hid hn
    rw [hn] at HG ⊢
    have hrd : rdM most ≤ 65 := by unfold rdM; omega
    by_cases hgo : a < n ∧ (n : Int) ≤ most
    · have d1 : decide ((a : Int) < (n : Int)) = true := decide_eq_true (by omega)
      have d2 : decide ((n : Int) ≤ most) = true := decide_eq_true hgo.2
      have i0 : (0 : Int) ≤ (a : Int) := by omega
      have i1 : (a : Int) < (n : Int) := by omega
      have hsl : s.2.length ≤ 20000 := by
        rw [HNX.out.1]
        have h1 := Nat.mul_le_mul (show a ≤ 65 by omega) hwl
        omega
      have hsX : s.1[a]? = some (lg s.1 a) := lg_some (by omega)
      obtain ⟨X, hX⟩ : ∃ X, lg s.1 a = X := ⟨_, rfl⟩
      rw [hX] at hsX
      have HAG : Hid (atM (goC S m) m W T0 (a + 1) = clM (goC S m) m X W s) := Lib.hid (by
        have h := HSS.out
        have h2 := atM_go (go := goC S m) (m := m) (width := W) (T0 := T0) (a := a) (X := X) (by rw [h]; exact hsX)
        rw [h2, h])
      have HLX : Hid (∀ c, lg (clM (goC S m) m X c s).1 a = X ∧ n ≤ (clM (goC S m) m X c s).1.length ∧ (clM (goC S m) m X c s).1.length ≤ n + c ∧ (clM (goC S m) m X c s).2.length = s.2.length + c) := Lib.hid fun c => by
        obtain ⟨h1, h2, h3⟩ := clM_len (go := goC S m) (m := m) (X := X) (s := s) c
        refine ⟨?_, by omega, by omega, h3⟩
        have h4 := clM_old (go := goC S m) (m := m) (X := X) (s := s) (j := a) (by omega) c
        rw [hsX] at h4
        unfold lg
        rw [List.getD_eq_getElem?_getD, h4]; rfl
      have HG0 : Hid (∃ r C, gsR wr B (.slice (some ⟨g, 0, none⟩) n c) r C m (clM (goC S m) m X 0 s).1) := Lib.hid HG.out
      have HN0 : Hid (spO wr B _ (clM (goC S m) m X 0 s).2) := Lib.hid HN'.out
      have HN00 : Hid ((clM (goC S m) m X 0 s).1.length = n) := Lib.hid hn
      clear hX hsX HG HN' HST0 HNX hn
      go_wp2_with fail
      go_loopw [9, 10, 12] (fun sv xv cv wx => ∃ (cc g' c' : Nat) (vn : Value), cc ≤ W ∧ cv = .int .i64 cc ∧ vn = xv ∧ sv = .slice (some ⟨g', 0, none⟩) (clM (goC S m) m X cc s).1.length c' ∧ Hid (∃ r C, gsR wx B sv r C m (clM (goC S m) m X cc s).1) ∧ Hid (spO wx B vn (clM (goC S m) m X cc s).2) ∧ Hid (Below B w4 wx)) (fun _ _ cv _ => W - (intOf cv).toNat)
      case atStart => exact ⟨0, g, c, _, Nat.zero_le _, rfl, rfl, by rw [HN00.out], HG0, HN0, HBx⟩
      case round =>
        clear HG0 HN0 HN00 HBx
        obtain ⟨cc, g', c', vn, hcc, rfl, rfl, rfl, HG, HN', HBx⟩ := hrel
        obtain ⟨hl1, hl2, hl3, hl4⟩ := HLX.out cc
        obtain ⟨t, ht⟩ : ∃ t, clM (goC S m) m X cc s = t := ⟨_, rfl⟩
        have HTS := Lib.hid ht
        rw [ht] at HG HN' hl1 hl2 hl3 hl4 ⊢
        clear ht
        obtain ⟨k, hk⟩ : ∃ k, t.1.length = k := ⟨_, rfl⟩
        have HKk := Lib.hid hk
        rw [hk] at hl2 hl3 HG ⊢
        by_cases hltc : cc < W
        · have j0 : (0 : Int) ≤ (cc : Int) := by omega
          have j1 : (cc : Int) < (W : Int) := by omega
          obtain ⟨r, C, hg⟩ := HG.out
          obtain ⟨gg, cg, eg, hgB, hglt, hgc⟩ := hg.of (by omega)
          obtain rfl : g' = gg := by have := (Value.slice.inj eg).1; simpa using this
          have ca := hgc a (by omega)
          have HXr : Hid (rdB wr.drew (r a) m X) := Lib.hid (by have h := hg.2 a (by omega); rw [hl1] at h; exact (h.below (Below.refl _ _).drew).rd)
          obtain ⟨fb, fo, rfl, hfl, hfc⟩ := HF4.out cc hltc
          simp only at hfc
          obtain ⟨Y, hY⟩ : ∃ Y, fsY S m cc = Y := ⟨_, rfl⟩
          rw [hY] at hfc
          have HCS : Hid (∀ w', Below B w4 w' → w'.cell? ⟨A, 0, none⟩ = some (.slice (some ⟨b, off, none⟩) m cap) ∧ w'.cell? ⟨A, 1, none⟩ = some (.int .i64 st) ∧ w'.cell? ⟨A, 2, none⟩ = some (.int .i64 (F : Int)) ∧ w'.cell? ⟨fb, fo + cc, none⟩ = some (.int .i64 (Y : Int))) := Lib.hid fun w' h =>
            ⟨(HKS.out w' h).1, (HKS.out w' h).2.1, (HKS.out w' h).2.2, (h.cell (p := ⟨fb, fo + cc, none⟩) (show fb < B by have := HZ4.out; omega)).trans hfc⟩
          have fc := (HCS.out _ HBx.out).2.2.2
          have hB := HBx.out.drew
          have hBr : B ≤ wr.drew.heap.size := Nat.le_trans (Nat.le_of_eq HZ4.out.symm) hB.size
          clear hfc eg
          by_cases hy : Y < 256
          · have d3 : decide ((Y : Int) < 256) = true := decide_eq_true (by omega)
            have HGO : Hid (goC S m cc X = upN S 0 m (stR S Y X m) m) := Lib.hid (by unfold goC goY; rw [hY, if_pos hy])
            have HY := Lib.hid hy
            clear hY hy
            go_wp2_with fail
            go_region_held_law (fun w' => w'.cell? ⟨A, 0, none⟩ = some (.slice (some ⟨b, off, none⟩) m cap) ∧ w'.cell? ⟨A, 1, none⟩ = some (.int .i64 st) ∧ w'.cell? ⟨A, 2, none⟩ = some (.int .i64 (F : Int)) ∧ w'.cell? ⟨fb, fo + cc, none⟩ = some (.int .i64 (Y : Int)))
              (exact HCS.out _ hB)
              (first | (go_at_call 29; (with_reducible refine (HST.out _ _ _ Y HY.out _ (HB4.out.trans (hB.mono hAB)) HXr.out).mono ?_); rintro e wc ⟨G2, C2, rfl, ho, hb⟩; have HO2x := Lib.hid ho; have hbx := Lib.hid hb; (replace hB := hB.trans (hb.mono (Nat.le_trans (Nat.le_of_eq HZ4.out.symm) hB.size))); clear ho hb))
            all_goals
              have hBc := hB
              have hbr : Below wr.heap.size wr wc := (Below.refl _ _).drew.trans hbx.out
              have HO2 : Hid (blR wc B G2 C2 m (goC S m cc X)) := Lib.hid (by rw [HGO.out]; exact owns_mono HO2x.out hBr)
              clear hB HO2x hbx HGO
              have hg6 := hg.below hbr
              have hn6 : spO wc B vn t.2 := owns_below HN'.out hbr
              obtain ⟨Z, hZ⟩ : ∃ Z, goC S m cc X = Z := ⟨_, rfl⟩
              have hz2 : blR wc B G2 C2 m Z := hZ ▸ HO2.out
              have HZZ := Lib.hid hZ
              have hfd := find11 g' c' r C m t.1 G2 C2 Z (by omega) (by omega) wc (Nat.lt_of_lt_of_le hglt hbr.size) (fun i hi => (hbr.cell (p := ⟨g', i, none⟩) hglt).trans (hgc i hi)) (fun i hi => (hg6.2 i hi).rd) hz2.rd
              rw [hk] at hfd
              have hsc := clM_succ (goC S m) m X cc s
              rw [HTS.out, hZ] at hsc
              have hfle := fiS_le m t.1 Z
              rw [hk] at hfle
              have HSC := Lib.hid hsc
              have HNXT := Lib.hid hn6; have HG6 := Lib.hid hg6; have HZ6 := Lib.hid hz2
              have HBc := Lib.hid hBc
              clear hg6 hn6 hz2 hZ hsc hBc hbr hg hgc hglt HO2 HN' HG HXr HCS
              by_cases hfi : fiS m t.1 Z < k
              · obtain ⟨fi, hfe⟩ : ∃ fi, fiS m t.1 Z = fi := ⟨_, rfl⟩
                rw [hfe] at hfi hfd
                rw [if_pos hfi] at hfd
                have HSC2 : Hid (clM (goC S m) m X (cc + 1) s = (t.1, t.2 ++ [fi])) := Lib.hid (by rw [HSC.out, hfe]; unfold adS; rw [hfe, hk, if_pos hfi])
                have d4 : decide ((fi : Int) < 0) = false := decide_eq_false (by omega)
                have HFD := Lib.hid hfd
                clear hfd hfe HSC
                go_wp2_with fail
                refine HFD.out.mono ?_
                rintro e w6 ⟨rfl, hb6⟩
                have HN6 : Hid (spO w6 B vn t.2) := Lib.hid (owns_below HNXT.out hb6)
                have HG7 := Lib.hid (HG6.out.below hb6)
                have HB6 := Lib.hid (HBc.out.trans (hb6.mono (by have := HBc.out.size; have := HZ4.out; omega)))
                have hB6 : B ≤ w6.heap.size := by have := HB6.out.size; have := HZ4.out; omega
                clear hb6 HNXT HG6 HBc HFD HZ6
                go_wp2_with (at_builtin; refine append_nx11 rfl _ _ rfl B vn t.2 rfl (owns_below HN6.out ((Below.refl _ _).alloc (Nat.le_refl _) _)) w6.heap.size fi rfl (by simp) (by omega) (by simp; omega) ?_)
                intro v7 w7 hn7 hg7
                have hal : Below w6.heap.size w6 (w6.alloc (.cells #[.int .i64 (fi : Int)] 3)) := (Below.refl _ _).alloc (Nat.le_refl _) _
                have hna : spO (w6.alloc (.cells #[.int .i64 (fi : Int)] 3)) B vn t.2 := owns_below HN6.out hal
                have HG8 : Hid (gsR w7 B (.slice (some ⟨g', 0, none⟩) k c') r C m (clM (goC S m) m X (cc + 1) s).1) := Lib.hid (by rw [HSC2.out]; exact (HG7.out.below hal).kept_of hna hg7 (by decide) (by decide))
                have HN8 : Hid (spO w7 B v7 (clM (goC S m) m X (cc + 1) s).2) := Lib.hid (by rw [HSC2.out]; exact hn7)
                have HB8 : Hid (Below B w4 w7) := Lib.hid ((HB6.out.trans (hal.mono hB6)).grown hg7 (by simp; omega) (fun r hr => (hna.lt r hr).1))
                have HL8 : Hid ((clM (goC S m) m X (cc + 1) s).1.length = k) := Lib.hid (by rw [HSC2.out]; exact hk)
                clear hn7 hg7 hal hna HSC2 HN6 HG7 HB6
                go_wp2_with fail
                go_roundw
                case rel => exact ⟨cc + 1, g', c', _, by omega, by go_num, rfl, by rw [HL8.out], Lib.hid ⟨r, C, HG8.out⟩, HN8, HB8⟩
                case measure => simp [intOf]; omega
              · have hfe : fiS m t.1 Z = k := by omega
                rw [hfe, if_neg (Nat.lt_irrefl _)] at hfd
                have HSC2 : Hid (clM (goC S m) m X (cc + 1) s = (t.1 ++ [Z], t.2 ++ [k])) := Lib.hid (by rw [HSC.out, hfe]; unfold adS; rw [hfe, hk, if_neg (Nat.lt_irrefl _)])
                have HFD := Lib.hid hfd
                clear hfd hfe HSC
                go_wp2_with fail
                refine HFD.out.mono ?_
                rintro e w6 ⟨rfl, hb6⟩
                have HN6 : Hid (spO w6 B vn t.2) := Lib.hid (owns_below HNXT.out hb6)
                have HG7 := Lib.hid (HG6.out.below hb6)
                have HZ7 := Lib.hid (HZ6.out.below hb6)
                have HB6 := Lib.hid (HBc.out.trans (hb6.mono (by have := HBc.out.size; have := HZ4.out; omega)))
                have hB6 : B ≤ w6.heap.size := by have := HB6.out.size; have := HZ4.out; omega
                have HAL : Hid (Below w6.heap.size w6 (w6.alloc (.cells #[.slice (some ⟨G2, 0, none⟩) m C2] 28))) := Lib.hid ((Below.refl _ _).alloc (Nat.le_refl _) _)
                have HG7a := Lib.hid (HG7.out.below HAL.out)
                have HZ7a := Lib.hid (HZ7.out.below HAL.out)
                have HN7a : Hid (spO (w6.alloc (.cells #[.slice (some ⟨G2, 0, none⟩) m C2] 28)) B vn t.2) := Lib.hid (owns_below HN6.out HAL.out)
                clear hb6 HNXT HG6 HBc HFD HZ6
                go_wp2_with (at_builtin; refine append_gs rfl _ _ rfl B (.slice (some ⟨g', 0, none⟩) k c') r C m t.1 rfl HG7a.out w6.heap.size G2 C2 Z HZ7a.out rfl (by simp) (by omega) (by simp; omega) ?_)
                intro v8 w8 hg8 hgr8
                have HN8 : Hid (spO w8 B vn t.2) := Lib.hid (World.ownsRow.kept HN7a.out hgr8 (rows_apt7 HN7a.out HG7a.out.1 (by decide)))
                have HB8 : Hid (Below B w4 w8) := Lib.hid ((HB6.out.trans (HAL.out.mono hB6)).grown hgr8 (by simp; omega) (fun r hr => (HG7a.out.1.lt r hr).1))
                obtain ⟨g8, c8, rfl, -⟩ := hg8.of (by simp)
                have hl8 : (t.1 ++ [Z]).length = k + 1 := by simp [hk]
                rw [hl8] at hg8 ⊢
                have HG8 := Lib.hid hg8
                have hB8 : B ≤ w8.heap.size := by have := HB8.out.size; have := HZ4.out; omega
                clear hg8 hgr8 HN7a HG7a HZ7a HAL HB6 HZ7 HG7 HN6
                go_wp2_with (at_builtin; refine append_nx11 rfl _ _ rfl B vn t.2 rfl (owns_below HN8.out ((Below.refl _ _).alloc (Nat.le_refl _) _)) w8.heap.size k rfl (by simp) (by omega) (by simp; omega) ?_)
                intro v9 w9 hn9 hgr9
                have hal : Below w8.heap.size w8 (w8.alloc (.cells #[.int .i64 (k : Int)] 3)) := (Below.refl _ _).alloc (Nat.le_refl _) _
                have hna : spO (w8.alloc (.cells #[.int .i64 (k : Int)] 3)) B vn t.2 := owns_below HN8.out hal
                have hk8 := hk
                have HG9 : Hid (∃ r C, gsR w9 B (.slice (some ⟨g8, 0, none⟩) (k + 1) c8) r C m (clM (goC S m) m X (cc + 1) s).1) := Lib.hid ⟨_, _, by rw [HSC2.out]; exact (HG8.out.below hal).kept_of hna hgr9 (by decide) (by decide)⟩
                have HN9 : Hid (spO w9 B v9 (clM (goC S m) m X (cc + 1) s).2) := Lib.hid (by rw [HSC2.out]; exact hn9)
                have HB9 : Hid (Below B w4 w9) := Lib.hid ((HB8.out.trans (hal.mono hB8)).grown hgr9 (by simp; omega) (fun r hr => (hna.lt r hr).1))
                have HL9 : Hid ((clM (goC S m) m X (cc + 1) s).1.length = k + 1) := Lib.hid (by rw [HSC2.out]; exact hl8)
                clear hn9 hgr9 hal hna HSC2 HN8 HG8 HB8
                go_wp2_with fail
                go_roundw
                case rel => exact ⟨cc + 1, g8, c8, _, by omega, by go_num, rfl, by rw [HL9.out], HG9, HN9, HB9⟩
                case measure => simp [intOf]; omega
          · have d3 : decide ((Y : Int) < 256) = false := decide_eq_false (by omega)
            have HGO : Hid (goC S m cc X = upN S (Y : Int) m X m) := Lib.hid (by unfold goC goY; rw [hY, if_neg hy])
            clear hY hy
            go_wp2_with fail
            go_region_held_law (fun w' => w'.cell? ⟨A, 0, none⟩ = some (.slice (some ⟨b, off, none⟩) m cap) ∧ w'.cell? ⟨A, 1, none⟩ = some (.int .i64 st) ∧ w'.cell? ⟨A, 2, none⟩ = some (.int .i64 (F : Int)) ∧ w'.cell? ⟨fb, fo + cc, none⟩ = some (.int .i64 (Y : Int)))
              (exact HCS.out _ hB)
              (first | (go_at_call 27; (with_reducible refine (HCL.out _ _ _ (Y : Int) _ (HB4.out.trans (hB.mono hAB)) HXr.out).mono ?_); rintro e wc ⟨G2, C2, rfl, ho, hb⟩; have HO2x := Lib.hid ho; have hbx := Lib.hid hb; (replace hB := hB.trans (hb.mono (Nat.le_trans (Nat.le_of_eq HZ4.out.symm) hB.size))); clear ho hb))
            all_goals
              have hBc := hB
              have hbr : Below wr.heap.size wr wc := (Below.refl _ _).drew.trans hbx.out
              have HO2 : Hid (blR wc B G2 C2 m (goC S m cc X)) := Lib.hid (by rw [HGO.out]; exact owns_mono HO2x.out hBr)
              clear hB HO2x hbx HGO
              have hg6 := hg.below hbr
              have hn6 : spO wc B vn t.2 := owns_below HN'.out hbr
              obtain ⟨Z, hZ⟩ : ∃ Z, goC S m cc X = Z := ⟨_, rfl⟩
              have hz2 : blR wc B G2 C2 m Z := hZ ▸ HO2.out
              have HZZ := Lib.hid hZ
              have hfd := find11 g' c' r C m t.1 G2 C2 Z (by omega) (by omega) wc (Nat.lt_of_lt_of_le hglt hbr.size) (fun i hi => (hbr.cell (p := ⟨g', i, none⟩) hglt).trans (hgc i hi)) (fun i hi => (hg6.2 i hi).rd) hz2.rd
              rw [hk] at hfd
              have hsc := clM_succ (goC S m) m X cc s
              rw [HTS.out, hZ] at hsc
              have hfle := fiS_le m t.1 Z
              rw [hk] at hfle
              have HSC := Lib.hid hsc
              have HNXT := Lib.hid hn6; have HG6 := Lib.hid hg6; have HZ6 := Lib.hid hz2
              have HBc := Lib.hid hBc
              clear hg6 hn6 hz2 hZ hsc hBc hbr hg hgc hglt HO2 HN' HG HXr HCS
              by_cases hfi : fiS m t.1 Z < k
              · obtain ⟨fi, hfe⟩ : ∃ fi, fiS m t.1 Z = fi := ⟨_, rfl⟩
                rw [hfe] at hfi hfd
                rw [if_pos hfi] at hfd
                have HSC2 : Hid (clM (goC S m) m X (cc + 1) s = (t.1, t.2 ++ [fi])) := Lib.hid (by rw [HSC.out, hfe]; unfold adS; rw [hfe, hk, if_pos hfi])
                have d4 : decide ((fi : Int) < 0) = false := decide_eq_false (by omega)
                have HFD := Lib.hid hfd
                clear hfd hfe HSC
                go_wp2_with fail
                refine HFD.out.mono ?_
                rintro e w6 ⟨rfl, hb6⟩
                have HN6 : Hid (spO w6 B vn t.2) := Lib.hid (owns_below HNXT.out hb6)
                have HG7 := Lib.hid (HG6.out.below hb6)
                have HB6 := Lib.hid (HBc.out.trans (hb6.mono (by have := HBc.out.size; have := HZ4.out; omega)))
                have hB6 : B ≤ w6.heap.size := by have := HB6.out.size; have := HZ4.out; omega
                clear hb6 HNXT HG6 HBc HFD HZ6
                go_wp2_with (at_builtin; refine append_nx11 rfl _ _ rfl B vn t.2 rfl (owns_below HN6.out ((Below.refl _ _).alloc (Nat.le_refl _) _)) w6.heap.size fi rfl (by simp) (by omega) (by simp; omega) ?_)
                intro v7 w7 hn7 hg7
                have hal : Below w6.heap.size w6 (w6.alloc (.cells #[.int .i64 (fi : Int)] 3)) := (Below.refl _ _).alloc (Nat.le_refl _) _
                have hna : spO (w6.alloc (.cells #[.int .i64 (fi : Int)] 3)) B vn t.2 := owns_below HN6.out hal
                have HG8 : Hid (gsR w7 B (.slice (some ⟨g', 0, none⟩) k c') r C m (clM (goC S m) m X (cc + 1) s).1) := Lib.hid (by rw [HSC2.out]; exact (HG7.out.below hal).kept_of hna hg7 (by decide) (by decide))
                have HN8 : Hid (spO w7 B v7 (clM (goC S m) m X (cc + 1) s).2) := Lib.hid (by rw [HSC2.out]; exact hn7)
                have HB8 : Hid (Below B w4 w7) := Lib.hid ((HB6.out.trans (hal.mono hB6)).grown hg7 (by simp; omega) (fun r hr => (hna.lt r hr).1))
                have HL8 : Hid ((clM (goC S m) m X (cc + 1) s).1.length = k) := Lib.hid (by rw [HSC2.out]; exact hk)
                clear hn7 hg7 hal hna HSC2 HN6 HG7 HB6
                go_wp2_with fail
                go_roundw
                case rel => exact ⟨cc + 1, g', c', _, by omega, by go_num, rfl, by rw [HL8.out], Lib.hid ⟨r, C, HG8.out⟩, HN8, HB8⟩
                case measure => simp [intOf]; omega
              · have hfe : fiS m t.1 Z = k := by omega
                rw [hfe, if_neg (Nat.lt_irrefl _)] at hfd
                have HSC2 : Hid (clM (goC S m) m X (cc + 1) s = (t.1 ++ [Z], t.2 ++ [k])) := Lib.hid (by rw [HSC.out, hfe]; unfold adS; rw [hfe, hk, if_neg (Nat.lt_irrefl _)])
                have HFD := Lib.hid hfd
                clear hfd hfe HSC
                go_wp2_with fail
                refine HFD.out.mono ?_
                rintro e w6 ⟨rfl, hb6⟩
                have HN6 : Hid (spO w6 B vn t.2) := Lib.hid (owns_below HNXT.out hb6)
                have HG7 := Lib.hid (HG6.out.below hb6)
                have HZ7 := Lib.hid (HZ6.out.below hb6)
                have HB6 := Lib.hid (HBc.out.trans (hb6.mono (by have := HBc.out.size; have := HZ4.out; omega)))
                have hB6 : B ≤ w6.heap.size := by have := HB6.out.size; have := HZ4.out; omega
                have HAL : Hid (Below w6.heap.size w6 (w6.alloc (.cells #[.slice (some ⟨G2, 0, none⟩) m C2] 28))) := Lib.hid ((Below.refl _ _).alloc (Nat.le_refl _) _)
                have HG7a := Lib.hid (HG7.out.below HAL.out)
                have HZ7a := Lib.hid (HZ7.out.below HAL.out)
                have HN7a : Hid (spO (w6.alloc (.cells #[.slice (some ⟨G2, 0, none⟩) m C2] 28)) B vn t.2) := Lib.hid (owns_below HN6.out HAL.out)
                clear hb6 HNXT HG6 HBc HFD HZ6
                go_wp2_with (at_builtin; refine append_gs rfl _ _ rfl B (.slice (some ⟨g', 0, none⟩) k c') r C m t.1 rfl HG7a.out w6.heap.size G2 C2 Z HZ7a.out rfl (by simp) (by omega) (by simp; omega) ?_)
                intro v8 w8 hg8 hgr8
                have HN8 : Hid (spO w8 B vn t.2) := Lib.hid (World.ownsRow.kept HN7a.out hgr8 (rows_apt7 HN7a.out HG7a.out.1 (by decide)))
                have HB8 : Hid (Below B w4 w8) := Lib.hid ((HB6.out.trans (HAL.out.mono hB6)).grown hgr8 (by simp; omega) (fun r hr => (HG7a.out.1.lt r hr).1))
                obtain ⟨g8, c8, rfl, -⟩ := hg8.of (by simp)
                have hl8 : (t.1 ++ [Z]).length = k + 1 := by simp [hk]
                rw [hl8] at hg8 ⊢
                have HG8 := Lib.hid hg8
                have hB8 : B ≤ w8.heap.size := by have := HB8.out.size; have := HZ4.out; omega
                clear hg8 hgr8 HN7a HG7a HZ7a HAL HB6 HZ7 HG7 HN6
                go_wp2_with (at_builtin; refine append_nx11 rfl _ _ rfl B vn t.2 rfl (owns_below HN8.out ((Below.refl _ _).alloc (Nat.le_refl _) _)) w8.heap.size k rfl (by simp) (by omega) (by simp; omega) ?_)
                intro v9 w9 hn9 hgr9
                have hal : Below w8.heap.size w8 (w8.alloc (.cells #[.int .i64 (k : Int)] 3)) := (Below.refl _ _).alloc (Nat.le_refl _) _
                have hna : spO (w8.alloc (.cells #[.int .i64 (k : Int)] 3)) B vn t.2 := owns_below HN8.out hal
                have hk8 := hk
                have HG9 : Hid (∃ r C, gsR w9 B (.slice (some ⟨g8, 0, none⟩) (k + 1) c8) r C m (clM (goC S m) m X (cc + 1) s).1) := Lib.hid ⟨_, _, by rw [HSC2.out]; exact (HG8.out.below hal).kept_of hna hgr9 (by decide) (by decide)⟩
                have HN9 : Hid (spO w9 B v9 (clM (goC S m) m X (cc + 1) s).2) := Lib.hid (by rw [HSC2.out]; exact hn9)
                have HB9 : Hid (Below B w4 w9) := Lib.hid ((HB8.out.trans (hal.mono hB8)).grown hgr9 (by simp; omega) (fun r hr => (hna.lt r hr).1))
                have HL9 : Hid ((clM (goC S m) m X (cc + 1) s).1.length = k + 1) := Lib.hid (by rw [HSC2.out]; exact hl8)
                clear hn9 hgr9 hal hna HSC2 HN8 HG8 HB8
                go_wp2_with fail
                go_roundw
                case rel => exact ⟨cc + 1, g8, c8, _, by omega, by go_num, rfl, by rw [HL9.out], HG9, HN9, HB9⟩
                case measure => simp [intOf]; omega
        · obtain rfl : cc = W := by omega
          have HAE : Hid (atM (goC S m) m cc T0 (a + 1) = t) := Lib.hid (HAG.out.trans HTS.out)
          have HAL : Hid ((atM (goC S m) m cc T0 (a + 1)).1.length = k) := Lib.hid (by rw [HAE.out]; exact hk)
          have HA2 : Hid (∀ b, b < a + 1 → b < (atM (goC S m) m cc T0 b).1.length ∧ ((atM (goC S m) m cc T0 b).1.length : Int) ≤ most) := Lib.hid fun b hb => by
            by_cases e : b = a
            · subst e; rw [HSS.out, HNn.out]; exact hgo
            · exact HA.out b (by omega)
          have HG2 : Hid (∃ r C, gsR wr B (.slice (some ⟨g', 0, none⟩) k c') r C m (atM (goC S m) m cc T0 (a + 1)).1) := Lib.hid (by rw [HAE.out]; exact HG.out)
          have HN2 : Hid (spO wr B vn (atM (goC S m) m cc T0 (a + 1)).2) := Lib.hid (by rw [HAE.out]; exact HN'.out)
          have haR2 : a + 1 ≤ rdM most := by unfold rdM; omega
          clear HG HN' HAE
          go_wp2_with fail
          go_roundw
          case rel => exact ⟨a + 1, g', c', vn, haR2, by go_num, rfl, by rw [HAL.out], HA2, HG2, HN2, HBx⟩
          case measure => simp [intOf]; omega
    · have HSUB : Hid (subM S m st most = fullM (goC S m) m W T0 most) := Lib.hid (by unfold subM; rw [HWW.out, HT0.out])
      have HBA : Hid (Below (A + 2) w2 wr) := Lib.hid (HB4.out.trans (HBx.out.mono hAB))
      have HBf : Hid (Below A w wr) := Lib.hid (HB02.out.trans (HBA.out.mono (by omega)))
      have HDw := Lib.hid (HD.out _ HBA.out)
      by_cases hgt : most < (n : Int)
      · have dg : decide (most < (n : Int)) = true := decide_eq_true hgt
        have hd0 : isDf wr (A + 1) none 0 0 0 0 none 0 0 none 0 0 := HDw.out
        obtain ⟨c0, c1, c2, c3, c4⟩ := hd0.cells
        have f0 := hd0.free 0; have f1 := hd0.free 1; have f2 := hd0.free 2; have f3 := hd0.free 3; have f4 := hd0.free 4
        have hlt1 := hd0.lt
        have HBE := build_df0
        have HF : Hid (most < (subM S m st most).1.length) := Lib.hid (by rw [HSUB.out]; exact HST0.out.1 (by rw [HNn.out]; exact hgt))
        have HBW : Hid (Below A w (((((wr.setCell ⟨A + 1, 0, none⟩ (.slice none 0 0)).setCell ⟨A + 1, 1, none⟩ (.int .i64 0)).setCell ⟨A + 1, 2, none⟩ (.int .i64 0)).setCell ⟨A + 1, 3, none⟩ (.slice none 0 0)).setCell ⟨A + 1, 4, none⟩ (.slice none 0 0))) := Lib.hid
          (((((HBf.out.setCell (p := ⟨A + 1, 0, none⟩) (Nat.le_succ A) _).setCell (p := ⟨A + 1, 1, none⟩) (Nat.le_succ A) _).setCell (p := ⟨A + 1, 2, none⟩) (Nat.le_succ A) _).setCell (p := ⟨A + 1, 3, none⟩) (Nat.le_succ A) _).setCell (p := ⟨A + 1, 4, none⟩) (Nat.le_succ A) _)
        have Z := Lib.hid (hd0.stored none 0 0 0 0 none 0 0 none 0 0).cells
        clear HG HN' HST0 HNX hd0 HDw
        by_cases han : a < n
        · have d1 : decide ((a : Int) < (n : Int)) = true := decide_eq_true (by omega)
          have d2 : decide ((n : Int) ≤ most) = false := decide_eq_false (by omega)
          go_wp2_with fail
          refine bodyPost_ret (v := .tuple #[dfV none 0 0 0 0 none 0 0 none 0 0, .bool false]) (by simp [results, Try.results10, go_sem, Z.out]) rfl ?_
          exact ⟨fun _ => ⟨rfl, HGA.out.symm ▸ HBW.out⟩, fun h => by have := HF.out; omega⟩
        · have d1 : decide ((a : Int) < (n : Int)) = false := decide_eq_false (by omega)
          go_wp2_with fail
          refine bodyPost_ret (v := .tuple #[dfV none 0 0 0 0 none 0 0 none 0 0, .bool false]) (by simp [results, Try.results10, go_sem, Z.out]) rfl ?_
          exact ⟨fun _ => ⟨rfl, HGA.out.symm ▸ HBW.out⟩, fun h => by have := HF.out; omega⟩
      · have han : ¬ a < n := fun h => hgo ⟨h, by omega⟩
        have d1 : decide ((a : Int) < (n : Int)) = false := decide_eq_false (by omega)
        have dg : decide (most < (n : Int)) = false := decide_eq_false hgt
        have hfull : fullM (goC S m) m W T0 most = s := by rw [HST0.out.2 (by have := HNn.out; omega) (by have := HNn.out; omega)]
        have HSM : Hid (subM S m st most = s) := Lib.hid (HSUB.out.trans hfull)
        have hn1 : 1 ≤ s.1.length := by have := atM_one (go := goC S m) (m := m) (width := W) (T0 := T0) a; rw [HSS.out] at this; exact this
        have hnn := HNn.out
        obtain ⟨r, C, hgr⟩ := HG.out
        obtain ⟨gg, cg, eg, hgB, hglt, hgc⟩ := hgr.of hn1
        obtain rfl : g = gg := by have := (Value.slice.inj eg).1; simpa using this
        obtain ⟨pn, cn, rfl⟩ : ∃ pn cn, va = .slice pn s.2.length cn := by
          rcases id HN'.out.2 with ⟨rfl, h0⟩ | ⟨x, cap, cur, rfl, _⟩
          · exact ⟨none, 0, by rw [h0]⟩
          · exact ⟨_, cap, rfl⟩
        have hrn := spO.rd11 HN'.out
        have HNP : Hid (∀ b o, pn = some ⟨b, o, none⟩ → b ≠ A + 1) := Lib.hid fun b o e => by subst e; have := (HN'.out.lt b rfl).1; omega
        obtain ⟨n2, hn2⟩ : ∃ n2, s.2.length = n2 := ⟨_, rfl⟩
        rw [hn2] at hrn ⊢
        obtain ⟨G6, hG6⟩ : ∃ G6, wr.heap.size = G6 := ⟨_, rfl⟩
        obtain ⟨w6, hw6⟩ : ∃ w6, wr.alloc (.cells #[.slice q 259 cq, .int .i64 (W : Int), .int .i64 0, .slice pn n2 cn, .slice none 0 0] 30) = w6 := ⟨_, rfl⟩
        have hal : Below G6 wr w6 := hw6 ▸ (Below.refl _ _).alloc (by omega) _
        have hz6 : w6.heap.size = G6 + 1 := by rw [← hw6, World.size_alloc, hG6]
        have hBG : B ≤ G6 := by have := HBx.out.size; have := HZ4.out; omega
        have HDF : Hid (isDf w6 G6 q 259 cq (W : Int) 0 pn n2 cn none 0 0) := Lib.hid (by rw [← hw6, ← hG6]; exact heap_alloc_new wr _)
        have HRD : Hid (∀ w', Below G6 w6 w' → ∀ i, i < n → w'.cell? ⟨A, 2, none⟩ = some (.int .i64 (F : Int)) ∧ w'.cell? ⟨g, i, none⟩ = some (.slice (some ⟨r i, 0, none⟩) m (C i)) ∧ w'.cell? ⟨r i, F, none⟩ = some (.bool (lg s.1 i F)) ∧ A < G6 ∧ g < G6 ∧ r i < G6) := Lib.hid fun w' h i hi => by
          have hh := hal.trans h
          have hr := (hgr.2 i (by omega)).rd
          have hrl : r i < G6 := hG6 ▸ hr.1
          have hgl : g < G6 := hG6 ▸ hglt
          have hAl : A < G6 := by omega
          refine ⟨?_, (hh.cell (p := ⟨g, i, none⟩) hgl).trans (hgc i (by omega)), (hh.cell (p := ⟨r i, F, none⟩) hrl).trans (hr.2 F hF), hAl, hgl, hrl⟩
          exact (HKS.out _ (HBx.out.trans (hh.mono hBG))).2.2
        have HNR : Hid (∀ w', Below G6 w6 w' → rdL w' pn n2 (fun j => (s.2.getD j 0 : Nat)) ∧ rdL w' q 259 (fun x => (clA (alk S m) x : Nat))) := Lib.hid fun w' h => by
          have hh := hal.trans h
          exact ⟨hrn.below (hG6 ▸ hh), (HQ4.out.below (HZ4.out.symm ▸ (HBx.out.trans (hh.mono hBG))))⟩
        have HB6 : Hid (Below A w w6) := Lib.hid (HBf.out.trans (hal.mono (by omega)))
        have HD6 : Hid (isDf w6 (A + 1) none 0 0 0 0 none 0 0 none 0 0) := Lib.hid (isDf.below (show isDf wr (A + 1) none 0 0 0 0 none 0 0 none 0 0 from HDw.out) hal (by omega))
        have hAG : A + 1 < G6 := by omega
        have HW6 := Lib.hid hw6
        have HZ6 := Lib.hid hz6
        have HNN2 := Lib.hid hn2
        have HBE := build_df1 q 259 cq (W : Int) pn n2 cn
        have F0 : (0 : Int) ≤ (F : Int) := by omega
        have F1 : (F : Int) < (m : Int) := by omega
        have n64 : n ≤ 64 := by omega
        clear HG HN' hgr hgc hglt hrn hal hw6 HDw HST0 HNX hfull HSUB hn2 eg HBA HBf
        go_upto_region 23 with (fail)
        rw [HW6.out]
        have HO0 : Hid (w6.ownsRow (G6 + 1) 4 1 (.slice none 0 0) 0 (bls (fun j => lg s.1 j F) 0)) := Lib.hid ⟨rfl, .inl ⟨rfl, rfl⟩⟩
        clear HBE
        go_wp2_with fail
        go_loopw [16] (fun iv wx => ∃ (i : Nat) (pA : Option Addr) (cA : Nat), i ≤ n ∧ iv = .int .i64 i ∧ Hid (isDf wx G6 q 259 cq (W : Int) 0 pn n2 cn pA i cA) ∧ Hid (wx.ownsRow (G6 + 1) 4 1 (.slice pA i cA) i (bls (fun j => lg s.1 j F) i)) ∧ Hid (Below G6 w6 wx)) (fun iv _ => n - (intOf iv).toNat)
        case atStart => exact ⟨0, none, 0, Nat.zero_le _, rfl, HDF, HO0, Lib.hid (Below.refl _ _)⟩
        case round =>
          clear HDF HO0
          obtain ⟨i, pA, cA, hi, rfl, HDi, HOi, HBi⟩ := hrel
          have c4 := HDi.out.cells.2.2.2.2
          have f4 := HDi.out.free 4
          have hG6s := HDi.out.lt
          by_cases hlti : i < n
          · obtain ⟨cA2, cgi, cri, hAl, hgl, hrl⟩ := HRD.out _ HBi.out i hlti
            have i0 : (0 : Int) ≤ (i : Int) := by omega
            have i1 : (i : Int) < (n : Int) := by omega
            obtain ⟨u, hu⟩ : ∃ u, lg s.1 i F = u := ⟨_, rfl⟩
            rw [hu] at cri
            have HU : Hid ((fun j => lg s.1 j F) i = u) := Lib.hid hu
            have hAl' := Nat.lt_trans hAl hG6s
            have hgl' := Nat.lt_trans hgl hG6s
            have hrl' := Nat.lt_trans hrl hG6s
            have HAL : Hid (Below wr.heap.size wr (wr.alloc (.cells #[.bool u] 4)).drew) := Lib.hid ((Below.refl _ _).alloc (Nat.le_refl _) _).drew
            have HOa : Hid ((wr.alloc (.cells #[.bool u] 4)).drew.ownsRow (G6 + 1) 4 1 (.slice pA i cA) i (bls (fun j => lg s.1 j F) i)) := Lib.hid (owns_below HOi.out HAL.out)
            have HCE : Hid ((wr.alloc (.cells #[.bool u] 4)).drew.cell? ⟨wr.heap.size, 0, none⟩ = some (.bool u)) := Lib.hid (by simp)
            have HSZ : Hid (G6 + 1 ≤ (wr.alloc (.cells #[.bool u] 4)).drew.heap.size) := Lib.hid (by simp; omega)
            have HDa : Hid (isDf (wr.alloc (.cells #[.bool u] 4)).drew G6 q 259 cq (W : Int) 0 pn n2 cn pA i cA) := Lib.hid (HDi.out.below HAL.out hG6s)
            have HBa : Hid (Below G6 w6 (wr.alloc (.cells #[.bool u] 4)).drew) := Lib.hid (HBi.out.trans (HAL.out.mono (Nat.le_of_lt hG6s)))
            have HN1 : Hid (i ≤ 100000) := Lib.hid (by omega)
            clear hu HAL HOi HDi HBi hAl hgl hrl
            go_wp2_with fail
            go_region_law ((refine step_append_bl rfl (.tmp 104) (.tmp 113) rfl (G6 + 1) (.slice pA i cA) (fun j => lg s.1 j F) i rfl HOa.out wr.heap.size u HU.out rfl HCE.out HN1.out HSZ.out ?_; intro q' n' cap' w' hn' ho' hg'; have HN9 := Lib.hid hn'; have HO9 := Lib.hid ho'; have hd9 : isDf w' G6 q 259 cq (W : Int) 0 pn n2 cn pA i cA := (hg'.block G6 HDa.out.lt (fun e => by have := (HOa.out.lt G6 e.symm).1; omega)).trans HDa.out; have HD9 := Lib.hid hd9; have HB9 : Hid (Below G6 w6 w') := Lib.hid (HBa.out.grown hg' (Nat.le_trans (Nat.le_succ G6) HSZ.out) (fun r hr => Nat.le_trans (Nat.le_succ G6) (HOa.out.lt r hr).1)); have c49 := hd9.cells.2.2.2.2; have f49 := hd9.free 4; have hl9 := hd9.lt; clear hn' ho' hg' hd9))
            all_goals
              obtain rfl : n' = i + 1 := HN9.out
              have HD2 := Lib.hid (HD9.out.put4 q' (i + 1) cap')
              have HO2 : Hid ((w'.setCell ⟨G6, 4, none⟩ (.slice q' (i + 1) cap')).ownsRow (G6 + 1) 4 1 (.slice q' (i + 1) cap') (i + 1) (bls (fun j => lg s.1 j F) (i + 1))) := Lib.hid (ownsRow_setCell_below HO9.out (Nat.lt_succ_self G6) _)
              have HB2 : Hid (Below G6 w6 (w'.setCell ⟨G6, 4, none⟩ (.slice q' (i + 1) cap'))) := Lib.hid (HB9.out.setCell (p := ⟨G6, 4, none⟩) (Nat.le_refl _) _)
              clear HD9 HO9 HB9 HN9 c49 f49 HOa HCE HSZ HDa HBa
              go_wp2_with fail
              go_roundw
              case rel => exact ⟨i + 1, q', cap', by omega, by go_num, HD2, HO2, HB2⟩
              case measure => simp [intOf]; omega
          · obtain rfl : i = n := by omega
            obtain ⟨c0, c1, c2, c3, -⟩ := HDi.out.cells
            have HDz : Hid (isDf wr (A + 1) none 0 0 0 0 none 0 0 none 0 0) := Lib.hid (HD6.out.below HBi.out (by omega))
            have g0 := HDz.out.free 0; have g1 := HDz.out.free 1; have g2 := HDz.out.free 2; have g3 := HDz.out.free 3; have g4 := HDz.out.free 4
            obtain ⟨k0, k1, k2, k3, k4⟩ := HDz.out.cells
            have hl1 := HDz.out.lt
            have Z := Lib.hid (HDz.out.stored q 259 cq (W : Int) 0 pn n2 cn pA i cA).cells
            obtain ⟨hr1, hr0⟩ := HNR.out _ HBi.out
            obtain ⟨hr2, hr2b⟩ := bls_rd HOi.out
            have hne0 := HDz.out.no_row hr0 (by decide)
            have hBfin : Below A w wr := HB6.out.trans (HBi.out.mono (by omega))
            have HE : Hid (dfaAt S m st F most w (((((wr.setCell ⟨A + 1, 0, none⟩ (.slice q 259 cq)).setCell ⟨A + 1, 1, none⟩ (.int .i64 (W : Int))).setCell ⟨A + 1, 2, none⟩ (.int .i64 0)).setCell ⟨A + 1, 3, none⟩ (.slice pn n2 cn)).setCell ⟨A + 1, 4, none⟩ (.slice pA i cA)) (dfV q 259 cq (W : Int) 0 pn n2 cn pA i cA)) := Lib.hid (by
              refine ⟨q, cq, pn, n2, cn, pA, i, cA, _, _, _, by rw [HWW.out], ((((hr0.set11 hne0 _ _).set11 hne0 _ _).set11 hne0 _ _).set11 hne0 _ _).set11 hne0 _ _, fun _ _ => rfl, by rw [HSM.out]; exact HNN2.out.symm, ?_, fun j _ => by rw [HSM.out], by rw [HSM.out]; exact hnn.symm, ?_, fun j _ => by rw [HSM.out], ?_⟩
              · have hne1 : ∀ b o, pn = some ⟨b, o, none⟩ → b ≠ A + 1 := HNP.out
                exact ((((hr1.set11 hne1 _ _).set11 hne1 _ _).set11 hne1 _ _).set11 hne1 _ _).set11 hne1 _ _
              · have hne2 : ∀ b o, pA = some ⟨b, o, none⟩ → b ≠ A + 1 := fun b o e => by have := hr2b b o e; omega
                exact ((((hr2.set11 hne2 _ _).set11 hne2 _ _).set11 hne2 _ _).set11 hne2 _ _).set11 hne2 _ _
              · rw [HGA.out]
                exact ((((hBfin.setCell (p := ⟨A + 1, 0, none⟩) (Nat.le_succ A) _).setCell (p := ⟨A + 1, 1, none⟩) (Nat.le_succ A) _).setCell (p := ⟨A + 1, 2, none⟩) (Nat.le_succ A) _).setCell (p := ⟨A + 1, 3, none⟩) (Nat.le_succ A) _).setCell (p := ⟨A + 1, 4, none⟩) (Nat.le_succ A) _)
            have HNF : Hid (¬ most < (subM S m st most).1.length) := Lib.hid (by rw [HSM.out]; omega)
            clear hr0 hr1 hr2 hr2b hne0 hBfin HDz HDi HOi HBi
            go_wp2_with fail
            refine bodyPost_ret (v := .tuple #[dfV q 259 cq (W : Int) 0 pn n2 cn pA i cA, .bool true]) (by simp [results, Try.results10, go_sem, Z.out]) rfl ?_
            exact ⟨fun h => by have := HNF.out; omega, fun _ => ⟨_, rfl, HE.out⟩⟩
end Go.Proofs.Ytepegohopgnmnaa
