/-
  The walk of the ninth reference's Make at a node of two arguments, as far as both are made.
-/
import Derived.Test.YtdhplphgackjaaaPk10
namespace Go.Proofs.Ytdhplphgackjaaa
open Go.RowKit

set_option maxRecDepth 100000 in
set_option maxHeartbeats 4000000 in
theorem make_two (b off n cap p q : Nat) (N : Nat → Nd) (hn : n ≤ 512) (ht : tree N n) (hj : p + 1 < n) (hf : 0 ≤ fst N (p + 1)) (hk : (N (p + 1)).k = 5 ∨ (N (p + 1)).k = 6) (h1 : fst N p = ((q + 1 : Nat) : Int)) (h2 : q + 1 ≤ p)
    (HM1 : MkC N n b off cap q) (HM2 : MkC N n b off cap p) : MkC N n b off cap (p + 1) := by
  intro sp c L w hlen hs hr
  have HRW := Lib.hid hr
  have HSW := Lib.hid hs
  have hkk : kids N (p + 1) = [(q : Int), (p : Int)] := by
    rcases kids_back hf with ⟨ha, _⟩ | ⟨ha, _⟩ | ⟨_, f, _, _, hff, hkk, _⟩
    · rcases hk with h | h <;> (rw [h] at ha; cases ha)
    · rcases hk with h | h <;> (rw [h] at ha; cases ha)
    · rw [hkk]
      have : fst N p = (f : Int) := by simpa using hff
      rw [h1] at this
      have e : f = q + 1 := by omega
      subst e
      simp
  have hkid := rkids_is b off n cap (p + 1) N (by omega) hj hf
  rw [hkk] at hkid
  have i0 : (0 : Int) ≤ ((p + 1 : Nat) : Int) := by omega
  have i1 : ((p + 1 : Nat) : Int) < (n : Int) := by omega
  have H0 := Lib.hid (isPt.new w (.slice none 0 0) 0 0)
  have HA := Lib.hid ((Below.refl w.heap.size w).alloc (Nat.le_refl _) (.cells #[.slice none 0 0, .int .i64 0, .int .i64 0] 67))
  have HKd := Lib.hid (hkid (w.alloc (.cells #[.slice none 0 0, .int .i64 0, .int .i64 0] 67)) (HRW.out.below HA.out))
  have HM1h := Lib.hid HM1; have HM2h := Lib.hid HM2
  have e7 : ((N (p + 1)).k == 7) = false := beq_eq_false_iff_ne.2 (by omega)
  have HKI := Lib.hid hk; have HT := Lib.hid ht; have HH1 := Lib.hid h1
  have hLq : L.length + nst (trT N q) + nst (trT N p) ≤ 1000 := by
    rcases hk with h | h
    · rw [trT_cat ht hj h h1 h2] at hlen
      have : L.length + (nst (trT N q) + nst (trT N p)) ≤ 1000 := hlen
      omega
    · rw [trT_or ht hj h h1 h2] at hlen
      have : L.length + (nst (trT N q) + nst (trT N p) + 2) ≤ 1000 := hlen
      omega
  have HLQ := Lib.hid hLq; have HLEN := Lib.hid hlen
  clear hs hr hkid hf hkk hk ht h1 HM1 HM2 hLq hlen
  go_enter Try.func29, Try.ntmps29
  go_wp2_with fail
  refine HKd.out.mono ?_
  rintro e w1 ⟨kv, rfl, hkv, hb⟩
  obtain ⟨kb, kc, rfl, hkl, hkc⟩ : ∃ kb kc, kv = .slice (some ⟨kb, 0, none⟩) 2 kc ∧ kb < w1.heap.size ∧ (w1.cell? ⟨kb, 0, none⟩ = some (.int .i64 (q : Int)) ∧ w1.cell? ⟨kb, 1, none⟩ = some (.int .i64 (p : Int))) := by
    rcases hkv with ⟨p', c', rfl, h⟩ | ⟨g, c', rfl, hl, hc⟩
    · cases h
    · exact ⟨g, c', rfl, hl, hc 0 (by simp), hc 1 (by simp)⟩
  have HB1 : Hid (Below w.heap.size w w1) := Lib.hid (below_two HA.out (hb.mono (by have := HA.out.size; omega)))
  have H1 := Lib.hid (H0.out.below hb H0.out.lt)
  obtain ⟨hbl, r0, -⟩ := (HRW.out.below HB1.out) (p + 1) hj
  obtain ⟨k0, k1⟩ := hkc
  have HKC : Hid (∀ w', Below w1.heap.size w1 w' → w'.cell? ⟨kb, 1, none⟩ = some (.int .i64 (p : Int))) := Lib.hid fun w' h => by rw [h.cell (p := ⟨kb, 1, none⟩) hkl]; exact k1
  have HC1 := Lib.hid (HM1h.out sp c L w1 (by have := HLQ.out; omega) (HSW.out.below HB1.out) (HRW.out.below HB1.out))
  clear hkv hb H0 HA HKd HM1h k1
  go_wp2_with fail
  refine HC1.out.mono ?_
  rintro e w2 ⟨ga, ca, rfl, hoa, hb⟩
  have HB2 := Lib.hid (HB1.out.trans (hb.mono HB1.out.size))
  have H2 := Lib.hid (H1.out.below hb H1.out.lt)
  have hR1 := mk_len (trT N q) L
  have hb1 := mk_bd (trT N q) L
  have HOA := Lib.hid (hoa.mono HB1.out.size)
  have HB12 := Lib.hid hb
  obtain ⟨X, hX⟩ : ∃ X, mkF (trT N q) L = X := ⟨_, rfl⟩
  rw [hX] at hR1 hb1 HOA
  rw [hX]
  have HXX := Lib.hid hX; have HR1 := Lib.hid hR1; have HBD1 := Lib.hid hb1
  clear hX hoa hb H1 HC1 r0 k0 hbl hR1 hb1
  obtain ⟨w3, hw3⟩ : ∃ w3, w2.alloc (.cells #[.slice (some ⟨ga, 0, none⟩) X.1.length ca, .int .i64 (X.2.1 : Int), .int .i64 (X.2.2 : Int)] 67) = w3 := ⟨_, rfl⟩
  have HPA : Hid (isPt w3 w2.heap.size (.slice (some ⟨ga, 0, none⟩) X.1.length ca) X.2.1 X.2.2) := Lib.hid (hw3 ▸ isPt.new _ _ _ _)
  have hb3 : Below w2.heap.size w2 w3 := hw3 ▸ (Below.refl _ _).alloc (Nat.le_refl _) _
  have HB3 := Lib.hid (HB2.out.trans (hb3.mono HB2.out.size))
  have H3 := Lib.hid (H2.out.below hb3 H2.out.lt)
  have HOA3 := Lib.hid (HOA.out.below hb3)
  have k1 := HKC.out w3 (HB12.out.trans (hb3.mono HB12.out.size))
  have hkb3 : kb < w3.heap.size := by have := HB12.out.size; have := hb3.size; omega
  obtain ⟨a0, -, -⟩ := HPA.out.cells
  have HW3 := Lib.hid hw3
  clear hb3 H2 HOA HKC HB12 hw3
  go_upto_region 10 with (fail)
  rw [HW3.out]
  have HKS : Hid (∀ w', Below w3.heap.size w3 w' → (w'.cell? ⟨kb, 1, none⟩ = some (.int .i64 (p : Int)) ∧ w'.cell? ⟨w2.heap.size, 0, none⟩ = some (.slice (some ⟨ga, 0, none⟩) X.1.length ca))) := Lib.hid fun w' h => by
    rw [h.cell (p := ⟨kb, 1, none⟩) hkb3, h.cell (p := ⟨w2.heap.size, 0, none⟩) HPA.out.lt]; exact ⟨k1, a0⟩
  have HD : Hid (Below w3.heap.size w3 w3.drew) := Lib.hid (Below.refl _ _).drew
  have HDa : Hid (Below w3.heap.size w3 (w3.alloc (.cells #[.slice none 0 0, .int .i64 0, .int .i64 0] 67)).drew) := Lib.hid ((Below.refl _ _).alloc (Nat.le_refl _) _).drew
  have HLX : Hid (X.1.length + nst (trT N p) ≤ 1000) := Lib.hid (by have := HLQ.out; have := HR1.out; omega)
  have HRD3 := Lib.hid (HRW.out.below HB3.out)
  have HCa := Lib.hid (HM2h.out (some ⟨ga, 0, none⟩) ca X.1 w3.drew HLX.out (HOA3.out.below HD.out).rd (HRD3.out.below HD.out))
  have HCb := Lib.hid (HM2h.out (some ⟨ga, 0, none⟩) ca X.1 (w3.alloc (.cells #[.slice none 0 0, .int .i64 0, .int .i64 0] 67)).drew HLX.out (HOA3.out.below HDa.out).rd (HRD3.out.below HDa.out))
  have HZb : Hid (w3.heap.size ≤ (w3.alloc (.cells #[.slice none 0 0, .int .i64 0, .int .i64 0] 67)).drew.heap.size) := Lib.hid HDa.out.size
  have HPB0 : Hid (isPt (w3.alloc (.cells #[.slice none 0 0, .int .i64 0, .int .i64 0] 67)).drew w3.heap.size (.slice none 0 0) 0 0) := Lib.hid (isPt.new w3 _ _ _)
  clear k1 a0
  go_region_held_law (fun w' => w'.cell? ⟨kb, 1, none⟩ = some (.int .i64 (p : Int)) ∧ w'.cell? ⟨w2.heap.size, 0, none⟩ = some (.slice (some ⟨ga, 0, none⟩) X.1.length ca))
    (first | with_reducible exact HKS.out _ HD.out | with_reducible exact HKS.out _ HDa.out | exact HKS.out _ HD.out | exact HKS.out _ HDa.out | exact HKS.out _ HB4.out | exact HKS.out _ (HB4.out.alloc HB4.out.size _) | exact HKS.out _ (below_pt3 HB4.out (Nat.le_refl _) _ _ _))
    (first
      | (go_at_call 29; (with_reducible refine HCa.out.mono ?_); rintro e w4 ⟨gb, cb, rfl, hob, hb4⟩; have HB4 := Lib.hid (HD.out.trans (hb4.mono HD.out.size)); have HOB := Lib.hid hob; have HB34 := Lib.hid hb4; clear hb4 hob)
      | (go_at_call 29; (refine HCb.out.mono ?_); rintro e w4 ⟨gb, cb, rfl, hob, hb4⟩; have HB4 := Lib.hid (HDa.out.trans (hb4.mono HZb.out)); have HOB := Lib.hid hob; have HB34 := Lib.hid hb4; have HPB := Lib.hid (HPB0.out.below hb4 HPB0.out.lt); obtain ⟨z0, z1, z2⟩ := HPB.out.cells; obtain ⟨y0, y1, y2⟩ := HPB.out.free; clear hb4 hob))
  all_goals
    obtain ⟨Y, hY⟩ : ∃ Y, mkF (trT N p) X.1 = Y := ⟨_, rfl⟩
    have HR2 := Lib.hid (mk_len (trT N p) X.1); have HBD2 := Lib.hid (mk_bd (trT N p) X.1)
    rw [hY] at HR2 HBD2 HOB ⊢
    have HYY := Lib.hid hY
    clear hY
  · skip
    have hne1 : w.heap.size ≠ gb := by have := HOB.out.lt.1; have := HD.out.size; have := H3.out.lt; omega
    have hne2 : w2.heap.size ≠ gb := by have := HOB.out.lt.1; have := HD.out.size; have := HPA.out.lt; omega
    have hne3 : w4.heap.size ≠ gb := by have := HOB.out.lt.2; omega
    have hne4 : w4.heap.size ≠ w.heap.size := by have := HB4.out.size; have := H3.out.lt; omega
    obtain ⟨pb, hpb⟩ : ∃ pb, w4.heap.size = pb := ⟨_, rfl⟩
    obtain ⟨W5, hW5⟩ : ∃ W5, w4.alloc (.cells #[.slice (some ⟨gb, 0, none⟩) Y.1.length cb, .int .i64 (Y.2.1 : Int), .int .i64 (Y.2.2 : Int)] 67) = W5 := ⟨_, rfl⟩
    have hb5 : Below w4.heap.size w4 W5 := hW5 ▸ (Below.refl _ _).alloc (Nat.le_refl _) _
    have HPBf : Hid (isPt W5 pb (.slice (some ⟨gb, 0, none⟩) Y.1.length cb) Y.2.1 Y.2.2) := Lib.hid (hpb ▸ hW5 ▸ isPt.new _ _ _ _)
    have HOBf : Hid (stO W5 w.heap.size gb cb Y.1) := Lib.hid ((HOB.out.below hb5).mono (by have := H3.out.lt; have := HD.out.size; omega))
    have HB5 : Hid (Below w3.heap.size w3 W5) := Lib.hid (HB4.out.trans (hb5.mono HB4.out.size))
    rw [hpb] at hne3 hne4 ⊢
    rw [hW5]
    clear hb5 hpb hW5 HCa HCb HD HDa HLX HRD3 HPB0 HZb HKS HOB HB34 HB4
    have HPA5 := Lib.hid (HPA.out.below HB5.out HPA.out.lt)
    have H5 := Lib.hid (H3.out.below HB5.out H3.out.lt)
    have HBW := Lib.hid (HB3.out.trans (HB5.out.mono HB3.out.size))
    obtain ⟨hbl, r0, -⟩ := (HRW.out.below HBW.out) (p + 1) hj
    obtain ⟨a0, a1, a2⟩ := HPA5.out.cells
    obtain ⟨b0, b1, b2⟩ := HPBf.out.cells
    have hgl : gb < W5.heap.size := HOBf.out.lt.2
    have c0 : (0 : Int) ≤ (X.2.2 : Int) := by omega
    have hlt : X.2.2 < Y.1.length := by have := HBD1.out; have := HR2.out; omega
    have c1 : (X.2.2 : Int) < (Y.1.length : Int) := by omega
    have cA := HOBf.out.cellA hlt
    have fA := HOBf.out.free (X.2.2 * 7 + 1)
    clear HB3 H3 HOA3 HPA HRW HM2h HW3 HB5
    rcases HKI.out with hk | hk
    · rw [hk] at r0
      go_upto_region 14 with (fail)
      obtain ⟨W6, hW6⟩ : ∃ W6, W5.setCell ⟨gb, X.2.2 * 7 + 1, none⟩ (.int .i64 (Y.2.1 : Int)) = W6 := ⟨_, rfl⟩
      have HO6 : Hid (stO W6 w.heap.size gb cb (setA Y.1 X.2.2 Y.2.1)) := Lib.hid (hW6 ▸ HOBf.out.putA X.2.2 Y.2.1)
      have HPA6 := Lib.hid (hW6 ▸ HPA5.out.other (j := X.2.2 * 7 + 1) hne2 (.int .i64 (Y.2.1 : Int)))
      have HPB6 := Lib.hid (hW6 ▸ HPBf.out.other (j := X.2.2 * 7 + 1) hne3 (.int .i64 (Y.2.1 : Int)))
      have H6 := Lib.hid (hW6 ▸ H5.out.other (j := X.2.2 * 7 + 1) hne1 (.int .i64 (Y.2.1 : Int)))
      have HB6 := Lib.hid (hW6 ▸ HBW.out.setCell (p := ⟨gb, X.2.2 * 7 + 1, none⟩) HOBf.out.lt.1 (.int .i64 (Y.2.1 : Int)))
      rw [hW6]
      clear a0 a1 a2 b0 b1 b2 r0 hbl cA fA hgl hW6 HPA5 HPBf H5 HBW HOBf
      obtain ⟨a0, a1, a2⟩ := HPA6.out.cells
      obtain ⟨b0, b1, b2⟩ := HPB6.out.cells
      obtain ⟨z0, z1, z2⟩ := H6.out.cells
      obtain ⟨f0, f1, f2⟩ := H6.out.free
      have HO7 := Lib.hid (HO6.out.pt3 hne1 (.slice (some ⟨gb, 0, none⟩) Y.1.length cb) (X.2.1 : Int) (Y.2.2 : Int))
      have HB7 := Lib.hid (below_pt3 HB6.out (Nat.le_refl _) (.slice (some ⟨gb, 0, none⟩) Y.1.length cb) (X.2.1 : Int) (Y.2.2 : Int))
      have Z := Lib.hid (H6.out.stored (.slice (some ⟨gb, 0, none⟩) Y.1.length cb) (X.2.1 : Int) (Y.2.2 : Int)).cells
      have HMK : Hid (mkF (trT N (p + 1)) L = (setA Y.1 X.2.2 Y.2.1, X.2.1, Y.2.2)) := Lib.hid (by
        rw [trT_cat HT.out hj hk HH1.out h2]
        show (setA (mkF (trT N p) (mkF (trT N q) L).1).1 (mkF (trT N q) L).2.2 (mkF (trT N p) (mkF (trT N q) L).1).2.1, (mkF (trT N q) L).2.1, (mkF (trT N p) (mkF (trT N q) L).1).2.2) = _
        rw [HXX.out, HYY.out])
      have HSL : Hid ((setA Y.1 X.2.2 Y.2.1).length = Y.1.length) := Lib.hid (setA_len _ _ _)
      clear HO6 HPA6 HPB6 H6 HB6 hk
      go_wp2_with fail
      refine bodyPost_ret (v := .agg #[.slice (some ⟨gb, 0, none⟩) Y.1.length cb, .int .i64 (X.2.1 : Int), .int .i64 (Y.2.2 : Int)]) (by simp [results, Try.results29, go_sem, Z.out]) rfl ?_
      rw [HMK.out]
      exact ⟨gb, cb, by rw [HSL.out], HO7.out, HB7.out⟩
    · rw [hk] at r0
      have hp := rput9_is _ (some ⟨gb, 0, none⟩) cb Y.1 (by have := HR2.out; have := HR1.out; have := HLQ.out; omega) rfl 3 (X.2.1 : Int) (Y.2.1 : Int) 0 0 0 0 W5 HOBf.out.rd
      have HP1 := Lib.hid hp
      clear hp
      go_wp2_with (refine wpList_build_stAB rfl _ _ _ rfl 3 (X.2.1 : Int) (Y.2.1 : Int) rfl rfl rfl ?_)
      refine HP1.out.mono ?_
      rintro e w6 ⟨g6, c6, rfl, ho6, hb6⟩
      have HB6 := Lib.hid (HBW.out.trans (hb6.mono HBW.out.size))
      have HPA6 := Lib.hid (HPA5.out.below hb6 HPA5.out.lt); have HPB6 := Lib.hid (HPBf.out.below hb6 HPBf.out.lt); have H6 := Lib.hid (H5.out.below hb6 H5.out.lt)
      have HLO : Hid (L.length + (nst (trT N q) + nst (trT N p) + 2) ≤ 1000) := Lib.hid (by have h := HLEN.out; rw [trT_or HT.out hj hk HH1.out h2] at h; exact h)
      have hE : (Y.1 ++ [(⟨3, 0, 0, 0, 0, (X.2.1 : Int), (Y.2.1 : Int)⟩ : Sd)]).length = Y.1.length + 1 := by simp
      have hp2 := rput9_is _ (some ⟨g6, 0, none⟩) c6 (Y.1 ++ [(⟨3, 0, 0, 0, 0, (X.2.1 : Int), (Y.2.1 : Int)⟩ : Sd)]) (by rw [hE]; have := HR2.out; have := HR1.out; have := HLO.out; omega) rfl 2 0 0 0 0 0 0 w6 ho6.rd
      rw [hE] at hp2
      have HP2 := Lib.hid hp2
      clear hE hp2 hb6 ho6 HP1 a0 a1 a2 b0 b1 b2 r0 hbl cA fA hgl HPA5 HPBf H5 HBW HOBf hne1 hne2 hne3 c1
      go_wp2_with (refine wpList_build_st0 rfl _ rfl 2 rfl ?_)
      refine HP2.out.mono ?_
      rintro e w7 ⟨g7, c7, rfl, ho7, hb7⟩
      have HB7 := Lib.hid (HB6.out.trans (hb7.mono HB6.out.size))
      have hne1 : w.heap.size ≠ g7 := by have := ho7.lt.1; have := H6.out.lt; omega
      have hne2 : w2.heap.size ≠ g7 := by have := ho7.lt.1; have := HPA6.out.lt; omega
      have hne3 : pb ≠ g7 := by have := ho7.lt.1; have := HPB6.out.lt; omega
      have HPA7 := Lib.hid (HPA6.out.below hb7 HPA6.out.lt); have HPB7 := Lib.hid (HPB6.out.below hb7 HPB6.out.lt); have H7 := Lib.hid (H6.out.below hb7 H6.out.lt)
      have HO7 := Lib.hid (ho7.mono HB6.out.size)
      have HE : Hid ((Y.1 ++ [(⟨3, 0, 0, 0, 0, (X.2.1 : Int), (Y.2.1 : Int)⟩ : Sd)]).length = Y.1.length + 1) := Lib.hid (by simp)
      have HMK : Hid (mkF (trT N (p + 1)) L = (setA (setA (Y.1 ++ [(⟨3, 0, 0, 0, 0, (X.2.1 : Int), (Y.2.1 : Int)⟩ : Sd)] ++ [(⟨2, 0, 0, 0, 0, 0, 0⟩ : Sd)]) X.2.2 (Y.1.length + 1)) Y.2.2 (Y.1.length + 1), Y.1.length, Y.1.length + 1)) := Lib.hid (by
        rw [trT_or HT.out hj hk HH1.out h2]
        show (setA (setA ((mkF (trT N p) (mkF (trT N q) L).1).1 ++ [sS (mkF (trT N q) L).2.1 (mkF (trT N p) (mkF (trT N q) L).1).2.1] ++ [sE 0]) (mkF (trT N q) L).2.2 ((mkF (trT N p) (mkF (trT N q) L).1).1.length + 1)) (mkF (trT N p) (mkF (trT N q) L).1).2.2 ((mkF (trT N p) (mkF (trT N q) L).1).1.length + 1), (mkF (trT N p) (mkF (trT N q) L).1).1.length, (mkF (trT N p) (mkF (trT N q) L).1).1.length + 1) = _
        rw [HXX.out, HYY.out]
        rfl)
      have HLR : Hid ((Y.1 ++ [(⟨3, 0, 0, 0, 0, (X.2.1 : Int), (Y.2.1 : Int)⟩ : Sd)] ++ [(⟨2, 0, 0, 0, 0, 0, 0⟩ : Sd)]).length = Y.1.length + 2) := Lib.hid (by simp)
      rw [HE.out]
      generalize (Y.1 ++ [(⟨3, 0, 0, 0, 0, (X.2.1 : Int), (Y.2.1 : Int)⟩ : Sd)] ++ [(⟨2, 0, 0, 0, 0, 0, 0⟩ : Sd)]) = R at *
      clear HB6 HPA6 HPB6 H6 hb7 ho7 HP2 HE
      obtain ⟨a0, a1, a2⟩ := HPA7.out.cells
      obtain ⟨b0, b1, b2⟩ := HPB7.out.cells
      have hgl : g7 < w7.heap.size := HO7.out.lt.2
      have d1 : (X.2.2 : Int) < (R.length : Int) := by have := HLR.out; omega
      have cA := HO7.out.cellA (j := X.2.2) (by have := HLR.out; omega)
      have fA := HO7.out.free (X.2.2 * 7 + 1)
      go_upto_region 18 with (fail)
      obtain ⟨W8, hW8⟩ : ∃ W8, w7.setCell ⟨g7, X.2.2 * 7 + 1, none⟩ (.int .i64 ((Y.1.length : Int) + 1)) = W8 := ⟨_, rfl⟩
      have HO8 : Hid (stO W8 w.heap.size g7 c7 (setA R X.2.2 (Y.1.length + 1))) := Lib.hid (hW8 ▸ HO7.out.putI X.2.2 _ (Y.1.length + 1) (by omega))
      have HPA8 := Lib.hid (hW8 ▸ HPA7.out.other (j := X.2.2 * 7 + 1) hne2 (.int .i64 ((Y.1.length : Int) + 1)))
      have HPB8 := Lib.hid (hW8 ▸ HPB7.out.other (j := X.2.2 * 7 + 1) hne3 (.int .i64 ((Y.1.length : Int) + 1)))
      have H8 := Lib.hid (hW8 ▸ H7.out.other (j := X.2.2 * 7 + 1) hne1 (.int .i64 ((Y.1.length : Int) + 1)))
      have HB8 := Lib.hid (hW8 ▸ HB7.out.setCell (p := ⟨g7, X.2.2 * 7 + 1, none⟩) HO7.out.lt.1 (.int .i64 ((Y.1.length : Int) + 1)))
      rw [hW8]
      clear a0 a1 a2 b0 b1 b2 cA fA hgl hW8 HPA7 HPB7 H7 HB7 HO7 d1 c0
      obtain ⟨a0, a1, a2⟩ := HPA8.out.cells
      obtain ⟨b0, b1, b2⟩ := HPB8.out.cells
      have hgl : g7 < W8.heap.size := HO8.out.lt.2
      have hlY : Y.2.2 < (setA R X.2.2 (Y.1.length + 1)).length := by rw [setA_len]; have := HLR.out; have := HBD2.out; omega
      have d0 : (0 : Int) ≤ (Y.2.2 : Int) := by omega
      have d1 : (Y.2.2 : Int) < (R.length : Int) := by rw [setA_len] at hlY; omega
      have cA := HO8.out.cellA hlY
      have fA := HO8.out.free (Y.2.2 * 7 + 1)
      go_upto_region 19 with (fail)
      obtain ⟨W9, hW9⟩ : ∃ W9, W8.setCell ⟨g7, Y.2.2 * 7 + 1, none⟩ (.int .i64 ((Y.1.length : Int) + 1)) = W9 := ⟨_, rfl⟩
      have HO9 : Hid (stO W9 w.heap.size g7 c7 (setA (setA R X.2.2 (Y.1.length + 1)) Y.2.2 (Y.1.length + 1))) := Lib.hid (hW9 ▸ HO8.out.putI Y.2.2 _ (Y.1.length + 1) (by omega))
      have H9 := Lib.hid (hW9 ▸ H8.out.other (j := Y.2.2 * 7 + 1) hne1 (.int .i64 ((Y.1.length : Int) + 1)))
      have HB9 := Lib.hid (hW9 ▸ HB8.out.setCell (p := ⟨g7, Y.2.2 * 7 + 1, none⟩) HO8.out.lt.1 (.int .i64 ((Y.1.length : Int) + 1)))
      rw [hW9]
      clear a0 a1 a2 b0 b1 b2 cA fA hgl hW9 HPA8 HPB8 H8 HB8 HO8
      obtain ⟨z0, z1, z2⟩ := H9.out.cells
      obtain ⟨f0, f1, f2⟩ := H9.out.free
      have HOe := Lib.hid (HO9.out.pt3 hne1 (.slice (some ⟨g7, 0, none⟩) R.length c7) (Y.1.length : Int) ((Y.1.length : Int) + 1))
      have HBe := Lib.hid (below_pt3 HB9.out (Nat.le_refl _) (.slice (some ⟨g7, 0, none⟩) R.length c7) (Y.1.length : Int) ((Y.1.length : Int) + 1))
      have Z := Lib.hid (H9.out.stored (.slice (some ⟨g7, 0, none⟩) R.length c7) (Y.1.length : Int) ((Y.1.length : Int) + 1)).cells
      have HSL : Hid ((setA (setA R X.2.2 (Y.1.length + 1)) Y.2.2 (Y.1.length + 1)).length = R.length) := Lib.hid (by rw [setA_len, setA_len])
      clear HO9 H9 HB9 hk hlY
      go_wp2_with fail
      refine bodyPost_ret (v := .agg #[.slice (some ⟨g7, 0, none⟩) R.length c7, .int .i64 (Y.1.length : Int), .int .i64 ((Y.1.length : Int) + 1)]) (by simp [results, Try.results29, go_sem, Z.out]) rfl ?_
      rw [HMK.out]
      exact ⟨g7, c7, by rw [HSL.out]; rfl, HOe.out, HBe.out⟩
  · skip
    have hne1 : w.heap.size ≠ gb := by have := HOB.out.lt.1; have := HZb.out; have := H3.out.lt; omega
    have hne2 : w2.heap.size ≠ gb := by have := HOB.out.lt.1; have := HZb.out; have := HPA.out.lt; omega
    have hne3 : w3.heap.size ≠ gb := by have := HOB.out.lt.1; have := HPB0.out.lt; omega
    have hne4 : w3.heap.size ≠ w.heap.size := by have := H3.out.lt; omega
    obtain ⟨W5, hW5⟩ : ∃ W5, (((w4.setCell ⟨w3.heap.size, 0, none⟩ (.slice (some ⟨gb, 0, none⟩) Y.1.length cb)).setCell ⟨w3.heap.size, 1, none⟩ (.int .i64 (Y.2.1 : Int))).setCell ⟨w3.heap.size, 2, none⟩ (.int .i64 (Y.2.2 : Int))) = W5 := ⟨_, rfl⟩
    have HPBf : Hid (isPt W5 w3.heap.size (.slice (some ⟨gb, 0, none⟩) Y.1.length cb) Y.2.1 Y.2.2) := Lib.hid (hW5 ▸ HPB.out.stored _ _ _)
    have HOBf : Hid (stO W5 w.heap.size gb cb Y.1) := Lib.hid (hW5 ▸ (HOB.out.mono (by have := H3.out.lt; have := HZb.out; omega)).pt3 hne3 _ _ _)
    have HB5 : Hid (Below w3.heap.size w3 W5) := Lib.hid (hW5 ▸ below_pt3 HB4.out (Nat.le_refl _) _ _ _)
    obtain ⟨pb, hpb⟩ : ∃ pb, w3.heap.size = pb := ⟨_, rfl⟩
    rw [hpb] at hne3 hne4 HPBf
    rw [hW5]
    rw [show (Value.pointer (some ⟨w3.heap.size, 0, none⟩) : Value) = .pointer (some ⟨pb, 0, none⟩) by rw [hpb]]
    clear hpb hW5 HCa HCb HD HDa HLX HRD3 HPB0 HZb HKS HOB HB34 HB4 HPB z0 z1 z2 y0 y1 y2
    have HPA5 := Lib.hid (HPA.out.below HB5.out HPA.out.lt)
    have H5 := Lib.hid (H3.out.below HB5.out H3.out.lt)
    have HBW := Lib.hid (HB3.out.trans (HB5.out.mono HB3.out.size))
    obtain ⟨hbl, r0, -⟩ := (HRW.out.below HBW.out) (p + 1) hj
    obtain ⟨a0, a1, a2⟩ := HPA5.out.cells
    obtain ⟨b0, b1, b2⟩ := HPBf.out.cells
    have hgl : gb < W5.heap.size := HOBf.out.lt.2
    have c0 : (0 : Int) ≤ (X.2.2 : Int) := by omega
    have hlt : X.2.2 < Y.1.length := by have := HBD1.out; have := HR2.out; omega
    have c1 : (X.2.2 : Int) < (Y.1.length : Int) := by omega
    have cA := HOBf.out.cellA hlt
    have fA := HOBf.out.free (X.2.2 * 7 + 1)
    clear HB3 H3 HOA3 HPA HRW HM2h HW3 HB5
    rcases HKI.out with hk | hk
    · rw [hk] at r0
      go_upto_region 14 with (fail)
      obtain ⟨W6, hW6⟩ : ∃ W6, W5.setCell ⟨gb, X.2.2 * 7 + 1, none⟩ (.int .i64 (Y.2.1 : Int)) = W6 := ⟨_, rfl⟩
      have HO6 : Hid (stO W6 w.heap.size gb cb (setA Y.1 X.2.2 Y.2.1)) := Lib.hid (hW6 ▸ HOBf.out.putA X.2.2 Y.2.1)
      have HPA6 := Lib.hid (hW6 ▸ HPA5.out.other (j := X.2.2 * 7 + 1) hne2 (.int .i64 (Y.2.1 : Int)))
      have HPB6 := Lib.hid (hW6 ▸ HPBf.out.other (j := X.2.2 * 7 + 1) hne3 (.int .i64 (Y.2.1 : Int)))
      have H6 := Lib.hid (hW6 ▸ H5.out.other (j := X.2.2 * 7 + 1) hne1 (.int .i64 (Y.2.1 : Int)))
      have HB6 := Lib.hid (hW6 ▸ HBW.out.setCell (p := ⟨gb, X.2.2 * 7 + 1, none⟩) HOBf.out.lt.1 (.int .i64 (Y.2.1 : Int)))
      rw [hW6]
      clear a0 a1 a2 b0 b1 b2 r0 hbl cA fA hgl hW6 HPA5 HPBf H5 HBW HOBf
      obtain ⟨a0, a1, a2⟩ := HPA6.out.cells
      obtain ⟨b0, b1, b2⟩ := HPB6.out.cells
      obtain ⟨z0, z1, z2⟩ := H6.out.cells
      obtain ⟨f0, f1, f2⟩ := H6.out.free
      have HO7 := Lib.hid (HO6.out.pt3 hne1 (.slice (some ⟨gb, 0, none⟩) Y.1.length cb) (X.2.1 : Int) (Y.2.2 : Int))
      have HB7 := Lib.hid (below_pt3 HB6.out (Nat.le_refl _) (.slice (some ⟨gb, 0, none⟩) Y.1.length cb) (X.2.1 : Int) (Y.2.2 : Int))
      have Z := Lib.hid (H6.out.stored (.slice (some ⟨gb, 0, none⟩) Y.1.length cb) (X.2.1 : Int) (Y.2.2 : Int)).cells
      have HMK : Hid (mkF (trT N (p + 1)) L = (setA Y.1 X.2.2 Y.2.1, X.2.1, Y.2.2)) := Lib.hid (by
        rw [trT_cat HT.out hj hk HH1.out h2]
        show (setA (mkF (trT N p) (mkF (trT N q) L).1).1 (mkF (trT N q) L).2.2 (mkF (trT N p) (mkF (trT N q) L).1).2.1, (mkF (trT N q) L).2.1, (mkF (trT N p) (mkF (trT N q) L).1).2.2) = _
        rw [HXX.out, HYY.out])
      have HSL : Hid ((setA Y.1 X.2.2 Y.2.1).length = Y.1.length) := Lib.hid (setA_len _ _ _)
      clear HO6 HPA6 HPB6 H6 HB6 hk
      go_wp2_with fail
      refine bodyPost_ret (v := .agg #[.slice (some ⟨gb, 0, none⟩) Y.1.length cb, .int .i64 (X.2.1 : Int), .int .i64 (Y.2.2 : Int)]) (by simp [results, Try.results29, go_sem, Z.out]) rfl ?_
      rw [HMK.out]
      exact ⟨gb, cb, by rw [HSL.out], HO7.out, HB7.out⟩
    · rw [hk] at r0
      have hp := rput9_is _ (some ⟨gb, 0, none⟩) cb Y.1 (by have := HR2.out; have := HR1.out; have := HLQ.out; omega) rfl 3 (X.2.1 : Int) (Y.2.1 : Int) 0 0 0 0 W5 HOBf.out.rd
      have HP1 := Lib.hid hp
      clear hp
      go_wp2_with (refine wpList_build_stAB rfl _ _ _ rfl 3 (X.2.1 : Int) (Y.2.1 : Int) rfl rfl rfl ?_)
      refine HP1.out.mono ?_
      rintro e w6 ⟨g6, c6, rfl, ho6, hb6⟩
      have HB6 := Lib.hid (HBW.out.trans (hb6.mono HBW.out.size))
      have HPA6 := Lib.hid (HPA5.out.below hb6 HPA5.out.lt); have HPB6 := Lib.hid (HPBf.out.below hb6 HPBf.out.lt); have H6 := Lib.hid (H5.out.below hb6 H5.out.lt)
      have HLO : Hid (L.length + (nst (trT N q) + nst (trT N p) + 2) ≤ 1000) := Lib.hid (by have h := HLEN.out; rw [trT_or HT.out hj hk HH1.out h2] at h; exact h)
      have hE : (Y.1 ++ [(⟨3, 0, 0, 0, 0, (X.2.1 : Int), (Y.2.1 : Int)⟩ : Sd)]).length = Y.1.length + 1 := by simp
      have hp2 := rput9_is _ (some ⟨g6, 0, none⟩) c6 (Y.1 ++ [(⟨3, 0, 0, 0, 0, (X.2.1 : Int), (Y.2.1 : Int)⟩ : Sd)]) (by rw [hE]; have := HR2.out; have := HR1.out; have := HLO.out; omega) rfl 2 0 0 0 0 0 0 w6 ho6.rd
      rw [hE] at hp2
      have HP2 := Lib.hid hp2
      clear hE hp2 hb6 ho6 HP1 a0 a1 a2 b0 b1 b2 r0 hbl cA fA hgl HPA5 HPBf H5 HBW HOBf hne1 hne2 hne3 c1
      go_wp2_with (refine wpList_build_st0 rfl _ rfl 2 rfl ?_)
      refine HP2.out.mono ?_
      rintro e w7 ⟨g7, c7, rfl, ho7, hb7⟩
      have HB7 := Lib.hid (HB6.out.trans (hb7.mono HB6.out.size))
      have hne1 : w.heap.size ≠ g7 := by have := ho7.lt.1; have := H6.out.lt; omega
      have hne2 : w2.heap.size ≠ g7 := by have := ho7.lt.1; have := HPA6.out.lt; omega
      have hne3 : pb ≠ g7 := by have := ho7.lt.1; have := HPB6.out.lt; omega
      have HPA7 := Lib.hid (HPA6.out.below hb7 HPA6.out.lt); have HPB7 := Lib.hid (HPB6.out.below hb7 HPB6.out.lt); have H7 := Lib.hid (H6.out.below hb7 H6.out.lt)
      have HO7 := Lib.hid (ho7.mono HB6.out.size)
      have HE : Hid ((Y.1 ++ [(⟨3, 0, 0, 0, 0, (X.2.1 : Int), (Y.2.1 : Int)⟩ : Sd)]).length = Y.1.length + 1) := Lib.hid (by simp)
      have HMK : Hid (mkF (trT N (p + 1)) L = (setA (setA (Y.1 ++ [(⟨3, 0, 0, 0, 0, (X.2.1 : Int), (Y.2.1 : Int)⟩ : Sd)] ++ [(⟨2, 0, 0, 0, 0, 0, 0⟩ : Sd)]) X.2.2 (Y.1.length + 1)) Y.2.2 (Y.1.length + 1), Y.1.length, Y.1.length + 1)) := Lib.hid (by
        rw [trT_or HT.out hj hk HH1.out h2]
        show (setA (setA ((mkF (trT N p) (mkF (trT N q) L).1).1 ++ [sS (mkF (trT N q) L).2.1 (mkF (trT N p) (mkF (trT N q) L).1).2.1] ++ [sE 0]) (mkF (trT N q) L).2.2 ((mkF (trT N p) (mkF (trT N q) L).1).1.length + 1)) (mkF (trT N p) (mkF (trT N q) L).1).2.2 ((mkF (trT N p) (mkF (trT N q) L).1).1.length + 1), (mkF (trT N p) (mkF (trT N q) L).1).1.length, (mkF (trT N p) (mkF (trT N q) L).1).1.length + 1) = _
        rw [HXX.out, HYY.out]
        rfl)
      have HLR : Hid ((Y.1 ++ [(⟨3, 0, 0, 0, 0, (X.2.1 : Int), (Y.2.1 : Int)⟩ : Sd)] ++ [(⟨2, 0, 0, 0, 0, 0, 0⟩ : Sd)]).length = Y.1.length + 2) := Lib.hid (by simp)
      rw [HE.out]
      generalize (Y.1 ++ [(⟨3, 0, 0, 0, 0, (X.2.1 : Int), (Y.2.1 : Int)⟩ : Sd)] ++ [(⟨2, 0, 0, 0, 0, 0, 0⟩ : Sd)]) = R at *
      clear HB6 HPA6 HPB6 H6 hb7 ho7 HP2 HE
      obtain ⟨a0, a1, a2⟩ := HPA7.out.cells
      obtain ⟨b0, b1, b2⟩ := HPB7.out.cells
      have hgl : g7 < w7.heap.size := HO7.out.lt.2
      have d1 : (X.2.2 : Int) < (R.length : Int) := by have := HLR.out; omega
      have cA := HO7.out.cellA (j := X.2.2) (by have := HLR.out; omega)
      have fA := HO7.out.free (X.2.2 * 7 + 1)
      go_upto_region 18 with (fail)
      obtain ⟨W8, hW8⟩ : ∃ W8, w7.setCell ⟨g7, X.2.2 * 7 + 1, none⟩ (.int .i64 ((Y.1.length : Int) + 1)) = W8 := ⟨_, rfl⟩
      have HO8 : Hid (stO W8 w.heap.size g7 c7 (setA R X.2.2 (Y.1.length + 1))) := Lib.hid (hW8 ▸ HO7.out.putI X.2.2 _ (Y.1.length + 1) (by omega))
      have HPA8 := Lib.hid (hW8 ▸ HPA7.out.other (j := X.2.2 * 7 + 1) hne2 (.int .i64 ((Y.1.length : Int) + 1)))
      have HPB8 := Lib.hid (hW8 ▸ HPB7.out.other (j := X.2.2 * 7 + 1) hne3 (.int .i64 ((Y.1.length : Int) + 1)))
      have H8 := Lib.hid (hW8 ▸ H7.out.other (j := X.2.2 * 7 + 1) hne1 (.int .i64 ((Y.1.length : Int) + 1)))
      have HB8 := Lib.hid (hW8 ▸ HB7.out.setCell (p := ⟨g7, X.2.2 * 7 + 1, none⟩) HO7.out.lt.1 (.int .i64 ((Y.1.length : Int) + 1)))
      rw [hW8]
      clear a0 a1 a2 b0 b1 b2 cA fA hgl hW8 HPA7 HPB7 H7 HB7 HO7 d1 c0
      obtain ⟨a0, a1, a2⟩ := HPA8.out.cells
      obtain ⟨b0, b1, b2⟩ := HPB8.out.cells
      have hgl : g7 < W8.heap.size := HO8.out.lt.2
      have hlY : Y.2.2 < (setA R X.2.2 (Y.1.length + 1)).length := by rw [setA_len]; have := HLR.out; have := HBD2.out; omega
      have d0 : (0 : Int) ≤ (Y.2.2 : Int) := by omega
      have d1 : (Y.2.2 : Int) < (R.length : Int) := by rw [setA_len] at hlY; omega
      have cA := HO8.out.cellA hlY
      have fA := HO8.out.free (Y.2.2 * 7 + 1)
      go_upto_region 19 with (fail)
      obtain ⟨W9, hW9⟩ : ∃ W9, W8.setCell ⟨g7, Y.2.2 * 7 + 1, none⟩ (.int .i64 ((Y.1.length : Int) + 1)) = W9 := ⟨_, rfl⟩
      have HO9 : Hid (stO W9 w.heap.size g7 c7 (setA (setA R X.2.2 (Y.1.length + 1)) Y.2.2 (Y.1.length + 1))) := Lib.hid (hW9 ▸ HO8.out.putI Y.2.2 _ (Y.1.length + 1) (by omega))
      have H9 := Lib.hid (hW9 ▸ H8.out.other (j := Y.2.2 * 7 + 1) hne1 (.int .i64 ((Y.1.length : Int) + 1)))
      have HB9 := Lib.hid (hW9 ▸ HB8.out.setCell (p := ⟨g7, Y.2.2 * 7 + 1, none⟩) HO8.out.lt.1 (.int .i64 ((Y.1.length : Int) + 1)))
      rw [hW9]
      clear a0 a1 a2 b0 b1 b2 cA fA hgl hW9 HPA8 HPB8 H8 HB8 HO8
      obtain ⟨z0, z1, z2⟩ := H9.out.cells
      obtain ⟨f0, f1, f2⟩ := H9.out.free
      have HOe := Lib.hid (HO9.out.pt3 hne1 (.slice (some ⟨g7, 0, none⟩) R.length c7) (Y.1.length : Int) ((Y.1.length : Int) + 1))
      have HBe := Lib.hid (below_pt3 HB9.out (Nat.le_refl _) (.slice (some ⟨g7, 0, none⟩) R.length c7) (Y.1.length : Int) ((Y.1.length : Int) + 1))
      have Z := Lib.hid (H9.out.stored (.slice (some ⟨g7, 0, none⟩) R.length c7) (Y.1.length : Int) ((Y.1.length : Int) + 1)).cells
      have HSL : Hid ((setA (setA R X.2.2 (Y.1.length + 1)) Y.2.2 (Y.1.length + 1)).length = R.length) := Lib.hid (by rw [setA_len, setA_len])
      clear HO9 H9 HB9 hk hlY
      go_wp2_with fail
      refine bodyPost_ret (v := .agg #[.slice (some ⟨g7, 0, none⟩) R.length c7, .int .i64 (Y.1.length : Int), .int .i64 ((Y.1.length : Int) + 1)]) (by simp [results, Try.results29, go_sem, Z.out]) rfl ?_
      rw [HMK.out]
      exact ⟨g7, c7, by rw [HSL.out]; rfl, HOe.out, HBe.out⟩
end Go.Proofs.Ytdhplphgackjaaa
