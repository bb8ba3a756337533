/-
  The walk of mini.Of.
-/
import Derived.Test.YtefpoapbodbenaaPk54
import Derived.Test.YtefpoapbodbenaaPk27
import Derived.Test.YtefpoapbodbenaaPk34
import Derived.Deep.RegionLaw
namespace Go.Proofs.Ytefpoapbodbenaa
open Go.RowKit

theorem build_dfo13 (q0 : Option Addr) (n0 c0 : Nat) (wd : Int) (w : World) : (Instr.build 25 #[(0, .slice q0 n0 c0), (1, .int .i64 wd)]).run Try.prog w = .ok (dfV q0 n0 c0 wd 0 none 0 0 none 0 0) w := by kernel_rfl
theorem build_me13 (b : Nat) (w : World) : (Instr.build 67 #[(0, .map (some b))]).run Try.prog w = .ok (.agg #[.map (some b), .slice none 0 0]) w := by kernel_rfl

set_option maxRecDepth 100000 in
set_option maxHeartbeats 20000000 in
theorem mof13 (v : Value) (x : Da) (w : World) (hs : smD x) (hx : rgD x) (hd : daAt w v x) : Calls Try.prog 15 #[v] w fun e w' => ∃ v', e = .returned (.tuple #[v', .int .i64 0]) ∧ daAt w' v' (mnD x) ∧ Below w.heap.size w w' := by
  obtain ⟨D, hD⟩ : ∃ D, w.heap.size = D := ⟨_, rfl⟩
  have hd' := hd
  obtain ⟨q0, c0, q1, c1, q2, c2, rfl, -, -, ht2⟩ := hd'
  obtain ⟨w1, hw1⟩ : ∃ w1, (w.alloc (.cells #[.slice q0 x.n0 c0, .int .i64 x.wd, .int .i64 x.st, .slice q1 x.n1 c1, .slice q2 x.n2 c2] 25)).alloc (.cells #[.slice none 0 0, .int .i64 0, .int .i64 0, .slice none 0 0, .slice none 0 0] 25) = w1 := ⟨_, rfl⟩
  have hs1 : (w.alloc (.cells #[.slice q0 x.n0 c0, .int .i64 x.wd, .int .i64 x.st, .slice q1 x.n1 c1, .slice q2 x.n2 c2] 25)).heap.size = D + 1 := by rw [World.size_alloc, hD]
  have hz1 : w1.heap.size = D + 2 := by rw [← hw1, World.size_alloc, hs1]
  have hb1 : Below D w w1 := hw1 ▸ ((Below.refl _ _).alloc (by omega) _).alloc (by omega) _
  have hk1 : isDf w1 D q0 x.n0 c0 x.wd x.st q1 x.n1 c1 q2 x.n2 c2 := by
    have h1 : isDf (w.alloc (.cells #[.slice q0 x.n0 c0, .int .i64 x.wd, .int .i64 x.st, .slice q1 x.n1 c1, .slice q2 x.n2 c2] 25)) D q0 x.n0 c0 x.wd x.st q1 x.n1 c1 q2 x.n2 c2 := hD ▸ heap_alloc_new w _
    refine h1.below (B := D + 1) ?_ (Nat.lt_succ_self D)
    rw [← hw1]
    exact (Below.refl _ _).alloc (by omega) _
  have hr1 : isDf w1 (D + 1) none 0 0 0 0 none 0 0 none 0 0 := by
    have := heap_alloc_new (w.alloc (.cells #[.slice q0 x.n0 c0, .int .i64 x.wd, .int .i64 x.st, .slice q1 x.n1 c1, .slice q2 x.n2 c2] 25)) (.cells #[.slice none 0 0, .int .i64 0, .int .i64 0, .slice none 0 0, .slice none 0 0] 25)
    rw [hw1, hs1] at this
    exact this
  have HK := Lib.hid (fun w' (h : Below (D + 2) w1 w') => (hk1.below h (by omega)).cells)
  have HRS := Lib.hid (fun w' (h : Below (D + 2) w1 w') => hr1.below h (by omega))
  have HDA := Lib.hid (fun w' (h : Below (D + 2) w1 w') => hd.below (hD.symm ▸ hb1.trans (h.mono (by omega))))
  have HTB := Lib.hid (fun w' (h : Below (D + 2) w1 w') => ht2.below (hD.symm ▸ hb1.trans (h.mono (by omega))))
  have HRI := Lib.hid (rig_any _ x w1 hs (HDA.out _ (Below.refl _ _)))
  rw [rgB_yes hx] at HRI
  have HS := Lib.hid hs; have HX := Lib.hid hx
  have HW1 := Lib.hid hw1; have HZ := Lib.hid hz1; have HG := Lib.hid hD; have HB01 := Lib.hid hb1
  have hm : x.n2 ≤ 1000 := hs.2.2
  obtain ⟨S0, hS0⟩ : ∃ S0 : Nat, x.st = S0 := ⟨x.st.toNat, by have := hx.2.2.2.2.2.2.1; omega⟩
  have hSl : S0 < x.n2 := by have := st_lt hx; rw [hS0, Int.toNat_natCast] at this; exact this
  have HS0 := Lib.hid hS0
  obtain ⟨L, hL⟩ : ∃ L, lnW x x.st.toNat = L := ⟨_, rfl⟩
  have HLL := Lib.hid hL
  obtain ⟨n, hn⟩ : ∃ n, x.n2 = n := ⟨_, rfl⟩
  have HNx := Lib.hid hn
  obtain ⟨y0, y1, y2, y3, y4⟩ := hk1.cells
  rw [hS0] at y2 HK HW1
  rw [hn] at HRI HDA HTB HK HW1 y4 hm hSl
  have n0 : (0 : Int) ≤ (n : Int) := by omega
  have n1 : (n : Int) ≤ 1000 := by omega
  have t0 : (0 : Int) ≤ (S0 : Int) := by omega
  have t1 : (S0 : Int) < (n : Int) := by omega
  rw [hS0] at HRI HDA ⊢
  rw [hn]
  clear hw1 hs1 hz1 hb1 hk1 hr1 hd ht2 hn hL hS0
  go_enter Try.func15, Try.ntmps15
  go_upto_region 1 with (fail)
  rw [HW1.out]
  clear hD
  go_wp2_with fail
  refine HRI.out.mono ?_
  rintro e w2 ⟨rfl, hb2⟩
  have HB2 : Hid (Below (D + 2) w1 w2) := Lib.hid (HZ.out ▸ hb2)
  have HBK := Lib.hid (mblk13 _ x w2 HS.out HX.out (HDA.out _ HB2.out))
  rw [HNx.out] at HBK
  clear hb2 HRI y0 y1 y2 y3 y4
  obtain ⟨y0, y1, y2, y3, y4⟩ := HK.out _ HB2.out
  go_wp2_with fail
  refine HBK.out.mono ?_
  rintro e w3 ⟨q3, c3, rfl, hr3, hb3⟩
  have hD2 : D + 2 ≤ w2.heap.size := by have := HB2.out.size; have := HZ.out; omega
  have HB3 : Hid (Below (D + 2) w1 w3) := Lib.hid (HB2.out.trans (hb3.mono hD2))
  have hr3' : rdL w3 q3 x.n2 (bkF x) := by rw [HNx.out]; exact hr3
  have HPT := Lib.hid (parted13 _ x q3 c3 w3 HS.out HX.out (HDA.out _ HB3.out) hr3')
  rw [HNx.out, HLL.out] at HPT
  have hD3 : D + 2 ≤ w3.heap.size := by have := hb3.size; omega
  have HR3 := Lib.hid hr3
  have HD3 := Lib.hid hD3
  clear hr3 hr3' hb3 hD2 hD3 HBK y0 y1 y2 y3 y4
  obtain ⟨y0, y1, y2, y3, y4⟩ := HK.out _ HB3.out
  go_wp2_with fail
  refine HPT.out.mono ?_
  rintro e w4 ⟨p4, c4, rfl, hr4, hb4⟩
  obtain ⟨O, hO⟩ : ∃ O, w4.heap.size = O := ⟨_, rfl⟩
  obtain ⟨Wd, hWd⟩ : ∃ Wd, wdL L = Wd := ⟨_, rfl⟩
  have hWl : Wd ≤ 259 := hWd ▸ wdL_le L
  have hWp : 0 < Wd := hWd ▸ wdL_pos L
  have HB4 : Hid (Below (D + 2) w1 w4) := Lib.hid (HB3.out.trans (hb4.mono HD3.out))
  have hDO : D + 2 ≤ O := by have := hb4.size; have := HD3.out; omega
  have hr34 := HR3.out.below hb4
  have HBR := Lib.hid (fun w' (h : Below O w4 w') => hr34.below (hO.symm ▸ h))
  have HCR := Lib.hid (fun w' (h : Below O w4 w') => hr4.below (hO.symm ▸ h))
  obtain ⟨W5, hW5⟩ : ∃ W5, w4.alloc (.cells #[.slice p4 259 c4, .int .i64 (Wd : Int), .int .i64 0, .slice none 0 0, .slice none 0 0] 25) = W5 := ⟨_, rfl⟩
  have hb5 : Below O w4 W5 := hW5 ▸ (Below.refl _ _).alloc (by omega) _
  have hz5 : W5.heap.size = O + 1 := by rw [← hW5, World.size_alloc, hO]
  have hk5 : isDf W5 O p4 259 c4 (Wd : Int) 0 none 0 0 none 0 0 := hW5 ▸ hO ▸ heap_alloc_new w4 _
  have hmin : (min (Wd : Int) 259).toNat = Wd := by omega
  have hfi := firsts13 p4 259 c4 _ (Wd : Int) (by decide) W5 (HCR.out _ hb5)
  rw [hmin] at hfi
  have HFi := Lib.hid hfi
  have HB5 := Lib.hid hb5; have HZ5 := Lib.hid hz5; have HK5 := Lib.hid hk5
  have HW5 := Lib.hid hW5; have HWD := Lib.hid hWd; have HOO := Lib.hid hO
  have hbd := build_dfo13
  rw [hWd]
  clear hr4 hb4 hr34 hb5 hz5 hk5 hmin hfi hW5 hWd HPT y0 y1 y2 y3 y4
  go_upto_region 6 with (fail)
  rw [HW5.out]
  clear hbd hO
  go_wp2_with fail
  refine HFi.out.mono ?_
  rintro e w6 ⟨q6, c6, l6, rfl, hr6, hl6, hb6, hf6⟩
  rw [HZ5.out] at hb6 hf6
  have hh6 : rdL w6 q6 Wd (fun j => (fsR (syB L) j : Nat)) := hr6.eqv13 fun j hj => by rw [hl6 j hj]; exact fsR_int (syB_eq L) (by have := HWD.out; unfold wdL at this; rw [this]; exact hj)
  have hd6 : isDf w6 O p4 259 c4 (Wd : Int) 0 none 0 0 none 0 0 := HK5.out.below hb6 (Nat.lt_succ_self O)
  have HB6 : Hid (Below O w4 w6) := Lib.hid (HB5.out.trans (hb6.mono (Nat.le_succ O)))
  obtain ⟨mb, hmb⟩ : ∃ mb, w6.heap.size = mb := ⟨_, rfl⟩
  have hOmb : O < mb := by rw [← hmb]; exact hd6.lt
  obtain ⟨W7, hW7⟩ : ∃ W7, (w6.alloc (.map #[] 0)).alloc (.cells #[.map (some mb), .slice none 0 0] 67) = W7 := ⟨_, rfl⟩
  have hs6 : (w6.alloc (.map #[] 0)).heap.size = mb + 1 := by rw [World.size_alloc, hmb]
  have hz7 : W7.heap.size = mb + 2 := by rw [← hW7, World.size_alloc, hs6]
  have hb67 : Below mb w6 (w6.alloc (.map #[] 0)) := (Below.refl _ _).alloc (by omega) _
  have hb7 : Below mb w6 W7 := by rw [← hW7]; exact hb67.alloc (by omega) _
  have hmp : ownsI W7 mb 0 (.map []) := by
    have h1 : ownsI (w6.alloc (.map #[] 0)) mb 0 (.map []) := by rw [← hmb]; exact World.ownsMap_made _ _ _ _
    refine ownsMap_below h1 (B := mb + 1) ?_ (Nat.lt_succ_self _)
    rw [← hW7]
    exact (Below.refl _ _).alloc (by omega) _
  have hme : isMe W7 (mb + 1) mb (.slice none 0 0) := by
    have h1 := heap_alloc_new (w6.alloc (.map #[] 0)) (.cells #[.map (some mb), .slice none 0 0] 67)
    rw [hs6, hW7] at h1
    exact h1
  have hof : OfM W7 O (mb + 2) (mb + 1) mb p4 c4 (Wd : Int) (.slice none 0 0) [] [] (fun j => x.T (([] : List Nat).getD j 0)) 0 none 0 none 0 (.map []) :=
    ⟨⟨hd6.below hb7 hOmb, ⟨rfl, .inl ⟨rfl, rfl⟩⟩, ⟨rfl, .inl ⟨rfl, rfl⟩⟩, ⟨rfl, .inl ⟨rfl, rfl⟩⟩, ⟨rfl, .inl ⟨rfl, rfl⟩⟩, .inl rfl, .inl rfl, .inl rfl, by omega⟩, hme, hmp, by omega, by omega, by omega, by omega, by omega⟩
  obtain ⟨X, hX⟩ : ∃ X : Nat → Prop, X = xOf O (mb + 2) (mb + 1) mb := ⟨_, rfl⟩
  have HXE := Lib.hid hX
  have HXO : Hid (∀ k, k < O → X k) := Lib.hid fun k hk => by rw [hX]; exact ⟨by omega, by omega, by omega, by omega⟩
  have HXN : Hid (∀ k, X k → k < mb + 2 ∧ k ≠ O ∧ k ≠ mb + 1 ∧ k ≠ mb) := Lib.hid fun k hk => by rw [hX] at hk; exact hk
  have HB7 : Hid (Below O w4 W7) := Lib.hid (HB6.out.trans (hb7.mono (by omega)))
  have HXB : Hid (∀ w', kpX X W7 w' → Below O w4 w') := Lib.hid fun w' h => HB7.out.trans (h.below (B := O) (by omega) HXO.out)
  have hh7 := hh6.below (hmb.symm ▸ hb7)
  have HRQ : Hid (∀ w', kpX X W7 w' → rdL w' q6 Wd (fun j => (fsR (syB L) j : Nat))) := Lib.hid fun w' h => h.rd hh7 fun b o e => by
    rw [hX]
    obtain ⟨b', o', e', hb', -⟩ := hh6 0 hWp
    rw [e] at e'; cases e'
    have := hf6 b o e
    exact ⟨by omega, by omega, by omega, by omega⟩
  have HDX : Hid (∀ w', kpX X W7 w' → Below (D + 2) w1 w') := Lib.hid fun w' h => HB4.out.trans ((HXB.out w' h).mono hDO)
  have HFB : Hid (∀ k, k < Wd → fsR (syB L) k < 259) := Lib.hid fun k hk => (fsR_of (syB_eq L) (by have := HWD.out; unfold wdL at this; rw [this]; exact hk)).1
  have HBD : Hid (∀ a, (atG (goL L) Wd L a).1.length ≤ n) := Lib.hid fun a => by
    have := leL_bound HX.out (st_lt HX.out) HLL.out a
    rw [HNx.out] at this
    have e : leL L a = atG (goL L) Wd L a := by rw [← HWD.out]; rfl
    rw [e] at this; exact this
  have HOF := Lib.hid hof
  have HW7 := Lib.hid hW7
  have HZ7 := Lib.hid hz7
  have HOM := Lib.hid hOmb
  have HDO := Lib.hid hDO
  have hmm := @run_makeMap Try.prog
  have hbm := build_me13
  clear hr6 hl6 hb6 hf6 hh6 hd6 hs6 hz7 hb67 hb7 hmp hme hof hX hh7 hW7 HFi
  go_upto_region 8 with (fail)
  rw [HW7.out]
  clear hmm hbm
  obtain ⟨cS, hcS⟩ : ∃ cS, ((clA (lnB x) S0 : Nat) : Int) = cS := ⟨_, rfl⟩
  obtain ⟨bb, bo, rfl, -, -⟩ := HBR.out _ HB7.out S0 hSl
  have HBc : Hid (∀ u w', u < n → kpX X W7 w' → w'.cell? ⟨bb, bo + u, none⟩ = some (.int .i64 ((clA (lnB x) u : Nat) : Int))) := Lib.hid fun u w' hu hk => by
    obtain ⟨b1, o1, e1, -, l1⟩ := HBR.out _ (HXB.out _ hk) u hu
    cases e1
    exact l1
  have HS8 : Hid (∀ w', kpX X W7 w' → w'.cell? ⟨D, 2, none⟩ = some (.int .i64 (S0 : Int)) ∧ w'.cell? ⟨bb, bo + S0, none⟩ = some (.int .i64 cS)) := Lib.hid fun w' hk => ⟨(HK.out _ (HDX.out _ hk)).2.2.1, by rw [← hcS]; exact HBc.out S0 w' hSl hk⟩
  have hbd7 : Below W7.heap.size W7 W7.drew := (Below.refl _ _).drew
  have HPU := Lib.hid (mput13 x O (mb + 2) (mb + 1) mb p4 c4 (Wd : Int) (.slice none 0 0) [] [] _ 0 none 0 none 0 (.map []) S0 n cS W7.drew (HOF.out.below hbd7) (dmI_nil x) List.nodup_nil hm hSl (by decide) hcS (by show mb + 2 ≤ W7.heap.size; rw [HZ7.out]; exact Nat.le_refl _))
  rw [← HXE.out] at HPU
  have HKd : Hid (kpX X W7 W7.drew) := Lib.hid (kpX.of_below hbd7)
  have hSd := HS8.out _ HKd.out
  clear hbd7 hcS
  go_region_held_law (fun w' => w'.cell? ⟨D, 2, none⟩ = some (.int .i64 (S0 : Int)) ∧ w'.cell? ⟨bb, bo + S0, none⟩ = some (.int .i64 cS)) (first | exact hSd | exact HS8.out _ HK8.out)
    (first | (go_at_call 30; (with_reducible refine HPU.out.mono ?_); rintro e w8 ⟨rfl, hof8, hk8⟩; (have HK8 := Lib.hid (HKd.out.trans hk8)); (have HOF8 := Lib.hid hof8); clear hof8 hk8))
  obtain ⟨vs8, D8, hof8, hdm8⟩ := HOF8.out
  have hst8 : stA x [] S0 = [S0] := by
    unfold stA
    exact if_neg (Nat.not_lt_zero _)
  rw [hst8] at hof8 hdm8
  have HOF0 : Hid (OfM w8 O (mb + 2) (mb + 1) mb p4 c4 (Wd : Int) vs8 [S0] [] (fun j => x.T ([S0].getD j 0)) 0 none 0 none 0 D8) := Lib.hid ⟨hof8.om.congr fun j hj => absurd hj (Nat.not_lt_zero _), hof8.me, hof8.mp, hof8.lh, hof8.lm, hof8.oh, hof8.ob, hof8.hb⟩
  have HDM0 := Lib.hid hdm8
  have HST0 : Hid (stI x [S0] (atG (goL L) Wd L 0).1) := Lib.hid ⟨by
    show [lnW x S0] = [L]
    rw [← HLL.out, HS0.out, Int.toNat_natCast], fun t ht => by
    have : t = S0 := by simpa using ht
    rw [this, HNx.out]; exact hSl⟩
  obtain ⟨G, hG⟩ : ∃ G, mb + 2 = G := ⟨_, rfl⟩
  obtain ⟨hmt, hhm⟩ : ∃ hmt, mb + 1 = hmt := ⟨_, rfl⟩
  rw [hG, hhm] at HOF0
  rw [hhm]
  have HXN2 : Hid (∀ k, X k → k < G ∧ k ≠ O) := Lib.hid fun k hk => by obtain ⟨h1, h2, -, -⟩ := HXN.out k hk; exact ⟨by omega, h2⟩
  have HXF : Hid (X = xOf O G hmt mb) := Lib.hid (by rw [HXE.out, hG, hhm])
  have HGW : Hid (G ≤ W7.heap.size) := Lib.hid (by rw [HZ7.out]; omega)
  have W0 : (0 : Int) ≤ (Wd : Int) := by omega
  have W1 : (Wd : Int) ≤ 259 := by omega
  clear hof8 hdm8 hst8 HOF8 hSd HPU HKd HOF hG hhm HXN HXE HZ7 HB7
  go_wp2_with fail
  go_loopw [11] (fun av wr => ∃ (a : Nat) (st nx : List Nat) (pn : Option Addr) (cn : Nat) (pa : Option Addr) (ca : Nat) (vs : Value) (DD : Dm), av = .int .i64 a ∧ a ≤ st.length ∧ Hid (stI x st (atG (goL L) Wd L a).1) ∧ Hid (nx = (atG (goL L) Wd L a).2 ∧ nx.length ≤ 259 * a) ∧ Hid (OfM wr O G hmt mb p4 c4 (Wd : Int) vs st nx (fun j => x.T (st.getD j 0)) a pn cn pa ca DD) ∧ Hid (dmI x st DD) ∧ Hid (kpX X W7 wr)) (fun av _ => n - (intOf av).toNat)
  case atStart => exact ⟨0, [S0], [], none, 0, none, 0, vs8, D8, rfl, Nat.zero_le _, HST0, Lib.hid ⟨rfl, Nat.zero_le _⟩, HOF0, HDM0, HK8⟩
  case round =>
    clear HOF0 HST0 HDM0 HK8
    obtain ⟨a, st, nx, pn, cn, pa, ca, vs, DD, rfl, hal, HST, HNX, HOF, HDM, HKX⟩ := hrel
    obtain ⟨ps, cs, rfl⟩ := spO_of HOF.out.om.s
    have hkl : st.length = (atG (goL L) Wd L a).1.length := by rw [← HST.out.1, List.length_map]
    have hkn : st.length ≤ n := by rw [hkl]; exact HBD.out a
    obtain ⟨k, hk⟩ : ∃ k, st.length = k := ⟨_, rfl⟩
    have HK9 := Lib.hid hk
    rw [hk] at HOF hkl hkn hal
    obtain ⟨mz0, mz1⟩ := HOF.out.me.cells
    by_cases hlt : a < k
    · have a0 : (0 : Int) ≤ (a : Int) := by omega
      have a1 : (a : Int) < (k : Int) := by omega
      have a2 : (k : Int) ≤ 1000 := by omega
      obtain ⟨sa, hsa⟩ : ∃ sa, st[a]? = some sa := ⟨st[a]'(by rw [hk]; exact hlt), List.getElem?_eq_getElem _⟩
      have hsn : sa < n := by rw [← HNx.out]; exact HST.out.2 sa (List.mem_of_getElem? hsa)
      have hsm := HOF.out.om.s
      rw [← hk] at hsm
      obtain ⟨bs, rfl, kcs⟩ := hsm.at12 hsa
      obtain ⟨u, hu⟩ : ∃ u, x.T sa = u := ⟨_, rfl⟩
      obtain ⟨b2, o2, rfl, hb2l, kt⟩ := HTB.out wr (HDX.out _ HKX.out) sa hsn
      rw [hu] at kt
      have HU : Hid ((fun j => x.T (st.getD j 0)) a = u) := Lib.hid (by
        show x.T (st.getD a 0) = u
        rw [List.getD_eq_getElem?_getD, hsa]; exact hu)
      obtain ⟨d0, d1, d2, d3, d4⟩ := HK.out _ (HDX.out _ HKX.out)
      have sa0 : (0 : Int) ≤ (sa : Int) := by omega
      have sa1 : (sa : Int) < (n : Int) := by omega
      have HSA := Lib.hid hsa
      have HX0 : Hid ((atG (goL L) Wd L a).1[a]? = some (lnW x sa)) := Lib.hid (by rw [← HST.out.1, List.getElem?_map, hsa]; rfl)
      obtain ⟨XL, hXL⟩ : ∃ XL, lnW x sa = XL := ⟨_, rfl⟩
      have HXL := Lib.hid hXL
      rw [hXL] at HX0
      have HLT := Lib.hid hlt
      have HKN := Lib.hid hkn
      clear hu hsm hsa hXL hkl
      have HSm : Hid (∀ w', kpX X W7 w' → w'.cell? ⟨D, 4, none⟩ = some (.slice (some ⟨b2, o2, none⟩) n c2) ∧ w'.cell? ⟨b2, o2 + sa, none⟩ = some (.bool u)) := Lib.hid fun w' p => by
        refine ⟨(HK.out _ (HDX.out _ p)).2.2.2.2, ?_⟩
        have h1 := (HXB.out _ p)
        have hbd := HKX.out
        obtain ⟨b9, o9, e9, -, l9⟩ := HTB.out w' (HDX.out _ p) sa hsn
        cases e9
        rw [l9]
        have h3 := HU.out
        have h4 : x.T (st.getD a 0) = u := h3
        rw [List.getD_eq_getElem?_getD, HSA.out] at h4
        exact congrArg some (congrArg Value.bool h4)
      have HOd := Lib.hid (HOF.out.below (Below.refl _ _).drew)
      have HOa := Lib.hid (HOd.out.below ((Below.refl _ _).alloc (Nat.le_refl _) (.cells #[.bool u] 4)))
      have HKd : Hid (kpX X W7 wr.drew) := Lib.hid (HKX.out.trans (kpX.of_below (Below.refl _ _).drew))
      have HKa : Hid (kpX X W7 (wr.drew.alloc (.cells #[.bool u] 4))) := Lib.hid (HKd.out.trans (kpX.of_below ((Below.refl _ _).alloc (Nat.le_refl _) _)))
      have HSZ : Hid (G ≤ (wr.drew.alloc (.cells #[.bool u] 4)).heap.size) := Lib.hid (by have := HKa.out.size; have := HGW.out; omega)
      have HN1 : Hid (a ≤ 100000) := Lib.hid (by omega)
      have hOl : O < wr.heap.size := HOF.out.om.df.lt
      have c4' : wr.cell? ⟨O, 4, none⟩ = some (.slice pa a ca) := HOF.out.om.df.cells.2.2.2.2
      have HST13 : Hid (∀ q' cap' wc, wc.ownsRow G 4 1 (.slice q' (a + 1) cap') (a + 1) (bls (fun j => x.T (st.getD j 0)) (a + 1)) → (wr.drew.alloc (.cells #[.bool u] 4)).grownBy wc (Value.slice pa a ca).ownBlock →
          kpX X W7 wc ∧ kpX X W7 (wc.setCell ⟨O, 4, none⟩ (.slice q' (a + 1) cap')) ∧ OfM (wc.setCell ⟨O, 4, none⟩ (.slice q' (a + 1) cap')) O G hmt mb p4 c4 (Wd : Int) (.slice (some ⟨bs, 0, none⟩) k cs) st nx (fun j => x.T (st.getD j 0)) (a + 1) pn cn q' cap' DD ∧
          wc.cell? ⟨O, 4, none⟩ = some (.slice pa a ca) ∧ wc.frozen? ⟨O, 4, none⟩ = false ∧ O < wc.heap.size) := Lib.hid fun q' cap' wc h1 h2 => by
        have hd9 := HOa.out.om.dfk HOa.out.om.ac HOa.out.om.le h2
        have hg := HOa.out.om.growA h1 h2
        have hk1 : kpX X W7 wc := HKa.out.trans (kpX.of_grown h2 (own_far13 HOa.out.om.ac HXN2.out))
        have hgs := grown_setCell wc O 4 (.slice q' (a + 1) cap')
        refine ⟨hk1, hk1.trans (kpX.of_grown hgs (one_far13 HXN2.out)), ⟨hg.2, (HOa.out.me.kept h2 (row_ne13 HOa.out.om.ac HOa.out.lh)).kept hgs (by have := HOa.out.oh; simp; exact fun e => this e.symm), ownsI.kept (ownsI.kept HOa.out.mp h2 (row_ne13 HOa.out.om.ac HOa.out.lm)) hgs (by have := HOa.out.ob; simp; exact fun e => this e.symm), HOa.out.lh, HOa.out.lm, HOa.out.oh, HOa.out.ob, HOa.out.hb⟩, hd9.cells.2.2.2.2, hd9.free 4, hd9.lt⟩
      go_upto_region 13 with (fail)
      clear d0 d1 d2 d3 d4 kt kcs hb2l mz0 mz1
      have hSd := HSm.out _ HKd.out
      go_cut [] from 59 to 90 (fun wx => ∃ q' cap', Hid (OfM wx O G hmt mb p4 c4 (Wd : Int) (.slice (some ⟨bs, 0, none⟩) k cs) st nx (fun j => x.T (st.getD j 0)) (a + 1) pn cn q' cap' DD) ∧ Hid (kpX X W7 wx))
      case first =>
        refine wp_region_held_drew (S := (fun w' => w'.cell? ⟨D, 4, none⟩ = some (.slice (some ⟨b2, o2, none⟩) n c2) ∧ w'.cell? ⟨b2, o2 + sa, none⟩ = some (.bool u))) (by kernel_rfl) (hSd) (fun hHeld => ?_)
        refine wpAnyH_take (i := 0) (oi := { dst := some 59, op := Go.Op.fieldAddr 25 (Go.Operand.tmp 8) 4, type := 0, pos := "mini.go:45", after := #[], guard := none }) (v := .pointer (some ⟨O, 4, none⟩)) rfl (by kernel_rfl) (by kernel_rfl) (by kernel_rfl) (fun _ _ _ h => h) (Or.inl ⟨by rfl, ?_⟩) (by assumption) ?_
        · intro w hSw; (try dsimp only at hSw); go_simp
        try simp only [Act.put, List.setIfInBounds_toArray, List.set_cons_zero, List.set_cons_succ]
        refine wpAnyH_take (i := 2) (oi := { dst := some 61, op := Go.Op.fieldAddr 25 (Go.Operand.tmp 1) 4, type := 0, pos := "mini.go:45", after := #[], guard := none }) (v := .pointer (some ⟨D, 4, none⟩)) rfl (by kernel_rfl) (by kernel_rfl) (by kernel_rfl) (fun _ _ _ h => h) (Or.inl ⟨by rfl, ?_⟩) (by assumption) ?_
        · intro w hSw; (try dsimp only at hSw); go_simp
        try simp only [Act.put, List.setIfInBounds_toArray, List.set_cons_zero, List.set_cons_succ]
        refine wpAnyH_take (i := 3) (oi := { dst := some 62, op := Go.Op.load 23 (Go.Operand.tmp 61), type := 23, pos := "mini.go:45", after := #[{ on := 2, ground := Go.Ground.data }], guard := none }) (v := .slice (some ⟨b2, o2, none⟩) n c2) rfl (by kernel_rfl) (by kernel_rfl) (by kernel_rfl) (fun _ _ _ h => h) (Or.inl ⟨by rfl, ?_⟩) (by assumption) ?_
        · intro w hSw; (try dsimp only at hSw); go_simp
        try simp only [Act.put, List.setIfInBounds_toArray, List.set_cons_zero, List.set_cons_succ]
        refine wpAnyH_take (i := 4) (oi := { dst := some 63, op := Go.Op.move (Go.Operand.tmp 12), type := 3, pos := "mini.go:45", after := #[], guard := none }) (v := .int .i64 (sa : Int)) rfl (by kernel_rfl) (by kernel_rfl) (by kernel_rfl) (fun _ _ _ h => h) (Or.inl ⟨by rfl, ?_⟩) (by assumption) ?_
        · intro w hSw; (try dsimp only at hSw); go_simp
        try simp only [Act.put, List.setIfInBounds_toArray, List.set_cons_zero, List.set_cons_succ]
        refine wpAnyH_take (i := 5) (oi := { dst := some 64, op := Go.Op.indexAddr 23 (Go.Operand.tmp 62) (Go.Operand.tmp 63), type := 0, pos := "mini.go:45", after := #[{ on := 3, ground := Go.Ground.data }, { on := 4, ground := Go.Ground.data }], guard := none }) (v := .pointer (some ⟨b2, o2 + sa, none⟩)) rfl (by kernel_rfl) (by kernel_rfl) (by kernel_rfl) (fun _ _ _ h => h) (Or.inl ⟨by rfl, ?_⟩) (by assumption) ?_
        · intro w hSw; (try dsimp only at hSw); go_simp
        try simp only [Act.put, List.setIfInBounds_toArray, List.set_cons_zero, List.set_cons_succ]
        refine wpAnyH_take (i := 6) (oi := { dst := some 65, op := Go.Op.load 4 (Go.Operand.tmp 64), type := 4, pos := "mini.go:45", after := #[{ on := 5, ground := Go.Ground.data }], guard := none }) (v := .bool u) rfl (by kernel_rfl) (by kernel_rfl) (by kernel_rfl) (fun _ _ _ h => h) (Or.inl ⟨by rfl, ?_⟩) (by assumption) ?_
        · intro w hSw; (try dsimp only at hSw); go_simp
        try simp only [Act.put, List.setIfInBounds_toArray, List.set_cons_zero, List.set_cons_succ]
        refine wpAnyH_ready (rs := [1, 7]) (by kernel_rfl) (by simp) ?_
        refine AllReadyH.cons rfl (fun K' hK' => ?_) ?_
        ·
          go_simp
          refine hK'.out _ _ ?_ (fun hHeld => ?_)
          · (try dsimp only)
            exact HSm.out _ HKd.out
          clear hK' K'
          try simp only [Act.put, List.setIfInBounds_toArray, List.set_cons_zero, List.set_cons_succ]
          refine wpAnyH_ready (rs := [7]) (by kernel_rfl) (by simp) ?_
          refine AllReadyH.cons rfl (fun K' hK' => ?_) AllReadyH.nil
          go_simp
          refine hK'.out _ _ ?_ (fun hHeld => ?_)
          · (try dsimp only)
            exact HSm.out _ HKa.out
          clear hK' K'
          try simp only [Act.put, List.setIfInBounds_toArray, List.set_cons_zero, List.set_cons_succ]
          refine wpAnyH_ready (rs := [8]) (by kernel_rfl) (by simp) ?_
          refine AllReadyH.cons rfl (fun K' hK' => ?_) AllReadyH.nil
          (refine step_append_bl rfl (.tmp 60) (.tmp 66) rfl G (.slice pa a ca) (fun j => x.T (st.getD j 0)) a rfl HOa.out.om.ac wr.heap.size u HU.out rfl (by simp) HN1.out HSZ.out ?_; intro q' n' cap' wc hn' ho' hg')
          obtain rfl : n' = a + 1 := hn'
          have HFF := Lib.hid (HST13.out q' cap' wc ho' hg')
          obtain ⟨-, -, -, e1, e2, e3⟩ := HST13.out q' cap' wc ho' hg'
          clear ho' hg'
          refine hK'.out _ _ ?_ (fun hHeld => ?_)
          · (try dsimp only)
            exact HSm.out _ HFF.out.1
          clear hK' K'
          try simp only [Act.put, List.setIfInBounds_toArray]
          refine wpAnyH_take (i := 9) (oi := { dst := some 68, op := Go.Op.fieldAddr 25 (Go.Operand.tmp 8) 4, type := 0, pos := "mini.go:45", after := #[{ on := 0, ground := Go.Ground.phase }, { on := 1, ground := Go.Ground.phase }, { on := 2, ground := Go.Ground.phase }, { on := 3, ground := Go.Ground.phase }, { on := 4, ground := Go.Ground.phase }, { on := 5, ground := Go.Ground.phase }, { on := 6, ground := Go.Ground.phase }, { on := 7, ground := Go.Ground.phase }, { on := 8, ground := Go.Ground.phase }], guard := none }) (v := .pointer (some ⟨O, 4, none⟩)) rfl (by kernel_rfl) (by kernel_rfl) (by kernel_rfl) (fun _ _ _ h => h) (Or.inl ⟨by rfl, ?_⟩) (by assumption) ?_
          · intro w hSw; (try dsimp only at hSw); go_simp
          try simp only [Act.put]
          refine wpAnyH_ready (rs := [10]) (by kernel_rfl) (by simp) ?_
          refine AllReadyH.cons rfl (fun K' hK' => ?_) AllReadyH.nil
          go_simp
          refine hK'.out _ _ ?_ (fun hHeld => ?_)
          · (try dsimp only)
            exact HSm.out _ HFF.out.2.1
          clear hK' K'
          try simp only [Act.put]
          refine wpAnyH_done (by kernel_rfl) ?_ _
          go_wp2_with fail
          go_meet
          exact ⟨q', cap', Lib.hid HFF.out.2.2.1, Lib.hid HFF.out.2.1⟩
        refine AllReadyH.cons rfl (fun K' hK' => ?_) AllReadyH.nil
        ·
          go_simp
          refine hK'.out _ _ ?_ (fun hHeld => ?_)
          · (try dsimp only)
            exact HSm.out _ HKa.out
          clear hK' K'
          try simp only [Act.put, List.setIfInBounds_toArray, List.set_cons_zero, List.set_cons_succ]
          refine wpAnyH_ready (rs := [1]) (by kernel_rfl) (by simp) ?_
          refine AllReadyH.cons rfl (fun K' hK' => ?_) AllReadyH.nil
          go_simp
          refine hK'.out _ _ ?_ (fun hHeld => ?_)
          · (try dsimp only)
            exact HSm.out _ HKa.out
          clear hK' K'
          try simp only [Act.put, List.setIfInBounds_toArray, List.set_cons_zero, List.set_cons_succ]
          refine wpAnyH_ready (rs := [8]) (by kernel_rfl) (by simp) ?_
          refine AllReadyH.cons rfl (fun K' hK' => ?_) AllReadyH.nil
          (refine step_append_bl rfl (.tmp 60) (.tmp 66) rfl G (.slice pa a ca) (fun j => x.T (st.getD j 0)) a rfl HOa.out.om.ac wr.heap.size u HU.out rfl (by simp) HN1.out HSZ.out ?_; intro q' n' cap' wc hn' ho' hg')
          obtain rfl : n' = a + 1 := hn'
          have HFF := Lib.hid (HST13.out q' cap' wc ho' hg')
          obtain ⟨-, -, -, e1, e2, e3⟩ := HST13.out q' cap' wc ho' hg'
          clear ho' hg'
          refine hK'.out _ _ ?_ (fun hHeld => ?_)
          · (try dsimp only)
            exact HSm.out _ HFF.out.1
          clear hK' K'
          try simp only [Act.put, List.setIfInBounds_toArray]
          refine wpAnyH_take (i := 9) (oi := { dst := some 68, op := Go.Op.fieldAddr 25 (Go.Operand.tmp 8) 4, type := 0, pos := "mini.go:45", after := #[{ on := 0, ground := Go.Ground.phase }, { on := 1, ground := Go.Ground.phase }, { on := 2, ground := Go.Ground.phase }, { on := 3, ground := Go.Ground.phase }, { on := 4, ground := Go.Ground.phase }, { on := 5, ground := Go.Ground.phase }, { on := 6, ground := Go.Ground.phase }, { on := 7, ground := Go.Ground.phase }, { on := 8, ground := Go.Ground.phase }], guard := none }) (v := .pointer (some ⟨O, 4, none⟩)) rfl (by kernel_rfl) (by kernel_rfl) (by kernel_rfl) (fun _ _ _ h => h) (Or.inl ⟨by rfl, ?_⟩) (by assumption) ?_
          · intro w hSw; (try dsimp only at hSw); go_simp
          try simp only [Act.put]
          refine wpAnyH_ready (rs := [10]) (by kernel_rfl) (by simp) ?_
          refine AllReadyH.cons rfl (fun K' hK' => ?_) AllReadyH.nil
          go_simp
          refine hK'.out _ _ ?_ (fun hHeld => ?_)
          · (try dsimp only)
            exact HSm.out _ HFF.out.2.1
          clear hK' K'
          try simp only [Act.put]
          refine wpAnyH_done (by kernel_rfl) ?_ _
          go_wp2_with fail
          go_meet
          exact ⟨q', cap', Lib.hid HFF.out.2.2.1, Lib.hid HFF.out.2.1⟩
      case rest =>
        obtain ⟨q', cap', HOF2, HKX2⟩ := hcut
        clear HOd HOa HKd HKa HSZ HN1 HST13 HSm hSd c4' hOl HOF
        obtain ⟨s, hs⟩ : ∃ s, atG (goL L) Wd L a = s := ⟨_, rfl⟩
        have HSS := Lib.hid hs
        rw [hs] at HST HNX HX0
        clear hs
        have HST2 : Hid (stI x st (clG (goL L) XL 0 s).1) := HST
        have HNX2 : Hid (nx = (clG (goL L) XL 0 s).2 ∧ nx.length ≤ 259 * a + 0) := HNX
        have HDM2 := HDM
        have HCPY : Hid (∀ w', kpX X W7 w' → w'.cell? ⟨D, 0, none⟩ = some (.slice q0 x.n0 c0) ∧ w'.cell? ⟨D, 1, none⟩ = some (.int .i64 x.wd) ∧ w'.cell? ⟨D, 2, none⟩ = some (.int .i64 (S0 : Int)) ∧ w'.cell? ⟨D, 3, none⟩ = some (.slice q1 x.n1 c1) ∧ w'.cell? ⟨D, 4, none⟩ = some (.slice (some ⟨b2, o2, none⟩) n c2)) := Lib.hid fun w' p => HK.out _ (HDX.out _ p)
        have HBY := Lib.hid (fun y w' (hy : y < 259) (p : kpX X W7 w') => by13 _ x sa y w' HS.out HX.out (by rw [HNx.out]; exact hsn) hy (HDA.out w' (HDX.out _ p)))
        clear HKX
        go_wp2_with fail
        go_loopw [71] (fun iv wr => ∃ (kk : Nat) (st' nx' : List Nat) (pn' : Option Addr) (cn' : Nat) (vs : Value) (DD : Dm), iv = .int .i64 kk ∧ kk ≤ Wd ∧ k ≤ st'.length ∧ Hid (stI x st' (clG (goL L) XL kk s).1) ∧ Hid (nx' = (clG (goL L) XL kk s).2 ∧ nx'.length ≤ 259 * a + kk) ∧ Hid (∀ j, j < k → st'[j]? = st[j]?) ∧ Hid (OfM wr O G hmt mb p4 c4 (Wd : Int) vs st' nx' (fun j => x.T (st.getD j 0)) (a + 1) pn' cn' q' cap' DD) ∧ Hid (dmI x st' DD) ∧ Hid (kpX X W7 wr)) (fun iv _ => Wd - (intOf iv).toNat)
        case atStart => exact ⟨0, st, nx, pn, cn, _, DD, rfl, Nat.zero_le _, Nat.le_of_eq HK9.out.symm, HST2, HNX2, Lib.hid (fun _ _ => rfl), HOF2, HDM2, HKX2⟩
        case round =>
          clear HOF2 HST2 HNX2 HKX2 HST HNX HDM HDM2
          obtain ⟨kk, st', nx', pn', cn', vs, DD, rfl, hkk, hks, HST, HNX, HPF, HOF, HDM, HKX⟩ := hrel
          by_cases hltk : kk < Wd
          · have k0 : (0 : Int) ≤ (kk : Int) := by omega
            have k1 : (kk : Int) < (Wd : Int) := by omega
            obtain ⟨y, hy⟩ : ∃ y, fsR (syB L) kk = y := ⟨_, rfl⟩
            have hyl : y < 259 := by rw [← hy]; exact HFB.out kk hltk
            obtain ⟨b8, o8, rfl, hb8l, ky⟩ := (HRQ.out wr HKX.out) kk hltk
            simp only [hy] at ky
            have hlb : st'.length ≤ 2000 := by
              have e1 : st'.length = (clG (goL L) XL kk s).1.length := by rw [← HST.out.1, List.length_map]
              have e2 := (clG_len (go := goL L) (X := XL) (s := s) kk).2.1
              have e3 := HBD.out a
              rw [HSS.out] at e3
              omega
            have htl : goD x sa y < n := by rw [← HNx.out]; exact (goD_at HX.out (by rw [HNx.out]; exact hsn) hyl).2.2
            have HCa := Lib.hid (HBY.out y wr hyl HKX.out)
            obtain ⟨tz, hto⟩ : ∃ tz, goD x sa y = tz := ⟨_, rfl⟩
            rw [hto] at htl HCa
            have HLZ : Hid (lnW x tz = goL L kk XL) := Lib.hid (by
              rw [← hto, lnW_go x sa hyl, HXL.out]
              show der y XL = der (fsR (syB L) kk) XL
              rw [hy])
            obtain ⟨P, hP⟩ : ∃ P, clG (goL L) XL kk s = P := ⟨_, rfl⟩
            have hstep : clG (goL L) XL (kk + 1) s = (adG P.1 (lnW x tz), P.2 ++ [ixG P.1 (lnW x tz)]) := by rw [HLZ.out, ← hP]; rfl
            have hndp : P.1.Nodup := by
              rw [← hP]
              exact clG_nodup (by rw [← HSS.out]; exact atG_nodup a) kk
            rw [hP] at HST HNX
            obtain ⟨fi, hfi⟩ : ∃ fi, ixG P.1 (lnW x tz) = fi := ⟨_, rfl⟩
            rw [hfi] at hstep
            have hfl : fi ≤ 2000 := by
              have h1 := ixG_le P.1 (lnW x tz)
              have h2 : P.1.length = st'.length := by rw [← HST.out.1, List.length_map]
              omega
            obtain ⟨cz, hcz⟩ : ∃ cz, ((clA (lnB x) tz : Nat) : Int) = cz := ⟨_, rfl⟩
            have HBZ : Hid (∀ w', kpX X W7 w' → w'.cell? ⟨bb, bo + tz, none⟩ = some (.int .i64 cz)) := Lib.hid fun w' p => by rw [← hcz]; exact HBc.out tz w' htl p
            have HPU := Lib.hid (fun w' (hb : Below wr.heap.size wr w') => mput13 x O G hmt mb p4 c4 (Wd : Int) vs st' nx' (fun j => x.T (st.getD j 0)) (a + 1) pn' cn' q' cap' DD tz n cz w' (HOF.out.below hb) HDM.out (by rw [HST.out.1]; exact hndp) hm htl hlb hcz (by have := hb.size; have := HGW.out; have := HKX.out.size; omega))
            rw [HST.out.1, hfi, ← HXF.out] at HPU
            have HST2 : Hid (stI x (stA x st' tz) (clG (goL L) XL (kk + 1) s).1) := Lib.hid (by
              rw [hstep]
              exact stI_add HST.out (u := tz) (by rw [HNx.out]; exact htl))
            have HNX2 : Hid (nx' ++ [fi] = (clG (goL L) XL (kk + 1) s).2 ∧ (nx' ++ [fi]).length ≤ 259 * a + (kk + 1)) := Lib.hid ⟨by rw [hstep, HNX.out.1], by rw [List.length_append]; have := HNX.out.2; simp; omega⟩
            have HPF2 : Hid (∀ j, j < k → (stA x st' tz)[j]? = st[j]?) := Lib.hid fun j hj => by
              unfold stA
              split
              · exact HPF.out j hj
              · rw [List.getElem?_append_left (by omega)]; exact HPF.out j hj
            have HKS2 : Hid (k ≤ (stA x st' tz).length) := Lib.hid (by
              unfold stA
              split
              · exact hks
              · rw [List.length_append]; omega)
            have HNL : Hid (nx'.length ≤ 1000000) := Lib.hid (by have := HNX.out.2; have := HKN.out; omega)
            obtain ⟨nl, hnl⟩ : ∃ nl, nx'.length = nl := ⟨_, rfl⟩
            have HNLL := Lib.hid hnl
            obtain ⟨d0, d1, d2, d3, d4⟩ := HCPY.out _ HKX.out
            have z0 : (0 : Int) ≤ (tz : Int) := by omega
            have z1 : (tz : Int) < (n : Int) := by omega
            clear hy hto hP hstep hndp hfi hcz hb8l htl hlb hyl hnl HST HNX HLZ
            go_wp2_with fail
            refine HCa.out.mono ?_
            rintro e w4b ⟨rfl, hb4b⟩
            have HB4b := Lib.hid hb4b
            clear hb4b HCa d0 d1 d2 d3 d4 ky
            go_upto_region 18 with (fail)
            have HBd : Hid (Below wr.heap.size wr w4b.drew) := Lib.hid (HB4b.out.trans ((Below.refl _ _).drew.mono HB4b.out.size))
            have HOd := Lib.hid (HOF.out.below HBd.out)
            have HKd : Hid (kpX X W7 w4b.drew) := Lib.hid (HKX.out.trans (kpX.of_below HBd.out))
            have HPC := Lib.hid (HPU.out _ HBd.out)
            have hSd := HBZ.out _ HKd.out
            have l3 : w4b.cell? ⟨O, 3, none⟩ = some (.slice pn' nl cn') := by have := HOd.out.om.df.cells.2.2.2.1; rw [HNLL.out] at this; exact this
            clear HPU HOF
            refine wp_region_held_drew (S := (fun w' => w'.cell? ⟨bb, bo + tz, none⟩ = some (.int .i64 cz))) (by kernel_rfl) (hSd) (fun hHeld => ?_)
            refine wpAnyH_take (i := 0) (oi := { dst := some 79, op := Go.Op.fieldAddr 25 (Go.Operand.tmp 8) 3, type := 0, pos := "mini.go:48", after := #[], guard := none }) (v := .pointer (some ⟨O, 3, none⟩)) rfl (by kernel_rfl) (by kernel_rfl) (by kernel_rfl) (fun _ _ _ h => h) (Or.inl ⟨by rfl, ?_⟩) (by assumption) ?_
            · intro w hSw; (try dsimp only at hSw); go_simp
            try simp only [Act.put, List.setIfInBounds_toArray, List.set_cons_zero, List.set_cons_succ]
            refine wpAnyH_take (i := 2) (oi := { dst := some 81, op := Go.Op.move (Go.Operand.tmp 4), type := 22, pos := "mini.go:48", after := #[], guard := none }) (v := .slice (some ⟨bb, bo, none⟩) n c3) rfl (by kernel_rfl) (by kernel_rfl) (by kernel_rfl) (fun _ _ _ h => h) (Or.inl ⟨by rfl, ?_⟩) (by assumption) ?_
            · intro w hSw; (try dsimp only at hSw); go_simp
            try simp only [Act.put, List.setIfInBounds_toArray, List.set_cons_zero, List.set_cons_succ]
            refine wpAnyH_take (i := 3) (oi := { dst := some 82, op := Go.Op.move (Go.Operand.tmp 15), type := 3, pos := "mini.go:48", after := #[], guard := none }) (v := .int .i64 (tz : Int)) rfl (by kernel_rfl) (by kernel_rfl) (by kernel_rfl) (fun _ _ _ h => h) (Or.inl ⟨by rfl, ?_⟩) (by assumption) ?_
            · intro w hSw; (try dsimp only at hSw); go_simp
            try simp only [Act.put, List.setIfInBounds_toArray, List.set_cons_zero, List.set_cons_succ]
            refine wpAnyH_take (i := 4) (oi := { dst := some 83, op := Go.Op.indexAddr 22 (Go.Operand.tmp 81) (Go.Operand.tmp 82), type := 0, pos := "mini.go:48", after := #[{ on := 2, ground := Go.Ground.data }, { on := 3, ground := Go.Ground.data }], guard := none }) (v := .pointer (some ⟨bb, bo + tz, none⟩)) rfl (by kernel_rfl) (by kernel_rfl) (by kernel_rfl) (fun _ _ _ h => h) (Or.inl ⟨by rfl, ?_⟩) (by assumption) ?_
            · intro w hSw; (try dsimp only at hSw); go_simp
            try simp only [Act.put, List.setIfInBounds_toArray, List.set_cons_zero, List.set_cons_succ]
            refine wpAnyH_take (i := 5) (oi := { dst := some 84, op := Go.Op.load 3 (Go.Operand.tmp 83), type := 3, pos := "mini.go:48", after := #[{ on := 4, ground := Go.Ground.data }], guard := none }) (v := .int .i64 cz) rfl (by kernel_rfl) (by kernel_rfl) (by kernel_rfl) (fun _ _ _ h => h) (Or.inl ⟨by rfl, ?_⟩) (by assumption) ?_
            · intro w hSw; (try dsimp only at hSw); go_simp
            try simp only [Act.put, List.setIfInBounds_toArray, List.set_cons_zero, List.set_cons_succ]
            refine wpAnyH_take (i := 6) (oi := { dst := some 85, op := Go.Op.move (Go.Operand.tmp 15), type := 3, pos := "mini.go:48", after := #[], guard := none }) (v := .int .i64 (tz : Int)) rfl (by kernel_rfl) (by kernel_rfl) (by kernel_rfl) (fun _ _ _ h => h) (Or.inl ⟨by rfl, ?_⟩) (by assumption) ?_
            · intro w hSw; (try dsimp only at hSw); go_simp
            try simp only [Act.put, List.setIfInBounds_toArray, List.set_cons_zero, List.set_cons_succ]
            refine wpAnyH_ready (rs := [1, 7]) (by kernel_rfl) (by simp) ?_
            refine AllReadyH.cons rfl (fun K' hK' => ?_) ?_
            ·
              go_simp
              refine hK'.out _ _ ?_ (fun hHeld => ?_)
              · (try dsimp only)
                exact HBZ.out _ HKd.out
              clear hK' K'
              try simp only [Act.put, List.setIfInBounds_toArray, List.set_cons_zero, List.set_cons_succ]
              refine wpAnyH_ready (rs := [7]) (by kernel_rfl) (by simp) ?_
              refine AllReadyH.cons rfl (fun K' hK' => ?_) AllReadyH.nil
              go_simp
              go_wp2_with (go_at_call 30; (with_reducible refine HPC.out.mono ?_); rintro e wc ⟨rfl, hof, hk⟩)
              obtain ⟨vs3, DD3, hof3, hdm3⟩ := hof
              have HOc := Lib.hid hof3
              have HDc := Lib.hid hdm3
              have HKc := Lib.hid (HKd.out.trans hk)
              have lc : wc.cell? ⟨O, 3, none⟩ = some (.slice pn' nl cn') := by have := HOc.out.om.df.cells.2.2.2.1; rw [HNLL.out] at this; exact this
              have lcO : O < wc.heap.size := HOc.out.om.df.lt
              have HOe := Lib.hid (HOc.out.below ((Below.refl _ _).alloc (Nat.le_refl _) (.cells #[.int .i64 (fi : Int)] 3)))
              have HKe : Hid (kpX X W7 (wc.alloc (.cells #[.int .i64 (fi : Int)] 3))) := Lib.hid (HKc.out.trans (kpX.of_below ((Below.refl _ _).alloc (Nat.le_refl _) _)))
              have HSZe : Hid (G ≤ (wc.alloc (.cells #[.int .i64 (fi : Int)] 3)).heap.size) := Lib.hid (by have := HKe.out.size; have := HGW.out; omega)
              have HOn : Hid (spO (wc.alloc (.cells #[.int .i64 (fi : Int)] 3)) G (.slice pn' nl cn') nx') := Lib.hid (by have := HOe.out.om.n; rw [HNLL.out] at this; exact this)
              clear hof3 hdm3 hk
              refine hK'.out _ _ ?_ (fun hHeld => ?_)
              · (try dsimp only)
                exact HBZ.out _ HKc.out
              clear hK' K'
              try simp only [Act.put, List.setIfInBounds_toArray, List.set_cons_zero, List.set_cons_succ]
              refine wpAnyH_ready (rs := [8]) (by kernel_rfl) (by simp) ?_
              refine AllReadyH.cons rfl (fun K' hK' => ?_) AllReadyH.nil
              go_simp
              refine hK'.out _ _ ?_ (fun hHeld => ?_)
              · (try dsimp only)
                exact HBZ.out _ HKe.out
              clear hK' K'
              try simp only [Act.put, List.setIfInBounds_toArray, List.set_cons_zero, List.set_cons_succ]
              refine wpAnyH_ready (rs := [9]) (by kernel_rfl) (by simp) ?_
              refine AllReadyH.cons rfl (fun K' hK' => ?_) AllReadyH.nil
              (refine step_append13 rfl (.tmp 80) (.tmp 87) rfl G (.slice pn' nl cn') nx' rfl HOn.out wc.heap.size fi rfl (by simp) HNL.out HSZe.out ?_; intro p' n' c' wn hn' hO hG hA)
              obtain ⟨pN, cN, hv'⟩ := spO_of hO
              obtain ⟨rfl, rfl, rfl⟩ := Value.slice.inj hv'
              have e1 : (nx' ++ [fi]).length = nl + 1 := by rw [List.length_append, HNLL.out]; rfl
              have hgr := HOe.out.om.growN hO (by rw [HNLL.out]; exact hG) (by rw [HNLL.out]; exact hA)
              have hk1 : kpX X W7 wn := HKe.out.trans (kpX.of_grown hG (own_far13 HOn.out HXN2.out))
              have hgs := grown_setCell wn O 3 (.slice p' (nx' ++ [fi]).length c')
              have HKn := Lib.hid hk1
              have HKs : Hid (kpX X W7 (wn.setCell ⟨O, 3, none⟩ (.slice p' (nx' ++ [fi]).length c'))) := Lib.hid (hk1.trans (kpX.of_grown hgs (one_far13 HXN2.out)))
              have HOFs : Hid (OfM (wn.setCell ⟨O, 3, none⟩ (.slice p' (nx' ++ [fi]).length c')) O G hmt mb p4 c4 (Wd : Int) vs3 (stA x st' tz) (nx' ++ [fi]) (fun j => x.T (st.getD j 0)) (a + 1) p' c' q' cap' DD3) := Lib.hid ⟨hgr.2, (HOe.out.me.kept hG (row_ne13 HOn.out HOe.out.lh)).kept hgs (by have := HOe.out.oh; simp; exact fun e => this e.symm), ownsI.kept (ownsI.kept HOe.out.mp hG (row_ne13 HOn.out HOe.out.lm)) hgs (by have := HOe.out.ob; simp; exact fun e => this e.symm), HOe.out.lh, HOe.out.lm, HOe.out.oh, HOe.out.ob, HOe.out.hb⟩
              have c37 := hgr.1.cells.2.2.2.1
              have f37 := hgr.1.free 3
              have hl7 := hgr.1.lt
              rw [HNLL.out] at c37
              rw [e1] at HKs HOFs
              rw [e1]
              clear hn' hO hG hA hgr hk1 hgs hv'
              refine hK'.out _ _ ?_ (fun hHeld => ?_)
              · (try dsimp only)
                exact HBZ.out _ HKn.out
              clear hK' K'
              try simp only [Act.put, List.setIfInBounds_toArray]
              refine wpAnyH_take (i := 10) (oi := { dst := some 89, op := Go.Op.fieldAddr 25 (Go.Operand.tmp 8) 3, type := 0, pos := "mini.go:48", after := #[{ on := 0, ground := Go.Ground.phase }, { on := 1, ground := Go.Ground.phase }, { on := 2, ground := Go.Ground.phase }, { on := 3, ground := Go.Ground.phase }, { on := 4, ground := Go.Ground.phase }, { on := 5, ground := Go.Ground.phase }, { on := 6, ground := Go.Ground.phase }, { on := 7, ground := Go.Ground.phase }, { on := 8, ground := Go.Ground.phase }, { on := 9, ground := Go.Ground.phase }], guard := none }) (v := .pointer (some ⟨O, 3, none⟩)) rfl (by kernel_rfl) (by kernel_rfl) (by kernel_rfl) (fun _ _ _ h => h) (Or.inl ⟨by rfl, ?_⟩) (by assumption) ?_
              · intro w hSw; (try dsimp only at hSw); go_simp
              try simp only [Act.put]
              refine wpAnyH_ready (rs := [11]) (by kernel_rfl) (by simp) ?_
              refine AllReadyH.cons rfl (fun K' hK' => ?_) AllReadyH.nil
              go_simp
              refine hK'.out _ _ ?_ (fun hHeld => ?_)
              · (try dsimp only)
                exact HBZ.out _ HKs.out
              clear hK' K'
              try simp only [Act.put]
              refine wpAnyH_done (by kernel_rfl) ?_ _
              go_wp2_with fail
              go_roundw
              case rel => exact ⟨kk + 1, stA x st' tz, nx' ++ [fi], p', c', vs3, DD3, by go_num, by omega, HKS2.out, HST2, HNX2, HPF2, HOFs, HDc, HKs⟩
              case measure => simp [intOf]; omega
            refine AllReadyH.cons rfl (fun K' hK' => ?_) AllReadyH.nil
            ·
              go_simp
              go_wp2_with (go_at_call 30; (with_reducible refine HPC.out.mono ?_); rintro e wc ⟨rfl, hof, hk⟩)
              obtain ⟨vs3, DD3, hof3, hdm3⟩ := hof
              have HOc := Lib.hid hof3
              have HDc := Lib.hid hdm3
              have HKc := Lib.hid (HKd.out.trans hk)
              have lc : wc.cell? ⟨O, 3, none⟩ = some (.slice pn' nl cn') := by have := HOc.out.om.df.cells.2.2.2.1; rw [HNLL.out] at this; exact this
              have lcO : O < wc.heap.size := HOc.out.om.df.lt
              have HOe := Lib.hid (HOc.out.below ((Below.refl _ _).alloc (Nat.le_refl _) (.cells #[.int .i64 (fi : Int)] 3)))
              have HKe : Hid (kpX X W7 (wc.alloc (.cells #[.int .i64 (fi : Int)] 3))) := Lib.hid (HKc.out.trans (kpX.of_below ((Below.refl _ _).alloc (Nat.le_refl _) _)))
              have HSZe : Hid (G ≤ (wc.alloc (.cells #[.int .i64 (fi : Int)] 3)).heap.size) := Lib.hid (by have := HKe.out.size; have := HGW.out; omega)
              have HOn : Hid (spO (wc.alloc (.cells #[.int .i64 (fi : Int)] 3)) G (.slice pn' nl cn') nx') := Lib.hid (by have := HOe.out.om.n; rw [HNLL.out] at this; exact this)
              clear hof3 hdm3 hk
              refine hK'.out _ _ ?_ (fun hHeld => ?_)
              · (try dsimp only)
                exact HBZ.out _ HKc.out
              clear hK' K'
              try simp only [Act.put, List.setIfInBounds_toArray, List.set_cons_zero, List.set_cons_succ]
              refine wpAnyH_ready (rs := [1, 8]) (by kernel_rfl) (by simp) ?_
              refine AllReadyH.cons rfl (fun K' hK' => ?_) ?_
              ·
                go_simp
                refine hK'.out _ _ ?_ (fun hHeld => ?_)
                · (try dsimp only)
                  exact HBZ.out _ HKc.out
                clear hK' K'
                try simp only [Act.put, List.setIfInBounds_toArray, List.set_cons_zero, List.set_cons_succ]
                refine wpAnyH_ready (rs := [8]) (by kernel_rfl) (by simp) ?_
                refine AllReadyH.cons rfl (fun K' hK' => ?_) AllReadyH.nil
                go_simp
                refine hK'.out _ _ ?_ (fun hHeld => ?_)
                · (try dsimp only)
                  exact HBZ.out _ HKe.out
                clear hK' K'
                try simp only [Act.put, List.setIfInBounds_toArray, List.set_cons_zero, List.set_cons_succ]
                refine wpAnyH_ready (rs := [9]) (by kernel_rfl) (by simp) ?_
                refine AllReadyH.cons rfl (fun K' hK' => ?_) AllReadyH.nil
                (refine step_append13 rfl (.tmp 80) (.tmp 87) rfl G (.slice pn' nl cn') nx' rfl HOn.out wc.heap.size fi rfl (by simp) HNL.out HSZe.out ?_; intro p' n' c' wn hn' hO hG hA)
                obtain ⟨pN, cN, hv'⟩ := spO_of hO
                obtain ⟨rfl, rfl, rfl⟩ := Value.slice.inj hv'
                have e1 : (nx' ++ [fi]).length = nl + 1 := by rw [List.length_append, HNLL.out]; rfl
                have hgr := HOe.out.om.growN hO (by rw [HNLL.out]; exact hG) (by rw [HNLL.out]; exact hA)
                have hk1 : kpX X W7 wn := HKe.out.trans (kpX.of_grown hG (own_far13 HOn.out HXN2.out))
                have hgs := grown_setCell wn O 3 (.slice p' (nx' ++ [fi]).length c')
                have HKn := Lib.hid hk1
                have HKs : Hid (kpX X W7 (wn.setCell ⟨O, 3, none⟩ (.slice p' (nx' ++ [fi]).length c'))) := Lib.hid (hk1.trans (kpX.of_grown hgs (one_far13 HXN2.out)))
                have HOFs : Hid (OfM (wn.setCell ⟨O, 3, none⟩ (.slice p' (nx' ++ [fi]).length c')) O G hmt mb p4 c4 (Wd : Int) vs3 (stA x st' tz) (nx' ++ [fi]) (fun j => x.T (st.getD j 0)) (a + 1) p' c' q' cap' DD3) := Lib.hid ⟨hgr.2, (HOe.out.me.kept hG (row_ne13 HOn.out HOe.out.lh)).kept hgs (by have := HOe.out.oh; simp; exact fun e => this e.symm), ownsI.kept (ownsI.kept HOe.out.mp hG (row_ne13 HOn.out HOe.out.lm)) hgs (by have := HOe.out.ob; simp; exact fun e => this e.symm), HOe.out.lh, HOe.out.lm, HOe.out.oh, HOe.out.ob, HOe.out.hb⟩
                have c37 := hgr.1.cells.2.2.2.1
                have f37 := hgr.1.free 3
                have hl7 := hgr.1.lt
                rw [HNLL.out] at c37
                rw [e1] at HKs HOFs
                rw [e1]
                clear hn' hO hG hA hgr hk1 hgs hv'
                refine hK'.out _ _ ?_ (fun hHeld => ?_)
                · (try dsimp only)
                  exact HBZ.out _ HKn.out
                clear hK' K'
                try simp only [Act.put, List.setIfInBounds_toArray]
                refine wpAnyH_take (i := 10) (oi := { dst := some 89, op := Go.Op.fieldAddr 25 (Go.Operand.tmp 8) 3, type := 0, pos := "mini.go:48", after := #[{ on := 0, ground := Go.Ground.phase }, { on := 1, ground := Go.Ground.phase }, { on := 2, ground := Go.Ground.phase }, { on := 3, ground := Go.Ground.phase }, { on := 4, ground := Go.Ground.phase }, { on := 5, ground := Go.Ground.phase }, { on := 6, ground := Go.Ground.phase }, { on := 7, ground := Go.Ground.phase }, { on := 8, ground := Go.Ground.phase }, { on := 9, ground := Go.Ground.phase }], guard := none }) (v := .pointer (some ⟨O, 3, none⟩)) rfl (by kernel_rfl) (by kernel_rfl) (by kernel_rfl) (fun _ _ _ h => h) (Or.inl ⟨by rfl, ?_⟩) (by assumption) ?_
                · intro w hSw; (try dsimp only at hSw); go_simp
                try simp only [Act.put]
                refine wpAnyH_ready (rs := [11]) (by kernel_rfl) (by simp) ?_
                refine AllReadyH.cons rfl (fun K' hK' => ?_) AllReadyH.nil
                go_simp
                refine hK'.out _ _ ?_ (fun hHeld => ?_)
                · (try dsimp only)
                  exact HBZ.out _ HKs.out
                clear hK' K'
                try simp only [Act.put]
                refine wpAnyH_done (by kernel_rfl) ?_ _
                go_wp2_with fail
                go_roundw
                case rel => exact ⟨kk + 1, stA x st' tz, nx' ++ [fi], p', c', vs3, DD3, by go_num, by omega, HKS2.out, HST2, HNX2, HPF2, HOFs, HDc, HKs⟩
                case measure => simp [intOf]; omega
              refine AllReadyH.cons rfl (fun K' hK' => ?_) AllReadyH.nil
              ·
                go_simp
                refine hK'.out _ _ ?_ (fun hHeld => ?_)
                · (try dsimp only)
                  exact HBZ.out _ HKe.out
                clear hK' K'
                try simp only [Act.put, List.setIfInBounds_toArray, List.set_cons_zero, List.set_cons_succ]
                refine wpAnyH_ready (rs := [1]) (by kernel_rfl) (by simp) ?_
                refine AllReadyH.cons rfl (fun K' hK' => ?_) AllReadyH.nil
                go_simp
                refine hK'.out _ _ ?_ (fun hHeld => ?_)
                · (try dsimp only)
                  exact HBZ.out _ HKe.out
                clear hK' K'
                try simp only [Act.put, List.setIfInBounds_toArray, List.set_cons_zero, List.set_cons_succ]
                refine wpAnyH_ready (rs := [9]) (by kernel_rfl) (by simp) ?_
                refine AllReadyH.cons rfl (fun K' hK' => ?_) AllReadyH.nil
                (refine step_append13 rfl (.tmp 80) (.tmp 87) rfl G (.slice pn' nl cn') nx' rfl HOn.out wc.heap.size fi rfl (by simp) HNL.out HSZe.out ?_; intro p' n' c' wn hn' hO hG hA)
                obtain ⟨pN, cN, hv'⟩ := spO_of hO
                obtain ⟨rfl, rfl, rfl⟩ := Value.slice.inj hv'
                have e1 : (nx' ++ [fi]).length = nl + 1 := by rw [List.length_append, HNLL.out]; rfl
                have hgr := HOe.out.om.growN hO (by rw [HNLL.out]; exact hG) (by rw [HNLL.out]; exact hA)
                have hk1 : kpX X W7 wn := HKe.out.trans (kpX.of_grown hG (own_far13 HOn.out HXN2.out))
                have hgs := grown_setCell wn O 3 (.slice p' (nx' ++ [fi]).length c')
                have HKn := Lib.hid hk1
                have HKs : Hid (kpX X W7 (wn.setCell ⟨O, 3, none⟩ (.slice p' (nx' ++ [fi]).length c'))) := Lib.hid (hk1.trans (kpX.of_grown hgs (one_far13 HXN2.out)))
                have HOFs : Hid (OfM (wn.setCell ⟨O, 3, none⟩ (.slice p' (nx' ++ [fi]).length c')) O G hmt mb p4 c4 (Wd : Int) vs3 (stA x st' tz) (nx' ++ [fi]) (fun j => x.T (st.getD j 0)) (a + 1) p' c' q' cap' DD3) := Lib.hid ⟨hgr.2, (HOe.out.me.kept hG (row_ne13 HOn.out HOe.out.lh)).kept hgs (by have := HOe.out.oh; simp; exact fun e => this e.symm), ownsI.kept (ownsI.kept HOe.out.mp hG (row_ne13 HOn.out HOe.out.lm)) hgs (by have := HOe.out.ob; simp; exact fun e => this e.symm), HOe.out.lh, HOe.out.lm, HOe.out.oh, HOe.out.ob, HOe.out.hb⟩
                have c37 := hgr.1.cells.2.2.2.1
                have f37 := hgr.1.free 3
                have hl7 := hgr.1.lt
                rw [HNLL.out] at c37
                rw [e1] at HKs HOFs
                rw [e1]
                clear hn' hO hG hA hgr hk1 hgs hv'
                refine hK'.out _ _ ?_ (fun hHeld => ?_)
                · (try dsimp only)
                  exact HBZ.out _ HKn.out
                clear hK' K'
                try simp only [Act.put, List.setIfInBounds_toArray]
                refine wpAnyH_take (i := 10) (oi := { dst := some 89, op := Go.Op.fieldAddr 25 (Go.Operand.tmp 8) 3, type := 0, pos := "mini.go:48", after := #[{ on := 0, ground := Go.Ground.phase }, { on := 1, ground := Go.Ground.phase }, { on := 2, ground := Go.Ground.phase }, { on := 3, ground := Go.Ground.phase }, { on := 4, ground := Go.Ground.phase }, { on := 5, ground := Go.Ground.phase }, { on := 6, ground := Go.Ground.phase }, { on := 7, ground := Go.Ground.phase }, { on := 8, ground := Go.Ground.phase }, { on := 9, ground := Go.Ground.phase }], guard := none }) (v := .pointer (some ⟨O, 3, none⟩)) rfl (by kernel_rfl) (by kernel_rfl) (by kernel_rfl) (fun _ _ _ h => h) (Or.inl ⟨by rfl, ?_⟩) (by assumption) ?_
                · intro w hSw; (try dsimp only at hSw); go_simp
                try simp only [Act.put]
                refine wpAnyH_ready (rs := [11]) (by kernel_rfl) (by simp) ?_
                refine AllReadyH.cons rfl (fun K' hK' => ?_) AllReadyH.nil
                go_simp
                refine hK'.out _ _ ?_ (fun hHeld => ?_)
                · (try dsimp only)
                  exact HBZ.out _ HKs.out
                clear hK' K'
                try simp only [Act.put]
                refine wpAnyH_done (by kernel_rfl) ?_ _
                go_wp2_with fail
                go_roundw
                case rel => exact ⟨kk + 1, stA x st' tz, nx' ++ [fi], p', c', vs3, DD3, by go_num, by omega, HKS2.out, HST2, HNX2, HPF2, HOFs, HDc, HKs⟩
                case measure => simp [intOf]; omega
          · have hkw : kk = Wd := by omega
            have HSTo : Hid (stI x st' (atG (goL L) Wd L (a + 1)).1) := Lib.hid (by
              rw [atG_go (show (atG (goL L) Wd L a).1[a]? = some XL by rw [HSS.out]; exact HX0.out), HSS.out, ← hkw]
              exact HST.out)
            have HNXo : Hid (nx' = (atG (goL L) Wd L (a + 1)).2 ∧ nx'.length ≤ 259 * (a + 1)) := Lib.hid ⟨by
              rw [atG_go (show (atG (goL L) Wd L a).1[a]? = some XL by rw [HSS.out]; exact HX0.out), HSS.out, ← hkw]
              exact HNX.out.1, by have := HNX.out.2; omega⟩
            have HOFo : Hid (OfM wr O G hmt mb p4 c4 (Wd : Int) vs st' nx' (fun j => x.T (st'.getD j 0)) (a + 1) pn' cn' q' cap' DD) := Lib.hid ⟨HOF.out.om.congr (T' := fun j => x.T (st'.getD j 0)) fun j hj => by
              show x.T (st.getD j 0) = x.T (st'.getD j 0)
              rw [List.getD_eq_getElem?_getD, List.getD_eq_getElem?_getD, HPF.out j (by omega)], HOF.out.me, HOF.out.mp, HOF.out.lh, HOF.out.lm, HOF.out.oh, HOF.out.ob, HOF.out.hb⟩
            have han : a < n := by have := HKN.out; omega
            have dkk : decide ((kk : Int) < (Wd : Int)) = false := decide_eq_false (by omega)
            clear HST HNX HOF hkw
            go_wp2_with fail
            go_roundw
            case rel => exact ⟨a + 1, st', nx', pn', cn', q', cap', vs, DD, by go_num, by omega, HSTo, HNXo, HOFo, HDM, HKX⟩
            case measure => simp [intOf]; omega
    · have hak : a = k := by omega
      subst hak
      have HE := Lib.hid (ofE13 HNx.out HLL.out HWD.out HST.out HNX.out.1 HK9.out hkn)
      obtain ⟨e0, e1, e2, e3, e4⟩ := HOF.out.om.df.cells
      have hOl := HOF.out.om.df.lt
      have HDz := Lib.hid (HRS.out _ (HDX.out _ HKX.out))
      have g0 := HDz.out.free 0; have g1 := HDz.out.free 1; have g2 := HDz.out.free 2; have g3 := HDz.out.free 3; have g4 := HDz.out.free 4
      obtain ⟨k0, k1, k2, k3, k4⟩ := HDz.out.cells
      have hl1 := HDz.out.lt
      have Z := Lib.hid (HDz.out.stored p4 259 c4 (Wd : Int) 0 pn nx.length cn pa a ca).cells
      have hr0 := HCR.out _ (HXB.out _ HKX.out)
      have hr1 := spO.rd11 HOF.out.om.n
      obtain ⟨hr2, hr2b⟩ := bls_rd HOF.out.om.ac
      have hDG : D + 1 < G := by have := HOF.out.om.le; have := HDO.out; omega
      have hne0 := HDz.out.no_row hr0 (by decide)
      have hne1 : ∀ b o, pn = some ⟨b, o, none⟩ → b ≠ D + 1 := fun b o e => by
        have := (World.ownsRow.lt HOF.out.om.n b (by rw [e]; rfl)).1
        omega
      have hne2 : ∀ b o, pa = some ⟨b, o, none⟩ → b ≠ D + 1 := fun b o e => by have := hr2b b o e; omega
      have HE2 : Hid (daAt (((((wr.setCell ⟨D + 1, 0, none⟩ (.slice p4 259 c4)).setCell ⟨D + 1, 1, none⟩ (.int .i64 (Wd : Int))).setCell ⟨D + 1, 2, none⟩ (.int .i64 0)).setCell ⟨D + 1, 3, none⟩ (.slice pn nx.length cn)).setCell ⟨D + 1, 4, none⟩ (.slice pa a ca)) (dfV p4 259 c4 (Wd : Int) 0 pn nx.length cn pa a ca) ⟨259, fun y => ((clA (syB L) y : Nat) : Int), (Wd : Int), 0, nx.length, fun j => ((nx.getD j 0 : Nat) : Int), a, fun j => x.T (st.getD j 0)⟩) := Lib.hid
        ⟨p4, c4, pn, cn, pa, ca, rfl, ((((hr0.set11 hne0 _ _).set11 hne0 _ _).set11 hne0 _ _).set11 hne0 _ _).set11 hne0 _ _, ((((hr1.set11 hne1 _ _).set11 hne1 _ _).set11 hne1 _ _).set11 hne1 _ _).set11 hne1 _ _, ((((hr2.set11 hne2 _ _).set11 hne2 _ _).set11 hne2 _ _).set11 hne2 _ _).set11 hne2 _ _⟩
      have hBfin : Below D w wr := HB01.out.trans ((HDX.out _ HKX.out).mono (by omega))
      have HBF : Hid (Below w.heap.size w (((((wr.setCell ⟨D + 1, 0, none⟩ (.slice p4 259 c4)).setCell ⟨D + 1, 1, none⟩ (.int .i64 (Wd : Int))).setCell ⟨D + 1, 2, none⟩ (.int .i64 0)).setCell ⟨D + 1, 3, none⟩ (.slice pn nx.length cn)).setCell ⟨D + 1, 4, none⟩ (.slice pa a ca))) := Lib.hid (by
        rw [HG.out]
        exact ((((hBfin.setCell (p := ⟨D + 1, 0, none⟩) (Nat.le_succ D) _).setCell (p := ⟨D + 1, 1, none⟩) (Nat.le_succ D) _).setCell (p := ⟨D + 1, 2, none⟩) (Nat.le_succ D) _).setCell (p := ⟨D + 1, 3, none⟩) (Nat.le_succ D) _).setCell (p := ⟨D + 1, 4, none⟩) (Nat.le_succ D) _)
      have HDF := Lib.hid (HE2.out.same HE.out)
      have a9 : ¬ (a : Int) < (a : Int) := by omega
      have n9 : (a : Int) ≤ 1000 := by omega
      clear hr0 hr1 hr2 hr2b hne0 hne1 hne2 hBfin HOF HST HNX HDM HDz hlt hkl hk hal hkn HE HE2
      go_wp2_with fail
      refine bodyPost_ret (v := .tuple #[dfV p4 259 c4 (Wd : Int) 0 pn nx.length cn pa a ca, .int .i64 0]) (by simp [results, Try.results15, go_sem, Z.out]) rfl ?_
      exact ⟨_, rfl, HDF.out, HBF.out⟩
end Go.Proofs.Ytefpoapbodbenaa
