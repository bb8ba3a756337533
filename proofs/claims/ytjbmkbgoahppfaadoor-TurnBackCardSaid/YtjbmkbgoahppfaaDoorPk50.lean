/-
  The walk of facts' told: two arguments.
  The parts that are nobody's argument yet (a stack, as the code has it). Plain facts; a row cut short.
  What facts' told and states tell at a node of a tree, where what its arguments told lies in memory.
-/
import Derived.Test.YtjbmkbgoahppfaaDoorPk47
import Derived.Deep.RegionHeldLaw
import Derived.Test.YtjbmkbgoahppfaaDoorPk3
import Derived.Test.YtjbmkbgoahppfaaDoorPk48
import Derived.Test.YtjbmkbgoahppfaaDoorPk49
namespace Go.Proofs.YtjbmkbgoahppfaaDoor
open Go.RowKit

set_option maxRecDepth 100000 in
set_option maxHeartbeats 4000000 in
theorem told_5f (xa xb xc xd lo hi : Int) (an : Bool) (als ams a0 a1 a2 a3 : Int)  (bn : Bool) (bls bms b0 b1 b2 b3 : Int) (eb : Bool) (rn : Bool) (rls rms r0 r1 r2 r3 : Int) (er : Bool) (b o cap : Nat) (w : World) (hb : b < w.heap.size)
    (h0 : w.cell? ⟨b, o, none⟩ = some (.bool an) ∧ w.cell? ⟨b, o + 1, none⟩ = some (.int .i64 als) ∧ w.cell? ⟨b, o + 2, none⟩ = some (.int .i64 ams) ∧ w.cell? ⟨b, o + 3, none⟩ = some (.int .u64 a0) ∧ w.cell? ⟨b, o + 4, none⟩ = some (.int .u64 a1) ∧ w.cell? ⟨b, o + 5, none⟩ = some (.int .u64 a2) ∧ w.cell? ⟨b, o + 6, none⟩ = some (.int .u64 a3) ∧ w.cell? ⟨b, o + 7, none⟩ = some (.bool false))
    (h1 : w.cell? ⟨b, o + 8, none⟩ = some (.bool bn) ∧ w.cell? ⟨b, o + 9, none⟩ = some (.int .i64 bls) ∧ w.cell? ⟨b, o + 10, none⟩ = some (.int .i64 bms) ∧ w.cell? ⟨b, o + 11, none⟩ = some (.int .u64 b0) ∧ w.cell? ⟨b, o + 12, none⟩ = some (.int .u64 b1) ∧ w.cell? ⟨b, o + 13, none⟩ = some (.int .u64 b2) ∧ w.cell? ⟨b, o + 14, none⟩ = some (.int .u64 b3) ∧ w.cell? ⟨b, o + 15, none⟩ = some (.bool eb))
    (HC : ∀ w', Below w.heap.size w w' → Calls Tryd.prog 39 #[.agg #[.int .i64 5, .int .u64 xa, .int .u64 xb, .int .u64 xc, .int .u64 xd, .int .i64 lo, .int .i64 hi], .slice (some ⟨b, o, none⟩) 2 cap] w' fun e w'' => e = .returned (fxr rn rls rms r0 r1 r2 r3 er) ∧ Below w'.heap.size w' w'') :
    Calls Tryd.prog 24 #[.agg #[.int .i64 5, .int .u64 xa, .int .u64 xb, .int .u64 xc, .int .u64 xd, .int .i64 lo, .int .i64 hi], .slice (some ⟨b, o, none⟩) 2 cap] w fun e w' => e = .returned (fxr rn rls rms r0 r1 r2 r3 eb) ∧ Below w.heap.size w w' := by
  obtain ⟨W, hW⟩ : ∃ W, (w.alloc (.cells #[.int .i64 5, .int .u64 xa, .int .u64 xb, .int .u64 xc, .int .u64 xd, .int .i64 lo, .int .i64 hi] 45)).alloc (.cells #[.bool false, .int .i64 0, .int .i64 0, .int .u64 0, .int .u64 0, .int .u64 0, .int .u64 0, .bool false] 40) = W := ⟨_, rfl⟩
  have hBW : Below w.heap.size w W := hW ▸ ((Below.refl _ _).alloc (Nat.le_refl _) _).alloc (by simp) _
  have hz : W.heap.size = w.heap.size + 2 := by rw [← hW]; simp
  have n0 : W.cell? ⟨w.heap.size, 0, none⟩ = some (.int .i64 5) := by rw [← hW]; simp
  have n1 : W.cell? ⟨w.heap.size, 1, none⟩ = some (.int .u64 xa) := by rw [← hW]; simp
  have n2 : W.cell? ⟨w.heap.size, 2, none⟩ = some (.int .u64 xb) := by rw [← hW]; simp
  have n3 : W.cell? ⟨w.heap.size, 3, none⟩ = some (.int .u64 xc) := by rw [← hW]; simp
  have n4 : W.cell? ⟨w.heap.size, 4, none⟩ = some (.int .u64 xd) := by rw [← hW]; simp
  have n5 : W.cell? ⟨w.heap.size, 5, none⟩ = some (.int .i64 lo) := by rw [← hW]; simp
  have n6 : W.cell? ⟨w.heap.size, 6, none⟩ = some (.int .i64 hi) := by rw [← hW]; simp
  have EC : isFx W (w.heap.size + 1) false 0 0 0 0 0 0 false := hW ▸ (show isFx _ _ _ _ _ _ _ _ _ _ from by
    have := isFx.new (w.alloc (.cells #[.int .i64 5, .int .u64 xa, .int .u64 xb, .int .u64 xc, .int .u64 xd, .int .i64 lo, .int .i64 hi] 45)) false 0 0 0 0 0 0 false
    rw [World.size_alloc] at this
    exact this)
  have HCh := Lib.hid (HC W hBW)
  have HBW := Lib.hid hBW
  have HEC := Lib.hid EC
  have HN := Lib.hid n0
  have H0 : Hid (∀ w', Below w.heap.size w w' → w'.cell? ⟨b, o, none⟩ = some (.bool an) ∧ w'.cell? ⟨b, o + 1, none⟩ = some (.int .i64 als) ∧ w'.cell? ⟨b, o + 2, none⟩ = some (.int .i64 ams) ∧ w'.cell? ⟨b, o + 3, none⟩ = some (.int .u64 a0) ∧ w'.cell? ⟨b, o + 4, none⟩ = some (.int .u64 a1) ∧ w'.cell? ⟨b, o + 5, none⟩ = some (.int .u64 a2) ∧ w'.cell? ⟨b, o + 6, none⟩ = some (.int .u64 a3) ∧ w'.cell? ⟨b, o + 7, none⟩ = some (.bool false)) := Lib.hid fun w' hB => by
    obtain ⟨u0, u1, u2, u3, u4, u5, u6, u7⟩ := h0
    exact ⟨cell_far7 hB hb u0, cell_far7 hB hb u1, cell_far7 hB hb u2, cell_far7 hB hb u3, cell_far7 hB hb u4, cell_far7 hB hb u5, cell_far7 hB hb u6, cell_far7 hB hb u7⟩
  have H1 : Hid (∀ w', Below w.heap.size w w' → w'.cell? ⟨b, o + 8, none⟩ = some (.bool bn) ∧ w'.cell? ⟨b, o + 9, none⟩ = some (.int .i64 bls) ∧ w'.cell? ⟨b, o + 10, none⟩ = some (.int .i64 bms) ∧ w'.cell? ⟨b, o + 11, none⟩ = some (.int .u64 b0) ∧ w'.cell? ⟨b, o + 12, none⟩ = some (.int .u64 b1) ∧ w'.cell? ⟨b, o + 13, none⟩ = some (.int .u64 b2) ∧ w'.cell? ⟨b, o + 14, none⟩ = some (.int .u64 b3) ∧ w'.cell? ⟨b, o + 15, none⟩ = some (.bool eb)) := Lib.hid fun w' hB => by
    obtain ⟨u0, u1, u2, u3, u4, u5, u6, u7⟩ := h1
    exact ⟨cell_far7 hB hb u0, cell_far7 hB hb u1, cell_far7 hB hb u2, cell_far7 hB hb u3, cell_far7 hB hb u4, cell_far7 hB hb u5, cell_far7 hB hb u6, cell_far7 hB hb u7⟩
  obtain ⟨C, hC⟩ : ∃ C, w.heap.size + 1 = C := ⟨_, rfl⟩
  rw [hC] at HEC
  obtain ⟨NN, hNN⟩ : ∃ NN, w.heap.size = NN := ⟨_, rfl⟩
  have HZ : Hid (W.heap.size = C + 1 ∧ w.heap.size ≤ C ∧ w.heap.size = NN ∧ NN < C) := Lib.hid ⟨by omega, by omega, hNN, by omega⟩
  rw [hNN] at HN n0 n1 n2 n3 n4 n5 n6 hC
  clear EC hBW hz HC h0 h1 hb
  go_enter Tryd.func24, Tryd.ntmps24
  go_wp2_with fail
  refine HCh.out.mono ?_
  rintro e wk ⟨rfl, hb⟩
  have E1 := (HEC.out.below hb (by have := HZ.out; omega)).alloc (.cells #[.bool rn, .int .i64 rls, .int .i64 rms, .int .u64 r0, .int .u64 r1, .int .u64 r2, .int .u64 r3, .bool er] 40)
  have D1 := isFx.new wk rn rls rms r0 r1 r2 r3 er
  have N1 : (wk.alloc (.cells #[.bool rn, .int .i64 rls, .int .i64 rms, .int .u64 r0, .int .u64 r1, .int .u64 r2, .int .u64 r3, .bool er] 40)).cell? ⟨NN, 0, none⟩ = some (.int .i64 5) := cell_far7 ((Below.refl wk.heap.size wk).alloc (Nat.le_refl _) _) (by have := hb.size; have := HZ.out; omega) (cell_far7 hb (by have := HZ.out; omega) HN.out)
  have hB := (HBW.out.trans (hb.mono HBW.out.size)).alloc (Nat.le_trans HBW.out.size hb.size) (.cells #[.bool rn, .int .i64 rls, .int .i64 rms, .int .u64 r0, .int .u64 r1, .int .u64 r2, .int .u64 r3, .bool er] 40)
  have hDC : C < wk.heap.size := by have := hb.size; have := HZ.out; omega
  clear hb hW HEC HBW n0 n1 n2 n3 n4 n5 n6 hC hNN HCh HN
  go_upto_region 2 with (fail)
  generalize wk.alloc (.cells #[.bool rn, .int .i64 rls, .int .i64 rms, .int .u64 r0, .int .u64 r1, .int .u64 r2, .int .u64 r3, .bool er] 40) = W2 at *
  generalize wk.heap.size = D at *
  have hDw : w.heap.size ≤ D := by have := HZ.out; omega
  have hCw : w.heap.size ≤ C := HZ.out.2.1
  have hCD : ¬ (C = D) := by omega
  have hDC' : D < W2.heap.size := D1.lt
  clear HZ
  have HE2 := Lib.hid (E1.set hCD 7 (.bool false))
  have HD2 := Lib.hid (D1.put7 false)
  have HB2 := Lib.hid (hB.setCell (p := ⟨D, 7, none⟩) hDw (.bool false))
  obtain ⟨g0, g1, g2, g3, g4, g5, g6, g7⟩ := D1.cells
  obtain ⟨f0, f1, f2, f3, f4, f5, f6, f7⟩ := D1.free
  clear E1 D1 hB
  go_upto_region 3 with (fail)
  generalize W2.setCell ⟨D, 7, none⟩ (.bool false) = W3 at *
  clear g0 g1 g2 g3 g4 g5 g6 g7 f0 f1 f2 f3 f4 f5 f6 f7 N1 hDC'
  go_wp2_with fail
  refine wp_loop_rounds 3 ?_
  obtain ⟨kk0, kk1, kk2, kk3, kk4, kk5, kk6, kk7⟩ := H0.out _ HB2.out
  have hA0 := isFx.new W3 an als ams a0 a1 a2 a3 false
  have e10 := HE2.out.alloc (.cells #[.bool an, .int .i64 als, .int .i64 ams, .int .u64 a0, .int .u64 a1, .int .u64 a2, .int .u64 a3, .bool false] 40)
  have d10 := HD2.out.alloc (.cells #[.bool an, .int .i64 als, .int .i64 ams, .int .u64 a0, .int .u64 a1, .int .u64 a2, .int .u64 a3, .bool false] 40)
  have b10 := HB2.out.alloc HB2.out.size (.cells #[.bool an, .int .i64 als, .int .i64 ams, .int .u64 a0, .int .u64 a1, .int .u64 a2, .int .u64 a3, .bool false] 40)
  have s0 : ¬ (D = W3.heap.size) := by have := HD2.out.lt; omega
  have HE30 := Lib.hid (e10.set hCD 7 (.bool false))
  have HD30 := Lib.hid (d10.put7 false)
  have HB30 := Lib.hid (b10.setCell (p := ⟨D, 7, none⟩) hDw (.bool false))
  obtain ⟨g0, g1, g2, g3, g4, g5, g6, g7⟩ := d10.cells
  obtain ⟨f0, f1, f2, f3, f4, f5, f6, f7⟩ := d10.free
  obtain ⟨-, -, -, -, -, -, -, y7⟩ := hA0.cells
  clear hA0 e10 d10 b10
  rw [rounds_succ]
  go_wp2_with fail
  generalize (W3.alloc (.cells #[.bool an, .int .i64 als, .int .i64 ams, .int .u64 a0, .int .u64 a1, .int .u64 a2, .int .u64 a3, .bool false] 40)).setCell ⟨D, 7, none⟩ (.bool false) = W4 at *
  clear kk0 kk1 kk2 kk3 kk4 kk5 kk6 kk7 g0 g1 g2 g3 g4 g5 g6 g7 f0 f1 f2 f3 f4 f5 f6 f7 y7 s0 HE2 HD2 HB2
  obtain ⟨kk0, kk1, kk2, kk3, kk4, kk5, kk6, kk7⟩ := H1.out _ HB30.out
  have hA1 := isFx.new W4 bn bls bms b0 b1 b2 b3 eb
  have e11 := HE30.out.alloc (.cells #[.bool bn, .int .i64 bls, .int .i64 bms, .int .u64 b0, .int .u64 b1, .int .u64 b2, .int .u64 b3, .bool eb] 40)
  have d11 := HD30.out.alloc (.cells #[.bool bn, .int .i64 bls, .int .i64 bms, .int .u64 b0, .int .u64 b1, .int .u64 b2, .int .u64 b3, .bool eb] 40)
  have b11 := HB30.out.alloc HB30.out.size (.cells #[.bool bn, .int .i64 bls, .int .i64 bms, .int .u64 b0, .int .u64 b1, .int .u64 b2, .int .u64 b3, .bool eb] 40)
  have s1 : ¬ (D = W4.heap.size) := by have := HD30.out.lt; omega
  have HE31 := Lib.hid (e11.set hCD 7 (.bool eb))
  have HD31 := Lib.hid (d11.put7 eb)
  have HB31 := Lib.hid (b11.setCell (p := ⟨D, 7, none⟩) hDw (.bool eb))
  obtain ⟨g0, g1, g2, g3, g4, g5, g6, g7⟩ := d11.cells
  obtain ⟨f0, f1, f2, f3, f4, f5, f6, f7⟩ := d11.free
  obtain ⟨-, -, -, -, -, -, -, y7⟩ := hA1.cells
  clear hA1 e11 d11 b11
  rw [rounds_succ]
  go_wp2_with fail
  generalize (W4.alloc (.cells #[.bool bn, .int .i64 bls, .int .i64 bms, .int .u64 b0, .int .u64 b1, .int .u64 b2, .int .u64 b3, .bool eb] 40)).setCell ⟨D, 7, none⟩ (.bool eb) = W5 at *
  clear kk0 kk1 kk2 kk3 kk4 kk5 kk6 kk7 g0 g1 g2 g3 g4 g5 g6 g7 f0 f1 f2 f3 f4 f5 f6 f7 y7 s1 HE30 HD30 HB30
  obtain ⟨g0, g1, g2, g3, g4, g5, g6, g7⟩ := HD31.out.cells
  obtain ⟨c0, c1, c2, c3, c4, c5, c6, c7⟩ := HE31.out.cells
  obtain ⟨f0, f1, f2, f3, f4, f5, f6, f7⟩ := HE31.out.free
  have HS := Lib.hid (below_st8 HB31.out hCw rn rls rms r0 r1 r2 r3 eb)
  have Z := HE31.out.stored rn rls rms r0 r1 r2 r3 eb
  unfold set87 at Z
  have Z := Lib.hid Z.cells
  clear HE31 HD31 HB31 hCw hDw hDC hCD
  rw [rounds_succ]
  go_wp2_with fail
  refine bodyPost_ret (v := fxr rn rls rms r0 r1 r2 r3 eb) ?h rfl ⟨rfl, HS.out⟩
  case h =>
    have Z0 := Z.out
    generalize ((((((((W5.setCell ⟨C, 0, none⟩ (.bool rn)).setCell ⟨C, 1, none⟩ (.int .i64 rls)).setCell ⟨C, 2, none⟩ (.int .i64 rms)).setCell ⟨C, 3, none⟩ (.int .u64 r0)).setCell ⟨C, 4, none⟩ (.int .u64 r1)).setCell ⟨C, 5, none⟩ (.int .u64 r2)).setCell ⟨C, 6, none⟩ (.int .u64 r3)).setCell ⟨C, 7, none⟩ (.bool eb)) = W9 at Z0 ⊢
    obtain ⟨z0, z1, z2, z3, z4, z5, z6, z7⟩ := Z0
    simp [results, Tryd.results24, go_sem, z0, z1, z2, z3, z4, z5, z6, z7]
set_option maxRecDepth 100000 in
set_option maxHeartbeats 4000000 in
theorem told_5t (xa xb xc xd lo hi : Int) (an : Bool) (als ams a0 a1 a2 a3 : Int)  (bn : Bool) (bls bms b0 b1 b2 b3 : Int) (eb : Bool) (rn : Bool) (rls rms r0 r1 r2 r3 : Int) (er : Bool) (b o cap : Nat) (w : World) (hb : b < w.heap.size)
    (h0 : w.cell? ⟨b, o, none⟩ = some (.bool an) ∧ w.cell? ⟨b, o + 1, none⟩ = some (.int .i64 als) ∧ w.cell? ⟨b, o + 2, none⟩ = some (.int .i64 ams) ∧ w.cell? ⟨b, o + 3, none⟩ = some (.int .u64 a0) ∧ w.cell? ⟨b, o + 4, none⟩ = some (.int .u64 a1) ∧ w.cell? ⟨b, o + 5, none⟩ = some (.int .u64 a2) ∧ w.cell? ⟨b, o + 6, none⟩ = some (.int .u64 a3) ∧ w.cell? ⟨b, o + 7, none⟩ = some (.bool true))
    (h1 : w.cell? ⟨b, o + 8, none⟩ = some (.bool bn) ∧ w.cell? ⟨b, o + 9, none⟩ = some (.int .i64 bls) ∧ w.cell? ⟨b, o + 10, none⟩ = some (.int .i64 bms) ∧ w.cell? ⟨b, o + 11, none⟩ = some (.int .u64 b0) ∧ w.cell? ⟨b, o + 12, none⟩ = some (.int .u64 b1) ∧ w.cell? ⟨b, o + 13, none⟩ = some (.int .u64 b2) ∧ w.cell? ⟨b, o + 14, none⟩ = some (.int .u64 b3) ∧ w.cell? ⟨b, o + 15, none⟩ = some (.bool eb))
    (HC : ∀ w', Below w.heap.size w w' → Calls Tryd.prog 39 #[.agg #[.int .i64 5, .int .u64 xa, .int .u64 xb, .int .u64 xc, .int .u64 xd, .int .i64 lo, .int .i64 hi], .slice (some ⟨b, o, none⟩) 2 cap] w' fun e w'' => e = .returned (fxr rn rls rms r0 r1 r2 r3 er) ∧ Below w'.heap.size w' w'') :
    Calls Tryd.prog 24 #[.agg #[.int .i64 5, .int .u64 xa, .int .u64 xb, .int .u64 xc, .int .u64 xd, .int .i64 lo, .int .i64 hi], .slice (some ⟨b, o, none⟩) 2 cap] w fun e w' => e = .returned (fxr rn rls rms r0 r1 r2 r3 true) ∧ Below w.heap.size w w' := by
  obtain ⟨W, hW⟩ : ∃ W, (w.alloc (.cells #[.int .i64 5, .int .u64 xa, .int .u64 xb, .int .u64 xc, .int .u64 xd, .int .i64 lo, .int .i64 hi] 45)).alloc (.cells #[.bool false, .int .i64 0, .int .i64 0, .int .u64 0, .int .u64 0, .int .u64 0, .int .u64 0, .bool false] 40) = W := ⟨_, rfl⟩
  have hBW : Below w.heap.size w W := hW ▸ ((Below.refl _ _).alloc (Nat.le_refl _) _).alloc (by simp) _
  have hz : W.heap.size = w.heap.size + 2 := by rw [← hW]; simp
  have n0 : W.cell? ⟨w.heap.size, 0, none⟩ = some (.int .i64 5) := by rw [← hW]; simp
  have n1 : W.cell? ⟨w.heap.size, 1, none⟩ = some (.int .u64 xa) := by rw [← hW]; simp
  have n2 : W.cell? ⟨w.heap.size, 2, none⟩ = some (.int .u64 xb) := by rw [← hW]; simp
  have n3 : W.cell? ⟨w.heap.size, 3, none⟩ = some (.int .u64 xc) := by rw [← hW]; simp
  have n4 : W.cell? ⟨w.heap.size, 4, none⟩ = some (.int .u64 xd) := by rw [← hW]; simp
  have n5 : W.cell? ⟨w.heap.size, 5, none⟩ = some (.int .i64 lo) := by rw [← hW]; simp
  have n6 : W.cell? ⟨w.heap.size, 6, none⟩ = some (.int .i64 hi) := by rw [← hW]; simp
  have EC : isFx W (w.heap.size + 1) false 0 0 0 0 0 0 false := hW ▸ (show isFx _ _ _ _ _ _ _ _ _ _ from by
    have := isFx.new (w.alloc (.cells #[.int .i64 5, .int .u64 xa, .int .u64 xb, .int .u64 xc, .int .u64 xd, .int .i64 lo, .int .i64 hi] 45)) false 0 0 0 0 0 0 false
    rw [World.size_alloc] at this
    exact this)
  have HCh := Lib.hid (HC W hBW)
  have HBW := Lib.hid hBW
  have HEC := Lib.hid EC
  have HN := Lib.hid n0
  have H0 : Hid (∀ w', Below w.heap.size w w' → w'.cell? ⟨b, o, none⟩ = some (.bool an) ∧ w'.cell? ⟨b, o + 1, none⟩ = some (.int .i64 als) ∧ w'.cell? ⟨b, o + 2, none⟩ = some (.int .i64 ams) ∧ w'.cell? ⟨b, o + 3, none⟩ = some (.int .u64 a0) ∧ w'.cell? ⟨b, o + 4, none⟩ = some (.int .u64 a1) ∧ w'.cell? ⟨b, o + 5, none⟩ = some (.int .u64 a2) ∧ w'.cell? ⟨b, o + 6, none⟩ = some (.int .u64 a3) ∧ w'.cell? ⟨b, o + 7, none⟩ = some (.bool true)) := Lib.hid fun w' hB => by
    obtain ⟨u0, u1, u2, u3, u4, u5, u6, u7⟩ := h0
    exact ⟨cell_far7 hB hb u0, cell_far7 hB hb u1, cell_far7 hB hb u2, cell_far7 hB hb u3, cell_far7 hB hb u4, cell_far7 hB hb u5, cell_far7 hB hb u6, cell_far7 hB hb u7⟩
  have H1 : Hid (∀ w', Below w.heap.size w w' → w'.cell? ⟨b, o + 8, none⟩ = some (.bool bn) ∧ w'.cell? ⟨b, o + 9, none⟩ = some (.int .i64 bls) ∧ w'.cell? ⟨b, o + 10, none⟩ = some (.int .i64 bms) ∧ w'.cell? ⟨b, o + 11, none⟩ = some (.int .u64 b0) ∧ w'.cell? ⟨b, o + 12, none⟩ = some (.int .u64 b1) ∧ w'.cell? ⟨b, o + 13, none⟩ = some (.int .u64 b2) ∧ w'.cell? ⟨b, o + 14, none⟩ = some (.int .u64 b3) ∧ w'.cell? ⟨b, o + 15, none⟩ = some (.bool eb)) := Lib.hid fun w' hB => by
    obtain ⟨u0, u1, u2, u3, u4, u5, u6, u7⟩ := h1
    exact ⟨cell_far7 hB hb u0, cell_far7 hB hb u1, cell_far7 hB hb u2, cell_far7 hB hb u3, cell_far7 hB hb u4, cell_far7 hB hb u5, cell_far7 hB hb u6, cell_far7 hB hb u7⟩
  obtain ⟨C, hC⟩ : ∃ C, w.heap.size + 1 = C := ⟨_, rfl⟩
  rw [hC] at HEC
  obtain ⟨NN, hNN⟩ : ∃ NN, w.heap.size = NN := ⟨_, rfl⟩
  have HZ : Hid (W.heap.size = C + 1 ∧ w.heap.size ≤ C ∧ w.heap.size = NN ∧ NN < C) := Lib.hid ⟨by omega, by omega, hNN, by omega⟩
  rw [hNN] at HN n0 n1 n2 n3 n4 n5 n6 hC
  clear EC hBW hz HC h0 h1 hb
  go_enter Tryd.func24, Tryd.ntmps24
  go_wp2_with fail
  refine HCh.out.mono ?_
  rintro e wk ⟨rfl, hb⟩
  have E1 := (HEC.out.below hb (by have := HZ.out; omega)).alloc (.cells #[.bool rn, .int .i64 rls, .int .i64 rms, .int .u64 r0, .int .u64 r1, .int .u64 r2, .int .u64 r3, .bool er] 40)
  have D1 := isFx.new wk rn rls rms r0 r1 r2 r3 er
  have N1 : (wk.alloc (.cells #[.bool rn, .int .i64 rls, .int .i64 rms, .int .u64 r0, .int .u64 r1, .int .u64 r2, .int .u64 r3, .bool er] 40)).cell? ⟨NN, 0, none⟩ = some (.int .i64 5) := cell_far7 ((Below.refl wk.heap.size wk).alloc (Nat.le_refl _) _) (by have := hb.size; have := HZ.out; omega) (cell_far7 hb (by have := HZ.out; omega) HN.out)
  have hB := (HBW.out.trans (hb.mono HBW.out.size)).alloc (Nat.le_trans HBW.out.size hb.size) (.cells #[.bool rn, .int .i64 rls, .int .i64 rms, .int .u64 r0, .int .u64 r1, .int .u64 r2, .int .u64 r3, .bool er] 40)
  have hDC : C < wk.heap.size := by have := hb.size; have := HZ.out; omega
  clear hb hW HEC HBW n0 n1 n2 n3 n4 n5 n6 hC hNN HCh HN
  go_upto_region 2 with (fail)
  generalize wk.alloc (.cells #[.bool rn, .int .i64 rls, .int .i64 rms, .int .u64 r0, .int .u64 r1, .int .u64 r2, .int .u64 r3, .bool er] 40) = W2 at *
  generalize wk.heap.size = D at *
  have hDw : w.heap.size ≤ D := by have := HZ.out; omega
  have hCw : w.heap.size ≤ C := HZ.out.2.1
  have hCD : ¬ (C = D) := by omega
  have hDC' : D < W2.heap.size := D1.lt
  clear HZ
  have HE2 := Lib.hid (E1.set hCD 7 (.bool false))
  have HD2 := Lib.hid (D1.put7 false)
  have HB2 := Lib.hid (hB.setCell (p := ⟨D, 7, none⟩) hDw (.bool false))
  obtain ⟨g0, g1, g2, g3, g4, g5, g6, g7⟩ := D1.cells
  obtain ⟨f0, f1, f2, f3, f4, f5, f6, f7⟩ := D1.free
  clear E1 D1 hB
  go_upto_region 3 with (fail)
  generalize W2.setCell ⟨D, 7, none⟩ (.bool false) = W3 at *
  clear g0 g1 g2 g3 g4 g5 g6 g7 f0 f1 f2 f3 f4 f5 f6 f7 N1 hDC'
  go_wp2_with fail
  refine wp_loop_rounds 3 ?_
  obtain ⟨kk0, kk1, kk2, kk3, kk4, kk5, kk6, kk7⟩ := H0.out _ HB2.out
  have hA0 := isFx.new W3 an als ams a0 a1 a2 a3 true
  have e10 := HE2.out.alloc (.cells #[.bool an, .int .i64 als, .int .i64 ams, .int .u64 a0, .int .u64 a1, .int .u64 a2, .int .u64 a3, .bool true] 40)
  have d10 := HD2.out.alloc (.cells #[.bool an, .int .i64 als, .int .i64 ams, .int .u64 a0, .int .u64 a1, .int .u64 a2, .int .u64 a3, .bool true] 40)
  have b10 := HB2.out.alloc HB2.out.size (.cells #[.bool an, .int .i64 als, .int .i64 ams, .int .u64 a0, .int .u64 a1, .int .u64 a2, .int .u64 a3, .bool true] 40)
  have s0 : ¬ (D = W3.heap.size) := by have := HD2.out.lt; omega
  have HE30 := Lib.hid (e10.set hCD 7 (.bool true))
  have HD30 := Lib.hid (d10.put7 true)
  have HB30 := Lib.hid (b10.setCell (p := ⟨D, 7, none⟩) hDw (.bool true))
  obtain ⟨g0, g1, g2, g3, g4, g5, g6, g7⟩ := d10.cells
  obtain ⟨f0, f1, f2, f3, f4, f5, f6, f7⟩ := d10.free
  obtain ⟨-, -, -, -, -, -, -, y7⟩ := hA0.cells
  clear hA0 e10 d10 b10
  rw [rounds_succ]
  go_wp2_with fail
  generalize (W3.alloc (.cells #[.bool an, .int .i64 als, .int .i64 ams, .int .u64 a0, .int .u64 a1, .int .u64 a2, .int .u64 a3, .bool true] 40)).setCell ⟨D, 7, none⟩ (.bool true) = W4 at *
  clear kk0 kk1 kk2 kk3 kk4 kk5 kk6 kk7 g0 g1 g2 g3 g4 g5 g6 g7 f0 f1 f2 f3 f4 f5 f6 f7 y7 s0 HE2 HD2 HB2
  obtain ⟨kk0, kk1, kk2, kk3, kk4, kk5, kk6, kk7⟩ := H1.out _ HB30.out
  have hA1 := isFx.new W4 bn bls bms b0 b1 b2 b3 eb
  have e11 := HE30.out.alloc (.cells #[.bool bn, .int .i64 bls, .int .i64 bms, .int .u64 b0, .int .u64 b1, .int .u64 b2, .int .u64 b3, .bool eb] 40)
  have d11 := HD30.out.alloc (.cells #[.bool bn, .int .i64 bls, .int .i64 bms, .int .u64 b0, .int .u64 b1, .int .u64 b2, .int .u64 b3, .bool eb] 40)
  have b11 := HB30.out.alloc HB30.out.size (.cells #[.bool bn, .int .i64 bls, .int .i64 bms, .int .u64 b0, .int .u64 b1, .int .u64 b2, .int .u64 b3, .bool eb] 40)
  have s1 : ¬ (D = W4.heap.size) := by have := HD30.out.lt; omega
  have HE31 := Lib.hid (e11.set hCD 7 (.bool true))
  have HD31 := Lib.hid (d11.put7 true)
  have HB31 := Lib.hid (b11.setCell (p := ⟨D, 7, none⟩) hDw (.bool true))
  obtain ⟨g0, g1, g2, g3, g4, g5, g6, g7⟩ := d11.cells
  obtain ⟨f0, f1, f2, f3, f4, f5, f6, f7⟩ := d11.free
  obtain ⟨-, -, -, -, -, -, -, y7⟩ := hA1.cells
  clear hA1 e11 d11 b11
  rw [rounds_succ]
  go_wp2_with fail
  generalize (W4.alloc (.cells #[.bool bn, .int .i64 bls, .int .i64 bms, .int .u64 b0, .int .u64 b1, .int .u64 b2, .int .u64 b3, .bool eb] 40)).setCell ⟨D, 7, none⟩ (.bool true) = W5 at *
  clear kk0 kk1 kk2 kk3 kk4 kk5 kk6 kk7 g0 g1 g2 g3 g4 g5 g6 g7 f0 f1 f2 f3 f4 f5 f6 f7 y7 s1 HE30 HD30 HB30
  obtain ⟨g0, g1, g2, g3, g4, g5, g6, g7⟩ := HD31.out.cells
  obtain ⟨c0, c1, c2, c3, c4, c5, c6, c7⟩ := HE31.out.cells
  obtain ⟨f0, f1, f2, f3, f4, f5, f6, f7⟩ := HE31.out.free
  have HS := Lib.hid (below_st8 HB31.out hCw rn rls rms r0 r1 r2 r3 true)
  have Z := HE31.out.stored rn rls rms r0 r1 r2 r3 true
  unfold set87 at Z
  have Z := Lib.hid Z.cells
  clear HE31 HD31 HB31 hCw hDw hDC hCD
  rw [rounds_succ]
  go_wp2_with fail
  refine bodyPost_ret (v := fxr rn rls rms r0 r1 r2 r3 true) ?h rfl ⟨rfl, HS.out⟩
  case h =>
    have Z0 := Z.out
    generalize ((((((((W5.setCell ⟨C, 0, none⟩ (.bool rn)).setCell ⟨C, 1, none⟩ (.int .i64 rls)).setCell ⟨C, 2, none⟩ (.int .i64 rms)).setCell ⟨C, 3, none⟩ (.int .u64 r0)).setCell ⟨C, 4, none⟩ (.int .u64 r1)).setCell ⟨C, 5, none⟩ (.int .u64 r2)).setCell ⟨C, 6, none⟩ (.int .u64 r3)).setCell ⟨C, 7, none⟩ (.bool true)) = W9 at Z0 ⊢
    obtain ⟨z0, z1, z2, z3, z4, z5, z6, z7⟩ := Z0
    simp [results, Tryd.results24, go_sem, z0, z1, z2, z3, z4, z5, z6, z7]
set_option maxRecDepth 100000 in
set_option maxHeartbeats 4000000 in
theorem told_6f (xa xb xc xd lo hi : Int) (an : Bool) (als ams a0 a1 a2 a3 : Int)  (bn : Bool) (bls bms b0 b1 b2 b3 : Int) (eb : Bool) (rn : Bool) (rls rms r0 r1 r2 r3 : Int) (er : Bool) (b o cap : Nat) (w : World) (hb : b < w.heap.size)
    (h0 : w.cell? ⟨b, o, none⟩ = some (.bool an) ∧ w.cell? ⟨b, o + 1, none⟩ = some (.int .i64 als) ∧ w.cell? ⟨b, o + 2, none⟩ = some (.int .i64 ams) ∧ w.cell? ⟨b, o + 3, none⟩ = some (.int .u64 a0) ∧ w.cell? ⟨b, o + 4, none⟩ = some (.int .u64 a1) ∧ w.cell? ⟨b, o + 5, none⟩ = some (.int .u64 a2) ∧ w.cell? ⟨b, o + 6, none⟩ = some (.int .u64 a3) ∧ w.cell? ⟨b, o + 7, none⟩ = some (.bool false))
    (h1 : w.cell? ⟨b, o + 8, none⟩ = some (.bool bn) ∧ w.cell? ⟨b, o + 9, none⟩ = some (.int .i64 bls) ∧ w.cell? ⟨b, o + 10, none⟩ = some (.int .i64 bms) ∧ w.cell? ⟨b, o + 11, none⟩ = some (.int .u64 b0) ∧ w.cell? ⟨b, o + 12, none⟩ = some (.int .u64 b1) ∧ w.cell? ⟨b, o + 13, none⟩ = some (.int .u64 b2) ∧ w.cell? ⟨b, o + 14, none⟩ = some (.int .u64 b3) ∧ w.cell? ⟨b, o + 15, none⟩ = some (.bool eb))
    (HC : ∀ w', Below w.heap.size w w' → Calls Tryd.prog 39 #[.agg #[.int .i64 6, .int .u64 xa, .int .u64 xb, .int .u64 xc, .int .u64 xd, .int .i64 lo, .int .i64 hi], .slice (some ⟨b, o, none⟩) 2 cap] w' fun e w'' => e = .returned (fxr rn rls rms r0 r1 r2 r3 er) ∧ Below w'.heap.size w' w'') :
    Calls Tryd.prog 24 #[.agg #[.int .i64 6, .int .u64 xa, .int .u64 xb, .int .u64 xc, .int .u64 xd, .int .i64 lo, .int .i64 hi], .slice (some ⟨b, o, none⟩) 2 cap] w fun e w' => e = .returned (fxr rn rls rms r0 r1 r2 r3 eb) ∧ Below w.heap.size w w' := by
  obtain ⟨W, hW⟩ : ∃ W, (w.alloc (.cells #[.int .i64 6, .int .u64 xa, .int .u64 xb, .int .u64 xc, .int .u64 xd, .int .i64 lo, .int .i64 hi] 45)).alloc (.cells #[.bool false, .int .i64 0, .int .i64 0, .int .u64 0, .int .u64 0, .int .u64 0, .int .u64 0, .bool false] 40) = W := ⟨_, rfl⟩
  have hBW : Below w.heap.size w W := hW ▸ ((Below.refl _ _).alloc (Nat.le_refl _) _).alloc (by simp) _
  have hz : W.heap.size = w.heap.size + 2 := by rw [← hW]; simp
  have n0 : W.cell? ⟨w.heap.size, 0, none⟩ = some (.int .i64 6) := by rw [← hW]; simp
  have n1 : W.cell? ⟨w.heap.size, 1, none⟩ = some (.int .u64 xa) := by rw [← hW]; simp
  have n2 : W.cell? ⟨w.heap.size, 2, none⟩ = some (.int .u64 xb) := by rw [← hW]; simp
  have n3 : W.cell? ⟨w.heap.size, 3, none⟩ = some (.int .u64 xc) := by rw [← hW]; simp
  have n4 : W.cell? ⟨w.heap.size, 4, none⟩ = some (.int .u64 xd) := by rw [← hW]; simp
  have n5 : W.cell? ⟨w.heap.size, 5, none⟩ = some (.int .i64 lo) := by rw [← hW]; simp
  have n6 : W.cell? ⟨w.heap.size, 6, none⟩ = some (.int .i64 hi) := by rw [← hW]; simp
  have EC : isFx W (w.heap.size + 1) false 0 0 0 0 0 0 false := hW ▸ (show isFx _ _ _ _ _ _ _ _ _ _ from by
    have := isFx.new (w.alloc (.cells #[.int .i64 6, .int .u64 xa, .int .u64 xb, .int .u64 xc, .int .u64 xd, .int .i64 lo, .int .i64 hi] 45)) false 0 0 0 0 0 0 false
    rw [World.size_alloc] at this
    exact this)
  have HCh := Lib.hid (HC W hBW)
  have HBW := Lib.hid hBW
  have HEC := Lib.hid EC
  have HN := Lib.hid n0
  have H0 : Hid (∀ w', Below w.heap.size w w' → w'.cell? ⟨b, o, none⟩ = some (.bool an) ∧ w'.cell? ⟨b, o + 1, none⟩ = some (.int .i64 als) ∧ w'.cell? ⟨b, o + 2, none⟩ = some (.int .i64 ams) ∧ w'.cell? ⟨b, o + 3, none⟩ = some (.int .u64 a0) ∧ w'.cell? ⟨b, o + 4, none⟩ = some (.int .u64 a1) ∧ w'.cell? ⟨b, o + 5, none⟩ = some (.int .u64 a2) ∧ w'.cell? ⟨b, o + 6, none⟩ = some (.int .u64 a3) ∧ w'.cell? ⟨b, o + 7, none⟩ = some (.bool false)) := Lib.hid fun w' hB => by
    obtain ⟨u0, u1, u2, u3, u4, u5, u6, u7⟩ := h0
    exact ⟨cell_far7 hB hb u0, cell_far7 hB hb u1, cell_far7 hB hb u2, cell_far7 hB hb u3, cell_far7 hB hb u4, cell_far7 hB hb u5, cell_far7 hB hb u6, cell_far7 hB hb u7⟩
  have H1 : Hid (∀ w', Below w.heap.size w w' → w'.cell? ⟨b, o + 8, none⟩ = some (.bool bn) ∧ w'.cell? ⟨b, o + 9, none⟩ = some (.int .i64 bls) ∧ w'.cell? ⟨b, o + 10, none⟩ = some (.int .i64 bms) ∧ w'.cell? ⟨b, o + 11, none⟩ = some (.int .u64 b0) ∧ w'.cell? ⟨b, o + 12, none⟩ = some (.int .u64 b1) ∧ w'.cell? ⟨b, o + 13, none⟩ = some (.int .u64 b2) ∧ w'.cell? ⟨b, o + 14, none⟩ = some (.int .u64 b3) ∧ w'.cell? ⟨b, o + 15, none⟩ = some (.bool eb)) := Lib.hid fun w' hB => by
    obtain ⟨u0, u1, u2, u3, u4, u5, u6, u7⟩ := h1
    exact ⟨cell_far7 hB hb u0, cell_far7 hB hb u1, cell_far7 hB hb u2, cell_far7 hB hb u3, cell_far7 hB hb u4, cell_far7 hB hb u5, cell_far7 hB hb u6, cell_far7 hB hb u7⟩
  obtain ⟨C, hC⟩ : ∃ C, w.heap.size + 1 = C := ⟨_, rfl⟩
  rw [hC] at HEC
  obtain ⟨NN, hNN⟩ : ∃ NN, w.heap.size = NN := ⟨_, rfl⟩
  have HZ : Hid (W.heap.size = C + 1 ∧ w.heap.size ≤ C ∧ w.heap.size = NN ∧ NN < C) := Lib.hid ⟨by omega, by omega, hNN, by omega⟩
  rw [hNN] at HN n0 n1 n2 n3 n4 n5 n6 hC
  clear EC hBW hz HC h0 h1 hb
  go_enter Tryd.func24, Tryd.ntmps24
  go_wp2_with fail
  refine HCh.out.mono ?_
  rintro e wk ⟨rfl, hb⟩
  have E1 := (HEC.out.below hb (by have := HZ.out; omega)).alloc (.cells #[.bool rn, .int .i64 rls, .int .i64 rms, .int .u64 r0, .int .u64 r1, .int .u64 r2, .int .u64 r3, .bool er] 40)
  have D1 := isFx.new wk rn rls rms r0 r1 r2 r3 er
  have N1 : (wk.alloc (.cells #[.bool rn, .int .i64 rls, .int .i64 rms, .int .u64 r0, .int .u64 r1, .int .u64 r2, .int .u64 r3, .bool er] 40)).cell? ⟨NN, 0, none⟩ = some (.int .i64 6) := cell_far7 ((Below.refl wk.heap.size wk).alloc (Nat.le_refl _) _) (by have := hb.size; have := HZ.out; omega) (cell_far7 hb (by have := HZ.out; omega) HN.out)
  have hB := (HBW.out.trans (hb.mono HBW.out.size)).alloc (Nat.le_trans HBW.out.size hb.size) (.cells #[.bool rn, .int .i64 rls, .int .i64 rms, .int .u64 r0, .int .u64 r1, .int .u64 r2, .int .u64 r3, .bool er] 40)
  have hDC : C < wk.heap.size := by have := hb.size; have := HZ.out; omega
  clear hb hW HEC HBW n0 n1 n2 n3 n4 n5 n6 hC hNN HCh HN
  go_upto_region 2 with (fail)
  generalize wk.alloc (.cells #[.bool rn, .int .i64 rls, .int .i64 rms, .int .u64 r0, .int .u64 r1, .int .u64 r2, .int .u64 r3, .bool er] 40) = W2 at *
  generalize wk.heap.size = D at *
  have hDw : w.heap.size ≤ D := by have := HZ.out; omega
  have hCw : w.heap.size ≤ C := HZ.out.2.1
  have hCD : ¬ (C = D) := by omega
  have hDC' : D < W2.heap.size := D1.lt
  clear HZ
  have HE2 := Lib.hid (E1.set hCD 7 (.bool false))
  have HD2 := Lib.hid (D1.put7 false)
  have HB2 := Lib.hid (hB.setCell (p := ⟨D, 7, none⟩) hDw (.bool false))
  obtain ⟨g0, g1, g2, g3, g4, g5, g6, g7⟩ := D1.cells
  obtain ⟨f0, f1, f2, f3, f4, f5, f6, f7⟩ := D1.free
  clear E1 D1 hB
  go_upto_region 3 with (fail)
  generalize W2.setCell ⟨D, 7, none⟩ (.bool false) = W3 at *
  clear g0 g1 g2 g3 g4 g5 g6 g7 f0 f1 f2 f3 f4 f5 f6 f7 N1 hDC'
  go_wp2_with fail
  refine wp_loop_rounds 3 ?_
  obtain ⟨kk0, kk1, kk2, kk3, kk4, kk5, kk6, kk7⟩ := H0.out _ HB2.out
  have hA0 := isFx.new W3 an als ams a0 a1 a2 a3 false
  have e10 := HE2.out.alloc (.cells #[.bool an, .int .i64 als, .int .i64 ams, .int .u64 a0, .int .u64 a1, .int .u64 a2, .int .u64 a3, .bool false] 40)
  have d10 := HD2.out.alloc (.cells #[.bool an, .int .i64 als, .int .i64 ams, .int .u64 a0, .int .u64 a1, .int .u64 a2, .int .u64 a3, .bool false] 40)
  have b10 := HB2.out.alloc HB2.out.size (.cells #[.bool an, .int .i64 als, .int .i64 ams, .int .u64 a0, .int .u64 a1, .int .u64 a2, .int .u64 a3, .bool false] 40)
  have s0 : ¬ (D = W3.heap.size) := by have := HD2.out.lt; omega
  have HE30 := Lib.hid (e10.set hCD 7 (.bool false))
  have HD30 := Lib.hid (d10.put7 false)
  have HB30 := Lib.hid (b10.setCell (p := ⟨D, 7, none⟩) hDw (.bool false))
  obtain ⟨g0, g1, g2, g3, g4, g5, g6, g7⟩ := d10.cells
  obtain ⟨f0, f1, f2, f3, f4, f5, f6, f7⟩ := d10.free
  obtain ⟨-, -, -, -, -, -, -, y7⟩ := hA0.cells
  clear hA0 e10 d10 b10
  rw [rounds_succ]
  go_wp2_with fail
  generalize (W3.alloc (.cells #[.bool an, .int .i64 als, .int .i64 ams, .int .u64 a0, .int .u64 a1, .int .u64 a2, .int .u64 a3, .bool false] 40)).setCell ⟨D, 7, none⟩ (.bool false) = W4 at *
  clear kk0 kk1 kk2 kk3 kk4 kk5 kk6 kk7 g0 g1 g2 g3 g4 g5 g6 g7 f0 f1 f2 f3 f4 f5 f6 f7 y7 s0 HE2 HD2 HB2
  obtain ⟨kk0, kk1, kk2, kk3, kk4, kk5, kk6, kk7⟩ := H1.out _ HB30.out
  have hA1 := isFx.new W4 bn bls bms b0 b1 b2 b3 eb
  have e11 := HE30.out.alloc (.cells #[.bool bn, .int .i64 bls, .int .i64 bms, .int .u64 b0, .int .u64 b1, .int .u64 b2, .int .u64 b3, .bool eb] 40)
  have d11 := HD30.out.alloc (.cells #[.bool bn, .int .i64 bls, .int .i64 bms, .int .u64 b0, .int .u64 b1, .int .u64 b2, .int .u64 b3, .bool eb] 40)
  have b11 := HB30.out.alloc HB30.out.size (.cells #[.bool bn, .int .i64 bls, .int .i64 bms, .int .u64 b0, .int .u64 b1, .int .u64 b2, .int .u64 b3, .bool eb] 40)
  have s1 : ¬ (D = W4.heap.size) := by have := HD30.out.lt; omega
  have HE31 := Lib.hid (e11.set hCD 7 (.bool eb))
  have HD31 := Lib.hid (d11.put7 eb)
  have HB31 := Lib.hid (b11.setCell (p := ⟨D, 7, none⟩) hDw (.bool eb))
  obtain ⟨g0, g1, g2, g3, g4, g5, g6, g7⟩ := d11.cells
  obtain ⟨f0, f1, f2, f3, f4, f5, f6, f7⟩ := d11.free
  obtain ⟨-, -, -, -, -, -, -, y7⟩ := hA1.cells
  clear hA1 e11 d11 b11
  rw [rounds_succ]
  go_wp2_with fail
  generalize (W4.alloc (.cells #[.bool bn, .int .i64 bls, .int .i64 bms, .int .u64 b0, .int .u64 b1, .int .u64 b2, .int .u64 b3, .bool eb] 40)).setCell ⟨D, 7, none⟩ (.bool eb) = W5 at *
  clear kk0 kk1 kk2 kk3 kk4 kk5 kk6 kk7 g0 g1 g2 g3 g4 g5 g6 g7 f0 f1 f2 f3 f4 f5 f6 f7 y7 s1 HE30 HD30 HB30
  obtain ⟨g0, g1, g2, g3, g4, g5, g6, g7⟩ := HD31.out.cells
  obtain ⟨c0, c1, c2, c3, c4, c5, c6, c7⟩ := HE31.out.cells
  obtain ⟨f0, f1, f2, f3, f4, f5, f6, f7⟩ := HE31.out.free
  have HS := Lib.hid (below_st8 HB31.out hCw rn rls rms r0 r1 r2 r3 eb)
  have Z := HE31.out.stored rn rls rms r0 r1 r2 r3 eb
  unfold set87 at Z
  have Z := Lib.hid Z.cells
  clear HE31 HD31 HB31 hCw hDw hDC hCD
  rw [rounds_succ]
  go_wp2_with fail
  refine bodyPost_ret (v := fxr rn rls rms r0 r1 r2 r3 eb) ?h rfl ⟨rfl, HS.out⟩
  case h =>
    have Z0 := Z.out
    generalize ((((((((W5.setCell ⟨C, 0, none⟩ (.bool rn)).setCell ⟨C, 1, none⟩ (.int .i64 rls)).setCell ⟨C, 2, none⟩ (.int .i64 rms)).setCell ⟨C, 3, none⟩ (.int .u64 r0)).setCell ⟨C, 4, none⟩ (.int .u64 r1)).setCell ⟨C, 5, none⟩ (.int .u64 r2)).setCell ⟨C, 6, none⟩ (.int .u64 r3)).setCell ⟨C, 7, none⟩ (.bool eb)) = W9 at Z0 ⊢
    obtain ⟨z0, z1, z2, z3, z4, z5, z6, z7⟩ := Z0
    simp [results, Tryd.results24, go_sem, z0, z1, z2, z3, z4, z5, z6, z7]
set_option maxRecDepth 100000 in
set_option maxHeartbeats 4000000 in
theorem told_6t (xa xb xc xd lo hi : Int) (an : Bool) (als ams a0 a1 a2 a3 : Int)  (bn : Bool) (bls bms b0 b1 b2 b3 : Int) (eb : Bool) (rn : Bool) (rls rms r0 r1 r2 r3 : Int) (er : Bool) (b o cap : Nat) (w : World) (hb : b < w.heap.size)
    (h0 : w.cell? ⟨b, o, none⟩ = some (.bool an) ∧ w.cell? ⟨b, o + 1, none⟩ = some (.int .i64 als) ∧ w.cell? ⟨b, o + 2, none⟩ = some (.int .i64 ams) ∧ w.cell? ⟨b, o + 3, none⟩ = some (.int .u64 a0) ∧ w.cell? ⟨b, o + 4, none⟩ = some (.int .u64 a1) ∧ w.cell? ⟨b, o + 5, none⟩ = some (.int .u64 a2) ∧ w.cell? ⟨b, o + 6, none⟩ = some (.int .u64 a3) ∧ w.cell? ⟨b, o + 7, none⟩ = some (.bool true))
    (h1 : w.cell? ⟨b, o + 8, none⟩ = some (.bool bn) ∧ w.cell? ⟨b, o + 9, none⟩ = some (.int .i64 bls) ∧ w.cell? ⟨b, o + 10, none⟩ = some (.int .i64 bms) ∧ w.cell? ⟨b, o + 11, none⟩ = some (.int .u64 b0) ∧ w.cell? ⟨b, o + 12, none⟩ = some (.int .u64 b1) ∧ w.cell? ⟨b, o + 13, none⟩ = some (.int .u64 b2) ∧ w.cell? ⟨b, o + 14, none⟩ = some (.int .u64 b3) ∧ w.cell? ⟨b, o + 15, none⟩ = some (.bool eb))
    (HC : ∀ w', Below w.heap.size w w' → Calls Tryd.prog 39 #[.agg #[.int .i64 6, .int .u64 xa, .int .u64 xb, .int .u64 xc, .int .u64 xd, .int .i64 lo, .int .i64 hi], .slice (some ⟨b, o, none⟩) 2 cap] w' fun e w'' => e = .returned (fxr rn rls rms r0 r1 r2 r3 er) ∧ Below w'.heap.size w' w'') :
    Calls Tryd.prog 24 #[.agg #[.int .i64 6, .int .u64 xa, .int .u64 xb, .int .u64 xc, .int .u64 xd, .int .i64 lo, .int .i64 hi], .slice (some ⟨b, o, none⟩) 2 cap] w fun e w' => e = .returned (fxr rn rls rms r0 r1 r2 r3 true) ∧ Below w.heap.size w w' := by
  obtain ⟨W, hW⟩ : ∃ W, (w.alloc (.cells #[.int .i64 6, .int .u64 xa, .int .u64 xb, .int .u64 xc, .int .u64 xd, .int .i64 lo, .int .i64 hi] 45)).alloc (.cells #[.bool false, .int .i64 0, .int .i64 0, .int .u64 0, .int .u64 0, .int .u64 0, .int .u64 0, .bool false] 40) = W := ⟨_, rfl⟩
  have hBW : Below w.heap.size w W := hW ▸ ((Below.refl _ _).alloc (Nat.le_refl _) _).alloc (by simp) _
  have hz : W.heap.size = w.heap.size + 2 := by rw [← hW]; simp
  have n0 : W.cell? ⟨w.heap.size, 0, none⟩ = some (.int .i64 6) := by rw [← hW]; simp
  have n1 : W.cell? ⟨w.heap.size, 1, none⟩ = some (.int .u64 xa) := by rw [← hW]; simp
  have n2 : W.cell? ⟨w.heap.size, 2, none⟩ = some (.int .u64 xb) := by rw [← hW]; simp
  have n3 : W.cell? ⟨w.heap.size, 3, none⟩ = some (.int .u64 xc) := by rw [← hW]; simp
  have n4 : W.cell? ⟨w.heap.size, 4, none⟩ = some (.int .u64 xd) := by rw [← hW]; simp
  have n5 : W.cell? ⟨w.heap.size, 5, none⟩ = some (.int .i64 lo) := by rw [← hW]; simp
  have n6 : W.cell? ⟨w.heap.size, 6, none⟩ = some (.int .i64 hi) := by rw [← hW]; simp
  have EC : isFx W (w.heap.size + 1) false 0 0 0 0 0 0 false := hW ▸ (show isFx _ _ _ _ _ _ _ _ _ _ from by
    have := isFx.new (w.alloc (.cells #[.int .i64 6, .int .u64 xa, .int .u64 xb, .int .u64 xc, .int .u64 xd, .int .i64 lo, .int .i64 hi] 45)) false 0 0 0 0 0 0 false
    rw [World.size_alloc] at this
    exact this)
  have HCh := Lib.hid (HC W hBW)
  have HBW := Lib.hid hBW
  have HEC := Lib.hid EC
  have HN := Lib.hid n0
  have H0 : Hid (∀ w', Below w.heap.size w w' → w'.cell? ⟨b, o, none⟩ = some (.bool an) ∧ w'.cell? ⟨b, o + 1, none⟩ = some (.int .i64 als) ∧ w'.cell? ⟨b, o + 2, none⟩ = some (.int .i64 ams) ∧ w'.cell? ⟨b, o + 3, none⟩ = some (.int .u64 a0) ∧ w'.cell? ⟨b, o + 4, none⟩ = some (.int .u64 a1) ∧ w'.cell? ⟨b, o + 5, none⟩ = some (.int .u64 a2) ∧ w'.cell? ⟨b, o + 6, none⟩ = some (.int .u64 a3) ∧ w'.cell? ⟨b, o + 7, none⟩ = some (.bool true)) := Lib.hid fun w' hB => by
    obtain ⟨u0, u1, u2, u3, u4, u5, u6, u7⟩ := h0
    exact ⟨cell_far7 hB hb u0, cell_far7 hB hb u1, cell_far7 hB hb u2, cell_far7 hB hb u3, cell_far7 hB hb u4, cell_far7 hB hb u5, cell_far7 hB hb u6, cell_far7 hB hb u7⟩
  have H1 : Hid (∀ w', Below w.heap.size w w' → w'.cell? ⟨b, o + 8, none⟩ = some (.bool bn) ∧ w'.cell? ⟨b, o + 9, none⟩ = some (.int .i64 bls) ∧ w'.cell? ⟨b, o + 10, none⟩ = some (.int .i64 bms) ∧ w'.cell? ⟨b, o + 11, none⟩ = some (.int .u64 b0) ∧ w'.cell? ⟨b, o + 12, none⟩ = some (.int .u64 b1) ∧ w'.cell? ⟨b, o + 13, none⟩ = some (.int .u64 b2) ∧ w'.cell? ⟨b, o + 14, none⟩ = some (.int .u64 b3) ∧ w'.cell? ⟨b, o + 15, none⟩ = some (.bool eb)) := Lib.hid fun w' hB => by
    obtain ⟨u0, u1, u2, u3, u4, u5, u6, u7⟩ := h1
    exact ⟨cell_far7 hB hb u0, cell_far7 hB hb u1, cell_far7 hB hb u2, cell_far7 hB hb u3, cell_far7 hB hb u4, cell_far7 hB hb u5, cell_far7 hB hb u6, cell_far7 hB hb u7⟩
  obtain ⟨C, hC⟩ : ∃ C, w.heap.size + 1 = C := ⟨_, rfl⟩
  rw [hC] at HEC
  obtain ⟨NN, hNN⟩ : ∃ NN, w.heap.size = NN := ⟨_, rfl⟩
  have HZ : Hid (W.heap.size = C + 1 ∧ w.heap.size ≤ C ∧ w.heap.size = NN ∧ NN < C) := Lib.hid ⟨by omega, by omega, hNN, by omega⟩
  rw [hNN] at HN n0 n1 n2 n3 n4 n5 n6 hC
  clear EC hBW hz HC h0 h1 hb
  go_enter Tryd.func24, Tryd.ntmps24
  go_wp2_with fail
  refine HCh.out.mono ?_
  rintro e wk ⟨rfl, hb⟩
  have E1 := (HEC.out.below hb (by have := HZ.out; omega)).alloc (.cells #[.bool rn, .int .i64 rls, .int .i64 rms, .int .u64 r0, .int .u64 r1, .int .u64 r2, .int .u64 r3, .bool er] 40)
  have D1 := isFx.new wk rn rls rms r0 r1 r2 r3 er
  have N1 : (wk.alloc (.cells #[.bool rn, .int .i64 rls, .int .i64 rms, .int .u64 r0, .int .u64 r1, .int .u64 r2, .int .u64 r3, .bool er] 40)).cell? ⟨NN, 0, none⟩ = some (.int .i64 6) := cell_far7 ((Below.refl wk.heap.size wk).alloc (Nat.le_refl _) _) (by have := hb.size; have := HZ.out; omega) (cell_far7 hb (by have := HZ.out; omega) HN.out)
  have hB := (HBW.out.trans (hb.mono HBW.out.size)).alloc (Nat.le_trans HBW.out.size hb.size) (.cells #[.bool rn, .int .i64 rls, .int .i64 rms, .int .u64 r0, .int .u64 r1, .int .u64 r2, .int .u64 r3, .bool er] 40)
  have hDC : C < wk.heap.size := by have := hb.size; have := HZ.out; omega
  clear hb hW HEC HBW n0 n1 n2 n3 n4 n5 n6 hC hNN HCh HN
  go_upto_region 2 with (fail)
  generalize wk.alloc (.cells #[.bool rn, .int .i64 rls, .int .i64 rms, .int .u64 r0, .int .u64 r1, .int .u64 r2, .int .u64 r3, .bool er] 40) = W2 at *
  generalize wk.heap.size = D at *
  have hDw : w.heap.size ≤ D := by have := HZ.out; omega
  have hCw : w.heap.size ≤ C := HZ.out.2.1
  have hCD : ¬ (C = D) := by omega
  have hDC' : D < W2.heap.size := D1.lt
  clear HZ
  have HE2 := Lib.hid (E1.set hCD 7 (.bool false))
  have HD2 := Lib.hid (D1.put7 false)
  have HB2 := Lib.hid (hB.setCell (p := ⟨D, 7, none⟩) hDw (.bool false))
  obtain ⟨g0, g1, g2, g3, g4, g5, g6, g7⟩ := D1.cells
  obtain ⟨f0, f1, f2, f3, f4, f5, f6, f7⟩ := D1.free
  clear E1 D1 hB
  go_upto_region 3 with (fail)
  generalize W2.setCell ⟨D, 7, none⟩ (.bool false) = W3 at *
  clear g0 g1 g2 g3 g4 g5 g6 g7 f0 f1 f2 f3 f4 f5 f6 f7 N1 hDC'
  go_wp2_with fail
  refine wp_loop_rounds 3 ?_
  obtain ⟨kk0, kk1, kk2, kk3, kk4, kk5, kk6, kk7⟩ := H0.out _ HB2.out
  have hA0 := isFx.new W3 an als ams a0 a1 a2 a3 true
  have e10 := HE2.out.alloc (.cells #[.bool an, .int .i64 als, .int .i64 ams, .int .u64 a0, .int .u64 a1, .int .u64 a2, .int .u64 a3, .bool true] 40)
  have d10 := HD2.out.alloc (.cells #[.bool an, .int .i64 als, .int .i64 ams, .int .u64 a0, .int .u64 a1, .int .u64 a2, .int .u64 a3, .bool true] 40)
  have b10 := HB2.out.alloc HB2.out.size (.cells #[.bool an, .int .i64 als, .int .i64 ams, .int .u64 a0, .int .u64 a1, .int .u64 a2, .int .u64 a3, .bool true] 40)
  have s0 : ¬ (D = W3.heap.size) := by have := HD2.out.lt; omega
  have HE30 := Lib.hid (e10.set hCD 7 (.bool true))
  have HD30 := Lib.hid (d10.put7 true)
  have HB30 := Lib.hid (b10.setCell (p := ⟨D, 7, none⟩) hDw (.bool true))
  obtain ⟨g0, g1, g2, g3, g4, g5, g6, g7⟩ := d10.cells
  obtain ⟨f0, f1, f2, f3, f4, f5, f6, f7⟩ := d10.free
  obtain ⟨-, -, -, -, -, -, -, y7⟩ := hA0.cells
  clear hA0 e10 d10 b10
  rw [rounds_succ]
  go_wp2_with fail
  generalize (W3.alloc (.cells #[.bool an, .int .i64 als, .int .i64 ams, .int .u64 a0, .int .u64 a1, .int .u64 a2, .int .u64 a3, .bool true] 40)).setCell ⟨D, 7, none⟩ (.bool true) = W4 at *
  clear kk0 kk1 kk2 kk3 kk4 kk5 kk6 kk7 g0 g1 g2 g3 g4 g5 g6 g7 f0 f1 f2 f3 f4 f5 f6 f7 y7 s0 HE2 HD2 HB2
  obtain ⟨kk0, kk1, kk2, kk3, kk4, kk5, kk6, kk7⟩ := H1.out _ HB30.out
  have hA1 := isFx.new W4 bn bls bms b0 b1 b2 b3 eb
  have e11 := HE30.out.alloc (.cells #[.bool bn, .int .i64 bls, .int .i64 bms, .int .u64 b0, .int .u64 b1, .int .u64 b2, .int .u64 b3, .bool eb] 40)
  have d11 := HD30.out.alloc (.cells #[.bool bn, .int .i64 bls, .int .i64 bms, .int .u64 b0, .int .u64 b1, .int .u64 b2, .int .u64 b3, .bool eb] 40)
  have b11 := HB30.out.alloc HB30.out.size (.cells #[.bool bn, .int .i64 bls, .int .i64 bms, .int .u64 b0, .int .u64 b1, .int .u64 b2, .int .u64 b3, .bool eb] 40)
  have s1 : ¬ (D = W4.heap.size) := by have := HD30.out.lt; omega
  have HE31 := Lib.hid (e11.set hCD 7 (.bool true))
  have HD31 := Lib.hid (d11.put7 true)
  have HB31 := Lib.hid (b11.setCell (p := ⟨D, 7, none⟩) hDw (.bool true))
  obtain ⟨g0, g1, g2, g3, g4, g5, g6, g7⟩ := d11.cells
  obtain ⟨f0, f1, f2, f3, f4, f5, f6, f7⟩ := d11.free
  obtain ⟨-, -, -, -, -, -, -, y7⟩ := hA1.cells
  clear hA1 e11 d11 b11
  rw [rounds_succ]
  go_wp2_with fail
  generalize (W4.alloc (.cells #[.bool bn, .int .i64 bls, .int .i64 bms, .int .u64 b0, .int .u64 b1, .int .u64 b2, .int .u64 b3, .bool eb] 40)).setCell ⟨D, 7, none⟩ (.bool true) = W5 at *
  clear kk0 kk1 kk2 kk3 kk4 kk5 kk6 kk7 g0 g1 g2 g3 g4 g5 g6 g7 f0 f1 f2 f3 f4 f5 f6 f7 y7 s1 HE30 HD30 HB30
  obtain ⟨g0, g1, g2, g3, g4, g5, g6, g7⟩ := HD31.out.cells
  obtain ⟨c0, c1, c2, c3, c4, c5, c6, c7⟩ := HE31.out.cells
  obtain ⟨f0, f1, f2, f3, f4, f5, f6, f7⟩ := HE31.out.free
  have HS := Lib.hid (below_st8 HB31.out hCw rn rls rms r0 r1 r2 r3 true)
  have Z := HE31.out.stored rn rls rms r0 r1 r2 r3 true
  unfold set87 at Z
  have Z := Lib.hid Z.cells
  clear HE31 HD31 HB31 hCw hDw hDC hCD
  rw [rounds_succ]
  go_wp2_with fail
  refine bodyPost_ret (v := fxr rn rls rms r0 r1 r2 r3 true) ?h rfl ⟨rfl, HS.out⟩
  case h =>
    have Z0 := Z.out
    generalize ((((((((W5.setCell ⟨C, 0, none⟩ (.bool rn)).setCell ⟨C, 1, none⟩ (.int .i64 rls)).setCell ⟨C, 2, none⟩ (.int .i64 rms)).setCell ⟨C, 3, none⟩ (.int .u64 r0)).setCell ⟨C, 4, none⟩ (.int .u64 r1)).setCell ⟨C, 5, none⟩ (.int .u64 r2)).setCell ⟨C, 6, none⟩ (.int .u64 r3)).setCell ⟨C, 7, none⟩ (.bool true)) = W9 at Z0 ⊢
    obtain ⟨z0, z1, z2, z3, z4, z5, z6, z7⟩ := Z0
    simp [results, Tryd.results24, go_sem, z0, z1, z2, z3, z4, z5, z6, z7]
end Go.Proofs.YtjbmkbgoahppfaaDoor

namespace Go.Proofs.YtjbmkbgoahppfaaDoor
open Go.RowKit

/-- The parts that are nobody's argument yet, by their last nodes. -/
def roots7 (N : Nat → Nd) : Nat → List Nat
  | 0 => []
  | k + 1 => (roots7 N k).take ((roots7 N k).length - (ar (N k).k).toNat) ++ [k]
theorem roots_succ7 (N : Nat → Nd) (k : Nat) : roots7 N (k + 1) = (roots7 N k).take ((roots7 N k).length - (ar (N k).k).toNat) ++ [k] := rfl
theorem roots_len7 (N : Nat → Nd) : ∀ k, (roots7 N k).length ≤ k
  | 0 => Nat.le_refl _
  | k + 1 => by
    have := roots_len7 N k
    rw [roots_succ7, List.length_append, List.length_take, List.length_cons, List.length_nil]
    omega
theorem roots_at7 {N : Nat → Nd} {n : Nat} (ht : tree N n) : ∀ m i, i ≤ m → i < n → ∀ f : Nat, fst N i = f → roots7 N (i + 1) = roots7 N f ++ [i] := by
  have leaf : ∀ i, ((N i).k = 1 ∨ (N i).k = 2 ∨ (N i).k = 3 ∨ (N i).k = 4) → roots7 N (i + 1) = roots7 N i ++ [i] := fun i hk => by
    rw [roots_succ7, show ar (N i).k = 0 by rcases hk with h | h | h | h <;> rw [h] <;> rfl]
    rw [show (roots7 N i).length - ((0 : Int)).toNat = (roots7 N i).length from rfl, List.take_length]
  intro m
  induction m with
  | zero =>
    intro i h0 hi f hf
    obtain ⟨f', hf', hc⟩ := nd_is ht hi
    obtain rfl : f' = f := by omega
    cases hc with
    | leaf _ hk _ => exact leaf _ hk
    | one => omega
    | two => omega
  | succ m ih =>
    intro i h0 hi f hf
    obtain ⟨f', hf', hc⟩ := nd_is ht hi
    obtain rfl : f' = f := by omega
    cases hc with
    | leaf _ hk _ => exact leaf _ hk
    | @one p _ _ hk h1 h2 _ =>
      rw [roots_succ7 (k := p + 1), ih p (by omega) (by omega) f' h1, hk, show (ar 7).toNat = 1 from rfl, List.length_append, show [p].length = 1 from rfl, Nat.add_sub_cancel, List.take_left]
    | @two p q _ _ hk h1 h2 h3 h4 _ =>
      rw [roots_succ7 (k := p + 1), ih p (by omega) (by omega) (q + 1) h1, ih q (by omega) (by omega) f' h3, show (ar (N (p + 1)).k).toNat = 2 by rcases hk with h | h <;> rw [h] <;> rfl, List.append_assoc, List.length_append, show ([q] ++ [p]).length = 2 from rfl, Nat.add_sub_cancel, List.take_left]
theorem roots_fst7 {N : Nat → Nd} {n i f : Nat} (ht : tree N n) (hi : i < n) (hf : fst N i = f) : roots7 N (i + 1) = roots7 N f ++ [i] := roots_at7 ht i i (Nat.le_refl _) hi f hf
theorem roots_all7 {N : Nat → Nd} {n : Nat} (ht : tree N n) (hn : 0 < n) : roots7 N n = [n - 1] := by
  have h := tree_iff.1 ht
  have := roots_fst7 ht (show n - 1 < n by omega) (show fst N (n - 1) = ((0 : Nat) : Int) from h.2.2.2)
  rwa [show n - 1 + 1 = n by omega] at this
theorem roots_lt7 {N : Nat → Nd} : ∀ {k j}, j ∈ roots7 N k → j < k
  | 0, _, h => by cases h
  | k + 1, j, h => by
    rw [roots_succ7] at h
    rcases List.mem_append.1 h with h | h
    · have := roots_lt7 (List.mem_of_mem_take h); omega
    · rw [List.mem_singleton.1 h]; exact Nat.lt_succ_self k

theorem roots_dep7 {N : Nat → Nd} {n : Nat} (ht : tree N n) : ∀ k, k ≤ n → ((roots7 N k).length : Int) = dep N k := by
  intro k
  induction k with
  | zero => intro _; rfl
  | succ k ih =>
    intro hk
    have h1 := ih (by omega)
    obtain ⟨g1, g2, -⟩ := ht.2.1 k (by omega)
    rw [roots_succ7, List.length_append, List.length_take, List.length_singleton, show dep N (k + 1) = dep N k + 1 - ar (N k).k from rfl]
    omega
theorem own_take7 {w : World} {base e size n cap r : Nat} {p : Option Addr} {xs : List Value} (h : w.ownsRow base e size (.slice p n cap) n xs) (hr : r ≤ n) : w.ownsRow base e size (.slice p r cap) r (xs.take (r * size)) := by
  obtain ⟨h1, h2⟩ := h
  have hm : r * size ≤ n * size := Nat.mul_le_mul_right _ hr
  refine ⟨by rw [List.length_take, h1]; omega, ?_⟩
  rcases h2 with ⟨h2, h3⟩ | ⟨g, c, cur, h2, h3, h4, h5, h6, h7, h8⟩
  · obtain rfl : r = 0 := by omega
    simp only [Value.slice.injEq] at h2
    exact .inl ⟨by rw [h2.1, h2.2.2], rfl⟩
  · simp only [Value.slice.injEq] at h2
    obtain ⟨rfl, -, rfl⟩ := h2
    refine .inr ⟨g, cap, cur, rfl, h3, h4, by omega, h6, h7, ?_⟩
    rw [← h8, List.take_take, Nat.min_eq_left hm]
theorem ar_two7 {N : Nat → Nd} {n k : Nat} (ht : tree N n) (hk : k < n) : ar (N k).k = ((ar (N k).k).toNat : Int) ∧ (ar (N k).k).toNat ≤ (roots7 N k).length ∧ (ar (N k).k).toNat ≤ 2 := by
  obtain ⟨g1, g2, -⟩ := ht.2.1 k hk
  have h := roots_dep7 ht k (by omega)
  rcases ar_cases (N k).k with ⟨h0, _⟩ | ⟨h0, _⟩ | ⟨h0, _⟩ | ⟨h0, _⟩ <;> (rw [h0] at g1 g2 ⊢; refine ⟨?_, ?_, ?_⟩ <;> omega)

end Go.Proofs.YtjbmkbgoahppfaaDoor

namespace Go.Proofs.YtjbmkbgoahppfaaDoor
open Go.RowKit

/-- Whether an end is in a tree. -/
def enT : Tr → Bool
  | .leaf x => x.k == 3 || x.k == 4
  | .cat a b => enT a || enT b
  | .or a b => enT a || enT b
  | .rep a _ _ => enT a
/-- Facts at a place. -/
def fxAt (w : World) (b o : Nat) (a : Fx) (e : Bool) : Prop :=
  w.cell? ⟨b, o, none⟩ = some (.bool a.nv) ∧ w.cell? ⟨b, o + 1, none⟩ = some (.int .i64 a.ls) ∧ w.cell? ⟨b, o + 2, none⟩ = some (.int .i64 a.ms) ∧ w.cell? ⟨b, o + 3, none⟩ = some (.int .u64 (wd a.fi 0 : Int)) ∧
  w.cell? ⟨b, o + 4, none⟩ = some (.int .u64 (wd a.fi 1 : Int)) ∧ w.cell? ⟨b, o + 5, none⟩ = some (.int .u64 (wd a.fi 2 : Int)) ∧ w.cell? ⟨b, o + 6, none⟩ = some (.int .u64 (wd a.fi 3 : Int)) ∧ w.cell? ⟨b, o + 7, none⟩ = some (.bool e)
theorem fxAt.below {w w' : World} {B b o : Nat} {a : Fx} {e : Bool} (h : fxAt w b o a e) (hB : Below B w w') (hb : b < B) : fxAt w' b o a e := by
  obtain ⟨h0, h1, h2, h3, h4, h5, h6, h7⟩ := h
  exact ⟨cell_far7 hB hb h0, cell_far7 hB hb h1, cell_far7 hB hb h2, cell_far7 hB hb h3, cell_far7 hB hb h4, cell_far7 hB hb h5, cell_far7 hB hb h6, cell_far7 hB hb h7⟩
/-- What told tells: facts, and memory of its own. -/
def fxPost (a : Fx) (e : Bool) (w : World) (x : Ending) (w' : World) : Prop := x = .returned (fxv a e) ∧ Below w.heap.size w w'

theorem len_leaf (x : Nd) (hk : x.k = 1 ∨ x.k = 2 ∨ x.k = 3 ∨ x.k = 4) (hw : okW x) (v : Value) (w : World) :
    Calls Tryd.prog 39 #[ndr7 x, v] w (fxPost (leafX x) false w) := by
  obtain ⟨e0, e1, e2, e3⟩ := fOf_wd hw
  have hone := fun h => oneX_leaf (x := x) h hw
  have HC : ∀ w, Calls Tryd.prog 46 #[.agg #[.int .u64 x.a, .int .u64 x.b, .int .u64 x.c, .int .u64 x.d]] w fun e w' => e = .returned (fxv (oneX (fOf x)) false) ∧ Below w.heap.size w w' := fun w => by
    have h := coneof_any (fOf x) w
    unfold svr at h
    rwa [← e0, ← e1, ← e2, ← e3] at h
  rcases hk with hk | hk
  · rw [hone hk] at HC
    unfold ndr7
    rw [hk]
    exact len_set x.a x.b x.c x.d x.lo x.hi _ _ _ _ _ _ _ _ v w HC
  · have : leafX x = fx0 := by unfold leafX; rw [if_neg (by omega)]
    rw [this]
    unfold fxPost
    rw [fxv_zero]
    exact len_zero x.k hk _ _ _ _ _ _ v w

theorem told_leaf (x : Nd) (hk : x.k = 1 ∨ x.k = 2 ∨ x.k = 3 ∨ x.k = 4) (hw : okW x) (p : Option Addr) (cap : Nat) (w : World) :
    Calls Tryd.prog 24 #[ndr7 x, .slice p 0 cap] w (fxPost (leafX x) (x.k == 3 || x.k == 4) w) := by
  have HC := fun w' (_ : Below w.heap.size w w') => len_leaf x hk hw (.slice p 0 cap) w'
  generalize leafX x = X at *
  obtain ⟨k, a, b, c, d, lo, hi⟩ := x
  simp only at hk HC ⊢
  rcases hk with rfl | rfl | rfl | rfl
  · exact told_1 a b c d lo hi X.nv X.ls X.ms _ _ _ _ false p cap w HC
  · exact told_2 a b c d lo hi X.nv X.ls X.ms _ _ _ _ false p cap w HC
  · exact told_3 a b c d lo hi X.nv X.ls X.ms _ _ _ _ false p cap w HC
  · exact told_4 a b c d lo hi X.nv X.ls X.ms _ _ _ _ false p cap w HC

theorem told_rep (x : Nd) (hk : x.k = 7) (A : Fx) (hA : bdX A) (h0 : 0 ≤ x.lo) (h1 : x.lo ≤ 32) (hh : x.hi = -1 ∨ (x.lo ≤ x.hi ∧ x.hi ≤ 32)) (ea : Bool) (b o cap : Nat) (w : World) (hb : b < w.heap.size) (ha : fxAt w b o A ea) :
    Calls Tryd.prog 24 #[ndr7 x, .slice (some ⟨b, o, none⟩) 1 cap] w (fxPost (repX x.lo x.hi A) ea w) := by
  obtain ⟨k, xa, xb, xc, xd, lo, hi⟩ := x
  simp only at hk h0 h1 hh ⊢
  subst hk
  have HC := fun w' (hB : Below w.heap.size w w') => len_rep xa xb xc xd lo hi A.nv A.ls A.ms _ _ _ _ ea (repX lo hi A).nv (repX lo hi A).ls (repX lo hi A).ms _ _ _ _ false b o cap w' (Nat.lt_of_lt_of_le hb hB.size) (ha.below hB hb) (fun w => cagain_any A hA lo hi h0 h1 hh ea w)
  exact told_7 xa xb xc xd lo hi A.nv A.ls A.ms _ _ _ _ ea _ _ _ _ _ _ _ _ b o cap w hb ha HC

theorem told_cat (x : Nd) (hk : x.k = 5) (A B : Fx) (hA : bdX A) (hB : bdX B) (ea eb : Bool) (b o cap : Nat) (w : World) (hb : b < w.heap.size) (ha : fxAt w b o A ea) (hb' : fxAt w b (o + 8) B eb) :
    Calls Tryd.prog 24 #[ndr7 x, .slice (some ⟨b, o, none⟩) 2 cap] w (fxPost (catX A B) (ea || eb) w) := by
  obtain ⟨k, xa, xb, xc, xd, lo, hi⟩ := x
  simp only at hk ⊢
  subst hk
  have HC := fun w' (hB' : Below w.heap.size w w') => len_cat xa xb xc xd lo hi A.nv A.ls A.ms _ _ _ _ ea B.nv B.ls B.ms _ _ _ _ eb (catX A B).nv (catX A B).ls (catX A B).ms _ _ _ _ false b o cap w' (Nat.lt_of_lt_of_le hb hB'.size) (ha.below hB' hb) (hb'.below hB' hb) (fun w => cbeh_any A B hA hB ea eb w)
  cases ea with
  | false => exact told_5f xa xb xc xd lo hi A.nv A.ls A.ms _ _ _ _ B.nv B.ls B.ms _ _ _ _ eb _ _ _ _ _ _ _ _ b o cap w hb ha hb' HC
  | true => exact told_5t xa xb xc xd lo hi A.nv A.ls A.ms _ _ _ _ B.nv B.ls B.ms _ _ _ _ eb _ _ _ _ _ _ _ _ b o cap w hb ha hb' HC

theorem told_or (x : Nd) (hk : x.k = 6) (A B : Fx) (hA : bdX A) (hB : bdX B) (ea eb : Bool) (b o cap : Nat) (w : World) (hb : b < w.heap.size) (ha : fxAt w b o A ea) (hb' : fxAt w b (o + 8) B eb) :
    Calls Tryd.prog 24 #[ndr7 x, .slice (some ⟨b, o, none⟩) 2 cap] w (fxPost (orX A B) (ea || eb) w) := by
  obtain ⟨k, xa, xb, xc, xd, lo, hi⟩ := x
  simp only at hk ⊢
  subst hk
  obtain ⟨er, her⟩ := ceit_any A B hA hB ea eb
  have HC := fun w' (hB' : Below w.heap.size w w') => len_or xa xb xc xd lo hi A.nv A.ls A.ms _ _ _ _ ea B.nv B.ls B.ms _ _ _ _ eb (orX A B).nv (orX A B).ls (orX A B).ms _ _ _ _ er b o cap w' (Nat.lt_of_lt_of_le hb hB'.size) (ha.below hB' hb) (hb'.below hB' hb) her
  cases ea with
  | false => exact told_6f xa xb xc xd lo hi A.nv A.ls A.ms _ _ _ _ B.nv B.ls B.ms _ _ _ _ eb _ _ _ _ _ _ _ _ b o cap w hb ha hb' HC
  | true => exact told_6t xa xb xc xd lo hi A.nv A.ls A.ms _ _ _ _ B.nv B.ls B.ms _ _ _ _ eb _ _ _ _ _ _ _ _ b o cap w hb ha hb' HC

/-- What was told of the parts of a list, in a block. -/
def fxsAt (N : Nat → Nd) (L : List Nat) (w : World) (g : Nat) : Prop := ∀ j (h : j < L.length), fxAt w g (j * 8) (fxT (trT N L[j])) (enT (trT N L[j]))
theorem told_at {N : Nat → Nd} {n k : Nat} (ht : tree N n) (hk : k < n) (hw : okW (N k)) (w : World) (g cap : Nat) (hg : g < w.heap.size) (hp : fxsAt N (roots7 N k) w g) :
    Calls Tryd.prog 24 #[ndr7 (N k), .slice (some ⟨g, ((roots7 N k).length - (ar (N k).k).toNat) * 8, none⟩) (ar (N k).k).toNat cap] w (fxPost (fxT (trT N k)) (enT (trT N k)) w) := by
  obtain ⟨f, hf, hc⟩ := nd_is ht hk
  have hok := ((tree_iff.1 ht).2.2.1 k hk).2
  have bd : ∀ j, j < n → bdX (fxT (trT N j)) := fun j hj => by
    obtain ⟨f, hf, _⟩ := fst_nat ht hj
    exact bdX_T _ (trT_is ht j j (Nat.le_refl _) hj f hf).2.1
  cases hc with
  | leaf _ hkk _ =>
    rw [trT_leaf hkk, show (ar (N k).k).toNat = 0 by rcases hkk with h | h | h | h <;> rw [h] <;> rfl]
    exact told_leaf (N k) hkk hw _ cap w
  | @one p _ _ hkk h1 h2 _ =>
    have hr := roots_fst7 ht (show p < n by omega) h1
    have ha : (ar (N (p + 1)).k).toNat = 1 := by rw [hkk]; rfl
    have hlen : (roots7 N (p + 1)).length = (roots7 N f).length + 1 := by rw [hr]; simp
    have h0 := hp (roots7 N f).length (by omega)
    have hget : (roots7 N (p + 1))[(roots7 N f).length]'(by omega) = p := by simp [hr]
    rw [hget] at h0
    rw [trT_one hkk, ha, hlen, Nat.add_sub_cancel]
    have hrep := okN_rep hok hkk
    exact told_rep (N (p + 1)) hkk _ (bd p (by omega)) hrep.1 hrep.2.1 hrep.2.2 _ g ((roots7 N f).length * 8) cap w hg h0
  | @two p q _ _ hkk h1 h2 h3 h4 _ =>
    have hr1 := roots_fst7 ht (show p < n by omega) h1
    have hr := roots_fst7 ht (show q < n by omega) h3
    rw [hr] at hr1
    have ha : (ar (N (p + 1)).k).toNat = 2 := by rcases hkk with h | h <;> rw [h] <;> rfl
    have hlen : (roots7 N (p + 1)).length = (roots7 N f).length + 2 := by rw [hr1]; simp
    have h0 := hp (roots7 N f).length (by omega)
    have hget : (roots7 N (p + 1))[(roots7 N f).length]'(by omega) = q := by simp [hr1]
    rw [hget] at h0
    have h1' := hp ((roots7 N f).length + 1) (by omega)
    have hget1 : (roots7 N (p + 1))[(roots7 N f).length + 1]'(by omega) = p := by simp [hr1]
    rw [hget1, show ((roots7 N f).length + 1) * 8 = (roots7 N f).length * 8 + 8 by omega] at h1'
    rw [ha, hlen, Nat.add_sub_cancel]
    rcases hkk with hkk | hkk
    · rw [trT_cat ht hk hkk h1 h2]
      exact told_cat (N (p + 1)) hkk _ _ (bd q (by omega)) (bd p (by omega)) _ _ g ((roots7 N f).length * 8) cap w hg h0 h1'
    · rw [trT_or ht hk hkk h1 h2]
      exact told_or (N (p + 1)) hkk _ _ (bd q (by omega)) (bd p (by omega)) _ _ g ((roots7 N f).length * 8) cap w hg h0 h1'

/-- How many states the parts of a list have, in a block. -/
def szsAt (N : Nat → Nd) (L : List Nat) (w : World) (g : Nat) : Prop := ∀ j (h : j < L.length), w.cell? ⟨g, j, none⟩ = some (.int .i64 (szF (trT N L[j])))
def szPost (D : Int) (w : World) (x : Ending) (w' : World) : Prop := x = .returned (.int .i64 D) ∧ Below w.heap.size w w'
theorem states_lf (x : Nd) (hk : x.k = 1 ∨ x.k = 2 ∨ x.k = 3 ∨ x.k = 4) (v : Value) (w : World) : Calls Tryd.prog 26 #[ndr7 x, v] w (szPost 2 w) := states_leaf x.k hk _ _ _ _ _ _ v w
theorem states_at {N : Nat → Nd} {n k : Nat} (ht : tree N n) (hk : k < n) (w : World) (g cap : Nat) (hg : g < w.heap.size) (hp : szsAt N (roots7 N k) w g) :
    Calls Tryd.prog 26 #[ndr7 (N k), .slice (some ⟨g, (roots7 N k).length - (ar (N k).k).toNat, none⟩) (ar (N k).k).toNat cap] w (szPost (szF (trT N k)) w) := by
  obtain ⟨f, hf, hc⟩ := nd_is ht hk
  have hok := ((tree_iff.1 ht).2.2.1 k hk).2
  have bd : ∀ j, j < n → 2 ≤ szF (trT N j) ∧ szF (trT N j) ≤ 1048576 := fun j hj => by
    obtain ⟨f, hf, _⟩ := fst_nat ht hj
    exact sz_bd _ (trT_is ht j j (Nat.le_refl _) hj f hf).2.1
  cases hc with
  | leaf _ hkk _ =>
    rw [sz_leaf hkk]
    exact states_lf (N k) hkk _ w
  | @one p _ _ hkk h1 h2 _ =>
    have hr := roots_fst7 ht (show p < n by omega) h1
    have ha : (ar (N (p + 1)).k).toNat = 1 := by rw [hkk]; rfl
    have hlen : (roots7 N (p + 1)).length = (roots7 N f).length + 1 := by rw [hr]; simp
    have h0 := hp (roots7 N f).length (by omega)
    have hget : (roots7 N (p + 1))[(roots7 N f).length]'(by omega) = p := by simp [hr]
    rw [hget] at h0
    have hsz := sz_one (N := N) hkk
    rw [ha, hlen, Nat.add_sub_cancel, hsz]
    obtain ⟨r1, r2, r3⟩ := okN_rep hok hkk
    obtain ⟨b1, b2⟩ := bd p (by omega)
    generalize szF (trT N p) = x at *
    obtain ⟨y, hy⟩ : ∃ y, N (p + 1) = y := ⟨_, rfl⟩
    rw [hy] at hkk r1 r2 r3 ⊢
    clear hsz hy hok ha
    obtain ⟨kk, ya, yb, yc, yd, lo, hi⟩ := y
    simp only at hkk r1 r2 r3 ⊢
    subst hkk
    have m1 := mul_bd (x := lo) (y := x) r1 r2 (by omega) (by omega)
    have w1 : IntKind.i64.wrap (lo * x) = lo * x := by rw [IntKind.wrap_i64]; omega
    have w2 : IntKind.i64.wrap (2 + lo * x) = 2 + lo * x := by rw [IntKind.wrap_i64]; omega
    by_cases hh : hi = -1
    · subst hh
      have e1 : 2 + lo * x + (if (-1 : Int) = -1 then x + 1 else (-1 - lo) * (x + 1)) = 2 + lo * x + x + 1 := by rw [if_pos rfl]; omega
      rw [e1]
      exact states_inf _ _ _ _ lo g _ cap x _ w hg h0 w1 w2 (by rw [IntKind.wrap_i64]; omega) (by rw [IntKind.wrap_i64]; omega) (fun w => catmost_any _ w)
    · rw [if_neg hh]
      have m2 := mul_bd (x := hi - lo) (y := x + 1) (by omega) (by omega) (by omega) (by omega)
      exact states_rep _ _ _ _ lo hi g _ cap x _ w hg h0 (beq_eq_false_iff_ne.2 hh) w1 w2 (by rw [IntKind.wrap_i64]; omega) (by rw [IntKind.wrap_i64]; omega) (by rw [IntKind.wrap_i64]; omega) (by rw [IntKind.wrap_i64]; omega) (fun w => catmost_any _ w)
  | @two p q _ _ hkk h1 h2 h3 h4 _ =>
    have hr1 := roots_fst7 ht (show p < n by omega) h1
    have hr := roots_fst7 ht (show q < n by omega) h3
    rw [hr] at hr1
    have ha : (ar (N (p + 1)).k).toNat = 2 := by rcases hkk with h | h <;> rw [h] <;> rfl
    have hlen : (roots7 N (p + 1)).length = (roots7 N f).length + 2 := by rw [hr1]; simp
    have h0 := hp (roots7 N f).length (by omega)
    have hget : (roots7 N (p + 1))[(roots7 N f).length]'(by omega) = q := by simp [hr1]
    rw [hget] at h0
    have h1' := hp ((roots7 N f).length + 1) (by omega)
    have hget1 : (roots7 N (p + 1))[(roots7 N f).length + 1]'(by omega) = p := by simp [hr1]
    rw [hget1] at h1'
    rw [ha, hlen, Nat.add_sub_cancel]
    obtain ⟨b1, b2⟩ := bd p (by omega)
    obtain ⟨b3, b4⟩ := bd q (by omega)
    rcases hkk with hkk | hkk
    · rw [sz_cat ht hk hkk h1 h2]
      unfold ndr7
      rw [hkk]
      exact states_cat _ _ _ _ _ _ g _ cap _ _ _ w hg h0 h1' (by rw [IntKind.wrap_i64]; omega) (fun w => catmost_any _ w)
    · rw [sz_or ht hk hkk h1 h2]
      unfold ndr7
      rw [hkk]
      exact states_or _ _ _ _ _ _ g _ cap _ _ _ w hg h0 h1' (by rw [IntKind.wrap_i64]; omega) (by rw [IntKind.wrap_i64]; omega) (fun w => catmost_any _ w)
end Go.Proofs.YtjbmkbgoahppfaaDoor
