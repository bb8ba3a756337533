/-
  The walk of facts' told: two arguments.
-/
import Derived.Test.YtpjmogcphgaimaaPk38
import Derived.Deep.RegionHeldLaw
namespace Go.Proofs.Ytpjmogcphgaimaa
open Go.RowKit

set_option maxRecDepth 100000 in
set_option maxHeartbeats 4000000 in
theorem told_5f (xa xb xc xd lo hi : Int) (an : Bool) (als ams a0 a1 a2 a3 : Int)  (bn : Bool) (bls bms b0 b1 b2 b3 : Int) (eb : Bool) (rn : Bool) (rls rms r0 r1 r2 r3 : Int) (er : Bool) (b o cap : Nat) (w : World) (hb : b < w.heap.size)
    (h0 : w.cell? ⟨b, o, none⟩ = some (.bool an) ∧ w.cell? ⟨b, o + 1, none⟩ = some (.int .i64 als) ∧ w.cell? ⟨b, o + 2, none⟩ = some (.int .i64 ams) ∧ w.cell? ⟨b, o + 3, none⟩ = some (.int .u64 a0) ∧ w.cell? ⟨b, o + 4, none⟩ = some (.int .u64 a1) ∧ w.cell? ⟨b, o + 5, none⟩ = some (.int .u64 a2) ∧ w.cell? ⟨b, o + 6, none⟩ = some (.int .u64 a3) ∧ w.cell? ⟨b, o + 7, none⟩ = some (.bool false))
    (h1 : w.cell? ⟨b, o + 8, none⟩ = some (.bool bn) ∧ w.cell? ⟨b, o + 9, none⟩ = some (.int .i64 bls) ∧ w.cell? ⟨b, o + 10, none⟩ = some (.int .i64 bms) ∧ w.cell? ⟨b, o + 11, none⟩ = some (.int .u64 b0) ∧ w.cell? ⟨b, o + 12, none⟩ = some (.int .u64 b1) ∧ w.cell? ⟨b, o + 13, none⟩ = some (.int .u64 b2) ∧ w.cell? ⟨b, o + 14, none⟩ = some (.int .u64 b3) ∧ w.cell? ⟨b, o + 15, none⟩ = some (.bool eb))
    (HC : ∀ w', Below w.heap.size w w' → Calls Try.prog 27 #[.agg #[.int .i64 5, .int .u64 xa, .int .u64 xb, .int .u64 xc, .int .u64 xd, .int .i64 lo, .int .i64 hi], .slice (some ⟨b, o, none⟩) 2 cap] w' fun e w'' => e = .returned (fxr rn rls rms r0 r1 r2 r3 er) ∧ Below w'.heap.size w' w'') :
    Calls Try.prog 21 #[.agg #[.int .i64 5, .int .u64 xa, .int .u64 xb, .int .u64 xc, .int .u64 xd, .int .i64 lo, .int .i64 hi], .slice (some ⟨b, o, none⟩) 2 cap] w fun e w' => e = .returned (fxr rn rls rms r0 r1 r2 r3 eb) ∧ Below w.heap.size w w' := by
  obtain ⟨W, hW⟩ : ∃ W, (w.alloc (.cells #[.int .i64 5, .int .u64 xa, .int .u64 xb, .int .u64 xc, .int .u64 xd, .int .i64 lo, .int .i64 hi] 44)).alloc (.cells #[.bool false, .int .i64 0, .int .i64 0, .int .u64 0, .int .u64 0, .int .u64 0, .int .u64 0, .bool false] 31) = W := ⟨_, rfl⟩
  have hBW : Below w.heap.size w W := hW ▸ ((Below.refl _ _).alloc (Nat.le_refl _) _).alloc (by simp) _
  have hz : W.heap.size = w.heap.size + 2 := by rw [← hW]; simp
  have n0 : W.cell? ⟨w.heap.size, 0, none⟩ = some (.int .i64 5) := by rw [← hW]; simp
  have n1 : W.cell? ⟨w.heap.size, 1, none⟩ = some (.int .u64 xa) := by rw [← hW]; simp
  have n2 : W.cell? ⟨w.heap.size, 2, none⟩ = some (.int .u64 xb) := by rw [← hW]; simp
  have n3 : W.cell? ⟨w.heap.size, 3, none⟩ = some (.int .u64 xc) := by rw [← hW]; simp
  have n4 : W.cell? ⟨w.heap.size, 4, none⟩ = some (.int .u64 xd) := by rw [← hW]; simp
  have n5 : W.cell? ⟨w.heap.size, 5, none⟩ = some (.int .i64 lo) := by rw [← hW]; simp
  have n6 : W.cell? ⟨w.heap.size, 6, none⟩ = some (.int .i64 hi) := by rw [← hW]; simp
  have EC : isFx W (w.heap.size + 1) false 0 0 0 0 0 0 false := hW ▸ (show isFx _ _ _ _ _ _ _ _ _ _ from by
    have := isFx.new (w.alloc (.cells #[.int .i64 5, .int .u64 xa, .int .u64 xb, .int .u64 xc, .int .u64 xd, .int .i64 lo, .int .i64 hi] 44)) false 0 0 0 0 0 0 false
    rw [World.size_alloc] at this
    exact this)
  have HCh := Lib.hid (HC W hBW)
  have HBW := Lib.hid hBW
  have HEC := Lib.hid EC
  have HN := Lib.hid n0
  have H0 : Hid (∀ w', Below w.heap.size w w' → w'.cell? ⟨b, o, none⟩ = some (.bool an) ∧ w'.cell? ⟨b, o + 1, none⟩ = some (.int .i64 als) ∧ w'.cell? ⟨b, o + 2, none⟩ = some (.int .i64 ams) ∧ w'.cell? ⟨b, o + 3, none⟩ = some (.int .u64 a0) ∧ w'.cell? ⟨b, o + 4, none⟩ = some (.int .u64 a1) ∧ w'.cell? ⟨b, o + 5, none⟩ = some (.int .u64 a2) ∧ w'.cell? ⟨b, o + 6, none⟩ = some (.int .u64 a3) ∧ w'.cell? ⟨b, o + 7, none⟩ = some (.bool false)) := Lib.hid fun w' hB => by
    obtain ⟨u0, u1, u2, u3, u4, u5, u6, u7⟩ := h0
    exact ⟨cell_far hB hb u0, cell_far hB hb u1, cell_far hB hb u2, cell_far hB hb u3, cell_far hB hb u4, cell_far hB hb u5, cell_far hB hb u6, cell_far hB hb u7⟩
  have H1 : Hid (∀ w', Below w.heap.size w w' → w'.cell? ⟨b, o + 8, none⟩ = some (.bool bn) ∧ w'.cell? ⟨b, o + 9, none⟩ = some (.int .i64 bls) ∧ w'.cell? ⟨b, o + 10, none⟩ = some (.int .i64 bms) ∧ w'.cell? ⟨b, o + 11, none⟩ = some (.int .u64 b0) ∧ w'.cell? ⟨b, o + 12, none⟩ = some (.int .u64 b1) ∧ w'.cell? ⟨b, o + 13, none⟩ = some (.int .u64 b2) ∧ w'.cell? ⟨b, o + 14, none⟩ = some (.int .u64 b3) ∧ w'.cell? ⟨b, o + 15, none⟩ = some (.bool eb)) := Lib.hid fun w' hB => by
    obtain ⟨u0, u1, u2, u3, u4, u5, u6, u7⟩ := h1
    exact ⟨cell_far hB hb u0, cell_far hB hb u1, cell_far hB hb u2, cell_far hB hb u3, cell_far hB hb u4, cell_far hB hb u5, cell_far hB hb u6, cell_far hB hb u7⟩
  obtain ⟨C, hC⟩ : ∃ C, w.heap.size + 1 = C := ⟨_, rfl⟩
  rw [hC] at HEC
  obtain ⟨NN, hNN⟩ : ∃ NN, w.heap.size = NN := ⟨_, rfl⟩
  have HZ : Hid (W.heap.size = C + 1 ∧ w.heap.size ≤ C ∧ w.heap.size = NN ∧ NN < C) := Lib.hid ⟨by omega, by omega, hNN, by omega⟩
  rw [hNN] at HN n0 n1 n2 n3 n4 n5 n6 hC
  clear EC hBW hz HC h0 h1 hb
  go_enter Try.func21, Try.ntmps21
  go_wp2_with fail
  refine HCh.out.mono ?_
  rintro e wk ⟨rfl, hb⟩
  have E1 := (HEC.out.below hb (by have := HZ.out; omega)).alloc (.cells #[.bool rn, .int .i64 rls, .int .i64 rms, .int .u64 r0, .int .u64 r1, .int .u64 r2, .int .u64 r3, .bool er] 31)
  have D1 := isFx.new wk rn rls rms r0 r1 r2 r3 er
  have N1 : (wk.alloc (.cells #[.bool rn, .int .i64 rls, .int .i64 rms, .int .u64 r0, .int .u64 r1, .int .u64 r2, .int .u64 r3, .bool er] 31)).cell? ⟨NN, 0, none⟩ = some (.int .i64 5) := cell_far ((Below.refl wk.heap.size wk).alloc (Nat.le_refl _) _) (by have := hb.size; have := HZ.out; omega) (cell_far hb (by have := HZ.out; omega) HN.out)
  have hB := (HBW.out.trans (hb.mono HBW.out.size)).alloc (Nat.le_trans HBW.out.size hb.size) (.cells #[.bool rn, .int .i64 rls, .int .i64 rms, .int .u64 r0, .int .u64 r1, .int .u64 r2, .int .u64 r3, .bool er] 31)
  have hDC : C < wk.heap.size := by have := hb.size; have := HZ.out; omega
  clear hb hW HEC HBW n0 n1 n2 n3 n4 n5 n6 hC hNN HCh HN
  go_upto_region 2 with (fail)
  generalize wk.alloc (.cells #[.bool rn, .int .i64 rls, .int .i64 rms, .int .u64 r0, .int .u64 r1, .int .u64 r2, .int .u64 r3, .bool er] 31) = W2 at *
  generalize wk.heap.size = D at *
  have hDw : w.heap.size ≤ D := by have := HZ.out; omega
  have hCw : w.heap.size ≤ C := HZ.out.2.1
  have hCD : ¬ (C = D) := by omega
  have hDC' : D < W2.heap.size := D1.lt
  clear HZ
  have HE2 := Lib.hid (E1.set hCD 7 (.bool false))
  have HD2 := Lib.hid (D1.put7 false)
  have HB2 := Lib.hid (hB.setCell (p := ⟨D, 7, none⟩) hDw (.bool false))
  obtain ⟨g0, g1, g2, g3, g4, g5, g6, g7⟩ := D1.cells
  obtain ⟨f0, f1, f2, f3, f4, f5, f6, f7⟩ := D1.free
  clear E1 D1 hB
  go_upto_region 3 with (fail)
  generalize W2.setCell ⟨D, 7, none⟩ (.bool false) = W3 at *
  clear g0 g1 g2 g3 g4 g5 g6 g7 f0 f1 f2 f3 f4 f5 f6 f7 N1 hDC'
  go_wp2_with fail
  refine wp_loop_rounds 3 ?_
  obtain ⟨kk0, kk1, kk2, kk3, kk4, kk5, kk6, kk7⟩ := H0.out _ HB2.out
  have hA0 := isFx.new W3 an als ams a0 a1 a2 a3 false
  have e10 := HE2.out.alloc (.cells #[.bool an, .int .i64 als, .int .i64 ams, .int .u64 a0, .int .u64 a1, .int .u64 a2, .int .u64 a3, .bool false] 31)
  have d10 := HD2.out.alloc (.cells #[.bool an, .int .i64 als, .int .i64 ams, .int .u64 a0, .int .u64 a1, .int .u64 a2, .int .u64 a3, .bool false] 31)
  have b10 := HB2.out.alloc HB2.out.size (.cells #[.bool an, .int .i64 als, .int .i64 ams, .int .u64 a0, .int .u64 a1, .int .u64 a2, .int .u64 a3, .bool false] 31)
  have s0 : ¬ (D = W3.heap.size) := by have := HD2.out.lt; omega
  have HE30 := Lib.hid (e10.set hCD 7 (.bool false))
  have HD30 := Lib.hid (d10.put7 false)
  have HB30 := Lib.hid (b10.setCell (p := ⟨D, 7, none⟩) hDw (.bool false))
  obtain ⟨g0, g1, g2, g3, g4, g5, g6, g7⟩ := d10.cells
  obtain ⟨f0, f1, f2, f3, f4, f5, f6, f7⟩ := d10.free
  obtain ⟨-, -, -, -, -, -, -, y7⟩ := hA0.cells
  clear hA0 e10 d10 b10
  rw [rounds_succ]
  go_wp2_with fail
  generalize (W3.alloc (.cells #[.bool an, .int .i64 als, .int .i64 ams, .int .u64 a0, .int .u64 a1, .int .u64 a2, .int .u64 a3, .bool false] 31)).setCell ⟨D, 7, none⟩ (.bool false) = W4 at *
  clear kk0 kk1 kk2 kk3 kk4 kk5 kk6 kk7 g0 g1 g2 g3 g4 g5 g6 g7 f0 f1 f2 f3 f4 f5 f6 f7 y7 s0 HE2 HD2 HB2
  obtain ⟨kk0, kk1, kk2, kk3, kk4, kk5, kk6, kk7⟩ := H1.out _ HB30.out
  have hA1 := isFx.new W4 bn bls bms b0 b1 b2 b3 eb
  have e11 := HE30.out.alloc (.cells #[.bool bn, .int .i64 bls, .int .i64 bms, .int .u64 b0, .int .u64 b1, .int .u64 b2, .int .u64 b3, .bool eb] 31)
  have d11 := HD30.out.alloc (.cells #[.bool bn, .int .i64 bls, .int .i64 bms, .int .u64 b0, .int .u64 b1, .int .u64 b2, .int .u64 b3, .bool eb] 31)
  have b11 := HB30.out.alloc HB30.out.size (.cells #[.bool bn, .int .i64 bls, .int .i64 bms, .int .u64 b0, .int .u64 b1, .int .u64 b2, .int .u64 b3, .bool eb] 31)
  have s1 : ¬ (D = W4.heap.size) := by have := HD30.out.lt; omega
  have HE31 := Lib.hid (e11.set hCD 7 (.bool eb))
  have HD31 := Lib.hid (d11.put7 eb)
  have HB31 := Lib.hid (b11.setCell (p := ⟨D, 7, none⟩) hDw (.bool eb))
  obtain ⟨g0, g1, g2, g3, g4, g5, g6, g7⟩ := d11.cells
  obtain ⟨f0, f1, f2, f3, f4, f5, f6, f7⟩ := d11.free
  obtain ⟨-, -, -, -, -, -, -, y7⟩ := hA1.cells
  clear hA1 e11 d11 b11
  rw [rounds_succ]
  go_wp2_with fail
  generalize (W4.alloc (.cells #[.bool bn, .int .i64 bls, .int .i64 bms, .int .u64 b0, .int .u64 b1, .int .u64 b2, .int .u64 b3, .bool eb] 31)).setCell ⟨D, 7, none⟩ (.bool eb) = W5 at *
  clear kk0 kk1 kk2 kk3 kk4 kk5 kk6 kk7 g0 g1 g2 g3 g4 g5 g6 g7 f0 f1 f2 f3 f4 f5 f6 f7 y7 s1 HE30 HD30 HB30
  obtain ⟨g0, g1, g2, g3, g4, g5, g6, g7⟩ := HD31.out.cells
  obtain ⟨c0, c1, c2, c3, c4, c5, c6, c7⟩ := HE31.out.cells
  obtain ⟨f0, f1, f2, f3, f4, f5, f6, f7⟩ := HE31.out.free
  have HS := Lib.hid (below_st8 HB31.out hCw rn rls rms r0 r1 r2 r3 eb)
  have Z := HE31.out.stored rn rls rms r0 r1 r2 r3 eb
  unfold set8 at Z
  have Z := Lib.hid Z.cells
  clear HE31 HD31 HB31 hCw hDw hDC hCD
  rw [rounds_succ]
  go_wp2_with fail
  refine bodyPost_ret (v := fxr rn rls rms r0 r1 r2 r3 eb) ?h rfl ⟨rfl, HS.out⟩
  case h =>
    have Z0 := Z.out
    generalize ((((((((W5.setCell ⟨C, 0, none⟩ (.bool rn)).setCell ⟨C, 1, none⟩ (.int .i64 rls)).setCell ⟨C, 2, none⟩ (.int .i64 rms)).setCell ⟨C, 3, none⟩ (.int .u64 r0)).setCell ⟨C, 4, none⟩ (.int .u64 r1)).setCell ⟨C, 5, none⟩ (.int .u64 r2)).setCell ⟨C, 6, none⟩ (.int .u64 r3)).setCell ⟨C, 7, none⟩ (.bool eb)) = W9 at Z0 ⊢
    obtain ⟨z0, z1, z2, z3, z4, z5, z6, z7⟩ := Z0
    simp [results, Try.results21, go_sem, z0, z1, z2, z3, z4, z5, z6, z7]
set_option maxRecDepth 100000 in
set_option maxHeartbeats 4000000 in
theorem told_5t (xa xb xc xd lo hi : Int) (an : Bool) (als ams a0 a1 a2 a3 : Int)  (bn : Bool) (bls bms b0 b1 b2 b3 : Int) (eb : Bool) (rn : Bool) (rls rms r0 r1 r2 r3 : Int) (er : Bool) (b o cap : Nat) (w : World) (hb : b < w.heap.size)
    (h0 : w.cell? ⟨b, o, none⟩ = some (.bool an) ∧ w.cell? ⟨b, o + 1, none⟩ = some (.int .i64 als) ∧ w.cell? ⟨b, o + 2, none⟩ = some (.int .i64 ams) ∧ w.cell? ⟨b, o + 3, none⟩ = some (.int .u64 a0) ∧ w.cell? ⟨b, o + 4, none⟩ = some (.int .u64 a1) ∧ w.cell? ⟨b, o + 5, none⟩ = some (.int .u64 a2) ∧ w.cell? ⟨b, o + 6, none⟩ = some (.int .u64 a3) ∧ w.cell? ⟨b, o + 7, none⟩ = some (.bool true))
    (h1 : w.cell? ⟨b, o + 8, none⟩ = some (.bool bn) ∧ w.cell? ⟨b, o + 9, none⟩ = some (.int .i64 bls) ∧ w.cell? ⟨b, o + 10, none⟩ = some (.int .i64 bms) ∧ w.cell? ⟨b, o + 11, none⟩ = some (.int .u64 b0) ∧ w.cell? ⟨b, o + 12, none⟩ = some (.int .u64 b1) ∧ w.cell? ⟨b, o + 13, none⟩ = some (.int .u64 b2) ∧ w.cell? ⟨b, o + 14, none⟩ = some (.int .u64 b3) ∧ w.cell? ⟨b, o + 15, none⟩ = some (.bool eb))
    (HC : ∀ w', Below w.heap.size w w' → Calls Try.prog 27 #[.agg #[.int .i64 5, .int .u64 xa, .int .u64 xb, .int .u64 xc, .int .u64 xd, .int .i64 lo, .int .i64 hi], .slice (some ⟨b, o, none⟩) 2 cap] w' fun e w'' => e = .returned (fxr rn rls rms r0 r1 r2 r3 er) ∧ Below w'.heap.size w' w'') :
    Calls Try.prog 21 #[.agg #[.int .i64 5, .int .u64 xa, .int .u64 xb, .int .u64 xc, .int .u64 xd, .int .i64 lo, .int .i64 hi], .slice (some ⟨b, o, none⟩) 2 cap] w fun e w' => e = .returned (fxr rn rls rms r0 r1 r2 r3 true) ∧ Below w.heap.size w w' := by
  obtain ⟨W, hW⟩ : ∃ W, (w.alloc (.cells #[.int .i64 5, .int .u64 xa, .int .u64 xb, .int .u64 xc, .int .u64 xd, .int .i64 lo, .int .i64 hi] 44)).alloc (.cells #[.bool false, .int .i64 0, .int .i64 0, .int .u64 0, .int .u64 0, .int .u64 0, .int .u64 0, .bool false] 31) = W := ⟨_, rfl⟩
  have hBW : Below w.heap.size w W := hW ▸ ((Below.refl _ _).alloc (Nat.le_refl _) _).alloc (by simp) _
  have hz : W.heap.size = w.heap.size + 2 := by rw [← hW]; simp
  have n0 : W.cell? ⟨w.heap.size, 0, none⟩ = some (.int .i64 5) := by rw [← hW]; simp
  have n1 : W.cell? ⟨w.heap.size, 1, none⟩ = some (.int .u64 xa) := by rw [← hW]; simp
  have n2 : W.cell? ⟨w.heap.size, 2, none⟩ = some (.int .u64 xb) := by rw [← hW]; simp
  have n3 : W.cell? ⟨w.heap.size, 3, none⟩ = some (.int .u64 xc) := by rw [← hW]; simp
  have n4 : W.cell? ⟨w.heap.size, 4, none⟩ = some (.int .u64 xd) := by rw [← hW]; simp
  have n5 : W.cell? ⟨w.heap.size, 5, none⟩ = some (.int .i64 lo) := by rw [← hW]; simp
  have n6 : W.cell? ⟨w.heap.size, 6, none⟩ = some (.int .i64 hi) := by rw [← hW]; simp
  have EC : isFx W (w.heap.size + 1) false 0 0 0 0 0 0 false := hW ▸ (show isFx _ _ _ _ _ _ _ _ _ _ from by
    have := isFx.new (w.alloc (.cells #[.int .i64 5, .int .u64 xa, .int .u64 xb, .int .u64 xc, .int .u64 xd, .int .i64 lo, .int .i64 hi] 44)) false 0 0 0 0 0 0 false
    rw [World.size_alloc] at this
    exact this)
  have HCh := Lib.hid (HC W hBW)
  have HBW := Lib.hid hBW
  have HEC := Lib.hid EC
  have HN := Lib.hid n0
  have H0 : Hid (∀ w', Below w.heap.size w w' → w'.cell? ⟨b, o, none⟩ = some (.bool an) ∧ w'.cell? ⟨b, o + 1, none⟩ = some (.int .i64 als) ∧ w'.cell? ⟨b, o + 2, none⟩ = some (.int .i64 ams) ∧ w'.cell? ⟨b, o + 3, none⟩ = some (.int .u64 a0) ∧ w'.cell? ⟨b, o + 4, none⟩ = some (.int .u64 a1) ∧ w'.cell? ⟨b, o + 5, none⟩ = some (.int .u64 a2) ∧ w'.cell? ⟨b, o + 6, none⟩ = some (.int .u64 a3) ∧ w'.cell? ⟨b, o + 7, none⟩ = some (.bool true)) := Lib.hid fun w' hB => by
    obtain ⟨u0, u1, u2, u3, u4, u5, u6, u7⟩ := h0
    exact ⟨cell_far hB hb u0, cell_far hB hb u1, cell_far hB hb u2, cell_far hB hb u3, cell_far hB hb u4, cell_far hB hb u5, cell_far hB hb u6, cell_far hB hb u7⟩
  have H1 : Hid (∀ w', Below w.heap.size w w' → w'.cell? ⟨b, o + 8, none⟩ = some (.bool bn) ∧ w'.cell? ⟨b, o + 9, none⟩ = some (.int .i64 bls) ∧ w'.cell? ⟨b, o + 10, none⟩ = some (.int .i64 bms) ∧ w'.cell? ⟨b, o + 11, none⟩ = some (.int .u64 b0) ∧ w'.cell? ⟨b, o + 12, none⟩ = some (.int .u64 b1) ∧ w'.cell? ⟨b, o + 13, none⟩ = some (.int .u64 b2) ∧ w'.cell? ⟨b, o + 14, none⟩ = some (.int .u64 b3) ∧ w'.cell? ⟨b, o + 15, none⟩ = some (.bool eb)) := Lib.hid fun w' hB => by
    obtain ⟨u0, u1, u2, u3, u4, u5, u6, u7⟩ := h1
    exact ⟨cell_far hB hb u0, cell_far hB hb u1, cell_far hB hb u2, cell_far hB hb u3, cell_far hB hb u4, cell_far hB hb u5, cell_far hB hb u6, cell_far hB hb u7⟩
  obtain ⟨C, hC⟩ : ∃ C, w.heap.size + 1 = C := ⟨_, rfl⟩
  rw [hC] at HEC
  obtain ⟨NN, hNN⟩ : ∃ NN, w.heap.size = NN := ⟨_, rfl⟩
  have HZ : Hid (W.heap.size = C + 1 ∧ w.heap.size ≤ C ∧ w.heap.size = NN ∧ NN < C) := Lib.hid ⟨by omega, by omega, hNN, by omega⟩
  rw [hNN] at HN n0 n1 n2 n3 n4 n5 n6 hC
  clear EC hBW hz HC h0 h1 hb
  go_enter Try.func21, Try.ntmps21
  go_wp2_with fail
  refine HCh.out.mono ?_
  rintro e wk ⟨rfl, hb⟩
  have E1 := (HEC.out.below hb (by have := HZ.out; omega)).alloc (.cells #[.bool rn, .int .i64 rls, .int .i64 rms, .int .u64 r0, .int .u64 r1, .int .u64 r2, .int .u64 r3, .bool er] 31)
  have D1 := isFx.new wk rn rls rms r0 r1 r2 r3 er
  have N1 : (wk.alloc (.cells #[.bool rn, .int .i64 rls, .int .i64 rms, .int .u64 r0, .int .u64 r1, .int .u64 r2, .int .u64 r3, .bool er] 31)).cell? ⟨NN, 0, none⟩ = some (.int .i64 5) := cell_far ((Below.refl wk.heap.size wk).alloc (Nat.le_refl _) _) (by have := hb.size; have := HZ.out; omega) (cell_far hb (by have := HZ.out; omega) HN.out)
  have hB := (HBW.out.trans (hb.mono HBW.out.size)).alloc (Nat.le_trans HBW.out.size hb.size) (.cells #[.bool rn, .int .i64 rls, .int .i64 rms, .int .u64 r0, .int .u64 r1, .int .u64 r2, .int .u64 r3, .bool er] 31)
  have hDC : C < wk.heap.size := by have := hb.size; have := HZ.out; omega
  clear hb hW HEC HBW n0 n1 n2 n3 n4 n5 n6 hC hNN HCh HN
  go_upto_region 2 with (fail)
  generalize wk.alloc (.cells #[.bool rn, .int .i64 rls, .int .i64 rms, .int .u64 r0, .int .u64 r1, .int .u64 r2, .int .u64 r3, .bool er] 31) = W2 at *
  generalize wk.heap.size = D at *
  have hDw : w.heap.size ≤ D := by have := HZ.out; omega
  have hCw : w.heap.size ≤ C := HZ.out.2.1
  have hCD : ¬ (C = D) := by omega
  have hDC' : D < W2.heap.size := D1.lt
  clear HZ
  have HE2 := Lib.hid (E1.set hCD 7 (.bool false))
  have HD2 := Lib.hid (D1.put7 false)
  have HB2 := Lib.hid (hB.setCell (p := ⟨D, 7, none⟩) hDw (.bool false))
  obtain ⟨g0, g1, g2, g3, g4, g5, g6, g7⟩ := D1.cells
  obtain ⟨f0, f1, f2, f3, f4, f5, f6, f7⟩ := D1.free
  clear E1 D1 hB
  go_upto_region 3 with (fail)
  generalize W2.setCell ⟨D, 7, none⟩ (.bool false) = W3 at *
  clear g0 g1 g2 g3 g4 g5 g6 g7 f0 f1 f2 f3 f4 f5 f6 f7 N1 hDC'
  go_wp2_with fail
  refine wp_loop_rounds 3 ?_
  obtain ⟨kk0, kk1, kk2, kk3, kk4, kk5, kk6, kk7⟩ := H0.out _ HB2.out
  have hA0 := isFx.new W3 an als ams a0 a1 a2 a3 true
  have e10 := HE2.out.alloc (.cells #[.bool an, .int .i64 als, .int .i64 ams, .int .u64 a0, .int .u64 a1, .int .u64 a2, .int .u64 a3, .bool true] 31)
  have d10 := HD2.out.alloc (.cells #[.bool an, .int .i64 als, .int .i64 ams, .int .u64 a0, .int .u64 a1, .int .u64 a2, .int .u64 a3, .bool true] 31)
  have b10 := HB2.out.alloc HB2.out.size (.cells #[.bool an, .int .i64 als, .int .i64 ams, .int .u64 a0, .int .u64 a1, .int .u64 a2, .int .u64 a3, .bool true] 31)
  have s0 : ¬ (D = W3.heap.size) := by have := HD2.out.lt; omega
  have HE30 := Lib.hid (e10.set hCD 7 (.bool true))
  have HD30 := Lib.hid (d10.put7 true)
  have HB30 := Lib.hid (b10.setCell (p := ⟨D, 7, none⟩) hDw (.bool true))
  obtain ⟨g0, g1, g2, g3, g4, g5, g6, g7⟩ := d10.cells
  obtain ⟨f0, f1, f2, f3, f4, f5, f6, f7⟩ := d10.free
  obtain ⟨-, -, -, -, -, -, -, y7⟩ := hA0.cells
  clear hA0 e10 d10 b10
  rw [rounds_succ]
  go_wp2_with fail
  generalize (W3.alloc (.cells #[.bool an, .int .i64 als, .int .i64 ams, .int .u64 a0, .int .u64 a1, .int .u64 a2, .int .u64 a3, .bool true] 31)).setCell ⟨D, 7, none⟩ (.bool true) = W4 at *
  clear kk0 kk1 kk2 kk3 kk4 kk5 kk6 kk7 g0 g1 g2 g3 g4 g5 g6 g7 f0 f1 f2 f3 f4 f5 f6 f7 y7 s0 HE2 HD2 HB2
  obtain ⟨kk0, kk1, kk2, kk3, kk4, kk5, kk6, kk7⟩ := H1.out _ HB30.out
  have hA1 := isFx.new W4 bn bls bms b0 b1 b2 b3 eb
  have e11 := HE30.out.alloc (.cells #[.bool bn, .int .i64 bls, .int .i64 bms, .int .u64 b0, .int .u64 b1, .int .u64 b2, .int .u64 b3, .bool eb] 31)
  have d11 := HD30.out.alloc (.cells #[.bool bn, .int .i64 bls, .int .i64 bms, .int .u64 b0, .int .u64 b1, .int .u64 b2, .int .u64 b3, .bool eb] 31)
  have b11 := HB30.out.alloc HB30.out.size (.cells #[.bool bn, .int .i64 bls, .int .i64 bms, .int .u64 b0, .int .u64 b1, .int .u64 b2, .int .u64 b3, .bool eb] 31)
  have s1 : ¬ (D = W4.heap.size) := by have := HD30.out.lt; omega
  have HE31 := Lib.hid (e11.set hCD 7 (.bool true))
  have HD31 := Lib.hid (d11.put7 true)
  have HB31 := Lib.hid (b11.setCell (p := ⟨D, 7, none⟩) hDw (.bool true))
  obtain ⟨g0, g1, g2, g3, g4, g5, g6, g7⟩ := d11.cells
  obtain ⟨f0, f1, f2, f3, f4, f5, f6, f7⟩ := d11.free
  obtain ⟨-, -, -, -, -, -, -, y7⟩ := hA1.cells
  clear hA1 e11 d11 b11
  rw [rounds_succ]
  go_wp2_with fail
  generalize (W4.alloc (.cells #[.bool bn, .int .i64 bls, .int .i64 bms, .int .u64 b0, .int .u64 b1, .int .u64 b2, .int .u64 b3, .bool eb] 31)).setCell ⟨D, 7, none⟩ (.bool true) = W5 at *
  clear kk0 kk1 kk2 kk3 kk4 kk5 kk6 kk7 g0 g1 g2 g3 g4 g5 g6 g7 f0 f1 f2 f3 f4 f5 f6 f7 y7 s1 HE30 HD30 HB30
  obtain ⟨g0, g1, g2, g3, g4, g5, g6, g7⟩ := HD31.out.cells
  obtain ⟨c0, c1, c2, c3, c4, c5, c6, c7⟩ := HE31.out.cells
  obtain ⟨f0, f1, f2, f3, f4, f5, f6, f7⟩ := HE31.out.free
  have HS := Lib.hid (below_st8 HB31.out hCw rn rls rms r0 r1 r2 r3 true)
  have Z := HE31.out.stored rn rls rms r0 r1 r2 r3 true
  unfold set8 at Z
  have Z := Lib.hid Z.cells
  clear HE31 HD31 HB31 hCw hDw hDC hCD
  rw [rounds_succ]
  go_wp2_with fail
  refine bodyPost_ret (v := fxr rn rls rms r0 r1 r2 r3 true) ?h rfl ⟨rfl, HS.out⟩
  case h =>
    have Z0 := Z.out
    generalize ((((((((W5.setCell ⟨C, 0, none⟩ (.bool rn)).setCell ⟨C, 1, none⟩ (.int .i64 rls)).setCell ⟨C, 2, none⟩ (.int .i64 rms)).setCell ⟨C, 3, none⟩ (.int .u64 r0)).setCell ⟨C, 4, none⟩ (.int .u64 r1)).setCell ⟨C, 5, none⟩ (.int .u64 r2)).setCell ⟨C, 6, none⟩ (.int .u64 r3)).setCell ⟨C, 7, none⟩ (.bool true)) = W9 at Z0 ⊢
    obtain ⟨z0, z1, z2, z3, z4, z5, z6, z7⟩ := Z0
    simp [results, Try.results21, go_sem, z0, z1, z2, z3, z4, z5, z6, z7]
set_option maxRecDepth 100000 in
set_option maxHeartbeats 4000000 in
theorem told_6f (xa xb xc xd lo hi : Int) (an : Bool) (als ams a0 a1 a2 a3 : Int)  (bn : Bool) (bls bms b0 b1 b2 b3 : Int) (eb : Bool) (rn : Bool) (rls rms r0 r1 r2 r3 : Int) (er : Bool) (b o cap : Nat) (w : World) (hb : b < w.heap.size)
    (h0 : w.cell? ⟨b, o, none⟩ = some (.bool an) ∧ w.cell? ⟨b, o + 1, none⟩ = some (.int .i64 als) ∧ w.cell? ⟨b, o + 2, none⟩ = some (.int .i64 ams) ∧ w.cell? ⟨b, o + 3, none⟩ = some (.int .u64 a0) ∧ w.cell? ⟨b, o + 4, none⟩ = some (.int .u64 a1) ∧ w.cell? ⟨b, o + 5, none⟩ = some (.int .u64 a2) ∧ w.cell? ⟨b, o + 6, none⟩ = some (.int .u64 a3) ∧ w.cell? ⟨b, o + 7, none⟩ = some (.bool false))
    (h1 : w.cell? ⟨b, o + 8, none⟩ = some (.bool bn) ∧ w.cell? ⟨b, o + 9, none⟩ = some (.int .i64 bls) ∧ w.cell? ⟨b, o + 10, none⟩ = some (.int .i64 bms) ∧ w.cell? ⟨b, o + 11, none⟩ = some (.int .u64 b0) ∧ w.cell? ⟨b, o + 12, none⟩ = some (.int .u64 b1) ∧ w.cell? ⟨b, o + 13, none⟩ = some (.int .u64 b2) ∧ w.cell? ⟨b, o + 14, none⟩ = some (.int .u64 b3) ∧ w.cell? ⟨b, o + 15, none⟩ = some (.bool eb))
    (HC : ∀ w', Below w.heap.size w w' → Calls Try.prog 27 #[.agg #[.int .i64 6, .int .u64 xa, .int .u64 xb, .int .u64 xc, .int .u64 xd, .int .i64 lo, .int .i64 hi], .slice (some ⟨b, o, none⟩) 2 cap] w' fun e w'' => e = .returned (fxr rn rls rms r0 r1 r2 r3 er) ∧ Below w'.heap.size w' w'') :
    Calls Try.prog 21 #[.agg #[.int .i64 6, .int .u64 xa, .int .u64 xb, .int .u64 xc, .int .u64 xd, .int .i64 lo, .int .i64 hi], .slice (some ⟨b, o, none⟩) 2 cap] w fun e w' => e = .returned (fxr rn rls rms r0 r1 r2 r3 eb) ∧ Below w.heap.size w w' := by
  obtain ⟨W, hW⟩ : ∃ W, (w.alloc (.cells #[.int .i64 6, .int .u64 xa, .int .u64 xb, .int .u64 xc, .int .u64 xd, .int .i64 lo, .int .i64 hi] 44)).alloc (.cells #[.bool false, .int .i64 0, .int .i64 0, .int .u64 0, .int .u64 0, .int .u64 0, .int .u64 0, .bool false] 31) = W := ⟨_, rfl⟩
  have hBW : Below w.heap.size w W := hW ▸ ((Below.refl _ _).alloc (Nat.le_refl _) _).alloc (by simp) _
  have hz : W.heap.size = w.heap.size + 2 := by rw [← hW]; simp
  have n0 : W.cell? ⟨w.heap.size, 0, none⟩ = some (.int .i64 6) := by rw [← hW]; simp
  have n1 : W.cell? ⟨w.heap.size, 1, none⟩ = some (.int .u64 xa) := by rw [← hW]; simp
  have n2 : W.cell? ⟨w.heap.size, 2, none⟩ = some (.int .u64 xb) := by rw [← hW]; simp
  have n3 : W.cell? ⟨w.heap.size, 3, none⟩ = some (.int .u64 xc) := by rw [← hW]; simp
  have n4 : W.cell? ⟨w.heap.size, 4, none⟩ = some (.int .u64 xd) := by rw [← hW]; simp
  have n5 : W.cell? ⟨w.heap.size, 5, none⟩ = some (.int .i64 lo) := by rw [← hW]; simp
  have n6 : W.cell? ⟨w.heap.size, 6, none⟩ = some (.int .i64 hi) := by rw [← hW]; simp
  have EC : isFx W (w.heap.size + 1) false 0 0 0 0 0 0 false := hW ▸ (show isFx _ _ _ _ _ _ _ _ _ _ from by
    have := isFx.new (w.alloc (.cells #[.int .i64 6, .int .u64 xa, .int .u64 xb, .int .u64 xc, .int .u64 xd, .int .i64 lo, .int .i64 hi] 44)) false 0 0 0 0 0 0 false
    rw [World.size_alloc] at this
    exact this)
  have HCh := Lib.hid (HC W hBW)
  have HBW := Lib.hid hBW
  have HEC := Lib.hid EC
  have HN := Lib.hid n0
  have H0 : Hid (∀ w', Below w.heap.size w w' → w'.cell? ⟨b, o, none⟩ = some (.bool an) ∧ w'.cell? ⟨b, o + 1, none⟩ = some (.int .i64 als) ∧ w'.cell? ⟨b, o + 2, none⟩ = some (.int .i64 ams) ∧ w'.cell? ⟨b, o + 3, none⟩ = some (.int .u64 a0) ∧ w'.cell? ⟨b, o + 4, none⟩ = some (.int .u64 a1) ∧ w'.cell? ⟨b, o + 5, none⟩ = some (.int .u64 a2) ∧ w'.cell? ⟨b, o + 6, none⟩ = some (.int .u64 a3) ∧ w'.cell? ⟨b, o + 7, none⟩ = some (.bool false)) := Lib.hid fun w' hB => by
    obtain ⟨u0, u1, u2, u3, u4, u5, u6, u7⟩ := h0
    exact ⟨cell_far hB hb u0, cell_far hB hb u1, cell_far hB hb u2, cell_far hB hb u3, cell_far hB hb u4, cell_far hB hb u5, cell_far hB hb u6, cell_far hB hb u7⟩
  have H1 : Hid (∀ w', Below w.heap.size w w' → w'.cell? ⟨b, o + 8, none⟩ = some (.bool bn) ∧ w'.cell? ⟨b, o + 9, none⟩ = some (.int .i64 bls) ∧ w'.cell? ⟨b, o + 10, none⟩ = some (.int .i64 bms) ∧ w'.cell? ⟨b, o + 11, none⟩ = some (.int .u64 b0) ∧ w'.cell? ⟨b, o + 12, none⟩ = some (.int .u64 b1) ∧ w'.cell? ⟨b, o + 13, none⟩ = some (.int .u64 b2) ∧ w'.cell? ⟨b, o + 14, none⟩ = some (.int .u64 b3) ∧ w'.cell? ⟨b, o + 15, none⟩ = some (.bool eb)) := Lib.hid fun w' hB => by
    obtain ⟨u0, u1, u2, u3, u4, u5, u6, u7⟩ := h1
    exact ⟨cell_far hB hb u0, cell_far hB hb u1, cell_far hB hb u2, cell_far hB hb u3, cell_far hB hb u4, cell_far hB hb u5, cell_far hB hb u6, cell_far hB hb u7⟩
  obtain ⟨C, hC⟩ : ∃ C, w.heap.size + 1 = C := ⟨_, rfl⟩
  rw [hC] at HEC
  obtain ⟨NN, hNN⟩ : ∃ NN, w.heap.size = NN := ⟨_, rfl⟩
  have HZ : Hid (W.heap.size = C + 1 ∧ w.heap.size ≤ C ∧ w.heap.size = NN ∧ NN < C) := Lib.hid ⟨by omega, by omega, hNN, by omega⟩
  rw [hNN] at HN n0 n1 n2 n3 n4 n5 n6 hC
  clear EC hBW hz HC h0 h1 hb
  go_enter Try.func21, Try.ntmps21
  go_wp2_with fail
  refine HCh.out.mono ?_
  rintro e wk ⟨rfl, hb⟩
  have E1 := (HEC.out.below hb (by have := HZ.out; omega)).alloc (.cells #[.bool rn, .int .i64 rls, .int .i64 rms, .int .u64 r0, .int .u64 r1, .int .u64 r2, .int .u64 r3, .bool er] 31)
  have D1 := isFx.new wk rn rls rms r0 r1 r2 r3 er
  have N1 : (wk.alloc (.cells #[.bool rn, .int .i64 rls, .int .i64 rms, .int .u64 r0, .int .u64 r1, .int .u64 r2, .int .u64 r3, .bool er] 31)).cell? ⟨NN, 0, none⟩ = some (.int .i64 6) := cell_far ((Below.refl wk.heap.size wk).alloc (Nat.le_refl _) _) (by have := hb.size; have := HZ.out; omega) (cell_far hb (by have := HZ.out; omega) HN.out)
  have hB := (HBW.out.trans (hb.mono HBW.out.size)).alloc (Nat.le_trans HBW.out.size hb.size) (.cells #[.bool rn, .int .i64 rls, .int .i64 rms, .int .u64 r0, .int .u64 r1, .int .u64 r2, .int .u64 r3, .bool er] 31)
  have hDC : C < wk.heap.size := by have := hb.size; have := HZ.out; omega
  clear hb hW HEC HBW n0 n1 n2 n3 n4 n5 n6 hC hNN HCh HN
  go_upto_region 2 with (fail)
  generalize wk.alloc (.cells #[.bool rn, .int .i64 rls, .int .i64 rms, .int .u64 r0, .int .u64 r1, .int .u64 r2, .int .u64 r3, .bool er] 31) = W2 at *
  generalize wk.heap.size = D at *
  have hDw : w.heap.size ≤ D := by have := HZ.out; omega
  have hCw : w.heap.size ≤ C := HZ.out.2.1
  have hCD : ¬ (C = D) := by omega
  have hDC' : D < W2.heap.size := D1.lt
  clear HZ
  have HE2 := Lib.hid (E1.set hCD 7 (.bool false))
  have HD2 := Lib.hid (D1.put7 false)
  have HB2 := Lib.hid (hB.setCell (p := ⟨D, 7, none⟩) hDw (.bool false))
  obtain ⟨g0, g1, g2, g3, g4, g5, g6, g7⟩ := D1.cells
  obtain ⟨f0, f1, f2, f3, f4, f5, f6, f7⟩ := D1.free
  clear E1 D1 hB
  go_upto_region 3 with (fail)
  generalize W2.setCell ⟨D, 7, none⟩ (.bool false) = W3 at *
  clear g0 g1 g2 g3 g4 g5 g6 g7 f0 f1 f2 f3 f4 f5 f6 f7 N1 hDC'
  go_wp2_with fail
  refine wp_loop_rounds 3 ?_
  obtain ⟨kk0, kk1, kk2, kk3, kk4, kk5, kk6, kk7⟩ := H0.out _ HB2.out
  have hA0 := isFx.new W3 an als ams a0 a1 a2 a3 false
  have e10 := HE2.out.alloc (.cells #[.bool an, .int .i64 als, .int .i64 ams, .int .u64 a0, .int .u64 a1, .int .u64 a2, .int .u64 a3, .bool false] 31)
  have d10 := HD2.out.alloc (.cells #[.bool an, .int .i64 als, .int .i64 ams, .int .u64 a0, .int .u64 a1, .int .u64 a2, .int .u64 a3, .bool false] 31)
  have b10 := HB2.out.alloc HB2.out.size (.cells #[.bool an, .int .i64 als, .int .i64 ams, .int .u64 a0, .int .u64 a1, .int .u64 a2, .int .u64 a3, .bool false] 31)
  have s0 : ¬ (D = W3.heap.size) := by have := HD2.out.lt; omega
  have HE30 := Lib.hid (e10.set hCD 7 (.bool false))
  have HD30 := Lib.hid (d10.put7 false)
  have HB30 := Lib.hid (b10.setCell (p := ⟨D, 7, none⟩) hDw (.bool false))
  obtain ⟨g0, g1, g2, g3, g4, g5, g6, g7⟩ := d10.cells
  obtain ⟨f0, f1, f2, f3, f4, f5, f6, f7⟩ := d10.free
  obtain ⟨-, -, -, -, -, -, -, y7⟩ := hA0.cells
  clear hA0 e10 d10 b10
  rw [rounds_succ]
  go_wp2_with fail
  generalize (W3.alloc (.cells #[.bool an, .int .i64 als, .int .i64 ams, .int .u64 a0, .int .u64 a1, .int .u64 a2, .int .u64 a3, .bool false] 31)).setCell ⟨D, 7, none⟩ (.bool false) = W4 at *
  clear kk0 kk1 kk2 kk3 kk4 kk5 kk6 kk7 g0 g1 g2 g3 g4 g5 g6 g7 f0 f1 f2 f3 f4 f5 f6 f7 y7 s0 HE2 HD2 HB2
  obtain ⟨kk0, kk1, kk2, kk3, kk4, kk5, kk6, kk7⟩ := H1.out _ HB30.out
  have hA1 := isFx.new W4 bn bls bms b0 b1 b2 b3 eb
  have e11 := HE30.out.alloc (.cells #[.bool bn, .int .i64 bls, .int .i64 bms, .int .u64 b0, .int .u64 b1, .int .u64 b2, .int .u64 b3, .bool eb] 31)
  have d11 := HD30.out.alloc (.cells #[.bool bn, .int .i64 bls, .int .i64 bms, .int .u64 b0, .int .u64 b1, .int .u64 b2, .int .u64 b3, .bool eb] 31)
  have b11 := HB30.out.alloc HB30.out.size (.cells #[.bool bn, .int .i64 bls, .int .i64 bms, .int .u64 b0, .int .u64 b1, .int .u64 b2, .int .u64 b3, .bool eb] 31)
  have s1 : ¬ (D = W4.heap.size) := by have := HD30.out.lt; omega
  have HE31 := Lib.hid (e11.set hCD 7 (.bool eb))
  have HD31 := Lib.hid (d11.put7 eb)
  have HB31 := Lib.hid (b11.setCell (p := ⟨D, 7, none⟩) hDw (.bool eb))
  obtain ⟨g0, g1, g2, g3, g4, g5, g6, g7⟩ := d11.cells
  obtain ⟨f0, f1, f2, f3, f4, f5, f6, f7⟩ := d11.free
  obtain ⟨-, -, -, -, -, -, -, y7⟩ := hA1.cells
  clear hA1 e11 d11 b11
  rw [rounds_succ]
  go_wp2_with fail
  generalize (W4.alloc (.cells #[.bool bn, .int .i64 bls, .int .i64 bms, .int .u64 b0, .int .u64 b1, .int .u64 b2, .int .u64 b3, .bool eb] 31)).setCell ⟨D, 7, none⟩ (.bool eb) = W5 at *
  clear kk0 kk1 kk2 kk3 kk4 kk5 kk6 kk7 g0 g1 g2 g3 g4 g5 g6 g7 f0 f1 f2 f3 f4 f5 f6 f7 y7 s1 HE30 HD30 HB30
  obtain ⟨g0, g1, g2, g3, g4, g5, g6, g7⟩ := HD31.out.cells
  obtain ⟨c0, c1, c2, c3, c4, c5, c6, c7⟩ := HE31.out.cells
  obtain ⟨f0, f1, f2, f3, f4, f5, f6, f7⟩ := HE31.out.free
  have HS := Lib.hid (below_st8 HB31.out hCw rn rls rms r0 r1 r2 r3 eb)
  have Z := HE31.out.stored rn rls rms r0 r1 r2 r3 eb
  unfold set8 at Z
  have Z := Lib.hid Z.cells
  clear HE31 HD31 HB31 hCw hDw hDC hCD
  rw [rounds_succ]
  go_wp2_with fail
  refine bodyPost_ret (v := fxr rn rls rms r0 r1 r2 r3 eb) ?h rfl ⟨rfl, HS.out⟩
  case h =>
    have Z0 := Z.out
    generalize ((((((((W5.setCell ⟨C, 0, none⟩ (.bool rn)).setCell ⟨C, 1, none⟩ (.int .i64 rls)).setCell ⟨C, 2, none⟩ (.int .i64 rms)).setCell ⟨C, 3, none⟩ (.int .u64 r0)).setCell ⟨C, 4, none⟩ (.int .u64 r1)).setCell ⟨C, 5, none⟩ (.int .u64 r2)).setCell ⟨C, 6, none⟩ (.int .u64 r3)).setCell ⟨C, 7, none⟩ (.bool eb)) = W9 at Z0 ⊢
    obtain ⟨z0, z1, z2, z3, z4, z5, z6, z7⟩ := Z0
    simp [results, Try.results21, go_sem, z0, z1, z2, z3, z4, z5, z6, z7]
set_option maxRecDepth 100000 in
set_option maxHeartbeats 4000000 in
theorem told_6t (xa xb xc xd lo hi : Int) (an : Bool) (als ams a0 a1 a2 a3 : Int)  (bn : Bool) (bls bms b0 b1 b2 b3 : Int) (eb : Bool) (rn : Bool) (rls rms r0 r1 r2 r3 : Int) (er : Bool) (b o cap : Nat) (w : World) (hb : b < w.heap.size)
    (h0 : w.cell? ⟨b, o, none⟩ = some (.bool an) ∧ w.cell? ⟨b, o + 1, none⟩ = some (.int .i64 als) ∧ w.cell? ⟨b, o + 2, none⟩ = some (.int .i64 ams) ∧ w.cell? ⟨b, o + 3, none⟩ = some (.int .u64 a0) ∧ w.cell? ⟨b, o + 4, none⟩ = some (.int .u64 a1) ∧ w.cell? ⟨b, o + 5, none⟩ = some (.int .u64 a2) ∧ w.cell? ⟨b, o + 6, none⟩ = some (.int .u64 a3) ∧ w.cell? ⟨b, o + 7, none⟩ = some (.bool true))
    (h1 : w.cell? ⟨b, o + 8, none⟩ = some (.bool bn) ∧ w.cell? ⟨b, o + 9, none⟩ = some (.int .i64 bls) ∧ w.cell? ⟨b, o + 10, none⟩ = some (.int .i64 bms) ∧ w.cell? ⟨b, o + 11, none⟩ = some (.int .u64 b0) ∧ w.cell? ⟨b, o + 12, none⟩ = some (.int .u64 b1) ∧ w.cell? ⟨b, o + 13, none⟩ = some (.int .u64 b2) ∧ w.cell? ⟨b, o + 14, none⟩ = some (.int .u64 b3) ∧ w.cell? ⟨b, o + 15, none⟩ = some (.bool eb))
    (HC : ∀ w', Below w.heap.size w w' → Calls Try.prog 27 #[.agg #[.int .i64 6, .int .u64 xa, .int .u64 xb, .int .u64 xc, .int .u64 xd, .int .i64 lo, .int .i64 hi], .slice (some ⟨b, o, none⟩) 2 cap] w' fun e w'' => e = .returned (fxr rn rls rms r0 r1 r2 r3 er) ∧ Below w'.heap.size w' w'') :
    Calls Try.prog 21 #[.agg #[.int .i64 6, .int .u64 xa, .int .u64 xb, .int .u64 xc, .int .u64 xd, .int .i64 lo, .int .i64 hi], .slice (some ⟨b, o, none⟩) 2 cap] w fun e w' => e = .returned (fxr rn rls rms r0 r1 r2 r3 true) ∧ Below w.heap.size w w' := by
  obtain ⟨W, hW⟩ : ∃ W, (w.alloc (.cells #[.int .i64 6, .int .u64 xa, .int .u64 xb, .int .u64 xc, .int .u64 xd, .int .i64 lo, .int .i64 hi] 44)).alloc (.cells #[.bool false, .int .i64 0, .int .i64 0, .int .u64 0, .int .u64 0, .int .u64 0, .int .u64 0, .bool false] 31) = W := ⟨_, rfl⟩
  have hBW : Below w.heap.size w W := hW ▸ ((Below.refl _ _).alloc (Nat.le_refl _) _).alloc (by simp) _
  have hz : W.heap.size = w.heap.size + 2 := by rw [← hW]; simp
  have n0 : W.cell? ⟨w.heap.size, 0, none⟩ = some (.int .i64 6) := by rw [← hW]; simp
  have n1 : W.cell? ⟨w.heap.size, 1, none⟩ = some (.int .u64 xa) := by rw [← hW]; simp
  have n2 : W.cell? ⟨w.heap.size, 2, none⟩ = some (.int .u64 xb) := by rw [← hW]; simp
  have n3 : W.cell? ⟨w.heap.size, 3, none⟩ = some (.int .u64 xc) := by rw [← hW]; simp
  have n4 : W.cell? ⟨w.heap.size, 4, none⟩ = some (.int .u64 xd) := by rw [← hW]; simp
  have n5 : W.cell? ⟨w.heap.size, 5, none⟩ = some (.int .i64 lo) := by rw [← hW]; simp
  have n6 : W.cell? ⟨w.heap.size, 6, none⟩ = some (.int .i64 hi) := by rw [← hW]; simp
  have EC : isFx W (w.heap.size + 1) false 0 0 0 0 0 0 false := hW ▸ (show isFx _ _ _ _ _ _ _ _ _ _ from by
    have := isFx.new (w.alloc (.cells #[.int .i64 6, .int .u64 xa, .int .u64 xb, .int .u64 xc, .int .u64 xd, .int .i64 lo, .int .i64 hi] 44)) false 0 0 0 0 0 0 false
    rw [World.size_alloc] at this
    exact this)
  have HCh := Lib.hid (HC W hBW)
  have HBW := Lib.hid hBW
  have HEC := Lib.hid EC
  have HN := Lib.hid n0
  have H0 : Hid (∀ w', Below w.heap.size w w' → w'.cell? ⟨b, o, none⟩ = some (.bool an) ∧ w'.cell? ⟨b, o + 1, none⟩ = some (.int .i64 als) ∧ w'.cell? ⟨b, o + 2, none⟩ = some (.int .i64 ams) ∧ w'.cell? ⟨b, o + 3, none⟩ = some (.int .u64 a0) ∧ w'.cell? ⟨b, o + 4, none⟩ = some (.int .u64 a1) ∧ w'.cell? ⟨b, o + 5, none⟩ = some (.int .u64 a2) ∧ w'.cell? ⟨b, o + 6, none⟩ = some (.int .u64 a3) ∧ w'.cell? ⟨b, o + 7, none⟩ = some (.bool true)) := Lib.hid fun w' hB => by
    obtain ⟨u0, u1, u2, u3, u4, u5, u6, u7⟩ := h0
    exact ⟨cell_far hB hb u0, cell_far hB hb u1, cell_far hB hb u2, cell_far hB hb u3, cell_far hB hb u4, cell_far hB hb u5, cell_far hB hb u6, cell_far hB hb u7⟩
  have H1 : Hid (∀ w', Below w.heap.size w w' → w'.cell? ⟨b, o + 8, none⟩ = some (.bool bn) ∧ w'.cell? ⟨b, o + 9, none⟩ = some (.int .i64 bls) ∧ w'.cell? ⟨b, o + 10, none⟩ = some (.int .i64 bms) ∧ w'.cell? ⟨b, o + 11, none⟩ = some (.int .u64 b0) ∧ w'.cell? ⟨b, o + 12, none⟩ = some (.int .u64 b1) ∧ w'.cell? ⟨b, o + 13, none⟩ = some (.int .u64 b2) ∧ w'.cell? ⟨b, o + 14, none⟩ = some (.int .u64 b3) ∧ w'.cell? ⟨b, o + 15, none⟩ = some (.bool eb)) := Lib.hid fun w' hB => by
    obtain ⟨u0, u1, u2, u3, u4, u5, u6, u7⟩ := h1
    exact ⟨cell_far hB hb u0, cell_far hB hb u1, cell_far hB hb u2, cell_far hB hb u3, cell_far hB hb u4, cell_far hB hb u5, cell_far hB hb u6, cell_far hB hb u7⟩
  obtain ⟨C, hC⟩ : ∃ C, w.heap.size + 1 = C := ⟨_, rfl⟩
  rw [hC] at HEC
  obtain ⟨NN, hNN⟩ : ∃ NN, w.heap.size = NN := ⟨_, rfl⟩
  have HZ : Hid (W.heap.size = C + 1 ∧ w.heap.size ≤ C ∧ w.heap.size = NN ∧ NN < C) := Lib.hid ⟨by omega, by omega, hNN, by omega⟩
  rw [hNN] at HN n0 n1 n2 n3 n4 n5 n6 hC
  clear EC hBW hz HC h0 h1 hb
  go_enter Try.func21, Try.ntmps21
  go_wp2_with fail
  refine HCh.out.mono ?_
  rintro e wk ⟨rfl, hb⟩
  have E1 := (HEC.out.below hb (by have := HZ.out; omega)).alloc (.cells #[.bool rn, .int .i64 rls, .int .i64 rms, .int .u64 r0, .int .u64 r1, .int .u64 r2, .int .u64 r3, .bool er] 31)
  have D1 := isFx.new wk rn rls rms r0 r1 r2 r3 er
  have N1 : (wk.alloc (.cells #[.bool rn, .int .i64 rls, .int .i64 rms, .int .u64 r0, .int .u64 r1, .int .u64 r2, .int .u64 r3, .bool er] 31)).cell? ⟨NN, 0, none⟩ = some (.int .i64 6) := cell_far ((Below.refl wk.heap.size wk).alloc (Nat.le_refl _) _) (by have := hb.size; have := HZ.out; omega) (cell_far hb (by have := HZ.out; omega) HN.out)
  have hB := (HBW.out.trans (hb.mono HBW.out.size)).alloc (Nat.le_trans HBW.out.size hb.size) (.cells #[.bool rn, .int .i64 rls, .int .i64 rms, .int .u64 r0, .int .u64 r1, .int .u64 r2, .int .u64 r3, .bool er] 31)
  have hDC : C < wk.heap.size := by have := hb.size; have := HZ.out; omega
  clear hb hW HEC HBW n0 n1 n2 n3 n4 n5 n6 hC hNN HCh HN
  go_upto_region 2 with (fail)
  generalize wk.alloc (.cells #[.bool rn, .int .i64 rls, .int .i64 rms, .int .u64 r0, .int .u64 r1, .int .u64 r2, .int .u64 r3, .bool er] 31) = W2 at *
  generalize wk.heap.size = D at *
  have hDw : w.heap.size ≤ D := by have := HZ.out; omega
  have hCw : w.heap.size ≤ C := HZ.out.2.1
  have hCD : ¬ (C = D) := by omega
  have hDC' : D < W2.heap.size := D1.lt
  clear HZ
  have HE2 := Lib.hid (E1.set hCD 7 (.bool false))
  have HD2 := Lib.hid (D1.put7 false)
  have HB2 := Lib.hid (hB.setCell (p := ⟨D, 7, none⟩) hDw (.bool false))
  obtain ⟨g0, g1, g2, g3, g4, g5, g6, g7⟩ := D1.cells
  obtain ⟨f0, f1, f2, f3, f4, f5, f6, f7⟩ := D1.free
  clear E1 D1 hB
  go_upto_region 3 with (fail)
  generalize W2.setCell ⟨D, 7, none⟩ (.bool false) = W3 at *
  clear g0 g1 g2 g3 g4 g5 g6 g7 f0 f1 f2 f3 f4 f5 f6 f7 N1 hDC'
  go_wp2_with fail
  refine wp_loop_rounds 3 ?_
  obtain ⟨kk0, kk1, kk2, kk3, kk4, kk5, kk6, kk7⟩ := H0.out _ HB2.out
  have hA0 := isFx.new W3 an als ams a0 a1 a2 a3 true
  have e10 := HE2.out.alloc (.cells #[.bool an, .int .i64 als, .int .i64 ams, .int .u64 a0, .int .u64 a1, .int .u64 a2, .int .u64 a3, .bool true] 31)
  have d10 := HD2.out.alloc (.cells #[.bool an, .int .i64 als, .int .i64 ams, .int .u64 a0, .int .u64 a1, .int .u64 a2, .int .u64 a3, .bool true] 31)
  have b10 := HB2.out.alloc HB2.out.size (.cells #[.bool an, .int .i64 als, .int .i64 ams, .int .u64 a0, .int .u64 a1, .int .u64 a2, .int .u64 a3, .bool true] 31)
  have s0 : ¬ (D = W3.heap.size) := by have := HD2.out.lt; omega
  have HE30 := Lib.hid (e10.set hCD 7 (.bool true))
  have HD30 := Lib.hid (d10.put7 true)
  have HB30 := Lib.hid (b10.setCell (p := ⟨D, 7, none⟩) hDw (.bool true))
  obtain ⟨g0, g1, g2, g3, g4, g5, g6, g7⟩ := d10.cells
  obtain ⟨f0, f1, f2, f3, f4, f5, f6, f7⟩ := d10.free
  obtain ⟨-, -, -, -, -, -, -, y7⟩ := hA0.cells
  clear hA0 e10 d10 b10
  rw [rounds_succ]
  go_wp2_with fail
  generalize (W3.alloc (.cells #[.bool an, .int .i64 als, .int .i64 ams, .int .u64 a0, .int .u64 a1, .int .u64 a2, .int .u64 a3, .bool true] 31)).setCell ⟨D, 7, none⟩ (.bool true) = W4 at *
  clear kk0 kk1 kk2 kk3 kk4 kk5 kk6 kk7 g0 g1 g2 g3 g4 g5 g6 g7 f0 f1 f2 f3 f4 f5 f6 f7 y7 s0 HE2 HD2 HB2
  obtain ⟨kk0, kk1, kk2, kk3, kk4, kk5, kk6, kk7⟩ := H1.out _ HB30.out
  have hA1 := isFx.new W4 bn bls bms b0 b1 b2 b3 eb
  have e11 := HE30.out.alloc (.cells #[.bool bn, .int .i64 bls, .int .i64 bms, .int .u64 b0, .int .u64 b1, .int .u64 b2, .int .u64 b3, .bool eb] 31)
  have d11 := HD30.out.alloc (.cells #[.bool bn, .int .i64 bls, .int .i64 bms, .int .u64 b0, .int .u64 b1, .int .u64 b2, .int .u64 b3, .bool eb] 31)
  have b11 := HB30.out.alloc HB30.out.size (.cells #[.bool bn, .int .i64 bls, .int .i64 bms, .int .u64 b0, .int .u64 b1, .int .u64 b2, .int .u64 b3, .bool eb] 31)
  have s1 : ¬ (D = W4.heap.size) := by have := HD30.out.lt; omega
  have HE31 := Lib.hid (e11.set hCD 7 (.bool true))
  have HD31 := Lib.hid (d11.put7 true)
  have HB31 := Lib.hid (b11.setCell (p := ⟨D, 7, none⟩) hDw (.bool true))
  obtain ⟨g0, g1, g2, g3, g4, g5, g6, g7⟩ := d11.cells
  obtain ⟨f0, f1, f2, f3, f4, f5, f6, f7⟩ := d11.free
  obtain ⟨-, -, -, -, -, -, -, y7⟩ := hA1.cells
  clear hA1 e11 d11 b11
  rw [rounds_succ]
  go_wp2_with fail
  generalize (W4.alloc (.cells #[.bool bn, .int .i64 bls, .int .i64 bms, .int .u64 b0, .int .u64 b1, .int .u64 b2, .int .u64 b3, .bool eb] 31)).setCell ⟨D, 7, none⟩ (.bool true) = W5 at *
  clear kk0 kk1 kk2 kk3 kk4 kk5 kk6 kk7 g0 g1 g2 g3 g4 g5 g6 g7 f0 f1 f2 f3 f4 f5 f6 f7 y7 s1 HE30 HD30 HB30
  obtain ⟨g0, g1, g2, g3, g4, g5, g6, g7⟩ := HD31.out.cells
  obtain ⟨c0, c1, c2, c3, c4, c5, c6, c7⟩ := HE31.out.cells
  obtain ⟨f0, f1, f2, f3, f4, f5, f6, f7⟩ := HE31.out.free
  have HS := Lib.hid (below_st8 HB31.out hCw rn rls rms r0 r1 r2 r3 true)
  have Z := HE31.out.stored rn rls rms r0 r1 r2 r3 true
  unfold set8 at Z
  have Z := Lib.hid Z.cells
  clear HE31 HD31 HB31 hCw hDw hDC hCD
  rw [rounds_succ]
  go_wp2_with fail
  refine bodyPost_ret (v := fxr rn rls rms r0 r1 r2 r3 true) ?h rfl ⟨rfl, HS.out⟩
  case h =>
    have Z0 := Z.out
    generalize ((((((((W5.setCell ⟨C, 0, none⟩ (.bool rn)).setCell ⟨C, 1, none⟩ (.int .i64 rls)).setCell ⟨C, 2, none⟩ (.int .i64 rms)).setCell ⟨C, 3, none⟩ (.int .u64 r0)).setCell ⟨C, 4, none⟩ (.int .u64 r1)).setCell ⟨C, 5, none⟩ (.int .u64 r2)).setCell ⟨C, 6, none⟩ (.int .u64 r3)).setCell ⟨C, 7, none⟩ (.bool true)) = W9 at Z0 ⊢
    obtain ⟨z0, z1, z2, z3, z4, z5, z6, z7⟩ := Z0
    simp [results, Try.results21, go_sem, z0, z1, z2, z3, z4, z5, z6, z7]
end Go.Proofs.Ytpjmogcphgaimaa
