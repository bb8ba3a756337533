/-
  The walk of facts' told: no argument.
  The walk of facts' told: one argument.
-/
import Derived.Test.YtjbmkbgoahppfaaDoorPk47
import Derived.Deep.RegionHeldLaw
namespace Go.Proofs.YtjbmkbgoahppfaaDoor
open Go.RowKit

set_option maxRecDepth 100000 in
set_option maxHeartbeats 4000000 in
theorem told_1 (xa xb xc xd lo hi : Int)  (rn : Bool) (rls rms r0 r1 r2 r3 : Int) (er : Bool) (p : Option Addr) (cap : Nat) (w : World)
    (HC : ∀ w', Below w.heap.size w w' → Calls Tryd.prog 39 #[.agg #[.int .i64 1, .int .u64 xa, .int .u64 xb, .int .u64 xc, .int .u64 xd, .int .i64 lo, .int .i64 hi], .slice p 0 cap] w' fun e w'' => e = .returned (fxr rn rls rms r0 r1 r2 r3 er) ∧ Below w'.heap.size w' w'') :
    Calls Tryd.prog 24 #[.agg #[.int .i64 1, .int .u64 xa, .int .u64 xb, .int .u64 xc, .int .u64 xd, .int .i64 lo, .int .i64 hi], .slice p 0 cap] w fun e w' => e = .returned (fxr rn rls rms r0 r1 r2 r3 false) ∧ Below w.heap.size w w' := by
  obtain ⟨W, hW⟩ : ∃ W, (w.alloc (.cells #[.int .i64 1, .int .u64 xa, .int .u64 xb, .int .u64 xc, .int .u64 xd, .int .i64 lo, .int .i64 hi] 45)).alloc (.cells #[.bool false, .int .i64 0, .int .i64 0, .int .u64 0, .int .u64 0, .int .u64 0, .int .u64 0, .bool false] 40) = W := ⟨_, rfl⟩
  have hBW : Below w.heap.size w W := hW ▸ ((Below.refl _ _).alloc (Nat.le_refl _) _).alloc (by simp) _
  have hz : W.heap.size = w.heap.size + 2 := by rw [← hW]; simp
  have n0 : W.cell? ⟨w.heap.size, 0, none⟩ = some (.int .i64 1) := by rw [← hW]; simp
  have n1 : W.cell? ⟨w.heap.size, 1, none⟩ = some (.int .u64 xa) := by rw [← hW]; simp
  have n2 : W.cell? ⟨w.heap.size, 2, none⟩ = some (.int .u64 xb) := by rw [← hW]; simp
  have n3 : W.cell? ⟨w.heap.size, 3, none⟩ = some (.int .u64 xc) := by rw [← hW]; simp
  have n4 : W.cell? ⟨w.heap.size, 4, none⟩ = some (.int .u64 xd) := by rw [← hW]; simp
  have n5 : W.cell? ⟨w.heap.size, 5, none⟩ = some (.int .i64 lo) := by rw [← hW]; simp
  have n6 : W.cell? ⟨w.heap.size, 6, none⟩ = some (.int .i64 hi) := by rw [← hW]; simp
  have EC : isFx W (w.heap.size + 1) false 0 0 0 0 0 0 false := hW ▸ (show isFx _ _ _ _ _ _ _ _ _ _ from by
    have := isFx.new (w.alloc (.cells #[.int .i64 1, .int .u64 xa, .int .u64 xb, .int .u64 xc, .int .u64 xd, .int .i64 lo, .int .i64 hi] 45)) false 0 0 0 0 0 0 false
    rw [World.size_alloc] at this
    exact this)
  have HCh := Lib.hid (HC W hBW)
  have HBW := Lib.hid hBW
  have HEC := Lib.hid EC
  have HN := Lib.hid n0
  obtain ⟨C, hC⟩ : ∃ C, w.heap.size + 1 = C := ⟨_, rfl⟩
  rw [hC] at HEC
  obtain ⟨NN, hNN⟩ : ∃ NN, w.heap.size = NN := ⟨_, rfl⟩
  have HZ : Hid (W.heap.size = C + 1 ∧ w.heap.size ≤ C ∧ w.heap.size = NN ∧ NN < C) := Lib.hid ⟨by omega, by omega, hNN, by omega⟩
  rw [hNN] at HN n0 n1 n2 n3 n4 n5 n6 hC
  clear EC hBW hz HC
  go_enter Tryd.func24, Tryd.ntmps24
  go_wp2_with fail
  refine HCh.out.mono ?_
  rintro e wk ⟨rfl, hb⟩
  have E1 := (HEC.out.below hb (by have := HZ.out; omega)).alloc (.cells #[.bool rn, .int .i64 rls, .int .i64 rms, .int .u64 r0, .int .u64 r1, .int .u64 r2, .int .u64 r3, .bool er] 40)
  have D1 := isFx.new wk rn rls rms r0 r1 r2 r3 er
  have N1 : (wk.alloc (.cells #[.bool rn, .int .i64 rls, .int .i64 rms, .int .u64 r0, .int .u64 r1, .int .u64 r2, .int .u64 r3, .bool er] 40)).cell? ⟨NN, 0, none⟩ = some (.int .i64 1) := cell_far7 ((Below.refl wk.heap.size wk).alloc (Nat.le_refl _) _) (by have := hb.size; have := HZ.out; omega) (cell_far7 hb (by have := HZ.out; omega) HN.out)
  have hB := (HBW.out.trans (hb.mono HBW.out.size)).alloc (Nat.le_trans HBW.out.size hb.size) (.cells #[.bool rn, .int .i64 rls, .int .i64 rms, .int .u64 r0, .int .u64 r1, .int .u64 r2, .int .u64 r3, .bool er] 40)
  have hDC : C < wk.heap.size := by have := hb.size; have := HZ.out; omega
  clear hb hW HEC HBW n0 n1 n2 n3 n4 n5 n6 hC hNN HCh HN
  go_upto_region 2 with (fail)
  generalize wk.alloc (.cells #[.bool rn, .int .i64 rls, .int .i64 rms, .int .u64 r0, .int .u64 r1, .int .u64 r2, .int .u64 r3, .bool er] 40) = W2 at *
  generalize wk.heap.size = D at *
  have hDw : w.heap.size ≤ D := by have := HZ.out; omega
  have hCw : w.heap.size ≤ C := HZ.out.2.1
  have hCD : ¬ (C = D) := by omega
  have hDC' : D < W2.heap.size := D1.lt
  clear HZ
  have HE2 := Lib.hid (E1.set hCD 7 (.bool false))
  have HD2 := Lib.hid (D1.put7 false)
  have HB2 := Lib.hid (hB.setCell (p := ⟨D, 7, none⟩) hDw (.bool false))
  obtain ⟨g0, g1, g2, g3, g4, g5, g6, g7⟩ := D1.cells
  obtain ⟨f0, f1, f2, f3, f4, f5, f6, f7⟩ := D1.free
  clear E1 D1 hB
  go_upto_region 3 with (fail)
  generalize W2.setCell ⟨D, 7, none⟩ (.bool false) = W3 at *
  clear g0 g1 g2 g3 g4 g5 g6 g7 f0 f1 f2 f3 f4 f5 f6 f7 N1 hDC'
  go_wp2_with fail
  refine wp_loop_rounds 1 ?_
  obtain ⟨g0, g1, g2, g3, g4, g5, g6, g7⟩ := HD2.out.cells
  obtain ⟨c0, c1, c2, c3, c4, c5, c6, c7⟩ := HE2.out.cells
  obtain ⟨f0, f1, f2, f3, f4, f5, f6, f7⟩ := HE2.out.free
  have HS := Lib.hid (below_st8 HB2.out hCw rn rls rms r0 r1 r2 r3 false)
  have Z := HE2.out.stored rn rls rms r0 r1 r2 r3 false
  unfold set87 at Z
  have Z := Lib.hid Z.cells
  clear HE2 HD2 HB2 hCw hDw hDC hCD
  rw [rounds_succ]
  go_wp2_with fail
  refine bodyPost_ret (v := fxr rn rls rms r0 r1 r2 r3 false) ?h rfl ⟨rfl, HS.out⟩
  case h =>
    have Z0 := Z.out
    generalize ((((((((W3.setCell ⟨C, 0, none⟩ (.bool rn)).setCell ⟨C, 1, none⟩ (.int .i64 rls)).setCell ⟨C, 2, none⟩ (.int .i64 rms)).setCell ⟨C, 3, none⟩ (.int .u64 r0)).setCell ⟨C, 4, none⟩ (.int .u64 r1)).setCell ⟨C, 5, none⟩ (.int .u64 r2)).setCell ⟨C, 6, none⟩ (.int .u64 r3)).setCell ⟨C, 7, none⟩ (.bool false)) = W9 at Z0 ⊢
    obtain ⟨z0, z1, z2, z3, z4, z5, z6, z7⟩ := Z0
    simp [results, Tryd.results24, go_sem, z0, z1, z2, z3, z4, z5, z6, z7]
set_option maxRecDepth 100000 in
set_option maxHeartbeats 4000000 in
theorem told_2 (xa xb xc xd lo hi : Int)  (rn : Bool) (rls rms r0 r1 r2 r3 : Int) (er : Bool) (p : Option Addr) (cap : Nat) (w : World)
    (HC : ∀ w', Below w.heap.size w w' → Calls Tryd.prog 39 #[.agg #[.int .i64 2, .int .u64 xa, .int .u64 xb, .int .u64 xc, .int .u64 xd, .int .i64 lo, .int .i64 hi], .slice p 0 cap] w' fun e w'' => e = .returned (fxr rn rls rms r0 r1 r2 r3 er) ∧ Below w'.heap.size w' w'') :
    Calls Tryd.prog 24 #[.agg #[.int .i64 2, .int .u64 xa, .int .u64 xb, .int .u64 xc, .int .u64 xd, .int .i64 lo, .int .i64 hi], .slice p 0 cap] w fun e w' => e = .returned (fxr rn rls rms r0 r1 r2 r3 false) ∧ Below w.heap.size w w' := by
  obtain ⟨W, hW⟩ : ∃ W, (w.alloc (.cells #[.int .i64 2, .int .u64 xa, .int .u64 xb, .int .u64 xc, .int .u64 xd, .int .i64 lo, .int .i64 hi] 45)).alloc (.cells #[.bool false, .int .i64 0, .int .i64 0, .int .u64 0, .int .u64 0, .int .u64 0, .int .u64 0, .bool false] 40) = W := ⟨_, rfl⟩
  have hBW : Below w.heap.size w W := hW ▸ ((Below.refl _ _).alloc (Nat.le_refl _) _).alloc (by simp) _
  have hz : W.heap.size = w.heap.size + 2 := by rw [← hW]; simp
  have n0 : W.cell? ⟨w.heap.size, 0, none⟩ = some (.int .i64 2) := by rw [← hW]; simp
  have n1 : W.cell? ⟨w.heap.size, 1, none⟩ = some (.int .u64 xa) := by rw [← hW]; simp
  have n2 : W.cell? ⟨w.heap.size, 2, none⟩ = some (.int .u64 xb) := by rw [← hW]; simp
  have n3 : W.cell? ⟨w.heap.size, 3, none⟩ = some (.int .u64 xc) := by rw [← hW]; simp
  have n4 : W.cell? ⟨w.heap.size, 4, none⟩ = some (.int .u64 xd) := by rw [← hW]; simp
  have n5 : W.cell? ⟨w.heap.size, 5, none⟩ = some (.int .i64 lo) := by rw [← hW]; simp
  have n6 : W.cell? ⟨w.heap.size, 6, none⟩ = some (.int .i64 hi) := by rw [← hW]; simp
  have EC : isFx W (w.heap.size + 1) false 0 0 0 0 0 0 false := hW ▸ (show isFx _ _ _ _ _ _ _ _ _ _ from by
    have := isFx.new (w.alloc (.cells #[.int .i64 2, .int .u64 xa, .int .u64 xb, .int .u64 xc, .int .u64 xd, .int .i64 lo, .int .i64 hi] 45)) false 0 0 0 0 0 0 false
    rw [World.size_alloc] at this
    exact this)
  have HCh := Lib.hid (HC W hBW)
  have HBW := Lib.hid hBW
  have HEC := Lib.hid EC
  have HN := Lib.hid n0
  obtain ⟨C, hC⟩ : ∃ C, w.heap.size + 1 = C := ⟨_, rfl⟩
  rw [hC] at HEC
  obtain ⟨NN, hNN⟩ : ∃ NN, w.heap.size = NN := ⟨_, rfl⟩
  have HZ : Hid (W.heap.size = C + 1 ∧ w.heap.size ≤ C ∧ w.heap.size = NN ∧ NN < C) := Lib.hid ⟨by omega, by omega, hNN, by omega⟩
  rw [hNN] at HN n0 n1 n2 n3 n4 n5 n6 hC
  clear EC hBW hz HC
  go_enter Tryd.func24, Tryd.ntmps24
  go_wp2_with fail
  refine HCh.out.mono ?_
  rintro e wk ⟨rfl, hb⟩
  have E1 := (HEC.out.below hb (by have := HZ.out; omega)).alloc (.cells #[.bool rn, .int .i64 rls, .int .i64 rms, .int .u64 r0, .int .u64 r1, .int .u64 r2, .int .u64 r3, .bool er] 40)
  have D1 := isFx.new wk rn rls rms r0 r1 r2 r3 er
  have N1 : (wk.alloc (.cells #[.bool rn, .int .i64 rls, .int .i64 rms, .int .u64 r0, .int .u64 r1, .int .u64 r2, .int .u64 r3, .bool er] 40)).cell? ⟨NN, 0, none⟩ = some (.int .i64 2) := cell_far7 ((Below.refl wk.heap.size wk).alloc (Nat.le_refl _) _) (by have := hb.size; have := HZ.out; omega) (cell_far7 hb (by have := HZ.out; omega) HN.out)
  have hB := (HBW.out.trans (hb.mono HBW.out.size)).alloc (Nat.le_trans HBW.out.size hb.size) (.cells #[.bool rn, .int .i64 rls, .int .i64 rms, .int .u64 r0, .int .u64 r1, .int .u64 r2, .int .u64 r3, .bool er] 40)
  have hDC : C < wk.heap.size := by have := hb.size; have := HZ.out; omega
  clear hb hW HEC HBW n0 n1 n2 n3 n4 n5 n6 hC hNN HCh HN
  go_upto_region 2 with (fail)
  generalize wk.alloc (.cells #[.bool rn, .int .i64 rls, .int .i64 rms, .int .u64 r0, .int .u64 r1, .int .u64 r2, .int .u64 r3, .bool er] 40) = W2 at *
  generalize wk.heap.size = D at *
  have hDw : w.heap.size ≤ D := by have := HZ.out; omega
  have hCw : w.heap.size ≤ C := HZ.out.2.1
  have hCD : ¬ (C = D) := by omega
  have hDC' : D < W2.heap.size := D1.lt
  clear HZ
  have HE2 := Lib.hid (E1.set hCD 7 (.bool false))
  have HD2 := Lib.hid (D1.put7 false)
  have HB2 := Lib.hid (hB.setCell (p := ⟨D, 7, none⟩) hDw (.bool false))
  obtain ⟨g0, g1, g2, g3, g4, g5, g6, g7⟩ := D1.cells
  obtain ⟨f0, f1, f2, f3, f4, f5, f6, f7⟩ := D1.free
  clear E1 D1 hB
  go_upto_region 3 with (fail)
  generalize W2.setCell ⟨D, 7, none⟩ (.bool false) = W3 at *
  clear g0 g1 g2 g3 g4 g5 g6 g7 f0 f1 f2 f3 f4 f5 f6 f7 N1 hDC'
  go_wp2_with fail
  refine wp_loop_rounds 1 ?_
  obtain ⟨g0, g1, g2, g3, g4, g5, g6, g7⟩ := HD2.out.cells
  obtain ⟨c0, c1, c2, c3, c4, c5, c6, c7⟩ := HE2.out.cells
  obtain ⟨f0, f1, f2, f3, f4, f5, f6, f7⟩ := HE2.out.free
  have HS := Lib.hid (below_st8 HB2.out hCw rn rls rms r0 r1 r2 r3 false)
  have Z := HE2.out.stored rn rls rms r0 r1 r2 r3 false
  unfold set87 at Z
  have Z := Lib.hid Z.cells
  clear HE2 HD2 HB2 hCw hDw hDC hCD
  rw [rounds_succ]
  go_wp2_with fail
  refine bodyPost_ret (v := fxr rn rls rms r0 r1 r2 r3 false) ?h rfl ⟨rfl, HS.out⟩
  case h =>
    have Z0 := Z.out
    generalize ((((((((W3.setCell ⟨C, 0, none⟩ (.bool rn)).setCell ⟨C, 1, none⟩ (.int .i64 rls)).setCell ⟨C, 2, none⟩ (.int .i64 rms)).setCell ⟨C, 3, none⟩ (.int .u64 r0)).setCell ⟨C, 4, none⟩ (.int .u64 r1)).setCell ⟨C, 5, none⟩ (.int .u64 r2)).setCell ⟨C, 6, none⟩ (.int .u64 r3)).setCell ⟨C, 7, none⟩ (.bool false)) = W9 at Z0 ⊢
    obtain ⟨z0, z1, z2, z3, z4, z5, z6, z7⟩ := Z0
    simp [results, Tryd.results24, go_sem, z0, z1, z2, z3, z4, z5, z6, z7]
set_option maxRecDepth 100000 in
set_option maxHeartbeats 4000000 in
theorem told_3 (xa xb xc xd lo hi : Int)  (rn : Bool) (rls rms r0 r1 r2 r3 : Int) (er : Bool) (p : Option Addr) (cap : Nat) (w : World)
    (HC : ∀ w', Below w.heap.size w w' → Calls Tryd.prog 39 #[.agg #[.int .i64 3, .int .u64 xa, .int .u64 xb, .int .u64 xc, .int .u64 xd, .int .i64 lo, .int .i64 hi], .slice p 0 cap] w' fun e w'' => e = .returned (fxr rn rls rms r0 r1 r2 r3 er) ∧ Below w'.heap.size w' w'') :
    Calls Tryd.prog 24 #[.agg #[.int .i64 3, .int .u64 xa, .int .u64 xb, .int .u64 xc, .int .u64 xd, .int .i64 lo, .int .i64 hi], .slice p 0 cap] w fun e w' => e = .returned (fxr rn rls rms r0 r1 r2 r3 true) ∧ Below w.heap.size w w' := by
  obtain ⟨W, hW⟩ : ∃ W, (w.alloc (.cells #[.int .i64 3, .int .u64 xa, .int .u64 xb, .int .u64 xc, .int .u64 xd, .int .i64 lo, .int .i64 hi] 45)).alloc (.cells #[.bool false, .int .i64 0, .int .i64 0, .int .u64 0, .int .u64 0, .int .u64 0, .int .u64 0, .bool false] 40) = W := ⟨_, rfl⟩
  have hBW : Below w.heap.size w W := hW ▸ ((Below.refl _ _).alloc (Nat.le_refl _) _).alloc (by simp) _
  have hz : W.heap.size = w.heap.size + 2 := by rw [← hW]; simp
  have n0 : W.cell? ⟨w.heap.size, 0, none⟩ = some (.int .i64 3) := by rw [← hW]; simp
  have n1 : W.cell? ⟨w.heap.size, 1, none⟩ = some (.int .u64 xa) := by rw [← hW]; simp
  have n2 : W.cell? ⟨w.heap.size, 2, none⟩ = some (.int .u64 xb) := by rw [← hW]; simp
  have n3 : W.cell? ⟨w.heap.size, 3, none⟩ = some (.int .u64 xc) := by rw [← hW]; simp
  have n4 : W.cell? ⟨w.heap.size, 4, none⟩ = some (.int .u64 xd) := by rw [← hW]; simp
  have n5 : W.cell? ⟨w.heap.size, 5, none⟩ = some (.int .i64 lo) := by rw [← hW]; simp
  have n6 : W.cell? ⟨w.heap.size, 6, none⟩ = some (.int .i64 hi) := by rw [← hW]; simp
  have EC : isFx W (w.heap.size + 1) false 0 0 0 0 0 0 false := hW ▸ (show isFx _ _ _ _ _ _ _ _ _ _ from by
    have := isFx.new (w.alloc (.cells #[.int .i64 3, .int .u64 xa, .int .u64 xb, .int .u64 xc, .int .u64 xd, .int .i64 lo, .int .i64 hi] 45)) false 0 0 0 0 0 0 false
    rw [World.size_alloc] at this
    exact this)
  have HCh := Lib.hid (HC W hBW)
  have HBW := Lib.hid hBW
  have HEC := Lib.hid EC
  have HN := Lib.hid n0
  obtain ⟨C, hC⟩ : ∃ C, w.heap.size + 1 = C := ⟨_, rfl⟩
  rw [hC] at HEC
  obtain ⟨NN, hNN⟩ : ∃ NN, w.heap.size = NN := ⟨_, rfl⟩
  have HZ : Hid (W.heap.size = C + 1 ∧ w.heap.size ≤ C ∧ w.heap.size = NN ∧ NN < C) := Lib.hid ⟨by omega, by omega, hNN, by omega⟩
  rw [hNN] at HN n0 n1 n2 n3 n4 n5 n6 hC
  clear EC hBW hz HC
  go_enter Tryd.func24, Tryd.ntmps24
  go_wp2_with fail
  refine HCh.out.mono ?_
  rintro e wk ⟨rfl, hb⟩
  have E1 := (HEC.out.below hb (by have := HZ.out; omega)).alloc (.cells #[.bool rn, .int .i64 rls, .int .i64 rms, .int .u64 r0, .int .u64 r1, .int .u64 r2, .int .u64 r3, .bool er] 40)
  have D1 := isFx.new wk rn rls rms r0 r1 r2 r3 er
  have N1 : (wk.alloc (.cells #[.bool rn, .int .i64 rls, .int .i64 rms, .int .u64 r0, .int .u64 r1, .int .u64 r2, .int .u64 r3, .bool er] 40)).cell? ⟨NN, 0, none⟩ = some (.int .i64 3) := cell_far7 ((Below.refl wk.heap.size wk).alloc (Nat.le_refl _) _) (by have := hb.size; have := HZ.out; omega) (cell_far7 hb (by have := HZ.out; omega) HN.out)
  have hB := (HBW.out.trans (hb.mono HBW.out.size)).alloc (Nat.le_trans HBW.out.size hb.size) (.cells #[.bool rn, .int .i64 rls, .int .i64 rms, .int .u64 r0, .int .u64 r1, .int .u64 r2, .int .u64 r3, .bool er] 40)
  have hDC : C < wk.heap.size := by have := hb.size; have := HZ.out; omega
  clear hb hW HEC HBW n0 n1 n2 n3 n4 n5 n6 hC hNN HCh HN
  go_upto_region 2 with (fail)
  generalize wk.alloc (.cells #[.bool rn, .int .i64 rls, .int .i64 rms, .int .u64 r0, .int .u64 r1, .int .u64 r2, .int .u64 r3, .bool er] 40) = W2 at *
  generalize wk.heap.size = D at *
  have hDw : w.heap.size ≤ D := by have := HZ.out; omega
  have hCw : w.heap.size ≤ C := HZ.out.2.1
  have hCD : ¬ (C = D) := by omega
  have hDC' : D < W2.heap.size := D1.lt
  clear HZ
  have HE2 := Lib.hid (E1.set hCD 7 (.bool true))
  have HD2 := Lib.hid (D1.put7 true)
  have HB2 := Lib.hid (hB.setCell (p := ⟨D, 7, none⟩) hDw (.bool true))
  obtain ⟨g0, g1, g2, g3, g4, g5, g6, g7⟩ := D1.cells
  obtain ⟨f0, f1, f2, f3, f4, f5, f6, f7⟩ := D1.free
  clear E1 D1 hB
  go_upto_region 3 with (fail)
  generalize W2.setCell ⟨D, 7, none⟩ (.bool true) = W3 at *
  clear g0 g1 g2 g3 g4 g5 g6 g7 f0 f1 f2 f3 f4 f5 f6 f7 N1 hDC'
  go_wp2_with fail
  refine wp_loop_rounds 1 ?_
  obtain ⟨g0, g1, g2, g3, g4, g5, g6, g7⟩ := HD2.out.cells
  obtain ⟨c0, c1, c2, c3, c4, c5, c6, c7⟩ := HE2.out.cells
  obtain ⟨f0, f1, f2, f3, f4, f5, f6, f7⟩ := HE2.out.free
  have HS := Lib.hid (below_st8 HB2.out hCw rn rls rms r0 r1 r2 r3 true)
  have Z := HE2.out.stored rn rls rms r0 r1 r2 r3 true
  unfold set87 at Z
  have Z := Lib.hid Z.cells
  clear HE2 HD2 HB2 hCw hDw hDC hCD
  rw [rounds_succ]
  go_wp2_with fail
  refine bodyPost_ret (v := fxr rn rls rms r0 r1 r2 r3 true) ?h rfl ⟨rfl, HS.out⟩
  case h =>
    have Z0 := Z.out
    generalize ((((((((W3.setCell ⟨C, 0, none⟩ (.bool rn)).setCell ⟨C, 1, none⟩ (.int .i64 rls)).setCell ⟨C, 2, none⟩ (.int .i64 rms)).setCell ⟨C, 3, none⟩ (.int .u64 r0)).setCell ⟨C, 4, none⟩ (.int .u64 r1)).setCell ⟨C, 5, none⟩ (.int .u64 r2)).setCell ⟨C, 6, none⟩ (.int .u64 r3)).setCell ⟨C, 7, none⟩ (.bool true)) = W9 at Z0 ⊢
    obtain ⟨z0, z1, z2, z3, z4, z5, z6, z7⟩ := Z0
    simp [results, Tryd.results24, go_sem, z0, z1, z2, z3, z4, z5, z6, z7]
set_option maxRecDepth 100000 in
set_option maxHeartbeats 4000000 in
theorem told_4 (xa xb xc xd lo hi : Int)  (rn : Bool) (rls rms r0 r1 r2 r3 : Int) (er : Bool) (p : Option Addr) (cap : Nat) (w : World)
    (HC : ∀ w', Below w.heap.size w w' → Calls Tryd.prog 39 #[.agg #[.int .i64 4, .int .u64 xa, .int .u64 xb, .int .u64 xc, .int .u64 xd, .int .i64 lo, .int .i64 hi], .slice p 0 cap] w' fun e w'' => e = .returned (fxr rn rls rms r0 r1 r2 r3 er) ∧ Below w'.heap.size w' w'') :
    Calls Tryd.prog 24 #[.agg #[.int .i64 4, .int .u64 xa, .int .u64 xb, .int .u64 xc, .int .u64 xd, .int .i64 lo, .int .i64 hi], .slice p 0 cap] w fun e w' => e = .returned (fxr rn rls rms r0 r1 r2 r3 true) ∧ Below w.heap.size w w' := by
  obtain ⟨W, hW⟩ : ∃ W, (w.alloc (.cells #[.int .i64 4, .int .u64 xa, .int .u64 xb, .int .u64 xc, .int .u64 xd, .int .i64 lo, .int .i64 hi] 45)).alloc (.cells #[.bool false, .int .i64 0, .int .i64 0, .int .u64 0, .int .u64 0, .int .u64 0, .int .u64 0, .bool false] 40) = W := ⟨_, rfl⟩
  have hBW : Below w.heap.size w W := hW ▸ ((Below.refl _ _).alloc (Nat.le_refl _) _).alloc (by simp) _
  have hz : W.heap.size = w.heap.size + 2 := by rw [← hW]; simp
  have n0 : W.cell? ⟨w.heap.size, 0, none⟩ = some (.int .i64 4) := by rw [← hW]; simp
  have n1 : W.cell? ⟨w.heap.size, 1, none⟩ = some (.int .u64 xa) := by rw [← hW]; simp
  have n2 : W.cell? ⟨w.heap.size, 2, none⟩ = some (.int .u64 xb) := by rw [← hW]; simp
  have n3 : W.cell? ⟨w.heap.size, 3, none⟩ = some (.int .u64 xc) := by rw [← hW]; simp
  have n4 : W.cell? ⟨w.heap.size, 4, none⟩ = some (.int .u64 xd) := by rw [← hW]; simp
  have n5 : W.cell? ⟨w.heap.size, 5, none⟩ = some (.int .i64 lo) := by rw [← hW]; simp
  have n6 : W.cell? ⟨w.heap.size, 6, none⟩ = some (.int .i64 hi) := by rw [← hW]; simp
  have EC : isFx W (w.heap.size + 1) false 0 0 0 0 0 0 false := hW ▸ (show isFx _ _ _ _ _ _ _ _ _ _ from by
    have := isFx.new (w.alloc (.cells #[.int .i64 4, .int .u64 xa, .int .u64 xb, .int .u64 xc, .int .u64 xd, .int .i64 lo, .int .i64 hi] 45)) false 0 0 0 0 0 0 false
    rw [World.size_alloc] at this
    exact this)
  have HCh := Lib.hid (HC W hBW)
  have HBW := Lib.hid hBW
  have HEC := Lib.hid EC
  have HN := Lib.hid n0
  obtain ⟨C, hC⟩ : ∃ C, w.heap.size + 1 = C := ⟨_, rfl⟩
  rw [hC] at HEC
  obtain ⟨NN, hNN⟩ : ∃ NN, w.heap.size = NN := ⟨_, rfl⟩
  have HZ : Hid (W.heap.size = C + 1 ∧ w.heap.size ≤ C ∧ w.heap.size = NN ∧ NN < C) := Lib.hid ⟨by omega, by omega, hNN, by omega⟩
  rw [hNN] at HN n0 n1 n2 n3 n4 n5 n6 hC
  clear EC hBW hz HC
  go_enter Tryd.func24, Tryd.ntmps24
  go_wp2_with fail
  refine HCh.out.mono ?_
  rintro e wk ⟨rfl, hb⟩
  have E1 := (HEC.out.below hb (by have := HZ.out; omega)).alloc (.cells #[.bool rn, .int .i64 rls, .int .i64 rms, .int .u64 r0, .int .u64 r1, .int .u64 r2, .int .u64 r3, .bool er] 40)
  have D1 := isFx.new wk rn rls rms r0 r1 r2 r3 er
  have N1 : (wk.alloc (.cells #[.bool rn, .int .i64 rls, .int .i64 rms, .int .u64 r0, .int .u64 r1, .int .u64 r2, .int .u64 r3, .bool er] 40)).cell? ⟨NN, 0, none⟩ = some (.int .i64 4) := cell_far7 ((Below.refl wk.heap.size wk).alloc (Nat.le_refl _) _) (by have := hb.size; have := HZ.out; omega) (cell_far7 hb (by have := HZ.out; omega) HN.out)
  have hB := (HBW.out.trans (hb.mono HBW.out.size)).alloc (Nat.le_trans HBW.out.size hb.size) (.cells #[.bool rn, .int .i64 rls, .int .i64 rms, .int .u64 r0, .int .u64 r1, .int .u64 r2, .int .u64 r3, .bool er] 40)
  have hDC : C < wk.heap.size := by have := hb.size; have := HZ.out; omega
  clear hb hW HEC HBW n0 n1 n2 n3 n4 n5 n6 hC hNN HCh HN
  go_upto_region 2 with (fail)
  generalize wk.alloc (.cells #[.bool rn, .int .i64 rls, .int .i64 rms, .int .u64 r0, .int .u64 r1, .int .u64 r2, .int .u64 r3, .bool er] 40) = W2 at *
  generalize wk.heap.size = D at *
  have hDw : w.heap.size ≤ D := by have := HZ.out; omega
  have hCw : w.heap.size ≤ C := HZ.out.2.1
  have hCD : ¬ (C = D) := by omega
  have hDC' : D < W2.heap.size := D1.lt
  clear HZ
  have HE2 := Lib.hid (E1.set hCD 7 (.bool true))
  have HD2 := Lib.hid (D1.put7 true)
  have HB2 := Lib.hid (hB.setCell (p := ⟨D, 7, none⟩) hDw (.bool true))
  obtain ⟨g0, g1, g2, g3, g4, g5, g6, g7⟩ := D1.cells
  obtain ⟨f0, f1, f2, f3, f4, f5, f6, f7⟩ := D1.free
  clear E1 D1 hB
  go_upto_region 3 with (fail)
  generalize W2.setCell ⟨D, 7, none⟩ (.bool true) = W3 at *
  clear g0 g1 g2 g3 g4 g5 g6 g7 f0 f1 f2 f3 f4 f5 f6 f7 N1 hDC'
  go_wp2_with fail
  refine wp_loop_rounds 1 ?_
  obtain ⟨g0, g1, g2, g3, g4, g5, g6, g7⟩ := HD2.out.cells
  obtain ⟨c0, c1, c2, c3, c4, c5, c6, c7⟩ := HE2.out.cells
  obtain ⟨f0, f1, f2, f3, f4, f5, f6, f7⟩ := HE2.out.free
  have HS := Lib.hid (below_st8 HB2.out hCw rn rls rms r0 r1 r2 r3 true)
  have Z := HE2.out.stored rn rls rms r0 r1 r2 r3 true
  unfold set87 at Z
  have Z := Lib.hid Z.cells
  clear HE2 HD2 HB2 hCw hDw hDC hCD
  rw [rounds_succ]
  go_wp2_with fail
  refine bodyPost_ret (v := fxr rn rls rms r0 r1 r2 r3 true) ?h rfl ⟨rfl, HS.out⟩
  case h =>
    have Z0 := Z.out
    generalize ((((((((W3.setCell ⟨C, 0, none⟩ (.bool rn)).setCell ⟨C, 1, none⟩ (.int .i64 rls)).setCell ⟨C, 2, none⟩ (.int .i64 rms)).setCell ⟨C, 3, none⟩ (.int .u64 r0)).setCell ⟨C, 4, none⟩ (.int .u64 r1)).setCell ⟨C, 5, none⟩ (.int .u64 r2)).setCell ⟨C, 6, none⟩ (.int .u64 r3)).setCell ⟨C, 7, none⟩ (.bool true)) = W9 at Z0 ⊢
    obtain ⟨z0, z1, z2, z3, z4, z5, z6, z7⟩ := Z0
    simp [results, Tryd.results24, go_sem, z0, z1, z2, z3, z4, z5, z6, z7]
end Go.Proofs.YtjbmkbgoahppfaaDoor

namespace Go.Proofs.YtjbmkbgoahppfaaDoor
open Go.RowKit

set_option maxRecDepth 100000 in
set_option maxHeartbeats 4000000 in
theorem told_7 (xa xb xc xd lo hi : Int) (an : Bool) (als ams a0 a1 a2 a3 : Int) (ea : Bool) (rn : Bool) (rls rms r0 r1 r2 r3 : Int) (er : Bool) (b o cap : Nat) (w : World) (hb : b < w.heap.size)
    (h0 : w.cell? ⟨b, o, none⟩ = some (.bool an) ∧ w.cell? ⟨b, o + 1, none⟩ = some (.int .i64 als) ∧ w.cell? ⟨b, o + 2, none⟩ = some (.int .i64 ams) ∧ w.cell? ⟨b, o + 3, none⟩ = some (.int .u64 a0) ∧ w.cell? ⟨b, o + 4, none⟩ = some (.int .u64 a1) ∧ w.cell? ⟨b, o + 5, none⟩ = some (.int .u64 a2) ∧ w.cell? ⟨b, o + 6, none⟩ = some (.int .u64 a3) ∧ w.cell? ⟨b, o + 7, none⟩ = some (.bool ea))
    (HC : ∀ w', Below w.heap.size w w' → Calls Tryd.prog 39 #[.agg #[.int .i64 7, .int .u64 xa, .int .u64 xb, .int .u64 xc, .int .u64 xd, .int .i64 lo, .int .i64 hi], .slice (some ⟨b, o, none⟩) 1 cap] w' fun e w'' => e = .returned (fxr rn rls rms r0 r1 r2 r3 er) ∧ Below w'.heap.size w' w'') :
    Calls Tryd.prog 24 #[.agg #[.int .i64 7, .int .u64 xa, .int .u64 xb, .int .u64 xc, .int .u64 xd, .int .i64 lo, .int .i64 hi], .slice (some ⟨b, o, none⟩) 1 cap] w fun e w' => e = .returned (fxr rn rls rms r0 r1 r2 r3 ea) ∧ Below w.heap.size w w' := by
  obtain ⟨W, hW⟩ : ∃ W, (w.alloc (.cells #[.int .i64 7, .int .u64 xa, .int .u64 xb, .int .u64 xc, .int .u64 xd, .int .i64 lo, .int .i64 hi] 45)).alloc (.cells #[.bool false, .int .i64 0, .int .i64 0, .int .u64 0, .int .u64 0, .int .u64 0, .int .u64 0, .bool false] 40) = W := ⟨_, rfl⟩
  have hBW : Below w.heap.size w W := hW ▸ ((Below.refl _ _).alloc (Nat.le_refl _) _).alloc (by simp) _
  have hz : W.heap.size = w.heap.size + 2 := by rw [← hW]; simp
  have n0 : W.cell? ⟨w.heap.size, 0, none⟩ = some (.int .i64 7) := by rw [← hW]; simp
  have n1 : W.cell? ⟨w.heap.size, 1, none⟩ = some (.int .u64 xa) := by rw [← hW]; simp
  have n2 : W.cell? ⟨w.heap.size, 2, none⟩ = some (.int .u64 xb) := by rw [← hW]; simp
  have n3 : W.cell? ⟨w.heap.size, 3, none⟩ = some (.int .u64 xc) := by rw [← hW]; simp
  have n4 : W.cell? ⟨w.heap.size, 4, none⟩ = some (.int .u64 xd) := by rw [← hW]; simp
  have n5 : W.cell? ⟨w.heap.size, 5, none⟩ = some (.int .i64 lo) := by rw [← hW]; simp
  have n6 : W.cell? ⟨w.heap.size, 6, none⟩ = some (.int .i64 hi) := by rw [← hW]; simp
  have EC : isFx W (w.heap.size + 1) false 0 0 0 0 0 0 false := hW ▸ (show isFx _ _ _ _ _ _ _ _ _ _ from by
    have := isFx.new (w.alloc (.cells #[.int .i64 7, .int .u64 xa, .int .u64 xb, .int .u64 xc, .int .u64 xd, .int .i64 lo, .int .i64 hi] 45)) false 0 0 0 0 0 0 false
    rw [World.size_alloc] at this
    exact this)
  have HCh := Lib.hid (HC W hBW)
  have HBW := Lib.hid hBW
  have HEC := Lib.hid EC
  have HN := Lib.hid n0
  have H0 : Hid (∀ w', Below w.heap.size w w' → w'.cell? ⟨b, o, none⟩ = some (.bool an) ∧ w'.cell? ⟨b, o + 1, none⟩ = some (.int .i64 als) ∧ w'.cell? ⟨b, o + 2, none⟩ = some (.int .i64 ams) ∧ w'.cell? ⟨b, o + 3, none⟩ = some (.int .u64 a0) ∧ w'.cell? ⟨b, o + 4, none⟩ = some (.int .u64 a1) ∧ w'.cell? ⟨b, o + 5, none⟩ = some (.int .u64 a2) ∧ w'.cell? ⟨b, o + 6, none⟩ = some (.int .u64 a3) ∧ w'.cell? ⟨b, o + 7, none⟩ = some (.bool ea)) := Lib.hid fun w' hB => by
    obtain ⟨u0, u1, u2, u3, u4, u5, u6, u7⟩ := h0
    exact ⟨cell_far7 hB hb u0, cell_far7 hB hb u1, cell_far7 hB hb u2, cell_far7 hB hb u3, cell_far7 hB hb u4, cell_far7 hB hb u5, cell_far7 hB hb u6, cell_far7 hB hb u7⟩
  obtain ⟨C, hC⟩ : ∃ C, w.heap.size + 1 = C := ⟨_, rfl⟩
  rw [hC] at HEC
  obtain ⟨NN, hNN⟩ : ∃ NN, w.heap.size = NN := ⟨_, rfl⟩
  have HZ : Hid (W.heap.size = C + 1 ∧ w.heap.size ≤ C ∧ w.heap.size = NN ∧ NN < C) := Lib.hid ⟨by omega, by omega, hNN, by omega⟩
  rw [hNN] at HN n0 n1 n2 n3 n4 n5 n6 hC
  clear EC hBW hz HC h0 hb
  go_enter Tryd.func24, Tryd.ntmps24
  go_wp2_with fail
  refine HCh.out.mono ?_
  rintro e wk ⟨rfl, hb⟩
  have E1 := (HEC.out.below hb (by have := HZ.out; omega)).alloc (.cells #[.bool rn, .int .i64 rls, .int .i64 rms, .int .u64 r0, .int .u64 r1, .int .u64 r2, .int .u64 r3, .bool er] 40)
  have D1 := isFx.new wk rn rls rms r0 r1 r2 r3 er
  have N1 : (wk.alloc (.cells #[.bool rn, .int .i64 rls, .int .i64 rms, .int .u64 r0, .int .u64 r1, .int .u64 r2, .int .u64 r3, .bool er] 40)).cell? ⟨NN, 0, none⟩ = some (.int .i64 7) := cell_far7 ((Below.refl wk.heap.size wk).alloc (Nat.le_refl _) _) (by have := hb.size; have := HZ.out; omega) (cell_far7 hb (by have := HZ.out; omega) HN.out)
  have hB := (HBW.out.trans (hb.mono HBW.out.size)).alloc (Nat.le_trans HBW.out.size hb.size) (.cells #[.bool rn, .int .i64 rls, .int .i64 rms, .int .u64 r0, .int .u64 r1, .int .u64 r2, .int .u64 r3, .bool er] 40)
  have hDC : C < wk.heap.size := by have := hb.size; have := HZ.out; omega
  clear hb hW HEC HBW n0 n1 n2 n3 n4 n5 n6 hC hNN HCh HN
  go_upto_region 2 with (fail)
  generalize wk.alloc (.cells #[.bool rn, .int .i64 rls, .int .i64 rms, .int .u64 r0, .int .u64 r1, .int .u64 r2, .int .u64 r3, .bool er] 40) = W2 at *
  generalize wk.heap.size = D at *
  have hDw : w.heap.size ≤ D := by have := HZ.out; omega
  have hCw : w.heap.size ≤ C := HZ.out.2.1
  have hCD : ¬ (C = D) := by omega
  have hDC' : D < W2.heap.size := D1.lt
  clear HZ
  have HE2 := Lib.hid (E1.set hCD 7 (.bool false))
  have HD2 := Lib.hid (D1.put7 false)
  have HB2 := Lib.hid (hB.setCell (p := ⟨D, 7, none⟩) hDw (.bool false))
  obtain ⟨g0, g1, g2, g3, g4, g5, g6, g7⟩ := D1.cells
  obtain ⟨f0, f1, f2, f3, f4, f5, f6, f7⟩ := D1.free
  clear E1 D1 hB
  go_upto_region 3 with (fail)
  generalize W2.setCell ⟨D, 7, none⟩ (.bool false) = W3 at *
  clear g0 g1 g2 g3 g4 g5 g6 g7 f0 f1 f2 f3 f4 f5 f6 f7 N1 hDC'
  go_wp2_with fail
  refine wp_loop_rounds 2 ?_
  obtain ⟨kk0, kk1, kk2, kk3, kk4, kk5, kk6, kk7⟩ := H0.out _ HB2.out
  have hA0 := isFx.new W3 an als ams a0 a1 a2 a3 ea
  have e10 := HE2.out.alloc (.cells #[.bool an, .int .i64 als, .int .i64 ams, .int .u64 a0, .int .u64 a1, .int .u64 a2, .int .u64 a3, .bool ea] 40)
  have d10 := HD2.out.alloc (.cells #[.bool an, .int .i64 als, .int .i64 ams, .int .u64 a0, .int .u64 a1, .int .u64 a2, .int .u64 a3, .bool ea] 40)
  have b10 := HB2.out.alloc HB2.out.size (.cells #[.bool an, .int .i64 als, .int .i64 ams, .int .u64 a0, .int .u64 a1, .int .u64 a2, .int .u64 a3, .bool ea] 40)
  have s0 : ¬ (D = W3.heap.size) := by have := HD2.out.lt; omega
  have HE30 := Lib.hid (e10.set hCD 7 (.bool ea))
  have HD30 := Lib.hid (d10.put7 ea)
  have HB30 := Lib.hid (b10.setCell (p := ⟨D, 7, none⟩) hDw (.bool ea))
  obtain ⟨g0, g1, g2, g3, g4, g5, g6, g7⟩ := d10.cells
  obtain ⟨f0, f1, f2, f3, f4, f5, f6, f7⟩ := d10.free
  obtain ⟨-, -, -, -, -, -, -, y7⟩ := hA0.cells
  clear hA0 e10 d10 b10
  rw [rounds_succ]
  go_wp2_with fail
  generalize (W3.alloc (.cells #[.bool an, .int .i64 als, .int .i64 ams, .int .u64 a0, .int .u64 a1, .int .u64 a2, .int .u64 a3, .bool ea] 40)).setCell ⟨D, 7, none⟩ (.bool ea) = W4 at *
  clear kk0 kk1 kk2 kk3 kk4 kk5 kk6 kk7 g0 g1 g2 g3 g4 g5 g6 g7 f0 f1 f2 f3 f4 f5 f6 f7 y7 s0 HE2 HD2 HB2
  obtain ⟨g0, g1, g2, g3, g4, g5, g6, g7⟩ := HD30.out.cells
  obtain ⟨c0, c1, c2, c3, c4, c5, c6, c7⟩ := HE30.out.cells
  obtain ⟨f0, f1, f2, f3, f4, f5, f6, f7⟩ := HE30.out.free
  have HS := Lib.hid (below_st8 HB30.out hCw rn rls rms r0 r1 r2 r3 ea)
  have Z := HE30.out.stored rn rls rms r0 r1 r2 r3 ea
  unfold set87 at Z
  have Z := Lib.hid Z.cells
  clear HE30 HD30 HB30 hCw hDw hDC hCD
  rw [rounds_succ]
  go_wp2_with fail
  refine bodyPost_ret (v := fxr rn rls rms r0 r1 r2 r3 ea) ?h rfl ⟨rfl, HS.out⟩
  case h =>
    have Z0 := Z.out
    generalize ((((((((W4.setCell ⟨C, 0, none⟩ (.bool rn)).setCell ⟨C, 1, none⟩ (.int .i64 rls)).setCell ⟨C, 2, none⟩ (.int .i64 rms)).setCell ⟨C, 3, none⟩ (.int .u64 r0)).setCell ⟨C, 4, none⟩ (.int .u64 r1)).setCell ⟨C, 5, none⟩ (.int .u64 r2)).setCell ⟨C, 6, none⟩ (.int .u64 r3)).setCell ⟨C, 7, none⟩ (.bool ea)) = W9 at Z0 ⊢
    obtain ⟨z0, z1, z2, z3, z4, z5, z6, z7⟩ := Z0
    simp [results, Tryd.results24, go_sem, z0, z1, z2, z3, z4, z5, z6, z7]
end Go.Proofs.YtjbmkbgoahppfaaDoor
