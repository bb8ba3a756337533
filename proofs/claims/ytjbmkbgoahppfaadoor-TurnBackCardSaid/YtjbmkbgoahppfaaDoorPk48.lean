/-
  The walk of facts' lengths: a leaf.
  The walk of facts' lengths: a row of two.
  The walk of facts' lengths: one of two.
  The walk of facts' lengths: a repeat.
-/
import Derived.Test.YtjbmkbgoahppfaaDoorPk47
import Derived.Deep.RegionHeldLaw
namespace Go.Proofs.YtjbmkbgoahppfaaDoor
open Go.RowKit

theorem len_zero (k : Int) (hk : k = 2 ∨ k = 3 ∨ k = 4) (a b c d lo hi : Int) (v : Value) (w : World) :
    Calls Tryd.prog 39 #[.agg #[.int .i64 k, .int .u64 a, .int .u64 b, .int .u64 c, .int .u64 d, .int .i64 lo, .int .i64 hi], v] w fun e w' => e = .returned (fxr false 0 0 0 0 0 0 false) ∧ Below w.heap.size w w' := by
  have e1 : (k == 1) = false := beq_eq_false_iff_ne.2 (by omega)
  have e5 : (k == 5) = false := beq_eq_false_iff_ne.2 (by omega)
  have e6 : (k == 6) = false := beq_eq_false_iff_ne.2 (by omega)
  have e7 : (k == 7) = false := beq_eq_false_iff_ne.2 (by omega)
  clear hk
  unfold fxr
  go_enter Tryd.func39, Tryd.ntmps39
  go_wp2_with fail
  go_returns
  exact ⟨rfl, by go_grown⟩
set_option maxRecDepth 100000 in
set_option maxHeartbeats 4000000 in
theorem len_set (xa xb xc xd lo hi : Int) (rn : Bool) (rls rms r0 r1 r2 r3 : Int) (er : Bool) (v : Value) (w : World)
    (HC : ∀ w, Calls Tryd.prog 46 #[.agg #[.int .u64 xa, .int .u64 xb, .int .u64 xc, .int .u64 xd]] w fun e w' => e = .returned (fxr rn rls rms r0 r1 r2 r3 er) ∧ Below w.heap.size w w') :
    Calls Tryd.prog 39 #[.agg #[.int .i64 1, .int .u64 xa, .int .u64 xb, .int .u64 xc, .int .u64 xd, .int .i64 lo, .int .i64 hi], v] w fun e w' => e = .returned (fxr rn rls rms r0 r1 r2 r3 er) ∧ Below w.heap.size w w' := by
  obtain ⟨W, hW⟩ : ∃ W, (w.alloc (.cells #[.int .i64 1, .int .u64 xa, .int .u64 xb, .int .u64 xc, .int .u64 xd, .int .i64 lo, .int .i64 hi] 45)).alloc (.cells #[.bool false, .int .i64 0, .int .i64 0, .int .u64 0, .int .u64 0, .int .u64 0, .int .u64 0, .bool false] 40) = W := ⟨_, rfl⟩
  have hBW : Below w.heap.size w W := hW ▸ ((Below.refl _ _).alloc (Nat.le_refl _) _).alloc (by simp) _
  have hz : W.heap.size = w.heap.size + 2 := by rw [← hW]; simp
  have EC : isFx W (w.heap.size + 1) false 0 0 0 0 0 0 false := hW ▸ (show isFx _ _ _ _ _ _ _ _ _ _ from by
    have := isFx.new (w.alloc (.cells #[.int .i64 1, .int .u64 xa, .int .u64 xb, .int .u64 xc, .int .u64 xd, .int .i64 lo, .int .i64 hi] 45)) false 0 0 0 0 0 0 false
    rw [World.size_alloc] at this
    exact this)
  have n0 : W.cell? ⟨w.heap.size, 0, none⟩ = some (.int .i64 1) := by rw [← hW]; simp
  have n1 : W.cell? ⟨w.heap.size, 1, none⟩ = some (.int .u64 xa) := by rw [← hW]; simp
  have n2 : W.cell? ⟨w.heap.size, 2, none⟩ = some (.int .u64 xb) := by rw [← hW]; simp
  have n3 : W.cell? ⟨w.heap.size, 3, none⟩ = some (.int .u64 xc) := by rw [← hW]; simp
  have n4 : W.cell? ⟨w.heap.size, 4, none⟩ = some (.int .u64 xd) := by rw [← hW]; simp
  have HCh := Lib.hid HC
  have HBW := Lib.hid hBW
  have HEC := Lib.hid EC
  obtain ⟨C, hC⟩ : ∃ C, w.heap.size + 1 = C := ⟨_, rfl⟩
  rw [hC] at HEC
  have HZ : Hid (W.heap.size = C + 1 ∧ w.heap.size ≤ C) := Lib.hid ⟨by omega, by omega⟩
  clear EC hBW hz HC
  go_enter Tryd.func39, Tryd.ntmps39
  go_wp2_with fail
  refine (HCh.out _).mono ?_
  rintro e wk ⟨rfl, hb⟩
  have E0 := HEC.out.below hb (by have := HZ.out; omega)
  have hB := HBW.out.trans (hb.mono HBW.out.size)
  obtain ⟨g0, g1, g2, g3, g4, g5, g6, g7⟩ := E0.cells
  obtain ⟨f0, f1, f2, f3, f4, f5, f6, f7⟩ := E0.free
  have HS := Lib.hid (below_st8 hB HZ.out.2 rn rls rms r0 r1 r2 r3 er)
  have Z := E0.stored rn rls rms r0 r1 r2 r3 er
  unfold set87 at Z
  have Z := Lib.hid Z.cells
  clear E0 hB hb hW HEC HZ HBW n0 n1 n2 n3 n4 hC
  go_wp2_with fail
  refine bodyPost_ret (v := fxr rn rls rms r0 r1 r2 r3 er) ?h rfl ⟨rfl, HS.out⟩
  case h =>
    have Z0 := Z.out
    generalize ((((((((wk.setCell ⟨C, 0, none⟩ (.bool rn)).setCell ⟨C, 1, none⟩ (.int .i64 rls)).setCell ⟨C, 2, none⟩ (.int .i64 rms)).setCell ⟨C, 3, none⟩ (.int .u64 r0)).setCell ⟨C, 4, none⟩ (.int .u64 r1)).setCell ⟨C, 5, none⟩ (.int .u64 r2)).setCell ⟨C, 6, none⟩ (.int .u64 r3)).setCell ⟨C, 7, none⟩ (.bool er)) = W9 at Z0 ⊢
    obtain ⟨z0, z1, z2, z3, z4, z5, z6, z7⟩ := Z0
    simp [results, Tryd.results39, go_sem, z0, z1, z2, z3, z4, z5, z6, z7]
end Go.Proofs.YtjbmkbgoahppfaaDoor

namespace Go.Proofs.YtjbmkbgoahppfaaDoor
open Go.RowKit

set_option maxRecDepth 100000 in
set_option maxHeartbeats 4000000 in
theorem len_cat (xa xb xc xd lo hi : Int) (an : Bool) (als ams a0 a1 a2 a3 : Int) (ea : Bool) (bn : Bool) (bls bms b0 b1 b2 b3 : Int) (eb : Bool) (rn : Bool) (rls rms r0 r1 r2 r3 : Int) (er : Bool) (b o cap : Nat) (w : World) (hb : b < w.heap.size)
    (h0 : w.cell? ⟨b, o, none⟩ = some (.bool an) ∧ w.cell? ⟨b, o + 1, none⟩ = some (.int .i64 als) ∧ w.cell? ⟨b, o + 2, none⟩ = some (.int .i64 ams) ∧ w.cell? ⟨b, o + 3, none⟩ = some (.int .u64 a0) ∧ w.cell? ⟨b, o + 4, none⟩ = some (.int .u64 a1) ∧ w.cell? ⟨b, o + 5, none⟩ = some (.int .u64 a2) ∧ w.cell? ⟨b, o + 6, none⟩ = some (.int .u64 a3) ∧ w.cell? ⟨b, o + 7, none⟩ = some (.bool ea))
    (h1 : w.cell? ⟨b, o + 8, none⟩ = some (.bool bn) ∧ w.cell? ⟨b, o + 9, none⟩ = some (.int .i64 bls) ∧ w.cell? ⟨b, o + 10, none⟩ = some (.int .i64 bms) ∧ w.cell? ⟨b, o + 11, none⟩ = some (.int .u64 b0) ∧ w.cell? ⟨b, o + 12, none⟩ = some (.int .u64 b1) ∧ w.cell? ⟨b, o + 13, none⟩ = some (.int .u64 b2) ∧ w.cell? ⟨b, o + 14, none⟩ = some (.int .u64 b3) ∧ w.cell? ⟨b, o + 15, none⟩ = some (.bool eb))
    (HC : ∀ w, Calls Tryd.prog 47 #[fxr an als ams a0 a1 a2 a3 ea, fxr bn bls bms b0 b1 b2 b3 eb] w fun e w' => e = .returned (fxr rn rls rms r0 r1 r2 r3 er) ∧ Below w.heap.size w w') :
    Calls Tryd.prog 39 #[.agg #[.int .i64 5, .int .u64 xa, .int .u64 xb, .int .u64 xc, .int .u64 xd, .int .i64 lo, .int .i64 hi], .slice (some ⟨b, o, none⟩) 2 cap] w fun e w' => e = .returned (fxr rn rls rms r0 r1 r2 r3 er) ∧ Below w.heap.size w w' := by
  obtain ⟨W, hW⟩ : ∃ W, (w.alloc (.cells #[.int .i64 5, .int .u64 xa, .int .u64 xb, .int .u64 xc, .int .u64 xd, .int .i64 lo, .int .i64 hi] 45)).alloc (.cells #[.bool false, .int .i64 0, .int .i64 0, .int .u64 0, .int .u64 0, .int .u64 0, .int .u64 0, .bool false] 40) = W := ⟨_, rfl⟩
  have hBW : Below w.heap.size w W := hW ▸ ((Below.refl _ _).alloc (Nat.le_refl _) _).alloc (by simp) _
  have hz : W.heap.size = w.heap.size + 2 := by rw [← hW]; simp
  have EC : isFx W (w.heap.size + 1) false 0 0 0 0 0 0 false := hW ▸ (show isFx _ _ _ _ _ _ _ _ _ _ from by
    have := isFx.new (w.alloc (.cells #[.int .i64 5, .int .u64 xa, .int .u64 xb, .int .u64 xc, .int .u64 xd, .int .i64 lo, .int .i64 hi] 45)) false 0 0 0 0 0 0 false
    rw [World.size_alloc] at this
    exact this)
  have n0 : W.cell? ⟨w.heap.size, 0, none⟩ = some (.int .i64 5) := by rw [← hW]; simp
  have HK : Hid (∀ w', Below w.heap.size w w' → w'.cell? ⟨b, o, none⟩ = some (.bool an) ∧ w'.cell? ⟨b, o + 1, none⟩ = some (.int .i64 als) ∧ w'.cell? ⟨b, o + 2, none⟩ = some (.int .i64 ams) ∧ w'.cell? ⟨b, o + 3, none⟩ = some (.int .u64 a0) ∧ w'.cell? ⟨b, o + 4, none⟩ = some (.int .u64 a1) ∧ w'.cell? ⟨b, o + 5, none⟩ = some (.int .u64 a2) ∧ w'.cell? ⟨b, o + 6, none⟩ = some (.int .u64 a3) ∧ w'.cell? ⟨b, o + 7, none⟩ = some (.bool ea) ∧ w'.cell? ⟨b, o + 8, none⟩ = some (.bool bn) ∧ w'.cell? ⟨b, o + 9, none⟩ = some (.int .i64 bls) ∧ w'.cell? ⟨b, o + 10, none⟩ = some (.int .i64 bms) ∧ w'.cell? ⟨b, o + 11, none⟩ = some (.int .u64 b0) ∧ w'.cell? ⟨b, o + 12, none⟩ = some (.int .u64 b1) ∧ w'.cell? ⟨b, o + 13, none⟩ = some (.int .u64 b2) ∧ w'.cell? ⟨b, o + 14, none⟩ = some (.int .u64 b3) ∧ w'.cell? ⟨b, o + 15, none⟩ = some (.bool eb)) := Lib.hid fun w' hB => by
    obtain ⟨u0, u1, u2, u3, u4, u5, u6, u7⟩ := h0
    obtain ⟨v0, v1, v2, v3, v4, v5, v6, v7⟩ := h1
    exact ⟨cell_far7 hB hb u0, cell_far7 hB hb u1, cell_far7 hB hb u2, cell_far7 hB hb u3, cell_far7 hB hb u4, cell_far7 hB hb u5, cell_far7 hB hb u6, cell_far7 hB hb u7, cell_far7 hB hb v0, cell_far7 hB hb v1, cell_far7 hB hb v2, cell_far7 hB hb v3, cell_far7 hB hb v4, cell_far7 hB hb v5, cell_far7 hB hb v6, cell_far7 hB hb v7⟩
  have HCh := Lib.hid HC
  have HBW := Lib.hid hBW
  have HEC := Lib.hid EC
  obtain ⟨C, hC⟩ : ∃ C, w.heap.size + 1 = C := ⟨_, rfl⟩
  rw [hC] at HEC
  have HZ : Hid (W.heap.size = C + 1 ∧ w.heap.size ≤ C) := Lib.hid ⟨by omega, by omega⟩
  have HX : Hid (∀ wk, Below W.drew.heap.size W.drew wk → Below w.heap.size w wk ∧ isFx wk C false 0 0 0 0 0 0 false) := Lib.hid fun wk hB => by
    have h : Below W.heap.size W wk := (Below.refl W.heap.size W).drew.trans hB
    exact ⟨HBW.out.trans (h.mono HBW.out.size), HEC.out.below h (by have := HZ.out; omega)⟩
  clear EC hBW hz HC h0 h1 hb
  go_enter Tryd.func39, Tryd.ntmps39
  go_wp2_with fail
  clear hW hC
  have hB := HBW.out
  go_region_held_law (fun w' => w'.cell? ⟨b, o, none⟩ = some (.bool an) ∧ w'.cell? ⟨b, o + 1, none⟩ = some (.int .i64 als) ∧ w'.cell? ⟨b, o + 2, none⟩ = some (.int .i64 ams) ∧ w'.cell? ⟨b, o + 3, none⟩ = some (.int .u64 a0) ∧ w'.cell? ⟨b, o + 4, none⟩ = some (.int .u64 a1) ∧ w'.cell? ⟨b, o + 5, none⟩ = some (.int .u64 a2) ∧ w'.cell? ⟨b, o + 6, none⟩ = some (.int .u64 a3) ∧ w'.cell? ⟨b, o + 7, none⟩ = some (.bool ea) ∧ w'.cell? ⟨b, o + 8, none⟩ = some (.bool bn) ∧ w'.cell? ⟨b, o + 9, none⟩ = some (.int .i64 bls) ∧ w'.cell? ⟨b, o + 10, none⟩ = some (.int .i64 bms) ∧ w'.cell? ⟨b, o + 11, none⟩ = some (.int .u64 b0) ∧ w'.cell? ⟨b, o + 12, none⟩ = some (.int .u64 b1) ∧ w'.cell? ⟨b, o + 13, none⟩ = some (.int .u64 b2) ∧ w'.cell? ⟨b, o + 14, none⟩ = some (.int .u64 b3) ∧ w'.cell? ⟨b, o + 15, none⟩ = some (.bool eb))
    (first | with_reducible exact HK.out _ hB | with_reducible exact HK.out _ hB.drew | with_reducible exact HK.out _ (below_st8 hB HZ.out.2 _ _ _ _ _ _ _ _))
    (first | (go_at_call 47; (with_reducible refine (HCh.out _).mono ?_); rintro e wk ⟨rfl, hb⟩; obtain ⟨hB2, E0⟩ := HX.out wk hb; have HE0 := Lib.hid E0; obtain ⟨g0, g1, g2, g3, g4, g5, g6, g7⟩ := E0.cells; obtain ⟨f0, f1, f2, f3, f4, f5, f6, f7⟩ := E0.free; clear E0 hb; (replace hB := hB2); clear hB2))
  all_goals
    have HS := Lib.hid (below_st8 hB HZ.out.2 rn rls rms r0 r1 r2 r3 er)
    have Z := HE0.out.stored rn rls rms r0 r1 r2 r3 er
    unfold set87 at Z
    have Z := Lib.hid Z.cells
    clear HE0 hB g0 g1 g2 g3 g4 g5 g6 g7 f0 f1 f2 f3 f4 f5 f6 f7
    generalize ((((((((wk.setCell ⟨C, 0, none⟩ (.bool rn)).setCell ⟨C, 1, none⟩ (.int .i64 rls)).setCell ⟨C, 2, none⟩ (.int .i64 rms)).setCell ⟨C, 3, none⟩ (.int .u64 r0)).setCell ⟨C, 4, none⟩ (.int .u64 r1)).setCell ⟨C, 5, none⟩ (.int .u64 r2)).setCell ⟨C, 6, none⟩ (.int .u64 r3)).setCell ⟨C, 7, none⟩ (.bool er)) = W9 at *
    go_wp2_with fail
    refine bodyPost_ret (v := fxr rn rls rms r0 r1 r2 r3 er) ?h rfl ⟨rfl, HS.out⟩
    case h =>
      obtain ⟨z0, z1, z2, z3, z4, z5, z6, z7⟩ := Z.out
      simp [results, Tryd.results39, go_sem, z0, z1, z2, z3, z4, z5, z6, z7]
end Go.Proofs.YtjbmkbgoahppfaaDoor

namespace Go.Proofs.YtjbmkbgoahppfaaDoor
open Go.RowKit

set_option maxRecDepth 100000 in
set_option maxHeartbeats 4000000 in
theorem len_or (xa xb xc xd lo hi : Int) (an : Bool) (als ams a0 a1 a2 a3 : Int) (ea : Bool) (bn : Bool) (bls bms b0 b1 b2 b3 : Int) (eb : Bool) (rn : Bool) (rls rms r0 r1 r2 r3 : Int) (er : Bool) (b o cap : Nat) (w : World) (hb : b < w.heap.size)
    (h0 : w.cell? ⟨b, o, none⟩ = some (.bool an) ∧ w.cell? ⟨b, o + 1, none⟩ = some (.int .i64 als) ∧ w.cell? ⟨b, o + 2, none⟩ = some (.int .i64 ams) ∧ w.cell? ⟨b, o + 3, none⟩ = some (.int .u64 a0) ∧ w.cell? ⟨b, o + 4, none⟩ = some (.int .u64 a1) ∧ w.cell? ⟨b, o + 5, none⟩ = some (.int .u64 a2) ∧ w.cell? ⟨b, o + 6, none⟩ = some (.int .u64 a3) ∧ w.cell? ⟨b, o + 7, none⟩ = some (.bool ea))
    (h1 : w.cell? ⟨b, o + 8, none⟩ = some (.bool bn) ∧ w.cell? ⟨b, o + 9, none⟩ = some (.int .i64 bls) ∧ w.cell? ⟨b, o + 10, none⟩ = some (.int .i64 bms) ∧ w.cell? ⟨b, o + 11, none⟩ = some (.int .u64 b0) ∧ w.cell? ⟨b, o + 12, none⟩ = some (.int .u64 b1) ∧ w.cell? ⟨b, o + 13, none⟩ = some (.int .u64 b2) ∧ w.cell? ⟨b, o + 14, none⟩ = some (.int .u64 b3) ∧ w.cell? ⟨b, o + 15, none⟩ = some (.bool eb))
    (HC : ∀ w, Calls Tryd.prog 48 #[fxr an als ams a0 a1 a2 a3 ea, fxr bn bls bms b0 b1 b2 b3 eb] w fun e w' => e = .returned (fxr rn rls rms r0 r1 r2 r3 er) ∧ Below w.heap.size w w') :
    Calls Tryd.prog 39 #[.agg #[.int .i64 6, .int .u64 xa, .int .u64 xb, .int .u64 xc, .int .u64 xd, .int .i64 lo, .int .i64 hi], .slice (some ⟨b, o, none⟩) 2 cap] w fun e w' => e = .returned (fxr rn rls rms r0 r1 r2 r3 er) ∧ Below w.heap.size w w' := by
  obtain ⟨W, hW⟩ : ∃ W, (w.alloc (.cells #[.int .i64 6, .int .u64 xa, .int .u64 xb, .int .u64 xc, .int .u64 xd, .int .i64 lo, .int .i64 hi] 45)).alloc (.cells #[.bool false, .int .i64 0, .int .i64 0, .int .u64 0, .int .u64 0, .int .u64 0, .int .u64 0, .bool false] 40) = W := ⟨_, rfl⟩
  have hBW : Below w.heap.size w W := hW ▸ ((Below.refl _ _).alloc (Nat.le_refl _) _).alloc (by simp) _
  have hz : W.heap.size = w.heap.size + 2 := by rw [← hW]; simp
  have EC : isFx W (w.heap.size + 1) false 0 0 0 0 0 0 false := hW ▸ (show isFx _ _ _ _ _ _ _ _ _ _ from by
    have := isFx.new (w.alloc (.cells #[.int .i64 6, .int .u64 xa, .int .u64 xb, .int .u64 xc, .int .u64 xd, .int .i64 lo, .int .i64 hi] 45)) false 0 0 0 0 0 0 false
    rw [World.size_alloc] at this
    exact this)
  have n0 : W.cell? ⟨w.heap.size, 0, none⟩ = some (.int .i64 6) := by rw [← hW]; simp
  have HK : Hid (∀ w', Below w.heap.size w w' → w'.cell? ⟨b, o, none⟩ = some (.bool an) ∧ w'.cell? ⟨b, o + 1, none⟩ = some (.int .i64 als) ∧ w'.cell? ⟨b, o + 2, none⟩ = some (.int .i64 ams) ∧ w'.cell? ⟨b, o + 3, none⟩ = some (.int .u64 a0) ∧ w'.cell? ⟨b, o + 4, none⟩ = some (.int .u64 a1) ∧ w'.cell? ⟨b, o + 5, none⟩ = some (.int .u64 a2) ∧ w'.cell? ⟨b, o + 6, none⟩ = some (.int .u64 a3) ∧ w'.cell? ⟨b, o + 7, none⟩ = some (.bool ea) ∧ w'.cell? ⟨b, o + 8, none⟩ = some (.bool bn) ∧ w'.cell? ⟨b, o + 9, none⟩ = some (.int .i64 bls) ∧ w'.cell? ⟨b, o + 10, none⟩ = some (.int .i64 bms) ∧ w'.cell? ⟨b, o + 11, none⟩ = some (.int .u64 b0) ∧ w'.cell? ⟨b, o + 12, none⟩ = some (.int .u64 b1) ∧ w'.cell? ⟨b, o + 13, none⟩ = some (.int .u64 b2) ∧ w'.cell? ⟨b, o + 14, none⟩ = some (.int .u64 b3) ∧ w'.cell? ⟨b, o + 15, none⟩ = some (.bool eb)) := Lib.hid fun w' hB => by
    obtain ⟨u0, u1, u2, u3, u4, u5, u6, u7⟩ := h0
    obtain ⟨v0, v1, v2, v3, v4, v5, v6, v7⟩ := h1
    exact ⟨cell_far7 hB hb u0, cell_far7 hB hb u1, cell_far7 hB hb u2, cell_far7 hB hb u3, cell_far7 hB hb u4, cell_far7 hB hb u5, cell_far7 hB hb u6, cell_far7 hB hb u7, cell_far7 hB hb v0, cell_far7 hB hb v1, cell_far7 hB hb v2, cell_far7 hB hb v3, cell_far7 hB hb v4, cell_far7 hB hb v5, cell_far7 hB hb v6, cell_far7 hB hb v7⟩
  have HCh := Lib.hid HC
  have HBW := Lib.hid hBW
  have HEC := Lib.hid EC
  obtain ⟨C, hC⟩ : ∃ C, w.heap.size + 1 = C := ⟨_, rfl⟩
  rw [hC] at HEC
  have HZ : Hid (W.heap.size = C + 1 ∧ w.heap.size ≤ C) := Lib.hid ⟨by omega, by omega⟩
  have HX : Hid (∀ wk, Below W.drew.heap.size W.drew wk → Below w.heap.size w wk ∧ isFx wk C false 0 0 0 0 0 0 false) := Lib.hid fun wk hB => by
    have h : Below W.heap.size W wk := (Below.refl W.heap.size W).drew.trans hB
    exact ⟨HBW.out.trans (h.mono HBW.out.size), HEC.out.below h (by have := HZ.out; omega)⟩
  clear EC hBW hz HC h0 h1 hb
  go_enter Tryd.func39, Tryd.ntmps39
  go_wp2_with fail
  clear hW hC
  have hB := HBW.out
  go_region_held_law (fun w' => w'.cell? ⟨b, o, none⟩ = some (.bool an) ∧ w'.cell? ⟨b, o + 1, none⟩ = some (.int .i64 als) ∧ w'.cell? ⟨b, o + 2, none⟩ = some (.int .i64 ams) ∧ w'.cell? ⟨b, o + 3, none⟩ = some (.int .u64 a0) ∧ w'.cell? ⟨b, o + 4, none⟩ = some (.int .u64 a1) ∧ w'.cell? ⟨b, o + 5, none⟩ = some (.int .u64 a2) ∧ w'.cell? ⟨b, o + 6, none⟩ = some (.int .u64 a3) ∧ w'.cell? ⟨b, o + 7, none⟩ = some (.bool ea) ∧ w'.cell? ⟨b, o + 8, none⟩ = some (.bool bn) ∧ w'.cell? ⟨b, o + 9, none⟩ = some (.int .i64 bls) ∧ w'.cell? ⟨b, o + 10, none⟩ = some (.int .i64 bms) ∧ w'.cell? ⟨b, o + 11, none⟩ = some (.int .u64 b0) ∧ w'.cell? ⟨b, o + 12, none⟩ = some (.int .u64 b1) ∧ w'.cell? ⟨b, o + 13, none⟩ = some (.int .u64 b2) ∧ w'.cell? ⟨b, o + 14, none⟩ = some (.int .u64 b3) ∧ w'.cell? ⟨b, o + 15, none⟩ = some (.bool eb))
    (first | with_reducible exact HK.out _ hB | with_reducible exact HK.out _ hB.drew | with_reducible exact HK.out _ (below_st8 hB HZ.out.2 _ _ _ _ _ _ _ _))
    (first | (go_at_call 48; (with_reducible refine (HCh.out _).mono ?_); rintro e wk ⟨rfl, hb⟩; obtain ⟨hB2, E0⟩ := HX.out wk hb; have HE0 := Lib.hid E0; obtain ⟨g0, g1, g2, g3, g4, g5, g6, g7⟩ := E0.cells; obtain ⟨f0, f1, f2, f3, f4, f5, f6, f7⟩ := E0.free; clear E0 hb; (replace hB := hB2); clear hB2))
  all_goals
    have HS := Lib.hid (below_st8 hB HZ.out.2 rn rls rms r0 r1 r2 r3 er)
    have Z := HE0.out.stored rn rls rms r0 r1 r2 r3 er
    unfold set87 at Z
    have Z := Lib.hid Z.cells
    clear HE0 hB g0 g1 g2 g3 g4 g5 g6 g7 f0 f1 f2 f3 f4 f5 f6 f7
    generalize ((((((((wk.setCell ⟨C, 0, none⟩ (.bool rn)).setCell ⟨C, 1, none⟩ (.int .i64 rls)).setCell ⟨C, 2, none⟩ (.int .i64 rms)).setCell ⟨C, 3, none⟩ (.int .u64 r0)).setCell ⟨C, 4, none⟩ (.int .u64 r1)).setCell ⟨C, 5, none⟩ (.int .u64 r2)).setCell ⟨C, 6, none⟩ (.int .u64 r3)).setCell ⟨C, 7, none⟩ (.bool er)) = W9 at *
    go_wp2_with fail
    refine bodyPost_ret (v := fxr rn rls rms r0 r1 r2 r3 er) ?h rfl ⟨rfl, HS.out⟩
    case h =>
      obtain ⟨z0, z1, z2, z3, z4, z5, z6, z7⟩ := Z.out
      simp [results, Tryd.results39, go_sem, z0, z1, z2, z3, z4, z5, z6, z7]
end Go.Proofs.YtjbmkbgoahppfaaDoor

namespace Go.Proofs.YtjbmkbgoahppfaaDoor
open Go.RowKit

set_option maxRecDepth 100000 in
set_option maxHeartbeats 4000000 in
theorem len_rep (xa xb xc xd lo hi : Int) (an : Bool) (als ams a0 a1 a2 a3 : Int) (ea : Bool) (rn : Bool) (rls rms r0 r1 r2 r3 : Int) (er : Bool) (b o cap : Nat) (w : World) (hb : b < w.heap.size)
    (h0 : w.cell? ⟨b, o, none⟩ = some (.bool an) ∧ w.cell? ⟨b, o + 1, none⟩ = some (.int .i64 als) ∧ w.cell? ⟨b, o + 2, none⟩ = some (.int .i64 ams) ∧ w.cell? ⟨b, o + 3, none⟩ = some (.int .u64 a0) ∧ w.cell? ⟨b, o + 4, none⟩ = some (.int .u64 a1) ∧ w.cell? ⟨b, o + 5, none⟩ = some (.int .u64 a2) ∧ w.cell? ⟨b, o + 6, none⟩ = some (.int .u64 a3) ∧ w.cell? ⟨b, o + 7, none⟩ = some (.bool ea))
    (HC : ∀ w, Calls Tryd.prog 49 #[fxr an als ams a0 a1 a2 a3 ea, .int .i64 lo, .int .i64 hi] w fun e w' => e = .returned (fxr rn rls rms r0 r1 r2 r3 er) ∧ Below w.heap.size w w') :
    Calls Tryd.prog 39 #[.agg #[.int .i64 7, .int .u64 xa, .int .u64 xb, .int .u64 xc, .int .u64 xd, .int .i64 lo, .int .i64 hi], .slice (some ⟨b, o, none⟩) 1 cap] w fun e w' => e = .returned (fxr rn rls rms r0 r1 r2 r3 er) ∧ Below w.heap.size w w' := by
  obtain ⟨W, hW⟩ : ∃ W, (w.alloc (.cells #[.int .i64 7, .int .u64 xa, .int .u64 xb, .int .u64 xc, .int .u64 xd, .int .i64 lo, .int .i64 hi] 45)).alloc (.cells #[.bool false, .int .i64 0, .int .i64 0, .int .u64 0, .int .u64 0, .int .u64 0, .int .u64 0, .bool false] 40) = W := ⟨_, rfl⟩
  have hBW : Below w.heap.size w W := hW ▸ ((Below.refl _ _).alloc (Nat.le_refl _) _).alloc (by simp) _
  have hz : W.heap.size = w.heap.size + 2 := by rw [← hW]; simp
  have EC : isFx W (w.heap.size + 1) false 0 0 0 0 0 0 false := hW ▸ (show isFx _ _ _ _ _ _ _ _ _ _ from by
    have := isFx.new (w.alloc (.cells #[.int .i64 7, .int .u64 xa, .int .u64 xb, .int .u64 xc, .int .u64 xd, .int .i64 lo, .int .i64 hi] 45)) false 0 0 0 0 0 0 false
    rw [World.size_alloc] at this
    exact this)
  have n0 : W.cell? ⟨w.heap.size, 0, none⟩ = some (.int .i64 7) := by rw [← hW]; simp
  have n5 : W.cell? ⟨w.heap.size, 5, none⟩ = some (.int .i64 lo) := by rw [← hW]; simp
  have n6 : W.cell? ⟨w.heap.size, 6, none⟩ = some (.int .i64 hi) := by rw [← hW]; simp
  have HK : Hid (∀ w', Below (w.heap.size + 1) W w' → w'.cell? ⟨b, o, none⟩ = some (.bool an) ∧ w'.cell? ⟨b, o + 1, none⟩ = some (.int .i64 als) ∧ w'.cell? ⟨b, o + 2, none⟩ = some (.int .i64 ams) ∧ w'.cell? ⟨b, o + 3, none⟩ = some (.int .u64 a0) ∧ w'.cell? ⟨b, o + 4, none⟩ = some (.int .u64 a1) ∧ w'.cell? ⟨b, o + 5, none⟩ = some (.int .u64 a2) ∧ w'.cell? ⟨b, o + 6, none⟩ = some (.int .u64 a3) ∧ w'.cell? ⟨b, o + 7, none⟩ = some (.bool ea) ∧ w'.cell? ⟨w.heap.size, 5, none⟩ = some (.int .i64 lo) ∧ w'.cell? ⟨w.heap.size, 6, none⟩ = some (.int .i64 hi)) := Lib.hid fun w' hB => by
    obtain ⟨u0, u1, u2, u3, u4, u5, u6, u7⟩ := h0
    have hB0 := hBW.trans (hB.mono (Nat.le_succ _))
    exact ⟨cell_far7 hB0 hb u0, cell_far7 hB0 hb u1, cell_far7 hB0 hb u2, cell_far7 hB0 hb u3, cell_far7 hB0 hb u4, cell_far7 hB0 hb u5, cell_far7 hB0 hb u6, cell_far7 hB0 hb u7, cell_far7 hB (Nat.lt_succ_self _) n5, cell_far7 hB (Nat.lt_succ_self _) n6⟩
  have HCh := Lib.hid HC
  have HBW := Lib.hid hBW
  have HEC := Lib.hid EC
  obtain ⟨C, hC⟩ : ∃ C, w.heap.size + 1 = C := ⟨_, rfl⟩
  rw [hC] at HEC HK
  have HZ : Hid (W.heap.size = C + 1 ∧ w.heap.size ≤ C) := Lib.hid ⟨by omega, by omega⟩
  have HX : Hid (∀ wk, Below W.drew.heap.size W.drew wk → Below C W wk ∧ isFx wk C false 0 0 0 0 0 0 false) := Lib.hid fun wk hB => by
    have h : Below W.heap.size W wk := (Below.refl W.heap.size W).drew.trans hB
    exact ⟨h.mono (by have := HZ.out; omega), HEC.out.below h (by have := HZ.out; omega)⟩
  clear EC hBW hz HC h0 hb
  go_enter Tryd.func39, Tryd.ntmps39
  go_wp2_with fail
  clear hW hC
  have hB := Below.refl C W
  go_region_held_law (fun w' => w'.cell? ⟨b, o, none⟩ = some (.bool an) ∧ w'.cell? ⟨b, o + 1, none⟩ = some (.int .i64 als) ∧ w'.cell? ⟨b, o + 2, none⟩ = some (.int .i64 ams) ∧ w'.cell? ⟨b, o + 3, none⟩ = some (.int .u64 a0) ∧ w'.cell? ⟨b, o + 4, none⟩ = some (.int .u64 a1) ∧ w'.cell? ⟨b, o + 5, none⟩ = some (.int .u64 a2) ∧ w'.cell? ⟨b, o + 6, none⟩ = some (.int .u64 a3) ∧ w'.cell? ⟨b, o + 7, none⟩ = some (.bool ea) ∧ w'.cell? ⟨w.heap.size, 5, none⟩ = some (.int .i64 lo) ∧ w'.cell? ⟨w.heap.size, 6, none⟩ = some (.int .i64 hi))
    (first | with_reducible exact HK.out _ hB | with_reducible exact HK.out _ hB.drew | with_reducible exact HK.out _ (below_st8 hB (Nat.le_refl _) _ _ _ _ _ _ _ _))
    (first | (go_at_call 49; (with_reducible refine (HCh.out _).mono ?_); rintro e wk ⟨rfl, hb⟩; obtain ⟨hB2, E0⟩ := HX.out wk hb; have HE0 := Lib.hid E0; obtain ⟨g0, g1, g2, g3, g4, g5, g6, g7⟩ := E0.cells; obtain ⟨f0, f1, f2, f3, f4, f5, f6, f7⟩ := E0.free; clear E0 hb; (replace hB := hB2); clear hB2))
  all_goals
    have HS := Lib.hid (below_st8 (HBW.out.trans (hB.mono HZ.out.2)) HZ.out.2 rn rls rms r0 r1 r2 r3 er)
    have Z := HE0.out.stored rn rls rms r0 r1 r2 r3 er
    unfold set87 at Z
    have Z := Lib.hid Z.cells
    clear HE0 hB g0 g1 g2 g3 g4 g5 g6 g7 f0 f1 f2 f3 f4 f5 f6 f7
    generalize ((((((((wk.setCell ⟨C, 0, none⟩ (.bool rn)).setCell ⟨C, 1, none⟩ (.int .i64 rls)).setCell ⟨C, 2, none⟩ (.int .i64 rms)).setCell ⟨C, 3, none⟩ (.int .u64 r0)).setCell ⟨C, 4, none⟩ (.int .u64 r1)).setCell ⟨C, 5, none⟩ (.int .u64 r2)).setCell ⟨C, 6, none⟩ (.int .u64 r3)).setCell ⟨C, 7, none⟩ (.bool er)) = W9 at *
    go_wp2_with fail
    refine bodyPost_ret (v := fxr rn rls rms r0 r1 r2 r3 er) ?h rfl ⟨rfl, HS.out⟩
    case h =>
      obtain ⟨z0, z1, z2, z3, z4, z5, z6, z7⟩ := Z.out
      simp [results, Tryd.results39, go_sem, z0, z1, z2, z3, z4, z5, z6, z7]
end Go.Proofs.YtjbmkbgoahppfaaDoor
