/-
  The walk of facts' again.
  The walk of facts' again.
-/
import Derived.Test.YtjbmkbgoahppfaaDoorPk31
import Derived.Deep.RegionHeldLaw
namespace Go.Proofs.YtjbmkbgoahppfaaDoor
open Go.RowKit

set_option maxRecDepth 100000 in
set_option maxHeartbeats 8000000 in
theorem again_z1 (als ams a0 a1 a2 a3 lo hi L M : Int) (ea : Bool) (w : World) (d0 : (hi == 0) = false) (d1 : (lo == 0) = true) (d2 : (ams == 0) = true)
    (_hl : IntKind.i64.wrap (lo * als) = lo * als) (_hm : IntKind.i64.wrap (hi * ams) = hi * ams) (HL : ∀ w, Calls Tryd.prog 40 #[.int .i64 (lo * als)] w fun e w' => e = .returned (.int .i64 L) ∧ w' = w) (HM : ∀ w, Calls Tryd.prog 40 #[.int .i64 (hi * ams)] w fun e w' => e = .returned (.int .i64 M) ∧ w' = w) :
    Calls Tryd.prog 49 #[fxr false als ams a0 a1 a2 a3 ea, .int .i64 lo, .int .i64 hi] w fun e w' => e = .returned (fxr false L 0 a0 a1 a2 a3 false) ∧ Below w.heap.size w w' := by
  have HLh := Lib.hid HL; have HMh := Lib.hid HM
  clear HL HM
  unfold fxr
  go_enter Tryd.func49, Tryd.ntmps49
  go_wp2_with fail
  obtain ⟨W, hW⟩ : ∃ W, ((w.alloc (.cells #[.bool false, .int .i64 als, .int .i64 ams, .int .u64 a0, .int .u64 a1, .int .u64 a2, .int .u64 a3, .bool ea] 40)).alloc (.cells #[.bool false, .int .i64 0, .int .i64 0, .int .u64 0, .int .u64 0, .int .u64 0, .int .u64 0, .bool false] 40)) = W := ⟨_, rfl⟩
  have HA : Hid (Below w.heap.size w W) := Lib.hid (hW ▸ ((Below.refl _ _).alloc (Nat.le_refl _) _).alloc (by simp) _)
  have hz : W.heap.size = w.heap.size + 2 := by rw [← hW]; simp
  have EA : Hid (isFx W w.heap.size false als ams a0 a1 a2 a3 ea) := Lib.hid (hW ▸ (isFx.new w false als ams a0 a1 a2 a3 ea).alloc _)
  have EC : Hid (isFx W (w.heap.size + 1) false 0 0 0 0 0 0 false) := Lib.hid (hW ▸ (show isFx _ _ _ _ _ _ _ _ _ _ from by
    have := isFx.new (w.alloc (.cells #[.bool false, .int .i64 als, .int .i64 ams, .int .u64 a0, .int .u64 a1, .int .u64 a2, .int .u64 a3, .bool ea] 40)) false 0 0 0 0 0 0 false
    rw [World.size_alloc] at this
    exact this))
  rw [hW]
  clear hW
  obtain ⟨A, hA⟩ : ∃ A, w.heap.size = A := ⟨_, rfl⟩
  rw [hA] at EA EC ⊢
  obtain ⟨C, hC⟩ : ∃ C, A + 1 = C := ⟨_, rfl⟩
  rw [hC] at EC ⊢
  have HZ : Hid (W.heap.size = C + 1 ∧ w.heap.size ≤ C) := Lib.hid ⟨by omega, by omega⟩
  clear hz hA hC
  have hB := Below.refl W.heap.size W
  have HK : Hid (∀ w', Below W.heap.size W w' → w'.cell? ⟨A, 1, none⟩ = some (.int .i64 als) ∧ w'.cell? ⟨A, 3, none⟩ = some (.int .u64 a0) ∧ w'.cell? ⟨A, 4, none⟩ = some (.int .u64 a1) ∧ w'.cell? ⟨A, 5, none⟩ = some (.int .u64 a2) ∧ w'.cell? ⟨A, 6, none⟩ = some (.int .u64 a3)) := Lib.hid fun w' hb => by
    obtain ⟨_, p1, _, p3, p4, p5, p6, _⟩ := (EA.out.below hb EA.out.lt).cells
    exact ⟨p1, p3, p4, p5, p6⟩
  go_region_held_law (fun w' => w'.cell? ⟨A, 1, none⟩ = some (.int .i64 als) ∧ w'.cell? ⟨A, 3, none⟩ = some (.int .u64 a0) ∧ w'.cell? ⟨A, 4, none⟩ = some (.int .u64 a1) ∧ w'.cell? ⟨A, 5, none⟩ = some (.int .u64 a2) ∧ w'.cell? ⟨A, 6, none⟩ = some (.int .u64 a3))
    (first | with_reducible exact HK.out _ hB | with_reducible exact HK.out _ hB.drew | with_reducible exact HK.out _ (hB.alloc (Nat.le_refl _) _) | with_reducible exact HK.out _ (hB.alloc (Nat.le_refl _) _).drew | with_reducible exact HK.out _ (hB.drew.alloc (Nat.le_refl _) _) | with_reducible exact HK.out _ (hB.alloc hB.size _) | with_reducible exact HK.out _ (hB.alloc hB.size _).drew | with_reducible exact HK.out _ (below_st8 hB (Nat.le_refl _) _ _ _ _ _ _ _ _) | exact HK.out _ (below_set87 (hB.alloc (Nat.le_refl _) _).drew (Nat.le_refl _) _ _ _ _ _ _ _ _) | exact HK.out _ (below_set87 (hB.drew.alloc (Nat.le_refl _) _) (Nat.le_refl _) _ _ _ _ _ _ _ _) | exact HK.out _ (below_set87 (hB.alloc hB.size _) hB.size _ _ _ _ _ _ _ _))
    (first
      | (go_at_call 40; (with_reducible refine (HLh.out _).mono ?_); rintro e wk ⟨rfl, rfl⟩)
      | (refine wp_build_fx _ _ _ rfl L (-1) a0 a1 a2 a3 rfl rfl rfl ?_))
  all_goals
    have ED : Hid (isFx (W.alloc (.cells #[.bool false, .int .i64 L, .int .i64 (-1), .int .u64 a0, .int .u64 a1, .int .u64 a2, .int .u64 a3, .bool false] 40)).drew W.heap.size false L (-1) a0 a1 a2 a3 false) := Lib.hid (isFx.new W false L (-1) a0 a1 a2 a3 false)
    have hW5 : Below W.heap.size W (W.alloc (.cells #[.bool false, .int .i64 L, .int .i64 (-1), .int .u64 a0, .int .u64 a1, .int .u64 a2, .int .u64 a3, .bool false] 40)).drew := ((Below.refl W.heap.size W).alloc (Nat.le_refl _) _).drew
    clear hB
    generalize (W.alloc (.cells #[.bool false, .int .i64 L, .int .i64 (-1), .int .u64 a0, .int .u64 a1, .int .u64 a2, .int .u64 a3, .bool false] 40)).drew = W5 at *
    have EA5 := Lib.hid (EA.out.below hW5 EA.out.lt)
    have EC5 := Lib.hid (EC.out.below hW5 EC.out.lt)
    have HA5 := Lib.hid (HA.out.trans (hW5.mono HA.out.size))
    obtain ⟨D, hD⟩ : ∃ D, W.heap.size = D := ⟨_, rfl⟩
    rw [hD] at ED ⊢
    have hCD : ¬ (C = D) := by have := HZ.out; omega
    have hDw : w.heap.size ≤ D := by have := HZ.out; omega
    have hCw : w.heap.size ≤ C := HZ.out.2
    obtain ⟨-, p1, p2, p3, p4, p5, p6, -⟩ := EA5.out.cells
    clear hW5 EA EC HA HK HZ hD HLh EA5
    have E6C := Lib.hid (EC5.out.set hCD 2 (.int .i64 0))
    have HA6 : Hid (Below w.heap.size w (W5.setCell ⟨D, 2, none⟩ (.int .i64 0))) := Lib.hid (HA5.out.setCell (p := ⟨D, 2, none⟩) hDw _)
    obtain ⟨s0, s1, s2, s3, s4, s5, s6, s7⟩ := ED.out.cells
    obtain ⟨t0, t1, t2, t3, t4, t5, t6, t7⟩ := ED.out.free
    obtain ⟨r0, r1, r2, r3, r4, r5, r6, r7⟩ := EC5.out.free
    obtain ⟨c0, c1, c2, c3, c4, c5, c6, c7⟩ := EC5.out.cells
    have HS := Lib.hid (below_set87 HA6.out hCw false L 0 a0 a1 a2 a3 false)
    have Z := Lib.hid (E6C.out.stored false L 0 a0 a1 a2 a3 false).cells
    clear EC5 ED HA5 HA6 E6C hDw hCw
    unfold set87 at Z HS
    go_wp2_with fail
    refine bodyPost_ret (v := fxr false L 0 a0 a1 a2 a3 false) (by simp [results, Tryd.results49, go_sem, Z.out]) rfl ⟨rfl, HS.out⟩
end Go.Proofs.YtjbmkbgoahppfaaDoor

namespace Go.Proofs.YtjbmkbgoahppfaaDoor
open Go.RowKit

set_option maxRecDepth 100000 in
set_option maxHeartbeats 8000000 in
theorem again_m1 (als ams a0 a1 a2 a3 lo hi L M : Int) (ea : Bool) (w : World) (d0 : (hi == 0) = false) (d1 : (lo == 0) = true) (d2 : (ams == 0) = false) (d3 : decide (0 < ams) = true) (d4 : decide (0 < hi) = true)
    (_hl : IntKind.i64.wrap (lo * als) = lo * als) (_hm : IntKind.i64.wrap (hi * ams) = hi * ams) (HL : ∀ w, Calls Tryd.prog 40 #[.int .i64 (lo * als)] w fun e w' => e = .returned (.int .i64 L) ∧ w' = w) (HM : ∀ w, Calls Tryd.prog 40 #[.int .i64 (hi * ams)] w fun e w' => e = .returned (.int .i64 M) ∧ w' = w) :
    Calls Tryd.prog 49 #[fxr false als ams a0 a1 a2 a3 ea, .int .i64 lo, .int .i64 hi] w fun e w' => e = .returned (fxr false L M a0 a1 a2 a3 false) ∧ Below w.heap.size w w' := by
  have HLh := Lib.hid HL; have HMh := Lib.hid HM
  clear HL HM
  unfold fxr
  go_enter Tryd.func49, Tryd.ntmps49
  go_wp2_with fail
  obtain ⟨W, hW⟩ : ∃ W, ((w.alloc (.cells #[.bool false, .int .i64 als, .int .i64 ams, .int .u64 a0, .int .u64 a1, .int .u64 a2, .int .u64 a3, .bool ea] 40)).alloc (.cells #[.bool false, .int .i64 0, .int .i64 0, .int .u64 0, .int .u64 0, .int .u64 0, .int .u64 0, .bool false] 40)) = W := ⟨_, rfl⟩
  have HA : Hid (Below w.heap.size w W) := Lib.hid (hW ▸ ((Below.refl _ _).alloc (Nat.le_refl _) _).alloc (by simp) _)
  have hz : W.heap.size = w.heap.size + 2 := by rw [← hW]; simp
  have EA : Hid (isFx W w.heap.size false als ams a0 a1 a2 a3 ea) := Lib.hid (hW ▸ (isFx.new w false als ams a0 a1 a2 a3 ea).alloc _)
  have EC : Hid (isFx W (w.heap.size + 1) false 0 0 0 0 0 0 false) := Lib.hid (hW ▸ (show isFx _ _ _ _ _ _ _ _ _ _ from by
    have := isFx.new (w.alloc (.cells #[.bool false, .int .i64 als, .int .i64 ams, .int .u64 a0, .int .u64 a1, .int .u64 a2, .int .u64 a3, .bool ea] 40)) false 0 0 0 0 0 0 false
    rw [World.size_alloc] at this
    exact this))
  rw [hW]
  clear hW
  obtain ⟨A, hA⟩ : ∃ A, w.heap.size = A := ⟨_, rfl⟩
  rw [hA] at EA EC ⊢
  obtain ⟨C, hC⟩ : ∃ C, A + 1 = C := ⟨_, rfl⟩
  rw [hC] at EC ⊢
  have HZ : Hid (W.heap.size = C + 1 ∧ w.heap.size ≤ C) := Lib.hid ⟨by omega, by omega⟩
  clear hz hA hC
  have hB := Below.refl W.heap.size W
  have HK : Hid (∀ w', Below W.heap.size W w' → w'.cell? ⟨A, 1, none⟩ = some (.int .i64 als) ∧ w'.cell? ⟨A, 3, none⟩ = some (.int .u64 a0) ∧ w'.cell? ⟨A, 4, none⟩ = some (.int .u64 a1) ∧ w'.cell? ⟨A, 5, none⟩ = some (.int .u64 a2) ∧ w'.cell? ⟨A, 6, none⟩ = some (.int .u64 a3)) := Lib.hid fun w' hb => by
    obtain ⟨_, p1, _, p3, p4, p5, p6, _⟩ := (EA.out.below hb EA.out.lt).cells
    exact ⟨p1, p3, p4, p5, p6⟩
  go_region_held_law (fun w' => w'.cell? ⟨A, 1, none⟩ = some (.int .i64 als) ∧ w'.cell? ⟨A, 3, none⟩ = some (.int .u64 a0) ∧ w'.cell? ⟨A, 4, none⟩ = some (.int .u64 a1) ∧ w'.cell? ⟨A, 5, none⟩ = some (.int .u64 a2) ∧ w'.cell? ⟨A, 6, none⟩ = some (.int .u64 a3))
    (first | with_reducible exact HK.out _ hB | with_reducible exact HK.out _ hB.drew | with_reducible exact HK.out _ (hB.alloc (Nat.le_refl _) _) | with_reducible exact HK.out _ (hB.alloc (Nat.le_refl _) _).drew | with_reducible exact HK.out _ (hB.drew.alloc (Nat.le_refl _) _) | with_reducible exact HK.out _ (hB.alloc hB.size _) | with_reducible exact HK.out _ (hB.alloc hB.size _).drew | with_reducible exact HK.out _ (below_st8 hB (Nat.le_refl _) _ _ _ _ _ _ _ _) | exact HK.out _ (below_set87 (hB.alloc (Nat.le_refl _) _).drew (Nat.le_refl _) _ _ _ _ _ _ _ _) | exact HK.out _ (below_set87 (hB.drew.alloc (Nat.le_refl _) _) (Nat.le_refl _) _ _ _ _ _ _ _ _) | exact HK.out _ (below_set87 (hB.alloc hB.size _) hB.size _ _ _ _ _ _ _ _))
    (first
      | (go_at_call 40; (with_reducible refine (HLh.out _).mono ?_); rintro e wk ⟨rfl, rfl⟩)
      | (refine wp_build_fx _ _ _ rfl L (-1) a0 a1 a2 a3 rfl rfl rfl ?_))
  all_goals
    have ED : Hid (isFx (W.alloc (.cells #[.bool false, .int .i64 L, .int .i64 (-1), .int .u64 a0, .int .u64 a1, .int .u64 a2, .int .u64 a3, .bool false] 40)).drew W.heap.size false L (-1) a0 a1 a2 a3 false) := Lib.hid (isFx.new W false L (-1) a0 a1 a2 a3 false)
    have hW5 : Below W.heap.size W (W.alloc (.cells #[.bool false, .int .i64 L, .int .i64 (-1), .int .u64 a0, .int .u64 a1, .int .u64 a2, .int .u64 a3, .bool false] 40)).drew := ((Below.refl W.heap.size W).alloc (Nat.le_refl _) _).drew
    clear hB
    generalize (W.alloc (.cells #[.bool false, .int .i64 L, .int .i64 (-1), .int .u64 a0, .int .u64 a1, .int .u64 a2, .int .u64 a3, .bool false] 40)).drew = W5 at *
    have EA5 := Lib.hid (EA.out.below hW5 EA.out.lt)
    have EC5 := Lib.hid (EC.out.below hW5 EC.out.lt)
    have HA5 := Lib.hid (HA.out.trans (hW5.mono HA.out.size))
    obtain ⟨D, hD⟩ : ∃ D, W.heap.size = D := ⟨_, rfl⟩
    rw [hD] at ED ⊢
    have hCD : ¬ (C = D) := by have := HZ.out; omega
    have hDw : w.heap.size ≤ D := by have := HZ.out; omega
    have hCw : w.heap.size ≤ C := HZ.out.2
    obtain ⟨-, p1, p2, p3, p4, p5, p6, -⟩ := EA5.out.cells
    clear hW5 EA EC HA HK HZ hD HLh EA5
    have E6C := Lib.hid (EC5.out.set hCD 2 (.int .i64 M))
    have HA6 : Hid (Below w.heap.size w (W5.setCell ⟨D, 2, none⟩ (.int .i64 M))) := Lib.hid (HA5.out.setCell (p := ⟨D, 2, none⟩) hDw _)
    obtain ⟨s0, s1, s2, s3, s4, s5, s6, s7⟩ := ED.out.cells
    obtain ⟨t0, t1, t2, t3, t4, t5, t6, t7⟩ := ED.out.free
    obtain ⟨r0, r1, r2, r3, r4, r5, r6, r7⟩ := EC5.out.free
    obtain ⟨c0, c1, c2, c3, c4, c5, c6, c7⟩ := EC5.out.cells
    have HS := Lib.hid (below_set87 HA6.out hCw false L M a0 a1 a2 a3 false)
    have Z := Lib.hid (E6C.out.stored false L M a0 a1 a2 a3 false).cells
    clear EC5 ED HA5 HA6 E6C hDw hCw
    unfold set87 at Z HS
    go_wp2_with (go_at_call 40; (with_reducible refine (HMh.out _).mono ?_); rintro e wk ⟨rfl, rfl⟩)
    refine bodyPost_ret (v := fxr false L M a0 a1 a2 a3 false) (by simp [results, Tryd.results49, go_sem, Z.out]) rfl ⟨rfl, HS.out⟩
end Go.Proofs.YtjbmkbgoahppfaaDoor
