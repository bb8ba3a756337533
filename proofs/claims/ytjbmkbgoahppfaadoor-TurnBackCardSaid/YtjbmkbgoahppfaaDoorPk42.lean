/-
  The walk of facts' either.
-/
import Derived.Test.YtjbmkbgoahppfaaDoorPk31
import Derived.Deep.RegionHeldLaw
namespace Go.Proofs.YtjbmkbgoahppfaaDoor
open Go.RowKit

set_option maxRecDepth 100000 in
set_option maxHeartbeats 8000000 in
theorem either_x01 (als ams a0 a1 a2 a3 bls bms b0 b1 b2 b3 o0 o1 o2 o3 : Int) (ea eb : Bool) (w : World) (d1 : decide (0 ≤ ams) = false) (hl : (if bls < als then bls else als) = bls)
    (HO : ∀ w, Calls Tryd.prog 58 #[.agg #[.int .u64 a0, .int .u64 a1, .int .u64 a2, .int .u64 a3], .agg #[.int .u64 b0, .int .u64 b1, .int .u64 b2, .int .u64 b3]] w fun e w' => e = .returned (.agg #[.int .u64 o0, .int .u64 o1, .int .u64 o2, .int .u64 o3]) ∧ Below w.heap.size w w') :
    Calls Tryd.prog 48 #[fxr false als ams a0 a1 a2 a3 ea, fxr false bls bms b0 b1 b2 b3 eb] w fun e w' => e = .returned (fxr false bls (-1) o0 o1 o2 o3 false) ∧ Below w.heap.size w w' := by
  have HOh := Lib.hid HO; have HLm := Lib.hid hl
  clear HO hl
  unfold fxr
  go_enter Tryd.func48, Tryd.ntmps48
  go_wp2_with fail
  obtain ⟨W, hW⟩ : ∃ W, (((w.alloc (.cells #[.bool false, .int .i64 als, .int .i64 ams, .int .u64 a0, .int .u64 a1, .int .u64 a2, .int .u64 a3, .bool ea] 40)).alloc (.cells #[.bool false, .int .i64 bls, .int .i64 bms, .int .u64 b0, .int .u64 b1, .int .u64 b2, .int .u64 b3, .bool eb] 40)).alloc (.cells #[.bool false, .int .i64 0, .int .i64 0, .int .u64 0, .int .u64 0, .int .u64 0, .int .u64 0, .bool false] 40)) = W := ⟨_, rfl⟩
  have HA : Hid (Below w.heap.size w W) := Lib.hid (hW ▸ (((Below.refl _ _).alloc (Nat.le_refl _) _).alloc (by simp) _).alloc (by simp; omega) _)
  have hz : W.heap.size = w.heap.size + 3 := by rw [← hW]; simp
  have EA : Hid (isFx W w.heap.size false als ams a0 a1 a2 a3 ea) := Lib.hid (hW ▸ ((isFx.new w false als ams a0 a1 a2 a3 ea).alloc _).alloc _)
  have EB : Hid (isFx W (w.heap.size + 1) false bls bms b0 b1 b2 b3 eb) := Lib.hid (hW ▸ (show isFx _ _ _ _ _ _ _ _ _ _ from by
    have := isFx.new (w.alloc (.cells #[.bool false, .int .i64 als, .int .i64 ams, .int .u64 a0, .int .u64 a1, .int .u64 a2, .int .u64 a3, .bool ea] 40)) false bls bms b0 b1 b2 b3 eb
    rw [World.size_alloc] at this
    exact this.alloc _))
  have EC : Hid (isFx W (w.heap.size + 1 + 1) false 0 0 0 0 0 0 false) := Lib.hid (hW ▸ (show isFx _ _ _ _ _ _ _ _ _ _ from by
    have := isFx.new ((w.alloc (.cells #[.bool false, .int .i64 als, .int .i64 ams, .int .u64 a0, .int .u64 a1, .int .u64 a2, .int .u64 a3, .bool ea] 40)).alloc (.cells #[.bool false, .int .i64 bls, .int .i64 bms, .int .u64 b0, .int .u64 b1, .int .u64 b2, .int .u64 b3, .bool eb] 40)) false 0 0 0 0 0 0 false
    rw [World.size_alloc, World.size_alloc] at this
    exact this))
  rw [hW]
  clear hW
  obtain ⟨A, hA⟩ : ∃ A, w.heap.size = A := ⟨_, rfl⟩
  rw [hA] at EA EB EC ⊢
  obtain ⟨B, hB⟩ : ∃ B, A + 1 = B := ⟨_, rfl⟩
  rw [hB] at EB EC ⊢
  obtain ⟨C, hC⟩ : ∃ C, B + 1 = C := ⟨_, rfl⟩
  rw [hC] at EC ⊢
  have HZ : Hid (W.heap.size = C + 1 ∧ w.heap.size ≤ C) := Lib.hid ⟨by omega, by omega⟩
  clear hz hA hB hC
  have hB := Below.refl W.heap.size W
  have HK : Hid (∀ w', Below W.heap.size W w' → w'.cell? ⟨A, 1, none⟩ = some (.int .i64 als) ∧ w'.cell? ⟨A, 3, none⟩ = some (.int .u64 a0) ∧ w'.cell? ⟨A, 4, none⟩ = some (.int .u64 a1) ∧ w'.cell? ⟨A, 5, none⟩ = some (.int .u64 a2) ∧ w'.cell? ⟨A, 6, none⟩ = some (.int .u64 a3) ∧ w'.cell? ⟨B, 1, none⟩ = some (.int .i64 bls) ∧ w'.cell? ⟨B, 3, none⟩ = some (.int .u64 b0) ∧ w'.cell? ⟨B, 4, none⟩ = some (.int .u64 b1) ∧ w'.cell? ⟨B, 5, none⟩ = some (.int .u64 b2) ∧ w'.cell? ⟨B, 6, none⟩ = some (.int .u64 b3)) := Lib.hid fun w' hb => by
    obtain ⟨_, p1, _, p3, p4, p5, p6, _⟩ := (EA.out.below hb EA.out.lt).cells
    obtain ⟨_, q1, _, q3, q4, q5, q6, _⟩ := (EB.out.below hb EB.out.lt).cells
    exact ⟨p1, p3, p4, p5, p6, q1, q3, q4, q5, q6⟩
  have HD1 : Hid (∀ wk, Below (W.alloc (.cells #[.bool false, .int .i64 0, .int .i64 0, .int .u64 0, .int .u64 0, .int .u64 0, .int .u64 0, .bool false] 40)).drew.heap.size (W.alloc (.cells #[.bool false, .int .i64 0, .int .i64 0, .int .u64 0, .int .u64 0, .int .u64 0, .int .u64 0, .bool false] 40)).drew wk → Below W.heap.size W wk ∧ isFx wk W.heap.size false 0 0 0 0 0 0 false) := Lib.hid fun wk hb => by
    have hs : W.heap.size < (W.alloc (.cells #[.bool false, .int .i64 0, .int .i64 0, .int .u64 0, .int .u64 0, .int .u64 0, .int .u64 0, .bool false] 40)).drew.heap.size := by show W.heap.size < (W.alloc (.cells #[.bool false, .int .i64 0, .int .i64 0, .int .u64 0, .int .u64 0, .int .u64 0, .int .u64 0, .bool false] 40)).heap.size; simp
    exact ⟨((Below.refl W.heap.size W).alloc (Nat.le_refl _) _).drew.trans (hb.mono (Nat.le_of_lt hs)), (show isFx (W.alloc (.cells #[.bool false, .int .i64 0, .int .i64 0, .int .u64 0, .int .u64 0, .int .u64 0, .int .u64 0, .bool false] 40)).drew W.heap.size false 0 0 0 0 0 0 false from isFx.new W false 0 0 0 0 0 0 false).below hb hs⟩
  go_region_held_law (fun w' => w'.cell? ⟨A, 1, none⟩ = some (.int .i64 als) ∧ w'.cell? ⟨A, 3, none⟩ = some (.int .u64 a0) ∧ w'.cell? ⟨A, 4, none⟩ = some (.int .u64 a1) ∧ w'.cell? ⟨A, 5, none⟩ = some (.int .u64 a2) ∧ w'.cell? ⟨A, 6, none⟩ = some (.int .u64 a3) ∧ w'.cell? ⟨B, 1, none⟩ = some (.int .i64 bls) ∧ w'.cell? ⟨B, 3, none⟩ = some (.int .u64 b0) ∧ w'.cell? ⟨B, 4, none⟩ = some (.int .u64 b1) ∧ w'.cell? ⟨B, 5, none⟩ = some (.int .u64 b2) ∧ w'.cell? ⟨B, 6, none⟩ = some (.int .u64 b3))
    (first | with_reducible exact HK.out _ hB | with_reducible exact HK.out _ hB.drew | with_reducible exact HK.out _ (hB.alloc (Nat.le_refl _) _) | with_reducible exact HK.out _ (hB.alloc (Nat.le_refl _) _).drew | with_reducible exact HK.out _ (hB.drew.alloc (Nat.le_refl _) _) | with_reducible exact HK.out _ (hB.alloc hB.size _) | with_reducible exact HK.out _ (hB.alloc hB.size _).drew | with_reducible exact HK.out _ (below_st8 hB (Nat.le_refl _) _ _ _ _ _ _ _ _) | exact HK.out _ (below_set87 (hB.alloc (Nat.le_refl _) _).drew (Nat.le_refl _) _ _ _ _ _ _ _ _) | exact HK.out _ (below_set87 (hB.drew.alloc (Nat.le_refl _) _) (Nat.le_refl _) _ _ _ _ _ _ _ _) | exact HK.out _ (below_set87 (hB.alloc hB.size _) hB.size _ _ _ _ _ _ _ _))
    (first
      | (go_at_call 58; (with_reducible refine (HOh.out _).mono ?_); rintro e wk ⟨rfl, hb⟩; (first | (have hB2 : Below W.heap.size W wk := hB.drew.trans (hb.mono (by exact hB.size))) | (obtain ⟨hB2, E0⟩ := HD1.out wk hb; have HE0 := Lib.hid E0; obtain ⟨g0, g1, g2, g3, g4, g5, g6, g7⟩ := E0.cells; obtain ⟨f0, f1, f2, f3, f4, f5, f6, f7⟩ := E0.free; clear E0)); (replace hB := hB2); clear hB2; clear hb)
      | (refine wp_min7 _ _ rfl als bls bls rfl rfl HLm.out ?_)
      | (refine wp_build_fx _ _ _ rfl bls (-1) o0 o1 o2 o3 rfl rfl rfl ?_))
  all_goals
    first
      | (have E1 := HE0.out.stored false bls (-1) o0 o1 o2 o3 false; have hb5 := below_set87 hB (Nat.le_refl _) false bls (-1) o0 o1 o2 o3 false; unfold set87 at E1 hb5; have hDD : W.heap.size ≤ W.heap.size := Nat.le_refl _; clear HE0 g0 g1 g2 g3 g4 g5 g6 g7 f0 f1 f2 f3 f4 f5 f6 f7 hB; generalize ((((((((wk.setCell ⟨W.heap.size, 0, none⟩ (.bool false)).setCell ⟨W.heap.size, 1, none⟩ (.int .i64 bls)).setCell ⟨W.heap.size, 2, none⟩ (.int .i64 (-1))).setCell ⟨W.heap.size, 3, none⟩ (.int .u64 o0)).setCell ⟨W.heap.size, 4, none⟩ (.int .u64 o1)).setCell ⟨W.heap.size, 5, none⟩ (.int .u64 o2)).setCell ⟨W.heap.size, 6, none⟩ (.int .u64 o3)).setCell ⟨W.heap.size, 7, none⟩ (.bool false)) = W5 at *; obtain ⟨D, hD⟩ : ∃ D, W.heap.size = D := ⟨_, rfl⟩; rw [hD] at E1 ⊢; replace hDD : W.heap.size ≤ D := (by omega); clear hD)
      | (have E1 := isFx.new wk false bls (-1) o0 o1 o2 o3 false; have hb5 := hB.alloc hB.size (.cells #[.bool false, .int .i64 bls, .int .i64 (-1), .int .u64 o0, .int .u64 o1, .int .u64 o2, .int .u64 o3, .bool false] 40); have hDD := hB.size; clear hB; generalize wk.alloc (.cells #[.bool false, .int .i64 bls, .int .i64 (-1), .int .u64 o0, .int .u64 o1, .int .u64 o2, .int .u64 o3, .bool false] 40) = W5 at *; generalize wk.heap.size = D at *)
    have ED := Lib.hid E1
    have EA5 := Lib.hid (EA.out.below hb5 EA.out.lt)
    have EB5 := Lib.hid (EB.out.below hb5 EB.out.lt)
    have EC5 := Lib.hid (EC.out.below hb5 EC.out.lt)
    have HA5 := Lib.hid (HA.out.trans (hb5.mono HA.out.size))
    have hCD : ¬ (C = D) := by have := HZ.out; omega
    have hDw : w.heap.size ≤ D := by have := HZ.out; omega
    have hCw : w.heap.size ≤ C := HZ.out.2
    obtain ⟨-, p1, p2, p3, p4, p5, p6, -⟩ := EA5.out.cells
    obtain ⟨-, q1, q2, q3, q4, q5, q6, -⟩ := EB5.out.cells
    clear hb5 EA EB EC HA HK HZ HOh EA5 EB5 E1 hDD HD1
    have E6C := EC5
    have HA6 := HA5
    obtain ⟨s0, s1, s2, s3, s4, s5, s6, s7⟩ := ED.out.cells
    obtain ⟨t0, t1, t2, t3, t4, t5, t6, t7⟩ := ED.out.free
    obtain ⟨r0, r1, r2, r3, r4, r5, r6, r7⟩ := EC5.out.free
    obtain ⟨c0, c1, c2, c3, c4, c5, c6, c7⟩ := EC5.out.cells
    have HS := Lib.hid (below_set87 HA6.out hCw false bls (-1) o0 o1 o2 o3 false)
    have Z := Lib.hid (E6C.out.stored false bls (-1) o0 o1 o2 o3 false).cells
    clear EC5 ED HA5 HA6 E6C hDw hCw
    unfold set87 at Z HS
    go_wp2_with fail
    refine bodyPost_ret (v := fxr false bls (-1) o0 o1 o2 o3 false) ?h rfl ⟨rfl, HS.out⟩
    case h =>
      have Z0 := Z.out
      generalize ((((((((W5.setCell ⟨C, 0, none⟩ (.bool false)).setCell ⟨C, 1, none⟩ (.int .i64 bls)).setCell ⟨C, 2, none⟩ (.int .i64 (-1))).setCell ⟨C, 3, none⟩ (.int .u64 o0)).setCell ⟨C, 4, none⟩ (.int .u64 o1)).setCell ⟨C, 5, none⟩ (.int .u64 o2)).setCell ⟨C, 6, none⟩ (.int .u64 o3)).setCell ⟨C, 7, none⟩ (.bool false)) = W9 at Z0 ⊢
      obtain ⟨z0, z1, z2, z3, z4, z5, z6, z7⟩ := Z0
      simp [results, Tryd.results48, go_sem, z0, z1, z2, z3, z4, z5, z6, z7]
end Go.Proofs.YtjbmkbgoahppfaaDoor
