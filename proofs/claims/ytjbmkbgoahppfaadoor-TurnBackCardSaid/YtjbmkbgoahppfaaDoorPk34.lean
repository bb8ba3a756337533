/-
  The walk of facts' behind: case 4 of neither that never fits.
  The walk of facts' behind: case 5 of neither that never fits.
-/
import Derived.Test.YtjbmkbgoahppfaaDoorPk31
import Derived.Deep.RegionHeldLaw
namespace Go.Proofs.YtjbmkbgoahppfaaDoor
open Go.RowKit

set_option maxRecDepth 100000 in
set_option maxHeartbeats 8000000 in
theorem behind_xo (als ams a0 a1 a2 a3 bls bms b0 b1 b2 b3 o0 o1 o2 o3 L M : Int) (ea eb : Bool) (w : World) (d1 : decide (0 ≤ ams) = false) (d3 : (als == 0) = true)
    (_hl : IntKind.i64.wrap (als + bls) = als + bls) (_hm : IntKind.i64.wrap (ams + bms) = ams + bms) (HL : ∀ w, Calls Tryd.prog 40 #[.int .i64 (als + bls)] w fun e w' => e = .returned (.int .i64 L) ∧ w' = w) (HM : ∀ w, Calls Tryd.prog 40 #[.int .i64 (ams + bms)] w fun e w' => e = .returned (.int .i64 M) ∧ w' = w)
    (HO : ∀ w, Calls Tryd.prog 58 #[.agg #[.int .u64 a0, .int .u64 a1, .int .u64 a2, .int .u64 a3], .agg #[.int .u64 b0, .int .u64 b1, .int .u64 b2, .int .u64 b3]] w fun e w' => e = .returned (.agg #[.int .u64 o0, .int .u64 o1, .int .u64 o2, .int .u64 o3]) ∧ Below w.heap.size w w') :
    Calls Tryd.prog 47 #[fxr false als ams a0 a1 a2 a3 ea, fxr false bls bms b0 b1 b2 b3 eb] w fun e w' => e = .returned (fxr false L (-1) o0 o1 o2 o3 false) ∧ Below w.heap.size w w' := by
  have HOh := Lib.hid HO; have HLh := Lib.hid HL; have HMh := Lib.hid HM
  clear HO HL HM
  unfold fxr
  go_enter Tryd.func47, Tryd.ntmps47
  go_wp2_with fail
  obtain ⟨W, hW⟩ : ∃ W, (((w.alloc (.cells #[.bool false, .int .i64 als, .int .i64 ams, .int .u64 a0, .int .u64 a1, .int .u64 a2, .int .u64 a3, .bool ea] 40)).alloc (.cells #[.bool false, .int .i64 bls, .int .i64 bms, .int .u64 b0, .int .u64 b1, .int .u64 b2, .int .u64 b3, .bool eb] 40)).alloc (.cells #[.bool false, .int .i64 0, .int .i64 0, .int .u64 0, .int .u64 0, .int .u64 0, .int .u64 0, .bool false] 40)) = W := ⟨_, rfl⟩
  have HA : Hid (Below w.heap.size w W) := Lib.hid (hW ▸ (((Below.refl _ _).alloc (Nat.le_refl _) _).alloc (by simp) _).alloc (by simp; omega) _)
  have hz : W.heap.size = w.heap.size + 3 := by rw [← hW]; simp
  have EA : Hid (isFx W w.heap.size false als ams a0 a1 a2 a3 ea) := Lib.hid (hW ▸ ((isFx.new w false als ams a0 a1 a2 a3 ea).alloc _).alloc _)
  have EB : Hid (isFx W (w.heap.size + 1) false bls bms b0 b1 b2 b3 eb) := Lib.hid (hW ▸ (show isFx _ _ _ _ _ _ _ _ _ _ from by
    have := isFx.new (w.alloc (.cells #[.bool false, .int .i64 als, .int .i64 ams, .int .u64 a0, .int .u64 a1, .int .u64 a2, .int .u64 a3, .bool ea] 40)) false bls bms b0 b1 b2 b3 eb
    rw [World.size_alloc] at this
    exact this.alloc _))
  have EC : Hid (isFx W (w.heap.size + 1 + 1) false 0 0 0 0 0 0 false) := Lib.hid (hW ▸ (show isFx _ _ _ _ _ _ _ _ _ _ from by
    have := isFx.new ((w.alloc (.cells #[.bool false, .int .i64 als, .int .i64 ams, .int .u64 a0, .int .u64 a1, .int .u64 a2, .int .u64 a3, .bool ea] 40)).alloc (.cells #[.bool false, .int .i64 bls, .int .i64 bms, .int .u64 b0, .int .u64 b1, .int .u64 b2, .int .u64 b3, .bool eb] 40)) false 0 0 0 0 0 0 false
    rw [World.size_alloc, World.size_alloc] at this
    exact this))
  rw [hW]
  clear hW
  obtain ⟨A, hA⟩ : ∃ A, w.heap.size = A := ⟨_, rfl⟩
  rw [hA] at EA EB EC ⊢
  obtain ⟨B, hB⟩ : ∃ B, A + 1 = B := ⟨_, rfl⟩
  rw [hB] at EB EC ⊢
  obtain ⟨C, hC⟩ : ∃ C, B + 1 = C := ⟨_, rfl⟩
  rw [hC] at EC ⊢
  have HZ : Hid (W.heap.size = A + 3 ∧ A + 1 = B ∧ B + 1 = C ∧ w.heap.size = A) := Lib.hid ⟨by omega, hB, hC, hA⟩
  clear hz hA hB hC
  have hB := Below.refl W.heap.size W
  have HK : Hid (∀ w', Below W.heap.size W w' → w'.cell? ⟨A, 1, none⟩ = some (.int .i64 als) ∧ w'.cell? ⟨B, 1, none⟩ = some (.int .i64 bls) ∧ w'.cell? ⟨A, 3, none⟩ = some (.int .u64 a0) ∧ w'.cell? ⟨A, 4, none⟩ = some (.int .u64 a1) ∧ w'.cell? ⟨A, 5, none⟩ = some (.int .u64 a2) ∧ w'.cell? ⟨A, 6, none⟩ = some (.int .u64 a3)) := Lib.hid fun w' hb => by
    obtain ⟨_, p1, _, p3, p4, p5, p6, _⟩ := (EA.out.below hb EA.out.lt).cells
    obtain ⟨_, q1, _⟩ := (EB.out.below hb EB.out.lt).cells
    exact ⟨p1, q1, p3, p4, p5, p6⟩
  go_region_held_law (fun w' => w'.cell? ⟨A, 1, none⟩ = some (.int .i64 als) ∧ w'.cell? ⟨B, 1, none⟩ = some (.int .i64 bls) ∧ w'.cell? ⟨A, 3, none⟩ = some (.int .u64 a0) ∧ w'.cell? ⟨A, 4, none⟩ = some (.int .u64 a1) ∧ w'.cell? ⟨A, 5, none⟩ = some (.int .u64 a2) ∧ w'.cell? ⟨A, 6, none⟩ = some (.int .u64 a3))
    (first | exact HK.out _ hB | exact HK.out _ hB.drew | exact HK.out _ (hB.alloc (Nat.le_refl _) _) | exact HK.out _ (hB.alloc (Nat.le_refl _) _).drew | exact HK.out _ (hB.drew.alloc (Nat.le_refl _) _) | exact HK.out _ (below_set87 (hB.alloc (Nat.le_refl _) _).drew (Nat.le_refl _) _ _ _ _ _ _ _ _) | exact HK.out _ (below_set87 (hB.drew.alloc (Nat.le_refl _) _) (Nat.le_refl _) _ _ _ _ _ _ _ _))
    (first
      | (go_at_call 40; (with_reducible refine (HLh.out _).mono ?_); rintro e wk ⟨rfl, rfl⟩)
      | (refine wp_build_fx _ _ _ rfl L (-1) a0 a1 a2 a3 rfl rfl rfl ?_))
  all_goals
    have ED : Hid (isFx (W.alloc (.cells #[.bool false, .int .i64 L, .int .i64 (-1), .int .u64 a0, .int .u64 a1, .int .u64 a2, .int .u64 a3, .bool false] 40)).drew W.heap.size false L (-1) a0 a1 a2 a3 false) := Lib.hid (isFx.new W false L (-1) a0 a1 a2 a3 false)
    have hW5 : Below W.heap.size W (W.alloc (.cells #[.bool false, .int .i64 L, .int .i64 (-1), .int .u64 a0, .int .u64 a1, .int .u64 a2, .int .u64 a3, .bool false] 40)).drew := ((Below.refl W.heap.size W).alloc (Nat.le_refl _) _).drew
    clear hB
    generalize (W.alloc (.cells #[.bool false, .int .i64 L, .int .i64 (-1), .int .u64 a0, .int .u64 a1, .int .u64 a2, .int .u64 a3, .bool false] 40)).drew = W5 at *
    have EA5 := Lib.hid (EA.out.below hW5 EA.out.lt)
    have EB5 := Lib.hid (EB.out.below hW5 EB.out.lt)
    have EC5 := Lib.hid (EC.out.below hW5 EC.out.lt)
    have HA5 := Lib.hid (HA.out.trans (hW5.mono HA.out.size))
    obtain ⟨D, hD⟩ : ∃ D, W.heap.size = D := ⟨_, rfl⟩
    rw [hD] at ED ⊢
    have HZ5 : Hid (A + 3 = D ∧ A + 1 = B ∧ B + 1 = C ∧ w.heap.size = A) := Lib.hid (by have := HZ.out; omega)
    clear hW5 EA EB EC HA HK HZ hD HLh
    obtain ⟨-, p1, p2, p3, p4, p5, p6, -⟩ := EA5.out.cells
    obtain ⟨-, q1, q2, q3, q4, q5, q6, -⟩ := EB5.out.cells
    have hCD : ¬ (C = D) := by have := HZ5.out; omega
    have hDw : w.heap.size ≤ D := by have := HZ5.out; omega
    have hCw : w.heap.size ≤ C := by have := HZ5.out; omega
    have E6D := ED
    have E6C := EC5
    have HA6 := HA5
    obtain ⟨t0, t1, t2, t3, t4, t5, t6, t7⟩ := ED.out.free
    have t8 := ED.out.cells.2.2.1
    clear EA5 EB5 EC5 ED HA5
    go_wp2_with fail
    refine (HOh.out _).mono ?_
    rintro e wk ⟨rfl, hb⟩
    have E7D := E6D.out.below hb E6D.out.lt
    have E7C := E6C.out.below hb E6C.out.lt
    have HA7 := HA6.out.trans (hb.mono HA6.out.size)
    have E8C := Lib.hid ((((E7C.set hCD 3 (.int .u64 o0)).set hCD 4 (.int .u64 o1)).set hCD 5 (.int .u64 o2)).set hCD 6 (.int .u64 o3))
    have E8D := Lib.hid (E7D.put3 o0 o1 o2 o3)
    have HA8 := Lib.hid ((((HA7.setCell (p := ⟨D, 3, none⟩) hDw (.int .u64 o0)).setCell (p := ⟨D, 4, none⟩) hDw (.int .u64 o1)).setCell (p := ⟨D, 5, none⟩) hDw (.int .u64 o2)).setCell (p := ⟨D, 6, none⟩) hDw (.int .u64 o3))
    obtain ⟨v0, v1, v2, v3, v4, v5, v6, v7⟩ := E7D.free
    obtain ⟨y0, y1, y2, y3, y4, y5, y6, y7⟩ := E7D.cells
    clear E6D E6C E7D E7C HA6 HA7 hb HOh HZ5 hDw hCD t0 t1 t2 t3 t4 t5 t6 t7 p1 p2 p3 p4 p5 p6 q1 q2 q3 q4 q5 q6
    go_upto_region 8 with (fail)
    generalize (((wk.setCell ⟨D, 3, none⟩ (.int .u64 o0)).setCell ⟨D, 4, none⟩ (.int .u64 o1)).setCell ⟨D, 5, none⟩ (.int .u64 o2)).setCell ⟨D, 6, none⟩ (.int .u64 o3) = W8 at *
    clear v0 v1 v2 v3 v4 v5 v6 v7 y0 y1 y2 y3 y4 y5 y6 y7
    obtain ⟨u0, u1, u2, u3, u4, u5, u6, u7⟩ := E8D.out.cells; obtain ⟨c0, c1, c2, c3, c4, c5, c6, c7⟩ := E8C.out.cells
    obtain ⟨x0, x1, x2, x3, x4, x5, x6, x7⟩ := E8C.out.free
    have HS := Lib.hid (below_set87 HA8.out hCw false L (-1) o0 o1 o2 o3 false)
    have Z := Lib.hid (E8C.out.stored false L (-1) o0 o1 o2 o3 false).cells
    clear E8C E8D HA8 hCw
    unfold set87 at Z HS
    go_wp2_with fail
    refine bodyPost_ret (v := fxr false L (-1) o0 o1 o2 o3 false) (by simp [results, Tryd.results47, go_sem, Z.out]) rfl ⟨rfl, HS.out⟩
end Go.Proofs.YtjbmkbgoahppfaaDoor

namespace Go.Proofs.YtjbmkbgoahppfaaDoor
open Go.RowKit

set_option maxRecDepth 100000 in
set_option maxHeartbeats 8000000 in
theorem behind_xa (als ams a0 a1 a2 a3 bls bms b0 b1 b2 b3 o0 o1 o2 o3 L M : Int) (ea eb : Bool) (w : World) (d1 : decide (0 ≤ ams) = false) (d3 : (als == 0) = false)
    (_hl : IntKind.i64.wrap (als + bls) = als + bls) (_hm : IntKind.i64.wrap (ams + bms) = ams + bms) (HL : ∀ w, Calls Tryd.prog 40 #[.int .i64 (als + bls)] w fun e w' => e = .returned (.int .i64 L) ∧ w' = w) (HM : ∀ w, Calls Tryd.prog 40 #[.int .i64 (ams + bms)] w fun e w' => e = .returned (.int .i64 M) ∧ w' = w)
    (HO : ∀ w, Calls Tryd.prog 58 #[.agg #[.int .u64 a0, .int .u64 a1, .int .u64 a2, .int .u64 a3], .agg #[.int .u64 b0, .int .u64 b1, .int .u64 b2, .int .u64 b3]] w fun e w' => e = .returned (.agg #[.int .u64 o0, .int .u64 o1, .int .u64 o2, .int .u64 o3]) ∧ Below w.heap.size w w') :
    Calls Tryd.prog 47 #[fxr false als ams a0 a1 a2 a3 ea, fxr false bls bms b0 b1 b2 b3 eb] w fun e w' => e = .returned (fxr false L (-1) a0 a1 a2 a3 false) ∧ Below w.heap.size w w' := by
  have HOh := Lib.hid HO; have HLh := Lib.hid HL; have HMh := Lib.hid HM
  clear HO HL HM
  unfold fxr
  go_enter Tryd.func47, Tryd.ntmps47
  go_wp2_with fail
  obtain ⟨W, hW⟩ : ∃ W, (((w.alloc (.cells #[.bool false, .int .i64 als, .int .i64 ams, .int .u64 a0, .int .u64 a1, .int .u64 a2, .int .u64 a3, .bool ea] 40)).alloc (.cells #[.bool false, .int .i64 bls, .int .i64 bms, .int .u64 b0, .int .u64 b1, .int .u64 b2, .int .u64 b3, .bool eb] 40)).alloc (.cells #[.bool false, .int .i64 0, .int .i64 0, .int .u64 0, .int .u64 0, .int .u64 0, .int .u64 0, .bool false] 40)) = W := ⟨_, rfl⟩
  have HA : Hid (Below w.heap.size w W) := Lib.hid (hW ▸ (((Below.refl _ _).alloc (Nat.le_refl _) _).alloc (by simp) _).alloc (by simp; omega) _)
  have hz : W.heap.size = w.heap.size + 3 := by rw [← hW]; simp
  have EA : Hid (isFx W w.heap.size false als ams a0 a1 a2 a3 ea) := Lib.hid (hW ▸ ((isFx.new w false als ams a0 a1 a2 a3 ea).alloc _).alloc _)
  have EB : Hid (isFx W (w.heap.size + 1) false bls bms b0 b1 b2 b3 eb) := Lib.hid (hW ▸ (show isFx _ _ _ _ _ _ _ _ _ _ from by
    have := isFx.new (w.alloc (.cells #[.bool false, .int .i64 als, .int .i64 ams, .int .u64 a0, .int .u64 a1, .int .u64 a2, .int .u64 a3, .bool ea] 40)) false bls bms b0 b1 b2 b3 eb
    rw [World.size_alloc] at this
    exact this.alloc _))
  have EC : Hid (isFx W (w.heap.size + 1 + 1) false 0 0 0 0 0 0 false) := Lib.hid (hW ▸ (show isFx _ _ _ _ _ _ _ _ _ _ from by
    have := isFx.new ((w.alloc (.cells #[.bool false, .int .i64 als, .int .i64 ams, .int .u64 a0, .int .u64 a1, .int .u64 a2, .int .u64 a3, .bool ea] 40)).alloc (.cells #[.bool false, .int .i64 bls, .int .i64 bms, .int .u64 b0, .int .u64 b1, .int .u64 b2, .int .u64 b3, .bool eb] 40)) false 0 0 0 0 0 0 false
    rw [World.size_alloc, World.size_alloc] at this
    exact this))
  rw [hW]
  clear hW
  obtain ⟨A, hA⟩ : ∃ A, w.heap.size = A := ⟨_, rfl⟩
  rw [hA] at EA EB EC ⊢
  obtain ⟨B, hB⟩ : ∃ B, A + 1 = B := ⟨_, rfl⟩
  rw [hB] at EB EC ⊢
  obtain ⟨C, hC⟩ : ∃ C, B + 1 = C := ⟨_, rfl⟩
  rw [hC] at EC ⊢
  have HZ : Hid (W.heap.size = A + 3 ∧ A + 1 = B ∧ B + 1 = C ∧ w.heap.size = A) := Lib.hid ⟨by omega, hB, hC, hA⟩
  clear hz hA hB hC
  have hB := Below.refl W.heap.size W
  have HK : Hid (∀ w', Below W.heap.size W w' → w'.cell? ⟨A, 1, none⟩ = some (.int .i64 als) ∧ w'.cell? ⟨B, 1, none⟩ = some (.int .i64 bls) ∧ w'.cell? ⟨A, 3, none⟩ = some (.int .u64 a0) ∧ w'.cell? ⟨A, 4, none⟩ = some (.int .u64 a1) ∧ w'.cell? ⟨A, 5, none⟩ = some (.int .u64 a2) ∧ w'.cell? ⟨A, 6, none⟩ = some (.int .u64 a3)) := Lib.hid fun w' hb => by
    obtain ⟨_, p1, _, p3, p4, p5, p6, _⟩ := (EA.out.below hb EA.out.lt).cells
    obtain ⟨_, q1, _⟩ := (EB.out.below hb EB.out.lt).cells
    exact ⟨p1, q1, p3, p4, p5, p6⟩
  go_region_held_law (fun w' => w'.cell? ⟨A, 1, none⟩ = some (.int .i64 als) ∧ w'.cell? ⟨B, 1, none⟩ = some (.int .i64 bls) ∧ w'.cell? ⟨A, 3, none⟩ = some (.int .u64 a0) ∧ w'.cell? ⟨A, 4, none⟩ = some (.int .u64 a1) ∧ w'.cell? ⟨A, 5, none⟩ = some (.int .u64 a2) ∧ w'.cell? ⟨A, 6, none⟩ = some (.int .u64 a3))
    (first | exact HK.out _ hB | exact HK.out _ hB.drew | exact HK.out _ (hB.alloc (Nat.le_refl _) _) | exact HK.out _ (hB.alloc (Nat.le_refl _) _).drew | exact HK.out _ (hB.drew.alloc (Nat.le_refl _) _) | exact HK.out _ (below_set87 (hB.alloc (Nat.le_refl _) _).drew (Nat.le_refl _) _ _ _ _ _ _ _ _) | exact HK.out _ (below_set87 (hB.drew.alloc (Nat.le_refl _) _) (Nat.le_refl _) _ _ _ _ _ _ _ _))
    (first
      | (go_at_call 40; (with_reducible refine (HLh.out _).mono ?_); rintro e wk ⟨rfl, rfl⟩)
      | (refine wp_build_fx _ _ _ rfl L (-1) a0 a1 a2 a3 rfl rfl rfl ?_))
  all_goals
    have ED : Hid (isFx (W.alloc (.cells #[.bool false, .int .i64 L, .int .i64 (-1), .int .u64 a0, .int .u64 a1, .int .u64 a2, .int .u64 a3, .bool false] 40)).drew W.heap.size false L (-1) a0 a1 a2 a3 false) := Lib.hid (isFx.new W false L (-1) a0 a1 a2 a3 false)
    have hW5 : Below W.heap.size W (W.alloc (.cells #[.bool false, .int .i64 L, .int .i64 (-1), .int .u64 a0, .int .u64 a1, .int .u64 a2, .int .u64 a3, .bool false] 40)).drew := ((Below.refl W.heap.size W).alloc (Nat.le_refl _) _).drew
    clear hB
    generalize (W.alloc (.cells #[.bool false, .int .i64 L, .int .i64 (-1), .int .u64 a0, .int .u64 a1, .int .u64 a2, .int .u64 a3, .bool false] 40)).drew = W5 at *
    have EA5 := Lib.hid (EA.out.below hW5 EA.out.lt)
    have EB5 := Lib.hid (EB.out.below hW5 EB.out.lt)
    have EC5 := Lib.hid (EC.out.below hW5 EC.out.lt)
    have HA5 := Lib.hid (HA.out.trans (hW5.mono HA.out.size))
    obtain ⟨D, hD⟩ : ∃ D, W.heap.size = D := ⟨_, rfl⟩
    rw [hD] at ED ⊢
    have HZ5 : Hid (A + 3 = D ∧ A + 1 = B ∧ B + 1 = C ∧ w.heap.size = A) := Lib.hid (by have := HZ.out; omega)
    clear hW5 EA EB EC HA HK HZ hD HLh
    obtain ⟨-, p1, p2, p3, p4, p5, p6, -⟩ := EA5.out.cells
    obtain ⟨-, q1, q2, q3, q4, q5, q6, -⟩ := EB5.out.cells
    have hCD : ¬ (C = D) := by have := HZ5.out; omega
    have hDw : w.heap.size ≤ D := by have := HZ5.out; omega
    have hCw : w.heap.size ≤ C := by have := HZ5.out; omega
    have E6D := ED
    have E6C := EC5
    have HA6 := HA5
    obtain ⟨s0, s1, s2, s3, s4, s5, s6, s7⟩ := ED.out.cells
    obtain ⟨t0, t1, t2, t3, t4, t5, t6, t7⟩ := ED.out.free
    obtain ⟨r0, r1, r2, r3, r4, r5, r6, r7⟩ := EC5.out.free
    obtain ⟨c0, c1, c2, c3, c4, c5, c6, c7⟩ := EC5.out.cells
    have HS := Lib.hid (below_set87 HA6.out hCw false L (-1) a0 a1 a2 a3 false)
    have Z := Lib.hid (E6C.out.stored false L (-1) a0 a1 a2 a3 false).cells
    clear EA5 EB5 EC5 ED HA5 HA6 E6D E6C HOh HZ5 hDw hCw
    unfold set87 at Z HS
    go_wp2_with fail
    refine bodyPost_ret (v := fxr false L (-1) a0 a1 a2 a3 false) (by simp [results, Tryd.results47, go_sem, Z.out]) rfl ⟨rfl, HS.out⟩
end Go.Proofs.YtjbmkbgoahppfaaDoor
