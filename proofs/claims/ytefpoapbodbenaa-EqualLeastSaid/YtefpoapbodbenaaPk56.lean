/-
  The contracts of the thirteenth laws, held by the code.
-/
import Derived.Test.YtefpoapbodbenaaPk55
import Derived.Test.YtefpoapbodbenaaPk53
namespace Go.Proofs.Ytefpoapbodbenaa
open Go.RowKit

set_option maxRecDepth 100000 in
set_option maxHeartbeats 4000000 in
theorem mof_no13 (v : Value) (x : Da) (w : World) (hs : smD x) (hx : ¬ rgD x) (hd : daAt w v x) : Calls Try.prog 15 #[v] w fun e w' => ∃ v' x', e = .returned (.tuple #[v', .int .i64 3]) ∧ daAt w' v' x' ∧ x'.n1 = 0 ∧ Below w.heap.size w w' := by
  obtain ⟨D, hD⟩ : ∃ D, w.heap.size = D := ⟨_, rfl⟩
  have hd' := hd
  obtain ⟨q0, c0, q1, c1, q2, c2, rfl, -, -, -⟩ := hd'
  obtain ⟨w1, hw1⟩ : ∃ w1, (w.alloc (.cells #[.slice q0 x.n0 c0, .int .i64 x.wd, .int .i64 x.st, .slice q1 x.n1 c1, .slice q2 x.n2 c2] 25)).alloc (.cells #[.slice none 0 0, .int .i64 0, .int .i64 0, .slice none 0 0, .slice none 0 0] 25) = w1 := ⟨_, rfl⟩
  have hs1 : (w.alloc (.cells #[.slice q0 x.n0 c0, .int .i64 x.wd, .int .i64 x.st, .slice q1 x.n1 c1, .slice q2 x.n2 c2] 25)).heap.size = D + 1 := by rw [World.size_alloc, hD]
  have hz1 : w1.heap.size = D + 2 := by rw [← hw1, World.size_alloc, hs1]
  have hb1 : Below D w w1 := hw1 ▸ ((Below.refl _ _).alloc (by omega) _).alloc (by omega) _
  have hk1 : isDf w1 D q0 x.n0 c0 x.wd x.st q1 x.n1 c1 q2 x.n2 c2 := by
    have h1 : isDf (w.alloc (.cells #[.slice q0 x.n0 c0, .int .i64 x.wd, .int .i64 x.st, .slice q1 x.n1 c1, .slice q2 x.n2 c2] 25)) D q0 x.n0 c0 x.wd x.st q1 x.n1 c1 q2 x.n2 c2 := hD ▸ heap_alloc_new w _
    refine h1.below (B := D + 1) ?_ (Nat.lt_succ_self D)
    rw [← hw1]
    exact (Below.refl _ _).alloc (by omega) _
  have hr1 : isDf w1 (D + 1) none 0 0 0 0 none 0 0 none 0 0 := by
    have := heap_alloc_new (w.alloc (.cells #[.slice q0 x.n0 c0, .int .i64 x.wd, .int .i64 x.st, .slice q1 x.n1 c1, .slice q2 x.n2 c2] 25)) (.cells #[.slice none 0 0, .int .i64 0, .int .i64 0, .slice none 0 0, .slice none 0 0] 25)
    rw [hw1, hs1] at this
    exact this
  have HRI := Lib.hid (rig_any _ x w1 hs (hd.below (hD.symm ▸ hb1)))
  rw [rgB_no hx] at HRI
  have HW1 := Lib.hid hw1; have HZ := Lib.hid hz1; have HG := Lib.hid hD; have HB1 := Lib.hid hb1; have HR1 := Lib.hid hr1
  have hbd := build_df0
  obtain ⟨y0, y1, y2, y3, y4⟩ := hk1.cells
  clear hw1 hs1 hz1 hb1 hk1 hr1 hd hs hx
  go_enter Try.func15, Try.ntmps15
  go_upto_region 1 with (fail)
  rw [HW1.out]
  clear hD
  go_wp2_with fail
  refine HRI.out.mono ?_
  rintro e w2 ⟨rfl, hb⟩
  rw [HZ.out] at hb
  have hDf := HR1.out.below hb (by omega)
  obtain ⟨e0, e1, e2, e3, e4⟩ := hDf.cells
  have f0 := hDf.free 0; have f1 := hDf.free 1; have f2 := hDf.free 2; have f3 := hDf.free 3; have f4 := hDf.free 4
  have hl := hDf.lt
  have Z := Lib.hid (hDf.stored none 0 0 0 0 none 0 0 none 0 0).cells
  have hB2 : Below D w w2 := HB1.out.trans (hb.mono (by omega))
  have HBF : Hid (Below w.heap.size w (((((w2.setCell ⟨D + 1, 0, none⟩ (.slice none 0 0)).setCell ⟨D + 1, 1, none⟩ (.int .i64 0)).setCell ⟨D + 1, 2, none⟩ (.int .i64 0)).setCell ⟨D + 1, 3, none⟩ (.slice none 0 0)).setCell ⟨D + 1, 4, none⟩ (.slice none 0 0))) := Lib.hid (by
    rw [HG.out]
    exact ((((hB2.setCell (p := ⟨D + 1, 0, none⟩) (Nat.le_succ D) _).setCell (p := ⟨D + 1, 1, none⟩) (Nat.le_succ D) _).setCell (p := ⟨D + 1, 2, none⟩) (Nat.le_succ D) _).setCell (p := ⟨D + 1, 3, none⟩) (Nat.le_succ D) _).setCell (p := ⟨D + 1, 4, none⟩) (Nat.le_succ D) _)
  have HDF : Hid (daAt (((((w2.setCell ⟨D + 1, 0, none⟩ (.slice none 0 0)).setCell ⟨D + 1, 1, none⟩ (.int .i64 0)).setCell ⟨D + 1, 2, none⟩ (.int .i64 0)).setCell ⟨D + 1, 3, none⟩ (.slice none 0 0)).setCell ⟨D + 1, 4, none⟩ (.slice none 0 0)) (dfV none 0 0 0 0 none 0 0 none 0 0) ⟨0, fun _ => 0, 0, 0, 0, fun _ => 0, 0, fun _ => false⟩) := Lib.hid
    ⟨none, 0, none, 0, none, 0, rfl, fun j hj => absurd hj (Nat.not_lt_zero _), fun j hj => absurd hj (Nat.not_lt_zero _), fun j hj => absurd hj (Nat.not_lt_zero _)⟩
  clear hb y0 y1 y2 y3 y4 hDf hB2
  go_wp2_with fail
  refine bodyPost_ret (v := .tuple #[dfV none 0 0 0 0 none 0 0 none 0 0, .int .i64 3]) (by simp [results, Try.results15, go_sem, Z.out]) rfl ?_
  exact ⟨_, _, rfl, HDF.out, rfl, HBF.out⟩
theorem mof_any : MofD := fun v x w hs hd => by
  by_cases hx : rgD x
  · refine (mof13 v x w hs hx hd).mono fun e w' h => ?_
    obtain ⟨v', h1, h2, h3⟩ := h
    exact ⟨fun _ => ⟨v', h1, h2⟩, fun g => absurd hx g, h3⟩
  · refine (mof_no13 v x w hs hx hd).mono fun e w' h => ?_
    obtain ⟨v', x', h1, h2, h3, h4⟩ := h
    exact ⟨fun g => absurd g hx, fun _ => ⟨v', x', h1, h2, h3⟩, h4⟩
end Go.Proofs.Ytefpoapbodbenaa
