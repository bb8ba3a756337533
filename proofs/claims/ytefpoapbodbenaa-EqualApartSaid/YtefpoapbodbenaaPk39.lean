/-
  The walk of the fourteenth laws' flat: an automaton of one state.
-/
import Derived.Test.YtefpoapbodbenaaPk38
import Derived.Test.YtefpoapbodbenaaPk9
namespace Go.Proofs.Ytefpoapbodbenaa
open Go.RowKit

/-- The automaton of one state. -/
def x14 (b : Bool) : Da := ⟨259, fun _ => 0, 1, 0, 1, fun _ => 0, 1, fun _ => b⟩
theorem x14_rg (b : Bool) : rgD (x14 b) := by
  cases b <;> refine ⟨rfl, by decide, by decide, by decide, by decide, by decide, by decide, by decide, fun _ _ => ⟨Int.le_refl 0, Int.zero_lt_one⟩, fun _ _ => ⟨Int.le_refl 0, Int.zero_lt_one⟩⟩
theorem x14_sm (b : Bool) : smD (x14 b) := ⟨by show 259 ≤ 10000; decide, by show 1 ≤ 100000; decide, by show 1 ≤ 1000; decide⟩
theorem x14_df : dfW (x14 true) (x14 false) [] := ⟨okw_nil, fun h => by cases h⟩
theorem x14_ap {u : List Nat} (h : apW (x14 true) (x14 false) u) : u = [] := by
  have h1 := h.2 [] x14_df
  rcases snoc_cases u with e | ⟨v, c, rfl⟩
  · exact e
  · rw [nmW_snoc, nmW_nil] at h1; omega
theorem x14_em : emB (x14 false) = true := emB_iff.2 fun w hw => by
  have := hw.2
  cases this
theorem build_df14 (q0 : Option Addr) (n0 c0 : Nat) (wd : Int) (q1 : Option Addr) (n1 c1 : Nat) (q2 : Option Addr) (n2 c2 : Nat) (w : World) : (Instr.build 25 #[(0, .slice q0 n0 c0), (1, .int .i64 wd), (3, .slice q1 n1 c1), (4, .slice q2 n2 c2)]).run Try.prog w = .ok (dfV q0 n0 c0 wd 0 q1 n1 c1 q2 n2 c2) w := by kernel_rfl
theorem df_put5 {w : World} {S : Nat} {a0 a1 a2 a3 a4 : Value} (h : w.heap[S]? = some (.cells #[a0, a1, a2, a3, a4] 25 (0, 0))) (q0 : Option Addr) (n0 c0 : Nat) (wd st : Int) (q1 : Option Addr) (n1 c1 : Nat) (q2 : Option Addr) (n2 c2 : Nat) :
    isDf (((((w.setCell ⟨S, 0, none⟩ (.slice q0 n0 c0)).setCell ⟨S, 1, none⟩ (.int .i64 wd)).setCell ⟨S, 2, none⟩ (.int .i64 st)).setCell ⟨S, 3, none⟩ (.slice q1 n1 c1)).setCell ⟨S, 4, none⟩ (.slice q2 n2 c2)) S q0 n0 c0 wd st q1 n1 c1 q2 n2 c2 := by
  have h0 := heap_setCell_same _ S 0 _ _ (.slice q0 n0 c0) h
  have h1 := heap_setCell_same _ S 1 _ _ (.int .i64 wd) h0
  have h2 := heap_setCell_same _ S 2 _ _ (.int .i64 st) h1
  have h3 := heap_setCell_same _ S 3 _ _ (.slice q1 n1 c1) h2
  have h4 := heap_setCell_same _ S 4 _ _ (.slice q2 n2 c2) h3
  unfold isDf
  rw [h4]; simp

set_option maxRecDepth 100000 in
set_option maxHeartbeats 8000000 in
theorem flat14 (b : Bool) (w : World) : Calls Try.prog 17 #[.bool b] w fun e w' => ∃ q0 c0 q1 c1 q2 c2, e = .returned (dfV q0 259 c0 1 0 q1 1 c1 q2 1 c2) ∧ daAt w' (dfV q0 259 c0 1 0 q1 1 c1 q2 1 c2) (x14 b) ∧ Below w.heap.size w w' := by
  have hbd := build_df14
  obtain ⟨D, hD⟩ : ∃ D, w.heap.size = D := ⟨_, rfl⟩
  obtain ⟨W0, hW0⟩ : ∃ W0, w.alloc (.cells #[.slice none 0 0, .int .i64 0, .int .i64 0, .slice none 0 0, .slice none 0 0] 25) = W0 := ⟨_, rfl⟩
  have hb0 : Below D w W0 := hW0 ▸ hD ▸ (Below.refl _ _).alloc (Nat.le_refl _) _
  have hz0 : W0.heap.size = D + 1 := by rw [← hW0, World.size_alloc, hD]
  have hk0 : isDf W0 D none 0 0 0 0 none 0 0 none 0 0 := hW0 ▸ hD ▸ heap_alloc_new w _
  have HW0 := Lib.hid hW0; have HB0 := Lib.hid hb0; have HK0 := Lib.hid hk0; have HZ0 := Lib.hid hz0; have HD := Lib.hid hD
  clear hW0 hb0 hk0
  go_enter Try.func17, Try.ntmps17
  go_upto_region 1 with (fail)
  rw [HW0.out]
  clear hD
  go_wp2_with (refine make_ints rfl _ _ rfl (D + 1) 259 rfl rfl (by decide) (by omega) ?_)
  intro w2 ho hb2
  obtain ⟨h, hh⟩ : ∃ h, w2.heap.size = h := ⟨_, rfl⟩
  have hDh : D < h := by have := ho.lt; omega
  have hk2 := HK0.out.below hb2 (Nat.lt_succ_self D)
  obtain ⟨z0, z1, z2, z3, z4⟩ := hk2.cells
  have f0 : ∀ j, w2.frozen? ⟨D, j, none⟩ = false := fun j => by
    have := hk2
    unfold isDf at this
    simp [World.frozen?, this]
  have g0 := f0 0; have g1 := f0 1; have g2 := f0 2; have g3 := f0 3; have g4 := f0 4
  have HB2 := Lib.hid hb2; have HO := Lib.hid ho; have HK2 := Lib.hid hk2
  have hd1 : D < w2.heap.size := by omega
  have hd2 : ¬ D = w2.heap.size := by omega
  have hd3 : ¬ D = w2.heap.size + 1 := by omega
  clear hb2 ho hk2 f0 hz0
  obtain ⟨W3, hW3⟩ : ∃ W3, (((((w2.setCell ⟨D, 0, none⟩ (.slice (some ⟨D + 1, 0, none⟩) 259 259)).setCell ⟨D, 1, none⟩ (.int .i64 1)).setCell ⟨D, 2, none⟩ (.int .i64 0)).setCell ⟨D, 3, none⟩ (.slice (some ⟨h, 0, none⟩) 1 1)).setCell ⟨D, 4, none⟩ (.slice (some ⟨h + 1, 0, none⟩) 1 1)) = W3 := ⟨_, rfl⟩
  have hz3 : W3.heap.size = h := by rw [← hW3]; simp [hh]
  have hk3 : isDf W3 D (some ⟨D + 1, 0, none⟩) 259 259 1 0 (some ⟨h, 0, none⟩) 1 1 (some ⟨h + 1, 0, none⟩) 1 1 := hW3 ▸ df_put5 HK2.out _ _ _ _ _ _ _ _ _ _ _
  have hfr : ∀ {a : World} (j : Nat) (v : Value), ipR a (D + 1) (D + 1) 259 (fun _ => 0) → ipR (a.setCell ⟨D, j, none⟩ v) (D + 1) (D + 1) 259 (fun _ => 0) := fun j v H => World.ownsRow.kept H (grown_setCell _ D j v) (.inr (by simp [Value.ownBlock]))
  have hr3 : ipR W3 (D + 1) (D + 1) 259 (fun _ => 0) := hW3 ▸ hfr 4 _ (hfr 3 _ (hfr 2 _ (hfr 1 _ (hfr 0 _ HO.out))))
  have hb3 : Below D w W3 := by
    rw [← hW3]
    have hb : Below D w w2 := HB0.out.trans (HB2.out.mono (Nat.le_succ D))
    exact ((((hb.setCell (p := ⟨D, 0, none⟩) (Nat.le_refl _) _).setCell (p := ⟨D, 1, none⟩) (Nat.le_refl _) _).setCell (p := ⟨D, 2, none⟩) (Nat.le_refl _) _).setCell (p := ⟨D, 3, none⟩) (Nat.le_refl _) _).setCell (p := ⟨D, 4, none⟩) (Nat.le_refl _) _
  obtain ⟨W4, hW4⟩ : ∃ W4, (W3.alloc (.cells #[.int .i64 0] 3)).alloc (.cells #[.bool b] 4) = W4 := ⟨_, rfl⟩
  have hs1 : (W3.alloc (.cells #[.int .i64 0] 3)).heap.size = h + 1 := by rw [World.size_alloc, hz3]
  have hz4 : W4.heap.size = h + 2 := by rw [← hW4, World.size_alloc, hs1]
  have hal : Below h W3 W4 := hW4 ▸ ((Below.refl _ _).alloc (by omega) _).alloc (by omega) _
  have hk0 : W4.heap[h]? = some (.cells #[.int .i64 0] 3 (0, 0)) := by
    have h1 := heap_alloc_new W3 (.cells #[.int .i64 0] 3)
    rw [hz3] at h1
    rw [← hW4]
    exact (Below.heap_alloc _ _ h (by omega)).trans h1
  have hk1 : W4.heap[h + 1]? = some (.cells #[.bool b] 4 (0, 0)) := by
    have h1 := heap_alloc_new (W3.alloc (.cells #[.int .i64 0] 3)) (.cells #[.bool b] 4)
    rw [hs1, hW4] at h1
    exact h1
  have hd : daAt W4 (dfV (some ⟨D + 1, 0, none⟩) 259 259 1 0 (some ⟨h, 0, none⟩) 1 1 (some ⟨h + 1, 0, none⟩) 1 1) (x14 b) := ⟨some ⟨D + 1, 0, none⟩, 259, some ⟨h, 0, none⟩, 1, some ⟨h + 1, 0, none⟩, 1, rfl, (hr3.rd.below (hz3.symm ▸ hal)), fun j hj => by
      have hj : j < 1 := hj
      obtain rfl : j = 0 := by omega
      exact ⟨h, 0, rfl, by omega, by simp [World.cell?, hk0, x14]⟩, fun j hj => by
      have hj : j < 1 := hj
      obtain rfl : j = 0 := by omega
      exact ⟨h + 1, 0, rfl, by omega, by simp [World.cell?, hk1, x14]⟩⟩
  have HDA := Lib.hid hd
  have HC := Lib.hid (hk3.below hal hDh).cells
  have HBF : Hid (Below w.heap.size w W4) := Lib.hid (HD.out.symm ▸ hb3.trans (hal.mono (by omega)))
  have HWA := Lib.hid hW3; have HWB := Lib.hid hW4
  clear hz3 hk3 hfr hr3 hb3 hs1 hz4 hal hk0 hk1 hd hW3 hW4
  go_wp2_with fail
  rw [HWA.out, HWB.out]
  refine bodyPost_ret (v := dfV (some ⟨D + 1, 0, none⟩) 259 259 1 0 (some ⟨h, 0, none⟩) 1 1 (some ⟨h + 1, 0, none⟩) 1 1) (by simp [results, Try.results17, go_sem, HC.out]) rfl ⟨_, _, _, _, _, _, rfl, HDA.out, HBF.out⟩
end Go.Proofs.Ytefpoapbodbenaa
