/-
  The walk of the tenth laws' awake, over whatever Join and Firsts are that do as the page says.
-/
import Derived.Test.YthmkjdpmpcjinaaPk27
import Derived.Test.YthmkjdpmpcjinaaPk22
namespace Go.Proofs.Ythmkjdpmpcjinaa
open Go.RowKit

def f3 (a b c : Int) : Nat → Int := fun j => if j = 0 then a else if j = 1 then b else c
theorem lit3_rdL (w : World) (a b c : Int) : rdL (w.alloc (.cells #[.int .i64 a, .int .i64 b, .int .i64 c] 3)) (some ⟨w.heap.size, 0, none⟩) 3 (f3 a b c) := fun j hj => by
  refine ⟨_, _, rfl, by simp, ?_⟩
  rcases (show j = 0 ∨ j = 1 ∨ j = 2 by omega) with rfl | rfl | rfl <;> simp [f3]
theorem f3_wf {a b c : Int} (ha : wfI a) (hb : wfI b) (hc : wfI c) (j : Nat) : wfI (f3 a b c j) := by
  unfold f3
  split
  · exact ha
  · split
    · exact hb
    · exact hc
set_option maxRecDepth 100000 in
set_option maxHeartbeats 4000000 in
theorem awake10 (hJ : JoiC) (hF : FrsC) (w : World) : Calls Try.prog 6 #[] w fun e w' => e = .returned (.bool true) ∧ Below w.heap.size w w' := by
  obtain ⟨w1, hw1⟩ : ∃ w1, (w.alloc (.cells #[.int .i64 7, .int .i64 7, .int .i64 9] 3)).alloc (.cells #[.int .i64 1, .int .i64 2, .int .i64 2] 3) = w1 := ⟨_, rfl⟩
  have hb1 : Below w.heap.size w w1 := hw1 ▸ ((Below.refl _ _).alloc (Nat.le_refl _) _).alloc (by simp) _
  have r1 : rdL w1 (some ⟨w.heap.size, 0, none⟩) 3 (f3 7 7 9) := hw1 ▸ (lit3_rdL w 7 7 9).below ((Below.refl _ _).alloc (Nat.le_refl _) _)
  have r2 : rdL w1 (some ⟨w.heap.size + 1, 0, none⟩) 3 (f3 1 2 2) := by
    have := lit3_rdL (w.alloc (.cells #[.int .i64 7, .int .i64 7, .int .i64 9] 3)) 1 2 2
    rw [hw1, World.size_alloc] at this
    exact this
  have HJ := Lib.hid (hJ _ 3 3 _ _ 3 3 _ w1 (by decide) (by decide) (fun j _ => f3_wf (wfI_of (by decide) (by decide)) (wfI_of (by decide) (by decide)) (wfI_of (by decide) (by decide)) j) (fun j _ => f3_wf (wfI_of (by decide) (by decide)) (wfI_of (by decide) (by decide)) (wfI_of (by decide) (by decide)) j) r1 r2)
  have HFt := Lib.hid hF
  have HB1 := Lib.hid hb1
  have HW1 := Lib.hid hw1
  clear hb1 r1 r2 hw1 hJ hF
  go_enter Try.func6, Try.ntmps6
  go_wp2_with fail
  rw [HW1.out]
  refine HJ.out.mono ?_
  rintro e w2 ⟨hj, -⟩
  obtain ⟨q, c, l, rfl, hl, hv, hb2⟩ := hj (by first | rfl | trivial)
  have v0 : l 0 = 0 := (hv 0 (by decide)).trans (by decide)
  have v1 : l 1 = 1 := (hv 1 (by decide)).trans (by decide)
  have v2 : l 2 = 2 := (hv 2 (by decide)).trans (by decide)
  have hct : ((cntT (isH (joR (f3 7 7 9) (f3 1 2 2))) 3 : Nat) : Int) = 3 := by decide
  rw [hct]
  have HB2 := Lib.hid (HB1.out.trans (hb2.mono HB1.out.size))
  have HL2 := Lib.hid hl
  have hF2 := HFt.out q 3 c l 3 w2 (by decide) hl
  have hfs : fsA l 3 1 = 1 := by unfold fsA; simp [List.range_succ, v0, v1]
  have HFS := Lib.hid hfs
  have HF2 := Lib.hid hF2
  have HV2 := Lib.hid v2
  clear hj hv hb2 v0 v1 v2 hct hl hF2 hfs HJ HFt
  go_wp2_with fail
  refine HF2.out.mono ?_
  rintro e w3 ⟨q3, c3, l3, rfl, h3, hv3, hb3⟩
  have e3 : (min (3 : Int) 259).toNat = 3 := by decide
  rw [e3] at h3 hv3 ⊢
  have HB3 := Lib.hid (HB2.out.trans (hb3.mono HB2.out.size))
  obtain ⟨b2, o2, rfl, hl2, hc2⟩ := (HL2.out.below hb3) 2 (by decide)
  obtain ⟨b3, o3, rfl, hl3, hc3⟩ := h3 1 (by decide)
  rw [HV2.out] at hc2
  rw [show l3 1 = 1 from (hv3 1 (by decide)).trans HFS.out] at hc3
  clear h3 hv3 hb3 e3 HF2
  go_wp2_with fail
  go_returns
  exact ⟨rfl, HB3.out⟩
end Go.Proofs.Ythmkjdpmpcjinaa
