/-
  The walk of show's run.
-/
import Derived.Test.YtgjpmfdiidkdnaaGreatDoorPk23
import Derived.BigQuiet
import Derived.Deep.QuietTactic
import Derived.Deep.RegionHeldLaw
namespace Go.Proofs.YtgjpmfdiidkdnaaGreatDoor
open Go.RowKit

/-- The part of run behind both ends. -/
def two32 (w w' : World) (v1 v2 : Value) (l1 l2 : List Nat) : Prop := w'.ownsRow w.heap.size 21 1 v1 l1.length (r32 l1) ∧ w'.ownsRow w.heap.size 21 1 v2 l2.length (r32 l2)
theorem row_at {w : World} {base : Nat} {v : Value} {l : List Nat} (h : w.ownsRow base 21 1 v l.length (r32 l)) (h1 : 1 ≤ l.length) :
    ∃ g c, v = .slice (some ⟨g, 0, none⟩) l.length c ∧ g < w.heap.size ∧ ∀ i (h : i < l.length), w.cell? ⟨g, i, none⟩ = some (.int .i32 (l[i] : Nat)) := by
  have hlt := h.lt
  rcases id h.2 with ⟨rfl, h0⟩ | ⟨g, cap, cur, rfl, -⟩
  · omega
  · refine ⟨g, cap, rfl, (hlt g rfl).2, fun i hi => ?_⟩
    rw [h.cellAt i (by omega)]
    simp [r32, hi]
theorem rdLL_two {w : World} {v1 v2 : Value} {l1 l2 : List Nat} {base : Nat} (o1 : w.ownsRow base 21 1 v1 l1.length (r32 l1)) (o2 : w.ownsRow base 21 1 v2 l2.length (r32 l2)) (h1 : 1 ≤ l1.length) (h2 : 1 ≤ l2.length) :
    rdLL (w.alloc (.cells #[v1, v2] 56)) w.heap.size [l1, l2] := fun j hj => by
  match j, hj with
  | 0, _ =>
    obtain ⟨g, c, rfl, hg, hc⟩ := row_at (o1.alloc (.cells #[v1, v2] 56)) h1
    exact ⟨g, c, by simp, hg, hc⟩
  | 1, _ =>
    obtain ⟨g, c, rfl, hg, hc⟩ := row_at (o2.alloc (.cells #[v1, v2] 56)) h2
    exact ⟨g, c, by simp, hg, hc⟩
theorem rdLL_three {w : World} {v1 v2 v3 : Value} {l1 l2 l3 : List Nat} {base : Nat} (o1 : w.ownsRow base 21 1 v1 l1.length (r32 l1)) (o2 : w.ownsRow base 21 1 v2 l2.length (r32 l2)) (o3 : w.ownsRow base 21 1 v3 l3.length (r32 l3)) (h1 : 1 ≤ l1.length) (h2 : 1 ≤ l2.length) (h3 : 1 ≤ l3.length) :
    rdLL (w.alloc (.cells #[v1, v2, v3] 56)) w.heap.size [l1, l2, l3] := fun j hj => by
  match j, hj with
  | 0, _ =>
    obtain ⟨g, c, rfl, hg, hc⟩ := row_at (o1.alloc (.cells #[v1, v2, v3] 56)) h1
    exact ⟨g, c, by simp, hg, hc⟩
  | 1, _ =>
    obtain ⟨g, c, rfl, hg, hc⟩ := row_at (o2.alloc (.cells #[v1, v2, v3] 56)) h2
    exact ⟨g, c, by simp, hg, hc⟩
  | 2, _ =>
    obtain ⟨g, c, rfl, hg, hc⟩ := row_at (o3.alloc (.cells #[v1, v2, v3] 56)) h3
    exact ⟨g, c, by simp, hg, hc⟩
theorem run_is1 (lo : Nat) : runL (lo, lo) = endL lo := by unfold runL; rw [if_neg (by simp), if_neg (by simp)]; simp
theorem run_is2 (lo : Nat) : runL (lo, lo + 1) = [endL lo, endL (lo + 1)].flatten := by unfold runL; rw [if_pos rfl]; simp
theorem run_is3 (lo hi : Nat) (h : lo + 1 < hi) : runL (lo, hi) = [endL lo, [45], endL hi].flatten := by
  unfold runL
  rw [if_neg (show ¬ (lo, hi).2 = (lo, hi).1 + 1 by show ¬ hi = lo + 1; omega), if_pos (show (lo, hi).1 + 1 < (lo, hi).2 from h)]
  simp

set_option maxRecDepth 100000 in
set_option maxHeartbeats 4000000 in
theorem run_any (lo hi : Nat) (hle : lo ≤ hi) (hh : hi < 256) (w : World) (hT : Tabbed w) :
    Calls Tryz.prog 27 #[.agg #[.int .u8 (lo : Int), .int .u8 (hi : Int)]] w (runesPost (runL (lo, hi)) w) := by
  have HLo := Lib.hid (cend_any lo (by omega))
  have HHi := Lib.hid (cend_any hi hh)
  have e1 := end_len lo
  have e2 := end_len hi
  obtain ⟨l1, hl1⟩ : ∃ l, endL lo = l := ⟨_, rfl⟩
  obtain ⟨l2, hl2⟩ : ∃ l, endL hi = l := ⟨_, rfl⟩
  have HL1 := Lib.hid hl1
  have HL2 := Lib.hid hl2
  rw [hl1] at HLo e1
  rw [hl2] at HHi e2
  have E1 := Lib.hid e1
  have E2 := Lib.hid e2
  clear hl1 hl2 e1 e2
  obtain ⟨W, hW⟩ : ∃ W, w.alloc (.cells #[.int .u8 (lo : Int), .int .u8 (hi : Int)] 63) = W := ⟨_, rfl⟩
  have HT : Hid (Tabbed W) := Lib.hid (hW ▸ hT.alloc _)
  have p0 : W.cell? ⟨w.heap.size, 0, none⟩ = some (.int .u8 (lo : Int)) := by rw [← hW]; simp
  have p1 : W.cell? ⟨w.heap.size, 1, none⟩ = some (.int .u8 (hi : Int)) := by rw [← hW]; simp
  have hWs : w.heap.size < W.heap.size := by rw [← hW]; simp
  have HBW : Hid (Below w.heap.size w W) := Lib.hid (hW ▸ (Below.refl _ _).alloc (Nat.le_refl _) _)
  have hB := (Below.refl W.heap.size W).drew
  clear hT
  go_enter Tryz.func27, Tryz.ntmps27
  go_wp2_with fail
  clear hW
  go_region_held_law (fun w' => w'.cell? ⟨w.heap.size, 0, none⟩ = some (.int .u8 (lo : Int)) ∧ w'.cell? ⟨w.heap.size, 1, none⟩ = some (.int .u8 (hi : Int)))
    (exact ⟨(hB.cell (p := ⟨w.heap.size, 0, none⟩) hWs).trans p0, (hB.cell (p := ⟨w.heap.size, 1, none⟩) hWs).trans p1⟩)
    (first
      | (go_at_call 42; (with_reducible refine (HLo.out _ ?t1).mono ?_); (case t1 => exact HT.out.to (by exact hB)); rintro e wk ⟨v1, rfl, o1, hb⟩; have O1 := Lib.hid (owns_mono o1 (show W.heap.size ≤ _ from hB.size)); (try have O2x := Lib.hid (owns_below O2.out hb)); (try clear O2); replace hB := hB.trans (hb.mono hB.size); clear o1 hb)
      | (go_at_call 42; (with_reducible refine (HHi.out _ ?t2).mono ?_); (case t2 => exact HT.out.to (by exact hB)); rintro e wk ⟨v2, rfl, o2, hb⟩; have O2 := Lib.hid (owns_mono o2 (show W.heap.size ≤ _ from hB.size)); (try have O1x := Lib.hid (owns_below O1.out hb)); (try clear O1); replace hB := hB.trans (hb.mono hB.size); clear o2 hb))
  rename_i hHeld
  obtain ⟨c0, c1⟩ := hHeld
  have HB := Lib.hid (HBW.out.trans (hB.mono HBW.out.size))
  have HOa := Lib.hid (owns_mono O1x.out HBW.out.size)
  have HOb := Lib.hid (owns_mono O2.out HBW.out.size)
  clear hB O1x O2 p0 p1 hWs HBW HT HLo HHi
  obtain ⟨g1, k1, rfl, -⟩ := row_at HOa.out E1.out.1
  obtain ⟨g2, k2, rfl, -⟩ := row_at HOb.out E2.out.1
  have hcmp : hi = lo ∨ hi = lo + 1 ∨ lo + 1 < hi := by omega
  rcases hcmp with hcmp | hcmp | hcmp
  · subst hcmp
    have HRun : Hid (runL (hi, hi) = l1) := Lib.hid (by rw [run_is1, HL1.out])
    go_wp2_with fail
    go_returns
    exact ⟨_, rfl, by rw [HRun.out]; exact HOa.out, HB.out⟩
  · subst hcmp
    have d1 : (((lo + 1 : Nat) : Int) - (lo : Int) == 0) = false := beq_eq_false_iff_ne.2 (by omega)
    have d2 : (((lo + 1 : Nat) : Int) - (lo : Int) == 1) = true := beq_iff_eq.2 (by omega)
    have HRun : Hid (runL (lo, lo + 1) = [l1, l2].flatten) := Lib.hid (by rw [run_is2, HL1.out, HL2.out])
    have HLL := Lib.hid (rdLL_two HOa.out HOb.out E1.out.1 E2.out.1)
    have HC := Lib.hid (concat_any [l1, l2] _ 2 2 rfl (by decide) (by decide) (by
      intro l hl
      rcases List.mem_cons.1 hl with rfl | hl
      · exact E1.out
      · rw [List.mem_singleton.1 hl]; exact E2.out) _ (by simp) HLL.out)
    go_wp2_with fail
    refine HC.out.mono ?_
    rintro e w3 ⟨v3, rfl, hown, hb⟩
    have HO3 := Lib.hid hown
    have HB3 := Lib.hid hb
    clear hown hb HC HLL
    go_wp2_with fail
    go_returns
    exact ⟨_, rfl, by rw [HRun.out]; exact owns_mono HO3.out (by have := HB.out.size; simp; omega), (HB.out.alloc HB.out.size _).trans (HB3.out.mono (by have := HB.out.size; simp; omega))⟩
  · have HRun : Hid (runL (lo, hi) = [l1, [45], l2].flatten) := Lib.hid (by rw [run_is3 lo hi hcmp, HL1.out, HL2.out])
    have HOm := Lib.hid (own_lit HB.out.size #[.int .i32 45] 1 (by decide) rfl)
    have HOa2 := Lib.hid (HOa.out.alloc (.cells #[.int .i32 45] 21))
    have HOb2 := Lib.hid (HOb.out.alloc (.cells #[.int .i32 45] 21))
    have HLL := Lib.hid (rdLL_three (l2 := [45]) HOa2.out HOm.out HOb2.out E1.out.1 (by decide) E2.out.1)
    have hC := (concat_any [l1, [45], l2] _ 3 3 rfl (by decide) (by decide) (by
      intro l hl
      rcases List.mem_cons.1 hl with rfl | hl
      · exact E1.out
      · rcases List.mem_cons.1 hl with rfl | hl
        · decide
        · rw [List.mem_singleton.1 hl]; exact E2.out) _ (by simp) HLL.out)
    rw [World.size_alloc] at hC
    have HC := Lib.hid hC
    clear hC
    obtain ⟨d, rfl⟩ : ∃ d, hi = lo + d := ⟨hi - lo, by omega⟩
    have d1 : (((lo + d : Nat) : Int) - (lo : Int) == 0) = false := beq_eq_false_iff_ne.2 (by omega)
    have d2 : (((lo + d : Nat) : Int) - (lo : Int) == 1) = false := beq_eq_false_iff_ne.2 (by omega)
    clear HLL HOa HOb HOa2 HOb2 HOm HL1 HL2 E1 E2 hcmp
    go_wp2_with fail
    refine HC.out.mono ?_
    rintro e w3 ⟨v3, rfl, hown, hb⟩
    have HO3 := Lib.hid hown
    have HB3 := Lib.hid hb
    clear hown hb HC
    go_wp2_with fail
    go_returns
    exact ⟨_, rfl, by rw [HRun.out]; exact owns_mono HO3.out (by have := HB.out.size; simp; omega), ((HB.out.alloc HB.out.size _).alloc (by have := HB.out.size; simp; omega) _).trans (HB3.out.mono (by have := HB.out.size; simp; omega))⟩
end Go.Proofs.YtgjpmfdiidkdnaaGreatDoor
