/-
  The walk of the law ByteSetRuns, at a nil slice: it answers true.
-/
import Derived.Test.YtiiohkimjlcfmaaRunsC
namespace Go.Proofs.Ytiiohkimjlcfmaa
open Go.RowKit

set_option maxRecDepth 100000 in
set_option maxHeartbeats 8000000 in
theorem runslaw_nil  (w : World) (L : List (Nat × Nat)) (hL : ∀ r, r ∈ L → r.1 < 256 ∧ r.2 < 256) (hLl : L.length ≤ 40) (hfew : (segs (inU L) 256 256).length ≤ 0) (hr : rdR w (.slice none 0 0) L) :
    Calls Try.prog 5 #[.slice none 0 0] w fun e w' => e = .returned (.bool true) ∧ Below w.heap.size w w' := by
  have heq := eq_set
  have Hfew := Lib.hid hfew
  clear hfew
  go_enter Try.func5, Try.ntmps5
  go_wp2_with fail
  refine (awake_any _).mono ?_
  rintro e w1 ⟨rfl, hW1⟩
  go_wp2_with fail
  refine (union_any L hL (by omega) _ _ (rdR_below hr hW1 (Nat.le_refl _))).mono ?_
  rintro e w2 ⟨rfl, hW2⟩
  have hW12 := hW1.trans (hW2.mono hW1.size)
  have s3 := isSet.new w2 (inU L)
  have hT := hW12.alloc hW12.size (.cells #[.int .u64 (wd (inU L) 0 : Int), .int .u64 (wd (inU L) 1 : Int), .int .u64 (wd (inU L) 2 : Int), .int .u64 (wd (inU L) 3 : Int)] 24)
  go_wp2_with fail
  generalize w2.alloc (.cells #[.int .u64 (wd (inU L) 0 : Int), .int .u64 (wd (inU L) 1 : Int), .int .u64 (wd (inU L) 2 : Int), .int .u64 (wd (inU L) 3 : Int)] 24) = W at *
  have hrW := rdR_below hr hT (Nat.le_refl _)
  refine (runs_segs_any (inU L) _).mono ?_
  rintro e w4 ⟨vr, rfl, hr4, hB4⟩
  have l3 := s3.lt
  clear hW1 hW2 hW12 hr
  rcases id hr4 with ⟨rfl, h0⟩ | ⟨b4, off4, cap4, rfl, hb4, hc4⟩
  · go_wp2
    refine wp_loop_rounds 1 ?_
    rw [rounds_succ]; go_wp2_with fail
    have hBr := hB4.drew
    have hBv := (Below.refl w4.heap.size w4).drew
    have hS := (s3.below hBr l3).cells
    go_region_held3 (fun w' => w'.cell? ⟨w2.heap.size, 0, none⟩ = some (.int .u64 (wd (inU L) 0 : Int)) ∧ w'.cell? ⟨w2.heap.size, 1, none⟩ = some (.int .u64 (wd (inU L) 1 : Int)) ∧ w'.cell? ⟨w2.heap.size, 2, none⟩ = some (.int .u64 (wd (inU L) 2 : Int)) ∧ w'.cell? ⟨w2.heap.size, 3, none⟩ = some (.int .u64 (wd (inU L) 3 : Int)))
      (first | exact (s3.below hBr l3).cells | go_keep)
      (first | (go_at_call 26; (with_reducible refine (runion_any L hL (by omega) _ _ ?hx).mono ?_); (case hx => exact rdR_below hrW hBr (Nat.le_refl _)); rintro e wk ⟨rfl, hb⟩; replace hBr := hBr.trans (hb.mono hBr.size); replace hBv := hBv.trans (hb.mono hBv.size); clear hb)
             | (go_at_call 25; (with_reducible refine (union_segs (inU L) _ _ ?hy).mono ?_); (case hy => exact rdR_below hr4 hBv (Nat.le_refl _)); rintro e wk ⟨rfl, hb⟩; replace hBr := hBr.trans (hb.mono hBr.size); clear hb))
    rename_i hHeld
    clear hHeld
    go_wp2
    go_ret
    exact ⟨rfl, hT.trans (hBr.mono hT.size)⟩
  · have hnil0 : segs (inU L) 256 256 = [] := List.length_eq_zero_iff.1 (by have := Hfew.out; omega)
    have hr5 : rdR w4 (.slice (some ⟨b4, off4, none⟩) 0 cap4) (segs (inU L) 256 256) := by rw [hnil0] at hr4 ⊢; exact hr4
    rw [hnil0]
    clear hc4 hr4 hnil0
    go_wp2
    refine wp_loop_rounds 1 ?_
    rw [rounds_succ]; go_wp2_with fail
    have hBr := hB4.drew
    have hBv := (Below.refl w4.heap.size w4).drew
    have hS := (s3.below hBr l3).cells
    go_region_held3 (fun w' => w'.cell? ⟨w2.heap.size, 0, none⟩ = some (.int .u64 (wd (inU L) 0 : Int)) ∧ w'.cell? ⟨w2.heap.size, 1, none⟩ = some (.int .u64 (wd (inU L) 1 : Int)) ∧ w'.cell? ⟨w2.heap.size, 2, none⟩ = some (.int .u64 (wd (inU L) 2 : Int)) ∧ w'.cell? ⟨w2.heap.size, 3, none⟩ = some (.int .u64 (wd (inU L) 3 : Int)))
      (first | exact (s3.below hBr l3).cells | go_keep)
      (first | (go_at_call 26; (with_reducible refine (runion_any L hL (by omega) _ _ ?hx).mono ?_); (case hx => exact rdR_below hrW hBr (Nat.le_refl _)); rintro e wk ⟨rfl, hb⟩; replace hBr := hBr.trans (hb.mono hBr.size); replace hBv := hBv.trans (hb.mono hBv.size); clear hb)
             | (go_at_call 25; (with_reducible refine (union_segs (inU L) _ _ ?hy).mono ?_); (case hy => exact rdR_below hr5 hBv (Nat.le_refl _)); rintro e wk ⟨rfl, hb⟩; replace hBr := hBr.trans (hb.mono hBr.size); clear hb))
    rename_i hHeld
    clear hHeld
    go_wp2
    go_ret
    exact ⟨rfl, hT.trans (hBr.mono hT.size)⟩
end Go.Proofs.Ytiiohkimjlcfmaa
