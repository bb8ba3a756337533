/-
  The walk of byteset's Range.
-/
import Derived.Test.YtgjpmfdiidkdnaaGreatDoorPk8
import Derived.Test.YtgjpmfdiidkdnaaGreatDoorPk9
namespace Go.Proofs.YtgjpmfdiidkdnaaGreatDoor
open Go.RowKit

set_option maxHeartbeats 1000000 in
theorem range_any (lo hi : Nat) (hlo : lo < 256) (hhi : hi < 256) (w : World) :
    Calls Tryz.prog 14 #[.int .u8 (lo : Int), .int .u8 (hi : Int)] w fun e w' => e = .returned (sv fun k => decide (lo ≤ k) && decide (k ≤ hi)) ∧ Below w.heap.size w w' := by
  have hs : Hid (sv (fun k => decide ((k : Int) < (hi : Int) + 1) && !decide ((k : Int) < (lo : Int))) = sv (fun k => decide (lo ≤ k) && decide (k ≤ hi))) := by
    apply sv_congr
    intro k _
    by_cases h1 : k ≤ hi <;> by_cases h2 : lo ≤ k <;> simp [h1, h2] <;> omega
  go_enter Tryz.func14, Tryz.ntmps14
  go_wp2_with fail
  refine (below_any _ (by omega) (by omega) _).mono ?_
  rintro e w1 ⟨rfl, hb1⟩
  go_wp2_with fail
  refine (below_any _ (by omega) (by omega) _).mono ?_
  rintro e w2 ⟨rfl, hb2⟩
  go_wp2_with fail
  refine (less_any _ _ _).mono ?_
  rintro e w3 ⟨rfl, hb3⟩
  have hb := hb1.trans ((hb2.mono hb1.size).trans (hb3.mono (Nat.le_trans hb1.size hb2.size)))
  clear hb1 hb2 hb3
  obtain ⟨hc, hf⟩ := w2of hb; have hz := hb.size; simp only [World.size_alloc] at hz
  go_wp2
  refine bodyPost_ret (v := sv (fun k => decide ((k : Int) < (hi : Int) + 1) && !decide ((k : Int) < (lo : Int)))) (by simp [results, Tryz.results14, go_sem, hc]) rfl ⟨by rw [hs.out] <;> rfl, ?_⟩
  iterate 4 refine Below.setCell ?_ (by go_size) _
  refine Below.trans ?_ (hb.mono (by go_size))
  go_grown
end Go.Proofs.YtgjpmfdiidkdnaaGreatDoor
