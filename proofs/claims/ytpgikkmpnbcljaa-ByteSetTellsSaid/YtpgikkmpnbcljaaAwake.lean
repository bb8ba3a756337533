/-
  The walk of the laws' awake: the page's examples hold.
-/
import Derived.Test.YtpgikkmpnbcljaaRuns
import Derived.Test.YtpgikkmpnbcljaaSetn
namespace Go.Proofs.Ytpgikkmpnbcljaa
open Go.RowKit

theorem awake_runs : runsOf (bl (inl [97, 98, 99, 120]) 256) = [(97, 99), (120, 120)] := by decide +kernel
theorem awake_count : popTo (fun k => !inl [] k) 0 256 = 256 := by decide +kernel
theorem awake_none : sv (inl []) = .agg #[.int .u64 0, .int .u64 0, .int .u64 0, .int .u64 0] := by
  have h0 : ∀ i, wd (inl []) i = 0 := fun i => word_none _ _ fun j _ => by simp [inl]
  unfold sv; rw [h0, h0, h0, h0] <;> rfl

set_option maxRecDepth 100000 in
set_option maxHeartbeats 2000000 in
theorem awake_any (w : World) :
    Calls Try.prog 7 #[] w fun e w' => e = .returned (.bool true) ∧ Below w.heap.size w w' := by
  go_enter Try.func7, Try.ntmps7
  go_wp2_with fail
  refine (of_any [97, 98, 99, 120] (by decide) (by decide) _ _ (.inr ⟨w.heap.size, 0, 4, rfl, by simp, ?_⟩)).mono ?_
  · intro j hj
    match j, hj with
    | 0, _ => simp [go_sem]
    | 1, _ => simp [go_sem]
    | 2, _ => simp [go_sem]
    | 3, _ => simp [go_sem]
  rintro e w1 ⟨rfl, hb1⟩
  go_wp2_with fail
  refine (runs_any (inl [97, 98, 99, 120]) _).mono ?_
  rintro e w2 ⟨v, rfl, hown, hb2⟩
  rw [awake_runs] at hown
  rcases hown.2 with ⟨_, h0⟩ | ⟨g, cap, cur, rfl, hg⟩
  · simp at h0
  have q0 := hown.cellAt 0 (by decide); have q1 := hown.cellAt 1 (by decide); have q2 := hown.cellAt 2 (by decide); have q3 := hown.cellAt 3 (by decide)
  simp [rvs] at q0 q1 q2 q3
  have hb := hb1.trans (hb2.mono hb1.size)
  clear hb1 hb2 hown hg
  go_wp2_with fail
  have hn := not_any (inl []) w2
  rw [awake_none] at hn
  refine hn.mono ?_
  rintro e w3 ⟨rfl, hb3⟩
  go_wp2_with fail
  refine (count_any (fun k => !inl [] k) _).mono ?_
  rintro e w4 ⟨rfl, hb4⟩
  rw [awake_count]
  clear q0 q1 q2 q3 hn
  go_wp2
  go_ret
  refine ⟨rfl, ?_⟩
  have hz := hb.size
  simp only [World.size_alloc] at hz
  exact ((((Below.refl _ _).alloc (Nat.le_refl _) _).trans (hb.mono (by simp))).trans (hb3.mono (by omega))).trans (hb4.mono (by have := hb3.size; omega))
end Go.Proofs.Ytpgikkmpnbcljaa
