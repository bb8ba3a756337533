/-
  The walk of byteset's Range.
  The walk of byteset's Or.
-/
import Derived.Test.YtgjpmfdiidkdnaaDoorPk8
import Derived.Test.YtgjpmfdiidkdnaaDoorPk9
import Derived.Test.YtgjpmfdiidkdnaaDoorPk1
namespace Go.Proofs.YtgjpmfdiidkdnaaDoor
open Go.RowKit

set_option maxHeartbeats 1000000 in
theorem range_any (lo hi : Nat) (hlo : lo < 256) (hhi : hi < 256) (w : World) :
    Calls Tryd.prog 13 #[.int .u8 (lo : Int), .int .u8 (hi : Int)] w fun e w' => e = .returned (sv fun k => decide (lo ≤ k) && decide (k ≤ hi)) ∧ Below w.heap.size w w' := by
  have hs : Hid (sv (fun k => decide ((k : Int) < (hi : Int) + 1) && !decide ((k : Int) < (lo : Int))) = sv (fun k => decide (lo ≤ k) && decide (k ≤ hi))) := by
    apply sv_congr
    intro k _
    by_cases h1 : k ≤ hi <;> by_cases h2 : lo ≤ k <;> simp [h1, h2] <;> omega
  go_enter Tryd.func13, Tryd.ntmps13
  go_wp2_with fail
  refine (below_any _ (by omega) (by omega) _).mono ?_
  rintro e w1 ⟨rfl, hb1⟩
  go_wp2_with fail
  refine (below_any _ (by omega) (by omega) _).mono ?_
  rintro e w2 ⟨rfl, hb2⟩
  go_wp2_with fail
  refine (less_any _ _ _).mono ?_
  rintro e w3 ⟨rfl, hb3⟩
  have hb := hb1.trans ((hb2.mono hb1.size).trans (hb3.mono (Nat.le_trans hb1.size hb2.size)))
  clear hb1 hb2 hb3
  obtain ⟨hc, hf⟩ := w2of hb; have hz := hb.size; simp only [World.size_alloc] at hz
  go_wp2
  refine bodyPost_ret (v := sv (fun k => decide ((k : Int) < (hi : Int) + 1) && !decide ((k : Int) < (lo : Int)))) (by simp [results, Tryd.results13, go_sem, hc]) rfl ⟨by rw [hs.out] <;> rfl, ?_⟩
  iterate 4 refine Below.setCell ?_ (by go_size) _
  refine Below.trans ?_ (hb.mono (by go_size))
  go_grown
end Go.Proofs.YtgjpmfdiidkdnaaDoor

namespace Go.Proofs.YtgjpmfdiidkdnaaDoor
open Go.RowKit

theorem or_fn (f g : Nat → Bool) (i : Nat) (w : World) :
    Calls Tryd.prog 34 #[.int .u64 (wd f i : Int), .int .u64 (wd g i : Int)] w fun e w' => e = .returned (.int .u64 (wd (fun k => f k || g k) i : Nat)) ∧ w' = w := by
  go_enter Tryd.func34, Tryd.ntmps34
  go_wp2
  go_ret
  exact ⟨by rw [word_or]; rfl, rfl⟩
set_option maxHeartbeats 1000000 in
theorem or_wise (f g : Nat → Bool) (w : World) :
    Calls Tryd.prog 33 #[sv f, sv g, .func (.func 34) #[] #[]] w fun e w' => e = .returned (sv (fun k => f k || g k)) ∧ Below w.heap.size w w' := by
  unfold sv
  go_enter Tryd.func33, Tryd.ntmps33
  go_wp2
  refine wp_loop_rounds 5 ?_
  rw [rounds_succ]; go_wp2
  go_region_held3 (fun w' => w'.cell? ⟨w.heap.size, 0, none⟩ = some (.int .u64 (wd f 0 : Int)) ∧ w'.cell? ⟨w.heap.size + 1, 0, none⟩ = some (.int .u64 (wd g 0 : Int))) (go_keep)
    (first | (go_at_call 34; refine (or_fn f g 0 _).mono ?_; rintro e w' ⟨rfl, rfl⟩))
  go_wp2
  rw [rounds_succ]; go_wp2
  go_region_held3 (fun w' => w'.cell? ⟨w.heap.size, 1, none⟩ = some (.int .u64 (wd f 1 : Int)) ∧ w'.cell? ⟨w.heap.size + 1, 1, none⟩ = some (.int .u64 (wd g 1 : Int))) (go_keep)
    (first | (go_at_call 34; refine (or_fn f g 1 _).mono ?_; rintro e w' ⟨rfl, rfl⟩))
  go_wp2
  rw [rounds_succ]; go_wp2
  go_region_held3 (fun w' => w'.cell? ⟨w.heap.size, 2, none⟩ = some (.int .u64 (wd f 2 : Int)) ∧ w'.cell? ⟨w.heap.size + 1, 2, none⟩ = some (.int .u64 (wd g 2 : Int))) (go_keep)
    (first | (go_at_call 34; refine (or_fn f g 2 _).mono ?_; rintro e w' ⟨rfl, rfl⟩))
  go_wp2
  rw [rounds_succ]; go_wp2
  go_region_held3 (fun w' => w'.cell? ⟨w.heap.size, 3, none⟩ = some (.int .u64 (wd f 3 : Int)) ∧ w'.cell? ⟨w.heap.size + 1, 3, none⟩ = some (.int .u64 (wd g 3 : Int))) (go_keep)
    (first | (go_at_call 34; refine (or_fn f g 3 _).mono ?_; rintro e w' ⟨rfl, rfl⟩))
  go_wp2
  rw [rounds_succ]; go_wp2
  go_returns
  exact ⟨rfl, by go_grown⟩
set_option maxHeartbeats 400000 in
theorem or_any (f g : Nat → Bool) (w : World) :
    Calls Tryd.prog 11 #[sv f, sv g] w fun e w' => e = .returned (sv (fun k => f k || g k)) ∧ Below w.heap.size w w' := by
  unfold sv
  go_enter Tryd.func11, Tryd.ntmps11
  go_wp2_with (go_at_call 33; refine (or_wise f g _).mono ?_; rintro e w1 ⟨rfl, hb⟩; obtain ⟨hc, hf⟩ := w2of hb; have hz := hb.size; simp only [World.size_alloc] at hz)
  refine bodyPost_ret (v := sv (fun k => f k || g k)) (by simp [results, Tryd.results11, go_sem, hc]) rfl ⟨rfl, ?_⟩
  iterate 4 refine Below.setCell ?_ (by go_size) _
  refine Below.trans ?_ (hb.mono (by go_size))
  go_grown

theorem or_lit (f g : Nat → Bool) (w : World) : Calls Tryd.prog 11 #[svr f, svr g] w fun e w' => e = .returned (sv fun k => f k || g k) ∧ Below w.heap.size w w' := or_any f g w
end Go.Proofs.YtgjpmfdiidkdnaaDoor
