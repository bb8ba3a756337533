/-
  The walk of byteset's Less.
-/
import Derived.Test.YtgjpmfdiidkdnaaDoorPk1
namespace Go.Proofs.YtgjpmfdiidkdnaaDoor
open Go.RowKit

theorem less_fn (f g : Nat → Bool) (i : Nat) (w : World) :
    Calls Tryd.prog 52 #[.int .u64 (wd f i : Int), .int .u64 (wd g i : Int)] w fun e w' => e = .returned (.int .u64 (wd (fun k => f k && !g k) i : Nat)) ∧ w' = w := by
  go_enter Tryd.func52, Tryd.ntmps52
  go_wp2
  go_ret
  exact ⟨by rw [word_less]; rfl, rfl⟩
set_option maxHeartbeats 1000000 in
theorem less_wise (f g : Nat → Bool) (w : World) :
    Calls Tryd.prog 33 #[sv f, sv g, .func (.func 52) #[] #[]] w fun e w' => e = .returned (sv (fun k => f k && !g k)) ∧ Below w.heap.size w w' := by
  unfold sv
  go_enter Tryd.func33, Tryd.ntmps33
  go_wp2
  refine wp_loop_rounds 5 ?_
  rw [rounds_succ]; go_wp2
  go_region_held3 (fun w' => w'.cell? ⟨w.heap.size, 0, none⟩ = some (.int .u64 (wd f 0 : Int)) ∧ w'.cell? ⟨w.heap.size + 1, 0, none⟩ = some (.int .u64 (wd g 0 : Int))) (go_keep)
    (first | (go_at_call 52; refine (less_fn f g 0 _).mono ?_; rintro e w' ⟨rfl, rfl⟩))
  go_wp2
  rw [rounds_succ]; go_wp2
  go_region_held3 (fun w' => w'.cell? ⟨w.heap.size, 1, none⟩ = some (.int .u64 (wd f 1 : Int)) ∧ w'.cell? ⟨w.heap.size + 1, 1, none⟩ = some (.int .u64 (wd g 1 : Int))) (go_keep)
    (first | (go_at_call 52; refine (less_fn f g 1 _).mono ?_; rintro e w' ⟨rfl, rfl⟩))
  go_wp2
  rw [rounds_succ]; go_wp2
  go_region_held3 (fun w' => w'.cell? ⟨w.heap.size, 2, none⟩ = some (.int .u64 (wd f 2 : Int)) ∧ w'.cell? ⟨w.heap.size + 1, 2, none⟩ = some (.int .u64 (wd g 2 : Int))) (go_keep)
    (first | (go_at_call 52; refine (less_fn f g 2 _).mono ?_; rintro e w' ⟨rfl, rfl⟩))
  go_wp2
  rw [rounds_succ]; go_wp2
  go_region_held3 (fun w' => w'.cell? ⟨w.heap.size, 3, none⟩ = some (.int .u64 (wd f 3 : Int)) ∧ w'.cell? ⟨w.heap.size + 1, 3, none⟩ = some (.int .u64 (wd g 3 : Int))) (go_keep)
    (first | (go_at_call 52; refine (less_fn f g 3 _).mono ?_; rintro e w' ⟨rfl, rfl⟩))
  go_wp2
  rw [rounds_succ]; go_wp2
  go_returns
  exact ⟨rfl, by go_grown⟩
set_option maxHeartbeats 400000 in
theorem less_any (f g : Nat → Bool) (w : World) :
    Calls Tryd.prog 35 #[sv f, sv g] w fun e w' => e = .returned (sv (fun k => f k && !g k)) ∧ Below w.heap.size w w' := by
  unfold sv
  go_enter Tryd.func35, Tryd.ntmps35
  go_wp2_with (go_at_call 33; refine (less_wise f g _).mono ?_; rintro e w1 ⟨rfl, hb⟩; obtain ⟨hc, hf⟩ := w2of hb; have hz := hb.size; simp only [World.size_alloc] at hz)
  refine bodyPost_ret (v := sv (fun k => f k && !g k)) (by simp [results, Tryd.results35, go_sem, hc]) rfl ⟨rfl, ?_⟩
  iterate 4 refine Below.setCell ?_ (by go_size) _
  refine Below.trans ?_ (hb.mono (by go_size))
  go_grown
theorem less_lit (f g : Nat → Bool) (w : World) : Calls Tryd.prog 35 #[svr f, svr g] w fun e w' => e = .returned (sv fun k => f k && !g k) ∧ Below w.heap.size w w' := less_any f g w
end Go.Proofs.YtgjpmfdiidkdnaaDoor
