/-
  The walk of byteset's Or.
-/
import Derived.Test.YtpjmogcphgaimaaPk2
namespace Go.Proofs.Ytpjmogcphgaimaa
open Go.RowKit

theorem or_fn (f g : Nat → Bool) (i : Nat) (w : World) :
    Calls Try.prog 41 #[.int .u64 (wd f i : Int), .int .u64 (wd g i : Int)] w fun e w' => e = .returned (.int .u64 (wd (fun k => f k || g k) i : Nat)) ∧ w' = w := by
  go_enter Try.func41, Try.ntmps41
  go_wp2
  go_ret
  exact ⟨by rw [word_or]; rfl, rfl⟩
set_option maxHeartbeats 1000000 in
theorem or_wise (f g : Nat → Bool) (w : World) :
    Calls Try.prog 40 #[sv f, sv g, .func (.func 41) #[] #[]] w fun e w' => e = .returned (sv (fun k => f k || g k)) ∧ Below w.heap.size w w' := by
  unfold sv
  go_enter Try.func40, Try.ntmps40
  go_wp2
  refine wp_loop_rounds 5 ?_
  rw [rounds_succ]; go_wp2
  go_region_held3 (fun w' => w'.cell? ⟨w.heap.size, 0, none⟩ = some (.int .u64 (wd f 0 : Int)) ∧ w'.cell? ⟨w.heap.size + 1, 0, none⟩ = some (.int .u64 (wd g 0 : Int))) (go_keep)
    (first | (go_at_call 41; refine (or_fn f g 0 _).mono ?_; rintro e w' ⟨rfl, rfl⟩))
  go_wp2
  rw [rounds_succ]; go_wp2
  go_region_held3 (fun w' => w'.cell? ⟨w.heap.size, 1, none⟩ = some (.int .u64 (wd f 1 : Int)) ∧ w'.cell? ⟨w.heap.size + 1, 1, none⟩ = some (.int .u64 (wd g 1 : Int))) (go_keep)
    (first | (go_at_call 41; refine (or_fn f g 1 _).mono ?_; rintro e w' ⟨rfl, rfl⟩))
  go_wp2
  rw [rounds_succ]; go_wp2
  go_region_held3 (fun w' => w'.cell? ⟨w.heap.size, 2, none⟩ = some (.int .u64 (wd f 2 : Int)) ∧ w'.cell? ⟨w.heap.size + 1, 2, none⟩ = some (.int .u64 (wd g 2 : Int))) (go_keep)
    (first | (go_at_call 41; refine (or_fn f g 2 _).mono ?_; rintro e w' ⟨rfl, rfl⟩))
  go_wp2
  rw [rounds_succ]; go_wp2
  go_region_held3 (fun w' => w'.cell? ⟨w.heap.size, 3, none⟩ = some (.int .u64 (wd f 3 : Int)) ∧ w'.cell? ⟨w.heap.size + 1, 3, none⟩ = some (.int .u64 (wd g 3 : Int))) (go_keep)
    (first | (go_at_call 41; refine (or_fn f g 3 _).mono ?_; rintro e w' ⟨rfl, rfl⟩))
  go_wp2
  rw [rounds_succ]; go_wp2
  go_returns
  exact ⟨rfl, by go_grown⟩
set_option maxHeartbeats 400000 in
theorem or_any (f g : Nat → Bool) (w : World) :
    Calls Try.prog 38 #[sv f, sv g] w fun e w' => e = .returned (sv (fun k => f k || g k)) ∧ Below w.heap.size w w' := by
  unfold sv
  go_enter Try.func38, Try.ntmps38
  go_wp2_with (go_at_call 40; refine (or_wise f g _).mono ?_; rintro e w1 ⟨rfl, hb⟩; obtain ⟨hc, hf⟩ := w2of hb; have hz := hb.size; simp only [World.size_alloc] at hz)
  refine bodyPost_ret (v := sv (fun k => f k || g k)) (by simp [results, Try.results38, go_sem, hc]) rfl ⟨rfl, ?_⟩
  iterate 4 refine Below.setCell ?_ (by go_size) _
  refine Below.trans ?_ (hb.mono (by go_size))
  go_grown

theorem or_lit (f g : Nat → Bool) (w : World) : Calls Try.prog 38 #[svr f, svr g] w fun e w' => e = .returned (sv fun k => f k || g k) ∧ Below w.heap.size w w' := or_any f g w
end Go.Proofs.Ytpjmogcphgaimaa
