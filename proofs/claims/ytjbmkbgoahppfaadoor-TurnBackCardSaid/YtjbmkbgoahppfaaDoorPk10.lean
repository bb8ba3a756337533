/-
  The walk of byteset's Less.
  The walk of byteset's Range.
  The walk of byteset's Or.
-/
import Derived.Test.YtjbmkbgoahppfaaDoorPk1
import Derived.Test.YtjbmkbgoahppfaaDoorPk9
namespace Go.Proofs.YtjbmkbgoahppfaaDoor
open Go.RowKit

theorem less_fn (f g : Nat → Bool) (i : Nat) (w : World) :
    Calls Tryd.prog 76 #[.int .u64 (wd f i : Int), .int .u64 (wd g i : Int)] w fun e w' => e = .returned (.int .u64 (wd (fun k => f k && !g k) i : Nat)) ∧ w' = w := by
  go_enter Tryd.func76, Tryd.ntmps76
  go_wp2
  go_ret
  exact ⟨by rw [word_less]; rfl, rfl⟩
set_option maxHeartbeats 1000000 in
theorem less_wise (f g : Nat → Bool) (w : World) :
    Calls Tryd.prog 68 #[sv f, sv g, .func (.func 76) #[] #[]] w fun e w' => e = .returned (sv (fun k => f k && !g k)) ∧ Below w.heap.size w w' := by
  unfold sv
  go_enter Tryd.func68, Tryd.ntmps68
  go_wp2
  refine wp_loop_rounds 5 ?_
  rw [rounds_succ]; go_wp2
  go_region_held3 (fun w' => w'.cell? ⟨w.heap.size, 0, none⟩ = some (.int .u64 (wd f 0 : Int)) ∧ w'.cell? ⟨w.heap.size + 1, 0, none⟩ = some (.int .u64 (wd g 0 : Int))) (go_keep)
    (first | (go_at_call 76; refine (less_fn f g 0 _).mono ?_; rintro e w' ⟨rfl, rfl⟩))
  go_wp2
  rw [rounds_succ]; go_wp2
  go_region_held3 (fun w' => w'.cell? ⟨w.heap.size, 1, none⟩ = some (.int .u64 (wd f 1 : Int)) ∧ w'.cell? ⟨w.heap.size + 1, 1, none⟩ = some (.int .u64 (wd g 1 : Int))) (go_keep)
    (first | (go_at_call 76; refine (less_fn f g 1 _).mono ?_; rintro e w' ⟨rfl, rfl⟩))
  go_wp2
  rw [rounds_succ]; go_wp2
  go_region_held3 (fun w' => w'.cell? ⟨w.heap.size, 2, none⟩ = some (.int .u64 (wd f 2 : Int)) ∧ w'.cell? ⟨w.heap.size + 1, 2, none⟩ = some (.int .u64 (wd g 2 : Int))) (go_keep)
    (first | (go_at_call 76; refine (less_fn f g 2 _).mono ?_; rintro e w' ⟨rfl, rfl⟩))
  go_wp2
  rw [rounds_succ]; go_wp2
  go_region_held3 (fun w' => w'.cell? ⟨w.heap.size, 3, none⟩ = some (.int .u64 (wd f 3 : Int)) ∧ w'.cell? ⟨w.heap.size + 1, 3, none⟩ = some (.int .u64 (wd g 3 : Int))) (go_keep)
    (first | (go_at_call 76; refine (less_fn f g 3 _).mono ?_; rintro e w' ⟨rfl, rfl⟩))
  go_wp2
  rw [rounds_succ]; go_wp2
  go_returns
  exact ⟨rfl, by go_grown⟩
set_option maxHeartbeats 400000 in
theorem less_any (f g : Nat → Bool) (w : World) :
    Calls Tryd.prog 70 #[sv f, sv g] w fun e w' => e = .returned (sv (fun k => f k && !g k)) ∧ Below w.heap.size w w' := by
  unfold sv
  go_enter Tryd.func70, Tryd.ntmps70
  go_wp2_with (go_at_call 68; refine (less_wise f g _).mono ?_; rintro e w1 ⟨rfl, hb⟩; obtain ⟨hc, hf⟩ := w2of hb; have hz := hb.size; simp only [World.size_alloc] at hz)
  refine bodyPost_ret (v := sv (fun k => f k && !g k)) (by simp [results, Tryd.results70, go_sem, hc]) rfl ⟨rfl, ?_⟩
  iterate 4 refine Below.setCell ?_ (by go_size) _
  refine Below.trans ?_ (hb.mono (by go_size))
  go_grown
theorem less_lit (f g : Nat → Bool) (w : World) : Calls Tryd.prog 70 #[svr f, svr g] w fun e w' => e = .returned (sv fun k => f k && !g k) ∧ Below w.heap.size w w' := less_any f g w
end Go.Proofs.YtjbmkbgoahppfaaDoor

namespace Go.Proofs.YtjbmkbgoahppfaaDoor
open Go.RowKit

set_option maxHeartbeats 1000000 in
theorem range_any (lo hi : Nat) (hlo : lo < 256) (hhi : hi < 256) (w : World) :
    Calls Tryd.prog 77 #[.int .u8 (lo : Int), .int .u8 (hi : Int)] w fun e w' => e = .returned (sv fun k => decide (lo ≤ k) && decide (k ≤ hi)) ∧ Below w.heap.size w w' := by
  have hs : Hid (sv (fun k => decide ((k : Int) < (hi : Int) + 1) && !decide ((k : Int) < (lo : Int))) = sv (fun k => decide (lo ≤ k) && decide (k ≤ hi))) := by
    apply sv_congr
    intro k _
    by_cases h1 : k ≤ hi <;> by_cases h2 : lo ≤ k <;> simp [h1, h2] <;> omega
  go_enter Tryd.func77, Tryd.ntmps77
  go_wp2_with fail
  refine (below_any _ (by omega) (by omega) _).mono ?_
  rintro e w1 ⟨rfl, hb1⟩
  go_wp2_with fail
  refine (below_any _ (by omega) (by omega) _).mono ?_
  rintro e w2 ⟨rfl, hb2⟩
  go_wp2_with fail
  refine (less_any _ _ _).mono ?_
  rintro e w3 ⟨rfl, hb3⟩
  have hb := hb1.trans ((hb2.mono hb1.size).trans (hb3.mono (Nat.le_trans hb1.size hb2.size)))
  clear hb1 hb2 hb3
  obtain ⟨hc, hf⟩ := w2of hb; have hz := hb.size; simp only [World.size_alloc] at hz
  go_wp2
  refine bodyPost_ret (v := sv (fun k => decide ((k : Int) < (hi : Int) + 1) && !decide ((k : Int) < (lo : Int)))) (by simp [results, Tryd.results77, go_sem, hc]) rfl ⟨by rw [hs.out] <;> rfl, ?_⟩
  iterate 4 refine Below.setCell ?_ (by go_size) _
  refine Below.trans ?_ (hb.mono (by go_size))
  go_grown
end Go.Proofs.YtjbmkbgoahppfaaDoor

namespace Go.Proofs.YtjbmkbgoahppfaaDoor
open Go.RowKit

theorem or_fn (f g : Nat → Bool) (i : Nat) (w : World) :
    Calls Tryd.prog 69 #[.int .u64 (wd f i : Int), .int .u64 (wd g i : Int)] w fun e w' => e = .returned (.int .u64 (wd (fun k => f k || g k) i : Nat)) ∧ w' = w := by
  go_enter Tryd.func69, Tryd.ntmps69
  go_wp2
  go_ret
  exact ⟨by rw [word_or]; rfl, rfl⟩
set_option maxHeartbeats 1000000 in
theorem or_wise (f g : Nat → Bool) (w : World) :
    Calls Tryd.prog 68 #[sv f, sv g, .func (.func 69) #[] #[]] w fun e w' => e = .returned (sv (fun k => f k || g k)) ∧ Below w.heap.size w w' := by
  unfold sv
  go_enter Tryd.func68, Tryd.ntmps68
  go_wp2
  refine wp_loop_rounds 5 ?_
  rw [rounds_succ]; go_wp2
  go_region_held3 (fun w' => w'.cell? ⟨w.heap.size, 0, none⟩ = some (.int .u64 (wd f 0 : Int)) ∧ w'.cell? ⟨w.heap.size + 1, 0, none⟩ = some (.int .u64 (wd g 0 : Int))) (go_keep)
    (first | (go_at_call 69; refine (or_fn f g 0 _).mono ?_; rintro e w' ⟨rfl, rfl⟩))
  go_wp2
  rw [rounds_succ]; go_wp2
  go_region_held3 (fun w' => w'.cell? ⟨w.heap.size, 1, none⟩ = some (.int .u64 (wd f 1 : Int)) ∧ w'.cell? ⟨w.heap.size + 1, 1, none⟩ = some (.int .u64 (wd g 1 : Int))) (go_keep)
    (first | (go_at_call 69; refine (or_fn f g 1 _).mono ?_; rintro e w' ⟨rfl, rfl⟩))
  go_wp2
  rw [rounds_succ]; go_wp2
  go_region_held3 (fun w' => w'.cell? ⟨w.heap.size, 2, none⟩ = some (.int .u64 (wd f 2 : Int)) ∧ w'.cell? ⟨w.heap.size + 1, 2, none⟩ = some (.int .u64 (wd g 2 : Int))) (go_keep)
    (first | (go_at_call 69; refine (or_fn f g 2 _).mono ?_; rintro e w' ⟨rfl, rfl⟩))
  go_wp2
  rw [rounds_succ]; go_wp2
  go_region_held3 (fun w' => w'.cell? ⟨w.heap.size, 3, none⟩ = some (.int .u64 (wd f 3 : Int)) ∧ w'.cell? ⟨w.heap.size + 1, 3, none⟩ = some (.int .u64 (wd g 3 : Int))) (go_keep)
    (first | (go_at_call 69; refine (or_fn f g 3 _).mono ?_; rintro e w' ⟨rfl, rfl⟩))
  go_wp2
  rw [rounds_succ]; go_wp2
  go_returns
  exact ⟨rfl, by go_grown⟩
set_option maxHeartbeats 400000 in
theorem or_any (f g : Nat → Bool) (w : World) :
    Calls Tryd.prog 58 #[sv f, sv g] w fun e w' => e = .returned (sv (fun k => f k || g k)) ∧ Below w.heap.size w w' := by
  unfold sv
  go_enter Tryd.func58, Tryd.ntmps58
  go_wp2_with (go_at_call 68; refine (or_wise f g _).mono ?_; rintro e w1 ⟨rfl, hb⟩; obtain ⟨hc, hf⟩ := w2of hb; have hz := hb.size; simp only [World.size_alloc] at hz)
  refine bodyPost_ret (v := sv (fun k => f k || g k)) (by simp [results, Tryd.results58, go_sem, hc]) rfl ⟨rfl, ?_⟩
  iterate 4 refine Below.setCell ?_ (by go_size) _
  refine Below.trans ?_ (hb.mono (by go_size))
  go_grown

theorem or_lit (f g : Nat → Bool) (w : World) : Calls Tryd.prog 58 #[svr f, svr g] w fun e w' => e = .returned (sv fun k => f k || g k) ∧ Below w.heap.size w w' := or_any f g w
end Go.Proofs.YtjbmkbgoahppfaaDoor
