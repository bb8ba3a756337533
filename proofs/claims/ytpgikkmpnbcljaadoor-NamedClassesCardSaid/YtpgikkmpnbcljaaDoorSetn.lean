/-
  The walks of byteset's Range, Not, Count.
-/
import Derived.Test.YtpgikkmpnbcljaaDoorSetm
namespace Go.Proofs.YtpgikkmpnbcljaaDoor
open Go.RowKit

set_option maxHeartbeats 1000000 in
theorem count_any (f : Nat → Bool) (w : World) :
    Calls Tryd.prog 14 #[sv f] w fun e w' => e = .returned (.int .i64 (popTo f 0 256 : Nat)) ∧ Below w.heap.size w w' := by
  have i0 : ∀ w : World, (Instr.index 25 (.agg #[.int .u64 (wd f 0 : Int), .int .u64 (wd f 1 : Int), .int .u64 (wd f 2 : Int), .int .u64 (wd f 3 : Int)]) (.int .i64 0)).run Tryd.prog w = .ok (.int .u64 (wd f 0 : Int)) w := fun _ => by kernel_rfl
  have i1 : ∀ w : World, (Instr.index 25 (.agg #[.int .u64 (wd f 0 : Int), .int .u64 (wd f 1 : Int), .int .u64 (wd f 2 : Int), .int .u64 (wd f 3 : Int)]) (.int .i64 1)).run Tryd.prog w = .ok (.int .u64 (wd f 1 : Int)) w := fun _ => by kernel_rfl
  have i2 : ∀ w : World, (Instr.index 25 (.agg #[.int .u64 (wd f 0 : Int), .int .u64 (wd f 1 : Int), .int .u64 (wd f 2 : Int), .int .u64 (wd f 3 : Int)]) (.int .i64 2)).run Tryd.prog w = .ok (.int .u64 (wd f 2 : Int)) w := fun _ => by kernel_rfl
  have i3 : ∀ w : World, (Instr.index 25 (.agg #[.int .u64 (wd f 0 : Int), .int .u64 (wd f 1 : Int), .int .u64 (wd f 2 : Int), .int .u64 (wd f 3 : Int)]) (.int .i64 3)).run Tryd.prog w = .ok (.int .u64 (wd f 3 : Int)) w := fun _ => by kernel_rfl
  have l0 := popTo_le f 0 64; have l1 := popTo_le f 64 64; have l2 := popTo_le f 128 64; have l3 := popTo_le f 192 64
  have hall : Hid (popTo f 0 256 = popTo f 0 64 + popTo f 64 64 + popTo f 128 64 + popTo f 192 64) := by
    have s1 := popTo_add f 0 64 192
    have s2 := popTo_add f 64 64 128
    have s3 := popTo_add f 128 64 64
    simp only [Nat.reduceAdd] at s1 s2 s3
    show popTo f 0 256 = _
    omega
  have c : ∀ i (w : World), Calls Tryd.prog 28 #[.int .u64 (wd f i : Int)] w fun e w' => e = .returned (.int .i64 (popTo f (64 * i) 64 : Nat)) ∧ w' = w := fun i w => by
    have := ones_any (wd f i) (wd_lt f i) w
    rw [popTo_wd] at this
    exact this
  have C := Lib.hid c
  clear c
  unfold sv
  go_enter Tryd.func14, Tryd.ntmps14
  go_wp2
  refine wp_loop_rounds 5 ?_
  rw [rounds_succ]; go_wp2_with (go_at_call 28; refine (C.out 0 _).mono ?_; rintro e w' ⟨rfl, rfl⟩)
  rw [rounds_succ]; go_wp2_with (go_at_call 28; refine (C.out 1 _).mono ?_; rintro e w' ⟨rfl, rfl⟩)
  rw [rounds_succ]; go_wp2_with (go_at_call 28; refine (C.out 2 _).mono ?_; rintro e w' ⟨rfl, rfl⟩)
  rw [rounds_succ]; go_wp2_with (go_at_call 28; refine (C.out 3 _).mono ?_; rintro e w' ⟨rfl, rfl⟩)
  rw [rounds_succ]; go_wp2
  go_ret
  exact ⟨by rw [hall.out]; simp, by go_grown⟩

set_option maxHeartbeats 1000000 in
theorem range_any (lo hi : Nat) (hlo : lo < 256) (hhi : hi < 256) (w : World) :
    Calls Tryd.prog 20 #[.int .u8 (lo : Int), .int .u8 (hi : Int)] w fun e w' => e = .returned (sv fun k => decide (lo ≤ k) && decide (k ≤ hi)) ∧ Below w.heap.size w w' := by
  have hs : Hid (sv (fun k => decide ((k : Int) < (hi : Int) + 1) && !decide ((k : Int) < (lo : Int))) = sv (fun k => decide (lo ≤ k) && decide (k ≤ hi))) := by
    apply sv_congr
    intro k _
    by_cases h1 : k ≤ hi <;> by_cases h2 : lo ≤ k <;> simp [h1, h2] <;> omega
  go_enter Tryd.func20, Tryd.ntmps20
  go_wp2_with fail
  refine (below_any _ (by omega) (by omega) _).mono ?_
  rintro e w1 ⟨rfl, hb1⟩
  go_wp2_with fail
  refine (below_any _ (by omega) (by omega) _).mono ?_
  rintro e w2 ⟨rfl, hb2⟩
  go_wp2_with fail
  refine (less_any _ _ _).mono ?_
  rintro e w3 ⟨rfl, hb3⟩
  have hb := hb1.trans ((hb2.mono hb1.size).trans (hb3.mono (Nat.le_trans hb1.size hb2.size)))
  clear hb1 hb2 hb3
  obtain ⟨hc, hf⟩ := w2of hb; have hz := hb.size; simp only [World.size_alloc] at hz
  go_wp2
  refine bodyPost_ret (v := sv (fun k => decide ((k : Int) < (hi : Int) + 1) && !decide ((k : Int) < (lo : Int)))) (by simp [results, Tryd.results20, go_sem, hc]) rfl ⟨by rw [hs.out] <;> rfl, ?_⟩
  iterate 4 refine Below.setCell ?_ (by go_size) _
  refine Below.trans ?_ (hb.mono (by go_size))
  go_grown

set_option maxHeartbeats 1000000 in
theorem not_any (f : Nat → Bool) (w : World) :
    Calls Tryd.prog 26 #[sv f] w fun e w' => e = .returned (sv fun k => !f k) ∧ Below w.heap.size w w' := by
  have hs : Hid (sv (fun k => decide ((k : Int) < 256) && !f k) = sv (fun k => !f k)) := by
    apply sv_congr
    intro k hk
    have : (k : Int) < 256 := by omega
    simp [this]
  unfold sv
  go_enter Tryd.func26, Tryd.ntmps26
  go_wp2_with fail
  have hB := (Below.refl (w.heap.size + 1 + 1) ((w.alloc (.cells #[.int .u64 (wd f 0 : Int), .int .u64 (wd f 1 : Int), .int .u64 (wd f 2 : Int), .int .u64 (wd f 3 : Int)] 25)).alloc (.cells #[.int .u64 0, .int .u64 0, .int .u64 0, .int .u64 0] 25))).drew
  go_region_held3 (fun w' => w'.cell? ⟨w.heap.size, 0, none⟩ = some (.int .u64 (wd f 0 : Int)) ∧ w'.cell? ⟨w.heap.size, 1, none⟩ = some (.int .u64 (wd f 1 : Int)) ∧ w'.cell? ⟨w.heap.size, 2, none⟩ = some (.int .u64 (wd f 2 : Int)) ∧ w'.cell? ⟨w.heap.size, 3, none⟩ = some (.int .u64 (wd f 3 : Int)))
    (first | go_keep | (refine ⟨?_, ?_, ?_, ?_⟩ <;> (refine (hB.cell (p := ⟨_, _, none⟩) (by go_size)).trans ?_; simp [go_sem])))
    (first | (go_at_call 37; refine (below_any _ (by omega) (by omega) _).mono ?_; rintro e w1 ⟨rfl, hb⟩; replace hB := hB.trans (hb.mono (by go_size)); clear hb)
           | (go_at_call 36; refine (less_any _ _ _).mono ?_; rintro e w2 ⟨rfl, hb⟩; have hz1 := hB.size; simp only [World.size_alloc] at hz1; replace hB := hB.trans (hb.mono (by go_size)); clear hb; obtain ⟨hc, hf⟩ := w2of hB; have hz := hB.size; simp only [World.size_alloc] at hz))
  go_wp2
  refine bodyPost_ret (v := sv (fun k => decide ((k : Int) < 256) && !f k)) (by simp [results, Tryd.results26, go_sem, hc]) rfl ⟨by rw [hs.out] <;> rfl, ?_⟩
  iterate 4 refine Below.setCell ?_ (by go_size) _
  refine Below.trans ?_ (hB.mono (by go_size))
  go_grown
end Go.Proofs.YtpgikkmpnbcljaaDoor
