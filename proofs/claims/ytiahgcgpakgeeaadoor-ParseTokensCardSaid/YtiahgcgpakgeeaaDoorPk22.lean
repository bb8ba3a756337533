/-
  The walk of byteset's below.
  The walk of byteset's Less.
-/
import Derived.Test.YtiahgcgpakgeeaaDoorPk1
namespace Go.Proofs.YtiahgcgpakgeeaaDoor
open Go.RowKit

/-- Words that are full, or empty, for the bytes below n. -/
theorem below_lo (n i : Nat) (h : n ≤ 64 * i) : wd (fun k => decide (k < n)) i = 0 := word_none _ _ fun j _ => by simp; omega
theorem below_hi (n i : Nat) (h : 64 * i + 64 ≤ n) : wd (fun k => decide (k < n)) i = 18446744073709551615 := word_all _ _ fun j _ => by simp; omega
theorem full_eq : ((18446744073709551615 : Nat) : Int) = IntKind.u64.wrap (IntKind.u64.wrap 18446744073709551616 - 1) := by decide
theorem part_eq (n i : Nat) (h0 : 64 * i < n) (h1 : n < 64 * i + 64) : ((wd (fun k => decide (k < n)) i : Nat) : Int) = IntKind.u64.wrap (IntKind.u64.wrap (2 ^ (n - 64 * i)) - 1) := (word_below n i h0 h1).symm

set_option maxHeartbeats 1000000 in
theorem below_nat (n : Nat) (hn : n ≤ 256) (w : World) :
    Calls Tryd.prog 45 #[.int .i64 (n : Int)] w fun e w' => e = .returned (sv fun k => decide (k < n)) ∧ Below w.heap.size w w' := by
  have hcs : n = 0 ∨ (0 < n ∧ n < 64) ∨ n = 64 ∨ (64 < n ∧ n < 128) ∨ n = 128 ∨ (128 < n ∧ n < 192) ∨ n = 192 ∨ (192 < n ∧ n < 256) ∨ n = 256 := by omega
  have H0 := below_lo n; have H1 := below_hi n; have H2 := part_eq n
  have HS : Hid (sv (fun k => decide (k < n)) = .agg #[.int .u64 (wd (fun k => decide (k < n)) 0 : Int), .int .u64 (wd (fun k => decide (k < n)) 1 : Int), .int .u64 (wd (fun k => decide (k < n)) 2 : Int), .int .u64 (wd (fun k => decide (k < n)) 3 : Int)]) := rfl
  rcases hcs with rfl | ⟨h1, h2⟩ | rfl | ⟨h1, h2⟩ | rfl | ⟨h1, h2⟩ | rfl | ⟨h1, h2⟩ | rfl
  · have G := HS.out
    rw [H0 0 (by omega), H0 1 (by omega), H0 2 (by omega), H0 3 (by omega)] at G
    have K := Lib.hid G
    clear G HS H0 H1 H2
    go_enter Tryd.func45, Tryd.ntmps45
    go_wp2
    refine wp_loop_rounds 5 ?_
    iterate 5 rw [rounds_succ]; go_wp2
    go_returns
    exact ⟨by rw [K.out] <;> rfl, by go_grown⟩
  · have G := HS.out
    rw [H2 0 (by omega) (by omega), H0 1 (by omega), H0 2 (by omega), H0 3 (by omega)] at G
    have K := Lib.hid G
    clear G HS H0 H1 H2
    go_enter Tryd.func45, Tryd.ntmps45
    go_wp2
    refine wp_loop_rounds 5 ?_
    iterate 5 rw [rounds_succ]; go_wp2
    go_returns
    exact ⟨by rw [K.out] <;> rfl, by go_grown⟩
  · have G := HS.out
    rw [H1 0 (by omega), H0 1 (by omega), H0 2 (by omega), H0 3 (by omega), full_eq] at G
    have K := Lib.hid G
    clear G HS H0 H1 H2
    go_enter Tryd.func45, Tryd.ntmps45
    go_wp2
    refine wp_loop_rounds 5 ?_
    iterate 5 rw [rounds_succ]; go_wp2
    go_returns
    exact ⟨by rw [K.out] <;> rfl, by go_grown⟩
  · have G := HS.out
    rw [H1 0 (by omega), H2 1 (by omega) (by omega), H0 2 (by omega), H0 3 (by omega), full_eq] at G
    have K := Lib.hid G
    clear G HS H0 H1 H2
    go_enter Tryd.func45, Tryd.ntmps45
    go_wp2
    refine wp_loop_rounds 5 ?_
    iterate 5 rw [rounds_succ]; go_wp2
    go_returns
    exact ⟨by rw [K.out] <;> rfl, by go_grown⟩
  · have G := HS.out
    rw [H1 0 (by omega), H1 1 (by omega), H0 2 (by omega), H0 3 (by omega), full_eq] at G
    have K := Lib.hid G
    clear G HS H0 H1 H2
    go_enter Tryd.func45, Tryd.ntmps45
    go_wp2
    refine wp_loop_rounds 5 ?_
    iterate 5 rw [rounds_succ]; go_wp2
    go_returns
    exact ⟨by rw [K.out] <;> rfl, by go_grown⟩
  · have G := HS.out
    rw [H1 0 (by omega), H1 1 (by omega), H2 2 (by omega) (by omega), H0 3 (by omega), full_eq] at G
    have K := Lib.hid G
    clear G HS H0 H1 H2
    go_enter Tryd.func45, Tryd.ntmps45
    go_wp2
    refine wp_loop_rounds 5 ?_
    iterate 5 rw [rounds_succ]; go_wp2
    go_returns
    exact ⟨by rw [K.out] <;> rfl, by go_grown⟩
  · have G := HS.out
    rw [H1 0 (by omega), H1 1 (by omega), H1 2 (by omega), H0 3 (by omega), full_eq] at G
    have K := Lib.hid G
    clear G HS H0 H1 H2
    go_enter Tryd.func45, Tryd.ntmps45
    go_wp2
    refine wp_loop_rounds 5 ?_
    iterate 5 rw [rounds_succ]; go_wp2
    go_returns
    exact ⟨by rw [K.out] <;> rfl, by go_grown⟩
  · have G := HS.out
    rw [H1 0 (by omega), H1 1 (by omega), H1 2 (by omega), H2 3 (by omega) (by omega), full_eq] at G
    have K := Lib.hid G
    clear G HS H0 H1 H2
    go_enter Tryd.func45, Tryd.ntmps45
    go_wp2
    refine wp_loop_rounds 5 ?_
    iterate 5 rw [rounds_succ]; go_wp2
    go_returns
    exact ⟨by rw [K.out] <;> rfl, by go_grown⟩
  · have G := HS.out
    rw [H1 0 (by omega), H1 1 (by omega), H1 2 (by omega), H1 3 (by omega), full_eq] at G
    have K := Lib.hid G
    clear G HS H0 H1 H2
    go_enter Tryd.func45, Tryd.ntmps45
    go_wp2
    refine wp_loop_rounds 5 ?_
    iterate 5 rw [rounds_succ]; go_wp2
    go_returns
    exact ⟨by rw [K.out] <;> rfl, by go_grown⟩
theorem below_any (n : Int) (h0 : 0 ≤ n) (hn : n ≤ 256) (w : World) :
    Calls Tryd.prog 45 #[.int .i64 n] w fun e w' => e = .returned (sv fun k => decide ((k : Int) < n)) ∧ Below w.heap.size w w' := by
  obtain ⟨m, rfl⟩ := Int.eq_ofNat_of_zero_le h0
  refine (below_nat m (by omega) w).mono fun e w' h => ⟨?_, h.2⟩
  rw [h.1]
  congr 2
  funext k
  simp
end Go.Proofs.YtiahgcgpakgeeaaDoor

namespace Go.Proofs.YtiahgcgpakgeeaaDoor
open Go.RowKit

theorem less_fn (f g : Nat → Bool) (i : Nat) (w : World) :
    Calls Tryd.prog 61 #[.int .u64 (wd f i : Int), .int .u64 (wd g i : Int)] w fun e w' => e = .returned (.int .u64 (wd (fun k => f k && !g k) i : Nat)) ∧ w' = w := by
  go_enter Tryd.func61, Tryd.ntmps61
  go_wp2
  go_ret
  exact ⟨by rw [word_less]; rfl, rfl⟩
set_option maxHeartbeats 1000000 in
theorem less_wise (f g : Nat → Bool) (w : World) :
    Calls Tryd.prog 54 #[sv f, sv g, .func (.func 61) #[] #[]] w fun e w' => e = .returned (sv (fun k => f k && !g k)) ∧ Below w.heap.size w w' := by
  unfold sv
  go_enter Tryd.func54, Tryd.ntmps54
  go_wp2
  refine wp_loop_rounds 5 ?_
  rw [rounds_succ]; go_wp2
  go_region_held3 (fun w' => w'.cell? ⟨w.heap.size, 0, none⟩ = some (.int .u64 (wd f 0 : Int)) ∧ w'.cell? ⟨w.heap.size + 1, 0, none⟩ = some (.int .u64 (wd g 0 : Int))) (go_keep)
    (first | (go_at_call 61; refine (less_fn f g 0 _).mono ?_; rintro e w' ⟨rfl, rfl⟩))
  go_wp2
  rw [rounds_succ]; go_wp2
  go_region_held3 (fun w' => w'.cell? ⟨w.heap.size, 1, none⟩ = some (.int .u64 (wd f 1 : Int)) ∧ w'.cell? ⟨w.heap.size + 1, 1, none⟩ = some (.int .u64 (wd g 1 : Int))) (go_keep)
    (first | (go_at_call 61; refine (less_fn f g 1 _).mono ?_; rintro e w' ⟨rfl, rfl⟩))
  go_wp2
  rw [rounds_succ]; go_wp2
  go_region_held3 (fun w' => w'.cell? ⟨w.heap.size, 2, none⟩ = some (.int .u64 (wd f 2 : Int)) ∧ w'.cell? ⟨w.heap.size + 1, 2, none⟩ = some (.int .u64 (wd g 2 : Int))) (go_keep)
    (first | (go_at_call 61; refine (less_fn f g 2 _).mono ?_; rintro e w' ⟨rfl, rfl⟩))
  go_wp2
  rw [rounds_succ]; go_wp2
  go_region_held3 (fun w' => w'.cell? ⟨w.heap.size, 3, none⟩ = some (.int .u64 (wd f 3 : Int)) ∧ w'.cell? ⟨w.heap.size + 1, 3, none⟩ = some (.int .u64 (wd g 3 : Int))) (go_keep)
    (first | (go_at_call 61; refine (less_fn f g 3 _).mono ?_; rintro e w' ⟨rfl, rfl⟩))
  go_wp2
  rw [rounds_succ]; go_wp2
  go_returns
  exact ⟨rfl, by go_grown⟩
set_option maxHeartbeats 400000 in
theorem less_any (f g : Nat → Bool) (w : World) :
    Calls Tryd.prog 44 #[sv f, sv g] w fun e w' => e = .returned (sv (fun k => f k && !g k)) ∧ Below w.heap.size w w' := by
  unfold sv
  go_enter Tryd.func44, Tryd.ntmps44
  go_wp2_with (go_at_call 54; refine (less_wise f g _).mono ?_; rintro e w1 ⟨rfl, hb⟩; obtain ⟨hc, hf⟩ := w2of hb; have hz := hb.size; simp only [World.size_alloc] at hz)
  refine bodyPost_ret (v := sv (fun k => f k && !g k)) (by simp [results, Tryd.results44, go_sem, hc]) rfl ⟨rfl, ?_⟩
  iterate 4 refine Below.setCell ?_ (by go_size) _
  refine Below.trans ?_ (hb.mono (by go_size))
  go_grown
theorem less_lit (f g : Nat → Bool) (w : World) : Calls Tryd.prog 44 #[svr f, svr g] w fun e w' => e = .returned (sv fun k => f k && !g k) ∧ Below w.heap.size w w' := less_any f g w
end Go.Proofs.YtiahgcgpakgeeaaDoor
