/-
  The walk of byteset's below.
-/
import Derived.Test.YtjbmkbgoahppfaaDoorPk1
namespace Go.Proofs.YtjbmkbgoahppfaaDoor
open Go.RowKit

/-- Words that are full, or empty, for the bytes below n. -/
theorem below_lo (n i : Nat) (h : n ≤ 64 * i) : wd (fun k => decide (k < n)) i = 0 := word_none _ _ fun j _ => by simp; omega
theorem below_hi (n i : Nat) (h : 64 * i + 64 ≤ n) : wd (fun k => decide (k < n)) i = 18446744073709551615 := word_all _ _ fun j _ => by simp; omega
theorem full_eq : ((18446744073709551615 : Nat) : Int) = IntKind.u64.wrap (IntKind.u64.wrap 18446744073709551616 - 1) := by decide
theorem part_eq (n i : Nat) (h0 : 64 * i < n) (h1 : n < 64 * i + 64) : ((wd (fun k => decide (k < n)) i : Nat) : Int) = IntKind.u64.wrap (IntKind.u64.wrap (2 ^ (n - 64 * i)) - 1) := (word_below n i h0 h1).symm

set_option maxHeartbeats 1000000 in
theorem below_nat (n : Nat) (hn : n ≤ 256) (w : World) :
    Calls Tryd.prog 71 #[.int .i64 (n : Int)] w fun e w' => e = .returned (sv fun k => decide (k < n)) ∧ Below w.heap.size w w' := by
  have hcs : n = 0 ∨ (0 < n ∧ n < 64) ∨ n = 64 ∨ (64 < n ∧ n < 128) ∨ n = 128 ∨ (128 < n ∧ n < 192) ∨ n = 192 ∨ (192 < n ∧ n < 256) ∨ n = 256 := by omega
  have H0 := below_lo n; have H1 := below_hi n; have H2 := part_eq n
  have HS : Hid (sv (fun k => decide (k < n)) = .agg #[.int .u64 (wd (fun k => decide (k < n)) 0 : Int), .int .u64 (wd (fun k => decide (k < n)) 1 : Int), .int .u64 (wd (fun k => decide (k < n)) 2 : Int), .int .u64 (wd (fun k => decide (k < n)) 3 : Int)]) := rfl
  rcases hcs with rfl | ⟨h1, h2⟩ | rfl | ⟨h1, h2⟩ | rfl | ⟨h1, h2⟩ | rfl | ⟨h1, h2⟩ | rfl
  · have G := HS.out
    rw [H0 0 (by omega), H0 1 (by omega), H0 2 (by omega), H0 3 (by omega)] at G
    have K := Lib.hid G
    clear G HS H0 H1 H2
    go_enter Tryd.func71, Tryd.ntmps71
    go_wp2
    refine wp_loop_rounds 5 ?_
    iterate 5 rw [rounds_succ]; go_wp2
    go_returns
    exact ⟨by rw [K.out] <;> rfl, by go_grown⟩
  · have G := HS.out
    rw [H2 0 (by omega) (by omega), H0 1 (by omega), H0 2 (by omega), H0 3 (by omega)] at G
    have K := Lib.hid G
    clear G HS H0 H1 H2
    go_enter Tryd.func71, Tryd.ntmps71
    go_wp2
    refine wp_loop_rounds 5 ?_
    iterate 5 rw [rounds_succ]; go_wp2
    go_returns
    exact ⟨by rw [K.out] <;> rfl, by go_grown⟩
  · have G := HS.out
    rw [H1 0 (by omega), H0 1 (by omega), H0 2 (by omega), H0 3 (by omega), full_eq] at G
    have K := Lib.hid G
    clear G HS H0 H1 H2
    go_enter Tryd.func71, Tryd.ntmps71
    go_wp2
    refine wp_loop_rounds 5 ?_
    iterate 5 rw [rounds_succ]; go_wp2
    go_returns
    exact ⟨by rw [K.out] <;> rfl, by go_grown⟩
  · have G := HS.out
    rw [H1 0 (by omega), H2 1 (by omega) (by omega), H0 2 (by omega), H0 3 (by omega), full_eq] at G
    have K := Lib.hid G
    clear G HS H0 H1 H2
    go_enter Tryd.func71, Tryd.ntmps71
    go_wp2
    refine wp_loop_rounds 5 ?_
    iterate 5 rw [rounds_succ]; go_wp2
    go_returns
    exact ⟨by rw [K.out] <;> rfl, by go_grown⟩
  · have G := HS.out
    rw [H1 0 (by omega), H1 1 (by omega), H0 2 (by omega), H0 3 (by omega), full_eq] at G
    have K := Lib.hid G
    clear G HS H0 H1 H2
    go_enter Tryd.func71, Tryd.ntmps71
    go_wp2
    refine wp_loop_rounds 5 ?_
    iterate 5 rw [rounds_succ]; go_wp2
    go_returns
    exact ⟨by rw [K.out] <;> rfl, by go_grown⟩
  · have G := HS.out
    rw [H1 0 (by omega), H1 1 (by omega), H2 2 (by omega) (by omega), H0 3 (by omega), full_eq] at G
    have K := Lib.hid G
    clear G HS H0 H1 H2
    go_enter Tryd.func71, Tryd.ntmps71
    go_wp2
    refine wp_loop_rounds 5 ?_
    iterate 5 rw [rounds_succ]; go_wp2
    go_returns
    exact ⟨by rw [K.out] <;> rfl, by go_grown⟩
  · have G := HS.out
    rw [H1 0 (by omega), H1 1 (by omega), H1 2 (by omega), H0 3 (by omega), full_eq] at G
    have K := Lib.hid G
    clear G HS H0 H1 H2
    go_enter Tryd.func71, Tryd.ntmps71
    go_wp2
    refine wp_loop_rounds 5 ?_
    iterate 5 rw [rounds_succ]; go_wp2
    go_returns
    exact ⟨by rw [K.out] <;> rfl, by go_grown⟩
  · have G := HS.out
    rw [H1 0 (by omega), H1 1 (by omega), H1 2 (by omega), H2 3 (by omega) (by omega), full_eq] at G
    have K := Lib.hid G
    clear G HS H0 H1 H2
    go_enter Tryd.func71, Tryd.ntmps71
    go_wp2
    refine wp_loop_rounds 5 ?_
    iterate 5 rw [rounds_succ]; go_wp2
    go_returns
    exact ⟨by rw [K.out] <;> rfl, by go_grown⟩
  · have G := HS.out
    rw [H1 0 (by omega), H1 1 (by omega), H1 2 (by omega), H1 3 (by omega), full_eq] at G
    have K := Lib.hid G
    clear G HS H0 H1 H2
    go_enter Tryd.func71, Tryd.ntmps71
    go_wp2
    refine wp_loop_rounds 5 ?_
    iterate 5 rw [rounds_succ]; go_wp2
    go_returns
    exact ⟨by rw [K.out] <;> rfl, by go_grown⟩
theorem below_any (n : Int) (h0 : 0 ≤ n) (hn : n ≤ 256) (w : World) :
    Calls Tryd.prog 71 #[.int .i64 n] w fun e w' => e = .returned (sv fun k => decide ((k : Int) < n)) ∧ Below w.heap.size w w' := by
  obtain ⟨m, rfl⟩ := Int.eq_ofNat_of_zero_le h0
  refine (below_nat m (by omega) w).mono fun e w' h => ⟨?_, h.2⟩
  rw [h.1]
  congr 2
  funext k
  simp
end Go.Proofs.YtjbmkbgoahppfaaDoor
