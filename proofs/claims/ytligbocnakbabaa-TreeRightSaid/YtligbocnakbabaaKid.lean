/-
  The walk of Kids: the last nodes of a node's arguments.
-/
import Derived.Test.YtligbocnakbabaaFst
namespace Go.Proofs.Ytligbocnakbabaa
open Go.RowKit

/-- A node whose part begins somewhere: what its arguments are. -/
theorem kids_back {N : Nat → Nd} {i : Nat} (h : 0 ≤ fst N i) : (ar (N i).k = 0 ∧ kids N i = [] ∧ fst N i = i) ∨
    (ar (N i).k = 1 ∧ 0 < i ∧ kids N i = [(i : Int) - 1] ∧ fst N i = fst N (i - 1) ∧ 0 ≤ fst N (i - 1)) ∨
    (ar (N i).k = 2 ∧ ∃ f : Nat, 0 < f ∧ f + 1 ≤ i ∧ fst N (i - 1) = f ∧ kids N i = [(f : Int) - 1, (i : Int) - 1] ∧ fst N i = fst N (f - 1) ∧ 0 ≤ fst N (f - 1)) := by
  rw [fst_eq] at h
  have e := fst_eq N i
  rcases ar_cases (N i).k with ⟨ha, -⟩ | ⟨ha, -⟩ | ⟨ha, -⟩ | ⟨ha, -⟩
  · rw [ha] at h e; simp [back_zero] at e
    exact .inl ⟨ha, by simp [kids, ha], e⟩
  · rw [ha] at h e
    rw [if_neg (by omega)] at h e
    have hi : 0 < i := by
      rcases Nat.eq_zero_or_pos i with rfl | h0
      · rw [show ((1 : Int).toNat) = 0 + 1 from rfl, back_none] at h; omega
      · exact h0
    have e1 : fst N (i - 1) = back N i 1 := by unfold fst; rw [show i - 1 + 1 = i by omega]
    refine .inr (.inl ⟨ha, hi, by simp [kids, ha], ?_, ?_⟩)
    · rw [e, e1]; rfl
    · rw [e1]; exact h
  · rw [ha] at h e
    rw [if_neg (by omega)] at h e
    have hi : 0 < i := by
      rcases Nat.eq_zero_or_pos i with rfl | h0
      · rw [show ((2 : Int).toNat) = 1 + 1 from rfl, back_none] at h; omega
      · exact h0
    have hs : back N i (Int.toNat 2) = if fst N (i - 1) < 0 then -1 else back N (fst N (i - 1)).toNat 1 := by
      have := back_step N (i - 1) 1
      rwa [show i - 1 + 1 = i by omega] at this
    rw [hs] at h e
    have hb := fst_bd N (i - 1)
    by_cases h0 : fst N (i - 1) < 0
    · rw [if_pos h0] at h; omega
    · rw [if_neg h0] at h e
      obtain ⟨f, hf⟩ : ∃ f : Nat, fst N (i - 1) = f := ⟨(fst N (i - 1)).toNat, by omega⟩
      rw [hf] at h e
      simp only [Int.toNat_natCast] at h e
      have hf0 : 0 < f := by
        rcases Nat.eq_zero_or_pos f with rfl | h0
        · rw [back_none] at h; omega
        · exact h0
      have e1 : fst N (f - 1) = back N f 1 := by unfold fst; rw [show f - 1 + 1 = f by omega]
      exact .inr (.inr ⟨ha, f, hf0, by omega, hf, by simp [kids, ha, hf], by rw [e, e1], by rw [e1]; exact h⟩)
  · rw [ha] at h; simp at h

theorem mk0 : ∀ w, (Instr.makeSlice 29 (.int .i64 0) (.int .i64 0)).run Try.prog w = .ok (.slice (some ⟨w.heap.size, 0, none⟩) 0 0) (w.alloc (.cells #[] 3)) := fun _ => by kernel_rfl
theorem mk1 : ∀ w, (Instr.makeSlice 29 (.int .i64 1) (.int .i64 1)).run Try.prog w = .ok (.slice (some ⟨w.heap.size, 0, none⟩) 1 1) (w.alloc (.cells #[.int .i64 0] 3)) := fun _ => by kernel_rfl
theorem mk2 : ∀ w, (Instr.makeSlice 29 (.int .i64 2) (.int .i64 2)).run Try.prog w = .ok (.slice (some ⟨w.heap.size, 0, none⟩) 2 2) (w.alloc (.cells #[.int .i64 0, .int .i64 0] 3)) := fun _ => by kernel_rfl

theorem kids_out (p : Option Addr) (n cap : Nat) (i : Int) (h : i < 0 ∨ (n : Int) ≤ i) (w : World) :
    Calls Try.prog 14 #[.slice p n cap, .int .i64 i] w fun e w' => e = .returned (.slice none 0 0) ∧ w = w' := by
  go_enter Try.func14, Try.ntmps14
  go_wp2_with (go_at_call 16; refine (first_out _ _ _ _ h _).mono ?_; rintro e w' ⟨rfl, rfl⟩)
  go_ret
  exact ⟨rfl, rfl⟩
theorem kids_not (b off n cap i : Nat) (N : Nat → Nd) (hn : n ≤ 1000) (hi : i < n) (hf : fst N i < 0) (w : World) (hr : rdN w b off n N) :
    Calls Try.prog 14 #[.slice (some ⟨b, off, none⟩) n cap, .int .i64 (i : Int)] w fun e w' => e = .returned (.slice none 0 0) ∧ w = w' := by
  go_enter Try.func14, Try.ntmps14
  go_wp2_with (go_at_call 16; refine (first_in _ _ _ _ _ _ hn hi _ hr).mono ?_; rintro e w' ⟨rfl, rfl⟩)
  go_ret
  exact ⟨rfl, rfl⟩

set_option maxHeartbeats 1000000 in
theorem kids_is (b off n cap i : Nat) (N : Nat → Nd) (hn : n ≤ 1000) (hi : i < n) (hf : 0 ≤ fst N i) (w : World) (hr : rdN w b off n N) :
    Calls Try.prog 14 #[.slice (some ⟨b, off, none⟩) n cap, .int .i64 (i : Int)] w fun e w' => ∃ v, e = .returned v ∧ rdI w' v (kids N i) ∧ Below w.heap.size w w' := by
  have hc := (hr i hi).2.1
  have hb := (hr i hi).1
  have h0 : (0 : Int) ≤ (i : Int) := by omega
  have h1 : (i : Int) < (n : Int) := by omega
  have t0 : decide (fst N i < 0) = false := decide_eq_false (by omega)
  have HR := Lib.hid hr
  clear hr
  have hib : (i : Int) < 1000 := by omega
  rcases kids_back hf with ⟨ha, hk, -⟩ | ⟨ha, hi0, hk, -, hg⟩ | ⟨ha, f, hf0, hfi, hff, hk, -, hg⟩
  · have HA := Lib.hid ha; have HK := Lib.hid hk
    have hmk := mk0
    clear ha hk
    go_enter Try.func14, Try.ntmps14
    go_wp2_with fail
    refine (first_in _ _ _ _ _ _ hn hi _ HR.out).mono ?_; rintro e w' ⟨rfl, rfl⟩
    go_wp2_with fail
    refine (args_any _ _).mono ?_; rintro e w' ⟨rfl, rfl⟩; rw [HA.out]
    go_wp2_with fail
    refine wp_loop_rounds 1 ?_
    rw [rounds_succ]; go_wp2
    go_ret
    exact ⟨_, rfl, by rw [HK.out]; exact .inl ⟨_, _, rfl, rfl⟩, (Below.refl _ _).alloc (Nat.le_refl _) _⟩
  · have HA := Lib.hid ha; have HK := Lib.hid hk
    have hmk := mk1
    clear ha hk
    obtain ⟨j, rfl⟩ : ∃ j, i = j + 1 := ⟨i - 1, by omega⟩
    go_enter Try.func14, Try.ntmps14
    go_wp2_with fail
    refine (first_in _ _ _ _ _ _ hn hi _ HR.out).mono ?_; rintro e w' ⟨rfl, rfl⟩
    go_wp2_with fail
    refine (args_any _ _).mono ?_; rintro e w' ⟨rfl, rfl⟩; rw [HA.out]
    go_wp2_with fail
    refine wp_loop_rounds 2 ?_
    rw [rounds_succ]; go_wp2_with fail
    refine (first_in b off n cap j N hn (by omega) _ ?hx).mono ?_
    case hx => exact HR.out.below (by go_grown)
    rintro e w' ⟨rfl, rfl⟩
    go_wp2
    rw [rounds_succ]; go_wp2
    go_ret
    refine ⟨_, rfl, ?_, by go_grown⟩
    rw [HK.out]
    refine .inr ⟨_, _, rfl, by simp, fun j' hj => ?_⟩
    obtain rfl : j' = 0 := by simpa using hj
    simp [go_sem]
  · have HA := Lib.hid ha; have HK := Lib.hid hk; have HF := Lib.hid hff
    have hmk := mk2
    clear ha hk hff
    obtain ⟨j, rfl⟩ : ∃ j, i = j + 1 := ⟨i - 1, by omega⟩
    obtain ⟨q, rfl⟩ : ∃ q, f = q + 1 := ⟨f - 1, by omega⟩
    go_enter Try.func14, Try.ntmps14
    go_wp2_with fail
    refine (first_in _ _ _ _ _ _ hn hi _ HR.out).mono ?_; rintro e w' ⟨rfl, rfl⟩
    go_wp2_with fail
    refine (args_any _ _).mono ?_; rintro e w' ⟨rfl, rfl⟩; rw [HA.out]
    go_wp2_with fail
    refine wp_loop_rounds 3 ?_
    rw [rounds_succ]; go_wp2_with fail
    refine (first_in b off n cap j N hn (by omega) _ ?hx).mono ?_
    case hx => exact HR.out.below (by go_grown)
    rintro e w' ⟨rfl, rfl⟩
    rw [show fst N j = ((q + 1 : Nat) : Int) from HF.out]
    go_wp2_with fail
    rw [rounds_succ]; go_wp2_with fail
    refine (first_in b off n cap q N hn (by omega) _ ?hy).mono ?_
    case hy => exact HR.out.below (by go_grown)
    rintro e w' ⟨rfl, rfl⟩
    go_wp2
    rw [rounds_succ]; go_wp2
    go_ret
    refine ⟨_, rfl, ?_, by go_grown⟩
    rw [HK.out]
    refine .inr ⟨_, _, rfl, by simp, fun j' hj => ?_⟩
    have hj' : j' = 0 ∨ j' = 1 := by simp at hj; omega
    rcases hj' with rfl | rfl <;> simp [go_sem]
end Go.Proofs.Ytligbocnakbabaa
