/-
  The walk of the reference's Range.
-/
import Derived.Test.YtligbocnakbabaaDoorRput
namespace Go.Proofs.YtligbocnakbabaaDoor
open Go.RowKit

/-- The numbers from lo on, below k. -/
def rg (lo k x : Nat) : Bool := decide (lo ≤ x) && decide (x < k)
theorem rg_put (lo k : Nat) (h : lo ≤ k) : put (rg lo k) k = rg lo (k + 1) := by
  funext x
  unfold put rg
  by_cases hx : x = k
  · subst hx; simp [h]
  · by_cases h1 : x < k
    · have : x < k + 1 := by omega
      simp [h1, this, hx]
    · have : ¬ x < k + 1 := by omega
      simp [h1, this, hx]
theorem rg_none (lo : Nat) : rg lo lo = fun _ => false := by
  funext x
  unfold rg
  by_cases h : lo ≤ x
  · have : ¬ x < lo := by omega
    simp [this]
  · simp [h]

set_option maxRecDepth 100000 in
set_option maxHeartbeats 4000000 in
theorem rrange_any (lo hi : Nat) (_ : lo < 256) (hhi : hi < 256) (w : World) :
    Calls Tryd.prog 16 #[.int .i64 (lo : Int), .int .i64 (hi : Int)] w fun e w' => e = .returned (sv fun k => decide (lo ≤ k) && decide (k ≤ hi)) ∧ Below w.heap.size w w' := by
  have s0 : isSet ((w.alloc (.cells #[.int .u64 0, .int .u64 0, .int .u64 0, .int .u64 0] 33)).alloc (.cells #[.int .u64 0, .int .u64 0, .int .u64 0, .int .u64 0] 33)) w.heap.size (fun _ => false) := (isSet.newNone w).alloc _
  have s1 : isSet ((w.alloc (.cells #[.int .u64 0, .int .u64 0, .int .u64 0, .int .u64 0] 33)).alloc (.cells #[.int .u64 0, .int .u64 0, .int .u64 0, .int .u64 0] 33)) (w.heap.size + 1) (rg lo lo) := by
    rw [rg_none]
    have := isSet.newNone (w.alloc (.cells #[.int .u64 0, .int .u64 0, .int .u64 0, .int .u64 0] 33))
    simpa only [World.size_alloc] using this
  have S0 := Lib.hid s0; have S1 := Lib.hid s1
  clear s0 s1
  go_enter Tryd.func16, Tryd.ntmps16
  go_wp2
  go_loopw [6] (fun i wr => ∃ k : Nat, lo ≤ k ∧ (k ≤ hi + 1 ∨ k = lo) ∧ i = .int .i64 k ∧ isSet wr w.heap.size (fun _ => false) ∧ isSet wr (w.heap.size + 1) (rg lo k) ∧ Below w.heap.size w wr) (fun i _ => 256 - (intOf i).toNat)
  case atStart => exact ⟨lo, Nat.le_refl _, .inr rfl, rfl, S0.out, S1.out, ((Below.refl _ _).alloc (Nat.le_refl _) _).alloc (by simp) _⟩
  case round =>
    obtain ⟨k, hk, hk2, rfl, b0, b1, hB⟩ := hrel
    clear S0 S1
    have l0 := b0.lt; have l1 := b1.lt
    obtain ⟨q0, q1, q2, q3⟩ := b1.cells
    by_cases hlt : k ≤ hi
    · go_wp2_with fail
      refine (rput_any (rg lo k) k (by omega) (by omega) _).mono ?_
      rw [Int.toNat_natCast, rg_put lo k hk]
      rintro e wp ⟨rfl, hb⟩
      have d0 := b0.below hb l0; have d1 := b1.below hb l1
      have hR2 : Below w.heap.size w wp := hB.trans (hb.mono hB.size)
      clear b0 b1 hB hb q0 q1 q2 q3
      obtain ⟨q0, q1, q2, q3⟩ := d1.cells
      obtain ⟨r0, r1, r2, r3⟩ := d1.free
      have z0 := d0.other4 (c := w.heap.size + 1) (by omega) (.int .u64 (wd (rg lo (k + 1)) 0 : Int)) (.int .u64 (wd (rg lo (k + 1)) 1 : Int)) (.int .u64 (wd (rg lo (k + 1)) 2 : Int)) (.int .u64 (wd (rg lo (k + 1)) 3 : Int))
      have z1 := d1.stored (rg lo (k + 1))
      have hR3 := below_set4 (c := w.heap.size + 1) hR2 (by omega) (.int .u64 (wd (rg lo (k + 1)) 0 : Int)) (.int .u64 (wd (rg lo (k + 1)) 1 : Int)) (.int .u64 (wd (rg lo (k + 1)) 2 : Int)) (.int .u64 (wd (rg lo (k + 1)) 3 : Int))
      clear d0 d1 hR2
      go_wp2
      go_roundw
      case rel => exact ⟨k + 1, by omega, .inl (by omega), by go_num, z0, z1, hR3⟩
      case measure => simp [intOf]; omega
    · have hsv : Hid (sv (rg lo k) = sv (fun x => decide (lo ≤ x) && decide (x ≤ hi))) := sv_congr fun x _ => by
        unfold rg
        by_cases h1 : lo ≤ x
        · by_cases h2 : x ≤ hi
          · have : x < k := by omega
            simp [h1, h2, this]
          · have : ¬ x < k := by omega
            simp [h1, h2, this]
        · simp [h1]
      obtain ⟨q4, q5, q6, q7⟩ := b0.cells
      obtain ⟨r0, r1, r2, r3⟩ := b0.free
      have hR3 := below_set4 (c := w.heap.size) hB (Nat.le_refl _) (.int .u64 (wd (rg lo k) 0 : Int)) (.int .u64 (wd (rg lo k) 1 : Int)) (.int .u64 (wd (rg lo k) 2 : Int)) (.int .u64 (wd (rg lo k) 3 : Int))
      have z2 := (b0.stored (rg lo k)).cells
      clear hB b0 b1
      go_wp2
      refine bodyPost_ret (v := sv (rg lo k)) (by simp [results, Tryd.results16, go_sem, z2]) rfl ⟨by rw [hsv.out] <;> rfl, hR3⟩

theorem rrange_int (lo hi : Int) (h0 : 0 ≤ lo) (h1 : lo < 256) (h2 : 0 ≤ hi) (h3 : hi < 256) (w : World) :
    Calls Tryd.prog 16 #[.int .i64 lo, .int .i64 hi] w fun e w' => e = .returned (sv fun k => decide (lo.toNat ≤ k) && decide (k ≤ hi.toNat)) ∧ Below w.heap.size w w' := by
  obtain ⟨a, rfl⟩ := Int.eq_ofNat_of_zero_le h0
  obtain ⟨b, rfl⟩ := Int.eq_ofNat_of_zero_le h2
  exact rrange_any a b (by omega) (by omega) w
end Go.Proofs.YtligbocnakbabaaDoor
