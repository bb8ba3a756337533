/-
  The walk of the second reference's Class, for any name.
-/
import Derived.Test.YtligbocnakbabaaDoorResc
namespace Go.Proofs.YtligbocnakbabaaDoor
open Go.RowKit

theorem isL_lit (s : ByteArray) (l : List UInt8) (hl : s.toList = l) (k : Nat) (w : World) : Calls Tryd.prog 47 #[.string s, .int .i64 (k : Int)] w fun e w' => e = .returned (.tuple #[.bool (isB l k), .bool (isN l)]) ∧ w = w' := by
  subst hl
  exact (is_any _ k w).mono fun e w' h => ⟨h.1, h.2⟩
theorem isL_zero (s : ByteArray) (l : List UInt8) (hl : s.toList = l) (w : World) : Calls Tryd.prog 47 #[.string s, .int .i64 0] w fun e w' => e = .returned (.tuple #[.bool (isB l 0), .bool (isN l)]) ∧ w = w' := isL_lit s l hl 0 w

set_option maxRecDepth 100000 in
set_option maxHeartbeats 4000000 in
theorem rclass_any (s : ByteArray) (l : List UInt8) (hl0 : s.toList = l) (w : World) :
    Calls Tryd.prog 44 #[.string s] w fun e w' => e = .returned (.tuple #[sv (isB l), .bool (isN l)]) ∧ Below w.heap.size w w' := by
  have S0 := Lib.hid ((isSet.newNone w).alloc (.cells #[.int .u64 0, .int .u64 0, .int .u64 0, .int .u64 0] 33))
  have S1 := Lib.hid (isSet.newNone (w.alloc (.cells #[.int .u64 0, .int .u64 0, .int .u64 0, .int .u64 0] 33)))
  have HL := Lib.hid hl0
  clear hl0
  go_enter Tryd.func44, Tryd.ntmps44
  go_wp2_with fail
  refine (isL_zero s l HL.out _).mono ?_
  rintro e wz ⟨rfl, rfl⟩
  go_wp2
  go_loopw [7] (fun i wr => ∃ k : Nat, k ≤ 256 ∧ i = .int .i64 k ∧ isSet wr w.heap.size (fun _ => false) ∧ isSet wr (w.heap.size + 1) (upK (isB l) k) ∧ Below w.heap.size w wr) (fun i _ => 256 - (intOf i).toNat)
  case atStart => exact ⟨0, Nat.zero_le _, rfl, S0.out, by rw [upK_zero]; have := S1.out; rw [World.size_alloc] at this; exact this, ((Below.refl _ _).alloc (Nat.le_refl _) _).alloc (by simp) _⟩
  case round =>
    obtain ⟨k, hk, rfl, b0, b1, hBw⟩ := hrel
    clear S0 S1
    have l0 := b0.lt; have l1 := b1.lt
    by_cases hlt : k < 256
    · obtain ⟨p0, p1, p2, p3⟩ := b1.cells
      cases hF : isB l k
      · have HS := Lib.hid (upK_out (isB l) k hF)
        have HF := Lib.hid hF
        clear hF
        go_wp2_with (go_at_call 47; (with_reducible refine (isL_lit s l HL.out k _).mono ?_); rw [HF.out]; rintro e wc ⟨rfl, rfl⟩)
        go_roundw
        case rel => exact ⟨k + 1, by omega, by go_num, b0, by rw [HS.out]; exact b1, hBw⟩
        case measure => simp [intOf]; omega
      · have HS := Lib.hid (upK_in (isB l) k hF)
        have HF := Lib.hid hF
        clear hF
        go_wp2_with (first | (go_at_call 47; (with_reducible refine (isL_lit s l HL.out k _).mono ?_); rw [HF.out]; rintro e wc ⟨rfl, rfl⟩) | (go_at_call 29; (with_reducible refine (put_lit (upK (isB l) k) _ k rfl hlt _).mono ?_); rw [HS.out]; rintro e wd1 ⟨rfl, hb⟩; have d1 := b1.below hb l1; obtain ⟨r0, r1, r2, r3⟩ := d1.free; clear p0 p1 p2 p3; obtain ⟨p0, p1, p2, p3⟩ := d1.cells; have d0 := b0.below hb l0; have hBd := hBw.trans (hb.mono hBw.size); clear hb))
        have z0 := d0.other4 (c := w.heap.size + 1) (by omega) (.int .u64 (wd (upK (isB l) (k + 1)) 0 : Int)) (.int .u64 (wd (upK (isB l) (k + 1)) 1 : Int)) (.int .u64 (wd (upK (isB l) (k + 1)) 2 : Int)) (.int .u64 (wd (upK (isB l) (k + 1)) 3 : Int))
        have z1 := d1.stored (upK (isB l) (k + 1))
        have hR := below_set4 (c := w.heap.size + 1) hBd (by omega) (.int .u64 (wd (upK (isB l) (k + 1)) 0 : Int)) (.int .u64 (wd (upK (isB l) (k + 1)) 1 : Int)) (.int .u64 (wd (upK (isB l) (k + 1)) 2 : Int)) (.int .u64 (wd (upK (isB l) (k + 1)) 3 : Int))
        go_roundw
        case rel => exact ⟨k + 1, by omega, by go_num, z0, z1, hR⟩
        case measure => simp [intOf]; omega
    · obtain rfl : k = 256 := by omega
      have c1 := b1.all
      clear b1
      obtain ⟨q0, q1, q2, q3⟩ := c1.cells
      obtain ⟨q4, q5, q6, q7⟩ := b0.cells
      obtain ⟨r0, r1, r2, r3⟩ := b0.free
      have HR := Lib.hid (below_set4 (c := w.heap.size) hBw (Nat.le_refl _) (.int .u64 (wd (isB l) 0 : Int)) (.int .u64 (wd (isB l) 1 : Int)) (.int .u64 (wd (isB l) 2 : Int)) (.int .u64 (wd (isB l) 3 : Int)))
      have Z := Lib.hid (b0.stored (isB l)).cells
      clear b0 c1 hBw
      go_wp2
      refine bodyPost_ret (v := .tuple #[sv (isB l), .bool (isN l)]) (by simp [results, Tryd.results44, go_sem, Z.out]) rfl ⟨rfl, HR.out⟩
end Go.Proofs.YtligbocnakbabaaDoor
