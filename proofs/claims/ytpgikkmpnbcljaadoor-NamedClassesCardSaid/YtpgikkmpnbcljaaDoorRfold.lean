/-
  The walks of the second reference's upper, lower, digit and Fold.
-/
import Derived.Test.YtpgikkmpnbcljaaDoorFoldm
namespace Go.Proofs.YtpgikkmpnbcljaaDoor
open Go.RowKit

set_option maxHeartbeats 1000000 in
theorem upper_any (k : Nat) (w : World) : Calls Tryd.prog 31 #[.int .i64 (k : Int)] w fun e w' => e = .returned (.bool (upB k)) ∧ w = w' := by
  rcases Nat.lt_or_ge k 65 with h | h
  · have h1 : decide ((65 : Int) ≤ (k : Int)) = false := by simp; omega
    have hz : upB k = false := by unfold upB; simp; omega
    have HZ := Lib.hid hz
    clear hz
    go_enter Tryd.func31, Tryd.ntmps31
    go_wp2
    go_ret
    exact ⟨by rw [HZ.out]; rfl, rfl⟩
  · have h1 : decide ((65 : Int) ≤ (k : Int)) = true := by simp; omega
    rcases Nat.lt_or_ge 90 k with h' | h'
    · have h2 : decide ((k : Int) ≤ 90) = false := by simp; omega
      have hz : upB k = false := by unfold upB; simp; omega
      have HZ := Lib.hid hz
      clear hz
      go_enter Tryd.func31, Tryd.ntmps31
      go_wp2
      go_ret
      exact ⟨by rw [HZ.out]; rfl, rfl⟩
    · have h2 : decide ((k : Int) ≤ 90) = true := by simp; omega
      have hz : upB k = true := by unfold upB; simp; omega
      have HZ := Lib.hid hz
      clear hz
      go_enter Tryd.func31, Tryd.ntmps31
      go_wp2
      go_ret
      exact ⟨by rw [HZ.out]; rfl, rfl⟩

set_option maxHeartbeats 1000000 in
theorem lower_any (k : Nat) (w : World) : Calls Tryd.prog 32 #[.int .i64 (k : Int)] w fun e w' => e = .returned (.bool (loB k)) ∧ w = w' := by
  rcases Nat.lt_or_ge k 97 with h | h
  · have h1 : decide ((97 : Int) ≤ (k : Int)) = false := by simp; omega
    have hz : loB k = false := by unfold loB; simp; omega
    have HZ := Lib.hid hz
    clear hz
    go_enter Tryd.func32, Tryd.ntmps32
    go_wp2
    go_ret
    exact ⟨by rw [HZ.out]; rfl, rfl⟩
  · have h1 : decide ((97 : Int) ≤ (k : Int)) = true := by simp; omega
    rcases Nat.lt_or_ge 122 k with h' | h'
    · have h2 : decide ((k : Int) ≤ 122) = false := by simp; omega
      have hz : loB k = false := by unfold loB; simp; omega
      have HZ := Lib.hid hz
      clear hz
      go_enter Tryd.func32, Tryd.ntmps32
      go_wp2
      go_ret
      exact ⟨by rw [HZ.out]; rfl, rfl⟩
    · have h2 : decide ((k : Int) ≤ 122) = true := by simp; omega
      have hz : loB k = true := by unfold loB; simp; omega
      have HZ := Lib.hid hz
      clear hz
      go_enter Tryd.func32, Tryd.ntmps32
      go_wp2
      go_ret
      exact ⟨by rw [HZ.out]; rfl, rfl⟩

set_option maxHeartbeats 1000000 in
theorem digit_any (k : Nat) (w : World) : Calls Tryd.prog 27 #[.int .i64 (k : Int)] w fun e w' => e = .returned (.bool (diB k)) ∧ w = w' := by
  rcases Nat.lt_or_ge k 48 with h | h
  · have h1 : decide ((48 : Int) ≤ (k : Int)) = false := by simp; omega
    have hz : diB k = false := by unfold diB; simp; omega
    have HZ := Lib.hid hz
    clear hz
    go_enter Tryd.func27, Tryd.ntmps27
    go_wp2
    go_ret
    exact ⟨by rw [HZ.out]; rfl, rfl⟩
  · have h1 : decide ((48 : Int) ≤ (k : Int)) = true := by simp; omega
    rcases Nat.lt_or_ge 57 k with h' | h'
    · have h2 : decide ((k : Int) ≤ 57) = false := by simp; omega
      have hz : diB k = false := by unfold diB; simp; omega
      have HZ := Lib.hid hz
      clear hz
      go_enter Tryd.func27, Tryd.ntmps27
      go_wp2
      go_ret
      exact ⟨by rw [HZ.out]; rfl, rfl⟩
    · have h2 : decide ((k : Int) ≤ 57) = true := by simp; omega
      have hz : diB k = true := by unfold diB; simp; omega
      have HZ := Lib.hid hz
      clear hz
      go_enter Tryd.func27, Tryd.ntmps27
      go_wp2
      go_ret
      exact ⟨by rw [HZ.out]; rfl, rfl⟩

theorem rhas_lit (f : Nat → Bool) (b : Nat) (hn : b < 256) (w : World) : Calls Tryd.prog 30 #[svr f, .int .i64 (b : Int)] w fun e w' => e = .returned (.bool (f b)) ∧ Below w.heap.size w w' := rhas_any f b (by omega) (by omega) w
theorem put_lit (f : Nat → Bool) (z : Int) (c : Nat) (h : z = (c : Int)) (hn : c < 256) (w : World) : Calls Tryd.prog 22 #[svr f, .int .i64 z] w fun e w' => e = .returned (sv (put f c)) ∧ Below w.heap.size w w' := by
  subst h
  refine (rput_any f c (by omega) (by omega) w).mono ?_
  rw [Int.toNat_natCast]
  exact fun _ _ h => h
theorem rfK_out (f : Nat → Bool) (k : Nat) (h : f k = false) : rfK f (k + 1) = rfK f k := by funext b; simp [rfK, h]
theorem rfK_up (f : Nat → Bool) (k : Nat) (h : f k = true) (h1 : upB k = true) : rfK f (k + 1) = put (rfK f k) (k + 32) := by simp [rfK, h, h1]
theorem rfK_lo (f : Nat → Bool) (k : Nat) (h : f k = true) (h1 : upB k = false) (h2 : loB k = true) : rfK f (k + 1) = put (rfK f k) (k - 32) := by simp [rfK, h, h1, h2]
theorem rfK_no (f : Nat → Bool) (k : Nat) (h : f k = true) (h1 : upB k = false) (h2 : loB k = false) : rfK f (k + 1) = rfK f k := by simp [rfK, h, h1, h2]
theorem up_bd (k : Nat) (h : upB k = true) : 65 ≤ k ∧ k ≤ 90 := by simpa [upB] using h
theorem lo_bd (k : Nat) (h : loB k = true) : 97 ≤ k ∧ k ≤ 122 := by simpa [loB] using h
theorem up_not_lo (k : Nat) (h : upB k = true) : loB k = false := by
  have := up_bd k h
  unfold loB
  simp; omega

/-- The state of the loop of the reference's Fold. -/
def rfR (f : Nat → Bool) (w : World) (k : Nat) (wr : World) : Prop :=
  isSet wr w.heap.size f ∧ isSet wr (w.heap.size + 1) (fun _ => false) ∧ isSet wr (w.heap.size + 1 + 1) (rfK f k) ∧ Below w.heap.size w wr
set_option maxRecDepth 100000 in
set_option maxHeartbeats 8000000 in
theorem rfold_any (f : Nat → Bool) (w : World) :
    Calls Tryd.prog 16 #[sv f] w fun e w' => e = .returned (sv (foldF f)) ∧ Below w.heap.size w w' := by
  have h0 : rfR f w 0 (((w.alloc (.cells #[.int .u64 (wd f 0 : Int), .int .u64 (wd f 1 : Int), .int .u64 (wd f 2 : Int), .int .u64 (wd f 3 : Int)] 25)).alloc (.cells #[.int .u64 0, .int .u64 0, .int .u64 0, .int .u64 0] 25)).alloc (.cells #[.int .u64 (wd f 0 : Int), .int .u64 (wd f 1 : Int), .int .u64 (wd f 2 : Int), .int .u64 (wd f 3 : Int)] 25)) := by
    have e1 := isSet.newNone (w.alloc (.cells #[.int .u64 (wd f 0 : Int), .int .u64 (wd f 1 : Int), .int .u64 (wd f 2 : Int), .int .u64 (wd f 3 : Int)] 25))
    have e2 := isSet.new ((w.alloc (.cells #[.int .u64 (wd f 0 : Int), .int .u64 (wd f 1 : Int), .int .u64 (wd f 2 : Int), .int .u64 (wd f 3 : Int)] 25)).alloc (.cells #[.int .u64 0, .int .u64 0, .int .u64 0, .int .u64 0] 25)) f
    simp only [World.size_alloc] at e1 e2
    exact ⟨((isSet.new w f).alloc _).alloc _, e1.alloc _, e2, (((Below.refl _ _).alloc (Nat.le_refl _) _).alloc (by simp) _).alloc (by simp; omega) _⟩
  have H0 := Lib.hid h0
  clear h0
  unfold sv
  go_enter Tryd.func16, Tryd.ntmps16
  go_wp2
  go_loopw [4] (fun i wr => ∃ k : Nat, k ≤ 256 ∧ i = .int .i64 k ∧ rfR f w k wr) (fun i _ => 256 - (intOf i).toNat)
  case atStart => exact ⟨0, Nat.zero_le _, rfl, H0.out⟩
  case round =>
    obtain ⟨k, hk, rfl, b0, b1, b2, hBw⟩ := hrel
    clear H0
    have l0 := b0.lt; have l1 := b1.lt; have l2 := b2.lt
    by_cases hlt : k < 256
    · obtain ⟨p0, p1, p2, p3⟩ := b0.cells
      cases hf : f k
      · have HF := Lib.hid hf
        clear hf
        go_wp2_with (go_at_call 30; (with_reducible refine (rhas_lit f k hlt _).mono ?_); rw [HF.out]; rintro e wa ⟨rfl, hb⟩)
        go_roundw
        case rel => exact ⟨k + 1, by omega, by go_num, b0.below hb l0, b1.below hb l1, by rw [rfK_out f k HF.out]; exact b2.below hb l2, hBw.trans (hb.mono hBw.size)⟩
        case measure => simp [intOf]; omega
      · have HF := Lib.hid hf
        clear hf
        go_wp2_with fail
        refine (rhas_lit f k hlt _).mono ?_
        rw [HF.out]
        rintro e wa ⟨rfl, hb⟩
        have c0 := b0.below hb l0; have c1 := b1.below hb l1; have c2 := b2.below hb l2
        have hBa := hBw.trans (hb.mono hBw.size)
        clear b0 b1 b2 hBw hb p0 p1 p2 p3
        have l3 := c0.lt; have l4 := c1.lt; have l5 := c2.lt
        obtain ⟨p0, p1, p2, p3⟩ := c2.cells
        cases hu : upB k
        · cases hl : loB k
          · have HU := Lib.hid hu; have HL := Lib.hid hl
            clear hu hl
            go_wp2_with (first | (go_at_call 31; (with_reducible refine (upper_any k _).mono ?_); rw [HU.out]; rintro e wc ⟨rfl, rfl⟩) | (go_at_call 32; (with_reducible refine (lower_any k _).mono ?_); rw [HL.out]; rintro e wc ⟨rfl, rfl⟩))
            go_roundw
            case rel => exact ⟨k + 1, by omega, by go_num, c0, c1, by rw [rfK_no f k HF.out HU.out HL.out]; exact c2, hBa⟩
            case measure => simp [intOf]; omega
          · have HU := Lib.hid hu; have HL := Lib.hid hl
            have hbd := lo_bd k hl
            obtain ⟨hb1, hb2⟩ := hbd
            have HS := Lib.hid (rfK_lo f k HF.out hu hl)
            clear hu hl
            go_wp2_with (first | (go_at_call 31; (with_reducible refine (upper_any k _).mono ?_); rw [HU.out]; rintro e wc ⟨rfl, rfl⟩) | (go_at_call 32; (with_reducible refine (lower_any k _).mono ?_); rw [HL.out]; rintro e wc ⟨rfl, rfl⟩) | (go_at_call 22; (with_reducible refine (put_lit (rfK f k) _ (k - 32) (by omega) (by omega) _).mono ?_); rw [← HS.out]; rintro e wd1 ⟨rfl, hb⟩; have d2 := c2.below hb l5; obtain ⟨r0, r1, r2, r3⟩ := d2.free; clear p0 p1 p2 p3; obtain ⟨p0, p1, p2, p3⟩ := d2.cells; have d0 := c0.below hb l3; have d1 := c1.below hb l4; have hBd := hBa.trans (hb.mono hBa.size); clear hb))
            have z0 := d0.other4 (c := w.heap.size + 1 + 1) (by omega) (.int .u64 (wd (rfK f (k + 1)) 0 : Int)) (.int .u64 (wd (rfK f (k + 1)) 1 : Int)) (.int .u64 (wd (rfK f (k + 1)) 2 : Int)) (.int .u64 (wd (rfK f (k + 1)) 3 : Int))
            have z1 := d1.other4 (c := w.heap.size + 1 + 1) (by omega) (.int .u64 (wd (rfK f (k + 1)) 0 : Int)) (.int .u64 (wd (rfK f (k + 1)) 1 : Int)) (.int .u64 (wd (rfK f (k + 1)) 2 : Int)) (.int .u64 (wd (rfK f (k + 1)) 3 : Int))
            have z2 := d2.stored (rfK f (k + 1))
            have hR := below_set4 (c := w.heap.size + 1 + 1) hBd (by omega) (.int .u64 (wd (rfK f (k + 1)) 0 : Int)) (.int .u64 (wd (rfK f (k + 1)) 1 : Int)) (.int .u64 (wd (rfK f (k + 1)) 2 : Int)) (.int .u64 (wd (rfK f (k + 1)) 3 : Int))
            go_roundw
            case rel => exact ⟨k + 1, by omega, by go_num, z0, z1, z2, hR⟩
            case measure => simp [intOf]; omega
        · have HU := Lib.hid hu; have HL := Lib.hid (up_not_lo k hu)
          have hbd := up_bd k hu
          obtain ⟨hb1, hb2⟩ := hbd
          have HS := Lib.hid (rfK_up f k HF.out hu)
          clear hu
          go_wp2_with (first | (go_at_call 31; (with_reducible refine (upper_any k _).mono ?_); rw [HU.out]; rintro e wc ⟨rfl, rfl⟩) | (go_at_call 32; (with_reducible refine (lower_any k _).mono ?_); rw [HL.out]; rintro e wc ⟨rfl, rfl⟩) | (go_at_call 22; (with_reducible refine (put_lit (rfK f k) _ (k + 32) (by omega) (by omega) _).mono ?_); rw [← HS.out]; rintro e wd1 ⟨rfl, hb⟩; have d2 := c2.below hb l5; obtain ⟨r0, r1, r2, r3⟩ := d2.free; clear p0 p1 p2 p3; obtain ⟨p0, p1, p2, p3⟩ := d2.cells; have d0 := c0.below hb l3; have d1 := c1.below hb l4; have hBd := hBa.trans (hb.mono hBa.size); clear hb))
          have z0 := d0.other4 (c := w.heap.size + 1 + 1) (by omega) (.int .u64 (wd (rfK f (k + 1)) 0 : Int)) (.int .u64 (wd (rfK f (k + 1)) 1 : Int)) (.int .u64 (wd (rfK f (k + 1)) 2 : Int)) (.int .u64 (wd (rfK f (k + 1)) 3 : Int))
          have z1 := d1.other4 (c := w.heap.size + 1 + 1) (by omega) (.int .u64 (wd (rfK f (k + 1)) 0 : Int)) (.int .u64 (wd (rfK f (k + 1)) 1 : Int)) (.int .u64 (wd (rfK f (k + 1)) 2 : Int)) (.int .u64 (wd (rfK f (k + 1)) 3 : Int))
          have z2 := d2.stored (rfK f (k + 1))
          have hR := below_set4 (c := w.heap.size + 1 + 1) hBd (by omega) (.int .u64 (wd (rfK f (k + 1)) 0 : Int)) (.int .u64 (wd (rfK f (k + 1)) 1 : Int)) (.int .u64 (wd (rfK f (k + 1)) 2 : Int)) (.int .u64 (wd (rfK f (k + 1)) 3 : Int))
          go_roundw
          case rel => exact ⟨k + 1, by omega, by go_num, z0, z1, z2, hR⟩
          case measure => simp [intOf]; omega
    · obtain rfl : k = 256 := by omega
      have hall : rfK f 256 = foldF f := funext fun b => rfK_all f b
      rw [hall] at b2
      clear hall
      obtain ⟨q0, q1, q2, q3⟩ := b2.cells
      obtain ⟨q4, q5, q6, q7⟩ := b1.cells
      obtain ⟨r0, r1, r2, r3⟩ := b1.free
      have HR := Lib.hid (below_set4 (c := w.heap.size + 1) hBw (by omega) (.int .u64 (wd (foldF f) 0 : Int)) (.int .u64 (wd (foldF f) 1 : Int)) (.int .u64 (wd (foldF f) 2 : Int)) (.int .u64 (wd (foldF f) 3 : Int)))
      have Z := Lib.hid (b1.stored (foldF f)).cells
      clear b0 b1 b2 hBw
      go_wp2
      refine bodyPost_ret (v := sv (foldF f)) (by simp [results, Tryd.results16, go_sem, Z.out]) rfl ⟨rfl, HR.out⟩
end Go.Proofs.YtpgikkmpnbcljaaDoor
