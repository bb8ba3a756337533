/-
  The walks of the second reference's Escape, a theorem a branch.
-/
import Derived.Test.YtiahgcgpakgeeaaGreatDoorPk10
import Derived.Test.YtiahgcgpakgeeaaGreatDoorPk11
namespace Go.Proofs.YtiahgcgpakgeeaaGreatDoor
open Go.RowKit

def isA (k : Nat) : Bool := isB [97, 108, 110, 117, 109] k
def isS (k : Nat) : Bool := isB [115, 112, 97, 99, 101] k
theorem isA_lit (k : Nat) (w : World) : Calls Tryz.prog 56 #[.string { data := #[97, 108, 110, 117, 109] }, .int .i64 (k : Int)] w fun e w' => e = .returned (.tuple #[.bool (isA k), .bool true]) ∧ w = w' :=
  (is_any _ k w).mono fun e w' h => ⟨by rw [h.1, toList_data]; rfl, h.2⟩
theorem isS_lit (k : Nat) (w : World) : Calls Tryz.prog 56 #[.string { data := #[115, 112, 97, 99, 101] }, .int .i64 (k : Int)] w fun e w' => e = .returned (.tuple #[.bool (isS k), .bool true]) ∧ w = w' :=
  (is_any _ k w).mono fun e w' h => ⟨by rw [h.1, toList_data]; rfl, h.2⟩
/-- The bytes of a word. -/
def wordR (k : Nat) : Bool := isA k || decide (k = 95)

/-- What has been put behind k rounds. -/
def upK (f : Nat → Bool) (k x : Nat) : Bool := decide (x < k) && f x
theorem upK_zero (f : Nat → Bool) : upK f 0 = fun _ => false := by funext x; simp [upK]
theorem upK_out (f : Nat → Bool) (k : Nat) (h : f k = false) : upK f (k + 1) = upK f k := by
  funext x
  unfold upK
  by_cases e : x = k
  · subst e; simp [h]
  · by_cases h1 : x < k
    · have : x < k + 1 := by omega
      simp [h1, this]
    · have : ¬ x < k + 1 := by omega
      simp [h1, this]
theorem upK_in (f : Nat → Bool) (k : Nat) (h : f k = true) : put (upK f k) k = upK f (k + 1) := by
  funext x
  unfold put upK
  by_cases e : x = k
  · subst e; simp [h]
  · by_cases h1 : x < k
    · have : x < k + 1 := by omega
      simp [h1, this, e]
    · have : ¬ x < k + 1 := by omega
      simp [h1, this, e]
theorem isSet.all {w : World} {b : Nat} {f : Nat → Bool} (h : isSet w b (upK f 256)) : isSet w b f := h.congr fun k hk => by simp [upK, hk]
theorem wd_zero (f : Nat → Bool) (i j : Nat) (hj : j < 64) (h : wd f i = 0) : f (64 * i + j) = false := by
  have := wd_testBit f i j
  rw [h, Nat.zero_testBit] at this
  simpa [hj] using this.symm
theorem not_all_zero (f : Nat → Bool) (x : Nat) (hx : x < 256) (h : f x = true) : (((wd f 0 : Nat) : Int) == 0 && ((wd f 1 : Nat) : Int) == 0 && ((wd f 2 : Nat) : Int) == 0 && ((wd f 3 : Nat) : Int) == 0) = false := by
  rw [Bool.eq_false_iff]
  intro hz
  simp only [Bool.and_eq_true, beq_iff_eq, Int.natCast_eq_zero] at hz
  obtain ⟨⟨⟨h0, h1⟩, h2⟩, h3⟩ := hz
  have hd : x = 64 * (x / 64) + x % 64 := by omega
  have hm : x % 64 < 64 := Nat.mod_lt _ (by decide)
  have hi : x / 64 = 0 ∨ x / 64 = 1 ∨ x / 64 = 2 ∨ x / 64 = 3 := by omega
  have hf : f (64 * (x / 64) + x % 64) = false := by
    rcases hi with e | e | e | e <;> rw [e] <;> exact wd_zero f _ _ hm ‹_›
  rw [← hd, h] at hf
  cases hf

set_option maxRecDepth 100000 in
set_option maxHeartbeats 4000000 in
theorem resc_n (w : World) :
    Calls Tryz.prog 41 #[.int .i64 110] w fun e w' => e = .returned (.tuple #[sv (fun k => decide (k = 10)), .bool true]) ∧ Below w.heap.size w w' := by
  have S0 := Lib.hid ((isSet.newNone w).alloc (.cells #[.int .u64 0, .int .u64 0, .int .u64 0, .int .u64 0] 36))
  have S1 := Lib.hid (isSet.newNone (w.alloc (.cells #[.int .u64 0, .int .u64 0, .int .u64 0, .int .u64 0] 36)))
  have hne : ∀ w, (Op.equalIn 10000 36 (.agg #[.int .u64 (wd (fun k => decide (k = 10)) 0 : Int), .int .u64 (wd (fun k => decide (k = 10)) 1 : Int), .int .u64 (wd (fun k => decide (k = 10)) 2 : Int), .int .u64 (wd (fun k => decide (k = 10)) 3 : Int)]) (.agg #[.int .u64 0, .int .u64 0, .int .u64 0, .int .u64 0])).run Tryz.prog w = .ok false w := fun w => by
    rw [eq_any, not_all_zero (fun k => decide (k = 10)) 10 (by decide) rfl]
  have HNE := Lib.hid hne
  clear hne
  go_enter Tryz.func41, Tryz.ntmps41
  go_wp2
  go_loopw [5] (fun i wr => ∃ k : Nat, k ≤ 256 ∧ i = .int .i64 k ∧ isSet wr w.heap.size (fun _ => false) ∧ isSet wr (w.heap.size + 1) (upK (fun k => decide (k = 10)) k) ∧ Below w.heap.size w wr) (fun i _ => 256 - (intOf i).toNat)
  case atStart => exact ⟨0, Nat.zero_le _, rfl, S0.out, by rw [upK_zero]; have := S1.out; rw [World.size_alloc] at this; exact this, ((Below.refl _ _).alloc (Nat.le_refl _) _).alloc (by simp) _⟩
  case round =>
    obtain ⟨k, hk, rfl, b0, b1, hBw⟩ := hrel
    clear S0 S1
    have l0 := b0.lt; have l1 := b1.lt
    by_cases hlt : k < 256
    · obtain ⟨p0, p1, p2, p3⟩ := b1.cells
      by_cases he : k = 10
      · have e1 : ((k : Int) == 10) = true := by simp [he]
        have hF : (fun k => decide (k = 10)) k = true := by simp [he]
        have HS := Lib.hid (upK_in (fun k => decide (k = 10)) k hF)
        clear hF
        clear he
        go_wp2_with (first | (go_at_call 56; (with_reducible refine (isA_lit k _).mono ?_); rintro e wc ⟨rfl, rfl⟩) | (go_at_call 56; (with_reducible refine (isS_lit k _).mono ?_); rintro e wc ⟨rfl, rfl⟩) | (go_at_call 36; (with_reducible refine (put_lit (upK (fun k => decide (k = 10)) k) _ k rfl hlt _).mono ?_); rw [HS.out]; rintro e wd1 ⟨rfl, hb⟩; have d1 := b1.below hb l1; obtain ⟨r0, r1, r2, r3⟩ := d1.free; clear p0 p1 p2 p3; obtain ⟨p0, p1, p2, p3⟩ := d1.cells; have d0 := b0.below hb l0; have hBd := hBw.trans (hb.mono hBw.size); clear hb))
        have z0 := d0.other4 (c := w.heap.size + 1) (by omega) (.int .u64 (wd (upK (fun k => decide (k = 10)) (k + 1)) 0 : Int)) (.int .u64 (wd (upK (fun k => decide (k = 10)) (k + 1)) 1 : Int)) (.int .u64 (wd (upK (fun k => decide (k = 10)) (k + 1)) 2 : Int)) (.int .u64 (wd (upK (fun k => decide (k = 10)) (k + 1)) 3 : Int))
        have z1 := d1.stored (upK (fun k => decide (k = 10)) (k + 1))
        have hR := below_set4 (c := w.heap.size + 1) hBd (by omega) (.int .u64 (wd (upK (fun k => decide (k = 10)) (k + 1)) 0 : Int)) (.int .u64 (wd (upK (fun k => decide (k = 10)) (k + 1)) 1 : Int)) (.int .u64 (wd (upK (fun k => decide (k = 10)) (k + 1)) 2 : Int)) (.int .u64 (wd (upK (fun k => decide (k = 10)) (k + 1)) 3 : Int))
        go_roundw
        case rel => exact ⟨k + 1, by omega, by go_num, z0, z1, hR⟩
        case measure => simp [intOf]; omega
      · have e1 : ((k : Int) == 10) = false := by simp; omega
        have hF : (fun k => decide (k = 10)) k = false := by simp [he]
        have HS := Lib.hid (upK_out (fun k => decide (k = 10)) k hF)
        clear hF
        clear he
        go_wp2_with (first | (go_at_call 56; (with_reducible refine (isA_lit k _).mono ?_); rintro e wc ⟨rfl, rfl⟩) | (go_at_call 56; (with_reducible refine (isS_lit k _).mono ?_); rintro e wc ⟨rfl, rfl⟩))
        go_roundw
        case rel => exact ⟨k + 1, by omega, by go_num, b0, by rw [HS.out]; exact b1, hBw⟩
        case measure => simp [intOf]; omega
    · obtain rfl : k = 256 := by omega
      have c1 := b1.all
      have hne := HNE.out
      clear b1
      obtain ⟨q0, q1, q2, q3⟩ := c1.cells
      obtain ⟨q4, q5, q6, q7⟩ := b0.cells
      obtain ⟨r0, r1, r2, r3⟩ := b0.free
      have HR := Lib.hid (below_set4 (c := w.heap.size) (hBw.trans (Below.refl _ _).drew) (Nat.le_refl _) (.int .u64 (wd (fun k => decide (k = 10)) 0 : Int)) (.int .u64 (wd (fun k => decide (k = 10)) 1 : Int)) (.int .u64 (wd (fun k => decide (k = 10)) 2 : Int)) (.int .u64 (wd (fun k => decide (k = 10)) 3 : Int)))
      have Z := Lib.hid (b0.stored (fun k => decide (k = 10))).cells
      clear b0 c1 hBw
      go_wp2
      go_region
      all_goals go_wp2
      all_goals refine bodyPost_ret (v := .tuple #[sv (fun k => decide (k = 10)), .bool true]) (by simp [results, Tryz.results41, go_sem, Z.out]) rfl ⟨rfl, HR.out⟩

set_option maxRecDepth 100000 in
set_option maxHeartbeats 4000000 in
theorem resc_t (w : World) :
    Calls Tryz.prog 41 #[.int .i64 116] w fun e w' => e = .returned (.tuple #[sv (fun k => decide (k = 9)), .bool true]) ∧ Below w.heap.size w w' := by
  have S0 := Lib.hid ((isSet.newNone w).alloc (.cells #[.int .u64 0, .int .u64 0, .int .u64 0, .int .u64 0] 36))
  have S1 := Lib.hid (isSet.newNone (w.alloc (.cells #[.int .u64 0, .int .u64 0, .int .u64 0, .int .u64 0] 36)))
  have hne : ∀ w, (Op.equalIn 10000 36 (.agg #[.int .u64 (wd (fun k => decide (k = 9)) 0 : Int), .int .u64 (wd (fun k => decide (k = 9)) 1 : Int), .int .u64 (wd (fun k => decide (k = 9)) 2 : Int), .int .u64 (wd (fun k => decide (k = 9)) 3 : Int)]) (.agg #[.int .u64 0, .int .u64 0, .int .u64 0, .int .u64 0])).run Tryz.prog w = .ok false w := fun w => by
    rw [eq_any, not_all_zero (fun k => decide (k = 9)) 9 (by decide) rfl]
  have HNE := Lib.hid hne
  clear hne
  go_enter Tryz.func41, Tryz.ntmps41
  go_wp2
  go_loopw [5] (fun i wr => ∃ k : Nat, k ≤ 256 ∧ i = .int .i64 k ∧ isSet wr w.heap.size (fun _ => false) ∧ isSet wr (w.heap.size + 1) (upK (fun k => decide (k = 9)) k) ∧ Below w.heap.size w wr) (fun i _ => 256 - (intOf i).toNat)
  case atStart => exact ⟨0, Nat.zero_le _, rfl, S0.out, by rw [upK_zero]; have := S1.out; rw [World.size_alloc] at this; exact this, ((Below.refl _ _).alloc (Nat.le_refl _) _).alloc (by simp) _⟩
  case round =>
    obtain ⟨k, hk, rfl, b0, b1, hBw⟩ := hrel
    clear S0 S1
    have l0 := b0.lt; have l1 := b1.lt
    by_cases hlt : k < 256
    · obtain ⟨p0, p1, p2, p3⟩ := b1.cells
      by_cases he : k = 9
      · have e1 : ((k : Int) == 9) = true := by simp [he]
        have hF : (fun k => decide (k = 9)) k = true := by simp [he]
        have HS := Lib.hid (upK_in (fun k => decide (k = 9)) k hF)
        clear hF
        clear he
        go_wp2_with (first | (go_at_call 56; (with_reducible refine (isA_lit k _).mono ?_); rintro e wc ⟨rfl, rfl⟩) | (go_at_call 56; (with_reducible refine (isS_lit k _).mono ?_); rintro e wc ⟨rfl, rfl⟩) | (go_at_call 36; (with_reducible refine (put_lit (upK (fun k => decide (k = 9)) k) _ k rfl hlt _).mono ?_); rw [HS.out]; rintro e wd1 ⟨rfl, hb⟩; have d1 := b1.below hb l1; obtain ⟨r0, r1, r2, r3⟩ := d1.free; clear p0 p1 p2 p3; obtain ⟨p0, p1, p2, p3⟩ := d1.cells; have d0 := b0.below hb l0; have hBd := hBw.trans (hb.mono hBw.size); clear hb))
        have z0 := d0.other4 (c := w.heap.size + 1) (by omega) (.int .u64 (wd (upK (fun k => decide (k = 9)) (k + 1)) 0 : Int)) (.int .u64 (wd (upK (fun k => decide (k = 9)) (k + 1)) 1 : Int)) (.int .u64 (wd (upK (fun k => decide (k = 9)) (k + 1)) 2 : Int)) (.int .u64 (wd (upK (fun k => decide (k = 9)) (k + 1)) 3 : Int))
        have z1 := d1.stored (upK (fun k => decide (k = 9)) (k + 1))
        have hR := below_set4 (c := w.heap.size + 1) hBd (by omega) (.int .u64 (wd (upK (fun k => decide (k = 9)) (k + 1)) 0 : Int)) (.int .u64 (wd (upK (fun k => decide (k = 9)) (k + 1)) 1 : Int)) (.int .u64 (wd (upK (fun k => decide (k = 9)) (k + 1)) 2 : Int)) (.int .u64 (wd (upK (fun k => decide (k = 9)) (k + 1)) 3 : Int))
        go_roundw
        case rel => exact ⟨k + 1, by omega, by go_num, z0, z1, hR⟩
        case measure => simp [intOf]; omega
      · have e1 : ((k : Int) == 9) = false := by simp; omega
        have hF : (fun k => decide (k = 9)) k = false := by simp [he]
        have HS := Lib.hid (upK_out (fun k => decide (k = 9)) k hF)
        clear hF
        clear he
        go_wp2_with (first | (go_at_call 56; (with_reducible refine (isA_lit k _).mono ?_); rintro e wc ⟨rfl, rfl⟩) | (go_at_call 56; (with_reducible refine (isS_lit k _).mono ?_); rintro e wc ⟨rfl, rfl⟩))
        go_roundw
        case rel => exact ⟨k + 1, by omega, by go_num, b0, by rw [HS.out]; exact b1, hBw⟩
        case measure => simp [intOf]; omega
    · obtain rfl : k = 256 := by omega
      have c1 := b1.all
      have hne := HNE.out
      clear b1
      obtain ⟨q0, q1, q2, q3⟩ := c1.cells
      obtain ⟨q4, q5, q6, q7⟩ := b0.cells
      obtain ⟨r0, r1, r2, r3⟩ := b0.free
      have HR := Lib.hid (below_set4 (c := w.heap.size) (hBw.trans (Below.refl _ _).drew) (Nat.le_refl _) (.int .u64 (wd (fun k => decide (k = 9)) 0 : Int)) (.int .u64 (wd (fun k => decide (k = 9)) 1 : Int)) (.int .u64 (wd (fun k => decide (k = 9)) 2 : Int)) (.int .u64 (wd (fun k => decide (k = 9)) 3 : Int)))
      have Z := Lib.hid (b0.stored (fun k => decide (k = 9))).cells
      clear b0 c1 hBw
      go_wp2
      go_region
      all_goals go_wp2
      all_goals refine bodyPost_ret (v := .tuple #[sv (fun k => decide (k = 9)), .bool true]) (by simp [results, Tryz.results41, go_sem, Z.out]) rfl ⟨rfl, HR.out⟩

set_option maxRecDepth 100000 in
set_option maxHeartbeats 4000000 in
theorem resc_r (w : World) :
    Calls Tryz.prog 41 #[.int .i64 114] w fun e w' => e = .returned (.tuple #[sv (fun k => decide (k = 13)), .bool true]) ∧ Below w.heap.size w w' := by
  have S0 := Lib.hid ((isSet.newNone w).alloc (.cells #[.int .u64 0, .int .u64 0, .int .u64 0, .int .u64 0] 36))
  have S1 := Lib.hid (isSet.newNone (w.alloc (.cells #[.int .u64 0, .int .u64 0, .int .u64 0, .int .u64 0] 36)))
  have hne : ∀ w, (Op.equalIn 10000 36 (.agg #[.int .u64 (wd (fun k => decide (k = 13)) 0 : Int), .int .u64 (wd (fun k => decide (k = 13)) 1 : Int), .int .u64 (wd (fun k => decide (k = 13)) 2 : Int), .int .u64 (wd (fun k => decide (k = 13)) 3 : Int)]) (.agg #[.int .u64 0, .int .u64 0, .int .u64 0, .int .u64 0])).run Tryz.prog w = .ok false w := fun w => by
    rw [eq_any, not_all_zero (fun k => decide (k = 13)) 13 (by decide) rfl]
  have HNE := Lib.hid hne
  clear hne
  go_enter Tryz.func41, Tryz.ntmps41
  go_wp2
  go_loopw [5] (fun i wr => ∃ k : Nat, k ≤ 256 ∧ i = .int .i64 k ∧ isSet wr w.heap.size (fun _ => false) ∧ isSet wr (w.heap.size + 1) (upK (fun k => decide (k = 13)) k) ∧ Below w.heap.size w wr) (fun i _ => 256 - (intOf i).toNat)
  case atStart => exact ⟨0, Nat.zero_le _, rfl, S0.out, by rw [upK_zero]; have := S1.out; rw [World.size_alloc] at this; exact this, ((Below.refl _ _).alloc (Nat.le_refl _) _).alloc (by simp) _⟩
  case round =>
    obtain ⟨k, hk, rfl, b0, b1, hBw⟩ := hrel
    clear S0 S1
    have l0 := b0.lt; have l1 := b1.lt
    by_cases hlt : k < 256
    · obtain ⟨p0, p1, p2, p3⟩ := b1.cells
      by_cases he : k = 13
      · have e1 : ((k : Int) == 13) = true := by simp [he]
        have hF : (fun k => decide (k = 13)) k = true := by simp [he]
        have HS := Lib.hid (upK_in (fun k => decide (k = 13)) k hF)
        clear hF
        clear he
        go_wp2_with (first | (go_at_call 56; (with_reducible refine (isA_lit k _).mono ?_); rintro e wc ⟨rfl, rfl⟩) | (go_at_call 56; (with_reducible refine (isS_lit k _).mono ?_); rintro e wc ⟨rfl, rfl⟩) | (go_at_call 36; (with_reducible refine (put_lit (upK (fun k => decide (k = 13)) k) _ k rfl hlt _).mono ?_); rw [HS.out]; rintro e wd1 ⟨rfl, hb⟩; have d1 := b1.below hb l1; obtain ⟨r0, r1, r2, r3⟩ := d1.free; clear p0 p1 p2 p3; obtain ⟨p0, p1, p2, p3⟩ := d1.cells; have d0 := b0.below hb l0; have hBd := hBw.trans (hb.mono hBw.size); clear hb))
        have z0 := d0.other4 (c := w.heap.size + 1) (by omega) (.int .u64 (wd (upK (fun k => decide (k = 13)) (k + 1)) 0 : Int)) (.int .u64 (wd (upK (fun k => decide (k = 13)) (k + 1)) 1 : Int)) (.int .u64 (wd (upK (fun k => decide (k = 13)) (k + 1)) 2 : Int)) (.int .u64 (wd (upK (fun k => decide (k = 13)) (k + 1)) 3 : Int))
        have z1 := d1.stored (upK (fun k => decide (k = 13)) (k + 1))
        have hR := below_set4 (c := w.heap.size + 1) hBd (by omega) (.int .u64 (wd (upK (fun k => decide (k = 13)) (k + 1)) 0 : Int)) (.int .u64 (wd (upK (fun k => decide (k = 13)) (k + 1)) 1 : Int)) (.int .u64 (wd (upK (fun k => decide (k = 13)) (k + 1)) 2 : Int)) (.int .u64 (wd (upK (fun k => decide (k = 13)) (k + 1)) 3 : Int))
        go_roundw
        case rel => exact ⟨k + 1, by omega, by go_num, z0, z1, hR⟩
        case measure => simp [intOf]; omega
      · have e1 : ((k : Int) == 13) = false := by simp; omega
        have hF : (fun k => decide (k = 13)) k = false := by simp [he]
        have HS := Lib.hid (upK_out (fun k => decide (k = 13)) k hF)
        clear hF
        clear he
        go_wp2_with (first | (go_at_call 56; (with_reducible refine (isA_lit k _).mono ?_); rintro e wc ⟨rfl, rfl⟩) | (go_at_call 56; (with_reducible refine (isS_lit k _).mono ?_); rintro e wc ⟨rfl, rfl⟩))
        go_roundw
        case rel => exact ⟨k + 1, by omega, by go_num, b0, by rw [HS.out]; exact b1, hBw⟩
        case measure => simp [intOf]; omega
    · obtain rfl : k = 256 := by omega
      have c1 := b1.all
      have hne := HNE.out
      clear b1
      obtain ⟨q0, q1, q2, q3⟩ := c1.cells
      obtain ⟨q4, q5, q6, q7⟩ := b0.cells
      obtain ⟨r0, r1, r2, r3⟩ := b0.free
      have HR := Lib.hid (below_set4 (c := w.heap.size) (hBw.trans (Below.refl _ _).drew) (Nat.le_refl _) (.int .u64 (wd (fun k => decide (k = 13)) 0 : Int)) (.int .u64 (wd (fun k => decide (k = 13)) 1 : Int)) (.int .u64 (wd (fun k => decide (k = 13)) 2 : Int)) (.int .u64 (wd (fun k => decide (k = 13)) 3 : Int)))
      have Z := Lib.hid (b0.stored (fun k => decide (k = 13))).cells
      clear b0 c1 hBw
      go_wp2
      go_region
      all_goals go_wp2
      all_goals refine bodyPost_ret (v := .tuple #[sv (fun k => decide (k = 13)), .bool true]) (by simp [results, Tryz.results41, go_sem, Z.out]) rfl ⟨rfl, HR.out⟩

set_option maxRecDepth 100000 in
set_option maxHeartbeats 4000000 in
theorem resc_d (w : World) :
    Calls Tryz.prog 41 #[.int .i64 100] w fun e w' => e = .returned (.tuple #[sv (diB), .bool true]) ∧ Below w.heap.size w w' := by
  have S0 := Lib.hid ((isSet.newNone w).alloc (.cells #[.int .u64 0, .int .u64 0, .int .u64 0, .int .u64 0] 36))
  have S1 := Lib.hid (isSet.newNone (w.alloc (.cells #[.int .u64 0, .int .u64 0, .int .u64 0, .int .u64 0] 36)))
  have hne : ∀ w, (Op.equalIn 10000 36 (.agg #[.int .u64 (wd (diB) 0 : Int), .int .u64 (wd (diB) 1 : Int), .int .u64 (wd (diB) 2 : Int), .int .u64 (wd (diB) 3 : Int)]) (.agg #[.int .u64 0, .int .u64 0, .int .u64 0, .int .u64 0])).run Tryz.prog w = .ok false w := fun w => by
    rw [eq_any, not_all_zero (diB) 48 (by decide) rfl]
  have HNE := Lib.hid hne
  clear hne
  go_enter Tryz.func41, Tryz.ntmps41
  go_wp2
  go_loopw [5] (fun i wr => ∃ k : Nat, k ≤ 256 ∧ i = .int .i64 k ∧ isSet wr w.heap.size (fun _ => false) ∧ isSet wr (w.heap.size + 1) (upK (diB) k) ∧ Below w.heap.size w wr) (fun i _ => 256 - (intOf i).toNat)
  case atStart => exact ⟨0, Nat.zero_le _, rfl, S0.out, by rw [upK_zero]; have := S1.out; rw [World.size_alloc] at this; exact this, ((Below.refl _ _).alloc (Nat.le_refl _) _).alloc (by simp) _⟩
  case round =>
    obtain ⟨k, hk, rfl, b0, b1, hBw⟩ := hrel
    clear S0 S1
    have l0 := b0.lt; have l1 := b1.lt
    by_cases hlt : k < 256
    · obtain ⟨p0, p1, p2, p3⟩ := b1.cells
      cases hd : diB k
      · have HD := Lib.hid hd
        have hF : (diB) k = false := by simp [hd]
        have HS := Lib.hid (upK_out (diB) k hF)
        clear hF
        clear hd
        go_wp2_with (first | (go_at_call 56; (with_reducible refine (isA_lit k _).mono ?_); rintro e wc ⟨rfl, rfl⟩) | (go_at_call 56; (with_reducible refine (isS_lit k _).mono ?_); rintro e wc ⟨rfl, rfl⟩) | (go_at_call 57; (with_reducible refine (digit_any k _).mono ?_); rw [HD.out]; rintro e wc ⟨rfl, rfl⟩))
        go_roundw
        case rel => exact ⟨k + 1, by omega, by go_num, b0, by rw [HS.out]; exact b1, hBw⟩
        case measure => simp [intOf]; omega
      · have HD := Lib.hid hd
        have hF : (diB) k = true := by simp [hd]
        have HS := Lib.hid (upK_in (diB) k hF)
        clear hF
        clear hd
        go_wp2_with (first | (go_at_call 56; (with_reducible refine (isA_lit k _).mono ?_); rintro e wc ⟨rfl, rfl⟩) | (go_at_call 56; (with_reducible refine (isS_lit k _).mono ?_); rintro e wc ⟨rfl, rfl⟩) | (go_at_call 57; (with_reducible refine (digit_any k _).mono ?_); rw [HD.out]; rintro e wc ⟨rfl, rfl⟩) | (go_at_call 36; (with_reducible refine (put_lit (upK (diB) k) _ k rfl hlt _).mono ?_); rw [HS.out]; rintro e wd1 ⟨rfl, hb⟩; have d1 := b1.below hb l1; obtain ⟨r0, r1, r2, r3⟩ := d1.free; clear p0 p1 p2 p3; obtain ⟨p0, p1, p2, p3⟩ := d1.cells; have d0 := b0.below hb l0; have hBd := hBw.trans (hb.mono hBw.size); clear hb))
        have z0 := d0.other4 (c := w.heap.size + 1) (by omega) (.int .u64 (wd (upK (diB) (k + 1)) 0 : Int)) (.int .u64 (wd (upK (diB) (k + 1)) 1 : Int)) (.int .u64 (wd (upK (diB) (k + 1)) 2 : Int)) (.int .u64 (wd (upK (diB) (k + 1)) 3 : Int))
        have z1 := d1.stored (upK (diB) (k + 1))
        have hR := below_set4 (c := w.heap.size + 1) hBd (by omega) (.int .u64 (wd (upK (diB) (k + 1)) 0 : Int)) (.int .u64 (wd (upK (diB) (k + 1)) 1 : Int)) (.int .u64 (wd (upK (diB) (k + 1)) 2 : Int)) (.int .u64 (wd (upK (diB) (k + 1)) 3 : Int))
        go_roundw
        case rel => exact ⟨k + 1, by omega, by go_num, z0, z1, hR⟩
        case measure => simp [intOf]; omega
    · obtain rfl : k = 256 := by omega
      have c1 := b1.all
      have hne := HNE.out
      clear b1
      obtain ⟨q0, q1, q2, q3⟩ := c1.cells
      obtain ⟨q4, q5, q6, q7⟩ := b0.cells
      obtain ⟨r0, r1, r2, r3⟩ := b0.free
      have HR := Lib.hid (below_set4 (c := w.heap.size) (hBw.trans (Below.refl _ _).drew) (Nat.le_refl _) (.int .u64 (wd (diB) 0 : Int)) (.int .u64 (wd (diB) 1 : Int)) (.int .u64 (wd (diB) 2 : Int)) (.int .u64 (wd (diB) 3 : Int)))
      have Z := Lib.hid (b0.stored (diB)).cells
      clear b0 c1 hBw
      go_wp2
      go_region
      all_goals go_wp2
      all_goals refine bodyPost_ret (v := .tuple #[sv (diB), .bool true]) (by simp [results, Tryz.results41, go_sem, Z.out]) rfl ⟨rfl, HR.out⟩

set_option maxRecDepth 100000 in
set_option maxHeartbeats 4000000 in
theorem resc_s (w : World) :
    Calls Tryz.prog 41 #[.int .i64 115] w fun e w' => e = .returned (.tuple #[sv (isS), .bool true]) ∧ Below w.heap.size w w' := by
  have S0 := Lib.hid ((isSet.newNone w).alloc (.cells #[.int .u64 0, .int .u64 0, .int .u64 0, .int .u64 0] 36))
  have S1 := Lib.hid (isSet.newNone (w.alloc (.cells #[.int .u64 0, .int .u64 0, .int .u64 0, .int .u64 0] 36)))
  have hne : ∀ w, (Op.equalIn 10000 36 (.agg #[.int .u64 (wd (isS) 0 : Int), .int .u64 (wd (isS) 1 : Int), .int .u64 (wd (isS) 2 : Int), .int .u64 (wd (isS) 3 : Int)]) (.agg #[.int .u64 0, .int .u64 0, .int .u64 0, .int .u64 0])).run Tryz.prog w = .ok false w := fun w => by
    rw [eq_any, not_all_zero (isS) 32 (by decide) rfl]
  have HNE := Lib.hid hne
  clear hne
  go_enter Tryz.func41, Tryz.ntmps41
  go_wp2
  go_loopw [5] (fun i wr => ∃ k : Nat, k ≤ 256 ∧ i = .int .i64 k ∧ isSet wr w.heap.size (fun _ => false) ∧ isSet wr (w.heap.size + 1) (upK (isS) k) ∧ Below w.heap.size w wr) (fun i _ => 256 - (intOf i).toNat)
  case atStart => exact ⟨0, Nat.zero_le _, rfl, S0.out, by rw [upK_zero]; have := S1.out; rw [World.size_alloc] at this; exact this, ((Below.refl _ _).alloc (Nat.le_refl _) _).alloc (by simp) _⟩
  case round =>
    obtain ⟨k, hk, rfl, b0, b1, hBw⟩ := hrel
    clear S0 S1
    have l0 := b0.lt; have l1 := b1.lt
    by_cases hlt : k < 256
    · obtain ⟨p0, p1, p2, p3⟩ := b1.cells
      cases hs : isS k
      · have HS2 := Lib.hid hs
        have hF : (isS) k = false := by simp [hs]
        have HS := Lib.hid (upK_out (isS) k hF)
        clear hF
        clear hs
        go_wp2_with (first | (go_at_call 56; (with_reducible refine (isA_lit k _).mono ?_); rintro e wc ⟨rfl, rfl⟩) | (go_at_call 56; (with_reducible refine (isS_lit k _).mono ?_); rw [HS2.out]; rintro e wc ⟨rfl, rfl⟩))
        go_roundw
        case rel => exact ⟨k + 1, by omega, by go_num, b0, by rw [HS.out]; exact b1, hBw⟩
        case measure => simp [intOf]; omega
      · have HS2 := Lib.hid hs
        have hF : (isS) k = true := by simp [hs]
        have HS := Lib.hid (upK_in (isS) k hF)
        clear hF
        clear hs
        go_wp2_with (first | (go_at_call 56; (with_reducible refine (isA_lit k _).mono ?_); rintro e wc ⟨rfl, rfl⟩) | (go_at_call 56; (with_reducible refine (isS_lit k _).mono ?_); rw [HS2.out]; rintro e wc ⟨rfl, rfl⟩) | (go_at_call 36; (with_reducible refine (put_lit (upK (isS) k) _ k rfl hlt _).mono ?_); rw [HS.out]; rintro e wd1 ⟨rfl, hb⟩; have d1 := b1.below hb l1; obtain ⟨r0, r1, r2, r3⟩ := d1.free; clear p0 p1 p2 p3; obtain ⟨p0, p1, p2, p3⟩ := d1.cells; have d0 := b0.below hb l0; have hBd := hBw.trans (hb.mono hBw.size); clear hb))
        have z0 := d0.other4 (c := w.heap.size + 1) (by omega) (.int .u64 (wd (upK (isS) (k + 1)) 0 : Int)) (.int .u64 (wd (upK (isS) (k + 1)) 1 : Int)) (.int .u64 (wd (upK (isS) (k + 1)) 2 : Int)) (.int .u64 (wd (upK (isS) (k + 1)) 3 : Int))
        have z1 := d1.stored (upK (isS) (k + 1))
        have hR := below_set4 (c := w.heap.size + 1) hBd (by omega) (.int .u64 (wd (upK (isS) (k + 1)) 0 : Int)) (.int .u64 (wd (upK (isS) (k + 1)) 1 : Int)) (.int .u64 (wd (upK (isS) (k + 1)) 2 : Int)) (.int .u64 (wd (upK (isS) (k + 1)) 3 : Int))
        go_roundw
        case rel => exact ⟨k + 1, by omega, by go_num, z0, z1, hR⟩
        case measure => simp [intOf]; omega
    · obtain rfl : k = 256 := by omega
      have c1 := b1.all
      have hne := HNE.out
      clear b1
      obtain ⟨q0, q1, q2, q3⟩ := c1.cells
      obtain ⟨q4, q5, q6, q7⟩ := b0.cells
      obtain ⟨r0, r1, r2, r3⟩ := b0.free
      have HR := Lib.hid (below_set4 (c := w.heap.size) (hBw.trans (Below.refl _ _).drew) (Nat.le_refl _) (.int .u64 (wd (isS) 0 : Int)) (.int .u64 (wd (isS) 1 : Int)) (.int .u64 (wd (isS) 2 : Int)) (.int .u64 (wd (isS) 3 : Int)))
      have Z := Lib.hid (b0.stored (isS)).cells
      clear b0 c1 hBw
      go_wp2
      go_region
      all_goals go_wp2
      all_goals refine bodyPost_ret (v := .tuple #[sv (isS), .bool true]) (by simp [results, Tryz.results41, go_sem, Z.out]) rfl ⟨rfl, HR.out⟩

set_option maxRecDepth 100000 in
set_option maxHeartbeats 4000000 in
theorem resc_w (w : World) :
    Calls Tryz.prog 41 #[.int .i64 119] w fun e w' => e = .returned (.tuple #[sv (wordR), .bool true]) ∧ Below w.heap.size w w' := by
  have S0 := Lib.hid ((isSet.newNone w).alloc (.cells #[.int .u64 0, .int .u64 0, .int .u64 0, .int .u64 0] 36))
  have S1 := Lib.hid (isSet.newNone (w.alloc (.cells #[.int .u64 0, .int .u64 0, .int .u64 0, .int .u64 0] 36)))
  have hne : ∀ w, (Op.equalIn 10000 36 (.agg #[.int .u64 (wd (wordR) 0 : Int), .int .u64 (wd (wordR) 1 : Int), .int .u64 (wd (wordR) 2 : Int), .int .u64 (wd (wordR) 3 : Int)]) (.agg #[.int .u64 0, .int .u64 0, .int .u64 0, .int .u64 0])).run Tryz.prog w = .ok false w := fun w => by
    rw [eq_any, not_all_zero (wordR) 95 (by decide) rfl]
  have HNE := Lib.hid hne
  clear hne
  go_enter Tryz.func41, Tryz.ntmps41
  go_wp2
  go_loopw [5] (fun i wr => ∃ k : Nat, k ≤ 256 ∧ i = .int .i64 k ∧ isSet wr w.heap.size (fun _ => false) ∧ isSet wr (w.heap.size + 1) (upK (wordR) k) ∧ Below w.heap.size w wr) (fun i _ => 256 - (intOf i).toNat)
  case atStart => exact ⟨0, Nat.zero_le _, rfl, S0.out, by rw [upK_zero]; have := S1.out; rw [World.size_alloc] at this; exact this, ((Below.refl _ _).alloc (Nat.le_refl _) _).alloc (by simp) _⟩
  case round =>
    obtain ⟨k, hk, rfl, b0, b1, hBw⟩ := hrel
    clear S0 S1
    have l0 := b0.lt; have l1 := b1.lt
    by_cases hlt : k < 256
    · obtain ⟨p0, p1, p2, p3⟩ := b1.cells
      cases ha : isA k
      · have HA := Lib.hid ha
        by_cases he : k = 95
        · have e1 : ((k : Int) == 95) = true := by simp [he]
          have e2 : ((k : Int) != 95) = false := by simp [he]
          have hF : (wordR) k = true := by simp [wordR, ha]; omega
          have HS := Lib.hid (upK_in (wordR) k hF)
          clear hF
          clear ha he
          go_wp2_with (first | (go_at_call 56; (with_reducible refine (isA_lit k _).mono ?_); rw [HA.out]; rintro e wc ⟨rfl, rfl⟩) | (go_at_call 56; (with_reducible refine (isS_lit k _).mono ?_); rintro e wc ⟨rfl, rfl⟩) | (go_at_call 36; (with_reducible refine (put_lit (upK (wordR) k) _ k rfl hlt _).mono ?_); rw [HS.out]; rintro e wd1 ⟨rfl, hb⟩; have d1 := b1.below hb l1; obtain ⟨r0, r1, r2, r3⟩ := d1.free; clear p0 p1 p2 p3; obtain ⟨p0, p1, p2, p3⟩ := d1.cells; have d0 := b0.below hb l0; have hBd := hBw.trans (hb.mono hBw.size); clear hb))
          have z0 := d0.other4 (c := w.heap.size + 1) (by omega) (.int .u64 (wd (upK (wordR) (k + 1)) 0 : Int)) (.int .u64 (wd (upK (wordR) (k + 1)) 1 : Int)) (.int .u64 (wd (upK (wordR) (k + 1)) 2 : Int)) (.int .u64 (wd (upK (wordR) (k + 1)) 3 : Int))
          have z1 := d1.stored (upK (wordR) (k + 1))
          have hR := below_set4 (c := w.heap.size + 1) hBd (by omega) (.int .u64 (wd (upK (wordR) (k + 1)) 0 : Int)) (.int .u64 (wd (upK (wordR) (k + 1)) 1 : Int)) (.int .u64 (wd (upK (wordR) (k + 1)) 2 : Int)) (.int .u64 (wd (upK (wordR) (k + 1)) 3 : Int))
          go_roundw
          case rel => exact ⟨k + 1, by omega, by go_num, z0, z1, hR⟩
          case measure => simp [intOf]; omega
        · have e1 : ((k : Int) == 95) = false := by simp; omega
          have e2 : ((k : Int) != 95) = true := by simp; omega
          have hF : (wordR) k = false := by simp [wordR, ha]; omega
          have HS := Lib.hid (upK_out (wordR) k hF)
          clear hF
          clear ha he
          go_wp2_with (first | (go_at_call 56; (with_reducible refine (isA_lit k _).mono ?_); rw [HA.out]; rintro e wc ⟨rfl, rfl⟩) | (go_at_call 56; (with_reducible refine (isS_lit k _).mono ?_); rintro e wc ⟨rfl, rfl⟩))
          go_roundw
          case rel => exact ⟨k + 1, by omega, by go_num, b0, by rw [HS.out]; exact b1, hBw⟩
          case measure => simp [intOf]; omega
      · have HA := Lib.hid ha
        have hF : (wordR) k = true := by simp [wordR, ha]
        have HS := Lib.hid (upK_in (wordR) k hF)
        clear hF
        clear ha
        go_wp2_with (first | (go_at_call 56; (with_reducible refine (isA_lit k _).mono ?_); rw [HA.out]; rintro e wc ⟨rfl, rfl⟩) | (go_at_call 56; (with_reducible refine (isS_lit k _).mono ?_); rintro e wc ⟨rfl, rfl⟩) | (go_at_call 36; (with_reducible refine (put_lit (upK (wordR) k) _ k rfl hlt _).mono ?_); rw [HS.out]; rintro e wd1 ⟨rfl, hb⟩; have d1 := b1.below hb l1; obtain ⟨r0, r1, r2, r3⟩ := d1.free; clear p0 p1 p2 p3; obtain ⟨p0, p1, p2, p3⟩ := d1.cells; have d0 := b0.below hb l0; have hBd := hBw.trans (hb.mono hBw.size); clear hb))
        have z0 := d0.other4 (c := w.heap.size + 1) (by omega) (.int .u64 (wd (upK (wordR) (k + 1)) 0 : Int)) (.int .u64 (wd (upK (wordR) (k + 1)) 1 : Int)) (.int .u64 (wd (upK (wordR) (k + 1)) 2 : Int)) (.int .u64 (wd (upK (wordR) (k + 1)) 3 : Int))
        have z1 := d1.stored (upK (wordR) (k + 1))
        have hR := below_set4 (c := w.heap.size + 1) hBd (by omega) (.int .u64 (wd (upK (wordR) (k + 1)) 0 : Int)) (.int .u64 (wd (upK (wordR) (k + 1)) 1 : Int)) (.int .u64 (wd (upK (wordR) (k + 1)) 2 : Int)) (.int .u64 (wd (upK (wordR) (k + 1)) 3 : Int))
        go_roundw
        case rel => exact ⟨k + 1, by omega, by go_num, z0, z1, hR⟩
        case measure => simp [intOf]; omega
    · obtain rfl : k = 256 := by omega
      have c1 := b1.all
      have hne := HNE.out
      clear b1
      obtain ⟨q0, q1, q2, q3⟩ := c1.cells
      obtain ⟨q4, q5, q6, q7⟩ := b0.cells
      obtain ⟨r0, r1, r2, r3⟩ := b0.free
      have HR := Lib.hid (below_set4 (c := w.heap.size) (hBw.trans (Below.refl _ _).drew) (Nat.le_refl _) (.int .u64 (wd (wordR) 0 : Int)) (.int .u64 (wd (wordR) 1 : Int)) (.int .u64 (wd (wordR) 2 : Int)) (.int .u64 (wd (wordR) 3 : Int)))
      have Z := Lib.hid (b0.stored (wordR)).cells
      clear b0 c1 hBw
      go_wp2
      go_region
      all_goals go_wp2
      all_goals refine bodyPost_ret (v := .tuple #[sv (wordR), .bool true]) (by simp [results, Tryz.results41, go_sem, Z.out]) rfl ⟨rfl, HR.out⟩

set_option maxRecDepth 100000 in
set_option maxHeartbeats 4000000 in
theorem resc_nd (w : World) :
    Calls Tryz.prog 41 #[.int .i64 68] w fun e w' => e = .returned (.tuple #[sv (fun k => !diB k), .bool true]) ∧ Below w.heap.size w w' := by
  have S0 := Lib.hid ((isSet.newNone w).alloc (.cells #[.int .u64 0, .int .u64 0, .int .u64 0, .int .u64 0] 36))
  have S1 := Lib.hid (isSet.newNone (w.alloc (.cells #[.int .u64 0, .int .u64 0, .int .u64 0, .int .u64 0] 36)))
  have hne : ∀ w, (Op.equalIn 10000 36 (.agg #[.int .u64 (wd (fun k => !diB k) 0 : Int), .int .u64 (wd (fun k => !diB k) 1 : Int), .int .u64 (wd (fun k => !diB k) 2 : Int), .int .u64 (wd (fun k => !diB k) 3 : Int)]) (.agg #[.int .u64 0, .int .u64 0, .int .u64 0, .int .u64 0])).run Tryz.prog w = .ok false w := fun w => by
    rw [eq_any, not_all_zero (fun k => !diB k) 0 (by decide) rfl]
  have HNE := Lib.hid hne
  clear hne
  go_enter Tryz.func41, Tryz.ntmps41
  go_wp2
  go_loopw [5] (fun i wr => ∃ k : Nat, k ≤ 256 ∧ i = .int .i64 k ∧ isSet wr w.heap.size (fun _ => false) ∧ isSet wr (w.heap.size + 1) (upK (fun k => !diB k) k) ∧ Below w.heap.size w wr) (fun i _ => 256 - (intOf i).toNat)
  case atStart => exact ⟨0, Nat.zero_le _, rfl, S0.out, by rw [upK_zero]; have := S1.out; rw [World.size_alloc] at this; exact this, ((Below.refl _ _).alloc (Nat.le_refl _) _).alloc (by simp) _⟩
  case round =>
    obtain ⟨k, hk, rfl, b0, b1, hBw⟩ := hrel
    clear S0 S1
    have l0 := b0.lt; have l1 := b1.lt
    by_cases hlt : k < 256
    · obtain ⟨p0, p1, p2, p3⟩ := b1.cells
      cases hd : diB k
      · have HD := Lib.hid hd
        have hF : (fun k => !diB k) k = true := by simp [hd]
        have HS := Lib.hid (upK_in (fun k => !diB k) k hF)
        clear hF
        clear hd
        go_wp2_with (first | (go_at_call 56; (with_reducible refine (isA_lit k _).mono ?_); rintro e wc ⟨rfl, rfl⟩) | (go_at_call 56; (with_reducible refine (isS_lit k _).mono ?_); rintro e wc ⟨rfl, rfl⟩) | (go_at_call 57; (with_reducible refine (digit_any k _).mono ?_); rw [HD.out]; rintro e wc ⟨rfl, rfl⟩) | (go_at_call 36; (with_reducible refine (put_lit (upK (fun k => !diB k) k) _ k rfl hlt _).mono ?_); rw [HS.out]; rintro e wd1 ⟨rfl, hb⟩; have d1 := b1.below hb l1; obtain ⟨r0, r1, r2, r3⟩ := d1.free; clear p0 p1 p2 p3; obtain ⟨p0, p1, p2, p3⟩ := d1.cells; have d0 := b0.below hb l0; have hBd := hBw.trans (hb.mono hBw.size); clear hb))
        have z0 := d0.other4 (c := w.heap.size + 1) (by omega) (.int .u64 (wd (upK (fun k => !diB k) (k + 1)) 0 : Int)) (.int .u64 (wd (upK (fun k => !diB k) (k + 1)) 1 : Int)) (.int .u64 (wd (upK (fun k => !diB k) (k + 1)) 2 : Int)) (.int .u64 (wd (upK (fun k => !diB k) (k + 1)) 3 : Int))
        have z1 := d1.stored (upK (fun k => !diB k) (k + 1))
        have hR := below_set4 (c := w.heap.size + 1) hBd (by omega) (.int .u64 (wd (upK (fun k => !diB k) (k + 1)) 0 : Int)) (.int .u64 (wd (upK (fun k => !diB k) (k + 1)) 1 : Int)) (.int .u64 (wd (upK (fun k => !diB k) (k + 1)) 2 : Int)) (.int .u64 (wd (upK (fun k => !diB k) (k + 1)) 3 : Int))
        go_roundw
        case rel => exact ⟨k + 1, by omega, by go_num, z0, z1, hR⟩
        case measure => simp [intOf]; omega
      · have HD := Lib.hid hd
        have hF : (fun k => !diB k) k = false := by simp [hd]
        have HS := Lib.hid (upK_out (fun k => !diB k) k hF)
        clear hF
        clear hd
        go_wp2_with (first | (go_at_call 56; (with_reducible refine (isA_lit k _).mono ?_); rintro e wc ⟨rfl, rfl⟩) | (go_at_call 56; (with_reducible refine (isS_lit k _).mono ?_); rintro e wc ⟨rfl, rfl⟩) | (go_at_call 57; (with_reducible refine (digit_any k _).mono ?_); rw [HD.out]; rintro e wc ⟨rfl, rfl⟩))
        go_roundw
        case rel => exact ⟨k + 1, by omega, by go_num, b0, by rw [HS.out]; exact b1, hBw⟩
        case measure => simp [intOf]; omega
    · obtain rfl : k = 256 := by omega
      have c1 := b1.all
      have hne := HNE.out
      clear b1
      obtain ⟨q0, q1, q2, q3⟩ := c1.cells
      obtain ⟨q4, q5, q6, q7⟩ := b0.cells
      obtain ⟨r0, r1, r2, r3⟩ := b0.free
      have HR := Lib.hid (below_set4 (c := w.heap.size) (hBw.trans (Below.refl _ _).drew) (Nat.le_refl _) (.int .u64 (wd (fun k => !diB k) 0 : Int)) (.int .u64 (wd (fun k => !diB k) 1 : Int)) (.int .u64 (wd (fun k => !diB k) 2 : Int)) (.int .u64 (wd (fun k => !diB k) 3 : Int)))
      have Z := Lib.hid (b0.stored (fun k => !diB k)).cells
      clear b0 c1 hBw
      go_wp2
      go_region
      all_goals go_wp2
      all_goals refine bodyPost_ret (v := .tuple #[sv (fun k => !diB k), .bool true]) (by simp [results, Tryz.results41, go_sem, Z.out]) rfl ⟨rfl, HR.out⟩

set_option maxRecDepth 100000 in
set_option maxHeartbeats 4000000 in
theorem resc_ns (w : World) :
    Calls Tryz.prog 41 #[.int .i64 83] w fun e w' => e = .returned (.tuple #[sv (fun k => !isS k), .bool true]) ∧ Below w.heap.size w w' := by
  have S0 := Lib.hid ((isSet.newNone w).alloc (.cells #[.int .u64 0, .int .u64 0, .int .u64 0, .int .u64 0] 36))
  have S1 := Lib.hid (isSet.newNone (w.alloc (.cells #[.int .u64 0, .int .u64 0, .int .u64 0, .int .u64 0] 36)))
  have hne : ∀ w, (Op.equalIn 10000 36 (.agg #[.int .u64 (wd (fun k => !isS k) 0 : Int), .int .u64 (wd (fun k => !isS k) 1 : Int), .int .u64 (wd (fun k => !isS k) 2 : Int), .int .u64 (wd (fun k => !isS k) 3 : Int)]) (.agg #[.int .u64 0, .int .u64 0, .int .u64 0, .int .u64 0])).run Tryz.prog w = .ok false w := fun w => by
    rw [eq_any, not_all_zero (fun k => !isS k) 0 (by decide) rfl]
  have HNE := Lib.hid hne
  clear hne
  go_enter Tryz.func41, Tryz.ntmps41
  go_wp2
  go_loopw [5] (fun i wr => ∃ k : Nat, k ≤ 256 ∧ i = .int .i64 k ∧ isSet wr w.heap.size (fun _ => false) ∧ isSet wr (w.heap.size + 1) (upK (fun k => !isS k) k) ∧ Below w.heap.size w wr) (fun i _ => 256 - (intOf i).toNat)
  case atStart => exact ⟨0, Nat.zero_le _, rfl, S0.out, by rw [upK_zero]; have := S1.out; rw [World.size_alloc] at this; exact this, ((Below.refl _ _).alloc (Nat.le_refl _) _).alloc (by simp) _⟩
  case round =>
    obtain ⟨k, hk, rfl, b0, b1, hBw⟩ := hrel
    clear S0 S1
    have l0 := b0.lt; have l1 := b1.lt
    by_cases hlt : k < 256
    · obtain ⟨p0, p1, p2, p3⟩ := b1.cells
      cases hs : isS k
      · have HS2 := Lib.hid hs
        have hF : (fun k => !isS k) k = true := by simp [hs]
        have HS := Lib.hid (upK_in (fun k => !isS k) k hF)
        clear hF
        clear hs
        go_wp2_with (first | (go_at_call 56; (with_reducible refine (isA_lit k _).mono ?_); rintro e wc ⟨rfl, rfl⟩) | (go_at_call 56; (with_reducible refine (isS_lit k _).mono ?_); rw [HS2.out]; rintro e wc ⟨rfl, rfl⟩) | (go_at_call 36; (with_reducible refine (put_lit (upK (fun k => !isS k) k) _ k rfl hlt _).mono ?_); rw [HS.out]; rintro e wd1 ⟨rfl, hb⟩; have d1 := b1.below hb l1; obtain ⟨r0, r1, r2, r3⟩ := d1.free; clear p0 p1 p2 p3; obtain ⟨p0, p1, p2, p3⟩ := d1.cells; have d0 := b0.below hb l0; have hBd := hBw.trans (hb.mono hBw.size); clear hb))
        have z0 := d0.other4 (c := w.heap.size + 1) (by omega) (.int .u64 (wd (upK (fun k => !isS k) (k + 1)) 0 : Int)) (.int .u64 (wd (upK (fun k => !isS k) (k + 1)) 1 : Int)) (.int .u64 (wd (upK (fun k => !isS k) (k + 1)) 2 : Int)) (.int .u64 (wd (upK (fun k => !isS k) (k + 1)) 3 : Int))
        have z1 := d1.stored (upK (fun k => !isS k) (k + 1))
        have hR := below_set4 (c := w.heap.size + 1) hBd (by omega) (.int .u64 (wd (upK (fun k => !isS k) (k + 1)) 0 : Int)) (.int .u64 (wd (upK (fun k => !isS k) (k + 1)) 1 : Int)) (.int .u64 (wd (upK (fun k => !isS k) (k + 1)) 2 : Int)) (.int .u64 (wd (upK (fun k => !isS k) (k + 1)) 3 : Int))
        go_roundw
        case rel => exact ⟨k + 1, by omega, by go_num, z0, z1, hR⟩
        case measure => simp [intOf]; omega
      · have HS2 := Lib.hid hs
        have hF : (fun k => !isS k) k = false := by simp [hs]
        have HS := Lib.hid (upK_out (fun k => !isS k) k hF)
        clear hF
        clear hs
        go_wp2_with (first | (go_at_call 56; (with_reducible refine (isA_lit k _).mono ?_); rintro e wc ⟨rfl, rfl⟩) | (go_at_call 56; (with_reducible refine (isS_lit k _).mono ?_); rw [HS2.out]; rintro e wc ⟨rfl, rfl⟩))
        go_roundw
        case rel => exact ⟨k + 1, by omega, by go_num, b0, by rw [HS.out]; exact b1, hBw⟩
        case measure => simp [intOf]; omega
    · obtain rfl : k = 256 := by omega
      have c1 := b1.all
      have hne := HNE.out
      clear b1
      obtain ⟨q0, q1, q2, q3⟩ := c1.cells
      obtain ⟨q4, q5, q6, q7⟩ := b0.cells
      obtain ⟨r0, r1, r2, r3⟩ := b0.free
      have HR := Lib.hid (below_set4 (c := w.heap.size) (hBw.trans (Below.refl _ _).drew) (Nat.le_refl _) (.int .u64 (wd (fun k => !isS k) 0 : Int)) (.int .u64 (wd (fun k => !isS k) 1 : Int)) (.int .u64 (wd (fun k => !isS k) 2 : Int)) (.int .u64 (wd (fun k => !isS k) 3 : Int)))
      have Z := Lib.hid (b0.stored (fun k => !isS k)).cells
      clear b0 c1 hBw
      go_wp2
      go_region
      all_goals go_wp2
      all_goals refine bodyPost_ret (v := .tuple #[sv (fun k => !isS k), .bool true]) (by simp [results, Tryz.results41, go_sem, Z.out]) rfl ⟨rfl, HR.out⟩

set_option maxRecDepth 100000 in
set_option maxHeartbeats 4000000 in
theorem resc_nw (w : World) :
    Calls Tryz.prog 41 #[.int .i64 87] w fun e w' => e = .returned (.tuple #[sv (fun k => !wordR k), .bool true]) ∧ Below w.heap.size w w' := by
  have S0 := Lib.hid ((isSet.newNone w).alloc (.cells #[.int .u64 0, .int .u64 0, .int .u64 0, .int .u64 0] 36))
  have S1 := Lib.hid (isSet.newNone (w.alloc (.cells #[.int .u64 0, .int .u64 0, .int .u64 0, .int .u64 0] 36)))
  have hne : ∀ w, (Op.equalIn 10000 36 (.agg #[.int .u64 (wd (fun k => !wordR k) 0 : Int), .int .u64 (wd (fun k => !wordR k) 1 : Int), .int .u64 (wd (fun k => !wordR k) 2 : Int), .int .u64 (wd (fun k => !wordR k) 3 : Int)]) (.agg #[.int .u64 0, .int .u64 0, .int .u64 0, .int .u64 0])).run Tryz.prog w = .ok false w := fun w => by
    rw [eq_any, not_all_zero (fun k => !wordR k) 0 (by decide) rfl]
  have HNE := Lib.hid hne
  clear hne
  go_enter Tryz.func41, Tryz.ntmps41
  go_wp2
  go_loopw [5] (fun i wr => ∃ k : Nat, k ≤ 256 ∧ i = .int .i64 k ∧ isSet wr w.heap.size (fun _ => false) ∧ isSet wr (w.heap.size + 1) (upK (fun k => !wordR k) k) ∧ Below w.heap.size w wr) (fun i _ => 256 - (intOf i).toNat)
  case atStart => exact ⟨0, Nat.zero_le _, rfl, S0.out, by rw [upK_zero]; have := S1.out; rw [World.size_alloc] at this; exact this, ((Below.refl _ _).alloc (Nat.le_refl _) _).alloc (by simp) _⟩
  case round =>
    obtain ⟨k, hk, rfl, b0, b1, hBw⟩ := hrel
    clear S0 S1
    have l0 := b0.lt; have l1 := b1.lt
    by_cases hlt : k < 256
    · obtain ⟨p0, p1, p2, p3⟩ := b1.cells
      cases ha : isA k
      · have HA := Lib.hid ha
        by_cases he : k = 95
        · have e1 : ((k : Int) == 95) = true := by simp [he]
          have e2 : ((k : Int) != 95) = false := by simp [he]
          have hF : (fun k => !wordR k) k = false := by simp [wordR, ha]; omega
          have HS := Lib.hid (upK_out (fun k => !wordR k) k hF)
          clear hF
          clear ha he
          go_wp2_with (first | (go_at_call 56; (with_reducible refine (isA_lit k _).mono ?_); rw [HA.out]; rintro e wc ⟨rfl, rfl⟩) | (go_at_call 56; (with_reducible refine (isS_lit k _).mono ?_); rintro e wc ⟨rfl, rfl⟩))
          go_roundw
          case rel => exact ⟨k + 1, by omega, by go_num, b0, by rw [HS.out]; exact b1, hBw⟩
          case measure => simp [intOf]; omega
        · have e1 : ((k : Int) == 95) = false := by simp; omega
          have e2 : ((k : Int) != 95) = true := by simp; omega
          have hF : (fun k => !wordR k) k = true := by simp [wordR, ha]; omega
          have HS := Lib.hid (upK_in (fun k => !wordR k) k hF)
          clear hF
          clear ha he
          go_wp2_with (first | (go_at_call 56; (with_reducible refine (isA_lit k _).mono ?_); rw [HA.out]; rintro e wc ⟨rfl, rfl⟩) | (go_at_call 56; (with_reducible refine (isS_lit k _).mono ?_); rintro e wc ⟨rfl, rfl⟩) | (go_at_call 36; (with_reducible refine (put_lit (upK (fun k => !wordR k) k) _ k rfl hlt _).mono ?_); rw [HS.out]; rintro e wd1 ⟨rfl, hb⟩; have d1 := b1.below hb l1; obtain ⟨r0, r1, r2, r3⟩ := d1.free; clear p0 p1 p2 p3; obtain ⟨p0, p1, p2, p3⟩ := d1.cells; have d0 := b0.below hb l0; have hBd := hBw.trans (hb.mono hBw.size); clear hb))
          have z0 := d0.other4 (c := w.heap.size + 1) (by omega) (.int .u64 (wd (upK (fun k => !wordR k) (k + 1)) 0 : Int)) (.int .u64 (wd (upK (fun k => !wordR k) (k + 1)) 1 : Int)) (.int .u64 (wd (upK (fun k => !wordR k) (k + 1)) 2 : Int)) (.int .u64 (wd (upK (fun k => !wordR k) (k + 1)) 3 : Int))
          have z1 := d1.stored (upK (fun k => !wordR k) (k + 1))
          have hR := below_set4 (c := w.heap.size + 1) hBd (by omega) (.int .u64 (wd (upK (fun k => !wordR k) (k + 1)) 0 : Int)) (.int .u64 (wd (upK (fun k => !wordR k) (k + 1)) 1 : Int)) (.int .u64 (wd (upK (fun k => !wordR k) (k + 1)) 2 : Int)) (.int .u64 (wd (upK (fun k => !wordR k) (k + 1)) 3 : Int))
          go_roundw
          case rel => exact ⟨k + 1, by omega, by go_num, z0, z1, hR⟩
          case measure => simp [intOf]; omega
      · have HA := Lib.hid ha
        have hF : (fun k => !wordR k) k = false := by simp [wordR, ha]
        have HS := Lib.hid (upK_out (fun k => !wordR k) k hF)
        clear hF
        clear ha
        go_wp2_with (first | (go_at_call 56; (with_reducible refine (isA_lit k _).mono ?_); rw [HA.out]; rintro e wc ⟨rfl, rfl⟩) | (go_at_call 56; (with_reducible refine (isS_lit k _).mono ?_); rintro e wc ⟨rfl, rfl⟩))
        go_roundw
        case rel => exact ⟨k + 1, by omega, by go_num, b0, by rw [HS.out]; exact b1, hBw⟩
        case measure => simp [intOf]; omega
    · obtain rfl : k = 256 := by omega
      have c1 := b1.all
      have hne := HNE.out
      clear b1
      obtain ⟨q0, q1, q2, q3⟩ := c1.cells
      obtain ⟨q4, q5, q6, q7⟩ := b0.cells
      obtain ⟨r0, r1, r2, r3⟩ := b0.free
      have HR := Lib.hid (below_set4 (c := w.heap.size) (hBw.trans (Below.refl _ _).drew) (Nat.le_refl _) (.int .u64 (wd (fun k => !wordR k) 0 : Int)) (.int .u64 (wd (fun k => !wordR k) 1 : Int)) (.int .u64 (wd (fun k => !wordR k) 2 : Int)) (.int .u64 (wd (fun k => !wordR k) 3 : Int)))
      have Z := Lib.hid (b0.stored (fun k => !wordR k)).cells
      clear b0 c1 hBw
      go_wp2
      go_region
      all_goals go_wp2
      all_goals refine bodyPost_ret (v := .tuple #[sv (fun k => !wordR k), .bool true]) (by simp [results, Tryz.results41, go_sem, Z.out]) rfl ⟨rfl, HR.out⟩

set_option maxRecDepth 100000 in
set_option maxHeartbeats 4000000 in
theorem resc_none (c : Nat) (_ : c < 256) (h110 : ((c : Int) == 110) = false) (h116 : ((c : Int) == 116) = false) (h114 : ((c : Int) == 114) = false) (h100 : ((c : Int) == 100) = false) (h115 : ((c : Int) == 115) = false) (h119 : ((c : Int) == 119) = false) (h68 : ((c : Int) == 68) = false) (h83 : ((c : Int) == 83) = false) (h87 : ((c : Int) == 87) = false) (HA : Hid (isA c = true)) (w : World) :
    Calls Tryz.prog 41 #[.int .i64 (c : Int)] w fun e w' => e = .returned (.tuple #[sv (fun _ => false), .bool false]) ∧ Below w.heap.size w w' := by
  have S0 := Lib.hid ((isSet.newNone w).alloc (.cells #[.int .u64 0, .int .u64 0, .int .u64 0, .int .u64 0] 36))
  have S1 := Lib.hid (isSet.newNone (w.alloc (.cells #[.int .u64 0, .int .u64 0, .int .u64 0, .int .u64 0] 36)))
  have hne : ∀ w, (Op.equalIn 10000 36 (.agg #[.int .u64 0, .int .u64 0, .int .u64 0, .int .u64 0]) (.agg #[.int .u64 0, .int .u64 0, .int .u64 0, .int .u64 0])).run Tryz.prog w = .ok true w := fun w => eq_set 0 0 0 0 w
  have HNE := Lib.hid hne
  clear hne
  go_enter Tryz.func41, Tryz.ntmps41
  go_wp2
  go_loopw [5] (fun i wr => ∃ k : Nat, k ≤ 256 ∧ i = .int .i64 k ∧ isSet wr w.heap.size (fun _ => false) ∧ isSet wr (w.heap.size + 1) (upK (fun _ => false) k) ∧ Below w.heap.size w wr) (fun i _ => 256 - (intOf i).toNat)
  case atStart => exact ⟨0, Nat.zero_le _, rfl, S0.out, by rw [upK_zero]; have := S1.out; rw [World.size_alloc] at this; exact this, ((Below.refl _ _).alloc (Nat.le_refl _) _).alloc (by simp) _⟩
  case round =>
    obtain ⟨k, hk, rfl, b0, b1, hBw⟩ := hrel
    clear S0 S1
    have l0 := b0.lt; have l1 := b1.lt
    by_cases hlt : k < 256
    · obtain ⟨p0, p1, p2, p3⟩ := b1.cells
      by_cases he : k = c
      · have e1 : ((k : Int) == (c : Int)) = true := by simp [he]
        have e2 : (k == c) = true := by simp [he]
        have HA2 : isA k = true := by rw [he]; exact HA.out
        have HA := Lib.hid HA2
        clear HA2
        have hF : (fun _ => false) k = false := by rfl
        have HS := Lib.hid (upK_out (fun _ => false) k hF)
        clear hF
        clear he
        go_wp2_with (first | (go_at_call 56; (with_reducible refine (isA_lit k _).mono ?_); rw [HA.out]; rintro e wc ⟨rfl, rfl⟩) | (go_at_call 56; (with_reducible refine (isS_lit k _).mono ?_); rintro e wc ⟨rfl, rfl⟩))
        go_roundw
        case rel => exact ⟨k + 1, by omega, by go_num, b0, by rw [HS.out]; exact b1, hBw⟩
        case measure => simp [intOf]; omega
      · have e1 : ((k : Int) == (c : Int)) = false := by simp; omega
        have e2 : (k == c) = false := by simp; omega
        have hF : (fun _ => false) k = false := by rfl
        have HS := Lib.hid (upK_out (fun _ => false) k hF)
        clear hF
        clear he
        go_wp2_with (first | (go_at_call 56; (with_reducible refine (isA_lit k _).mono ?_); rintro e wc ⟨rfl, rfl⟩) | (go_at_call 56; (with_reducible refine (isS_lit k _).mono ?_); rintro e wc ⟨rfl, rfl⟩))
        go_roundw
        case rel => exact ⟨k + 1, by omega, by go_num, b0, by rw [HS.out]; exact b1, hBw⟩
        case measure => simp [intOf]; omega
    · obtain rfl : k = 256 := by omega
      have c1 := b1.all
      have hne := HNE.out
      clear b1
      have HV : Hid (sv (fun _ => false) = .agg #[.int .u64 0, .int .u64 0, .int .u64 0, .int .u64 0]) := by unfold sv; simp only [none_wd]; exact rfl
      have q := c1.cells
      simp only [none_wd] at q
      obtain ⟨q0, q1, q2, q3⟩ := q
      have q' := b0.cells
      simp only [none_wd] at q'
      obtain ⟨q4, q5, q6, q7⟩ := q'
      obtain ⟨r0, r1, r2, r3⟩ := b0.free
      have HR := Lib.hid (below_set4 (c := w.heap.size) (hBw.trans (Below.refl _ _).drew) (Nat.le_refl _) (.int .u64 0) (.int .u64 0) (.int .u64 0) (.int .u64 0))
      clear b0 c1 hBw
      go_wp2
      go_region
      all_goals go_wp2
      all_goals refine bodyPost_ret (v := .tuple #[.agg #[.int .u64 0, .int .u64 0, .int .u64 0, .int .u64 0], .bool false]) (by simp [results, Tryz.results41, go_sem, q4, q5, q6, q7]) rfl ⟨by rw [HV.out], HR.out⟩

set_option maxRecDepth 100000 in
set_option maxHeartbeats 4000000 in
theorem resc_self (c : Nat) (hc : c < 256) (h110 : ((c : Int) == 110) = false) (h116 : ((c : Int) == 116) = false) (h114 : ((c : Int) == 114) = false) (h100 : ((c : Int) == 100) = false) (h115 : ((c : Int) == 115) = false) (h119 : ((c : Int) == 119) = false) (h68 : ((c : Int) == 68) = false) (h83 : ((c : Int) == 83) = false) (h87 : ((c : Int) == 87) = false) (HA : Hid (isA c = false)) (w : World) :
    Calls Tryz.prog 41 #[.int .i64 (c : Int)] w fun e w' => e = .returned (.tuple #[sv (fun k => decide (k = c)), .bool true]) ∧ Below w.heap.size w w' := by
  have S0 := Lib.hid ((isSet.newNone w).alloc (.cells #[.int .u64 0, .int .u64 0, .int .u64 0, .int .u64 0] 36))
  have S1 := Lib.hid (isSet.newNone (w.alloc (.cells #[.int .u64 0, .int .u64 0, .int .u64 0, .int .u64 0] 36)))
  have hne : ∀ w, (Op.equalIn 10000 36 (.agg #[.int .u64 (wd (fun k => decide (k = c)) 0 : Int), .int .u64 (wd (fun k => decide (k = c)) 1 : Int), .int .u64 (wd (fun k => decide (k = c)) 2 : Int), .int .u64 (wd (fun k => decide (k = c)) 3 : Int)]) (.agg #[.int .u64 0, .int .u64 0, .int .u64 0, .int .u64 0])).run Tryz.prog w = .ok false w := fun w => by
    rw [eq_any, not_all_zero (fun k => decide (k = c)) c hc (by simp)]
  have HNE := Lib.hid hne
  clear hne
  go_enter Tryz.func41, Tryz.ntmps41
  go_wp2
  go_loopw [5] (fun i wr => ∃ k : Nat, k ≤ 256 ∧ i = .int .i64 k ∧ isSet wr w.heap.size (fun _ => false) ∧ isSet wr (w.heap.size + 1) (upK (fun k => decide (k = c)) k) ∧ Below w.heap.size w wr) (fun i _ => 256 - (intOf i).toNat)
  case atStart => exact ⟨0, Nat.zero_le _, rfl, S0.out, by rw [upK_zero]; have := S1.out; rw [World.size_alloc] at this; exact this, ((Below.refl _ _).alloc (Nat.le_refl _) _).alloc (by simp) _⟩
  case round =>
    obtain ⟨k, hk, rfl, b0, b1, hBw⟩ := hrel
    clear S0 S1
    have l0 := b0.lt; have l1 := b1.lt
    by_cases hlt : k < 256
    · obtain ⟨p0, p1, p2, p3⟩ := b1.cells
      by_cases he : k = c
      · have e1 : ((k : Int) == (c : Int)) = true := by simp [he]
        have e2 : (k == c) = true := by simp [he]
        have HA2 : isA k = false := by rw [he]; exact HA.out
        have HA := Lib.hid HA2
        clear HA2
        have hF : (fun k => decide (k = c)) k = true := by simp [he]
        have HS := Lib.hid (upK_in (fun k => decide (k = c)) k hF)
        clear hF
        clear he
        go_wp2_with (first | (go_at_call 56; (with_reducible refine (isA_lit k _).mono ?_); rw [HA.out]; rintro e wc ⟨rfl, rfl⟩) | (go_at_call 56; (with_reducible refine (isS_lit k _).mono ?_); rintro e wc ⟨rfl, rfl⟩) | (go_at_call 36; (with_reducible refine (put_lit (upK (fun k => decide (k = c)) k) _ k rfl hlt _).mono ?_); rw [HS.out]; rintro e wd1 ⟨rfl, hb⟩; have d1 := b1.below hb l1; obtain ⟨r0, r1, r2, r3⟩ := d1.free; clear p0 p1 p2 p3; obtain ⟨p0, p1, p2, p3⟩ := d1.cells; have d0 := b0.below hb l0; have hBd := hBw.trans (hb.mono hBw.size); clear hb))
        have z0 := d0.other4 (c := w.heap.size + 1) (by omega) (.int .u64 (wd (upK (fun k => decide (k = c)) (k + 1)) 0 : Int)) (.int .u64 (wd (upK (fun k => decide (k = c)) (k + 1)) 1 : Int)) (.int .u64 (wd (upK (fun k => decide (k = c)) (k + 1)) 2 : Int)) (.int .u64 (wd (upK (fun k => decide (k = c)) (k + 1)) 3 : Int))
        have z1 := d1.stored (upK (fun k => decide (k = c)) (k + 1))
        have hR := below_set4 (c := w.heap.size + 1) hBd (by omega) (.int .u64 (wd (upK (fun k => decide (k = c)) (k + 1)) 0 : Int)) (.int .u64 (wd (upK (fun k => decide (k = c)) (k + 1)) 1 : Int)) (.int .u64 (wd (upK (fun k => decide (k = c)) (k + 1)) 2 : Int)) (.int .u64 (wd (upK (fun k => decide (k = c)) (k + 1)) 3 : Int))
        go_roundw
        case rel => exact ⟨k + 1, by omega, by go_num, z0, z1, hR⟩
        case measure => simp [intOf]; omega
      · have e1 : ((k : Int) == (c : Int)) = false := by simp; omega
        have e2 : (k == c) = false := by simp; omega
        have hF : (fun k => decide (k = c)) k = false := by simp [he]
        have HS := Lib.hid (upK_out (fun k => decide (k = c)) k hF)
        clear hF
        clear he
        go_wp2_with (first | (go_at_call 56; (with_reducible refine (isA_lit k _).mono ?_); rintro e wc ⟨rfl, rfl⟩) | (go_at_call 56; (with_reducible refine (isS_lit k _).mono ?_); rintro e wc ⟨rfl, rfl⟩))
        go_roundw
        case rel => exact ⟨k + 1, by omega, by go_num, b0, by rw [HS.out]; exact b1, hBw⟩
        case measure => simp [intOf]; omega
    · obtain rfl : k = 256 := by omega
      have c1 := b1.all
      have hne := HNE.out
      clear b1
      obtain ⟨q0, q1, q2, q3⟩ := c1.cells
      obtain ⟨q4, q5, q6, q7⟩ := b0.cells
      obtain ⟨r0, r1, r2, r3⟩ := b0.free
      have HR := Lib.hid (below_set4 (c := w.heap.size) (hBw.trans (Below.refl _ _).drew) (Nat.le_refl _) (.int .u64 (wd (fun k => decide (k = c)) 0 : Int)) (.int .u64 (wd (fun k => decide (k = c)) 1 : Int)) (.int .u64 (wd (fun k => decide (k = c)) 2 : Int)) (.int .u64 (wd (fun k => decide (k = c)) 3 : Int)))
      have Z := Lib.hid (b0.stored (fun k => decide (k = c))).cells
      clear b0 c1 hBw
      go_wp2
      go_region
      all_goals go_wp2
      all_goals refine bodyPost_ret (v := .tuple #[sv (fun k => decide (k = c)), .bool true]) (by simp [results, Tryz.results41, go_sem, Z.out]) rfl ⟨rfl, HR.out⟩

/-- What a byte behind a backslash stands for; does it stand for anything? -/
def escF (c : Nat) : Nat → Bool :=
  if c = 110 then fun k => decide (k = 10) else if c = 116 then fun k => decide (k = 9) else if c = 114 then fun k => decide (k = 13)
  else if c = 100 then diB else if c = 115 then isS else if c = 119 then wordR
  else if c = 68 then fun k => !diB k else if c = 83 then fun k => !isS k else if c = 87 then fun k => !wordR k
  else if isA c = true then fun _ => false else fun k => decide (k = c)
def escOk (c : Nat) : Bool :=
  decide (c = 110) || decide (c = 116) || decide (c = 114) || decide (c = 100) || decide (c = 115) || decide (c = 119) || decide (c = 68) || decide (c = 83) || decide (c = 87) || !isA c
theorem resc_any (c : Nat) (hc : c < 256) (w : World) :
    Calls Tryz.prog 41 #[.int .i64 (c : Int)] w fun e w' => e = .returned (.tuple #[sv (escF c), .bool (escOk c)]) ∧ Below w.heap.size w w' := by
  by_cases h1 : c = 110
  · subst h1; exact resc_n w
  by_cases h2 : c = 116
  · subst h2; exact resc_t w
  by_cases h3 : c = 114
  · subst h3; exact resc_r w
  by_cases h4 : c = 100
  · subst h4; exact resc_d w
  by_cases h5 : c = 115
  · subst h5; exact resc_s w
  by_cases h6 : c = 119
  · subst h6; exact resc_w w
  by_cases h7 : c = 68
  · subst h7; exact resc_nd w
  by_cases h8 : c = 83
  · subst h8; exact resc_ns w
  by_cases h9 : c = 87
  · subst h9; exact resc_nw w
  have g : ∀ n : Nat, c ≠ n → ((c : Int) == (n : Int)) = false := fun n h => by simp; omega
  cases ha : isA c
  · have hF : escF c = fun k => decide (k = c) := by simp [escF, h1, h2, h3, h4, h5, h6, h7, h8, h9, ha]
    have hO : escOk c = true := by simp [escOk, ha]
    rw [hF, hO]
    exact resc_self c hc (g 110 h1) (g 116 h2) (g 114 h3) (g 100 h4) (g 115 h5) (g 119 h6) (g 68 h7) (g 83 h8) (g 87 h9) (Lib.hid ha) w
  · have hF : escF c = fun _ => false := by simp [escF, h1, h2, h3, h4, h5, h6, h7, h8, h9, ha]
    have hO : escOk c = false := by simp [escOk, h1, h2, h3, h4, h5, h6, h7, h8, h9, ha]
    rw [hF, hO]
    exact resc_none c hc (g 110 h1) (g 116 h2) (g 114 h3) (g 100 h4) (g 115 h5) (g 119 h6) (g 68 h7) (g 83 h8) (g 87 h9) (Lib.hid ha) w
end Go.Proofs.YtiahgcgpakgeeaaGreatDoor
