/-
  The walk of the third reference's number.
-/
import Derived.Test.YtiahgcgpakgeeaaGreatDoorPk8
namespace Go.Proofs.YtiahgcgpakgeeaaGreatDoor
open Go.RowKit

/-- The byte at a place; 256: none is there. -/
def gb (p : ByteArray) (i : Nat) : Nat := if h : i < p.size then (p[i]'h).toNat else 256
theorem gb_in {p : ByteArray} {i : Nat} (h : i < p.size) : (p[i]'h).toNat = gb p i := by unfold gb; rw [dif_pos h]
theorem gb_lt {p : ByteArray} {i : Nat} (h : i < p.size) : gb p i < 256 := by rw [← gb_in h]; exact UInt8.toNat_lt _
theorem gb_out {p : ByteArray} {i : Nat} (h : p.size ≤ i) : gb p i = 256 := by unfold gb; rw [dif_neg (by omega)]
def isD (p : ByteArray) (j : Nat) : Bool := decide (48 ≤ gb p j) && decide (gb p j ≤ 57)
theorem isD_true {p : ByteArray} {j : Nat} (h : isD p j = true) : ∃ a d, Hid (gb p j = d + 48) ∧ Hid (a = d + 48) ∧ d ≤ 9 ∧ ∃ hj : j < p.size, (p[j]'hj).toNat = a := by
  have h' : 48 ≤ gb p j ∧ gb p j ≤ 57 := by simpa [isD] using h
  have hj : j < p.size := by
    rcases Nat.lt_or_ge j p.size with h1 | h1
    · exact h1
    · have := gb_out h1; omega
  exact ⟨gb p j, gb p j - 48, Lib.hid (by omega), Lib.hid (by omega), by omega, hj, gb_in hj⟩
theorem isD_false {p : ByteArray} {j : Nat} (h : isD p j = false) : p.size ≤ j ∨ (∃ a, a < 48 ∧ ∃ hj : j < p.size, (p[j]'hj).toNat = a) ∨ ∃ a, 57 < a ∧ a < 256 ∧ ∃ hj : j < p.size, (p[j]'hj).toNat = a := by
  have h' : 48 ≤ gb p j → 57 < gb p j := by simpa [isD] using h
  rcases Nat.lt_or_ge j p.size with hj | hj
  · rcases Nat.lt_or_ge (gb p j) 48 with h1 | h1
    · exact .inr (.inl ⟨gb p j, h1, hj, gb_in hj⟩)
    · exact .inr (.inr ⟨gb p j, h' h1, gb_lt hj, hj, gb_in hj⟩)
  · exact .inl hj

/-- What a digit is worth. -/
def dv (p : ByteArray) (k : Nat) : Nat := gb p k - 48
/-- A number of one or two digits, 0 to 32, without a nought ahead of another digit, and where it ends; -1: there is none. -/
def numF (p : ByteArray) (k : Nat) : Int :=
  if isD p k = true then
    if isD p (k + 1) = true then
      if isD p (k + 2) = true then -1
      else if dv p k = 0 ∨ 32 < dv p k * 10 + dv p (k + 1) then -1 else ((dv p k * 10 + dv p (k + 1) : Nat) : Int)
    else (dv p k : Nat)
  else -1
def numN (p : ByteArray) (k : Nat) : Nat :=
  if isD p k = true then if isD p (k + 1) = true then if isD p (k + 2) = true then k + 3 else k + 2 else k + 1 else k
def numPost (p : ByteArray) (k : Nat) (w : World) (e : Ending) (w' : World) : Prop := e = .returned (.tuple #[.int .i64 (numF p k), .int .i64 (numN p k : Nat)]) ∧ w = w'
theorem numPost.mk {p : ByteArray} {k : Nat} {w : World} {x y : Int} (h1 : x = numF p k) (h2 : y = (numN p k : Nat)) : numPost p k w (.returned (.tuple #[.int .i64 x, .int .i64 y])) w := ⟨by rw [h1, h2], rfl⟩
theorem dig10_any (c d : Nat) (h1 : c = d + 48) (h2 : d ≤ 9) (w : World) : Calls Tryz.prog 42 #[.int .u8 (c : Int)] w fun e w' => e = .returned (.int .i64 (d : Int)) ∧ w = w' :=
  (dig16_any c (by omega) w).mono fun e w' h => ⟨by
    have : dig16 c = (d : Int) := by unfold dig16; rw [if_pos (by omega)]; omega
    rw [h.1, this], h.2⟩

set_option maxRecDepth 100000 in
set_option maxHeartbeats 8000000 in
theorem number_any (p : ByteArray) (k : Nat) (w : World) (hp : p.size ≤ 200) (hk : k ≤ p.size) :
    Calls Tryz.prog 37 #[.string p, .int .i64 (k : Int)] w (numPost p k w) := by
  cases e0 : isD p k
  · have HF : Hid (-1 = numF p k) := Lib.hid (by unfold numF; rw [if_neg (by rw [e0]; decide)])
    have HN : Hid ((k : Int) = (numN p k : Nat)) := Lib.hid (by unfold numN; rw [if_neg (by rw [e0]; decide)])
    rcases isD_false e0 with h | ⟨a, ha, hj, g⟩ | ⟨a, ha, ha2, hj, g⟩
    · clear e0
      go_enter Tryz.func37, Tryz.ntmps37
      go_wp2
      refine wp_loop_rounds 1 ?_
      rw [rounds_succ]; go_wp2
      all_goals go_ret2
      all_goals exact numPost.mk HF.out HN.out
    · clear e0
      have u1 : decide ((48 : Int) ≤ (a : Int)) = false := decide_eq_false (by omega)
      go_enter Tryz.func37, Tryz.ntmps37
      go_wp2
      refine wp_loop_rounds 1 ?_
      rw [rounds_succ]; go_wp2
      all_goals go_ret2
      all_goals exact numPost.mk HF.out HN.out
    · clear e0
      have u1 : decide ((48 : Int) ≤ (a : Int)) = true := decide_eq_true (by omega)
      have u2 : decide ((a : Int) ≤ 57) = false := decide_eq_false (by omega)
      go_enter Tryz.func37, Tryz.ntmps37
      go_wp2
      refine wp_loop_rounds 1 ?_
      rw [rounds_succ]; go_wp2
      all_goals go_ret2
      all_goals exact numPost.mk HF.out HN.out
  · obtain ⟨a0, d0, V0, A0, m0, h0, g0⟩ := isD_true e0
    have p01 : decide ((48 : Int) ≤ (a0 : Int)) = true := decide_eq_true (by have := A0.out; omega)
    have p02 : decide ((a0 : Int) ≤ 57) = true := decide_eq_true (by have := A0.out; omega)
    have p03 : decide ((32 : Int) < (d0 : Int)) = false := decide_eq_false (by omega)
    have p04 : (d0 : Int) ≤ 32 := by omega
    have w0 : dv p k = d0 := by unfold dv; rw [V0.out]; omega
    have W0 := Lib.hid w0
    clear w0
    cases e1 : isD p (k + 1)
    · have HF : Hid ((d0 : Int) = numF p k) := Lib.hid (by unfold numF; rw [if_pos e0, if_neg (by rw [e1]; decide), W0.out])
      have HN : Hid ((k : Int) + 1 = (numN p k : Nat)) := Lib.hid (by unfold numN; rw [if_pos e0, if_neg (by rw [e1]; decide)]; rfl)
      have x1 : ((k : Int) + 1 == (k : Int)) = false := beq_eq_false_iff_ne.2 (by omega)
      have x2 : ((k : Int) + 1 == (k : Int) + 3) = false := beq_eq_false_iff_ne.2 (by omega)
      have x3 : ((k : Int) + 1 == (k : Int) + 2) = false := beq_eq_false_iff_ne.2 (by omega)
      clear e0
      rcases isD_false e1 with h | ⟨a, ha, hj, g⟩ | ⟨a, ha, ha2, hj, g⟩
      · clear e1
        go_enter Tryz.func37, Tryz.ntmps37
        go_wp2
        refine wp_loop_rounds 2 ?_
        rw [rounds_succ]; go_wp2_with (go_at_call 42; (with_reducible refine (dig10_any a0 d0 A0.out m0 _).mono ?_); rintro e wc ⟨rfl, rfl⟩)
        rw [rounds_succ]; go_wp2
        all_goals go_ret2
        all_goals exact numPost.mk HF.out HN.out
      · clear e1
        have u1 : decide ((48 : Int) ≤ (a : Int)) = false := decide_eq_false (by omega)
        go_enter Tryz.func37, Tryz.ntmps37
        go_wp2
        refine wp_loop_rounds 2 ?_
        rw [rounds_succ]; go_wp2_with (go_at_call 42; (with_reducible refine (dig10_any a0 d0 A0.out m0 _).mono ?_); rintro e wc ⟨rfl, rfl⟩)
        rw [rounds_succ]; go_wp2
        all_goals go_ret2
        all_goals exact numPost.mk HF.out HN.out
      · clear e1
        have u1 : decide ((48 : Int) ≤ (a : Int)) = true := decide_eq_true (by omega)
        have u2 : decide ((a : Int) ≤ 57) = false := decide_eq_false (by omega)
        go_enter Tryz.func37, Tryz.ntmps37
        go_wp2
        refine wp_loop_rounds 2 ?_
        rw [rounds_succ]; go_wp2_with (go_at_call 42; (with_reducible refine (dig10_any a0 d0 A0.out m0 _).mono ?_); rintro e wc ⟨rfl, rfl⟩)
        rw [rounds_succ]; go_wp2
        all_goals go_ret2
        all_goals exact numPost.mk HF.out HN.out
    · obtain ⟨a1, d1, V1, A1, m1, h1, g1⟩ := isD_true e1
      have p11 : decide ((48 : Int) ≤ (a1 : Int)) = true := decide_eq_true (by have := A1.out; omega)
      have p12 : decide ((a1 : Int) ≤ 57) = true := decide_eq_true (by have := A1.out; omega)
      have p13 : decide ((32 : Int) < (d1 : Int)) = false := decide_eq_false (by omega)
      have p14 : (d1 : Int) ≤ 32 := by omega
      have w1 : dv p (k + 1) = d1 := by unfold dv; rw [V1.out]; omega
      have W1 := Lib.hid w1
      clear w1
      cases e2 : isD p (k + 2)
      · have HN : Hid ((k : Int) + 2 = (numN p k : Nat)) := Lib.hid (by unfold numN; rw [if_pos e0, if_pos e1, if_neg (by rw [e2]; decide)]; rfl)
        have y1 : ((k : Int) + 2 == (k : Int)) = false := beq_eq_false_iff_ne.2 (by omega)
        have y2 : ((k : Int) + 2 == (k : Int) + 3) = false := beq_eq_false_iff_ne.2 (by omega)
        rcases Nat.eq_zero_or_pos d0 with z | z
        · have HF : Hid (-1 = numF p k) := Lib.hid (by unfold numF; rw [if_pos e0, if_pos e1, if_neg (by rw [e2]; decide), W0.out, if_pos (.inl z)])
          have n1 : ((a0 : Int) == 48) = true := by have := A0.out; simp; omega
          have n2 : decide ((32 : Int) < (d0 : Int) * 10 + (d1 : Int)) = false := decide_eq_false (by omega)
          clear e0 e1 z
          rcases isD_false e2 with h | ⟨a, ha, hj, g⟩ | ⟨a, ha, ha2, hj, g⟩
          · clear e2
            go_enter Tryz.func37, Tryz.ntmps37
            go_wp2
            refine wp_loop_rounds 3 ?_
            rw [rounds_succ]; go_wp2_with (go_at_call 42; (with_reducible refine (dig10_any a0 d0 A0.out m0 _).mono ?_); rintro e wc ⟨rfl, rfl⟩)
            rw [rounds_succ]; go_wp2_with (go_at_call 42; (with_reducible refine (dig10_any a1 d1 A1.out m1 _).mono ?_); rintro e wc ⟨rfl, rfl⟩)
            rw [rounds_succ]; go_wp2
            all_goals go_ret2
            all_goals exact numPost.mk HF.out HN.out
          · clear e2
            have u1 : decide ((48 : Int) ≤ (a : Int)) = false := decide_eq_false (by omega)
            go_enter Tryz.func37, Tryz.ntmps37
            go_wp2
            refine wp_loop_rounds 3 ?_
            rw [rounds_succ]; go_wp2_with (go_at_call 42; (with_reducible refine (dig10_any a0 d0 A0.out m0 _).mono ?_); rintro e wc ⟨rfl, rfl⟩)
            rw [rounds_succ]; go_wp2_with (go_at_call 42; (with_reducible refine (dig10_any a1 d1 A1.out m1 _).mono ?_); rintro e wc ⟨rfl, rfl⟩)
            rw [rounds_succ]; go_wp2
            all_goals go_ret2
            all_goals exact numPost.mk HF.out HN.out
          · clear e2
            have u1 : decide ((48 : Int) ≤ (a : Int)) = true := decide_eq_true (by omega)
            have u2 : decide ((a : Int) ≤ 57) = false := decide_eq_false (by omega)
            go_enter Tryz.func37, Tryz.ntmps37
            go_wp2
            refine wp_loop_rounds 3 ?_
            rw [rounds_succ]; go_wp2_with (go_at_call 42; (with_reducible refine (dig10_any a0 d0 A0.out m0 _).mono ?_); rintro e wc ⟨rfl, rfl⟩)
            rw [rounds_succ]; go_wp2_with (go_at_call 42; (with_reducible refine (dig10_any a1 d1 A1.out m1 _).mono ?_); rintro e wc ⟨rfl, rfl⟩)
            rw [rounds_succ]; go_wp2
            all_goals go_ret2
            all_goals exact numPost.mk HF.out HN.out
        · have n1 : ((a0 : Int) == 48) = false := by have := A0.out; simp; omega
          by_cases hb : 32 < d0 * 10 + d1
          · have HF : Hid (-1 = numF p k) := Lib.hid (by unfold numF; rw [if_pos e0, if_pos e1, if_neg (by rw [e2]; decide), W0.out, W1.out, if_pos (.inr hb)])
            have n2 : decide ((32 : Int) < (d0 : Int) * 10 + (d1 : Int)) = true := decide_eq_true (by omega)
            clear e0 e1 z hb
            rcases isD_false e2 with h | ⟨a, ha, hj, g⟩ | ⟨a, ha, ha2, hj, g⟩
            · clear e2
              go_enter Tryz.func37, Tryz.ntmps37
              go_wp2
              refine wp_loop_rounds 3 ?_
              rw [rounds_succ]; go_wp2_with (go_at_call 42; (with_reducible refine (dig10_any a0 d0 A0.out m0 _).mono ?_); rintro e wc ⟨rfl, rfl⟩)
              rw [rounds_succ]; go_wp2_with (go_at_call 42; (with_reducible refine (dig10_any a1 d1 A1.out m1 _).mono ?_); rintro e wc ⟨rfl, rfl⟩)
              rw [rounds_succ]; go_wp2
              all_goals go_ret2
              all_goals exact numPost.mk HF.out HN.out
            · clear e2
              have u1 : decide ((48 : Int) ≤ (a : Int)) = false := decide_eq_false (by omega)
              go_enter Tryz.func37, Tryz.ntmps37
              go_wp2
              refine wp_loop_rounds 3 ?_
              rw [rounds_succ]; go_wp2_with (go_at_call 42; (with_reducible refine (dig10_any a0 d0 A0.out m0 _).mono ?_); rintro e wc ⟨rfl, rfl⟩)
              rw [rounds_succ]; go_wp2_with (go_at_call 42; (with_reducible refine (dig10_any a1 d1 A1.out m1 _).mono ?_); rintro e wc ⟨rfl, rfl⟩)
              rw [rounds_succ]; go_wp2
              all_goals go_ret2
              all_goals exact numPost.mk HF.out HN.out
            · clear e2
              have u1 : decide ((48 : Int) ≤ (a : Int)) = true := decide_eq_true (by omega)
              have u2 : decide ((a : Int) ≤ 57) = false := decide_eq_false (by omega)
              go_enter Tryz.func37, Tryz.ntmps37
              go_wp2
              refine wp_loop_rounds 3 ?_
              rw [rounds_succ]; go_wp2_with (go_at_call 42; (with_reducible refine (dig10_any a0 d0 A0.out m0 _).mono ?_); rintro e wc ⟨rfl, rfl⟩)
              rw [rounds_succ]; go_wp2_with (go_at_call 42; (with_reducible refine (dig10_any a1 d1 A1.out m1 _).mono ?_); rintro e wc ⟨rfl, rfl⟩)
              rw [rounds_succ]; go_wp2
              all_goals go_ret2
              all_goals exact numPost.mk HF.out HN.out
          · have HF : Hid ((d0 : Int) * 10 + (d1 : Int) = numF p k) := Lib.hid (by unfold numF; rw [if_pos e0, if_pos e1, if_neg (by rw [e2]; decide), W0.out, W1.out, if_neg (by omega)]; omega)
            have n2 : decide ((32 : Int) < (d0 : Int) * 10 + (d1 : Int)) = false := decide_eq_false (by omega)
            clear e0 e1 z hb
            rcases isD_false e2 with h | ⟨a, ha, hj, g⟩ | ⟨a, ha, ha2, hj, g⟩
            · clear e2
              go_enter Tryz.func37, Tryz.ntmps37
              go_wp2
              refine wp_loop_rounds 3 ?_
              rw [rounds_succ]; go_wp2_with (go_at_call 42; (with_reducible refine (dig10_any a0 d0 A0.out m0 _).mono ?_); rintro e wc ⟨rfl, rfl⟩)
              rw [rounds_succ]; go_wp2_with (go_at_call 42; (with_reducible refine (dig10_any a1 d1 A1.out m1 _).mono ?_); rintro e wc ⟨rfl, rfl⟩)
              rw [rounds_succ]; go_wp2
              all_goals go_ret2
              all_goals exact numPost.mk HF.out HN.out
            · clear e2
              have u1 : decide ((48 : Int) ≤ (a : Int)) = false := decide_eq_false (by omega)
              go_enter Tryz.func37, Tryz.ntmps37
              go_wp2
              refine wp_loop_rounds 3 ?_
              rw [rounds_succ]; go_wp2_with (go_at_call 42; (with_reducible refine (dig10_any a0 d0 A0.out m0 _).mono ?_); rintro e wc ⟨rfl, rfl⟩)
              rw [rounds_succ]; go_wp2_with (go_at_call 42; (with_reducible refine (dig10_any a1 d1 A1.out m1 _).mono ?_); rintro e wc ⟨rfl, rfl⟩)
              rw [rounds_succ]; go_wp2
              all_goals go_ret2
              all_goals exact numPost.mk HF.out HN.out
            · clear e2
              have u1 : decide ((48 : Int) ≤ (a : Int)) = true := decide_eq_true (by omega)
              have u2 : decide ((a : Int) ≤ 57) = false := decide_eq_false (by omega)
              go_enter Tryz.func37, Tryz.ntmps37
              go_wp2
              refine wp_loop_rounds 3 ?_
              rw [rounds_succ]; go_wp2_with (go_at_call 42; (with_reducible refine (dig10_any a0 d0 A0.out m0 _).mono ?_); rintro e wc ⟨rfl, rfl⟩)
              rw [rounds_succ]; go_wp2_with (go_at_call 42; (with_reducible refine (dig10_any a1 d1 A1.out m1 _).mono ?_); rintro e wc ⟨rfl, rfl⟩)
              rw [rounds_succ]; go_wp2
              all_goals go_ret2
              all_goals exact numPost.mk HF.out HN.out
      · obtain ⟨a2, d2, V2, A2, m2, h2, g2⟩ := isD_true e2
        have p21 : decide ((48 : Int) ≤ (a2 : Int)) = true := decide_eq_true (by have := A2.out; omega)
        have p22 : decide ((a2 : Int) ≤ 57) = true := decide_eq_true (by have := A2.out; omega)
        have p23 : decide ((32 : Int) < (d2 : Int)) = false := decide_eq_false (by omega)
        have p24 : (d2 : Int) ≤ 32 := by omega
        have HF : Hid (-1 = numF p k) := Lib.hid (by unfold numF; rw [if_pos e0, if_pos e1, if_pos e2])
        have HN : Hid ((k : Int) + 3 = (numN p k : Nat)) := Lib.hid (by unfold numN; rw [if_pos e0, if_pos e1, if_pos e2]; rfl)
        clear e0 e1 e2
        go_enter Tryz.func37, Tryz.ntmps37
        go_wp2
        refine wp_loop_rounds 4 ?_
        rw [rounds_succ]; go_wp2_with (go_at_call 42; (with_reducible refine (dig10_any a0 d0 A0.out m0 _).mono ?_); rintro e wc ⟨rfl, rfl⟩)
        rw [rounds_succ]; go_wp2_with (go_at_call 42; (with_reducible refine (dig10_any a1 d1 A1.out m1 _).mono ?_); rintro e wc ⟨rfl, rfl⟩)
        rw [rounds_succ]; go_wp2_with (go_at_call 42; (with_reducible refine (dig10_any a2 d2 A2.out m2 _).mono ?_); rintro e wc ⟨rfl, rfl⟩)
        rw [rounds_succ]; go_wp2
        all_goals go_ret2
        all_goals exact numPost.mk HF.out HN.out
end Go.Proofs.YtiahgcgpakgeeaaGreatDoor
