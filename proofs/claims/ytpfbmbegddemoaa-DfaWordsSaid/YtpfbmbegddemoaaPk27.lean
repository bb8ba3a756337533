/-
  The walk of the eleventh reference's Same, at two that are the same.
-/
import Derived.Test.YtpfbmbegddemoaaPk26
import Derived.Test.YtpfbmbegddemoaaPk21
import Derived.BigQuiet
import Derived.Deep.QuietTactic
namespace Go.Proofs.Ytpfbmbegddemoaa
open Go.RowKit

theorem rdBs.below {w w' : World} {p : Option Addr} {n : Nat} {T : Nat → Bool} (h : rdBs w p n T) (hb : Below w.heap.size w w') : rdBs w' p n T := fun j hj => by
  obtain ⟨b, o, h1, h2, h3⟩ := h j hj
  exact ⟨b, o, h1, Nat.lt_of_lt_of_le h2 hb.size, by rw [hb.cell (p := ⟨b, o + j, none⟩) h2]; exact h3⟩

set_option maxRecDepth 100000 in
set_option maxHeartbeats 8000000 in
theorem same11 (q0 : Option Addr) (c0 : Nat) (W : Nat) (q1 : Option Addr) (n1 c1 : Nat) (q2 : Option Addr) (n2 c2 : Nat) (p0 : Option Addr) (d0 : Nat) (p1 : Option Addr) (d1 : Nat) (p2 : Option Addr) (d2 : Nat) (l0 l1 l0' l1' : Nat → Int) (T T' : Nat → Bool) (hn1 : n1 ≤ 100000) (hn2 : n2 ≤ 100000)
    (e0 : ∀ j, j < 259 → l0 j = l0' j) (e1 : ∀ j, j < n1 → l1 j = l1' j) (e2 : ∀ j, j < n2 → T j = T' j) (w : World) (h0 : rdL w q0 259 l0) (h1 : rdL w q1 n1 l1) (h2 : rdBs w q2 n2 T) (k0 : rdL w p0 259 l0') (k1 : rdL w p1 n1 l1') (k2 : rdBs w p2 n2 T') :
    Calls Try.prog 19 #[dfV q0 259 c0 (W : Int) 0 q1 n1 c1 q2 n2 c2, dfV p0 259 d0 (W : Int) 0 p1 n1 d1 p2 n2 d2] w fun e w' => e = .returned (.bool true) ∧ Below w.heap.size w w' := by
  obtain ⟨D, hD⟩ : ∃ D, w.heap.size = D := ⟨_, rfl⟩
  obtain ⟨w1, hw1⟩ : ∃ w1, w.alloc (.cells #[.slice q0 259 c0, .int .i64 (W : Int), .int .i64 0, .slice q1 n1 c1, .slice q2 n2 c2] 25) = w1 := ⟨_, rfl⟩
  have hz1 : w1.heap.size = D + 1 := by rw [← hw1, World.size_alloc, hD]
  have hb1 : Below D w w1 := hw1 ▸ (Below.refl _ _).alloc (by omega) _
  have hk1 : isDf w1 D q0 259 c0 (W : Int) 0 q1 n1 c1 q2 n2 c2 := hw1 ▸ hD ▸ heap_alloc_new w _
  obtain ⟨w2, hw2⟩ : ∃ w2, w1.alloc (.cells #[.slice p0 259 d0, .int .i64 (W : Int), .int .i64 0, .slice p1 n1 d1, .slice p2 n2 d2] 25) = w2 := ⟨_, rfl⟩
  have hz2 : w2.heap.size = D + 2 := by rw [← hw2, World.size_alloc, hz1]
  have hb2 : Below (D + 1) w1 w2 := hw2 ▸ (Below.refl _ _).alloc (by omega) _
  have hk2 : isDf w2 (D + 1) p0 259 d0 (W : Int) 0 p1 n1 d1 p2 n2 d2 := hw2 ▸ hz1 ▸ heap_alloc_new w1 _
  have hb02 : Below D w w2 := hb1.trans (hb2.mono (by omega))
  have HA := Lib.hid (fun w' (h : Below (D + 2) w2 w') => ((hk1.below hb2 (by omega)).below h (by omega)).cells)
  have HB := Lib.hid (fun w' (h : Below (D + 2) w2 w') => (hk2.below h (by omega)).cells)
  have HS0 := Lib.hid (fun w' (h : Below (D + 2) w2 w') => by
    have hb := hD.symm ▸ hb02.trans (h.mono (show D ≤ D + 2 by omega))
    exact same10 q0 259 c0 l0 p0 259 d0 l0' true ⟨fun _ => ⟨rfl, e0⟩, fun _ => rfl⟩ (by decide) (by decide) w' (h0.below hb) (k0.below hb))
  have HS1 := Lib.hid (fun w' (h : Below (D + 2) w2 w') => by
    have hb := hD.symm ▸ hb02.trans (h.mono (show D ≤ D + 2 by omega))
    exact same10 q1 n1 c1 l1 p1 n1 d1 l1' true ⟨fun _ => ⟨rfl, e1⟩, fun _ => rfl⟩ hn1 hn1 w' (h1.below hb) (k1.below hb))
  have HR := Lib.hid (fun w' (h : Below (D + 2) w2 w') => by
    have hb := hD.symm ▸ hb02.trans (h.mono (show D ≤ D + 2 by omega))
    exact And.intro (h2.below hb) (k2.below hb))
  have HE := Lib.hid e2
  have HZ := Lib.hid hz2
  have HW1 := Lib.hid hw1; have HW2 := Lib.hid hw2
  have HG := Lib.hid hD
  have HB02 := Lib.hid hb02
  have hWW : ((W : Int) != (W : Int)) = false := by simp
  have hNN : ((n2 : Int) != (n2 : Int)) = false := by simp
  have n0 : (0 : Int) ≤ (n2 : Int) := by omega
  have n9 : (n2 : Int) ≤ 100000 := by omega
  clear hw1 hw2 hz1 hb1 hk1 hb2 hk2 hb02 h0 h1 h2 k0 k1 k2 e0 e1 e2
  go_enter Try.func19, Try.ntmps19
  go_upto_region 1 with (fail)
  rw [HW1.out, HW2.out]
  clear hz2 hD
  obtain ⟨a0, a1, a2, a3, a4⟩ := HA.out _ (Below.refl _ _)
  obtain ⟨b0, b1, b2, b3, b4⟩ := HB.out _ (Below.refl _ _)
  go_wp2_with fail
  refine (HS0.out _ (Below.refl _ _)).mono ?_
  rintro e w3 ⟨rfl, hb3⟩
  have HB3 : Hid (Below (D + 2) w2 w3) := Lib.hid (HZ.out ▸ hb3)
  clear hb3 HS0 a0 a1 a2 a3 a4 b0 b1 b2 b3 b4
  obtain ⟨a0, a1, a2, a3, a4⟩ := HA.out _ HB3.out
  obtain ⟨b0, b1, b2, b3, b4⟩ := HB.out _ HB3.out
  go_wp2_with fail
  refine (HS1.out _ HB3.out).mono ?_
  rintro e w4 ⟨rfl, hb4⟩
  have HB4 : Hid (Below (D + 2) w2 w4) := Lib.hid (HB3.out.trans (hb4.mono (by have := HB3.out.size; have := HZ.out; omega)))
  clear hb4 HS1 a0 a1 a2 a3 a4 b0 b1 b2 b3 b4
  obtain ⟨a0, a1, a2, a3, a4⟩ := HA.out _ HB4.out
  obtain ⟨b0, b1, b2, b3, b4⟩ := HB.out _ HB4.out
  go_wp2_with fail
  clear a0 a1 a2 a3 a4 b0 b1 b2 b3 b4
  go_loopw [5] (fun iv wr => ∃ i : Nat, i ≤ n2 ∧ iv = .int .i64 i ∧ Hid (Below (D + 2) w2 wr)) (fun iv _ => n2 - (intOf iv).toNat)
  case atStart => exact ⟨0, Nat.zero_le _, rfl, HB4⟩
  case round =>
    obtain ⟨i, hi, rfl, HBr⟩ := hrel
    obtain ⟨a0, a1, a2, a3, a4⟩ := HA.out _ HBr.out
    obtain ⟨b0, b1, b2, b3, b4⟩ := HB.out _ HBr.out
    by_cases hlt : i < n2
    · have i0 : (0 : Int) ≤ (i : Int) := by omega
      have i1 : (i : Int) < (n2 : Int) := by omega
      obtain ⟨r1, r2⟩ := HR.out _ HBr.out
      obtain ⟨b, o, rfl, -, x1⟩ := r1 i hlt
      obtain ⟨b', o', rfl, -, x2⟩ := r2 i hlt
      rw [← HE.out i hlt] at x2
      obtain ⟨u, hu⟩ : ∃ u, T i = u := ⟨_, rfl⟩
      rw [hu] at x1 x2
      have huu : (u != u) = false := by simp
      clear r1 r2 hu
      go_wp2_with fail
      go_quiet (fail)
      have HBd := Lib.hid (below_drewN nq HBr.out)
      go_wp2_with fail
      go_roundw
      case rel => exact ⟨i + 1, by omega, by go_num, HBd⟩
      case measure => simp [intOf]; omega
    · obtain rfl : i = n2 := by omega
      have HF : Hid (Below w.heap.size w wr) := Lib.hid (HG.out.symm ▸ HB02.out.trans (HBr.out.mono (by omega)))
      go_wp2_with fail
      go_returns
      exact ⟨rfl, HF.out⟩
end Go.Proofs.Ytpfbmbegddemoaa
