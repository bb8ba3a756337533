/-
  The walk of the eleventh reference's Same, at any two.
-/
import Derived.Test.YtnoaejpabfnfpaaPk29
import Derived.Test.YtnoaejpabfnfpaaPk12
namespace Go.Proofs.Ytnoaejpabfnfpaa
open Go.RowKit

set_option maxRecDepth 100000 in
set_option maxHeartbeats 16000000 in
theorem rsame12 (v v' : Value) (x y : Da) (hx : x.n0 ≤ maxLen) (hx1 : x.n1 ≤ maxLen) (hx2 : x.n2 ≤ maxLen) (hy2 : y.n2 ≤ maxLen) (w : World) (hd : daAt w v x) (hd' : daAt w v' y) :
    Calls Try.prog 13 #[v, v'] w fun e w' => e = .returned (.bool (saB x y)) ∧ Below w.heap.size w w' := by
  obtain ⟨q0, c0, q1, c1, q2, c2, rfl, h0, h1, h2⟩ := hd
  obtain ⟨p0, d0, p1, d1, p2, d2, rfl, k0, k1, k2⟩ := hd'
  obtain ⟨n0, l0, wd, st, n1, l1, n2, T⟩ := x
  obtain ⟨m0, g0, we, su, m1, g1, m2, U⟩ := y
  dsimp only at hx hx1 hx2 hy2 h0 h1 h2 k0 k1 k2 ⊢
  obtain ⟨D, hD⟩ : ∃ D, w.heap.size = D := ⟨_, rfl⟩
  obtain ⟨w1, hw1⟩ : ∃ w1, w.alloc (.cells #[.slice q0 n0 c0, .int .i64 wd, .int .i64 st, .slice q1 n1 c1, .slice q2 n2 c2] 25) = w1 := ⟨_, rfl⟩
  have hz1 : w1.heap.size = D + 1 := by rw [← hw1, World.size_alloc, hD]
  have hb1 : Below D w w1 := hw1 ▸ (Below.refl _ _).alloc (by omega) _
  have hk1 : isDf w1 D q0 n0 c0 wd st q1 n1 c1 q2 n2 c2 := hw1 ▸ hD ▸ heap_alloc_new w _
  obtain ⟨w2, hw2⟩ : ∃ w2, w1.alloc (.cells #[.slice p0 m0 d0, .int .i64 we, .int .i64 su, .slice p1 m1 d1, .slice p2 m2 d2] 25) = w2 := ⟨_, rfl⟩
  have hz2 : w2.heap.size = D + 2 := by rw [← hw2, World.size_alloc, hz1]
  have hb2 : Below (D + 1) w1 w2 := hw2 ▸ (Below.refl _ _).alloc (by omega) _
  have hk2 : isDf w2 (D + 1) p0 m0 d0 we su p1 m1 d1 p2 m2 d2 := hw2 ▸ hz1 ▸ heap_alloc_new w1 _
  have hb02 : Below D w w2 := hb1.trans (hb2.mono (by omega))
  obtain ⟨r, hr⟩ : ∃ r, saB ⟨n0, l0, wd, st, n1, l1, n2, T⟩ ⟨m0, g0, we, su, m1, g1, m2, U⟩ = r := ⟨_, rfl⟩
  have HNO : Hid (¬ saP ⟨n0, l0, wd, st, n1, l1, n2, T⟩ ⟨m0, g0, we, su, m1, g1, m2, U⟩ → r = false) := Lib.hid fun h => hr ▸ saB_no h
  have HYES : Hid (saP ⟨n0, l0, wd, st, n1, l1, n2, T⟩ ⟨m0, g0, we, su, m1, g1, m2, U⟩ → r = true) := Lib.hid fun h => hr ▸ saB_iff.2 h
  rw [hr]
  obtain ⟨r0, hr0⟩ : ∃ r0, sl0 n0 l0 m0 g0 = r0 := ⟨_, rfl⟩
  obtain ⟨r1, hr1⟩ : ∃ r1, sl0 n1 l1 m1 g1 = r1 := ⟨_, rfl⟩
  have hi0 : r0 = true ↔ n0 = m0 ∧ ∀ j, j < n0 → l0 j = g0 j := by rw [← hr0]; exact sl0_iff
  have hi1 : r1 = true ↔ n1 = m1 ∧ ∀ j, j < n1 → l1 j = g1 j := by rw [← hr1]; exact sl0_iff
  have HI0 := Lib.hid hi0; have HI1 := Lib.hid hi1
  have HA := Lib.hid (fun w' (h : Below (D + 2) w2 w') => ((hk1.below hb2 (by omega)).below h (by omega)).cells)
  have HB := Lib.hid (fun w' (h : Below (D + 2) w2 w') => (hk2.below h (by omega)).cells)
  have HS0 := Lib.hid (fun w' (h : Below (D + 2) w2 w') => by
    have hb := hD.symm ▸ hb02.trans (h.mono (show D ≤ D + 2 by omega))
    exact same10n q0 n0 c0 l0 p0 m0 d0 g0 r0 hi0 hx w' (h0.below hb) (k0.below hb))
  have HS1 := Lib.hid (fun w' (h : Below (D + 2) w2 w') => by
    have hb := hD.symm ▸ hb02.trans (h.mono (show D ≤ D + 2 by omega))
    exact same10n q1 n1 c1 l1 p1 m1 d1 g1 r1 hi1 hx1 w' (h1.below hb) (k1.below hb))
  have HR := Lib.hid (fun w' (h : Below (D + 2) w2 w') => by
    have hb := hD.symm ▸ hb02.trans (h.mono (show D ≤ D + 2 by omega))
    exact And.intro (h2.below hb) (k2.below hb))
  have HZ := Lib.hid hz2
  have HW1 := Lib.hid hw1; have HW2 := Lib.hid hw2
  have HG := Lib.hid hD
  have HB02 := Lib.hid hb02
  have HF : Hid (∀ w', Below (D + 2) w2 w' → Below w.heap.size w w') := Lib.hid fun w' h => by rw [hD]; exact hb02.trans (h.mono (by omega))
  have n9 : (n2 : Int) ≤ 9223372036854775807 := by unfold maxLen at hx2; omega
  have m9 : (m2 : Int) ≤ 9223372036854775807 := by unfold maxLen at hy2; omega
  have x0 : (0 : Int) ≤ (n2 : Int) := by omega
  have y0 : (0 : Int) ≤ (m2 : Int) := by omega
  clear hw1 hw2 hz1 hb1 hk1 hb2 hk2 hb02 h0 h1 h2 k0 k1 k2 hr hr0 hr1 hi0 hi1 hx hx1 hx2 hy2
  cases r0
  · have HN : Hid (r = false) := Lib.hid (HNO.out fun h => by
      unfold saP at h
      dsimp only at h
      have := HI0.out.2 h.1; cases this)
    go_enter Try.func13, Try.ntmps13
    go_upto_region 1 with (fail)
    rw [HW1.out, HW2.out]
    clear hz2 hD
    obtain ⟨a0, a1, a2, a3, a4⟩ := HA.out _ (Below.refl _ _)
    obtain ⟨b0, b1, b2, b3, b4⟩ := HB.out _ (Below.refl _ _)
    go_wp2_with fail
    refine (HS0.out _ (Below.refl _ _)).mono ?_
    rintro e w3 ⟨rfl, hb3⟩
    have HB3 : Hid (Below (D + 2) w2 w3) := Lib.hid (HZ.out ▸ hb3)
    clear hb3 HS0 a0 a1 a2 a3 a4 b0 b1 b2 b3 b4
    obtain ⟨a0, a1, a2, a3, a4⟩ := HA.out _ HB3.out
    obtain ⟨b0, b1, b2, b3, b4⟩ := HB.out _ HB3.out
    go_wp2_with fail
    go_returns
    exact ⟨by rw [HN.out] <;> rfl, HF.out _ HB3.out⟩
  cases r1
  · have HN : Hid (r = false) := Lib.hid (HNO.out fun h => by
      unfold saP at h
      dsimp only at h
      have := HI1.out.2 h.2.1; cases this)
    go_enter Try.func13, Try.ntmps13
    go_upto_region 1 with (fail)
    rw [HW1.out, HW2.out]
    clear hz2 hD
    obtain ⟨a0, a1, a2, a3, a4⟩ := HA.out _ (Below.refl _ _)
    obtain ⟨b0, b1, b2, b3, b4⟩ := HB.out _ (Below.refl _ _)
    go_wp2_with fail
    refine (HS0.out _ (Below.refl _ _)).mono ?_
    rintro e w3 ⟨rfl, hb3⟩
    have HB3 : Hid (Below (D + 2) w2 w3) := Lib.hid (HZ.out ▸ hb3)
    clear hb3 HS0 a0 a1 a2 a3 a4 b0 b1 b2 b3 b4
    obtain ⟨a0, a1, a2, a3, a4⟩ := HA.out _ HB3.out
    obtain ⟨b0, b1, b2, b3, b4⟩ := HB.out _ HB3.out
    go_wp2_with fail
    refine (HS1.out _ HB3.out).mono ?_
    rintro e w4 ⟨rfl, hb4⟩
    have HB4 : Hid (Below (D + 2) w2 w4) := Lib.hid (HB3.out.trans (hb4.mono (by have := HB3.out.size; have := HZ.out; omega)))
    clear hb4 HS1 a0 a1 a2 a3 a4 b0 b1 b2 b3 b4
    obtain ⟨a0, a1, a2, a3, a4⟩ := HA.out _ HB4.out
    obtain ⟨b0, b1, b2, b3, b4⟩ := HB.out _ HB4.out
    go_wp2_with fail
    go_returns
    exact ⟨by rw [HN.out] <;> rfl, HF.out _ HB4.out⟩
  cases tw : (wd != we)
  case true =>
    have ew : ¬ wd = we := by simpa using tw
    have HN : Hid (r = false) := Lib.hid (HNO.out fun h => by
      unfold saP at h
      dsimp only at h
      exact ew h.2.2.1)
    go_enter Try.func13, Try.ntmps13
    go_upto_region 1 with (fail)
    rw [HW1.out, HW2.out]
    clear hz2 hD
    obtain ⟨a0, a1, a2, a3, a4⟩ := HA.out _ (Below.refl _ _)
    obtain ⟨b0, b1, b2, b3, b4⟩ := HB.out _ (Below.refl _ _)
    go_wp2_with fail
    refine (HS0.out _ (Below.refl _ _)).mono ?_
    rintro e w3 ⟨rfl, hb3⟩
    have HB3 : Hid (Below (D + 2) w2 w3) := Lib.hid (HZ.out ▸ hb3)
    clear hb3 HS0 a0 a1 a2 a3 a4 b0 b1 b2 b3 b4
    obtain ⟨a0, a1, a2, a3, a4⟩ := HA.out _ HB3.out
    obtain ⟨b0, b1, b2, b3, b4⟩ := HB.out _ HB3.out
    go_wp2_with fail
    refine (HS1.out _ HB3.out).mono ?_
    rintro e w4 ⟨rfl, hb4⟩
    have HB4 : Hid (Below (D + 2) w2 w4) := Lib.hid (HB3.out.trans (hb4.mono (by have := HB3.out.size; have := HZ.out; omega)))
    clear hb4 HS1 a0 a1 a2 a3 a4 b0 b1 b2 b3 b4
    obtain ⟨a0, a1, a2, a3, a4⟩ := HA.out _ HB4.out
    obtain ⟨b0, b1, b2, b3, b4⟩ := HB.out _ HB4.out
    go_wp2_with fail
    go_returns
    exact ⟨by rw [HN.out] <;> rfl, HF.out _ HB4.out⟩
  have Ew : Hid (wd = we) := Lib.hid (by simpa using tw)
  cases ts : (st != su)
  case true =>
    have es : ¬ st = su := by simpa using ts
    have HN : Hid (r = false) := Lib.hid (HNO.out fun h => by
      unfold saP at h
      dsimp only at h
      exact es h.2.2.2.1)
    go_enter Try.func13, Try.ntmps13
    go_upto_region 1 with (fail)
    rw [HW1.out, HW2.out]
    clear hz2 hD
    obtain ⟨a0, a1, a2, a3, a4⟩ := HA.out _ (Below.refl _ _)
    obtain ⟨b0, b1, b2, b3, b4⟩ := HB.out _ (Below.refl _ _)
    go_wp2_with fail
    refine (HS0.out _ (Below.refl _ _)).mono ?_
    rintro e w3 ⟨rfl, hb3⟩
    have HB3 : Hid (Below (D + 2) w2 w3) := Lib.hid (HZ.out ▸ hb3)
    clear hb3 HS0 a0 a1 a2 a3 a4 b0 b1 b2 b3 b4
    obtain ⟨a0, a1, a2, a3, a4⟩ := HA.out _ HB3.out
    obtain ⟨b0, b1, b2, b3, b4⟩ := HB.out _ HB3.out
    go_wp2_with fail
    refine (HS1.out _ HB3.out).mono ?_
    rintro e w4 ⟨rfl, hb4⟩
    have HB4 : Hid (Below (D + 2) w2 w4) := Lib.hid (HB3.out.trans (hb4.mono (by have := HB3.out.size; have := HZ.out; omega)))
    clear hb4 HS1 a0 a1 a2 a3 a4 b0 b1 b2 b3 b4
    obtain ⟨a0, a1, a2, a3, a4⟩ := HA.out _ HB4.out
    obtain ⟨b0, b1, b2, b3, b4⟩ := HB.out _ HB4.out
    go_wp2_with fail
    go_returns
    exact ⟨by rw [HN.out] <;> rfl, HF.out _ HB4.out⟩
  have Es : Hid (st = su) := Lib.hid (by simpa using ts)
  by_cases hnm : n2 = m2
  case neg =>
    have tn : ((n2 : Int) != (m2 : Int)) = true := by simp; omega
    have HN : Hid (r = false) := Lib.hid (HNO.out fun h => by
      unfold saP at h
      dsimp only at h
      exact hnm h.2.2.2.2.1)
    clear hnm
    go_enter Try.func13, Try.ntmps13
    go_upto_region 1 with (fail)
    rw [HW1.out, HW2.out]
    clear hz2 hD
    obtain ⟨a0, a1, a2, a3, a4⟩ := HA.out _ (Below.refl _ _)
    obtain ⟨b0, b1, b2, b3, b4⟩ := HB.out _ (Below.refl _ _)
    go_wp2_with fail
    refine (HS0.out _ (Below.refl _ _)).mono ?_
    rintro e w3 ⟨rfl, hb3⟩
    have HB3 : Hid (Below (D + 2) w2 w3) := Lib.hid (HZ.out ▸ hb3)
    clear hb3 HS0 a0 a1 a2 a3 a4 b0 b1 b2 b3 b4
    obtain ⟨a0, a1, a2, a3, a4⟩ := HA.out _ HB3.out
    obtain ⟨b0, b1, b2, b3, b4⟩ := HB.out _ HB3.out
    go_wp2_with fail
    refine (HS1.out _ HB3.out).mono ?_
    rintro e w4 ⟨rfl, hb4⟩
    have HB4 : Hid (Below (D + 2) w2 w4) := Lib.hid (HB3.out.trans (hb4.mono (by have := HB3.out.size; have := HZ.out; omega)))
    clear hb4 HS1 a0 a1 a2 a3 a4 b0 b1 b2 b3 b4
    obtain ⟨a0, a1, a2, a3, a4⟩ := HA.out _ HB4.out
    obtain ⟨b0, b1, b2, b3, b4⟩ := HB.out _ HB4.out
    go_wp2_with fail
    go_returns
    exact ⟨by rw [HN.out] <;> rfl, HF.out _ HB4.out⟩
  subst hnm
  have tn : ((n2 : Int) != (n2 : Int)) = false := by simp
  go_enter Try.func13, Try.ntmps13
  go_upto_region 1 with (fail)
  rw [HW1.out, HW2.out]
  clear hz2 hD
  obtain ⟨a0, a1, a2, a3, a4⟩ := HA.out _ (Below.refl _ _)
  obtain ⟨b0, b1, b2, b3, b4⟩ := HB.out _ (Below.refl _ _)
  go_wp2_with fail
  refine (HS0.out _ (Below.refl _ _)).mono ?_
  rintro e w3 ⟨rfl, hb3⟩
  have HB3 : Hid (Below (D + 2) w2 w3) := Lib.hid (HZ.out ▸ hb3)
  clear hb3 HS0 a0 a1 a2 a3 a4 b0 b1 b2 b3 b4
  obtain ⟨a0, a1, a2, a3, a4⟩ := HA.out _ HB3.out
  obtain ⟨b0, b1, b2, b3, b4⟩ := HB.out _ HB3.out
  go_wp2_with fail
  refine (HS1.out _ HB3.out).mono ?_
  rintro e w4 ⟨rfl, hb4⟩
  have HB4 : Hid (Below (D + 2) w2 w4) := Lib.hid (HB3.out.trans (hb4.mono (by have := HB3.out.size; have := HZ.out; omega)))
  clear hb4 HS1 a0 a1 a2 a3 a4 b0 b1 b2 b3 b4
  obtain ⟨a0, a1, a2, a3, a4⟩ := HA.out _ HB4.out
  obtain ⟨b0, b1, b2, b3, b4⟩ := HB.out _ HB4.out
  go_wp2_with fail
  clear a0 a1 a2 a3 a4 b0 b1 b2 b3 b4
  go_loopw [5] (fun iv wr => ∃ i : Nat, i ≤ n2 ∧ iv = .int .i64 i ∧ Hid (∀ j, j < i → T j = U j) ∧ Hid (Below (D + 2) w2 wr)) (fun iv _ => n2 - (intOf iv).toNat)
  case atStart => exact ⟨0, Nat.zero_le _, rfl, Lib.hid (fun _ h => absurd h (Nat.not_lt_zero _)), HB4⟩
  case round =>
    obtain ⟨i, hi, rfl, HQ, HBr⟩ := hrel
    obtain ⟨a0, a1, a2, a3, a4⟩ := HA.out _ HBr.out
    obtain ⟨b0, b1, b2, b3, b4⟩ := HB.out _ HBr.out
    by_cases hlt : i < n2
    · have i0 : (0 : Int) ≤ (i : Int) := by omega
      have i1 : (i : Int) < (n2 : Int) := by omega
      obtain ⟨r1, r2⟩ := HR.out _ HBr.out
      obtain ⟨b, o, rfl, -, x1⟩ := r1 i hlt
      obtain ⟨b', o', rfl, -, x2⟩ := r2 i hlt
      obtain ⟨u, hu⟩ : ∃ u, T i = u := ⟨_, rfl⟩
      obtain ⟨u', hu'⟩ : ∃ u', U i = u' := ⟨_, rfl⟩
      have HU := Lib.hid hu; have HU' := Lib.hid hu'
      rw [hu] at x1; rw [hu'] at x2
      clear r1 r2 hu hu'
      by_cases huu : u = u'
      · have HQ2 : Hid (∀ j, j < i + 1 → T j = U j) := Lib.hid fun j hj => by
          by_cases e : j = i
          · subst e; rw [HU.out, HU'.out]; exact huu
          · exact HQ.out j (by omega)
        subst huu
        have hu2 : (u != u) = false := by simp
        go_wp2_with fail
        go_quiet (fail)
        have HBd := Lib.hid (below_drewN nq HBr.out)
        go_wp2_with fail
        go_roundw
        case rel => exact ⟨i + 1, by omega, by go_num, HQ2, HBd⟩
        case measure => simp [intOf]; omega
      · have HN : Hid (r = false) := Lib.hid (HNO.out fun h => by
          unfold saP at h
          dsimp only at h
          have := h.2.2.2.2.2 i hlt
          rw [HU.out, HU'.out] at this
          exact huu this)
        obtain rfl : u' = !u := by cases u <;> cases u' <;> simp_all
        clear huu HU HU'
        cases u
        all_goals
          go_wp2_with fail
          go_quiet (fail)
          have HBd := Lib.hid (below_drewN nq HBr.out)
          go_wp2_with fail
          go_returns
          exact ⟨by rw [HN.out] <;> rfl, HF.out _ HBd.out⟩
    · obtain rfl : i = n2 := by omega
      have HN : Hid (r = true) := Lib.hid (HYES.out ⟨HI0.out.1 (by first | trivial | rfl), HI1.out.1 (by first | trivial | rfl), Ew.out, Es.out, rfl, HQ.out⟩)
      go_wp2_with fail
      go_returns
      exact ⟨by rw [HN.out] <;> rfl, HF.out _ HBr.out⟩
end Go.Proofs.Ytnoaejpabfnfpaa
