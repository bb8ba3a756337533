/-
  The walk of the twelfth reference's Right.
-/
import Derived.Test.YtefpoapbodbenaaPk10
import Derived.BigQuiet
import Derived.Deep.QuietTactic
namespace Go.Proofs.Ytefpoapbodbenaa
open Go.RowKit

/-- A decided automaton's numbers. -/
structure Da where
  n0 : Nat
  l0 : Nat → Int
  wd : Int
  st : Int
  n1 : Nat
  l1 : Nat → Int
  n2 : Nat
  T : Nat → Bool
/-- May it be? -/
def rgD (x : Da) : Prop := x.n0 = 259 ∧ 1 ≤ x.wd ∧ x.wd ≤ 259 ∧ 1 ≤ x.n2 ∧ x.n2 ≤ 4096 ∧ (x.n1 : Int) = x.n2 * x.wd ∧ 0 ≤ x.st ∧ x.st < x.n2 ∧ (∀ j, j < 259 → 0 ≤ x.l0 j ∧ x.l0 j < x.wd) ∧ ∀ j, j < x.n1 → 0 ≤ x.l1 j ∧ x.l1 j < x.n2
noncomputable def rgB (x : Da) : Bool := @decide (rgD x) (Classical.propDecidable _)
theorem rgB_iff {x : Da} : rgB x = true ↔ rgD x := by unfold rgB; simp
theorem rgB_no {x : Da} (h : ¬ rgD x) : rgB x = false := by unfold rgB; simp [h]
theorem rgB_yes {x : Da} (h : rgD x) : rgB x = true := rgB_iff.2 h
/-- A decided automaton as it lies in memory. -/
def daAt (w : World) (v : Value) (x : Da) : Prop := ∃ q0 c0 q1 c1 q2 c2, v = dfV q0 x.n0 c0 x.wd x.st q1 x.n1 c1 q2 x.n2 c2 ∧ rdL w q0 x.n0 x.l0 ∧ rdL w q1 x.n1 x.l1 ∧ rdBs w q2 x.n2 x.T
theorem daAt.below {w w' : World} {v : Value} {x : Da} (h : daAt w v x) (hb : Below w.heap.size w w') : daAt w' v x := by
  obtain ⟨q0, c0, q1, c1, q2, c2, e, h0, h1, h2⟩ := h
  exact ⟨q0, c0, q1, c1, q2, c2, e, h0.below hb, h1.below hb, h2.below hb⟩

set_option maxRecDepth 100000 in
set_option maxHeartbeats 20000000 in
theorem rright12 (v : Value) (x : Da) (h0 : x.n0 ≤ 10000) (h1 : x.n1 ≤ 100000) (h2 : x.n2 ≤ 1000) (w : World) (hd : daAt w v x) :
    Calls Try.prog 10 #[v] w fun e w' => e = .returned (.bool (rgB x)) ∧ Below w.heap.size w w' := by
  obtain ⟨n0, l0, wd, st, n1, l1, n2, T⟩ := x
  obtain ⟨q0, c0, q1, c1, q2, c2, rfl, hr0, hr1, hr2⟩ := hd
  simp only at h0 h1 h2 hr0 hr1 hr2 ⊢
  obtain ⟨P, hP⟩ : ∃ P : Int, (n2 : Int) * wd = P := ⟨_, rfl⟩
  obtain ⟨r, hr⟩ : ∃ r, rgB ⟨n0, l0, wd, st, n1, l1, n2, T⟩ = r := ⟨_, rfl⟩
  have HNO : Hid (¬ rgD ⟨n0, l0, wd, st, n1, l1, n2, T⟩ → r = false) := Lib.hid fun h => hr ▸ rgB_no h
  have HYES : Hid (rgD ⟨n0, l0, wd, st, n1, l1, n2, T⟩ → r = true) := Lib.hid fun h => hr ▸ rgB_yes h
  rw [hr]
  clear hr hr2
  obtain ⟨D, hD⟩ : ∃ D, w.heap.size = D := ⟨_, rfl⟩
  obtain ⟨w1, hw1⟩ : ∃ w1, w.alloc (.cells #[.slice q0 n0 c0, .int .i64 wd, .int .i64 st, .slice q1 n1 c1, .slice q2 n2 c2] 25) = w1 := ⟨_, rfl⟩
  have hz1 : w1.heap.size = D + 1 := by rw [← hw1, World.size_alloc, hD]
  have hb1 : Below D w w1 := hw1 ▸ (Below.refl _ _).alloc (by omega) _
  have hk1 : isDf w1 D q0 n0 c0 wd st q1 n1 c1 q2 n2 c2 := hw1 ▸ hD ▸ heap_alloc_new w _
  have HK := Lib.hid (fun w' (h : Below (D + 1) w1 w') => (hk1.below h (Nat.lt_succ_self D)).cells)
  have HR0 := Lib.hid (fun w' (h : Below (D + 1) w1 w') => hr0.below (hD.symm ▸ hb1.trans (h.mono (Nat.le_succ D))))
  have HR1 := Lib.hid (fun w' (h : Below (D + 1) w1 w') => hr1.below (hD.symm ▸ hb1.trans (h.mono (Nat.le_succ D))))
  have HW1 := Lib.hid hw1; have HG := Lib.hid hD; have HB1 := Lib.hid hb1
  obtain ⟨z0, z1, z2, z3, z4⟩ := hk1.cells
  have b0 : (0 : Int) ≤ (n0 : Int) := by omega
  have b1 : (0 : Int) ≤ (n1 : Int) := by omega
  have b2 : (0 : Int) ≤ (n2 : Int) := by omega
  have b3 : (n2 : Int) ≤ 1000 := by omega
  have d5 : decide (4096 < (n2 : Int)) = false := decide_eq_false (by omega)
  clear hw1 hk1 hr0 hr1 hb1
  by_cases t0 : n0 = 259
  case neg =>
    have e0 : ((n0 : Int) != 259) = true := (by simp; omega)
    have HN : Hid (r = false) := Lib.hid (HNO.out fun h => by
      have g := h
      unfold rgD at g
      simp only at g
      obtain ⟨g0, g1, g2, g3, g4, g5, g6, g7, -, -⟩ := g
      exact t0 g0)
    go_enter Try.func10, Try.ntmps10
    go_upto_region 1 with (fail)
    rw [HW1.out]
    go_wp2_with fail
    go_returns
    exact ⟨by rw [HN.out] <;> rfl, HG.out.symm ▸ HB1.out⟩
  subst t0
  by_cases t1 : 1 ≤ wd
  case neg =>
    have e1 : decide (wd < 1) = true := (decide_eq_true (by omega))
    have HN : Hid (r = false) := Lib.hid (HNO.out fun h => by
      have g := h
      unfold rgD at g
      simp only at g
      obtain ⟨g0, g1, g2, g3, g4, g5, g6, g7, -, -⟩ := g
      omega)
    go_enter Try.func10, Try.ntmps10
    go_upto_region 1 with (fail)
    rw [HW1.out]
    go_wp2_with fail
    go_returns
    exact ⟨by rw [HN.out] <;> rfl, HG.out.symm ▸ HB1.out⟩
  have e1 : decide (wd < 1) = false := (decide_eq_false (by omega))
  by_cases t2 : wd ≤ 259
  case neg =>
    have e2 : decide (259 < wd) = true := (decide_eq_true (by omega))
    have HN : Hid (r = false) := Lib.hid (HNO.out fun h => by
      have g := h
      unfold rgD at g
      simp only at g
      obtain ⟨g0, g1, g2, g3, g4, g5, g6, g7, -, -⟩ := g
      omega)
    go_enter Try.func10, Try.ntmps10
    go_upto_region 1 with (fail)
    rw [HW1.out]
    go_wp2_with fail
    go_returns
    exact ⟨by rw [HN.out] <;> rfl, HG.out.symm ▸ HB1.out⟩
  have e2 : decide (259 < wd) = false := (decide_eq_false (by omega))
  by_cases t3 : 1 ≤ n2
  case neg =>
    have e3 : decide ((n2 : Int) < 1) = true := (decide_eq_true (by omega))
    have HN : Hid (r = false) := Lib.hid (HNO.out fun h => by
      have g := h
      unfold rgD at g
      simp only at g
      obtain ⟨g0, g1, g2, g3, g4, g5, g6, g7, -, -⟩ := g
      omega)
    go_enter Try.func10, Try.ntmps10
    go_upto_region 1 with (fail)
    rw [HW1.out]
    go_wp2_with fail
    go_returns
    exact ⟨by rw [HN.out] <;> rfl, HG.out.symm ▸ HB1.out⟩
  have e3 : decide ((n2 : Int) < 1) = false := (decide_eq_false (by omega))
  have hPl : 0 ≤ P ∧ P ≤ 259000 := by
    rw [← hP]
    exact ⟨Int.mul_nonneg b2 (by omega), Int.le_trans (Int.mul_le_mul_of_nonneg_right b3 (by omega)) (by omega)⟩
  have hPw : IntKind.i64.wrap P = P := by rw [IntKind.wrap_i64]; omega
  by_cases t4 : (n1 : Int) = P
  case neg =>
    have e4 : ((n1 : Int) != P) = true := (by simp; omega)
    have HN : Hid (r = false) := Lib.hid (HNO.out fun h => by
      have g := h
      unfold rgD at g
      simp only at g
      obtain ⟨g0, g1, g2, g3, g4, g5, g6, g7, -, -⟩ := g
      exact t4 (g5.trans hP))
    go_enter Try.func10, Try.ntmps10
    go_upto_region 1 with (fail)
    rw [HW1.out]
    go_wp2_with fail
    go_returns
    exact ⟨by rw [HN.out] <;> rfl, HG.out.symm ▸ HB1.out⟩
  have e4 : ((n1 : Int) != P) = false := (by simp; omega)
  have T4 := Lib.hid t4
  clear t4
  by_cases t5 : 0 ≤ st
  case neg =>
    have e5 : decide (st < 0) = true := (decide_eq_true (by omega))
    have HN : Hid (r = false) := Lib.hid (HNO.out fun h => by
      have g := h
      unfold rgD at g
      simp only at g
      obtain ⟨g0, g1, g2, g3, g4, g5, g6, g7, -, -⟩ := g
      omega)
    go_enter Try.func10, Try.ntmps10
    go_upto_region 1 with (fail)
    rw [HW1.out]
    go_wp2_with fail
    go_returns
    exact ⟨by rw [HN.out] <;> rfl, HG.out.symm ▸ HB1.out⟩
  have e5 : decide (st < 0) = false := (decide_eq_false (by omega))
  by_cases t6 : st < n2
  case neg =>
    have e6 : decide ((n2 : Int) ≤ st) = true := (decide_eq_true (by omega))
    have HN : Hid (r = false) := Lib.hid (HNO.out fun h => by
      have g := h
      unfold rgD at g
      simp only at g
      obtain ⟨g0, g1, g2, g3, g4, g5, g6, g7, -, -⟩ := g
      omega)
    go_enter Try.func10, Try.ntmps10
    go_upto_region 1 with (fail)
    rw [HW1.out]
    go_wp2_with fail
    go_returns
    exact ⟨by rw [HN.out] <;> rfl, HG.out.symm ▸ HB1.out⟩
  have e6 : decide ((n2 : Int) ≤ st) = false := (decide_eq_false (by omega))
  go_enter Try.func10, Try.ntmps10
  go_upto_region 1 with (fail)
  rw [HW1.out]
  have HBs : Hid (Below (D + 1) w1 w1) := Lib.hid (Below.refl _ _)
  have HP := Lib.hid hP
  clear hD hz1
  go_wp2_with fail
  clear z0 z1 z2 z3 z4 hP
  go_loopw [4] (fun iv wr => ∃ i : Nat, i ≤ 259 ∧ iv = .int .i64 i ∧ Hid (∀ j, j < i → 0 ≤ l0 j ∧ l0 j < wd) ∧ Hid (Below (D + 1) w1 wr)) (fun iv _ => 259 - (intOf iv).toNat)
  case atStart => exact ⟨0, Nat.zero_le _, rfl, Lib.hid (fun _ h => absurd h (Nat.not_lt_zero _)), HBs⟩
  case round =>
    obtain ⟨i, hi, rfl, HQ, HB⟩ := hrel
    obtain ⟨z0, z1, z2, z3, z4⟩ := HK.out _ HB.out
    by_cases hlt : i < 259
    · have i0 : (0 : Int) ≤ (i : Int) := by omega
      have i1 : (i : Int) < 259 := by omega
      obtain ⟨b, o, rfl, hb, hc⟩ := HR0.out _ HB.out i hlt
      obtain ⟨y, hy⟩ : ∃ y, l0 i = y := ⟨_, rfl⟩
      have HY := Lib.hid hy
      rw [hy] at hc
      clear hy hb
      by_cases y0 : y < 0
      · have dy : decide (y < 0) = true := decide_eq_true y0
        have HN : Hid (r = false) := Lib.hid (HNO.out fun h => by have g := h.2.2.2.2.2.2.2.2.1 i hlt; have e := HY.out; simp only at g; omega)
        go_wp2_with fail
        go_quiet (fail)
        have HBd : Hid (Below D w (wr.drewN nq)) := Lib.hid (below_drewN nq (HB1.out.trans (HB.out.mono (Nat.le_succ D))))
        go_wp2_with fail
        go_returns
        exact ⟨by rw [HN.out] <;> rfl, HG.out.symm ▸ HBd.out⟩
      · have dy : decide (y < 0) = false := decide_eq_false y0
        by_cases y1 : wd ≤ y
        · have dz : decide (wd ≤ y) = true := decide_eq_true y1
          have HN : Hid (r = false) := Lib.hid (HNO.out fun h => by have g := h.2.2.2.2.2.2.2.2.1 i hlt; have e := HY.out; simp only at g; omega)
          go_wp2_with fail
          go_quiet (fail)
          have HBd : Hid (Below D w (wr.drewN nq)) := Lib.hid (below_drewN nq (HB1.out.trans (HB.out.mono (Nat.le_succ D))))
          go_wp2_with fail
          go_returns
          exact ⟨by rw [HN.out] <;> rfl, HG.out.symm ▸ HBd.out⟩
        · have dz : decide (wd ≤ y) = false := decide_eq_false y1
          have HQ2 : Hid (∀ j, j < i + 1 → 0 ≤ l0 j ∧ l0 j < wd) := Lib.hid fun j hj => by
            by_cases e : j = i
            · subst e; have := HY.out; omega
            · exact HQ.out j (by omega)
          go_wp2_with fail
          go_quiet (fail)
          have HBd : Hid (Below (D + 1) w1 (wr.drewN nq)) := Lib.hid (below_drewN nq HB.out)
          go_wp2_with fail
          go_roundw
          case rel => exact ⟨i + 1, by omega, by go_num, HQ2, HBd⟩
          case measure => simp [intOf]; omega
    · obtain hi9 : i = 259 := by omega
      have HQ0 : Hid (∀ j, j < 259 → 0 ≤ l0 j ∧ l0 j < wd) := Lib.hid fun j hj => HQ.out j (by omega)
      have HBz := HB
      subst hi9
      clear HQ HB
      go_wp2_with fail
      clear z0 z1 z2 z3 z4
      go_loopw [5] (fun iv wr => ∃ i : Nat, i ≤ n1 ∧ iv = .int .i64 i ∧ Hid (∀ j, j < i → 0 ≤ l1 j ∧ l1 j < (n2 : Int)) ∧ Hid (Below (D + 1) w1 wr)) (fun iv _ => n1 - (intOf iv).toNat)
      case atStart => exact ⟨0, Nat.zero_le _, rfl, Lib.hid (fun _ h => absurd h (Nat.not_lt_zero _)), HBz⟩
      case round =>
        obtain ⟨i, hi, rfl, HQ, HB⟩ := hrel
        obtain ⟨z0, z1, z2, z3, z4⟩ := HK.out _ HB.out
        by_cases hlt : i < n1
        · have i0 : (0 : Int) ≤ (i : Int) := by omega
          have i1 : (i : Int) < (n1 : Int) := by omega
          obtain ⟨b, o, rfl, hb, hc⟩ := HR1.out _ HB.out i hlt
          obtain ⟨y, hy⟩ : ∃ y, l1 i = y := ⟨_, rfl⟩
          have HY := Lib.hid hy
          rw [hy] at hc
          clear hy hb
          by_cases y0 : y < 0
          · have dy : decide (y < 0) = true := decide_eq_true y0
            have HN : Hid (r = false) := Lib.hid (HNO.out fun h => by have g := h.2.2.2.2.2.2.2.2.2 i hlt; have e := HY.out; simp only at g; omega)
            go_wp2_with fail
            have HBd := Lib.hid ((HB1.out.trans (HB.out.mono (Nat.le_succ D))))
            go_returns
            exact ⟨by rw [HN.out] <;> rfl, HG.out.symm ▸ HBd.out⟩
          · have dy : decide (y < 0) = false := decide_eq_false y0
            by_cases y1 : (n2 : Int) ≤ y
            · have dz : decide ((n2 : Int) ≤ y) = true := decide_eq_true y1
              have HN : Hid (r = false) := Lib.hid (HNO.out fun h => by have g := h.2.2.2.2.2.2.2.2.2 i hlt; have e := HY.out; simp only at g; omega)
              go_wp2_with fail
              have HBd := Lib.hid ((HB1.out.trans (HB.out.mono (Nat.le_succ D))))
              go_returns
              exact ⟨by rw [HN.out] <;> rfl, HG.out.symm ▸ HBd.out⟩
            · have dz : decide ((n2 : Int) ≤ y) = false := decide_eq_false y1
              have HQ2 : Hid (∀ j, j < i + 1 → 0 ≤ l1 j ∧ l1 j < (n2 : Int)) := Lib.hid fun j hj => by
                by_cases e : j = i
                · subst e; have := HY.out; omega
                · exact HQ.out j (by omega)
              go_wp2_with fail
              have HBd := Lib.hid (HB.out)
              go_roundw
              case rel => exact ⟨i + 1, by omega, by go_num, HQ2, HBd⟩
              case measure => simp [intOf]; omega
        · obtain rfl : i = n1 := by omega
          have HR : Hid (r = true) := Lib.hid (HYES.out ⟨rfl, t1, t2, t3, (show n2 ≤ 4096 by omega), T4.out.trans HP.out.symm, t5, t6, HQ0.out, HQ.out⟩)
          have HBd : Hid (Below w.heap.size w wr) := Lib.hid (HG.out.symm ▸ HB1.out.trans (HB.out.mono (Nat.le_succ D)))
          go_wp2_with fail
          go_returns
          exact ⟨by rw [HR.out] <;> rfl, HBd.out⟩
end Go.Proofs.Ytefpoapbodbenaa
