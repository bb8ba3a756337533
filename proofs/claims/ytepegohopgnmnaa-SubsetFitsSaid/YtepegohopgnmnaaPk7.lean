/-
  The walk of the ninth reference's Right.
-/
import Derived.Test.YtepegohopgnmnaaPk6
namespace Go.Proofs.Ytepegohopgnmnaa
open Go.RowKit

/-- May a state be, among m? -/
def okQ (S : Nat → Sd) (m q : Nat) : Prop := (1 ≤ (S q).k ∧ (S q).k ≤ 6 ∧ 0 ≤ (S q).A ∧ (S q).A < m ∧ 0 ≤ (S q).B ∧ (S q).B < m) ∧ ((S q).k = 1 ∨ ((S q).a = 0 ∧ (S q).b = 0 ∧ (S q).c = 0 ∧ (S q).d = 0)) ∧ ((S q).k = 3 ∨ (S q).B = 0) ∧ ((S q).k = 6 → (S q).A = 0)
instance (S : Nat → Sd) (m q : Nat) : Decidable (okQ S m q) := by unfold okQ; infer_instance
def six (S : Nat → Sd) (q : Nat) : Bool := (S q).k == 6
/-- May an automaton be? -/
def rightP (S : Nat → Sd) (m : Nat) (st fin : Int) : Prop := (1 ≤ m ∧ m ≤ 600 ∧ 0 ≤ st ∧ st < m ∧ 0 ≤ fin ∧ fin < m) ∧ (∀ q, q < m → okQ S m q) ∧ cntT (six S) m = 1 ∧ (S fin.toNat).k = 6
instance (S : Nat → Sd) (m : Nat) (st fin : Int) : Decidable (rightP S m st fin) := by unfold rightP; infer_instance
theorem right_rng {S : Nat → Sd} {m : Nat} {st fin : Int} (h : rightP S m st fin) : rng S m := fun q hq => (h.2.1 q hq).1

set_option maxRecDepth 100000 in
set_option maxHeartbeats 40000000 in
theorem rright9_is (p : Option Addr) (m cap : Nat) (S : Nat → Sd) (st fin : Int) (hm : m ≤ 600) (w : World) (hp : m = 0 ∨ ∃ b off, p = some ⟨b, off, none⟩) (hS : ∀ b off, p = some ⟨b, off, none⟩ → rdS w b off m S) :
    Calls Try.prog 9 #[.agg #[.slice p m cap, .int .i64 st, .int .i64 fin]] w fun e w' => e = .returned (.bool (decide (rightP S m st fin))) ∧ Below w.heap.size w w' := by
  have hm2 : decide ((600 : Int) < (m : Int)) = false := decide_eq_false (by omega)
  have hm3 : decide (600 < m) = false := decide_eq_false (by omega)
  have HB0 := Lib.hid ((Below.refl w.heap.size w).alloc (Nat.le_refl _) (.cells #[.slice p m cap, .int .i64 st, .int .i64 fin] 24))
  rcases Nat.eq_zero_or_pos m with h0 | hpos
  · subst h0
    have HNO : Hid (decide (rightP S 0 st fin) = false) := Lib.hid (decide_eq_false fun h => by have := h.1; omega)
    clear hS hp
    go_enter Try.func9, Try.ntmps9
    go_wp2_with fail
    go_returns
    exact ⟨by rw [HNO.out] <;> rfl, HB0.out⟩
  obtain ⟨b, off, rfl⟩ : ∃ b off, p = some ⟨b, off, none⟩ := by
    rcases hp with h | h
    · omega
    · exact h
  have hS := hS b off rfl
  have hm1 : ((m : Int) == 0) = false := beq_eq_false_iff_ne.2 (by omega)
  clear hp
  by_cases s1 : st < 0
  · have ds1 : decide (st < 0) = true := decide_eq_true s1
    have HNO : Hid (decide (rightP S m st fin) = false) := Lib.hid (decide_eq_false fun h => by have := h.1; omega)
    clear hS hpos
    go_enter Try.func9, Try.ntmps9
    go_wp2_with fail
    go_returns
    exact ⟨by rw [HNO.out] <;> rfl, HB0.out⟩
  have ds1 : decide (st < 0) = false := decide_eq_false s1
  by_cases s2 : (m : Int) ≤ st
  · have ds2 : decide ((m : Int) ≤ st) = true := decide_eq_true s2
    have HNO : Hid (decide (rightP S m st fin) = false) := Lib.hid (decide_eq_false fun h => by have := h.1; omega)
    clear hS hpos
    go_enter Try.func9, Try.ntmps9
    go_wp2_with fail
    go_returns
    exact ⟨by rw [HNO.out] <;> rfl, HB0.out⟩
  have ds2 : decide ((m : Int) ≤ st) = false := decide_eq_false s2
  by_cases s3 : fin < 0
  · have ds3 : decide (fin < 0) = true := decide_eq_true s3
    have HNO : Hid (decide (rightP S m st fin) = false) := Lib.hid (decide_eq_false fun h => by have := h.1; omega)
    clear hS hpos
    go_enter Try.func9, Try.ntmps9
    go_wp2_with fail
    go_returns
    exact ⟨by rw [HNO.out] <;> rfl, HB0.out⟩
  have ds3 : decide (fin < 0) = false := decide_eq_false s3
  by_cases s4 : (m : Int) ≤ fin
  · have ds4 : decide ((m : Int) ≤ fin) = true := decide_eq_true s4
    have HNO : Hid (decide (rightP S m st fin) = false) := Lib.hid (decide_eq_false fun h => by have := h.1; omega)
    clear hS hpos
    go_enter Try.func9, Try.ntmps9
    go_wp2_with fail
    go_returns
    exact ⟨by rw [HNO.out] <;> rfl, HB0.out⟩
  have ds4 : decide ((m : Int) ≤ fin) = false := decide_eq_false s4
  have HH : Hid (1 ≤ m ∧ m ≤ 600 ∧ 0 ≤ st ∧ st < m ∧ 0 ≤ fin ∧ fin < m) := Lib.hid ⟨hpos, hm, by omega, by omega, by omega, by omega⟩
  obtain ⟨F, rfl⟩ : ∃ F : Nat, fin = F := ⟨fin.toNat, by omega⟩
  have F0 : (0 : Int) ≤ (F : Int) := by omega
  have F1 : (F : Int) < (m : Int) := by omega
  have HFm : Hid (F < m) := Lib.hid (by omega)
  obtain ⟨w1, hw1⟩ : ∃ w1, w.alloc (.cells #[.slice (some ⟨b, off, none⟩) m cap, .int .i64 st, .int .i64 (F : Int)] 24) = w1 := ⟨_, rfl⟩
  have hz : w1.heap.size = w.heap.size + 1 := by rw [← hw1]; simp
  have hal : Below w.heap.size w w1 := hw1 ▸ (Below.refl _ _).alloc (Nat.le_refl _) _
  have HB1 := Lib.hid hal
  have HS1 := Lib.hid (hS.below hal)
  have hn0 : w1.cell? ⟨w.heap.size, 0, none⟩ = some (.slice (some ⟨b, off, none⟩) m cap) ∧ w1.cell? ⟨w.heap.size, 1, none⟩ = some (.int .i64 st) ∧ w1.cell? ⟨w.heap.size, 2, none⟩ = some (.int .i64 (F : Int)) := by rw [← hw1]; simp
  have HN : Hid (∀ w', Below w1.heap.size w1 w' → w'.cell? ⟨w.heap.size, 0, none⟩ = some (.slice (some ⟨b, off, none⟩) m cap) ∧ w'.cell? ⟨w.heap.size, 1, none⟩ = some (.int .i64 st) ∧ w'.cell? ⟨w.heap.size, 2, none⟩ = some (.int .i64 (F : Int))) := Lib.hid fun w' h =>
    ⟨(h.cell (p := ⟨w.heap.size, 0, none⟩) (by show w.heap.size < _; omega)).trans hn0.1, (h.cell (p := ⟨w.heap.size, 1, none⟩) (by show w.heap.size < _; omega)).trans hn0.2.1, (h.cell (p := ⟨w.heap.size, 2, none⟩) (by show w.heap.size < _; omega)).trans hn0.2.2⟩
  have HW1 := Lib.hid hw1
  have HCL : Hid (∀ i, cntT (six S) i ≤ i) := Lib.hid fun i => cntT_le _ i
  clear hw1 hal hS hn0 hz
  go_enter Try.func9, Try.ntmps9
  go_wp2_with fail
  rw [HW1.out]
  clear ds1 ds2 ds3 ds4 s1 s2 s3 s4 hm1 hm2 hm3 HB0
  go_loopw [4, 5] (fun fv iv wr => ∃ i : Nat, i ≤ m ∧ fv = .int .i64 (cntT (six S) i : Nat) ∧ iv = .int .i64 i ∧ Hid (∀ q, q < i → okQ S m q) ∧ Below w1.heap.size w1 wr) (fun _ iv _ => m - (intOf iv).toNat)
  case atStart => exact ⟨0, Nat.zero_le _, rfl, rfl, Lib.hid fun q hq => absurd hq (Nat.not_lt_zero _), Below.refl _ _⟩
  case round =>
    obtain ⟨i, hi, rfl, rfl, HQ, hB⟩ := hrel
    have HBx := Lib.hid hB
    clear hB
    obtain ⟨n0, n1, n2⟩ := HN.out _ HBx.out
    by_cases hlti : i < m
    · have i0 : (0 : Int) ≤ (i : Int) := by omega
      have i1 : (i : Int) < (m : Int) := by omega
      obtain ⟨hbl, p0, p1, p2, p3, p4, p5, p6⟩ := (HS1.out.below HBx.out) i hlti
      have HOKQ : Hid (rightP S m st F → okQ S m i) := Lib.hid fun h => h.2.1 i hlti
      have HNEXT : Hid (okQ S m i → ∀ q, q < i + 1 → okQ S m q) := Lib.hid fun h q hq => by
        by_cases e : q = i
        · rw [e]; exact h
        · exact HQ.out q (by omega)
      have HCN : Hid (cntT (six S) (i + 1) = cntT (six S) i + if (S i).k = 6 then 1 else 0) := Lib.hid (by
        rw [cntT_succ]
        congr 1
        unfold six
        by_cases h : (S i).k = 6
        · rw [if_pos h, if_pos (by simp [h])]
        · rw [if_neg h, if_neg (by simp [h])])
      have hcl := HCL.out i
      generalize cntT (six S) i = cn at *
      obtain ⟨x, hx⟩ : ∃ x, S i = x := ⟨_, rfl⟩
      have HSX := Lib.hid hx
      rw [hx] at p0 p1 p2 p3 p4 p5 p6
      obtain ⟨xk, xa, xb, xc, xd, xA, xB⟩ := x
      simp only at p0 p1 p2 p3 p4 p5 p6
      clear hx
      have HBA := Lib.hid (HBx.out.alloc HBx.out.size (.cells #[.int .i64 xk, .int .i64 xA, .int .i64 xB, .int .u64 xa, .int .u64 xb, .int .u64 xc, .int .u64 xd] 64))
      have HBW := Lib.hid (HB1.out.trans (HBA.out.mono HB1.out.size))
      clear hbl
      by_cases t1 : xk < 1
      · have dt1 : decide (xk < 1) = true := decide_eq_true t1
        have HNO : Hid (decide (rightP S m st F) = false) := Lib.hid (decide_eq_false fun h => by have h := HOKQ.out h; unfold okQ at h; rw [HSX.out] at h; simp only at h; omega)
        go_wp2_with fail
        go_returns
        exact ⟨by rw [HNO.out] <;> rfl, HBW.out⟩
      have dt1 : decide (xk < 1) = false := decide_eq_false t1
      by_cases t2 : 6 < xk
      · have dt2 : decide (6 < xk) = true := decide_eq_true t2
        have HNO : Hid (decide (rightP S m st F) = false) := Lib.hid (decide_eq_false fun h => by have h := HOKQ.out h; unfold okQ at h; rw [HSX.out] at h; simp only at h; omega)
        go_wp2_with fail
        go_returns
        exact ⟨by rw [HNO.out] <;> rfl, HBW.out⟩
      have dt2 : decide (6 < xk) = false := decide_eq_false t2
      by_cases t3 : xA < 0
      · have dt3 : decide (xA < 0) = true := decide_eq_true t3
        have HNO : Hid (decide (rightP S m st F) = false) := Lib.hid (decide_eq_false fun h => by have h := HOKQ.out h; unfold okQ at h; rw [HSX.out] at h; simp only at h; omega)
        go_wp2_with fail
        go_returns
        exact ⟨by rw [HNO.out] <;> rfl, HBW.out⟩
      have dt3 : decide (xA < 0) = false := decide_eq_false t3
      by_cases t4 : (m : Int) ≤ xA
      · have dt4 : decide ((m : Int) ≤ xA) = true := decide_eq_true t4
        have HNO : Hid (decide (rightP S m st F) = false) := Lib.hid (decide_eq_false fun h => by have h := HOKQ.out h; unfold okQ at h; rw [HSX.out] at h; simp only at h; omega)
        go_wp2_with fail
        go_returns
        exact ⟨by rw [HNO.out] <;> rfl, HBW.out⟩
      have dt4 : decide ((m : Int) ≤ xA) = false := decide_eq_false t4
      by_cases t5 : xB < 0
      · have dt5 : decide (xB < 0) = true := decide_eq_true t5
        have HNO : Hid (decide (rightP S m st F) = false) := Lib.hid (decide_eq_false fun h => by have h := HOKQ.out h; unfold okQ at h; rw [HSX.out] at h; simp only at h; omega)
        go_wp2_with fail
        go_returns
        exact ⟨by rw [HNO.out] <;> rfl, HBW.out⟩
      have dt5 : decide (xB < 0) = false := decide_eq_false t5
      by_cases t6 : (m : Int) ≤ xB
      · have dt6 : decide ((m : Int) ≤ xB) = true := decide_eq_true t6
        have HNO : Hid (decide (rightP S m st F) = false) := Lib.hid (decide_eq_false fun h => by have h := HOKQ.out h; unfold okQ at h; rw [HSX.out] at h; simp only at h; omega)
        go_wp2_with fail
        go_returns
        exact ⟨by rw [HNO.out] <;> rfl, HBW.out⟩
      have dt6 : decide ((m : Int) ≤ xB) = false := decide_eq_false t6
      have HRG : Hid (1 ≤ xk ∧ xk ≤ 6 ∧ 0 ≤ xA ∧ xA < m ∧ 0 ≤ xB ∧ xB < m) := Lib.hid (by omega)
      have hq := fun w => eq_set_any 9998 xa xb xc xd 0 0 0 0 w
      obtain ⟨z, hz⟩ : ∃ z, (xa == 0 && xb == 0 && xc == 0 && xd == 0) = z := ⟨_, rfl⟩
      rw [hz] at hq
      have HZ : Hid (z = true ↔ (xa = 0 ∧ xb = 0 ∧ xc = 0 ∧ xd = 0)) := Lib.hid (by rw [← hz]; simp [and_assoc])
      clear hz
      have hkk : xk = 1 ∨ xk = 2 ∨ xk = 3 ∨ xk = 4 ∨ xk = 5 ∨ xk = 6 := by omega
      clear t1 t2
      rcases hkk with rfl | rfl | rfl | rfl | rfl | rfl
      · skip
        by_cases hB0 : xB = 0
        · subst hB0
          have HOK : Hid (okQ S m i) := Lib.hid (by unfold okQ; rw [HSX.out]; have h1 := HRG.out; exact ⟨h1, .inl rfl, .inr rfl, fun h => by simp at h⟩)
          have HC2 : Hid (cntT (six S) (i + 1) = cn) := Lib.hid (by rw [HCN.out, HSX.out]; simp)
          go_wp2_with fail
          go_roundw
          case rel => exact ⟨i + 1, by omega, by rw [HC2.out], by go_num, Lib.hid (HNEXT.out HOK.out), HBA.out⟩
          case measure => simp [intOf]; omega
        · have dB : (xB == 0) = false := beq_eq_false_iff_ne.2 hB0
          have dB2 : (xB != 0) = true := by simp [hB0]
          have HNO : Hid (decide (rightP S m st F) = false) := Lib.hid (decide_eq_false fun h => by have h := HOKQ.out h; unfold okQ at h; rw [HSX.out] at h; simp only at h; omega)
          go_wp2_with fail
          go_returns
          exact ⟨by rw [HNO.out] <;> rfl, HBW.out⟩
      · skip
        cases z with
        | false =>
          have HNO : Hid (decide (rightP S m st F) = false) := Lib.hid (decide_eq_false fun h => by have h := HOKQ.out h; unfold okQ at h; rw [HSX.out] at h; simp only at h; have := HZ.out; simp at this; omega)
          go_wp2_with fail
          go_returns
          exact ⟨by rw [HNO.out] <;> rfl, HBW.out⟩
        | true =>
          have HZZ := Lib.hid (HZ.out.1 rfl)
          by_cases hB0 : xB = 0
          · subst hB0
            have HOK : Hid (okQ S m i) := Lib.hid (by unfold okQ; rw [HSX.out]; have h1 := HRG.out; exact ⟨h1, .inr HZZ.out, .inr rfl, fun h => by simp at h⟩)
            have HC2 : Hid (cntT (six S) (i + 1) = cn) := Lib.hid (by rw [HCN.out, HSX.out]; simp)
            go_wp2_with fail
            go_roundw
            case rel => exact ⟨i + 1, by omega, by rw [HC2.out], by go_num, Lib.hid (HNEXT.out HOK.out), HBA.out⟩
            case measure => simp [intOf]; omega
          · have dB : (xB == 0) = false := beq_eq_false_iff_ne.2 hB0
            have dB2 : (xB != 0) = true := by simp [hB0]
            have HNO : Hid (decide (rightP S m st F) = false) := Lib.hid (decide_eq_false fun h => by have h := HOKQ.out h; unfold okQ at h; rw [HSX.out] at h; simp only at h; omega)
            go_wp2_with fail
            go_returns
            exact ⟨by rw [HNO.out] <;> rfl, HBW.out⟩
      · skip
        cases z with
        | false =>
          have HNO : Hid (decide (rightP S m st F) = false) := Lib.hid (decide_eq_false fun h => by have h := HOKQ.out h; unfold okQ at h; rw [HSX.out] at h; simp only at h; have := HZ.out; simp at this; omega)
          go_wp2_with fail
          go_returns
          exact ⟨by rw [HNO.out] <;> rfl, HBW.out⟩
        | true =>
          have HZZ := Lib.hid (HZ.out.1 rfl)
          have HOK : Hid (okQ S m i) := Lib.hid (by unfold okQ; rw [HSX.out]; have h1 := HRG.out; exact ⟨h1, .inr HZZ.out, .inl rfl, fun h => by simp at h⟩)
          have HC2 : Hid (cntT (six S) (i + 1) = cn) := Lib.hid (by rw [HCN.out, HSX.out]; simp)
          go_wp2_with fail
          go_roundw
          case rel => exact ⟨i + 1, by omega, by rw [HC2.out], by go_num, Lib.hid (HNEXT.out HOK.out), HBA.out⟩
          case measure => simp [intOf]; omega
      · skip
        cases z with
        | false =>
          have HNO : Hid (decide (rightP S m st F) = false) := Lib.hid (decide_eq_false fun h => by have h := HOKQ.out h; unfold okQ at h; rw [HSX.out] at h; simp only at h; have := HZ.out; simp at this; omega)
          go_wp2_with fail
          go_returns
          exact ⟨by rw [HNO.out] <;> rfl, HBW.out⟩
        | true =>
          have HZZ := Lib.hid (HZ.out.1 rfl)
          by_cases hB0 : xB = 0
          · subst hB0
            have HOK : Hid (okQ S m i) := Lib.hid (by unfold okQ; rw [HSX.out]; have h1 := HRG.out; exact ⟨h1, .inr HZZ.out, .inr rfl, fun h => by simp at h⟩)
            have HC2 : Hid (cntT (six S) (i + 1) = cn) := Lib.hid (by rw [HCN.out, HSX.out]; simp)
            go_wp2_with fail
            go_roundw
            case rel => exact ⟨i + 1, by omega, by rw [HC2.out], by go_num, Lib.hid (HNEXT.out HOK.out), HBA.out⟩
            case measure => simp [intOf]; omega
          · have dB : (xB == 0) = false := beq_eq_false_iff_ne.2 hB0
            have dB2 : (xB != 0) = true := by simp [hB0]
            have HNO : Hid (decide (rightP S m st F) = false) := Lib.hid (decide_eq_false fun h => by have h := HOKQ.out h; unfold okQ at h; rw [HSX.out] at h; simp only at h; omega)
            go_wp2_with fail
            go_returns
            exact ⟨by rw [HNO.out] <;> rfl, HBW.out⟩
      · skip
        cases z with
        | false =>
          have HNO : Hid (decide (rightP S m st F) = false) := Lib.hid (decide_eq_false fun h => by have h := HOKQ.out h; unfold okQ at h; rw [HSX.out] at h; simp only at h; have := HZ.out; simp at this; omega)
          go_wp2_with fail
          go_returns
          exact ⟨by rw [HNO.out] <;> rfl, HBW.out⟩
        | true =>
          have HZZ := Lib.hid (HZ.out.1 rfl)
          by_cases hB0 : xB = 0
          · subst hB0
            have HOK : Hid (okQ S m i) := Lib.hid (by unfold okQ; rw [HSX.out]; have h1 := HRG.out; exact ⟨h1, .inr HZZ.out, .inr rfl, fun h => by simp at h⟩)
            have HC2 : Hid (cntT (six S) (i + 1) = cn) := Lib.hid (by rw [HCN.out, HSX.out]; simp)
            go_wp2_with fail
            go_roundw
            case rel => exact ⟨i + 1, by omega, by rw [HC2.out], by go_num, Lib.hid (HNEXT.out HOK.out), HBA.out⟩
            case measure => simp [intOf]; omega
          · have dB : (xB == 0) = false := beq_eq_false_iff_ne.2 hB0
            have dB2 : (xB != 0) = true := by simp [hB0]
            have HNO : Hid (decide (rightP S m st F) = false) := Lib.hid (decide_eq_false fun h => by have h := HOKQ.out h; unfold okQ at h; rw [HSX.out] at h; simp only at h; omega)
            go_wp2_with fail
            go_returns
            exact ⟨by rw [HNO.out] <;> rfl, HBW.out⟩
      · skip
        cases z with
        | false =>
          have HNO : Hid (decide (rightP S m st F) = false) := Lib.hid (decide_eq_false fun h => by have h := HOKQ.out h; unfold okQ at h; rw [HSX.out] at h; simp only at h; have := HZ.out; simp at this; omega)
          go_wp2_with fail
          go_returns
          exact ⟨by rw [HNO.out] <;> rfl, HBW.out⟩
        | true =>
          have HZZ := Lib.hid (HZ.out.1 rfl)
          by_cases hB0 : xB = 0
          · subst hB0
            by_cases hA0 : xA = 0
            · subst hA0
              have HOK : Hid (okQ S m i) := Lib.hid (by unfold okQ; rw [HSX.out]; have h1 := HRG.out; exact ⟨h1, .inr HZZ.out, .inr rfl, fun _ => rfl⟩)
              have HC2 : Hid (cntT (six S) (i + 1) = cn + 1) := Lib.hid (by rw [HCN.out, HSX.out]; simp)
              go_wp2_with fail
              go_roundw
              case rel => exact ⟨i + 1, by omega, by rw [HC2.out]; go_num, by go_num, Lib.hid (HNEXT.out HOK.out), HBA.out⟩
              case measure => simp [intOf]; omega
            · have dA : (xA == 0) = false := beq_eq_false_iff_ne.2 hA0
              have dA2 : (xA != 0) = true := by simp [hA0]
              have HNO : Hid (decide (rightP S m st F) = false) := Lib.hid (decide_eq_false fun h => by have h := HOKQ.out h; unfold okQ at h; rw [HSX.out] at h; simp only at h; first | exact hA0 (h.2.2.2 rfl) | exact hA0 (h.2.2.2 trivial) | exact hA0 h.2.2.2 | (simp at h; omega))
              go_wp2_with fail
              go_returns
              exact ⟨by rw [HNO.out] <;> rfl, HBW.out⟩
          · have dB : (xB == 0) = false := beq_eq_false_iff_ne.2 hB0
            have dB2 : (xB != 0) = true := by simp [hB0]
            have HNO : Hid (decide (rightP S m st F) = false) := Lib.hid (decide_eq_false fun h => by have h := HOKQ.out h; unfold okQ at h; rw [HSX.out] at h; simp only at h; omega)
            go_wp2_with fail
            go_returns
            exact ⟨by rw [HNO.out] <;> rfl, HBW.out⟩
    · obtain rfl : i = m := by omega
      obtain ⟨hbl, p0, -, -, -, -, -, -⟩ := (HS1.out.below HBx.out) F HFm.out
      have HBW := Lib.hid (HB1.out.trans (HBx.out.mono HB1.out.size))
      have HEND : Hid (decide (rightP S i st F) = (((cntT (six S) i : Int) == 1) && ((S F).k == 6))) := Lib.hid (by
        apply Bool.eq_iff_iff.2
        rw [decide_eq_true_iff]
        simp only [Bool.and_eq_true, beq_iff_eq]
        unfold rightP
        rw [Int.toNat_natCast]
        constructor
        · rintro ⟨_, _, h3, h4⟩; exact ⟨by omega, h4⟩
        · rintro ⟨h3, h4⟩; exact ⟨HH.out, HQ.out, by omega, h4⟩)
      generalize cntT (six S) i = cn at *
      generalize (S F).k = kf at *
      cases hc1 : ((cn : Int) == 1) with
      | false =>
        rw [hc1] at HEND
        go_wp2_with fail
        go_returns
        exact ⟨by rw [HEND.out] <;> rfl, HBW.out⟩
      | true =>
        rw [hc1] at HEND
        cases hc2 : (kf == 6) with
        | false =>
          rw [hc2] at HEND
          go_wp2_with fail
          go_returns
          exact ⟨by rw [HEND.out] <;> rfl, HBW.out⟩
        | true =>
          rw [hc2] at HEND
          go_wp2_with fail
          go_returns
          exact ⟨by rw [HEND.out] <;> rfl, HBW.out⟩
end Go.Proofs.Ytepegohopgnmnaa
