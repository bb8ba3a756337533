/-
  The walk of the law ParseTrees: it answers true, at any text.
-/
import Derived.Test.YtiahgcgpakgeeaaGreatDoorPk45
import Derived.Test.YtiahgcgpakgeeaaGreatDoorPk46
import Derived.Test.YtiahgcgpakgeeaaGreatDoorPk50
namespace Go.Proofs.YtiahgcgpakgeeaaGreatDoor
open Go.RowKit

theorem patF_none {p : ByteArray} (h : (patF p).1 = none) : (patF p).2.2 ≠ 0 := by
  unfold patF at h ⊢
  by_cases h1 : 200 < p.size
  · rw [if_pos h1]; decide
  · rw [if_neg h1] at h ⊢
    cases ht : (toks p).1 with
    | none => simp
    | some l =>
      rw [ht] at h
      simp only at h ⊢
      unfold ofF at h ⊢
      by_cases c1 : (wrF (tof l) l.length (l.length + 1) 0 0).2.1 ≠ 0
      · rw [if_pos c1]; exact c1
      · rw [if_neg c1] at h ⊢
        by_cases c2 : 0 < (wrF (tof l) l.length (l.length + 1) 0 0).2.2
        · rw [if_pos c2]; simp
        · rw [if_neg c2] at h ⊢
          by_cases c3 : 512 < (ei (tof l) l.length (l.length + 1) 0).1.length
          · rw [if_pos c3]; simp
          · rw [if_neg c3] at h; cases h
theorem patF_some {p : ByteArray} {l : List Nd} (h : (patF p).1 = some l) : p.size ≤ 200 ∧ 1 ≤ l.length ∧ l.length ≤ 512 ∧ (patF p).2 = (0, 0) ∧ tree (nfn l) l.length ∧
    ∃ L, toks p = (some L, 0) ∧ L.length ≤ 200 ∧ inT l (tof L) L.length 0 0 ∧ ∀ j, j < L.length → normT (tof L j) := by
  have hlen := patF_len h
  unfold patF at h ⊢
  by_cases h1 : 200 < p.size
  · rw [if_pos h1] at h; cases h
  · rw [if_neg h1] at h ⊢
    cases ht : (toks p).1 with
    | none => rw [ht] at h; cases h
    | some L =>
      rw [ht] at h
      simp only at h ⊢
      have e : toks p = (some L, 0) := by
        have e1 : toks p = (some L, (toks p).2) := by rw [← ht]
        rw [e1, (toks_chain e1).2]
      obtain ⟨q1, q2, q3, q4, q5, q6⟩ := ofF_len h
      subst q6
      obtain ⟨t1, t2⟩ := ei_tree q4 q5 q2
      exact ⟨by omega, q1, q2, q3, t1, L, e, by have := toks_length e; omega, ⟨Nat.zero_le _, Nat.zero_le _, by rw [List.drop_zero]; exact t2⟩, fun j hj => tof_norm e j hj⟩

theorem eq_set_self (a b c d : Int) (w : World) : (Op.equalIn 10000 36 (.agg #[.int .u64 a, .int .u64 b, .int .u64 c, .int .u64 d]) (.agg #[.int .u64 a, .int .u64 b, .int .u64 c, .int .u64 d])).run Tryz.prog w = .ok true w := by
  rw [show (10000 : Nat) = 9998 + 2 from rfl, eq_set_any]; simp

set_option maxRecDepth 100000 in
set_option maxHeartbeats 2000000 in
theorem ptt_none (p : ByteArray) (w : World) (hT : Okw w) (h : (patF p).1 = none) :
    Calls Tryz.prog 4 #[.string p] w fun e w' => e = .returned (.bool true) ∧ Below w.heap.size w w' := by
  have HC := Lib.hid (fun w hT => cpat_any p w hT)
  have hb := patF_none h
  obtain ⟨⟨R0, ra, rb⟩, hRR⟩ : ∃ R, patF p = R := ⟨_, rfl⟩
  rw [hRR] at HC h hb
  simp only at h hb
  subst h
  have b1 : (rb == 0) = false := beq_eq_false_iff_ne.2 hb
  have b2 : (rb != 0) = true := by simp [hb]
  have HT := Lib.hid hT
  clear hRR hT hb
  go_enter Tryz.func4, Tryz.ntmps4
  go_wp2_with fail
  refine (awake5_any _ HT.out).mono ?_
  rintro e0 w0 ⟨rfl, hb0⟩
  have HB0 := Lib.hid hb0
  have HT0 := Lib.hid (HT.out.to hb0)
  clear hb0 HT
  go_wp2_with fail
  refine (HC.out _ HT0.out).mono ?_
  intro e1 w1 h1
  obtain rfl := h1.2.1 rfl
  have HB1 := Lib.hid (HB0.out.trans (h1.2.2.mono HB0.out.size))
  clear h1 HC HB0 HT0
  simp only
  go_wp2
  go_ret
  exact ⟨rfl, HB1.out⟩

set_option maxRecDepth 100000 in
set_option maxHeartbeats 8000000 in
theorem ptt_some (p : ByteArray) (l : List Nd) (L : List Tka) (T : Nat → Tn) (n m : Nat) (hp : p.size ≤ 200) (hn : L.length = n) (hm : l.length = m) (hTL : tof L = T) (hP : patF p = (some l, 0, 0)) (hL : toks p = (some L, 0)) (h1 : 1 ≤ m) (h512 : m ≤ 512) (h200 : n ≤ 200)
    (ht : tree (nfn l) m) (hI : inT l T n 0 0) (hN : ∀ j, j < n → normT (T j)) (w : World) (hT : Okw w) :
    Calls Tryz.prog 4 #[.string p] w fun e w' => e = .returned (.bool true) ∧ Below w.heap.size w w' := by
  have HC := Lib.hid (fun w hT => cpat_any p w hT)
  have HQ := Lib.hid (fun w => rtoks_of p hp (fun k hk w => rtok_any p k hp hk w) w)
  rw [hP] at HC
  rw [hL] at HQ
  have HT := Lib.hid hT
  have HI := Lib.hid hI
  have HN := Lib.hid hN
  have HTR := Lib.hid ht
  have HM := Lib.hid hm
  have HLL := Lib.hid hn
  have HTL := Lib.hid hTL
  have hqs := eq_set_self
  have HS := Lib.hid hqs
  clear hP hL hT hI hN ht hm hn hTL hqs hp
  go_enter Tryz.func4, Tryz.ntmps4
  go_wp2_with fail
  refine (awake5_any _ HT.out).mono ?_
  rintro e0 w0 ⟨rfl, hb0⟩
  have HB0 := Lib.hid hb0
  have HT0 := Lib.hid (HT.out.to hb0)
  clear hb0 HT
  go_wp2_with fail
  refine (HC.out _ HT0.out).mono ?_
  rintro e1 w1 ⟨h1', -, hb1⟩
  obtain ⟨v, rfl, hown⟩ := h1' l rfl
  obtain ⟨g, cap, rfl, hrd⟩ := nds_own hown (by rw [HM.out]; exact h1)
  rw [HM.out] at hrd ⊢
  have HB1 := Lib.hid (HB0.out.trans (hb1.mono HB0.out.size))
  have HR1 := Lib.hid hrd
  clear h1' hb1 hown hrd HC HB0 HT0
  simp only
  go_wp2_with fail
  refine (HQ.out _).mono ?_
  rintro e2 w2 ⟨h2, -, hb2⟩
  obtain ⟨v, rfl, hown⟩ := h2 L 0 rfl
  obtain ⟨tp, tc, rfl, HTP⟩ : ∃ tp tc, v = .slice tp n tc ∧ Hid (∀ j, j < n → ∃ b, tp = some ⟨b, 0, none⟩ ∧ b < w2.heap.size ∧ tnAt w2 b (0 + j * 8) (T j)) := by
    rcases toks_own hown with ⟨rfl, h0⟩ | ⟨b, c, rfl, _, hr⟩
    · exact ⟨none, 0, by rw [← HLL.out, h0], Lib.hid fun j hj => by have := HLL.out; omega⟩
    · exact ⟨some ⟨b, 0, none⟩, c, by rw [HLL.out], Lib.hid fun j hj => by have := hr j (by rw [HLL.out]; exact hj); rw [HTL.out] at this; exact ⟨b, rfl, this⟩⟩
  have HB2 := Lib.hid (HB1.out.trans (hb2.mono HB1.out.size))
  have HR := Lib.hid (HR1.out.below hb2)
  clear h2 hb2 hown HQ HB1 HR1 HLL HTL
  simp only
  go_wp2_with fail
  go_loopw [9, 10] (fun kk ii wr => ∃ k i : Nat, kk = .int .i64 k ∧ ii = .int .i64 i ∧ Hid (inT l T n i k) ∧ k ≤ n ∧ i ≤ m ∧ Below w2.heap.size w2 wr) (fun _ ii _ => m - (intOf ii).toNat)
  case atStart => exact ⟨0, 0, rfl, rfl, HI, Nat.zero_le _, Nat.zero_le _, Below.refl _ _⟩
  case round =>
    obtain ⟨k, i, rfl, rfl, HK, hk, hi, hB⟩ := hrel
    clear HI
    by_cases hlt : i < m
    · obtain ⟨hbl, p0, p1, p2, p3, p4, p5, p6⟩ := (HR.out.below hB) i hlt
      have hsz := hB.size
      have i0 : (0 : Int) ≤ (i : Int) := by omega
      have i1 : (i : Int) < (m : Int) := by omega
      obtain ⟨x, hx⟩ : ∃ x, nfn l i = x := ⟨_, rfl⟩
      rw [hx] at p0 p1 p2 p3 p4 p5 p6
      have HX := Lib.hid hx
      have HB := Lib.hid hB
      clear hx hB
      obtain ⟨xk, xa, xb, xc, xd, xl, xh⟩ := x
      simp only [Nat.zero_add] at p0 p1 p2 p3 p4 p5 p6
      by_cases hf : xk = 2 ∨ xk = 5 ∨ xk = 6
      · have HP : Hid (inT l T n (i + 1) k) := Lib.hid (HK.out.pass (by rw [HM.out]; exact hlt) (by rw [HX.out]; rcases hf with rfl | rfl | rfl <;> rfl))
        clear HK HX
        rcases hf with rfl | rfl | rfl
        all_goals
          go_wp2
          go_roundw
          case rel => exact ⟨k, i + 1, rfl, by go_num, HP, hk, by omega, HB.out.alloc hsz _⟩
          case measure => simp [intOf]; omega
      · have g2 : (xk == 2) = false := beq_eq_false_iff_ne.2 (by omega)
        have g5 : (xk == 5) = false := beq_eq_false_iff_ne.2 (by omega)
        have g6 : (xk == 6) = false := beq_eq_false_iff_ne.2 (by omega)
        have HLF : Hid (lfN (nfn l i) = true) := Lib.hid (by rw [HX.out]; unfold lfN; simp [g2, g5, g6])
        clear hf
        go_wp2_with fail
        go_loop [9] (fun kk => ∃ k : Nat, kk = .int .i64 k ∧ k ≤ n ∧ Hid (inT l T n i k)) (fun kk => n - (intOf kk).toNat)
        case atStart => exact ⟨k, rfl, hk, HK⟩
        case round =>
          obtain ⟨k', rfl, hk', HK'⟩ := hrel
          clear HK hk
          by_cases hkn : k' < n
          · obtain ⟨b, rfl, hbb0, htn⟩ := HTP.out k' hkn
            have htn' := htn.below HB.out hbb0
            have hbb : b < wr.heap.size := Nat.lt_of_lt_of_le hbb0 HB.out.size
            obtain ⟨t, ht⟩ : ∃ t, T k' = t := ⟨_, rfl⟩
            rw [ht] at htn'
            have HTK := Lib.hid ht
            clear htn ht
            obtain ⟨tk, tq, ta, tb, tc', td, tl', th⟩ := t
            obtain ⟨q0, q1, q2, q3, q4, q5, q6, q7⟩ := htn'
            simp only [Nat.zero_add] at q0 q1 q2 q3 q4 q5 q6 q7
            have k0 : (0 : Int) ≤ (k' : Int) := by omega
            have k1 : (k' : Int) < (n : Int) := by omega
            by_cases hs : tk = 2 ∨ tk = 3 ∨ tk = 4
            · have HP : Hid (inT l T n i (k' + 1)) := Lib.hid (HK'.out.skip hkn (by rw [HTK.out]; rcases hs with rfl | rfl | rfl <;> rfl))
              clear HK' HTK
              rcases hs with rfl | rfl | rfl
              all_goals
                go_wp2
                go_round
                case rel => exact ⟨k' + 1, by go_num, hkn, HP⟩
                case measure => simp [intOf]; omega
            · have HMT := Lib.hid (HK'.out.meet HN.out (by rw [HM.out]; exact hlt) HLF.out (fun _ => by rw [HTK.out]; unfold lfT; have e2 : (tk == 2) = false := beq_eq_false_iff_ne.2 (by omega); have e3 : (tk == 3) = false := beq_eq_false_iff_ne.2 (by omega); have e4 : (tk == 4) = false := beq_eq_false_iff_ne.2 (by omega); simp [e2, e3, e4]))
              have hlk := HMT.out.2.1
              rw [HX.out, HTK.out] at hlk
              have HP : Hid (inT l T n (i + 1) (k' + 1)) := Lib.hid HMT.out.2.2
              obtain ⟨e1, e2, e3, e4, e5, e6, e7⟩ := hlk
              simp only at e1 e2 e3 e4 e5 e6 e7
              subst e1 e2 e3 e4 e5 e6
              clear HMT HK' HTK HX HLF g2 g5 g6 hs
              have n1 : (k' == n) = false := beq_eq_false_iff_ne.2 (by omega)
              have n2 : ((k' : Int) == (n : Int)) = false := beq_eq_false_iff_ne.2 (by omega)
              have hqs := HS.out
              rcases e7 with ⟨rfl, rfl⟩ | ⟨rfl, rfl⟩ | ⟨rfl, rfl⟩ | ⟨rfl, rfl⟩
              all_goals
                go_wp2_with fail
                go_quiet (fail)
                go_wp2
                go_roundw
                case rel => exact ⟨k' + 1, i + 1, by go_num, by go_num, HP, hkn, by omega, below_drewN _ (HB.out.alloc hsz _)⟩
                case measure => simp [intOf]; omega
          · exact absurd (HK'.out.meet HN.out (by rw [HM.out]; exact hlt) HLF.out (fun h => absurd h hkn)).1 hkn
    · obtain rfl : i = m := by omega
      have HB := Lib.hid hB
      clear hB hi hlt
      go_wp2_with fail
      go_loop [9] (fun kk => ∃ k : Nat, kk = .int .i64 k ∧ k ≤ n ∧ Hid (inT l T n i k)) (fun kk => n - (intOf kk).toNat)
      case atStart => exact ⟨k, rfl, hk, HK⟩
      case round =>
          obtain ⟨k', rfl, hk', HK'⟩ := hrel
          clear HK hk
          have HEND : Hid (∀ _ : k' < n → lfT (T k') = true, k' = n) := Lib.hid (fun he => by have := HK'.out; rw [← HM.out] at this; exact this.last he)
          by_cases hkn : k' < n
          · obtain ⟨b, rfl, hbb0, htn⟩ := HTP.out k' hkn
            have htn' := htn.below HB.out hbb0
            have hbb : b < wr.heap.size := Nat.lt_of_lt_of_le hbb0 HB.out.size
            obtain ⟨t, ht⟩ : ∃ t, T k' = t := ⟨_, rfl⟩
            rw [ht] at htn'
            have HTK := Lib.hid ht
            clear htn ht
            obtain ⟨tk, tq, ta, tb, tc', td, tl', th⟩ := t
            obtain ⟨q0, q1, q2, q3, q4, q5, q6, q7⟩ := htn'
            simp only [Nat.zero_add] at q0 q1 q2 q3 q4 q5 q6 q7
            have k0 : (0 : Int) ≤ (k' : Int) := by omega
            have k1 : (k' : Int) < (n : Int) := by omega
            by_cases hs : tk = 2 ∨ tk = 3 ∨ tk = 4
            · have HP : Hid (inT l T n i (k' + 1)) := Lib.hid (HK'.out.skip hkn (by rw [HTK.out]; rcases hs with rfl | rfl | rfl <;> rfl))
              clear HK' HTK
              rcases hs with rfl | rfl | rfl
              all_goals
                go_wp2
                go_round
                case rel => exact ⟨k' + 1, by go_num, hkn, HP⟩
                case measure => simp [intOf]; omega
            · exact absurd (HEND.out (fun _ => by rw [HTK.out]; unfold lfT; have e2 : (tk == 2) = false := beq_eq_false_iff_ne.2 (by omega); have e3 : (tk == 3) = false := beq_eq_false_iff_ne.2 (by omega); have e4 : (tk == 4) = false := beq_eq_false_iff_ne.2 (by omega); simp [e2, e3, e4])) (by omega)
          · obtain rfl : k' = n := by omega
            clear HEND HK' hkn hk'
            go_wp2_with fail
            refine (rright_some g 0 i cap (nfn l) h1 h512 _ (HR.out.below HB.out)).mono ?_
            rintro e3 w3 ⟨rfl, hb3⟩
            rw [decide_eq_true HTR.out]
            have HB3 := Lib.hid (HB2.out.trans ((HB.out.trans (hb3.mono HB.out.size)).mono HB2.out.size))
            clear hb3
            go_wp2
            go_ret
            exact ⟨rfl, HB3.out⟩

theorem trees5_walk (p : ByteArray) (w : World) (hT : Okw w) :
    Calls Tryz.prog 4 #[.string p] w fun e w' => e = .returned (.bool true) ∧ Below w.heap.size w w' := by
  cases h : (patF p).1 with
  | none => exact ptt_none p w hT h
  | some l =>
    obtain ⟨g1, g2, g3, g4, g5, L, g6, g7, g8, g9⟩ := patF_some h
    exact ptt_some p l L _ _ _ g1 rfl rfl rfl (by rw [← h, ← g4]) g6 g2 g3 g7 g5 g8 g9 w hT
end Go.Proofs.YtiahgcgpakgeeaaGreatDoor
