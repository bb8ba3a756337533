/-
  The walk of the law TreeWhole at a tree of more than sixty nodes.
-/
import Derived.Test.YtligbocnakbabaaTwz
namespace Go.Proofs.Ytligbocnakbabaa
open Go.RowKit


set_option maxRecDepth 100000 in
set_option maxHeartbeats 8000000 in
theorem wholeb_is (b off n cap : Nat) (N : Nat → Nd) (hn : 60 < n) (hcap : n ≤ cap) (ht : tree N 60) (w : World) (hr : rdN w b off n N) :
    Calls Try.prog 5 #[.slice (some ⟨b, off, none⟩) n cap] w fun e w' => e = .returned (.bool true) ∧ Below w.heap.size w w' := by
  have HT := Lib.hid ht
  obtain ⟨E, HE⟩ : ∃ E, Hid (dpt N (60 - 1) = E) := ⟨_, Lib.hid rfl⟩
  clear ht
  have HR0 := Lib.hid (hr.take 60 (by omega))
  have hmc : 60 ≤ cap := by omega
  have hm60 : 60 ≤ 1000 := by omega
  have hm512 : 60 ≤ 512 := by omega
  have hm61 : (60 : Int) ≤ 1000 := by omega
  clear hr
  go_enter Try.func5, Try.ntmps5
  go_wp2_with fail
  refine (awake_any _).mono ?_
  rintro e w1 ⟨rfl, hb1⟩
  have HW1 := Lib.hid hb1
  have HR1 := Lib.hid (HR0.out.below hb1)
  clear hb1 HR0
  go_wp2_with fail
  refine (right_some _ _ _ _ _ hm512 _ HR1.out).mono ?_
  rintro e w2 ⟨rfl, hb2⟩
  have HW2 := Lib.hid (HW1.out.trans (hb2.mono HW1.out.size))
  have HR := Lib.hid (HR1.out.below hb2)
  clear hb2 HW1 HR1
  rw [show decide (tree N 60) = true from decide_eq_true HT.out]
  go_wp2_with fail
  go_loopw [3] (fun i wr => ∃ k : Nat, k ≤ 60 ∧ i = .int .i64 k ∧ Below w2.heap.size w2 wr) (fun i _ => 60 - (intOf i).toNat)
  case atStart => exact ⟨0, Nat.zero_le _, rfl, Below.refl _ _⟩
  case round =>
    obtain ⟨k, hk, rfl, hB⟩ := hrel
    obtain ⟨wo, rfl⟩ : ∃ wo : World, wo = wr := ⟨_, rfl⟩
    by_cases hlt : k < 60
    · have HRo := Lib.hid (HR.out.below hB)
      have HB := Lib.hid hB
      clear hB
      have h0 : (0 : Int) ≤ (k : Int) := by omega
      have h1 : (k : Int) < (60 : Int) := by omega
      have hfb := fst_bd N k
      have hfp := ((tree_iff.1 HT.out).2.2.1 k hlt).1
      have HFP := Lib.hid hfp
      have HKB := Lib.hid (kids_back hfp)
      obtain ⟨f, hf⟩ := Int.eq_ofNat_of_zero_le hfp
      have HPT := Lib.hid (tree_part HT.out hlt hf)
      have hDp := dpt_part HT.out hlt hf
      have hdl := dpt_le HT.out hlt
      have HF := Lib.hid hf
      obtain ⟨D, hD⟩ : ∃ D, dpt (fun j => N (f + j)) (k + 1 - f - 1) = D := ⟨_, rfl⟩
      rw [hD] at hDp
      rw [← hDp, HE.out] at hdl
      have tD : decide (E < D) = false := decide_eq_false (by omega)
      have HD := Lib.hid hD
      obtain ⟨len, hlen⟩ : ∃ len, k + 1 - f = len := ⟨_, rfl⟩
      rw [hlen] at HPT HD
      have hfk : f ≤ k := by omega
      have HL := Lib.hid hlen
      have hlk : len ≤ k + 1 := by omega
      clear hfb hfp hf hDp hdl hD hlen
      go_wp2_with fail
      refine (part_len _ _ _ _ _ f len N hm60 hlt hmc HF.out HL.out _ HRo.out).mono ?_
      rintro e w3 ⟨g3, c3, rfl, hg3, hb⟩
      have HR3 := Lib.hid (HRo.out.below hb)
      have HB3 := Lib.hid (HB.out.trans (hb.mono HB.out.size))
      have HP3 := Lib.hid hg3
      clear hb hg3 HRo HB
      go_wp2_with fail
      refine (kids_is _ _ _ _ _ N hm60 hlt HFP.out _ HR3.out).mono ?_
      rintro e w4 ⟨v4, rfl, hv4, hb⟩
      have HR4 := Lib.hid (HR3.out.below hb)
      have HB4 := Lib.hid (HB3.out.trans (hb.mono HB3.out.size))
      have HP4 := Lib.hid (HP3.out.below hb)
      clear hb HR3 HB3 HP3
      rcases HKB.out with ⟨ha, hks, hff⟩ | ⟨ha, hi0, hks, hff, hg⟩ | ⟨ha, f1, hf0, hfi, hf1, hks, hff, hg⟩
      · have hl1 : len = 1 := by rw [HF.out] at hff; have := HL.out; omega
        rw [hks] at hv4
        obtain ⟨p4, c4, rfl, -⟩ := rdI_form hv4
        subst hl1
        clear ha hks hff hv4 HKB
        go_wp2_with fail
        refine wp_loop_rounds 1 ?_
        rw [rounds_succ]; go_wp2_with fail
        refine (right_val _ _ _ _ _ (by omega) true (decide_eq_true HPT.out) _ HP4.out).mono ?_
        rintro e wa ⟨rfl, hb⟩
        have HPa := Lib.hid (HP4.out.below hb)
        have HBa := Lib.hid (HB4.out.trans (hb.mono HB4.out.size))
        have HRa := Lib.hid (HR4.out.below hb)
        clear hb
        go_wp2_with fail
        refine (depth_val _ _ _ _ _ HPT.out D HD.out _ HPa.out).mono ?_
        rintro e wb ⟨rfl, hb⟩
        have HBb := Lib.hid (HBa.out.trans (hb.mono HBa.out.size))
        have HRb := Lib.hid (HRa.out.below hb)
        clear hb HPa HBa HRa
        go_wp2_with fail
        refine (depth_val _ _ _ _ _ HT.out E HE.out _ HRb.out).mono ?_
        rintro e wc ⟨rfl, hb⟩
        have HBc := Lib.hid (HBb.out.trans (hb.mono HBb.out.size))
        clear hb HBb HRb
        go_wp2
        go_roundw
        case rel => exact ⟨k + 1, by omega, by go_num, HBc.out⟩
        case measure => simp [intOf]; omega
      · obtain ⟨j, rfl⟩ : ∃ j, k = j + 1 := ⟨k - 1, by omega⟩
        obtain ⟨f1, hf1⟩ := Int.eq_ofNat_of_zero_le (show 0 ≤ fst N j from hg)
        have hff1 : f1 = f := by have h := HF.out; have h' : fst N (j + 1) = fst N j := hff; omega
        subst hff1
        rw [hks, show ((j + 1 : Nat) : Int) - 1 = (j : Int) by omega] at hv4
        obtain ⟨p4, c4, rfl, hc4⟩ := rdI_form hv4
        obtain ⟨g4, rfl, hgl, hgc⟩ := hc4 0 (by simp)
        have hgc : w4.cell? ⟨g4, 0, none⟩ = some (.int .i64 (j : Int)) := hgc
        have HF1 := Lib.hid hf1
        obtain ⟨l1, hl1⟩ : ∃ l1, j + 1 - f1 = l1 := ⟨_, rfl⟩
        have hfb1 := (fst_bd N j).2
        have hll : len = 1 + l1 := by have := HL.out; omega
        have HL1 := Lib.hid hl1
        subst hll
        clear ha hks hff hv4 HKB hc4 hg hf1 hl1 hfb1
        go_wp2_with fail
        refine wp_loop_rounds 2 ?_
        rw [rounds_succ]; go_wp2_with fail
        refine (part_len _ _ _ _ j f1 l1 N hm60 (by omega) hmc HF1.out HL1.out _ HR4.out).mono ?_
        rintro e w5 ⟨g5, c5, rfl, -, hb⟩
        have HR5 := Lib.hid (HR4.out.below hb)
        have HB5 := Lib.hid (HB4.out.trans (hb.mono HB4.out.size))
        have HP5 := Lib.hid (HP4.out.below hb)
        clear hb HR4 HB4 HP4 hgc
        go_wp2_with fail
        rw [rounds_succ]; go_wp2_with fail
        refine (right_val _ _ _ _ _ (by omega) true (decide_eq_true HPT.out) _ HP5.out).mono ?_
        rintro e wa ⟨rfl, hb⟩
        have HPa := Lib.hid (HP5.out.below hb)
        have HBa := Lib.hid (HB5.out.trans (hb.mono HB5.out.size))
        have HRa := Lib.hid (HR5.out.below hb)
        clear hb
        go_wp2_with fail
        refine (depth_val _ _ _ _ _ HPT.out D HD.out _ HPa.out).mono ?_
        rintro e wb ⟨rfl, hb⟩
        have HBb := Lib.hid (HBa.out.trans (hb.mono HBa.out.size))
        have HRb := Lib.hid (HRa.out.below hb)
        clear hb HPa HBa HRa
        go_wp2_with fail
        refine (depth_val _ _ _ _ _ HT.out E HE.out _ HRb.out).mono ?_
        rintro e wc ⟨rfl, hb⟩
        have HBc := Lib.hid (HBb.out.trans (hb.mono HBb.out.size))
        clear hb HBb HRb
        go_wp2
        go_roundw
        case rel => exact ⟨j + 1 + 1, by omega, by go_num, HBc.out⟩
        case measure => simp [intOf]; omega
      · obtain ⟨j, rfl⟩ : ∃ j, k = j + 1 := ⟨k - 1, by omega⟩
        obtain ⟨q, rfl⟩ : ∃ q, f1 = q + 1 := ⟨f1 - 1, by omega⟩
        have hf1 : fst N j = ((q + 1 : Nat) : Int) := hf1
        obtain ⟨f2, hf2⟩ := Int.eq_ofNat_of_zero_le (show 0 ≤ fst N q from hg)
        have hff1 : f2 = f := by have h := HF.out; have h' : fst N (j + 1) = fst N q := hff; omega
        subst hff1
        rw [hks, show ((j + 1 : Nat) : Int) - 1 = (j : Int) by omega, show ((q + 1 : Nat) : Int) - 1 = (q : Int) by omega] at hv4
        obtain ⟨p4, c4, rfl, hc4⟩ := rdI_form hv4
        obtain ⟨g4, rfl, hgl, hgc⟩ := hc4 0 (by simp)
        have hgc : w4.cell? ⟨g4, 0, none⟩ = some (.int .i64 (q : Int)) := hgc
        obtain ⟨g4', hg4', -, hgd⟩ := hc4 1 (by simp)
        obtain rfl : g4 = g4' := by simpa using hg4'
        have hgd : w4.cell? ⟨g4, 1, none⟩ = some (.int .i64 (j : Int)) := hgd
        have HF1 := Lib.hid hf1; have HF2 := Lib.hid hf2
        obtain ⟨l1, hl1⟩ : ∃ l1, j + 1 - (q + 1) = l1 := ⟨_, rfl⟩
        obtain ⟨l2, hl2⟩ : ∃ l2, q + 1 - f2 = l2 := ⟨_, rfl⟩
        have hfb1 := (fst_bd N j).2
        have hfb2 := (fst_bd N q).2
        have hll : len = 1 + l2 + l1 := by have := HL.out; omega
        have HL1 := Lib.hid hl1; have HL2 := Lib.hid hl2
        subst hll
        clear ha hks hff hv4 HKB hc4 hg hf1 hl1 hfb1 hf2 hl2 hfb2 hg4'
        go_wp2_with fail
        refine wp_loop_rounds 3 ?_
        rw [rounds_succ]; go_wp2_with fail
        refine (part_len _ _ _ _ q f2 l2 N hm60 (by omega) hmc HF2.out HL2.out _ HR4.out).mono ?_
        rintro e w5 ⟨g5, c5, rfl, -, hb⟩
        have HR5 := Lib.hid (HR4.out.below hb)
        have HB5 := Lib.hid (HB4.out.trans (hb.mono HB4.out.size))
        have HP5 := Lib.hid (HP4.out.below hb)
        have hgd5 : w5.cell? ⟨g4, 1, none⟩ = some (.int .i64 (j : Int)) := by rw [hb.cell (p := ⟨g4, 1, none⟩) hgl]; exact hgd
        clear hb HR4 HB4 HP4 hgc hgd hgl
        go_wp2_with fail
        rw [rounds_succ]; go_wp2_with fail
        refine (part_len _ _ _ _ j (q + 1) l1 N hm60 (by omega) hmc HF1.out HL1.out _ HR5.out).mono ?_
        rintro e w6 ⟨g6, c6, rfl, -, hb⟩
        have HR6 := Lib.hid (HR5.out.below hb)
        have HB6 := Lib.hid (HB5.out.trans (hb.mono HB5.out.size))
        have HP6 := Lib.hid (HP5.out.below hb)
        clear hb HR5 HB5 HP5 hgd5
        go_wp2_with fail
        rw [rounds_succ]; go_wp2_with fail
        refine (right_val _ _ _ _ _ (by omega) true (decide_eq_true HPT.out) _ HP6.out).mono ?_
        rintro e wa ⟨rfl, hb⟩
        have HPa := Lib.hid (HP6.out.below hb)
        have HBa := Lib.hid (HB6.out.trans (hb.mono HB6.out.size))
        have HRa := Lib.hid (HR6.out.below hb)
        clear hb
        go_wp2_with fail
        refine (depth_val _ _ _ _ _ HPT.out D HD.out _ HPa.out).mono ?_
        rintro e wb ⟨rfl, hb⟩
        have HBb := Lib.hid (HBa.out.trans (hb.mono HBa.out.size))
        have HRb := Lib.hid (HRa.out.below hb)
        clear hb HPa HBa HRa
        go_wp2_with fail
        refine (depth_val _ _ _ _ _ HT.out E HE.out _ HRb.out).mono ?_
        rintro e wc ⟨rfl, hb⟩
        have HBc := Lib.hid (HBb.out.trans (hb.mono HBb.out.size))
        clear hb HBb HRb
        go_wp2
        go_roundw
        case rel => exact ⟨j + 1 + 1, by omega, by go_num, HBc.out⟩
        case measure => simp [intOf]; omega
    · have hkm : ¬ k < 60 := hlt
      have HRo := Lib.hid (HR.out.below hB)
      have HB := Lib.hid hB
      have hT := tree_iff.1 HT.out
      have hroot : fst N (60 - 1) = ((0 : Nat) : Int) := hT.2.2.2
      have hpos := hT.1
      have HRT := Lib.hid hroot
      clear hB hT hroot
      have h10 : 59 + 1 - 0 = 60 := rfl
      have h11 : 59 < 60 := by decide
      clear h10
      go_wp2_with fail
      refine (part_len _ _ _ _ 59 0 60 N hm60 h11 hmc HRT.out rfl _ HRo.out).mono ?_
      rintro e w8 ⟨g8, c8, rfl, -, hb⟩
      have HB8 := Lib.hid (HB.out.trans (hb.mono HB.out.size))
      clear hb
      go_wp2
      go_ret
      exact ⟨rfl, HW2.out.trans (HB8.out.mono HW2.out.size)⟩
end Go.Proofs.Ytligbocnakbabaa
