/-
  The walk of the reference's Set.
-/
import Derived.Test.YtgjpmfdiidkdnaaDoorPk40
import Derived.Test.YtgjpmfdiidkdnaaDoorPk41
import Derived.Test.YtgjpmfdiidkdnaaDoorPk4
import Derived.BigQuiet
import Derived.Deep.QuietTactic
namespace Go.Proofs.YtgjpmfdiidkdnaaDoor
open Go.RowKit

/-- A bracket, so far: the first k runs. -/
def outB (L : List (Nat × Nat)) (k : Nat) : ByteArray := bs (91 :: (L.take k).flatMap runL)
theorem outB_zero (L : List (Nat × Nat)) : outB L 0 = ⟨#[91]⟩ := by unfold outB; rw [List.take_zero]; rfl
theorem outB_step (L : List (Nat × Nat)) (k : Nat) (h : k < L.length) : outB L (k + 1) = outB L k ++ bs (runL L[k]) := by
  unfold outB
  rw [List.take_succ_eq_append_getElem h, List.flatMap_append, ← bs_append]
  simp
theorem outB_len (L : List (Nat × Nat)) (k : Nat) (h : k ≤ L.length) : (outB L k).size ≤ 1 + 9 * k := by
  induction k with
  | zero => rw [outB_zero]; exact Nat.le_refl _
  | succ k ih =>
    have := ih (by omega)
    rw [outB_step L k (by omega), ByteArray.size_append, bs_size]
    have h1 := end_len L[k].1
    have h2 := end_len L[k].2
    have : (runL L[k]).length ≤ 9 := by
      unfold runL
      rw [List.length_append]
      split
      · omega
      · split
        · rw [List.length_cons]; omega
        · simp; omega
    omega
theorem outB_all (f : Nat → Bool) (h1 : ¬ ((bl f 256).length = 255 ∧ f 10 = false)) (h2 : (bl f 256).length ≠ 1) : bs (setL f) = outB (segs f 256 256) (segs f 256 256).length ++ ⟨#[93]⟩ := by
  unfold setL outB
  rw [if_neg h1, if_neg h2, List.take_length, ← List.cons_append, bs_append]
  rfl
theorem rn_one (lo : Nat) : bs (runL (lo, lo)) = bs (endL lo) := by unfold runL; rw [if_neg (by simp), if_neg (by simp)]; simp
theorem rn_two (lo : Nat) : bs (runL (lo, lo + 1)) = bs (endL lo) ++ bs (endL (lo + 1)) := by unfold runL; rw [if_pos rfl, bs_append]
theorem rn_more (lo hi : Nat) (h : lo + 1 < hi) : bs (runL (lo, hi)) = bs (endL lo) ++ ⟨#[45]⟩ ++ bs (endL hi) := by
  unfold runL
  rw [if_neg (show ¬ (lo, hi).2 = (lo, hi).1 + 1 by show ¬ hi = lo + 1; omega), if_pos (show (lo, hi).1 + 1 < (lo, hi).2 from h), show endL (lo, hi).1 ++ 45 :: endL (lo, hi).2 = endL lo ++ [45] ++ endL hi by simp, bs_append, bs_append]
  rfl

theorem segs_len256 (f : Nat → Bool) : (segs f 256 256).length ≤ 256 := segs_length f 256 256
theorem below_dr6 {B : Nat} {w w' : World} (n : Nat) (h : Below B w w') : Below B w (w'.drewN n) := ⟨h.os, h.tape, h.output, h.size, h.block⟩
set_option maxRecDepth 100000 in
set_option maxHeartbeats 4000000 in
theorem rset_many (f : Nat → Bool) (w : World) (h1 : ¬ ((bl f 256).length = 255 ∧ f 10 = false)) (h2 : (bl f 256).length ≠ 1) :
    Calls Tryd.prog 9 #[sv f] w fun e w' => e = .returned (.string (bs (setL f))) ∧ Below w.heap.size w w' := by
  have HE := Lib.hid (outB_all f h1 h2)
  have HS0 := Lib.hid (isSet.new w f)
  have hlen := bl_le f 256
  obtain ⟨n, hn⟩ : ∃ n, (bl f 256).length = n := ⟨_, rfl⟩
  rw [hn] at h1 h2 hlen
  have n2 : ((n : Int) == 1) = false := beq_eq_false_iff_ne.2 (by omega)
  have hcase : ((n : Int) == 255) = false ∨ (((n : Int) == 255) = true ∧ Hid (f 10 = true)) := by
    by_cases hc : n = 255
    · refine .inr ⟨beq_iff_eq.2 (by omega), Lib.hid ?_⟩
      cases hf : f 10
      · exact absurd ⟨hc, hf⟩ h1
      · rfl
    · exact .inl (beq_eq_false_iff_ne.2 (by omega))
  have HN := Lib.hid hn
  clear h1 h2 hn
  unfold sv
  go_enter Tryd.func9, Tryd.ntmps9
  go_wp2_with fail
  have l0 := HS0.out.lt
  refine (rbytes_any f _).mono ?_
  rintro e w1 ⟨v8, rfl, hown8, hB1⟩
  obtain ⟨tp, cap, rfl⟩ : ∃ tp cap, v8 = .slice tp n cap := by
    rw [HN.out] at hown8
    rcases hown8.2 with ⟨rfl, h0⟩ | ⟨g, cap, cur, rfl, -⟩
    · exact ⟨none, 0, by rw [h0]⟩
    · exact ⟨_, cap, rfl⟩
  have HB1 := Lib.hid hB1
  have HS1 := Lib.hid (HS0.out.below hB1 l0)
  have l1 := HS1.out.lt
  clear hown8 hB1 HS0
  obtain ⟨q0, q1, q2, q3⟩ := HS1.out.cells
  have hsl := segs_len256 f
  rcases hcase with hc | ⟨hc, H10⟩
  · go_wp2_with fail
    refine (rruns_any f _).mono ?_
    rintro e w2 ⟨vr, rfl, hownR, hB2⟩
    have hB2' := HB1.out.trans (hB2.mono HB1.out.size)
    have HB2 : Hid (Below w.heap.size w w2) := Lib.hid (((Below.refl _ _).alloc (Nat.le_refl _) _).trans (hB2'.mono (by simp)))
    clear hB2'
    obtain ⟨tr, cr, rfl, hrd⟩ := rdR_of_owns hownR
    have hw2 := segs_whole f
    generalize segs f 256 256 = L at *
    obtain ⟨m, hm⟩ : ∃ m, L.length = m := ⟨_, rfl⟩
    have hm2 : m ≤ 256 := by rw [← hm]; exact hsl
    rw [hm] at HE ⊢
    have HM := Lib.hid hm
    have HW := Lib.hid hw2
    have HRD := Lib.hid hrd
    clear hownR hB2 hw2 hrd hm q0 q1 q2 q3 l0 l1 hsl
    go_wp2_with fail
    go_loopw [6, 7] (fun s i wr => ∃ (k : Nat) (o : ByteArray), k ≤ m ∧ i = .int .i64 k ∧ s = .string o ∧ o.size ≤ 1 + 9 * k ∧ Hid (o = outB L k) ∧ Below w2.heap.size w2 wr) (fun _ i _ => m - (intOf i).toNat)
    case atStart => exact ⟨0, ⟨#[91]⟩, Nat.zero_le _, rfl, rfl, by decide, Lib.hid (outB_zero L).symm, Below.refl _ _⟩
    case round =>
      obtain ⟨k, o, hk, rfl, rfl, hos, HO, hB⟩ := hrel
      by_cases hlt : k < m
      · have hlt' : k < L.length := by rw [HM.out]; exact hlt
        obtain ⟨g, rfl, hg, c0, c1⟩ := (HRD.out.below hB (Nat.le_refl _)) k hlt'
        have hwh := HW.out _ (List.getElem_mem hlt')
        have HST := Lib.hid (outB_step L k hlt')
        rw [← HO.out] at HST
        obtain ⟨⟨lo, hi⟩, hr⟩ : ∃ r, L[k] = r := ⟨_, rfl⟩
        rw [hr] at c0 c1 hwh HST
        simp only at c0 c1 hwh
        have HB := Lib.hid hB
        clear hB hr hlt'
        have i0 : (0 : Int) ≤ (k : Int) := by omega
        have i1 : (k : Int) < (m : Int) := by omega
        have HLo := Lib.hid (end_any lo (by omega))
        have HHi := Lib.hid (end_any hi (by omega))
        obtain ⟨slo, hslo⟩ : ∃ s, bs (endL lo) = s := ⟨_, rfl⟩
        obtain ⟨shi, hshi⟩ : ∃ s, bs (endL hi) = s := ⟨_, rfl⟩
        have zlo : slo.size ≤ 4 := by rw [← hslo, bs_size]; exact (end_len lo).2
        have zhi : shi.size ≤ 4 := by rw [← hshi, bs_size]; exact (end_len hi).2
        rw [hslo] at HLo
        rw [hshi] at HHi
        have g1 : ¬ (9223372036854775807 < o.size + slo.size) := by omega
        have g2 : ¬ (9223372036854775807 < o.size + slo.size + 1) := by omega
        have g3 : ¬ (9223372036854775807 < o.size + slo.size + 1 + shi.size) := by omega
        have g4 : ¬ (9223372036854775807 < o.size + slo.size + shi.size) := by omega
        have hlo : lo < 256 := hwh.2.2
        have hhi : hi < 256 := hwh.2.1
        have hcmp : (hi = lo) ∨ (hi = lo + 1) ∨ (lo + 1 < hi) := by omega
        rcases hcmp with hcmp | hcmp | hcmp
        · have t1 : ((hi : Int) == (lo : Int) + 1) = false := beq_eq_false_iff_ne.2 (by omega)
          have t2 : decide ((lo : Int) + 1 < (hi : Int)) = false := decide_eq_false (by omega)
          have HX : Hid (outB L (k + 1) = o ++ slo) := Lib.hid (by rw [HST.out, hcmp, rn_one, hslo])
          have hz : (o ++ slo).size ≤ 1 + 9 * (k + 1) := by rw [ByteArray.size_append]; omega
          have HZ := Lib.hid hz
          clear hslo hshi hcmp hwh HST hos zlo zhi hz
          go_wp2_with fail
          go_quiet (fail)
          go_wp2_with fail
          refine (HLo.out _).mono ?_
          rintro e wk ⟨rfl, hb⟩
          have HB3 := Lib.hid ((below_dr6 _ HB.out).trans (hb.mono (by exact HB.out.size)))
          clear hb HB
          go_wp2_with fail
          go_roundw
          case rel => exact ⟨k + 1, _, by omega, by go_num, rfl, HZ.out, Lib.hid HX.out.symm, HB3.out⟩
          case measure => simp [intOf]; omega
        · have t1 : ((hi : Int) == (lo : Int) + 1) = true := beq_iff_eq.2 (by omega)
          have t2 : decide ((lo : Int) + 1 < (hi : Int)) = false := decide_eq_false (by omega)
          have HX : Hid (outB L (k + 1) = o ++ slo ++ shi) := Lib.hid (by subst hcmp; rw [HST.out, rn_two, hslo, hshi, ByteArray.append_assoc])
          have hz : (o ++ slo ++ shi).size ≤ 1 + 9 * (k + 1) := by rw [ByteArray.size_append, ByteArray.size_append]; omega
          have HZ := Lib.hid hz
          clear hslo hshi hcmp hwh HST hos zlo zhi hz
          go_wp2_with fail
          go_quiet (fail)
          go_wp2_with fail
          refine (HLo.out _).mono ?_
          rintro e wk ⟨rfl, hb⟩
          have HB3 := Lib.hid ((below_dr6 _ HB.out).trans (hb.mono (by exact HB.out.size)))
          clear hb HB
          go_wp2_with fail
          refine (HHi.out _).mono ?_
          rintro e wk ⟨rfl, hb⟩
          have HB4 := Lib.hid (HB3.out.trans (hb.mono HB3.out.size))
          clear hb HB3
          go_wp2_with fail
          go_roundw
          case rel => exact ⟨k + 1, _, by omega, by go_num, rfl, HZ.out, Lib.hid HX.out.symm, HB4.out⟩
          case measure => simp [intOf]; omega
        · have t1 : ((hi : Int) == (lo : Int) + 1) = false := beq_eq_false_iff_ne.2 (by omega)
          have t2 : decide ((lo : Int) + 1 < (hi : Int)) = true := decide_eq_true (by omega)
          have HX : Hid (outB L (k + 1) = o ++ slo ++ ⟨#[45]⟩ ++ shi) := Lib.hid (by rw [HST.out, rn_more lo hi hcmp, hslo, hshi, ByteArray.append_assoc, ByteArray.append_assoc, ByteArray.append_assoc])
          have hz : (o ++ slo ++ ⟨#[45]⟩ ++ shi).size ≤ 1 + 9 * (k + 1) := by rw [ByteArray.size_append, ByteArray.size_append, ByteArray.size_append]; show o.size + slo.size + 1 + shi.size ≤ _; omega
          have HZ := Lib.hid hz
          clear hslo hshi hcmp hwh HST hos zlo zhi hz
          go_wp2_with fail
          go_quiet (fail)
          go_wp2_with fail
          refine (HLo.out _).mono ?_
          rintro e wk ⟨rfl, hb⟩
          have HB3 := Lib.hid ((below_dr6 _ HB.out).trans (hb.mono (by exact HB.out.size)))
          clear hb HB
          go_wp2_with fail
          refine (HHi.out _).mono ?_
          rintro e wk ⟨rfl, hb⟩
          have HB4 := Lib.hid (HB3.out.trans (hb.mono HB3.out.size))
          clear hb HB3
          go_wp2_with fail
          go_roundw
          case rel => exact ⟨k + 1, _, by omega, by go_num, rfl, HZ.out, Lib.hid HX.out.symm, HB4.out⟩
          case measure => simp [intOf]; omega
      · have hkm : k = m := by omega
        have HF := Lib.hid (HO.out)
        have g1 : ¬ (9223372036854775807 < o.size + 1) := by omega
        have HB := Lib.hid hB
        rw [hkm] at HF
        clear hB hkm hos HO
        go_wp2
        go_ret
        exact ⟨by rw [HE.out, ← HF.out] <;> rfl, HB2.out.trans (HB.out.mono HB2.out.size)⟩
  · go_wp2_with fail
    refine (rhas_lit f 10 (by decide) _).mono ?_
    rintro e wh ⟨rfl, hb⟩
    rw [H10.out]
    have HBh := Lib.hid (HB1.out.trans (hb.mono HB1.out.size))
    have HSh := Lib.hid (HS1.out.below hb l1)
    have lh := HSh.out.lt
    clear hb HB1 HS1 q0 q1 q2 q3 l1
    have HB1 := HBh
    have l1 := lh
    obtain ⟨q0, q1, q2, q3⟩ := HSh.out.cells
    go_wp2_with fail
    refine (rruns_any f _).mono ?_
    rintro e w2 ⟨vr, rfl, hownR, hB2⟩
    have hB2' := HB1.out.trans (hB2.mono HB1.out.size)
    have HB2 : Hid (Below w.heap.size w w2) := Lib.hid (((Below.refl _ _).alloc (Nat.le_refl _) _).trans (hB2'.mono (by simp)))
    clear hB2'
    obtain ⟨tr, cr, rfl, hrd⟩ := rdR_of_owns hownR
    have hw2 := segs_whole f
    generalize segs f 256 256 = L at *
    obtain ⟨m, hm⟩ : ∃ m, L.length = m := ⟨_, rfl⟩
    have hm2 : m ≤ 256 := by rw [← hm]; exact hsl
    rw [hm] at HE ⊢
    have HM := Lib.hid hm
    have HW := Lib.hid hw2
    have HRD := Lib.hid hrd
    clear hownR hB2 hw2 hrd hm q0 q1 q2 q3 l0 l1 hsl
    go_wp2_with fail
    go_loopw [6, 7] (fun s i wr => ∃ (k : Nat) (o : ByteArray), k ≤ m ∧ i = .int .i64 k ∧ s = .string o ∧ o.size ≤ 1 + 9 * k ∧ Hid (o = outB L k) ∧ Below w2.heap.size w2 wr) (fun _ i _ => m - (intOf i).toNat)
    case atStart => exact ⟨0, ⟨#[91]⟩, Nat.zero_le _, rfl, rfl, by decide, Lib.hid (outB_zero L).symm, Below.refl _ _⟩
    case round =>
      obtain ⟨k, o, hk, rfl, rfl, hos, HO, hB⟩ := hrel
      by_cases hlt : k < m
      · have hlt' : k < L.length := by rw [HM.out]; exact hlt
        obtain ⟨g, rfl, hg, c0, c1⟩ := (HRD.out.below hB (Nat.le_refl _)) k hlt'
        have hwh := HW.out _ (List.getElem_mem hlt')
        have HST := Lib.hid (outB_step L k hlt')
        rw [← HO.out] at HST
        obtain ⟨⟨lo, hi⟩, hr⟩ : ∃ r, L[k] = r := ⟨_, rfl⟩
        rw [hr] at c0 c1 hwh HST
        simp only at c0 c1 hwh
        have HB := Lib.hid hB
        clear hB hr hlt'
        have i0 : (0 : Int) ≤ (k : Int) := by omega
        have i1 : (k : Int) < (m : Int) := by omega
        have HLo := Lib.hid (end_any lo (by omega))
        have HHi := Lib.hid (end_any hi (by omega))
        obtain ⟨slo, hslo⟩ : ∃ s, bs (endL lo) = s := ⟨_, rfl⟩
        obtain ⟨shi, hshi⟩ : ∃ s, bs (endL hi) = s := ⟨_, rfl⟩
        have zlo : slo.size ≤ 4 := by rw [← hslo, bs_size]; exact (end_len lo).2
        have zhi : shi.size ≤ 4 := by rw [← hshi, bs_size]; exact (end_len hi).2
        rw [hslo] at HLo
        rw [hshi] at HHi
        have g1 : ¬ (9223372036854775807 < o.size + slo.size) := by omega
        have g2 : ¬ (9223372036854775807 < o.size + slo.size + 1) := by omega
        have g3 : ¬ (9223372036854775807 < o.size + slo.size + 1 + shi.size) := by omega
        have g4 : ¬ (9223372036854775807 < o.size + slo.size + shi.size) := by omega
        have hlo : lo < 256 := hwh.2.2
        have hhi : hi < 256 := hwh.2.1
        have hcmp : (hi = lo) ∨ (hi = lo + 1) ∨ (lo + 1 < hi) := by omega
        rcases hcmp with hcmp | hcmp | hcmp
        · have t1 : ((hi : Int) == (lo : Int) + 1) = false := beq_eq_false_iff_ne.2 (by omega)
          have t2 : decide ((lo : Int) + 1 < (hi : Int)) = false := decide_eq_false (by omega)
          have HX : Hid (outB L (k + 1) = o ++ slo) := Lib.hid (by rw [HST.out, hcmp, rn_one, hslo])
          have hz : (o ++ slo).size ≤ 1 + 9 * (k + 1) := by rw [ByteArray.size_append]; omega
          have HZ := Lib.hid hz
          clear hslo hshi hcmp hwh HST hos zlo zhi hz
          go_wp2_with fail
          go_quiet (fail)
          go_wp2_with fail
          refine (HLo.out _).mono ?_
          rintro e wk ⟨rfl, hb⟩
          have HB3 := Lib.hid ((below_dr6 _ HB.out).trans (hb.mono (by exact HB.out.size)))
          clear hb HB
          go_wp2_with fail
          go_roundw
          case rel => exact ⟨k + 1, _, by omega, by go_num, rfl, HZ.out, Lib.hid HX.out.symm, HB3.out⟩
          case measure => simp [intOf]; omega
        · have t1 : ((hi : Int) == (lo : Int) + 1) = true := beq_iff_eq.2 (by omega)
          have t2 : decide ((lo : Int) + 1 < (hi : Int)) = false := decide_eq_false (by omega)
          have HX : Hid (outB L (k + 1) = o ++ slo ++ shi) := Lib.hid (by subst hcmp; rw [HST.out, rn_two, hslo, hshi, ByteArray.append_assoc])
          have hz : (o ++ slo ++ shi).size ≤ 1 + 9 * (k + 1) := by rw [ByteArray.size_append, ByteArray.size_append]; omega
          have HZ := Lib.hid hz
          clear hslo hshi hcmp hwh HST hos zlo zhi hz
          go_wp2_with fail
          go_quiet (fail)
          go_wp2_with fail
          refine (HLo.out _).mono ?_
          rintro e wk ⟨rfl, hb⟩
          have HB3 := Lib.hid ((below_dr6 _ HB.out).trans (hb.mono (by exact HB.out.size)))
          clear hb HB
          go_wp2_with fail
          refine (HHi.out _).mono ?_
          rintro e wk ⟨rfl, hb⟩
          have HB4 := Lib.hid (HB3.out.trans (hb.mono HB3.out.size))
          clear hb HB3
          go_wp2_with fail
          go_roundw
          case rel => exact ⟨k + 1, _, by omega, by go_num, rfl, HZ.out, Lib.hid HX.out.symm, HB4.out⟩
          case measure => simp [intOf]; omega
        · have t1 : ((hi : Int) == (lo : Int) + 1) = false := beq_eq_false_iff_ne.2 (by omega)
          have t2 : decide ((lo : Int) + 1 < (hi : Int)) = true := decide_eq_true (by omega)
          have HX : Hid (outB L (k + 1) = o ++ slo ++ ⟨#[45]⟩ ++ shi) := Lib.hid (by rw [HST.out, rn_more lo hi hcmp, hslo, hshi, ByteArray.append_assoc, ByteArray.append_assoc, ByteArray.append_assoc])
          have hz : (o ++ slo ++ ⟨#[45]⟩ ++ shi).size ≤ 1 + 9 * (k + 1) := by rw [ByteArray.size_append, ByteArray.size_append, ByteArray.size_append]; show o.size + slo.size + 1 + shi.size ≤ _; omega
          have HZ := Lib.hid hz
          clear hslo hshi hcmp hwh HST hos zlo zhi hz
          go_wp2_with fail
          go_quiet (fail)
          go_wp2_with fail
          refine (HLo.out _).mono ?_
          rintro e wk ⟨rfl, hb⟩
          have HB3 := Lib.hid ((below_dr6 _ HB.out).trans (hb.mono (by exact HB.out.size)))
          clear hb HB
          go_wp2_with fail
          refine (HHi.out _).mono ?_
          rintro e wk ⟨rfl, hb⟩
          have HB4 := Lib.hid (HB3.out.trans (hb.mono HB3.out.size))
          clear hb HB3
          go_wp2_with fail
          go_roundw
          case rel => exact ⟨k + 1, _, by omega, by go_num, rfl, HZ.out, Lib.hid HX.out.symm, HB4.out⟩
          case measure => simp [intOf]; omega
      · have hkm : k = m := by omega
        have HF := Lib.hid (HO.out)
        have g1 : ¬ (9223372036854775807 < o.size + 1) := by omega
        have HB := Lib.hid hB
        rw [hkm] at HF
        clear hB hkm hos HO
        go_wp2
        go_ret
        exact ⟨by rw [HE.out, ← HF.out] <;> rfl, HB2.out.trans (HB.out.mono HB2.out.size)⟩

theorem setL_dot (f : Nat → Bool) (h1 : (bl f 256).length = 255 ∧ f 10 = false) : bs (setL f) = ⟨#[46]⟩ := by unfold setL; rw [if_pos h1]; rfl
theorem setL_sign (f : Nat → Bool) (c : Nat) (h1 : bl f 256 = [c]) (h2 : 33 ≤ c ∧ c ≤ 126 ∧ plainB c = false) : bs (setL f) = bs [92, c] := by
  unfold setL
  rw [h1, if_neg (by simp), if_pos (show [c].length = 1 from rfl), List.headD_cons, if_pos h2]
theorem setL_end (f : Nat → Bool) (c : Nat) (h1 : bl f 256 = [c]) (h2 : ¬ (33 ≤ c ∧ c ≤ 126 ∧ plainB c = false)) : bs (setL f) = bs (endL c) := by
  unfold setL
  rw [h1, if_neg (by simp), if_pos (show [c].length = 1 from rfl), List.headD_cons, if_neg h2]

set_option maxRecDepth 100000 in
set_option maxHeartbeats 4000000 in
theorem rset_dot (f : Nat → Bool) (w : World) (h1 : (bl f 256).length = 255 ∧ f 10 = false) :
    Calls Tryd.prog 9 #[sv f] w fun e w' => e = .returned (.string (bs (setL f))) ∧ Below w.heap.size w w' := by
  have HE := Lib.hid (setL_dot f h1)
  have HS0 := Lib.hid (isSet.new w f)
  have HN := Lib.hid h1.1
  have H10 := Lib.hid h1.2
  clear h1
  unfold sv
  go_enter Tryd.func9, Tryd.ntmps9
  go_wp2_with fail
  have l0 := HS0.out.lt
  refine (rbytes_any f _).mono ?_
  rintro e w1 ⟨v8, rfl, hown8, hB1⟩
  obtain ⟨tp, cap, rfl⟩ : ∃ tp cap, v8 = .slice tp 255 cap := by
    rw [HN.out] at hown8
    rcases hown8.2 with ⟨rfl, h0⟩ | ⟨g, cap, cur, rfl, -⟩
    · cases h0
    · exact ⟨_, cap, rfl⟩
  have HB1 : Hid (Below w.heap.size w w1) := Lib.hid (((Below.refl _ _).alloc (Nat.le_refl _) _).trans (hB1.mono (by simp)))
  have HS1 := Lib.hid (HS0.out.below hB1 l0)
  clear hown8 hB1 HS0
  obtain ⟨q0, q1, q2, q3⟩ := HS1.out.cells
  go_wp2_with fail
  refine (rhas_lit f 10 (by decide) _).mono ?_
  rintro e wh ⟨rfl, hb⟩
  rw [H10.out]
  have HBh := Lib.hid (HB1.out.trans (hb.mono HB1.out.size))
  clear hb
  go_wp2
  go_ret
  exact ⟨by rw [HE.out] <;> rfl, HBh.out⟩

set_option maxRecDepth 100000 in
set_option maxHeartbeats 4000000 in
theorem rset_one (f : Nat → Bool) (c : Nat) (w : World) (h1 : bl f 256 = [c]) :
    Calls Tryd.prog 9 #[sv f] w fun e w' => e = .returned (.string (bs (setL f))) ∧ Below w.heap.size w w' := by
  have hc : c < 256 := bl_bytes f 256 c (by rw [h1]; simp)
  have HS0 := Lib.hid (isSet.new w f)
  have HL := Lib.hid h1
  have HP := Lib.hid (plain_any c)
  have HEn := Lib.hid (end_any c hc)
  have HE1 := Lib.hid (setL_sign f c h1)
  have HE2 := Lib.hid (setL_end f c h1)
  clear h1
  unfold sv
  go_enter Tryd.func9, Tryd.ntmps9
  go_wp2_with fail
  have l0 := HS0.out.lt
  refine (rbytes_any f _).mono ?_
  rintro e w1 ⟨v8, rfl, hown8, hB1⟩
  rw [HL.out] at hown8
  obtain ⟨g, cap, rfl, hg, hcell⟩ : ∃ g cap, v8 = .slice (some ⟨g, 0, none⟩) 1 cap ∧ g < w1.heap.size ∧ w1.cell? ⟨g, 0, none⟩ = some (.int .u8 (c : Int)) := by
    have hlt := hown8.lt
    rcases id hown8.2 with ⟨rfl, h0⟩ | ⟨g, cap, cur, rfl, -⟩
    · cases h0
    · exact ⟨g, cap, rfl, (hlt g rfl).2, hown8.cellAt 0 (by simp)⟩
  have HB1 : Hid (Below w.heap.size w w1) := Lib.hid (((Below.refl _ _).alloc (Nat.le_refl _) _).trans (hB1.mono (by simp)))
  clear hown8 hB1 HS0 HL l0
  have hcv := conv2 (w1.alloc (.cells #[.int .u8 92, .int .u8 (c : Int)] 5)) w1.heap.size 2 92 c (by simp) (by simp)
  rcases Nat.lt_or_ge c 33 with hlt | hge
  · have d1 : decide ((33 : Int) ≤ (c : Int)) = false := decide_eq_false (by omega)
    have HF := Lib.hid (HE2.out (by omega))
    clear hcv HE1 HE2 hlt
    go_wp2_with fail
    refine (HEn.out _).mono ?_
    rintro e wk ⟨rfl, hb⟩
    have HB2 := Lib.hid (HB1.out.trans (hb.mono HB1.out.size))
    clear hb
    go_wp2
    go_ret
    exact ⟨by rw [HF.out] <;> rfl, HB2.out⟩
  · have d1 : decide ((33 : Int) ≤ (c : Int)) = true := decide_eq_true (by omega)
    rcases Nat.lt_or_ge 126 c with hlt | hle
    · have d2 : decide ((c : Int) ≤ 126) = false := decide_eq_false (by omega)
      have HF := Lib.hid (HE2.out (by omega))
      clear hcv HE1 HE2 hlt hge
      go_wp2_with fail
      refine (HEn.out _).mono ?_
      rintro e wk ⟨rfl, hb⟩
      have HB2 := Lib.hid (HB1.out.trans (hb.mono HB1.out.size))
      clear hb
      go_wp2
      go_ret
      exact ⟨by rw [HF.out] <;> rfl, HB2.out⟩
    · have d2 : decide ((c : Int) ≤ 126) = true := decide_eq_true (by omega)
      cases hpl : plainB c
      · have HF := Lib.hid (HE1.out ⟨hge, hle, hpl⟩)
        have HPL := Lib.hid hpl
        clear HE1 HE2 hle hge hpl
        go_wp2_with fail
        refine (HP.out _).mono ?_
        rintro e wk ⟨rfl, rfl⟩
        rw [HPL.out]
        go_wp2
        go_ret
        exact ⟨by rw [HF.out] <;> rfl, HB1.out.alloc (by exact HB1.out.size) _⟩
      · have HF := Lib.hid (HE2.out (fun h => by rw [hpl] at h; exact absurd h.2.2 (by decide)))
        have HPL := Lib.hid hpl
        clear hcv HE1 HE2 hle hge hpl
        go_wp2_with fail
        refine (HP.out _).mono ?_
        rintro e wk ⟨rfl, rfl⟩
        rw [HPL.out]
        go_wp2_with fail
        refine (HEn.out _).mono ?_
        rintro e wk ⟨rfl, hb⟩
        have HB2 := Lib.hid (HB1.out.trans (hb.mono HB1.out.size))
        clear hb
        go_wp2
        go_ret
        exact ⟨by rw [HF.out] <;> rfl, HB2.out⟩

/-- The reference's Set. -/
theorem rset_any (f : Nat → Bool) (w : World) : Calls Tryd.prog 9 #[sv f] w fun e w' => e = .returned (.string (bs (setL f))) ∧ Below w.heap.size w w' := by
  by_cases h1 : (bl f 256).length = 255 ∧ f 10 = false
  · exact rset_dot f w h1
  · by_cases h2 : (bl f 256).length = 1
    · obtain ⟨c, hc⟩ := List.length_eq_one_iff.1 h2
      exact rset_one f c w hc
    · exact rset_many f w h1 h2
end Go.Proofs.YtgjpmfdiidkdnaaDoor
