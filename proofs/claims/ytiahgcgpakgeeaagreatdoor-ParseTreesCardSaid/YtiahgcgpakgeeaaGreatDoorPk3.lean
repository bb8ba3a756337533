/-
  The walk of the fifth reference's behind, given part.
-/
import Derived.Test.YtiahgcgpakgeeaaGreatDoorPk2
namespace Go.Proofs.YtiahgcgpakgeeaaGreatDoor
open Go.RowKit

set_option maxRecDepth 100000 in
set_option maxHeartbeats 8000000 in
theorem behind_of (T : Nat → Tn) (n m b off cap : Nat) (e : Nat → List Nd × Nat) (hn : n ≤ 1000) (hk : eOk n m e)
    (hP : ∀ a, m ≤ a + 1 → a < n → ∀ w, rdTn w b off n T → Calls Tryz.prog 52 #[.slice (some ⟨b, off, none⟩) n cap, .int .i64 (a : Int)] w (ndPost (partF T n e a) w))
    (a : Nat) (h1 : m ≤ a + 1) (h2 : a ≤ n) (w : World) (hr : rdTn w b off n T) :
    Calls Tryz.prog 35 #[.slice (some ⟨b, off, none⟩) n cap, .int .i64 (a : Int)] w (ndPost (bhF T n e a) w) := by
  obtain ⟨R, hR⟩ : ∃ R, bhF T n e a = R := ⟨_, rfl⟩
  rw [hR]
  have HPP := Lib.hid hP
  have HR : Hid (behL T n e (n + 2) a [] 0 = R) := Lib.hid hR
  have HRD := Lib.hid hr
  have HKK := Lib.hid hk
  clear hR hP hr hk
  go_enter Tryz.func35, Tryz.ntmps35
  go_wp2_with fail
  go_loopw [6, 7, 8] (fun v mn i wr => ∃ (i0 u many : Nat) (acc : List Nd), i = .int .i64 (i0 : Int) ∧ mn = .int .i64 (many : Int) ∧ a ≤ i0 ∧ i0 + a ≤ 2 * n + 1 ∧ many ≤ i0 ∧ (many = 0 → acc = [] ∧ i0 = a) ∧ (0 < many → 1 ≤ acc.length ∧ acc.length + 1 + 2 * a ≤ 2 * i0) ∧ wr.ownsRow w.heap.size 38 7 v acc.length (nds acc) ∧ Below w.heap.size w wr ∧ Hid (behL T n e u i0 acc many = R ∧ n + 2 ≤ u + i0)) (fun _ _ i _ => 3000 - (intOf i).toNat)
  case atStart => exact ⟨a, n + 2, 0, [], rfl, rfl, by omega, by omega, by omega, fun _ => ⟨rfl, rfl⟩, fun h => by omega, World.ownsRow_nil _ _ _ _, Below.refl _ _, Lib.hid ⟨HR.out, by omega⟩⟩
  case round =>
    obtain ⟨i, u, many, acc, rfl, rfl, q1, q2, q3, q4, q5, hown, hW, hh⟩ := hrel
    clear HR
    have Q4 := Lib.hid q4; have Q5 := Lib.hid q5
    clear q4 q5
    have hsz := hW.size
    have i0 : (0 : Int) ≤ (i : Int) := by omega
    have ib : (i : Int) ≤ 2001 := by omega
    have mb : (many : Int) ≤ 2001 := by omega
    have hacc : acc.length ≤ 4010 := by
      rcases Nat.eq_zero_or_pos many with h | h
      · rw [(Q4.out h).1]; simp
      · have := Q5.out h; omega
    have hend : ∀ (hst : ¬ (i < n ∧ (T i).k ≠ 2 ∧ (T i).k ≠ 4)), R = (if many = 0 then [nd0 2] else acc, i) := fun hst => by
      obtain ⟨x1, x2⟩ := hh.out
      rw [← x1]
      cases u with
      | zero =>
        rcases Nat.eq_zero_or_pos many with h | h
        · have := (Q4.out h).2; omega
        · unfold behL; rw [if_neg (by omega)]
      | succ u' => unfold behL; rw [if_neg (c := i < n ∧ (T i).k ≠ 2 ∧ (T i).k ≠ 4) hst]
    by_cases hgo : i < n ∧ (T i).k ≠ 2 ∧ (T i).k ≠ 4
    · clear hend
      obtain ⟨hlt, k2, k4⟩ := hgo
      have d0 : decide ((i : Int) < (n : Int)) = true := decide_eq_true (by omega)
      have ilt : (i : Int) < (n : Int) := by omega
      have hc := ((HRD.out.below hW) i hlt).2.1
      have hpf := partF_bd (T := T) HKK.out (a := i) (by omega) hlt
      have HQ := Lib.hid (HPP.out i (by omega) hlt)
      obtain ⟨⟨l1, j1⟩, hl1⟩ : ∃ r, partF T n e i = r := ⟨_, rfl⟩
      have HE : Hid (∃ u', behL T n e u' j1 (acc ++ l1 ++ if many = 0 then [] else [nd0 5]) (many + 1) = R ∧ n + 2 ≤ u' + j1) := Lib.hid (by
        obtain ⟨x1, x2⟩ := hh.out
        obtain ⟨u', rfl⟩ : ∃ u', u = u' + 1 := ⟨u - 1, by omega⟩
        rw [hl1] at hpf
        simp only at hpf
        refine ⟨u', ?_, by omega⟩
        rw [← x1]
        conv => rhs; unfold behL
        rw [if_pos (c := i < n ∧ (T i).k ≠ 2 ∧ (T i).k ≠ 4) ⟨hlt, k2, k4⟩, hl1])
      rw [hl1] at hpf HQ
      simp only at hpf
      obtain ⟨kk, hkk⟩ : ∃ kk, (T i).k = kk := ⟨_, rfl⟩
      rw [hkk] at hc k2 k4
      have d2 : (kk == 2) = false := beq_eq_false_iff_ne.2 k2
      have d4 : (kk == 4) = false := beq_eq_false_iff_ne.2 k4
      have d2' : (kk != 2) = true := by simp [k2]
      have d4' : (kk != 4) = true := by simp [k4]
      have HW := Lib.hid hW
      have HO := Lib.hid hown
      clear hh hkk hl1 hW hown k2 k4
      go_wp2_with fail
      refine (HQ.out _ (HRD.out.below HW.out)).mono ?_
      rintro e2 w2 ⟨v2, rfl, ho2, hb⟩
      obtain ⟨g2, c2, rfl, _, hg2, hcell⟩ := owns_block ho2 (by simp only; omega)
      have HO2 := Lib.hid (owns_below HO.out hb)
      have HW2 := Lib.hid (HW.out.trans (hb.mono hsz))
      have HC := Lib.hid hcell
      clear ho2 hb hcell HO HW HQ hc
      simp only
      go_wp2_with (at_builtin; refine append_nds rfl _ _ rfl w.heap.size _ acc rfl HO2.out g2 c2 l1 _ rfl rfl HC.out (by omega) HW2.out.size ?_; intro v3 w3 h3 hb3; refine Hid.out ?_)
      have HO3 := Lib.hid h3
      have HW3 := Lib.hid (HW2.out.trans hb3)
      clear h3 hb3 HO2 HW2 HC
      refine Lib.hid ?_
      rcases Nat.eq_zero_or_pos many with hm | hm
      · have hm1 : decide (0 < many) = false := decide_eq_false (by omega)
        have hm2 : decide ((0 : Int) < (many : Int)) = false := decide_eq_false (by omega)
        have hm3 : decide ((1 : Int) < (many : Int) + 1) = false := decide_eq_false (by omega)
        have hacc0 : acc.length = 0 ∧ i = a := ⟨by rw [(Q4.out hm).1]; rfl, (Q4.out hm).2⟩
        have HE2 : Hid (∃ u', behL T n e u' j1 (acc ++ l1) (many + 1) = R ∧ n + 2 ≤ u' + j1) := Lib.hid (by have := HE.out; rwa [if_pos hm, List.append_nil] at this)
        have HM := Lib.hid hm; have HA0 := Lib.hid hacc0
        clear hm hacc0 HE
        go_wp2
        go_roundw
        case rel =>
          obtain ⟨u', y1, y2⟩ := HE2.out
          have := HA0.out
          exact ⟨j1, u', many + 1, acc ++ l1, rfl, by go_num, by omega, by omega, by omega, fun h => by omega, fun _ => ⟨by simp; omega, by simp; omega⟩, HO3.out, HW3.out, Lib.hid ⟨y1, y2⟩⟩
        case measure => simp [intOf]; omega
      · have hm1 : decide (0 < many) = true := decide_eq_true (by omega)
        have hm2 : decide ((0 : Int) < (many : Int)) = true := decide_eq_true (by omega)
        have hm3 : decide ((1 : Int) < (many : Int) + 1) = true := decide_eq_true (by omega)
        have HE2 : Hid (∃ u', behL T n e u' j1 (acc ++ l1 ++ [nd0 5]) (many + 1) = R ∧ n + 2 ≤ u' + j1) := Lib.hid (by have := HE.out; rwa [if_neg (by omega)] at this)
        have hq5 := Q5.out hm
        clear HE
        go_wp2_with (at_builtin; refine append_nds rfl _ _ rfl w.heap.size _ (acc ++ l1) rfl (HO3.out.alloc _) w3.heap.size 1 [nd0 5] 1 rfl rfl (lit_nd w3 (nd0 5)) (by simp; omega) (by have := HW3.out.size; simp; omega) ?_; intro v4 w4 h4 hb4; refine Hid.out ?_)
        have HO4 := Lib.hid h4
        have HW4 := Lib.hid ((HW3.out.alloc HW3.out.size _).trans hb4)
        clear h4 hb4 HO3 HW3
        refine Lib.hid ?_
        go_wp2
        go_roundw
        case rel =>
          obtain ⟨u', y1, y2⟩ := HE2.out
          exact ⟨j1, u', many + 1, acc ++ l1 ++ [nd0 5], rfl, by go_num, by omega, by omega, by omega, fun h => by omega, fun _ => ⟨by simp; omega, by simp; omega⟩, HO4.out, HW4.out, Lib.hid ⟨y1, y2⟩⟩
        case measure => simp [intOf]; omega
    · have HE := Lib.hid (hend hgo)
      have HW := Lib.hid hW
      have HO := Lib.hid hown
      have hcs : (decide ((i : Int) < (n : Int)) = false ∧ ¬ i < n) ∨ (decide ((i : Int) < (n : Int)) = true ∧ i < n ∧ ((T i).k = 2 ∨ ((T i).k ≠ 2 ∧ (T i).k = 4))) := by
        by_cases hlt : i < n
        · refine .inr ⟨decide_eq_true (by omega), hlt, ?_⟩
          by_cases h2 : (T i).k = 2
          · exact .inl h2
          · exact .inr ⟨h2, by
              by_cases h4 : (T i).k = 4
              · exact h4
              · exact absurd ⟨hlt, h2, h4⟩ hgo⟩
        · exact .inl ⟨decide_eq_false (by omega), hlt⟩
      have HCC := Lib.hid (HRD.out.below hW)
      clear hh hend hgo hW hown
      rcases Nat.eq_zero_or_pos many with hm | hm
      · have HE2 : Hid (R = ([nd0 2], i)) := Lib.hid (by rw [HE.out, if_pos hm])
        have hm1 : ((many : Int) == 0) = true := beq_iff_eq.2 (by omega)
        clear HE hm
        rcases hcs with ⟨d0, hnlt⟩ | ⟨d0, hlt, hk2 | ⟨hk2, hk4⟩⟩
        · go_wp2
          go_ret2
          exact ndPost.mk [nd0 2] i HE2.out rfl (lit_owns wr w.heap.size hsz (nd0 2)) (HW.out.alloc hsz _)
        · have hc := (HCC.out i hlt).2.1
          rw [hk2] at hc
          have ilt : (i : Int) < (n : Int) := by omega
          clear hk2
          go_wp2
          go_ret2
          exact ndPost.mk [nd0 2] i HE2.out rfl (lit_owns wr w.heap.size hsz (nd0 2)) (HW.out.alloc hsz _)
        · have hc := (HCC.out i hlt).2.1
          rw [hk4] at hc
          have ilt : (i : Int) < (n : Int) := by omega
          clear hk2 hk4
          go_wp2
          go_ret2
          exact ndPost.mk [nd0 2] i HE2.out rfl (lit_owns wr w.heap.size hsz (nd0 2)) (HW.out.alloc hsz _)
      · have HE2 : Hid (R = (acc, i)) := Lib.hid (by rw [HE.out, if_neg (by omega)])
        have hm1 : ((many : Int) == 0) = false := beq_eq_false_iff_ne.2 (by omega)
        clear HE
        rcases hcs with ⟨d0, hnlt⟩ | ⟨d0, hlt, hk2 | ⟨hk2, hk4⟩⟩
        · go_wp2
          go_ret2
          exact ndPost.mk acc i HE2.out rfl HO.out HW.out
        · have hc := (HCC.out i hlt).2.1
          rw [hk2] at hc
          have ilt : (i : Int) < (n : Int) := by omega
          clear hk2
          go_wp2
          go_ret2
          exact ndPost.mk acc i HE2.out rfl HO.out HW.out
        · have hc := (HCC.out i hlt).2.1
          rw [hk4] at hc
          have ilt : (i : Int) < (n : Int) := by omega
          clear hk2 hk4
          go_wp2
          go_ret2
          exact ndPost.mk acc i HE2.out rfl HO.out HW.out
end Go.Proofs.YtiahgcgpakgeeaaGreatDoor
