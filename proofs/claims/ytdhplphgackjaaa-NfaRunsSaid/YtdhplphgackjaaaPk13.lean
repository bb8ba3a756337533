/-
  The walk of the ninth reference's repeat.
-/
import Derived.Test.YtdhplphgackjaaaPk10
namespace Go.Proofs.Ytdhplphgackjaaa
open Go.RowKit

theorem rows_apart9 {w : World} {b1 b2 e1 e2 s1 s2 n1 n2 : Nat} {v1 v2 : Value} {x1 x2 : List Value} (h1 : w.ownsRow b1 e1 s1 v1 n1 x1) (h2 : w.ownsRow b2 e2 s2 v2 n2 x2) (hne : e1 ≠ e2) : v1.ownBlock = none ∨ v1.ownBlock ≠ v2.ownBlock := by
  rcases h1.2 with ⟨rfl, _⟩ | ⟨g1, c1, u1, rfl, _, p1, _⟩
  · exact .inl rfl
  · rcases h2.2 with ⟨rfl, _⟩ | ⟨g2, c2, u2, rfl, _, p2, _⟩
    · exact .inr (by simp [Value.ownBlock])
    · refine .inr fun h => ?_
      have hg : g1 = g2 := by simpa [Value.ownBlock] using h
      subst hg
      rw [p1] at p2
      simp at p2
      exact hne p2.2
def spl9 (l : List Nat) : List Value := l.map fun s : Nat => Value.int .i64 (s : Int)
theorem headD_get9 (l : List Nat) (h : 0 < l.length) : l.headD 0 = l[0] := by
  cases l with
  | nil => simp at h
  | cons x l => rfl
/-- A row of places that a call owns. -/
def spO (w : World) (base : Nat) (v : Value) (l : List Nat) : Prop := w.ownsRow base 3 1 v l.length (spl9 l)
theorem spO.stored {w : World} {base base' g c j : Nat} {v : Value} {l : List Nat} {L : List Sd} (h : spO w base v l) (hs : stO w base' g c L) (u : Value) : spO (w.setCell ⟨g, j, none⟩ u) base v l :=
  World.ownsRow.kept h (grown_setCell w g j u) (by
    rcases rows_apart9 h hs (by decide) with h | h
    · exact .inl h
    · exact .inr (by simpa [Value.ownBlock] using h))
theorem stO.apart {w w' : World} {base base' g c : Nat} {v : Value} {l : List Nat} {L : List Sd} (h : stO w base g c L) (hs : spO w base' v l) (hg : w.grownBy w' v.ownBlock) : stO w' base g c L :=
  World.ownsRow.kept h hg (rows_apart9 h hs (by decide))
set_option maxRecDepth 100000 in
set_option maxHeartbeats 8000000 in
theorem repeat_is (b off n cap kk : Nat) (N : Nat → Nd) (HM : MkC N n b off cap kk) (k a b' c' d lo hi : Int) (h0 : 0 ≤ lo) (h32 : lo ≤ 32) (hhi : hi = -1 ∨ (lo ≤ hi ∧ hi ≤ 32)) (sp : Option Addr) (sc : Nat) (L : List Sd) (w : World)
    (hlen : L.length + nst (.rep (trT N kk) lo hi) ≤ 1000) (hs : srd w (.slice sp L.length sc) L) (hr : rdN w b off n N) :
    Calls Try.prog 48 #[.slice (some ⟨b, off, none⟩) n cap, .agg #[.int .i64 k, .int .u64 a, .int .u64 b', .int .u64 c', .int .u64 d, .int .i64 lo, .int .i64 hi], .int .i64 (kk : Int), .slice sp L.length sc] w (mkPost (mkF (.rep (trT N kk) lo hi) L) w) := by
  obtain ⟨l, rfl⟩ : ∃ l : Nat, lo = l := ⟨lo.toNat, by omega⟩
  obtain ⟨T, hT⟩ : ∃ T, trT N kk = T := ⟨_, rfl⟩
  obtain ⟨W0, hW0⟩ : ∃ W0, (w.alloc (.cells #[.int .i64 k, .int .u64 a, .int .u64 b', .int .u64 c', .int .u64 d, .int .i64 (l : Int), .int .i64 hi] 56)).alloc (.cells #[.slice none 0 0, .int .i64 0, .int .i64 0] 67) = W0 := ⟨_, rfl⟩
  have hz : W0.heap.size = w.heap.size + 2 := by rw [← hW0]; simp
  have hal : Below w.heap.size w W0 := hW0 ▸ ((Below.refl _ _).alloc (Nat.le_refl _) _).alloc (by simp) _
  have hnd : W0.cell? ⟨w.heap.size, 5, none⟩ = some (.int .i64 (l : Int)) ∧ W0.cell? ⟨w.heap.size, 6, none⟩ = some (.int .i64 hi) := by rw [← hW0]; simp
  have hpt : isPt W0 (w.heap.size + 1) (.slice none 0 0) 0 0 := by
    have := isPt.new (w.alloc (.cells #[.int .i64 k, .int .u64 a, .int .u64 b', .int .u64 c', .int .u64 d, .int .i64 (l : Int), .int .i64 hi] 56)) (.slice none 0 0) 0 0
    rw [hW0, World.size_alloc] at this
    exact this
  have HND : Hid (∀ w', Below (w.heap.size + 2) W0 w' → (w'.cell? ⟨w.heap.size, 5, none⟩ = some (.int .i64 (l : Int)) ∧ w'.cell? ⟨w.heap.size, 6, none⟩ = some (.int .i64 hi))) := Lib.hid fun w' h => by
    rw [h.cell (p := ⟨w.heap.size, 5, none⟩) (by show w.heap.size < w.heap.size + 2; omega), h.cell (p := ⟨w.heap.size, 6, none⟩) (by show w.heap.size < w.heap.size + 2; omega)]; exact hnd
  have HPT := Lib.hid hpt
  have HAL := Lib.hid hal
  have HRW := Lib.hid hr
  have HZ := Lib.hid hz
  have hp := rput9_is _ sp sc L (by have : L.length + (2 + (l : Int).toNat * nst (trT N kk) + _) ≤ 1000 := hlen; omega) rfl 2 0 0 0 0 0 0 W0 (hs.below hal)
  have HP := Lib.hid hp
  have HMh := Lib.hid HM
  have HW0 := Lib.hid hW0
  have HLEN : Hid (L.length + (2 + l * nst T + (if hi = -1 then nst T + 1 else (hi - l).toNat * (nst T + 1))) ≤ 1000) := Lib.hid (by rw [hT] at hlen; exact hlen)
  have HHI := Lib.hid hhi
  have HTT := Lib.hid hT
  rw [hT]
  clear hp hs hr hal hnd hpt hz HM hW0 hlen hhi hT
  go_enter Try.func48, Try.ntmps48
  go_upto_region 1 with (fail)
  rw [HW0.out]
  go_wp2_with (refine wpList_build_st0 rfl _ rfl 2 rfl ?_)
  refine HP.out.mono ?_
  rintro e w1 ⟨g1, c1, rfl, ho1, hb1⟩
  have HB1 : Hid (Below (w.heap.size + 2) W0 w1) := Lib.hid (HZ.out ▸ hb1)
  have HO1 : Hid (stO w1 (w.heap.size + 2) g1 c1 (cpL (mkF T) 0 (L ++ [sE 0]) L.length).1) := Lib.hid (HZ.out ▸ ho1)
  obtain ⟨C, hC⟩ : ∃ C : Nat → List Sd × Nat, C = fun m => cpL (mkF T) m (L ++ [sE 0]) L.length := ⟨_, rfl⟩
  have HBD : Hid (∀ m, (C m).1.length = (L.length + 1) + m * nst T ∧ (C m).2 < (C m).1.length) := Lib.hid fun m => by
    have := cpL_bd T m (L ++ [sE 0]) L.length (by simp)
    rw [show (L ++ [sE 0]).length = L.length + 1 by simp] at this
    rw [hC]
    exact this
  have HSN : Hid (∀ m, C (m + 1) = (setA (mkF T (C m).1).1 (C m).2 (mkF T (C m).1).2.1, (mkF T (C m).1).2.2)) := Lib.hid fun m => by rw [hC]; exact cpL_snoc (mkF T) m _ _
  have HO1 : Hid (stO w1 (w.heap.size + 2) g1 c1 (C 0).1) := Lib.hid (hC ▸ HZ.out ▸ ho1)
  have HC0 : Hid ((C 0).2 = L.length) := Lib.hid (by rw [hC]; rfl)
  have HCC := Lib.hid hC
  clear hb1 ho1 HP HW0 hC
  go_wp2_with fail
  go_loopw [9, 11, 12] (fun tv av jv wr => ∃ m g c : Nat, m ≤ l ∧ jv = .int .i64 (m : Int) ∧ tv = .slice (some ⟨g, 0, none⟩) (C m).1.length c ∧ av = .int .i64 ((C m).2 : Int) ∧ Hid (stO wr (w.heap.size + 2) g c (C m).1) ∧ Below (w.heap.size + 2) W0 wr) (fun _ _ jv _ => l - (intOf jv).toNat)
  case atStart => exact ⟨0, g1, c1, Nat.zero_le _, rfl, by rw [(HBD.out 0).1, Nat.zero_mul], by rw [HC0.out], HO1, HB1.out⟩
  case round =>
    obtain ⟨m, g, c, hm, rfl, rfl, rfl, HS, hB⟩ := hrel
    have HB := Lib.hid hB
    obtain ⟨n5, n6⟩ := HND.out wr hB
    have HBw := Lib.hid (HAL.out.trans (hB.mono (show w.heap.size ≤ w.heap.size + 2 by omega)))
    clear hB
    by_cases hlt : m < l
    · have j1 : (m : Int) < (l : Int) := by omega
      have hmul : (m + 1) * nst T ≤ l * nst T := Nat.mul_le_mul_right _ hlt
      have hsm : (m + 1) * nst T = m * nst T + nst T := Nat.succ_mul m _
      have HC := Lib.hid (HMh.out (some ⟨g, 0, none⟩) c (C m).1 wr (by have := (HBD.out m).1; have := HLEN.out; rw [HTT.out]; omega) HS.out.rd (HRW.out.below HBw.out))
      have hwr : IntKind.i64.wrap ((m : Int) + 1) = (m : Int) + 1 := by rw [IntKind.wrap_i64]; omega
      clear hmul hsm
      go_wp2_with fail
      refine HC.out.mono ?_
      rintro e w2 ⟨g2, c2, rfl, ho2, hb2⟩
      rw [HTT.out] at ho2 ⊢
      have HSNm := Lib.hid (HSN.out m)
      have hlt2 : (C m).2 < (mkF T (C m).1).1.length := by have := (HBD.out m).2; have := mk_len T (C m).1; omega
      obtain ⟨X, hX⟩ : ∃ X, mkF T (C m).1 = X := ⟨_, rfl⟩
      rw [hX] at ho2 hlt2 HSNm ⊢
      have hsz : w.heap.size + 2 ≤ wr.heap.size := by have := HB.out.size; have := HZ.out; omega
      have HB2 := Lib.hid (HB.out.trans (hb2.mono hsz))
      have HO2 := Lib.hid (ho2.mono hsz)
      obtain ⟨w3, hw3⟩ : ∃ w3, w2.alloc (.cells #[.slice (some ⟨g2, 0, none⟩) X.1.length c2, .int .i64 (X.2.1 : Int), .int .i64 (X.2.2 : Int)] 67) = w3 := ⟨_, rfl⟩
      have HPA : Hid (isPt w3 w2.heap.size (.slice (some ⟨g2, 0, none⟩) X.1.length c2) X.2.1 X.2.2) := Lib.hid (hw3 ▸ isPt.new _ _ _ _)
      have hb3 : Below w2.heap.size w2 w3 := hw3 ▸ (Below.refl _ _).alloc (Nat.le_refl _) _
      have HB3 := Lib.hid (HB2.out.trans (hb3.mono (by have := HB2.out.size; have := HZ.out; omega)))
      have HO3 := Lib.hid (HO2.out.below hb3)
      have hne : w2.heap.size ≠ g2 := by have := HO2.out.lt.2; omega
      have HW3 := Lib.hid hw3
      clear hb3 hb2 ho2 hX hw3 HO2 HB2 HC n5 n6 HS HBw
      go_upto_region 7 with (fail)
      rw [HW3.out]
      obtain ⟨a0, a1, a2⟩ := HPA.out.cells
      have d0 : (0 : Int) ≤ ((C m).2 : Int) := by omega
      have d1 : ((C m).2 : Int) < (X.1.length : Int) := by omega
      have hgl : g2 < w3.heap.size := HO3.out.lt.2
      have cA := HO3.out.cellA hlt2
      have fA := HO3.out.free ((C m).2 * 7 + 1)
      go_upto_region 9 with (fail)
      obtain ⟨W4, hW4⟩ : ∃ W4, w3.setCell ⟨g2, (C m).2 * 7 + 1, none⟩ (.int .i64 (X.2.1 : Int)) = W4 := ⟨_, rfl⟩
      have HO4 : Hid (stO W4 (w.heap.size + 2) g2 c2 (setA X.1 (C m).2 X.2.1)) := Lib.hid (hW4 ▸ HO3.out.putA (C m).2 X.2.1)
      have HPA4 := Lib.hid (hW4 ▸ HPA.out.other (j := (C m).2 * 7 + 1) hne (.int .i64 (X.2.1 : Int)))
      have HB4 := Lib.hid (hW4 ▸ HB3.out.setCell (p := ⟨g2, (C m).2 * 7 + 1, none⟩) HO3.out.lt.1 (.int .i64 (X.2.1 : Int)))
      rw [hW4]
      clear a0 a1 a2 cA fA hgl hW4 HPA HB3 HO3 HW3 d0 d1 hne hlt2
      obtain ⟨a0, a1, a2⟩ := HPA4.out.cells
      go_wp2_with fail
      go_roundw
      case rel => exact ⟨m + 1, g2, c2, by omega, by go_num, by rw [HSNm.out]; simp only [setA_len], by rw [HSNm.out], by rw [HSNm.out]; exact HO4, HB4.out⟩
      case measure => simp [intOf]; omega
    · obtain rfl : l = m := by omega
      clear hlt
      obtain ⟨i0, hii, hz0, hz1, hz2⟩ := info_parts infoInt
      obtain ⟨D, hD⟩ : ∃ D : Nat → List Sd × Nat × List Nat, D = fun m => opL (mkF T) m (C l).1 (C l).2 := ⟨_, rfl⟩
      obtain ⟨M, hMM⟩ : ∃ M, (if hi = -1 then 1 else (hi - (l : Int)).toNat) = M := ⟨_, rfl⟩
      have HBD2 : Hid (∀ m, (D m).1.length = (C l).1.length + m * (nst T + 1) ∧ (D m).2.1 < (D m).1.length ∧ (D m).2.2.length = m ∧ ∀ s, s ∈ (D m).2.2 → s < (D m).1.length) := Lib.hid fun m => by
        have := opL_bd T m (C l).1 (C l).2 (HBD.out l).2
        rw [hD]
        exact this
      have HSN2 : Hid (∀ m, D (m + 1) = (setA ((mkF T (D m).1).1 ++ [sS (mkF T (D m).1).2.1 0]) (D m).2.1 (mkF T (D m).1).1.length, (mkF T (D m).1).2.2, (D m).2.2 ++ [(mkF T (D m).1).1.length])) := Lib.hid fun m => by rw [hD]; exact opL_snoc (mkF T) m _ _
      have HLEN2 : Hid (L.length + (2 + l * nst T + M * (nst T + 1)) ≤ 1000) := Lib.hid (by
        have h := HLEN.out
        rw [← hMM]
        by_cases hh : hi = -1
        · rw [if_pos hh] at h ⊢; omega
        · rw [if_neg hh] at h ⊢; omega)
      have HM33 : Hid (l ≤ 32 ∧ M ≤ 33 ∧ ∀ m, m ≤ M → m ≤ 33) := Lib.hid (by
        have hM : M ≤ 33 := by
          rw [← hMM]
          by_cases hh : hi = -1
          · rw [if_pos hh]; omega
          · rw [if_neg hh]; have := HHI.out; omega
        exact ⟨by omega, hM, fun m hm => by omega⟩)
      have HD0 : Hid ((D 0).1 = (C l).1 ∧ (D 0).2.1 = (C l).2 ∧ (D 0).2.2 = []) := Lib.hid (by rw [hD]; exact ⟨rfl, rfl, rfl⟩)
      have HDD := Lib.hid hD
      have HMM := Lib.hid hMM
      have HSP0 : Hid (spO wr (w.heap.size + 2) (.slice none 0 0) (D 0).2.2) := Lib.hid (by rw [HD0.out.2.2]; exact World.ownsRow_nil _ _ _ _)
      clear hD hMM n6
      go_wp2_with fail
      go_loopw [9, 11, 14, 15] (fun tv av sv jv wr => ∃ m g c : Nat, m ≤ M ∧ jv = .int .i64 ((l : Int) + (m : Int)) ∧ tv = .slice (some ⟨g, 0, none⟩) (D m).1.length c ∧ av = .int .i64 ((D m).2.1 : Int) ∧ Hid (spO wr (w.heap.size + 2) sv (D m).2.2) ∧ Hid (stO wr (w.heap.size + 2) g c (D m).1) ∧ Below (w.heap.size + 2) W0 wr) (fun _ _ _ jv _ => l + M - (intOf jv).toNat)
      case atStart => exact ⟨0, g, c, Nat.zero_le _, by simp, by rw [HD0.out.1], by rw [HD0.out.2.1], HSP0, Lib.hid (by rw [HD0.out.1]; exact HS.out), HB.out⟩
      case round =>
        clear HS HB HBw HSP0 n5
        obtain ⟨m, g, c, hm, rfl, rfl, rfl, HSP, HS, hB⟩ := hrel
        have HB := Lib.hid hB
        obtain ⟨n5, n6⟩ := HND.out wr hB
        have HBw := Lib.hid (HAL.out.trans (hB.mono (show w.heap.size ≤ w.heap.size + 2 by omega)))
        clear hB
        by_cases hlt : m < M
        · have hmul : (m + 1) * (nst T + 1) ≤ M * (nst T + 1) := Nat.mul_le_mul_right _ hlt
          have HMU := Lib.hid hmul
          have hsm : (m + 1) * (nst T + 1) = m * (nst T + 1) + (nst T + 1) := Nat.succ_mul m _
          have HSM := Lib.hid hsm
          by_cases hh : hi = -1
          · have hm0 : m = 0 := by have h := HMM.out; rw [if_pos hh] at h; omega
            subst hh
            have hj0 : ((l : Int) + (m : Int) == (l : Int)) = true := by rw [hm0]; simp
            have hj1 : decide ((l : Int) + (m : Int) < -1) = false := decide_eq_false (by omega)
            clear hm0
            have HC := Lib.hid (HMh.out (some ⟨g, 0, none⟩) c (D m).1 wr (by have := (HBD2.out m).1; have := HLEN2.out; have := (HBD.out l).1; have := HSM.out; have := HMU.out; rw [HTT.out]; omega) HS.out.rd (HRW.out.below HBw.out))
            have hwr : IntKind.i64.wrap ((l : Int) + (m : Int) + 1) = (l : Int) + (m : Int) + 1 := by rw [IntKind.wrap_i64]; have := HM33.out; omega
            clear hmul hsm
            go_wp2_with fail
            refine HC.out.mono ?_
            rintro e w2 ⟨g2, c2, rfl, ho2, hb2⟩
            rw [HTT.out] at ho2 ⊢
            have HSNm := Lib.hid (HSN2.out m)
            have hlt2 : (D m).2.1 < (mkF T (D m).1).1.length + 1 := by have := (HBD2.out m).2.1; have := mk_len T (D m).1; omega
            have HXL := Lib.hid (mk_len T (D m).1)
            obtain ⟨X, hX⟩ : ∃ X, mkF T (D m).1 = X := ⟨_, rfl⟩
            rw [hX] at ho2 hlt2 HSNm HXL ⊢
            have hsz : w.heap.size + 2 ≤ wr.heap.size := by have := HB.out.size; have := HZ.out; omega
            have HB2 := Lib.hid (HB.out.trans (hb2.mono hsz))
            have HSP2 := Lib.hid (owns_below HSP.out hb2)
            obtain ⟨w3, hw3⟩ : ∃ w3, w2.alloc (.cells #[.slice (some ⟨g2, 0, none⟩) X.1.length c2, .int .i64 (X.2.1 : Int), .int .i64 (X.2.2 : Int)] 67) = w3 := ⟨_, rfl⟩
            have HPA : Hid (isPt w3 w2.heap.size (.slice (some ⟨g2, 0, none⟩) X.1.length c2) X.2.1 X.2.2) := Lib.hid (hw3 ▸ isPt.new _ _ _ _)
            have hb3 : Below w2.heap.size w2 w3 := hw3 ▸ (Below.refl _ _).alloc (Nat.le_refl _) _
            have HB3 := Lib.hid (HB2.out.trans (hb3.mono (by have := HB2.out.size; have := HZ.out; omega)))
            have HSP3 := Lib.hid (owns_below HSP2.out hb3)
            have hp := rput9_is _ (some ⟨g2, 0, none⟩) c2 X.1 (by have := HXL.out; have := (HBD2.out m).1; have := HLEN2.out; have := (HBD.out l).1; have := HMU.out; have := HSM.out; omega) rfl 3 (X.2.1 : Int) 0 0 0 0 0 w3 (ho2.below hb3).rd
            have HP := Lib.hid hp
            have HW3 := Lib.hid hw3
            clear hp hb3 hb2 ho2 hX hw3 HB2 HC n5 n6 HS HBw HSP HSP2
            go_upto_region 15 with (fail)
            rw [HW3.out]
            obtain ⟨a0, a1, a2⟩ := HPA.out.cells
            go_wp2_with (refine wpList_build_stA rfl _ _ rfl 3 (X.2.1 : Int) rfl rfl ?_)
            refine HP.out.mono ?_
            rintro e w4 ⟨g4, c4, rfl, ho4, hb4⟩
            have hsz3 : w.heap.size + 2 ≤ w3.heap.size := by have := HB3.out.size; have := HZ.out; omega
            have HB4 := Lib.hid (HB3.out.trans (hb4.mono hsz3))
            have HO4 := Lib.hid (ho4.mono hsz3)
            have HPA4 := Lib.hid (HPA.out.below hb4 HPA.out.lt)
            have HSP4 := Lib.hid (owns_below HSP3.out hb4)
            have hne : w2.heap.size ≠ g4 := by have := ho4.lt.1; have := HPA.out.lt; omega
            have HLR : Hid ((X.1 ++ [(⟨3, 0, 0, 0, 0, (X.2.1 : Int), 0⟩ : Sd)]).length = X.1.length + 1) := Lib.hid (by simp)
            have HRR : Hid (X.1 ++ [(⟨3, 0, 0, 0, 0, (X.2.1 : Int), 0⟩ : Sd)] = X.1 ++ [sS X.2.1 0]) := Lib.hid rfl
            generalize (X.1 ++ [(⟨3, 0, 0, 0, 0, (X.2.1 : Int), 0⟩ : Sd)]) = R at *
            clear hb4 ho4 HP HB3 HPA HSP3 HW3 a0 a1 a2
            have d0 : (0 : Int) ≤ ((D m).2.1 : Int) := by omega
            have d1 : ((D m).2.1 : Int) < (R.length : Int) := by have := HLR.out; omega
            have hgl : g4 < w4.heap.size := HO4.out.lt.2
            have cA := HO4.out.cellA (j := (D m).2.1) (by have := HLR.out; omega)
            have fA := HO4.out.free ((D m).2.1 * 7 + 1)
            go_upto_region 18 with (fail)
            obtain ⟨W5, hW5⟩ : ∃ W5, w4.setCell ⟨g4, (D m).2.1 * 7 + 1, none⟩ (.int .i64 (X.1.length : Int)) = W5 := ⟨_, rfl⟩
            have HO5 : Hid (stO W5 (w.heap.size + 2) g4 c4 (setA R (D m).2.1 X.1.length)) := Lib.hid (hW5 ▸ HO4.out.putA (D m).2.1 X.1.length)
            have HPA5 := Lib.hid (hW5 ▸ HPA4.out.other (j := (D m).2.1 * 7 + 1) hne (.int .i64 (X.1.length : Int)))
            have HB5 := Lib.hid (hW5 ▸ HB4.out.setCell (p := ⟨g4, (D m).2.1 * 7 + 1, none⟩) HO4.out.lt.1 (.int .i64 (X.1.length : Int)))
            have HSP5 : Hid (spO W5 (w.heap.size + 2) u14 (D m).2.2) := Lib.hid (hW5 ▸ spO.stored (j := (D m).2.1 * 7 + 1) HSP4.out HO4.out (.int .i64 (X.1.length : Int)))
            rw [hW5]
            clear cA fA hgl hW5 HPA4 HB4 HO4 HSP4 d0 d1 hne hlt2
            obtain ⟨a0, a1, a2⟩ := HPA5.out.cells
            have HSL : Hid ((D m).2.2.length = m) := Lib.hid (HBD2.out m).2.2.1
            have hsz5 : w.heap.size + 2 ≤ W5.heap.size := by have := HB5.out.size; have := HZ.out; omega
            have HSPa := Lib.hid (World.ownsRow.alloc HSP5.out (.cells #[.int .i64 (X.1.length : Int)] 3))
            have HBa := Lib.hid (HB5.out.alloc hsz5 (.cells #[.int .i64 (X.1.length : Int)] 3))
            have HOa := Lib.hid (HO5.out.below ((Below.refl _ _).alloc (Nat.le_refl _) (.cells #[.int .i64 (X.1.length : Int)] 3)))
            have HSZa : Hid (w.heap.size + 2 ≤ (W5.alloc (.cells #[.int .i64 (X.1.length : Int)] 3)).heap.size) := Lib.hid (by rw [World.size_alloc]; omega)
            clear HO5 HB5
            go_wp2_with (at_builtin; refine wpList_append_own _ rfl _ _ 43 rfl (w.heap.size + 2) 3 i0 (.int .i64 0) 1 8 Try.underlying43 hii hz0 hz1 hz2 rfl (by decide) u14 _ _ rfl HSPa.out ⟨W5.heap.size, 0, none⟩ 1 1 [.int .i64 (X.1.length : Int)] rfl rfl ?c2 ?c3 ?c4 ?c6 HSZa.out ?_)
            case c2 =>
              intro j u hj
              match j, hj with
              | 0, hj => simp at hj; subst hj; simp [Addr.add]
            case c3 => intro u hu; simp at hu; subst hu; rfl
            case c4 => have := HSL.out; have := HM33.out; unfold maxLen; omega
            case c6 => have := HSL.out; have := HM33.out; omega
            intro v6 w6 hown6 hgrow6 _
            have HB6 := Lib.hid (HBa.out.grown hgrow6 HSZa.out (fun r hr => (HSP5.out.lt r hr).1))
            have HO6 := Lib.hid (HOa.out.apart (HSPa.out : spO _ _ u14 (D m).2.2) hgrow6)
            have HSP6 : Hid (spO w6 (w.heap.size + 2) v6 ((D m).2.2 ++ [X.1.length])) := Lib.hid (by unfold spO spl9; rw [List.length_append, List.map_append]; exact hown6)
            clear hown6 hgrow6 HBa HOa HSPa HSP5 HSZa a0 a1 a2
            go_wp2_with fail
            go_roundw
            case rel => exact ⟨m + 1, g4, c4, by omega, by rw [show ((m + 1 : Nat) : Int) = (m : Int) + 1 by omega]; go_num, by rw [HSNm.out]; simp only [setA_len]; rw [← HRR.out], by rw [HSNm.out], Lib.hid (by rw [HSNm.out]; exact HSP6.out), Lib.hid (by rw [HSNm.out, ← HRR.out]; exact HO6.out), HB6.out⟩
            case measure => simp [intOf]; omega
          · have hj1 : (l : Int) + (m : Int) < hi := by have h := HMM.out; rw [if_neg hh] at h; omega
            clear hh
            have HC := Lib.hid (HMh.out (some ⟨g, 0, none⟩) c (D m).1 wr (by have := (HBD2.out m).1; have := HLEN2.out; have := (HBD.out l).1; have := HSM.out; have := HMU.out; rw [HTT.out]; omega) HS.out.rd (HRW.out.below HBw.out))
            have hwr : IntKind.i64.wrap ((l : Int) + (m : Int) + 1) = (l : Int) + (m : Int) + 1 := by rw [IntKind.wrap_i64]; have := HM33.out; omega
            clear hmul hsm
            go_wp2_with fail
            refine HC.out.mono ?_
            rintro e w2 ⟨g2, c2, rfl, ho2, hb2⟩
            rw [HTT.out] at ho2 ⊢
            have HSNm := Lib.hid (HSN2.out m)
            have hlt2 : (D m).2.1 < (mkF T (D m).1).1.length + 1 := by have := (HBD2.out m).2.1; have := mk_len T (D m).1; omega
            have HXL := Lib.hid (mk_len T (D m).1)
            obtain ⟨X, hX⟩ : ∃ X, mkF T (D m).1 = X := ⟨_, rfl⟩
            rw [hX] at ho2 hlt2 HSNm HXL ⊢
            have hsz : w.heap.size + 2 ≤ wr.heap.size := by have := HB.out.size; have := HZ.out; omega
            have HB2 := Lib.hid (HB.out.trans (hb2.mono hsz))
            have HSP2 := Lib.hid (owns_below HSP.out hb2)
            obtain ⟨w3, hw3⟩ : ∃ w3, w2.alloc (.cells #[.slice (some ⟨g2, 0, none⟩) X.1.length c2, .int .i64 (X.2.1 : Int), .int .i64 (X.2.2 : Int)] 67) = w3 := ⟨_, rfl⟩
            have HPA : Hid (isPt w3 w2.heap.size (.slice (some ⟨g2, 0, none⟩) X.1.length c2) X.2.1 X.2.2) := Lib.hid (hw3 ▸ isPt.new _ _ _ _)
            have hb3 : Below w2.heap.size w2 w3 := hw3 ▸ (Below.refl _ _).alloc (Nat.le_refl _) _
            have HB3 := Lib.hid (HB2.out.trans (hb3.mono (by have := HB2.out.size; have := HZ.out; omega)))
            have HSP3 := Lib.hid (owns_below HSP2.out hb3)
            have hp := rput9_is _ (some ⟨g2, 0, none⟩) c2 X.1 (by have := HXL.out; have := (HBD2.out m).1; have := HLEN2.out; have := (HBD.out l).1; have := HMU.out; have := HSM.out; omega) rfl 3 (X.2.1 : Int) 0 0 0 0 0 w3 (ho2.below hb3).rd
            have HP := Lib.hid hp
            have HW3 := Lib.hid hw3
            clear hp hb3 hb2 ho2 hX hw3 HB2 HC n5 n6 HS HBw HSP HSP2
            go_upto_region 15 with (fail)
            rw [HW3.out]
            obtain ⟨a0, a1, a2⟩ := HPA.out.cells
            go_wp2_with (refine wpList_build_stA rfl _ _ rfl 3 (X.2.1 : Int) rfl rfl ?_)
            refine HP.out.mono ?_
            rintro e w4 ⟨g4, c4, rfl, ho4, hb4⟩
            have hsz3 : w.heap.size + 2 ≤ w3.heap.size := by have := HB3.out.size; have := HZ.out; omega
            have HB4 := Lib.hid (HB3.out.trans (hb4.mono hsz3))
            have HO4 := Lib.hid (ho4.mono hsz3)
            have HPA4 := Lib.hid (HPA.out.below hb4 HPA.out.lt)
            have HSP4 := Lib.hid (owns_below HSP3.out hb4)
            have hne : w2.heap.size ≠ g4 := by have := ho4.lt.1; have := HPA.out.lt; omega
            have HLR : Hid ((X.1 ++ [(⟨3, 0, 0, 0, 0, (X.2.1 : Int), 0⟩ : Sd)]).length = X.1.length + 1) := Lib.hid (by simp)
            have HRR : Hid (X.1 ++ [(⟨3, 0, 0, 0, 0, (X.2.1 : Int), 0⟩ : Sd)] = X.1 ++ [sS X.2.1 0]) := Lib.hid rfl
            generalize (X.1 ++ [(⟨3, 0, 0, 0, 0, (X.2.1 : Int), 0⟩ : Sd)]) = R at *
            clear hb4 ho4 HP HB3 HPA HSP3 HW3 a0 a1 a2
            have d0 : (0 : Int) ≤ ((D m).2.1 : Int) := by omega
            have d1 : ((D m).2.1 : Int) < (R.length : Int) := by have := HLR.out; omega
            have hgl : g4 < w4.heap.size := HO4.out.lt.2
            have cA := HO4.out.cellA (j := (D m).2.1) (by have := HLR.out; omega)
            have fA := HO4.out.free ((D m).2.1 * 7 + 1)
            go_upto_region 18 with (fail)
            obtain ⟨W5, hW5⟩ : ∃ W5, w4.setCell ⟨g4, (D m).2.1 * 7 + 1, none⟩ (.int .i64 (X.1.length : Int)) = W5 := ⟨_, rfl⟩
            have HO5 : Hid (stO W5 (w.heap.size + 2) g4 c4 (setA R (D m).2.1 X.1.length)) := Lib.hid (hW5 ▸ HO4.out.putA (D m).2.1 X.1.length)
            have HPA5 := Lib.hid (hW5 ▸ HPA4.out.other (j := (D m).2.1 * 7 + 1) hne (.int .i64 (X.1.length : Int)))
            have HB5 := Lib.hid (hW5 ▸ HB4.out.setCell (p := ⟨g4, (D m).2.1 * 7 + 1, none⟩) HO4.out.lt.1 (.int .i64 (X.1.length : Int)))
            have HSP5 : Hid (spO W5 (w.heap.size + 2) u14 (D m).2.2) := Lib.hid (hW5 ▸ spO.stored (j := (D m).2.1 * 7 + 1) HSP4.out HO4.out (.int .i64 (X.1.length : Int)))
            rw [hW5]
            clear cA fA hgl hW5 HPA4 HB4 HO4 HSP4 d0 d1 hne hlt2
            obtain ⟨a0, a1, a2⟩ := HPA5.out.cells
            have HSL : Hid ((D m).2.2.length = m) := Lib.hid (HBD2.out m).2.2.1
            have hsz5 : w.heap.size + 2 ≤ W5.heap.size := by have := HB5.out.size; have := HZ.out; omega
            have HSPa := Lib.hid (World.ownsRow.alloc HSP5.out (.cells #[.int .i64 (X.1.length : Int)] 3))
            have HBa := Lib.hid (HB5.out.alloc hsz5 (.cells #[.int .i64 (X.1.length : Int)] 3))
            have HOa := Lib.hid (HO5.out.below ((Below.refl _ _).alloc (Nat.le_refl _) (.cells #[.int .i64 (X.1.length : Int)] 3)))
            have HSZa : Hid (w.heap.size + 2 ≤ (W5.alloc (.cells #[.int .i64 (X.1.length : Int)] 3)).heap.size) := Lib.hid (by rw [World.size_alloc]; omega)
            clear HO5 HB5
            go_wp2_with (at_builtin; refine wpList_append_own _ rfl _ _ 43 rfl (w.heap.size + 2) 3 i0 (.int .i64 0) 1 8 Try.underlying43 hii hz0 hz1 hz2 rfl (by decide) u14 _ _ rfl HSPa.out ⟨W5.heap.size, 0, none⟩ 1 1 [.int .i64 (X.1.length : Int)] rfl rfl ?c2 ?c3 ?c4 ?c6 HSZa.out ?_)
            case c2 =>
              intro j u hj
              match j, hj with
              | 0, hj => simp at hj; subst hj; simp [Addr.add]
            case c3 => intro u hu; simp at hu; subst hu; rfl
            case c4 => have := HSL.out; have := HM33.out; unfold maxLen; omega
            case c6 => have := HSL.out; have := HM33.out; omega
            intro v6 w6 hown6 hgrow6 _
            have HB6 := Lib.hid (HBa.out.grown hgrow6 HSZa.out (fun r hr => (HSP5.out.lt r hr).1))
            have HO6 := Lib.hid (HOa.out.apart (HSPa.out : spO _ _ u14 (D m).2.2) hgrow6)
            have HSP6 : Hid (spO w6 (w.heap.size + 2) v6 ((D m).2.2 ++ [X.1.length])) := Lib.hid (by unfold spO spl9; rw [List.length_append, List.map_append]; exact hown6)
            clear hown6 hgrow6 HBa HOa HSPa HSP5 HSZa a0 a1 a2
            go_wp2_with fail
            go_roundw
            case rel => exact ⟨m + 1, g4, c4, by omega, by rw [show ((m + 1 : Nat) : Int) = (m : Int) + 1 by omega]; go_num, by rw [HSNm.out]; simp only [setA_len]; rw [← HRR.out], by rw [HSNm.out], Lib.hid (by rw [HSNm.out]; exact HSP6.out), Lib.hid (by rw [HSNm.out, ← HRR.out]; exact HO6.out), HB6.out⟩
            case measure => simp [intOf]; omega
        · skip
          obtain rfl : M = m := by omega
          clear hlt
          have HMK : Hid (mkF (.rep T (l : Int) hi) L = ((edL9 (hi == -1) (D M)).1, L.length, (edL9 (hi == -1) (D M)).2)) := Lib.hid (by
            have e : mkF (.rep T (l : Int) hi) L = ((edL9 (hi == -1) (opL (mkF T) (if hi = -1 then 1 else (hi - (l : Int)).toNat) (cpL (mkF T) (l : Int).toNat (L ++ [sE 0]) L.length).1 (cpL (mkF T) (l : Int).toNat (L ++ [sE 0]) L.length).2)).1, L.length, (edL9 (hi == -1) (opL (mkF T) (if hi = -1 then 1 else (hi - (l : Int)).toNat) (cpL (mkF T) (l : Int).toNat (L ++ [sE 0]) L.length).1 (cpL (mkF T) (l : Int).toNat (L ++ [sE 0]) L.length).2)).2) := rfl
            rw [e, Int.toNat_natCast, HMM.out, show cpL (mkF T) l (L ++ [sE 0]) L.length = C l by rw [HCC.out], show opL (mkF T) M (C l).1 (C l).2 = D M by rw [HDD.out]])
          have HSL : Hid ((D M).2.2.length = M) := Lib.hid (HBD2.out M).2.2.1
          have HSLT : Hid (∀ q (h : q < (D M).2.2.length), (D M).2.2[q] < (D M).1.length) := Lib.hid fun q h => (HBD2.out M).2.2.2 _ (List.getElem_mem h)
          obtain ⟨ps, cs, rfl, hsc⟩ : ∃ ps cs, u14 = .slice ps M cs ∧ ∀ q (h : q < (D M).2.2.length), ∃ gs, ps = some ⟨gs, 0, none⟩ ∧ gs < wr.heap.size ∧ wr.cell? ⟨gs, q, none⟩ = some (.int .i64 ((D M).2.2[q] : Int)) := by
            have hlt := HSP.out.lt
            rcases id HSP.out.2 with ⟨h1, h2⟩ | ⟨gs, cs, cur, h1, _⟩
            · exact ⟨none, 0, by rw [h1, ← HSL.out, h2], fun q h => absurd h (by omega)⟩
            · subst h1
              refine ⟨some ⟨gs, 0, none⟩, cs, by rw [HSL.out], fun q h => ⟨gs, rfl, (hlt gs rfl).2, ?_⟩⟩
              rw [HSP.out.cellAt q (by omega)]
              simp [spl9, h]
          have hsz : w.heap.size + 2 ≤ wr.heap.size := by have := HB.out.size; have := HZ.out; omega
          have hlt2 : (D M).2.1 < (D M).1.length + 1 := by have := (HBD2.out M).2.1; omega
          have hp := rput9_is _ (some ⟨g, 0, none⟩) c (D M).1 (by have := (HBD2.out M).1; have := HLEN2.out; have := (HBD.out l).1; omega) rfl 2 0 0 0 0 0 0 wr HS.out.rd
          have HP := Lib.hid hp
          have HSC := Lib.hid hsc
          have HN5 := Lib.hid hsz
          have hm33 : M ≤ 33 := HM33.out.2.1
          clear hp hsc HSP HS HBD HBD2 HSN HSN2 HLEN HLEN2 HDD HCC HD0 HC0 HMh HRW
          by_cases hh : hi = -1
          · have hm1 : M = 1 := by have h := HMM.out; rw [if_pos hh] at h; omega
            subst hh hm1
            have hj0 : ((l : Int) + ((1 : Nat) : Int) == (l : Int)) = false := beq_eq_false_iff_ne.2 (by omega)
            have hj0' : ((l : Int) + 1 == (l : Int)) = false := beq_eq_false_iff_ne.2 (by omega)
            have hj1 : decide ((l : Int) + ((1 : Nat) : Int) < -1) = false := decide_eq_false (by omega)
            have hj1' : decide ((l : Int) + 1 < -1) = false := decide_eq_false (by omega)
            go_wp2_with (refine wpList_build_st0 rfl _ rfl 2 rfl ?_)
            refine HP.out.mono ?_
            rintro e w5 ⟨g5, c5, rfl, ho5, hb5⟩
            have HB5 := Lib.hid (HB.out.trans (hb5.mono hsz))
            have HO5 := Lib.hid (ho5.mono hsz)
            have HG5 : Hid (wr.heap.size ≤ g5) := Lib.hid ho5.lt.1
            have HLR : Hid (((D 1).1 ++ [(⟨2, 0, 0, 0, 0, 0, 0⟩ : Sd)]).length = (D 1).1.length + 1) := Lib.hid (by simp)
            have HRR : Hid ((D 1).1 ++ [(⟨2, 0, 0, 0, 0, 0, 0⟩ : Sd)] = (D 1).1 ++ [sE 0]) := Lib.hid rfl
            obtain ⟨R, hR⟩ : ∃ R, (D 1).1 ++ [(⟨2, 0, 0, 0, 0, 0, 0⟩ : Sd)] = R := ⟨_, rfl⟩
            rw [hR] at HO5 HLR HRR ⊢
            have HGR5 : Hid (wr.grownBy w5 (some g5)) := Lib.hid ⟨hb5.os, hb5.tape, hb5.output, hb5.size, fun k hk _ => hb5.block k hk⟩
            clear hR hb5 ho5 HP
            have d0 : (0 : Int) ≤ ((D 1).2.1 : Int) := by omega
            have d1 : ((D 1).2.1 : Int) < (R.length : Int) := by have := HLR.out; omega
            have hgl : g5 < w5.heap.size := HO5.out.lt.2
            have cA := HO5.out.cellA (j := (D 1).2.1) (by have := HLR.out; omega)
            have fA := HO5.out.free ((D 1).2.1 * 7 + 1)
            go_upto_region 22 with (fail)
            obtain ⟨W6, hW6⟩ : ∃ W6, w5.setCell ⟨g5, (D 1).2.1 * 7 + 1, none⟩ (.int .i64 ((D 1).1.length : Int)) = W6 := ⟨_, rfl⟩
            have HO6 : Hid (stO W6 (w.heap.size + 2) g5 c5 (setA R (D 1).2.1 (D 1).1.length)) := Lib.hid (hW6 ▸ HO5.out.putA (D 1).2.1 (D 1).1.length)
            have HB6 := Lib.hid (hW6 ▸ HB5.out.setCell (p := ⟨g5, (D 1).2.1 * 7 + 1, none⟩) HO5.out.lt.1 (.int .i64 ((D 1).1.length : Int)))
            have HGR : Hid (wr.grownBy W6 (some g5)) := Lib.hid (hW6 ▸ HGR5.out.trans (grown_setCell w5 g5 ((D 1).2.1 * 7 + 1) (.int .i64 ((D 1).1.length : Int))))
            rw [hW6]
            clear hgl cA fA hW6 HO5 HB5 HGR5 n5 n6 d0 d1
            obtain ⟨n5, n6⟩ := HND.out W6 HB6.out
            obtain ⟨gs, rfl, hgs, hcs⟩ := HSC.out 0 (by rw [HSL.out]; decide)
            have hgs5 : gs ≠ g5 := by have := HG5.out; omega
            have s0 : W6.cell? ⟨gs, 0, none⟩ = some (.int .i64 (((D 1).2.2[0]'(by rw [HSL.out]; decide) : Nat) : Int)) := HGR.out.cell hcs (by simpa using hgs5)
            have hgs6 : gs < W6.heap.size := World.block_lt_of_cell? W6 _ s0
            have d0 : (0 : Int) ≤ ((D 1).2.1 : Int) := by omega
            have d1 : ((D 1).2.1 : Int) < (R.length : Int) := by have := HLR.out; omega
            have cA := HO6.out.cellA (j := (D 1).2.1) (by rw [setA_len]; have := HLR.out; omega)
            have fA := HO6.out.free ((D 1).2.1 * 7 + 1)
            have hgl : g5 < W6.heap.size := HO6.out.lt.2
            go_upto_region 24 with (fail)
            obtain ⟨s0v, hs0v⟩ : ∃ s0v, (D 1).2.2[0]'(by rw [HSL.out]; decide) = s0v := ⟨_, rfl⟩
            rw [hs0v]
            obtain ⟨W7, hW7⟩ : ∃ W7, W6.setCell ⟨g5, (D 1).2.1 * 7 + 1, none⟩ (.int .i64 (s0v : Int)) = W7 := ⟨_, rfl⟩
            have HOV0 : Hid (stO W7 (w.heap.size + 2) g5 c5 (setA (setA R (D 1).2.1 (D 1).1.length) (D 1).2.1 s0v)) := Lib.hid (hW7 ▸ HO6.out.putA (D 1).2.1 s0v)
            have HBV := Lib.hid (hW7 ▸ HB6.out.setCell (p := ⟨g5, (D 1).2.1 * 7 + 1, none⟩) HO6.out.lt.1 (.int .i64 (s0v : Int)))
            have HGV : Hid (wr.grownBy W7 (some g5)) := Lib.hid (hW7 ▸ HGR.out.trans (grown_setCell W6 g5 ((D 1).2.1 * 7 + 1) (.int .i64 (s0v : Int))))
            rw [hW7]
            obtain ⟨V, hV⟩ : ∃ V, setA (setA R (D 1).2.1 (D 1).1.length) (D 1).2.1 s0v = V := ⟨_, rfl⟩
            have HOV : Hid (stO W7 (w.heap.size + 2) g5 c5 V) := hV ▸ HOV0
            have hVL : V.length = R.length := by rw [← hV, setA_len, setA_len]
            have HED : Hid (edL9 ((-1 : Int) == -1) (D 1) = (bsL (D 1).1.length V (D 1).2.2, (D 1).1.length)) := Lib.hid (by
              have hhd : (D 1).2.2.headD 0 = s0v := by
                rw [← hs0v]; exact headD_get9 _ _
              have e : edL9 ((-1 : Int) == -1) (D 1) = (bsL (D 1).1.length (setA (setA ((D 1).1 ++ [sE 0]) (D 1).2.1 (D 1).1.length) (D 1).2.1 ((D 1).2.2.headD 0)) (D 1).2.2, (D 1).1.length) := rfl
              rw [e, hhd, ← HRR.out, hV])
            clear hV hs0v hW7 HOV0 hgl cA fA s0 hcs HO6 HB6 HGR hj0 hj1 n5 n6 hgs6 d0 d1
            have HVL : Hid (V.length = R.length) := Lib.hid hVL
            clear hVL
            go_wp2_with fail
            go_loopw [21] (fun jv wq => ∃ q : Nat, q ≤ 1 ∧ jv = .int .i64 (q : Int) ∧ Hid (stO wq (w.heap.size + 2) g5 c5 (bsL (D 1).1.length V ((D 1).2.2.take q))) ∧ wr.grownBy wq (some g5) ∧ Below (w.heap.size + 2) W0 wq) (fun jv _ => 1 - (intOf jv).toNat)
            case atStart => exact ⟨0, Nat.zero_le _, rfl, Lib.hid (by rw [List.take_zero]; exact HOV.out), HGV.out, HBV.out⟩
            case round =>
              obtain ⟨q, hq, rfl, HS3, hG3, hB3⟩ := hrel
              have HG3 := Lib.hid hG3; have HB3 := Lib.hid hB3
              clear hG3 hB3
              by_cases hlt : q < 1
              · obtain ⟨gs, hps, hgs, hcs⟩ := HSC.out q (by rw [HSL.out]; exact hlt)
                have hlen3 := HSLT.out q (by rw [HSL.out]; exact hlt)
                obtain ⟨sq, hsq⟩ : ∃ sq, (D 1).2.2[q]'(by rw [HSL.out]; exact hlt) = sq := ⟨_, rfl⟩
                have HTK := Lib.hid (bsL_take (D 1).1.length V (D 1).2.2 q (by rw [HSL.out]; exact hlt))
                rw [hsq] at hcs hlen3 HTK
                cases hps
                have hgs5 : gs ≠ g5 := by have := HG5.out; omega
                have s0 : wr.cell? ⟨gs, q, none⟩ = some (.int .i64 (sq : Int)) := HG3.out.cell hcs (by simpa using hgs5)
                have hgs6 : gs < wr.heap.size := World.block_lt_of_cell? wr _ s0
                have q0 : (0 : Int) ≤ (q : Int) := by omega
                have q1 : (q : Int) < ((1 : Nat) : Int) := by omega
                have d0 : (0 : Int) ≤ (sq : Int) := by omega
                have d1 : (sq : Int) < (R.length : Int) := by have := HLR.out; omega
                have cA := HS3.out.cellB (j := sq) (by rw [bs_len, HVL.out]; omega)
                have fA := HS3.out.free (sq * 7 + 2)
                have hgl : g5 < wr.heap.size := HS3.out.lt.2
                have HO4 : Hid (stO (wr.setCell ⟨g5, sq * 7 + 2, none⟩ (.int .i64 ((D 1).1.length : Int))) (w.heap.size + 2) g5 c5 (bsL (D 1).1.length V ((D 1).2.2.take (q + 1)))) := Lib.hid (by rw [HTK.out]; exact HS3.out.putB sq (D 1).1.length)
                have HB4 := Lib.hid (HB3.out.setCell (p := ⟨g5, sq * 7 + 2, none⟩) HS3.out.lt.1 (.int .i64 ((D 1).1.length : Int)))
                have HG4 := Lib.hid (HG3.out.trans (grown_setCell wr g5 (sq * 7 + 2) (.int .i64 ((D 1).1.length : Int))))
                clear hcs hsq HTK HS3 HB3 HG3
                go_wp2_with fail
                go_roundw
                case rel => exact ⟨q + 1, by omega, by go_num, HO4, HG4.out, HB4.out⟩
                case measure => simp [intOf]; omega
              · obtain rfl : q = 1 := by omega
                clear hlt
                have H9 := Lib.hid (HPT.out.below HB3.out (by omega))
                have HBe0 := Lib.hid (HAL.out.trans (HB3.out.mono (show w.heap.size ≤ w.heap.size + 2 by omega)))
                have hne : w.heap.size + 1 ≠ g5 := by have := HG5.out; have := HN5.out; omega
                obtain ⟨z0, z1, z2⟩ := H9.out.cells
                obtain ⟨f0, f1, f2⟩ := H9.out.free
                have HSe := Lib.hid (HS3.out.mono (show w.heap.size ≤ w.heap.size + 2 by omega))
                have HOe := Lib.hid (HSe.out.pt3 hne (.slice (some ⟨g5, 0, none⟩) R.length c5) (L.length : Int) ((D 1).1.length : Int))
                have HBe := Lib.hid (below_pt3 HBe0.out (show w.heap.size ≤ w.heap.size + 1 by omega) (.slice (some ⟨g5, 0, none⟩) R.length c5) (L.length : Int) ((D 1).1.length : Int))
                have Z := Lib.hid (H9.out.stored (.slice (some ⟨g5, 0, none⟩) R.length c5) (L.length : Int) ((D 1).1.length : Int)).cells
                clear H9 HBe0 HSe HS3 HG3 HB3 hne
                go_wp2_with fail
                refine bodyPost_ret (v := .agg #[.slice (some ⟨g5, 0, none⟩) R.length c5, .int .i64 (L.length : Int), .int .i64 ((D 1).1.length : Int)]) (by simp [results, Try.results48, go_sem, Z.out]) rfl ?_
                rw [HMK.out, HED.out]
                refine ⟨g5, c5, ?_, ?_, HBe.out⟩
                · simp only [bs_len, HVL.out]
                · have := HOe.out
                  rwa [List.take_of_length_le (by rw [HSL.out]; exact Nat.le_refl _)] at this
          · have hj1 : ¬ (l : Int) + (M : Int) < hi := by have h := HMM.out; rw [if_neg hh] at h; omega
            have hj2 : (hi == -1) = false := by simp [hh]
            go_wp2_with (refine wpList_build_st0 rfl _ rfl 2 rfl ?_)
            refine HP.out.mono ?_
            rintro e w5 ⟨g5, c5, rfl, ho5, hb5⟩
            have HB5 := Lib.hid (HB.out.trans (hb5.mono hsz))
            have HO5 := Lib.hid (ho5.mono hsz)
            have HG5 : Hid (wr.heap.size ≤ g5) := Lib.hid ho5.lt.1
            have HLR : Hid (((D M).1 ++ [(⟨2, 0, 0, 0, 0, 0, 0⟩ : Sd)]).length = (D M).1.length + 1) := Lib.hid (by simp)
            have HRR : Hid ((D M).1 ++ [(⟨2, 0, 0, 0, 0, 0, 0⟩ : Sd)] = (D M).1 ++ [sE 0]) := Lib.hid rfl
            obtain ⟨R, hR⟩ : ∃ R, (D M).1 ++ [(⟨2, 0, 0, 0, 0, 0, 0⟩ : Sd)] = R := ⟨_, rfl⟩
            rw [hR] at HO5 HLR HRR ⊢
            have HGR5 : Hid (wr.grownBy w5 (some g5)) := Lib.hid ⟨hb5.os, hb5.tape, hb5.output, hb5.size, fun k hk _ => hb5.block k hk⟩
            clear hR hb5 ho5 HP
            have d0 : (0 : Int) ≤ ((D M).2.1 : Int) := by omega
            have d1 : ((D M).2.1 : Int) < (R.length : Int) := by have := HLR.out; omega
            have hgl : g5 < w5.heap.size := HO5.out.lt.2
            have cA := HO5.out.cellA (j := (D M).2.1) (by have := HLR.out; omega)
            have fA := HO5.out.free ((D M).2.1 * 7 + 1)
            go_upto_region 22 with (fail)
            obtain ⟨W6, hW6⟩ : ∃ W6, w5.setCell ⟨g5, (D M).2.1 * 7 + 1, none⟩ (.int .i64 ((D M).1.length : Int)) = W6 := ⟨_, rfl⟩
            have HO6 : Hid (stO W6 (w.heap.size + 2) g5 c5 (setA R (D M).2.1 (D M).1.length)) := Lib.hid (hW6 ▸ HO5.out.putA (D M).2.1 (D M).1.length)
            have HB6 := Lib.hid (hW6 ▸ HB5.out.setCell (p := ⟨g5, (D M).2.1 * 7 + 1, none⟩) HO5.out.lt.1 (.int .i64 ((D M).1.length : Int)))
            have HGR : Hid (wr.grownBy W6 (some g5)) := Lib.hid (hW6 ▸ HGR5.out.trans (grown_setCell w5 g5 ((D M).2.1 * 7 + 1) (.int .i64 ((D M).1.length : Int))))
            rw [hW6]
            clear hgl cA fA hW6 HO5 HB5 HGR5 n5 n6 d0 d1
            obtain ⟨n5, n6⟩ := HND.out W6 HB6.out
            go_upto_region 24 with (fail)
            obtain ⟨V, hV⟩ : ∃ V, setA R (D M).2.1 (D M).1.length = V := ⟨_, rfl⟩
            have HOV : Hid (stO W6 (w.heap.size + 2) g5 c5 V) := hV ▸ HO6
            have hVL : V.length = R.length := by rw [← hV, setA_len]
            have HGV := HGR; have HBV := HB6
            have HED : Hid (edL9 (hi == -1) (D M) = (bsL (D M).1.length V (D M).2.2, (D M).1.length)) := Lib.hid (by
              have e : edL9 false (D M) = (bsL (D M).1.length (setA ((D M).1 ++ [sE 0]) (D M).2.1 (D M).1.length) (D M).2.2, (D M).1.length) := rfl
              rw [hj2, e, ← HRR.out, hV])
            clear hV HO6 HB6 HGR n5 n6 hj1 hj2
            have HVL : Hid (V.length = R.length) := Lib.hid hVL
            clear hVL
            go_wp2_with fail
            go_loopw [21] (fun jv wq => ∃ q : Nat, q ≤ M ∧ jv = .int .i64 (q : Int) ∧ Hid (stO wq (w.heap.size + 2) g5 c5 (bsL (D M).1.length V ((D M).2.2.take q))) ∧ wr.grownBy wq (some g5) ∧ Below (w.heap.size + 2) W0 wq) (fun jv _ => M - (intOf jv).toNat)
            case atStart => exact ⟨0, Nat.zero_le _, rfl, Lib.hid (by rw [List.take_zero]; exact HOV.out), HGV.out, HBV.out⟩
            case round =>
              obtain ⟨q, hq, rfl, HS3, hG3, hB3⟩ := hrel
              have HG3 := Lib.hid hG3; have HB3 := Lib.hid hB3
              clear hG3 hB3
              by_cases hlt : q < M
              · obtain ⟨gs, hps, hgs, hcs⟩ := HSC.out q (by rw [HSL.out]; exact hlt)
                have hlen3 := HSLT.out q (by rw [HSL.out]; exact hlt)
                obtain ⟨sq, hsq⟩ : ∃ sq, (D M).2.2[q]'(by rw [HSL.out]; exact hlt) = sq := ⟨_, rfl⟩
                have HTK := Lib.hid (bsL_take (D M).1.length V (D M).2.2 q (by rw [HSL.out]; exact hlt))
                rw [hsq] at hcs hlen3 HTK
                cases hps
                have hgs5 : gs ≠ g5 := by have := HG5.out; omega
                have s0 : wr.cell? ⟨gs, q, none⟩ = some (.int .i64 (sq : Int)) := HG3.out.cell hcs (by simpa using hgs5)
                have hgs6 : gs < wr.heap.size := World.block_lt_of_cell? wr _ s0
                have q0 : (0 : Int) ≤ (q : Int) := by omega
                have q1 : (q : Int) < (M : Int) := by omega
                have d0 : (0 : Int) ≤ (sq : Int) := by omega
                have d1 : (sq : Int) < (R.length : Int) := by have := HLR.out; omega
                have cA := HS3.out.cellB (j := sq) (by rw [bs_len, HVL.out]; omega)
                have fA := HS3.out.free (sq * 7 + 2)
                have hgl : g5 < wr.heap.size := HS3.out.lt.2
                have HO4 : Hid (stO (wr.setCell ⟨g5, sq * 7 + 2, none⟩ (.int .i64 ((D M).1.length : Int))) (w.heap.size + 2) g5 c5 (bsL (D M).1.length V ((D M).2.2.take (q + 1)))) := Lib.hid (by rw [HTK.out]; exact HS3.out.putB sq (D M).1.length)
                have HB4 := Lib.hid (HB3.out.setCell (p := ⟨g5, sq * 7 + 2, none⟩) HS3.out.lt.1 (.int .i64 ((D M).1.length : Int)))
                have HG4 := Lib.hid (HG3.out.trans (grown_setCell wr g5 (sq * 7 + 2) (.int .i64 ((D M).1.length : Int))))
                clear hcs hsq HTK HS3 HB3 HG3
                go_wp2_with fail
                go_roundw
                case rel => exact ⟨q + 1, by omega, by go_num, HO4, HG4.out, HB4.out⟩
                case measure => simp [intOf]; omega
              · obtain rfl : M = q := by omega
                clear hlt
                have H9 := Lib.hid (HPT.out.below HB3.out (by omega))
                have HBe0 := Lib.hid (HAL.out.trans (HB3.out.mono (show w.heap.size ≤ w.heap.size + 2 by omega)))
                have hne : w.heap.size + 1 ≠ g5 := by have := HG5.out; have := HN5.out; omega
                obtain ⟨z0, z1, z2⟩ := H9.out.cells
                obtain ⟨f0, f1, f2⟩ := H9.out.free
                have HSe := Lib.hid (HS3.out.mono (show w.heap.size ≤ w.heap.size + 2 by omega))
                have HOe := Lib.hid (HSe.out.pt3 hne (.slice (some ⟨g5, 0, none⟩) R.length c5) (L.length : Int) ((D M).1.length : Int))
                have HBe := Lib.hid (below_pt3 HBe0.out (show w.heap.size ≤ w.heap.size + 1 by omega) (.slice (some ⟨g5, 0, none⟩) R.length c5) (L.length : Int) ((D M).1.length : Int))
                have Z := Lib.hid (H9.out.stored (.slice (some ⟨g5, 0, none⟩) R.length c5) (L.length : Int) ((D M).1.length : Int)).cells
                clear H9 HBe0 HSe HS3 HG3 HB3 hne
                go_wp2_with fail
                refine bodyPost_ret (v := .agg #[.slice (some ⟨g5, 0, none⟩) R.length c5, .int .i64 (L.length : Int), .int .i64 ((D M).1.length : Int)]) (by simp [results, Try.results48, go_sem, Z.out]) rfl ?_
                rw [HMK.out, HED.out]
                refine ⟨g5, c5, ?_, ?_, HBe.out⟩
                · simp only [bs_len, HVL.out]
                · have := HOe.out
                  rwa [List.take_of_length_le (by rw [HSL.out]; exact Nat.le_refl _)] at this
end Go.Proofs.Ytdhplphgackjaaa
