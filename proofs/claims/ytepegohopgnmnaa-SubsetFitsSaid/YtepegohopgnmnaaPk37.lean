/-
  The walk of the maker's rep.
-/
import Derived.Test.YtepegohopgnmnaaPk36
namespace Go.Proofs.Ytepegohopgnmnaa
open Go.RowKit

set_option maxRecDepth 100000 in
set_option maxHeartbeats 8000000 in
theorem rep9 (N : Nat → Nd) (n b off cap j : Nat) (H1 : PrtC N n b off cap j) (M : Nat) (L : List Sd) (lo hi : Int) (h0 : 0 ≤ lo) (h32 : lo ≤ 32) (hhi : hi = -1 ∨ (lo ≤ hi ∧ hi ≤ 32)) (w : World) (hb : b < M) (hlen : L.length + nst (.rep (trT N j) lo hi) ≤ 1000)
    (hm : mkW w (.slice (some ⟨b, off, none⟩) n cap) M L) (hr : rdN w b off n N) :
    Calls Try.prog 58 #[.pointer (some ⟨M, 0, none⟩), .int .i64 (j : Int), .int .i64 lo, .int .i64 hi] w (prtPost (.slice (some ⟨b, off, none⟩) n cap) M (mkF (.rep (trT N j) lo hi) L) w) := by
  obtain ⟨l, rfl⟩ : ∃ l : Nat, lo = l := ⟨lo.toNat, by omega⟩
  have hlen' : L.length + (2 + l * nst (trT N j) + (if hi = -1 then nst (trT N j) + 1 else (hi - l).toNat * (nst (trT N j) + 1))) ≤ 1000 := hlen
  obtain ⟨T, hT⟩ : ∃ T, trT N j = T := ⟨_, rfl⟩
  have HP := Lib.hid (fun (L' : List Sd) w' (h1 : L'.length + nst T ≤ 1000) (h3 : mkW w' (.slice (some ⟨b, off, none⟩) n cap) M L') (h4 : rdN w' b off n N) => hT ▸ H1 M L' w' hb (hT.symm ▸ h1) h3 h4)
  have HCI := Lib.hid (fun (L' : List Sd) (ah' : Nat) w' (h1 : L'.length + (nst T + 2) ≤ 1000) (h2 : ah' < L'.length) (h3 : mkW w' (.slice (some ⟨b, off, none⟩) n cap) M L') (h4 : rdN w' b off n N) => hT ▸ circle9 N n b off cap j H1 M L' ah' w' hb (hT.symm ▸ h1) h2 h3 h4)
  have HUP := Lib.hid (fun (L' : List Sd) (ah' K : Nat) w' (hK : K ≤ 32) (h1 : L'.length + (K * (nst T + 1) + 1) ≤ 1000) (h2 : ah' < L'.length) (h3 : mkW w' (.slice (some ⟨b, off, none⟩) n cap) M L') (h4 : rdN w' b off n N) => hT ▸ upTo9 N n b off cap j H1 M L' ah' w' K hK hb (hT.symm ▸ h1) h2 h3 h4)
  rw [hT] at hlen' ⊢
  obtain ⟨L2, hL2⟩ : ∃ L2, L ++ [sE 0] = L2 := ⟨_, rfl⟩
  obtain ⟨len, hln⟩ : ∃ len, L.length = len := ⟨_, rfl⟩
  have hl2 : L2.length = len + 1 := by rw [← hL2]; simp [hln]
  obtain ⟨C, hC⟩ : ∃ C : Nat → List Sd × Nat, C = fun m => cpL (mkF T) m L2 len := ⟨_, rfl⟩
  have HBD : Hid (∀ m, (C m).1.length = (len + 1) + m * nst T ∧ (C m).2 < (C m).1.length) := Lib.hid fun m => by
    have := cpL_bd T m L2 len (by omega)
    rw [hC, ← hl2]; exact this
  have HSN : Hid (∀ m, C (m + 1) = (setA (mkF T (C m).1).1 (C m).2 (mkF T (C m).1).2.1, (mkF T (C m).1).2.2)) := Lib.hid fun m => by rw [hC]; exact cpL_snoc (mkF T) m L2 len
  have HC0 : Hid (C 0 = (L2, len)) := Lib.hid (by rw [hC]; rfl)
  have HMF : Hid (mkF (.rep T (l : Int) hi) L = ((edL9 (hi == -1) (opL (mkF T) (if hi = -1 then 1 else (hi - l).toNat) (C l).1 (C l).2)).1, len, (edL9 (hi == -1) (opL (mkF T) (if hi = -1 then 1 else (hi - l).toNat) (C l).1 (C l).2)).2)) := Lib.hid (by
    rw [hC, ← hL2, ← hln]
    rfl)
  have HLEN : Hid (len + (2 + l * nst T + (if hi = -1 then nst T + 1 else (hi - l).toNat * (nst T + 1))) ≤ 1000) := Lib.hid (hln ▸ hlen')
  have HP1 := Lib.hid (mputE _ M L L2 len w hln (by omega) hL2 hm)
  have HRW := Lib.hid hr
  have HHI := Lib.hid hhi
  have l0 : (0 : Int) ≤ (l : Int) := by omega
  obtain ⟨R, hR⟩ : ∃ R, mkF (.rep T (l : Int) hi) L = R := ⟨_, rfl⟩
  have HMF : Hid (R = _) := Lib.hid (hR.symm.trans HMF.out)
  rw [hR]
  clear hm hr hC hT hL2 hln hl2 H1 hlen hlen' hhi hR
  go_enter Try.func58, Try.ntmps58
  go_wp2_with (refine wpList_build_st0 rfl _ rfl 2 rfl ?_)
  refine HP1.out.mono ?_
  rintro e w1 ⟨rfl, hm1, hk1⟩
  have HS0 : Hid (mkW w1 (.slice (some ⟨b, off, none⟩) n cap) M (C 0).1) := Lib.hid (by rw [HC0.out]; exact hm1)
  have HA0 : Hid ((C 0).2 = len) := Lib.hid (by rw [HC0.out])
  have HK0 := Lib.hid hk1
  clear hm1 hk1 HP1
  go_wp2_with fail
  go_loopw [10, 18] (fun av jv wr => ∃ m : Nat, m ≤ l ∧ jv = .int .i64 (m : Int) ∧ av = .int .i64 ((C m).2 : Int) ∧ Hid (mkW wr (.slice (some ⟨b, off, none⟩) n cap) M (C m).1) ∧ Hid (kpM M w wr)) (fun _ jv _ => l - (intOf jv).toNat)
  case atStart => exact ⟨0, Nat.zero_le _, rfl, by rw [HA0.out], HS0, HK0⟩
  case round =>
    clear HS0 HK0 HA0 HC0
    obtain ⟨m, hml, rfl, rfl, HS, HK⟩ := hrel
    obtain ⟨q1, q2⟩ := HBD.out m
    by_cases hlt : m < l
    · have i0 : (0 : Int) ≤ (m : Int) := by omega
      have i1 : (m : Int) < (l : Int) := by omega
      have hbd : (C m).1.length + nst T ≤ 1000 := by
        have : (m + 1) * nst T ≤ l * nst T := Nat.mul_le_mul_right _ hlt
        rw [Nat.succ_mul] at this
        have := HLEN.out
        omega
      have hpp := HP.out (C m).1 _ hbd HS.out (HRW.out.kept HK.out hb)
      have hsn := HSN.out m
      have hlX := mk_len T (C m).1
      obtain ⟨X, hX⟩ : ∃ X, mkF T (C m).1 = X := ⟨_, rfl⟩
      obtain ⟨LX, f1, e1⟩ := X
      rw [hX] at hpp hsn hlX
      simp only at hsn hlX
      have e2 : (C (m + 1)).2 = e1 := by rw [hsn]
      have e1' : (C (m + 1)).1 = setA LX (C m).2 f1 := by rw [hsn]
      obtain ⟨ac, hac⟩ : ∃ ac, (C m).2 = ac := ⟨_, rfl⟩
      rw [hac] at e1' q2 ⊢
      have HPP := Lib.hid hpp
      have HE2 := Lib.hid e2; have HE1 := Lib.hid e1'
      obtain ⟨lx, hlx⟩ : ∃ lx, LX.length = lx := ⟨_, rfl⟩
      have HLX := Lib.hid hlx
      have a0 : (0 : Int) ≤ (ac : Int) := by omega
      have hal : ac < lx := by omega
      clear hpp hsn hlX hX e2 e1' hac q1 q2 hbd hlx
      go_wp2_with fail
      refine HPP.out.mono ?_
      rintro e w5 ⟨rfl, hm5, hk5⟩
      simp only at hm5
      obtain ⟨g, c, mc, ml, gl, ⟨u, cA⟩, fA, -, -, hA, -⟩ := hm5.opn HLX.out hal
      have he := hA (f1 : Int) f1 rfl
      have HE := Lib.hid (show mkW (w5.setCell ⟨g, ac * 7 + 1, none⟩ (.int .i64 (f1 : Int))) (.slice (some ⟨b, off, none⟩) n cap) M (C (m + 1)).1 from HE1.out.symm ▸ he.1)
      have HKE := Lib.hid ((HK.out.trans hk5).trans he.2)
      have d1 : (ac : Int) < (lx : Int) := by omega
      clear hm5 hk5 hA he HPP HS HK
      simp only
      go_wp2_with fail
      go_roundw
      case rel => exact ⟨m + 1, by omega, by go_num, by rw [HE2.out], HE, HKE⟩
      case measure => simp [intOf]; omega
    · obtain rfl : m = l := by omega
      by_cases hh : hi = -1
      · subst hh
        rw [if_pos rfl] at HLEN
        have HC2 := Lib.hid (HCI.out (C m).1 (C m).2 _ (by have := HLEN.out; omega) q2 HS.out (HRW.out.kept HK.out hb))
        clear q1 q2 HCI HUP HP HBD HSN hlt
        go_wp2_with fail
        refine HC2.out.mono ?_
        rintro e w6 ⟨rfl, hm6, hk6⟩
        have HF := Lib.hid hm6
        have HKF := Lib.hid (HK.out.trans hk6)
        clear hm6 hk6 HC2
        go_wp2_with fail
        go_returns
        rw [HMF.out]
        exact ⟨rfl, HF.out, HKF.out⟩
      · have hhb : (hi == -1) = false := beq_eq_false_iff_ne.2 hh
        rw [if_neg hh] at HLEN
        obtain ⟨K, hK⟩ : ∃ K : Nat, hi = (m : Int) + K := ⟨(hi - m).toNat, by rcases HHI.out with h | h <;> omega⟩
        have HKK := Lib.hid hK
        have hKK : (hi - (m : Int)).toNat = K := by omega
        rw [hKK] at HLEN
        have hK32 : K ≤ 32 := by rcases HHI.out with h | h <;> omega
        have HC2 := Lib.hid (HUP.out (C m).1 (C m).2 K _ hK32 (by have := HLEN.out; omega) q2 HS.out (HRW.out.kept HK.out hb))
        have HEQ : Hid ((if hi = -1 then 1 else (hi - (m : Int)).toNat) = K) := Lib.hid (by rw [if_neg hh, hKK])
        have HHB := Lib.hid hhb
        have hsub : hi - (m : Int) = (K : Int) := by omega
        clear q1 q2 HCI HUP HP HBD HSN hlt hK hKK
        go_wp2_with fail
        refine HC2.out.mono ?_
        rintro e w6 ⟨rfl, hm6, hk6⟩
        have HF := Lib.hid hm6
        have HKF := Lib.hid (HK.out.trans hk6)
        clear hm6 hk6 HC2
        go_wp2_with fail
        go_returns
        rw [HMF.out, HEQ.out, HHB.out]
        exact ⟨rfl, HF.out, HKF.out⟩
end Go.Proofs.Ytepegohopgnmnaa
