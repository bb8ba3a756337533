/-
  The walk of the maker's upTo.
-/
import Derived.Test.YtepegohopgnmnaaPk35
import Derived.Test.YtepegohopgnmnaaPk27
namespace Go.Proofs.Ytepegohopgnmnaa
open Go.RowKit

/-- The maker's states beside a row of places that grows. -/
theorem mkW.apart {w w' : World} {t : Value} {M base : Nat} {L : List Sd} {v : Value} {l : List Nat} (h : mkW w t M L) (ho : spO w base v l) (hb : M < base) (hg : w.grownBy w' v.ownBlock) : mkW w' t M L := by
  obtain ⟨u, h1, h2⟩ := h
  refine ⟨u, (hg.block M (lt_of_block h1) (fun e => by have := (ho.lt M e.symm).1; omega)).trans h1, ?_⟩
  exact World.ownsRow.kept h2 hg (rows_apart9 h2 ho (by decide))
theorem kpM.row_grown {M : Nat} {w0 w w' : World} {v : Value} {l : List Nat} (h : kpM M w0 w) (hM : M < w0.heap.size) (ho : spO w w0.heap.size v l) (hg : w.grownBy w' v.ownBlock) : kpM M w0 w' := by
  have hsz := h.1.size
  refine ⟨h.1.trans (spO.grow9 (Nat.le_of_lt hM) (by omega) ho hg), fun k c t fr hk ht hne => ?_⟩
  rw [hg.block k (by have := lt_of_block hk; omega) (fun e => by have := (ho.lt k e.symm).1; have := lt_of_block hk; omega)]
  exact h.2 k c t fr hk ht hne
theorem kpM.alloc {M : Nat} {w0 w : World} (h : kpM M w0 w) (hM : M < w0.heap.size) (o : Obj) : kpM M w0 (w.alloc o) :=
  h.trans (kpM.of_below (by have := h.1.size; omega) ((Below.refl _ _).alloc (Nat.le_refl _) o))

set_option maxRecDepth 100000 in
set_option maxHeartbeats 8000000 in
theorem upTo9 (N : Nat → Nd) (n b off cap j : Nat) (H1 : PrtC N n b off cap j) (M : Nat) (L : List Sd) (ah : Nat) (w : World) (K : Nat) (hK : K ≤ 32) (hb : b < M) (hlen : L.length + (K * (nst (trT N j) + 1) + 1) ≤ 1000) (hah : ah < L.length)
    (hm : mkW w (.slice (some ⟨b, off, none⟩) n cap) M L) (hr : rdN w b off n N) :
    Calls Try.prog 76 #[.pointer (some ⟨M, 0, none⟩), .int .i64 (j : Int), .int .i64 (ah : Int), .int .i64 (K : Int)] w (edPost (.slice (some ⟨b, off, none⟩) n cap) M (edL9 false (opL (mkF (trT N j)) K L ah)) w) := by
  obtain ⟨T, hT⟩ : ∃ T, trT N j = T := ⟨_, rfl⟩
  have HMB := Lib.hid (fun (L' : List Sd) (ah' : Nat) w' (h1 : L'.length + (nst T + 1) ≤ 1000) (h2 : ah' < L'.length) (h3 : mkW w' (.slice (some ⟨b, off, none⟩) n cap) M L') (h4 : rdN w' b off n N) => hT ▸ maybe9 N n b off cap j H1 M L' ah' w' hb (hT.symm ▸ h1) h2 h3 h4)
  rw [hT] at hlen ⊢
  obtain ⟨D, hD⟩ : ∃ D : Nat → List Sd × Nat × List Nat, D = fun m => opL (mkF T) m L ah := ⟨_, rfl⟩
  have HBD : Hid (∀ m, (D m).1.length = L.length + m * (nst T + 1) ∧ (D m).2.1 < (D m).1.length ∧ (D m).2.2.length = m ∧ ∀ s, s ∈ (D m).2.2 → s < (D m).1.length) := Lib.hid fun m => by rw [hD]; exact opL_bd T m L ah hah
  have HSN : Hid (∀ m, D (m + 1) = (setA ((mkF T (D m).1).1 ++ [sS (mkF T (D m).1).2.1 0]) (D m).2.1 (mkF T (D m).1).1.length, (mkF T (D m).1).2.2, (D m).2.2 ++ [(mkF T (D m).1).1.length])) := Lib.hid fun m => by rw [hD]; exact opL_snoc (mkF T) m L ah
  have HD0 : Hid (D 0 = (L, ah, [])) := Lib.hid (by rw [hD]; rfl)
  have HDK : Hid (opL (mkF T) K L ah = D K) := Lib.hid (by rw [hD])
  rw [HDK.out]
  have HMW := Lib.hid hm; have HRW := Lib.hid hr
  have HML := Lib.hid hm.lt
  have k0 : (0 : Int) ≤ (K : Int) := by omega
  have HST : Hid (mkW w (.slice (some ⟨b, off, none⟩) n cap) M (D 0).1) := Lib.hid (by rw [HD0.out]; exact hm)
  have HSP : Hid (spO w w.heap.size (.slice none 0 0) (D 0).2.2) := Lib.hid (by rw [HD0.out]; exact ⟨rfl, .inl ⟨rfl, rfl⟩⟩)
  have HA0 : Hid ((D 0).2.1 = ah) := Lib.hid (by rw [HD0.out])
  clear hm hr hD hT H1 hah
  go_enter Try.func76, Try.ntmps76
  go_wp2_with fail
  go_loopw [2, 9, 16] (fun av sv jv wr => ∃ m : Nat, m ≤ K ∧ jv = .int .i64 (m : Int) ∧ av = .int .i64 ((D m).2.1 : Int) ∧ Hid (spO wr w.heap.size sv (D m).2.2) ∧ Hid (mkW wr (.slice (some ⟨b, off, none⟩) n cap) M (D m).1) ∧ Hid (kpM M w wr)) (fun _ _ jv _ => K - (intOf jv).toNat)
  case atStart => exact ⟨0, Nat.zero_le _, rfl, by rw [HA0.out], HSP, HST, Lib.hid (kpM.refl _ _)⟩
  case round =>
    clear HST HSP
    obtain ⟨m, hmK, rfl, rfl, HO, HS, HK⟩ := hrel
    obtain ⟨q1, q2, q3, q4⟩ := HBD.out m
    by_cases hlt : m < K
    · have i0 : (0 : Int) ≤ (m : Int) := by omega
      have i1 : (m : Int) < (K : Int) := by omega
      have hbd : (D m).1.length + (nst T + 1) ≤ 1000 := by
        have : (m + 1) * (nst T + 1) ≤ K * (nst T + 1) := Nat.mul_le_mul_right _ hlt
        rw [Nat.succ_mul] at this
        omega
      have hmb := HMB.out (D m).1 (D m).2.1 _ hbd q2 HS.out (HRW.out.kept HK.out hb)
      unfold mbPost at hmb
      have hsn := HSN.out m
      have hlX := mk_len T (D m).1
      obtain ⟨s, hs⟩ : ∃ s, (mkF T (D m).1).1.length = s := ⟨_, rfl⟩
      rw [hs] at hmb hsn hlX
      have e21 : (D (m + 1)).2.1 = (mkF T (D m).1).2.2 := by rw [hsn]
      have e1 : (D (m + 1)).1 = setA ((mkF T (D m).1).1 ++ [sS (mkF T (D m).1).2.1 0]) (D m).2.1 s := by rw [hsn]
      have e22 : (D (m + 1)).2.2 = (D m).2.2 ++ [s] := by rw [hsn]
      rw [← e21, ← e1] at hmb
      have HMBm := Lib.hid hmb
      have HE22 := Lib.hid e22
      have s0 : (0 : Int) ≤ (s : Int) := by omega
      have HL3 : Hid ((D m).2.2.length ≤ 10000) := Lib.hid (by omega)
      clear hmb hsn hlX hs e21 e1 e22 q1 q2 q3 q4 hbd
      go_wp2_with fail
      refine HMBm.out.mono ?_
      rintro e w5 ⟨rfl, hm5, hk5⟩
      have HO5 := Lib.hid (hk5.row HO.out HML.out)
      have HK5 := Lib.hid (HK.out.trans hk5)
      have HM5 := Lib.hid hm5
      have HS5 := HK5.out.1.size
      have HLC : Hid ((w5.alloc (.cells #[.int .i64 (s : Int)] 3)).cell? ⟨w5.heap.size, 0, none⟩ = some (.int .i64 (s : Int))) := Lib.hid (by simp)
      have HLS : Hid (w.heap.size ≤ (w5.alloc (.cells #[.int .i64 (s : Int)] 3)).heap.size) := Lib.hid (by rw [World.size_alloc]; have := HK5.out.1.size; have : w.heap.size ≤ w5.heap.size := HK5.out.1.size; omega)
      have HO6 := Lib.hid (HO5.out.alloc (.cells #[.int .i64 (s : Int)] 3))
      have HM6 := Lib.hid (HM5.out.below ((Below.refl _ _).alloc (Nat.le_refl _) (.cells #[.int .i64 (s : Int)] 3)))
      have HK6 := Lib.hid (HK5.out.alloc HML.out (.cells #[.int .i64 (s : Int)] 3))
      clear hm5 hk5 HO HS HK HMBm HS5
      go_wp2_with (at_builtin; refine append_one9 rfl _ _ rfl w.heap.size _ (D m).2.2 rfl HO6.out w5.heap.size s rfl HLC.out HL3.out HLS.out ?_; intro v9 w9 h9 hg9; have HO9 := Lib.hid (HE22.out ▸ h9); have HM9 := Lib.hid (HM6.out.apart HO6.out HML.out hg9); have HK9 := Lib.hid (HK6.out.row_grown HML.out HO6.out hg9); clear h9 hg9)
      go_roundw
      case rel => exact ⟨m + 1, by omega, by go_num, rfl, HO9, HM9, HK9⟩
      case measure => simp [intOf]; omega
    · obtain rfl : m = K := by omega
      obtain ⟨X, hX⟩ : ∃ X, D m = X := ⟨_, rfl⟩
      obtain ⟨U, a, sp⟩ := X
      rw [hX] at HO HS q1 q2 q3 q4 ⊢
      simp only at q1 q2 q3 q4
      obtain ⟨ul, hul⟩ : ∃ ul, U.length = ul := ⟨_, rfl⟩
      obtain ⟨U2, hU2⟩ : ∃ U2, U ++ [sE 0] = U2 := ⟨_, rfl⟩
      have hl2 : U2.length = ul + 1 := by rw [← hU2]; simp [hul]
      obtain ⟨V, hV⟩ : ∃ V, setA U2 a ul = V := ⟨_, rfl⟩
      have hlV : V.length = ul + 1 := by rw [← hV, setA_len, hl2]
      have HED : Hid (edL9 false (D m) = (bsL ul V sp, ul)) := Lib.hid (by
        rw [hX]
        unfold edL9
        simp only [Bool.false_eq_true, if_false]
        rw [hul, hU2, hV])
      have HP2 := Lib.hid (fun w' (h : mkW w' (.slice (some ⟨b, off, none⟩) n cap) M U) => mputE _ M U U2 ul w' hul (by omega) hU2 h)
      obtain ⟨p, c, rfl⟩ := spO_of HO.out
      simp only at HO HS
      have hul9 : ul ≤ 1000 := by omega
      have haul : a < ul := by omega
      have HSPL : Hid (∀ s, s ∈ sp → s < ul) := Lib.hid (by rw [← hul]; exact q4)
      have HLV := Lib.hid hlV; have HL2 := Lib.hid hl2; have HV := Lib.hid hV
      have Hq3 := Lib.hid q3
      have a0 : (0 : Int) ≤ (a : Int) := by omega
      have hpc : (Value.slice p (U, a, sp).2.2.length c) = .slice p m c := by rw [show (U, a, sp).2.2.length = m from q3]
      rw [hpc] at HO ⊢
      simp only
      clear hX q1 q2 q3 q4 hul hU2 hl2 hV hlV hpc HBD HSN HD0 HMB HA0 HDK
      have HPm := Lib.hid (HP2.out _ HS.out)
      clear HP2 HS
      go_wp2_with (refine wpList_build_st0 rfl _ rfl 2 rfl ?_)
      refine HPm.out.mono ?_
      rintro e w5 ⟨rfl, hm5, hk5⟩
      have HO5 := Lib.hid (hk5.row HO.out HML.out)
      obtain ⟨g, c', mc, ml, gl, ⟨u, cA⟩, fA, -, -, hA, -⟩ := hm5.opn HL2.out (show a < ul + 1 by omega)
      have he := hA (ul : Int) ul rfl
      obtain ⟨W6, hW6⟩ : ∃ W6, w5.setCell ⟨g, a * 7 + 1, none⟩ (.int .i64 (ul : Int)) = W6 := ⟨_, rfl⟩
      rw [hW6] at he
      have hm6 := he.1
      rw [HV.out] at hm6
      have HM6 := Lib.hid hm6
      have HK6 := Lib.hid ((HK.out.trans hk5).trans he.2)
      have HO6 := Lib.hid (he.2.row HO5.out HML.out)
      have HW6 := Lib.hid hW6
      have d1 : (a : Int) < (ul : Int) + 1 := by omega
      clear hm5 hk5 HO hA he hW6 hm6 HPm HK HO5
      go_upto_region 10 with (fail)
      rw [HW6.out]
      clear mc ml gl cA fA HW6
      go_wp2_with fail
      go_loopw [44] (fun jv wq => ∃ q : Nat, q ≤ m ∧ jv = .int .i64 (q : Int) ∧ Hid (mkW wq (.slice (some ⟨b, off, none⟩) n cap) M (bsL ul V (sp.take q))) ∧ Hid (spO wq w.heap.size (.slice p m c) sp) ∧ Hid (kpM M w wq)) (fun jv _ => m - (intOf jv).toNat)
      case atStart => exact ⟨0, Nat.zero_le _, rfl, HM6, HO6, HK6⟩
      case round =>
        clear HM6 HO6 HK6
        obtain ⟨q, hq, rfl, HS, HO, HK⟩ := hrel
        by_cases hlt : q < m
        · have i0 : (0 : Int) ≤ (q : Int) := by omega
          have i1 : (q : Int) < (m : Int) := by omega
          obtain ⟨s, hs⟩ : ∃ s, sp[q]? = some s := ⟨sp[q]'(by have := Hq3.out; omega), by simp [Hq3.out, hlt]⟩
          have hsu : s < ul := HSPL.out s (List.mem_of_getElem? hs)
          obtain ⟨pb, po, hpp, hpl, hpc⟩ := (show rdL wr p sp.length _ from (show spO wr w.heap.size (.slice p sp.length c) sp from Hq3.out.symm ▸ HO.out).rd9) q (by have := Hq3.out; omega)
          subst hpp
          simp only at hpc
          rw [show sp.getD q 0 = s by rw [List.getD_eq_getElem?_getD, hs]; rfl] at hpc
          have hbs : setB (bsL ul V (sp.take q)) s ul = bsL ul V (sp.take (q + 1)) := by
            have hql : q < sp.length := by have := Hq3.out; omega
            have e : sp[q] = s := by rw [List.getElem?_eq_getElem hql] at hs; exact Option.some.inj hs
            rw [bsL_take ul V sp q hql, e]
          obtain ⟨g, c', mc, ml, gl, -, -, ⟨u, cB⟩, fB, -, hB⟩ := HS.out.opn (len := ul + 1) (by rw [bs_len]; exact HLV.out) (show s < ul + 1 by omega)
          have he := hB (ul : Int) ul rfl
          rw [hbs] at he
          have HE := Lib.hid he.1
          have HKE := Lib.hid (HK.out.trans he.2)
          have HOE := Lib.hid (he.2.row HO.out HML.out)
          have s0 : (0 : Int) ≤ (s : Int) := by omega
          have s1 : (s : Int) < (ul : Int) + 1 := by omega
          clear hs hbs hB he
          go_wp2_with fail
          go_roundw
          case rel => exact ⟨q + 1, by omega, by go_num, HE, HOE, HKE⟩
          case measure => simp [intOf]; omega
        · obtain rfl : q = m := by omega
          have HF : Hid (mkW wr (.slice (some ⟨b, off, none⟩) n cap) M (edL9 false (D q)).1) := Lib.hid (by
            rw [HED.out]
            have := HS.out
            rw [List.take_of_length_le (by have := Hq3.out; omega)] at this
            exact this)
          go_wp2_with fail
          go_returns
          refine ⟨?_, HF.out, HK.out⟩
          rw [HED.out]
          rfl
end Go.Proofs.Ytepegohopgnmnaa
