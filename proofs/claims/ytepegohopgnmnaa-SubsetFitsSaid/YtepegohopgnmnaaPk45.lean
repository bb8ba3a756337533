/-
  The walk of the tenth reference's Classes.
-/
import Derived.Test.YtepegohopgnmnaaPk33
import Derived.Test.YtepegohopgnmnaaPk13
namespace Go.Proofs.Ytepegohopgnmnaa
open Go.RowKit

/-- The heads, rising. -/
def hsA (R : Nat → Nat → Bool) (n : Nat) (j : Nat) : Nat := (trs (isH R) n).getD j 0
theorem hsA_at {R : Nat → Nat → Bool} {n h : Nat} (hh : h < n) (hR : isH R h = true) : hsA R n (cntT (isH R) h) = h := by
  unfold hsA
  rw [List.getD_eq_getElem?_getD, trs_at hh hR]; rfl
theorem hsA_of {R : Nat → Nat → Bool} {n i j : Nat} (hi : i ≤ n) (hj : j < cntT (isH R) i) : ∃ h, h < i ∧ isH R h = true ∧ hsA R n j = h ∧ cntT (isH R) h = j := by
  obtain ⟨h, h1, h2, h3⟩ := cntT_onto hj
  exact ⟨h, h1, h2, by rw [← h3]; exact hsA_at (by omega) h2, h3⟩
/-- None of the heads is like i: it is one itself. -/
theorem hd_new {R : Nat → Nat → Bool} (hR : eqR R) {n i : Nat} (hi : i < n) (h : ∀ j, j < cntT (isH R) i → R (hsA R n j) i = false) : hdA R i = i := by
  refine hdA_self fun k hk => ?_
  cases e : R k i with
  | false => rfl
  | true =>
    have h1 := hdA_le R k
    have h2 := hdA_head hR k
    have h3 := h _ (cntT_lt (show hdA R k < i by omega) h2)
    rw [hsA_at (by omega) h2] at h3
    rw [← h3]
    exact (hR.tr _ _ _ (hdA_like hR.re k) e).symm
theorem hd_old {R : Nat → Nat → Bool} (hR : eqR R) {n i k : Nat} (hi : i < n) (hk : k < cntT (isH R) i) (h : ∀ j, j < k → R (hsA R n j) i = false) (he : R (hsA R n k) i = true) : hdA R i = hsA R n k := by
  obtain ⟨hh, h1, h2, h3, h4⟩ := hsA_of (show i ≤ n by omega) hk
  rw [h3] at he ⊢
  refine hdA_is h1 he fun j hj => ?_
  cases e : R j i with
  | false => rfl
  | true =>
    have g1 := hdA_le R j
    have g2 := hdA_head hR j
    have g3 := cntT_lt (show hdA R j < hh by omega) g2
    have g4 := h _ (show cntT (isH R) (hdA R j) < k by omega)
    rw [hsA_at (by omega) g2] at g4
    rw [← g4]
    exact (hR.tr _ _ _ (hdA_like hR.re j) e).symm
theorem apart_sym {a b : Option Nat} (h : a = none ∨ a ≠ b) : b = none ∨ b ≠ a := by
  rcases h with rfl | h
  · cases b with
    | none => exact .inl rfl
    | some x => exact .inr (by simp)
  · exact .inr (Ne.symm h)
set_option maxRecDepth 100000 in
set_option maxHeartbeats 20000000 in
theorem classes10 (b off m cap : Nat) (S : Nat → Sd) (st fin : Int) (hm : m ≤ 1000) (hw : ∀ q, q < m → okWs (S q)) (w : World) (hS : rdS w b off m S) :
    Calls Try.prog 25 #[.agg #[.slice (some ⟨b, off, none⟩) m cap, .int .i64 st, .int .i64 fin]] w fun e w' => ∃ q c, e = .returned (.tuple #[.slice q 259 c, .int .i64 (cntT (isH (alk S m)) 259 : Nat)]) ∧ rdL w' q 259 (fun x => (clA (alk S m) x : Nat)) ∧ Below w.heap.size w w' := by
  obtain ⟨w1, hw1⟩ : ∃ w1, w.alloc (.cells #[.slice (some ⟨b, off, none⟩) m cap, .int .i64 st, .int .i64 fin] 24) = w1 := ⟨_, rfl⟩
  have hb1 : Below w.heap.size w w1 := hw1 ▸ (Below.refl _ _).alloc (Nat.le_refl _) _
  have hn1 : isNf w1 w.heap.size (.slice (some ⟨b, off, none⟩) m cap) st fin := hw1 ▸ isNf.new w _ st fin
  obtain ⟨g, hg⟩ : ∃ g, w.heap.size = g := ⟨_, rfl⟩
  have hz1 : w1.heap.size = g + 1 := by rw [← hw1, World.size_alloc, hg]
  rw [hg] at hn1
  have HB1 := Lib.hid hb1
  have HN : Hid (∀ w', Below (g + 1) w1 w' → isNf w' g (.slice (some ⟨b, off, none⟩) m cap) st fin) := Lib.hid fun w' h => hn1.below h (Nat.lt_succ_self g)
  have HS1 := Lib.hid (hS.below hb1)
  have HZ := Lib.hid hz1
  have HG := Lib.hid hg
  have HW1 := Lib.hid hw1
  have HRR := Lib.hid (alk_eq S m)
  obtain ⟨R, hR⟩ : ∃ R, alk S m = R := ⟨_, rfl⟩
  have HAL := Lib.hid (fun (x y : Nat) (hx : x ≤ 300) (hy : y ≤ 300) (r : Bool) (hr : R x y = r) w' (h : Below (g + 1) w1 w') => alike10 b off m cap S st fin x y hm hx hy hw r (by rw [hR]; exact hr) w' ((hS.below hb1).below (hz1 ▸ h)))
  rw [hR] at HRR ⊢
  have HT0 := Lib.hid (spF_zero w1 (g + 1) (fun x => (hdA R x : Nat)))
  have HH0 : Hid (spF w1 (g + 1) (.slice none 0 0) (fun j => (hsA R 259 j : Nat)) (cntT (isH R) 0)) := Lib.hid (spF_zero w1 (g + 1) _)
  have HA0 : Hid ((Value.slice none 0 0).ownBlock = none ∨ (Value.slice none 0 0).ownBlock ≠ (Value.slice none 0 0).ownBlock) := Lib.hid (.inl rfl)
  clear hb1 hn1 hz1 hS hw1 hw hR
  go_enter Try.func25, Try.ntmps25
  go_upto_region 1 with (fail)
  rw [HW1.out]
  clear hg HW1
  go_wp2_with fail
  go_loopw [4, 5, 6] (fun tv hv iv wr => ∃ i : Nat, i ≤ 259 ∧ iv = .int .i64 i ∧ Hid (spF wr (g + 1) tv (fun x => (hdA R x : Nat)) i) ∧ Hid (spF wr (g + 1) hv (fun j => (hsA R 259 j : Nat)) (cntT (isH R) i)) ∧ Hid (hv.ownBlock = none ∨ hv.ownBlock ≠ tv.ownBlock) ∧ Hid (Below (g + 1) w1 wr)) (fun _ _ iv _ => 259 - (intOf iv).toNat)
  case atStart => exact ⟨0, Nat.zero_le _, rfl, HT0, HH0, HA0, Lib.hid (Below.refl _ _)⟩
  case round =>
    clear HT0 HH0 HA0
    obtain ⟨i, hi, rfl, HT, HH, HA, HB⟩ := hrel
    have hcs := cntT_succ (isH R) i
    have hcle := cntT_le (isH R) i
    by_cases hlti : i < 259
    · have i0 : (0 : Int) ≤ (i : Int) := by omega
      have i1 : (i : Int) < 259 := by omega
      obtain ⟨K, hK⟩ : ∃ K, cntT (isH R) i = K := ⟨_, rfl⟩
      have HKK := Lib.hid hK
      rw [hK] at HH hcs hcle
      obtain ⟨hp, hc, rfl⟩ := spF_of HH.out
      have HCS := Lib.hid hcs
      have K0 : (0 : Int) ≤ (K : Int) := by omega
      clear hcs hK
      go_wp2_with fail
      go_loopw [7, 8] (fun av kv wx => ∃ k : Nat, k ≤ K ∧ kv = .int .i64 k ∧ av = .int .i64 (i : Int) ∧ Hid (∀ j, j < k → R (hsA R 259 j) i = false) ∧ Hid (spF wx (g + 1) u4 (fun x => (hdA R x : Nat)) i) ∧ Hid (spF wx (g + 1) (.slice hp K hc) (fun j => (hsA R 259 j : Nat)) K) ∧ Hid (Below (g + 1) w1 wx)) (fun _ kv _ => K - (intOf kv).toNat)
      case atStart => exact ⟨0, Nat.zero_le _, rfl, rfl, Lib.hid (fun _ h => absurd h (Nat.not_lt_zero _)), HT, HH, HB⟩
      case round =>
        clear HT HH HB
        obtain ⟨k, hk, rfl, rfl, HQ, HTx, HHx, HBx⟩ := hrel
        by_cases hlt : k < K
        · obtain ⟨h, h1, h2, h3, h4⟩ := hsA_of (R := R) (n := 259) (i := i) (j := k) (by omega) (by rw [HKK.out]; exact hlt)
          have HH3 := Lib.hid h3
          have k0 : (0 : Int) ≤ (k : Int) := by omega
          have k1 : (k : Int) < (K : Int) := by omega
          have h0 : (0 : Int) ≤ (h : Int) := by omega
          obtain ⟨hb, ho, hpe, hbl, hbc⟩ := HHx.out.rd k hlt
          subst hpe
          have hzz := HZ.out
          have hsz := HBx.out.size
          have hgs : g + 1 ≤ wr.drew.heap.size := by show g + 1 ≤ wr.heap.size; omega
          have HSX : Hid (∀ w', Below wr.heap.size wr w' → (w'.cell? ⟨g, 0, none⟩ = some (.slice (some ⟨b, off, none⟩) m cap) ∧ w'.cell? ⟨g, 1, none⟩ = some (.int .i64 st) ∧ w'.cell? ⟨g, 2, none⟩ = some (.int .i64 fin) ∧ w'.cell? ⟨hb, ho + k, none⟩ = some (.int .i64 (h : Int)))) := Lib.hid fun w' hw' => by
            obtain ⟨y0, y1, y2⟩ := (HN.out w' (HBx.out.trans (hw'.mono (by omega)))).cells
            refine ⟨y0, y1, y2, ?_⟩
            rw [hw'.cell (p := ⟨hb, ho + k, none⟩) hbl, hbc]
            simp only [HH3.out]
          have hs0 := HSX.out _ (Below.refl _ _)
          have zl := (HN.out _ HBx.out).lt
          have hB := Below.refl wr.heap.size wr
          have HTd := Lib.hid (HTx.out.below (Below.refl wr.heap.size wr).drew)
          have HHd := Lib.hid (HHx.out.below (Below.refl wr.heap.size wr).drew)
          have hBd := HBx.out.drew
          cases hr : R h i
          · have HC := Lib.hid (HAL.out h i (by omega) (by omega) false hr _ hBd)
            have HQ2 : Hid (∀ j, j < k + 1 → R (hsA R 259 j) i = false) := Lib.hid fun j hj => by
              by_cases e : j = k
              · subst e; rw [HH3.out]; exact hr
              · exact HQ.out j (by omega)
            clear hbc h1 h2 h3 h4 hr hzz hsz hBd
            go_wp2_with fail
            clear hs0
            go_region_held_law (fun w' => w'.cell? ⟨g, 0, none⟩ = some (.slice (some ⟨b, off, none⟩) m cap) ∧ w'.cell? ⟨g, 1, none⟩ = some (.int .i64 st) ∧ w'.cell? ⟨g, 2, none⟩ = some (.int .i64 fin) ∧ w'.cell? ⟨hb, ho + k, none⟩ = some (.int .i64 (h : Int)))
              (first | with_reducible exact HSX.out _ hB | with_reducible exact HSX.out _ hB.drew)
              ((go_at_call 48; (with_reducible refine HC.out.mono ?_); rintro e wk ⟨rfl, hb5⟩; (replace hB := hB.drew.trans (hb5.mono (Nat.le_refl _))); have HT5 := Lib.hid (HTd.out.below hb5); have HH5 := Lib.hid (HHd.out.below hb5); clear hb5))
            all_goals
              have HB6 := Lib.hid (HBx.out.trans (hB.mono (show g + 1 ≤ wr.heap.size from hgs)))
              clear hB
              go_wp2_with fail
              go_roundw
              case rel => exact ⟨k + 1, by omega, by go_num, rfl, HQ2, HT5, HH5, HB6⟩
              case measure => simp [intOf]; omega
          · have HC := Lib.hid (HAL.out h i (by omega) (by omega) true hr _ hBd)
            have hho := hd_old HRR.out hlti (by rw [HKK.out]; exact hlt) HQ.out (by rw [HH3.out]; exact hr)
            rw [HH3.out] at hho
            have HHO := Lib.hid hho
            have hnh : ¬ isH R i = true := by unfold isH; rw [hho]; simp; omega
            have hk1 : cntT (isH R) (i + 1) = K := by have := HCS.out; rw [if_neg hnh, Nat.add_zero] at this; exact this
            have HK1 := Lib.hid hk1
            have e1 : ((h : Int) == (i : Int)) = false := beq_eq_false_iff_ne.2 (by omega)
            have e2 : (h == i) = false := beq_eq_false_iff_ne.2 (by omega)
            have HCL : Hid (((hdA R i : Nat) : Int) = (h : Int)) := Lib.hid (by rw [hho])
            clear hbc h1 h2 h3 h4 hr hzz hsz hBd hho hnh hk1
            go_wp2_with fail
            clear hs0
            go_region_held_law (fun w' => w'.cell? ⟨g, 0, none⟩ = some (.slice (some ⟨b, off, none⟩) m cap) ∧ w'.cell? ⟨g, 1, none⟩ = some (.int .i64 st) ∧ w'.cell? ⟨g, 2, none⟩ = some (.int .i64 fin) ∧ w'.cell? ⟨hb, ho + k, none⟩ = some (.int .i64 (h : Int)))
              (first | with_reducible exact HSX.out _ hB | with_reducible exact HSX.out _ hB.drew)
              ((go_at_call 48; (with_reducible refine HC.out.mono ?_); rintro e wk ⟨rfl, hb5⟩; (replace hB := hB.drew.trans (hb5.mono (Nat.le_refl _))); have HT5 := Lib.hid (HTd.out.below hb5); have HH5 := Lib.hid (HHd.out.below hb5); clear hb5))
            all_goals
              have HB6 := Lib.hid (HBx.out.trans (hB.mono (show g + 1 ≤ wr.heap.size from hgs)))
              obtain ⟨y0, y1, y2, y3⟩ := HSX.out _ hB
              have hbl' := Nat.lt_of_lt_of_le hbl hB.size
              clear hB
              have HS6 : Hid (g + 1 ≤ wk.heap.size) := Lib.hid (by have := HB6.out.size; have := HZ.out; omega)
              have HLC : Hid ((wk.alloc (.cells #[.int .i64 (h : Int)] 3)).cell? ⟨wk.heap.size, 0, none⟩ = some (.int .i64 (h : Int))) := Lib.hid (by simp)
              have HLZ : Hid (g + 1 ≤ (wk.alloc (.cells #[.int .i64 (h : Int)] 3)).heap.size) := Lib.hid (by rw [World.size_alloc]; have := HS6.out; omega)
              have HT6 := Lib.hid (HT5.out.alloc (.cells #[.int .i64 (h : Int)] 3))
              have HH6 := Lib.hid (HH5.out.alloc (.cells #[.int .i64 (h : Int)] 3))
              have HB7 := Lib.hid (HB6.out.alloc HS6.out (.cells #[.int .i64 (h : Int)] 3))
              clear HT5 HH5 HTx HHx HTd HHd HSX
              go_wp2_with (at_builtin; refine append_fn2 rfl _ _ rfl (g + 1) _ (fun x => (hdA R x : Nat)) i rfl HT6.out wk.heap.size (h : Int) HCL.out rfl HLC.out (by omega) HLZ.out _ (fun j => (hsA R 259 j : Nat)) K HH6.out HA.out ?_; intro v9 w9 h9 h10 ha9 hb9; have HT9 := Lib.hid h9; have HH9 := Lib.hid h10; have HA9 := Lib.hid ha9; have HB9 := Lib.hid (HB7.out.trans hb9); clear h9 h10 ha9 hb9)
              go_roundw
              case rel => exact ⟨i + 1, by omega, by go_num, HT9, by rw [HK1.out]; exact HH9, HA9, HB9⟩
              case measure => simp [intOf]; omega
        · obtain rfl : k = K := by omega
          have hhn := hd_new HRR.out hlti (by rw [HKK.out]; exact HQ.out)
          have hih : isH R i = true := by unfold isH; rw [hhn]; simp
          have hk1 : cntT (isH R) (i + 1) = k + 1 := by have := HCS.out; rw [if_pos hih] at this; exact this
          have HK1 := Lib.hid hk1
          have HCL : Hid (((hdA R i : Nat) : Int) = (i : Int)) := Lib.hid (by rw [hhn])
          have HCH : Hid (((hsA R 259 k : Nat) : Int) = (i : Int)) := Lib.hid (by rw [← HKK.out, hsA_at hlti hih])
          have HS6 : Hid (g + 1 ≤ wr.heap.size) := Lib.hid (by have := HBx.out.size; have := HZ.out; omega)
          have HLC : Hid ((wr.alloc (.cells #[.int .i64 (i : Int)] 3)).cell? ⟨wr.heap.size, 0, none⟩ = some (.int .i64 (i : Int))) := Lib.hid (by simp)
          have HLZ : Hid (g + 1 ≤ (wr.alloc (.cells #[.int .i64 (i : Int)] 3)).heap.size) := Lib.hid (by rw [World.size_alloc]; have := HS6.out; omega)
          have HT6 := Lib.hid (HTx.out.alloc (.cells #[.int .i64 (i : Int)] 3))
          have HH6 := Lib.hid (HHx.out.alloc (.cells #[.int .i64 (i : Int)] 3))
          have HB7 := Lib.hid (HBx.out.alloc HS6.out (.cells #[.int .i64 (i : Int)] 3))
          have HAS := Lib.hid (apart_sym HA.out)
          clear hhn hih hk1 HTx HHx hlt
          go_wp2_with (at_builtin; refine append_fn2 rfl _ _ rfl (g + 1) _ (fun j => (hsA R 259 j : Nat)) k rfl HH6.out wr.heap.size (i : Int) HCH.out rfl HLC.out (by omega) HLZ.out _ (fun x => (hdA R x : Nat)) i HT6.out HAS.out ?_; intro v9 w9 h9 h10 ha9 hb9; have HH9 := Lib.hid h9; have HT9 := Lib.hid h10; have HA9 := Lib.hid (apart_sym ha9); have HB9 := Lib.hid (HB7.out.trans hb9); clear h9 h10 ha9 hb9; refine Hid.out ?_)
          have HSZ9 : Hid (g + 1 ≤ w9.heap.size) := Lib.hid (by have := HB9.out.size; have := HZ.out; omega)
          have HLC9 : Hid ((w9.alloc (.cells #[.int .i64 (i : Int)] 3)).cell? ⟨w9.heap.size, 0, none⟩ = some (.int .i64 (i : Int))) := Lib.hid (by simp)
          have HLZ9 : Hid (g + 1 ≤ (w9.alloc (.cells #[.int .i64 (i : Int)] 3)).heap.size) := Lib.hid (by rw [World.size_alloc]; have := HSZ9.out; omega)
          have HT10 := Lib.hid (HT9.out.alloc (.cells #[.int .i64 (i : Int)] 3))
          have HH10 := Lib.hid (HH9.out.alloc (.cells #[.int .i64 (i : Int)] 3))
          have HB10 := Lib.hid (HB9.out.alloc HSZ9.out (.cells #[.int .i64 (i : Int)] 3))
          clear HT9 HH9 HT6 HH6 HLC HLZ HB7
          refine Lib.hid ?_
          go_wp2_with (at_builtin; refine append_fn2 rfl _ _ rfl (g + 1) _ (fun x => (hdA R x : Nat)) i rfl HT10.out w9.heap.size (i : Int) HCL.out rfl HLC9.out (by omega) HLZ9.out _ (fun j => (hsA R 259 j : Nat)) (k + 1) HH10.out HA9.out ?_; intro v11 w11 h11 h12 ha11 hb11; have HT11 := Lib.hid h11; have HH11 := Lib.hid (HK1.out.symm ▸ h12); have HA11 := Lib.hid ha11; have HB11 := Lib.hid (HB10.out.trans hb11); clear h11 h12 ha11 hb11)
          go_roundw
          case rel => exact ⟨i + 1, by omega, by go_num, HT11, HH11, HA11, HB11⟩
          case measure => simp [intOf]; omega
    · obtain rfl : i = 259 := by omega
      obtain ⟨tp, tc, rfl⟩ := spF_of HT.out
      have HNu := Lib.hid (num10 R HRR.out tp 259 tc (by decide) _ HT.out.rd)
      clear HT HH HA hcs hcle
      go_wp2_with fail
      refine HNu.out.mono ?_
      rintro e w5 ⟨q2, c2, rfl, h1, h2⟩
      have HF := Lib.hid h1
      have HB5 := Lib.hid (HB.out.trans (h2.mono (by have := HB.out.size; have := HZ.out; omega)))
      clear h1 h2 HNu
      go_wp2_with fail
      go_returns
      exact ⟨_, _, rfl, HF.out, HB1.out.trans (HB5.out.mono (by have := HG.out; omega))⟩
end Go.Proofs.Ytepegohopgnmnaa
