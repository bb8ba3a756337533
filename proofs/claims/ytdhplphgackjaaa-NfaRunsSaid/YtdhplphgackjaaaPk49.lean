/-
  The walk of the law NfaRuns, over whatever Build, Right and Fits are that do as the page says.
-/
import Derived.Test.YtdhplphgackjaaaPk46
import Derived.Test.YtdhplphgackjaaaPk47
import Derived.Test.YtdhplphgackjaaaPk48
import Derived.Deep.RegionHeldLaw
namespace Go.Proofs.Ytdhplphgackjaaa
open Go.RowKit

theorem sts_take {w : World} {p : Option Addr} {n m : Nat} {S : Nat → Sd} (h : stsAt w p n S) (hm : m ≤ n) : stsAt w p m S :=
  ⟨by rcases h.1 with h1 | h1
      · exact .inl (by omega)
      · exact .inr h1, fun b off e j hj => h.2 b off e j (by omega)⟩
theorem sts_below {w w' : World} {p : Option Addr} {m : Nat} {S : Nat → Sd} (h : stsAt w p m S) (hb : Below w.heap.size w w') : stsAt w' p m S := ⟨h.1, fun b off e => (h.2 b off e).below hb⟩
theorem is3.put0 {t : TypeId} {w : World} {b : Nat} {v : Value} {f l : Int} (h : is3 t w b v f l) (v' : Value) : is3 t (w.setCell ⟨b, 0, none⟩ v') b v' f l := by
  have h1 := heap_setCell_same w b 0 _ _ v' h
  unfold is3
  rw [h1]
  simp
set_option maxRecDepth 100000 in
set_option maxHeartbeats 4000000 in
theorem runs9_any (hB : BldC) (hR : RgtC) (hF : FitC) (p : Option Addr) (n cap k : Nat) (hk : k = min n 30) (hcap : n ≤ cap) (S : Nat → Sd) (st fin : Int) (t : ByteArray) (m : Nat) (hm : m = min t.size 8) (i j : Int) (w : World) (hS : stsAt w p k S) (hw : ∀ q, q < k → okWs (S q)) :
    Calls Try.prog 6 #[nfV p n cap st fin, .string t, .agg #[.int .i64 i, .int .i64 j]] w fun e w' => e = .returned (.bool true) ∧ Below w.heap.size w w' := by
  have HAw := Lib.hid (awake9_any hB hR hF)
  obtain ⟨w0, hw0⟩ : ∃ w0, (w.alloc (.cells #[.slice p n cap, .int .i64 st, .int .i64 fin] 26)).alloc (.cells #[.int .i64 i, .int .i64 j] 50) = w0 := ⟨_, rfl⟩
  have hb0 : Below w.heap.size w w0 := hw0 ▸ ((Below.refl _ _).alloc (Nat.le_refl _) _).alloc (by simp) _
  have hn0 : is3 26 w0 w.heap.size (.slice p n cap) st fin := by
    have h := is3.new 26 w (.slice p n cap) st fin
    rw [← hw0]
    exact h.below ((Below.refl _ _).alloc (Nat.le_refl _) _) h.lt
  have h20 : w0.cell? ⟨w.heap.size + 1, 0, none⟩ = some (.int .i64 i) ∧ w0.cell? ⟨w.heap.size + 1, 1, none⟩ = some (.int .i64 j) := by rw [← hw0]; simp
  have hz0 : w0.heap.size = w.heap.size + 2 := by rw [← hw0]; simp
  have HB0 := Lib.hid hb0; have HN0 := Lib.hid hn0; have H20 := Lib.hid h20; have HZ0 := Lib.hid hz0; have HW0 := Lib.hid hw0
  have HSW := Lib.hid hS; have HOK := Lib.hid hw; have HFt := Lib.hid hF
  have h1 : (if (30 : Int) < (n : Int) then (30 : Int) else (n : Int)) = (k : Int) := by split <;> omega
  have h2 : (if (8 : Int) < (t.size : Int) then (8 : Int) else (t.size : Int)) = (m : Int) := by split <;> omega
  have e1 : min (n : Int) 30 = (k : Int) := by omega
  have e2 : min (t.size : Int) 8 = (m : Int) := by omega
  have H1 := Lib.hid h1
  have H2 := Lib.hid h2
  have k0 : (0 : Int) ≤ (k : Int) := by omega
  have k1 : (k : Int) ≤ (cap : Int) := by omega
  have m0 : (0 : Int) ≤ (m : Int) := by omega
  have m1 : (m : Int) ≤ (t.size : Int) := by omega
  have hts : (t.extract 0 m).size = m := by rw [ByteArray.size_extract]; omega
  have hk30 : k ≤ 30 := by omega
  have hm8 : m ≤ 8 := by omega
  obtain ⟨s, hs⟩ : ∃ s, t.extract 0 m = s := ⟨_, rfl⟩
  rw [hs] at hts
  have HTS := Lib.hid hts; have HSX := Lib.hid hs
  clear hB hR hF hS hw hb0 hn0 h20 hz0 hw0 h1 h2 hk hm hts hs
  go_enter Try.func6, Try.ntmps6
  go_upto_region 1 with (fail)
  rw [HW0.out]
  go_wp2_with fail
  refine (HAw.out _).mono ?_
  rintro e w1 ⟨rfl, hb⟩
  have hz1 : w.heap.size + 2 ≤ w1.heap.size := by have := hb.size; have := HZ0.out; omega
  have HB1 := Lib.hid (HB0.out.trans (hb.mono HB0.out.size))
  have HN1 := Lib.hid (HN0.out.below hb HN0.out.lt)
  have H21 : Hid (w1.cell? ⟨w.heap.size + 1, 0, none⟩ = some (.int .i64 i) ∧ w1.cell? ⟨w.heap.size + 1, 1, none⟩ = some (.int .i64 j)) := Lib.hid (by
    have e : ∀ o, w1.cell? ⟨w.heap.size + 1, o, none⟩ = w0.cell? ⟨w.heap.size + 1, o, none⟩ := fun o => hb.cell (p := ⟨w.heap.size + 1, o, none⟩) (by have := HZ0.out; show w.heap.size + 1 < w0.heap.size; omega)
    rw [e, e]; exact H20.out)
  clear hb HAw HN0 H20 HB0 HW0
  obtain ⟨n0, n1, n2⟩ := HN1.out.cells
  obtain ⟨f0, -, -⟩ := HN1.out.free
  go_upto_region 4 with (refine wpList_plain rfl fun _ hK => wp_min9 _ _ rfl (n : Int) 30 (k : Int) rfl rfl H1.out (hK _ _ ?_))
  obtain ⟨W, hW⟩ : ∃ W, w1.setCell ⟨w.heap.size, 0, none⟩ (.slice p k cap) = W := ⟨_, rfl⟩
  have hWz : w.heap.size + 2 ≤ W.heap.size := by rw [← hW]; simpa using hz1
  have HN2 : Hid (is3 26 W w.heap.size (.slice p k cap) st fin) := Lib.hid (hW ▸ HN1.out.put0 _)
  have HB2 : Hid (Below w.heap.size w W) := Lib.hid (hW ▸ HB1.out.setCell (p := ⟨w.heap.size, 0, none⟩) (Nat.le_refl _) _)
  have H22 : Hid (W.cell? ⟨w.heap.size + 1, 0, none⟩ = some (.int .i64 i) ∧ W.cell? ⟨w.heap.size + 1, 1, none⟩ = some (.int .i64 j)) := Lib.hid (by
    have g := grown_setCell w1 w.heap.size 0 (.slice p k cap)
    rw [hW] at g
    exact ⟨g.cell H21.out.1 (by simp), g.cell H21.out.2 (by simp)⟩)
  rw [hW]
  clear n0 n1 n2 f0 hW HN1 HB1 H21 hz1
  go_wp2_with (refine wpList_plain rfl fun _ hK => wp_min9 _ _ rfl (t.size : Int) 8 (m : Int) rfl rfl H2.out (hK _ _ ?_))
  rw [HSX.out]
  obtain ⟨q0, q1⟩ := H22.out
  go_region_held_law (fun w' => w'.cell? ⟨w.heap.size + 1, 0, none⟩ = some (.int .i64 i) ∧ w'.cell? ⟨w.heap.size + 1, 1, none⟩ = some (.int .i64 j)) (first | exact ⟨q0, q1⟩ | exact ⟨H22.out.1, H22.out.2⟩) (fail)
  all_goals
    have HB2' : Hid (Below w.heap.size w W.drew) := Lib.hid HB2.out.drew
    have HN3 : Hid (is3 26 W.drew w.heap.size (.slice p k cap) st fin) := HN2
    have HRc := Lib.hid (rright9_is p k cap S st fin (by omega) W.drew HSW.out.1 (fun b off e => (sts_below HSW.out HB2'.out).2 b off e))
    clear q0 q1 H22 HN2 HB2
    generalize W.drew = W2 at *
    obtain ⟨n0, n1, n2⟩ := HN3.out.cells
    go_wp2_with fail
    refine HRc.out.mono ?_
    rintro e w3 ⟨rfl, hb⟩
    have HB3 := Lib.hid (HB2'.out.trans (hb.mono HB2'.out.size))
    have HN4 := Lib.hid (HN3.out.below hb HN3.out.lt)
    clear hb HRc HN3 HB2' n0 n1 n2
    obtain ⟨n0, n1, n2⟩ := HN4.out.cells
    by_cases hbad : rightP S k st fin
    · rw [decide_eq_true hbad]
      have HRI := Lib.hid hbad
      clear hbad
      by_cases hi : i < 0
      · have hbad := trivial
        have HFc := Lib.hid (HFt.out p k cap S st fin s i j w3 (by omega) (by have := HTS.out; omega) (sts_below HSW.out HB3.out) HOK.out)
        have HNF : Hid (¬ fitC S k st fin s i j) := Lib.hid (fun hc => by obtain ⟨c1, c2, c3, c4, -⟩ := hc; have := HTS.out; first | exact absurd c1 hbad | omega)
        go_wp2_with fail
        refine HFc.out.mono ?_
        rintro e w4 ⟨r, rfl, hr, hb⟩
        have hrf : r = false := by
          cases r with
          | false => rfl
          | true => exact absurd (hr.1 rfl) HNF.out
        subst hrf
        have HB4 := Lib.hid (HB3.out.trans (hb.mono HB3.out.size))
        clear hb hr
        go_wp2_with fail
        go_returns
        exact ⟨rfl, HB4.out⟩
      · by_cases hj : j < i
        · have hbad := trivial
          have HFc := Lib.hid (HFt.out p k cap S st fin s i j w3 (by omega) (by have := HTS.out; omega) (sts_below HSW.out HB3.out) HOK.out)
          have HNF : Hid (¬ fitC S k st fin s i j) := Lib.hid (fun hc => by obtain ⟨c1, c2, c3, c4, -⟩ := hc; have := HTS.out; first | exact absurd c1 hbad | omega)
          go_wp2_with fail
          refine HFc.out.mono ?_
          rintro e w4 ⟨r, rfl, hr, hb⟩
          have hrf : r = false := by
            cases r with
            | false => rfl
            | true => exact absurd (hr.1 rfl) HNF.out
          subst hrf
          have HB4 := Lib.hid (HB3.out.trans (hb.mono HB3.out.size))
          clear hb hr
          go_wp2_with fail
          go_returns
          exact ⟨rfl, HB4.out⟩
        · by_cases hl : (s.size : Int) < j
          · have hbad := trivial
            have HFc := Lib.hid (HFt.out p k cap S st fin s i j w3 (by omega) (by have := HTS.out; omega) (sts_below HSW.out HB3.out) HOK.out)
            have HNF : Hid (¬ fitC S k st fin s i j) := Lib.hid (fun hc => by obtain ⟨c1, c2, c3, c4, -⟩ := hc; have := HTS.out; first | exact absurd c1 hbad | omega)
            go_wp2_with fail
            refine HFc.out.mono ?_
            rintro e w4 ⟨r, rfl, hr, hb⟩
            have hrf : r = false := by
              cases r with
              | false => rfl
              | true => exact absurd (hr.1 rfl) HNF.out
            subst hrf
            have HB4 := Lib.hid (HB3.out.trans (hb.mono HB3.out.size))
            clear hb hr
            go_wp2_with fail
            go_returns
            exact ⟨rfl, HB4.out⟩
          · obtain ⟨I, rfl⟩ : ∃ I : Nat, i = I := ⟨i.toNat, by omega⟩
            obtain ⟨J, rfl⟩ : ∃ J : Nat, j = J := ⟨j.toNat, by omega⟩
            obtain ⟨⟨r1, r2, r3, r4, r5, r6⟩, -⟩ := id HRI.out
            obtain ⟨ST, rfl⟩ : ∃ x : Nat, st = x := ⟨st.toNat, by omega⟩
            obtain ⟨F, rfl⟩ : ∃ x : Nat, fin = x := ⟨fin.toNat, by omega⟩
            obtain ⟨b, off, rfl⟩ : ∃ b off, p = some ⟨b, off, none⟩ := by
              rcases HSW.out.1 with h | h
              · omega
              · exact h
            obtain ⟨R, hRR⟩ : ∃ R, fF S k m (tx7 s) (ST : Int) F I J = R := ⟨_, rfl⟩
            have HRF : Hid (R = true ↔ fitC S k (ST : Int) (F : Int) s (I : Int) (J : Int)) := Lib.hid (by
              rw [← hRR, fF_iff (right_rng HRI.out) (by omega) (by omega)]
              unfold fitC
              rw [HTS.out]
              simp only [Int.toNat_natCast]
              exact ⟨fun h => ⟨HRI.out, by omega, by omega, by have := HTS.out; omega, h⟩, fun h => h.2.2.2.2⟩)
            have HCc : Hid (∀ w', Below w3.heap.size w3 w' → Calls Try.prog 14 #[nfV (some ⟨b, off, none⟩) k cap (ST : Int) (F : Int), .string s, .int .i64 (I : Int), .int .i64 (J : Int)] w' fun e w'' => e = .returned (.bool R) ∧ Below w'.heap.size w' w'') := Lib.hid fun w' hb => by
              refine (HFt.out (some ⟨b, off, none⟩) k cap S ST F s I J w' (by omega) (by have := HTS.out; omega) (sts_below (sts_below HSW.out HB3.out) hb) HOK.out).mono ?_
              rintro e w'' ⟨r, rfl, hr, hb'⟩
              have e : r = R := by
                rw [Bool.eq_iff_iff, hr, HRF.out]
              subst e
              exact ⟨rfl, hb'⟩
            have HCr : Hid (∀ w', Below w3.heap.size w3 w' → Calls Try.prog 24 #[nfV (some ⟨b, off, none⟩) k cap (ST : Int) (F : Int), .string s, .int .i64 (I : Int), .int .i64 (J : Int)] w' fun e w'' => e = .returned (.bool R) ∧ Below w'.heap.size w' w'') := Lib.hid fun w' hb => by
              have := rfit9_is b off k cap S ST F (by omega) (by omega) (by omega) (right_rng HRI.out) HOK.out s m HTS.out (by omega) I J (by omega) (by have := HTS.out; omega) w' (((HSW.out.2 b off rfl).below HB3.out).below hb)
              rwa [hRR] at this
            have HKN : Hid (∀ w', Below w3.heap.size w3 w' → (w'.cell? ⟨w.heap.size, 0, none⟩ = some (.slice (some ⟨b, off, none⟩) k cap) ∧ w'.cell? ⟨w.heap.size, 1, none⟩ = some (.int .i64 (ST : Int)) ∧ w'.cell? ⟨w.heap.size, 2, none⟩ = some (.int .i64 (F : Int)))) := Lib.hid fun w' hb => (HN4.out.below hb HN4.out.lt).cells
            have hB : Below w3.heap.size w3 w3.drew := (Below.refl _ _).drew
            have hmJ : decide ((s.size : Int) < (J : Int)) = false := decide_eq_false hl
            clear hRR HRF HFt HSW HRI HOK r1 r2 r3 r4 r5 r6 HN4
            go_upto_region 8 with (fail)
            clear n0 n1 n2
            go_region_held_law (fun w' => w'.cell? ⟨w.heap.size, 0, none⟩ = some (.slice (some ⟨b, off, none⟩) k cap) ∧ w'.cell? ⟨w.heap.size, 1, none⟩ = some (.int .i64 (ST : Int)) ∧ w'.cell? ⟨w.heap.size, 2, none⟩ = some (.int .i64 (F : Int)))
              (exact HKN.out _ hB)
              (first
                | (go_at_call 14; (with_reducible refine (HCc.out _ hB).mono ?_); rintro e wk ⟨rfl, hb⟩; (replace hB := hB.trans (hb.mono hB.size)); clear hb)
                | (go_at_call 24; (with_reducible refine (HCr.out _ hB).mono ?_); rintro e wk ⟨rfl, hb⟩; (replace hB := hB.trans (hb.mono hB.size)); clear hb))
            all_goals
              have HBe := Lib.hid (HB3.out.trans (hB.mono HB3.out.size))
              clear hB
              go_wp2_with fail
              go_returns
              exact ⟨by simp, HBe.out⟩
    · rw [decide_eq_false hbad]
      have HFc := Lib.hid (HFt.out p k cap S st fin s i j w3 (by omega) (by have := HTS.out; omega) (sts_below HSW.out HB3.out) HOK.out)
      have HNF : Hid (¬ fitC S k st fin s i j) := Lib.hid (fun hc => by obtain ⟨c1, c2, c3, c4, -⟩ := hc; have := HTS.out; first | exact absurd c1 hbad | omega)
      go_wp2_with fail
      refine HFc.out.mono ?_
      rintro e w4 ⟨r, rfl, hr, hb⟩
      have hrf : r = false := by
        cases r with
        | false => rfl
        | true => exact absurd (hr.1 rfl) HNF.out
      subst hrf
      have HB4 := Lib.hid (HB3.out.trans (hb.mono HB3.out.size))
      clear hb hr
      go_wp2_with fail
      go_returns
      exact ⟨rfl, HB4.out⟩
end Go.Proofs.Ytdhplphgackjaaa
