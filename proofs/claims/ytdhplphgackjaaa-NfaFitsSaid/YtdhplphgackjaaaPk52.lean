/-
  The walk of the law NfaFits, over whatever Build, Right and Fits are that do as the page says.
-/
import Derived.Test.YtdhplphgackjaaaPk49
import Derived.Test.YtdhplphgackjaaaPk42
import Derived.Test.YtdhplphgackjaaaPk51
import Derived.Test.YtdhplphgackjaaaPk4
namespace Go.Proofs.Ytdhplphgackjaaa
open Go.RowKit

set_option maxRecDepth 100000 in
set_option maxHeartbeats 4000000 in
/-- The law, where there is no automaton. -/
theorem nfits_bad (p : Option Addr) (n cap k : Nat) (hk : k = min n 30) (hcap : n ≤ cap) (t : ByteArray) (m : Nat) (hm : m = min t.size 8) (w : World) (er : Int) (her : er ≠ 0)
    (hA : ∀ w, Calls Try.prog 7 #[] w fun e w' => e = .returned (.bool true) ∧ Below w.heap.size w w')
    (hO : ∀ w', Below w.heap.size w w' → Calls Try.prog 8 #[.slice p k cap] w' fun e w'' => ∃ g c st fin, e = .returned (.tuple #[nfV g 0 c st fin, .int .i64 er]) ∧ Below w'.heap.size w' w'')
    (hR : ∀ g c st fin w', Calls Try.prog 13 #[nfV g 0 c st fin] w' fun e w'' => e = .returned (.bool false) ∧ Below w'.heap.size w' w'')
    (hF : ∀ g c st fin w', Calls Try.prog 14 #[nfV g 0 c st fin, .string (t.extract 0 m), .int .i64 0, .int .i64 0] w' fun e w'' => e = .returned (.bool false) ∧ Below w'.heap.size w' w'') :
    Calls Try.prog 4 #[.slice p n cap, .string t] w fun e w' => e = .returned (.bool true) ∧ Below w.heap.size w w' := by
  have HA := Lib.hid hA; have HO := Lib.hid hO; have HR := Lib.hid hR; have HF := Lib.hid hF
  have h1 : (if (30 : Int) < (n : Int) then (30 : Int) else (n : Int)) = (k : Int) := by split <;> omega
  have h2 : (if (8 : Int) < (t.size : Int) then (8 : Int) else (t.size : Int)) = (m : Int) := by split <;> omega
  have e1 : min (n : Int) 30 = (k : Int) := by omega
  have e2 : min (t.size : Int) 8 = (m : Int) := by omega
  have H1 := Lib.hid h1
  have H2 := Lib.hid h2
  have k0 : (0 : Int) ≤ (k : Int) := by omega
  have k1 : (k : Int) ≤ (cap : Int) := by omega
  have m0 : (0 : Int) ≤ (m : Int) := by omega
  have m1 : (m : Int) ≤ (t.size : Int) := by omega
  have hne : (er == 0) = false := beq_eq_false_iff_ne.2 her
  clear hA hO hR hF h1 h2 hk hm her
  go_enter Try.func4, Try.ntmps4
  go_wp2_with fail
  refine (HA.out _).mono ?_
  rintro e w1 ⟨rfl, hb⟩
  have HB1 := Lib.hid hb
  clear hb HA
  go_wp2_with fail
  go_region_held_law (fun _ => True) (exact trivial) (first | (refine wp_min9 _ _ rfl (n : Int) 30 (k : Int) rfl rfl H1.out ?_) | (refine wp_min9 _ _ rfl (t.size : Int) 8 (m : Int) rfl rfl H2.out ?_))
  all_goals
    have HB2 := Lib.hid HB1.out.drew
    clear HB1
    generalize w1.drew = w2 at *
    go_wp2_with fail
    refine (HO.out _ HB2.out).mono ?_
    rintro e w3 ⟨g, c, st, fin, rfl, hb⟩
    have HB3 := Lib.hid (HB2.out.trans (hb.mono HB2.out.size))
    obtain ⟨w4, hw4⟩ : ∃ w4, w3.alloc (.cells #[.slice g 0 c, .int .i64 st, .int .i64 fin] 26) = w4 := ⟨_, rfl⟩
    have hb4 : Below w3.heap.size w3 w4 := hw4 ▸ (Below.refl _ _).alloc (Nat.le_refl _) _
    have HN4 : Hid (is3 26 w4 w3.heap.size (.slice g 0 c) st fin) := Lib.hid (hw4 ▸ is3.new _ _ _ _ _)
    have HB4 := Lib.hid (HB3.out.trans (hb4.mono HB3.out.size))
    have HW4 := Lib.hid hw4
    clear hb hb4 hw4 HO HB2 HB3
    go_upto_region 6 with (fail)
    rw [HW4.out]
    obtain ⟨n0, n1, n2⟩ := HN4.out.cells
    go_wp2_with fail
    refine (HR.out _ _ _ _ _).mono ?_
    rintro e w5 ⟨rfl, hb⟩
    have HB5 := Lib.hid (HB4.out.trans (hb.mono HB4.out.size))
    have HN5 := Lib.hid (HN4.out.below hb HN4.out.lt)
    clear hb HR HN4 HB4 n0 n1 n2
    obtain ⟨n0, n1, n2⟩ := HN5.out.cells
    go_wp2_with fail
    refine (HF.out _ _ _ _ _).mono ?_
    rintro e w6 ⟨rfl, hb⟩
    have HB6 := Lib.hid (HB5.out.trans (hb.mono HB5.out.size))
    clear hb
    go_wp2_with fail
    go_returns
    exact ⟨rfl, HB6.out⟩

set_option maxRecDepth 100000 in
set_option maxHeartbeats 8000000 in
/-- The law, where there is one. -/
theorem nfits_tree (p : Option Addr) (n cap k : Nat) (hk : k = min n 30) (hcap : n ≤ cap) (t : ByteArray) (m : Nat) (hm : m = min t.size 8) (s : ByteArray) (hs : t.extract 0 m = s) (hsz : s.size = m) (w : World) (M : Nat) (F : Gr)
    (hA : ∀ w, Calls Try.prog 7 #[] w fun e w' => e = .returned (.bool true) ∧ Below w.heap.size w w')
    (hO : ∀ w', Below w.heap.size w w' → Calls Try.prog 8 #[.slice p k cap] w' fun e w'' => ∃ g c st fin, e = .returned (.tuple #[nfV g M c st fin, .int .i64 0]) ∧ Below w'.heap.size w' w'' ∧
      (∀ v, Below w''.heap.size w'' v → Calls Try.prog 13 #[nfV g M c st fin] v fun e v' => e = .returned (.bool true) ∧ Below v.heap.size v v') ∧
      (∀ (i j : Nat), i ≤ j → j ≤ m → ∀ v, Below w''.heap.size w'' v → Calls Try.prog 14 #[nfV g M c st fin, .string s, .int .i64 (i : Int), .int .i64 (j : Int)] v fun e v' => e = .returned (.bool (F i j)) ∧ Below v.heap.size v v'))
    (hAl : ∀ w', Below w.heap.size w w' → Calls Try.prog 15 #[.slice p k cap, .string s] w' (fitPost m F w'))
    (hSz : ∀ w', Below w.heap.size w w' → Calls Try.prog 16 #[.slice p k cap] w' fun e w'' => e = .returned (.int .i64 (M : Int)) ∧ Below w'.heap.size w' w'') :
    Calls Try.prog 4 #[.slice p n cap, .string t] w fun e w' => e = .returned (.bool true) ∧ Below w.heap.size w w' := by
  have m10 : m ≤ 8 := by omega
  have HA := Lib.hid hA; have HO := Lib.hid hO; have HAl := Lib.hid hAl; have HSz := Lib.hid hSz; have HSX := Lib.hid hs; have HTS := Lib.hid hsz
  have h1 : (if (30 : Int) < (n : Int) then (30 : Int) else (n : Int)) = (k : Int) := by split <;> omega
  have h2 : (if (8 : Int) < (t.size : Int) then (8 : Int) else (t.size : Int)) = (m : Int) := by split <;> omega
  have e1 : min (n : Int) 30 = (k : Int) := by omega
  have e2 : min (t.size : Int) 8 = (m : Int) := by omega
  have H1 := Lib.hid h1
  have H2 := Lib.hid h2
  have k0 : (0 : Int) ≤ (k : Int) := by omega
  have k1 : (k : Int) ≤ (cap : Int) := by omega
  have m0 : (0 : Int) ≤ (m : Int) := by omega
  have m1 : (m : Int) ≤ (t.size : Int) := by omega
  clear hA hO hAl hSz h1 h2 hk hm hs hsz
  go_enter Try.func4, Try.ntmps4
  go_wp2_with fail
  refine (HA.out _).mono ?_
  rintro e w1 ⟨rfl, hb⟩
  have HB1 := Lib.hid hb
  clear hb HA
  go_wp2_with fail
  go_region_held_law (fun _ => True) (exact trivial) (first | (refine wp_min9 _ _ rfl (n : Int) 30 (k : Int) rfl rfl H1.out ?_) | (refine wp_min9 _ _ rfl (t.size : Int) 8 (m : Int) rfl rfl H2.out ?_))
  all_goals
    have HB2 := Lib.hid HB1.out.drew
    clear HB1
    generalize w1.drew = w2 at *
    rw [HSX.out]
    go_wp2_with fail
    refine (HO.out _ HB2.out).mono ?_
    rintro e w3 ⟨g, c, st, fin, rfl, hb, hR, hF⟩
    have HB3 := Lib.hid (HB2.out.trans (hb.mono HB2.out.size))
    have HR := Lib.hid hR; have HF := Lib.hid hF
    obtain ⟨w4, hw4⟩ : ∃ w4, w3.alloc (.cells #[.slice g M c, .int .i64 st, .int .i64 fin] 26) = w4 := ⟨_, rfl⟩
    have hb4 : Below w3.heap.size w3 w4 := hw4 ▸ (Below.refl _ _).alloc (Nat.le_refl _) _
    have HN4 : Hid (is3 26 w4 w3.heap.size (.slice g M c) st fin) := Lib.hid (hw4 ▸ is3.new _ _ _ _ _)
    have HB4 := Lib.hid (HB3.out.trans (hb4.mono HB3.out.size))
    have HB34 := Lib.hid hb4
    have HW4 := Lib.hid hw4
    clear hb hb4 hw4 HO HB2 HB3 hR hF
    go_upto_region 7 with (fail)
    rw [HW4.out]
    go_wp2_with fail
    refine (HAl.out _ HB4.out).mono ?_
    rintro e W ⟨v, rfl, hg, hb⟩
    obtain ⟨ga, ca, ra, rfl, hga, hga1, hga2⟩ := rdG.of hg
    have HW := Lib.hid (HB4.out.trans (hb.mono HB4.out.size))
    have HQ := Lib.hid (HB34.out.trans (hb.mono HB34.out.size))
    have HNW := Lib.hid (HN4.out.below hb HN4.out.lt)
    have HK : Hid (∀ w', Below W.heap.size W w' → ∀ i j, i ≤ m → j ≤ m → (w'.cell? ⟨w3.heap.size, 0, none⟩ = some (.slice g M c) ∧ w'.cell? ⟨w3.heap.size, 1, none⟩ = some (.int .i64 st) ∧ w'.cell? ⟨w3.heap.size, 2, none⟩ = some (.int .i64 fin) ∧ w'.cell? ⟨ga, i, none⟩ = some (.slice (some ⟨ra i, 0, none⟩) (m + 1) (m + 1)) ∧ w'.cell? ⟨ra i, j, none⟩ = some (.bool (F i j)))) := Lib.hid fun w' hB i j hi hj => by
      obtain ⟨x0, x1, x2⟩ := (HNW.out.below hB HNW.out.lt).cells
      refine ⟨x0, x1, x2, ?_, ?_⟩
      · rw [hB.cell (p := ⟨ga, i, none⟩) hga]; exact hga1 i hi
      · rw [hB.cell (p := ⟨ra i, j, none⟩) (hga2 i hi).1]; exact (hga2 i hi).2 j hj
    have hmz : s.size = m := HTS.out
    clear hb hg hga hga1 hga2 HAl HB4 HB34 HN4 HW4
    go_wp2_with fail
    go_loopw [8] (fun iv wr => ∃ i : Nat, i ≤ m + 1 ∧ iv = .int .i64 i ∧ Below W.heap.size W wr) (fun iv _ => m + 1 - (intOf iv).toNat)
    case atStart => exact ⟨0, Nat.zero_le _, rfl, Below.refl _ _⟩
    case round =>
      obtain ⟨i, hi, rfl, hB⟩ := hrel
      have HB := Lib.hid hB
      clear hB
      by_cases hlt : i ≤ m
      · have d1 : decide ((i : Int) ≤ (m : Int)) = true := decide_eq_true (by omega)
        have i0 : (0 : Int) ≤ (i : Int) := by omega
        have i1 : (i : Int) < (m : Int) + 1 := by omega
        go_wp2_with fail
        go_loopw [9] (fun jv wx => ∃ j : Nat, i ≤ j ∧ j ≤ m + 1 ∧ jv = .int .i64 j ∧ Below W.heap.size W wx) (fun jv _ => m + 1 - (intOf jv).toNat)
        case atStart => exact ⟨i, Nat.le_refl _, hi, rfl, HB.out⟩
        case round =>
          obtain ⟨j, hij, hj, rfl, hB⟩ := hrel
          have HB' := Lib.hid hB
          by_cases hjm : j ≤ m
          · have d2 : decide ((j : Int) ≤ (m : Int)) = true := decide_eq_true (by omega)
            have j0 : (0 : Int) ≤ (j : Int) := by omega
            have j1 : (j : Int) < (m : Int) + 1 := by omega
            have HKS := Lib.hid (fun w' h => HK.out w' h i j hlt hjm)
            have HFc := Lib.hid (fun v h => HF.out i j hij hjm v h)
            obtain ⟨fb, hfb⟩ : ∃ fb, F i j = fb := ⟨_, rfl⟩
            rw [hfb] at HKS HFc
            have HIJ : Hid (i ≤ j ∧ j ≤ m) := Lib.hid ⟨hij, hjm⟩
            have hB := hB.drew
            clear hfb hij hjm hlt hi hj
            go_wp2_with fail
            go_region_held_law (fun w' => w'.cell? ⟨w3.heap.size, 0, none⟩ = some (.slice g M c) ∧ w'.cell? ⟨w3.heap.size, 1, none⟩ = some (.int .i64 st) ∧ w'.cell? ⟨w3.heap.size, 2, none⟩ = some (.int .i64 fin) ∧ w'.cell? ⟨ga, i, none⟩ = some (.slice (some ⟨ra i, 0, none⟩) (m + 1) (m + 1)) ∧ w'.cell? ⟨ra i, j, none⟩ = some (.bool fb))
              (exact HKS.out _ hB)
              (first | (go_at_call 14; (with_reducible refine (HFc.out _ (HQ.out.trans (hB.mono HQ.out.size))).mono ?_); rintro e wk ⟨rfl, hb⟩; (replace hB := hB.trans (hb.mono hB.size)); clear hb))
            all_goals
              have HB9 := Lib.hid hB
              clear hB
              obtain ⟨hij, hjm⟩ := HIJ.out
              go_wp2_with fail
              go_roundw
              case rel => exact ⟨j + 1, by omega, by omega, by go_num, HB9.out⟩
              case measure => simp [intOf]; omega
          · have d2 : decide ((j : Int) ≤ (m : Int)) = false := decide_eq_false (by omega)
            clear hB
            go_wp2_with fail
            go_roundw
            case rel => exact ⟨i + 1, by omega, by go_num, HB'.out⟩
            case measure => simp [intOf]; omega
      · have d1 : decide ((i : Int) ≤ (m : Int)) = false := decide_eq_false (by omega)
        have hB := HB.out.drew
        have HKN : Hid (∀ w', Below W.heap.size W w' → (w'.cell? ⟨w3.heap.size, 0, none⟩ = some (.slice g M c) ∧ w'.cell? ⟨w3.heap.size, 1, none⟩ = some (.int .i64 st) ∧ w'.cell? ⟨w3.heap.size, 2, none⟩ = some (.int .i64 fin))) := Lib.hid fun w' h => (HNW.out.below h HNW.out.lt).cells
        go_wp2_with fail
        go_region_held_law (fun w' => w'.cell? ⟨w3.heap.size, 0, none⟩ = some (.slice g M c) ∧ w'.cell? ⟨w3.heap.size, 1, none⟩ = some (.int .i64 st) ∧ w'.cell? ⟨w3.heap.size, 2, none⟩ = some (.int .i64 fin))
          (exact HKN.out _ hB)
          (first
            | (go_at_call 13; (with_reducible refine (HR.out _ (HQ.out.trans (hB.mono HQ.out.size))).mono ?_); rintro e wk ⟨rfl, hb⟩; (replace hB := hB.trans (hb.mono hB.size)); clear hb)
            | (go_at_call 16; (with_reducible refine (HSz.out _ (HW.out.trans (hB.mono HW.out.size))).mono ?_); rintro e wk ⟨rfl, hb⟩; (replace hB := hB.trans (hb.mono hB.size)); clear hb))
        all_goals
          have HFe := Lib.hid (HW.out.trans (hB.mono HW.out.size))
          clear hB
          go_wp2_with fail
          go_returns
          exact ⟨by simp, HFe.out⟩
end Go.Proofs.Ytdhplphgackjaaa
