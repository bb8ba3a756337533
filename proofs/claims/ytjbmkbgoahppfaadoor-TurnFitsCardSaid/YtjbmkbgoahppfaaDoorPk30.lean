/-
  The walk of the law TurnFits.
-/
import Derived.Test.YtjbmkbgoahppfaaDoorPk20
import Derived.Test.YtjbmkbgoahppfaaDoorPk22
import Derived.Test.YtjbmkbgoahppfaaDoorPk25
import Derived.BigQuiet
import Derived.Deep.QuietTactic
import Derived.Deep.RegionHeldLaw
namespace Go.Proofs.YtjbmkbgoahppfaaDoor
open Go.RowKit

theorem revB_tx (s : ByteArray) (n : Nat) (hn : s.size = n) (i : Nat) (hi : i < n) : tx7 (revB s) (n - 1 - i) = tx7 s i := by
  have h1 : n - 1 - i < (revB s).size := by rw [revB_size]; omega
  have h2 : i < s.size := by omega
  unfold tx7
  rw [dif_pos h1, dif_pos h2]
  have hd : s.data.size = n := hn
  have e : (s.data.reverse)[n - 1 - i]'(by rw [Array.size_reverse]; omega) = s.data[i]'(by omega) := by
    rw [Array.getElem_reverse]
    congr 1
    omega
  exact congrArg UInt8.toNat e

set_option maxRecDepth 100000 in
set_option maxHeartbeats 8000000 in
/-- The law, where the list that counts is no tree. -/
theorem fits_not (p : Option Addr) (n cap k : Nat) (hk : k = min n 30) (hcap : n ≤ cap) (t : ByteArray) (m : Nat) (hm : m = min t.size 10) (w : World) (hT : Tabbed w) (N : Nat → Nd) (ht : ¬ tree N k)
    (hA : ∀ w, Tabbed w → Calls Tryd.prog 6 #[] w fun e w' => e = .returned (.bool true) ∧ Below w.heap.size w w')
    (hO : ∀ w', Below w.heap.size w w' → Calls Tryd.prog 7 #[.slice p k cap] w' (tofPost N k w'))
    (hR : ∀ w', Below w.heap.size w w' → Calls Tryd.prog 10 #[.slice p k cap] w' fun e w'' => e = .returned (.bool (decide (tree N k))) ∧ Below w'.heap.size w' w'') :
    Calls Tryd.prog 4 #[.slice p n cap, .string t] w fun e w' => e = .returned (.bool true) ∧ Below w.heap.size w w' := by
  rw [decide_eq_false ht] at hR
  have hO' : ∀ w', Below w.heap.size w w' → Calls Tryd.prog 7 #[.slice p k cap] w' fun e w'' => ∃ g c, e = .returned (.tuple #[.slice g 0 c, .int .i64 3]) ∧ Below w'.heap.size w' w'' := fun w' hB => by
    refine (hO w' hB).mono ?_
    rintro e w'' ⟨-, h1⟩
    exact h1 ht
  have HA := Lib.hid hA; have HT := Lib.hid hT; have HO := Lib.hid hO'; have HR := Lib.hid hR
  have h1 : (if (30 : Int) < (n : Int) then (30 : Int) else (n : Int)) = (k : Int) := by split <;> omega
  have h2 : (if (10 : Int) < (t.size : Int) then (10 : Int) else (t.size : Int)) = (m : Int) := by split <;> omega
  have e1 : min (n : Int) 30 = (k : Int) := by omega
  have e2 : min (t.size : Int) 10 = (m : Int) := by omega
  have H1 := Lib.hid h1
  have H2 := Lib.hid h2
  have k0 : (0 : Int) ≤ (k : Int) := by omega
  have k1 : (k : Int) ≤ (cap : Int) := by omega
  have m0 : (0 : Int) ≤ (m : Int) := by omega
  have m1 : (m : Int) ≤ (t.size : Int) := by omega
  clear hA hT hO hO' hR h1 h2 hk hm ht
  go_enter Tryd.func4, Tryd.ntmps4
  go_wp2_with fail
  refine (HA.out _ HT.out).mono ?_
  rintro e w1 ⟨rfl, hb⟩
  have HB1 := Lib.hid hb
  clear hb HA HT
  go_wp2_with fail
  go_region_held_law (fun _ => True) (exact trivial) (first | (refine wp_min7 _ _ rfl (n : Int) 30 (k : Int) rfl rfl H1.out ?_) | (refine wp_min7 _ _ rfl (t.size : Int) 10 (m : Int) rfl rfl H2.out ?_))
  all_goals
    have HB2 := Lib.hid HB1.out.drew
    clear HB1
    generalize w1.drew = w2 at *
    go_wp2_with fail
    refine (HO.out _ HB2.out).mono ?_
    rintro e w3 ⟨g, c, rfl, hb⟩
    have HB3 := Lib.hid (HB2.out.trans (hb.mono HB2.out.size))
    clear hb HO HB2
    go_wp2_with fail
    refine (HR.out _ HB3.out).mono ?_
    rintro e w6 ⟨rfl, hb⟩
    have HB6 := Lib.hid (HB3.out.trans (hb.mono HB3.out.size))
    clear hb HR HB3
    go_wp2_with fail
    go_returns
    exact ⟨rfl, HB6.out⟩

set_option maxRecDepth 100000 in
set_option maxHeartbeats 8000000 in
/-- The law, where the list that counts is a tree. -/
theorem fits_tree (p : Option Addr) (n cap k : Nat) (hk : k = min n 30) (hcap : n ≤ cap) (t : ByteArray) (m : Nat) (hm : m = min t.size 10) (s : ByteArray) (hs : t.extract 0 m = s) (hsz : s.size = m) (w : World) (hT : Tabbed w) (M : Nat → Nd) (F : Gr)
    (hA : ∀ w, Tabbed w → Calls Tryd.prog 6 #[] w fun e w' => e = .returned (.bool true) ∧ Below w.heap.size w w')
    (hO : ∀ w', Below w.heap.size w w' → Calls Tryd.prog 7 #[.slice p k cap] w' fun e w'' => ∃ g c, e = .returned (.tuple #[.slice (some ⟨g, 0, none⟩) k c, .int .i64 0]) ∧ rdN w'' g 0 k M ∧ Below w'.heap.size w' w'')
    (hX : ∀ w', Calls Tryd.prog 8 #[.string s] w' fun e w'' => e = .returned (.string (revB s)) ∧ Below w'.heap.size w' w'')
    (hAl : ∀ w', Below w.heap.size w w' → Calls Tryd.prog 13 #[.slice p k cap, .string s] w' (fitPost m F w'))
    (hAx : ∀ g c, ∃ G : Gr, (∀ i j, i ≤ j → j ≤ m → F i j = G (m - j) (m - i)) ∧ ∀ w', rdN w' g 0 k M → Calls Tryd.prog 13 #[.slice (some ⟨g, 0, none⟩) k c, .string (revB s)] w' (fitPost m G w')) :
    Calls Tryd.prog 4 #[.slice p n cap, .string t] w fun e w' => e = .returned (.bool true) ∧ Below w.heap.size w w' := by
  have m10 : m ≤ 10 := by omega
  generalize revB s = rs at *
  have HA := Lib.hid hA; have HT := Lib.hid hT; have HO := Lib.hid hO; have HX := Lib.hid hX; have HAl := Lib.hid hAl; have HAx := Lib.hid hAx
  have h1 : (if (30 : Int) < (n : Int) then (30 : Int) else (n : Int)) = (k : Int) := by split <;> omega
  have h2 : (if (10 : Int) < (t.size : Int) then (10 : Int) else (t.size : Int)) = (m : Int) := by split <;> omega
  have e1 : min (n : Int) 30 = (k : Int) := by omega
  have e2 : min (t.size : Int) 10 = (m : Int) := by omega
  have H1 := Lib.hid h1
  have H2 := Lib.hid h2
  have k0 : (0 : Int) ≤ (k : Int) := by omega
  have k1 : (k : Int) ≤ (cap : Int) := by omega
  have m0 : (0 : Int) ≤ (m : Int) := by omega
  have m1 : (m : Int) ≤ (t.size : Int) := by omega
  clear hA hT hO hX hAl hAx h1 h2 hk hm
  go_enter Tryd.func4, Tryd.ntmps4
  go_wp2_with fail
  refine (HA.out _ HT.out).mono ?_
  rintro e w1 ⟨rfl, hb⟩
  have HB1 := Lib.hid hb
  clear hb HA HT
  go_wp2_with fail
  go_region_held_law (fun _ => True) (exact trivial) (first | (refine wp_min7 _ _ rfl (n : Int) 30 (k : Int) rfl rfl H1.out ?_) | (refine wp_min7 _ _ rfl (t.size : Int) 10 (m : Int) rfl rfl H2.out ?_))
  all_goals
    have HB2 := Lib.hid HB1.out.drew
    clear HB1
    generalize w1.drew = w2 at *
    go_wp2_with fail
    refine (HO.out _ HB2.out).mono ?_
    rintro e w3 ⟨g, c, rfl, hrd, hb⟩
    have HB3 := Lib.hid (HB2.out.trans (hb.mono HB2.out.size))
    have HR3 := Lib.hid hrd
    clear hb hrd HO HB2
    go_wp2_with fail
    refine (HAl.out _ HB3.out).mono ?_
    rintro e w4 ⟨v, rfl, hg, hb⟩
    have HB4 := Lib.hid (HB3.out.trans (hb.mono HB3.out.size))
    have HR4 := Lib.hid (HR3.out.below hb)
    obtain ⟨ga, ca, ra, rfl, hga, hga1, hga2⟩ := rdG.of hg
    have HGA := Lib.hid (show ga < w4.heap.size ∧ (∀ i, i ≤ m → w4.cell? ⟨ga, i, none⟩ = some (.slice (some ⟨ra i, 0, none⟩) (m + 1) (m + 1))) ∧ (∀ i, i ≤ m → ra i < w4.heap.size ∧ ∀ j, j ≤ m → w4.cell? ⟨ra i, j, none⟩ = some (.bool (F i j))) from ⟨hga, hga1, hga2⟩)
    clear hb hg hga hga1 hga2 HAl HB3 HR3
    go_wp2_with fail
    refine (HX.out _).mono ?_
    rintro e w5 ⟨rfl, hb⟩
    have HB5 := Lib.hid (HB4.out.trans (hb.mono HB4.out.size))
    have HR5 := Lib.hid (HR4.out.below hb)
    have HQ5 := Lib.hid hb
    clear hb HX HB4 HR4
    obtain ⟨G, hFG, hAx⟩ := HAx.out g c
    have HFG := Lib.hid hFG; have HAX := Lib.hid hAx
    clear hFG hAx HAx
    go_wp2_with fail
    refine (HAX.out _ HR5.out).mono ?_
    rintro e W ⟨v, rfl, hg, hb⟩
    have HW := Lib.hid (HB5.out.trans (hb.mono HB5.out.size))
    have HQW := Lib.hid (HQ5.out.trans (hb.mono HQ5.out.size))
    obtain ⟨gx, cx, rx, rfl, hgx, hgx1, hgx2⟩ := rdG.of hg
    have HK : Hid (∀ w', Below W.heap.size W w' → ∀ i j i' j', i ≤ m → j ≤ m → i' ≤ m → j' ≤ m → w'.cell? ⟨ga, i, none⟩ = some (.slice (some ⟨ra i, 0, none⟩) (m + 1) (m + 1)) ∧ w'.cell? ⟨ra i, j, none⟩ = some (.bool (F i j)) ∧
        w'.cell? ⟨gx, j', none⟩ = some (.slice (some ⟨rx j', 0, none⟩) (m + 1) (m + 1)) ∧ w'.cell? ⟨rx j', i', none⟩ = some (.bool (G j' i'))) := Lib.hid fun w' hB i j i' j' hi hj hi' hj' => by
      have hB0 : Below w4.heap.size w4 w' := HQW.out.trans (hB.mono HQW.out.size)
      obtain ⟨u1, u2, u3⟩ := HGA.out
      refine ⟨?_, ?_, ?_, ?_⟩
      · rw [hB0.cell (p := ⟨ga, i, none⟩) u1]; exact u2 i hi
      · rw [hB0.cell (p := ⟨ra i, j, none⟩) (u3 i hi).1]; exact (u3 i hi).2 j hj
      · rw [hB.cell (p := ⟨gx, j', none⟩) hgx]; exact hgx1 j' hj'
      · rw [hB.cell (p := ⟨rx j', i', none⟩) (hgx2 j' hj').1]; exact (hgx2 j' hj').2 i' hi'
    clear hb hg hgx hgx1 hgx2 HGA HAX HB5 HR5 HQ5 HQW H1 H2
    go_wp2_with fail
    go_loopw [10] (fun iv wr => ∃ i : Nat, i ≤ m + 1 ∧ iv = .int .i64 i ∧ Below W.heap.size W wr) (fun iv _ => m + 1 - (intOf iv).toNat)
    case atStart => exact ⟨0, Nat.zero_le _, rfl, Below.refl _ _⟩
    case round =>
      obtain ⟨i, hi, rfl, hB⟩ := hrel
      have HB := Lib.hid hB
      clear hB
      by_cases hlt : i ≤ m
      · have d1 : decide ((i : Int) ≤ (m : Int)) = true := decide_eq_true (by omega)
        have i0 : (0 : Int) ≤ (i : Int) := by omega
        have i1 : (i : Int) < (m : Int) + 1 := by omega
        go_wp2_with fail
        go_loopw [11] (fun jv wx => ∃ j : Nat, i ≤ j ∧ j ≤ m + 1 ∧ jv = .int .i64 j ∧ Below W.heap.size W wx) (fun jv _ => m + 1 - (intOf jv).toNat)
        case atStart => exact ⟨i, Nat.le_refl _, hi, rfl, HB.out⟩
        case round =>
          obtain ⟨j, hij, hj, rfl, hB⟩ := hrel
          have HB' := Lib.hid hB
          clear hB
          by_cases hjm : j ≤ m
          · have d2 : decide ((j : Int) ≤ (m : Int)) = true := decide_eq_true (by omega)
            have j0 : (0 : Int) ≤ (j : Int) := by omega
            have j1 : (j : Int) < (m : Int) + 1 := by omega
            have hFG := HFG.out i j hij hjm
            obtain ⟨i', hi'⟩ : ∃ i', m - i = i' := ⟨_, rfl⟩
            obtain ⟨j', hj'⟩ : ∃ j', m - j = j' := ⟨_, rfl⟩
            rw [hi', hj'] at hFG
            obtain ⟨g1, g2, g3, g4⟩ := HK.out _ HB'.out i j i' j' hlt hjm (by omega) (by omega)
            rw [← hFG] at g4
            have w1 : IntKind.i64.wrap ((m : Int) - (j : Int)) = (j' : Int) := by rw [IntKind.wrap_i64]; omega
            have w2 : IntKind.i64.wrap ((m : Int) - (i : Int)) = (i' : Int) := by rw [IntKind.wrap_i64]; omega
            have i0' : (0 : Int) ≤ (i' : Int) := by omega
            have i1' : (i' : Int) < (m : Int) + 1 := by omega
            have j0' : (0 : Int) ≤ (j' : Int) := by omega
            have j1' : (j' : Int) < (m : Int) + 1 := by omega
            have HIJ : Hid (i ≤ j ∧ j ≤ m) := Lib.hid ⟨hij, hjm⟩
            generalize F i j = fb at *
            clear hFG hi' hj' hij hjm hlt hi hj
            go_wp2_with fail
            go_quiet (fail)
            have HB9 := Lib.hid (below_drewN nq HB'.out)
            obtain ⟨hij, hjm⟩ := HIJ.out
            go_wp2_with fail
            go_roundw
            case rel => exact ⟨j + 1, by omega, by omega, by go_num, HB9.out⟩
            case measure => simp [intOf]; omega
          · have d2 : decide ((j : Int) ≤ (m : Int)) = false := decide_eq_false (by omega)
            go_wp2_with fail
            go_roundw
            case rel => exact ⟨i + 1, by omega, by go_num, HB'.out⟩
            case measure => simp [intOf]; omega
      · have d1 : decide ((i : Int) ≤ (m : Int)) = false := decide_eq_false (by omega)
        have HF := Lib.hid (HW.out.trans (HB.out.mono HW.out.size))
        go_wp2_with fail
        go_returns
        exact ⟨rfl, HF.out⟩

/-- The law, over whatever list comes in. -/
theorem fits_some (hTof : TofC) (hTtx : TtxC) (b off n cap : Nat) (N : Nat → Nd) (hpos : 0 < n) (hcap : n ≤ cap) (hok : ∀ j, j < n → okW (N j)) (t : ByteArray) (w : World) (hT : Tabbed w) (hr : rdN w b off n N) :
    Calls Tryd.prog 4 #[.slice (some ⟨b, off, none⟩) n cap, .string t] w fun e w' => e = .returned (.bool true) ∧ Below w.heap.size w w' := by
  have hr' := hr.take (min n 30) (Nat.min_le_left n 30)
  have hw : ∀ j, j < min n 30 → okW (N j) := fun j hj => hok j (by omega)
  have hO := fun w' (hB : Below w.heap.size w w') => hTof (some ⟨b, off, none⟩) (min n 30) cap N w' (.inr ⟨b, off, rfl, hw⟩) (fun b' off' h => by cases h; exact hr'.below hB)
  have hR := fun w' (hB : Below w.heap.size w w') => rright_some b off (min n 30) cap N (by omega) (by omega) w' (hr'.below hB)
  by_cases ht : tree N (min n 30)
  · have hsz : (t.extract 0 (min t.size 10)).size = min t.size 10 := by rw [ByteArray.size_extract]; omega
    have hl : (trnL N (min n 30)).length = min n 30 := trnL_len ht
    have hp := (tree_iff.1 ht).1
    obtain ⟨F, hF, hc⟩ := all_is b off (min n 30) cap N ht hw (t.extract 0 (min t.size 10)) (min t.size 10) hsz (by omega)
    refine fits_tree (some ⟨b, off, none⟩) n cap (min n 30) rfl hcap t (min t.size 10) rfl _ rfl hsz w hT (nfn (trnL N (min n 30))) F (awake8_any hTof hTtx) (fun w' hB => ?_) (fun w' => hTtx _ w' (by omega)) (fun w' hB => hc w' (hr'.below hB)) (fun g c => ?_)
    · refine (hO w' hB).mono ?_
      rintro e w'' ⟨h1, -⟩
      obtain ⟨v, rfl, ho, hb⟩ := h1 ht
      obtain ⟨g, c, hv, hrd, -⟩ := nds_own8 ho (by omega)
      rw [hl] at hv hrd
      subst hv
      exact ⟨g, c, rfl, hrd, hb⟩
    · obtain ⟨G, hG, hc'⟩ := all_is g 0 (min n 30) c (nfn (trnL N (min n 30))) (trnL_tree ht) (fun j hj => okW_trnL ht hw j hj) (revB (t.extract 0 (min t.size 10))) (min t.size 10) (by rw [revB_size]; exact hsz) (by omega)
      refine ⟨G, fun i j hij hj => ?_, hc'⟩
      rw [hF i j hij hj, hG (min t.size 10 - j) (min t.size 10 - i) (by omega) (by omega), trnL_trT ht]
      exact mir_fit (fun i hi => revB_tx _ _ hsz i hi) _ (trT_root ht).2.1 i j hij hj
  · exact fits_not _ n cap (min n 30) rfl hcap t (min t.size 10) rfl w hT N ht (awake8_any hTof hTtx) hO hR
theorem fits_zero (hTof : TofC) (hTtx : TtxC) (p : Option Addr) (cap : Nat) (t : ByteArray) (w : World) (hT : Tabbed w) :
    Calls Tryd.prog 4 #[.slice p 0 cap, .string t] w fun e w' => e = .returned (.bool true) ∧ Below w.heap.size w w' :=
  fits_not p 0 cap 0 rfl (Nat.zero_le _) t (min t.size 10) rfl w hT N8 (fun ht => by have := (tree_iff.1 ht).1; omega) (awake8_any hTof hTtx) (fun w' _ => hTof _ _ _ N8 w' (.inl rfl) (fun _ _ _ j hj => absurd hj (Nat.not_lt_zero _)))
    (fun w' _ => rright_zero p cap N8 w')
end Go.Proofs.YtjbmkbgoahppfaaDoor
