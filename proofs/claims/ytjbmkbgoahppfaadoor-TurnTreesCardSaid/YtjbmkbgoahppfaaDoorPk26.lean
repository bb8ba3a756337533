/-
  The walk of the law TurnTrees.
-/
import Derived.Test.YtjbmkbgoahppfaaDoorPk20
import Derived.Test.YtjbmkbgoahppfaaDoorPk21
import Derived.Test.YtjbmkbgoahppfaaDoorPk22
import Derived.Test.YtjbmkbgoahppfaaDoorPk25
import Derived.Deep.RegionHeldLaw
namespace Go.Proofs.YtjbmkbgoahppfaaDoor
open Go.RowKit

set_option maxRecDepth 100000 in
set_option maxHeartbeats 8000000 in
/-- The law, where the list that counts is a tree. -/
theorem trees_tree (p : Option Addr) (n cap k : Nat) (hk : k = min n 60) (hcap : n ≤ cap) (t : ByteArray) (m : Nat) (hm : m = min t.size 60) (s : ByteArray) (hs : t.extract 0 m = s) (w : World) (hT : Tabbed w) (N : Nat → Nd) (ht : tree N k)
    (hA : ∀ w, Tabbed w → Calls Tryd.prog 6 #[] w fun e w' => e = .returned (.bool true) ∧ Below w.heap.size w w')
    (hO : ∀ w', Below w.heap.size w w' → Calls Tryd.prog 7 #[.slice p k cap] w' (tofPost N k w'))
    (hX : ∀ w', Calls Tryd.prog 8 #[.string s] w' fun e w'' => e = .returned (.string (revB s)) ∧ Below w'.heap.size w' w'')
    (hXr : ∀ w', Calls Tryd.prog 9 #[.string s] w' fun e w'' => e = .returned (.string (revB s)) ∧ w'' = w')
    (hR : ∀ w', Below w.heap.size w w' → Calls Tryd.prog 10 #[.slice p k cap] w' fun e w'' => e = .returned (.bool (decide (tree N k))) ∧ Below w'.heap.size w' w'')
    (hRO : ∀ w', Below w.heap.size w w' → Calls Tryd.prog 12 #[.slice p k cap] w' (ndsPost (trnL N k) w')) :
    Calls Tryd.prog 3 #[.slice p n cap, .string t] w fun e w' => e = .returned (.bool true) ∧ Below w.heap.size w w' := by
  have hl : (trnL N k).length = k := trnL_len ht
  have hpos : 0 < k := (tree_iff.1 ht).1
  rw [decide_eq_true ht] at hR
  have hO' : ∀ w', Below w.heap.size w w' → Calls Tryd.prog 7 #[.slice p k cap] w' fun e w'' => ∃ g c, e = .returned (.tuple #[.slice (some ⟨g, 0, none⟩) k c, .int .i64 0]) ∧ rdN w'' g 0 k (nfn (trnL N k)) ∧ Below w'.heap.size w' w'' := fun w' hB => by
    refine (hO w' hB).mono ?_
    rintro e w'' ⟨h1, -⟩
    obtain ⟨v, rfl, ho, hb⟩ := h1 ht
    obtain ⟨g, c, hv, hrd, -⟩ := nds_own8 ho (by omega)
    rw [hl] at hv hrd
    subst hv
    exact ⟨g, c, rfl, hrd, hb⟩
  have hRO' : ∀ w', Below w.heap.size w w' → Calls Tryd.prog 12 #[.slice p k cap] w' fun e w'' => ∃ g c, e = .returned (.slice (some ⟨g, 0, none⟩) k c) ∧ rdN w'' g 0 k (nfn (trnL N k)) ∧ Below w'.heap.size w' w'' := fun w' hB => by
    refine (hRO w' hB).mono ?_
    rintro e w'' ⟨v, rfl, ho, hb⟩
    obtain ⟨g, c, hv, hrd, -⟩ := nds_own8 ho (by omega)
    rw [hl] at hv hrd
    subst hv
    exact ⟨g, c, rfl, hrd, hb⟩
  generalize nfn (trnL N k) = M at *
  generalize revB s = r at *
  have HA := Lib.hid hA; have HT := Lib.hid hT; have HO := Lib.hid hO'; have HX := Lib.hid hX; have HXr := Lib.hid hXr; have HR := Lib.hid hR; have HRO := Lib.hid hRO'
  have h1 : (if (60 : Int) < (n : Int) then (60 : Int) else (n : Int)) = (k : Int) := by split <;> omega
  have h2 : (if (60 : Int) < (t.size : Int) then (60 : Int) else (t.size : Int)) = (m : Int) := by split <;> omega
  have e1 : min (n : Int) 60 = (k : Int) := by omega
  have e2 : min (t.size : Int) 60 = (m : Int) := by omega
  have H1 := Lib.hid h1
  have H2 := Lib.hid h2
  have k0 : (0 : Int) ≤ (k : Int) := by omega
  have k1 : (k : Int) ≤ (cap : Int) := by omega
  have m0 : (0 : Int) ≤ (m : Int) := by omega
  have m1 : (m : Int) ≤ (t.size : Int) := by omega
  have HK : Hid (k ≤ 1000) := Lib.hid (by omega)
  clear hA hT hO hO' hX hXr hR hRO hRO' h1 h2 hk hm hl ht hpos
  go_enter Tryd.func3, Tryd.ntmps3
  go_wp2_with fail
  refine (HA.out _ HT.out).mono ?_
  rintro e w1 ⟨rfl, hb⟩
  have HB1 := Lib.hid hb
  clear hb HA HT
  go_wp2_with fail
  go_region_held_law (fun _ => True) (exact trivial) (first | (refine wp_min7 _ _ rfl (n : Int) 60 (k : Int) rfl rfl H1.out ?_) | (refine wp_min7 _ _ rfl (t.size : Int) 60 (m : Int) rfl rfl H2.out ?_))
  all_goals
    have HB2 := Lib.hid HB1.out.drew
    clear HB1
    generalize w1.drew = w2 at *
    go_wp2_with fail
    refine (HO.out _ HB2.out).mono ?_
    rintro e w3 ⟨g, c, rfl, hrd, hb⟩
    have HB3 := Lib.hid (HB2.out.trans (hb.mono HB2.out.size))
    have HRD3 := Lib.hid hrd
    clear hb hrd HO HB2
    go_wp2_with fail
    refine (HX.out _).mono ?_
    rintro e w4 ⟨rfl, hb⟩
    have HB4 := Lib.hid (HB3.out.trans (hb.mono HB3.out.size))
    have HRD4 := Lib.hid (HRD3.out.below hb)
    clear hb HX HB3 HRD3
    go_wp2_with fail
    refine (HXr.out _).mono ?_
    rintro e w5 ⟨rfl, rfl⟩
    clear HXr
    go_wp2_with fail
    refine (HR.out _ HB4.out).mono ?_
    rintro e w6 ⟨rfl, hb⟩
    have HB6 := Lib.hid (HB4.out.trans (hb.mono HB4.out.size))
    have HRD6 := Lib.hid (HRD4.out.below hb)
    clear hb HR HB4 HRD4
    go_wp2_with fail
    refine (HRO.out _ HB6.out).mono ?_
    rintro e w7 ⟨g2, c2, rfl, hrd2, hb⟩
    have HB7 := Lib.hid (HB6.out.trans (hb.mono HB6.out.size))
    have HSM := Lib.hid (same_is M M k (fun _ _ => rfl) HK.out g 0 c g2 0 c2 w7 (HRD6.out.below hb) hrd2)
    clear hb hrd2 HRO HB6 HRD6
    go_wp2_with fail
    refine HSM.out.mono ?_
    rintro e w8 ⟨rfl, q, rfl⟩
    have HB8 := Lib.hid (below_drewN q HB7.out)
    go_wp2_with fail
    go_returns
    exact ⟨rfl, HB8.out⟩

set_option maxRecDepth 100000 in
set_option maxHeartbeats 8000000 in
/-- The law, where the list that counts is no tree. -/
theorem trees_not (p : Option Addr) (n cap k : Nat) (hk : k = min n 60) (hcap : n ≤ cap) (t : ByteArray) (m : Nat) (hm : m = min t.size 60) (s : ByteArray) (hs : t.extract 0 m = s) (w : World) (hT : Tabbed w) (N : Nat → Nd) (ht : ¬ tree N k)
    (hA : ∀ w, Tabbed w → Calls Tryd.prog 6 #[] w fun e w' => e = .returned (.bool true) ∧ Below w.heap.size w w')
    (hO : ∀ w', Below w.heap.size w w' → Calls Tryd.prog 7 #[.slice p k cap] w' (tofPost N k w'))
    (hX : ∀ w', Calls Tryd.prog 8 #[.string s] w' fun e w'' => e = .returned (.string (revB s)) ∧ Below w'.heap.size w' w'')
    (hXr : ∀ w', Calls Tryd.prog 9 #[.string s] w' fun e w'' => e = .returned (.string (revB s)) ∧ w'' = w')
    (hR : ∀ w', Below w.heap.size w w' → Calls Tryd.prog 10 #[.slice p k cap] w' fun e w'' => e = .returned (.bool (decide (tree N k))) ∧ Below w'.heap.size w' w'') :
    Calls Tryd.prog 3 #[.slice p n cap, .string t] w fun e w' => e = .returned (.bool true) ∧ Below w.heap.size w w' := by
  rw [decide_eq_false ht] at hR
  have hO' : ∀ w', Below w.heap.size w w' → Calls Tryd.prog 7 #[.slice p k cap] w' fun e w'' => ∃ g c, e = .returned (.tuple #[.slice g 0 c, .int .i64 3]) ∧ Below w'.heap.size w' w'' := fun w' hB => by
    refine (hO w' hB).mono ?_
    rintro e w'' ⟨-, h1⟩
    exact h1 ht
  generalize revB s = r at *
  have HA := Lib.hid hA; have HT := Lib.hid hT; have HO := Lib.hid hO'; have HX := Lib.hid hX; have HXr := Lib.hid hXr; have HR := Lib.hid hR
  have h1 : (if (60 : Int) < (n : Int) then (60 : Int) else (n : Int)) = (k : Int) := by split <;> omega
  have h2 : (if (60 : Int) < (t.size : Int) then (60 : Int) else (t.size : Int)) = (m : Int) := by split <;> omega
  have e1 : min (n : Int) 60 = (k : Int) := by omega
  have e2 : min (t.size : Int) 60 = (m : Int) := by omega
  have H1 := Lib.hid h1
  have H2 := Lib.hid h2
  have k0 : (0 : Int) ≤ (k : Int) := by omega
  have k1 : (k : Int) ≤ (cap : Int) := by omega
  have m0 : (0 : Int) ≤ (m : Int) := by omega
  have m1 : (m : Int) ≤ (t.size : Int) := by omega
  clear hA hT hO hO' hX hXr hR h1 h2 hk hm ht
  go_enter Tryd.func3, Tryd.ntmps3
  go_wp2_with fail
  refine (HA.out _ HT.out).mono ?_
  rintro e w1 ⟨rfl, hb⟩
  have HB1 := Lib.hid hb
  clear hb HA HT
  go_wp2_with fail
  go_region_held_law (fun _ => True) (exact trivial) (first | (refine wp_min7 _ _ rfl (n : Int) 60 (k : Int) rfl rfl H1.out ?_) | (refine wp_min7 _ _ rfl (t.size : Int) 60 (m : Int) rfl rfl H2.out ?_))
  all_goals
    have HB2 := Lib.hid HB1.out.drew
    clear HB1
    generalize w1.drew = w2 at *
    go_wp2_with fail
    refine (HO.out _ HB2.out).mono ?_
    rintro e w3 ⟨g, c, rfl, hb⟩
    have HB3 := Lib.hid (HB2.out.trans (hb.mono HB2.out.size))
    clear hb HO HB2
    go_wp2_with fail
    refine (HX.out _).mono ?_
    rintro e w4 ⟨rfl, hb⟩
    have HB4 := Lib.hid (HB3.out.trans (hb.mono HB3.out.size))
    clear hb HX HB3
    go_wp2_with fail
    refine (HXr.out _).mono ?_
    rintro e w5 ⟨rfl, rfl⟩
    clear HXr
    go_wp2_with fail
    refine (HR.out _ HB4.out).mono ?_
    rintro e w6 ⟨rfl, hb⟩
    have HB6 := Lib.hid (HB4.out.trans (hb.mono HB4.out.size))
    clear hb HR HB4
    go_wp2_with fail
    go_returns
    exact ⟨rfl, HB6.out⟩

/-- The law, over whatever list comes in. -/
theorem trees_some (hTof : TofC) (hTtx : TtxC) (b off n cap : Nat) (N : Nat → Nd) (hpos : 0 < n) (hcap : n ≤ cap) (hok : ∀ j, j < n → okW (N j)) (t : ByteArray) (w : World) (hT : Tabbed w) (hr : rdN w b off n N) :
    Calls Tryd.prog 3 #[.slice (some ⟨b, off, none⟩) n cap, .string t] w fun e w' => e = .returned (.bool true) ∧ Below w.heap.size w w' := by
  have hr' := hr.take (min n 60) (Nat.min_le_left n 60)
  have hw : ∀ j, j < min n 60 → okW (N j) := fun j hj => hok j (by omega)
  have hsz : (t.extract 0 (min t.size 60)).size ≤ 1000 := by rw [ByteArray.size_extract]; omega
  have hO := fun w' (hB : Below w.heap.size w w') => hTof (some ⟨b, off, none⟩) (min n 60) cap N w' (.inr ⟨b, off, rfl, hw⟩) (fun b' off' h => by cases h; exact hr'.below hB)
  have hR := fun w' (hB : Below w.heap.size w w') => rright_some b off (min n 60) cap N (by omega) (by omega) w' (hr'.below hB)
  by_cases ht : tree N (min n 60)
  · exact trees_tree _ n cap (min n 60) rfl hcap t (min t.size 60) rfl _ rfl w hT N ht (awake8_any hTof hTtx) hO (fun w' => hTtx _ w' hsz) (rtx8_is _ hsz) hR (fun w' hB => rof8_is b off (min n 60) cap N ht w' (hr'.below hB))
  · exact trees_not _ n cap (min n 60) rfl hcap t (min t.size 60) rfl _ rfl w hT N ht (awake8_any hTof hTtx) hO (fun w' => hTtx _ w' hsz) (rtx8_is _ hsz) hR
theorem trees_zero (hTof : TofC) (hTtx : TtxC) (p : Option Addr) (cap : Nat) (t : ByteArray) (w : World) (hT : Tabbed w) :
    Calls Tryd.prog 3 #[.slice p 0 cap, .string t] w fun e w' => e = .returned (.bool true) ∧ Below w.heap.size w w' := by
  have hsz : (t.extract 0 (min t.size 60)).size ≤ 1000 := by rw [ByteArray.size_extract]; omega
  exact trees_not p 0 cap 0 rfl (Nat.zero_le _) t (min t.size 60) rfl _ rfl w hT N8 (fun ht => by have := (tree_iff.1 ht).1; omega) (awake8_any hTof hTtx) (fun w' _ => hTof _ _ _ N8 w' (.inl rfl) (fun _ _ _ j hj => absurd hj (Nat.not_lt_zero _)))
    (fun w' => hTtx _ w' hsz) (rtx8_is _ hsz) (fun w' _ => rright_zero p cap N8 w')
end Go.Proofs.YtjbmkbgoahppfaaDoor
