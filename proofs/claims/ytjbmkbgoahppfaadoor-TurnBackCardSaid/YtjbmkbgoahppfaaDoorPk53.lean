/-
  The walks of facts' Size and Of.
  The walk of the law TurnBack.
-/
import Derived.Test.YtjbmkbgoahppfaaDoorPk51
import Derived.Test.YtjbmkbgoahppfaaDoorPk52
import Derived.Test.YtjbmkbgoahppfaaDoorPk20
import Derived.Deep.RegionHeldLaw
namespace Go.Proofs.YtjbmkbgoahppfaaDoor
open Go.RowKit

theorem csize_not (p : Option Addr) (n cap : Nat) (N : Nat → Nd) (ht : ¬ tree N n) (w : World) (hR : Calls Tryd.prog 17 #[.slice p n cap] w fun e w' => e = .returned (.bool (decide (tree N n))) ∧ Below w.heap.size w w') :
    Calls Tryd.prog 15 #[.slice p n cap] w (szPost (-1) w) := by
  rw [decide_eq_false ht] at hR
  have HR := Lib.hid hR
  clear hR ht
  unfold szPost
  go_enter Tryd.func15, Tryd.ntmps15
  go_wp2_with fail
  refine HR.out.mono ?_
  rintro e w1 ⟨rfl, hb⟩
  have HB := Lib.hid hb
  clear hb
  go_wp2_with fail
  go_returns
  exact ⟨rfl, HB.out⟩
theorem csize_tree (b off n cap : Nat) (N : Nat → Nd) (ht : tree N n) (w : World) (hr : rdN w b off n N) :
    Calls Tryd.prog 15 #[.slice (some ⟨b, off, none⟩) n cap] w (szPost (szF (trT N (n - 1))) w) := by
  have hR := right_some b off n cap N ht.1 w hr
  rw [decide_eq_true ht] at hR
  have HR := Lib.hid hR
  have HF := Lib.hid (fun w hr => fold_i b off n cap N ht w hr)
  have HRD := Lib.hid hr
  clear hR hr ht
  unfold szPost at HF ⊢
  go_enter Tryd.func15, Tryd.ntmps15
  go_wp2_with fail
  refine HR.out.mono ?_
  rintro e w1 ⟨rfl, hb⟩
  have HB := Lib.hid hb
  have HRD1 := Lib.hid (HRD.out.below hb)
  clear hb HR HRD
  go_wp2_with fail
  refine (HF.out _ HRD1.out).mono ?_
  rintro e w2 ⟨rfl, hb⟩
  have HB2 := Lib.hid (HB.out.trans (hb.mono HB.out.size))
  clear hb
  go_wp2_with fail
  go_returns
  exact ⟨rfl, HB2.out⟩
/-- What Size tells. -/
def sizeF (N : Nat → Nd) (n : Nat) : Int := if tree N n then szF (trT N (n - 1)) else -1
theorem csize_any (p : Option Addr) (n cap : Nat) (N : Nat → Nd) (h : n = 0 ∨ ∃ b off, p = some ⟨b, off, none⟩) (w : World) (hr : ∀ b off, p = some ⟨b, off, none⟩ → rdN w b off n N) :
    Calls Tryd.prog 15 #[.slice p n cap] w (szPost (sizeF N n) w) := by
  by_cases ht : tree N n
  · rw [show sizeF N n = szF (trT N (n - 1)) from if_pos ht]
    rcases h with rfl | ⟨b, off, rfl⟩
    · have := ht.2.2; simp [dep] at this
    · exact csize_tree b off n cap N ht w (hr b off rfl)
  · rw [show sizeF N n = -1 from if_neg ht]
    refine csize_not p n cap N ht w ?_
    rcases Nat.lt_or_ge 512 n with hn | hn
    · exact right_long p n cap N hn w
    · rcases h with rfl | ⟨b, off, rfl⟩
      · exact right_zero p cap N w
      · exact right_some b off n cap N hn w (hr b off rfl)

/-- What Of tells. -/
def ofPost7 (a : Fx) (e : Bool) (c : Int) (w : World) (x : Ending) (w' : World) : Prop := x = .returned (.tuple #[fxv a e, .int .i64 c]) ∧ Below w.heap.size w w'
set_option maxHeartbeats 1000000 in
theorem cof_not (p : Option Addr) (n cap : Nat) (N : Nat → Nd) (ht : ¬ tree N n) (w : World) (hR : ∀ w, (∀ b off, p = some ⟨b, off, none⟩ → rdN w b off n N) → Calls Tryd.prog 17 #[.slice p n cap] w fun e w' => e = .returned (.bool (decide (tree N n))) ∧ Below w.heap.size w w')
    (hr : ∀ b off, p = some ⟨b, off, none⟩ → rdN w b off n N) :
    Calls Tryd.prog 14 #[.slice p n cap] w (ofPost7 fx0 false 3 w) := by
  rw [decide_eq_false ht] at hR
  have HE : Hid (fxv fx0 false = fxr false 0 0 0 0 0 0 false) := Lib.hid (fxv_zero false)
  have HA : Hid (Below w.heap.size w (w.alloc (.cells #[.bool false, .int .i64 0, .int .i64 0, .int .u64 0, .int .u64 0, .int .u64 0, .int .u64 0, .bool false] 40))) := Lib.hid ((Below.refl _ _).alloc (Nat.le_refl _) _)
  have HR := Lib.hid (hR _ fun b off h => (hr b off h).below HA.out)
  have HEC : Hid (isFx (w.alloc (.cells #[.bool false, .int .i64 0, .int .i64 0, .int .u64 0, .int .u64 0, .int .u64 0, .int .u64 0, .bool false] 40)) w.heap.size false 0 0 0 0 0 0 false) := Lib.hid (isFx.new w false 0 0 0 0 0 0 false)
  clear hR hr ht
  unfold ofPost7
  go_enter Tryd.func14, Tryd.ntmps14
  go_wp2_with fail
  refine HR.out.mono ?_
  rintro e w1 ⟨rfl, hb⟩
  have e1 := HEC.out.below hb HEC.out.lt
  have HB := Lib.hid (HA.out.trans (hb.mono HA.out.size))
  obtain ⟨c0, c1, c2, c3, c4, c5, c6, c7⟩ := e1.cells
  obtain ⟨f0, f1, f2, f3, f4, f5, f6, f7⟩ := e1.free
  have HS := Lib.hid (below_st8 HB.out (Nat.le_refl _) false 0 0 0 0 0 0 false)
  have Z := e1.stored false 0 0 0 0 0 0 false
  unfold set87 at Z
  have Z := Lib.hid Z.cells
  clear hb HR HEC HA e1 HB
  go_wp2_with fail
  refine bodyPost_ret (v := .tuple #[fxr false 0 0 0 0 0 0 false, .int .i64 3]) ?h rfl ⟨by rw [HE.out], HS.out⟩
  case h =>
    have Z0 := Z.out
    generalize ((((((((w1.setCell ⟨w.heap.size, 0, none⟩ (.bool false)).setCell ⟨w.heap.size, 1, none⟩ (.int .i64 0)).setCell ⟨w.heap.size, 2, none⟩ (.int .i64 0)).setCell ⟨w.heap.size, 3, none⟩ (.int .u64 0)).setCell ⟨w.heap.size, 4, none⟩ (.int .u64 0)).setCell ⟨w.heap.size, 5, none⟩ (.int .u64 0)).setCell ⟨w.heap.size, 6, none⟩ (.int .u64 0)).setCell ⟨w.heap.size, 7, none⟩ (.bool false)) = W9 at Z0 ⊢
    obtain ⟨z0, z1, z2, z3, z4, z5, z6, z7⟩ := Z0
    simp [results, Tryd.results14, go_sem, z0, z1, z2, z3, z4, z5, z6, z7]
set_option maxHeartbeats 1000000 in
theorem cof_tree (b off n cap : Nat) (N : Nat → Nd) (ht : tree N n) (hw : ∀ j, j < n → okW (N j)) (w : World) (hr : rdN w b off n N) :
    Calls Tryd.prog 14 #[.slice (some ⟨b, off, none⟩) n cap] w (ofPost7 (fxT (trT N (n - 1))) (enT (trT N (n - 1))) 0 w) := by
  have HA : Hid (Below w.heap.size w (w.alloc (.cells #[.bool false, .int .i64 0, .int .i64 0, .int .u64 0, .int .u64 0, .int .u64 0, .int .u64 0, .bool false] 40))) := Lib.hid ((Below.refl _ _).alloc (Nat.le_refl _) _)
  have HRD := Lib.hid (hr.below HA.out)
  have hR := right_some b off n cap N ht.1 _ HRD.out
  rw [decide_eq_true ht] at hR
  have HR := Lib.hid hR
  have HF := Lib.hid (fun w hr => fold_f b off n cap N ht hw w hr)
  have HEC : Hid (isFx (w.alloc (.cells #[.bool false, .int .i64 0, .int .i64 0, .int .u64 0, .int .u64 0, .int .u64 0, .int .u64 0, .bool false] 40)) w.heap.size false 0 0 0 0 0 0 false) := Lib.hid (isFx.new w false 0 0 0 0 0 0 false)
  have HE : Hid (fxv (fxT (trT N (n - 1))) (enT (trT N (n - 1))) = fxr (fxT (trT N (n - 1))).nv (fxT (trT N (n - 1))).ls (fxT (trT N (n - 1))).ms (wd (fxT (trT N (n - 1))).fi 0 : Int) (wd (fxT (trT N (n - 1))).fi 1 : Int) (wd (fxT (trT N (n - 1))).fi 2 : Int) (wd (fxT (trT N (n - 1))).fi 3 : Int) (enT (trT N (n - 1)))) := Lib.hid rfl
  clear hR hr ht hw
  unfold ofPost7
  unfold fxPost at HF
  generalize fxv (fxT (trT N (n - 1))) (enT (trT N (n - 1))) = V at *
  generalize (fxT (trT N (n - 1))).nv = xn at *
  generalize (fxT (trT N (n - 1))).ls = xl at *
  generalize (fxT (trT N (n - 1))).ms = xm at *
  generalize (wd (fxT (trT N (n - 1))).fi 0 : Int) = x0 at *
  generalize (wd (fxT (trT N (n - 1))).fi 1 : Int) = x1 at *
  generalize (wd (fxT (trT N (n - 1))).fi 2 : Int) = x2 at *
  generalize (wd (fxT (trT N (n - 1))).fi 3 : Int) = x3 at *
  generalize enT (trT N (n - 1)) = xe at *
  obtain rfl : V = fxr xn xl xm x0 x1 x2 x3 xe := HE.out
  clear HE
  unfold fxr at HF ⊢
  go_enter Tryd.func14, Tryd.ntmps14
  go_wp2_with fail
  refine HR.out.mono ?_
  rintro e w1 ⟨rfl, hb⟩
  have E1 := Lib.hid (HEC.out.below hb HEC.out.lt)
  have HB := Lib.hid (HA.out.trans (hb.mono HA.out.size))
  have HRD1 := Lib.hid (HRD.out.below hb)
  clear hb HR HEC HA HRD
  go_wp2_with fail
  refine (HF.out _ HRD1.out).mono ?_
  rintro e w2 ⟨rfl, hb⟩
  have e1 := E1.out.below hb E1.out.lt
  have HB2 := Lib.hid (HB.out.trans (hb.mono HB.out.size))
  obtain ⟨c0, c1, c2, c3, c4, c5, c6, c7⟩ := e1.cells
  obtain ⟨f0, f1, f2, f3, f4, f5, f6, f7⟩ := e1.free
  have HS := Lib.hid (below_st8 HB2.out (Nat.le_refl _) xn xl xm x0 x1 x2 x3 xe)
  have Z := e1.stored xn xl xm x0 x1 x2 x3 xe
  unfold set87 at Z
  have Z := Lib.hid Z.cells
  clear hb e1 E1 HB HB2 HF HRD1
  go_wp2_with fail
  refine bodyPost_ret (v := .tuple #[fxr xn xl xm x0 x1 x2 x3 xe, .int .i64 0]) ?h rfl ⟨rfl, HS.out⟩
  case h =>
    have Z0 := Z.out
    generalize ((((((((w2.setCell ⟨w.heap.size, 0, none⟩ (.bool xn)).setCell ⟨w.heap.size, 1, none⟩ (.int .i64 xl)).setCell ⟨w.heap.size, 2, none⟩ (.int .i64 xm)).setCell ⟨w.heap.size, 3, none⟩ (.int .u64 x0)).setCell ⟨w.heap.size, 4, none⟩ (.int .u64 x1)).setCell ⟨w.heap.size, 5, none⟩ (.int .u64 x2)).setCell ⟨w.heap.size, 6, none⟩ (.int .u64 x3)).setCell ⟨w.heap.size, 7, none⟩ (.bool xe)) = W9 at Z0 ⊢
    obtain ⟨z0, z1, z2, z3, z4, z5, z6, z7⟩ := Z0
    simp [results, Tryd.results14, go_sem, z0, z1, z2, z3, z4, z5, z6, z7]
/-- The code's Of, over any list. -/
theorem cof_any (p : Option Addr) (n cap : Nat) (N : Nat → Nd) (h : n = 0 ∨ ∃ b off, p = some ⟨b, off, none⟩ ∧ (∀ j, j < n → okW (N j))) (w : World) (hr : ∀ b off, p = some ⟨b, off, none⟩ → rdN w b off n N) :
    Calls Tryd.prog 14 #[.slice p n cap] w (if tree N n then ofPost7 (fxT (trT N (n - 1))) (enT (trT N (n - 1))) 0 w else ofPost7 fx0 false 3 w) := by
  by_cases ht : tree N n
  · rw [if_pos ht]
    rcases h with rfl | ⟨b, off, rfl, hw⟩
    · have := ht.2.2; simp [dep] at this
    · exact cof_tree b off n cap N ht hw w (hr b off rfl)
  · rw [if_neg ht]
    refine cof_not p n cap N ht w (fun w hr => ?_) hr
    rcases Nat.lt_or_ge 512 n with hn | hn
    · exact right_long p n cap N hn w
    · rcases h with rfl | ⟨b, off, rfl, -⟩
      · exact right_zero p cap N w
      · exact right_some b off n cap N hn w (hr b off rfl)
end Go.Proofs.YtjbmkbgoahppfaaDoor

namespace Go.Proofs.YtjbmkbgoahppfaaDoor
open Go.RowKit

theorem en_trn : ∀ t, enT (trn t) = enT t
  | .leaf x => by
    show ((trnN x).k == 3 || (trnN x).k == 4) = (x.k == 3 || x.k == 4)
    unfold trnN
    by_cases h3 : x.k = 3
    · rw [if_pos h3, h3]; rfl
    · rw [if_neg h3]
      by_cases h4 : x.k = 4
      · rw [if_pos h4, h4]; rfl
      · rw [if_neg h4]
  | .cat a b => by show (enT (trn b) || enT (trn a)) = (enT a || enT b); rw [en_trn a, en_trn b, Bool.or_comm]
  | .or a b => by show (enT (trn a) || enT (trn b)) = (enT a || enT b); rw [en_trn a, en_trn b]
  | .rep a lo hi => en_trn a

set_option maxRecDepth 100000 in
set_option maxHeartbeats 8000000 in
/-- The law, where the list that counts is no tree. -/
theorem back8_not (p : Option Addr) (n cap k : Nat) (hk : k = min n 60) (hcap : n ≤ cap) (w : World) (hT : Tabbed w) (N : Nat → Nd) (ht : ¬ tree N k)
    (hA : ∀ w, Tabbed w → Calls Tryd.prog 6 #[] w fun e w' => e = .returned (.bool true) ∧ Below w.heap.size w w')
    (hO : ∀ w', Below w.heap.size w w' → Calls Tryd.prog 7 #[.slice p k cap] w' (tofPost N k w')) :
    Calls Tryd.prog 5 #[.slice p n cap] w fun e w' => e = .returned (.bool true) ∧ Below w.heap.size w w' := by
  have hO' : ∀ w', Below w.heap.size w w' → Calls Tryd.prog 7 #[.slice p k cap] w' fun e w'' => ∃ g c, e = .returned (.tuple #[.slice g 0 c, .int .i64 3]) ∧ Below w'.heap.size w' w'' := fun w' hB => by
    refine (hO w' hB).mono ?_
    rintro e w'' ⟨-, h1⟩
    exact h1 ht
  have HA := Lib.hid hA; have HT := Lib.hid hT; have HO := Lib.hid hO'
  have h1 : (if (60 : Int) < (n : Int) then (60 : Int) else (n : Int)) = (k : Int) := by split <;> omega
  have e1 : min (n : Int) 60 = (k : Int) := by omega
  have H1 := Lib.hid h1
  have k0 : (0 : Int) ≤ (k : Int) := by omega
  have k1 : (k : Int) ≤ (cap : Int) := by omega
  clear hA hT hO hO' h1 hk ht
  go_enter Tryd.func5, Tryd.ntmps5
  go_wp2_with fail
  refine (HA.out _ HT.out).mono ?_
  rintro e w1 ⟨rfl, hb⟩
  have HB1 := Lib.hid hb
  clear hb HA HT
  go_wp2_with (refine wpList_plain rfl fun _ hK => wp_min7 _ _ rfl (n : Int) 60 (k : Int) rfl rfl H1.out (hK _ _ ?_))
  refine (HO.out _ HB1.out).mono ?_
  rintro e w3 ⟨g, c, rfl, hb⟩
  have HB3 := Lib.hid (HB1.out.trans (hb.mono HB1.out.size))
  clear hb HO HB1
  go_wp2_with fail
  go_returns
  exact ⟨rfl, HB3.out⟩

set_option maxRecDepth 100000 in
set_option maxHeartbeats 8000000 in
/-- The law, where the list that counts is a tree. -/
theorem back8_tree (b off n cap k : Nat) (hk : k = min n 60) (hcap : n ≤ cap) (w : World) (hT : Tabbed w) (N : Nat → Nd) (ht : tree N k) (hw : ∀ j, j < k → okW (N j)) (hr : rdN w b off k N)
    (hA : ∀ w, Tabbed w → Calls Tryd.prog 6 #[] w fun e w' => e = .returned (.bool true) ∧ Below w.heap.size w w') (hTof : TofC) :
    Calls Tryd.prog 5 #[.slice (some ⟨b, off, none⟩) n cap] w fun e w' => e = .returned (.bool true) ∧ Below w.heap.size w w' := by
  have hl : (trnL N k).length = k := trnL_len ht
  have hpos : 0 < k := (tree_iff.1 ht).1
  have htr : tree (nfn (trnL N k)) k := trnL_tree ht
  have hwr : ∀ j, j < k → okW (nfn (trnL N k) j) := fun j hj => okW_trnL ht hw j hj
  have hl2 : (trnL (nfn (trnL N k)) k).length = k := trnL_len htr
  have hO : ∀ w', Below w.heap.size w w' → Calls Tryd.prog 7 #[.slice (some ⟨b, off, none⟩) k cap] w' fun e w'' => ∃ g c, e = .returned (.tuple #[.slice (some ⟨g, 0, none⟩) k c, .int .i64 0]) ∧ rdN w'' g 0 k (nfn (trnL N k)) ∧ Below w'.heap.size w' w'' := fun w' hB => by
    refine (hTof (some ⟨b, off, none⟩) k cap N w' (.inr ⟨b, off, rfl, hw⟩) (fun b' off' h => by cases h; exact hr.below hB)).mono ?_
    rintro e w'' ⟨h1, -⟩
    obtain ⟨v, rfl, ho, hb⟩ := h1 ht
    obtain ⟨g, c, hv, hrd, -⟩ := nds_own8 ho (by omega)
    rw [hl] at hv hrd
    subst hv
    exact ⟨g, c, rfl, hrd, hb⟩
  have hO2 : ∀ g c w', rdN w' g 0 k (nfn (trnL N k)) → Calls Tryd.prog 7 #[.slice (some ⟨g, 0, none⟩) k c] w' fun e w'' => ∃ g' c', e = .returned (.tuple #[.slice (some ⟨g', 0, none⟩) k c', .int .i64 0]) ∧ rdN w'' g' 0 k N ∧ Below w'.heap.size w' w'' := fun g c w' hrd => by
    refine (hTof (some ⟨g, 0, none⟩) k c (nfn (trnL N k)) w' (.inr ⟨g, 0, rfl, hwr⟩) (fun b' off' h => by cases h; exact hrd)).mono ?_
    rintro e w'' ⟨h1, -⟩
    obtain ⟨v, rfl, ho, hb⟩ := h1 htr
    obtain ⟨g', c', hv, hrd', -⟩ := nds_own8 ho (by omega)
    rw [hl2] at hv hrd'
    subst hv
    exact ⟨g', c', rfl, fun j hj => by rw [← trnL_twice ht j hj]; exact hrd' j hj, hb⟩
  have hF : ∀ w', Below w.heap.size w w' → Calls Tryd.prog 14 #[.slice (some ⟨b, off, none⟩) k cap] w' (ofPost7 (fxT (trT N (k - 1))) (enT (trT N (k - 1))) 0 w') := fun w' hB => cof_tree b off k cap N ht hw w' (hr.below hB)
  have hS : ∀ w', Below w.heap.size w w' → Calls Tryd.prog 15 #[.slice (some ⟨b, off, none⟩) k cap] w' (szPost (szF (trT N (k - 1))) w') := fun w' hB => csize_tree b off k cap N ht w' (hr.below hB)
  have hF2 : ∀ g c w', rdN w' g 0 k (nfn (trnL N k)) → Calls Tryd.prog 14 #[.slice (some ⟨g, 0, none⟩) k c] w' (ofPost7 (fxT (trn (trT N (k - 1)))) (enT (trT N (k - 1))) 0 w') := fun g c w' hrd => by
    have := cof_tree g 0 k c (nfn (trnL N k)) htr hwr w' hrd
    rw [trnL_trT ht, en_trn] at this
    exact this
  have hS2 : ∀ g c w', rdN w' g 0 k (nfn (trnL N k)) → Calls Tryd.prog 15 #[.slice (some ⟨g, 0, none⟩) k c] w' (szPost (szF (trT N (k - 1))) w') := fun g c w' hrd => by
    have := csize_tree g 0 k c (nfn (trnL N k)) htr w' hrd
    rw [trnL_trT ht, sz_trn] at this
    exact this
  obtain ⟨x1, x2, x3⟩ := fx_trn (trT N (k - 1))
  unfold ofPost7 fxv at hF hF2
  unfold szPost at hS hS2
  rw [x1, x2, x3] at hF2
  generalize szF (trT N (k - 1)) = D at *
  generalize enT (trT N (k - 1)) = E at *
  generalize (fxT (trT N (k - 1))).nv = an at *
  generalize (fxT (trT N (k - 1))).ls = al at *
  generalize (fxT (trT N (k - 1))).ms = am at *
  generalize (wd (fxT (trT N (k - 1))).fi 0 : Int) = a0 at *
  generalize (wd (fxT (trT N (k - 1))).fi 1 : Int) = a1 at *
  generalize (wd (fxT (trT N (k - 1))).fi 2 : Int) = a2 at *
  generalize (wd (fxT (trT N (k - 1))).fi 3 : Int) = a3 at *
  generalize (wd (fxT (trn (trT N (k - 1)))).fi 0 : Int) = b0 at *
  generalize (wd (fxT (trn (trT N (k - 1)))).fi 1 : Int) = b1 at *
  generalize (wd (fxT (trn (trT N (k - 1)))).fi 2 : Int) = b2 at *
  generalize (wd (fxT (trn (trT N (k - 1)))).fi 3 : Int) = b3 at *
  generalize nfn (trnL N k) = M at *
  have HA := Lib.hid hA; have HT := Lib.hid hT; have HO := Lib.hid hO; have HO2 := Lib.hid hO2; have HF := Lib.hid hF; have HF2 := Lib.hid hF2; have HS := Lib.hid hS; have HS2 := Lib.hid hS2; have HRD := Lib.hid hr
  have h1 : (if (60 : Int) < (n : Int) then (60 : Int) else (n : Int)) = (k : Int) := by split <;> omega
  have e1 : min (n : Int) 60 = (k : Int) := by omega
  have H1 := Lib.hid h1
  have k0 : (0 : Int) ≤ (k : Int) := by omega
  have k1 : (k : Int) ≤ (cap : Int) := by omega
  have HK : Hid (k ≤ 1000) := Lib.hid (by omega)
  clear hA hT hO hO2 hF hF2 hS hS2 hr h1 hk ht htr hw hwr hl hl2 hTof x1 x2 x3 hpos
  go_enter Tryd.func5, Tryd.ntmps5
  go_wp2_with fail
  refine (HA.out _ HT.out).mono ?_
  rintro e w1 ⟨rfl, hb⟩
  have HB1 := Lib.hid hb
  clear hb HA HT
  go_wp2_with (refine wpList_plain rfl fun _ hK => wp_min7 _ _ rfl (n : Int) 60 (k : Int) rfl rfl H1.out (hK _ _ ?_))
  refine (HO.out _ HB1.out).mono ?_
  rintro e w2 ⟨g, c, rfl, hrd, hb⟩
  have HB2 := Lib.hid (HB1.out.trans (hb.mono HB1.out.size))
  have HR2 := Lib.hid hrd
  clear hb hrd HO HB1
  go_wp2_with fail
  refine (HO2.out g c _ HR2.out).mono ?_
  rintro e w3 ⟨g', c', rfl, hrd', hb⟩
  have HB3 := Lib.hid (HB2.out.trans (hb.mono HB2.out.size))
  have HR3 := Lib.hid (HR2.out.below hb)
  have HY3 := Lib.hid hrd'
  clear hb hrd' HO2 HB2 HR2
  go_wp2_with fail
  refine (HF.out _ HB3.out).mono ?_
  rintro e w4 ⟨rfl, hb⟩
  have HB4 := Lib.hid (HB3.out.trans (hb.mono HB3.out.size))
  have HR4 := Lib.hid (HR3.out.below hb)
  have HY4 := Lib.hid (HY3.out.below hb)
  clear hb HF HB3 HR3 HY3
  go_wp2_with fail
  have EA := Lib.hid (isFx.new w4 an al am a0 a1 a2 a3 E)
  have hal : Below w4.heap.size w4 (w4.alloc (.cells #[.bool an, .int .i64 al, .int .i64 am, .int .u64 a0, .int .u64 a1, .int .u64 a2, .int .u64 a3, .bool E] 40)) := (Below.refl _ _).alloc (Nat.le_refl _) _
  have HB5 := Lib.hid (HB4.out.trans (hal.mono HB4.out.size))
  have HR5 := Lib.hid (HR4.out.below hal)
  have HY5 := Lib.hid (HY4.out.below hal)
  clear hal HB4 HR4 HY4
  generalize w4.alloc (.cells #[.bool an, .int .i64 al, .int .i64 am, .int .u64 a0, .int .u64 a1, .int .u64 a2, .int .u64 a3, .bool E] 40) = w5 at *
  generalize w4.heap.size = A at *
  refine (HF2.out g c _ HR5.out).mono ?_
  rintro e w6 ⟨rfl, hb⟩
  have HB6 := Lib.hid (HB5.out.trans (hb.mono HB5.out.size))
  have HR6 := Lib.hid (HR5.out.below hb)
  have HY6 := Lib.hid (HY5.out.below hb)
  have EA6 := Lib.hid (EA.out.below hb EA.out.lt)
  clear hb HB5 HR5 HY5 EA HF2
  go_wp2_with fail
  have hal : Below w6.heap.size w6 (w6.alloc (.cells #[.bool an, .int .i64 al, .int .i64 am, .int .u64 b0, .int .u64 b1, .int .u64 b2, .int .u64 b3, .bool E] 40)) := (Below.refl _ _).alloc (Nat.le_refl _) _
  have EB := Lib.hid (isFx.new w6 an al am b0 b1 b2 b3 E)
  have HB7 := Lib.hid (HB6.out.trans (hal.mono HB6.out.size))
  have HR7 := Lib.hid (HR6.out.below hal)
  have HY7 := Lib.hid (HY6.out.below hal)
  have EA7 := Lib.hid (EA6.out.below hal EA6.out.lt)
  clear hal HB6 HR6 HY6 EA6
  generalize w6.alloc (.cells #[.bool an, .int .i64 al, .int .i64 am, .int .u64 b0, .int .u64 b1, .int .u64 b2, .int .u64 b3, .bool E] 40) = w7 at *
  generalize w6.heap.size = B at *
  have HSM := Lib.hid (same_is N N k (fun _ _ => rfl) HK.out b off cap g' 0 c' w7 (HRD.out.below HB7.out) HY7.out)
  refine HSM.out.mono ?_
  rintro e w8 ⟨rfl, q, rfl⟩
  have hbq : Below w7.heap.size w7 (w7.drewN q) := below_drewN q (Below.refl _ _)
  have HB8 := Lib.hid (HB7.out.trans (hbq.mono HB7.out.size))
  have HR8 := Lib.hid (HR7.out.below hbq)
  obtain ⟨p0, p1, p2, p3, p4, p5, p6, p7⟩ := (EA7.out.below hbq EA7.out.lt).cells
  obtain ⟨q0, q1, q2, q3, q4, q5, q6, q7⟩ := (EB.out.below hbq EB.out.lt).cells
  clear hbq HB7 HR7 HY7 EA7 EB HSM HRD
  generalize w7.drewN q = w8 at *
  go_wp2_with fail
  clear p0 p1 p2 p3 p4 p5 p6 p7 q0 q1 q2 q3 q4 q5 q6 q7
  refine (HS.out _ HB8.out).mono ?_
  rintro e w9 ⟨rfl, hb⟩
  have HB9 := Lib.hid (HB8.out.trans (hb.mono HB8.out.size))
  have HR9 := Lib.hid (HR8.out.below hb)
  clear hb HB8 HR8 HS
  go_wp2_with fail
  refine (HS2.out g c _ HR9.out).mono ?_
  rintro e w10 ⟨rfl, hb⟩
  have HB10 := Lib.hid (HB9.out.trans (hb.mono HB9.out.size))
  clear hb HB9 HR9 HS2
  go_wp2_with fail
  go_returns
  exact ⟨rfl, HB10.out⟩

/-- The law, over whatever list comes in. -/
theorem back8_some (hTof : TofC) (hTtx : TtxC) (b off n cap : Nat) (N : Nat → Nd) (hcap : n ≤ cap) (hok : ∀ j, j < n → okW (N j)) (w : World) (hT : Tabbed w) (hr : rdN w b off n N) :
    Calls Tryd.prog 5 #[.slice (some ⟨b, off, none⟩) n cap] w fun e w' => e = .returned (.bool true) ∧ Below w.heap.size w w' := by
  have hr' := hr.take (min n 60) (Nat.min_le_left n 60)
  have hw : ∀ j, j < min n 60 → okW (N j) := fun j hj => hok j (by omega)
  by_cases ht : tree N (min n 60)
  · exact back8_tree b off n cap (min n 60) rfl hcap w hT N ht hw hr' (awake8_any hTof hTtx) hTof
  · exact back8_not _ n cap (min n 60) rfl hcap w hT N ht (awake8_any hTof hTtx) (fun w' hB => hTof _ _ _ N w' (.inr ⟨b, off, rfl, hw⟩) (fun b' off' h => by cases h; exact hr'.below hB))
theorem back8_zero (hTof : TofC) (hTtx : TtxC) (p : Option Addr) (cap : Nat) (w : World) (hT : Tabbed w) :
    Calls Tryd.prog 5 #[.slice p 0 cap] w fun e w' => e = .returned (.bool true) ∧ Below w.heap.size w w' :=
  back8_not p 0 cap 0 rfl (Nat.zero_le _) w hT N8 (fun ht => by have := (tree_iff.1 ht).1; omega) (awake8_any hTof hTtx) (fun w' _ => hTof _ _ _ N8 w' (.inl rfl) (fun _ _ _ j hj => absurd hj (Nat.not_lt_zero _)))
end Go.Proofs.YtjbmkbgoahppfaaDoor
