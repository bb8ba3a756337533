/-
  The walk of the law NfaBuilds, over whatever Build is that does as the page says.
  A slice of nodes that comes in as an argument, opened: the nodes that its cells are, their words such as words may be.
  An automaton that comes in as an argument, opened: its states are such as its cells are.
-/
import Derived.Test.YtdhplphgackjaaaPk46
import Derived.Test.YtdhplphgackjaaaPk47
import Derived.Deep.RegionHeldLaw
import Derived.Test.YtdhplphgackjaaaRows
import Derived.Test.YtdhplphgackjaaaPk5
import Derived.Test.YtdhplphgackjaaaPk3
import Derived.ProofKit
import Derived.OpenShut
import Derived.Below
import Derived.Laws.IdiomArrays
import Derived.Lib.SmallJoins
import Derived.Deep.Slices
import Derived.ChangeSame
import Derived.Test.YtdhplphgackjaaaPk20
namespace Go.Proofs.Ytdhplphgackjaaa
open Go.RowKit

theorem cap_gt {t : Tr} (h : okT t) : szF t = cap20 (nst t : Nat) := sz_nst t h
/-- Two automata of one tree are the same. -/
theorem fr_same9 {S S' : Nat → Sd} {t : Tr} {f l f' l' : Nat} (h : isFr S t 0 f l) (h' : isFr S' t 0 f' l') (hl : S l = fin9) (hl' : S' l' = fin9) : f = f' ∧ l = l' ∧ ∀ q, q < nst t → S q = S' q := by
  obtain ⟨e1, e2, e3⟩ := fr_un t _ _ _ _ _ h h'
  refine ⟨e1, e2, fun q hq => ?_⟩
  by_cases e : q = l
  · subst e; rw [hl, e2, hl']
  · exact e3 q (Nat.zero_le _) (by omega) e

set_option maxRecDepth 100000 in
set_option maxHeartbeats 2000000 in
/-- The law, where the list that counts is no tree. -/
theorem blds_not (p : Option Addr) (n cap k : Nat) (hk : k = min n 60) (hcap : n ≤ cap) (w : World) (N : Nat → Nd) (ht : ¬ tree N k)
    (hA : ∀ w, Calls Try.prog 7 #[] w fun e w' => e = .returned (.bool true) ∧ Below w.heap.size w w')
    (hO : ∀ w', Below w.heap.size w w' → Calls Try.prog 8 #[.slice p k cap] w' (bldPost N k w'))
    (hR : ∀ w', Below w.heap.size w w' → Calls Try.prog 9 #[.slice p k cap] w' fun e w'' => e = .returned (.bool (decide (tree N k))) ∧ Below w'.heap.size w' w'') :
    Calls Try.prog 3 #[.slice p n cap] w fun e w' => e = .returned (.bool true) ∧ Below w.heap.size w w' := by
  have hO' : ∀ w', Below w.heap.size w w' → Calls Try.prog 8 #[.slice p k cap] w' fun e w'' => ∃ g c, e = .returned (.tuple #[nfV g 0 c 0 0, .int .i64 3]) ∧ Below w'.heap.size w' w'' := fun w' hB => by
    refine (hO w' hB).mono ?_
    rintro e w'' ⟨h1, -⟩
    exact h1 ht
  have hR' : ∀ w', Below w.heap.size w w' → Calls Try.prog 9 #[.slice p k cap] w' fun e w'' => e = .returned (.bool false) ∧ Below w'.heap.size w' w'' := fun w' hB => by
    have := hR w' hB
    rwa [decide_eq_false ht] at this
  have HBD : Hid (∀ w', Below w.heap.size w w' → Calls Try.prog 11 #[.slice p k cap] w' fun e w'' => e = .returned (.tuple #[nfV none 0 0 0 0, .int .i64 3]) ∧ Below w'.heap.size w' w'') := Lib.hid fun w' hB => rbuild_not p k cap N ht w' fun w'' hb => hR w'' (hB.trans (hb.mono hB.size))
  have HA := Lib.hid hA; have HO := Lib.hid hO'; have HR := Lib.hid hR'
  have h1 : (if (60 : Int) < (n : Int) then (60 : Int) else (n : Int)) = (k : Int) := by split <;> omega
  have e1 : min (n : Int) 60 = (k : Int) := by omega
  have H1 := Lib.hid h1
  have k0 : (0 : Int) ≤ (k : Int) := by omega
  have k1 : (k : Int) ≤ (cap : Int) := by omega
  clear hA hO hO' hR hR' h1 hk ht
  go_enter Try.func3, Try.ntmps3
  go_wp2_with fail
  refine (HA.out _).mono ?_
  rintro e w1 ⟨rfl, hb⟩
  have HB1 := Lib.hid hb
  clear hb HA
  go_wp2_with (refine wpList_plain rfl fun _ hK => wp_min9 _ _ rfl (n : Int) 60 (k : Int) rfl rfl H1.out (hK _ _ ?_))
  refine (HO.out _ HB1.out).mono ?_
  rintro e w3 ⟨g, c, rfl, hb⟩
  have HB3 := Lib.hid (HB1.out.trans (hb.mono HB1.out.size))
  obtain ⟨w4, hw4⟩ : ∃ w4, w3.alloc (.cells #[.slice g 0 c, .int .i64 0, .int .i64 0] 26) = w4 := ⟨_, rfl⟩
  have hb4 : Below w3.heap.size w3 w4 := hw4 ▸ (Below.refl _ _).alloc (Nat.le_refl _) _
  have HN4 : Hid (is3 26 w4 w3.heap.size (.slice g 0 c) 0 0) := Lib.hid (hw4 ▸ is3.new _ _ _ _ _)
  have HB4 := Lib.hid (HB3.out.trans (hb4.mono HB3.out.size))
  have HW4 := Lib.hid hw4
  clear hb hb4 hw4 HO HB1 HB3
  go_upto_region 5 with (fail)
  rw [HW4.out]
  go_wp2_with fail
  refine (HR.out _ HB4.out).mono ?_
  rintro e w5 ⟨rfl, hb⟩
  have HB5 := Lib.hid (HB4.out.trans (hb.mono HB4.out.size))
  have HN5 := Lib.hid (HN4.out.below hb HN4.out.lt)
  clear hb HN4 HB4 HR HW4
  go_wp2_with fail
  refine (HBD.out _ HB5.out).mono ?_
  rintro e w6 ⟨rfl, hb⟩
  have HB6 := Lib.hid (HB5.out.trans (hb.mono HB5.out.size))
  have HN6 := Lib.hid (HN5.out.below hb HN5.out.lt)
  obtain ⟨w7, hw7⟩ : ∃ w7, w6.alloc (.cells #[.slice none 0 0, .int .i64 0, .int .i64 0] 26) = w7 := ⟨_, rfl⟩
  have hb7 : Below w6.heap.size w6 w7 := hw7 ▸ (Below.refl _ _).alloc (Nat.le_refl _) _
  have HM7 : Hid (is3 26 w7 w6.heap.size (.slice none 0 0) 0 0) := Lib.hid (hw7 ▸ is3.new _ _ _ _ _)
  have HB7 := Lib.hid (HB6.out.trans (hb7.mono HB6.out.size))
  have HN7 := Lib.hid (HN6.out.below hb7 HN6.out.lt)
  have HW7 := Lib.hid hw7
  have HSM := Lib.hid (same9_is (fun _ => fin9) (fun _ => fin9) 0 (by decide) (fun _ _ => rfl) 0 0 g none c 0 w7 (.inl rfl) (.inl rfl))
  clear hb hb7 hw7 HN5 HN6 HB5 HB6 HBD
  go_upto_region 8 with (fail)
  rw [HW7.out]
  obtain ⟨n0, n1, n2⟩ := HN7.out.cells
  obtain ⟨m0, m1, m2⟩ := HM7.out.cells
  go_wp2_with fail
  refine HSM.out.mono ?_
  rintro e w8 ⟨rfl, hb⟩
  have HB8 := Lib.hid (HB7.out.trans (hb.mono HB7.out.size))
  clear hb
  go_wp2_with fail
  go_returns
  exact ⟨rfl, HB8.out⟩

set_option maxRecDepth 100000 in
set_option maxHeartbeats 2000000 in
/-- The law, where the list that counts is a tree whose states are too many. -/
theorem blds_long (b off n cap k : Nat) (hk : k = min n 60) (hcap : n ≤ cap) (w : World) (N : Nat → Nd) (ht : tree N k) (hr : rdN w b off k N) (h600 : 600 < nst (trT N (k - 1)))
    (hA : ∀ w, Calls Try.prog 7 #[] w fun e w' => e = .returned (.bool true) ∧ Below w.heap.size w w')
    (hO : ∀ w', Below w.heap.size w w' → Calls Try.prog 8 #[.slice (some ⟨b, off, none⟩) k cap] w' (bldPost N k w')) :
    Calls Try.prog 3 #[.slice (some ⟨b, off, none⟩) n cap] w fun e w' => e = .returned (.bool true) ∧ Below w.heap.size w w' := by
  have hpos : 0 < k := (tree_iff.1 ht).1
  have hO' : ∀ w', Below w.heap.size w w' → Calls Try.prog 8 #[.slice (some ⟨b, off, none⟩) k cap] w' fun e w'' => ∃ g c st fin, e = .returned (.tuple #[nfV g 0 c st fin, .int .i64 4]) ∧ Below w'.heap.size w' w'' := fun w' hB => by
    refine (hO w' hB).mono ?_
    rintro e w'' ⟨-, h1, -⟩
    exact h1 ht h600
  have HR : Hid (∀ w', Below w.heap.size w w' → Calls Try.prog 9 #[.slice (some ⟨b, off, none⟩) k cap] w' fun e w'' => e = .returned (.bool true) ∧ Below w'.heap.size w' w'') := Lib.hid fun w' hB => by
    have := rright_some b off k cap N hpos ht.1 w' (hr.below hB)
    rwa [decide_eq_true ht] at this
  obtain ⟨D, hD, hD6⟩ : ∃ D : Int, szF (trT N (k - 1)) = D ∧ 600 < D := ⟨_, rfl, by rw [sz_nst _ (trT_root ht).2.1]; unfold cap20; omega⟩
  have HSZ : Hid (∀ w', Below w.heap.size w w' → Calls Try.prog 10 #[.slice (some ⟨b, off, none⟩) k cap, .int .i64 ((k : Int) - 1)] w' fun e w'' => e = .returned (.int .i64 D) ∧ Below w'.heap.size w' w'') := Lib.hid fun w' hB => by
    have := rsize_is b off k cap N ht (k - 1) (by omega) _ hD w' (hr.below hB)
    rwa [show ((k - 1 : Nat) : Int) = (k : Int) - 1 by omega] at this
  have HA := Lib.hid hA; have HO := Lib.hid hO'
  have h1 : (if (60 : Int) < (n : Int) then (60 : Int) else (n : Int)) = (k : Int) := by split <;> omega
  have e1 : min (n : Int) 60 = (k : Int) := by omega
  have H1 := Lib.hid h1
  have k0 : (0 : Int) ≤ (k : Int) := by omega
  have k1 : (k : Int) ≤ (cap : Int) := by omega
  have hwr : IntKind.i64.wrap ((k : Int) - 1) = (k : Int) - 1 := by rw [IntKind.wrap_i64]; have := ht.1; omega
  clear hA hO hO' h1 hk ht hr hD h600
  go_enter Try.func3, Try.ntmps3
  go_wp2_with fail
  refine (HA.out _).mono ?_
  rintro e w1 ⟨rfl, hb⟩
  have HB1 := Lib.hid hb
  clear hb HA
  go_wp2_with (refine wpList_plain rfl fun _ hK => wp_min9 _ _ rfl (n : Int) 60 (k : Int) rfl rfl H1.out (hK _ _ ?_))
  refine (HO.out _ HB1.out).mono ?_
  rintro e w3 ⟨g, c, st, fin, rfl, hb⟩
  have HB3 := Lib.hid (HB1.out.trans (hb.mono HB1.out.size))
  obtain ⟨w4, hw4⟩ : ∃ w4, w3.alloc (.cells #[.slice g 0 c, .int .i64 st, .int .i64 fin] 26) = w4 := ⟨_, rfl⟩
  have hb4 : Below w3.heap.size w3 w4 := hw4 ▸ (Below.refl _ _).alloc (Nat.le_refl _) _
  have HN4 : Hid (is3 26 w4 w3.heap.size (.slice g 0 c) st fin) := Lib.hid (hw4 ▸ is3.new _ _ _ _ _)
  have HB4 := Lib.hid (HB3.out.trans (hb4.mono HB3.out.size))
  have HW4 := Lib.hid hw4
  clear hb hb4 hw4 HO HB1 HB3
  go_upto_region 5 with (fail)
  rw [HW4.out]
  go_wp2_with fail
  refine (HR.out _ HB4.out).mono ?_
  rintro e w5 ⟨rfl, hb⟩
  have HB5 := Lib.hid (HB4.out.trans (hb.mono HB4.out.size))
  have HN5 := Lib.hid (HN4.out.below hb HN4.out.lt)
  clear hb HN4 HB4 HR HW4
  go_wp2_with fail
  refine (HSZ.out _ HB5.out).mono ?_
  rintro e w6 ⟨rfl, hb⟩
  have HB6 := Lib.hid (HB5.out.trans (hb.mono HB5.out.size))
  have HN6 := Lib.hid (HN5.out.below hb HN5.out.lt)
  clear hb HN5 HB5 HSZ
  obtain ⟨n0, n1, n2⟩ := HN6.out.cells
  go_wp2_with fail
  go_returns
  exact ⟨rfl, HB6.out⟩

set_option maxRecDepth 100000 in
set_option maxHeartbeats 2000000 in
/-- The law, where the list that counts is a tree of few states. -/
theorem blds_tree (b off n cap k : Nat) (hk : k = min n 60) (hcap : n ≤ cap) (w : World) (N : Nat → Nd) (ht : tree N k) (hr : rdN w b off k N) (h600 : nst (trT N (k - 1)) ≤ 600)
    (hA : ∀ w, Calls Try.prog 7 #[] w fun e w' => e = .returned (.bool true) ∧ Below w.heap.size w w')
    (hO : ∀ w', Below w.heap.size w w' → Calls Try.prog 8 #[.slice (some ⟨b, off, none⟩) k cap] w' (bldPost N k w')) :
    Calls Try.prog 3 #[.slice (some ⟨b, off, none⟩) n cap] w fun e w' => e = .returned (.bool true) ∧ Below w.heap.size w w' := by
  have hpos : 0 < k := (tree_iff.1 ht).1
  obtain ⟨T, hT⟩ : ∃ T, trT N (k - 1) = T := ⟨_, rfl⟩
  have hO' : ∀ w', Below w.heap.size w w' → Calls Try.prog 8 #[.slice (some ⟨b, off, none⟩) k cap] w' fun e w'' => ∃ g o c S, ∃ f l : Nat, e = .returned (.tuple #[nfV (some ⟨g, o, none⟩) (nst T) c f l, .int .i64 0]) ∧ rdS w'' g o (nst T) S ∧ isFr S T 0 f l ∧ S l = fin9 ∧ Below w'.heap.size w' w'' := fun w' hB => by
    refine (hO w' hB).mono ?_
    rintro e w'' ⟨-, -, h1⟩
    have := h1 ht h600
    rw [hT] at this
    obtain ⟨g, o, c, S, f, l, x1, x2, -, x3, x4, x5⟩ := this
    exact ⟨g, o, c, S, f, l, x1, x2, x3, x4, x5⟩
  have HR : Hid (∀ w', Below w.heap.size w w' → Calls Try.prog 9 #[.slice (some ⟨b, off, none⟩) k cap] w' fun e w'' => e = .returned (.bool true) ∧ Below w'.heap.size w' w'') := Lib.hid fun w' hB => by
    have := rright_some b off k cap N hpos ht.1 w' (hr.below hB)
    rwa [decide_eq_true ht] at this
  obtain ⟨D, hD, hD6⟩ : ∃ D : Int, szF (trT N (k - 1)) = D ∧ ¬ 600 < D := ⟨_, rfl, by rw [sz_nst _ (trT_root ht).2.1]; unfold cap20; omega⟩
  have HSZ : Hid (∀ w', Below w.heap.size w w' → Calls Try.prog 10 #[.slice (some ⟨b, off, none⟩) k cap, .int .i64 ((k : Int) - 1)] w' fun e w'' => e = .returned (.int .i64 D) ∧ Below w'.heap.size w' w'') := Lib.hid fun w' hB => by
    have := rsize_is b off k cap N ht (k - 1) (by omega) _ hD w' (hr.below hB)
    rwa [show ((k - 1 : Nat) : Int) = (k : Int) - 1 by omega] at this
  have HBD : Hid (∀ w', Below w.heap.size w w' → Calls Try.prog 11 #[.slice (some ⟨b, off, none⟩) k cap] w' fun e w'' => ∃ g c S, ∃ f l : Nat, e = .returned (.tuple #[nfV (some ⟨g, 0, none⟩) (nst T) c f l, .int .i64 0]) ∧ rdS w'' g 0 (nst T) S ∧ isFr S T 0 f l ∧ S l = fin9 ∧ Below w'.heap.size w' w'') := Lib.hid fun w' hB => by
    have := rbuild9_is b off k cap N ht h600 w' (hr.below hB)
    rwa [hT] at this
  have HA := Lib.hid hA; have HO := Lib.hid hO'
  have h1 : (if (60 : Int) < (n : Int) then (60 : Int) else (n : Int)) = (k : Int) := by split <;> omega
  have e1 : min (n : Int) 60 = (k : Int) := by omega
  have H1 := Lib.hid h1
  have k0 : (0 : Int) ≤ (k : Int) := by omega
  have k1 : (k : Int) ≤ (cap : Int) := by omega
  have hwr : IntKind.i64.wrap ((k : Int) - 1) = (k : Int) - 1 := by rw [IntKind.wrap_i64]; have := ht.1; omega
  rw [hT] at h600
  have HN6 := Lib.hid h600
  clear hA hO hO' h1 hk ht hr hD h600 hT
  go_enter Try.func3, Try.ntmps3
  go_wp2_with fail
  refine (HA.out _).mono ?_
  rintro e w1 ⟨rfl, hb⟩
  have HB1 := Lib.hid hb
  clear hb HA
  go_wp2_with (refine wpList_plain rfl fun _ hK => wp_min9 _ _ rfl (n : Int) 60 (k : Int) rfl rfl H1.out (hK _ _ ?_))
  refine (HO.out _ HB1.out).mono ?_
  rintro e w3 ⟨g, o, c, S, f, l, rfl, hrd, hfr, hfin, hb⟩
  have HFR := Lib.hid hfr; have HFI := Lib.hid hfin
  have HB3 := Lib.hid (HB1.out.trans (hb.mono HB1.out.size))
  obtain ⟨M, hM⟩ : ∃ M, nst T = M := ⟨_, rfl⟩
  rw [hM] at hrd ⊢
  have HMM := Lib.hid hM
  obtain ⟨w4, hw4⟩ : ∃ w4, w3.alloc (.cells #[.slice (some ⟨g, o, none⟩) M c, .int .i64 (f : Int), .int .i64 (l : Int)] 26) = w4 := ⟨_, rfl⟩
  have hb4 : Below w3.heap.size w3 w4 := hw4 ▸ (Below.refl _ _).alloc (Nat.le_refl _) _
  have HN4 : Hid (is3 26 w4 w3.heap.size (.slice (some ⟨g, o, none⟩) M c) f l) := Lib.hid (hw4 ▸ is3.new _ _ _ _ _)
  have HB4 := Lib.hid (HB3.out.trans (hb4.mono HB3.out.size))
  have HS4 := Lib.hid (hrd.below hb4)
  have HW4 := Lib.hid hw4
  clear hb hb4 hw4 HO HB1 HB3 hM hrd hfr hfin
  go_upto_region 5 with (fail)
  rw [HW4.out]
  go_wp2_with fail
  refine (HR.out _ HB4.out).mono ?_
  rintro e w5 ⟨rfl, hb⟩
  have HB5 := Lib.hid (HB4.out.trans (hb.mono HB4.out.size))
  have HN5 := Lib.hid (HN4.out.below hb HN4.out.lt)
  have HS5 := Lib.hid (HS4.out.below hb)
  clear hb HN4 HB4 HR HW4 HS4
  go_wp2_with fail
  refine (HSZ.out _ HB5.out).mono ?_
  rintro e w6 ⟨rfl, hb⟩
  have HB6 := Lib.hid (HB5.out.trans (hb.mono HB5.out.size))
  have HN6b := Lib.hid (HN5.out.below hb HN5.out.lt)
  have HS6 := Lib.hid (HS5.out.below hb)
  clear hb HN5 HB5 HSZ HS5
  go_wp2_with fail
  refine (HBD.out _ HB6.out).mono ?_
  rintro e w7 ⟨g', c', S', f', l', rfl, hrd, hfr, hfin, hb⟩
  obtain ⟨rfl, rfl, hSS⟩ := fr_same9 HFR.out hfr HFI.out hfin
  rw [HMM.out] at hrd hSS ⊢
  have HB7 := Lib.hid (HB6.out.trans (hb.mono HB6.out.size))
  have HN7 := Lib.hid (HN6b.out.below hb HN6b.out.lt)
  have HS7 := Lib.hid (HS6.out.below hb)
  obtain ⟨w8, hw8⟩ : ∃ w8, w7.alloc (.cells #[.slice (some ⟨g', 0, none⟩) M c', .int .i64 (f : Int), .int .i64 (l : Int)] 26) = w8 := ⟨_, rfl⟩
  have hb8 : Below w7.heap.size w7 w8 := hw8 ▸ (Below.refl _ _).alloc (Nat.le_refl _) _
  have HM8 : Hid (is3 26 w8 w7.heap.size (.slice (some ⟨g', 0, none⟩) M c') f l) := Lib.hid (hw8 ▸ is3.new _ _ _ _ _)
  have HB8 := Lib.hid (HB7.out.trans (hb8.mono HB7.out.size))
  have HN8 := Lib.hid (HN7.out.below hb8 HN7.out.lt)
  have HSM := Lib.hid (same9_is S S' M (by have := HN6.out; have := HMM.out; omega) hSS f l (some ⟨g, o, none⟩) (some ⟨g', 0, none⟩) c c' w8 (.inr ⟨g, o, rfl, HS7.out.below hb8⟩) (.inr ⟨g', 0, rfl, hrd.below hb8⟩))
  have HW8 := Lib.hid hw8
  clear hb hb8 hw8 HBD HN6b HB6 HS6 HN7 HB7 HS7 hrd hSS hfr hfin HFR HFI
  go_upto_region 8 with (fail)
  rw [HW8.out]
  obtain ⟨n0, n1, n2⟩ := HN8.out.cells
  obtain ⟨m0, m1, m2⟩ := HM8.out.cells
  go_wp2_with fail
  refine HSM.out.mono ?_
  rintro e w9 ⟨rfl, hb⟩
  have HB9 := Lib.hid (HB8.out.trans (hb.mono HB8.out.size))
  clear hb
  go_wp2_with fail
  go_returns
  exact ⟨rfl, HB9.out⟩

theorem blds_some (hB : BldC) (hR : RgtC) (hF : FitC) (b off n cap : Nat) (N : Nat → Nd) (hcap : n ≤ cap) (hok : ∀ j, j < n → okW (N j)) (w : World) (hr : rdN w b off n N) :
    Calls Try.prog 3 #[.slice (some ⟨b, off, none⟩) n cap] w fun e w' => e = .returned (.bool true) ∧ Below w.heap.size w w' := by
  obtain ⟨k, hk⟩ : ∃ k, k = min n 60 := ⟨_, rfl⟩
  have hr' : rdN w b off k N := hr.take k (by omega)
  have hO : ∀ w', Below w.heap.size w w' → Calls Try.prog 8 #[.slice (some ⟨b, off, none⟩) k cap] w' (bldPost N k w') := fun w' hb => hB _ k cap N w' (.inr ⟨b, off, rfl, fun j hj => hok j (by omega)⟩) (fun b' o' h => by cases h; exact hr'.below hb)
  have hA := awake9_any hB hR hF
  by_cases ht : tree N k
  · by_cases h6 : 600 < nst (trT N (k - 1))
    · exact blds_long b off n cap k hk hcap w N ht hr' h6 hA hO
    · exact blds_tree b off n cap k hk hcap w N ht hr' (by omega) hA hO
  · refine blds_not (some ⟨b, off, none⟩) n cap k hk hcap w N ht hA hO fun w' hb => ?_
    rcases Nat.eq_zero_or_pos k with h0 | h0
    · rw [h0]; exact rright_zero _ _ _ _
    · exact rright_some b off k cap N h0 (by omega) w' (hr'.below hb)
theorem blds_zero (hB : BldC) (hR : RgtC) (hF : FitC) (p : Option Addr) (cap : Nat) (w : World) :
    Calls Try.prog 3 #[.slice p 0 cap] w fun e w' => e = .returned (.bool true) ∧ Below w.heap.size w w' := by
  have ht : ¬ tree N9 0 := fun h => by have := (tree_iff.1 h).1; omega
  exact blds_not p 0 cap 0 (by decide) (Nat.zero_le _) w N9 ht (awake9_any hB hR hF) (fun w' _ => hB p 0 cap N9 w' (.inl rfl) (fun b o h j hj => absurd hj (Nat.not_lt_zero _))) (fun w' _ => rright_zero p cap N9 w')
end Go.Proofs.Ytdhplphgackjaaa

namespace Go.Proofs.Ytdhplphgackjaaa
open Go.ChangeShapes Go.WideShapes Go.ChangeAt Go.RowKit Go.Joins Go.Deep

theorem laidOut : laidOutB Try.prog = true := by kernel_rfl
theorem cellsU64 : Try.prog.cellsOf 52 = 1 := by kernel_rfl
theorem cellsInt : Try.prog.cellsOf 3 = 1 := by kernel_rfl
theorem cellsSet : Try.prog.cellsOf 54 = 4 := by kernel_rfl
theorem cellsNode : Try.prog.cellsOf 56 = 7 := by kernel_rfl

set_option maxRecDepth 100000 in
theorem open_node {H : Type} {enc : TypeId × Value → H} {W : World} {b0 n : Nat} {sp : Nat → Bool} {hd : Bool} {cs : List Value} {x : DataW H × List MemPlace} (hl : cs.length = 7)
    (h : DataW.trod enc Try.prog W b0 sp hd n 56 cs = some x) : ∃ y : Nd, okW y ∧ cs = [.int .i64 y.k, .int .u64 y.a, .int .u64 y.b, .int .u64 y.c, .int .u64 y.d, .int .i64 y.lo, .int .i64 y.hi] := by
  obtain ⟨xs, k, hk, hxy, _, hxl, hf⟩ := DataW.trod_struct Try.underlying56 h
  match xs, hxl, cs, hl with
  | [y0, y1, y2, y3], _, [v0, v1, v2, v3, v4, v5, v6], _ =>
    have g0 := hf 0 _ rfl
    have g1 := hf 1 _ rfl
    have g2 := hf 2 _ rfl
    have g3 := hf 3 _ rfl
    simp [cellsInt, cellsSet] at g0 g1 g2 g3
    obtain ⟨x0, e0, _, _⟩ := DataW.trod_int Try.underlying3 g0
    obtain ⟨x2, e2, _, _⟩ := DataW.trod_int Try.underlying3 g2
    obtain ⟨x3, e3, _, _⟩ := DataW.trod_int Try.underlying3 g3
    obtain ⟨z0, z1, z2, z3, m, _, hy0, hy1, hy2, hy3⟩ := trod_array4 Try.underlying54 cellsU64 g1
    obtain ⟨s0, f0, _, w0⟩ := DataW.trod_int Try.underlying52 hy0
    obtain ⟨s1, f1, _, w1⟩ := DataW.trod_int Try.underlying52 hy1
    obtain ⟨s2, f2, _, w2⟩ := DataW.trod_int Try.underlying52 hy2
    obtain ⟨s3, f3, _, w3⟩ := DataW.trod_int Try.underlying52 hy3
    simp at e0 e2 e3 f0 f1 f2 f3
    subst e0 e2 e3 f0 f1 f2 f3
    have bd : ∀ x : Int, (Lit.int .u64 x).wf = true → 0 ≤ x ∧ x < 18446744073709551616 := by
      intro x hx
      have hw : IntKind.u64.min ≤ x ∧ x ≤ IntKind.u64.max := by simpa [Lit.wf] using hx
      simp [IntKind.min, IntKind.max, IntKind.bits, IntKind.signed] at hw
      exact ⟨by omega, by omega⟩
    exact ⟨⟨x0, s0, s1, s2, s3, x2, x3⟩, ⟨bd _ w0, bd _ w1, bd _ w2, bd _ w3⟩, rfl⟩

theorem add_at {b o j : Nat} : ((⟨b, o, none⟩ : Addr).add j) = ⟨b, o + j, none⟩ := by unfold Addr.add; split <;> simp_all

set_option maxRecDepth 100000 in
/-- A slice of nodes: no node, at any address; or the nodes that its cells are. -/
theorem open_nodes {H : Type} {enc : TypeId × Value → H} {W : World} {b0 n : Nat} {sp : Nat → Bool} {hd : Bool} {a0 : Option Addr} {len0 cap0 : Nat} {x : DataW H × List MemPlace}
    (h : DataW.trod enc Try.prog W b0 sp hd n 22 [.slice a0 len0 cap0] = some x) : len0 = 0 ∨ ∃ b off N, a0 = some ⟨b, off, none⟩ ∧ 0 < len0 ∧ len0 ≤ cap0 ∧ rdN W b off len0 N ∧ ∀ j, j < len0 → okW (N j) := by
  rcases open_slice Try.underlying22 h with ⟨hcs, _⟩ | ⟨a, len, cap, m, n', D, Pl, hcs, _, hl, _, hmm, _, hi⟩
  · simp at hcs
    exact .inl hcs.2.1
  · simp at hcs
    obtain ⟨rfl, rfl, rfl⟩ := hcs
    have hlm : len0 ≤ m := by rw [hmm]; split <;> omega
    rcases Nat.eq_zero_or_pos len0 with h0 | hpos
    · exact .inl h0
    right
    have hall : ∀ i, i < len0 → ∃ y : Nd, okW y ∧ W.cell? (a.add (i * 7)) = some (.int .i64 y.k) ∧ ∀ j, j < 7 → W.cell? ((a.add (i * 7)).add j) = [Value.int .i64 y.k, .int .u64 y.a, .int .u64 y.b, .int .u64 y.c, .int .u64 y.d, .int .i64 y.lo, .int .i64 y.hi][j]? := fun i him => by
      obtain ⟨cs, hc, ht⟩ := hi i (by omega)
      rw [cellsNode] at hc
      obtain ⟨_, hcl, hat⟩ := World.cells?_some hc
      obtain ⟨y, hw, rfl⟩ := open_node hcl ht
      exact ⟨y, hw, by simpa [Addr.add] using hat 0 (by decide), hat⟩
    obtain ⟨b, off, spot⟩ := a
    obtain ⟨_, _, z0, _⟩ := hall 0 hpos
    have hspot : spot = none := by simpa [Addr.add] using World.cell?_spot z0
    subst hspot
    have hb : b < W.heap.size := by have := World.block_lt_of_cell? W _ z0; simpa [Addr.add] using this
    refine ⟨b, off, fun i => if h : i < len0 then (hall i h).choose else ⟨0, 0, 0, 0, 0, 0, 0⟩, rfl, hpos, hl, fun j hj => ⟨hb, ?_⟩, fun j hj => by simp only [dif_pos hj]; exact (hall j hj).choose_spec.1⟩
    simp only [dif_pos hj]
    have hs := (hall j hj).choose_spec.2.2
    generalize (hall j hj).choose = y at hs
    have hs' : ∀ t, t < 7 → W.cell? ⟨b, off + j * 7 + t, none⟩ = [Value.int .i64 y.k, .int .u64 y.a, .int .u64 y.b, .int .u64 y.c, .int .u64 y.d, .int .i64 y.lo, .int .i64 y.hi][t]? := fun t ht => by
      have := hs t ht
      rwa [add_at, add_at] at this
    exact ⟨hs' 0 (by decide), hs' 1 (by decide), hs' 2 (by decide), hs' 3 (by decide), hs' 4 (by decide), hs' 5 (by decide), hs' 6 (by decide)⟩
end Go.Proofs.Ytdhplphgackjaaa

namespace Go.Proofs.Ytdhplphgackjaaa
open Go.ChangeShapes Go.WideShapes Go.ChangeAt Go.RowKit Go.Joins Go.Deep

theorem cellsState : Try.prog.cellsOf 58 = 7 := by kernel_rfl
theorem cellsNfa : Try.prog.cellsOf 26 = 3 := by kernel_rfl
theorem cellsStates : Try.prog.cellsOf 24 = 1 := by kernel_rfl

set_option maxRecDepth 100000 in
theorem open_state {H : Type} {enc : TypeId × Value → H} {W : World} {b0 n : Nat} {sp : Nat → Bool} {hd : Bool} {cs : List Value} {x : DataW H × List MemPlace} (hl : cs.length = 7)
    (h : DataW.trod enc Try.prog W b0 sp hd n 58 cs = some x) : ∃ y : Sd, okWs y ∧ cs = [.int .i64 y.k, .int .i64 y.A, .int .i64 y.B, .int .u64 y.a, .int .u64 y.b, .int .u64 y.c, .int .u64 y.d] := by
  obtain ⟨xs, k, hk, hxy, _, hxl, hf⟩ := DataW.trod_struct Try.underlying58 h
  match xs, hxl, cs, hl with
  | [y0, y1, y2, y3], _, [v0, v1, v2, v3, v4, v5, v6], _ =>
    have g0 := hf 0 _ rfl
    have g1 := hf 1 _ rfl
    have g2 := hf 2 _ rfl
    have g3 := hf 3 _ rfl
    simp [cellsInt, cellsSet] at g0 g1 g2 g3
    obtain ⟨x0, e0, _, _⟩ := DataW.trod_int Try.underlying3 g0
    obtain ⟨x1, e1, _, _⟩ := DataW.trod_int Try.underlying3 g1
    obtain ⟨x2, e2, _, _⟩ := DataW.trod_int Try.underlying3 g2
    obtain ⟨z0, z1, z2, z3, m, _, hy0, hy1, hy2, hy3⟩ := trod_array4 Try.underlying54 cellsU64 g3
    obtain ⟨s0, f0, _, w0⟩ := DataW.trod_int Try.underlying52 hy0
    obtain ⟨s1, f1, _, w1⟩ := DataW.trod_int Try.underlying52 hy1
    obtain ⟨s2, f2, _, w2⟩ := DataW.trod_int Try.underlying52 hy2
    obtain ⟨s3, f3, _, w3⟩ := DataW.trod_int Try.underlying52 hy3
    simp at e0 e1 e2 f0 f1 f2 f3
    subst e0 e1 e2 f0 f1 f2 f3
    have bd : ∀ x : Int, (Lit.int .u64 x).wf = true → 0 ≤ x ∧ x < 18446744073709551616 := by
      intro x hx
      have hw : IntKind.u64.min ≤ x ∧ x ≤ IntKind.u64.max := by simpa [Lit.wf] using hx
      simp [IntKind.min, IntKind.max, IntKind.bits, IntKind.signed] at hw
      exact ⟨by omega, by omega⟩
    exact ⟨⟨x0, s0, s1, s2, s3, x1, x2⟩, ⟨bd _ w0, bd _ w1, bd _ w2, bd _ w3⟩, rfl⟩

set_option maxRecDepth 100000 in
/-- A slice of states: none, at any address; or the states that its cells are. -/
theorem open_states {H : Type} {enc : TypeId × Value → H} {W : World} {b0 n : Nat} {sp : Nat → Bool} {hd : Bool} {a0 : Option Addr} {len0 cap0 : Nat} {x : DataW H × List MemPlace}
    (h : DataW.trod enc Try.prog W b0 sp hd n 24 [.slice a0 len0 cap0] = some x) : len0 = 0 ∨ ∃ b off S, a0 = some ⟨b, off, none⟩ ∧ 0 < len0 ∧ len0 ≤ cap0 ∧ rdS W b off len0 S ∧ ∀ j, j < len0 → okWs (S j) := by
  rcases open_slice Try.underlying24 h with ⟨hcs, _⟩ | ⟨a, len, cap, m, n', D, Pl, hcs, _, hl, _, hmm, _, hi⟩
  · simp at hcs
    exact .inl hcs.2.1
  · simp at hcs
    obtain ⟨rfl, rfl, rfl⟩ := hcs
    have hlm : len0 ≤ m := by rw [hmm]; split <;> omega
    rcases Nat.eq_zero_or_pos len0 with h0 | hpos
    · exact .inl h0
    right
    have hall : ∀ i, i < len0 → ∃ y : Sd, okWs y ∧ W.cell? (a.add (i * 7)) = some (.int .i64 y.k) ∧ ∀ j, j < 7 → W.cell? ((a.add (i * 7)).add j) = [Value.int .i64 y.k, .int .i64 y.A, .int .i64 y.B, .int .u64 y.a, .int .u64 y.b, .int .u64 y.c, .int .u64 y.d][j]? := fun i him => by
      obtain ⟨cs, hc, ht⟩ := hi i (by omega)
      rw [cellsState] at hc
      obtain ⟨_, hcl, hat⟩ := World.cells?_some hc
      obtain ⟨y, hw, rfl⟩ := open_state hcl ht
      exact ⟨y, hw, by simpa [Addr.add] using hat 0 (by decide), hat⟩
    obtain ⟨b, off, spot⟩ := a
    obtain ⟨_, _, z0, _⟩ := hall 0 hpos
    have hspot : spot = none := by simpa [Addr.add] using World.cell?_spot z0
    subst hspot
    have hb : b < W.heap.size := by have := World.block_lt_of_cell? W _ z0; simpa [Addr.add] using this
    refine ⟨b, off, fun i => if h : i < len0 then (hall i h).choose else ⟨0, 0, 0, 0, 0, 0, 0⟩, rfl, hpos, hl, fun j hj => ⟨hb, ?_⟩, fun j hj => by simp only [dif_pos hj]; exact (hall j hj).choose_spec.1⟩
    simp only [dif_pos hj]
    have hs := (hall j hj).choose_spec.2.2
    generalize (hall j hj).choose = y at hs
    have hs' : ∀ t, t < 7 → W.cell? ⟨b, off + j * 7 + t, none⟩ = [Value.int .i64 y.k, .int .i64 y.A, .int .i64 y.B, .int .u64 y.a, .int .u64 y.b, .int .u64 y.c, .int .u64 y.d][t]? := fun t ht => by
      have := hs t ht
      rwa [add_at, add_at] at this
    exact ⟨hs' 0 (by decide), hs' 1 (by decide), hs' 2 (by decide), hs' 3 (by decide), hs' 4 (by decide), hs' 5 (by decide), hs' 6 (by decide)⟩

set_option maxRecDepth 100000 in
/-- An automaton, whatever it is. -/
theorem open_nfa {H : Type} {enc : TypeId × Value → H} {W : World} {base b0 : Nat} {sp : Nat → Bool} {hd : Bool} {v : Value} {d : DataW H} {ps : List MemPlace}
    (hok : Value.okWide Try.prog W .any base 26 v) (h : DataW.Trod enc Try.prog W b0 sp hd 26 v d ps) :
    ∃ p n cap st fin, v = .agg #[.slice p n cap, .int .i64 st, .int .i64 fin] ∧ (n = 0 ∨ ∃ b off S, p = some ⟨b, off, none⟩ ∧ 0 < n ∧ n ≤ cap ∧ rdS W b off n S ∧ ∀ j, j < n → okWs (S j)) := by
  obtain ⟨cs, rfl, hsz⟩ := okWide_struct Try.underlying26 hok
  rw [cellsNfa] at hsz
  obtain ⟨c0, c1, c2, rfl⟩ : ∃ c0 c1 c2, cs = #[c0, c1, c2] := by
    obtain ⟨l⟩ := cs
    match l, hsz with
    | [a, b, c], _ => exact ⟨a, b, c, rfl⟩
  obtain ⟨fuel, hf⟩ := h
  change DataW.trod enc Try.prog W b0 sp hd fuel 26 [c0, c1, c2] = some (d, ps) at hf
  obtain ⟨xs, k, hk, hxy, _, hxl, hg⟩ := DataW.trod_struct Try.underlying26 hf
  match xs, hxl with
  | [y0, y1, y2], _ =>
    have g0 := hg 0 _ rfl
    have g1 := hg 1 _ rfl
    have g2 := hg 2 _ rfl
    simp [cellsInt, cellsStates] at g0 g1 g2
    obtain ⟨x1, e1, _, _⟩ := DataW.trod_int Try.underlying3 g1
    obtain ⟨x2, e2, _, _⟩ := DataW.trod_int Try.underlying3 g2
    have e1' : c1 = .int .i64 x1 := by first | exact e1 | simpa using e1
    have e2' : c2 = .int .i64 x2 := by first | exact e2 | simpa using e2
    clear e1 e2
    subst e1' e2'
    obtain ⟨p, n, cap, rfl⟩ : ∃ p n cap, c0 = .slice p n cap := by
      rcases open_slice Try.underlying24 g0 with ⟨hcs, _⟩ | ⟨a, len, cap, m, n', D, Pl, hcs, _⟩
      · simp at hcs; exact ⟨_, _, _, hcs⟩
      · simp at hcs; exact ⟨_, _, _, hcs⟩
    exact ⟨p, n, cap, x1, x2, rfl, open_states g0⟩
end Go.Proofs.Ytdhplphgackjaaa
