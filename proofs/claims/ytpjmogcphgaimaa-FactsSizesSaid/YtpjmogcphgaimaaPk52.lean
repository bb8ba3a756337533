/-
  FactsSizes, for every list of nodes (its first sixty count): as many states are told as the reference counts, or -1, where the list is no tree. No condition.
-/
import Derived.Test.YtpjmogcphgaimaaPk45
import Derived.Test.YtpjmogcphgaimaaPk48
import Derived.Test.YtpjmogcphgaimaaPk50
import Derived.Test.YtpjmogcphgaimaaPk51
import Derived.HandedShaped
namespace Go.Proofs.Ytpjmogcphgaimaa
open Go.ChangeShapes Go.WideShapes Go.ChangeAt Go.RowKit Go.Deep

set_option maxRecDepth 100000 in
set_option maxHeartbeats 2000000 in
/-- The law, over a list of which m count. -/
theorem sizes_walk (p : Option Addr) (n cap m : Nat) (N : Nat → Nd) (hm : m = min n 60) (hcap : n ≤ cap) (w : World) (hR : ∀ w', Below w.heap.size w w' → Calls Try.prog 6 #[.slice p m cap] w' fun e w'' => e = .returned (.bool (decide (tree N m))) ∧ Below w'.heap.size w' w'')
    (hS : tree N m → ∀ w', Below w.heap.size w w' → Calls Try.prog 7 #[.slice p m cap, .int .i64 ((m : Int) - 1)] w' fun e w'' => e = .returned (.int .i64 (szF (trT N (m - 1)))) ∧ Below w'.heap.size w' w'')
    (hC : ∀ w', Below w.heap.size w w' → Calls Try.prog 8 #[.slice p m cap] w' fun e w'' => e = .returned (.int .i64 (sizeF N m)) ∧ Below w'.heap.size w' w'') :
    Calls Try.prog 3 #[.slice p n cap] w fun e w' => e = .returned (.bool true) ∧ Below w.heap.size w w' := by
  have HR := Lib.hid hR; have HC := Lib.hid hC; have HS := Lib.hid hS
  have hm1 : min (n : Int) 60 = (m : Int) := by omega
  have hm2 : (if (60 : Int) < (n : Int) then (60 : Int) else (n : Int)) = (m : Int) := by split <;> omega
  have HL := Lib.hid hm2
  have HX : Hid (sizeF N m = if tree N m then szF (trT N (m - 1)) else -1) := Lib.hid rfl
  have hmc : (m : Int) ≤ (cap : Int) := by omega
  have hmc' : (m : Int) ≤ (n : Int) := by omega
  have hm0 : (0 : Int) ≤ (m : Int) := by omega
  clear hR hC hS hm2 hm1 hm
  go_enter Try.func3, Try.ntmps3
  go_wp2_with fail
  refine (awake7_any _).mono ?_
  rintro e w1 ⟨rfl, hb⟩
  have HB1 := Lib.hid hb
  clear hb
  go_wp2_with (refine wpList_plain rfl fun _ hK => wp_min7 _ _ rfl (n : Int) 60 (m : Int) rfl rfl HL.out (hK _ _ ?_))
  refine (HR.out _ HB1.out).mono ?_
  rintro e w2 ⟨rfl, hb⟩
  have HB2 := Lib.hid (HB1.out.trans (hb.mono HB1.out.size))
  clear hb HR HB1
  by_cases ht : tree N m
  · have HS2 := Lib.hid (HS.out ht)
    have HC2 : Hid (sizeF N m = szF (trT N (m - 1))) := Lib.hid (by rw [HX.out, if_pos ht])
    rw [decide_eq_true ht]
    have h1 : 1 ≤ m := (tree_iff.1 ht).1
    have hw : IntKind.i64.wrap ((m : Int) - 1) = (m : Int) - 1 := by rw [IntKind.wrap_i64]; have := ht.1; omega
    rw [HC2.out] at HC
    generalize szF (trT N (m - 1)) = D at *
    clear HX HS ht HC2
    go_wp2_with fail
    refine (HS2.out _ HB2.out).mono ?_
    rintro e w3 ⟨rfl, hb⟩
    have HB3 := Lib.hid (HB2.out.trans (hb.mono HB2.out.size))
    clear hb HS2 HB2
    go_wp2_with fail
    refine (HC.out _ HB3.out).mono ?_
    rintro e w4 ⟨rfl, hb⟩
    have HB4 := Lib.hid (HB3.out.trans (hb.mono HB3.out.size))
    clear hb
    go_wp2_with fail
    go_returns
    exact ⟨rfl, HB4.out⟩
  · have HC2 : Hid (sizeF N m = -1) := Lib.hid (by rw [HX.out, if_neg ht])
    rw [decide_eq_false ht]
    rw [HC2.out] at HC
    clear HX HS ht HC2
    go_wp2_with fail
    refine (HC.out _ HB2.out).mono ?_
    rintro e w4 ⟨rfl, hb⟩
    have HB4 := Lib.hid (HB2.out.trans (hb.mono HB2.out.size))
    clear hb
    go_wp2_with fail
    go_returns
    exact ⟨rfl, HB4.out⟩

theorem sizes_some (b off n cap : Nat) (N : Nat → Nd) (hpos : 0 < n) (hcap : n ≤ cap) (w : World) (hr : rdN w b off n N) :
    Calls Try.prog 3 #[.slice (some ⟨b, off, none⟩) n cap] w fun e w' => e = .returned (.bool true) ∧ Below w.heap.size w w' := by
  have hr' := hr.take (min n 60) (Nat.min_le_left _ _)
  refine sizes_walk _ n cap (min n 60) N rfl hcap w (fun w' hB => rright_some b off (min n 60) cap N (by omega) (by omega) w' (hr'.below hB)) (fun ht w' hB => ?_) (fun w' hB => ?_)
  · have h1 : 1 ≤ min n 60 := (tree_iff.1 ht).1
    have := rsize_is b off (min n 60) cap N ht (min n 60 - 1) (by omega) _ rfl w' (hr'.below hB)
    rwa [show ((min n 60 - 1 : Nat) : Int) = ((min n 60 : Nat) : Int) - 1 by omega] at this
  · exact csize_any (some ⟨b, off, none⟩) (min n 60) cap N (.inr ⟨b, off, rfl⟩) w' (fun b' off' h => by cases h; exact hr'.below hB)
theorem sizes_zero (p : Option Addr) (cap : Nat) (w : World) :
    Calls Try.prog 3 #[.slice p 0 cap] w fun e w' => e = .returned (.bool true) ∧ Below w.heap.size w w' := by
  have hz : ∀ N : Nat → Nd, ¬ tree N 0 := fun N ht => by have := (tree_iff.1 ht).1; omega
  refine sizes_walk p 0 cap 0 N7 rfl (Nat.zero_le _) w (fun w' hB => rright_zero p cap N7 w') (fun ht => absurd ht (hz _)) (fun w' hB => ?_)
  exact csize_any p 0 cap N7 (.inl rfl) w' (fun b' off' h j hj => absurd hj (Nat.not_lt_zero _))

theorem own : ownKnob Try.prog.godebug = none := by kernel_rfl
set_option maxRecDepth 100000 in
theorem sizes_lifted (os : Os) (started : os.Started) (H : Type) (enc : TypeId × Value → H) :
    ReturnsInHanded {} Try.checked os 3 .any (Rows.factsSizesSpec.pre6 enc Try.prog Try.f3 Rows.factsSizesRow.domain false) (Rows.factsSizesSpec.post enc Try.prog Try.f3 false true false false) := by
  refine returnsInHanded_of_change (C := Try.checked) own started (by kernel_rfl) Try.func3
    (ChangeSpec.witness6 (enc := enc) (C := Try.checked) false ⟨#[], #[.slice none 0 0], []⟩ 8 (by kernel_rfl) (by kernel_rfl) (by kernel_rfl) (by kernel_rfl)) ?_
  intro W base args ds gs before hval0 hW _ _
  have hval : ∀ (j : Nat) t v, Try.f3.params[j]? = some t → args[j]? = some v → Value.okWide Try.prog W .any base t v := hval0
  have hW' := hW
  obtain ⟨p, q, hA0, hV, rfl, _, _⟩ := hW
  have hA : DataW.TrodAll enc Try.prog W 0 (fun _ => true) true Try.f3.params.toList args.toList ds p := hA0
  rw [Try.params3] at hA hval
  obtain ⟨v0, d0, rfl, rfl, h0⟩ := trodAll_one hA
  obtain ⟨rfl, rfl⟩ := trodVars_none hV
  have lt0 : ∀ x ∈ p, x.block < W.heap.size := by obtain ⟨m, hm⟩ := h0; exact DataW.trod_lt m _ _ _ hm
  have fin : ∀ (e : Ending) (W' : World), e = .returned (.bool true) → Below W.heap.size W W' → ∃ r, e = .returned r ∧ Rows.factsSizesSpec.post enc Try.prog Try.f3 false true false false W #[v0] r W' := fun e W' he bel =>
    ⟨_, he, _, _, _, [], _, [], hW', trodAll_mk1 (shut_bool Try.underlying4 _), trodAll_mk1 (Below.trod laidOut (by kernel_rfl) (of_decide_eq_true (by kernel_rfl)) h0 bel lt0), rfl, bel.frame _, fun h => by cases h⟩
  obtain ⟨fuel, hf⟩ := h0
  obtain ⟨a0, len0, cap0, rfl⟩ := okWide_slice Try.underlying22 (hval 0 22 v0 rfl rfl)
  clear hA0 hval0 hA
  rcases open_nodes hf with rfl | ⟨b, off, N, rfl, hpos, hcap, hr, -⟩
  · exact (sizes_zero a0 cap0 W).mono fun e W' ⟨he, bel⟩ => fin e W' he bel
  · exact (sizes_some b off len0 cap0 N hpos hcap W hr).mono fun e W' ⟨he, bel⟩ => fin e W' he bel

theorem sizes_holds : Rows.FactsSizesSaid :=
  OpenClaim.holds_of_wide 3 Try.f3 rfl rfl rfl rfl rfl rfl rfl ⟨rfl, rfl, rfl, rfl, rfl⟩ rfl rfl rfl rfl rfl (by kernel_rfl) Try.func3 (by kernel_rfl)
    (of_decide_eq_true (by kernel_rfl)) (by unfold Func.isWrapper; first | (rw [if_pos (by decide +kernel)]; kernel_rfl) | (rw [if_neg (by decide +kernel)]; exact ⟨rfl, rfl⟩))
    (fun os started H enc _ => sizes_lifted os started H enc)
#print axioms sizes_holds
end Go.Proofs.Ytpjmogcphgaimaa
