/-
  SubsetCounts, for every automaton and every number of states that are let be: as many states are counted as there are, or one more than are let be. No condition.
-/
import Derived.Test.YtepegohopgnmnaaPk43
import Derived.Test.YtepegohopgnmnaaPk48
import Derived.HandedShaped
import Derived.ProofKit
import Derived.OpenShut
import Derived.Below
namespace Go.Proofs.Ytepegohopgnmnaa
open Go.ChangeMaps (open_string shut_string)
open Go.ChangeShapes Go.WideShapes Go.ChangeAt Go.RowKit Go.Deep

theorem sbc11_own : ownKnob Try.prog.godebug = none := by kernel_rfl
set_option maxRecDepth 100000 in
theorem sbc11_lifted (os : Os) (started : os.Started) (H : Type) (enc : TypeId × Value → H) :
    ReturnsInHanded {} Try.checked os 4 .any (Rows.subsetCountsSpec.pre6 enc Try.prog Try.f4 Rows.subsetCountsRow.domain false) (Rows.subsetCountsSpec.post enc Try.prog Try.f4 false true false false) := by
  refine returnsInHanded_of_change (C := Try.checked) sbc11_own started (by kernel_rfl) Try.func4
    (ChangeSpec.witness6 (enc := enc) (C := Try.checked) false ⟨#[], #[.agg #[.slice none 0 0, .int .i64 0, .int .i64 0], .int .i64 0], []⟩ 8 (by kernel_rfl) (by kernel_rfl) (by kernel_rfl) (by kernel_rfl)) ?_
  intro W base args ds gs before hval0 hW _ _
  have hval : ∀ (j : Nat) t v, Try.f4.params[j]? = some t → args[j]? = some v → Value.okWide Try.prog W .any base t v := hval0
  have hW' := hW
  obtain ⟨p, q, hA0, hV, rfl, _, _⟩ := hW
  have hA : DataW.TrodAll enc Try.prog W 0 (fun _ => true) true Try.f4.params.toList args.toList ds p := hA0
  rw [Try.params4] at hA hval
  obtain ⟨v0, v1, d0, d1, p0, p1, rfl, rfl, rfl, h0, h1⟩ := trodAll_two hA
  obtain ⟨rfl, rfl⟩ := trodVars_none hV
  have lt0 : ∀ x ∈ p0, x.block < W.heap.size := by obtain ⟨m, hm⟩ := h0; exact DataW.trod_lt m _ _ _ hm
  have lt1 : ∀ x ∈ p1, x.block < W.heap.size := by obtain ⟨m, hm⟩ := h1; exact DataW.trod_lt m _ _ _ hm
  have hk0 := h0
  obtain ⟨p0n, n0, cap0, st0, fin0, rfl, hn0⟩ := open_nfa (hval 0 24 v0 rfl rfl) h0
  have hk1 := h1
  obtain ⟨x1, rfl⟩ : ∃ x : Int, v1 = .int .i64 x := by
    obtain ⟨y, rfl⟩ := okWide_int Try.underlying3 (hval 1 3 v1 rfl rfl)
    exact ⟨y, rfl⟩
  clear hA0 hval0
  have hw : Calls Try.prog 4 #[nfV p0n n0 cap0 st0 fin0, .int .i64 x1] W fun e w' => e = .returned (.bool true) ∧ Below W.heap.size W w' := by
    obtain ⟨S, hS, hok⟩ : ∃ S, stsAt W p0n n0 S ∧ ∀ q, q < n0 → okWs (S q) := by
      rcases hn0 with rfl | ⟨b, off, S, rfl, hpos, hcap, hS, hok⟩
      · exact ⟨fun _ => fin9, ⟨.inl rfl, fun b off e j hj => absurd hj (Nat.not_lt_zero _)⟩, fun q hq => absurd hq (Nat.not_lt_zero _)⟩
      · exact ⟨S, ⟨.inr ⟨b, off, rfl⟩, fun b' o' e => by cases e; exact hS⟩, hok⟩
    exact counts_any sub_any cnt_any p0n n0 cap0 S st0 fin0 x1 W (fun _ => hS) (fun _ => hok)
  refine hw.mono fun e W' ⟨he, bel⟩ => ?_
  subst he
  exact ⟨_, rfl, _, _, _, [], _, [], hW', trodAll_mk1 (shut_bool Try.underlying4 _), trodAll_mk2 (Below.trod laidOut (by kernel_rfl) (of_decide_eq_true (by kernel_rfl)) hk0 bel lt0) (Below.trod laidOut (by kernel_rfl) (of_decide_eq_true (by kernel_rfl)) hk1 bel lt1), rfl, bel.frame _, fun h => by cases h⟩

theorem sbc11_holds : Rows.SubsetCountsSaid :=
  OpenClaim.holds_of_wide 4 Try.f4 rfl rfl rfl rfl rfl rfl rfl ⟨rfl, rfl, rfl, rfl, rfl⟩ rfl rfl rfl rfl rfl (by kernel_rfl) Try.func4 (by kernel_rfl)
    (of_decide_eq_true (by kernel_rfl)) (by unfold Func.isWrapper; first | (rw [if_pos (by decide +kernel)]; kernel_rfl) | (rw [if_neg (by decide +kernel)]; exact ⟨rfl, rfl⟩))
    (fun os started H enc _ => sbc11_lifted os started H enc)
#print axioms sbc11_holds
end Go.Proofs.Ytepegohopgnmnaa
