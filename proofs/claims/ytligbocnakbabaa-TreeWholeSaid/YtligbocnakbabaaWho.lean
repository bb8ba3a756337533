/-
  TreeWhole, for every list of nodes (its first sixty count): where it is a tree, each part of it, alone, is a tree, no deeper; a node and its arguments have together as many nodes as its part; the last node's part is the list; where it is none, its depth is 0. No condition.
-/
import Derived.Test.YtligbocnakbabaaTwh
import Derived.Test.YtligbocnakbabaaTwb
import Derived.Test.YtligbocnakbabaaOpn
namespace Go.Proofs.Ytligbocnakbabaa
open Go.ChangeShapes Go.WideShapes Go.ChangeAt Go.RowKit Go.Deep

set_option maxRecDepth 100000 in
theorem whole_lifted (os : Os) (started : os.Started) (H : Type) (enc : TypeId × Value → H) :
    ReturnsInHanded {} Try.checked os 5 .any (Rows.treeWholeSpec.pre6 enc Try.prog Try.f5 Rows.treeWholeRow.domain false) (Rows.treeWholeSpec.post enc Try.prog Try.f5 false true false false) := by
  refine returnsInHanded_of_change (C := Try.checked) own started (by kernel_rfl) Try.func5
    (ChangeSpec.witness6 (enc := enc) (C := Try.checked) false ⟨#[], #[.slice none 0 0], []⟩ 8 (by kernel_rfl) (by kernel_rfl) (by kernel_rfl) (by kernel_rfl)) ?_
  intro W base args ds gs before hval0 hW _ _
  have hval : ∀ (j : Nat) t v, Try.f5.params[j]? = some t → args[j]? = some v → Value.okWide Try.prog W .any base t v := hval0
  have hW' := hW
  obtain ⟨p, q, hA0, hV, rfl, _, _⟩ := hW
  have hA : DataW.TrodAll enc Try.prog W 0 (fun _ => true) true Try.f5.params.toList args.toList ds p := hA0
  rw [Try.params5] at hA hval
  obtain ⟨v0, d0, rfl, rfl, h0⟩ := trodAll_one hA
  obtain ⟨rfl, rfl⟩ := trodVars_none hV
  have lt0 : ∀ x ∈ p, x.block < W.heap.size := by obtain ⟨m, hm⟩ := h0; exact DataW.trod_lt m _ _ _ hm
  have fin : ∀ (e : Ending) (W' : World), e = .returned (.bool true) → Below W.heap.size W W' → ∃ r, e = .returned r ∧ Rows.treeWholeSpec.post enc Try.prog Try.f5 false true false false W #[v0] r W' := fun e W' he bel =>
    ⟨_, he, _, _, _, [], _, [], hW', trodAll_mk1 (shut_bool Try.underlying4 _), trodAll_mk1 (Below.trod laidOut (by kernel_rfl) (of_decide_eq_true (by kernel_rfl)) h0 bel lt0), rfl, bel.frame _, fun h => by cases h⟩
  obtain ⟨fuel, hf⟩ := h0
  obtain ⟨a0, len0, cap0, rfl⟩ := okWide_slice Try.underlying22 (hval 0 22 v0 rfl rfl)
  clear hA0 hval0 hA
  rcases open_nodes hf with rfl | ⟨b, off, N, rfl, hpos, hcap, hr⟩
  · exact (whole_zero a0 cap0 W).mono fun e W' ⟨he, bel⟩ => fin e W' he bel
  · rcases Nat.lt_or_ge 60 len0 with h60 | h60
    · by_cases ht : tree N 60
      · exact (wholeb_is b off len0 cap0 N h60 hcap ht W hr).mono fun e W' ⟨he, bel⟩ => fin e W' he bel
      · exact (wholeb_not b off len0 cap0 N h60 hcap ht W hr).mono fun e W' ⟨he, bel⟩ => fin e W' he bel
    · by_cases ht : tree N len0
      · exact (whole_is b off len0 cap0 N h60 hcap ht W hr).mono fun e W' ⟨he, bel⟩ => fin e W' he bel
      · exact (whole_not b off len0 cap0 N h60 hcap ht W hr).mono fun e W' ⟨he, bel⟩ => fin e W' he bel

theorem whole_holds : Rows.TreeWholeSaid :=
  OpenClaim.holds_of_wide 5 Try.f5 rfl rfl rfl rfl rfl rfl rfl ⟨rfl, rfl, rfl, rfl, rfl⟩ rfl rfl rfl rfl rfl (by kernel_rfl) Try.func5 (by kernel_rfl)
    (of_decide_eq_true (by kernel_rfl)) (by unfold Func.isWrapper; first | (rw [if_pos (by decide +kernel)]; kernel_rfl) | (rw [if_neg (by decide +kernel)]; exact ⟨rfl, rfl⟩))
    (fun os started H enc _ => whole_lifted os started H enc)
#print axioms whole_holds
end Go.Proofs.Ytligbocnakbabaa
