/-
  TreeRight, for every list of nodes (its first sixty count) and every kind: the list is a tree just if the reference says so, and as deep as it says; the kind has as many arguments as it says. No condition.
-/
import Derived.Test.YtligbocnakbabaaTrt
import Derived.Test.YtligbocnakbabaaOpn
namespace Go.Proofs.Ytligbocnakbabaa
open Go.ChangeShapes Go.WideShapes Go.ChangeAt Go.RowKit Go.Deep

set_option maxRecDepth 100000 in
theorem right_lifted (os : Os) (started : os.Started) (H : Type) (enc : TypeId × Value → H) :
    ReturnsInHanded {} Try.checked os 3 .any (Rows.treeRightSpec.pre6 enc Try.prog Try.f3 Rows.treeRightRow.domain false) (Rows.treeRightSpec.post enc Try.prog Try.f3 false true false false) := by
  refine returnsInHanded_of_change (C := Try.checked) own started (by kernel_rfl) Try.func3
    (ChangeSpec.witness6 (enc := enc) (C := Try.checked) false ⟨#[], #[.slice none 0 0, .int .i64 0], []⟩ 8 (by kernel_rfl) (by kernel_rfl) (by kernel_rfl) (by kernel_rfl)) ?_
  intro W base args ds gs before hval0 hW _ _
  have hval : ∀ (j : Nat) t v, Try.f3.params[j]? = some t → args[j]? = some v → Value.okWide Try.prog W .any base t v := hval0
  have hW' := hW
  obtain ⟨p, q, hA0, hV, rfl, _, _⟩ := hW
  have hA : DataW.TrodAll enc Try.prog W 0 (fun _ => true) true Try.f3.params.toList args.toList ds p := hA0
  rw [Try.params3] at hA hval
  obtain ⟨v0, v1, d0, d1, p0, p1, rfl, rfl, rfl, h0, h1⟩ := trodAll_two hA
  obtain ⟨rfl, rfl⟩ := trodVars_none hV
  have lt0 : ∀ x ∈ p0, x.block < W.heap.size := by obtain ⟨m, hm⟩ := h0; exact DataW.trod_lt m _ _ _ hm
  have lt1 : ∀ x ∈ p1, x.block < W.heap.size := by obtain ⟨m, hm⟩ := h1; exact DataW.trod_lt m _ _ _ hm
  have fin : ∀ (e : Ending) (W' : World), e = .returned (.bool true) → Below W.heap.size W W' → ∃ r, e = .returned r ∧ Rows.treeRightSpec.post enc Try.prog Try.f3 false true false false W #[v0, v1] r W' := fun e W' he bel =>
    ⟨_, he, _, _, _, [], _, [], hW', trodAll_mk1 (shut_bool Try.underlying4 _), trodAll_mk2 (Below.trod laidOut (by kernel_rfl) (of_decide_eq_true (by kernel_rfl)) h0 bel lt0) (Below.trod laidOut (by kernel_rfl) (of_decide_eq_true (by kernel_rfl)) h1 bel lt1), rfl, bel.frame _, fun h => by cases h⟩
  obtain ⟨fuel, hf⟩ := h0
  obtain ⟨a0, len0, cap0, rfl⟩ := okWide_slice Try.underlying22 (hval 0 22 v0 rfl rfl)
  obtain ⟨x, rfl⟩ : ∃ x : Int, v1 = .int .i64 x := by
    obtain ⟨m, hm⟩ := h1
    obtain ⟨x, e, _, _⟩ := DataW.trod_int Try.underlying3 hm
    have hv := hval 1 3 v1 rfl rfl
    obtain ⟨y, rfl⟩ := okWide_int Try.underlying3 hv
    exact ⟨y, rfl⟩
  clear hA0 hval0 hA
  rcases open_nodes hf with rfl | ⟨b, off, N, rfl, hpos, hcap, hr⟩
  · exact (trt_zero a0 cap0 x W).mono fun e W' ⟨he, bel⟩ => fin e W' he bel
  · rcases Nat.lt_or_ge 60 len0 with h60 | h60
    · by_cases ht : tree N 60
      · exact (trtb_is b off len0 cap0 N x h60 hcap ht W hr).mono fun e W' ⟨he, bel⟩ => fin e W' he bel
      · exact (trtb_not b off len0 cap0 N x h60 hcap ht W hr).mono fun e W' ⟨he, bel⟩ => fin e W' he bel
    · by_cases ht : tree N len0
      · exact (trt_is b off len0 cap0 N x hpos h60 hcap ht W hr).mono fun e W' ⟨he, bel⟩ => fin e W' he bel
      · exact (trt_not b off len0 cap0 N x hpos h60 hcap ht W hr).mono fun e W' ⟨he, bel⟩ => fin e W' he bel

theorem right_holds : Rows.TreeRightSaid :=
  OpenClaim.holds_of_wide 3 Try.f3 rfl rfl rfl rfl rfl rfl rfl ⟨rfl, rfl, rfl, rfl, rfl⟩ rfl rfl rfl rfl rfl (by kernel_rfl) Try.func3 (by kernel_rfl)
    (of_decide_eq_true (by kernel_rfl)) (by unfold Func.isWrapper; first | (rw [if_pos (by decide +kernel)]; kernel_rfl) | (rw [if_neg (by decide +kernel)]; exact ⟨rfl, rfl⟩))
    (fun os started H enc _ => right_lifted os started H enc)
#print axioms right_holds
end Go.Proofs.Ytligbocnakbabaa
