/-
  AlphaJoins, for every two lists (their first eighty numbers count) and every width: joined, and the first places of the classes, as the page says. No condition.
-/
import Derived.Test.YthmkjdpmpcjinaaPk45
import Derived.Test.YthmkjdpmpcjinaaPk50
import Derived.Test.YthmkjdpmpcjinaaPk51
import Derived.HandedShaped
import Derived.ProofKit
import Derived.OpenShut
import Derived.Below
namespace Go.Proofs.Ythmkjdpmpcjinaa
open Go.ChangeMaps (open_string shut_string)
open Go.ChangeShapes Go.WideShapes Go.ChangeAt Go.RowKit Go.Deep

theorem ajo10_own : ownKnob Try.prog.godebug = none := by kernel_rfl
set_option maxRecDepth 100000 in
theorem ajo10_lifted (os : Os) (started : os.Started) (H : Type) (enc : TypeId × Value → H) :
    ReturnsInHanded {} Try.checked os 4 .any (Rows.alphaJoinsSpec.pre6 enc Try.prog Try.f4 Rows.alphaJoinsRow.domain false) (Rows.alphaJoinsSpec.post enc Try.prog Try.f4 false true false false) := by
  refine returnsInHanded_of_change (C := Try.checked) ajo10_own started (by kernel_rfl) Try.func4
    (ChangeSpec.witness6 (enc := enc) (C := Try.checked) false ⟨#[], #[.slice none 0 0, .slice none 0 0, .int .i64 0], []⟩ 8 (by kernel_rfl) (by kernel_rfl) (by kernel_rfl) (by kernel_rfl)) ?_
  intro W base args ds gs before hval0 hW _ _
  have hval : ∀ (j : Nat) t v, Try.f4.params[j]? = some t → args[j]? = some v → Value.okWide Try.prog W .any base t v := hval0
  have hW' := hW
  obtain ⟨p, q, hA0, hV, rfl, _, _⟩ := hW
  have hA : DataW.TrodAll enc Try.prog W 0 (fun _ => true) true Try.f4.params.toList args.toList ds p := hA0
  rw [Try.params4] at hA hval
  obtain ⟨v0, v1, v2, d0, d1, d2, p0, p1, p2, rfl, rfl, rfl, h0, h1, h2⟩ := trodAll_three hA
  obtain ⟨rfl, rfl⟩ := trodVars_none hV
  have lt0 : ∀ x ∈ p0, x.block < W.heap.size := by obtain ⟨m, hm⟩ := h0; exact DataW.trod_lt m _ _ _ hm
  have lt1 : ∀ x ∈ p1, x.block < W.heap.size := by obtain ⟨m, hm⟩ := h1; exact DataW.trod_lt m _ _ _ hm
  have lt2 : ∀ x ∈ p2, x.block < W.heap.size := by obtain ⟨m, hm⟩ := h2; exact DataW.trod_lt m _ _ _ hm
  have hk0 := h0
  obtain ⟨fuel0, hf0⟩ := h0
  obtain ⟨a0, len0, cap0, rfl⟩ := okWide_slice Try.underlying26 (hval 0 26 v0 rfl rfl)
  have hk1 := h1
  obtain ⟨fuel1, hf1⟩ := h1
  obtain ⟨a1, len1, cap1, rfl⟩ := okWide_slice Try.underlying26 (hval 1 26 v1 rfl rfl)
  have hk2 := h2
  obtain ⟨x2, rfl⟩ : ∃ x : Int, v2 = .int .i64 x := by
    obtain ⟨y, rfl⟩ := okWide_int Try.underlying3 (hval 2 3 v2 rfl rfl)
    exact ⟨y, rfl⟩
  clear hA0 hval0
  have hw : Calls Try.prog 4 #[.slice a0 len0 cap0, .slice a1 len1 cap1, .int .i64 x2] W fun e w' => e = .returned (.bool true) ∧ Below W.heap.size W w' := by
    obtain ⟨l0, hl0, hw0, hc0⟩ : ∃ l, rdL W a0 (min len0 80) l ∧ (∀ j, j < min len0 80 → wfI (l j)) ∧ len0 ≤ cap0 := by
      rcases open_ints10 hf0 with rfl | ⟨hc, l, hl, hw⟩
      · exact ⟨fun _ => 0, fun j hj => by simp at hj, fun j hj => by simp at hj, by omega⟩
      · exact ⟨l, fun j hj => hl j (by omega), fun j hj => hw j (by omega), hc⟩
    obtain ⟨l1, hl1, hw1, hc1⟩ : ∃ l, rdL W a1 (min len1 80) l ∧ (∀ j, j < min len1 80 → wfI (l j)) ∧ len1 ≤ cap1 := by
      rcases open_ints10 hf1 with rfl | ⟨hc, l, hl, hw⟩
      · exact ⟨fun _ => 0, fun j hj => by simp at hj, fun j hj => by simp at hj, by omega⟩
      · exact ⟨l, fun j hj => hl j (by omega), fun j hj => hw j (by omega), hc⟩
    exact joins_any joi_any frs_any a0 len0 cap0 _ rfl hc0 l0 a1 len1 cap1 _ rfl hc1 l1 x2 W hw0 hw1 hl0 hl1
  refine hw.mono fun e W' ⟨he, bel⟩ => ?_
  subst he
  exact ⟨_, rfl, _, _, _, [], _, [], hW', trodAll_mk1 (shut_bool Try.underlying4 _), trodAll_mk3 (Below.trod laidOut (by kernel_rfl) (of_decide_eq_true (by kernel_rfl)) hk0 bel lt0) (Below.trod laidOut (by kernel_rfl) (of_decide_eq_true (by kernel_rfl)) hk1 bel lt1) (Below.trod laidOut (by kernel_rfl) (of_decide_eq_true (by kernel_rfl)) hk2 bel lt2), rfl, bel.frame _, fun h => by cases h⟩

theorem ajo10_holds : Rows.AlphaJoinsSaid :=
  OpenClaim.holds_of_wide 4 Try.f4 rfl rfl rfl rfl rfl rfl rfl ⟨rfl, rfl, rfl, rfl, rfl⟩ rfl rfl rfl rfl rfl (by kernel_rfl) Try.func4 (by kernel_rfl)
    (of_decide_eq_true (by kernel_rfl)) (by unfold Func.isWrapper; first | (rw [if_pos (by decide +kernel)]; kernel_rfl) | (rw [if_neg (by decide +kernel)]; exact ⟨rfl, rfl⟩))
    (fun os started H enc _ => ajo10_lifted os started H enc)
#print axioms ajo10_holds
end Go.Proofs.Ythmkjdpmpcjinaa
