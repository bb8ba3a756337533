/-
  AlphaClasses, for every automaton (its first sixty states count): it does not tell apart just the symbols that the page says; one that may not be has no classes. No condition.
-/
import Derived.Test.YthmkjdpmpcjinaaPk45
import Derived.Test.YthmkjdpmpcjinaaPk48
import Derived.Test.YthmkjdpmpcjinaaPk49
import Derived.HandedShaped
import Derived.ProofKit
import Derived.OpenShut
import Derived.Below
namespace Go.Proofs.Ythmkjdpmpcjinaa
open Go.ChangeMaps (open_string shut_string)
open Go.ChangeShapes Go.WideShapes Go.ChangeAt Go.RowKit Go.Deep

theorem acl10_own : ownKnob Try.prog.godebug = none := by kernel_rfl
set_option maxRecDepth 100000 in
theorem acl10_lifted (os : Os) (started : os.Started) (H : Type) (enc : TypeId × Value → H) :
    ReturnsInHanded {} Try.checked os 3 .any (Rows.alphaClassesSpec.pre6 enc Try.prog Try.f3 Rows.alphaClassesRow.domain false) (Rows.alphaClassesSpec.post enc Try.prog Try.f3 false true false false) := by
  refine returnsInHanded_of_change (C := Try.checked) acl10_own started (by kernel_rfl) Try.func3
    (ChangeSpec.witness6 (enc := enc) (C := Try.checked) false ⟨#[], #[.agg #[.slice none 0 0, .int .i64 0, .int .i64 0]], []⟩ 8 (by kernel_rfl) (by kernel_rfl) (by kernel_rfl) (by kernel_rfl)) ?_
  intro W base args ds gs before hval0 hW _ _
  have hval : ∀ (j : Nat) t v, Try.f3.params[j]? = some t → args[j]? = some v → Value.okWide Try.prog W .any base t v := hval0
  have hW' := hW
  obtain ⟨p, q, hA0, hV, rfl, _, _⟩ := hW
  have hA : DataW.TrodAll enc Try.prog W 0 (fun _ => true) true Try.f3.params.toList args.toList ds p := hA0
  rw [Try.params3] at hA hval
  obtain ⟨v0, d0, rfl, rfl, h0⟩ := trodAll_one hA
  obtain ⟨rfl, rfl⟩ := trodVars_none hV
  have lt0 : ∀ x ∈ p, x.block < W.heap.size := by obtain ⟨m, hm⟩ := h0; exact DataW.trod_lt m _ _ _ hm
  have hk0 := h0
  obtain ⟨p0n, n0, cap0, st0, fin0, rfl, hn0⟩ := open_nfa (hval 0 24 v0 rfl rfl) h0
  clear hA0 hval0
  have hw : Calls Try.prog 3 #[nfV p0n n0 cap0 st0 fin0] W fun e w' => e = .returned (.bool true) ∧ Below W.heap.size W w' := by
    obtain ⟨S, hS, hok, hcap⟩ : ∃ S, stsAt W p0n (min n0 60) S ∧ (∀ q, q < min n0 60 → okWs (S q)) ∧ (n0 ≤ cap0 ∨ n0 = 0) := by
      rcases hn0 with rfl | ⟨b, off, S, rfl, hpos, hcap, hS, hok⟩
      · exact ⟨fun _ => fin9, ⟨.inl (by simp), fun b off e j hj => by simp at hj⟩, fun q hq => by simp at hq, .inr rfl⟩
      · exact ⟨S, ⟨.inr ⟨b, off, rfl⟩, fun b' o' e => by cases e; exact fun j hj => hS j (by omega)⟩, fun q hq => hok q (by omega), .inl hcap⟩
    have hcap : n0 ≤ cap0 := by rcases hcap with h | h <;> omega
    exact classes_any cls_any joi_any frs_any p0n n0 cap0 _ rfl hcap S st0 fin0 W hS hok
  refine hw.mono fun e W' ⟨he, bel⟩ => ?_
  subst he
  exact ⟨_, rfl, _, _, _, [], _, [], hW', trodAll_mk1 (shut_bool Try.underlying4 _), trodAll_mk1 (Below.trod laidOut (by kernel_rfl) (of_decide_eq_true (by kernel_rfl)) hk0 bel lt0), rfl, bel.frame _, fun h => by cases h⟩

theorem acl10_holds : Rows.AlphaClassesSaid :=
  OpenClaim.holds_of_wide 3 Try.f3 rfl rfl rfl rfl rfl rfl rfl ⟨rfl, rfl, rfl, rfl, rfl⟩ rfl rfl rfl rfl rfl (by kernel_rfl) Try.func3 (by kernel_rfl)
    (of_decide_eq_true (by kernel_rfl)) (by unfold Func.isWrapper; first | (rw [if_pos (by decide +kernel)]; kernel_rfl) | (rw [if_neg (by decide +kernel)]; exact ⟨rfl, rfl⟩))
    (fun os started H enc _ => acl10_lifted os started H enc)
#print axioms acl10_holds
end Go.Proofs.Ythmkjdpmpcjinaa
