/-
  EqualApart, for any two automata: they are told apart by the page's symbols, or by nothing; one that may not be is refused; any one is empty, or not. No condition.
-/
import Derived.Test.YtefpoapbodbenaaPk22
import Derived.Test.YtefpoapbodbenaaPk23
import Derived.Laws.IdiomStrings
import Derived.Test.YtefpoapbodbenaaPk43
import Derived.Test.YtefpoapbodbenaaPk44
import Derived.HandedShaped
import Derived.ProofKit
import Derived.OpenShut
import Derived.Below
namespace Go.Proofs.Ytefpoapbodbenaa
open Go.ChangeMaps (open_string shut_string)
open Go.ChangeShapes Go.WideShapes Go.ChangeAt Go.RowKit Go.Deep

theorem eapart14_own : ownKnob Try.prog.godebug = none := by kernel_rfl
set_option maxRecDepth 100000 in
theorem eapart14_lifted (os : Os) (started : os.Started) (H : Type) (enc : TypeId × Value → H) :
    ReturnsInHanded {} Try.checked os 3 .any (Rows.equalApartSpec.pre6 enc Try.prog Try.f3 Rows.equalApartRow.domain false) (Rows.equalApartSpec.post enc Try.prog Try.f3 false true false false) := by
  refine returnsInHanded_of_change (C := Try.checked) eapart14_own started (by kernel_rfl) Try.func3
    (ChangeSpec.witness6 (enc := enc) (C := Try.checked) false ⟨#[], #[.agg #[.slice none 0 0, .int .i64 0, .int .i64 0, .slice none 0 0, .slice none 0 0], .agg #[.slice none 0 0, .int .i64 0, .int .i64 0, .slice none 0 0, .slice none 0 0]], []⟩ 8 (by kernel_rfl) (by kernel_rfl) (by kernel_rfl) (by kernel_rfl)) ?_
  intro W base args ds gs before hval0 hW _ _
  have hval : ∀ (j : Nat) t v, Try.f3.params[j]? = some t → args[j]? = some v → Value.okWide Try.prog W .any base t v := hval0
  have hW' := hW
  obtain ⟨p, q, hA0, hV, rfl, _, _⟩ := hW
  have hA : DataW.TrodAll enc Try.prog W 0 (fun _ => true) true Try.f3.params.toList args.toList ds p := hA0
  rw [Try.params3] at hA hval
  obtain ⟨v0, v1, d0, d1, p0, p1, rfl, rfl, rfl, h0, h1⟩ := trodAll_two hA
  obtain ⟨rfl, rfl⟩ := trodVars_none hV
  have lt0 : ∀ x ∈ p0, x.block < W.heap.size := by obtain ⟨m, hm⟩ := h0; exact DataW.trod_lt m _ _ _ hm
  have lt1 : ∀ x ∈ p1, x.block < W.heap.size := by obtain ⟨m, hm⟩ := h1; exact DataW.trod_lt m _ _ _ hm
  have hk0 := h0
  obtain ⟨y0, ln0, qa0, ca0, qb0, cb0, qc0, cc0, rfl, ra0, rb0, rc0⟩ := open_dfa (hval 0 25 v0 rfl rfl) h0
  have hk1 := h1
  obtain ⟨y1, ln1, qa1, ca1, qb1, cb1, qc1, cc1, rfl, ra1, rb1, rc1⟩ := open_dfa (hval 1 25 v1 rfl rfl) h1
  clear hA0 hval0
  have hw : Calls Try.prog 3 #[dfV qa0 y0.n0 ca0 y0.wd y0.st qb0 y0.n1 cb0 qc0 y0.n2 cc0, dfV qa1 y1.n0 ca1 y1.wd y1.st qb1 y1.n1 cb1 qc1 y1.n2 cc1] W fun e w' => e = .returned (.bool true) ∧ Below W.heap.size W w' :=
    eapart14 (awake14 apt_any emp_any) apt_any emp_any qa0 ca0 qb0 cb0 qc0 cc0 qa1 ca1 qb1 cb1 qc1 cc1 y0 y1 W ⟨qa0, ca0, qb0, cb0, qc0, cc0, rfl, ra0, rb0, rc0⟩ ⟨qa1, ca1, qb1, cb1, qc1, cc1, rfl, ra1, rb1, rc1⟩
  refine hw.mono fun e W' ⟨he, bel⟩ => ?_
  subst he
  exact ⟨_, rfl, _, _, _, [], _, [], hW', trodAll_mk1 (shut_bool Try.underlying4 _), trodAll_mk2 (Below.trod laidOut (by kernel_rfl) (of_decide_eq_true (by kernel_rfl)) hk0 bel lt0) (Below.trod laidOut (by kernel_rfl) (of_decide_eq_true (by kernel_rfl)) hk1 bel lt1), rfl, bel.frame _, fun h => by cases h⟩

theorem eapart14_holds : Rows.EqualApartSaid :=
  OpenClaim.holds_of_wide 3 Try.f3 rfl rfl rfl rfl rfl rfl rfl ⟨rfl, rfl, rfl, rfl, rfl⟩ rfl rfl rfl rfl rfl (by kernel_rfl) Try.func3 (by kernel_rfl)
    (of_decide_eq_true (by kernel_rfl)) (by unfold Func.isWrapper; first | (rw [if_pos (by decide +kernel)]; kernel_rfl) | (rw [if_neg (by decide +kernel)]; exact ⟨rfl, rfl⟩))
    (fun os started H enc _ => eapart14_lifted os started H enc)
#print axioms eapart14_holds
end Go.Proofs.Ytefpoapbodbenaa
