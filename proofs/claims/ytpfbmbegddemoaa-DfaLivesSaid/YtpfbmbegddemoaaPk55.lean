/-
  DfaLives, for every automaton: just the states that the page says are alive, and are reached. No condition.
-/
import Derived.Test.YtpfbmbegddemoaaPk42
import Derived.Test.YtpfbmbegddemoaaPk48
import Derived.Test.YtpfbmbegddemoaaPk50
import Derived.Test.YtpfbmbegddemoaaPk47
import Derived.Test.YtpfbmbegddemoaaPk52
import Derived.Test.YtpfbmbegddemoaaPk51
import Derived.HandedShaped
import Derived.ProofKit
import Derived.OpenShut
import Derived.Below
namespace Go.Proofs.Ytpfbmbegddemoaa
open Go.ChangeMaps (open_string shut_string)
open Go.ChangeShapes Go.WideShapes Go.ChangeAt Go.RowKit Go.Deep

theorem lives12_own : ownKnob Try.prog.godebug = none := by kernel_rfl
set_option maxRecDepth 100000 in
theorem lives12_lifted (os : Os) (started : os.Started) (H : Type) (enc : TypeId × Value → H) :
    ReturnsInHanded {} Try.checked os 4 .any (Rows.dfaLivesSpec.pre6 enc Try.prog Try.f4 Rows.dfaLivesRow.domain false) (Rows.dfaLivesSpec.post enc Try.prog Try.f4 false true false false) := by
  refine returnsInHanded_of_change (C := Try.checked) lives12_own started (by kernel_rfl) Try.func4
    (ChangeSpec.witness6 (enc := enc) (C := Try.checked) false ⟨#[], #[.agg #[.slice none 0 0, .int .i64 0, .int .i64 0, .slice none 0 0, .slice none 0 0]], []⟩ 8 (by kernel_rfl) (by kernel_rfl) (by kernel_rfl) (by kernel_rfl)) ?_
  intro W base args ds gs before hval0 hW _ _
  have hval : ∀ (j : Nat) t v, Try.f4.params[j]? = some t → args[j]? = some v → Value.okWide Try.prog W .any base t v := hval0
  have hW' := hW
  obtain ⟨p, q, hA0, hV, rfl, _, _⟩ := hW
  have hA : DataW.TrodAll enc Try.prog W 0 (fun _ => true) true Try.f4.params.toList args.toList ds p := hA0
  rw [Try.params4] at hA hval
  obtain ⟨v0, d0, rfl, rfl, h0⟩ := trodAll_one hA
  obtain ⟨rfl, rfl⟩ := trodVars_none hV
  have lt0 : ∀ x ∈ p, x.block < W.heap.size := by obtain ⟨m, hm⟩ := h0; exact DataW.trod_lt m _ _ _ hm
  have hk0 := h0
  obtain ⟨y0, ln0, qa0, ca0, qb0, cb0, qc0, cc0, rfl, ra0, rb0, rc0⟩ := open_dfa (hval 0 25 v0 rfl rfl) h0
  clear hA0 hval0
  have hw : Calls Try.prog 4 #[dfV qa0 y0.n0 ca0 y0.wd y0.st qb0 y0.n1 cb0 qc0 y0.n2 cc0] W fun e w' => e = .returned (.bool true) ∧ Below W.heap.size W w' :=
    lives_any (awake12 wrd_any rig_any acc_any liv_any rch_any) liv_any rch_any qa0 y0.n0 ca0 y0.wd y0.st qb0 y0.n1 cb0 qc0 y0.n2 cc0 y0.l0 y0.l1 y0.T W (fun _ => ra0) (fun _ => rb0) (fun _ => rc0)
  refine hw.mono fun e W' ⟨he, bel⟩ => ?_
  subst he
  exact ⟨_, rfl, _, _, _, [], _, [], hW', trodAll_mk1 (shut_bool Try.underlying4 _), trodAll_mk1 (Below.trod laidOut (by kernel_rfl) (of_decide_eq_true (by kernel_rfl)) hk0 bel lt0), rfl, bel.frame _, fun h => by cases h⟩

theorem lives12_holds : Rows.DfaLivesSaid :=
  OpenClaim.holds_of_wide 4 Try.f4 rfl rfl rfl rfl rfl rfl rfl ⟨rfl, rfl, rfl, rfl, rfl⟩ rfl rfl rfl rfl rfl (by kernel_rfl) Try.func4 (by kernel_rfl)
    (of_decide_eq_true (by kernel_rfl)) (by unfold Func.isWrapper; first | (rw [if_pos (by decide +kernel)]; kernel_rfl) | (rw [if_neg (by decide +kernel)]; exact ⟨rfl, rfl⟩))
    (fun os started H enc _ => lives12_lifted os started H enc)
#print axioms lives12_holds
end Go.Proofs.Ytpfbmbegddemoaa
