/-
  MiniBlocks, for every automaton: its states are in the page's blocks, and it has the page's least automaton; one that may not be is refused. No condition.
-/
import Derived.Test.YtnoaejpabfnfpaaPk48
import Derived.Test.YtnoaejpabfnfpaaPk49
import Derived.Test.YtnoaejpabfnfpaaPk50
import Derived.HandedShaped
import Derived.ProofKit
import Derived.OpenShut
import Derived.Below
namespace Go.Proofs.Ytnoaejpabfnfpaa
open Go.ChangeMaps (open_string shut_string)
open Go.ChangeShapes Go.WideShapes Go.ChangeAt Go.RowKit Go.Deep

theorem mblocks13_own : ownKnob Try.prog.godebug = none := by kernel_rfl
set_option maxRecDepth 100000 in
theorem mblocks13_lifted (os : Os) (started : os.Started) (H : Type) (enc : TypeId × Value → H) :
    ReturnsInHanded {} Try.checked os 3 .any (Rows.miniBlocksSpec.pre6 enc Try.prog Try.f3 Rows.miniBlocksRow.domain false) (Rows.miniBlocksSpec.post enc Try.prog Try.f3 false true false false) := by
  refine returnsInHanded_of_change (C := Try.checked) mblocks13_own started (by kernel_rfl) Try.func3
    (ChangeSpec.witness6 (enc := enc) (C := Try.checked) false ⟨#[], #[.agg #[.slice none 0 0, .int .i64 0, .int .i64 0, .slice none 0 0, .slice none 0 0]], []⟩ 8 (by kernel_rfl) (by kernel_rfl) (by kernel_rfl) (by kernel_rfl)) ?_
  intro W base args ds gs before hval0 hW _ _
  have hval : ∀ (j : Nat) t v, Try.f3.params[j]? = some t → args[j]? = some v → Value.okWide Try.prog W .any base t v := hval0
  have hW' := hW
  obtain ⟨p, q, hA0, hV, rfl, _, _⟩ := hW
  have hA : DataW.TrodAll enc Try.prog W 0 (fun _ => true) true Try.f3.params.toList args.toList ds p := hA0
  rw [Try.params3] at hA hval
  obtain ⟨v0, d0, rfl, rfl, h0⟩ := trodAll_one hA
  obtain ⟨rfl, rfl⟩ := trodVars_none hV
  have lt0 : ∀ x ∈ p, x.block < W.heap.size := by obtain ⟨m, hm⟩ := h0; exact DataW.trod_lt m _ _ _ hm
  have hk0 := h0
  obtain ⟨y0, ln0, qa0, ca0, qb0, cb0, qc0, cc0, rfl, ra0, rb0, rc0⟩ := open_dfa (hval 0 25 v0 rfl rfl) h0
  clear hA0 hval0
  have hw : Calls Try.prog 3 #[dfV qa0 y0.n0 ca0 y0.wd y0.st qb0 y0.n1 cb0 qc0 y0.n2 cc0] W fun e w' => e = .returned (.bool true) ∧ Below W.heap.size W w' :=
    mblocks13 (awake13 mof_any) mbl_any mof_any qa0 y0.n0 ca0 y0.wd y0.st qb0 y0.n1 cb0 qc0 y0.n2 cc0 y0.l0 y0.l1 y0.T W (fun _ => ra0) (fun _ => rb0) (fun _ => rc0)
  refine hw.mono fun e W' ⟨he, bel⟩ => ?_
  subst he
  exact ⟨_, rfl, _, _, _, [], _, [], hW', trodAll_mk1 (shut_bool Try.underlying4 _), trodAll_mk1 (Below.trod laidOut (by kernel_rfl) (of_decide_eq_true (by kernel_rfl)) hk0 bel lt0), rfl, bel.frame _, fun h => by cases h⟩

theorem mblocks13_holds : Rows.MiniBlocksSaid :=
  OpenClaim.holds_of_wide 3 Try.f3 rfl rfl rfl rfl rfl rfl rfl ⟨rfl, rfl, rfl, rfl, rfl⟩ rfl rfl rfl rfl rfl (by kernel_rfl) Try.func3 (by kernel_rfl)
    (of_decide_eq_true (by kernel_rfl)) (by unfold Func.isWrapper; first | (rw [if_pos (by decide +kernel)]; kernel_rfl) | (rw [if_neg (by decide +kernel)]; exact ⟨rfl, rfl⟩))
    (fun os started H enc _ => mblocks13_lifted os started H enc)
#print axioms mblocks13_holds
end Go.Proofs.Ytnoaejpabfnfpaa
