/-
  DfaRuns, for every automaton, every state and every word (its first twenty symbols count): it may be, or not, and leads where the reference leads. No condition.
-/
import Derived.Test.YtpfbmbegddemoaaPk42
import Derived.Test.YtpfbmbegddemoaaPk48
import Derived.Test.YtpfbmbegddemoaaPk50
import Derived.Test.YtpfbmbegddemoaaPk47
import Derived.Test.YtpfbmbegddemoaaPk51
import Derived.HandedShaped
import Derived.ProofKit
import Derived.OpenShut
import Derived.Below
namespace Go.Proofs.Ytpfbmbegddemoaa
open Go.ChangeMaps (open_string shut_string)
open Go.ChangeShapes Go.WideShapes Go.ChangeAt Go.RowKit Go.Deep

theorem runs12_own : ownKnob Try.prog.godebug = none := by kernel_rfl
set_option maxRecDepth 100000 in
theorem runs12_lifted (os : Os) (started : os.Started) (H : Type) (enc : TypeId × Value → H) :
    ReturnsInHanded {} Try.checked os 3 .any (Rows.dfaRunsSpec.pre6 enc Try.prog Try.f3 Rows.dfaRunsRow.domain false) (Rows.dfaRunsSpec.post enc Try.prog Try.f3 false true false false) := by
  refine returnsInHanded_of_change (C := Try.checked) runs12_own started (by kernel_rfl) Try.func3
    (ChangeSpec.witness6 (enc := enc) (C := Try.checked) false ⟨#[], #[.agg #[.slice none 0 0, .int .i64 0, .int .i64 0, .slice none 0 0, .slice none 0 0], .int .i64 0, .slice none 0 0], []⟩ 8 (by kernel_rfl) (by kernel_rfl) (by kernel_rfl) (by kernel_rfl)) ?_
  intro W base args ds gs before hval0 hW _ _
  have hval : ∀ (j : Nat) t v, Try.f3.params[j]? = some t → args[j]? = some v → Value.okWide Try.prog W .any base t v := hval0
  have hW' := hW
  obtain ⟨p, q, hA0, hV, rfl, _, _⟩ := hW
  have hA : DataW.TrodAll enc Try.prog W 0 (fun _ => true) true Try.f3.params.toList args.toList ds p := hA0
  rw [Try.params3] at hA hval
  obtain ⟨v0, v1, v2, d0, d1, d2, p0, p1, p2, rfl, rfl, rfl, h0, h1, h2⟩ := trodAll_three hA
  obtain ⟨rfl, rfl⟩ := trodVars_none hV
  have lt0 : ∀ x ∈ p0, x.block < W.heap.size := by obtain ⟨m, hm⟩ := h0; exact DataW.trod_lt m _ _ _ hm
  have lt1 : ∀ x ∈ p1, x.block < W.heap.size := by obtain ⟨m, hm⟩ := h1; exact DataW.trod_lt m _ _ _ hm
  have lt2 : ∀ x ∈ p2, x.block < W.heap.size := by obtain ⟨m, hm⟩ := h2; exact DataW.trod_lt m _ _ _ hm
  have hk0 := h0
  obtain ⟨y0, ln0, qa0, ca0, qb0, cb0, qc0, cc0, rfl, ra0, rb0, rc0⟩ := open_dfa (hval 0 25 v0 rfl rfl) h0
  have hk1 := h1
  obtain ⟨x1, rfl⟩ : ∃ x : Int, v1 = .int .i64 x := by
    obtain ⟨y, rfl⟩ := okWide_int Try.underlying3 (hval 1 3 v1 rfl rfl)
    exact ⟨y, rfl⟩
  have hk2 := h2
  obtain ⟨fuel2, hf2⟩ := h2
  obtain ⟨a2, len2, cap2, rfl⟩ := okWide_slice Try.underlying22 (hval 2 22 v2 rfl rfl)
  clear hA0 hval0
  have hw : Calls Try.prog 3 #[dfV qa0 y0.n0 ca0 y0.wd y0.st qb0 y0.n1 cb0 qc0 y0.n2 cc0, .int .i64 x1, .slice a2 len2 cap2] W fun e w' => e = .returned (.bool true) ∧ Below W.heap.size W w' := by
    obtain ⟨l, hl, hc2⟩ : ∃ l, rdL W a2 (min len2 20) l ∧ len2 ≤ cap2 := by
      rcases open_ints9 hf2 with rfl | ⟨hc, l, hl⟩
      · exact ⟨fun _ => 0, fun j hj => by simp at hj, by omega⟩
      · exact ⟨l, fun j hj => hl j (by omega), hc⟩
    exact runs_any12 (awake12 wrd_any rig_any acc_any liv_any rch_any) rig_any goo_any run_any acc_any qa0 y0.n0 ca0 y0.wd y0.st qb0 y0.n1 cb0 qc0 y0.n2 cc0 y0.l0 y0.l1 y0.T x1 a2 len2 cap2 _ rfl hc2 l W hl (fun _ => ra0) (fun _ => rb0) (fun _ => rc0)
  refine hw.mono fun e W' ⟨he, bel⟩ => ?_
  subst he
  exact ⟨_, rfl, _, _, _, [], _, [], hW', trodAll_mk1 (shut_bool Try.underlying4 _), trodAll_mk3 (Below.trod laidOut (by kernel_rfl) (of_decide_eq_true (by kernel_rfl)) hk0 bel lt0) (Below.trod laidOut (by kernel_rfl) (of_decide_eq_true (by kernel_rfl)) hk1 bel lt1) (Below.trod laidOut (by kernel_rfl) (of_decide_eq_true (by kernel_rfl)) hk2 bel lt2), rfl, bel.frame _, fun h => by cases h⟩

theorem runs12_holds : Rows.DfaRunsSaid :=
  OpenClaim.holds_of_wide 3 Try.f3 rfl rfl rfl rfl rfl rfl rfl ⟨rfl, rfl, rfl, rfl, rfl⟩ rfl rfl rfl rfl rfl (by kernel_rfl) Try.func3 (by kernel_rfl)
    (of_decide_eq_true (by kernel_rfl)) (by unfold Func.isWrapper; first | (rw [if_pos (by decide +kernel)]; kernel_rfl) | (rw [if_neg (by decide +kernel)]; exact ⟨rfl, rfl⟩))
    (fun os started H enc _ => runs12_lifted os started H enc)
#print axioms runs12_holds
end Go.Proofs.Ytpfbmbegddemoaa
