/-
  EqualLeast, for any two automata and every word (its first thirty symbols count): they are told apart just if their least ones part; no symbols tell apart what nothing does. No condition.
-/
import Derived.Test.YtefpoapbodbenaaPk56
import Derived.Test.YtefpoapbodbenaaPk22
import Derived.Test.YtefpoapbodbenaaPk23
import Derived.Laws.IdiomStrings
import Derived.Test.YtefpoapbodbenaaPk57
import Derived.Test.YtefpoapbodbenaaPk44
import Derived.Test.YtefpoapbodbenaaPk58
import Derived.HandedShaped
import Derived.ProofKit
import Derived.OpenShut
import Derived.Below
namespace Go.Proofs.Ytefpoapbodbenaa
open Go.ChangeMaps (open_string shut_string)
open Go.ChangeShapes Go.WideShapes Go.ChangeAt Go.RowKit Go.Deep

theorem eleast14_own : ownKnob Try.prog.godebug = none := by kernel_rfl
set_option maxRecDepth 100000 in
theorem eleast14_lifted (os : Os) (started : os.Started) (H : Type) (enc : TypeId × Value → H) :
    ReturnsInHanded {} Try.checked os 5 .any (Rows.equalLeastSpec.pre6 enc Try.prog Try.f5 Rows.equalLeastRow.domain false) (Rows.equalLeastSpec.post enc Try.prog Try.f5 false true false false) := by
  refine returnsInHanded_of_change (C := Try.checked) eleast14_own started (by kernel_rfl) Try.func5
    (ChangeSpec.witness6 (enc := enc) (C := Try.checked) false ⟨#[], #[.agg #[.slice none 0 0, .int .i64 0, .int .i64 0, .slice none 0 0, .slice none 0 0], .agg #[.slice none 0 0, .int .i64 0, .int .i64 0, .slice none 0 0, .slice none 0 0], .slice none 0 0], []⟩ 8 (by kernel_rfl) (by kernel_rfl) (by kernel_rfl) (by kernel_rfl)) ?_
  intro W base args ds gs before hval0 hW _ _
  have hval : ∀ (j : Nat) t v, Try.f5.params[j]? = some t → args[j]? = some v → Value.okWide Try.prog W .any base t v := hval0
  have hW' := hW
  obtain ⟨p, q, hA0, hV, rfl, _, _⟩ := hW
  have hA : DataW.TrodAll enc Try.prog W 0 (fun _ => true) true Try.f5.params.toList args.toList ds p := hA0
  rw [Try.params5] at hA hval
  obtain ⟨v0, v1, v2, d0, d1, d2, p0, p1, p2, rfl, rfl, rfl, h0, h1, h2⟩ := trodAll_three hA
  obtain ⟨rfl, rfl⟩ := trodVars_none hV
  have lt0 : ∀ x ∈ p0, x.block < W.heap.size := by obtain ⟨m, hm⟩ := h0; exact DataW.trod_lt m _ _ _ hm
  have lt1 : ∀ x ∈ p1, x.block < W.heap.size := by obtain ⟨m, hm⟩ := h1; exact DataW.trod_lt m _ _ _ hm
  have lt2 : ∀ x ∈ p2, x.block < W.heap.size := by obtain ⟨m, hm⟩ := h2; exact DataW.trod_lt m _ _ _ hm
  have hk0 := h0
  obtain ⟨y0, ln0, qa0, ca0, qb0, cb0, qc0, cc0, rfl, ra0, rb0, rc0⟩ := open_dfa (hval 0 25 v0 rfl rfl) h0
  have hk1 := h1
  obtain ⟨y1, ln1, qa1, ca1, qb1, cb1, qc1, cc1, rfl, ra1, rb1, rc1⟩ := open_dfa (hval 1 25 v1 rfl rfl) h1
  have hk2 := h2
  obtain ⟨fuel2, hf2⟩ := h2
  obtain ⟨a2, len2, cap2, rfl⟩ := okWide_slice Try.underlying22 (hval 2 22 v2 rfl rfl)
  clear hA0 hval0
  have hw : Calls Try.prog 5 #[dfV qa0 y0.n0 ca0 y0.wd y0.st qb0 y0.n1 cb0 qc0 y0.n2 cc0, dfV qa1 y1.n0 ca1 y1.wd y1.st qb1 y1.n1 cb1 qc1 y1.n2 cc1, .slice a2 len2 cap2] W fun e w' => e = .returned (.bool true) ∧ Below W.heap.size W w' := by
    obtain ⟨l, hl, hc2⟩ : ∃ l, rdL W a2 (min len2 30) l ∧ len2 ≤ cap2 := by
      rcases open_ints9 hf2 with rfl | ⟨hc, l, hl⟩
      · exact ⟨fun _ => 0, fun j hj => by simp at hj, by omega⟩
      · exact ⟨l, fun j hj => hl j (by omega), hc⟩
    exact eleast14 (awake14 apt_any emp_any) apt_any mof_any sam_any acc_any qa0 ca0 qb0 cb0 qc0 cc0 qa1 ca1 qb1 cb1 qc1 cc1 y0 y1 a2 len2 cap2 _ rfl hc2 l W ⟨qa0, ca0, qb0, cb0, qc0, cc0, rfl, ra0, rb0, rc0⟩ ⟨qa1, ca1, qb1, cb1, qc1, cc1, rfl, ra1, rb1, rc1⟩ hl
  refine hw.mono fun e W' ⟨he, bel⟩ => ?_
  subst he
  exact ⟨_, rfl, _, _, _, [], _, [], hW', trodAll_mk1 (shut_bool Try.underlying4 _), trodAll_mk3 (Below.trod laidOut (by kernel_rfl) (of_decide_eq_true (by kernel_rfl)) hk0 bel lt0) (Below.trod laidOut (by kernel_rfl) (of_decide_eq_true (by kernel_rfl)) hk1 bel lt1) (Below.trod laidOut (by kernel_rfl) (of_decide_eq_true (by kernel_rfl)) hk2 bel lt2), rfl, bel.frame _, fun h => by cases h⟩

theorem eleast14_holds : Rows.EqualLeastSaid :=
  OpenClaim.holds_of_wide 5 Try.f5 rfl rfl rfl rfl rfl rfl rfl ⟨rfl, rfl, rfl, rfl, rfl⟩ rfl rfl rfl rfl rfl (by kernel_rfl) Try.func5 (by kernel_rfl)
    (of_decide_eq_true (by kernel_rfl)) (by unfold Func.isWrapper; first | (rw [if_pos (by decide +kernel)]; kernel_rfl) | (rw [if_neg (by decide +kernel)]; exact ⟨rfl, rfl⟩))
    (fun os started H enc _ => eleast14_lifted os started H enc)
#print axioms eleast14_holds
end Go.Proofs.Ytefpoapbodbenaa
