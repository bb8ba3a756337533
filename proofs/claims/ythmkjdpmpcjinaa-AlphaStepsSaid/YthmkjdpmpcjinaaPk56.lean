/-
  AlphaSteps, for every automaton (its first sixty states count), every list of numbers (its first twenty count) and any two bytes: of one class, they lead to the same states. No condition.
-/
import Derived.Test.YthmkjdpmpcjinaaPk45
import Derived.Test.YthmkjdpmpcjinaaPk52
import Derived.Test.YthmkjdpmpcjinaaPk49
import Derived.Test.YthmkjdpmpcjinaaPk53
import Derived.HandedShaped
import Derived.ProofKit
import Derived.OpenShut
import Derived.Below
namespace Go.Proofs.Ythmkjdpmpcjinaa
open Go.ChangeMaps (open_string shut_string)
open Go.ChangeShapes Go.WideShapes Go.ChangeAt Go.RowKit Go.Deep

theorem ast10_own : ownKnob Try.prog.godebug = none := by kernel_rfl
set_option maxRecDepth 100000 in
theorem ast10_lifted (os : Os) (started : os.Started) (H : Type) (enc : TypeId × Value → H) :
    ReturnsInHanded {} Try.checked os 5 .any (Rows.alphaStepsSpec.pre6 enc Try.prog Try.f5 Rows.alphaStepsRow.domain false) (Rows.alphaStepsSpec.post enc Try.prog Try.f5 false true false false) := by
  refine returnsInHanded_of_change (C := Try.checked) ast10_own started (by kernel_rfl) Try.func5
    (ChangeSpec.witness6 (enc := enc) (C := Try.checked) false ⟨#[], #[.agg #[.slice none 0 0, .int .i64 0, .int .i64 0], .slice none 0 0, .agg #[.int .u8 0, .int .u8 0]], []⟩ 8 (by kernel_rfl) (by kernel_rfl) (by kernel_rfl) (by kernel_rfl)) ?_
  intro W base args ds gs before hval0 hW _ _
  have hval : ∀ (j : Nat) t v, Try.f5.params[j]? = some t → args[j]? = some v → Value.okWide Try.prog W .any base t v := hval0
  have hW' := hW
  obtain ⟨p, q, hA0, hV, rfl, _, _⟩ := hW
  have hA : DataW.TrodAll enc Try.prog W 0 (fun _ => true) true Try.f5.params.toList args.toList ds p := hA0
  rw [Try.params5] at hA hval
  obtain ⟨v0, v1, v2, d0, d1, d2, p0, p1, p2, rfl, rfl, rfl, h0, h1, h2⟩ := trodAll_three hA
  obtain ⟨rfl, rfl⟩ := trodVars_none hV
  have lt0 : ∀ x ∈ p0, x.block < W.heap.size := by obtain ⟨m, hm⟩ := h0; exact DataW.trod_lt m _ _ _ hm
  have lt1 : ∀ x ∈ p1, x.block < W.heap.size := by obtain ⟨m, hm⟩ := h1; exact DataW.trod_lt m _ _ _ hm
  have lt2 : ∀ x ∈ p2, x.block < W.heap.size := by obtain ⟨m, hm⟩ := h2; exact DataW.trod_lt m _ _ _ hm
  have hk0 := h0
  obtain ⟨p0n, n0, cap0, st0, fin0, rfl, hn0⟩ := open_nfa (hval 0 24 v0 rfl rfl) h0
  have hk1 := h1
  obtain ⟨fuel1, hf1⟩ := h1
  obtain ⟨a1, len1, cap1, rfl⟩ := okWide_slice Try.underlying26 (hval 1 26 v1 rfl rfl)
  have hk2 := h2
  obtain ⟨i2, j2, hi2, hj2, rfl⟩ := open_two8 (hval 2 34 v2 rfl rfl) h2
  clear hA0 hval0
  have hw : Calls Try.prog 5 #[nfV p0n n0 cap0 st0 fin0, .slice a1 len1 cap1, .agg #[.int .u8 (i2 : Int), .int .u8 (j2 : Int)]] W fun e w' => e = .returned (.bool true) ∧ Below W.heap.size W w' := by
    obtain ⟨S, hS, hok, hcap⟩ : ∃ S, stsAt W p0n (min n0 60) S ∧ (∀ q, q < min n0 60 → okWs (S q)) ∧ (n0 ≤ cap0 ∨ n0 = 0) := by
      rcases hn0 with rfl | ⟨b, off, S, rfl, hpos, hcap, hS, hok⟩
      · exact ⟨fun _ => fin9, ⟨.inl (by simp), fun b off e j hj => by simp at hj⟩, fun q hq => by simp at hq, .inr rfl⟩
      · exact ⟨S, ⟨.inr ⟨b, off, rfl⟩, fun b' o' e => by cases e; exact fun j hj => hS j (by omega)⟩, fun q hq => hok q (by omega), .inl hcap⟩
    have hcap : n0 ≤ cap0 := by rcases hcap with h | h <;> omega
    obtain ⟨l1, hl1, hc1⟩ : ∃ l, rdL W a1 (min len1 20) l ∧ len1 ≤ cap1 := by
      rcases open_ints9 hf1 with rfl | ⟨hc, l, hl⟩
      · exact ⟨fun _ => 0, fun j hj => by simp at hj, by omega⟩
      · exact ⟨l, fun j hj => hl j (by omega), hc⟩
    exact steps_any cls_any joi_any frs_any rgt_any stp_any p0n n0 cap0 _ rfl hcap S st0 fin0 a1 len1 cap1 _ rfl hc1 l1 i2 j2 hi2 hj2 W hS hok hl1
  refine hw.mono fun e W' ⟨he, bel⟩ => ?_
  subst he
  exact ⟨_, rfl, _, _, _, [], _, [], hW', trodAll_mk1 (shut_bool Try.underlying4 _), trodAll_mk3 (Below.trod laidOut (by kernel_rfl) (of_decide_eq_true (by kernel_rfl)) hk0 bel lt0) (Below.trod laidOut (by kernel_rfl) (of_decide_eq_true (by kernel_rfl)) hk1 bel lt1) (Below.trod laidOut (by kernel_rfl) (of_decide_eq_true (by kernel_rfl)) hk2 bel lt2), rfl, bel.frame _, fun h => by cases h⟩

theorem ast10_holds : Rows.AlphaStepsSaid :=
  OpenClaim.holds_of_wide 5 Try.f5 rfl rfl rfl rfl rfl rfl rfl ⟨rfl, rfl, rfl, rfl, rfl⟩ rfl rfl rfl rfl rfl (by kernel_rfl) Try.func5 (by kernel_rfl)
    (of_decide_eq_true (by kernel_rfl)) (by unfold Func.isWrapper; first | (rw [if_pos (by decide +kernel)]; kernel_rfl) | (rw [if_neg (by decide +kernel)]; exact ⟨rfl, rfl⟩))
    (fun os started H enc _ => ast10_lifted os started H enc)
#print axioms ast10_holds
end Go.Proofs.Ythmkjdpmpcjinaa
