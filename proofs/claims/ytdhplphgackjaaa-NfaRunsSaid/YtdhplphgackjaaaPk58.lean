/-
  NfaRuns, for every automaton (its first thirty states count), every text (its first eight bytes count) and any two numbers: the part leads to the end just if the page says so. No condition.
-/
import Derived.Test.YtdhplphgackjaaaPk46
import Derived.Test.YtdhplphgackjaaaPk49
import Derived.Test.YtdhplphgackjaaaPk48
import Derived.Test.YtdhplphgackjaaaPk54
import Derived.HandedShaped
import Derived.ProofKit
import Derived.OpenShut
import Derived.Below
namespace Go.Proofs.Ytdhplphgackjaaa
open Go.ChangeMaps (open_string shut_string)
open Go.ChangeShapes Go.WideShapes Go.ChangeAt Go.RowKit Go.Deep

theorem runs9_own : ownKnob Try.prog.godebug = none := by kernel_rfl
set_option maxRecDepth 100000 in
theorem runs9_lifted (os : Os) (started : os.Started) (H : Type) (enc : TypeId × Value → H) :
    ReturnsInHanded {} Try.checked os 6 .any (Rows.nfaRunsSpec.pre6 enc Try.prog Try.f6 Rows.nfaRunsRow.domain false) (Rows.nfaRunsSpec.post enc Try.prog Try.f6 false true false false) := by
  refine returnsInHanded_of_change (C := Try.checked) runs9_own started (by kernel_rfl) Try.func6
    (ChangeSpec.witness6 (enc := enc) (C := Try.checked) false ⟨#[], #[.agg #[.slice none 0 0, .int .i64 0, .int .i64 0], .string ⟨#[]⟩, .agg #[.int .i64 0, .int .i64 0]], []⟩ 8 (by kernel_rfl) (by kernel_rfl) (by kernel_rfl) (by kernel_rfl)) ?_
  intro W base args ds gs before hval0 hW _ _
  have hval : ∀ (j : Nat) t v, Try.f6.params[j]? = some t → args[j]? = some v → Value.okWide Try.prog W .any base t v := hval0
  have hW' := hW
  obtain ⟨p, q, hA0, hV, rfl, _, _⟩ := hW
  have hA : DataW.TrodAll enc Try.prog W 0 (fun _ => true) true Try.f6.params.toList args.toList ds p := hA0
  rw [Try.params6] at hA hval
  obtain ⟨v0, v1, v2, d0, d1, d2, p0, p1, p2, rfl, rfl, rfl, h0, h1, h2⟩ := trodAll_three hA
  obtain ⟨rfl, rfl⟩ := trodVars_none hV
  have lt0 : ∀ x ∈ p0, x.block < W.heap.size := by obtain ⟨m, hm⟩ := h0; exact DataW.trod_lt m _ _ _ hm
  have lt2 : ∀ x ∈ p2, x.block < W.heap.size := by obtain ⟨m, hm⟩ := h2; exact DataW.trod_lt m _ _ _ hm
  have hk0 := h0
  obtain ⟨p0n, n0, cap0, st0, fin0, rfl, hn0⟩ := open_nfa (hval 0 26 v0 rfl rfl) h0
  obtain ⟨s1, rfl, rfl, rfl, ws1⟩ := open_string Try.underlying9 (hval 1 9 v1 rfl rfl) h1
  have hk2 := h2
  obtain ⟨i2, j2, rfl⟩ := open_two (hval 2 50 v2 rfl rfl) h2
  clear hA0 hval0
  have hw : Calls Try.prog 6 #[nfV p0n n0 cap0 st0 fin0, .string s1, .agg #[.int .i64 i2, .int .i64 j2]] W fun e w' => e = .returned (.bool true) ∧ Below W.heap.size W w' := by
    obtain ⟨S, hS, hok, hcap⟩ : ∃ S, stsAt W p0n (min n0 30) S ∧ (∀ q, q < min n0 30 → okWs (S q)) ∧ (n0 ≤ cap0 ∨ n0 = 0) := by
      rcases hn0 with rfl | ⟨b, off, S, rfl, hpos, hcap, hS, hok⟩
      · exact ⟨fun _ => fin9, ⟨.inl (by simp), fun b off e j hj => by simp at hj⟩, fun q hq => by simp at hq, .inr rfl⟩
      · exact ⟨S, sts_take ⟨.inr ⟨b, off, rfl⟩, fun b' o' e => by cases e; exact hS⟩ (Nat.min_le_left _ _), fun q hq => hok q (by omega), .inl hcap⟩
    have hcap : n0 ≤ cap0 := by rcases hcap with h | h <;> omega
    exact runs9_any bld_any rgt_any fit_any p0n n0 cap0 _ rfl hcap S st0 fin0 s1 _ rfl i2 j2 W hS hok
  refine hw.mono fun e W' ⟨he, bel⟩ => ?_
  subst he
  exact ⟨_, rfl, _, _, _, [], _, [], hW', trodAll_mk1 (shut_bool Try.underlying4 _), trodAll_mk3 (Below.trod laidOut (by kernel_rfl) (of_decide_eq_true (by kernel_rfl)) hk0 bel lt0) (shut_string Try.underlying9 ws1) (Below.trod laidOut (by kernel_rfl) (of_decide_eq_true (by kernel_rfl)) hk2 bel lt2), rfl, bel.frame _, fun h => by cases h⟩

theorem runs9_holds : Rows.NfaRunsSaid :=
  OpenClaim.holds_of_wide 6 Try.f6 rfl rfl rfl rfl rfl rfl rfl ⟨rfl, rfl, rfl, rfl, rfl⟩ rfl rfl rfl rfl rfl (by kernel_rfl) Try.func6 (by kernel_rfl)
    (of_decide_eq_true (by kernel_rfl)) (by unfold Func.isWrapper; first | (rw [if_pos (by decide +kernel)]; kernel_rfl) | (rw [if_neg (by decide +kernel)]; exact ⟨rfl, rfl⟩))
    (fun os started H enc _ => runs9_lifted os started H enc)
#print axioms runs9_holds
end Go.Proofs.Ytdhplphgackjaaa
