/-
  MiniOnce, for every automaton and every turn: the least one of a least automaton is itself, and that of an automaton whose states are numbered otherwise is the same. No condition.
-/
import Derived.Test.YtnoaejpabfnfpaaPk48
import Derived.Test.YtnoaejpabfnfpaaPk53
import Derived.Test.YtnoaejpabfnfpaaPk50
import Derived.HandedShaped
import Derived.ProofKit
import Derived.OpenShut
import Derived.Below
namespace Go.Proofs.Ytnoaejpabfnfpaa
open Go.ChangeMaps (open_string shut_string)
open Go.ChangeShapes Go.WideShapes Go.ChangeAt Go.RowKit Go.Deep

theorem monce13_own : ownKnob Try.prog.godebug = none := by kernel_rfl
set_option maxRecDepth 100000 in
theorem monce13_lifted (os : Os) (started : os.Started) (H : Type) (enc : TypeId × Value → H) :
    ReturnsInHanded {} Try.checked os 5 .any (Rows.miniOnceSpec.pre6 enc Try.prog Try.f5 Rows.miniOnceRow.domain false) (Rows.miniOnceSpec.post enc Try.prog Try.f5 false true false false) := by
  refine returnsInHanded_of_change (C := Try.checked) monce13_own started (by kernel_rfl) Try.func5
    (ChangeSpec.witness6 (enc := enc) (C := Try.checked) false ⟨#[], #[.agg #[.slice none 0 0, .int .i64 0, .int .i64 0, .slice none 0 0, .slice none 0 0], .int .u8 0], []⟩ 8 (by kernel_rfl) (by kernel_rfl) (by kernel_rfl) (by kernel_rfl)) ?_
  intro W base args ds gs before hval0 hW _ _
  have hval : ∀ (j : Nat) t v, Try.f5.params[j]? = some t → args[j]? = some v → Value.okWide Try.prog W .any base t v := hval0
  have hW' := hW
  obtain ⟨p, q, hA0, hV, rfl, _, _⟩ := hW
  have hA : DataW.TrodAll enc Try.prog W 0 (fun _ => true) true Try.f5.params.toList args.toList ds p := hA0
  rw [Try.params5] at hA hval
  obtain ⟨v0, v1, d0, d1, p0, p1, rfl, rfl, rfl, h0, h1⟩ := trodAll_two hA
  obtain ⟨rfl, rfl⟩ := trodVars_none hV
  have lt0 : ∀ x ∈ p0, x.block < W.heap.size := by obtain ⟨m, hm⟩ := h0; exact DataW.trod_lt m _ _ _ hm
  have lt1 : ∀ x ∈ p1, x.block < W.heap.size := by obtain ⟨m, hm⟩ := h1; exact DataW.trod_lt m _ _ _ hm
  have hk0 := h0
  obtain ⟨y0, ln0, qa0, ca0, qb0, cb0, qc0, cc0, rfl, ra0, rb0, rc0⟩ := open_dfa (hval 0 25 v0 rfl rfl) h0
  have hk1 := h1
  obtain ⟨x1, hx1, rfl⟩ : ∃ x : Nat, x < 256 ∧ v1 = .int .u8 (x : Int) := by
    have ho := hval 1 5 v1 rfl rfl
    obtain ⟨y, rfl⟩ := okWide_int Try.underlying5 ho
    simp [Value.okWide, Try.underlying5, Cell.okWide, Cell.ok, IntKind.has, IntKind.min, IntKind.max, IntKind.bits, IntKind.signed] at ho
    exact ⟨y.toNat, by omega, by rw [Int.toNat_of_nonneg (by omega)]⟩
  clear hA0 hval0
  have hw : Calls Try.prog 5 #[dfV qa0 y0.n0 ca0 y0.wd y0.st qb0 y0.n1 cb0 qc0 y0.n2 cc0, .int .u8 (x1 : Int)] W fun e w' => e = .returned (.bool true) ∧ Below W.heap.size W w' :=
    monce13 (awake13 mof_any) mof_any rig_any sam_any qa0 y0.n0 ca0 y0.wd y0.st qb0 y0.n1 cb0 qc0 y0.n2 cc0 y0.l0 y0.l1 y0.T x1 hx1 W (fun _ => ra0) (fun _ => rb0) (fun _ => rc0)
  refine hw.mono fun e W' ⟨he, bel⟩ => ?_
  subst he
  exact ⟨_, rfl, _, _, _, [], _, [], hW', trodAll_mk1 (shut_bool Try.underlying4 _), trodAll_mk2 (Below.trod laidOut (by kernel_rfl) (of_decide_eq_true (by kernel_rfl)) hk0 bel lt0) (Below.trod laidOut (by kernel_rfl) (of_decide_eq_true (by kernel_rfl)) hk1 bel lt1), rfl, bel.frame _, fun h => by cases h⟩

theorem monce13_holds : Rows.MiniOnceSaid :=
  OpenClaim.holds_of_wide 5 Try.f5 rfl rfl rfl rfl rfl rfl rfl ⟨rfl, rfl, rfl, rfl, rfl⟩ rfl rfl rfl rfl rfl (by kernel_rfl) Try.func5 (by kernel_rfl)
    (of_decide_eq_true (by kernel_rfl)) (by unfold Func.isWrapper; first | (rw [if_pos (by decide +kernel)]; kernel_rfl) | (rw [if_neg (by decide +kernel)]; exact ⟨rfl, rfl⟩))
    (fun os started H enc _ => monce13_lifted os started H enc)
#print axioms monce13_holds
end Go.Proofs.Ytnoaejpabfnfpaa
