/-
  No cell of these rows narrows 'for every input' (looked for: loops, veiled, ifaces, maps, wideKeys, modest, calm, conditions, laid).
  DERIVED. THE GIVEN ROWS OF THIS SEAT. 3 by the template 'for every input the law returns true; each argument reads behind the call as it read before'; 0 by the template 'total and deterministic' (their statements: YthmkjdpmpcjinaaTotals.lean).
  GIVEN WITH THE SEED: the statements are not yours to turn. If you find one false, say at which input.
  Laid BY PROGRAM, IN A SANDBOX (cutbox-rows.mjs): the forced cells as the released guide's own fill.sh prints them over the translation eca8777d9344a855… (all of the seat's roots in one cut). By AI agents, Wed Nov 11 2026. No macro, syntax, notation, axiom, sorry.
-/
import Derived.Test.YthmkjdpmpcjinaaChecked
import GoSem.Claim
import GoSem.ClaimJoined
import GoSem.ClaimMapViews
import Derived.JoinedTies
import Derived.KernelRfl
namespace Go.Proofs.Ythmkjdpmpcjinaa
/- THE CELL 'sum', in the pinned program and in every row, IS THE sha256 OF THE DUMP (.gsa) THAT YthmkjdpmpcjinaaProg.lean LOADS. Nothing in Lean hashes anything: it is a label: what it is worth is what the hold of that sum in a sandbox is worth. -/
noncomputable def Try.pinned : Pinned := { name := "ythmkjdpmpcjinaa", sum := "eca8777d9344a85582006078efe46820673fd9c05182bc7d14f3505eff7bfff6", checked := Try.checked }
namespace Rows
def none {H : Type} : Left H := { results := [], args := [] }

/-- 'tattinglaw10.AlphaClasses': WHATEVER THE INPUT: true; the input reads as it did. -/
def alphaClassesSpec : ChangeSpec := { name := "alphaClasses", fn := fun _ => fun
  | [d] => { results := [.lit (.bool true)], args := [d] }
  | _ => none }
def alphaClassesRow : OpenClaim := { program := "ythmkjdpmpcjinaa", sum := "eca8777d9344a85582006078efe46820673fd9c05182bc7d14f3505eff7bfff6", func := "tatting/tattinglaw10.AlphaClasses", spec := "alphaClasses", plainKeys := false, apart := false }
def AlphaClassesSaid : Prop := alphaClassesRow.holds Try.pinned (OpenSpec.ofChange alphaClassesSpec)

/-- ITS FALSE NEIGHBOUR: 'it returns false'. Refute it at one input. -/
def alphaClassesWrong : ChangeSpec := { name := "alphaClasses", fn := fun _ => fun
  | [d] => { results := [.lit (.bool false)], args := [d] }
  | _ => none }
def AlphaClassesWrongFalsely : Prop := alphaClassesRow.holds Try.pinned (OpenSpec.ofChange alphaClassesWrong)

/-- 'tattinglaw10.AlphaJoins': WHATEVER THE INPUT: true; the input reads as it did. -/
def alphaJoinsSpec : ChangeSpec := { name := "alphaJoins", fn := fun _ => fun
  | [d1, d2, d3] => { results := [.lit (.bool true)], args := [d1, d2, d3] }
  | _ => none }
def alphaJoinsRow : OpenClaim := { program := "ythmkjdpmpcjinaa", sum := "eca8777d9344a85582006078efe46820673fd9c05182bc7d14f3505eff7bfff6", func := "tatting/tattinglaw10.AlphaJoins", spec := "alphaJoins", plainKeys := false, apart := false }
def AlphaJoinsSaid : Prop := alphaJoinsRow.holds Try.pinned (OpenSpec.ofChange alphaJoinsSpec)

/-- ITS FALSE NEIGHBOUR: 'it returns false'. Refute it at one input. -/
def alphaJoinsWrong : ChangeSpec := { name := "alphaJoins", fn := fun _ => fun
  | [d1, d2, d3] => { results := [.lit (.bool false)], args := [d1, d2, d3] }
  | _ => none }
def AlphaJoinsWrongFalsely : Prop := alphaJoinsRow.holds Try.pinned (OpenSpec.ofChange alphaJoinsWrong)

/-- 'tattinglaw10.AlphaSteps': WHATEVER THE INPUT: true; the input reads as it did. -/
def alphaStepsSpec : ChangeSpec := { name := "alphaSteps", fn := fun _ => fun
  | [d1, d2, d3] => { results := [.lit (.bool true)], args := [d1, d2, d3] }
  | _ => none }
def alphaStepsRow : OpenClaim := { program := "ythmkjdpmpcjinaa", sum := "eca8777d9344a85582006078efe46820673fd9c05182bc7d14f3505eff7bfff6", func := "tatting/tattinglaw10.AlphaSteps", spec := "alphaSteps", unfollowed := true, recurses := true, plainKeys := false, apart := false }
def AlphaStepsSaid : Prop := alphaStepsRow.holds Try.pinned (OpenSpec.ofChange alphaStepsSpec)

/-- ITS FALSE NEIGHBOUR: 'it returns false'. Refute it at one input. -/
def alphaStepsWrong : ChangeSpec := { name := "alphaSteps", fn := fun _ => fun
  | [d1, d2, d3] => { results := [.lit (.bool false)], args := [d1, d2, d3] }
  | _ => none }
def AlphaStepsWrongFalsely : Prop := alphaStepsRow.holds Try.pinned (OpenSpec.ofChange alphaStepsWrong)

/- THE SECOND FORM. 'bulk': how many values and letters a reading holds, each counted each time it is reached (what is shared counts as often as it is met; a slice's spare places count too). A statement '..UptoSaid' is the law's where the arguments, and the package variables that the reading takes, are together of bulk at most 1048576: NARROWER than '..Said'. Prove '..Said' where nothing that the law and all that it calls make is longer than what came in: it says more and counts as full. Else prove '..UptoSaid'. A law counts once. -/
mutual
def uptoBulk {H : Type} : DataW H → Nat
  | .lit (.string bytes) => bytes.length + 1
  | .lit _ => 1
  | .nil => 1
  | .ptr d => uptoBulk d + 1
  | .slice elems spare => uptoBulkAll elems + uptoBulkAll spare + 1
  | .agg parts => uptoBulkAll parts + 1
  | .iface _ d => uptoBulk d + 1
  | .map entries => uptoBulkEntries entries + 1
  | .held _ => 1
def uptoBulkAll {H : Type} : List (DataW H) → Nat
  | [] => 0
  | d :: r => uptoBulk d + uptoBulkAll r
def uptoBulkEntries {H : Type} : List (Lit × DataW H) → Nat
  | [] => 0
  | x :: r => uptoBulkEntry x + uptoBulkEntries r
def uptoBulkEntry {H : Type} : Lit × DataW H → Nat
  | (.string bytes, d) => bytes.length + uptoBulk d + 1
  | (_, d) => uptoBulk d + 1
 end
def uptoSmall : (H : Type) → List (DataW H) → Bool := fun _ ds => decide (uptoBulkAll ds ≤ 1048576)
def OpenSpec.upto (s : _root_.Go.ChangeSpec) : _root_.Go.OpenSpec := { _root_.Go.OpenSpec.ofChange s with cond := some uptoSmall }

/-- 'tattinglaw10.AlphaClasses', WHERE WHAT IT READS IS OF BULK AT MOST 1048576: true; the input reads as it did. -/
def alphaClassesUptoRow : OpenClaim := { program := "ythmkjdpmpcjinaa", sum := "eca8777d9344a85582006078efe46820673fd9c05182bc7d14f3505eff7bfff6", func := "tatting/tattinglaw10.AlphaClasses", spec := "alphaClasses", plainKeys := false, apart := false, narrowed := true }
def AlphaClassesUptoSaid : Prop := alphaClassesUptoRow.holds Try.pinned (OpenSpec.upto alphaClassesSpec)

/-- 'tattinglaw10.AlphaJoins', WHERE WHAT IT READS IS OF BULK AT MOST 1048576: true; the input reads as it did. -/
def alphaJoinsUptoRow : OpenClaim := { program := "ythmkjdpmpcjinaa", sum := "eca8777d9344a85582006078efe46820673fd9c05182bc7d14f3505eff7bfff6", func := "tatting/tattinglaw10.AlphaJoins", spec := "alphaJoins", plainKeys := false, apart := false, narrowed := true }
def AlphaJoinsUptoSaid : Prop := alphaJoinsUptoRow.holds Try.pinned (OpenSpec.upto alphaJoinsSpec)

/-- 'tattinglaw10.AlphaSteps', WHERE WHAT IT READS IS OF BULK AT MOST 1048576: true; the input reads as it did. -/
def alphaStepsUptoRow : OpenClaim := { program := "ythmkjdpmpcjinaa", sum := "eca8777d9344a85582006078efe46820673fd9c05182bc7d14f3505eff7bfff6", func := "tatting/tattinglaw10.AlphaSteps", spec := "alphaSteps", unfollowed := true, recurses := true, plainKeys := false, apart := false, narrowed := true }
def AlphaStepsUptoSaid : Prop := alphaStepsUptoRow.holds Try.pinned (OpenSpec.upto alphaStepsSpec)

end Rows
end Go.Proofs.Ythmkjdpmpcjinaa
