/-
  No cell of these rows narrows 'for every input' (looked for: loops, veiled, ifaces, maps, wideKeys, modest, calm, conditions, laid).
  DERIVED. THE GIVEN ROWS OF THIS SEAT. 3 by the template 'for every input the law returns true; each argument reads behind the call as it read before'; 0 by the template 'total and deterministic' (their statements: YtefpoapbodbenaaTotals.lean).
  GIVEN WITH THE SEED: the statements are not yours to turn. If you find one false, say at which input.
  Laid BY PROGRAM, IN A SANDBOX (cutbox-rows.mjs): the forced cells as the released guide's own fill.sh prints them over the translation 7b9b19e9616d5309… (all of the seat's roots in one cut). By AI agents, Wed Nov 11 2026. No macro, syntax, notation, axiom, sorry.
-/
import Derived.Test.YtefpoapbodbenaaChecked
import GoSem.Claim
import GoSem.ClaimJoined
import GoSem.ClaimMapViews
import Derived.JoinedTies
import Derived.KernelRfl
namespace Go.Proofs.Ytefpoapbodbenaa
/- THE CELL 'sum', in the pinned program and in every row, IS THE sha256 OF THE DUMP (.gsa) THAT YtefpoapbodbenaaProg.lean LOADS. Nothing in Lean hashes anything: it is a label: what it is worth is what the hold of that sum in a sandbox is worth. -/
noncomputable def Try.pinned : Pinned := { name := "ytefpoapbodbenaa", sum := "7b9b19e9616d530910f5e0b2e264e08765307aff28fd4b383df0b3399fe8840c", checked := Try.checked }
namespace Rows
def none {H : Type} : Left H := { results := [], args := [] }

/-- 'tattinglaw14.EqualApart': WHATEVER THE INPUT: true; the input reads as it did. -/
def equalApartSpec : ChangeSpec := { name := "equalApart", fn := fun _ => fun
  | [d1, d2] => { results := [.lit (.bool true)], args := [d1, d2] }
  | _ => none }
def equalApartRow : OpenClaim := { program := "ytefpoapbodbenaa", sum := "7b9b19e9616d530910f5e0b2e264e08765307aff28fd4b383df0b3399fe8840c", func := "tatting/tattinglaw14.EqualApart", spec := "equalApart", unfollowed := true, recurses := true, plainKeys := false, apart := false }
def EqualApartSaid : Prop := equalApartRow.holds Try.pinned (OpenSpec.ofChange equalApartSpec)

/-- ITS FALSE NEIGHBOUR: 'it returns false'. Refute it at one input. -/
def equalApartWrong : ChangeSpec := { name := "equalApart", fn := fun _ => fun
  | [d1, d2] => { results := [.lit (.bool false)], args := [d1, d2] }
  | _ => none }
def EqualApartWrongFalsely : Prop := equalApartRow.holds Try.pinned (OpenSpec.ofChange equalApartWrong)

/-- 'tattinglaw14.EqualTells': WHATEVER THE INPUT: true; the input reads as it did. -/
def equalTellsSpec : ChangeSpec := { name := "equalTells", fn := fun _ => fun
  | [d1, d2] => { results := [.lit (.bool true)], args := [d1, d2] }
  | _ => none }
def equalTellsRow : OpenClaim := { program := "ytefpoapbodbenaa", sum := "7b9b19e9616d530910f5e0b2e264e08765307aff28fd4b383df0b3399fe8840c", func := "tatting/tattinglaw14.EqualTells", spec := "equalTells", unfollowed := true, recurses := true, plainKeys := false, apart := false }
def EqualTellsSaid : Prop := equalTellsRow.holds Try.pinned (OpenSpec.ofChange equalTellsSpec)

/-- ITS FALSE NEIGHBOUR: 'it returns false'. Refute it at one input. -/
def equalTellsWrong : ChangeSpec := { name := "equalTells", fn := fun _ => fun
  | [d1, d2] => { results := [.lit (.bool false)], args := [d1, d2] }
  | _ => none }
def EqualTellsWrongFalsely : Prop := equalTellsRow.holds Try.pinned (OpenSpec.ofChange equalTellsWrong)

/-- 'tattinglaw14.EqualLeast': WHATEVER THE INPUT: true; the input reads as it did. -/
def equalLeastSpec : ChangeSpec := { name := "equalLeast", fn := fun _ => fun
  | [d1, d2, d3] => { results := [.lit (.bool true)], args := [d1, d2, d3] }
  | _ => none }
def equalLeastRow : OpenClaim := { program := "ytefpoapbodbenaa", sum := "7b9b19e9616d530910f5e0b2e264e08765307aff28fd4b383df0b3399fe8840c", func := "tatting/tattinglaw14.EqualLeast", spec := "equalLeast", unfollowed := true, recurses := true, plainKeys := false, apart := false }
def EqualLeastSaid : Prop := equalLeastRow.holds Try.pinned (OpenSpec.ofChange equalLeastSpec)

/-- ITS FALSE NEIGHBOUR: 'it returns false'. Refute it at one input. -/
def equalLeastWrong : ChangeSpec := { name := "equalLeast", fn := fun _ => fun
  | [d1, d2, d3] => { results := [.lit (.bool false)], args := [d1, d2, d3] }
  | _ => none }
def EqualLeastWrongFalsely : Prop := equalLeastRow.holds Try.pinned (OpenSpec.ofChange equalLeastWrong)

/- THE SECOND FORM. 'bulk': how many values and letters a reading holds, each counted each time it is reached (what is shared counts as often as it is met; a slice's spare places count too). A statement '..UptoSaid' is the law's where the arguments, and the package variables that the reading takes, are together of bulk at most 1048576: NARROWER than '..Said'. Prove '..Said' where nothing that the law and all that it calls make is longer than what came in: it says more and counts as full. Else prove '..UptoSaid'. A law counts once. -/
mutual
def uptoBulk {H : Type} : DataW H → Nat
  | .lit (.string bytes) => bytes.length + 1
  | .lit _ => 1
  | .nil => 1
  | .ptr d => uptoBulk d + 1
  | .slice elems spare => uptoBulkAll elems + uptoBulkAll spare + 1
  | .agg parts => uptoBulkAll parts + 1
  | .iface _ d => uptoBulk d + 1
  | .map entries => uptoBulkEntries entries + 1
  | .held _ => 1
def uptoBulkAll {H : Type} : List (DataW H) → Nat
  | [] => 0
  | d :: r => uptoBulk d + uptoBulkAll r
def uptoBulkEntries {H : Type} : List (Lit × DataW H) → Nat
  | [] => 0
  | x :: r => uptoBulkEntry x + uptoBulkEntries r
def uptoBulkEntry {H : Type} : Lit × DataW H → Nat
  | (.string bytes, d) => bytes.length + uptoBulk d + 1
  | (_, d) => uptoBulk d + 1
 end
def uptoSmall : (H : Type) → List (DataW H) → Bool := fun _ ds => decide (uptoBulkAll ds ≤ 1048576)
def OpenSpec.upto (s : _root_.Go.ChangeSpec) : _root_.Go.OpenSpec := { _root_.Go.OpenSpec.ofChange s with cond := some uptoSmall }

/-- 'tattinglaw14.EqualApart', WHERE WHAT IT READS IS OF BULK AT MOST 1048576: true; the input reads as it did. -/
def equalApartUptoRow : OpenClaim := { program := "ytefpoapbodbenaa", sum := "7b9b19e9616d530910f5e0b2e264e08765307aff28fd4b383df0b3399fe8840c", func := "tatting/tattinglaw14.EqualApart", spec := "equalApart", unfollowed := true, recurses := true, plainKeys := false, apart := false, narrowed := true }
def EqualApartUptoSaid : Prop := equalApartUptoRow.holds Try.pinned (OpenSpec.upto equalApartSpec)

/-- 'tattinglaw14.EqualTells', WHERE WHAT IT READS IS OF BULK AT MOST 1048576: true; the input reads as it did. -/
def equalTellsUptoRow : OpenClaim := { program := "ytefpoapbodbenaa", sum := "7b9b19e9616d530910f5e0b2e264e08765307aff28fd4b383df0b3399fe8840c", func := "tatting/tattinglaw14.EqualTells", spec := "equalTells", unfollowed := true, recurses := true, plainKeys := false, apart := false, narrowed := true }
def EqualTellsUptoSaid : Prop := equalTellsUptoRow.holds Try.pinned (OpenSpec.upto equalTellsSpec)

/-- 'tattinglaw14.EqualLeast', WHERE WHAT IT READS IS OF BULK AT MOST 1048576: true; the input reads as it did. -/
def equalLeastUptoRow : OpenClaim := { program := "ytefpoapbodbenaa", sum := "7b9b19e9616d530910f5e0b2e264e08765307aff28fd4b383df0b3399fe8840c", func := "tatting/tattinglaw14.EqualLeast", spec := "equalLeast", unfollowed := true, recurses := true, plainKeys := false, apart := false, narrowed := true }
def EqualLeastUptoSaid : Prop := equalLeastUptoRow.holds Try.pinned (OpenSpec.upto equalLeastSpec)

end Rows
end Go.Proofs.Ytefpoapbodbenaa
