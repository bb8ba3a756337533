/-
  No cell of these rows narrows 'for every input' (looked for: loops, veiled, ifaces, maps, wideKeys, modest, calm, conditions, laid).
  DERIVED. THE GIVEN ROWS OF THIS SEAT. 3 by the template 'for every input the law returns true; each argument reads behind the call as it read before'; 0 by the template 'total and deterministic' (their statements: YtepegohopgnmnaaTotals.lean).
  GIVEN WITH THE SEED: the statements are not yours to turn. If you find one false, say at which input.
  Laid BY PROGRAM, IN A SANDBOX (cutbox-rows.mjs): the forced cells as the released guide's own fill.sh prints them over the translation 1b0a486af69bdc26… (all of the seat's roots in one cut). By AI agents, Wed Nov 11 2026. No macro, syntax, notation, axiom, sorry.
-/
import Derived.Test.YtepegohopgnmnaaChecked
import GoSem.Claim
import GoSem.ClaimJoined
import GoSem.ClaimMapViews
import Derived.JoinedTies
import Derived.KernelRfl
namespace Go.Proofs.Ytepegohopgnmnaa
/- THE CELL 'sum', in the pinned program and in every row, IS THE sha256 OF THE DUMP (.gsa) THAT YtepegohopgnmnaaProg.lean LOADS. Nothing in Lean hashes anything: it is a label: what it is worth is what the hold of that sum in a sandbox is worth. -/
noncomputable def Try.pinned : Pinned := { name := "ytepegohopgnmnaa", sum := "1b0a486af69bdc263084369d31d593ccc95b6a99406fa7cd58adad9ff028f53e", checked := Try.checked }
namespace Rows
def none {H : Type} : Left H := { results := [], args := [] }

/-- 'tattinglaw11.SubsetBuilds': WHATEVER THE INPUT: true; the input reads as it did. -/
def subsetBuildsSpec : ChangeSpec := { name := "subsetBuilds", fn := fun _ => fun
  | [d1, d2] => { results := [.lit (.bool true)], args := [d1, d2] }
  | _ => none }
def subsetBuildsRow : OpenClaim := { program := "ytepegohopgnmnaa", sum := "1b0a486af69bdc263084369d31d593ccc95b6a99406fa7cd58adad9ff028f53e", func := "tatting/tattinglaw11.SubsetBuilds", spec := "subsetBuilds", unfollowed := true, recurses := true, plainKeys := false, apart := false }
def SubsetBuildsSaid : Prop := subsetBuildsRow.holds Try.pinned (OpenSpec.ofChange subsetBuildsSpec)

/-- ITS FALSE NEIGHBOUR: 'it returns false'. Refute it at one input. -/
def subsetBuildsWrong : ChangeSpec := { name := "subsetBuilds", fn := fun _ => fun
  | [d1, d2] => { results := [.lit (.bool false)], args := [d1, d2] }
  | _ => none }
def SubsetBuildsWrongFalsely : Prop := subsetBuildsRow.holds Try.pinned (OpenSpec.ofChange subsetBuildsWrong)

/-- 'tattinglaw11.SubsetCounts': WHATEVER THE INPUT: true; the input reads as it did. -/
def subsetCountsSpec : ChangeSpec := { name := "subsetCounts", fn := fun _ => fun
  | [d1, d2] => { results := [.lit (.bool true)], args := [d1, d2] }
  | _ => none }
def subsetCountsRow : OpenClaim := { program := "ytepegohopgnmnaa", sum := "1b0a486af69bdc263084369d31d593ccc95b6a99406fa7cd58adad9ff028f53e", func := "tatting/tattinglaw11.SubsetCounts", spec := "subsetCounts", unfollowed := true, recurses := true, plainKeys := false, apart := false }
def SubsetCountsSaid : Prop := subsetCountsRow.holds Try.pinned (OpenSpec.ofChange subsetCountsSpec)

/-- ITS FALSE NEIGHBOUR: 'it returns false'. Refute it at one input. -/
def subsetCountsWrong : ChangeSpec := { name := "subsetCounts", fn := fun _ => fun
  | [d1, d2] => { results := [.lit (.bool false)], args := [d1, d2] }
  | _ => none }
def SubsetCountsWrongFalsely : Prop := subsetCountsRow.holds Try.pinned (OpenSpec.ofChange subsetCountsWrong)

/-- 'tattinglaw11.SubsetFits': WHATEVER THE INPUT: true; the input reads as it did. -/
def subsetFitsSpec : ChangeSpec := { name := "subsetFits", fn := fun _ => fun
  | [d1, d2] => { results := [.lit (.bool true)], args := [d1, d2] }
  | _ => none }
def subsetFitsRow : OpenClaim := { program := "ytepegohopgnmnaa", sum := "1b0a486af69bdc263084369d31d593ccc95b6a99406fa7cd58adad9ff028f53e", func := "tatting/tattinglaw11.SubsetFits", spec := "subsetFits", unfollowed := true, recurses := true, plainKeys := false, apart := false }
def SubsetFitsSaid : Prop := subsetFitsRow.holds Try.pinned (OpenSpec.ofChange subsetFitsSpec)

/-- ITS FALSE NEIGHBOUR: 'it returns false'. Refute it at one input. -/
def subsetFitsWrong : ChangeSpec := { name := "subsetFits", fn := fun _ => fun
  | [d1, d2] => { results := [.lit (.bool false)], args := [d1, d2] }
  | _ => none }
def SubsetFitsWrongFalsely : Prop := subsetFitsRow.holds Try.pinned (OpenSpec.ofChange subsetFitsWrong)

/- THE SECOND FORM. 'bulk': how many values and letters a reading holds, each counted each time it is reached (what is shared counts as often as it is met; a slice's spare places count too). A statement '..UptoSaid' is the law's where the arguments, and the package variables that the reading takes, are together of bulk at most 1048576: NARROWER than '..Said'. Prove '..Said' where nothing that the law and all that it calls make is longer than what came in: it says more and counts as full. Else prove '..UptoSaid'. A law counts once. -/
mutual
def uptoBulk {H : Type} : DataW H → Nat
  | .lit (.string bytes) => bytes.length + 1
  | .lit _ => 1
  | .nil => 1
  | .ptr d => uptoBulk d + 1
  | .slice elems spare => uptoBulkAll elems + uptoBulkAll spare + 1
  | .agg parts => uptoBulkAll parts + 1
  | .iface _ d => uptoBulk d + 1
  | .map entries => uptoBulkEntries entries + 1
  | .held _ => 1
def uptoBulkAll {H : Type} : List (DataW H) → Nat
  | [] => 0
  | d :: r => uptoBulk d + uptoBulkAll r
def uptoBulkEntries {H : Type} : List (Lit × DataW H) → Nat
  | [] => 0
  | x :: r => uptoBulkEntry x + uptoBulkEntries r
def uptoBulkEntry {H : Type} : Lit × DataW H → Nat
  | (.string bytes, d) => bytes.length + uptoBulk d + 1
  | (_, d) => uptoBulk d + 1
 end
def uptoSmall : (H : Type) → List (DataW H) → Bool := fun _ ds => decide (uptoBulkAll ds ≤ 1048576)
def OpenSpec.upto (s : _root_.Go.ChangeSpec) : _root_.Go.OpenSpec := { _root_.Go.OpenSpec.ofChange s with cond := some uptoSmall }

/-- 'tattinglaw11.SubsetBuilds', WHERE WHAT IT READS IS OF BULK AT MOST 1048576: true; the input reads as it did. -/
def subsetBuildsUptoRow : OpenClaim := { program := "ytepegohopgnmnaa", sum := "1b0a486af69bdc263084369d31d593ccc95b6a99406fa7cd58adad9ff028f53e", func := "tatting/tattinglaw11.SubsetBuilds", spec := "subsetBuilds", unfollowed := true, recurses := true, plainKeys := false, apart := false, narrowed := true }
def SubsetBuildsUptoSaid : Prop := subsetBuildsUptoRow.holds Try.pinned (OpenSpec.upto subsetBuildsSpec)

/-- 'tattinglaw11.SubsetCounts', WHERE WHAT IT READS IS OF BULK AT MOST 1048576: true; the input reads as it did. -/
def subsetCountsUptoRow : OpenClaim := { program := "ytepegohopgnmnaa", sum := "1b0a486af69bdc263084369d31d593ccc95b6a99406fa7cd58adad9ff028f53e", func := "tatting/tattinglaw11.SubsetCounts", spec := "subsetCounts", unfollowed := true, recurses := true, plainKeys := false, apart := false, narrowed := true }
def SubsetCountsUptoSaid : Prop := subsetCountsUptoRow.holds Try.pinned (OpenSpec.upto subsetCountsSpec)

/-- 'tattinglaw11.SubsetFits', WHERE WHAT IT READS IS OF BULK AT MOST 1048576: true; the input reads as it did. -/
def subsetFitsUptoRow : OpenClaim := { program := "ytepegohopgnmnaa", sum := "1b0a486af69bdc263084369d31d593ccc95b6a99406fa7cd58adad9ff028f53e", func := "tatting/tattinglaw11.SubsetFits", spec := "subsetFits", unfollowed := true, recurses := true, plainKeys := false, apart := false, narrowed := true }
def SubsetFitsUptoSaid : Prop := subsetFitsUptoRow.holds Try.pinned (OpenSpec.upto subsetFitsSpec)

end Rows
end Go.Proofs.Ytepegohopgnmnaa
