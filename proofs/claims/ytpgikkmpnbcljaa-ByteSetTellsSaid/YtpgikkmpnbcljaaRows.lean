/-
  No cell of these rows narrows 'for every input' (looked for: loops, veiled, ifaces, maps, wideKeys, modest, calm, conditions, laid).
  DERIVED. THE GIVEN ROWS OF THIS SEAT. 4 by the template 'for every input the law returns true; each argument reads behind the call as it read before'; 0 by the template 'total and deterministic' (their statements: YtpgikkmpnbcljaaTotals.lean).
  GIVEN WITH THE SEED: the statements are not yours to turn. If you find one false, say at which input.
  Laid BY PROGRAM, IN A SANDBOX (cutbox-rows.mjs): the forced cells as the released guide's own fill.sh prints them over the translation 293fb9435e9f51bc… (all of the seat's roots in one cut). By AI agents, Wed Nov 11 2026. No macro, syntax, notation, axiom, sorry.
-/
import Derived.Test.YtpgikkmpnbcljaaChecked
import GoSem.Claim
import GoSem.ClaimJoined
import GoSem.ClaimMapViews
import Derived.JoinedTies
import Derived.KernelRfl
namespace Go.Proofs.Ytpgikkmpnbcljaa
/- THE CELL 'sum', in the pinned program and in every row, IS THE sha256 OF THE DUMP (.gsa) THAT YtpgikkmpnbcljaaProg.lean LOADS. Nothing in Lean hashes anything: it is a label: what it is worth is what the hold of that sum in a sandbox is worth. -/
noncomputable def Try.pinned : Pinned := { name := "ytpgikkmpnbcljaa", sum := "293fb9435e9f51bc0e66572ac578670944ed5b8bb6b8c4a7447405f80e05b1b2", checked := Try.checked }
namespace Rows
def none {H : Type} : Left H := { results := [], args := [] }

/-- 'tattinglaw01.ByteSetJoins': WHATEVER THE INPUT: true; the input reads as it did. -/
def byteSetJoinsSpec : ChangeSpec := { name := "byteSetJoins", fn := fun _ => fun
  | [d1, d2, d3] => { results := [.lit (.bool true)], args := [d1, d2, d3] }
  | _ => none }
def byteSetJoinsRow : OpenClaim := { program := "ytpgikkmpnbcljaa", sum := "293fb9435e9f51bc0e66572ac578670944ed5b8bb6b8c4a7447405f80e05b1b2", func := "tatting/tattinglaw01.ByteSetJoins", spec := "byteSetJoins", unfollowed := true, recurses := true, apart := false }
def ByteSetJoinsSaid : Prop := byteSetJoinsRow.holds Try.pinned (OpenSpec.ofChange byteSetJoinsSpec)

/-- ITS FALSE NEIGHBOUR: 'it returns false'. Refute it at one input. -/
def byteSetJoinsWrong : ChangeSpec := { name := "byteSetJoins", fn := fun _ => fun
  | [d1, d2, d3] => { results := [.lit (.bool false)], args := [d1, d2, d3] }
  | _ => none }
def ByteSetJoinsWrongFalsely : Prop := byteSetJoinsRow.holds Try.pinned (OpenSpec.ofChange byteSetJoinsWrong)

/-- 'tattinglaw01.ByteSetTells': WHATEVER THE INPUT: true; the input reads as it did. -/
def byteSetTellsSpec : ChangeSpec := { name := "byteSetTells", fn := fun _ => fun
  | [d1, d2, d3] => { results := [.lit (.bool true)], args := [d1, d2, d3] }
  | _ => none }
def byteSetTellsRow : OpenClaim := { program := "ytpgikkmpnbcljaa", sum := "293fb9435e9f51bc0e66572ac578670944ed5b8bb6b8c4a7447405f80e05b1b2", func := "tatting/tattinglaw01.ByteSetTells", spec := "byteSetTells", unfollowed := true, recurses := true, apart := false }
def ByteSetTellsSaid : Prop := byteSetTellsRow.holds Try.pinned (OpenSpec.ofChange byteSetTellsSpec)

/-- ITS FALSE NEIGHBOUR: 'it returns false'. Refute it at one input. -/
def byteSetTellsWrong : ChangeSpec := { name := "byteSetTells", fn := fun _ => fun
  | [d1, d2, d3] => { results := [.lit (.bool false)], args := [d1, d2, d3] }
  | _ => none }
def ByteSetTellsWrongFalsely : Prop := byteSetTellsRow.holds Try.pinned (OpenSpec.ofChange byteSetTellsWrong)

/-- 'tattinglaw01.ByteSetRuns': WHATEVER THE INPUT: true; the input reads as it did. -/
def byteSetRunsSpec : ChangeSpec := { name := "byteSetRuns", fn := fun _ => fun
  | [d] => { results := [.lit (.bool true)], args := [d] }
  | _ => none }
def byteSetRunsRow : OpenClaim := { program := "ytpgikkmpnbcljaa", sum := "293fb9435e9f51bc0e66572ac578670944ed5b8bb6b8c4a7447405f80e05b1b2", func := "tatting/tattinglaw01.ByteSetRuns", spec := "byteSetRuns", unfollowed := true, recurses := true, apart := false }
def ByteSetRunsSaid : Prop := byteSetRunsRow.holds Try.pinned (OpenSpec.ofChange byteSetRunsSpec)

/-- ITS FALSE NEIGHBOUR: 'it returns false'. Refute it at one input. -/
def byteSetRunsWrong : ChangeSpec := { name := "byteSetRuns", fn := fun _ => fun
  | [d] => { results := [.lit (.bool false)], args := [d] }
  | _ => none }
def ByteSetRunsWrongFalsely : Prop := byteSetRunsRow.holds Try.pinned (OpenSpec.ofChange byteSetRunsWrong)

/-- 'tattinglaw01.ByteSetTurns': WHATEVER THE INPUT: true; the input reads as it did. -/
def byteSetTurnsSpec : ChangeSpec := { name := "byteSetTurns", fn := fun _ => fun
  | [d1, d2] => { results := [.lit (.bool true)], args := [d1, d2] }
  | _ => none }
def byteSetTurnsRow : OpenClaim := { program := "ytpgikkmpnbcljaa", sum := "293fb9435e9f51bc0e66572ac578670944ed5b8bb6b8c4a7447405f80e05b1b2", func := "tatting/tattinglaw01.ByteSetTurns", spec := "byteSetTurns", unfollowed := true, recurses := true, apart := false }
def ByteSetTurnsSaid : Prop := byteSetTurnsRow.holds Try.pinned (OpenSpec.ofChange byteSetTurnsSpec)

/-- ITS FALSE NEIGHBOUR: 'it returns false'. Refute it at one input. -/
def byteSetTurnsWrong : ChangeSpec := { name := "byteSetTurns", fn := fun _ => fun
  | [d1, d2] => { results := [.lit (.bool false)], args := [d1, d2] }
  | _ => none }
def ByteSetTurnsWrongFalsely : Prop := byteSetTurnsRow.holds Try.pinned (OpenSpec.ofChange byteSetTurnsWrong)

/- THE SECOND FORM. 'bulk': how many values and letters a reading holds, each counted each time it is reached (what is shared counts as often as it is met; a slice's spare places count too). A statement '..UptoSaid' is the law's where the arguments, and the package variables that the reading takes, are together of bulk at most 1048576: NARROWER than '..Said'. Prove '..Said' where nothing that the law and all that it calls make is longer than what came in: it says more and counts as full. Else prove '..UptoSaid'. A law counts once. -/
mutual
def uptoBulk {H : Type} : DataW H → Nat
  | .lit (.string bytes) => bytes.length + 1
  | .lit _ => 1
  | .nil => 1
  | .ptr d => uptoBulk d + 1
  | .slice elems spare => uptoBulkAll elems + uptoBulkAll spare + 1
  | .agg parts => uptoBulkAll parts + 1
  | .iface _ d => uptoBulk d + 1
  | .map entries => uptoBulkEntries entries + 1
  | .held _ => 1
def uptoBulkAll {H : Type} : List (DataW H) → Nat
  | [] => 0
  | d :: r => uptoBulk d + uptoBulkAll r
def uptoBulkEntries {H : Type} : List (Lit × DataW H) → Nat
  | [] => 0
  | x :: r => uptoBulkEntry x + uptoBulkEntries r
def uptoBulkEntry {H : Type} : Lit × DataW H → Nat
  | (.string bytes, d) => bytes.length + uptoBulk d + 1
  | (_, d) => uptoBulk d + 1
 end
def uptoSmall : (H : Type) → List (DataW H) → Bool := fun _ ds => decide (uptoBulkAll ds ≤ 1048576)
def OpenSpec.upto (s : _root_.Go.ChangeSpec) : _root_.Go.OpenSpec := { _root_.Go.OpenSpec.ofChange s with cond := some uptoSmall }

/-- 'tattinglaw01.ByteSetJoins', WHERE WHAT IT READS IS OF BULK AT MOST 1048576: true; the input reads as it did. -/
def byteSetJoinsUptoRow : OpenClaim := { program := "ytpgikkmpnbcljaa", sum := "293fb9435e9f51bc0e66572ac578670944ed5b8bb6b8c4a7447405f80e05b1b2", func := "tatting/tattinglaw01.ByteSetJoins", spec := "byteSetJoins", unfollowed := true, recurses := true, apart := false, narrowed := true }
def ByteSetJoinsUptoSaid : Prop := byteSetJoinsUptoRow.holds Try.pinned (OpenSpec.upto byteSetJoinsSpec)

/-- 'tattinglaw01.ByteSetTells', WHERE WHAT IT READS IS OF BULK AT MOST 1048576: true; the input reads as it did. -/
def byteSetTellsUptoRow : OpenClaim := { program := "ytpgikkmpnbcljaa", sum := "293fb9435e9f51bc0e66572ac578670944ed5b8bb6b8c4a7447405f80e05b1b2", func := "tatting/tattinglaw01.ByteSetTells", spec := "byteSetTells", unfollowed := true, recurses := true, apart := false, narrowed := true }
def ByteSetTellsUptoSaid : Prop := byteSetTellsUptoRow.holds Try.pinned (OpenSpec.upto byteSetTellsSpec)

/-- 'tattinglaw01.ByteSetRuns', WHERE WHAT IT READS IS OF BULK AT MOST 1048576: true; the input reads as it did. -/
def byteSetRunsUptoRow : OpenClaim := { program := "ytpgikkmpnbcljaa", sum := "293fb9435e9f51bc0e66572ac578670944ed5b8bb6b8c4a7447405f80e05b1b2", func := "tatting/tattinglaw01.ByteSetRuns", spec := "byteSetRuns", unfollowed := true, recurses := true, apart := false, narrowed := true }
def ByteSetRunsUptoSaid : Prop := byteSetRunsUptoRow.holds Try.pinned (OpenSpec.upto byteSetRunsSpec)

/-- 'tattinglaw01.ByteSetTurns', WHERE WHAT IT READS IS OF BULK AT MOST 1048576: true; the input reads as it did. -/
def byteSetTurnsUptoRow : OpenClaim := { program := "ytpgikkmpnbcljaa", sum := "293fb9435e9f51bc0e66572ac578670944ed5b8bb6b8c4a7447405f80e05b1b2", func := "tatting/tattinglaw01.ByteSetTurns", spec := "byteSetTurns", unfollowed := true, recurses := true, apart := false, narrowed := true }
def ByteSetTurnsUptoSaid : Prop := byteSetTurnsUptoRow.holds Try.pinned (OpenSpec.upto byteSetTurnsSpec)

end Rows
end Go.Proofs.Ytpgikkmpnbcljaa
