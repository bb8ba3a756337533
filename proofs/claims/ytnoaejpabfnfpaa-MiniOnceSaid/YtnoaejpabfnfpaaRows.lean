/-
  No cell of these rows narrows 'for every input' (looked for: loops, veiled, ifaces, maps, wideKeys, modest, calm, conditions, laid).
  DERIVED. THE GIVEN ROWS OF THIS SEAT. 3 by the template 'for every input the law returns true; each argument reads behind the call as it read before'; 0 by the template 'total and deterministic' (their statements: YtnoaejpabfnfpaaTotals.lean).
  GIVEN WITH THE SEED: the statements are not yours to turn. If you find one false, say at which input.
  Laid BY PROGRAM, IN A SANDBOX (cutbox-rows.mjs): the forced cells as the released guide's own fill.sh prints them over the translation 813c8c7222428b3a… (all of the seat's roots in one cut). By AI agents, Wed Nov 11 2026. No macro, syntax, notation, axiom, sorry.
-/
import Derived.Test.YtnoaejpabfnfpaaChecked
import GoSem.Claim
import GoSem.ClaimJoined
import GoSem.ClaimMapViews
import Derived.JoinedTies
import Derived.KernelRfl
namespace Go.Proofs.Ytnoaejpabfnfpaa
/- THE CELL 'sum', in the pinned program and in every row, IS THE sha256 OF THE DUMP (.gsa) THAT YtnoaejpabfnfpaaProg.lean LOADS. Nothing in Lean hashes anything: it is a label: what it is worth is what the hold of that sum in a sandbox is worth. -/
noncomputable def Try.pinned : Pinned := { name := "ytnoaejpabfnfpaa", sum := "813c8c7222428b3a060b7e0fe4e4ad0900606ad3e5da5d89ecce1c446875c773", checked := Try.checked }
namespace Rows
def none {H : Type} : Left H := { results := [], args := [] }

/-- 'tattinglaw13.MiniBlocks': WHATEVER THE INPUT: true; the input reads as it did. -/
def miniBlocksSpec : ChangeSpec := { name := "miniBlocks", fn := fun _ => fun
  | [d] => { results := [.lit (.bool true)], args := [d] }
  | _ => none }
def miniBlocksRow : OpenClaim := { program := "ytnoaejpabfnfpaa", sum := "813c8c7222428b3a060b7e0fe4e4ad0900606ad3e5da5d89ecce1c446875c773", func := "tatting/tattinglaw13.MiniBlocks", spec := "miniBlocks", unfollowed := true, recurses := true, plainKeys := false, apart := false }
def MiniBlocksSaid : Prop := miniBlocksRow.holds Try.pinned (OpenSpec.ofChange miniBlocksSpec)

/-- ITS FALSE NEIGHBOUR: 'it returns false'. Refute it at one input. -/
def miniBlocksWrong : ChangeSpec := { name := "miniBlocks", fn := fun _ => fun
  | [d] => { results := [.lit (.bool false)], args := [d] }
  | _ => none }
def MiniBlocksWrongFalsely : Prop := miniBlocksRow.holds Try.pinned (OpenSpec.ofChange miniBlocksWrong)

/-- 'tattinglaw13.MiniLeast': WHATEVER THE INPUT: true; the input reads as it did. -/
def miniLeastSpec : ChangeSpec := { name := "miniLeast", fn := fun _ => fun
  | [d1, d2] => { results := [.lit (.bool true)], args := [d1, d2] }
  | _ => none }
def miniLeastRow : OpenClaim := { program := "ytnoaejpabfnfpaa", sum := "813c8c7222428b3a060b7e0fe4e4ad0900606ad3e5da5d89ecce1c446875c773", func := "tatting/tattinglaw13.MiniLeast", spec := "miniLeast", unfollowed := true, recurses := true, plainKeys := false, apart := false }
def MiniLeastSaid : Prop := miniLeastRow.holds Try.pinned (OpenSpec.ofChange miniLeastSpec)

/-- ITS FALSE NEIGHBOUR: 'it returns false'. Refute it at one input. -/
def miniLeastWrong : ChangeSpec := { name := "miniLeast", fn := fun _ => fun
  | [d1, d2] => { results := [.lit (.bool false)], args := [d1, d2] }
  | _ => none }
def MiniLeastWrongFalsely : Prop := miniLeastRow.holds Try.pinned (OpenSpec.ofChange miniLeastWrong)

/-- 'tattinglaw13.MiniOnce': WHATEVER THE INPUT: true; the input reads as it did. -/
def miniOnceSpec : ChangeSpec := { name := "miniOnce", fn := fun _ => fun
  | [d1, d2] => { results := [.lit (.bool true)], args := [d1, d2] }
  | _ => none }
def miniOnceRow : OpenClaim := { program := "ytnoaejpabfnfpaa", sum := "813c8c7222428b3a060b7e0fe4e4ad0900606ad3e5da5d89ecce1c446875c773", func := "tatting/tattinglaw13.MiniOnce", spec := "miniOnce", unfollowed := true, recurses := true, plainKeys := false, apart := false }
def MiniOnceSaid : Prop := miniOnceRow.holds Try.pinned (OpenSpec.ofChange miniOnceSpec)

/-- ITS FALSE NEIGHBOUR: 'it returns false'. Refute it at one input. -/
def miniOnceWrong : ChangeSpec := { name := "miniOnce", fn := fun _ => fun
  | [d1, d2] => { results := [.lit (.bool false)], args := [d1, d2] }
  | _ => none }
def MiniOnceWrongFalsely : Prop := miniOnceRow.holds Try.pinned (OpenSpec.ofChange miniOnceWrong)

/- THE SECOND FORM. 'bulk': how many values and letters a reading holds, each counted each time it is reached (what is shared counts as often as it is met; a slice's spare places count too). A statement '..UptoSaid' is the law's where the arguments, and the package variables that the reading takes, are together of bulk at most 1048576: NARROWER than '..Said'. Prove '..Said' where nothing that the law and all that it calls make is longer than what came in: it says more and counts as full. Else prove '..UptoSaid'. A law counts once. -/
mutual
def uptoBulk {H : Type} : DataW H → Nat
  | .lit (.string bytes) => bytes.length + 1
  | .lit _ => 1
  | .nil => 1
  | .ptr d => uptoBulk d + 1
  | .slice elems spare => uptoBulkAll elems + uptoBulkAll spare + 1
  | .agg parts => uptoBulkAll parts + 1
  | .iface _ d => uptoBulk d + 1
  | .map entries => uptoBulkEntries entries + 1
  | .held _ => 1
def uptoBulkAll {H : Type} : List (DataW H) → Nat
  | [] => 0
  | d :: r => uptoBulk d + uptoBulkAll r
def uptoBulkEntries {H : Type} : List (Lit × DataW H) → Nat
  | [] => 0
  | x :: r => uptoBulkEntry x + uptoBulkEntries r
def uptoBulkEntry {H : Type} : Lit × DataW H → Nat
  | (.string bytes, d) => bytes.length + uptoBulk d + 1
  | (_, d) => uptoBulk d + 1
 end
def uptoSmall : (H : Type) → List (DataW H) → Bool := fun _ ds => decide (uptoBulkAll ds ≤ 1048576)
def OpenSpec.upto (s : _root_.Go.ChangeSpec) : _root_.Go.OpenSpec := { _root_.Go.OpenSpec.ofChange s with cond := some uptoSmall }

/-- 'tattinglaw13.MiniBlocks', WHERE WHAT IT READS IS OF BULK AT MOST 1048576: true; the input reads as it did. -/
def miniBlocksUptoRow : OpenClaim := { program := "ytnoaejpabfnfpaa", sum := "813c8c7222428b3a060b7e0fe4e4ad0900606ad3e5da5d89ecce1c446875c773", func := "tatting/tattinglaw13.MiniBlocks", spec := "miniBlocks", unfollowed := true, recurses := true, plainKeys := false, apart := false, narrowed := true }
def MiniBlocksUptoSaid : Prop := miniBlocksUptoRow.holds Try.pinned (OpenSpec.upto miniBlocksSpec)

/-- 'tattinglaw13.MiniLeast', WHERE WHAT IT READS IS OF BULK AT MOST 1048576: true; the input reads as it did. -/
def miniLeastUptoRow : OpenClaim := { program := "ytnoaejpabfnfpaa", sum := "813c8c7222428b3a060b7e0fe4e4ad0900606ad3e5da5d89ecce1c446875c773", func := "tatting/tattinglaw13.MiniLeast", spec := "miniLeast", unfollowed := true, recurses := true, plainKeys := false, apart := false, narrowed := true }
def MiniLeastUptoSaid : Prop := miniLeastUptoRow.holds Try.pinned (OpenSpec.upto miniLeastSpec)

/-- 'tattinglaw13.MiniOnce', WHERE WHAT IT READS IS OF BULK AT MOST 1048576: true; the input reads as it did. -/
def miniOnceUptoRow : OpenClaim := { program := "ytnoaejpabfnfpaa", sum := "813c8c7222428b3a060b7e0fe4e4ad0900606ad3e5da5d89ecce1c446875c773", func := "tatting/tattinglaw13.MiniOnce", spec := "miniOnce", unfollowed := true, recurses := true, plainKeys := false, apart := false, narrowed := true }
def MiniOnceUptoSaid : Prop := miniOnceUptoRow.holds Try.pinned (OpenSpec.upto miniOnceSpec)

end Rows
end Go.Proofs.Ytnoaejpabfnfpaa
