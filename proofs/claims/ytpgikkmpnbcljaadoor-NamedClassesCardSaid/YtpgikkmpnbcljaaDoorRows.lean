/-
  NARROWER THAN 'FOR EVERY INPUT', by the rows' own cells (each row's printed sentence says how): NamedClasses: laid · NamedEscapes: laid · NamedFolds: laid.
  DERIVED. THE GIVEN ROWS OF THIS SEAT. 3 by the template 'for every input the law returns true; each argument reads behind the call as it read before'; 0 by the template 'total and deterministic' (their statements: YtpgikkmpnbcljaaDoorTotals.lean).
  GIVEN WITH THE SEED: the statements are not yours to turn. If you find one false, say at which input.
  Laid BY PROGRAM, IN A SANDBOX (cutbox-rows.mjs): the forced cells as the released guide's own fill.sh prints them over the translation 16ca5713fff1b118… (all of the seat's roots in one cut). By AI agents, Wed Nov 11 2026. No macro, syntax, notation, axiom, sorry.
-/
import Derived.Test.YtpgikkmpnbcljaaDoorChecked
import GoSem.Claim
import GoSem.ClaimJoined
import GoSem.ClaimMapViews
import Derived.JoinedTies
import Derived.KernelRfl
namespace Go.Proofs.YtpgikkmpnbcljaaDoor
/- THE CELL 'sum', in the pinned program and in every row, IS THE sha256 OF THE DUMP (.gsa) THAT YtpgikkmpnbcljaaDoorProg.lean LOADS. Nothing in Lean hashes anything: it is a label: what it is worth is what the hold of that sum in a sandbox is worth. -/
noncomputable def Tryd.pinned : Pinned := { name := "ytpgikkmpnbcljaadoor", sum := "16ca5713fff1b118e12922ca9633ecc3806b6562fbb048ff11cab1671490ff16", checked := Tryd.checked }
namespace Rows
def none {H : Type} : Left H := { results := [], args := [] }

/- WHAT THE LISTED PACKAGE-LEVEL VARIABLES READ AS WHEN THE CALL BEGINS. Each datum BY PROGRAM (the guide's laid-datum.mjs) off the statement by which the dump's own 'gosem.cut.vars' lays the variable. In a bare row this is a premise. The card (YtpgikkmpnbcljaaDoorCards.lean) ties it to the program's text. -/
def laid_tatting_named_table {H : Type} : DataW H := .agg [.agg [.lit (.string [97, 108, 110, 117, 109]), .lit (.int .u8 48), .lit (.int .u8 57)], .agg [.lit (.string [97, 108, 110, 117, 109]), .lit (.int .u8 65), .lit (.int .u8 90)], .agg [.lit (.string [97, 108, 110, 117, 109]), .lit (.int .u8 97), .lit (.int .u8 122)], .agg [.lit (.string [97, 108, 112, 104, 97]), .lit (.int .u8 65), .lit (.int .u8 90)], .agg [.lit (.string [97, 108, 112, 104, 97]), .lit (.int .u8 97), .lit (.int .u8 122)], .agg [.lit (.string [98, 108, 97, 110, 107]), .lit (.int .u8 9), .lit (.int .u8 9)], .agg [.lit (.string [98, 108, 97, 110, 107]), .lit (.int .u8 32), .lit (.int .u8 32)], .agg [.lit (.string [99, 110, 116, 114, 108]), .lit (.int .u8 0), .lit (.int .u8 31)], .agg [.lit (.string [99, 110, 116, 114, 108]), .lit (.int .u8 127), .lit (.int .u8 127)], .agg [.lit (.string [100, 105, 103, 105, 116]), .lit (.int .u8 48), .lit (.int .u8 57)], .agg [.lit (.string [103, 114, 97, 112, 104]), .lit (.int .u8 33), .lit (.int .u8 126)], .agg [.lit (.string [108, 111, 119, 101, 114]), .lit (.int .u8 97), .lit (.int .u8 122)], .agg [.lit (.string [112, 114, 105, 110, 116]), .lit (.int .u8 32), .lit (.int .u8 126)], .agg [.lit (.string [112, 117, 110, 99, 116]), .lit (.int .u8 33), .lit (.int .u8 47)], .agg [.lit (.string [112, 117, 110, 99, 116]), .lit (.int .u8 58), .lit (.int .u8 64)], .agg [.lit (.string [112, 117, 110, 99, 116]), .lit (.int .u8 91), .lit (.int .u8 96)], .agg [.lit (.string [112, 117, 110, 99, 116]), .lit (.int .u8 123), .lit (.int .u8 126)], .agg [.lit (.string [115, 112, 97, 99, 101]), .lit (.int .u8 9), .lit (.int .u8 13)], .agg [.lit (.string [115, 112, 97, 99, 101]), .lit (.int .u8 32), .lit (.int .u8 32)], .agg [.lit (.string [117, 112, 112, 101, 114]), .lit (.int .u8 65), .lit (.int .u8 90)], .agg [.lit (.string [120, 100, 105, 103, 105, 116]), .lit (.int .u8 48), .lit (.int .u8 57)], .agg [.lit (.string [120, 100, 105, 103, 105, 116]), .lit (.int .u8 65), .lit (.int .u8 70)], .agg [.lit (.string [120, 100, 105, 103, 105, 116]), .lit (.int .u8 97), .lit (.int .u8 102)]]

/-- 'tattinglaw02.NamedClasses': WHATEVER THE INPUT: true; the input reads as it did. -/
def namedClassesSpec : ChangeSpec := { name := "namedClasses", fn := fun _ => fun
  | [d] => { results := [.lit (.bool true)], args := [d] }
  | _ => none }
def namedClassesRow : OpenClaim := { program := "ytpgikkmpnbcljaadoor", sum := "16ca5713fff1b118e12922ca9633ecc3806b6562fbb048ff11cab1671490ff16", func := "tatting/tattinglaw02.NamedClasses", spec := "namedClasses", unfollowed := true, recurses := true, named := ["tatting/named.table"], apart := false, laid := [("tatting/named.table", laid_tatting_named_table)] }
def NamedClassesSaid : Prop := namedClassesRow.holds Tryd.pinned (OpenSpec.ofChange namedClassesSpec)

/-- ITS FALSE NEIGHBOUR: 'it returns false'. Refute it at one input. -/
def namedClassesWrong : ChangeSpec := { name := "namedClasses", fn := fun _ => fun
  | [d] => { results := [.lit (.bool false)], args := [d] }
  | _ => none }
def NamedClassesWrongFalsely : Prop := namedClassesRow.holds Tryd.pinned (OpenSpec.ofChange namedClassesWrong)

/-- 'tattinglaw02.NamedEscapes': WHATEVER THE INPUT: true; the input reads as it did. -/
def namedEscapesSpec : ChangeSpec := { name := "namedEscapes", fn := fun _ => fun
  | [d] => { results := [.lit (.bool true)], args := [d] }
  | _ => none }
def namedEscapesRow : OpenClaim := { program := "ytpgikkmpnbcljaadoor", sum := "16ca5713fff1b118e12922ca9633ecc3806b6562fbb048ff11cab1671490ff16", func := "tatting/tattinglaw02.NamedEscapes", spec := "namedEscapes", unfollowed := true, recurses := true, named := ["tatting/named.table"], apart := false, laid := [("tatting/named.table", laid_tatting_named_table)] }
def NamedEscapesSaid : Prop := namedEscapesRow.holds Tryd.pinned (OpenSpec.ofChange namedEscapesSpec)

/-- ITS FALSE NEIGHBOUR: 'it returns false'. Refute it at one input. -/
def namedEscapesWrong : ChangeSpec := { name := "namedEscapes", fn := fun _ => fun
  | [d] => { results := [.lit (.bool false)], args := [d] }
  | _ => none }
def NamedEscapesWrongFalsely : Prop := namedEscapesRow.holds Tryd.pinned (OpenSpec.ofChange namedEscapesWrong)

/-- 'tattinglaw02.NamedFolds': WHATEVER THE INPUT: true; the input reads as it did. -/
def namedFoldsSpec : ChangeSpec := { name := "namedFolds", fn := fun _ => fun
  | [d] => { results := [.lit (.bool true)], args := [d] }
  | _ => none }
def namedFoldsRow : OpenClaim := { program := "ytpgikkmpnbcljaadoor", sum := "16ca5713fff1b118e12922ca9633ecc3806b6562fbb048ff11cab1671490ff16", func := "tatting/tattinglaw02.NamedFolds", spec := "namedFolds", unfollowed := true, recurses := true, named := ["tatting/named.table"], apart := false, laid := [("tatting/named.table", laid_tatting_named_table)] }
def NamedFoldsSaid : Prop := namedFoldsRow.holds Tryd.pinned (OpenSpec.ofChange namedFoldsSpec)

/-- ITS FALSE NEIGHBOUR: 'it returns false'. Refute it at one input. -/
def namedFoldsWrong : ChangeSpec := { name := "namedFolds", fn := fun _ => fun
  | [d] => { results := [.lit (.bool false)], args := [d] }
  | _ => none }
def NamedFoldsWrongFalsely : Prop := namedFoldsRow.holds Tryd.pinned (OpenSpec.ofChange namedFoldsWrong)

/- THE SECOND FORM. 'bulk': how many values and letters a reading holds, each counted each time it is reached (what is shared counts as often as it is met; a slice's spare places count too). A statement '..UptoSaid' is the law's where the arguments, and the package variables that the reading takes, are together of bulk at most 1048576: NARROWER than '..Said'. Prove '..Said' where nothing that the law and all that it calls make is longer than what came in: it says more and counts as full. Else prove '..UptoSaid'. A law counts once. -/
mutual
def uptoBulk {H : Type} : DataW H → Nat
  | .lit (.string bytes) => bytes.length + 1
  | .lit _ => 1
  | .nil => 1
  | .ptr d => uptoBulk d + 1
  | .slice elems spare => uptoBulkAll elems + uptoBulkAll spare + 1
  | .agg parts => uptoBulkAll parts + 1
  | .iface _ d => uptoBulk d + 1
  | .map entries => uptoBulkEntries entries + 1
  | .held _ => 1
def uptoBulkAll {H : Type} : List (DataW H) → Nat
  | [] => 0
  | d :: r => uptoBulk d + uptoBulkAll r
def uptoBulkEntries {H : Type} : List (Lit × DataW H) → Nat
  | [] => 0
  | x :: r => uptoBulkEntry x + uptoBulkEntries r
def uptoBulkEntry {H : Type} : Lit × DataW H → Nat
  | (.string bytes, d) => bytes.length + uptoBulk d + 1
  | (_, d) => uptoBulk d + 1
 end
def uptoSmall : (H : Type) → List (DataW H) → Bool := fun _ ds => decide (uptoBulkAll ds ≤ 1048576)
def OpenSpec.upto (s : _root_.Go.ChangeSpec) : _root_.Go.OpenSpec := { _root_.Go.OpenSpec.ofChange s with cond := some uptoSmall }

/-- 'tattinglaw02.NamedClasses', WHERE WHAT IT READS IS OF BULK AT MOST 1048576: true; the input reads as it did. -/
def namedClassesUptoRow : OpenClaim := { program := "ytpgikkmpnbcljaadoor", sum := "16ca5713fff1b118e12922ca9633ecc3806b6562fbb048ff11cab1671490ff16", func := "tatting/tattinglaw02.NamedClasses", spec := "namedClasses", unfollowed := true, recurses := true, named := ["tatting/named.table"], apart := false, laid := [("tatting/named.table", laid_tatting_named_table)], narrowed := true }
def NamedClassesUptoSaid : Prop := namedClassesUptoRow.holds Tryd.pinned (OpenSpec.upto namedClassesSpec)

/-- 'tattinglaw02.NamedEscapes', WHERE WHAT IT READS IS OF BULK AT MOST 1048576: true; the input reads as it did. -/
def namedEscapesUptoRow : OpenClaim := { program := "ytpgikkmpnbcljaadoor", sum := "16ca5713fff1b118e12922ca9633ecc3806b6562fbb048ff11cab1671490ff16", func := "tatting/tattinglaw02.NamedEscapes", spec := "namedEscapes", unfollowed := true, recurses := true, named := ["tatting/named.table"], apart := false, laid := [("tatting/named.table", laid_tatting_named_table)], narrowed := true }
def NamedEscapesUptoSaid : Prop := namedEscapesUptoRow.holds Tryd.pinned (OpenSpec.upto namedEscapesSpec)

/-- 'tattinglaw02.NamedFolds', WHERE WHAT IT READS IS OF BULK AT MOST 1048576: true; the input reads as it did. -/
def namedFoldsUptoRow : OpenClaim := { program := "ytpgikkmpnbcljaadoor", sum := "16ca5713fff1b118e12922ca9633ecc3806b6562fbb048ff11cab1671490ff16", func := "tatting/tattinglaw02.NamedFolds", spec := "namedFolds", unfollowed := true, recurses := true, named := ["tatting/named.table"], apart := false, laid := [("tatting/named.table", laid_tatting_named_table)], narrowed := true }
def NamedFoldsUptoSaid : Prop := namedFoldsUptoRow.holds Tryd.pinned (OpenSpec.upto namedFoldsSpec)

end Rows
end Go.Proofs.YtpgikkmpnbcljaaDoor
