/-
  NARROWER THAN 'FOR EVERY INPUT', by the rows' own cells (each row's printed sentence says how): TurnTrees: laid · TurnFits: laid · TurnBack: laid.
  DERIVED. THE GIVEN ROWS OF THIS SEAT. 3 by the template 'for every input the law returns true; each argument reads behind the call as it read before'; 0 by the template 'total and deterministic' (their statements: YtjbmkbgoahppfaaDoorTotals.lean).
  GIVEN WITH THE SEED: the statements are not yours to turn. If you find one false, say at which input.
  Laid BY PROGRAM, IN A SANDBOX (cutbox-rows.mjs): the forced cells as the released guide's own fill.sh prints them over the translation 3bc44bd178679e5c… (all of the seat's roots in one cut). By AI agents, Wed Nov 11 2026. No macro, syntax, notation, axiom, sorry.
-/
import Derived.Test.YtjbmkbgoahppfaaDoorChecked
import GoSem.Claim
import GoSem.ClaimJoined
import GoSem.ClaimMapViews
import Derived.JoinedTies
import Derived.KernelRfl
namespace Go.Proofs.YtjbmkbgoahppfaaDoor
/- THE CELL 'sum', in the pinned program and in every row, IS THE sha256 OF THE DUMP (.gsa) THAT YtjbmkbgoahppfaaDoorProg.lean LOADS. Nothing in Lean hashes anything: it is a label: what it is worth is what the hold of that sum in a sandbox is worth. -/
noncomputable def Tryd.pinned : Pinned := { name := "ytjbmkbgoahppfaadoor", sum := "3bc44bd178679e5c6da9e1cf1cbfeb267123fde5d75dc5822709a22aa142ae29", checked := Tryd.checked }
namespace Rows
def none {H : Type} : Left H := { results := [], args := [] }

/- WHAT THE LISTED PACKAGE-LEVEL VARIABLES READ AS WHEN THE CALL BEGINS. Each datum BY PROGRAM (the guide's laid-datum.mjs) off the statement by which the dump's own 'gosem.cut.vars' lays the variable. In a bare row this is a premise. The card (YtjbmkbgoahppfaaDoorCards.lean) ties it to the program's text. -/
def laid_math_bits_deBruijn32tab {H : Type} : DataW H := .agg [.lit (.int .u8 0), .lit (.int .u8 1), .lit (.int .u8 28), .lit (.int .u8 2), .lit (.int .u8 29), .lit (.int .u8 14), .lit (.int .u8 24), .lit (.int .u8 3), .lit (.int .u8 30), .lit (.int .u8 22), .lit (.int .u8 20), .lit (.int .u8 15), .lit (.int .u8 25), .lit (.int .u8 17), .lit (.int .u8 4), .lit (.int .u8 8), .lit (.int .u8 31), .lit (.int .u8 27), .lit (.int .u8 13), .lit (.int .u8 23), .lit (.int .u8 21), .lit (.int .u8 19), .lit (.int .u8 16), .lit (.int .u8 7), .lit (.int .u8 26), .lit (.int .u8 12), .lit (.int .u8 18), .lit (.int .u8 6), .lit (.int .u8 11), .lit (.int .u8 5), .lit (.int .u8 10), .lit (.int .u8 9)]
def laid_math_bits_deBruijn64tab {H : Type} : DataW H := .agg [.lit (.int .u8 0), .lit (.int .u8 1), .lit (.int .u8 56), .lit (.int .u8 2), .lit (.int .u8 57), .lit (.int .u8 49), .lit (.int .u8 28), .lit (.int .u8 3), .lit (.int .u8 61), .lit (.int .u8 58), .lit (.int .u8 42), .lit (.int .u8 50), .lit (.int .u8 38), .lit (.int .u8 29), .lit (.int .u8 17), .lit (.int .u8 4), .lit (.int .u8 62), .lit (.int .u8 47), .lit (.int .u8 59), .lit (.int .u8 36), .lit (.int .u8 45), .lit (.int .u8 43), .lit (.int .u8 51), .lit (.int .u8 22), .lit (.int .u8 53), .lit (.int .u8 39), .lit (.int .u8 33), .lit (.int .u8 30), .lit (.int .u8 24), .lit (.int .u8 18), .lit (.int .u8 12), .lit (.int .u8 5), .lit (.int .u8 63), .lit (.int .u8 55), .lit (.int .u8 48), .lit (.int .u8 27), .lit (.int .u8 60), .lit (.int .u8 41), .lit (.int .u8 37), .lit (.int .u8 16), .lit (.int .u8 46), .lit (.int .u8 35), .lit (.int .u8 44), .lit (.int .u8 21), .lit (.int .u8 52), .lit (.int .u8 32), .lit (.int .u8 23), .lit (.int .u8 11), .lit (.int .u8 54), .lit (.int .u8 26), .lit (.int .u8 40), .lit (.int .u8 15), .lit (.int .u8 34), .lit (.int .u8 20), .lit (.int .u8 31), .lit (.int .u8 10), .lit (.int .u8 25), .lit (.int .u8 14), .lit (.int .u8 19), .lit (.int .u8 9), .lit (.int .u8 13), .lit (.int .u8 8), .lit (.int .u8 7), .lit (.int .u8 6)]
def laid_internal_strconv_uint64pow10 {H : Type} : DataW H := .agg [.lit (.int .u64 1), .lit (.int .u64 10), .lit (.int .u64 100), .lit (.int .u64 1000), .lit (.int .u64 10000), .lit (.int .u64 100000), .lit (.int .u64 1000000), .lit (.int .u64 10000000), .lit (.int .u64 100000000), .lit (.int .u64 1000000000), .lit (.int .u64 10000000000), .lit (.int .u64 100000000000), .lit (.int .u64 1000000000000), .lit (.int .u64 10000000000000), .lit (.int .u64 100000000000000), .lit (.int .u64 1000000000000000), .lit (.int .u64 10000000000000000), .lit (.int .u64 100000000000000000), .lit (.int .u64 1000000000000000000), .lit (.int .u64 10000000000000000000)]
def laid_tatting_named_table {H : Type} : DataW H := .agg [.agg [.lit (.string [97, 108, 110, 117, 109]), .lit (.int .u8 48), .lit (.int .u8 57)], .agg [.lit (.string [97, 108, 110, 117, 109]), .lit (.int .u8 65), .lit (.int .u8 90)], .agg [.lit (.string [97, 108, 110, 117, 109]), .lit (.int .u8 97), .lit (.int .u8 122)], .agg [.lit (.string [97, 108, 112, 104, 97]), .lit (.int .u8 65), .lit (.int .u8 90)], .agg [.lit (.string [97, 108, 112, 104, 97]), .lit (.int .u8 97), .lit (.int .u8 122)], .agg [.lit (.string [98, 108, 97, 110, 107]), .lit (.int .u8 9), .lit (.int .u8 9)], .agg [.lit (.string [98, 108, 97, 110, 107]), .lit (.int .u8 32), .lit (.int .u8 32)], .agg [.lit (.string [99, 110, 116, 114, 108]), .lit (.int .u8 0), .lit (.int .u8 31)], .agg [.lit (.string [99, 110, 116, 114, 108]), .lit (.int .u8 127), .lit (.int .u8 127)], .agg [.lit (.string [100, 105, 103, 105, 116]), .lit (.int .u8 48), .lit (.int .u8 57)], .agg [.lit (.string [103, 114, 97, 112, 104]), .lit (.int .u8 33), .lit (.int .u8 126)], .agg [.lit (.string [108, 111, 119, 101, 114]), .lit (.int .u8 97), .lit (.int .u8 122)], .agg [.lit (.string [112, 114, 105, 110, 116]), .lit (.int .u8 32), .lit (.int .u8 126)], .agg [.lit (.string [112, 117, 110, 99, 116]), .lit (.int .u8 33), .lit (.int .u8 47)], .agg [.lit (.string [112, 117, 110, 99, 116]), .lit (.int .u8 58), .lit (.int .u8 64)], .agg [.lit (.string [112, 117, 110, 99, 116]), .lit (.int .u8 91), .lit (.int .u8 96)], .agg [.lit (.string [112, 117, 110, 99, 116]), .lit (.int .u8 123), .lit (.int .u8 126)], .agg [.lit (.string [115, 112, 97, 99, 101]), .lit (.int .u8 9), .lit (.int .u8 13)], .agg [.lit (.string [115, 112, 97, 99, 101]), .lit (.int .u8 32), .lit (.int .u8 32)], .agg [.lit (.string [117, 112, 112, 101, 114]), .lit (.int .u8 65), .lit (.int .u8 90)], .agg [.lit (.string [120, 100, 105, 103, 105, 116]), .lit (.int .u8 48), .lit (.int .u8 57)], .agg [.lit (.string [120, 100, 105, 103, 105, 116]), .lit (.int .u8 65), .lit (.int .u8 70)], .agg [.lit (.string [120, 100, 105, 103, 105, 116]), .lit (.int .u8 97), .lit (.int .u8 102)]]

/-- 'tattinglaw08.TurnTrees': WHATEVER THE INPUT: true; the input reads as it did. -/
def turnTreesSpec : ChangeSpec := { name := "turnTrees", fn := fun _ => fun
  | [d1, d2] => { results := [.lit (.bool true)], args := [d1, d2] }
  | _ => none }
def turnTreesRow : OpenClaim := { program := "ytjbmkbgoahppfaadoor", sum := "3bc44bd178679e5c6da9e1cf1cbfeb267123fde5d75dc5822709a22aa142ae29", func := "tatting/tattinglaw08.TurnTrees", spec := "turnTrees", unfollowed := true, recurses := true, named := ["tatting/named.table", "internal/strconv.uint64pow10", "math/bits.deBruijn32tab", "math/bits.deBruijn64tab"], apart := false, laid := [("math/bits.deBruijn32tab", laid_math_bits_deBruijn32tab), ("math/bits.deBruijn64tab", laid_math_bits_deBruijn64tab), ("internal/strconv.uint64pow10", laid_internal_strconv_uint64pow10), ("tatting/named.table", laid_tatting_named_table)] }
def TurnTreesSaid : Prop := turnTreesRow.holds Tryd.pinned (OpenSpec.ofChange turnTreesSpec)

/-- ITS FALSE NEIGHBOUR: 'it returns false'. Refute it at one input. -/
def turnTreesWrong : ChangeSpec := { name := "turnTrees", fn := fun _ => fun
  | [d1, d2] => { results := [.lit (.bool false)], args := [d1, d2] }
  | _ => none }
def TurnTreesWrongFalsely : Prop := turnTreesRow.holds Tryd.pinned (OpenSpec.ofChange turnTreesWrong)

/-- 'tattinglaw08.TurnFits': WHATEVER THE INPUT: true; the input reads as it did. -/
def turnFitsSpec : ChangeSpec := { name := "turnFits", fn := fun _ => fun
  | [d1, d2] => { results := [.lit (.bool true)], args := [d1, d2] }
  | _ => none }
def turnFitsRow : OpenClaim := { program := "ytjbmkbgoahppfaadoor", sum := "3bc44bd178679e5c6da9e1cf1cbfeb267123fde5d75dc5822709a22aa142ae29", func := "tatting/tattinglaw08.TurnFits", spec := "turnFits", unfollowed := true, recurses := true, named := ["tatting/named.table", "internal/strconv.uint64pow10", "math/bits.deBruijn32tab", "math/bits.deBruijn64tab"], apart := false, laid := [("math/bits.deBruijn32tab", laid_math_bits_deBruijn32tab), ("math/bits.deBruijn64tab", laid_math_bits_deBruijn64tab), ("internal/strconv.uint64pow10", laid_internal_strconv_uint64pow10), ("tatting/named.table", laid_tatting_named_table)] }
def TurnFitsSaid : Prop := turnFitsRow.holds Tryd.pinned (OpenSpec.ofChange turnFitsSpec)

/-- ITS FALSE NEIGHBOUR: 'it returns false'. Refute it at one input. -/
def turnFitsWrong : ChangeSpec := { name := "turnFits", fn := fun _ => fun
  | [d1, d2] => { results := [.lit (.bool false)], args := [d1, d2] }
  | _ => none }
def TurnFitsWrongFalsely : Prop := turnFitsRow.holds Tryd.pinned (OpenSpec.ofChange turnFitsWrong)

/-- 'tattinglaw08.TurnBack': WHATEVER THE INPUT: true; the input reads as it did. -/
def turnBackSpec : ChangeSpec := { name := "turnBack", fn := fun _ => fun
  | [d] => { results := [.lit (.bool true)], args := [d] }
  | _ => none }
def turnBackRow : OpenClaim := { program := "ytjbmkbgoahppfaadoor", sum := "3bc44bd178679e5c6da9e1cf1cbfeb267123fde5d75dc5822709a22aa142ae29", func := "tatting/tattinglaw08.TurnBack", spec := "turnBack", unfollowed := true, recurses := true, named := ["tatting/named.table", "internal/strconv.uint64pow10", "math/bits.deBruijn32tab", "math/bits.deBruijn64tab"], apart := false, laid := [("math/bits.deBruijn32tab", laid_math_bits_deBruijn32tab), ("math/bits.deBruijn64tab", laid_math_bits_deBruijn64tab), ("internal/strconv.uint64pow10", laid_internal_strconv_uint64pow10), ("tatting/named.table", laid_tatting_named_table)] }
def TurnBackSaid : Prop := turnBackRow.holds Tryd.pinned (OpenSpec.ofChange turnBackSpec)

/-- ITS FALSE NEIGHBOUR: 'it returns false'. Refute it at one input. -/
def turnBackWrong : ChangeSpec := { name := "turnBack", fn := fun _ => fun
  | [d] => { results := [.lit (.bool false)], args := [d] }
  | _ => none }
def TurnBackWrongFalsely : Prop := turnBackRow.holds Tryd.pinned (OpenSpec.ofChange turnBackWrong)

/- THE SECOND FORM. 'bulk': how many values and letters a reading holds, each counted each time it is reached (what is shared counts as often as it is met; a slice's spare places count too). A statement '..UptoSaid' is the law's where the arguments, and the package variables that the reading takes, are together of bulk at most 1048576: NARROWER than '..Said'. Prove '..Said' where nothing that the law and all that it calls make is longer than what came in: it says more and counts as full. Else prove '..UptoSaid'. A law counts once. -/
mutual
def uptoBulk {H : Type} : DataW H → Nat
  | .lit (.string bytes) => bytes.length + 1
  | .lit _ => 1
  | .nil => 1
  | .ptr d => uptoBulk d + 1
  | .slice elems spare => uptoBulkAll elems + uptoBulkAll spare + 1
  | .agg parts => uptoBulkAll parts + 1
  | .iface _ d => uptoBulk d + 1
  | .map entries => uptoBulkEntries entries + 1
  | .held _ => 1
def uptoBulkAll {H : Type} : List (DataW H) → Nat
  | [] => 0
  | d :: r => uptoBulk d + uptoBulkAll r
def uptoBulkEntries {H : Type} : List (Lit × DataW H) → Nat
  | [] => 0
  | x :: r => uptoBulkEntry x + uptoBulkEntries r
def uptoBulkEntry {H : Type} : Lit × DataW H → Nat
  | (.string bytes, d) => bytes.length + uptoBulk d + 1
  | (_, d) => uptoBulk d + 1
 end
def uptoSmall : (H : Type) → List (DataW H) → Bool := fun _ ds => decide (uptoBulkAll ds ≤ 1048576)
def OpenSpec.upto (s : _root_.Go.ChangeSpec) : _root_.Go.OpenSpec := { _root_.Go.OpenSpec.ofChange s with cond := some uptoSmall }

/-- 'tattinglaw08.TurnTrees', WHERE WHAT IT READS IS OF BULK AT MOST 1048576: true; the input reads as it did. -/
def turnTreesUptoRow : OpenClaim := { program := "ytjbmkbgoahppfaadoor", sum := "3bc44bd178679e5c6da9e1cf1cbfeb267123fde5d75dc5822709a22aa142ae29", func := "tatting/tattinglaw08.TurnTrees", spec := "turnTrees", unfollowed := true, recurses := true, named := ["tatting/named.table", "internal/strconv.uint64pow10", "math/bits.deBruijn32tab", "math/bits.deBruijn64tab"], apart := false, laid := [("math/bits.deBruijn32tab", laid_math_bits_deBruijn32tab), ("math/bits.deBruijn64tab", laid_math_bits_deBruijn64tab), ("internal/strconv.uint64pow10", laid_internal_strconv_uint64pow10), ("tatting/named.table", laid_tatting_named_table)], narrowed := true }
def TurnTreesUptoSaid : Prop := turnTreesUptoRow.holds Tryd.pinned (OpenSpec.upto turnTreesSpec)

/-- 'tattinglaw08.TurnFits', WHERE WHAT IT READS IS OF BULK AT MOST 1048576: true; the input reads as it did. -/
def turnFitsUptoRow : OpenClaim := { program := "ytjbmkbgoahppfaadoor", sum := "3bc44bd178679e5c6da9e1cf1cbfeb267123fde5d75dc5822709a22aa142ae29", func := "tatting/tattinglaw08.TurnFits", spec := "turnFits", unfollowed := true, recurses := true, named := ["tatting/named.table", "internal/strconv.uint64pow10", "math/bits.deBruijn32tab", "math/bits.deBruijn64tab"], apart := false, laid := [("math/bits.deBruijn32tab", laid_math_bits_deBruijn32tab), ("math/bits.deBruijn64tab", laid_math_bits_deBruijn64tab), ("internal/strconv.uint64pow10", laid_internal_strconv_uint64pow10), ("tatting/named.table", laid_tatting_named_table)], narrowed := true }
def TurnFitsUptoSaid : Prop := turnFitsUptoRow.holds Tryd.pinned (OpenSpec.upto turnFitsSpec)

/-- 'tattinglaw08.TurnBack', WHERE WHAT IT READS IS OF BULK AT MOST 1048576: true; the input reads as it did. -/
def turnBackUptoRow : OpenClaim := { program := "ytjbmkbgoahppfaadoor", sum := "3bc44bd178679e5c6da9e1cf1cbfeb267123fde5d75dc5822709a22aa142ae29", func := "tatting/tattinglaw08.TurnBack", spec := "turnBack", unfollowed := true, recurses := true, named := ["tatting/named.table", "internal/strconv.uint64pow10", "math/bits.deBruijn32tab", "math/bits.deBruijn64tab"], apart := false, laid := [("math/bits.deBruijn32tab", laid_math_bits_deBruijn32tab), ("math/bits.deBruijn64tab", laid_math_bits_deBruijn64tab), ("internal/strconv.uint64pow10", laid_internal_strconv_uint64pow10), ("tatting/named.table", laid_tatting_named_table)], narrowed := true }
def TurnBackUptoSaid : Prop := turnBackUptoRow.holds Tryd.pinned (OpenSpec.upto turnBackSpec)

end Rows
end Go.Proofs.YtjbmkbgoahppfaaDoor
