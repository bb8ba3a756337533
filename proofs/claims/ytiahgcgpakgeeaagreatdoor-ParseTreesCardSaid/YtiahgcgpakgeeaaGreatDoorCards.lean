/-
  DERIVED. GIVEN WITH THE SEED: THE CARDS: each row of YtiahgcgpakgeeaaGreatDoorRows.lean that lists a variable, with what it lists TIED to the program's text (the seventh form; the later family's looks); each row that meets fmt, with fmt's text TOLD by the authors' own Lean function (tested against real Go, not proved from fmt's source: count such statements apart). THE CARD IS WHAT COUNTS. Prove the row's statement (the work); the ties are given (YtiahgcgpakgeeaaGreatDoorTie.lean); close each card by the builder's one call (the guide's Derived/Test/ToyasCard.lean, 'card_holds'). Laid BY PROGRAM, IN A SANDBOX (cutbox-door.mjs). By AI agents, Wed Nov 11 2026. No macro, syntax, notation, axiom, sorry.
-/
import Derived.Test.YtiahgcgpakgeeaaGreatDoorRows
import GoSem.ClaimSeven
namespace Go.Proofs.YtiahgcgpakgeeaaGreatDoor
namespace Rows

/-- THE TIED CARD OF 'tattinglaw05.ParsePatterns'. -/
def parsePatternsCard : Claim7 := { stood := { row := parsePatternsRow, standIns := [], harness := (true, "13d1c9f0ada881fbaa3defd5b2f7db8a6bdfa4750673bae5fa24cd7fe69be4e8"), looks := true }, kinds := [], alts := [], laidByText := true, laidKinds := [.data, .data, .data, .sentinel, .sentinel, .data], laidTests := true, laidLooks := .later }
def ParsePatternsCardSaid : Prop := Claim7.holds Tryz.pinned (.plain (OpenSpec.ofChange parsePatternsSpec)) parsePatternsCard

/-- THE TIED CARD OF 'tattinglaw05.ParseTrees'. -/
def parseTreesCard : Claim7 := { stood := { row := parseTreesRow, standIns := [], harness := (true, "13d1c9f0ada881fbaa3defd5b2f7db8a6bdfa4750673bae5fa24cd7fe69be4e8"), looks := true }, kinds := [], alts := [], laidByText := true, laidKinds := [.data, .data, .data, .sentinel, .sentinel, .data], laidTests := true, laidLooks := .later }
def ParseTreesCardSaid : Prop := Claim7.holds Tryz.pinned (.plain (OpenSpec.ofChange parseTreesSpec)) parseTreesCard

/-- THE SECOND FORM's CARD OF 'tattinglaw05.ParsePatterns'. -/
def parsePatternsUptoCard : Claim7 := { stood := { row := parsePatternsUptoRow, standIns := [], harness := (true, "13d1c9f0ada881fbaa3defd5b2f7db8a6bdfa4750673bae5fa24cd7fe69be4e8"), looks := true }, kinds := [], alts := [], laidByText := true, laidKinds := [.data, .data, .data, .sentinel, .sentinel, .data], laidTests := true, laidLooks := .later }
def ParsePatternsUptoCardSaid : Prop := Claim7.holds Tryz.pinned (.plain (OpenSpec.upto parsePatternsSpec)) parsePatternsUptoCard

/-- THE SECOND FORM's CARD OF 'tattinglaw05.ParseTrees'. -/
def parseTreesUptoCard : Claim7 := { stood := { row := parseTreesUptoRow, standIns := [], harness := (true, "13d1c9f0ada881fbaa3defd5b2f7db8a6bdfa4750673bae5fa24cd7fe69be4e8"), looks := true }, kinds := [], alts := [], laidByText := true, laidKinds := [.data, .data, .data, .sentinel, .sentinel, .data], laidTests := true, laidLooks := .later }
def ParseTreesUptoCardSaid : Prop := Claim7.holds Tryz.pinned (.plain (OpenSpec.upto parseTreesSpec)) parseTreesUptoCard
end Rows
end Go.Proofs.YtiahgcgpakgeeaaGreatDoor
