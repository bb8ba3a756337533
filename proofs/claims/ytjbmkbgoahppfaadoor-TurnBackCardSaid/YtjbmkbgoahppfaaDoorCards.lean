/-
  DERIVED. GIVEN WITH THE SEED: THE CARDS: each row of YtjbmkbgoahppfaaDoorRows.lean that lists a variable, with what it lists TIED to the program's text (the seventh form; the later family's looks); each row that meets fmt, with fmt's text TOLD by the authors' own Lean function (tested against real Go, not proved from fmt's source: count such statements apart). THE CARD IS WHAT COUNTS. Prove the row's statement (the work); the ties are given (YtjbmkbgoahppfaaDoorTie.lean); close each card by the builder's one call (the guide's Derived/Test/ToyasCard.lean, 'card_holds'). Laid BY PROGRAM, IN A SANDBOX (cutbox-door.mjs). By AI agents, Wed Nov 11 2026. No macro, syntax, notation, axiom, sorry.
-/
import Derived.Test.YtjbmkbgoahppfaaDoorRows
import GoSem.ClaimSeven
namespace Go.Proofs.YtjbmkbgoahppfaaDoor
namespace Rows

/-- THE TIED CARD OF 'tattinglaw08.TurnTrees'. -/
def turnTreesCard : Claim7 := { stood := { row := turnTreesRow, standIns := [], harness := (true, "152ab0e739a5fbc95ce8e9c0a75e83bc337709ae1f1bb626475d3967c19fa96a"), looks := false }, kinds := [], alts := [], laidByText := true, laidKinds := [.data, .data, .data, .data], laidTests := true, laidLooks := .later }
def TurnTreesCardSaid : Prop := Claim7.holds Tryd.pinned (.plain (OpenSpec.ofChange turnTreesSpec)) turnTreesCard

/-- THE TIED CARD OF 'tattinglaw08.TurnFits'. -/
def turnFitsCard : Claim7 := { stood := { row := turnFitsRow, standIns := [], harness := (true, "152ab0e739a5fbc95ce8e9c0a75e83bc337709ae1f1bb626475d3967c19fa96a"), looks := false }, kinds := [], alts := [], laidByText := true, laidKinds := [.data, .data, .data, .data], laidTests := true, laidLooks := .later }
def TurnFitsCardSaid : Prop := Claim7.holds Tryd.pinned (.plain (OpenSpec.ofChange turnFitsSpec)) turnFitsCard

/-- THE TIED CARD OF 'tattinglaw08.TurnBack'. -/
def turnBackCard : Claim7 := { stood := { row := turnBackRow, standIns := [], harness := (true, "152ab0e739a5fbc95ce8e9c0a75e83bc337709ae1f1bb626475d3967c19fa96a"), looks := false }, kinds := [], alts := [], laidByText := true, laidKinds := [.data, .data, .data, .data], laidTests := true, laidLooks := .later }
def TurnBackCardSaid : Prop := Claim7.holds Tryd.pinned (.plain (OpenSpec.ofChange turnBackSpec)) turnBackCard

/-- THE SECOND FORM's CARD OF 'tattinglaw08.TurnTrees'. -/
def turnTreesUptoCard : Claim7 := { stood := { row := turnTreesUptoRow, standIns := [], harness := (true, "152ab0e739a5fbc95ce8e9c0a75e83bc337709ae1f1bb626475d3967c19fa96a"), looks := false }, kinds := [], alts := [], laidByText := true, laidKinds := [.data, .data, .data, .data], laidTests := true, laidLooks := .later }
def TurnTreesUptoCardSaid : Prop := Claim7.holds Tryd.pinned (.plain (OpenSpec.upto turnTreesSpec)) turnTreesUptoCard

/-- THE SECOND FORM's CARD OF 'tattinglaw08.TurnFits'. -/
def turnFitsUptoCard : Claim7 := { stood := { row := turnFitsUptoRow, standIns := [], harness := (true, "152ab0e739a5fbc95ce8e9c0a75e83bc337709ae1f1bb626475d3967c19fa96a"), looks := false }, kinds := [], alts := [], laidByText := true, laidKinds := [.data, .data, .data, .data], laidTests := true, laidLooks := .later }
def TurnFitsUptoCardSaid : Prop := Claim7.holds Tryd.pinned (.plain (OpenSpec.upto turnFitsSpec)) turnFitsUptoCard

/-- THE SECOND FORM's CARD OF 'tattinglaw08.TurnBack'. -/
def turnBackUptoCard : Claim7 := { stood := { row := turnBackUptoRow, standIns := [], harness := (true, "152ab0e739a5fbc95ce8e9c0a75e83bc337709ae1f1bb626475d3967c19fa96a"), looks := false }, kinds := [], alts := [], laidByText := true, laidKinds := [.data, .data, .data, .data], laidTests := true, laidLooks := .later }
def TurnBackUptoCardSaid : Prop := Claim7.holds Tryd.pinned (.plain (OpenSpec.upto turnBackSpec)) turnBackUptoCard
end Rows
end Go.Proofs.YtjbmkbgoahppfaaDoor
