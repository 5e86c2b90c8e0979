/-
  DERIVED. GIVEN WITH THE SEED: THE CARDS: each row of YtempjeckngamdaaDoorRows.lean that lists a variable, with what it lists TIED to the program's text (the seventh form; the later family's looks); each row that meets fmt, with fmt's text TOLD by the authors' own Lean function (tested against real Go, not proved from fmt's source: count such statements apart). THE CARD IS WHAT COUNTS. Prove the row's statement (the work); the ties are given (YtempjeckngamdaaDoorTie.lean); close each card by the builder's one call (the guide's Derived/Test/ToyasCard.lean, 'card_holds'). Laid BY PROGRAM, IN A SANDBOX (cutbox-door.mjs). By AI agents, Wed Nov 11 2026. No macro, syntax, notation, axiom, sorry.
-/
import Derived.Test.YtempjeckngamdaaDoorRows
import GoSem.ClaimSeven
namespace Go.Proofs.YtempjeckngamdaaDoor
namespace Rows

/-- THE TIED CARD OF 'filbertlaw3.FormChecks'. -/
def formChecksCard : Claim7 := { stood := { row := formChecksRow, standIns := [], harness := (true, "247f476bdfae582705ab8d677f500794f65d0410629c53e97c10fc7cfea564d3"), looks := true }, kinds := [], alts := [], laidByText := true, laidKinds := [.handle], laidTests := true, laidLooks := .later }
def FormChecksCardSaid : Prop := Claim7.holds Tryd.pinned (.plain (OpenSpec.ofChange formChecksSpec)) formChecksCard

/-- THE TIED CARD OF 'filbertlaw3.FormEvals'. -/
def formEvalsCard : Claim7 := { stood := { row := formEvalsRow, standIns := [], harness := (true, "247f476bdfae582705ab8d677f500794f65d0410629c53e97c10fc7cfea564d3"), looks := true }, kinds := [], alts := [], laidByText := true, laidKinds := [.handle], laidTests := true, laidLooks := .later }
def FormEvalsCardSaid : Prop := Claim7.holds Tryd.pinned (.plain (OpenSpec.ofChange formEvalsSpec)) formEvalsCard

/-- THE SECOND FORM's CARD OF 'filbertlaw3.FormChecks'. -/
def formChecksUptoCard : Claim7 := { stood := { row := formChecksUptoRow, standIns := [], harness := (true, "247f476bdfae582705ab8d677f500794f65d0410629c53e97c10fc7cfea564d3"), looks := true }, kinds := [], alts := [], laidByText := true, laidKinds := [.handle], laidTests := true, laidLooks := .later }
def FormChecksUptoCardSaid : Prop := Claim7.holds Tryd.pinned (.plain (OpenSpec.upto formChecksSpec)) formChecksUptoCard

/-- THE SECOND FORM's CARD OF 'filbertlaw3.FormEvals'. -/
def formEvalsUptoCard : Claim7 := { stood := { row := formEvalsUptoRow, standIns := [], harness := (true, "247f476bdfae582705ab8d677f500794f65d0410629c53e97c10fc7cfea564d3"), looks := true }, kinds := [], alts := [], laidByText := true, laidKinds := [.handle], laidTests := true, laidLooks := .later }
def FormEvalsUptoCardSaid : Prop := Claim7.holds Tryd.pinned (.plain (OpenSpec.upto formEvalsSpec)) formEvalsUptoCard
end Rows
end Go.Proofs.YtempjeckngamdaaDoor
