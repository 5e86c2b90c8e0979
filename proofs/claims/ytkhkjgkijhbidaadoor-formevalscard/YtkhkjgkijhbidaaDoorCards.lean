/-
  DERIVED. GIVEN WITH THE SEED: THE CARDS: each row of YtkhkjgkijhbidaaDoorRows.lean that lists a variable, with what it lists TIED to the program's text (the seventh form; the later family's looks); each row that meets fmt, with fmt's text TOLD by the authors' own Lean function (tested against real Go, not proved from fmt's source: count such statements apart). THE CARD IS WHAT COUNTS. Prove the row's statement (the work); the ties are given (YtkhkjgkijhbidaaDoorTie.lean); close each card by the builder's one call (the guide's Derived/Test/ToyasCard.lean, 'card_holds'). Laid BY PROGRAM, IN A SANDBOX (cutbox-door.mjs). By AI agents, Wed Nov 11 2026. No macro, syntax, notation, axiom, sorry.
-/
import Derived.Test.YtkhkjgkijhbidaaDoorRows
import GoSem.ClaimSeven
namespace Go.Proofs.YtkhkjgkijhbidaaDoor
namespace Rows

/-- THE TIED CARD OF 'filbertlaw3.FormEvals'. -/
def formEvalsCard : Claim7 := { stood := { row := formEvalsRow, standIns := [], harness := (true, "4480244a29867f4fc9e3e244418ae01294fe8b61ea7f7e9a62ed30d442428107"), looks := true }, kinds := [], alts := [], laidByText := true, laidKinds := [.handle], laidTests := true, laidLooks := .later }
def FormEvalsCardSaid : Prop := Claim7.holds Tryd.pinned (.plain (OpenSpec.ofChange formEvalsSpec)) formEvalsCard

/-- THE SECOND FORM's CARD OF 'filbertlaw3.FormEvals'. -/
def formEvalsUptoCard : Claim7 := { stood := { row := formEvalsUptoRow, standIns := [], harness := (true, "4480244a29867f4fc9e3e244418ae01294fe8b61ea7f7e9a62ed30d442428107"), looks := true }, kinds := [], alts := [], laidByText := true, laidKinds := [.handle], laidTests := true, laidLooks := .later }
def FormEvalsUptoCardSaid : Prop := Claim7.holds Tryd.pinned (.plain (OpenSpec.upto formEvalsSpec)) formEvalsUptoCard
end Rows
end Go.Proofs.YtkhkjgkijhbidaaDoor
