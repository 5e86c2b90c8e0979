/-
  DERIVED. GIVEN WITH THE SEED: THE CARDS: each row of YtihhlddbppljpacDoorRows.lean that lists a variable, with what it lists TIED to the program's text (the seventh form; the later family's looks); each row that meets fmt, with fmt's text TOLD by the authors' own Lean function (tested against real Go, not proved from fmt's source: count such statements apart). THE CARD IS WHAT COUNTS. Prove the row's statement (the work); the ties are given (YtihhlddbppljpacDoorTie.lean); close each card by the builder's one call (the guide's Derived/Test/ToyasCard.lean, 'card_holds'). Laid BY PROGRAM, IN A SANDBOX (cutbox-door.mjs). By AI agents, Wed Nov 11 2026. No macro, syntax, notation, axiom, sorry.
-/
import Derived.Test.YtihhlddbppljpacDoorRows
import GoSem.ClaimSeven
namespace Go.Proofs.YtihhlddbppljpacDoor
namespace Rows

/-- THE TIED CARD OF 'filbertlaw1.PairBoth'. -/
def pairBothCard : Claim7 := { stood := { row := pairBothRow, standIns := [], harness := (true, "d8e1b7b95ec69ebd73f9b2ec0e28fc49edb163d4d9a513cba83b28aa8caf6c2b"), looks := true }, kinds := [], alts := [], laidByText := true, laidKinds := [.handle], laidTests := true, laidLooks := .later }
def PairBothCardSaid : Prop := Claim7.holds Tryd.pinned (.plain (OpenSpec.ofChange pairBothSpec)) pairBothCard

/-- THE SECOND FORM's CARD OF 'filbertlaw1.PairBoth'. -/
def pairBothUptoCard : Claim7 := { stood := { row := pairBothUptoRow, standIns := [], harness := (true, "d8e1b7b95ec69ebd73f9b2ec0e28fc49edb163d4d9a513cba83b28aa8caf6c2b"), looks := true }, kinds := [], alts := [], laidByText := true, laidKinds := [.handle], laidTests := true, laidLooks := .later }
def PairBothUptoCardSaid : Prop := Claim7.holds Tryd.pinned (.plain (OpenSpec.upto pairBothSpec)) pairBothUptoCard
end Rows
end Go.Proofs.YtihhlddbppljpacDoor
