/-
  DERIVED. GIVEN WITH THE SEED: THE CARDS: each row of YtkighkpmebcnhacDoorRows.lean that lists a variable, with what it lists TIED to the program's text (the seventh form; the later family's looks); each row that meets fmt, with fmt's text TOLD by the authors' own Lean function (tested against real Go, not proved from fmt's source: count such statements apart). THE CARD IS WHAT COUNTS. Prove the row's statement (the work); the ties are given (YtkighkpmebcnhacDoorTie.lean); close each card by the builder's one call (the guide's Derived/Test/ToyasCard.lean, 'card_holds'). Laid BY PROGRAM, IN A SANDBOX (cutbox-door.mjs). By AI agents, Wed Nov 11 2026. No macro, syntax, notation, axiom, sorry.
-/
import Derived.Test.YtkighkpmebcnhacDoorRows
import GoSem.ClaimSeven
namespace Go.Proofs.YtkighkpmebcnhacDoor
namespace Rows

/-- THE TIED CARD OF 'filbertlaw1.PairBoth'. -/
def pairBothCard : Claim7 := { stood := { row := pairBothRow, standIns := [], harness := (true, "40251e4ff3fcea79ef1b6dde172695851b310d455de94765ca5d4b760c46baa0"), looks := true }, kinds := [], alts := [], laidByText := true, laidKinds := [.handle], laidTests := true, laidLooks := .later }
def PairBothCardSaid : Prop := Claim7.holds Tryd.pinned (.plain (OpenSpec.ofChange pairBothSpec)) pairBothCard

/-- THE TIED CARD OF 'filbertlaw1.TrackMoves'. -/
def trackMovesCard : Claim7 := { stood := { row := trackMovesRow, standIns := [], harness := (true, "40251e4ff3fcea79ef1b6dde172695851b310d455de94765ca5d4b760c46baa0"), looks := true }, kinds := [], alts := [], laidByText := true, laidKinds := [.handle], laidTests := true, laidLooks := .later }
def TrackMovesCardSaid : Prop := Claim7.holds Tryd.pinned (.plain (OpenSpec.ofChange trackMovesSpec)) trackMovesCard

/-- THE SECOND FORM's CARD OF 'filbertlaw1.PairBoth'. -/
def pairBothUptoCard : Claim7 := { stood := { row := pairBothUptoRow, standIns := [], harness := (true, "40251e4ff3fcea79ef1b6dde172695851b310d455de94765ca5d4b760c46baa0"), looks := true }, kinds := [], alts := [], laidByText := true, laidKinds := [.handle], laidTests := true, laidLooks := .later }
def PairBothUptoCardSaid : Prop := Claim7.holds Tryd.pinned (.plain (OpenSpec.upto pairBothSpec)) pairBothUptoCard

/-- THE SECOND FORM's CARD OF 'filbertlaw1.TrackMoves'. -/
def trackMovesUptoCard : Claim7 := { stood := { row := trackMovesUptoRow, standIns := [], harness := (true, "40251e4ff3fcea79ef1b6dde172695851b310d455de94765ca5d4b760c46baa0"), looks := true }, kinds := [], alts := [], laidByText := true, laidKinds := [.handle], laidTests := true, laidLooks := .later }
def TrackMovesUptoCardSaid : Prop := Claim7.holds Tryd.pinned (.plain (OpenSpec.upto trackMovesSpec)) trackMovesUptoCard
end Rows
end Go.Proofs.YtkighkpmebcnhacDoor
