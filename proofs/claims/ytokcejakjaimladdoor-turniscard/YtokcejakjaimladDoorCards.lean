/-
  DERIVED. GIVEN WITH THE SEED: THE CARDS: each row of YtokcejakjaimladDoorRows.lean that lists a variable, with what it lists TIED to the program's text (the seventh form; the later family's looks); each row that meets fmt, with fmt's text TOLD by the authors' own Lean function (tested against real Go, not proved from fmt's source: count such statements apart). THE CARD IS WHAT COUNTS. Prove the row's statement (the work); the ties are given (YtokcejakjaimladDoorTie.lean); close each card by the builder's one call (the guide's Derived/Test/ToyasCard.lean, 'card_holds'). Laid BY PROGRAM, IN A SANDBOX (cutbox-door.mjs). By AI agents, Wed Nov 11 2026. No macro, syntax, notation, axiom, sorry.
-/
import Derived.Test.YtokcejakjaimladDoorRows
import GoSem.ClaimSeven
namespace Go.Proofs.YtokcejakjaimladDoor
namespace Rows

/-- THE TIED CARD OF 'filbertlaw2.SomeCloses'. -/
def someClosesCard : Claim7 := { stood := { row := someClosesRow, standIns := [], harness := (true, "c4579fd42267bfbed03162ed76f15eb34d0bd157a83f0ccb7300ded0e89608f4"), looks := true }, kinds := [], alts := [], laidByText := true, laidKinds := [.handle], laidTests := true, laidLooks := .later }
def SomeClosesCardSaid : Prop := Claim7.holds Tryd.pinned (.plain (OpenSpec.ofChange someClosesSpec)) someClosesCard

/-- THE TIED CARD OF 'filbertlaw2.TurnIs'. -/
def turnIsCard : Claim7 := { stood := { row := turnIsRow, standIns := [], harness := (true, "c4579fd42267bfbed03162ed76f15eb34d0bd157a83f0ccb7300ded0e89608f4"), looks := true }, kinds := [], alts := [], laidByText := true, laidKinds := [.handle], laidTests := true, laidLooks := .later }
def TurnIsCardSaid : Prop := Claim7.holds Tryd.pinned (.plain (OpenSpec.ofChange turnIsSpec)) turnIsCard

/-- THE SECOND FORM's CARD OF 'filbertlaw2.SomeCloses'. -/
def someClosesUptoCard : Claim7 := { stood := { row := someClosesUptoRow, standIns := [], harness := (true, "c4579fd42267bfbed03162ed76f15eb34d0bd157a83f0ccb7300ded0e89608f4"), looks := true }, kinds := [], alts := [], laidByText := true, laidKinds := [.handle], laidTests := true, laidLooks := .later }
def SomeClosesUptoCardSaid : Prop := Claim7.holds Tryd.pinned (.plain (OpenSpec.upto someClosesSpec)) someClosesUptoCard

/-- THE SECOND FORM's CARD OF 'filbertlaw2.TurnIs'. -/
def turnIsUptoCard : Claim7 := { stood := { row := turnIsUptoRow, standIns := [], harness := (true, "c4579fd42267bfbed03162ed76f15eb34d0bd157a83f0ccb7300ded0e89608f4"), looks := true }, kinds := [], alts := [], laidByText := true, laidKinds := [.handle], laidTests := true, laidLooks := .later }
def TurnIsUptoCardSaid : Prop := Claim7.holds Tryd.pinned (.plain (OpenSpec.upto turnIsSpec)) turnIsUptoCard
end Rows
end Go.Proofs.YtokcejakjaimladDoor
