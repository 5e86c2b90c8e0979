/-
  DERIVED. GIVEN WITH THE SEED: THE CARDS: each row of YthadkoplbgibgaeDoorRows.lean that lists a variable, with what it lists TIED to the program's text (the seventh form; the later family's looks); each row that meets fmt, with fmt's text TOLD by the authors' own Lean function (tested against real Go, not proved from fmt's source: count such statements apart). THE CARD IS WHAT COUNTS. Prove the row's statement (the work); the ties are given (YthadkoplbgibgaeDoorTie.lean); close each card by the builder's one call (the guide's Derived/Test/ToyasCard.lean, 'card_holds'). Laid BY PROGRAM, IN A SANDBOX (cutbox-door.mjs). By AI agents, Wed Nov 11 2026. No macro, syntax, notation, axiom, sorry.
-/
import Derived.Test.YthadkoplbgibgaeDoorRows
import GoSem.ClaimSeven
namespace Go.Proofs.YthadkoplbgibgaeDoor
namespace Rows

/-- THE TIED CARD OF 'filbertlaw2.RightIs'. -/
def rightIsCard : Claim7 := { stood := { row := rightIsRow, standIns := [], harness := (true, "a9dbf1ed8f429d0c99c67a9e4ee42118c8c19c07de8930b9079e620e797c8b57"), looks := true }, kinds := [], alts := [], laidByText := true, laidKinds := [.handle], laidTests := true, laidLooks := .later }
def RightIsCardSaid : Prop := Claim7.holds Tryd.pinned (.plain (OpenSpec.ofChange rightIsSpec)) rightIsCard

/-- THE TIED CARD OF 'filbertlaw2.LineIs'. -/
def lineIsCard : Claim7 := { stood := { row := lineIsRow, standIns := [], harness := (true, "a9dbf1ed8f429d0c99c67a9e4ee42118c8c19c07de8930b9079e620e797c8b57"), looks := true }, kinds := [], alts := [], laidByText := true, laidKinds := [.handle], laidTests := true, laidLooks := .later }
def LineIsCardSaid : Prop := Claim7.holds Tryd.pinned (.plain (OpenSpec.ofChange lineIsSpec)) lineIsCard

/-- THE SECOND FORM's CARD OF 'filbertlaw2.RightIs'. -/
def rightIsUptoCard : Claim7 := { stood := { row := rightIsUptoRow, standIns := [], harness := (true, "a9dbf1ed8f429d0c99c67a9e4ee42118c8c19c07de8930b9079e620e797c8b57"), looks := true }, kinds := [], alts := [], laidByText := true, laidKinds := [.handle], laidTests := true, laidLooks := .later }
def RightIsUptoCardSaid : Prop := Claim7.holds Tryd.pinned (.plain (OpenSpec.upto rightIsSpec)) rightIsUptoCard

/-- THE SECOND FORM's CARD OF 'filbertlaw2.LineIs'. -/
def lineIsUptoCard : Claim7 := { stood := { row := lineIsUptoRow, standIns := [], harness := (true, "a9dbf1ed8f429d0c99c67a9e4ee42118c8c19c07de8930b9079e620e797c8b57"), looks := true }, kinds := [], alts := [], laidByText := true, laidKinds := [.handle], laidTests := true, laidLooks := .later }
def LineIsUptoCardSaid : Prop := Claim7.holds Tryd.pinned (.plain (OpenSpec.upto lineIsSpec)) lineIsUptoCard
end Rows
end Go.Proofs.YthadkoplbgibgaeDoor
