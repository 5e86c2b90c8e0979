/-
  DERIVED. GIVEN WITH THE SEED: THE CARDS: each row of YtklejobfnofbaaeDoorRows.lean that lists a variable, with what it lists TIED to the program's text (the seventh form; the later family's looks); each row that meets fmt, with fmt's text TOLD by the authors' own Lean function (tested against real Go, not proved from fmt's source: count such statements apart). THE CARD IS WHAT COUNTS. Prove the row's statement (the work); the ties are given (YtklejobfnofbaaeDoorTie.lean); close each card by the builder's one call (the guide's Derived/Test/ToyasCard.lean, 'card_holds'). Laid BY PROGRAM, IN A SANDBOX (cutbox-door.mjs). By AI agents, Wed Nov 11 2026. No macro, syntax, notation, axiom, sorry.
-/
import Derived.Test.YtklejobfnofbaaeDoorRows
import GoSem.ClaimSeven
namespace Go.Proofs.YtklejobfnofbaaeDoor
namespace Rows

/-- THE TIED CARD OF 'filbertlaw2.RightIs'. -/
def rightIsCard : Claim7 := { stood := { row := rightIsRow, standIns := [], harness := (true, "2a74456df1aa826a3aa3cc61085da0c76d680dee47d41f52878a16233c31d46c"), looks := true }, kinds := [], alts := [], laidByText := true, laidKinds := [.handle], laidTests := true, laidLooks := .later }
def RightIsCardSaid : Prop := Claim7.holds Tryd.pinned (.plain (OpenSpec.ofChange rightIsSpec)) rightIsCard

/-- THE SECOND FORM's CARD OF 'filbertlaw2.RightIs'. -/
def rightIsUptoCard : Claim7 := { stood := { row := rightIsUptoRow, standIns := [], harness := (true, "2a74456df1aa826a3aa3cc61085da0c76d680dee47d41f52878a16233c31d46c"), looks := true }, kinds := [], alts := [], laidByText := true, laidKinds := [.handle], laidTests := true, laidLooks := .later }
def RightIsUptoCardSaid : Prop := Claim7.holds Tryd.pinned (.plain (OpenSpec.upto rightIsSpec)) rightIsUptoCard
end Rows
end Go.Proofs.YtklejobfnofbaaeDoor
