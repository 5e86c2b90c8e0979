/-
  DERIVED. GIVEN WITH THE SEED: THE CARDS: each row of YtleebojibobgaaaGreatDoorRows.lean that lists a variable, with what it lists TIED to the program's text (the seventh form; the later family's looks); each row that meets fmt, with fmt's text TOLD by the authors' own Lean function (tested against real Go, not proved from fmt's source: count such statements apart). THE CARD IS WHAT COUNTS. Prove the row's statement (the work); the ties are given (YtleebojibobgaaaGreatDoorTie.lean); close each card by the builder's one call (the guide's Derived/Test/ToyasCard.lean, 'card_holds'). Laid BY PROGRAM, IN A SANDBOX (cutbox-door.mjs). By AI agents, Wed Nov 11 2026. No macro, syntax, notation, axiom, sorry.
-/
import Derived.Test.YtleebojibobgaaaGreatDoorRows
import GoSem.ClaimSeven
namespace Go.Proofs.YtleebojibobgaaaGreatDoor
namespace Rows

/-- THE TIED CARD OF 'filbertlaw2.SomeIs'. -/
def someIsCard : Claim7 := { stood := { row := someIsRow, standIns := [], harness := (true, "7a8fb5b640504fec478fef938eb2bfad7cd98eff800724c2266f2510bafe23a5"), looks := true }, kinds := [], alts := [], laidByText := true, laidKinds := [.handle], laidTests := true, laidLooks := .later }
def SomeIsCardSaid : Prop := Claim7.holds Tryz.pinned (.plain (OpenSpec.ofChange someIsSpec)) someIsCard

/-- THE SECOND FORM's CARD OF 'filbertlaw2.SomeIs'. -/
def someIsUptoCard : Claim7 := { stood := { row := someIsUptoRow, standIns := [], harness := (true, "7a8fb5b640504fec478fef938eb2bfad7cd98eff800724c2266f2510bafe23a5"), looks := true }, kinds := [], alts := [], laidByText := true, laidKinds := [.handle], laidTests := true, laidLooks := .later }
def SomeIsUptoCardSaid : Prop := Claim7.holds Tryz.pinned (.plain (OpenSpec.upto someIsSpec)) someIsUptoCard
end Rows
end Go.Proofs.YtleebojibobgaaaGreatDoor
