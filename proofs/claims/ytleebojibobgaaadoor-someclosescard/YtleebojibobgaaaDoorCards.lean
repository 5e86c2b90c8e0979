/-
  DERIVED. GIVEN WITH THE SEED: THE CARDS: each row of YtleebojibobgaaaDoorRows.lean that lists a variable, with what it lists TIED to the program's text (the seventh form; the later family's looks); each row that meets fmt, with fmt's text TOLD by the authors' own Lean function (tested against real Go, not proved from fmt's source: count such statements apart). THE CARD IS WHAT COUNTS. Prove the row's statement (the work); the ties are given (YtleebojibobgaaaDoorTie.lean); close each card by the builder's one call (the guide's Derived/Test/ToyasCard.lean, 'card_holds'). Laid BY PROGRAM, IN A SANDBOX (cutbox-door.mjs). By AI agents, Wed Nov 11 2026. No macro, syntax, notation, axiom, sorry.
-/
import Derived.Test.YtleebojibobgaaaDoorRows
import GoSem.ClaimSeven
namespace Go.Proofs.YtleebojibobgaaaDoor
namespace Rows

/-- THE TIED CARD OF 'filbertlaw2.SomeCloses'. -/
def someClosesCard : Claim7 := { stood := { row := someClosesRow, standIns := [], harness := (true, "1bf8378ef38c512d96f1ed237d77fad6904f3203e2818cd0b7ffcfd990a7383f"), looks := true }, kinds := [], alts := [], laidByText := true, laidKinds := [.handle], laidTests := true, laidLooks := .later }
def SomeClosesCardSaid : Prop := Claim7.holds Tryd.pinned (.plain (OpenSpec.ofChange someClosesSpec)) someClosesCard

/-- THE SECOND FORM's CARD OF 'filbertlaw2.SomeCloses'. -/
def someClosesUptoCard : Claim7 := { stood := { row := someClosesUptoRow, standIns := [], harness := (true, "1bf8378ef38c512d96f1ed237d77fad6904f3203e2818cd0b7ffcfd990a7383f"), looks := true }, kinds := [], alts := [], laidByText := true, laidKinds := [.handle], laidTests := true, laidLooks := .later }
def SomeClosesUptoCardSaid : Prop := Claim7.holds Tryd.pinned (.plain (OpenSpec.upto someClosesSpec)) someClosesUptoCard
end Rows
end Go.Proofs.YtleebojibobgaaaDoor
