/-
  DERIVED. GIVEN WITH THE SEED: THE CARDS: each row of YtgbmemkoggogdaaDoorRows.lean that lists a variable, with what it lists TIED to the program's text (the seventh form; the later family's looks); each row that meets fmt, with fmt's text TOLD by the authors' own Lean function (tested against real Go, not proved from fmt's source: count such statements apart). THE CARD IS WHAT COUNTS. Prove the row's statement (the work); the ties are given (YtgbmemkoggogdaaDoorTie.lean); close each card by the builder's one call (the guide's Derived/Test/ToyasCard.lean, 'card_holds'). Laid BY PROGRAM, IN A SANDBOX (cutbox-door.mjs). By AI agents, Wed Nov 11 2026. No macro, syntax, notation, axiom, sorry.
-/
import Derived.Test.YtgbmemkoggogdaaDoorRows
import GoSem.ClaimSeven
namespace Go.Proofs.YtgbmemkoggogdaaDoor
namespace Rows

/-- THE TIED CARD OF 'filbertlaw2.WordLikes'. -/
def wordLikesCard : Claim7 := { stood := { row := wordLikesRow, standIns := [], harness := (true, "1b2f271a327ef41ba817b96ed9ef7ef94974a279ed5cdd4fb63328074c5d929c"), looks := true }, kinds := [], alts := [], laidByText := true, laidKinds := [.handle], laidTests := true, laidLooks := .later }
def WordLikesCardSaid : Prop := Claim7.holds Tryd.pinned (.plain (OpenSpec.ofChange wordLikesSpec)) wordLikesCard

/-- THE TIED CARD OF 'filbertlaw3.FormEvals'. -/
def formEvalsCard : Claim7 := { stood := { row := formEvalsRow, standIns := [], harness := (true, "1b2f271a327ef41ba817b96ed9ef7ef94974a279ed5cdd4fb63328074c5d929c"), looks := true }, kinds := [], alts := [], laidByText := true, laidKinds := [.handle], laidTests := true, laidLooks := .later }
def FormEvalsCardSaid : Prop := Claim7.holds Tryd.pinned (.plain (OpenSpec.ofChange formEvalsSpec)) formEvalsCard

/-- THE SECOND FORM's CARD OF 'filbertlaw2.WordLikes'. -/
def wordLikesUptoCard : Claim7 := { stood := { row := wordLikesUptoRow, standIns := [], harness := (true, "1b2f271a327ef41ba817b96ed9ef7ef94974a279ed5cdd4fb63328074c5d929c"), looks := true }, kinds := [], alts := [], laidByText := true, laidKinds := [.handle], laidTests := true, laidLooks := .later }
def WordLikesUptoCardSaid : Prop := Claim7.holds Tryd.pinned (.plain (OpenSpec.upto wordLikesSpec)) wordLikesUptoCard

/-- THE SECOND FORM's CARD OF 'filbertlaw3.FormEvals'. -/
def formEvalsUptoCard : Claim7 := { stood := { row := formEvalsUptoRow, standIns := [], harness := (true, "1b2f271a327ef41ba817b96ed9ef7ef94974a279ed5cdd4fb63328074c5d929c"), looks := true }, kinds := [], alts := [], laidByText := true, laidKinds := [.handle], laidTests := true, laidLooks := .later }
def FormEvalsUptoCardSaid : Prop := Claim7.holds Tryd.pinned (.plain (OpenSpec.upto formEvalsSpec)) formEvalsUptoCard
end Rows
end Go.Proofs.YtgbmemkoggogdaaDoor
