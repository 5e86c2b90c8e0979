/-
  DERIVED. GIVEN WITH THE SEED: THE CARDS: each row of YtlgjadnkokmjoaaDoorRows.lean that lists a variable, with what it lists TIED to the program's text (the seventh form; the later family's looks); each row that meets fmt, with fmt's text TOLD by the authors' own Lean function (tested against real Go, not proved from fmt's source: count such statements apart). THE CARD IS WHAT COUNTS. Prove the row's statement (the work); the ties are given (YtlgjadnkokmjoaaDoorTie.lean); close each card by the builder's one call (the guide's Derived/Test/ToyasCard.lean, 'card_holds'). Laid BY PROGRAM, IN A SANDBOX (cutbox-door.mjs). By AI agents, Wed Nov 11 2026. No macro, syntax, notation, axiom, sorry.
-/
import Derived.Test.YtlgjadnkokmjoaaDoorRows
import GoSem.ClaimSeven
namespace Go.Proofs.YtlgjadnkokmjoaaDoor
namespace Rows

/-- THE TIED CARD OF 'filbertlaw4.CountLongs'. -/
def countLongsCard : Claim7 := { stood := { row := countLongsRow, standIns := [], harness := (true, "1168e954b7783b149b3faf37c27d43e8cf61cc1a14f6be6c85679aaa53058c1a"), looks := true }, kinds := [], alts := [], laidByText := true, laidKinds := [.handle], laidTests := true, laidLooks := .later }
def CountLongsCardSaid : Prop := Claim7.holds Tryd.pinned (.plain (OpenSpec.ofChange countLongsSpec)) countLongsCard

/-- THE TIED CARD OF 'filbertlaw4.CountBelow'. -/
def countBelowCard : Claim7 := { stood := { row := countBelowRow, standIns := [], harness := (true, "1168e954b7783b149b3faf37c27d43e8cf61cc1a14f6be6c85679aaa53058c1a"), looks := true }, kinds := [], alts := [], laidByText := true, laidKinds := [.handle], laidTests := true, laidLooks := .later }
def CountBelowCardSaid : Prop := Claim7.holds Tryd.pinned (.plain (OpenSpec.ofChange countBelowSpec)) countBelowCard

/-- THE TIED CARD OF 'filbertlaw4.CountEvals'. -/
def countEvalsCard : Claim7 := { stood := { row := countEvalsRow, standIns := [], harness := (true, "1168e954b7783b149b3faf37c27d43e8cf61cc1a14f6be6c85679aaa53058c1a"), looks := true }, kinds := [], alts := [], laidByText := true, laidKinds := [.handle], laidTests := true, laidLooks := .later }
def CountEvalsCardSaid : Prop := Claim7.holds Tryd.pinned (.plain (OpenSpec.ofChange countEvalsSpec)) countEvalsCard

/-- THE SECOND FORM's CARD OF 'filbertlaw4.CountLongs'. -/
def countLongsUptoCard : Claim7 := { stood := { row := countLongsUptoRow, standIns := [], harness := (true, "1168e954b7783b149b3faf37c27d43e8cf61cc1a14f6be6c85679aaa53058c1a"), looks := true }, kinds := [], alts := [], laidByText := true, laidKinds := [.handle], laidTests := true, laidLooks := .later }
def CountLongsUptoCardSaid : Prop := Claim7.holds Tryd.pinned (.plain (OpenSpec.upto countLongsSpec)) countLongsUptoCard

/-- THE SECOND FORM's CARD OF 'filbertlaw4.CountBelow'. -/
def countBelowUptoCard : Claim7 := { stood := { row := countBelowUptoRow, standIns := [], harness := (true, "1168e954b7783b149b3faf37c27d43e8cf61cc1a14f6be6c85679aaa53058c1a"), looks := true }, kinds := [], alts := [], laidByText := true, laidKinds := [.handle], laidTests := true, laidLooks := .later }
def CountBelowUptoCardSaid : Prop := Claim7.holds Tryd.pinned (.plain (OpenSpec.upto countBelowSpec)) countBelowUptoCard

/-- THE SECOND FORM's CARD OF 'filbertlaw4.CountEvals'. -/
def countEvalsUptoCard : Claim7 := { stood := { row := countEvalsUptoRow, standIns := [], harness := (true, "1168e954b7783b149b3faf37c27d43e8cf61cc1a14f6be6c85679aaa53058c1a"), looks := true }, kinds := [], alts := [], laidByText := true, laidKinds := [.handle], laidTests := true, laidLooks := .later }
def CountEvalsUptoCardSaid : Prop := Claim7.holds Tryd.pinned (.plain (OpenSpec.upto countEvalsSpec)) countEvalsUptoCard
end Rows
end Go.Proofs.YtlgjadnkokmjoaaDoor
