/-
  DERIVED. GIVEN WITH THE SEED: THE CARDS: each row of YtdmkjhccdknndaaDoorRows.lean that lists a variable, with what it lists TIED to the program's text (the seventh form; the later family's looks); each row that meets fmt, with fmt's text TOLD by the authors' own Lean function (tested against real Go, not proved from fmt's source: count such statements apart). THE CARD IS WHAT COUNTS. Prove the row's statement (the work); the ties are given (YtdmkjhccdknndaaDoorTie.lean); close each card by the builder's one call (the guide's Derived/Test/ToyasCard.lean, 'card_holds'). Laid BY PROGRAM, IN A SANDBOX (cutbox-door.mjs). By AI agents, Wed Nov 11 2026. No macro, syntax, notation, axiom, sorry.
-/
import Derived.Test.YtdmkjhccdknndaaDoorRows
import GoSem.ClaimSeven
namespace Go.Proofs.YtdmkjhccdknndaaDoor
namespace Rows

/-- THE TIED CARD OF 'filbertlaw1.DigitReads'. -/
def digitReadsCard : Claim7 := { stood := { row := digitReadsRow, standIns := [], harness := (true, "7797fa5374644cd22170b91aa80f84521804145bea1c91ae663cf78a3782ea11"), looks := true }, kinds := [], alts := [], laidByText := true, laidKinds := [.handle], laidTests := true, laidLooks := .later }
def DigitReadsCardSaid : Prop := Claim7.holds Tryd.pinned (.plain (OpenSpec.ofChange digitReadsSpec)) digitReadsCard

/-- THE TIED CARD OF 'filbertlaw1.LetterPacks'. -/
def letterPacksCard : Claim7 := { stood := { row := letterPacksRow, standIns := [], harness := (true, "7797fa5374644cd22170b91aa80f84521804145bea1c91ae663cf78a3782ea11"), looks := true }, kinds := [], alts := [], laidByText := true, laidKinds := [.handle], laidTests := true, laidLooks := .later }
def LetterPacksCardSaid : Prop := Claim7.holds Tryd.pinned (.plain (OpenSpec.ofChange letterPacksSpec)) letterPacksCard

/-- THE TIED CARD OF 'filbertlaw1.LetterWords'. -/
def letterWordsCard : Claim7 := { stood := { row := letterWordsRow, standIns := [], harness := (true, "7797fa5374644cd22170b91aa80f84521804145bea1c91ae663cf78a3782ea11"), looks := true }, kinds := [], alts := [], laidByText := true, laidKinds := [.handle], laidTests := true, laidLooks := .later }
def LetterWordsCardSaid : Prop := Claim7.holds Tryd.pinned (.plain (OpenSpec.ofChange letterWordsSpec)) letterWordsCard

/-- THE SECOND FORM's CARD OF 'filbertlaw1.DigitReads'. -/
def digitReadsUptoCard : Claim7 := { stood := { row := digitReadsUptoRow, standIns := [], harness := (true, "7797fa5374644cd22170b91aa80f84521804145bea1c91ae663cf78a3782ea11"), looks := true }, kinds := [], alts := [], laidByText := true, laidKinds := [.handle], laidTests := true, laidLooks := .later }
def DigitReadsUptoCardSaid : Prop := Claim7.holds Tryd.pinned (.plain (OpenSpec.upto digitReadsSpec)) digitReadsUptoCard

/-- THE SECOND FORM's CARD OF 'filbertlaw1.LetterPacks'. -/
def letterPacksUptoCard : Claim7 := { stood := { row := letterPacksUptoRow, standIns := [], harness := (true, "7797fa5374644cd22170b91aa80f84521804145bea1c91ae663cf78a3782ea11"), looks := true }, kinds := [], alts := [], laidByText := true, laidKinds := [.handle], laidTests := true, laidLooks := .later }
def LetterPacksUptoCardSaid : Prop := Claim7.holds Tryd.pinned (.plain (OpenSpec.upto letterPacksSpec)) letterPacksUptoCard

/-- THE SECOND FORM's CARD OF 'filbertlaw1.LetterWords'. -/
def letterWordsUptoCard : Claim7 := { stood := { row := letterWordsUptoRow, standIns := [], harness := (true, "7797fa5374644cd22170b91aa80f84521804145bea1c91ae663cf78a3782ea11"), looks := true }, kinds := [], alts := [], laidByText := true, laidKinds := [.handle], laidTests := true, laidLooks := .later }
def LetterWordsUptoCardSaid : Prop := Claim7.holds Tryd.pinned (.plain (OpenSpec.upto letterWordsSpec)) letterWordsUptoCard
end Rows
end Go.Proofs.YtdmkjhccdknndaaDoor
