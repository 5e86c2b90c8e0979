/-
  DERIVED. GIVEN WITH THE SEED: THE CARDS: each row of YtcpnfbjcgaonkafDoorRows.lean that lists a variable, with what it lists TIED to the program's text (the seventh form; the later family's looks); each row that meets fmt, with fmt's text TOLD by the authors' own Lean function (tested against real Go, not proved from fmt's source: count such statements apart). THE CARD IS WHAT COUNTS. Prove the row's statement (the work); the ties are given (YtcpnfbjcgaonkafDoorTie.lean); close each card by the builder's one call (the guide's Derived/Test/ToyasCard.lean, 'card_holds'). Laid BY PROGRAM, IN A SANDBOX (cutbox-door.mjs). By AI agents, Wed Nov 11 2026. No macro, syntax, notation, axiom, sorry.
-/
import Derived.Test.YtcpnfbjcgaonkafDoorRows
import GoSem.ClaimSeven
namespace Go.Proofs.YtcpnfbjcgaonkafDoor
namespace Rows

/-- THE TIED CARD OF 'filbertlaw2.WordIs'. -/
def wordIsCard : Claim7 := { stood := { row := wordIsRow, standIns := [], harness := (true, "05bbb8aebfdac7d69b0c0b245c7a2ffb1557ba135e8439d5c2289046117adcda"), looks := true }, kinds := [], alts := [], laidByText := true, laidKinds := [.handle], laidTests := true, laidLooks := .later }
def WordIsCardSaid : Prop := Claim7.holds Tryd.pinned (.plain (OpenSpec.ofChange wordIsSpec)) wordIsCard

/-- THE TIED CARD OF 'filbertlaw2.WordLikes'. -/
def wordLikesCard : Claim7 := { stood := { row := wordLikesRow, standIns := [], harness := (true, "05bbb8aebfdac7d69b0c0b245c7a2ffb1557ba135e8439d5c2289046117adcda"), looks := true }, kinds := [], alts := [], laidByText := true, laidKinds := [.handle], laidTests := true, laidLooks := .later }
def WordLikesCardSaid : Prop := Claim7.holds Tryd.pinned (.plain (OpenSpec.ofChange wordLikesSpec)) wordLikesCard

/-- THE TIED CARD OF 'filbertlaw2.WordMorphs'. -/
def wordMorphsCard : Claim7 := { stood := { row := wordMorphsRow, standIns := [], harness := (true, "05bbb8aebfdac7d69b0c0b245c7a2ffb1557ba135e8439d5c2289046117adcda"), looks := true }, kinds := [], alts := [], laidByText := true, laidKinds := [.handle], laidTests := true, laidLooks := .later }
def WordMorphsCardSaid : Prop := Claim7.holds Tryd.pinned (.plain (OpenSpec.ofChange wordMorphsSpec)) wordMorphsCard

/-- THE TIED CARD OF 'filbertlaw2.WordNamed'. -/
def wordNamedCard : Claim7 := { stood := { row := wordNamedRow, standIns := [], harness := (true, "05bbb8aebfdac7d69b0c0b245c7a2ffb1557ba135e8439d5c2289046117adcda"), looks := true }, kinds := [], alts := [], laidByText := true, laidKinds := [.handle], laidTests := true, laidLooks := .later }
def WordNamedCardSaid : Prop := Claim7.holds Tryd.pinned (.plain (OpenSpec.ofChange wordNamedSpec)) wordNamedCard

/-- THE SECOND FORM's CARD OF 'filbertlaw2.WordIs'. -/
def wordIsUptoCard : Claim7 := { stood := { row := wordIsUptoRow, standIns := [], harness := (true, "05bbb8aebfdac7d69b0c0b245c7a2ffb1557ba135e8439d5c2289046117adcda"), looks := true }, kinds := [], alts := [], laidByText := true, laidKinds := [.handle], laidTests := true, laidLooks := .later }
def WordIsUptoCardSaid : Prop := Claim7.holds Tryd.pinned (.plain (OpenSpec.upto wordIsSpec)) wordIsUptoCard

/-- THE SECOND FORM's CARD OF 'filbertlaw2.WordLikes'. -/
def wordLikesUptoCard : Claim7 := { stood := { row := wordLikesUptoRow, standIns := [], harness := (true, "05bbb8aebfdac7d69b0c0b245c7a2ffb1557ba135e8439d5c2289046117adcda"), looks := true }, kinds := [], alts := [], laidByText := true, laidKinds := [.handle], laidTests := true, laidLooks := .later }
def WordLikesUptoCardSaid : Prop := Claim7.holds Tryd.pinned (.plain (OpenSpec.upto wordLikesSpec)) wordLikesUptoCard

/-- THE SECOND FORM's CARD OF 'filbertlaw2.WordMorphs'. -/
def wordMorphsUptoCard : Claim7 := { stood := { row := wordMorphsUptoRow, standIns := [], harness := (true, "05bbb8aebfdac7d69b0c0b245c7a2ffb1557ba135e8439d5c2289046117adcda"), looks := true }, kinds := [], alts := [], laidByText := true, laidKinds := [.handle], laidTests := true, laidLooks := .later }
def WordMorphsUptoCardSaid : Prop := Claim7.holds Tryd.pinned (.plain (OpenSpec.upto wordMorphsSpec)) wordMorphsUptoCard

/-- THE SECOND FORM's CARD OF 'filbertlaw2.WordNamed'. -/
def wordNamedUptoCard : Claim7 := { stood := { row := wordNamedUptoRow, standIns := [], harness := (true, "05bbb8aebfdac7d69b0c0b245c7a2ffb1557ba135e8439d5c2289046117adcda"), looks := true }, kinds := [], alts := [], laidByText := true, laidKinds := [.handle], laidTests := true, laidLooks := .later }
def WordNamedUptoCardSaid : Prop := Claim7.holds Tryd.pinned (.plain (OpenSpec.upto wordNamedSpec)) wordNamedUptoCard
end Rows
end Go.Proofs.YtcpnfbjcgaonkafDoor
