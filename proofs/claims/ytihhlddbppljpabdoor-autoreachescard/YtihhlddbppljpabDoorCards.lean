/-
  DERIVED. GIVEN WITH THE SEED: THE CARDS: each row of YtihhlddbppljpabDoorRows.lean that lists a variable, with what it lists TIED to the program's text (the seventh form; the later family's looks); each row that meets fmt, with fmt's text TOLD by the authors' own Lean function (tested against real Go, not proved from fmt's source: count such statements apart). THE CARD IS WHAT COUNTS. Prove the row's statement (the work); the ties are given (YtihhlddbppljpabDoorTie.lean); close each card by the builder's one call (the guide's Derived/Test/ToyasCard.lean, 'card_holds'). Laid BY PROGRAM, IN A SANDBOX (cutbox-door.mjs). By AI agents, Wed Nov 11 2026. No macro, syntax, notation, axiom, sorry.
-/
import Derived.Test.YtihhlddbppljpabDoorRows
import GoSem.ClaimSeven
namespace Go.Proofs.YtihhlddbppljpabDoor
namespace Rows

/-- THE TIED CARD OF 'filbertlaw1.AutoRuns'. -/
def autoRunsCard : Claim7 := { stood := { row := autoRunsRow, standIns := [], harness := (true, "5c1b73b24330f79af32e2a45c8f1ecedcc58352b24389ad62bddbe4b12fe073f"), looks := true }, kinds := [], alts := [], laidByText := true, laidKinds := [.handle], laidTests := true, laidLooks := .later }
def AutoRunsCardSaid : Prop := Claim7.holds Tryd.pinned (.plain (OpenSpec.ofChange autoRunsSpec)) autoRunsCard

/-- THE TIED CARD OF 'filbertlaw1.AutoReaches'. -/
def autoReachesCard : Claim7 := { stood := { row := autoReachesRow, standIns := [], harness := (true, "5c1b73b24330f79af32e2a45c8f1ecedcc58352b24389ad62bddbe4b12fe073f"), looks := true }, kinds := [], alts := [], laidByText := true, laidKinds := [.handle], laidTests := true, laidLooks := .later }
def AutoReachesCardSaid : Prop := Claim7.holds Tryd.pinned (.plain (OpenSpec.ofChange autoReachesSpec)) autoReachesCard

/-- THE TIED CARD OF 'filbertlaw1.LeastIs'. -/
def leastIsCard : Claim7 := { stood := { row := leastIsRow, standIns := [], harness := (true, "5c1b73b24330f79af32e2a45c8f1ecedcc58352b24389ad62bddbe4b12fe073f"), looks := true }, kinds := [], alts := [], laidByText := true, laidKinds := [.handle], laidTests := true, laidLooks := .later }
def LeastIsCardSaid : Prop := Claim7.holds Tryd.pinned (.plain (OpenSpec.ofChange leastIsSpec)) leastIsCard

/-- THE TIED CARD OF 'filbertlaw1.LeastAsks'. -/
def leastAsksCard : Claim7 := { stood := { row := leastAsksRow, standIns := [], harness := (true, "5c1b73b24330f79af32e2a45c8f1ecedcc58352b24389ad62bddbe4b12fe073f"), looks := true }, kinds := [], alts := [], laidByText := true, laidKinds := [.handle], laidTests := true, laidLooks := .later }
def LeastAsksCardSaid : Prop := Claim7.holds Tryd.pinned (.plain (OpenSpec.ofChange leastAsksSpec)) leastAsksCard

/-- THE SECOND FORM's CARD OF 'filbertlaw1.AutoRuns'. -/
def autoRunsUptoCard : Claim7 := { stood := { row := autoRunsUptoRow, standIns := [], harness := (true, "5c1b73b24330f79af32e2a45c8f1ecedcc58352b24389ad62bddbe4b12fe073f"), looks := true }, kinds := [], alts := [], laidByText := true, laidKinds := [.handle], laidTests := true, laidLooks := .later }
def AutoRunsUptoCardSaid : Prop := Claim7.holds Tryd.pinned (.plain (OpenSpec.upto autoRunsSpec)) autoRunsUptoCard

/-- THE SECOND FORM's CARD OF 'filbertlaw1.AutoReaches'. -/
def autoReachesUptoCard : Claim7 := { stood := { row := autoReachesUptoRow, standIns := [], harness := (true, "5c1b73b24330f79af32e2a45c8f1ecedcc58352b24389ad62bddbe4b12fe073f"), looks := true }, kinds := [], alts := [], laidByText := true, laidKinds := [.handle], laidTests := true, laidLooks := .later }
def AutoReachesUptoCardSaid : Prop := Claim7.holds Tryd.pinned (.plain (OpenSpec.upto autoReachesSpec)) autoReachesUptoCard

/-- THE SECOND FORM's CARD OF 'filbertlaw1.LeastIs'. -/
def leastIsUptoCard : Claim7 := { stood := { row := leastIsUptoRow, standIns := [], harness := (true, "5c1b73b24330f79af32e2a45c8f1ecedcc58352b24389ad62bddbe4b12fe073f"), looks := true }, kinds := [], alts := [], laidByText := true, laidKinds := [.handle], laidTests := true, laidLooks := .later }
def LeastIsUptoCardSaid : Prop := Claim7.holds Tryd.pinned (.plain (OpenSpec.upto leastIsSpec)) leastIsUptoCard

/-- THE SECOND FORM's CARD OF 'filbertlaw1.LeastAsks'. -/
def leastAsksUptoCard : Claim7 := { stood := { row := leastAsksUptoRow, standIns := [], harness := (true, "5c1b73b24330f79af32e2a45c8f1ecedcc58352b24389ad62bddbe4b12fe073f"), looks := true }, kinds := [], alts := [], laidByText := true, laidKinds := [.handle], laidTests := true, laidLooks := .later }
def LeastAsksUptoCardSaid : Prop := Claim7.holds Tryd.pinned (.plain (OpenSpec.upto leastAsksSpec)) leastAsksUptoCard
end Rows
end Go.Proofs.YtihhlddbppljpabDoor
