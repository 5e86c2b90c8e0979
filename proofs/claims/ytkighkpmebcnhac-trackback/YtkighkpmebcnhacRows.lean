/-
  No cell of these rows narrows 'for every input' (looked for: loops, veiled, ifaces, maps, wideKeys, modest, calm, conditions, laid).
  DERIVED. THE GIVEN ROWS OF THIS SEAT. 4 by the template 'for every input the law returns true; each argument reads behind the call as it read before'; 0 by the template 'total and deterministic' (their statements: YtkighkpmebcnhacTotals.lean).
  GIVEN WITH THE SEED: the statements are not yours to turn. If you find one false, say at which input.
  Laid BY PROGRAM, IN A SANDBOX (cutbox-rows.mjs): the forced cells as the released guide's own fill.sh prints them over the translation c85397473ef13ff0… (all of the seat's roots in one cut). By AI agents, Wed Nov 11 2026. No macro, syntax, notation, axiom, sorry.
-/
import Derived.Test.YtkighkpmebcnhacChecked
import GoSem.Claim
import GoSem.ClaimJoined
import GoSem.ClaimMapViews
import Derived.JoinedTies
import Derived.KernelRfl
namespace Go.Proofs.Ytkighkpmebcnhac
/- THE CELL 'sum', in the pinned program and in every row, IS THE sha256 OF THE DUMP (.gsa) THAT YtkighkpmebcnhacProg.lean LOADS. Nothing in Lean hashes anything: it is a label: what it is worth is what the hold of that sum in a sandbox is worth. -/
noncomputable def Try.pinned : Pinned := { name := "ytkighkpmebcnhac", sum := "c85397473ef13ff0002714546a9ee24c78e593f9c43cdccc92b5bc984d6eb8b1", checked := Try.checked }
namespace Rows
def none {H : Type} : Left H := { results := [], args := [] }

/-- 'filbertlaw1.PairTakes': WHATEVER THE INPUT: true; the input reads as it did. -/
def pairTakesSpec : ChangeSpec := { name := "pairTakes", fn := fun _ => fun
  | [d1, d2, d3, d4] => { results := [.lit (.bool true)], args := [d1, d2, d3, d4] }
  | _ => none }
def pairTakesRow : OpenClaim := { program := "ytkighkpmebcnhac", sum := "c85397473ef13ff0002714546a9ee24c78e593f9c43cdccc92b5bc984d6eb8b1", func := "filbert/filbertlaw1.PairTakes", spec := "pairTakes", unfollowed := true, recurses := true, plainKeys := false, apart := false }
def PairTakesSaid : Prop := pairTakesRow.holds Try.pinned (OpenSpec.ofChange pairTakesSpec)

/-- ITS FALSE NEIGHBOUR: 'it returns false'. Refute it at one input. -/
def pairTakesWrong : ChangeSpec := { name := "pairTakes", fn := fun _ => fun
  | [d1, d2, d3, d4] => { results := [.lit (.bool false)], args := [d1, d2, d3, d4] }
  | _ => none }
def PairTakesWrongFalsely : Prop := pairTakesRow.holds Try.pinned (OpenSpec.ofChange pairTakesWrong)

/-- 'filbertlaw1.PairLaws': WHATEVER THE INPUT: true; the input reads as it did. -/
def pairLawsSpec : ChangeSpec := { name := "pairLaws", fn := fun _ => fun
  | [d1, d2] => { results := [.lit (.bool true)], args := [d1, d2] }
  | _ => none }
def pairLawsRow : OpenClaim := { program := "ytkighkpmebcnhac", sum := "c85397473ef13ff0002714546a9ee24c78e593f9c43cdccc92b5bc984d6eb8b1", func := "filbert/filbertlaw1.PairLaws", spec := "pairLaws", unfollowed := true, recurses := true, plainKeys := false, apart := false }
def PairLawsSaid : Prop := pairLawsRow.holds Try.pinned (OpenSpec.ofChange pairLawsSpec)

/-- ITS FALSE NEIGHBOUR: 'it returns false'. Refute it at one input. -/
def pairLawsWrong : ChangeSpec := { name := "pairLaws", fn := fun _ => fun
  | [d1, d2] => { results := [.lit (.bool false)], args := [d1, d2] }
  | _ => none }
def PairLawsWrongFalsely : Prop := pairLawsRow.holds Try.pinned (OpenSpec.ofChange pairLawsWrong)

/-- 'filbertlaw1.TrackTakes': WHATEVER THE INPUT: true; the input reads as it did. -/
def trackTakesSpec : ChangeSpec := { name := "trackTakes", fn := fun _ => fun
  | [d1, d2, d3, d4, d5] => { results := [.lit (.bool true)], args := [d1, d2, d3, d4, d5] }
  | _ => none }
def trackTakesRow : OpenClaim := { program := "ytkighkpmebcnhac", sum := "c85397473ef13ff0002714546a9ee24c78e593f9c43cdccc92b5bc984d6eb8b1", func := "filbert/filbertlaw1.TrackTakes", spec := "trackTakes", inPlace := ["slices.overlaps[int]"], unfollowed := true, recurses := true, plainKeys := false, apart := false }
def TrackTakesSaid : Prop := trackTakesRow.holds Try.pinned (OpenSpec.ofChange trackTakesSpec)

/-- ITS FALSE NEIGHBOUR: 'it returns false'. Refute it at one input. -/
def trackTakesWrong : ChangeSpec := { name := "trackTakes", fn := fun _ => fun
  | [d1, d2, d3, d4, d5] => { results := [.lit (.bool false)], args := [d1, d2, d3, d4, d5] }
  | _ => none }
def TrackTakesWrongFalsely : Prop := trackTakesRow.holds Try.pinned (OpenSpec.ofChange trackTakesWrong)

/-- 'filbertlaw1.TrackBack': WHATEVER THE INPUT: true; the input reads as it did. -/
def trackBackSpec : ChangeSpec := { name := "trackBack", fn := fun _ => fun
  | [d1, d2] => { results := [.lit (.bool true)], args := [d1, d2] }
  | _ => none }
def trackBackRow : OpenClaim := { program := "ytkighkpmebcnhac", sum := "c85397473ef13ff0002714546a9ee24c78e593f9c43cdccc92b5bc984d6eb8b1", func := "filbert/filbertlaw1.TrackBack", spec := "trackBack", inPlace := ["slices.overlaps[int]"], unfollowed := true, recurses := true, plainKeys := false, apart := false }
def TrackBackSaid : Prop := trackBackRow.holds Try.pinned (OpenSpec.ofChange trackBackSpec)

/-- ITS FALSE NEIGHBOUR: 'it returns false'. Refute it at one input. -/
def trackBackWrong : ChangeSpec := { name := "trackBack", fn := fun _ => fun
  | [d1, d2] => { results := [.lit (.bool false)], args := [d1, d2] }
  | _ => none }
def TrackBackWrongFalsely : Prop := trackBackRow.holds Try.pinned (OpenSpec.ofChange trackBackWrong)

/- THE SECOND FORM. 'bulk': how many values and letters a reading holds, each counted each time it is reached (what is shared counts as often as it is met; a slice's spare places count too). A statement '..UptoSaid' is the law's where the arguments, and the package variables that the reading takes, are together of bulk at most 1048576: NARROWER than '..Said'. Prove '..Said' where nothing that the law and all that it calls make is longer than what came in: it says more and counts as full. Else prove '..UptoSaid'. A law counts once. -/
mutual
def uptoBulk {H : Type} : DataW H → Nat
  | .lit (.string bytes) => bytes.length + 1
  | .lit _ => 1
  | .nil => 1
  | .ptr d => uptoBulk d + 1
  | .slice elems spare => uptoBulkAll elems + uptoBulkAll spare + 1
  | .agg parts => uptoBulkAll parts + 1
  | .iface _ d => uptoBulk d + 1
  | .map entries => uptoBulkEntries entries + 1
  | .held _ => 1
def uptoBulkAll {H : Type} : List (DataW H) → Nat
  | [] => 0
  | d :: r => uptoBulk d + uptoBulkAll r
def uptoBulkEntries {H : Type} : List (Lit × DataW H) → Nat
  | [] => 0
  | x :: r => uptoBulkEntry x + uptoBulkEntries r
def uptoBulkEntry {H : Type} : Lit × DataW H → Nat
  | (.string bytes, d) => bytes.length + uptoBulk d + 1
  | (_, d) => uptoBulk d + 1
 end
def uptoSmall : (H : Type) → List (DataW H) → Bool := fun _ ds => decide (uptoBulkAll ds ≤ 1048576)
def OpenSpec.upto (s : _root_.Go.ChangeSpec) : _root_.Go.OpenSpec := { _root_.Go.OpenSpec.ofChange s with cond := some uptoSmall }

/-- 'filbertlaw1.PairTakes', WHERE WHAT IT READS IS OF BULK AT MOST 1048576: true; the input reads as it did. -/
def pairTakesUptoRow : OpenClaim := { program := "ytkighkpmebcnhac", sum := "c85397473ef13ff0002714546a9ee24c78e593f9c43cdccc92b5bc984d6eb8b1", func := "filbert/filbertlaw1.PairTakes", spec := "pairTakes", unfollowed := true, recurses := true, plainKeys := false, apart := false, narrowed := true }
def PairTakesUptoSaid : Prop := pairTakesUptoRow.holds Try.pinned (OpenSpec.upto pairTakesSpec)

/-- 'filbertlaw1.PairLaws', WHERE WHAT IT READS IS OF BULK AT MOST 1048576: true; the input reads as it did. -/
def pairLawsUptoRow : OpenClaim := { program := "ytkighkpmebcnhac", sum := "c85397473ef13ff0002714546a9ee24c78e593f9c43cdccc92b5bc984d6eb8b1", func := "filbert/filbertlaw1.PairLaws", spec := "pairLaws", unfollowed := true, recurses := true, plainKeys := false, apart := false, narrowed := true }
def PairLawsUptoSaid : Prop := pairLawsUptoRow.holds Try.pinned (OpenSpec.upto pairLawsSpec)

/-- 'filbertlaw1.TrackTakes', WHERE WHAT IT READS IS OF BULK AT MOST 1048576: true; the input reads as it did. -/
def trackTakesUptoRow : OpenClaim := { program := "ytkighkpmebcnhac", sum := "c85397473ef13ff0002714546a9ee24c78e593f9c43cdccc92b5bc984d6eb8b1", func := "filbert/filbertlaw1.TrackTakes", spec := "trackTakes", inPlace := ["slices.overlaps[int]"], unfollowed := true, recurses := true, plainKeys := false, apart := false, narrowed := true }
def TrackTakesUptoSaid : Prop := trackTakesUptoRow.holds Try.pinned (OpenSpec.upto trackTakesSpec)

/-- 'filbertlaw1.TrackBack', WHERE WHAT IT READS IS OF BULK AT MOST 1048576: true; the input reads as it did. -/
def trackBackUptoRow : OpenClaim := { program := "ytkighkpmebcnhac", sum := "c85397473ef13ff0002714546a9ee24c78e593f9c43cdccc92b5bc984d6eb8b1", func := "filbert/filbertlaw1.TrackBack", spec := "trackBack", inPlace := ["slices.overlaps[int]"], unfollowed := true, recurses := true, plainKeys := false, apart := false, narrowed := true }
def TrackBackUptoSaid : Prop := trackBackUptoRow.holds Try.pinned (OpenSpec.upto trackBackSpec)

end Rows
end Go.Proofs.Ytkighkpmebcnhac
