/- The walk of the law TrackTakes, from what package track's functions answer. -/
import Derived.Test.YtgbmemkoggogdaaRows
import Derived.ArgAppend
import Derived.Below
import Derived.BigRegion
import Derived.Deep.AppendLies
import Derived.Deep.LoopGhost
import Derived.Deep.MidRow
import Derived.Deep.RegionLaw
import Derived.DeepKeys4
import Derived.LaidEql
import Derived.Laws.AppendOwnNone
import Derived.LoopIn
import Derived.LoopNIn
import Derived.Maps.AppendAt
import Derived.Maps.OwnSet
import Derived.OwnWalk
import Derived.OwnWalkIn
import Derived.RangeFuncBound
import Derived.RangeFuncCalls
import Derived.RangeFuncLeaves
import Derived.RangeFuncNested
import Derived.RowKitTokens
import Derived.Shelf.Abstract
import Derived.Shelf.RegionOpen
import Derived.Sort.LoopGhostIn
import Derived.Stop.Asserts
import Derived.TacticsInMore
import Derived.WalkKit
import Derived.Test.YtgbmemkoggogdaaMa
import Derived.Test.YtgbmemkoggogdaaZNx
import Derived.Test.YtgbmemkoggogdaaZG
import Derived.Test.YtgbmemkoggogdaaZCf
import Derived.Test.YtgbmemkoggogdaaCi
import Derived.Test.YtgbmemkoggogdaaZC
import Derived.Test.YtgbmemkoggogdaaZEg
import Derived.Test.YtgbmemkoggogdaaZF
namespace Go.Proofs.Ytgbmemkoggogdaa
open Go.RowKit

theorem twoR_left2 {w : World} {xs ys : List Int} {v v' v2 : Value} {W w3 : World} {o : Obj} {x : Int} (h : TwoR w xs ys v v' W) (hown : w3.ownsRow w.heap.size 3 1 v2 (xs.length + 1) (xs.map (Value.int .i64) ++ [.int .i64 x])) (hgrow : (W.alloc o).grownBy w3 v.ownBlock) (hat : v2.ownBlock = v.ownBlock ∨ v2.ownBlock = some (W.alloc o).heap.size) :
    TwoR w (xs ++ [x]) ys v2 v' w3 := by
  obtain ⟨h1, h2, h3, h4⟩ := h
  refine ⟨by rw [List.length_append, List.map_append]; exact hown, ownsRow_of_block h2 (fun z hz => ?_), fun z hz hz' => ?_, Below.grown (h4.alloc h4.size o) hgrow (by have := h4.size; simp; omega) (fun k hk => (h1.lt k hk).1)⟩
  · have hl := (h2.lt z hz).2
    rw [hgrow.block z (by simp; omega) (fun e => h3 z e.symm hz), Below.heap_alloc _ _ _ hl]
  · have hl := (h2.lt z hz').2
    rcases hat with e | e
    · exact h3 z (e ▸ hz) hz'
    · rw [e] at hz
      simp at hz
      omega

end Go.Proofs.Ytgbmemkoggogdaa
