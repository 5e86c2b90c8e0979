/- What package word's Like answers, and the walk of the law WordLikes from it. -/
import Derived.Test.YtgbmemkoggogdaaRows
import Derived.Below
import Derived.Deep.DeepCutAuto
import Derived.Deep.RegionHeldLaw
import Derived.Deep.RegionLaw
import Derived.LaidEql
import Derived.Laws.BitsLemmas
import Derived.Maps.AppendAt
import Derived.OwnWalk
import Derived.RowKitTokens
import Derived.Stop.Asserts
import Derived.WalkKit
import Derived.Test.YtgbmemkoggogdaaZNx
import Derived.Test.YtgbmemkoggogdaaZAt
import Derived.Test.YtgbmemkoggogdaaZAx
import Derived.Test.YtgbmemkoggogdaaBp
import Derived.Test.YtgbmemkoggogdaaBs
import Derived.Test.YtgbmemkoggogdaaBt
import Derived.Test.YtgbmemkoggogdaaZCf
import Derived.Test.YtgbmemkoggogdaaCi
import Derived.Test.YtgbmemkoggogdaaZDb
import Derived.Test.YtgbmemkoggogdaaDd
import Derived.Test.YtgbmemkoggogdaaZC
import Derived.Test.YtgbmemkoggogdaaEa
import Derived.Test.YtgbmemkoggogdaaZMp
import Derived.Test.YtgbmemkoggogdaaZGc
import Derived.Test.YtgbmemkoggogdaaZKa
import Derived.Test.YtgbmemkoggogdaaZLb
import Derived.Test.YtgbmemkoggogdaaLq
import Derived.Test.YtgbmemkoggogdaaZG
import Derived.Test.YtgbmemkoggogdaaZF
import Derived.Test.YtgbmemkoggogdaaZPe
namespace Go.Proofs.Ytgbmemkoggogdaa
open Go.RowKit

def LikeSays : Prop := ∀ (b : Int) (a : Option Addr) (n cap : Nat) (ao : Option Addr) (no co : Nat) (N : List (List Int)) (O : List Int) (b2 : Int) (a2 : Option Addr) (n2 cap2 : Nat) (ao2 : Option Addr) (no2 co2 : Nat) (N2 : List (List Int)) (O2 : List Int) (W : World), Sl2 W a n N → Sl W ao no O → Sl2 W a2 n2 N2 → Sl W ao2 no2 O2 →
    Calls Try.prog 9 #[outV b a n cap ao no co, outV b2 a2 n2 cap2 ao2 no2 co2] W (PairR W (okI (lkC b N O b2 N2 O2) b) (okI (lkC b N O b2 N2 O2) 2) (lkRN b N O b2 N2 O2) (lkRE b N O b2 N2 O2) (lkC b N O b2 N2 O2))
theorem lk_bad {b : Int} {N : List (List Int)} {O : List Int} {b2 : Int} {N2 : List (List Int)} {O2 : List Int} (h : lkF b N O b2 N2 O2 ≠ 0) : lkC b N O b2 N2 O2 = lkF b N O b2 N2 O2 ∧ lkRN b N O b2 N2 O2 = [] ∧ lkRE b N O b2 N2 O2 = [] ∧ okI (lkC b N O b2 N2 O2) b = 0 ∧ okI (lkC b N O b2 N2 O2) 2 = 0 := by
  have hc : lkC b N O b2 N2 O2 = lkF b N O b2 N2 O2 := by unfold lkC; rw [if_neg h]
  have hc0 : lkC b N O b2 N2 O2 ≠ 0 := by rw [hc]; exact h
  refine ⟨hc, ?_, ?_, ?_, ?_⟩
  · unfold lkRN; rw [if_neg hc0]
  · unfold lkRE; rw [if_neg hc0]
  · unfold okI; rw [if_neg hc0]
  · unfold okI; rw [if_neg hc0]
end Go.Proofs.Ytgbmemkoggogdaa
