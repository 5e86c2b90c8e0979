/- 2 texts in one. -/
import Derived.Test.YtgbmemkoggogdaaRows
import Derived.Below
import Derived.Deep.RegionHeldLaw
import Derived.Deep.RegionLaw
import Derived.LaidEql
import Derived.OwnWalk
import Derived.RowKitTokens
import Derived.Stop.Asserts
import Derived.WalkKit
import Derived.Test.YtgbmemkoggogdaaZNx
import Derived.Test.YtgbmemkoggogdaaZAx
import Derived.Test.YtgbmemkoggogdaaBp
import Derived.Test.YtgbmemkoggogdaaZCf
import Derived.Test.YtgbmemkoggogdaaZDb
import Derived.Test.YtgbmemkoggogdaaZC
import Derived.Test.YtgbmemkoggogdaaEa
import Derived.Test.YtgbmemkoggogdaaZMp
import Derived.Test.YtgbmemkoggogdaaZLb
import Derived.Test.YtgbmemkoggogdaaLq
import Derived.Test.YtgbmemkoggogdaaZG
import Derived.Test.YtgbmemkoggogdaaZF
/- Closed under 0s ahead: mathematics. -/
namespace Go.Proofs.Ytgbmemkoggogdaa
open Go.RowKit

theorem dropZ_end (w : List Int) (x : Int) : dropZ (w ++ [x]) = if dropZ w = [] then (if x = 0 then [] else [x]) else dropZ w ++ [x] := by
  unfold dropZ
  induction w with
  | nil =>
    by_cases h : x = 0
    · simp [h]
    · simp [h]
  | cons y w ih =>
    by_cases h : y = 0
    · subst h; simpa using ih
    · simp [h]
theorem okW_dropZ {m : Nat} {w : List Int} (h : okW m w) : okW m (dropZ w) := fun y hy => h y ((List.dropWhile_sublist _).subset hy)
theorem okW_zeros {m : Nat} (h : 1 ≤ m) (j : Nat) : okW m (List.replicate j 0) := fun y hy => by
  have := (List.mem_replicate.1 hy).2
  omega
end Go.Proofs.Ytgbmemkoggogdaa

/- A track left out, word by word: mathematics of the laws SomeTakes and SomeOrder. -/
namespace Go.Proofs.Ytgbmemkoggogdaa
open Go.RowKit

theorem autoC_fine {b t : Int} {N : List (List Int)} {n : Nat} (hM : codeM b t = 0) (hG : GoodN (manyU b t).toNat n N) (hn : n ≤ 80) : autoC b t N n = 0 := by
  have h1 := hG.1
  have h2 := hG.2.1
  unfold autoC
  rw [if_pos hM, if_neg (by omega), if_neg (by omega), if_pos (by omega)]
  exact rowsC_all fun j hj => by
    have := hG.2.2.2.2.2 j (by omega)
    exact rowC_good this.1 (by rw [h1]; exact this.2)
end Go.Proofs.Ytgbmemkoggogdaa
