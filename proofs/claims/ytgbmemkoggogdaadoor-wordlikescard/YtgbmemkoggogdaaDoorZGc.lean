/- 2 texts in one. -/
import Derived.Deep.RegionHeldLaw
import Derived.Deep.RegionLaw
import Derived.Deep.RegionWith
import Derived.Laws.AppendOwnNone
import Derived.Test.YtgbmemkoggogdaaDoorZNx
import Derived.Test.YtgbmemkoggogdaaDoorBp
import Derived.Test.YtgbmemkoggogdaaDoorZCf
import Derived.Test.YtgbmemkoggogdaaDoorZDb
import Derived.Test.YtgbmemkoggogdaaDoorZE
import Derived.Test.YtgbmemkoggogdaaDoorEa
import Derived.Test.YtgbmemkoggogdaaDoorG
import Derived.Test.YtgbmemkoggogdaaDoorZMp
import Derived.Test.YtgbmemkoggogdaaDoorZLp
/- Closed under 0s ahead: mathematics. -/
namespace Go.Proofs.YtgbmemkoggogdaaDoor
open Go.RowKit

theorem dropZ_end (w : List Int) (x : Int) : dropZ (w ++ [x]) = if dropZ w = [] then (if x = 0 then [] else [x]) else dropZ w ++ [x] := by
  unfold dropZ
  induction w with
  | nil =>
    by_cases h : x = 0
    · simp [h]
    · simp [h]
  | cons y w ih =>
    by_cases h : y = 0
    · subst h; simpa using ih
    · simp [h]
theorem okW_dropZ {m : Nat} {w : List Int} (h : okW m w) : okW m (dropZ w) := fun y hy => h y ((List.dropWhile_sublist _).subset hy)
end Go.Proofs.YtgbmemkoggogdaaDoor

/- A track left out, word by word: mathematics of the laws SomeTakes and SomeOrder. -/
namespace Go.Proofs.YtgbmemkoggogdaaDoor
open Go.RowKit

theorem autoC_fine {b t : Int} {N : List (List Int)} {n : Nat} (hM : codeM b t = 0) (hG : GoodN (manyU b t).toNat n N) (hn : n ≤ 80) : autoC b t N n = 0 := by
  have h1 := hG.1
  have h2 := hG.2.1
  unfold autoC
  rw [if_pos hM, if_neg (by omega), if_neg (by omega), if_pos (by omega)]
  exact rowsC_all fun j hj => by
    have := hG.2.2.2.2.2 j (by omega)
    exact rowC_good this.1 (by rw [h1]; exact this.2)
end Go.Proofs.YtgbmemkoggogdaaDoor
