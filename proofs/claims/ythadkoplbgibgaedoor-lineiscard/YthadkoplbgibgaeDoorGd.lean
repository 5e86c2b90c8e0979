/- A track left out, word by word: mathematics of the laws SomeTakes and SomeOrder. -/
import Derived.Deep.RegionHeldLaw
import Derived.Deep.RegionLaw
import Derived.Deep.RegionWith
import Derived.Laws.AppendOwnNone
import Derived.Test.YthadkoplbgibgaeDoorZNx
import Derived.Test.YthadkoplbgibgaeDoorBp
import Derived.Test.YthadkoplbgibgaeDoorZCf
import Derived.Test.YthadkoplbgibgaeDoorZCi
import Derived.Test.YthadkoplbgibgaeDoorZMp
import Derived.Test.YthadkoplbgibgaeDoorZE
import Derived.Test.YthadkoplbgibgaeDoorG
import Derived.Test.YthadkoplbgibgaeDoorZLp
namespace Go.Proofs.YthadkoplbgibgaeDoor
open Go.RowKit

theorem autoC_fine {b t : Int} {N : List (List Int)} {n : Nat} (hM : codeM b t = 0) (hG : GoodN (manyU b t).toNat n N) (hn : n ≤ 80) : autoC b t N n = 0 := by
  have h1 := hG.1
  have h2 := hG.2.1
  unfold autoC
  rw [if_pos hM, if_neg (by omega), if_neg (by omega), if_pos (by omega)]
  exact rowsC_all fun j hj => by
    have := hG.2.2.2.2.2 j (by omega)
    exact rowC_good this.1 (by rw [h1]; exact this.2)
end Go.Proofs.YthadkoplbgibgaeDoor
