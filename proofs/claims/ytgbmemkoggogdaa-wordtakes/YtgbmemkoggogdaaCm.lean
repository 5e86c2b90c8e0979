/- filbertlaw1.begun: an automaton that begins at another state: mathematics and contract. -/
import Derived.Test.YtgbmemkoggogdaaBx
import Derived.Test.YtgbmemkoggogdaaZMp
import Derived.Test.YtgbmemkoggogdaaZCf
namespace Go.Proofs.Ytgbmemkoggogdaa
open Go.RowKit

theorem autoC_good {b t : Int} {N : List (List Int)} {n : Nat} (hM : codeM b t = 0) (hG : GoodN (manyU b t).toNat n N) (hn : n ≤ 80) : autoC b t N n = 0 := by
  have h1 := hG.1
  have h2 := hG.2.1
  unfold autoC
  rw [if_pos hM, if_neg (by omega), if_neg (by omega), if_pos (by omega)]
  exact rowsC_all fun j hj => by
    have := hG.2.2.2.2.2 j (by omega)
    exact rowC_good this.1 (by rw [h1]; exact this.2)

end Go.Proofs.Ytgbmemkoggogdaa
