/- The contract of filbertsame.Ints: are two rows of numbers the same? -/
import Derived.WalkSmall
import Derived.Test.YtgbmemkoggogdaaA
namespace Go.Proofs.Ytgbmemkoggogdaa
open Go.RowKit

theorem ext_getD {l m : List Int} (h : l.length = m.length) (h' : ∀ j, j < l.length → l.getD j 0 = m.getD j 0) : l = m := by
  apply List.ext_getElem h
  intro i h1 h2
  have := h' i h1
  simpa [List.getD, h1, h2] using this

end Go.Proofs.Ytgbmemkoggogdaa
