/- 2 texts in one. -/
import Derived.Deep.RegionHeldLaw
import Derived.Deep.RegionLaw
import Derived.Deep.RegionWith
import Derived.Laws.AppendOwnNone
import Derived.Test.YtklejobfnofbaaeZNx
import Derived.Test.YtklejobfnofbaaeBp
import Derived.Test.YtklejobfnofbaaeCf
import Derived.Test.YtklejobfnofbaaeDb
import Derived.Test.YtklejobfnofbaaeZMp
import Derived.Test.YtklejobfnofbaaeZE
import Derived.Test.YtklejobfnofbaaeG
import Derived.Test.YtklejobfnofbaaeZLp
import Derived.Test.YtklejobfnofbaaeZLq
/- A track left out, word by word: mathematics of the laws SomeTakes and SomeOrder. -/
namespace Go.Proofs.Ytklejobfnofbaae
open Go.RowKit

theorem autoC_fine {b t : Int} {N : List (List Int)} {n : Nat} (hM : codeM b t = 0) (hG : GoodN (manyU b t).toNat n N) (hn : n ≤ 80) : autoC b t N n = 0 := by
  have h1 := hG.1
  have h2 := hG.2.1
  unfold autoC
  rw [if_pos hM, if_neg (by omega), if_neg (by omega), if_pos (by omega)]
  exact rowsC_all fun j hj => by
    have := hG.2.2.2.2.2 j (by omega)
    exact rowC_good this.1 (by rw [h1]; exact this.2)
end Go.Proofs.Ytklejobfnofbaae

/- The law SomeClosed: what its walk asks of the mathematics. -/
namespace Go.Proofs.Ytklejobfnofbaae
open Go.RowKit

theorem wordC_okW {m : Nat} {w : List Int} (h : wordC m w = 0) : okW m w := fun x hx => by
  obtain ⟨-, h2⟩ := wordC_zero h
  obtain ⟨j, hj, rfl⟩ := List.getElem_of_mem hx
  have := h2 j hj
  rwa [getD_at _ j hj] at this
theorem takesB_of {b t : Int} {N : List (List Int)} {E : List Bool} {l : List Int} {e : Nat} (he : E.length = e) (h : runC b t N e l = 0) : takesB b t N E l = tkB N E l := by
  unfold takesB tkB
  rw [he, if_pos h]
end Go.Proofs.Ytklejobfnofbaae
