/- The iterator of auto.met: a queue of its own, and which states were seen; its word. -/
import Derived.Test.YtpkjnkcdajngkaaAq
import Derived.ArgAppend
import Derived.LoopIn
import Derived.LoopNIn
import Derived.OwnWalkIn
import Derived.RangeFuncBound
import Derived.RangeFuncCalls
import Derived.RangeFuncLeaves
import Derived.RangeFuncNested
import Derived.Shelf.Abstract
import Derived.Shelf.RegionOpen
import Derived.Sort.LoopGhostIn
import Derived.TacticsInMore
import Derived.WalkKit
namespace Go.Proofs.Ytpkjnkcdajngkaa
open Go.RowKit Go.Shelf
attribute [local go_sem] Oper.semAt_some

theorem run_tail (b off k cap : Nat) (wx : World) : (Instr.slice 26 (.slice (some ⟨b, off, none⟩) (k + 1) cap) (some (.int .i64 1)) none none).run Try.prog wx = .ok (.slice (some ⟨b, if cap = 1 then off else off + 1, none⟩) k (cap - 1)) wx := by
  obtain ⟨i, hi, hz0, hz1, hz2⟩ := info_parts info3
  unfold Instr.slice Instr.sliceBounds Instr.sliceBound
  simp only [Sem.run_bind, run_underlying Try.underlying26, Result.andThen_ok, Sem.run_pure, asIntOf]
  simp [sizeOf, typeInfo, hi, hz1, Addr.add_lit]
  rw [if_pos (by omega)]
  by_cases e : cap = 1
  · simp [e]
  · simp [e]
end Go.Proofs.Ytpkjnkcdajngkaa
