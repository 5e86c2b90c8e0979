import Derived.Test.YtceojneljnnooaaGreatZBy
import Derived.BigRegion
open Go.Proofs.Tryz
namespace Go.Proofs.YtceojneljnnooaaGreat
open Go.RowKit
set_option maxHeartbeats 0
set_option maxRecDepth 100000
set_option linter.all false
theorem bG(w:zW)(u v:Obj):Below w.heap.size w ((w.alloc u).alloc v):=(zb.alloc zr _).alloc (by simp) _
theorem bL{W:zW}{B:Nat}{v0 v1:Value}{T:TypeId}(h:W.heap[B]? =some (.cells #[v0,v1] T (0,0))):(W.cell? ⟨B,0,none⟩=some v0/\W.cell? ⟨B,1,none⟩=some v1)/\ ∀i,W.frozen? ⟨B,i,none⟩=false:=by refine⟨⟨by simp[World.cell?,h],by simp[World.cell?,h]⟩,λi=>by simp[World.frozen?,h]⟩
theorem CK{W:zW}{B:Nat}{u0 u1 v0 v1:Value}{T:TypeId}(h:W.heap[B]? =some (.cells #[u0,u1] T (0,0))){W':zW}(e:W'=(W.setCell ⟨B,0,none⟩ v0).setCell ⟨B,1,none⟩ v1):
  (W'.heap[B]? =some (.cells #[v0,v1] T (0,0))/\W'.heap.size=W.heap.size/\ ∀x,x≠B->W'.heap[x]? =W.heap[x]?)/\ ∀(w:zW) (k:Nat),Below k w W->k<=B->Below k w W':=by
 subst e
 refine⟨⟨?_,by simp[World.setCell],λx hx=>?_⟩,λw k hb z=>(hb.setCell z _).setCell z _⟩
 ·simp[World.setCell,Array.getElem?_modify,h]
 ·rw[Below.heap_setCell _ _ _ _ hx,Below.heap_setCell _ _ _ _ hx]
end Go.Proofs.YtceojneljnnooaaGreat
