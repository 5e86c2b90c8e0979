import Derived.Test.YtfiknidoihlkfaaGreatZG
import Derived.Deep.OwnRows
open Go.Proofs.Tryz
namespace Go.Proofs.YtfiknidoihlkfaaGreat
open Go.RowKit
set_option maxHeartbeats 0
set_option maxRecDepth 100000
set_option linter.all false
theorem ig{w:zW}{g n:Nat}{l:zI}(z:l.length=n)(hm:n<=maxLen)(J: ∀x∈l,(Lit.int .i64 x).wf=true)(h:w.rowIs g 3 n λi=>.int .i64 (l.getD i 0)):Sl w (some ⟨g,0,none⟩) n l:=
 ⟨z,hm,J,Or.inr ⟨g,0,rfl,λi hi=>by rw[Nat.zero_add];exact h.cell hi⟩⟩
theorem fO(n:Nat)(z:n<=1000000000000)(w:zW):(Instr.makeSlice 24 (.int .i64 (n:Int)) (.int .i64 (n:Int))).run prog w=.ok (.slice (some ⟨w.heap.size,0,none⟩) n n) (w.alloc (.cells (madeCells #[.int .i64 0] n) 3)):=
 run_make_row' 24 3 (.int .i64 0) 8 underlying24 rX rfl .i64 .i64 n (by omega) (by omega) w
def Ph(b:Int)(n:Nat)(l:Int)(w:zW)(k:Nat)(wr:zW):Prop:=
 wr.rowIs w.heap.size 3 n (λp=>.int .i64 (if n<=p+k then pW b n l p else 0))/\Below w.heap.size w wr
theorem KW{b:Int}{n:Nat}{l:Int}{w wr:zW}{k m:Nat}(h:Ph b n l w k wr)(hm:n=m+1+k):Ph b n l w (k+1) (wr.setCell ⟨w.heap.size,m,none⟩ (.int .i64 (l/pw (au b) k%au b))):=by
 refine⟨(h.1.set m _).congr λp J=>?_,h.2.setCell zr _⟩;by_cases e:p=m
 ·subst e;rw[yP rfl,yP (by omega)];unfold pW;rw[show n-1-p=k by omega]
 ·rw[yN e]
  by_cases z:n<=p+k
  ·rw[yP z,yP (by omega)]
  ·rw[yN z,yN (by omega)]
end Go.Proofs.YtfiknidoihlkfaaGreat
