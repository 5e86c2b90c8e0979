import Derived.Test.YtceojneljnnooaaGreatZHc
import Derived.Shelf.Slices.CompactI
import Derived.Shelf.Slices.In.SortNone
import Derived.Shelf.Sort.Plain
import Derived.Sort.OwnSortedInts
open Go.Proofs.Tryz
namespace Go.Proofs.YtceojneljnnooaaGreat
open Go.RowKit
set_option maxHeartbeats 0
set_option maxRecDepth 100000
set_option linter.all false
def agO:Go.Shelf.Ren:=⟨fun|125=>97|128=>125|129=>126|189=>69|215=>145|216=>122|257=>96|294=>116|295=>117|296=>118|297=>119|298=>120|299=>121|300=>123|301=>124|328=>140|329=>141|330=>142|331=>143|332=>144|343=>151|n=>n,fun|0=>0|3=>3|4=>4|5=>5|9=>9|28=>24|46=>139|51=>171|53=>173|131=>152|182=>163|183=>164|218=>193|222=>197|228=>207|229=>157|n=>n,λn=>n⟩
theorem CO:Lays.n189 prog agO where
 mixed:=by kernel_rfl
 f125:=func97.trans (congrArg some (by kernel_rfl))
 f128:=func125.trans (congrArg some (by kernel_rfl))
 f129:=func126.trans (congrArg some (by kernel_rfl))
 f189:=func69.trans (congrArg some (by kernel_rfl))
 f215:=func145.trans (congrArg some (by kernel_rfl))
 f216:=func122.trans (congrArg some (by kernel_rfl))
 f257:=func96.trans (congrArg some (by kernel_rfl))
 f294:=func116.trans (congrArg some (by kernel_rfl))
 f295:=func117.trans (congrArg some (by kernel_rfl))
 f296:=func118.trans (congrArg some (by kernel_rfl))
 f297:=func119.trans (congrArg some (by kernel_rfl))
 f298:=func120.trans (congrArg some (by kernel_rfl))
 f299:=func121.trans (congrArg some (by kernel_rfl))
 f300:=func123.trans (congrArg some (by kernel_rfl))
 f301:=func124.trans (congrArg some (by kernel_rfl))
 f328:=func140.trans (congrArg some (by kernel_rfl))
 f329:=func141.trans (congrArg some (by kernel_rfl))
 f330:=func142.trans (congrArg some (by kernel_rfl))
 f331:=func143.trans (congrArg some (by kernel_rfl))
 f332:=func144.trans (congrArg some (by kernel_rfl))
 f343:=func151.trans (congrArg some (by kernel_rfl))
 t0:=underlying0
 a0:=isAgg0
 z0:=sizeOf0
 v0:=zeroValue0
 t3:=underlying3
 a3:=isAgg3
 z3:=sizeOf3
 v3:=zeroValue3
 t4:=underlying4
 a4:=isAgg4
 z4:=sizeOf4
 v4:=zeroValue4
 t5:=underlying5
 a5:=isAgg5
 z5:=sizeOf5
 v5:=zeroValue5
 t9:=underlying9
 a9:=isAgg9
 z9:=sizeOf9
 v9:=zeroValue9
 t28:=underlying24
 a28:=isAgg24
 z28:=sizeOf24
 v28:=zeroValue24
 t46:=underlying139
 a46:=isAgg139
 z46:=sizeOf139
 v46:=zeroValue139
 t51:=underlying171
 a51:=isAgg171
 z51:=sizeOf171
 v51:=zeroValue171
 t53:=underlying173
 a53:=isAgg173
 z53:=sizeOf173
 v53:=zeroValue173
 t131:=underlying152
 a131:=isAgg152
 z131:=sizeOf152
 v131:=zeroValue152
 t182:=underlying163
 a182:=isAgg163
 z182:=sizeOf163
 v182:=zeroValue163
 t183:=underlying164
 a183:=isAgg164
 z183:=sizeOf164
 v183:=zeroValue164
 t218:=underlying193
 a218:=isAgg193
 z218:=sizeOf193
 v218:=zeroValue193
 t222:=underlying197
 a222:=isAgg197
 z222:=sizeOf197
 v222:=zeroValue197
 t228:=underlying207
 a228:=isAgg207
 z228:=sizeOf207
 v228:=zeroValue207
 t229:=underlying157
 a229:=isAgg157
 z229:=sizeOf157
 v229:=zeroValue157
def aiM:Go.Shelf.Ren:=⟨fun|20=>70|n=>n,fun|0=>0|3=>3|4=>4|22=>24|n=>n,λn=>n⟩
theorem GD:Lays2.n20 prog aiM where
 mixed:=by kernel_rfl
 f20:=func70.trans (congrArg some (by kernel_rfl))
 t0:=underlying0
 a0:=isAgg0
 z0:=sizeOf0
 v0:=zeroValue0
 t3:=underlying3
 a3:=isAgg3
 z3:=sizeOf3
 v3:=zeroValue3
 t4:=underlying4
 a4:=isAgg4
 z4:=sizeOf4
 v4:=zeroValue4
 t22:=underlying24
 a22:=isAgg24
 z22:=sizeOf24
 v22:=zeroValue24
 i3:=by kernel_rfl
theorem zH(W:zW):Sort.grow W #[]=W:=by show{W with heap:=W.heap++#[]}=W;rw[Array.append_empty]
theorem XA(l:zI):(l.mergeSort λx y=>decide (x<=y)).length=l.length:=List.length_mergeSort l
theorem yG:Xx:=by
 intro base v l w hl U hv;rcases hv.2 with⟨rfl,h0⟩|⟨g,cap,cur,rfl,hg,hh,hc,a6,b5,ht⟩
 ·have e:l=[]:=List.eq_nil_of_length_eq_zero h0
  subst e;have C1:Hid (∀W,Calls prog 69 #[.slice none 0 0] W λe w'=>e=.returned (.tuple #[])/\w'=W):=λW=>Any.slices_Sort_int_none CO none 0 W;have C2:Hid (∀W,Calls prog 70 #[.slice none 0 0] W λe w'=>e=.returned (.slice none 0 0)/\w'=W):=λW=>Any.slices_Compact_int_empty GD none 0 W;clear hv h0 U hl;go_enter func148,ntmps148
  go_wp2_with (first
   |(go_at_call 69;refine(C1.out _).mono ?_;rintro e w' ⟨rfl,rfl⟩)
   |(go_at_call 70;refine(C2.out _).mono ?_;rintro e w' ⟨rfl,rfl⟩))
  go_ret;refine⟨none,0,by rw[Cv];rfl,?_,λ_ _ _ h=>h⟩;rw[Cv];exact⟨Dr _,λad e=>by cases e⟩
 ·obtain⟨zs,J⟩: ∃zs,zs=l.mergeSort λx y=>decide (x<=y):=⟨_,rfl⟩
  have Z:zs.length=l.length:=by rw[J];exact XA l
  have a1:g<w.heap.size:=(zG hh).1;have b3:cur.size=cap:=by omega
  have C1:Hid (Calls prog 69 #[.slice (some ⟨g,0,none⟩) l.length cap] w λe w'=>e=.returned (.tuple #[])/\ ∃n os,w'=Sort.grow (Sort.putRow (Value.int .i64) (Sort.ahead w n) g 0 zs.toArray) os):=by rw[J];exact Any.slices_Sort_int CO g 0 cap l w (holds_of_blockI hh (by simpa using ht)) a1 (by omega)
  have H1:Hid (∀n os,(Sort.grow (Sort.putRow (Value.int .i64) (Sort.ahead w n) g 0 zs.toArray) os).heap[g]? =some (.cells (Sort.putCells (Value.int .i64) 0 zs.toArray cur) 3 (0,0))/\w.grownBy (Sort.grow (Sort.putRow (Value.int .i64) (Sort.ahead w n) g 0 zs.toArray) os) (some g)):=λn os=>⟨heap_sortedI _ hh,grownBy_sortedI _⟩;have C2:Hid (∀W,W.heap[g]? =some (.cells (Sort.putCells (Value.int .i64) 0 zs.toArray cur) 3 (0,0))->Calls prog 70 #[.slice (some ⟨g,0,none⟩) l.length cap] W λe w'=>e=.returned (.slice (some ⟨g,0,none⟩) (Lib.compact zs).length cap)/\ ∃q,w'=Sort.putRow (Value.int .i64) (Sort.ahead W q) g 0 (Lib.compact zs++List.replicate (zs.length-(Lib.compact zs).length) 0).toArray):=λW hW=>by rw[<-Z];exact Any.slices_Compact_int GD g 0 cap zs W (holds_of_blockI hW (take_putCellsI cur zs (by omega))) (by omega) (by omega)
  have z:oD l=Lib.compact zs:=by unfold oD;rw[J]
  have b6:(Lib.compact zs).length<=zs.length:=by rw[<-z,Z];exact QZ l
  have b4:Hid (∀W q,W.heap[g]? =some (.cells (Sort.putCells (Value.int .i64) 0 zs.toArray cur) 3 (0,0))->w.grownBy W (some g)->aiL base w l (.returned (.slice (some ⟨g,0,none⟩) (Lib.compact zs).length cap)) (Sort.putRow (Value.int .i64) (Sort.ahead W q) g 0 (Lib.compact zs++List.replicate (zs.length-(Lib.compact zs).length) 0).toArray)):=λW q hW a7=>by
   obtain⟨ts,a2⟩: ∃ts,ts=Lib.compact zs++List.replicate (zs.length-(Lib.compact zs).length) (0:Int):=⟨_,rfl⟩;rw[<-a2];have b7:ts.length=zs.length:=(by rw[a2];simp;omega);have hO:=ownsRow_sortedI (w:=W) (base:=base) (g:=g) (cap:=cap) (n:=q) (os:=#[]) (ss:=zs) (ts:=ts) b7 hg hW (by omega) a6 (by simp[Sort.putCells];omega);have hG:=grownBy_sortedI (w:=W) (g:=g) (n:=q) (os:=#[]) ts.toArray;rw[zH]at hO hG;refine⟨some ⟨g,0,none⟩,cap,by rw[z],⟨⟨rfl,?_,λx hx=>U x (((jE l).2 x).1 hx),Or.inr ⟨g,0,rfl,λj hj=>?_⟩⟩,λad e=>by cases e;exact hg⟩,λW0 b0 c0 hB=>?_⟩
   ·rw[z];unfold maxLen;omega
   ·rw[z]at hj⊢;rw[Nat.zero_add,hO.cellAt j (by omega)];rw[a2,List.map_append,List.getElem?_append_left (by simpa using hj)];simp[List.getD,hj]
   ·have b8:Below b0 W0 W:=Below.grown hB a7 (by have:=hB.size;omega) (λk hk=>by cases hk;omega);exact Below.grown b8 hG (by have:=a7.size;omega) (λk hk=>by cases hk;omega)
  clear hv U hl J hh hc a6 b5 ht a1 b3 Z z b6;go_enter func148,ntmps148;go_wp2_with (go_at_call 69;refine C1.out.mono ?_;rintro e w' ⟨rfl,n,os,a8⟩;obtain⟨H2,H3⟩:=H1.out n os;rw[<-a8]at H2 H3;have b1:=aj H2;have b9:=aj H3;clear a8 H2 H3);go_wp2_with (go_at_call 70;refine(C2.out _ b1.out).mono ?_;rintro e w2 ⟨rfl,q,b2⟩;have HE:=aj (b4.out _ q b1.out b9.out);rw[<-b2]at HE;clear b2);go_ret;exact HE.out
end Go.Proofs.YtceojneljnnooaaGreat
