import Derived.Test.YtceojneljnnooaaGreatZG
import Derived.Deep.DeepCutAuto
import Derived.Deep.RegionHeldLaw
import Derived.Deep.OwnRows
open Go.Proofs.Tryz
namespace Go.Proofs.YtceojneljnnooaaGreat
open Go.RowKit
set_option maxHeartbeats 0
set_option maxRecDepth 100000
set_option linter.all false
variable{l:Array Bool}{ops:Array Oper}{Q:Exit->Act->zW->Prop}
theorem Ev{P:Program}{z:Region.Mode}{ops:Array Oper}{Q:Exit->Act->zW->Prop}(I:Nat->Array Bool->Act->zW->Prop)(h0: ∀l a w,I 0 l a w->Region.ready z ops l=[]/\Q .normal a w)(h1: ∀k l a w,I (k+1) l a w->(Region.ready z ops l=[]->Q .normal a w)/\ ∀i∈Region.ready z ops l,wpOp P ops Q i (I k (l.setIfInBounds i true)) a w):
  ∀(k:Nat) (l:Array Bool) (a:Act) (w:zW),I k l a w->wpAny P z ops Q k l a w
 |0,l,a,w,h=>h0 l a w h
 |k+1,l,a,w,h=>⟨(h1 k l a w h).1,λi hi=>wpOp_mono (λa' w' J=>Ev I h0 h1 k _ a' w' J) ((h1 k l a w h).2 i hi)⟩
def LL(l:Array Bool)(j:Nat):Prop:=l.getD j false=true
theorem OE{j:Nat}(h:j<l.size):(LL l j↔l[j]=true)/\(l.getD j true=l[j]):=by unfold LL;rw[Array.getD_eq_getD_getElem?,Array.getD_eq_getD_getElem?,Array.getElem?_eq_getElem h];exact⟨Iff.rfl,rfl⟩
theorem ajg{i:Nat}(h:i<l.size):LL (l.setIfInBounds i true)=λj=>j=i\/LL l j:=funext λj=>propext (by
 unfold LL;rw[Array.getD_eq_getD_getElem?,Array.getD_eq_getD_getElem?,Array.getElem?_setIfInBounds];by_cases e:i=j
 ·subst e;rw[yP rfl,yP h];simp
 ·rw[yN e]
  constructor
  ·exact λh=>.inr h
  ·rintro(h|h)
   ·exact absurd h.symm e
   ·exact h)
theorem MI{z:Region.Mode}{i:Nat}(hs:l.size=ops.size)(h:i∈Region.ready z ops l): ∃o,i<ops.size/\ops[i]? =some o/\l.toList[i]? =some false/\ ¬LL l i/\ ∀e∈o.after.toList,Region.binds z e=true->LL l e.on:=by
 unfold Region.ready at h;obtain⟨h1,h2⟩:=List.mem_filter.1 h;have hi:i<ops.size:=List.mem_range.1 h1;obtain⟨J,U⟩:=OE (l:=l) (j:=i) (by omega);rw[Bool.and_eq_true,U,Bool.not_eq_true']at h2;refine⟨ops[i],hi,Array.getElem?_eq_getElem hi,?_,λh=>?_,λe Z hb=>?_⟩
 ·rw[List.getElem?_eq_getElem (by rw[Array.length_toList];omega),Array.getElem_toList,h2.1]
 ·rw[J,h2.1]at h;cases h
 ·have h3:=h2.2;rw[Array.getElem?_eq_getElem hi]at h3;simp only[Option.map_some,Option.getD_some]at h3;rw[Array.all_eq_true']at h3;have h4:=h3 e (Array.mem_toList_iff.1 Z);rw[hb]at h4;simpa[LL]using h4
theorem aae{J:Region.Mode}(hs:l.size=ops.size)(U: ∀(j:Nat) (o:Oper),ops[j]? =some o-> ∀e∈o.after.toList,e.on<j)(h:Region.ready J ops l=[]): ∀n j,j<n->j<ops.size->LL l j:=by
 intro n;induction n with
 |zero=>intro j Z;omega
 |succ n ih=>
  intro j Z z
  obtain⟨g1,g2⟩:=OE (l:=l) (j:=j) (by omega)
  cases e:l[j]'(by omega)with
  |true=>rw[g1];exact e
  |false=>
   have:j∈Region.ready J ops l:=by unfold Region.ready;refine List.mem_filter.2 ⟨List.mem_range.2 z,?_⟩;rw[g2,e,Array.getElem?_eq_getElem z];simp only[Option.map_some,Option.getD_some,Bool.not_false,Bool.true_and];rw[Array.all_eq_true'];intro x hx;have a1:=U j ops[j] (Array.getElem?_eq_getElem z) x (Array.mem_toList_iff.2 hx);have:=ih x.on (by omega) (by omega);unfold LL at this;simp[this]
   rw[h]at this
   cases this
theorem aaf{n:Nat}(hs:l.size=n)(h: ∀j,j<n->LL l j):l.toList.count false=0:=by
 rw[List.count_eq_zero];intro hm;obtain⟨j,J,e⟩:=List.getElem_of_mem hm;have z:j<l.size:=by simpa using J
 have:=(OE z).1.1 (h j (by omega));rw[Array.getElem_toList]at e;rw[e]at this;cases this
theorem aag(h:l.toList.count false=0): ∀j,j<l.size->LL l j:=λj z=>by
 rw[List.count_eq_zero]at h;rw[(OE z).1];cases e:l[j]with
 |true=>rfl
 |false=>exact absurd (by rw[<-e,<-Array.getElem_toList];exact List.getElem_mem _) h
theorem JY{P:Program}{id:Nat}{a:Act}{w:zW}(hm:P.follows .mixedOrders=true)(a2: ∀(j:Nat) (o:Oper),ops[j]? =some o-> ∀e∈o.after.toList,e.on<j)(I:(Nat->Prop)->Act->zW->Prop)(a1:I (λ_=>False) a w.drew)(step: ∀(L:Nat->Prop) (a:Act) (w:zW) (i:Nat) (o:Oper),ops[i]? =some o-> ¬L i->(∀e∈o.after.toList,Region.binds .any e=true->L e.on)->(∀(j:Nat) (J:Oper),L j->ops[j]? =some J-> ∀e∈J.after.toList,Region.binds .any e=true->L e.on)->I L a w->wpOp P ops Q i (λa' w'=>I (λj=>j=i\/L j) a' w') a w)(a6: ∀(L:Nat->Prop) (a:Act) (w:zW),(∀j,j<ops.size->L j)->I L a w->Q .normal a w):(Code.region id ops true).wp P Q a w:=by
 refine wp_region_any hm ?_;refine Ev (λk l a w=>l.size=ops.size/\k=l.toList.count false/\(∀(j:Nat) (J:Oper),LL l j->ops[j]? =some J-> ∀e∈J.after.toList,Region.binds .any e=true->LL l e.on)/\I (LL l) a w) ?_ ?_ ops.size _ _ _ ?_
 ·rintro l a w ⟨h1,h2,h3,h4⟩;have U:=aag h2.symm;refine⟨?_,a6 _ _ _ (λj z=>U j (by omega)) h4⟩;rw[List.eq_nil_iff_forall_not_mem];intro i hi;obtain⟨o,g1,-,-,g2,-⟩:=MI h1 hi;exact g2 (U i (by omega))
 ·rintro k l a w ⟨h1,h2,h3,h4⟩
  refine⟨λhe=>?_,λi hi=>?_⟩
  ·have:=aaf h1 (λj z=>aae h1 a2 he (j+1) j (by omega) z);omega
  ·obtain⟨o,g1,g2,g3,g4,g5⟩:=MI h1 hi
   refine wpOp_mono (λa' w' hI=>?_) (step (LL l) a w i o g2 g4 g5 h3 h4);have Z:=ajg (l:=l) (i:=i) (by omega);refine⟨by simpa using h1,?_,?_,by rw[Z];exact hI⟩
   ·rw[Array.toList_setIfInBounds,List.count_set (by rw[Array.length_toList];omega)];have hl:i<l.toList.length:=(by rw[Array.length_toList];omega);rw[List.getElem?_eq_getElem hl]at g3;injection g3 with g3;rw[g3,yP (by rfl),yN (by decide)];omega
   ·rw[Z]
    intro j J z ho e he hb;rcases z with rfl|z
    ·rw[g2]at ho;injection ho with ho;subst ho;exact .inr (g5 e he hb)
    ·exact .inr (h3 j J z ho e he hb)
 ·refine⟨by simp,by simp,λj J z=>?_,?_⟩
  ·exfalso;unfold LL at z;rw[Array.getD_eq_getD_getElem?,Array.getElem?_replicate]at z;split at z<;>simp at z
  ·have:LL (Array.replicate ops.size false)=λ_=>False:=funext λj=>propext ⟨λz=>by
    unfold LL at z;rw[Array.getD_eq_getD_getElem?,Array.getElem?_replicate]at z;split at z<;>simp at z,λh=>h.elim⟩
   rw[this]
   exact a1
def akw(ops:Array Oper):Bool:=(List.range ops.size).all λj=>((ops[j]?).map λo=>o.after.toList.all λe=>decide (e.on<j)).getD true
theorem M8(h:akw ops=true): ∀(j:Nat) (o:Oper),ops[j]? =some o-> ∀e∈o.after.toList,e.on<j:=λj o z e J=>by unfold akw at h;rw[List.all_eq_true]at h;have h1:=h j (List.mem_range.2 (zG z).1);rw[z]at h1;simp only[Option.map_some,Option.getD_some,List.all_eq_true]at h1;exact of_decide_eq_true (h1 e J)
def RvI(d:Nat->Nat)(val:Nat->Value)(T0:Array Value)(z:List Deferred)(w0:zW)(L:Nat->Prop)(a:Act)(W:zW):Prop:=
 ∃T,a=⟨T,z⟩/\T.size=T0.size/\(∀j,L j->T[d j]? =some (val j))/\(∀s,(∀j,L j->s≠d j)->T[s]? =T0[s]?)/\Below w0.heap.size w0 W
theorem FH{P:Program}{id:Nat}{T0:Array Value}{Z:List Deferred}{w0:zW}(hm:P.follows .mixedOrders=true)(a1: ∀(j:Nat) (o:Oper),ops[j]? =some o-> ∀e∈o.after.toList,e.on<j)(d:Nat->Nat)(val:Nat->Value)(hd: ∀i j,i<ops.size->j<ops.size->d i=d j->i=j)(hs: ∀i,i<ops.size->d i<T0.size)(step: ∀(T:Array Value) (W:zW) (i:Nat) (o:Oper),ops[i]? =some o->T.size=T0.size->(∀e∈o.after.toList,Region.binds .any e=true->T[d e.on]? =some (val e.on))->(∀s,(∀j,j<ops.size->s≠d j)->T[s]? =T0[s]?)->Below w0.heap.size w0 W->wpOp P ops Q i (λa' W'=>a'=⟨T.setIfInBounds (d i) (val i),Z⟩/\Below w0.heap.size w0 W') ⟨T,Z⟩ W)(a7: ∀(T:Array Value) (W:zW),T.size=T0.size->(∀j,j<ops.size->T[d j]? =some (val j))->(∀s,(∀j,j<ops.size->s≠d j)->T[s]? =T0[s]?)->Below w0.heap.size w0 W->Q .normal ⟨T,Z⟩ W):(Code.region id ops true).wp P Q ⟨T0,Z⟩ w0:=by
 refine JY hm a1 (λL a W=>RvI d val T0 Z w0 (λj=>L j/\j<ops.size) a W) ?_ ?_ ?_
 ·exact⟨T0,rfl,rfl,λj h=>h.1.elim,λs _=>rfl,zb.drew⟩
 ·rintro L a W i o ho b3 a2 b4 ⟨T,rfl,U,h1,h2,hb⟩
  have hi:i<ops.size:=(zG ho).1;refine wpOp_mono ?_ (step T W i o ho U (λe he a8=>?_) (λs J=>h2 s (λj z=>J j z.2)) hb)
  ·rintro a' W' ⟨rfl,b0⟩
   refine⟨_,rfl,by rw[Array.size_setIfInBounds];exact U,λj z=>?_,λs J=>?_,b0⟩
   ·rw[Array.getElem?_setIfInBounds]
    by_cases e:d i=d j
    ·obtain rfl:i=j:=hd i j hi z.2 e;rw[yP rfl,yP (by rw[U];exact hs i hi)]
    ·rw[yN e]
     rcases z.1 with rfl|b1
     ·exact absurd rfl e
     ·exact h1 j ⟨b1,z.2⟩
   ·rw[Array.getElem?_setIfInBounds,yN (λe=>J i ⟨.inl rfl,hi⟩ e.symm)];exact h2 s (λj z=>J j ⟨.inr z.1,z.2⟩)
  ·have b2:e.on<ops.size:=Nat.lt_trans (a1 i o ho e he) hi;exact h1 e.on ⟨a2 e he a8,b2⟩
 ·rintro L a W a6 ⟨T,rfl,U,h1,h2,hb⟩;exact a7 T W U (λj z=>h1 j ⟨a6 j z,z⟩) (λs J=>h2 s (λj z=>J j z.2)) hb
theorem ig{w:zW}{g n:Nat}{l:zI}(z:l.length=n)(hm:n<=maxLen)(J: ∀x∈l,(Lit.int .i64 x).wf=true)(h:w.rowIs g 3 n λi=>.int .i64 (l.getD i 0)):Sl w (some ⟨g,0,none⟩) n l:=
 ⟨z,hm,J,Or.inr ⟨g,0,rfl,λi hi=>by rw[Nat.zero_add];exact h.cell hi⟩⟩
theorem fO(n:Nat)(z:n<=1000000000000)(w:zW):(Instr.makeSlice 24 (.int .i64 (n:Int)) (.int .i64 (n:Int))).run prog w=.ok (.slice (some ⟨w.heap.size,0,none⟩) n n) (w.alloc (.cells (madeCells #[.int .i64 0] n) 3)):=
 run_make_row' 24 3 (.int .i64 0) 8 underlying24 rX rfl .i64 .i64 n (by omega) (by omega) w
def Pm(b:Int)(n:Nat)(l:Int)(w:zW)(k:Nat)(wr:zW):Prop:=
 wr.rowIs w.heap.size 3 n (λp=>.int .i64 (if n<=p+k then pW b n l p else 0))/\Below w.heap.size w wr
theorem KX{b:Int}{n:Nat}{l:Int}{w wr:zW}{k m:Nat}(h:Pm b n l w k wr)(hm:n=m+1+k):Pm b n l w (k+1) (wr.setCell ⟨w.heap.size,m,none⟩ (.int .i64 (l/pw (au b) k%au b))):=by
 refine⟨(h.1.set m _).congr λp J=>?_,h.2.setCell zr _⟩;by_cases e:p=m
 ·subst e;rw[yP rfl,yP (by omega)];unfold pW;rw[show n-1-p=k by omega]
 ·rw[yN e]
  by_cases z:n<=p+k
  ·rw[yP z,yP (by omega)]
  ·rw[yN z,yN (by omega)]
end Go.Proofs.YtceojneljnnooaaGreat
