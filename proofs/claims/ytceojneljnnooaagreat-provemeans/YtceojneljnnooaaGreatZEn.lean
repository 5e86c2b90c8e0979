import Derived.Test.YtceojneljnnooaaGreatZLp
import Derived.Test.YtceojneljnnooaaGreatEa
import Derived.Shelf.Abstract
open Go.Proofs.Tryz
namespace Go.Proofs.YtceojneljnnooaaGreat
open Go.RowKit
set_option maxHeartbeats 0
set_option maxRecDepth 100000
set_option linter.all false
variable{w wr z:zW}{xs T:zI}{v:Value}
def jZ(w:zW)(T:zI)(m k:Nat)(z:zW):Prop:=z.rowIs w.heap.size 3 m (λi=>.int .i64 (if i<k then T.getD i 0 else 0))/\Below w.heap.size w z
theorem jI(w:zW)(T:zI)(m:Nat):jZ w T m 0 (w.alloc (.cells (madeCells #[.int .i64 0] m) 3)):=
 ⟨(World.rowIs_made w (.int .i64 0) m 3).congr λp z=>by rw[yN (by omega)],zb.alloc zr _⟩
theorem wD{m k:Nat}{W:zW}(h:jZ w T m k z)(hb:Below z.heap.size z W):jZ w T m k W:=by obtain⟨⟨c,h1,h2,h3⟩,h4⟩:=h;exact⟨⟨c,(hb.block _ (zG h1).1).trans h1,h2,h3⟩,ak h4 hb⟩
theorem kS{m k:Nat}(h:jZ w T m k z):jZ w T m (k+1) (z.setCell ⟨w.heap.size,k,none⟩ (.int .i64 (T.getD k 0))):=by
 refine⟨(h.1.set k _).congr λp U=>?_,h.2.setCell zr _⟩;by_cases e:p=k
 ·subst e;rw[yP rfl,yP (by omega)]
 ·rw[yN e]
  by_cases J:p<k
  ·rw[yP J,yP (by omega)]
  ·rw[yN J,yN (by omega)]
theorem wF{m:Nat}(h:jZ w T m m z)(J:T.length=m)(hm:m<=maxLen)(U: ∀x∈T,(Lit.int .i64 x).wf=true):Sl z (some ⟨w.heap.size,0,none⟩) m T:=
 ig J hm U (h.1.congr λi hi=>by rw[yP hi])
theorem Js(f:FuncId)(cs:Array Value)(b:Int)(iJ mu:Nat)(F:Nat->zI)(T:zI)(w:zW)(hM:aU b (iJ:Int)=0)(a7:aD b (iJ:Int)=(mu:Int))(he: ∀(args:Array Value) (W:zW),(callFunc f args).run prog W=.ok (.enter f args) W)(hF: ∀(W:zW) (g l:Nat),Below w.heap.size w W->l<mu->Sl W (some ⟨g,0,none⟩) iJ (bM b iJ (l:Int))->Calls prog f (#[.slice (some ⟨g,0,none⟩) iJ iJ]++cs) W (fH W (F l)))(hP: ∀l,l<mu->wV b (F l)=0/\fF b (F l)=T.getD l 0)(hT:T.length=mu)(c0:mu<=36)(Z: ∀x∈T,(Lit.int .i64 x).wf=true):
  Calls prog 146 #[.int .i64 b,.int .i64 (iJ:Int),.func (.func f) #[] cs] w (Pj w T .nilIface):=by
 have a8:=aj (lU b (iJ:Int) w)
 rw[hM,cB,a7]at a8
 have HU:Hid (∀W l,l<mu->Calls prog 103 #[.int .i64 b,.int .i64 iJ,.int .i64 (l:Int)] W (CF W (bM b iJ (l:Int)))):=λW l hl=>Jr b iJ l W (by unfold Iq;rw[yP hM,yP ⟨by omega,by omega⟩])
 have HF:=aj hF
 unfold CF at HU
 unfold fH at HF
 have b8:Hid (∀W l a cap,l<mu->Sl W a (F l).length (F l)->Calls prog 134 #[.int .i64 b,.slice a (F l).length cap] W λe w'=>e=.returned (.tuple #[.int .i64 (T.getD l 0),.nilIface])/\w'=W):=λW l a cap hl hs=>by
  have h:=abN b a (F l).length cap (F l) W hs;obtain⟨h1,h2⟩:=hP l hl;have h3:BX b (F l)=T.getD l 0:=by unfold BX;rw[yP h1,h2]
  rw[h3,h1,cB]at h;exact h
 have b6:=aj (λwx (h:jZ w T mu mu wx)=>wF h hT (by unfold maxLen;omega) Z)
 have c3:=fO mu (by omega)
 have H0:=aj (jI w T mu)
 have HT:=aj hT
 have HE:=aj he
 clear hM a7 he hF hP hT Z
 go_enter func146,ntmps146
 go_wp2_with (go_at_call 19;refine a8.out.mono ?_;rintro e w' ⟨rfl,Z⟩;rw[Z];clear Z w')
 generalize w.alloc (.cells (madeCells #[.int .i64 0] mu) 3)=w0 at H0⊢
 go_loopw[26] (λi wx=> ∃k:Nat,k<=mu/\i=.int .i64 k/\jZ w T mu k wx) (λi _=>mu-(intOf i).toNat)
 case atStart=>exact⟨0,by omega,rfl,H0.out⟩
 case round=>
  obtain⟨k,hk,rfl,b0⟩:=hrel
  have J:=aj b0
  clear b0
  by_cases U:k<mu
  ·have b7:(k:Int)<(mu:Int):=by omega
   have HC:=aj (HU.out wr k U)
   go_wp2_with fail
   refine HC.out.mono ?_
   rintro e w1 ⟨g,rfl,hg,a1,a2⟩
   rw[bF]at a1⊢
   have b9:=aj a2
   have b1:=aj (HF.out w1 g k (ak J.out.2 a2) U a1)
   have he:=HE.out
   clear a1 a2 HC hg
   go_wp2_with fail
   clear he
   refine b1.out.mono ?_
   rintro e w2 ⟨ar,cr,rfl,⟨b2,-⟩,b3⟩
   have b4:=aj (b8.out w2 k ar cr U b2)
   have z:=aj (wD J.out (ak b9.out b3))
   clear b2 b3 b1
   go_wp2_with fail
   refine b4.out.mono ?_
   rintro e w3 ⟨rfl,rfl⟩
   have a6:=z.out.1.cell U
   have c4:=z.out.1.frozen k
   have b5:=aj (kS z.out)
   rw[yN (Nat.lt_irrefl _)]at a6
   clear b4
   generalize T.getD k 0=x at b5⊢
   go_wp2
   go_roundw
   case rel=>exact⟨k+1,by omega,by go_num,b5.out⟩
   case measure=>simp[intOf];omega
  ·have b7: ¬(k:Int)<(mu:Int):=by omega
   obtain rfl:mu=k:=by omega
   have HS:=aj (b6.out wr J.out)
   go_wp2
   go_ret2
   refine⟨some ⟨w.heap.size,0,none⟩,mu,by rw[HT.out];simp,⟨?_,λad e=>by cases e;exact zr⟩,J.out.2⟩
   rw[HT.out]
   exact HS.out
theorem agK{at_ d:zI}(z: ∀x∈d,(Lit.int .i64 x).wf=true)(J: ∀i,i<at_.length->0<=at_.getD i 0/\at_.getD i 0<(d.length:Int)): ∀x∈at_.map (λi=>d.getD i.toNat 0),(Lit.int .i64 x).wf=true:=by intro x hx;obtain⟨i,hi,rfl⟩:=List.getElem_of_mem hx;rw[List.length_map]at hi;have:=J i hi;rw[aS _ i hi]at this;rw[List.getElem_map,aS _ _ (by omega)];exact z _ (List.getElem_mem _)
theorem Q8(B:Nat)(aa:zO)(J ca:Nat)(at_:zI)(ad:zO)(ld cd:Nat)(d:zI)(w:zW)(hB:w.cell? ⟨B,0,none⟩=some (.slice aa J ca))(ha:Sl w aa J at_)(hd:Sl w ad ld d)(b9:J<=100000000)(hr: ∀i,i<J->0<=at_.getD i 0/\at_.getD i 0<(ld:Int)):
  Calls prog 129 #[.slice ad ld cd,.pointer (some ⟨B,0,none⟩)] w (fH w (at_.map λi=>d.getD i.toNat 0)):=by
 have hL:=ha.1
 have c0:=fO J (by omega)
 have a8:=(Below.refl w.heap.size w).alloc zr (.cells (madeCells #[.int .i64 0] J) 3)
 have b6:(w.alloc (.cells (madeCells #[.int .i64 0] J) 3)).cell? ⟨B,0,none⟩=some (.slice aa J ca):=(a8.cell (p:=⟨B,0,none⟩) (zk w _ hB)).trans hB
 have H0:=aj (jI w (at_.map λi=>d.getD i.toNat 0) J)
 have HA:=aj ha
 have HD:=aj hd
 have HR:=aj hr
 have b0:Hid (∀k,k<J->(at_.map λi=>d.getD i.toNat 0).getD k 0=d.getD (at_.getD k 0).toNat 0):=λk hk=>by rw[aS _ k (by rw[List.length_map];omega),List.getElem_map,aS at_ k (by omega)]
 have a2:=aj (λwx (h:jZ w (at_.map λi=>d.getD i.toNat 0) J J wx)=>wF h (by rw[List.length_map,hL]) (by unfold maxLen;omega) (agK hd.2.2.1 (λi hi=>by rw[hd.1];exact hr i (by omega))))
 have a6:Hid ((at_.map λi=>d.getD i.toNat 0).length=J):=by show _=_;rw[List.length_map,hL]
 clear ha hd hr a8 hL
 generalize(at_.map λi=>d.getD i.toNat 0)=T at H0 b0 a2 a6⊢
 go_enter func129,ntmps129
 go_wp2
 clear hB b6
 generalize w.alloc (.cells (madeCells #[.int .i64 0] J) 3)=w0 at H0⊢
 go_loopw[12] (λi wx=> ∃k:Nat,k<=J/\i=.int .i64 k/\jZ w T J k wx) (λi _=>J-(intOf i).toNat)
 case atStart=>exact⟨0,by omega,rfl,H0.out⟩
 case round=>
  obtain⟨k,hk,rfl,b1⟩:=hrel
  have U:=aj b1
  clear b1
  by_cases Z:k<J
  ·have b5:(k:Int)<(J:Int):=by omega
   obtain⟨ba,oa,rfl,b7⟩:=bH (aF HA.out U.out.2) k Z
   have hx:=HR.out k Z
   have a1:=b0.out k Z
   obtain⟨x,b2⟩: ∃x:Nat,at_.getD k 0=(x:Int):=⟨(at_.getD k 0).toNat,by omega⟩
   rw[b2]at b7 hx a1
   rw[Int.toNat_natCast]at a1
   have b8:x<ld:=by omega
   have c3:(x:Int)<(ld:Int):=by omega
   obtain⟨bd,od,rfl,b3⟩:=bH (aF HD.out U.out.2) x b8
   rw[<-a1]at b3
   have a7:=U.out.1.cell Z
   have c4:=U.out.1.frozen k
   have b4:=aj (kS U.out)
   rw[yN (Nat.lt_irrefl _)]at a7
   clear a1 hx b2
   generalize T.getD k 0=z at b3 b4
   go_wp2
   go_roundw
   case rel=>exact⟨k+1,by omega,by go_num,b4.out⟩
   case measure=>simp[intOf];omega
  ·have b5: ¬(k:Int)<(J:Int):=by omega
   obtain rfl:J=k:=by omega
   have HS:=aj (a2.out wr U.out)
   go_wp2
   go_ret
   refine⟨some ⟨w.heap.size,0,none⟩,J,by rw[a6.out];simp,⟨?_,λad e=>by cases e;exact zr⟩,U.out.2⟩
   rw[a6.out]
   exact HS.out
def Grow(w:zW)(xs:zI)(v:Value)(wr:zW):Prop:=wr.ownsRow w.heap.size 3 1 v xs.length (xs.map (Value.int .i64))/\Below w.heap.size w wr
theorem Qd(w:zW):Grow w [] (.slice none 0 0) w:=⟨World.ownsRow_nil _ _ _ _,zb⟩
theorem YP(h:Grow w xs v wr):w.heap.size<=wr.heap.size:=h.2.size
theorem Lr{J:zW}{v':Value}{x:Int}{o:Obj}(h:Grow w xs v wr)(hown:J.ownsRow w.heap.size 3 1 v' (xs.length+1) (xs.map (Value.int .i64)++[.int .i64 x]))(z:(wr.alloc o).grownBy J v.ownBlock):Grow w (xs++[x]) v' J:=by refine⟨by rw[List.length_append,List.map_append];exact hown,?_⟩;exact Below.grown (h.2.alloc h.2.size o) z (by have:=h.2.size;simp;omega) (λk U=>(h.1.lt k U).1)
theorem TQ{w':zW}(h:Grow w xs v wr)(hb:Below wr.heap.size wr w'):Grow w xs v w':=
 ⟨aX h.1 (λk z=>hb.block _ (h.1.lt k z).2),ak h.2 hb⟩
theorem Qe(h:Grow w xs v wr)(hm:xs.length<=maxLen)(z: ∀x∈xs,(Lit.int .i64 x).wf=true):fH w xs (.returned v) wr:=by obtain⟨a,cap,rfl,hs⟩:=kJ rfl hm z h.1;exact⟨a,cap,rfl,hs,h.2⟩
end Go.Proofs.YtceojneljnnooaaGreat
