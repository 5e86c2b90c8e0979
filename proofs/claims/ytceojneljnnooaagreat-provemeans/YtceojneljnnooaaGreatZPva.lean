import Derived.Test.YtceojneljnnooaaGreatZYa
import Derived.Test.YtceojneljnnooaaGreatZFd
open Go.Proofs.Tryz
namespace Go.Proofs.YtceojneljnnooaaGreat
open Go.RowKit
set_option maxHeartbeats 0
set_option maxRecDepth 100000
set_option linter.all false
variable{D:Int->zI}{b t x op:Int}{vs w more:zI}{N R B Rd:zL}{n:Nd}{m k tr:Nat}{RE E EB l:zB}{Ts:List (List Nat)}{ws:List Om}{V I:List Nat}{W:zW}{L:zI->Bool}{ns:List Nd}{T:TypeId}
def MR(k:Int)(n:Nd):Int:=if n.op=3\/n.op=4 then max (max k (n.wd+1)) (n.wd2+1)else k
def tF(ns:List Nd):Int:=ns.foldl MR 0
theorem ED{ns:List Nd}{k:Nat}(h:k<ns.length):tF (ns.take (k+1))=MR (tF (ns.take k)) (ns.getD k oL):=by unfold tF;rw[List.take_succ_eq_append_getElem h,List.foldl_append];simp[List.getD,h]
theorem ahq(z: ∀x∈ns,qo x=0): ∀k,k<=ns.length->0<=tF (ns.take k)/\tF (ns.take k)<=3:=by
 intro k;induction k with
 |zero=>intro _;simp[tF]
 |succ k ih=>
  intro hk
  have h1:=ih (by omega)
  rw[ED (by omega)]
  have J:=z (ns.getD k oL) (by simp[List.getD,show k<ns.length by omega])
  obtain⟨U,h2,h3,h4,h5⟩:=dH J
  unfold MR
  split
  ·rename_i Z
   have hw:=U.2.2.2.1 Z
   by_cases e4:(ns.getD k oL).op=4
   ·have a1:=U.2.2.2.2.1 e4
    omega
   ·have a1:=h3 e4
    omega
  ·exact h1
theorem aeH(J: ∀x∈ns,qo x=0)(m:Nat): ∀k,k<=ns.length->(tF (ns.take k)<=(m:Int)↔((ns.take k).all λn=>decide (¬yg m n))=true):=by
 intro k;induction k with
 |zero=>intro _;simp[tF]
 |succ k ih=>
  intro hk
  have h1:=ih (by omega)
  rw[ED (by omega),agp ns m (by omega),Bool.and_eq_true,<-h1,decide_eq_true_iff]
  have U:=J (ns.getD k oL) (by simp[List.getD,show k<ns.length by omega])
  obtain⟨Z,h2,h3,h4,h5⟩:=dH U
  unfold MR yg
  split
  ·rename_i z
   have hw:=Z.2.2.2.1 z
   by_cases e4:(ns.getD k oL).op=4
   ·have a1:=Z.2.2.2.2.1 e4
    constructor
    ·intro h;omega
    ·intro h;omega
   ·have a1:=(h3 e4).2
    constructor
    ·intro h;omega
    ·intro h;omega
  ·rename_i z
   constructor
   ·intro h;exact⟨h,by omega⟩
   ·intro h;exact h.1
theorem Sd(z: ∀x∈ns,qo x=0)(m:Nat):tF ns<=(m:Int)↔(ns.all λn=>decide (¬yg m n))=true:=by have h:=aeH z m ns.length zr;rw[List.take_length]at h;exact h
theorem aeI{P:Program}{u v z M:Int}(J:max (max u v) z=M)(ts:Array TypeId)(t:TypeId)(W:zW):(Builtin.max_ ts t #[.int .i64 u,.int .i64 v,.int .i64 z]).run P W=.ok (.int .i64 M) W:=by
 have hv:(if z>(if v>u then v else u)then z else(if v>u then v else u))=M:=by rw[<-J];split<;>split<;>omega
 rw[<-hv];simp[Builtin.max_,Builtin.max2]
theorem MS(a:zO)(n cap:Nat)(ns:List Nd)(w:zW)(hs:SlF w a n ns)(Z: ∀x∈ns,qo x=0):Calls prog 30 #[.slice a n cap] w λe w'=>e=.returned (.int .i64 (tF ns))/\Below w.heap.size w w':=by
 have hL:=hs.1;have a8:=hs.2.1;unfold maxLen at a8;have HS:=aj hs;have b0:=aj (λk (hk:k<n)=>@ED ns k (by omega));have b1:=aj (λk (hk:k<=n)=>ahq Z k (by omega));have b2:=aj (λk (hk:k<n)=>dH (Z (ns.getD k oL) (by simp[List.getD,show k<ns.length by omega])));have HE:Hid (ns.take n=ns):=by show _=_;rw[<-hL];exact List.take_length
 clear hs Z hL;go_enter func30,ntmps30;go_wp2;go_loopw[3,8] (λmv jv wx=> ∃j:Nat,j<=n/\jv=.int .i64 j/\mv=.int .i64 (tF (ns.take j))/\Below w.heap.size w wx) (λ_ jv _=>n-(intOf jv).toNat);case atStart=>exact⟨0,by omega,rfl,rfl,zb⟩
 case round=>
  obtain⟨j,hj,rfl,rfl,hb⟩:=hrel;have a2:=aj hb;clear hb;have b3:=b1.out j hj;by_cases a1:j<n
  ·have a7:(j:Int)<(n:Int):=by omega
   obtain⟨bb,oo,a',c',rfl,x0,x1,x2,x3,x4,x5,x6,-⟩:=jB (dG HS.out a2.out) j a1;have z:=aj (b0.out j a1);have hz:=b2.out j a1;generalize ns.getD j oL=nd at x0 x1 x2 x3 x4 x5 x6 z hz;have a6:=aj (a2.out.alloc a2.out.size (lK nd a' c'));have HX:=aj (zl wr (lK nd a' c'));generalize b6:wr.alloc (lK nd a' c')=W1 at a6 HX;obtain⟨⟨z0,z1,z2,z3,z4,z5,z6⟩,-⟩:=bU HX.out;generalize tF (ns.take j)=k at b3 z⊢;by_cases U:nd.op=3\/nd.op=4
   ·have b4:(nd.op==3)=true\/((nd.op==3)=false/\(nd.op==4)=true):=by
     by_cases h3:nd.op=3
     ·exact .inl (by simp[h3])
     ·exact .inr ⟨by simp[h3],by simp;omega⟩
    have J:=z.out
    unfold MR at J
    rw[yP U]at J
    have HN:=aj J
    have b7:=hz.1.2.2.2.1 U
    have b5:0<=nd.wd2/\nd.wd2<3:=by
     by_cases h4:nd.op=4
     ·exact hz.1.2.2.2.2.1 h4
     ·have:=(hz.2.2.1 h4).2;omega
    obtain⟨X,hX⟩: ∃X,X=nd.wd+1:=⟨_,rfl⟩
    obtain⟨Y,hY⟩: ∃Y,Y=nd.wd2+1:=⟨_,rfl⟩
    have b8:IntKind.i64.wrap (nd.wd+1)=X:=by rw[hX];exact vQ (by omega) (by omega)
    have b9:IntKind.i64.wrap (nd.wd2+1)=Y:=by rw[hY];exact vQ (by omega) (by omega)
    rw[<-hX,<-hY]at HN
    obtain⟨M,hM⟩: ∃M,max (max k X) Y=M:=⟨_,rfl⟩
    rw[hM]at HN
    have c0:=@aeI prog k X Y M hM
    clear U J hz z hX hY hM
    rcases b4 with e3|⟨e3,e4⟩
    all_goals
     go_wp2
     go_roundw
     case rel=>exact⟨j+1,by omega,by go_num,by rw[HN.out],a6.out⟩
     case measure=>simp[intOf];omega
   ·have e3:(nd.op==3)=false:=by simp;omega
    have e4:(nd.op==4)=false:=(by simp;omega);have J:=z.out;unfold MR at J;rw[yN U]at J;have HN:=aj J;clear U J hz z;go_wp2;go_roundw;case rel=>exact⟨j+1,by omega,by go_num,by rw[HN.out],a6.out⟩
    case measure=>simp[intOf];omega
  ·have a7: ¬(j:Int)<(n:Int):=by omega
   obtain rfl:j=n:=(by omega);go_wp2;go_ret;exact⟨by rw[HE.out];rfl,a2.out⟩
def Gc(l:zB):Array Value:=(l.map Value.bool).toArray
theorem Ki(l:zB)(k:Nat)(h:k<l.length):(Gc l)[k]? =some (.bool (l.getD k false)):=by simp[Gc,h]
theorem aeK(l:zB)(k:Nat)(b:Bool):(Gc l).setIfInBounds k (.bool b)=Gc (l.set k b):=by unfold Gc;rw[List.setIfInBounds_toArray,List.map_set]
theorem OV(C:Array Value)(k:Nat)(z:k<5)(v:Value)(hv:C[k]? =some v)(W:zW):(Instr.index 62 (.agg C) (.int .i64 k)).run prog W=.ok v W:=by simp[Instr.index,asIntOf,run_underlying underlying62,part,isAgg4,sizeOf4,hv];omega
abbrev tT(W:zW)(B:Nat)(l:zB):Prop:=W.heap[B]? =some (.cells (Gc l) 62 (0,0))
theorem wM{B:Nat}(h:tT W B l)(z:k<l.length):W.cell? ⟨B,k,none⟩=some (.bool (l.getD k false))/\W.frozen? ⟨B,k,none⟩=false:=by refine⟨?_,by simp[World.frozen?,h]⟩;rw[cell_of_row _ _ k _ _ _ h,Ki _ _ z]
theorem EF{B:Nat}(h:tT W B l)(k:Nat)(b:Bool):tT (W.setCell ⟨B,k,none⟩ (.bool b)) B (l.set k b):=by have:=jK (k:=k) (v:=.bool b) h;rw[aeK]at this;exact this
theorem MU(w:zW)(o z J:Obj):(((w.alloc o).alloc z).alloc J).heap[w.heap.size+1]? =some z:=by rw[Below.heap_alloc _ _ _ (by simp),aQ]
def Gd(n:Nd):zB:=[dI n 0,dI n 1,dI n 2,dI n 3,dI n 4]
def Ya:zB:=[false,false,false,false,false]
def nzK(cf:zI)(k:Nat):zB:=(List.range 5).map λi=>decide (i<k)&&decide (cf.getD i 0≠0)
theorem ahr(cf:zI)(k:Nat):(nzK cf k).length=5:=by simp[nzK]
theorem ahs(cf:zI)(k:Nat):(nzK cf k).set k (decide (cf.getD k 0≠0))=nzK cf (k+1):=by
 apply List.ext_getElem?;intro i;unfold nzK;by_cases e:k=i
 ·subst e
  by_cases h5:k<5
  ·rw[List.getElem?_set_self (by simpa using h5)];simp[h5]
  ·rw[List.getElem?_eq_none (by simp;omega),List.getElem?_eq_none (by simp;omega)]
 ·rw[List.getElem?_set_ne e]
  by_cases h5:i<5
  ·simp only[List.getElem?_map,List.getElem?_range h5,Option.map_some];congr 1;have:decide (i<k)=decide (i<k+1):=decide_eq_decide.2 (by omega);rw[this]
  ·rw[List.getElem?_eq_none (by simp;omega),List.getElem?_eq_none (by simp;omega)]
theorem aht(h:n.op=1\/n.op=2):nzK n.cf n.cf.length=Gd n:=by
 have hi: ∀i:Nat,(decide (i<n.cf.length)&&decide (n.cf.getD i 0≠0))=dI n (i:Int):=λi=>by unfold dI;rw[yP h,Int.toNat_natCast];congr 1;exact decide_eq_decide.2 (by omega)
 show[_,_,_,_,_]=_;unfold Gd;simp only[hi];rfl
theorem ahu(h:n.op=3)(hv:0<=n.var/\n.var<5):Ya.set n.var.toNat true=Gd n:=by
 have hi: ∀i:Int,dI n i=decide (n.var=i):=λi=>by unfold dI;rw[yN (by omega)];simp[h]
 unfold Gd;simp only[hi];obtain⟨q,z⟩: ∃q:Nat,n.var=(q:Int):=⟨n.var.toNat,by omega⟩;rw[z]at hv⊢;have:q<5:=by omega
 match q,this with
 |0,_=>rfl
 |1,_=>rfl
 |2,_=>rfl
 |3,_=>rfl
 |4,_=>rfl
theorem ahv(h:n.op=4)(hv:0<=n.var/\n.var<5)(J:0<=n.gV/\n.gV<5):(Ya.set n.var.toNat true).set n.gV.toNat true=Gd n:=by
 have hi: ∀i:Int,dI n i=(decide (n.var=i)||decide (n.gV=i)):=λi=>by unfold dI;rw[yN (by omega)];simp[h]
 unfold Gd;simp only[hi];obtain⟨q,U⟩: ∃q:Nat,n.var=(q:Int):=⟨n.var.toNat,by omega⟩;obtain⟨r,Z⟩: ∃r:Nat,n.gV=(r:Int):=⟨n.gV.toNat,by omega⟩;rw[U]at hv⊢;rw[Z]at J⊢;have h1:q<5:=by omega
 have h2:r<5:=by omega
 have z: ∀q r:Fin 5,(Ya.set q.val true).set r.val true=[decide (((q.val:Nat):Int)=0)||decide (((r.val:Nat):Int)=0),decide (((q.val:Nat):Int)=1)||decide (((r.val:Nat):Int)=1),decide (((q.val:Nat):Int)=2)||decide (((r.val:Nat):Int)=2),decide (((q.val:Nat):Int)=3)||decide (((r.val:Nat):Int)=3),decide (((q.val:Nat):Int)=4)||decide (((r.val:Nat):Int)=4)]:=by decide+kernel
 exact z ⟨q,h1⟩ ⟨r,h2⟩
theorem aeL(h:5<=n.op):Ya=Gd n:=by
 have hi: ∀i:Int,dI n i=false:=λi=>by unfold dI;rw[yN (by omega)];simp;omega
 unfold Gd;simp only[hi];rfl
theorem fG{B:Nat}{v0 v1 v2 v3 v4:Value}(h:W.heap[B]? =some (.cells #[v0,v1,v2,v3,v4] T (0,0))):(W.cell? ⟨B,0,none⟩=some v0/\W.cell? ⟨B,1,none⟩=some v1/\W.cell? ⟨B,2,none⟩=some v2/\W.cell? ⟨B,3,none⟩=some v3/\W.cell? ⟨B,4,none⟩=some v4)/\W.frozen? ⟨B,0,none⟩=false/\W.frozen? ⟨B,1,none⟩=false/\W.frozen? ⟨B,2,none⟩=false/\W.frozen? ⟨B,3,none⟩=false/\W.frozen? ⟨B,4,none⟩=false:=by refine⟨⟨by simp[World.cell?,h],by simp[World.cell?,h],by simp[World.cell?,h],by simp[World.cell?,h],by simp[World.cell?,h]⟩,by simp[World.frozen?,h],by simp[World.frozen?,h],by simp[World.frozen?,h],by simp[World.frozen?,h],by simp[World.frozen?,h]⟩
theorem aaC{B:Nat}{u0 u1 u2 u3 u4 v0 v1 v2 v3 v4:Value}(h:W.heap[B]? =some (.cells #[u0,u1,u2,u3,u4] T (0,0))):(((((W.setCell ⟨B,0,none⟩ v0).setCell ⟨B,1,none⟩ v1).setCell ⟨B,2,none⟩ v2).setCell ⟨B,3,none⟩ v3).setCell ⟨B,4,none⟩ v4).heap[B]? =some (.cells #[v0,v1,v2,v3,v4] T (0,0)):=by simp[World.setCell,Array.getElem?_modify,h]
theorem tH{B:Nat}{w:zW}{u0 u1 u2 u3 u4:Value}(h:W.heap[B]? =some (.cells #[u0,u1,u2,u3,u4] T (0,0)))(hb:Below k w W)(z:k<=B)(v0 v1 v2 v3 v4:Value): ∃J,(((((W.setCell ⟨B,0,none⟩ v0).setCell ⟨B,1,none⟩ v1).setCell ⟨B,2,none⟩ v2).setCell ⟨B,3,none⟩ v3).setCell ⟨B,4,none⟩ v4)=J/\J.heap[B]? =some (.cells #[v0,v1,v2,v3,v4] T (0,0))/\Below k w J:=
 ⟨_,rfl,aaC h,((((hb.setCell z _).setCell z _).setCell z _).setCell z _).setCell z _⟩
theorem Yb(h:l.length=5): ∃z J U Z b4,l=[z,J,U,Z,b4]:=by
 match l,h with
 |[z,J,U,Z,b4],_=>exact⟨z,J,U,Z,b4,rfl⟩
theorem aeM(n:Nd):(Gd n).length=5:=rfl
def akn(w:zW)(n:Nd)(e:Ending)(w':zW):Prop:=e=.returned (.agg (Gc (Gd n)))/\Below w.heap.size w w'
theorem Vy(n:Nd)(a:zO)(c:Nat)(w:zW)(hs:Sl w a n.cf.length n.cf)(a2:qo n=0):Calls prog 39 #[Bu n a c] w (akn w n):=by
 obtain⟨hr,b7⟩:=dH a2;have hop:=hr.1;have b8:=(Below.refl w.heap.size w).alloc zr (lK n a c);have b9:=b8.alloc b8.size (.cells #[.bool false,.bool false,.bool false,.bool false,.bool false] 62);have c4:=b9.alloc b9.size (.cells #[.bool false,.bool false,.bool false,.bool false,.bool false] 62);have HB:=aj c4;unfold Bu;by_cases h5:5<=n.op
 ·have HU:=aj (aeL h5)
  have e1:(n.op==1)=false:=by simp;omega
  have e2:(n.op==2)=false:=by simp;omega
  have e3:(n.op==3)=false:=by simp;omega
  have e4:(n.op==4)=false:=by simp;omega
  clear hr b7 hop a2 h5 hs b8 b9 c4;go_enter func39,ntmps39;go_wp2;exact bodyPost_ret (v:=.agg #[.bool false,.bool false,.bool false,.bool false,.bool false]) (by simp[results,results39,go_sem]) rfl ⟨by rw[<-HU.out];rfl,HB.out⟩
 have HX:=aj (pV w (lK n a c) (.cells #[.bool false,.bool false,.bool false,.bool false,.bool false] 62) (.cells #[.bool false,.bool false,.bool false,.bool false,.bool false] 62));have a6:Hid (tT (((w.alloc (lK n a c)).alloc (.cells #[.bool false,.bool false,.bool false,.bool false,.bool false] 62)).alloc (.cells #[.bool false,.bool false,.bool false,.bool false,.bool false] 62)) (w.heap.size+1) Ya):=MU w _ _ _;have a1:Hid (tT (((w.alloc (lK n a c)).alloc (.cells #[.bool false,.bool false,.bool false,.bool false,.bool false] 62)).alloc (.cells #[.bool false,.bool false,.bool false,.bool false,.bool false] 62)) (w.heap.size+1+1) Ya):=tZ w _ _ _;have HS:=aj hs;have d0:=hs.2.1;unfold maxLen at d0;have b6:Hid (∀(W:zW) (l:zB),tT W (w.heap.size+1) Ya->tT W (w.heap.size+1+1) l->l.length=5-> ∃U Z b2 b3 b4,l=[U,Z,b2,b3,b4]/\W.heap[w.heap.size+1]? =some (.cells #[.bool false,.bool false,.bool false,.bool false,.bool false] 62 (0,0))/\W.heap[w.heap.size+1+1]? =some (.cells #[.bool U,.bool Z,.bool b2,.bool b3,.bool b4] 62 (0,0))):=λW l h1 h2 h3=>by obtain⟨U,Z,b2,b3,b4,rfl⟩:=Yb h3;exact⟨U,Z,b2,b3,b4,rfl,h1,h2⟩
 obtain⟨op,var,gV,wd,wd2,num,cf⟩:=n;simp only at HX a6 a1 HB HS d0 h5 hop⊢;generalize d1:((w.alloc (lK ⟨op,var,gV,wd,wd2,num,cf⟩ a c)).alloc (.cells #[.bool false,.bool false,.bool false,.bool false,.bool false] 62)).alloc (.cells #[.bool false,.bool false,.bool false,.bool false,.bool false] 62)=W3 at HX a6 a1 HB;clear b8 b9 c4 hs;obtain⟨z0,z1,z2,z3,z4,z5,z6⟩:=(bU HX.out).1;by_cases h3:op=3
 ·have hv:=hr.2.1 (.inl h3)
  simp only at hv;have HU:=aj (ahu (n:=⟨op,var,gV,wd,wd2,num,cf⟩) h3 hv);obtain⟨q,rfl⟩: ∃q:Nat,var=(q:Int):=⟨var.toNat,by omega⟩;have c5:q<5:=by omega
  have d7:(q:Int)<5:=by omega
  obtain⟨hc,hf⟩:=wM a1.out (k:=q) c5;have HN:=aj (EF a1.out q true);have c6:Hid (tT (W3.setCell ⟨w.heap.size+1+1,q,none⟩ (.bool true)) (w.heap.size+1) Ya):=by show _=_;rw[Below.heap_setCell _ _ _ _ (show w.heap.size+1≠w.heap.size+1+1 by omega)];exact a6.out
  have a7:Hid (Below w.heap.size w (W3.setCell ⟨w.heap.size+1+1,q,none⟩ (.bool true))):=HB.out.setCell (show w.heap.size<=w.heap.size+1+1 by omega) _;have e1:(op==1)=false:=by simp[h3]
  have e2:(op==2)=false:=by simp[h3]
  have e3:(op==3)=true:=by simp[h3]
  simp only[Int.toNat_natCast]at HU;clear hr b7 hop a2 h5 h3 hv;obtain⟨U,Z,b2,b3,b4,hl,g1,J⟩:=b6.out _ _ c6.out HN.out (by simp[Ya]);rw[hl]at HU;generalize d2:W3.setCell ⟨w.heap.size+1+1,q,none⟩ (.bool true)=Ws at HN c6 a7 g1 J;obtain⟨⟨y0,y1,y2,y3,y4⟩,-⟩:=fG J;obtain⟨⟨x0,x1,x2,x3,x4⟩,f0,f1,f2,f3,f4⟩:=fG g1;obtain⟨Wf,d3,g3,a8⟩:=tH g1 a7.out (by omega) (.bool U) (.bool Z) (.bool b2) (.bool b3) (.bool b4);obtain⟨⟨t0,t1,t2,t3,t4⟩,-⟩:=fG g3;clear hl HN c6 g1 J g3;go_enter func39,ntmps39;go_wp2;exact bodyPost_ret (v:=.agg #[.bool U,.bool Z,.bool b2,.bool b3,.bool b4]) (by simp[results,results39,go_sem,t0,t1,t2,t3,t4]) rfl ⟨by rw[<-HU.out];rfl,a8⟩
 by_cases h4:op=4
 ·have hv:=hr.2.1 (.inr (.inl h4))
  have ho:=hr.2.2.1 h4;simp only at hv ho;have HU:=aj (ahv (n:=⟨op,var,gV,wd,wd2,num,cf⟩) h4 hv ho);obtain⟨q,rfl⟩: ∃q:Nat,var=(q:Int):=⟨var.toNat,by omega⟩;obtain⟨r,rfl⟩: ∃r:Nat,gV=(r:Int):=⟨gV.toNat,by omega⟩;have c5:q<5:=by omega
  have d7:(q:Int)<5:=by omega
  have d9:r<5:=by omega
  have f8:(r:Int)<5:=by omega
  obtain⟨hc,hf⟩:=wM a1.out (k:=q) c5;have HN:=aj (EF a1.out q true);obtain⟨e0,e5⟩:=wM HN.out (k:=r) (by simpa[Ya]using d9);have HM:=aj (EF HN.out r true);have c7:Hid (tT ((W3.setCell ⟨w.heap.size+1+1,q,none⟩ (.bool true)).setCell ⟨w.heap.size+1+1,r,none⟩ (.bool true)) (w.heap.size+1) Ya):=by show _=_;rw[Below.heap_setCell _ _ _ _ (show w.heap.size+1≠w.heap.size+1+1 by omega),Below.heap_setCell _ _ _ _ (show w.heap.size+1≠w.heap.size+1+1 by omega)];exact a6.out
  have a7:Hid (Below w.heap.size w ((W3.setCell ⟨w.heap.size+1+1,q,none⟩ (.bool true)).setCell ⟨w.heap.size+1+1,r,none⟩ (.bool true))):=(HB.out.setCell (show w.heap.size<=w.heap.size+1+1 by omega) _).setCell (show w.heap.size<=w.heap.size+1+1 by omega) _;have e1:(op==1)=false:=by simp[h4]
  have e2:(op==2)=false:=by simp[h4]
  have e3:(op==3)=false:=by simp[h4]
  have e4:(op==4)=true:=by simp[h4]
  simp only[Int.toNat_natCast]at HU;clear hr b7 hop a2 h5 h3 h4 hv ho;obtain⟨U,Z,b2,b3,b4,hl,g1,J⟩:=b6.out _ _ c7.out HM.out (by simp[Ya]);rw[hl]at HU;generalize d2:(W3.setCell ⟨w.heap.size+1+1,q,none⟩ (.bool true)).setCell ⟨w.heap.size+1+1,r,none⟩ (.bool true)=Ws at HM c7 a7 g1 J;have b5:Hid (Ws.drew.heap[w.heap.size+1]? =_):=g1;have c0:Hid (Ws.drew.heap[w.heap.size+1+1]? =_):=J;have d4:=aj a7.out.drew;clear hl HM c7 g1 J;go_enter func39,ntmps39;go_wp2;go_region;clear d2 d1 z0 z1 z2 z3 z4 z5 z6 hc hf e0 e5;generalize Ws.drew=Wd at b5 c0 d4⊢;obtain⟨⟨y0,y1,y2,y3,y4⟩,-⟩:=fG c0.out;obtain⟨⟨x0,x1,x2,x3,x4⟩,f0,f1,f2,f3,f4⟩:=fG b5.out;obtain⟨Wf,d3,g3,a8⟩:=tH b5.out d4.out (by omega) (.bool U) (.bool Z) (.bool b2) (.bool b3) (.bool b4);obtain⟨⟨t0,t1,t2,t3,t4⟩,-⟩:=fG g3;clear g3;go_wp2;exact bodyPost_ret (v:=.agg #[.bool U,.bool Z,.bool b2,.bool b3,.bool b4]) (by simp[results,results39,go_sem,t0,t1,t2,t3,t4]) rfl ⟨by rw[<-HU.out];rfl,a8⟩
 have c3:op=1\/op=2:=by omega
 have HU:=aj (aht (n:=⟨op,var,gV,wd,wd2,num,cf⟩) c3);have f9:cf.length<=5:=(hr.2.2.2.2.2.2 c3).1;have d5:Hid (nzK cf 0=Ya):=by show _=_;unfold nzK;simp;rfl
 have e6:(op==1)=true\/((op==1)=false/\(op==2)=true):=by
  rcases c3 with h|h
  ·exact .inl (by simp[h])
  ·exact .inr ⟨by simp[h],by simp[h]⟩
 simp only at HU;have e7:=aj (λk=>ahr cf k);have e8:=aj (λk=>ahs cf k);have e9:Hid (tT W3 (w.heap.size+1+1) (nzK cf 0)):=by show tT _ _ _;rw[d5.out];exact a1.out
 clear hr b7 hop a2 h5 h3 h4 c3 d5;rcases e6 with e1|⟨e1,e2⟩
 all_goals
  go_enter func39,ntmps39;go_wp2;clear d1 z0 z1 z2 z3 z4 z5 z6;go_loopw[14] (λiv wx=> ∃k:Nat,k<=cf.length/\iv=.int .i64 k/\tT wx (w.heap.size+1) Ya/\tT wx (w.heap.size+1+1) (nzK cf k)/\Below w.heap.size w wx) (λiv _=>cf.length-(intOf iv).toNat);case atStart=>exact⟨0,by omega,rfl,a6.out,e9.out,HB.out⟩
  case round=>
   obtain⟨k,hk,rfl,g1,J,hb⟩:=hrel;have f5:=aj hb;have b5:=aj g1;have c0:=aj J;by_cases f6:k<cf.length
   ·have d8:(k:Int)<(cf.length:Int):=by omega
    have g4:(k:Int)<5:=(by omega);obtain⟨bo,oo,rfl,hc⟩:=bH (aF HS.out hb) k f6;obtain⟨hd,hf⟩:=wM J (k:=k) (by rw[e7.out];omega);have c8:=aj (e8.out k);rw[<-aiH]at c8;clear g1 J hb;generalize cf.getD k 0=z at hc c8;generalize(nzK cf k).getD k false=y at hd;go_wp2;go_roundw;case rel=>exact⟨k+1,by omega,by go_num,by show _=_;rw[Below.heap_setCell _ _ _ _ (show w.heap.size+1≠w.heap.size+1+1 by omega)];exact b5.out,by rw[<-c8.out];exact EF c0.out k _,f5.out.setCell (show w.heap.size<=w.heap.size+1+1 by omega) _⟩
    case measure=>simp[intOf];omega
   ·have d8: ¬(k:Int)<(cf.length:Int):=by omega
    obtain rfl:k=cf.length:=(by omega);rw[HU.out]at J;obtain⟨U,Z,b2,b3,b4,hl,c9,d6⟩:=b6.out _ _ g1 J (aeM _);have f7:=aj hl;obtain⟨⟨y0,y1,y2,y3,y4⟩,-⟩:=fG d6;obtain⟨⟨x0,x1,x2,x3,x4⟩,f0,f1,f2,f3,f4⟩:=fG c9;obtain⟨Wf,d3,g3,a8⟩:=tH c9 hb (by omega) (.bool U) (.bool Z) (.bool b2) (.bool b3) (.bool b4);obtain⟨⟨t0,t1,t2,t3,t4⟩,-⟩:=fG g3;clear g3 g1 J c9 d6 hl hb;go_wp2;exact bodyPost_ret (v:=.agg #[.bool U,.bool Z,.bool b2,.bool b3,.bool b4]) (by simp[results,results39,go_sem,t0,t1,t2,t3,t4]) rfl ⟨by rw[f7.out];rfl,a8⟩
structure Pv where
 c:Int
 N:zL
 E:zB
def nO(c:Int):Pv:=⟨c,[],[]⟩
def gX(b t:Int)(p:Pv):Pv:=⟨KF 4 b t p.N p.E p.N.length,Qx 4 b t p.N p.E p.N.length,Qy 4 b t p.N p.E p.N.length⟩
def iU(b t:Int)(k:Nat)(p:Pv):Pv:=⟨sN b t p.N p.E p.N.length (k:Int),Cc b t p.N p.E p.N.length (k:Int),FN b t p.N p.E p.N.length (k:Int)⟩
def gI(p:Pv)(f:Pv->Pv):Pv:=if p.c=0 then f p else nO p.c
def eX(b:Int)(ws:List Om)(n:Nd):Pv:=
 if n.op=1\/n.op=2 then⟨rW b ((aT (.gH n)).map λv=>n.cf.getD v.toNat 0) n.num (decide (n.op=2)),KG b ((aT (.gH n)).map λv=>n.cf.getD v.toNat 0) n.num (decide (n.op=2)),KH b ((aT (.gH n)).map λv=>n.cf.getD v.toNat 0) n.num (decide (n.op=2))⟩
 else if n.op=3 then⟨Eb (ws.getD n.wd.toNat dh).b (ws.getD n.wd.toNat dh).N (ws.getD n.wd.toNat dh).O n.num,WU (ws.getD n.wd.toNat dh).b (ws.getD n.wd.toNat dh).N (ws.getD n.wd.toNat dh).O n.num,WV (ws.getD n.wd.toNat dh).b (ws.getD n.wd.toNat dh).N (ws.getD n.wd.toNat dh).O n.num⟩
 else if n.var>n.gV then⟨Bt b (ws.getD n.wd2.toNat dh).N (ws.getD n.wd2.toNat dh).O b (ws.getD n.wd.toNat dh).N (ws.getD n.wd.toNat dh).O,tL b (ws.getD n.wd2.toNat dh).N (ws.getD n.wd2.toNat dh).O b (ws.getD n.wd.toNat dh).N (ws.getD n.wd.toNat dh).O,tN b (ws.getD n.wd2.toNat dh).N (ws.getD n.wd2.toNat dh).O b (ws.getD n.wd.toNat dh).N (ws.getD n.wd.toNat dh).O⟩
 else if n.var=n.gV then⟨FT b (ws.getD n.wd.toNat dh).N (ws.getD n.wd.toNat dh).O b (ws.getD n.wd2.toNat dh).N (ws.getD n.wd2.toNat dh).O,Ac b (ws.getD n.wd.toNat dh).N (ws.getD n.wd.toNat dh).O b (ws.getD n.wd2.toNat dh).N (ws.getD n.wd2.toNat dh).O,Ad b (ws.getD n.wd.toNat dh).N (ws.getD n.wd.toNat dh).O b (ws.getD n.wd2.toNat dh).N (ws.getD n.wd2.toNat dh).O⟩
 else⟨Bt b (ws.getD n.wd.toNat dh).N (ws.getD n.wd.toNat dh).O b (ws.getD n.wd2.toNat dh).N (ws.getD n.wd2.toNat dh).O,tL b (ws.getD n.wd.toNat dh).N (ws.getD n.wd.toNat dh).O b (ws.getD n.wd2.toNat dh).N (ws.getD n.wd2.toNat dh).O,tN b (ws.getD n.wd.toNat dh).N (ws.getD n.wd.toNat dh).O b (ws.getD n.wd2.toNat dh).N (ws.getD n.wd2.toNat dh).O⟩
def Ck(b:Int)(n:Nd)(f:Fm)(p:Pv):Pv:=
 if n.op=5 then gX b ((aT f).length:Int) p
 else if f.jd n.var=true then
  (if n.op=9 then gI (gX b ((aT f).length:Int) p) λq=>gI (iU b ((aT f).length:Int) (fq (aT f) n.var) q) λr=>gX b ((aT f).length-1:Int) r
   else iU b ((aT f).length:Int) (fq (aT f) n.var) p)
 else p
def lI(b:Int)(n:Nd)(vs own more:zI)(p q:Pv):Pv:=⟨joC b vs.length (decide (n.op=7)) (Dp b vs own) (Dp b vs more) p.N q.N p.E q.E,joN b vs.length (decide (n.op=7)) (Dp b vs own) (Dp b vs more) p.N q.N p.E q.E,joE b vs.length (decide (n.op=7)) (Dp b vs own) (Dp b vs more) p.N q.N p.E q.E⟩
def lN(b:Int)(ws:List Om):Fm->Pv
 |.gH n=>if aU b ((aT (.gH n)).length:Int)=0 then eX b ws n else nO 3
 |.un n f=>if aU b ((aT (.un n f)).length:Int)=0 then gI (lN b ws f) (Ck b n f)else nO 3
 |.bin n f g=>if aU b ((aT (.bin n f g)).length:Int)=0 then gI (lN b ws f) λp=>gI (lN b ws g) λq=>lI b n (aT (.bin n f g)) (aT f) (aT g) p q else nO 3
theorem yj{own:zI}(h2:b<=6)(hm:pw (au b) own.length=(m:Int)): ∀l,l<(aD b (vs.length:Int)).toNat->0<=(Dp b vs own).getD l 0/\(Dp b vs own).getD l 0<(m:Int):=λl J=>by
 have h:=DC b h2 vs.length (dR vs own) (aD b (vs.length:Int)).toNat m (by unfold dR;rw[List.length_map];exact hm);have hlen:=Ay b vs.length (dR vs own) (aD b (vs.length:Int)).toNat;have z:l<(Dp b vs own).length:=by unfold Dp;rw[hlen];exact J
 have e:(Dp b vs own).getD l 0=(Dp b vs own)[l]:=by simp[List.getD,z]
 rw[e];exact h _ (List.getElem_mem z)
def mZ(b:Int)(t:Nat)(p:Pv):Prop:=p.c=0->jA b (t:Int) (λw=>gP p.N p.E w) (aD b (t:Int)).toNat p.N p.E
theorem Xo(h:jA b t L m N E):jA b t (λw=>gP N E w) m N E:=⟨h.auto,h.len,h.good,h.many,h.least,λ_ _=>rfl⟩
theorem Xp{t:Nat}{c:Int}(h:c≠0):mZ b t (nO c):=λh0=>absurd h0 h
theorem Ct{t:Nat}{p:Pv}{f:Pv->Pv}(h:p.c=0->mZ b t (f p)):mZ b t (gI p f):=by
 unfold gI;by_cases h0:p.c=0
 ·rw[yP h0];exact h h0
 ·rw[yN h0];exact Xp h0
theorem Cu{t:Nat}{p:Pv}:mZ b t (gX b (t:Int) p):=λh=>by have h1:=WE (show KF 4 b (t:Int) p.N p.E p.N.length=0 from h);exact⟨h1.auto,h1.len,h1.good,h1.many,h1.least,λ_ _=>rfl⟩
theorem Gx{b:Int}{t k:Nat}{p:Pv}:mZ b t (iU b ((t:Int)+1) k p):=λh=>by
 have h:sN b ((t:Int)+1) p.N p.E p.N.length (k:Int)=0:=h;obtain⟨U,-⟩:=xR h;obtain⟨Z,-⟩:=uJ U;obtain⟨tr,J,m,mu,e1,e2,-,H⟩:=Gp p.E Z;obtain rfl:t=tr:=by omega
 obtain rfl:k=J:=by omega
 obtain⟨a1,a2,a3⟩:=abX H h;have a4:=acv H h;have z:(aD b (t:Int)).toNat=mu:=by rw[H.fU];simp
 show jA b (t:Int) _ _ (Cc b ((t:Int)+1) p.N p.E p.N.length (k:Int)) (FN b ((t:Int)+1) p.N p.E p.N.length (k:Int));rw[z];exact⟨a1,a2,a3,z,a4,λ_ _=>rfl⟩
theorem Gy{f:Fm}(h:n.op=5):aT (.un n f)=aT f:=by
 unfold aT;apply List.filter_congr;intro v _;have hu:dI n v=false:=by unfold dI;rw[yN (by omega)];simp;omega
 show(if(n.op=8\/n.op=9)/\n.var=v then false else dI n v||f.jd v)=_;rw[yN (by omega),hu,Bool.false_or]
theorem qH{f:Fm}(h:n.op=8\/n.op=9):aT (.un n f)=(aT f).filter λv=>decide (v≠n.var):=by
 unfold aT;rw[List.filter_filter];apply List.filter_congr;intro v _;have hu:dI n v=false:=by unfold dI;rw[yN (by omega)];simp;omega
 show(if(n.op=8\/n.op=9)/\n.var=v then false else dI n v||f.jd v)=_;by_cases e:n.var=v
 ·rw[yP ⟨h,e⟩];simp[e]
 ·rw[yN (λz=>e z.2),hu,Bool.false_or];have J: ¬v=n.var:=λz=>e z.symm;simp[J]
theorem AQ(t:Fm):(aT t).Nodup:=List.Nodup.sublist List.filter_sublist (by decide)
theorem Jm: ∀{l:zI} {x:Int},l.Nodup->x∈l->(l.filter λv=>decide (v≠x)).length+1=l.length:=by
 intro l x;induction l with
 |nil=>intro _ h;cases h
 |cons y l U=>
  intro z hx
  rw[List.nodup_cons]at z
  by_cases e:y=x
  ·subst e
   have Z:(l.filter λv=>decide (v≠y))=l:=List.filter_eq_self.2 (λv hv=>by have:v≠y:=λq=>z.1 (q▸hv);simp[this])
   rw[List.filter_cons_of_neg (by simp),Z]
   rfl
  ·rw[List.filter_cons_of_pos (by simp[e])]
   have J:x∈l:=by
    rcases List.mem_cons.1 hx with h|h
    ·exact absurd h.symm e
    ·exact h
   have:=U z.2 J
   simp only[List.length_cons]
   omega
theorem uS{l:zI}(h: ¬x∈l):(l.filter λv=>decide (v≠x))=l:=List.filter_eq_self.2 (λv hv=>by have:v≠x:=λq=>h (q▸hv);simp[this])
theorem ajU{f:Fm}{p:Pv}(h5:n.op=5\/n.op=8\/n.op=9)(hv:n.op=8\/n.op=9->0<=n.var/\n.var<5)(hp:mZ b (aT f).length p):mZ b (aT (.un n f)).length (Ck b n f p):=by
 unfold Ck;by_cases h:n.op=5
 ·rw[yP h,Gy h];exact Cu
 ·rw[yN h]
  have J:n.op=8\/n.op=9:=by omega
  rw[qH J];by_cases z:f.jd n.var=true
  ·rw[yP z]
   have hm:n.var∈aT f:=(fK f n.var).2 ⟨hv J,z⟩;have U:=Jm (AQ f) hm;generalize((aT f).filter λv=>decide (v≠n.var)).length=t at U⊢;rw[<-U,show((t+1:Nat):Int)=(t:Int)+1 by omega];by_cases Z:n.op=9
   ·rw[yP Z];refine Ct λ_=>Ct λ_=>?_;rw[show(t:Int)+1-1=(t:Int)by omega];exact Cu
   ·rw[yN Z];exact Gx
  ·rw[yN z];have hm: ¬n.var∈aT f:=λh=>z ((fK f n.var).1 h).2;rw[uS hm];exact hp
theorem acU{own:zI}{p q:Pv}(Z:aU b (vs.length:Int)=0)(hp:mZ b own.length p)(hq:mZ b more.length q)(h0:p.c=0)(h1:q.c=0):mZ b vs.length (lI b n vs own more p q):=λh=>by have hA:=hp h0;have hB:=hq h1;obtain⟨-,z,-⟩:=bA Z;have J:=(bS hA.auto).1;have U:=(bS hB.auto).1;have ma:=(bA J).2.2.2.2.2;have mb:=(bA U).2.2.2.2.2;have a1:=(fQ J).1;have a2:=(fQ U).1;rw[Int.toNat_natCast]at ma mb;exact Xo (Xb hA hB Z (yj z (by omega)) (yj z (by omega)) (decide (n.op=7)) h)
theorem acV(h:n.op=3)(hv:0<=n.var/\n.var<5):(aT (.gH n)).length=1:=by
 have hu: ∀v,(Fm.gH n).jd v=decide (n.var=v):=λv=>by show(if(n.op=8\/n.op=9)/\n.var=v then false else dI n v)=_;rw[yN (by omega)];unfold dI;rw[yN (by omega)];simp[h]
 unfold aT;rw[List.filter_congr (λv _=>hu v)];obtain⟨q,J⟩: ∃q:Nat,n.var=(q:Int):=⟨n.var.toNat,by omega⟩;rw[J]at hv⊢;have z: ∀q:Fin 5,(([0,1,2,3,4]:zI).filter λv=>decide (((q.val:Nat):Int)=v)).length=1:=by decide+kernel
 exact z ⟨q,by omega⟩
theorem QW(h:n.op=4)(hv:0<=n.var/\n.var<5)(J:0<=n.gV/\n.gV<5):(aT (.gH n)).length=if n.var=n.gV then 1 else 2:=by
 have hu: ∀v,(Fm.gH n).jd v=(decide (n.var=v)||decide (n.gV=v)):=λv=>by show(if(n.op=8\/n.op=9)/\n.var=v then false else dI n v)=_;rw[yN (by omega)];unfold dI;rw[yN (by omega)];simp[h]
 unfold aT;rw[List.filter_congr (λv _=>hu v)];obtain⟨q,U⟩: ∃q:Nat,n.var=(q:Int):=⟨n.var.toNat,by omega⟩;obtain⟨r,Z⟩: ∃r:Nat,n.gV=(r:Int):=⟨n.gV.toNat,by omega⟩;rw[U]at hv⊢;rw[Z]at J⊢;have z: ∀q r:Fin 5,(([0,1,2,3,4]:zI).filter λv=>(decide (((q.val:Nat):Int)=v)||decide (((r.val:Nat):Int)=v))).length=if((q.val:Nat):Int)=((r.val:Nat):Int)then 1 else 2:=by decide+kernel
 exact z ⟨q,by omega⟩ ⟨r,by omega⟩
theorem Xq{t:Nat}(h:jA b (t:Int) L m N E):jA b (t:Int) (λw=>gP N E w) (aD b (t:Int)).toNat N E:=by rw[h.many];exact Xo h
theorem agv(a1:qo n=0)(h4:n.op=1\/n.op=2\/n.op=3\/n.op=4)(a2:n.op=3->(ws.getD n.wd.toNat dh).b=b):mZ b (aT (.gH n)).length (eX b ws n):=by
 obtain⟨U,-⟩:=dH a1;unfold eX;by_cases h1:n.op=1\/n.op=2
 ·rw[yP h1];intro h;have z:=WK h;have hlen:((aT (.gH n)).map λv=>n.cf.getD v.toNat 0).length=(aT (.gH n)).length:=List.length_map _;simp only[];generalize((aT (.gH n)).map λv=>n.cf.getD v.toNat 0)=C at z hlen⊢;rw[<-hlen];exact⟨z.auto,z.len,z.good,rfl,z.least,λ_ _=>rfl⟩
 ·rw[yN h1]
  by_cases h3:n.op=3
  ·rw[yP h3,acV h3 (U.2.1 (.inl h3)),a2 h3];intro h;exact Xq (WW h)
  ·rw[yN h3]
   have Z:n.op=4:=(by omega);rw[QW Z (U.2.1 (.inr (.inl Z))) (U.2.2.1 Z)];by_cases hg:n.var>n.gV
   ·rw[yP hg,yN (by omega)];intro h;exact Xq (zw h)
   ·rw[yN hg]
    by_cases J:n.var=n.gV
    ·rw[yP J,yP J];intro h;exact Xq (Ja h)
    ·rw[yN J,yN J];intro h;exact Xq (zw h)
def atB(b:Int)(ws:List Om):Fm->Prop
 |.gH n=>(n.op=3\/n.op=4->(ws.getD n.wd.toNat dh).b=b)/\(n.op=4->(ws.getD n.wd2.toNat dh).b=b)
 |.un _ f=>atB b ws f
 |.bin _ f g=>atB b ws f/\atB b ws g
theorem qI(h1:1<=op/\op<=9)(h:gQ op=0):op=1\/op=2\/op=3\/op=4:=by
 unfold gQ at h;by_cases q:op=5\/op=8\/op=9
 ·rw[yP q]at h;omega
 ·rw[yN q]at h
  by_cases z:op=6\/op=7
  ·rw[yP z]at h;omega
  ·omega
theorem uT(h:gQ op=1):op=5\/op=8\/op=9:=by
 unfold gQ at h;by_cases q:op=5\/op=8\/op=9
 ·exact q
 ·rw[yN q]at h;split at h<;>omega
theorem Eh: ∀(t:Fm),t.ok->atB b ws t->mZ b (aT t).length (lN b ws t):=by
 intro t;induction t with
 |gH n=>
  intro z J
  unfold lN
  split
  ·exact agv z.1 (qI (dH z.1).1.1 z.2) (λh=>J.1 (.inl h))
  ·exact Xp (by decide)
 |un n f ih=>
  intro z J
  obtain⟨U,hp,Z⟩:=z
  unfold lN
  split
  ·refine Ct λ_=>ajU (uT hp) (λh=>(dH U).1.2.1 (.inr (.inr h))) (ih Z J)
  ·exact Xp (by decide)
 |bin n f g a1 a2=>
  intro z J
  obtain⟨U,hp,Z,hg⟩:=z
  unfold lN
  split
  ·rename_i hM
   exact Ct λh0=>Ct λh1=>acU hM (a1 Z J.1) (a2 hg J.2) h0 h1
  ·exact Xp (by decide)
theorem ahT(J:aU b t=0)(hm:(aD b t).toNat=m)(z:fB m N E)(n80:N.length<=80):jA b t (λw=>gP N E w) m N E:=by obtain⟨h1,h2,h3⟩:=uD z;exact⟨rD J (by rw[hm];exact z.good) n80,z.len,z.good,hm,⟨h1,h2⟩,λ_ _=>rfl⟩
def prD(A R:zL)(z s l:Nat):Nat:=mV A (s/z) l*z+mV R (s%z) l
theorem Mc{p r z:Nat}(h:r<z):(p*z+r)/z=p/\(p*z+r)%z=r:=by
 have h0:0<z:=by omega
 constructor
 ·rw[Nat.add_comm,Nat.add_mul_div_right _ _ h0,Nat.div_eq_of_lt h,Nat.zero_add]
 ·rw[Nat.add_comm,Nat.add_mul_mod_self_right,Nat.mod_eq_of_lt h]
theorem aiE{A:zL}{z:Nat}(U:aK m z R)(w:zI):fA m w->bR R w<z/\fZ (prD A R z) 0 w=bR A w*z+bR R w:=by
 induction w using bB with
 |h0=>exact λJ=>⟨jr U [] J,by simp[fZ,bR]⟩
 |h1 w x ih=>
  intro J
  obtain⟨Z,a1⟩:=gG.1 J
  obtain⟨i1,i2⟩:=ih Z
  obtain⟨p1,p2⟩:=Mc (p:=bR A w) i1
  refine⟨jr U _ J,?_⟩
  rw[jV,i2,dF,dF]
  unfold prD
  rw[p1,p2]
  rfl
structure Uw (b t:Int) (m:Nat) (R:zL) (RE:zB):Prop where
 code:aU b t=0
 many:(aD b t).toNat=m
 n:iE b t=R
 e:nM b t=RE
theorem Md(h:Uw b t m R RE):aK m R.length R/\ ∀w,fA m w->gP R RE w=dU b t w:=by have z:=kF h.code;rw[h.many,h.n,h.e]at z;exact⟨z.good,z.lang⟩
theorem acW(hb:b≠1)(hc:aU b t=0)(hm:(aD b t).toNat=m)(Z:fB m R RE)(h1: ∀w,fA m w->gP R RE w=true):Uw b t m R RE:=by have z:=kF hc;rw[hm]at z;obtain⟨-,-,ht,-⟩:=bA hc;have U:=BQ z.good Z (E:=nM b t) (λw J=>by rw[z.lang w J,h1 w J];have h:=zq (b:=b) (t:=t) (tr:=t.toNat) (by omega) w;rw[wh hb]at h;exact h.symm);exact⟨hc,hm,z.least.1.symm.trans U.1,z.least.2.symm.trans U.2⟩
theorem agw(hc:aU b ((0:Nat):Int)=0)(hm:(aD b ((0:Nat):Int)).toNat=m)(Z:fB m R RE)(h1: ∀w,fA m w->gP R RE w=true):Uw b ((0:Nat):Int) m R RE:=by have z:=kF hc;rw[hm]at z;have U:=BQ z.good Z (E:=nM b ((0:Nat):Int)) (λw J=>by rw[z.lang w J,h1 w J];rfl);exact⟨hc,hm,z.least.1.symm.trans U.1,z.least.2.symm.trans U.2⟩
theorem acX(hG:aK m R.length R)(U:R.length=1)(z:RE.getD 0 false=true)(w:zI)(J:fA m w):gP R RE w=true:=by have:=jr hG w J;unfold gP;rw[show bR R w=0 by omega];exact z
theorem Xr(z:Uw b t m R RE)(hN:fB m N E)(n80:N.length<=80)(U:fB m B EB)(Z:B.length<=80)(hs:PY (prD N R R.length) 0 (λs=>!(E.getD (s/R.length) false)&&RE.getD (s%R.length) false) V I Ts B EB=true):gX b t ⟨0,N,E⟩=⟨0,B,EB⟩:=by obtain⟨hG,hL⟩:=Md z;have hA:bP b t N N.length=0:=rD z.code (by rw[z.many];exact hN.good) n80;obtain⟨o1,o2,o3⟩:=uD U;have h:=ajP (how:=4) (b:=b) (t:=t) (N:=N) (E:=E) (k:=N.length) (by decide) hA (MN:=B) (ME:=EB) (by rw[z.many];exact U.good) Z (by rw[z.many];exact⟨o1,o2⟩) (λw J=>by rw[z.many]at J;obtain⟨q1,q2⟩:=aiE (A:=N) hG w J;obtain⟨p1,p2⟩:=Mc (p:=bR N w) q1;rw[<-Nr U.good hs w J,q2,p1,p2,Qz,<-hL w J];rfl);unfold gX;rw[h.1,h.2.1,h.2.2]
def orR(row:zI):zI->Nat->Nat
 |[],a=>a
 |l::z,a=>orR row z (a|||(1 <<<(row.getD l.toNat 0).toNat))
def QX(M:Nat)(z:zI):Nat->zL->Nat->Nat
 |_,[],a=>a
 |i,r::N,a=>QX M z (i+1) N (cond (M.testBit i) (orR r z a) a)
def dQ(N:zL)(Rd:zL)(M l:Nat):Nat:=QX M (Rd.getD l []) 0 N 0
theorem Xt(row:zI)(t:Nat): ∀(z:zI) (a:Nat),(orR row z a).testBit t=true↔a.testBit t=true\/ ∃l∈z,(row.getD l.toNat 0).toNat=t
 |[],a=>by simp[orR]
 |l::z,a=>by
  unfold orR;rw[Xt row t z,Nat.testBit_or,Nat.one_shiftLeft,Nat.testBit_two_pow];simp only[Bool.or_eq_true,decide_eq_true_eq,List.mem_cons,exists_eq_or_imp];constructor
  ·rintro((h|h)|h)
   ·exact .inl h
   ·exact .inr (.inl h)
   ·exact .inr (.inr h)
  ·rintro(h|h|h)
   ·exact .inl (.inl h)
   ·exact .inl (.inr h)
   ·exact .inr h
theorem Me(M:Nat)(z:zI)(t:Nat): ∀(N:zL) (i a:Nat),(QX M z i N a).testBit t=true↔a.testBit t=true\/ ∃k,k<N.length/\M.testBit (i+k)=true/\ ∃l∈z,((N.getD k []).getD l.toNat 0).toNat=t
 |[],i,a=>by simp[QX]
 |r::N,i,a=>by
  unfold QX;rw[Me M z t N]
  have e:(cond (M.testBit i) (orR r z a) a).testBit t=true↔a.testBit t=true\/(M.testBit i=true/\ ∃l∈z,(r.getD l.toNat 0).toNat=t):=by
   cases h:M.testBit i with
   |true=>rw[cond_true,Xt];simp
   |false=>rw[cond_false];simp
  rw[e];constructor
  ·rintro((h|⟨h1,h2⟩)|⟨k,k1,k2,J⟩)
   ·exact .inl h
   ·exact .inr ⟨0,by simp,h1,h2⟩
   ·exact .inr ⟨k+1,by simpa using k1,by rw[show i+(k+1)=i+1+k by omega];exact k2,by simpa using J⟩
  ·rintro(h|⟨k,k1,k2,J⟩)
   ·exact .inl (.inl h)
   ·cases k with
    |zero=>exact .inl (.inr ⟨k2,by simpa using J⟩)
    |succ k=>exact .inr ⟨k,by simpa using k1,by rw[show i+1+k=i+(k+1)by omega];exact k2,by simpa using J⟩
theorem ajV(hG:aK m N.length N)(hr: ∀l,∀x∈Rd.getD l [],0<=x/\x<(m:Int))(M l:Nat):dM N N.length Rd M l=dQ N Rd M l:=by
 apply Nat.eq_of_testBit_eq;intro t;rw[Bool.eq_iff_iff];unfold dM dQ;rw[jW,Me];simp only[Nat.zero_testBit,Bool.false_eq_true,false_or,Nat.zero_add];constructor
 ·rintro⟨-,s,z,Z,x,J,U⟩;exact⟨s,z,Z,x,J,U⟩
 ·rintro⟨s,z,Z,x,J,U⟩;have:=(lV hG s z x (hr l x J)).1;exact⟨by rw[<-U];exact this,s,z,Z,x,J,U⟩
theorem acY{d z:Nat->Nat->Nat}(h: ∀M l,d M l=z M l):d=z:=funext λM=>funext λl=>h M l
theorem N7{mu f:Nat}(hM:aU b t=0)(hm:(aD b t).toNat=m)(a2:(aD b (t-1)).toNat=mu)(hk:(k:Int)<t)(hN:fB m N E)(n80:N.length<=80)(J:fB mu B EB)(b1:B.length<=80)(U:smR b t (k:Int)=Rd)(hlen:Rd.length=mu)(a6:(Rd.all λr=>r.all λx=>decide (0<=x)&&decide (x<(m:Int)))=true)(hf:kI N N.length (Rd.getD 0 [])=f)(Z:Ts.length<=2000)(hs:PY (dQ N Rd) f (vM N.length E) V I Ts B EB=true):iU b t k ⟨0,N,E⟩=⟨0,B,EB⟩:=by
 obtain⟨n1,n2,n3⟩:=uD hN
 have hr: ∀l,∀x∈Rd.getD l [],0<=x/\x<(m:Int):=λl x hx=>by
  rw[List.all_eq_true]at a6;by_cases hl:l<Rd.length
  ·have h:=a6 (Rd.getD l []) (by
    have e:Rd.getD l []=Rd[l]:=(by simp[List.getD,hl]);rw[e];exact List.getElem_mem _)
   rw[List.all_eq_true]at h
   simpa using h x hx
  ·rw[show Rd.getD l []=[]by simp[List.getD,List.getElem?_eq_none (Nat.le_of_not_lt hl)]]at hx;cases hx
 have hd:dM N N.length Rd=dQ N Rd:=acY λM l=>ajV hN.good hr M l;have hA:bP b t N N.length=0:=rD hM (by rw[hm];exact hN.good) n80;have hF:Ww b t N N.length (k:Int)=0:=by unfold Ww;rw[yP hA,yP ⟨by omega,hk⟩]
 have hL:Ny b t (k:Int) N E=aM (dQ N Rd) mu f 2000:=by unfold Ny jy;rw[hm,n1,n3,U,hd,hlen,hf]
 have hc:(aM (dQ N Rd) mu f 2000).length<=2000:=Nat.le_trans (YI J.good hs 2000) Z;have hp:=nA (dQ N Rd) mu f 2000;have a7:mX b t (k:Int) N E=gN (dQ N Rd) mu (aM (dQ N Rd) mu f 2000):=by unfold mX Cb jy;rw[hm,n1,n3,U,hd,hlen,hf]
 have b0:oZ b t (k:Int) N E=gE (vM N.length E) (aM (dQ N Rd) mu f 2000):=by unfold oZ FM jy;rw[hm,n1,n2,n3,U,hd,hlen,hf]
 have a8:=kP hc;have z:=sH a8 hp.1 (by omega) J.good.2.2.2.2.1 J.good.2.2.2.1;have a1: ∀w,fA mu w->gP (mX b t (k:Int) N E) (oZ b t (k:Int) N E) w=gP B EB w:=λw hw=>by rw[a7,b0,Ic a8 hp.1 w hw,hp.2,Nr J.good hs w hw]
 rw[<-a7]at z;obtain⟨l1,l2⟩:=BQ z J a1;have hS:IG b t N E N.length (k:Int)=0:=by unfold IG;rw[yP hF,hL,yN (by omega)]
 have hC:sN b t N E N.length (k:Int)=0:=by unfold sN;rw[yP hS,a2,yN];rw[<-aZ,l1];omega
 unfold iU;simp only[];rw[hC];unfold Cc FN;rw[yP hC,yP hC,a2,l1,l2]
theorem aiF{own:zI}{ma mb:Nat}{U N2:zL}{E1 E2:zB}{X Y:zI}{or:Bool}(z:Uw b (vs.length:Int) m R RE)(Z:aU b (own.length:Int)=0)(a6:(aD b (own.length:Int)).toNat=ma)(a1:aU b (more.length:Int)=0)(a7:(aD b (more.length:Int)).toNat=mb)(h1:fB ma U E1)(n1:U.length<=80)(h2:fB mb N2 E2)(n2:N2.length<=80)(hB:fB m B EB)(a8:B.length<=80)(b0:decide (n.op=7)=or)(hX:Dp b vs own=X)(hY:Dp b vs more=Y)(hs:PY (jnD U N2 R X Y) 0 (jnF or N2 R E1 E2 RE) V I Ts B EB=true):lI b n vs own more ⟨0,U,E1⟩ ⟨0,N2,E2⟩=⟨0,B,EB⟩:=by
 have w1:=ahT Z a6 h1 n1;have w2:=ahT a1 a7 h2 n2;obtain⟨b1,a2,-⟩:=bA z.code;have k1:=(bA Z).2.2.2.2.2;have k2:=(bA a1).2.2.2.2.2;have l1:=(fQ Z).1;have l2:=(fQ a1).1;rw[Int.toNat_natCast]at k1 k2;have x1: ∀l,l<(aD b (vs.length:Int)).toNat->0<=X.getD l 0/\X.getD l 0<(ma:Int):=by rw[<-hX];exact yj a2 (by omega)
 have x2: ∀l,l<(aD b (vs.length:Int)).toNat->0<=Y.getD l 0/\Y.getD l 0<(mb:Int):=by rw[<-hY];exact yj a2 (by omega)
 have hj:=Xa w1 w2 z.code x1 x2;rw[z.many,z.n]at hj;have J: ∀w,fA m w->gP B EB w=IZ b (vs.length:Int).toNat or X Y (λw=>gP U E1 w) (λw=>gP N2 E2 w) w:=λw hw=>by obtain⟨r1,r2,r3,e⟩:=Uo hj w hw;obtain⟨q1,q2,q3⟩:=DZ r1 r2 r3;rw[<-Nr hB.good hs w hw,e];unfold jnF IZ;rw[q1,q2,q3,Int.toNat_natCast,<-(Md z).2 w hw];rfl
 rw[Int.toNat_natCast]at J;obtain⟨s1,s2⟩:=Xc w1 w2 z.code x1 x2 or (N:=B) (E:=EB) (by rw[z.many];exact hB.good) (by rw[z.many];exact J);obtain⟨o1,o2,o3⟩:=uD hB;rw[z.many,o3,yP a8]at s1;obtain⟨s3,s4⟩:=s2 s1;rw[z.many,o1]at s3;rw[z.many,o2]at s4;unfold lI;simp only[];rw[b0,hX,hY,s1,s3,s4]
theorem Xu{C:zI}{c:Int}{less:Bool}(U:Dn b C c=0)(hm:jH b C=m)(z:fB m B EB)(Z:B.length<=80)(hs:PY (Xn b C c less) 1506816 (λs=>Cn c less (bZ s)) V I Ts B EB=true):rW b C c less=0/\KG b C c less=B/\KH b C c less=EB:=by obtain⟨o1,o2,o3⟩:=uD z;refine ajQ U (by rw[hm];exact z.good) Z (by rw[hm];exact⟨o1,o2⟩) (λw J=>?_);have h:=Ma (NZ U less w J).1;rw[hm]at J;rw[<-h,<-Nr z.good hs w J]
structure AU (b:Int) (ws:List Om) (f:Fm) (t m:Nat) (N:zL) (E:zB):Prop where
 is:lN b ws f=⟨0,N,E⟩
 free:(aT f).length=t
 code:aU b (t:Int)=0
 many:(aD b (t:Int)).toNat=m
 least:fB m N E
 n80:N.length<=80
section
variable {b:Int} {ws:List Om} {n:Nd} {t m:Nat} {N:zL} {E:zB}
theorem Xv(hop:n.op=1\/n.op=2){C:zI}(z:((aT (.gH n)).map λv=>n.cf.getD v.toNat 0)=C)(Z:C.length=t)(J:aU b (t:Int)=0)(hm:(aD b (t:Int)).toNat=m)(hN:fB m N E)(n80:N.length<=80)(h:rW b C n.num (decide (n.op=2))=0/\KG b C n.num (decide (n.op=2))=N/\KH b C n.num (decide (n.op=2))=E):AU b ws (.gH n) t m N E:=by
 have U:(aT (.gH n)).length=t:=by rw[<-Z,<-z,List.length_map]
 refine⟨?_,U,J,hm,hN,n80⟩;unfold lN;rw[yP (by rw[U];exact J)];unfold eX;rw[yP hop,z,h.1,h.2.1,h.2.2]
variable {f g:Fm}
theorem QY(hop:n.op=8){z m1 k:Nat}{J:zL}{U:zB}(Z:AU b ws f z m1 J U)(a1:f.jd n.var=true)(hk:fq (aT f) n.var=k)(hl:(aT (.un n f)).length=t)(hM:aU b (t:Int)=0)(hm:(aD b (t:Int)).toNat=m)(hN:fB m N E)(n80:N.length<=80)(h:iU b (z:Int) k ⟨0,J,U⟩=⟨0,N,E⟩):AU b ws (.un n f) t m N E:=by refine⟨?_,hl,hM,hm,hN,n80⟩;unfold lN;rw[yP (by rw[hl];exact hM),Z.is];unfold gI Ck;rw[yP rfl,yN (by omega),yP a1,yN (by omega),Z.free,hk,h]
theorem agx(hop:n.op=9){z m1 k:Nat}{J N2 U:zL}{Z E2 E3:zB}(hf:AU b ws f z m1 J Z)(a1:f.jd n.var=true)(hk:fq (aT f) n.var=k)(hl:(aT (.un n f)).length=t)(ht:z=t+1)(hM:aU b (t:Int)=0)(hm:(aD b (t:Int)).toNat=m)(hN:fB m N E)(n80:N.length<=80)(h1:gX b (z:Int) ⟨0,J,Z⟩=⟨0,N2,E2⟩)(h2:iU b (z:Int) k ⟨0,N2,E2⟩=⟨0,U,E3⟩)(h3:gX b (t:Int) ⟨0,U,E3⟩=⟨0,N,E⟩):AU b ws (.un n f) t m N E:=by refine⟨?_,hl,hM,hm,hN,n80⟩;unfold lN;rw[yP (by rw[hl];exact hM),hf.is];unfold gI Ck;rw[yP rfl,yN (by omega),yP a1,yP hop,hf.free,hk,h1];unfold gI;dsimp only;rw[yP rfl,h2,yP rfl,show(z:Int)-1=(t:Int)by omega,h3]
theorem agy{t1 m1 t2 m2:Nat}{U N2:zL}{Z E2:zB}(hf:AU b ws f t1 m1 U Z)(hg:AU b ws g t2 m2 N2 E2){vs own more:zI}(z:aT (.bin n f g)=vs)(hown:aT f=own)(J:aT g=more)(hl:vs.length=t)(hM:aU b (t:Int)=0)(hm:(aD b (t:Int)).toNat=m)(hN:fB m N E)(n80:N.length<=80)(h:lI b n vs own more ⟨0,U,Z⟩ ⟨0,N2,E2⟩=⟨0,N,E⟩):AU b ws (.bin n f g) t m N E:=by refine⟨?_,by rw[z];exact hl,hM,hm,hN,n80⟩;unfold lN;rw[yP (by rw[z,hl];exact hM),hf.is];unfold gI;dsimp only;rw[yP rfl,hg.is,yP rfl,z,hown,J,h]
end
def iN(b:Int)(L:Nat)(D:Int->zI)(vs:zI):zI:=nQ b L (vs.map D)
def yx(b:Int)(D:Int->zI):Prop:= ∀v,∀x∈D v,0<=x/\x<au b
theorem agE(h2:b<=6){d:zI}(z: ∀x∈d,0<=x/\x<au b)(L p:Nat):0<=gD L p d/\gD L p d<au b:=by
 have J:=dA b h2;unfold gD;split
 ·by_cases h:p+d.length-L<d.length
  ·have e:d.getD (p+d.length-L) 0=d[p+d.length-L]:=by simp[List.getD,h]
   rw[e];exact z _ (List.getElem_mem h)
  ·rw[show d.getD (p+d.length-L) 0=0 by simp[List.getD,List.getElem?_eq_none (Nat.le_of_not_lt h)]];omega
 ·omega
theorem Oa(h2:b<=6)(z:yx b D)(L p:Nat)(vs:zI): ∀j,j<((vs.map D).map (gD L p)).length->0<=((vs.map D).map (gD L p)).getD j 0/\((vs.map D).map (gD L p)).getD j 0<au b:=λj J=>by
 have e:((vs.map D).map (gD L p)).getD j 0=((vs.map D).map (gD L p))[j]:=by simp only[List.getD,List.getElem?_eq_getElem J,Option.getD_some]
 rw[e,List.getElem_map,List.getElem_map];exact agE h2 (z _) L p
theorem ada(h2:b<=6)(z:yx b D)(L p:Nat)(vs:zI):0<=iw b L (vs.map D) p/\iw b L (vs.map D) p<pw (au b) vs.length:=by have:=Gm b h2 ((vs.map D).map (gD L p)) (Oa h2 z L p vs);simp only[List.length_map]at this;exact this
theorem wu(h2:b<=6)(z:yx b D)(L:Nat)(vs:zI)(J:aU b (vs.length:Int)=0):fA (aD b (vs.length:Int)).toNat (iN b L D vs):=λx hx=>by unfold iN nQ at hx;obtain⟨p,-,rfl⟩:=List.mem_map.1 hx;have h:=ada h2 z L p vs;have hm:=(bA J).2.2.2.2.2;rw[Int.toNat_natCast]at hm;omega
theorem adb(h2:b<=6)(hD:yx b D)(L p:Nat){own:zI}(z: ∀x∈own,x∈vs):fF b (iL b vs.length (dR vs own) (iw b L (vs.map D) p))=iw b L (own.map D) p:=by
 have J: ∀x∈own,pW b vs.length (iw b L (vs.map D) p) (fq vs x)=gD L p (D x):=λx hx=>by
  have hv:=z x hx;have U:=kG hv;have Z:=Ig b h2 ((vs.map D).map (gD L p)) (Oa h2 hD L p vs) (fq vs x) (by simpa using U);have e:((vs.map D).map (gD L p)).getD (fq vs x) 0=gD L p (D (vs.getD (fq vs x) 0)):=by simp[List.getD,U]
  rw[e,Ci hv]at Z;rw[<-Z];simp only[List.length_map];rfl
 have h1:iL b vs.length (dR vs own) (iw b L (vs.map D) p)=(own.map D).map (gD L p):=by unfold iL dR;rw[List.map_map,List.map_map];apply List.map_congr_left;intro x hx;have:=J x hx;simpa using this
 rw[h1];rfl
theorem ade(h2:b<=6)(z:yx b D)(L:Nat){own:zI}(J: ∀x∈own,x∈vs)(U:aU b (vs.length:Int)=0):rV (Dp b vs own) (iN b L D vs)=iN b L D own:=by unfold rV iN nQ;rw[List.map_map];apply List.map_congr_left;intro p _;have h:=ada h2 z L p vs;have hm:=(bA U).2.2.2.2.2;rw[Int.toNat_natCast]at hm;show(Dp b vs own).getD (iw b L (vs.map D) p).toNat 0=_;unfold Dp;rw[Il b vs.length (dR vs own) h.1 (by omega)];exact adb h2 z L p J
theorem qJ(h2:b<=6)(J: ∀v,gZ b (D v)=true){L:Nat}(U: ∀v,(D v).length<=L)(vs:zI)(i:Nat)(hi:i<vs.length):bT b vs.length (iN b L D vs) i=xL L (D (vs.getD i 0)):=by have h:=TM b h2 L (vs.map D) (λd z=>by obtain⟨v,-,rfl⟩:=List.mem_map.1 z;exact J v) (λd z=>by obtain⟨v,-,rfl⟩:=List.mem_map.1 z;exact U v) i (by simpa using hi);rw[List.length_map]at h;unfold iN;rw[h];congr 1;simp[List.getD,hi]
theorem qK(h2:b<=6)(z: ∀v,gZ b (D v)=true){L:Nat}(J: ∀v,(D v).length<=L)(U: ∀v,iF b (D v)=true)(vs:zI):dU b (vs.length:Int) (iN b L D vs)=true:=by unfold dU BS;rw[Int.toNat_natCast,List.all_map,List.all_eq_true];intro i hi;rw[List.mem_range]at hi;simp only[Function.comp_apply];rw[qJ h2 z J vs i hi,TL];exact U _
theorem Zx(x:Bool):xG 4 x true= !x:=by cases x<;>decide
def Mh:Fm->Prop
 |.gH _=>True
 |.un n f=>n.op=5/\Mh f
 |.bin _ f g=>Mh f/\Mh g
theorem agF{f g:Fm}(h:n.op=6\/n.op=7):(∀x∈aT f,x∈aT (.bin n f g))/\ ∀x∈aT g,x∈aT (.bin n f g):=by
 have hu: ∀v,(Fm.bin n f g).jd v=(f.jd v||g.jd v):=λv=>by
  have hu:dI n v=false:=by unfold dI;rw[yN (by omega)];simp;omega
  show(if(n.op=8\/n.op=9)/\n.var=v then false else dI n v||f.jd v||g.jd v)=_;rw[yN (by omega),hu,Bool.false_or]
 refine⟨λx hx=>?_,λx hx=>?_⟩
 ·obtain⟨h1,h2⟩:=(fK f x).1 hx;exact(fK _ x).2 ⟨h1,by rw[hu,h2,Bool.true_or]⟩
 ·obtain⟨h1,h2⟩:=(fK g x).1 hx;exact(fK _ x).2 ⟨h1,by rw[hu,h2,Bool.or_true]⟩
theorem Cy(h:gQ op=2):op=6\/op=7:=by
 unfold gQ at h;by_cases q:op=5\/op=8\/op=9
 ·rw[yP q]at h;omega
 ·rw[yN q]at h;split at h<;>omega
theorem pI{p:Pv}{f:Pv->Pv}(h:(gI p f).c=0):p.c=0/\gI p f=f p:=by
 unfold gI at h⊢;by_cases h0:p.c=0
 ·rw[yP h0];exact⟨h0,rfl⟩
 ·rw[yN h0]at h;exact absurd h h0
theorem oF(b:Int)(L:Nat)(D:Int->zI)(vs:zI):(iN b L D vs).length=L:=by simp[iN,nQ]
section
variable {b:Int} {e:Int->Int} {L:Nat} {vs:zI}
end
theorem Zy(C:zI)(f:Nat->Int): ∀k,iH C f k=((List.range k).map λi=>C.getD i 0*f i).sum:=by
 intro k;induction k with
 |zero=>rfl
 |succ k z=>rw[iH,z,List.range_succ,List.map_append,List.sum_append];simp
theorem agG(g e:Int->Int)(l:zI):iH (l.map g) (λi=>(l.map e).getD i 0) (l.map g).length=(l.map λv=>g v*e v).sum:=by
 rw[Zy,List.length_map];congr 1;apply List.ext_getElem
 ·simp
 ·intro i h1 h2;simp only[List.length_map]at h2;simp[List.getD,h2]
theorem Jp(h:Int->Int)(p:Int->Bool): ∀l:zI,(∀v∈l,p v=false->h v=0)->((l.filter p).map h).sum=(l.map h).sum:=by
 intro l;induction l with
 |nil=>intro _;rfl
 |cons x l U=>
  intro z
  have J:=U (λv hv=>z v (List.mem_cons_of_mem _ hv))
  by_cases e:p x=true
  ·rw[List.filter_cons_of_pos e,List.map_cons,List.map_cons,List.sum_cons,List.sum_cons,J]
  ·have Z:p x=false:=by simpa using e
   rw[List.filter_cons_of_neg e,List.map_cons,List.sum_cons,J,z x (by simp) Z]
   omega
theorem adf(U:n.op=1\/n.op=2)(h5:n.cf.length<=5)(nums:zI):iH ((aT (.gH n)).map λv=>n.cf.getD v.toNat 0) (λi=>((aT (.gH n)).map λv=>nums.getD v.toNat 0).getD i 0) ((aT (.gH n)).map λv=>n.cf.getD v.toNat 0).length=iH n.cf (λi=>nums.getD i 0) n.cf.length:=by
 rw[agG (λv=>n.cf.getD v.toNat 0) (λv=>nums.getD v.toNat 0),Zn n.cf _ h5];unfold aT;rw[Jp]
 ·simp only[List.map_cons,List.map_nil,List.sum_cons,List.sum_nil];rw[show(0:Int).toNat=0 from rfl,show(1:Int).toNat=1 from rfl,show(2:Int).toNat=2 from rfl,show(3:Int).toNat=3 from rfl,show(4:Int).toNat=4 from rfl];omega
 ·intro v hv J
  have hu:(Fm.gH n).jd v=(decide (v<(n.cf.length:Int))&&decide (n.cf.getD v.toNat 0≠0)):=by show(if(n.op=8\/n.op=9)/\n.var=v then false else dI n v)=_;rw[yN (by omega)];unfold dI;rw[yP U]
  rw[hu]at J;by_cases z:n.cf.getD v.toNat 0=0
  ·rw[z,Int.zero_mul]
  ·have h1: ¬v<(n.cf.length:Int):=λh=>by
    rw[yT h,yT z]at J;cases J
   exact absurd (by simp[List.getD,List.getElem?_eq_none (show n.cf.length<=v.toNat by omega)]) z
theorem ahe{L:Nat}{v:Int}(z:(D v).length<=L):iN b L D [v]=xL L (D v):=by refine List.ext_getElem (by rw[oF,EU _ _ z]) λp h1 h2=>?_;have h3:=P6 L (D v) z p;rw[show(xL L (D v)).getD p 0=(xL L (D v))[p]by simp only[List.getD,List.getElem?_eq_getElem h2,Option.getD_some]]at h3;rw[h3];simp[iN,nQ,iw,fF]
theorem tq(h:n.op=3\/(n.op=4/\n.var=n.gV))(hv:0<=n.var/\n.var<5):aT (.gH n)=[n.var]:=by
 have hu: ∀v,(Fm.gH n).jd v=decide (n.var=v):=λv=>by
  show(if(n.op=8\/n.op=9)/\n.var=v then false else dI n v)=_;rw[yN (by omega)];unfold dI;rw[yN (by omega)];rcases h with h|⟨h,e⟩
  ·simp[h]
  ·simp[h,e]
 unfold aT;rw[List.filter_congr (λv _=>hu v)];obtain⟨q,J⟩: ∃q:Nat,n.var=(q:Int):=⟨n.var.toNat,by omega⟩;rw[J]at hv⊢;have z: ∀q:Fin 5,(([0,1,2,3,4]:zI).filter λv=>decide (((q.val:Nat):Int)=v))=[((q.val:Nat):Int)]:=by decide+kernel
 exact z ⟨q,by omega⟩
theorem Am(h:n.op=4)(hv:0<=n.var/\n.var<5)(U:0<=n.gV/\n.gV<5)(z:n.var≠n.gV):aT (.gH n)=if n.var>n.gV then[n.gV,n.var]else[n.var,n.gV]:=by
 have hu: ∀v,(Fm.gH n).jd v=(decide (n.var=v)||decide (n.gV=v)):=λv=>by show(if(n.op=8\/n.op=9)/\n.var=v then false else dI n v)=_;rw[yN (by omega)];unfold dI;rw[yN (by omega)];simp[h]
 unfold aT;rw[List.filter_congr (λv _=>hu v)];obtain⟨q,Z⟩: ∃q:Nat,n.var=(q:Int):=⟨n.var.toNat,by omega⟩;obtain⟨r,hr⟩: ∃r:Nat,n.gV=(r:Int):=⟨n.gV.toNat,by omega⟩;rw[Z]at hv z⊢;rw[hr]at U z⊢;have J: ∀q r:Fin 5,((q.val:Nat):Int)≠((r.val:Nat):Int)->(([0,1,2,3,4]:zI).filter λv=>(decide (((q.val:Nat):Int)=v)||decide (((r.val:Nat):Int)=v)))=if((q.val:Nat):Int)>((r.val:Nat):Int)then[((r.val:Nat):Int),((q.val:Nat):Int)]else[((q.val:Nat):Int),((r.val:Nat):Int)]:=by decide+kernel
 exact J ⟨q,by omega⟩ ⟨r,by omega⟩ z
section
variable {b:Int} {ws:List Om} {nums:zI} {L:Nat} {n:Nd}
end
structure vo (b:Int) (D:Int->zI):Prop where
 Yh: ∀v,gZ b (D v)=true
 right: ∀v,iF b (D v)=true
theorem vo.EI(h:vo b D):yx b D:=λv x hx=>by have z:=h.Yh v;unfold gZ at z;rw[List.all_eq_true]at z;simpa using z x hx
def nK(D:Int->zI)(x:Int)(d:zI):Int->zI:=λv=>if v=x then d else D v
theorem afh(h:vo b D){d:zI}(h1:gZ b d=true)(h2:iF b d=true):vo b (nK D x d):=⟨λv=>by unfold nK;split;exact h1;exact h.Yh v,λv=>by unfold nK;split;exact h2;exact h.right v⟩
def MZ(b:Int)(D:Int->zI):zI:=(List.range 5).map λi:Nat=>mo b (D (i:Int))
theorem Di(b:Int)(D:Int->zI){v:Int}(h:0<=v/\v<5):(MZ b D).getD v.toNat 0=mo b (D v):=by
 unfold MZ;have h1:v.toNat<5:=by omega
 have h2:((v.toNat:Nat):Int)=v:=by omega
 simp[List.getD,h1,h2]
def tJ(b:Int)(ws:List Om)(n:Nd)(D:Int->zI):Bool:=
 if n.op=1\/n.op=2 then jQ n.num (decide (n.op=2)) (iH n.cf (λi=>(MZ b D).getD i 0) n.cf.length)
 else if n.op=3 then decide (kR (ws.getD n.wd.toNat dh).N (ws.getD n.wd.toNat dh).O (bI (D n.var))=n.num)
 else decide (kR (ws.getD n.wd.toNat dh).N (ws.getD n.wd.toNat dh).O (bI (D n.var))=kR (ws.getD n.wd2.toNat dh).N (ws.getD n.wd2.toNat dh).O (bI (D n.gV)))
def Fm.sem(b:Int)(ws:List Om):Fm->(Int->zI)->Prop
 |.gH n,D=>tJ b ws n D=true
 |.un n f,D=>if n.op=5 then¬f.sem b ws D else if n.op=8 then∃d,gZ b d=true/\iF b d=true/\f.sem b ws (nK D n.var d)else∀d,gZ b d=true->iF b d=true->f.sem b ws (nK D n.var d)
 |.bin n f g,D=>if n.op=6 then f.sem b ws D/\g.sem b ws D else f.sem b ws D\/g.sem b ws D
theorem GR{f:Fm}(q:n.op=5):(Fm.un n f).sem b ws D↔ ¬f.sem b ws D:=by
 conv=>lhs;unfold Fm.sem
 rw[yP q]
theorem Dj{f:Fm}(q:n.op=8):(Fm.un n f).sem b ws D↔ ∃d,gZ b d=true/\iF b d=true/\f.sem b ws (nK D n.var d):=by
 conv=>lhs;unfold Fm.sem
 rw[yN (by omega),yP q]
theorem GU{f:Fm}(q:n.op=9):(Fm.un n f).sem b ws D↔ ∀d,gZ b d=true->iF b d=true->f.sem b ws (nK D n.var d):=by
 conv=>lhs;unfold Fm.sem
 rw[yN (by omega),yN (by omega)]
theorem VK(b:Int)(l:zI):mo b (0::l)=mo b l:=by show 0*_+mo b l=_;rw[Int.zero_mul,Int.zero_add]
theorem Kz(b:Int)(k:Nat)(l:zI):mo b (List.replicate k 0++l)=mo b l:=by
 induction k with
 |zero=>rfl
 |succ k z=>rw[List.replicate_succ,List.cons_append,VK,z]
theorem afi(b:Int)(L:Nat)(l:zI):mo b (xL L l)=mo b l:=Kz b _ l
theorem Bq(b:Int)(l:zI):mo b (bI l)=mo b l:=by
 obtain⟨j,h⟩:=Fg l;conv=>rhs;rw[h]
 rw[Kz]
theorem aaI{l m:zI}(h:bI l=bI m):mo b l=mo b m:=by rw[<-Bq,h,Bq]
theorem FE{C:zI}{f g:Nat->Int}(h: ∀i,i<k->C.getD i 0=0\/f i=g i):iH C f k=iH C g k:=by
 induction k with
 |zero=>rfl
 |succ k z=>
  unfold iH
  rw[z λi hi=>h i (by omega)]
  rcases h k (by omega)with e|e
  ·rw[e,Int.zero_mul,Int.zero_mul]
  ·rw[e]
theorem M0: ∀(t:Fm),t.ok-> ∀(D U:Int->zI),(∀v,0<=v->v<5->t.jd v=true->bI (D v)=bI (U v))->(t.sem b ws D↔t.sem b ws U):=by
 intro t;induction t with
 |gH n=>
  intro J D U h
  obtain⟨hr,hs⟩:=dH J.1
  have h4:=qI hr.1 J.2
  have hu: ∀v,(Fm.gH n).jd v=dI n v:=λv=>by show(if(n.op=8\/n.op=9)/\n.var=v then false else dI n v)=_;rw[yN (by omega)]
  show tJ b ws n D=true↔tJ b ws n U=true
  suffices e:tJ b ws n D=tJ b ws n U by rw[e]
  unfold tJ
  by_cases h1:n.op=1\/n.op=2
  ·rw[yP h1,yP h1]
   have h5:=(hr.2.2.2.2.2.2 h1).1
   congr 1
   refine FE λi hi=>?_
   by_cases z:n.cf.getD i 0=0
   ·exact .inl z
   ·right
    have h3:(Fm.gH n).jd (i:Int)=true:=by rw[hu];unfold dI;rw[yP h1,Bool.and_eq_true,decide_eq_true_iff,decide_eq_true_iff,Int.toNat_natCast];exact⟨by omega,z⟩
    have e1:=Di b D (v:=(i:Int)) ⟨by omega,by omega⟩
    have e2:=Di b U (v:=(i:Int)) ⟨by omega,by omega⟩
    rw[Int.toNat_natCast]at e1 e2
    rw[e1,e2]
    exact aaI (h _ (by omega) (by omega) h3)
  ·rw[yN h1,yN h1]
   by_cases h3:n.op=3
   ·rw[yP h3,yP h3]
    have hv:=hr.2.1 (.inl h3)
    rw[h n.var hv.1 hv.2 (by rw[hu];unfold dI;rw[yN h1];simp[h3])]
   ·rw[yN h3,yN h3]
    have e4:n.op=4:=by omega
    have hv:=hr.2.1 (.inr (.inl e4))
    have ho:=hr.2.2.1 e4
    rw[h n.var hv.1 hv.2 (by rw[hu];unfold dI;rw[yN h1];simp[e4]),h n.gV ho.1 ho.2 (by rw[hu];unfold dI;rw[yN h1];simp[e4])]
 |un n f ih=>
  intro J D U h
  obtain⟨hr,-⟩:=dH J.1
  have a1:=uT J.2.1
  have Z: ∀v,(Fm.un n f).jd v=if(n.op=8\/n.op=9)/\n.var=v then false else f.jd v:=λv=>by have hu:dI n v=false:=(by unfold dI;rw[yN (by omega)];simp;omega);show(if(n.op=8\/n.op=9)/\n.var=v then false else dI n v||f.jd v)=_;rw[hu,Bool.false_or]
  have hq:n.op=8\/n.op=9-> ∀d,(f.sem b ws (nK D n.var d)↔f.sem b ws (nK U n.var d)):=λa7 d=>ih J.2.2 _ _ λv h0 h5 hv=>by
   unfold nK;by_cases e:v=n.var
   ·rw[yP e,yP e]
   ·rw[yN e,yN e];exact h v h0 h5 (by rw[Z,yN (λhh=>e hh.2.symm)];exact hv)
  rcases a1 with q|q|q
  ·rw[GR q,GR q,ih J.2.2 D U λv h0 h5 hv=>h v h0 h5 (by rw[Z,yN (by omega)];exact hv)]
  ·rw[Dj q,Dj q]
   constructor
   ·rintro⟨d,d1,d2,d3⟩
    exact⟨d,d1,d2,(hq (.inl q) d).1 d3⟩
   ·rintro⟨d,d1,d2,d3⟩
    exact⟨d,d1,d2,(hq (.inl q) d).2 d3⟩
  ·rw[GU q,GU q]
   constructor
   ·intro hh d d1 d2
    exact(hq (.inr q) d).1 (hh d d1 d2)
   ·intro hh d d1 d2
    exact(hq (.inr q) d).2 (hh d d1 d2)
 |bin n f g a2 a6=>
  intro J D U h
  have a8:=Cy J.2.1
  have Z: ∀v,(Fm.bin n f g).jd v=(f.jd v||g.jd v):=λv=>by have hu:dI n v=false:=(by unfold dI;rw[yN (by omega)];simp;omega);show(if(n.op=8\/n.op=9)/\n.var=v then false else dI n v||f.jd v||g.jd v)=_;rw[yN (by omega),hu,Bool.false_or]
  have e1:=a2 J.2.2.1 D U λv h0 h5 hv=>h v h0 h5 (by rw[Z,hv];rfl)
  have e2:=a6 J.2.2.2 D U λv h0 h5 hv=>h v h0 h5 (by rw[Z,hv,Bool.or_true])
  unfold Fm.sem
  rw[e1,e2]
def EJ(b:Int)(vs:zI)(w:zI):Int->zI:=λv=>if v∈vs then bT b vs.length w (fq vs v)else[]
theorem Sy(b:Int)(vs:zI)(w:zI)(v:Int):(EJ b vs w v).length<=w.length:=by
 unfold EJ;split
 ·rw[oJ];exact zr
 ·exact Nat.zero_le _
theorem wQ(b:Int):iF b []=true:=by unfold iF iV;simp
theorem aaJ{n:Nat}(h:dU b (n:Int) w=true)(i:Nat)(hi:i<n):iF b (bT b n w i)=true:=by
 cases z:iF b (bT b n w i)with
 |true=>rfl
 |false=>
  rw[TJ hi z]at h
  cases h
theorem Yi(h2:b<=6)(h:dU b (vs.length:Int) w=true):vo b (EJ b vs w):=by
 refine⟨λv=>?_,λv=>?_⟩
 ·unfold EJ
  split
  ·exact Pk b h2 _ _ _
  ·rfl
 ·unfold EJ
  split
  ·rename_i hv;exact aaJ h _ (kG hv)
  ·exact wQ b
theorem afj(hn:vs.Nodup){i:Nat}(hi:i<vs.length):fq vs (vs.getD i 0)=i:=by
 have hm:vs.getD i 0∈vs:=by rw[aS _ i hi];exact List.getElem_mem _
 generalize z:vs.getD i 0=y at hm⊢;have h1:=kG hm;have h2:=Ci hm;rw[aS _ _ h1]at h2;rw[aS _ i hi]at z;have U:=List.pairwise_iff_getElem.1 hn;apply Classical.byContradiction;intro Z;rcases Nat.lt_or_gt_of_ne Z with J|J
 ·exact U _ _ h1 hi J (h2.trans z.symm)
 ·exact U _ _ hi h1 J (z.trans h2.symm)
theorem Yj(h2:b<=6)(U:vs.Nodup)(Z:aU b (vs.length:Int)=0)(hw:fA (aD b (vs.length:Int)).toNat w):iN b w.length (EJ b vs w) vs=w:=by
 have hm:=(bA Z).2.2.2.2.2;rw[Int.toNat_natCast]at hm;apply Bw
 ·exact oF _ _ _ _
 ·intro p z
  rw[oF]at z;have hx:=hw _ (show w.getD p 0∈w by rw[aS _ p z];exact List.getElem_mem _)
  have J:(vs.map (EJ b vs w)).map (gD w.length p)=bM b vs.length (w.getD p 0):=by
   apply Bw
   ·rw[List.length_map,List.length_map,bF]
   ·intro i hi;rw[List.length_map,List.length_map]at hi;have hv:vs.getD i 0∈vs:=(by rw[aS _ i hi];exact List.getElem_mem _);have e:((vs.map (EJ b vs w)).map (gD w.length p)).getD i 0=gD w.length p (EJ b vs w (vs.getD i 0)):=(by simp[List.getD,hi]);rw[e,lT _ _ _ _ hi];unfold EJ;rw[yP hv,afj U hi];unfold gD;rw[oJ,yP (by omega),show p+w.length-w.length=p by omega,He _ _ _ _ _ z]
  have e2:(iN b w.length (EJ b vs w) vs).getD p 0=fF b ((vs.map (EJ b vs w)).map (gD w.length p)):=by unfold iN nQ iw;simp[List.getD,z]
  rw[e2,J];exact Av b h2 _ _ hx.1 (by omega)
theorem VL(b:Int)(l:zI)(h: ∀x∈l,x=0):fF b l=0:=by
 unfold fF;induction l with
 |nil=>rfl
 |cons y l z=>
  rw[List.foldl_cons,h y (by simp),Int.zero_mul,Int.add_zero]
  exact z λx hx=>h x (by simp[hx])
theorem aaK(k:Nat)(l:zI)(p:Nat):(List.replicate k 0++l).getD p 0=if p<k then 0 else l.getD (p-k) 0:=by
 by_cases h:p<k
 ·rw[yP h,List.getD,List.getElem?_append_left (by simpa using h)];simp[h]
 ·rw[yN h,List.getD,List.getElem?_append_right (by simpa using Nat.le_of_not_lt h)];simp[List.getD]
theorem Sz{L:Nat}(U: ∀v,(D v).length<=L)(k:Nat):iN b (L+k) D vs=List.replicate k 0++iN b L D vs:=by
 apply Bw
 ·rw[oF,List.length_append,List.length_replicate,oF];omega
 ·intro p J
  rw[oF]at J;have e: ∀(M q:Nat),q<M->(iN b M D vs).getD q 0=iw b M (vs.map D) q:=λM q z=>by unfold iN nQ;simp[List.getD,z]
  rw[e _ _ J,aaK];by_cases h:p<k
  ·rw[yP h];unfold iw;refine VL b _ λx hx=>?_;obtain⟨d,Z,rfl⟩:=List.mem_map.1 hx;obtain⟨v,-,rfl⟩:=List.mem_map.1 Z;unfold gD;rw[yN (by have:=U v;omega)]
  ·rw[yN h,e _ _ (by omega)]
   unfold iw;congr 1;apply List.map_congr_left;intro d _;unfold gD;by_cases z:L+k<=p+d.length
   ·rw[yP z,yP (by omega),show p+d.length-(L+k)=p-k+d.length-L by omega]
   ·rw[yN z,yN (by omega)]
theorem aaL{z:Int->zI}{L:Nat}(h: ∀v∈vs,D v=z v):iN b L D vs=iN b L z vs:=by unfold iN;rw[List.map_congr_left h]
theorem EK{α β:Type}(f:α->β): ∀(l:List α) (k:Nat),(l.map f).eraseIdx k=(l.eraseIdx k).map f
 |[],_=>rfl
 |_::_,0=>rfl
 |a::l,k+1=>by rw[List.map_cons,List.eraseIdx_cons_succ,List.eraseIdx_cons_succ,List.map_cons,EK f l k]
theorem ahC(h2:b<=6)(z:yx b D)(J:vs.length=tr+1)(L k:Nat):(iN b L D vs).map (mY b tr k)=iN b L D (vs.eraseIdx k):=by
 unfold iN nQ;rw[List.map_map];apply List.map_congr_left;intro p _;show mY b tr k (iw b L (vs.map D) p)=iw b L ((vs.eraseIdx k).map D) p;unfold mY iw;have h:=Aw b h2 ((vs.map D).map (gD L p)) (Oa h2 z L p vs);have hlen:((vs.map D).map (gD L p)).length=tr+1:=by simp[J]
 rw[hlen]at h;rw[h,EK,EK]
theorem M4: ∀{vs:zI} {x:Int},vs.Nodup->x∈vs->vs.eraseIdx (fq vs x)=vs.filter λv=>decide (v≠x)
 |[],_,_,h=>by cases h
 |y::l,x,z,hm=>by
  rw[List.nodup_cons]at z;by_cases e:y=x
  ·subst e;have h0:fq (y::l) y=0:=(by simp[fq,List.findIdx_cons]);rw[h0,List.eraseIdx_cons_zero,List.filter_cons_of_neg (by simp)];exact(uS z.1).symm
  ·have J:x∈l:=by
    rcases List.mem_cons.1 hm with h|h
    ·exact absurd h.symm e
    ·exact h
   have h1:fq (y::l) x=fq l x+1:=by have:(y==x)=false:=(by simpa using e);simp[fq,List.findIdx_cons,this]
   rw[h1,List.eraseIdx_cons_succ,M4 z.2 J,List.filter_cons_of_pos (by simpa using e)]
theorem O8{n:Nat}(j:Nat)(w:zI):dU b (n:Int) (List.replicate j 0++w)=dU b (n:Int) w:=by
 have z: ∀i,bT b n (List.replicate j 0++w) i=List.replicate j 0++bT b n w i:=λi=>by unfold bT;rw[List.map_append];congr 1;rw[List.map_replicate];congr 1;unfold pW;simp
 unfold dU BS;rw[Int.toNat_natCast,List.all_map,List.all_map];congr 1;funext i;simp only[Function.comp_apply];rw[z];unfold iF;rw[Lm]
theorem KA(z:vs.Nodup)(hx:x∈vs)(J:vs.length=tr+1):(vs.filter λv=>decide (v≠x)).length=tr:=by have:=Jm z hx;omega
theorem aaM{mu:Nat}{F:(Int->zI)->Prop}(H:rC b tr k N E m mu)(hl:vs.length=tr+1)(hn:vs.Nodup)(hx:x∈vs)(hk:fq vs x=k)(hM:aU b (vs.length:Int)=0)(hc:sN b ((tr:Int)+1) N E N.length (k:Int)=0)(hF: ∀D L,vo b D->(∀v,(D v).length<=L)->(gP N E (iN b L D vs)=true↔F D))(hR: ∀u,fA m u->gP N E u=true->dU b (vs.length:Int) u=true)(hC: ∀D D':Int->zI,(∀v∈vs,bI (D v)=bI (D' v))->(F D↔F D')):
  (∀D L,vo b D->(∀v,(D v).length<=L)->(gP (Cc b ((tr:Int)+1) N E N.length (k:Int)) (FN b ((tr:Int)+1) N E N.length (k:Int)) (iN b L D (vs.filter λv=>decide (v≠x)))=true↔ ∃d,gZ b d=true/\iF b d=true/\F (nK D x d)))/\
  ∀w,fA mu w->gP (Cc b ((tr:Int)+1) N E N.length (k:Int)) (FN b ((tr:Int)+1) N E N.length (k:Int)) w=true->dU b (tr:Int) w=true:=by
 have h2:=H.base.2
 have hm:(aD b (vs.length:Int)).toNat=m:=by rw[hl];exact H.mU
 have a1:=KA hn hx hl
 have b1:aU b (((vs.filter λv=>decide (v≠x)).length:Nat):Int)=0:=by rw[a1];exact H.code
 have b2:(aD b (((vs.filter λv=>decide (v≠x)).length:Nat):Int)).toNat=mu:=by rw[a1,H.fU,Int.toNat_natCast]
 have J: ∀D,yx b D-> ∀L,(iN b L D vs).map (mY b tr k)=iN b L D (vs.filter λv=>decide (v≠x)):=λD hD L=>by rw[ahC h2 hD hl,<-hk,M4 hn hx]
 have b0: ∀v,v∈vs->v≠x->v∈vs.filter λv=>decide (v≠x):=λv hv b3=>List.mem_filter.2 ⟨hv,by simpa using b3⟩
 constructor
 ·intro D L hD hL
  have hw:fA mu (iN b L D (vs.filter λv=>decide (v≠x))):=by rw[<-b2];exact wu h2 hD.EI L _ b1
  rw[abW H hc hw,LD H hw]
  constructor
  ·rintro⟨u,hu,U,j,hj⟩
   have a2:=hR u hu U
   have z:=Yi h2 a2
   have Z:=Yj h2 hn hM (by rw[hm];exact hu)
   have a6:=Sy b vs u
   have b4:=(hF _ _ z a6).1 (by rw[Z];exact U)
   refine⟨EJ b vs u x,z.Yh x,z.right x,(hC _ _ λv hv=>?_).1 b4⟩
   unfold nK
   by_cases e:v=x
   ·subst e;rw[yP rfl]
   ·rw[yN e]
    have a7:=b0 v hv e
    have a8:=kG a7
    have h3:=J _ z.EI u.length
    rw[Z,hj,<-Sz hL]at h3
    have t1:=qJ h2 hD.Yh (L:=L+j) (λv=>by have:=hL v;omega) (vs.filter λv=>decide (v≠x)) _ a8
    have t2:=qJ h2 z.Yh a6 (vs.filter λv=>decide (v≠x)) _ a8
    rw[Ci a7]at t1 t2
    rw[h3,t2]at t1
    have t3:=congrArg bI t1
    unfold xL at t3
    rw[uF,uF]at t3
    exact t3
  ·rintro⟨d,b5,b6,b7⟩
   have hU:=afh hD (x:=x) b5 b6
   have b8: ∀v,(nK D x d v).length<=L+d.length:=λv=>by
    unfold nK;split
    ·omega
    ·have:=hL v;omega
   refine⟨iN b (L+d.length) (nK D x d) vs,by rw[<-hm];exact wu h2 hU.EI _ _ hM,(hF _ _ hU b8).2 b7,d.length,?_⟩
   rw[J _ hU.EI,<-Sz hL]
   refine aaL λv hv=>?_
   have:=(List.mem_filter.1 hv).2
   unfold nK
   rw[yN (by simpa using this)]
 ·intro w hw ht
  obtain⟨u,hu,U,j,hj⟩:=(LD H hw).1 ((abW H hc hw).1 ht)
  have a2:=hR u hu U
  have z:=Yi h2 a2
  have Z:=Yj h2 hn hM (by rw[hm];exact hu)
  have h3:=J _ z.EI u.length
  rw[Z,hj]at h3
  have hr:=qK h2 z.Yh (Sy b vs u) z.right (vs.filter λv=>decide (v≠x))
  rw[<-h3,a1,O8]at hr
  exact hr
structure yL (b:Int) (vs:zI) (p:Pv) (F:(Int->zI)->Prop):Prop where
 code:aU b (vs.length:Int)=0
 well:jA b (vs.length:Int) (λw=>gP p.N p.E w) (aD b (vs.length:Int)).toNat p.N p.E
 sem: ∀D L,vo b D->(∀v,(D v).length<=L)->(gP p.N p.E (iN b L D vs)=true↔F D)
 right: ∀u,fA (aD b (vs.length:Int)).toNat u->gP p.N p.E u=true->dU b (vs.length:Int) u=true
section
variable {b:Int} {ws:List Om}
theorem SA{D:Int->zI}{L:Nat}(h2:b<=6)(z:vo b D)(J: ∀v,(D v).length<=L)(N:zL)(O:zI)(N2:zL)(O2:zI)(v o:Int):Ai b N O N2 O2 (iN b L D [v,o])=decide (kR N O (bI (D v))=kR N2 O2 (bI (D o))):=by have t0:bT b 2 (iN b L D [v,o]) 0=xL L (D v):=qJ h2 z.Yh J [v,o] 0 (by decide:0<2);have U:bT b 2 (iN b L D [v,o]) 1=xL L (D o):=qJ h2 z.Yh J [v,o] 1 (by decide:1<2);have Z:dU b 2 (iN b L D [v,o])=true:=qK h2 z.Yh J z.right [v,o];unfold Ai;rw[Z,t0,U,Bool.true_and];unfold xL;rw[uF,uF]
theorem SB{D:Int->zI}{L:Nat}(h2:b<=6)(z:vo b D)(J: ∀v,(D v).length<=L)(v:Int):dU b 1 (iN b L D [v])=true/\bI (iN b L D [v])=bI (D v):=by refine⟨qK h2 z.Yh J z.right [v],?_⟩;rw[ahe (J v)];unfold xL;rw[uF]
theorem afk{n:Nd}(a2:qo n=0)(h4:n.op=1\/n.op=2\/n.op=3\/n.op=4)(a6:atB b ws (.gH n))(hM:aU b ((aT (.gH n)).length:Int)=0)(h:(eX b ws n).c=0):
  (∀D L,vo b D->(∀v,(D v).length<=L)->gP (eX b ws n).N (eX b ws n).E (iN b L D (aT (.gH n)))=tJ b ws n D)/\ ∀u,fA (aD b ((aT (.gH n)).length:Int)).toNat u->gP (eX b ws n).N (eX b ws n).E u=true->dU b ((aT (.gH n)).length:Int) u=true:=by
 obtain⟨hr,-⟩:=dH a2
 obtain⟨b1,Z,-⟩:=bA hM
 unfold eX at h⊢
 by_cases h1:n.op=1\/n.op=2
 ·rw[yP h1]at h⊢
  have hlen:((aT (.gH n)).map λv=>n.cf.getD v.toNat 0).length=(aT (.gH n)).length:=List.length_map _
  have U:=WK h
  constructor
  ·intro D L hD hL
   have a1:=wu Z hD.EI L (aT (.gH n)) hM
   have a7:=adf h1 (hr.2.2.2.2.2.2 h1).1 (MZ b D)
   have a8:=qK Z hD.Yh hL hD.right (aT (.gH n))
   have z:=U.lang _ (show fA (jH b ((aT (.gH n)).map λv=>n.cf.getD v.toNat 0)) _ by unfold jH;rw[hlen];exact a1)
   simp only[]
   rw[z]
   unfold sQ
   have e1:(nS b ((aT (.gH n)).map λv=>n.cf.getD v.toNat 0) (iN b L D (aT (.gH n)))).1=iH ((aT (.gH n)).map λv=>n.cf.getD v.toNat 0) (λi=>((aT (.gH n)).map λv=>(MZ b D).getD v.toNat 0).getD i 0) ((aT (.gH n)).map λv=>n.cf.getD v.toNat 0).length:=by rw[aaH];refine Kw λi hi=>?_;rw[hlen]at hi;have hv:(aT (.gH n)).getD i 0∈aT (.gH n):=(by rw[aS _ i hi];exact List.getElem_mem _);have hb:=((fK (.gH n) _).1 hv).1;rw[(ahB b _).1,hlen,qJ Z hD.Yh hL _ i hi,afi,<-Di b D hb];simp[List.getD,hi]
   rw[e1,a7,hlen,a8,Bool.true_and]
   unfold tJ
   rw[yP h1]
  ·intro u hu J
   have z:=U.lang u (by unfold jH;rw[hlen];exact hu)
   simp only[]at J
   rw[z]at J
   unfold sQ at J
   rw[Bool.and_eq_true,hlen]at J
   exact J.1
 ·rw[yN h1]at h⊢
  by_cases h3:n.op=3
  ·rw[yP h3]at h⊢
   have hv:=hr.2.1 (.inl h3)
   have hf:=tq (.inl h3) hv
   rw[hf]at hM⊢
   have b0:=a6.1 (.inl h3)
   simp only[]at h⊢
   rw[b0]at h⊢
   have U:=WW h
   have hm:=U.many
   constructor
   ·intro D L hD hL
    have a1:=wu Z hD.EI L [n.var] hM
    have z:=U.lang (iN b L D [n.var]) (by rw[<-hm];exact a1)
    obtain⟨o1,o2⟩:=SB Z hD hL n.var
    rw[z]
    unfold isL tJ
    rw[o1,o2,Bool.true_and,yN h1,yP h3]
   ·intro u hu J
    have z:=U.lang u (by rw[<-hm];exact hu)
    rw[z]at J
    unfold isL at J
    rw[Bool.and_eq_true]at J
    exact J.1
  ·rw[yN h3]at h⊢
   have e4:n.op=4:=by omega
   have hv:=hr.2.1 (.inr (.inl e4))
   have ho:=hr.2.2.1 e4
   have hH: ∀D,tJ b ws n D=decide (kR (ws.getD n.wd.toNat dh).N (ws.getD n.wd.toNat dh).O (bI (D n.var))=kR (ws.getD n.wd2.toNat dh).N (ws.getD n.wd2.toNat dh).O (bI (D n.gV))):=λD=>by unfold tJ;rw[yN h1,yN h3]
   by_cases hq:n.var=n.gV
   ·have hf:=tq (.inr ⟨e4,hq⟩) hv
    rw[hf]at hM⊢
    rw[yN (by omega),yP hq]at h⊢
    have U:=Ja h
    have hm:=U.many
    constructor
    ·intro D L hD hL
     have a1:=wu Z hD.EI L [n.var] hM
     have z:=U.lang (iN b L D [n.var]) (by rw[<-hm];exact a1)
     obtain⟨o1,o2⟩:=SB Z hD hL n.var
     simp only[]
     rw[z,hH]
     unfold xZ
     rw[o1,o2,Bool.true_and,<-hq]
    ·intro u hu J
     have z:=U.lang u (by rw[<-hm];exact hu)
     simp only[]at J
     rw[z]at J
     unfold xZ at J
     rw[Bool.and_eq_true]at J
     exact J.1
   ·have hf:=Am e4 hv ho hq
    by_cases hg:n.var>n.gV
    ·rw[yP hg]at hf h⊢
     rw[hf]at hM⊢
     have U:=zw h
     have hm:=U.many
     constructor
     ·intro D L hD hL
      have a1:=wu Z hD.EI L [n.gV,n.var] hM
      have z:=U.lang (iN b L D [n.gV,n.var]) (by rw[<-hm];exact a1)
      simp only[]
      rw[z,SA Z hD hL,hH]
      exact decide_eq_decide.2 eq_comm
     ·intro u hu J
      have z:=U.lang u (by rw[<-hm];exact hu)
      simp only[]at J
      rw[z]at J
      unfold Ai at J
      rw[Bool.and_eq_true]at J
      exact J.1
    ·rw[yN hg]at hf h⊢
     rw[yN hq]at h⊢
     rw[hf]at hM⊢
     have U:=zw h
     have hm:=U.many
     constructor
     ·intro D L hD hL
      have a1:=wu Z hD.EI L [n.var,n.gV] hM
      have z:=U.lang (iN b L D [n.var,n.gV]) (by rw[<-hm];exact a1)
      simp only[]
      rw[z,SA Z hD hL,hH]
     ·intro u hu J
      have z:=U.lang u (by rw[<-hm];exact hu)
      simp only[]at J
      rw[z]at J
      unfold Ai at J
      rw[Bool.and_eq_true]at J
      exact J.1
theorem Br{vs:zI}{p:Pv}{F:(Int->zI)->Prop}(h:yL b vs p F)(hc:(gX b (vs.length:Int) p).c=0):yL b vs (gX b (vs.length:Int) p) (λD=> ¬F D):=by
 obtain⟨-,h2,-⟩:=bA h.code;have Z:=WE (show KF 4 b (vs.length:Int) p.N p.E p.N.length=0 from hc);refine⟨h.code,Cu hc,λD L z hL=>?_,λu hu ht=>?_⟩
 ·have U:=Z.lang _ (wu h2 z.EI L vs h.code);show gP (Qx 4 b (vs.length:Int) p.N p.E p.N.length) (Qy 4 b (vs.length:Int) p.N p.E p.N.length) _=true↔_;rw[U,qK h2 z.Yh hL z.right,Zx,<-h.sem D L z hL];cases gP p.N p.E (iN b L D vs)<;>simp
 ·have U:=Z.lang u hu;have J:gP (Qx 4 b (vs.length:Int) p.N p.E p.N.length) (Qy 4 b (vs.length:Int) p.N p.E p.N.length) u=true:=ht;rw[U,Qz,Bool.and_eq_true]at J;exact J.2
theorem KC{vs:zI}{p:Pv}{F:(Int->zI)->Prop}{x:Int}(h:yL b vs p F)(hn:vs.Nodup)(hx:x∈vs)(hC: ∀D D':Int->zI,(∀v∈vs,bI (D v)=bI (D' v))->(F D↔F D'))(hc:(iU b (vs.length:Int) (fq vs x) p).c=0):
  yL b (vs.filter λv=>decide (v≠x)) (iU b (vs.length:Int) (fq vs x) p) (λD=> ∃d,gZ b d=true/\iF b d=true/\F (nK D x d)):=by
 have hl:=kG hx
 obtain⟨tr,J⟩: ∃tr,vs.length=tr+1:=⟨vs.length-1,by omega⟩
 have U:=KA hn hx J
 have Z:sN b ((tr:Int)+1) p.N p.E p.N.length ((fq vs x:Nat):Int)=0:=by have h0:=hc;unfold iU at h0;rw[J,show((tr+1:Nat):Int)=(tr:Int)+1 by omega]at h0;exact h0
 obtain⟨z,a2,m,mu,e1,e2,-,H⟩:=Gp p.E (uJ (xR Z).1).1
 obtain rfl:z=tr:=by omega
 obtain rfl:a2=fq vs x:=by omega
 have hm:(aD b (vs.length:Int)).toNat=m:=by rw[J];exact H.mU
 have a1:=aaM H J hn hx rfl h.code Z h.sem (by rw[<-hm];exact h.right) hC
 have ep:iU b (vs.length:Int) (fq vs x) p=⟨sN b ((z:Int)+1) p.N p.E p.N.length ((fq vs x:Nat):Int),Cc b ((z:Int)+1) p.N p.E p.N.length ((fq vs x:Nat):Int),FN b ((z:Int)+1) p.N p.E p.N.length ((fq vs x:Nat):Int)⟩:=by unfold iU;rw[J,show((z+1:Nat):Int)=(z:Int)+1 by omega]
 have a6:aU b (((vs.filter λv=>decide (v≠x)).length:Nat):Int)=0:=by rw[U];exact H.code
 refine⟨a6,?_,by rw[ep];exact a1.1,?_⟩
 ·have hw:=Gx (b:=b) (t:=z) (k:=fq vs x) (p:=p) (by rw[show((z:Int)+1)=((vs.length:Nat):Int)by omega];exact hc)
  rw[U]
  rw[show((z:Int)+1)=((vs.length:Nat):Int)by omega]at hw
  exact hw
 ·rw[ep,U]
  intro u hu ht
  rw[H.fU,Int.toNat_natCast]at hu
  exact a1.2 u hu ht
theorem Yk{vs own:zI}{D:Int->zI}{L:Nat}(h2:b<=6)(J:vo b D)(z: ∀x∈own,x∈vs)(U:aU b (vs.length:Int)=0):rV (Dp b vs own) (iN b L D vs)=iN b L D own:=ade h2 J.EI L z U
theorem aaN{vs own more:zI}{n:Nd}{p q:Pv}{F G:(Int->zI)->Prop}(J:aU b (vs.length:Int)=0)(a1:n.op=6\/n.op=7)(h1:yL b own p F)(h2:yL b more q G)(a2: ∀x∈own,x∈vs)(a6: ∀x∈more,x∈vs)(h0:p.c=0)(a7:q.c=0)(hc:(lI b n vs own more p q).c=0):
  yL b vs (lI b n vs own more p q) (λD=>if n.op=6 then F D/\G D else F D\/G D):=by
 obtain⟨-,z,-⟩:=bA J
 have ma:=(bA h1.code).2.2.2.2.2
 have mb:=(bA h2.code).2.2.2.2.2
 have a8:=(fQ h1.code).1
 have b0:=(fQ h2.code).1
 rw[Int.toNat_natCast]at ma mb
 have hw:=Xb h1.well h2.well J (yj z (by omega)) (yj z (by omega)) (decide (n.op=7)) (show joC b vs.length (decide (n.op=7)) (Dp b vs own) (Dp b vs more) p.N q.N p.E q.E=0 from hc)
 refine⟨J,acU J (λ_=>h1.well) (λ_=>h2.well) h0 a7 hc,λD L U hL=>?_,λu hu ht=>?_⟩
 ·have hl:=hw.lang _ (wu z U.EI L vs J)
  show gP (joN _ _ _ _ _ _ _ _ _) (joE _ _ _ _ _ _ _ _ _) _=true↔_
  rw[hl]
  unfold IZ
  rw[Yk z U a2 J,Yk z U a6 J,qK z U.Yh hL U.right,Bool.and_true,<-h1.sem D L U hL,<-h2.sem D L U hL]
  unfold jnT
  rcases a1 with e|e
  ·rw[yP e,yN (by simp[e]),Bool.and_eq_true]
  ·rw[yN (show¬n.op=6 by omega),yP (by simp[e]),Bool.or_eq_true]
 ·have hl:=hw.lang u hu
  have Z:gP (joN b vs.length (decide (n.op=7)) (Dp b vs own) (Dp b vs more) p.N q.N p.E q.E) (joE b vs.length (decide (n.op=7)) (Dp b vs own) (Dp b vs more) p.N q.N p.E q.E) u=true:=ht
  rw[hl]at Z
  unfold IZ at Z
  rw[Bool.and_eq_true]at Z
  exact Z.2
theorem zT{f:Fm}{x:Int}(z:f.ok)(hx:f.jd x=false)(D:Int->zI)(d:zI):f.sem b ws (nK D x d)↔f.sem b ws D:=M0 f z _ _ λv _ _ hv=>by unfold nK;rw[yN (λe=>by rw[e,hx]at hv;cases hv)]
theorem M5{f:Fm}(z:f.ok)(D J:Int->zI)(h: ∀v∈aT f,bI (D v)=bI (J v)):f.sem b ws D↔f.sem b ws J:=M0 f z _ _ λv h0 h5 hv=>h v ((fK f v).2 ⟨⟨h0,h5⟩,hv⟩)
theorem qP{vs:zI}{p:Pv}{F G:(Int->zI)->Prop}(h:yL b vs p F)(hi: ∀D,F D↔G D):yL b vs p G:=⟨h.code,h.well,λD L z J=>by rw[<-hi];exact h.sem D L z J,h.right⟩
theorem ahD: ∀(t:Fm),t.ok->atB b ws t->(lN b ws t).c=0->yL b (aT t) (lN b ws t) (t.sem b ws):=by
 intro t;induction t with
 |gH n=>
  intro z J h
  have hw:=Eh (.gH n) z J h
  unfold lN at h hw⊢
  split at h
  ·rename_i hM
   rw[yP hM]at hw⊢
   obtain⟨h1,h2⟩:=afk z.1 (qI (dH z.1).1.1 z.2) J hM h
   exact⟨hM,hw,λD L hD hL=>by rw[h1 D L hD hL];exact Iff.rfl,h2⟩
  ·cases h
 |un n f ih=>
  intro z J h
  obtain⟨a6,hp,U⟩:=z
  unfold lN at h⊢
  split at h
  ·rename_i hM
   rw[yP hM]
   obtain⟨h0,e⟩:=pI h
   rw[e]at h⊢
   have i1:=ih U J h0
   have a2:=AQ f
   unfold Ck at h⊢
   rcases uT hp with q|q|q
   ·rw[yP q]at h⊢
    rw[Gy q]
    exact qP (Br i1 h) (λD=>(GR q).symm)
   ·rw[yN (by omega)]at h⊢
    rw[qH (.inl q)]
    by_cases hx:f.jd n.var=true
    ·rw[yP hx,yN (by omega)]at h⊢
     have hm:n.var∈aT f:=(fK f _).2 ⟨(dH a6).1.2.1 (.inr (.inr (.inl q))),hx⟩
     exact qP (KC i1 a2 hm (λD D' Z=>M5 U D D' Z) h) (λD=>(Dj q).symm)
    ·have a1:f.jd n.var=false:=by simpa using hx
     rw[yN hx]at h⊢
     rw[uS (λhm=>hx ((fK f _).1 hm).2)]
     refine qP i1 (λD=>?_)
     rw[Dj q]
     constructor
     ·intro hs
      exact⟨[],rfl,wQ b,(zT U a1 D []).2 hs⟩
     ·rintro⟨d,-,-,Z⟩
      exact(zT U a1 D d).1 Z
   ·rw[yN (by omega)]at h⊢
    rw[qH (.inr q)]
    by_cases hx:f.jd n.var=true
    ·rw[yP hx,yP q]at h⊢
     have hm:n.var∈aT f:=(fK f _).2 ⟨(dH a6).1.2.1 (.inr (.inr (.inr q))),hx⟩
     obtain⟨h1,e1⟩:=pI h
     rw[e1]at h⊢
     obtain⟨h2,e2⟩:=pI h
     rw[e2]at h⊢
     have s1:=Br i1 h1
     have s2:=KC s1 a2 hm (λD D' Z=>by rw[M5 U D D' Z]) h2
     have hl:(((aT f).filter λv=>decide (v≠n.var)).length:Int)=((aT f).length:Int)-1:=by have:=Jm a2 hm;omega
     rw[<-hl]at h⊢
     refine qP (Br s2 h) (λD=>?_)
     rw[GU q]
     constructor
     ·intro hh d d1 d2
      exact Classical.byContradiction λZ=>hh ⟨d,d1,d2,Z⟩
     ·rintro hh ⟨d,d1,d2,Z⟩
      exact Z (hh d d1 d2)
    ·have a1:f.jd n.var=false:=by simpa using hx
     rw[yN hx]at h⊢
     rw[uS (λhm=>hx ((fK f _).1 hm).2)]
     refine qP i1 (λD=>?_)
     rw[GU q]
     constructor
     ·intro hs d _ _
      exact(zT U a1 D d).2 hs
     ·intro hh
      exact(zT U a1 D []).1 (hh [] rfl (wQ b))
  ·cases h
 |bin n f g a8 b0=>
  intro z J h
  obtain⟨a6,hp,U,hg⟩:=z
  unfold lN at h⊢
  split at h
  ·rename_i hM
   rw[yP hM]
   obtain⟨h0,e⟩:=pI h
   rw[e]at h⊢
   obtain⟨h1,e⟩:=pI h
   rw[e]at h⊢
   have a7:=Cy hp
   obtain⟨b1,b2⟩:=agF (f:=f) (g:=g) a7
   refine qP (aaN hM a7 (a8 U J.1 h0) (b0 hg J.2 h1) b1 b2 h0 h1 h) (λD=>?_)
   exact Iff.rfl
  ·cases h
end
end Go.Proofs.YtceojneljnnooaaGreat
