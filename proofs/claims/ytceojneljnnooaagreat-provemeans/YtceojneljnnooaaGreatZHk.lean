import Derived.Test.YtceojneljnnooaaGreatZHh
import Derived.Test.YtceojneljnnooaaGreatHe
import Derived.Shelf.Slices.Delete
open Go.Proofs.Tryz
namespace Go.Proofs.YtceojneljnnooaaGreat
open Go.RowKit
set_option maxHeartbeats 0
set_option maxRecDepth 100000
set_option linter.all false
variable{rows:Nat->zI}{vs:Nat->Value}{base mu:Nat}{W:zW}
def Mw(w:zW)(l:zI)(e:Ending)(w':zW):Prop:= ∃g,e=.returned (.slice (some ⟨g,0,none⟩) l.length l.length)/\w.heap.size<=g/\(w'.rowIs g 3 l.length λi=>.int .i64 (l.getD i 0))/\Below w.heap.size w w'
def Oi(w:zW)(l:zI)(e:Ending)(w':zW):Prop:= ∃g,e=.returned (.tuple #[.slice (some ⟨g,0,none⟩) l.length l.length,.nilIface])/\w.heap.size<=g/\(w'.rowIs g 3 l.length λi=>.int .i64 (l.getD i 0))/\Below w.heap.size w w'
theorem adE{b:Int}{n:Nat}{l:Int}{w wr:zW}(h:Pm b n l w n wr):Mw w (bM b n l) (.returned (.slice (some ⟨w.heap.size,0,none⟩) n n)) wr:=by refine⟨w.heap.size,by rw[bF],zr,?_,h.2⟩;rw[bF];exact h.1.congr λi hi=>by rw[yP (by omega),lT _ _ _ _ hi]
theorem ZH(b:Int)(n:Nat)(l:Int)(w:zW)(h1:1<=b)(h2:b<=6)(hn:n<=5)(hl:0<=l)(b8:l<=100000000):
  Calls prog 131 #[.int .i64 b,.int .i64 n,.int .i64 l] w (Mw w (bM b n l)):=by
 have hk:=dA b h2
 obtain⟨z,b1⟩:=hk
 have HK:=aj (λw=>mq b w h1 h2)
 have b9:=fO n (by omega)
 have HE:=aj (λwr=>@adE b n l w wr)
 have a1:=aj (λwr k m=>@KX b n l w wr k m)
 have a2:=aj (aa6 (au b) z l hl)
 have a6:=aj (Tg (au b) z l)
 have b2:(au b==0)=false:=by simp;omega
 have H0:Hid (Pm b n l w 0 (w.alloc (.cells (madeCells #[.int .i64 0] n) 3))):=by refine⟨(World.rowIs_made w (.int .i64 0) n 3).congr λp hp=>?_,zb.alloc zr _⟩;rw[yN (by omega)]
 have a7:Hid (l/pw (au b) 0=l):=by show _=_;simp[pw]
 go_enter func131,ntmps131
 go_wp2
 generalize w.alloc (.cells (madeCells #[.int .i64 0] n) 3)=W at H0⊢
 generalize au b=K at z b1 HK a1 a2 a6 b2 a7
 go_loopw[2,12] (λs i wx=> ∃k:Nat,k<=n/\i=.int .i64 k/\s=.int .i64 (l/pw K k)/\Pm b n l w k wx) (λ_ i _=>n-(intOf i).toNat)
 case atStart=>exact⟨0,by omega,rfl,by rw[a7.out],H0.out⟩
 case round=>
  obtain⟨k,hk,rfl,rfl,ho⟩:=hrel
  have U:=aj ho
  clear ho
  by_cases c0:k<n
  ·have b0:(k:Int)<(n:Int):=by omega
   obtain⟨m,hm⟩: ∃m,n=m+1+k:=⟨n-1-k,by omega⟩
   have HM:=aj hm
   have c3:(n:Int)-1-(k:Int)=(m:Int):=by omega
   have b3:m<n:=by omega
   clear hm
   have a8:=aj (a1.out wr k m U.out HM.out)
   have b4:=a2.out k
   obtain⟨b5,b6⟩:=b4
   have J:=aj (a6.out k)
   have Z:=U.out.1.cell b3
   have c4:=U.out.1.frozen m
   have b7:(m:Int)<(n:Int):=by omega
   generalize(Value.int IntKind.i64 (if n<=m+k then pW b n l m else 0))=c5 at Z
   generalize l/pw K k=q at b5 b6 J a8⊢
   go_wp2_with (go_at_call 34;refine(HK.out _).mono ?_;rintro e w' ⟨rfl,hw⟩;rw[hw];clear hw w')
   go_roundw
   case rel=>exact⟨k+1,by omega,by go_num,by rw[J.out],a8.out⟩
   case measure=>simp[intOf];omega
  ·have b0: ¬((k:Int)<(n:Int)):=by omega
   obtain rfl:k=n:=by omega
   go_wp2
   go_ret
   exact HE.out wr U.out
theorem UY(b:Int)(n:Nat)(l:Int)(w:zW)(h:Iq b n l=0):
  Calls prog 103 #[.int .i64 b,.int .i64 n,.int .i64 l] w (Oi w (bM b n l)):=by
 obtain⟨hM,a1,a2⟩:=Ir h
 obtain⟨h1,h2,h3,h4,h5,h6⟩:=bA hM
 have z:=aj (lU b n w)
 rw[hM,cB]at z
 have U:=aj (ZH b n l w h1 h2 (by omega) a1 (by omega))
 generalize aD b n=M at z a2 h6
 have b0:decide (M<=l)=false:=by simp;omega
 clear h hM h5 h6
 go_enter func103,ntmps103
 go_wp2_with (go_at_call 19;refine z.out.mono ?_;rintro e w' ⟨rfl,hw⟩;rw[hw];clear hw w')
 refine U.out.mono ?_
 rintro e w1 ⟨g1,rfl,a6,J,Z⟩
 rw[bF]at J⊢
 have a7:=aj J
 have a8:=aj Z
 clear J Z U
 go_wp2
 go_ret2
 exact⟨g1,by rw[bF];simp,a6,by rw[bF];exact a7.out,a8.out⟩
def aiN:Go.Shelf.Ren:=⟨fun|23=>65|n=>n,fun|0=>0|3=>3|4=>4|22=>24|n=>n,λn=>n⟩
theorem XB:Lays2.n23 prog aiN where
 mixed:=by kernel_rfl
 f23:=func65.trans (congrArg some (by kernel_rfl))
 t0:=underlying0
 a0:=isAgg0
 z0:=sizeOf0
 v0:=zeroValue0
 t3:=underlying3
 a3:=isAgg3
 z3:=sizeOf3
 v3:=zeroValue3
 t4:=underlying4
 a4:=isAgg4
 z4:=sizeOf4
 v4:=zeroValue4
 t22:=underlying24
 a22:=isAgg24
 z22:=sizeOf24
 v22:=zeroValue24
 i3:=by kernel_rfl
theorem Fx(d:zI)(i:Nat):d.take i++d.drop (i+1)=d.eraseIdx i:=(List.eraseIdx_eq_take_drop_succ d i).symm
def aiO(w:zW)(g n:Nat)(l:zI)(e:Ending)(w':zW):Prop:=e=.returned (.slice (some ⟨g,0,none⟩) l.length n)/\Sl w' (some ⟨g,0,none⟩) l.length l/\ ∀(J:zW) (z:Nat),z<=g->Below z J w->Below z J w'
theorem UZ(g n i:Nat)(d:zI)(w:zW)(hl:d.length=n)(hn:n<=1000)(hi:i<n)(a1: ∀x∈d,(Lit.int .i64 x).wf=true)(hr:w.rowIs g 3 n λj=>.int .i64 (d.getD j 0)):
  Calls prog 65 #[.slice (some ⟨g,0,none⟩) n n,.int .i64 (i:Int),.int .i64 ((i+1:Nat):Int)] w (aiO w g n (d.eraseIdx i)):=by
 subst hl
 have hH:Sort.Holds (Value.int .i64) w g 0 d.toArray:=by
  intro j U;have Z:j<d.length:=by simpa using U
  refine⟨?_,by rw[Nat.zero_add];exact hr.frozen j⟩;rw[Nat.zero_add,hr.cell Z];simp[List.getD,Z]
 have h:=Any.slices_Delete_int XB g 0 d.length i (i+1) d w hH zr (by omega) (by omega) (by omega)
 refine h.mono ?_
 rintro e w' ⟨rfl,q,rfl⟩
 have z:(d.eraseIdx i).length=d.length-1:=by rw[List.length_eraseIdx,yP hi]
 rw[Fx]
 obtain⟨ts,J⟩: ∃ts,ts=d.eraseIdx i++List.replicate (i+1-i) (0:Int):=⟨_,rfl⟩
 rw[<-J]
 have a2:ts.length=d.length:=by rw[J];simp[z];omega
 obtain⟨c,hc,a7,a8⟩:=hr
 have hO:=ownsRow_sortedI (w:=w) (base:=0) (g:=g) (cap:=d.length) (n:=q) (os:=#[]) (ss:=d) (ts:=ts) a2 (Nat.zero_le _) hc zr (by unfold maxLen;omega) (by omega)
 have hG:=grownBy_sortedI (w:=w) (g:=g) (n:=q) (os:=#[]) ts.toArray
 rw[zH]at hO hG
 have a6:g<w.heap.size:=(zG hc).1
 refine⟨by rw[z,show i+1-i=1 by omega],⟨rfl,by rw[z];unfold maxLen;omega,λx hx=>a1 x ((List.eraseIdx_sublist d i).subset hx),Or.inr ⟨g,0,rfl,λj U=>?_⟩⟩,λW0 b0 b1 hB=>?_⟩
 ·rw[Nat.zero_add,hO.cellAt j (by omega),J,List.map_append,List.getElem?_append_left (by simpa using U)]
  simp[List.getD,U]
 ·exact Below.grown hB hG (by omega) (λk hk=>by cases hk;omega)
structure KN (base g mu:Nat) (rows:Nat->zI) (W:zW) (vs:Nat->Value):Prop where
 row:W.rowIs g 24 mu vs
 own: ∀l,l<mu->W.ownsRow base 3 1 (vs l) (rows l).length ((rows l).map (Value.int .i64))
 far: ∀l,l<mu->(vs l).ownBlock≠some g
 apart: ∀l k x,l<mu->k<mu->(vs l).ownBlock=some x->(vs k).ownBlock=some x->l=k
theorem U0{g:Nat}{W':zW}(h:KN base g mu rows W vs)(hb:Below W.heap.size W W'):KN base g mu rows W' vs:=
 ⟨h.row.of_block (hb.block _ h.row.lt),λl z=>aX (h.own l z) λx hx=>hb.block x ((h.own l z).lt x hx).2,h.far,h.apart⟩
def agS(vs:Nat->Value)(l:Nat)(v:Value)(k:Nat):Value:=if k=l then v else vs k
def agT(rows:Nat->zI)(l:Nat)(x:Int)(k:Nat):zI:=if k=l then rows l++[x]else rows k
theorem ZI{base g mu:Nat}{rows:Nat->zI}{W w3:zW}{vs:Nat->Value}{l:Nat}{x:Int}{o:Obj}{z J:Nat}(h:KN base g mu rows W vs)(hl:l<mu)(hown:w3.ownsRow base 3 1 (.slice (some ⟨z,0,none⟩) ((rows l).length+1) J) ((rows l).length+1) ((rows l).map (Value.int .i64)++[.int .i64 x]))(Z:(W.alloc o).grownBy w3 (vs l).ownBlock)(a8:(vs l).ownBlock=some z\/z=(W.alloc o).heap.size):
  (w3.cell? ⟨g,l,none⟩=some (vs l)/\w3.frozen? ⟨g,l,none⟩=false)/\KN base g mu (agT rows l x) (w3.setCell ⟨g,l,none⟩ (.slice (some ⟨z,0,none⟩) ((rows l).length+1) J)) (agS vs l (.slice (some ⟨z,0,none⟩) ((rows l).length+1) J))/\ ∀(W0:zW) (b0:Nat),b0<=base->b0<=g->b0<=W.heap.size->Below b0 W0 W->Below b0 W0 (w3.setCell ⟨g,l,none⟩ (.slice (some ⟨z,0,none⟩) ((rows l).length+1) J)):=by
 have k3: ∀y,y<W.heap.size->(vs l).ownBlock≠some y->w3.heap[y]? =W.heap[y]? :=λy hy hv=>by rw[Z.block y (by rw[World.size_alloc];omega) (λe=>hv e.symm),Below.heap_alloc _ _ _ hy]
 have a2:=h.row.of_block (k3 g h.row.lt (h.far l hl))
 have a6: ∀y,y<W.heap.size->(vs l).ownBlock≠some y->y≠z:=λy hy hv e=>by
  rcases a8 with h1|h1
  ·exact hv (by rw[e];exact h1)
  ·rw[World.size_alloc]at h1;omega
 have a1: ∀y,(Value.slice (some ⟨z,0,none⟩) ((rows l).length+1) J).ownBlock=some y->z=y:=λy e=>by simpa[Value.ownBlock]using e
 have a7:g≠z:=a6 g h.row.lt (h.far l hl)
 have s3:=Z.size
 rw[World.size_alloc]at s3
 refine⟨⟨a2.cell hl,a2.frozen l⟩,⟨(a2.set l _).congr λk _=>rfl,λk U=>?_,λk U=>?_,λi k y hi U h1 h2=>?_⟩,λW0 b0 h1 h2 h3 hB=>?_⟩
 ·unfold agS agT
  by_cases e:k=l
  ·rw[yP e,yP e,List.length_append,List.map_append]
   exact ownsRow_setCell_other hown (λe=>a7 (a1 _ e).symm) _
  ·rw[yN e,yN e]
   refine aX (h.own k U) λy hy=>?_
   rw[Below.heap_setCell _ _ _ _ (show y≠g from λe2=>h.far k U (e2▸hy)),k3 y ((h.own k U).lt y hy).2 (λe2=>e (h.apart k l y U hl hy e2))]
 ·unfold agS
  by_cases e:k=l
  ·rw[yP e];exact λe=>a7 (a1 _ e).symm
  ·rw[yN e];exact h.far k U
 ·unfold agS at h1 h2
  by_cases e1:i=l
  ·by_cases e2:k=l
   ·omega
   ·rw[yP e1]at h1
    rw[yN e2]at h2
    have:=a1 _ h1
    subst this
    exact absurd rfl (a6 z ((h.own k U).lt _ h2).2 (λe3=>e2 (h.apart k l z U hl h2 e3)))
  ·by_cases e2:k=l
   ·rw[yN e1]at h1
    rw[yP e2]at h2
    have:=a1 _ h2
    subst this
    exact absurd rfl (a6 z ((h.own i hi).lt _ h1).2 (λe3=>e1 (h.apart i l z hi hl h1 e3)))
   ·rw[yN e1]at h1
    rw[yN e2]at h2
    exact h.apart i k y hi U h1 h2
 ·exact(Below.grown (hB.alloc h3 o) Z (by rw[World.size_alloc];omega) (λy hy=>Nat.le_trans h1 ((h.own l hl).lt y hy).1)).setCell h2 _
theorem adF{g:Nat}(h:KN base g mu rows W vs)(hm:mu<=maxLen)(J: ∀l,l<mu->(rows l).length<=maxLen)(U: ∀l,l<mu-> ∀x∈rows l,(Lit.int .i64 x).wf=true)(R:zL)(Z:R.length=mu)(he: ∀l,l<mu->R.getD l []=rows l):gT W (some ⟨g,0,none⟩) mu R:=by refine⟨Z,hm,Or.inr ⟨g,0,rfl,λl z=>?_⟩⟩;obtain⟨a,cap,e,hs⟩:=kJ rfl (J l z) (U l z) (h.own l z);rw[he l z];exact⟨a,cap,by rw[Nat.zero_add,h.row.cell z,e],hs.1⟩
theorem U1(w:zW)(mu base:Nat)(rows:Nat->zI)(h: ∀l,l<mu->rows l=[]):KN base w.heap.size mu rows (w.alloc (.cells (madeCells #[.slice none 0 0] mu) 24)) (λ_=>.slice none 0 0):=
 ⟨World.rowIs_made w (.slice none 0 0) mu 24,λl z=>by rw[h l z];exact World.ownsRow_nil _ _ _ _,λl _=>by simp[Value.ownBlock],λl k x _ _ h1=>by simp[Value.ownBlock]at h1⟩
theorem U2{g:Nat}{rows':Nat->zI}(h:KN base g mu rows W vs)(e: ∀l,l<mu->rows l=rows' l):KN base g mu rows' W vs:=
 ⟨h.row,λl z=>by rw[<-e l z];exact h.own l z,h.far,h.apart⟩
def CS(w:zW)(R:zL)(e:Ending)(w':zW):Prop:= ∃g,e=.returned (.tuple #[.slice (some ⟨g,0,none⟩) R.length R.length,.nilIface])/\gT w' (some ⟨g,0,none⟩) R.length R/\Below w.heap.size w w'
theorem adM(b:Int)(tr tk x z:Nat)(h:mY b tr tk (x:Int)=(z:Int))(l:Nat):agT (lC b tr tk x) z (x:Int) l=lC b tr tk (x+1) l:=by
 unfold agT;rw[UH,h];by_cases e:l=z
 ·subst e;rw[yP rfl,yP rfl]
 ·rw[yN e,yN (λh=>e (by omega))]
theorem U8{b:Int}(h2:b<=6){tr tk:Nat}(U:tk<=tr)(J:aU b (tr:Int)=0)(y:Int):wV b ((bM b (tr+1) y).eraseIdx tk)=0:=by
 have z:((bM b (tr+1) y).eraseIdx tk).length=tr:=by rw[List.length_eraseIdx,bF,yP (by omega)];rfl
 unfold wV;rw[z,yP J,yP];unfold gZ;rw[List.all_eq_true];intro x hx;have hm:=(List.eraseIdx_sublist (bM b (tr+1) y) tk).subset hx;simp only[bM,List.mem_map,List.mem_range]at hm;obtain⟨i,_,rfl⟩:=hm;have:=nX b h2 (tr+1) y i;simp;omega
theorem adN{b:Int}(h2:b<=6)(n:Nat)(y:Int): ∀x∈bM b n y,(Lit.int .i64 x).wf=true:=λx hx=>by simp only[bM,List.mem_map,List.mem_range]at hx;obtain⟨i,_,rfl⟩:=hx;have:=nX b h2 n y i;have:=dA b h2;exact Go.WalkArith.wf_i64 (by omega)
theorem Bb(b:Int)(z tr tk m mu:Nat)(w:zW)(a8:z=tr+1)(h2:b<=6)(j2:tr<=4)(c3:tk<=tr)(hf:pw (au b) tr=(mu:Int))(hC:aU b (tr:Int)=0)(b0:aU b (z:Int)=0)(b1:aD b (z:Int)=(m:Int))(j3:mu<=36):
  Calls prog 114 #[.int .i64 b,.int .i64 (z:Int),.int .i64 (tk:Int)] w (CS w (nE b tr tk m mu)):=by
 obtain⟨i0,f5,hz0,hz1,hz2⟩:=info_parts rX
 obtain⟨h1,-,-,-,h5,h6⟩:=bA b0
 have f6:=dA b h2
 have i6:m<=36:=by rw[<-h6,b1]at h5;omega
 have c4:(m:Int)=(mu:Int)*au b:=by rw[<-b1,h6,a8,Int.toNat_natCast,rY,hf]
 have c5:=aj (λW=>lU b (z:Int) W)
 rw[b0,cB,b1]at c5
 have c6:=aj (λW=>mq b W h1 h2)
 have j4: ¬((tk:Int)<0):=by omega
 have j5: ¬((tk:Int)≥(z:Int)):=by omega
 have c7:(au b==0)=false:=by simp;omega
 have c8:(m:Int).tdiv (au b)=(mu:Int):=by rw[Int.tdiv_eq_ediv_of_nonneg (by omega),c4,Int.mul_ediv_cancel _ (by omega)]
 have c9:(m:Int)/au b=(mu:Int):=by rw[<-Int.tdiv_eq_ediv_of_nonneg (by omega)];exact c8
 have f7:=Lj mu (by omega)
 have d0:Hid (∀(W:zW) (x:Nat),x<m->Calls prog 103 #[.int .i64 b,.int .i64 (z:Int),.int .i64 (x:Int)] W (Oi W (bM b z (x:Int)))):=λW x hx=>UY b z (x:Int) W (by unfold Iq;rw[yP b0,yP ⟨by omega,by omega⟩])
 unfold Oi at d0
 have d1:Hid (∀(W:zW) (g x:Nat),W.rowIs g 3 z (λi=>.int .i64 ((bM b z (x:Int)).getD i 0))->Calls prog 65 #[.slice (some ⟨g,0,none⟩) z z,.int .i64 (tk:Int),.int .i64 ((tk:Int)+1)] W (aiO W g z ((bM b z (x:Int)).eraseIdx tk))):=λW g x hr=>by have h:=UZ g z tk (bM b z (x:Int)) W (bF _ _ _) (by omega) (by omega) (adN h2 _ _) hr;rw[show((tk+1:Nat):Int)=(tk:Int)+1 by omega]at h;exact h
 unfold aiO at d1
 have f8:Hid (∀(W:zW) (a1:zO) (c1 x:Nat),Sl W a1 ((bM b z (x:Int)).eraseIdx tk).length ((bM b z (x:Int)).eraseIdx tk)->Calls prog 134 #[.int .i64 b,.slice a1 ((bM b z (x:Int)).eraseIdx tk).length c1] W λe w'=>e=.returned (.tuple #[.int .i64 (mY b tr tk (x:Int)),.nilIface])/\w'=W):=λW a1 c1 x f9=>by
  have h:=abN b a1 _ c1 _ W f9;have hc:wV b ((bM b z (x:Int)).eraseIdx tk)=0:=by rw[a8];exact U8 h2 c3 hC _
  have hp:BX b ((bM b z (x:Int)).eraseIdx tk)=mY b tr tk (x:Int):=by unfold BX;rw[yP hc,a8];rfl
  rw[hc,hp,cB]at h;exact h
 have e5:Hid (∀x:Nat,(bM b z (x:Int)).length=z):=λx=>bF _ _ _
 have g2:Hid (∀x:Nat,∃J:Nat,J<mu/\mY b tr tk (x:Int)=(J:Int)):=λx=>by have:=af2 h2 c3 hf (x:Int);exact⟨(mY b tr tk (x:Int)).toNat,by omega,by omega⟩
 have g3:Hid (∀l,∀x∈lC b tr tk m l,(Lit.int .i64 x).wf=true):=λl x hx=>Go.WalkArith.wf_i64 (by have:=(uV.1 hx).1;omega)
 have g4:=aj (λx l=>Mt b tr tk x l)
 have e6:=aj (λx J h=>adM b tr tk x J h)
 have H0:=aj (U1 w mu w.heap.size (lC b tr tk 0) (λl _=>UG b tr tk l))
 have d2:Hid (Below w.heap.size w (w.alloc (.cells (madeCells #[.slice none 0 0] mu) 24))):=zb.alloc zr _
 have e7:Hid (∀(W:zW) (vs:Nat->Value),KN w.heap.size w.heap.size mu (lC b tr tk m) W vs->Below w.heap.size w W->CS w (nE b tr tk m mu) (.returned (.tuple #[.slice (some ⟨w.heap.size,0,none⟩) mu mu,.nilIface])) W):=λW vs h1 h2=>by refine⟨w.heap.size,by rw[mJ],?_,h2⟩;rw[mJ];exact adF h1 (by unfold maxLen;omega) (λl _=>by have:=Mt b tr tk m l;unfold maxLen;omega) (λl _=>g3.out l) _ (mJ _ _ _ _ _) (λl hl=>uU hl)
 have i7:tk<z:=by omega
 have i8:z<=5:=by omega
 clear hf hC b0 b1 a8 h1 h5 h6 c4 c8
 generalize au b=K at f6 c7 c9 c6
 go_enter func114,ntmps114
 go_wp2_with (first
  |(go_at_call 19;refine(c5.out _).mono ?_;rintro e w' ⟨rfl,U⟩;rw[U];clear U w')
  |(go_at_call 34;refine(c6.out _).mono ?_;rintro e w' ⟨rfl,U⟩;rw[U];clear U w'))
 clear c7 c9 f7
 generalize w.alloc (.cells (madeCells #[.slice none 0 0] mu) 24)=W0 at H0 d2⊢
 go_loopw[38] (λu wx=> ∃x:Nat,x<=m/\u=.int .i64 x/\ ∃vs,KN w.heap.size w.heap.size mu (lC b tr tk x) wx vs/\Below w.heap.size w wx) (λu _=>m-(intOf u).toNat)
 case atStart=>exact⟨0,by omega,rfl,_,H0.out,d2.out⟩
 case round=>
  obtain⟨x,hx,rfl,vs,d3,d4⟩:=hrel
  have d5:=aj d3
  have b2:=aj d4
  clear d3 d4
  by_cases g5:x<m
  ·have e8:(x:Int)<(m:Int):=by omega
   obtain⟨J,b4,hd⟩:=g2.out x
   have b5:=aj (d0.out wr x g5)
   rw[e5.out]at b5
   have e9:=aj (e6.out x J hd)
   have a2:=aj (λW a1 c1=>f8.out W a1 c1 x)
   rw[hd]at a2
   clear hd
   have b6:=aj (λW g=>d1.out W g x)
   generalize g6:bM b z (x:Int)=sp at b5 a2 b6
   clear g6
   have d6:=aj (g4.out x J)
   go_wp2_with (go_at_call 103;refine b5.out.mono ?_;rintro e w1 ⟨g1,rfl,d7,d8,d9⟩;have e0:=aj d7;have e1:=aj d9;have g7:=aj d8;clear d7 d8 d9)
   have g8:=aj (b6.out w1 g1 g7.out)
   have f0:=aj (b2.out.trans (e1.out.mono b2.out.size))
   have g9:Hid (w.heap.size<=g1):=Nat.le_trans b2.out.size e0.out
   have j6:IntKind.i64.wrap ((tk:Int)+1)=(tk:Int)+1:=ER (by omega)
   go_wp2_with fail
   refine g8.out.mono ?_
   rintro e w2 ⟨rfl,e2,b7⟩
   have i1:=aj (a2.out w2 _ z e2)
   have e3:=aj (b7 w w.heap.size g9.out f0.out)
   have i2:=aj (b7 wr wr.heap.size e0.out e1.out)
   clear e2 b7
   go_wp2_with fail
   refine i1.out.mono ?_
   rintro e w' ⟨rfl,U⟩
   rw[U]
   clear U w'
   have a6:=aj (U0 d5.out i2.out)
   have i9:(J:Int)<(mu:Int):=by omega
   have j7:=a6.out.row.cell b4
   have f1:=aj (a6.out.own J b4)
   have f2:=aj (λw3 o g' a7 k1 k2 k3=>@ZI w.heap.size w.heap.size mu (lC b tr tk x) w2 w3 vs J (x:Int) o g' a7 a6.out b4 k1 k2 k3)
   have e4:=aj e3.out.size
   go_wp2_with (at_builtin;refine wpList_append_lies _ rfl _ _ 24 rfl w.heap.size 3 i0 (.int .i64 0) 1 8 underlying24 f5 hz0 hz1 hz2 rfl (by decide) (vs J) (lC b tr tk x J).length _ rfl (f1.out.alloc _) ⟨w2.heap.size,0,none⟩ 1 1 [.int .i64 (x:Int)] rfl rfl (fV _ _ _) (λu hu=>by simp at hu;subst hu;rfl) (by omega) (by have:=d6.out;unfold maxLen;omega) (by have:=d6.out;omega) (by have:=e4.out;simp;omega) (w2.heap.size+1) (by simp) ?_;intro g' a7 w3 b3 Z b8 f3;obtain⟨⟨j0,j1⟩,b9,c0⟩:=f2.out w3 _ g' a7 b3 Z (by rw[World.size_alloc];exact b8);have i4:=aj b9;have i5:=aj c0;clear b3 Z b8 b9 c0 f3)
   go_roundw
   case rel=>exact⟨x+1,by omega,by go_num,_,U2 i4.out (λl _=>e9.out l),i5.out w w.heap.size zr zr e4.out e3.out⟩
   case measure=>simp[intOf];omega
  ·have e8: ¬(x:Int)<(m:Int):=by omega
   obtain rfl:x=m:=by omega
   go_wp2
   go_ret2
   exact e7.out _ vs d5.out b2.out
theorem Bc(b t tk:Int)(w:zW)(U:aU b t=0)(ht: ¬(0<=tk/\tk<t)):
  Calls prog 114 #[.int .i64 b,.int .i64 t,.int .i64 tk] w λe w'=>e=.returned (.tuple #[.slice none 0 0,bC 1])/\w'=w:=by
 have z:=aj (λW=>lU b t W)
 rw[U,cB]at z
 rw[dx (show(1:Int)≠0 by decide)]
 have J:tk<0\/(¬tk<0/\tk≥t):=by omega
 clear U ht
 generalize aD b t=M at z
 rcases J with h|⟨h,h'⟩
 all_goals
  go_enter func114,ntmps114
  go_wp2_with (go_at_call 19;refine(z.out _).mono ?_;rintro e w' ⟨rfl,Z⟩;rw[Z];clear Z w')
  go_ret2
  exact⟨rfl,rfl⟩
end Go.Proofs.YtceojneljnnooaaGreat
