import Derived.Test.YtfiknidoihlkfaaGreatZHh
import Derived.Test.YtfiknidoihlkfaaGreatHe
import Derived.Shelf.Slices.Delete
open Go.Proofs.Tryz
namespace Go.Proofs.YtfiknidoihlkfaaGreat
open Go.RowKit
set_option maxHeartbeats 0
set_option maxRecDepth 100000
set_option linter.all false
variable{rows:Nat->zI}{vs:Nat->Value}{base mu:Nat}{W:zW}
def Mt(w:zW)(l:zI)(e:Ending)(w':zW):Prop:= ∃g,e=.returned (.slice (some ⟨g,0,none⟩) l.length l.length)/\w.heap.size<=g/\(w'.rowIs g 3 l.length λi=>.int .i64 (l.getD i 0))/\Below w.heap.size w w'
def Oe(w:zW)(l:zI)(e:Ending)(w':zW):Prop:= ∃g,e=.returned (.tuple #[.slice (some ⟨g,0,none⟩) l.length l.length,.nilIface])/\w.heap.size<=g/\(w'.rowIs g 3 l.length λi=>.int .i64 (l.getD i 0))/\Below w.heap.size w w'
theorem adC{b:Int}{n:Nat}{l:Int}{w wr:zW}(h:Ph b n l w n wr):Mt w (bM b n l) (.returned (.slice (some ⟨w.heap.size,0,none⟩) n n)) wr:=by refine⟨w.heap.size,by rw[bF],zr,?_,h.2⟩;rw[bF];exact h.1.congr λi hi=>by rw[yP (by omega),lT _ _ _ _ hi]
theorem ZG(b:Int)(n:Nat)(l:Int)(w:zW)(h1:1<=b)(h2:b<=6)(hn:n<=5)(hl:0<=l)(b8:l<=100000000):
  Calls prog 131 #[.int .i64 b,.int .i64 n,.int .i64 l] w (Mt w (bM b n l)):=by
 have hk:=dB b h2
 obtain⟨z,b1⟩:=hk
 have HK:=aj (λw=>nU b w h1 h2)
 have b9:=fO n (by omega)
 have HE:=aj (λwr=>@adC b n l w wr)
 have a1:=aj (λwr k m=>@KW b n l w wr k m)
 have a2:=aj (aa6 (au b) z l hl)
 have a6:=aj (Td (au b) z l)
 have b2:(au b==0)=false:=by simp;omega
 have H0:Hid (Ph b n l w 0 (w.alloc (.cells (madeCells #[.int .i64 0] n) 3))):=by refine⟨(World.rowIs_made w (.int .i64 0) n 3).congr λp hp=>?_,zb.alloc zr _⟩;rw[yN (by omega)]
 have a7:Hid (l/pw (au b) 0=l):=by show _=_;simp[pw]
 go_enter func131,ntmps131
 go_wp2
 generalize w.alloc (.cells (madeCells #[.int .i64 0] n) 3)=W at H0⊢
 generalize au b=K at z b1 HK a1 a2 a6 b2 a7
 go_loopw[2,12] (λs i wx=> ∃k:Nat,k<=n/\i=.int .i64 k/\s=.int .i64 (l/pw K k)/\Ph b n l w k wx) (λ_ i _=>n-(intOf i).toNat)
 case atStart=>exact⟨0,by omega,rfl,by rw[a7.out],H0.out⟩
 case round=>
  obtain⟨k,hk,rfl,rfl,ho⟩:=hrel
  have U:=aj ho
  clear ho
  by_cases c0:k<n
  ·have b0:(k:Int)<(n:Int):=by omega
   obtain⟨m,hm⟩: ∃m,n=m+1+k:=⟨n-1-k,by omega⟩
   have HM:=aj hm
   have c3:(n:Int)-1-(k:Int)=(m:Int):=by omega
   have b3:m<n:=by omega
   clear hm
   have a8:=aj (a1.out wr k m U.out HM.out)
   have b4:=a2.out k
   obtain⟨b5,b6⟩:=b4
   have J:=aj (a6.out k)
   have Z:=U.out.1.cell b3
   have c4:=U.out.1.frozen m
   have b7:(m:Int)<(n:Int):=by omega
   generalize(Value.int IntKind.i64 (if n<=m+k then pW b n l m else 0))=c5 at Z
   generalize l/pw K k=q at b5 b6 J a8⊢
   go_wp2_with (go_at_call 34;refine(HK.out _).mono ?_;rintro e w' ⟨rfl,hw⟩;rw[hw];clear hw w')
   go_roundw
   case rel=>exact⟨k+1,by omega,by go_num,by rw[J.out],a8.out⟩
   case measure=>simp[intOf];omega
  ·have b0: ¬((k:Int)<(n:Int)):=by omega
   obtain rfl:k=n:=by omega
   go_wp2
   go_ret
   exact HE.out wr U.out
theorem UR(b:Int)(n:Nat)(l:Int)(w:zW)(h:Ip b n l=0):
  Calls prog 103 #[.int .i64 b,.int .i64 n,.int .i64 l] w (Oe w (bM b n l)):=by
 obtain⟨hM,a1,a2⟩:=Iq h
 obtain⟨h1,h2,h3,h4,h5,h6⟩:=bA hM
 have z:=aj (mY b n w)
 rw[hM,cu]at z
 have U:=aj (ZG b n l w h1 h2 (by omega) a1 (by omega))
 generalize aD b n=M at z a2 h6
 have b0:decide (M<=l)=false:=by simp;omega
 clear h hM h5 h6
 go_enter func103,ntmps103
 go_wp2_with (go_at_call 19;refine z.out.mono ?_;rintro e w' ⟨rfl,hw⟩;rw[hw];clear hw w')
 refine U.out.mono ?_
 rintro e w1 ⟨g1,rfl,a6,J,Z⟩
 rw[bF]at J⊢
 have a7:=aj J
 have a8:=aj Z
 clear J Z U
 go_wp2
 go_ret2
 exact⟨g1,by rw[bF];simp,a6,by rw[bF];exact a7.out,a8.out⟩
def aiL:Go.Shelf.Ren:=⟨fun|23=>65|n=>n,fun|0=>0|3=>3|4=>4|22=>24|n=>n,λn=>n⟩
theorem Xz:Lays2.n23 prog aiL where
 mixed:=by kernel_rfl
 f23:=func65.trans (congrArg some (by kernel_rfl))
 t0:=underlying0
 a0:=isAgg0
 z0:=sizeOf0
 v0:=zeroValue0
 t3:=underlying3
 a3:=isAgg3
 z3:=sizeOf3
 v3:=zeroValue3
 t4:=underlying4
 a4:=isAgg4
 z4:=sizeOf4
 v4:=zeroValue4
 t22:=underlying24
 a22:=isAgg24
 z22:=sizeOf24
 v22:=zeroValue24
 i3:=by kernel_rfl
theorem Fw(d:zI)(i:Nat):d.take i++d.drop (i+1)=d.eraseIdx i:=(List.eraseIdx_eq_take_drop_succ d i).symm
def aiM(w:zW)(g n:Nat)(l:zI)(e:Ending)(w':zW):Prop:=e=.returned (.slice (some ⟨g,0,none⟩) l.length n)/\Sl w' (some ⟨g,0,none⟩) l.length l/\ ∀(J:zW) (z:Nat),z<=g->Below z J w->Below z J w'
theorem UU(g n i:Nat)(d:zI)(w:zW)(hl:d.length=n)(hn:n<=1000)(hi:i<n)(a1: ∀x∈d,(Lit.int .i64 x).wf=true)(hr:w.rowIs g 3 n λj=>.int .i64 (d.getD j 0)):
  Calls prog 65 #[.slice (some ⟨g,0,none⟩) n n,.int .i64 (i:Int),.int .i64 ((i+1:Nat):Int)] w (aiM w g n (d.eraseIdx i)):=by
 subst hl
 have hH:Sort.Holds (Value.int .i64) w g 0 d.toArray:=by
  intro j U;have Z:j<d.length:=by simpa using U
  refine⟨?_,by rw[Nat.zero_add];exact hr.frozen j⟩;rw[Nat.zero_add,hr.cell Z];simp[List.getD,Z]
 have h:=Any.slices_Delete_int Xz g 0 d.length i (i+1) d w hH zr (by omega) (by omega) (by omega)
 refine h.mono ?_
 rintro e w' ⟨rfl,q,rfl⟩
 have z:(d.eraseIdx i).length=d.length-1:=by rw[List.length_eraseIdx,yP hi]
 rw[Fw]
 obtain⟨ts,J⟩: ∃ts,ts=d.eraseIdx i++List.replicate (i+1-i) (0:Int):=⟨_,rfl⟩
 rw[<-J]
 have a2:ts.length=d.length:=by rw[J];simp[z];omega
 obtain⟨c,hc,a7,a8⟩:=hr
 have hO:=ownsRow_sortedI (w:=w) (base:=0) (g:=g) (cap:=d.length) (n:=q) (os:=#[]) (ss:=d) (ts:=ts) a2 (Nat.zero_le _) hc zr (by unfold maxLen;omega) (by omega)
 have hG:=grownBy_sortedI (w:=w) (g:=g) (n:=q) (os:=#[]) ts.toArray
 rw[zF]at hO hG
 have a6:g<w.heap.size:=(zG hc).1
 refine⟨by rw[z,show i+1-i=1 by omega],⟨rfl,by rw[z];unfold maxLen;omega,λx hx=>a1 x ((List.eraseIdx_sublist d i).subset hx),Or.inr ⟨g,0,rfl,λj U=>?_⟩⟩,λW0 b0 b1 hB=>?_⟩
 ·rw[Nat.zero_add,hO.cellAt j (by omega),J,List.map_append,List.getElem?_append_left (by simpa using U)]
  simp[List.getD,U]
 ·exact Below.grown hB hG (by omega) (λk hk=>by cases hk;omega)
structure KM (base g mu:Nat) (rows:Nat->zI) (W:zW) (vs:Nat->Value):Prop where
 row:W.rowIs g 24 mu vs
 own: ∀l,l<mu->W.ownsRow base 3 1 (vs l) (rows l).length ((rows l).map (Value.int .i64))
 far: ∀l,l<mu->(vs l).ownBlock≠some g
 apart: ∀l k x,l<mu->k<mu->(vs l).ownBlock=some x->(vs k).ownBlock=some x->l=k
theorem UW{g:Nat}{W':zW}(h:KM base g mu rows W vs)(hb:Below W.heap.size W W'):KM base g mu rows W' vs:=
 ⟨h.row.of_block (hb.block _ h.row.lt),λl z=>aX (h.own l z) λx hx=>hb.block x ((h.own l z).lt x hx).2,h.far,h.apart⟩
def agO(vs:Nat->Value)(l:Nat)(v:Value)(k:Nat):Value:=if k=l then v else vs k
def agR(rows:Nat->zI)(l:Nat)(x:Int)(k:Nat):zI:=if k=l then rows l++[x]else rows k
theorem ZH{base g mu:Nat}{rows:Nat->zI}{W w3:zW}{vs:Nat->Value}{l:Nat}{x:Int}{o:Obj}{z J:Nat}(h:KM base g mu rows W vs)(hl:l<mu)(hown:w3.ownsRow base 3 1 (.slice (some ⟨z,0,none⟩) ((rows l).length+1) J) ((rows l).length+1) ((rows l).map (Value.int .i64)++[.int .i64 x]))(Z:(W.alloc o).grownBy w3 (vs l).ownBlock)(a8:(vs l).ownBlock=some z\/z=(W.alloc o).heap.size):
  (w3.cell? ⟨g,l,none⟩=some (vs l)/\w3.frozen? ⟨g,l,none⟩=false)/\KM base g mu (agR rows l x) (w3.setCell ⟨g,l,none⟩ (.slice (some ⟨z,0,none⟩) ((rows l).length+1) J)) (agO vs l (.slice (some ⟨z,0,none⟩) ((rows l).length+1) J))/\ ∀(W0:zW) (b0:Nat),b0<=base->b0<=g->b0<=W.heap.size->Below b0 W0 W->Below b0 W0 (w3.setCell ⟨g,l,none⟩ (.slice (some ⟨z,0,none⟩) ((rows l).length+1) J)):=by
 have k3: ∀y,y<W.heap.size->(vs l).ownBlock≠some y->w3.heap[y]? =W.heap[y]? :=λy hy hv=>by rw[Z.block y (by rw[World.size_alloc];omega) (λe=>hv e.symm),Below.heap_alloc _ _ _ hy]
 have a2:=h.row.of_block (k3 g h.row.lt (h.far l hl))
 have a6: ∀y,y<W.heap.size->(vs l).ownBlock≠some y->y≠z:=λy hy hv e=>by
  rcases a8 with h1|h1
  ·exact hv (by rw[e];exact h1)
  ·rw[World.size_alloc]at h1;omega
 have a1: ∀y,(Value.slice (some ⟨z,0,none⟩) ((rows l).length+1) J).ownBlock=some y->z=y:=λy e=>by simpa[Value.ownBlock]using e
 have a7:g≠z:=a6 g h.row.lt (h.far l hl)
 have s3:=Z.size
 rw[World.size_alloc]at s3
 refine⟨⟨a2.cell hl,a2.frozen l⟩,⟨(a2.set l _).congr λk _=>rfl,λk U=>?_,λk U=>?_,λi k y hi U h1 h2=>?_⟩,λW0 b0 h1 h2 h3 hB=>?_⟩
 ·unfold agO agR
  by_cases e:k=l
  ·rw[yP e,yP e,List.length_append,List.map_append]
   exact ownsRow_setCell_other hown (λe=>a7 (a1 _ e).symm) _
  ·rw[yN e,yN e]
   refine aX (h.own k U) λy hy=>?_
   rw[Below.heap_setCell _ _ _ _ (show y≠g from λe2=>h.far k U (e2▸hy)),k3 y ((h.own k U).lt y hy).2 (λe2=>e (h.apart k l y U hl hy e2))]
 ·unfold agO
  by_cases e:k=l
  ·rw[yP e];exact λe=>a7 (a1 _ e).symm
  ·rw[yN e];exact h.far k U
 ·unfold agO at h1 h2
  by_cases e1:i=l
  ·by_cases e2:k=l
   ·omega
   ·rw[yP e1]at h1
    rw[yN e2]at h2
    have:=a1 _ h1
    subst this
    exact absurd rfl (a6 z ((h.own k U).lt _ h2).2 (λe3=>e2 (h.apart k l z U hl h2 e3)))
  ·by_cases e2:k=l
   ·rw[yN e1]at h1
    rw[yP e2]at h2
    have:=a1 _ h2
    subst this
    exact absurd rfl (a6 z ((h.own i hi).lt _ h1).2 (λe3=>e1 (h.apart i l z hi hl h1 e3)))
   ·rw[yN e1]at h1
    rw[yN e2]at h2
    exact h.apart i k y hi U h1 h2
 ·exact(Below.grown (hB.alloc h3 o) Z (by rw[World.size_alloc];omega) (λy hy=>Nat.le_trans h1 ((h.own l hl).lt y hy).1)).setCell h2 _
theorem adD{g:Nat}(h:KM base g mu rows W vs)(hm:mu<=maxLen)(J: ∀l,l<mu->(rows l).length<=maxLen)(U: ∀l,l<mu-> ∀x∈rows l,(Lit.int .i64 x).wf=true)(R:zL)(Z:R.length=mu)(he: ∀l,l<mu->R.getD l []=rows l):gT W (some ⟨g,0,none⟩) mu R:=by refine⟨Z,hm,Or.inr ⟨g,0,rfl,λl z=>?_⟩⟩;obtain⟨a,cap,e,hs⟩:=kI rfl (J l z) (U l z) (h.own l z);rw[he l z];exact⟨a,cap,by rw[Nat.zero_add,h.row.cell z,e],hs.1⟩
theorem UY(w:zW)(mu base:Nat)(rows:Nat->zI)(h: ∀l,l<mu->rows l=[]):KM base w.heap.size mu rows (w.alloc (.cells (madeCells #[.slice none 0 0] mu) 24)) (λ_=>.slice none 0 0):=
 ⟨World.rowIs_made w (.slice none 0 0) mu 24,λl z=>by rw[h l z];exact World.ownsRow_nil _ _ _ _,λl _=>by simp[Value.ownBlock],λl k x _ _ h1=>by simp[Value.ownBlock]at h1⟩
theorem UZ{g:Nat}{rows':Nat->zI}(h:KM base g mu rows W vs)(e: ∀l,l<mu->rows l=rows' l):KM base g mu rows' W vs:=
 ⟨h.row,λl z=>by rw[<-e l z];exact h.own l z,h.far,h.apart⟩
def CQ(w:zW)(R:zL)(e:Ending)(w':zW):Prop:= ∃g,e=.returned (.tuple #[.slice (some ⟨g,0,none⟩) R.length R.length,.nilIface])/\gT w' (some ⟨g,0,none⟩) R.length R/\Below w.heap.size w w'
theorem adK(b:Int)(tr tk x z:Nat)(h:mV b tr tk (x:Int)=(z:Int))(l:Nat):agR (lC b tr tk x) z (x:Int) l=lC b tr tk (x+1) l:=by
 unfold agR;rw[UE,h];by_cases e:l=z
 ·subst e;rw[yP rfl,yP rfl]
 ·rw[yN e,yN (λh=>e (by omega))]
theorem U5{b:Int}(h2:b<=6){tr tk:Nat}(U:tk<=tr)(J:aV b (tr:Int)=0)(y:Int):wW b ((bM b (tr+1) y).eraseIdx tk)=0:=by
 have z:((bM b (tr+1) y).eraseIdx tk).length=tr:=by rw[List.length_eraseIdx,bF,yP (by omega)];rfl
 unfold wW;rw[z,yP J,yP];unfold gZ;rw[List.all_eq_true];intro x hx;have hm:=(List.eraseIdx_sublist (bM b (tr+1) y) tk).subset hx;simp only[bM,List.mem_map,List.mem_range]at hm;obtain⟨i,_,rfl⟩:=hm;have:=nX b h2 (tr+1) y i;simp;omega
theorem adL{b:Int}(h2:b<=6)(n:Nat)(y:Int): ∀x∈bM b n y,(Lit.int .i64 x).wf=true:=λx hx=>by simp only[bM,List.mem_map,List.mem_range]at hx;obtain⟨i,_,rfl⟩:=hx;have:=nX b h2 n y i;have:=dB b h2;exact Go.WalkArith.wf_i64 (by omega)
theorem Ba(b:Int)(z tr tk m mu:Nat)(a:zO)(n cap:Nat)(a':zO)(k' J:Nat)(N:zL)(w:zW)(hs:gT w a n N)(hG:aK m n N)(b5:z=tr+1)(h2:b<=6)(j6:tr<=4)(c8:tk<=tr)(hf:pw (au b) tr=(mu:Int))(hC:aV b (tr:Int)=0)(hU:aD b (tr:Int)=(mu:Int))(c9:aV b (z:Int)=0)(f8:aD b (z:Int)=(m:Int))(j7:mu<=36):
  Calls prog 114 #[.agg #[.int .i64 b,.int .i64 (z:Int),.slice a n cap,.slice a' k' J],.int .i64 (tk:Int)] w (CQ w (nD b tr tk m mu)):=by
 obtain⟨i0,f9,hz0,hz1,hz2⟩:=info_parts rX
 have j8:=hG.2.1
 have i9:=hG.2.2.2.1
 have j9:=Li mu (by omega)
 have d0:=aj (λW=>mY b (tr:Int) W)
 rw[hC,cu,hU]at d0
 have j0:(z:Int)-1=(tr:Int):=by omega
 have a6:Hid (Below w.heap.size w (w.alloc (.cells #[.int .i64 b,.int .i64 (z:Int),.slice a n cap,.slice a' k' J] 35))):=zb.alloc zr _
 have a2:=aj (λw'=>@FI w w' (.int .i64 b) (.int .i64 (z:Int)) (.slice a n cap) (.slice a' k' J) 35)
 have d1:Hid (∀(W:zW) (x:Nat),x<m->Calls prog 103 #[.int .i64 b,.int .i64 (z:Int),.int .i64 (x:Int)] W (Oe W (bM b z (x:Int)))):=λW x hx=>UR b z (x:Int) W (by unfold Ip;rw[yP c9,yP ⟨by omega,by omega⟩])
 unfold Oe at d1
 have d2:Hid (∀(W:zW) (g x:Nat),W.rowIs g 3 z (λi=>.int .i64 ((bM b z (x:Int)).getD i 0))->Calls prog 65 #[.slice (some ⟨g,0,none⟩) z z,.int .i64 (tk:Int),.int .i64 ((tk:Int)+1)] W (aiM W g z ((bM b z (x:Int)).eraseIdx tk))):=λW g x hr=>by have h:=UU g z tk (bM b z (x:Int)) W (bF _ _ _) (by omega) (by omega) (adL h2 _ _) hr;rw[show((tk+1:Nat):Int)=(tk:Int)+1 by omega]at h;exact h
 unfold aiM at d2
 have g2:Hid (∀(W:zW) (Z:zO) (c1 x:Nat),Sl W Z ((bM b z (x:Int)).eraseIdx tk).length ((bM b z (x:Int)).eraseIdx tk)->Calls prog 134 #[.int .i64 b,.slice Z ((bM b z (x:Int)).eraseIdx tk).length c1] W λe w'=>e=.returned (.tuple #[.int .i64 (mV b tr tk (x:Int)),.nilIface])/\w'=W):=λW Z c1 x g3=>by
  have h:=abN b Z _ c1 _ W g3;have hc:wW b ((bM b z (x:Int)).eraseIdx tk)=0:=by rw[b5];exact U5 h2 c8 hC _
  have hp:BS b ((bM b z (x:Int)).eraseIdx tk)=mV b tr tk (x:Int):=by unfold BS;rw[yP hc,b5];rfl
  rw[hc,hp,cu]at h;exact h
 have e9:Hid (∀x:Nat,(bM b z (x:Int)).length=z):=λx=>bF _ _ _
 have g4:Hid (∀x:Nat,∃U:Nat,U<mu/\mV b tr tk (x:Int)=(U:Int)):=λx=>by have:=afZ h2 c8 hf (x:Int);exact⟨(mV b tr tk (x:Int)).toNat,by omega,by omega⟩
 have d3:=(hG.2.2.2.2.2 0 (by omega)).1
 have d4:Hid (∀W,Below w.heap.size w W-> ∃b1 o1 Z c1,a=some ⟨b1,o1,none⟩/\W.cell? ⟨b1,o1,none⟩=some (.slice Z m c1)):=λW hW=>by obtain⟨b1,o1,Z,c1,e1,e2,e3⟩:=fP hs 0 (by omega);rw[d3,Nat.add_zero]at e2;exact⟨b1,o1,Z,c1,e1,(hW.cell (p:=⟨b1,o1,none⟩) (zk w _ e2)).trans e2⟩
 have g5:Hid (∀l,∀x∈lC b tr tk m l,(Lit.int .i64 x).wf=true):=λl x hx=>Go.WalkArith.wf_i64 (by have:=(uU.1 hx).1;omega)
 have g6:=aj (λx l=>Mr b tr tk x l)
 have f0:=aj (λx U h=>adK b tr tk x U h)
 generalize d5:w.alloc (.cells #[.int .i64 b,.int .i64 (z:Int),.slice a n cap,.slice a' k' J] 35)=wb at a6 a2
 have k0:Hid (wb.heap.size=w.heap.size+1):=by show _=_;rw[<-d5];simp
 have H0:=aj (UY wb mu wb.heap.size (lC b tr tk 0) (λl _=>UD b tr tk l))
 have b2:Hid (Below wb.heap.size wb (wb.alloc (.cells (madeCells #[.slice none 0 0] mu) 24))):=zb.alloc zr _
 obtain⟨p0,p1,p2,p3⟩:=a2.out wb zb
 obtain⟨q0,q1,q2,q3⟩:=a2.out _ b2.out
 obtain⟨b1,o1,Z,c1,rfl,g7⟩:=d4.out _ (a6.out.trans (b2.out.mono a6.out.size))
 have f1:Hid (∀(W:zW) (vs:Nat->Value),KM wb.heap.size wb.heap.size mu (lC b tr tk m) W vs->Below wb.heap.size wb W->CQ w (nD b tr tk m mu) (.returned (.tuple #[.slice (some ⟨wb.heap.size,0,none⟩) mu mu,.nilIface])) W):=λW vs h1 h2=>by refine⟨wb.heap.size,by rw[mH],?_,a6.out.trans (h2.mono a6.out.size)⟩;rw[mH];exact adD h1 (by unfold maxLen;omega) (λl _=>by have:=Mr b tr tk m l;unfold maxLen;omega) (λl _=>g5.out l) _ (mH _ _ _ _ _) (λl hl=>uT hl)
 clear hs hG hf hC hU c9 f8 d3 d4
 have j1:tk<z:=by omega
 have j2:z<=5:=by omega
 clear b5
 go_enter func114,ntmps114
 go_wp2_with (go_at_call 19;refine(d0.out _).mono ?_;rintro e w' ⟨rfl,hw⟩;rw[hw];clear hw w')
 clear d5 p0 p1 p2 p3 q0 q1 q2 q3 g7
 generalize wb.alloc (.cells (madeCells #[.slice none 0 0] mu) 24)=W0 at H0 b2⊢
 go_loopw[32] (λu wx=> ∃x:Nat,x<=m/\u=.int .i64 x/\ ∃vs,KM wb.heap.size wb.heap.size mu (lC b tr tk x) wx vs/\Below wb.heap.size wb wx) (λu _=>m-(intOf u).toNat)
 case atStart=>exact⟨0,by omega,rfl,_,H0.out,b2.out⟩
 case round=>
  obtain⟨x,hx,rfl,vs,d6,b6⟩:=hrel
  have d7:=aj d6
  have b3:=aj b6
  obtain⟨p0,p1,p2,p3⟩:=a2.out _ b6
  clear d6 b6
  by_cases g8:x<m
  ·have f2:(x:Int)<(m:Int):=by omega
   obtain⟨U,b7,hd⟩:=g4.out x
   have b8:=aj (d1.out wr x g8)
   rw[e9.out]at b8
   have f3:=aj (f0.out x U hd)
   have a8:=aj (λW Z c1=>g2.out W Z c1 x)
   rw[hd]at a8
   clear hd
   have b9:=aj (λW g=>d2.out W g x)
   generalize g9:bM b z (x:Int)=sp at b8 a8 b9
   clear g9
   have d8:=aj (g6.out x U)
   go_wp2_with (go_at_call 103;refine b8.out.mono ?_;rintro e w1 ⟨g1,rfl,d9,e0,e4⟩;have e5:=aj d9;have e6:=aj e4;have i1:=aj e0;clear d9 e0 e4)
   have i2:=aj (b9.out w1.drew g1 i1.out)
   have c0:=aj (b3.out.trans (e6.out.mono b3.out.size))
   obtain⟨y0,y1,y2,y3⟩:=a2.out _ c0.out
   have i4:Hid (wb.heap.size<=g1):=Nat.le_trans b3.out.size e5.out
   have k4:IntKind.i64.wrap ((tk:Int)+1)=(tk:Int)+1:=EP (by omega)
   go_region_with (first
    |(go_at_call 65;refine i2.out.mono ?_;rintro e w2 ⟨rfl,e7,c3⟩;have i5:=aj (a8.out w2 _ z e7);have c4:=aj (c3 wb wb.heap.size i4.out c0.out.drew);have i6:=aj (c3 wr wr.heap.size e5.out e6.out.drew);obtain⟨z0,z1,z2,z3⟩:=a2.out _ c4.out;clear e7 c3)
    |(go_at_call 134;refine i5.out.mono ?_;rintro e w' ⟨rfl,hw⟩;rw[hw];clear hw w'))
   all_goals
    clear p0 p1 p2 p3 y0 y1 y2 y3 z0 z1 z2 z3
    have b0:=aj (UW d7.out i6.out)
    have j3:(U:Int)<(mu:Int):=by omega
    have k5:=b0.out.row.cell b7
    have f5:=aj (b0.out.own U b7)
    have f6:=aj (λw3 o g' J k1 k2 k3=>@ZH wb.heap.size wb.heap.size mu (lC b tr tk x) w2 w3 vs U (x:Int) o g' J b0.out b7 k1 k2 k3)
    have e8:=aj c4.out.size
    go_wp2_with (at_builtin;refine wpList_append_lies _ rfl _ _ 24 rfl wb.heap.size 3 i0 (.int .i64 0) 1 8 underlying24 f9 hz0 hz1 hz2 rfl (by decide) (vs U) (lC b tr tk x U).length _ rfl (f5.out.alloc _) ⟨w2.heap.size,0,none⟩ 1 1 [.int .i64 (x:Int)] rfl rfl (fZ _ _ _) (λu hu=>by simp at hu;subst hu;rfl) (by omega) (by have:=d8.out;unfold maxLen;omega) (by have:=d8.out;omega) (by have:=e8.out;simp;omega) (w2.heap.size+1) (by simp) ?_;intro g' J w3 b4 a7 c5 f7;obtain⟨⟨j4,j5⟩,c6,c7⟩:=f6.out w3 _ g' J b4 a7 (by rw[World.size_alloc];exact c5);have i7:=aj c6;have i8:=aj c7;clear b4 a7 c5 c6 c7 f7)
    go_roundw
    case rel=>exact⟨x+1,by omega,by go_num,_,UZ i7.out (λl _=>f3.out l),i8.out wb wb.heap.size zr zr e8.out c4.out⟩
    case measure=>simp[intOf];omega
  ·have f2: ¬(x:Int)<(m:Int):=by omega
   obtain rfl:x=m:=by omega
   go_wp2
   go_ret2
   exact f1.out _ vs d7.out b3.out
end Go.Proofs.YtfiknidoihlkfaaGreat
