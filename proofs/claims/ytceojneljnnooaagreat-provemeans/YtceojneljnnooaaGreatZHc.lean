import Derived.Test.YtceojneljnnooaaGreatZHa
import Derived.Laws.BytesArg
open Go.Proofs.Tryz
namespace Go.Proofs.YtceojneljnnooaaGreat
open Go.RowKit
set_option maxHeartbeats 0
set_option maxRecDepth 100000
set_option linter.all false
variable{N:zL}{o z:zI}{W:zW}{v:Value}{xs:zV}{n:Nat}
theorem ajX:(prog.info? 5).map (λi=>(i.zero,i.size,i.bytes))=some (some (.int .u8 0),1,1):=by kernel_rfl
theorem UK(n:Nat)(z:n<=1000000000000)(w:zW):(Instr.makeSlice 204 (.int .i64 (n:Int)) (.int .i64 (n:Int))).run prog w=.ok (.slice (some ⟨w.heap.size,0,none⟩) n n) (w.alloc (.cells (madeCells #[.int .u8 0] n) 5)):=
 run_make_row' 204 5 (.int .u8 0) 1 underlying204 ajX rfl .i64 .i64 n (by omega) (by omega) w
theorem ZF(x:Int)(h0:0<=x)(h1:x<256):IntKind.wrap .u8 x=x:=by
 have:(IntKind.wrap .u8 x)=x%256:=by kernel_rfl
 rw[this];omega
def Rh(w:zW)(l:zI)(n k:Nat)(z:zW):Prop:=z.rowIs w.heap.size 5 n (λi=>.int .u8 (if i<k then l.getD i 0 else 0))/\Below w.heap.size w z
theorem Ri(w:zW)(l:zI)(n:Nat):Rh w l n 0 (w.alloc (.cells (madeCells #[.int .u8 0] n) 5)):=
 ⟨(World.rowIs_made w (.int .u8 0) n 5).congr λp z=>by rw[yN (by omega)],zb.alloc zr _⟩
theorem UL{w:zW}{l:zI}{n k:Nat}{z:zW}(h:Rh w l n k z):Rh w l n (k+1) (z.setCell ⟨w.heap.size,k,none⟩ (.int .u8 (l.getD k 0))):=by
 refine⟨(h.1.set k _).congr λp U=>?_,h.2.setCell zr _⟩;by_cases e:p=k
 ·subst e;rw[yP rfl,yP (by omega)]
 ·rw[yN e]
  by_cases J:p<k
  ·rw[yP J,yP (by omega)]
  ·rw[yN J,yN (by omega)]
def aiK(w:zW)(l:zI)(e:Ending)(w':zW):Prop:=e=.returned (.string (strOfNums l))/\Below w.heap.size w w'
theorem agM(a:zO)(n cap:Nat)(l:zI)(w:zW)(hs:Sl w a n l)(hn:n<=100)(hb: ∀x∈l,0<=x/\x<256):
  Calls prog 136 #[.slice a n cap] w (aiK w l):=by
 unfold aiK
 have hL:=hs.1
 have HS:=aj hs
 have a2:=UK n (by omega)
 have H0:=aj (Ri w l n)
 have a6:=aj (λk J h=>@UL w l n k J h)
 have a7:Hid (∀k,k<n->IntKind.wrap .u8 (l.getD k 0)=l.getD k 0):=λk hk=>by have:=hb _ (show l.getD k 0∈l by rw[aS _ k (by omega)];exact List.getElem_mem _);exact ZF _ this.1 this.2
 have a8:Hid (∀J,Rh w l n n J->(convert 204 9 (.slice (some ⟨w.heap.size,0,none⟩) n n)).run prog J=.ok (.string (strOfNums l)) J):=λJ h=>
  run_convert_bytes_arg J _ 5 underlying204 underlying5 w.heap.size 0 n n l hL (λi hi=>by rw[Nat.zero_add,h.1.cell hi,yP hi]) 9 underlying9
 clear hs hb hL
 go_enter func136,ntmps136
 go_wp2
 clear a2
 generalize w.alloc (.cells (madeCells #[.int .u8 0] n) 5)=W0 at H0⊢
 go_loopw[11] (λu J=> ∃k:Nat,k<=n/\u=.int .i64 k/\Rh w l n k J) (λu _=>n-(intOf u).toNat)
 case atStart=>exact⟨0,by omega,rfl,H0.out⟩
 case round=>
  obtain⟨k,hk,rfl,Z⟩:=hrel
  have z:=aj Z
  clear Z
  by_cases U:k<n
  ·have a1:(k:Int)<(n:Int):=by omega
   obtain⟨b1,o1,rfl,b0⟩:=bH (aF HS.out z.out.2) k U
   have b2:=a7.out k U
   have HN:=aj (a6.out k _ z.out)
   have b3:=z.out.1.cell U
   have b4:=z.out.1.frozen k
   generalize l.getD k 0=x at b0 b2 HN b3
   go_wp2
   go_roundw
   case rel=>exact⟨k+1,by omega,by go_num,HN.out⟩
   case measure=>simp[intOf];omega
  ·have a1: ¬(k:Int)<(n:Int):=by omega
   obtain rfl:k=n:=by omega
   have b5:=a8.out _ z.out
   go_wp2
   go_ret
   exact⟨rfl,z.out.2⟩
def aiL(base:Nat)(w:zW)(l:zI)(e:Ending)(w':zW):Prop:=
 ∃a cap,e=.returned (.slice a (oD l).length cap)/\Dm base w' a (oD l).length (oD l)/\ ∀(J:zW) (z:Nat),z<=base->Below z J w->Below z J w'
def Xx:Prop:= ∀(base:Nat) (v:Value) (l:zI) (w:zW),l.length<=1000->(∀x∈l,(Lit.int .i64 x).wf=true)->w.ownsRow base 3 1 v l.length (l.map (Value.int .i64))->Calls prog 148 #[v] w (aiL base w l)
def nxR(N:zL)(z:zI)(s:Int):zI:=z.map λl=>((fC N s.toNat l:Nat):Int)
def SS(N:zL)(z:zI)(set:zI)(i:Nat):zI:=(set.take i).foldl (λo s=>cu o (nxR N z s)) []
theorem Jy(N:zL)(z set:zI):SS N z set 0=[]:=by simp[SS]
theorem Jz(N:zL)(z set:zI)(i:Nat)(hi:i<set.length):SS N z set (i+1)=cu (SS N z set i) (nxR N z (set.getD i 0)):=by unfold SS;rw[List.take_succ_eq_append_getElem hi,List.foldl_append,aS _ i hi];rfl
theorem UM{r:zI}{x:Int}:x∈cu o r↔x∈o\/x∈r:=by
 induction r generalizing o with
 |nil=>simp[cu]
 |cons y r z=>
  show x∈cu (nk o y) r↔_
  rw[z]
  unfold nk
  by_cases h:y∈o
  ·rw[yP h]
   constructor
   ·rintro(h1|h1)
    ·exact .inl h1
    ·exact .inr (List.mem_cons_of_mem _ h1)
   ·rintro(h1|h1)
    ·exact .inl h1
    ·rcases List.mem_cons.1 h1 with rfl|h1
     ·exact .inl h
     ·exact .inr h1
  ·rw[yN h]
   simp only[List.mem_append,List.mem_cons,List.not_mem_nil,or_false]
   constructor
   ·rintro((h1|h1)|h1)
    ·exact .inl h1
    ·exact .inr (.inl h1)
    ·exact .inr (.inr h1)
   ·rintro(h1|h1|h1)
    ·exact .inl (.inl h1)
    ·exact .inl (.inr h1)
    ·exact .inr h1
theorem Xy{N:zL}{z set:zI}{x:Int}: ∀{i:Nat},i<=set.length->(x∈SS N z set i↔ ∃j,j<i/\x∈nxR N z (set.getD j 0))
 |0,_=>by simp[Jy]
 |i+1,hi=>by
  rw[Jz _ _ _ _ (by omega),UM,Xy (by omega)];constructor
  ·rintro(⟨j,h1,h2⟩|h)
   ·exact⟨j,by omega,h2⟩
   ·exact⟨i,by omega,h⟩
  ·rintro⟨j,h1,h2⟩
   rcases Nat.lt_or_ge j i with h|h
   ·exact .inl ⟨j,h,h2⟩
   ·have:j=i:=by omega
    subst this;exact .inr h2
theorem UN{m:Nat}(hG:aK m n N)(U: ∀x∈z,0<=x/\x<(m:Int)){s:Int}(hs:0<=s/\s<(n:Int)): ∀x∈nxR N z s,0<=x/\x<(n:Int):=λx hx=>by obtain⟨l,h1,rfl⟩:=List.mem_map.1 hx;have:=zi hG (s:=s.toNat) (by omega) (v:=[l]) (λy J=>U y (by simp at J;rw[J];exact h1));have e:ny N s.toNat [l]=fC N s.toNat l:=rfl;rw[e]at this;omega
theorem ads{m n:Nat}{N:zL}(hG:aK m n N){z:zI}(J: ∀x∈z,0<=x/\x<(m:Int)){set:zI}(hs: ∀x∈set,0<=x/\x<(n:Int)): ∀i,i<=set.length->O9 n (SS N z set i)
 |0,_=>by rw[Jy];exact⟨List.nodup_nil,by simp⟩
 |i+1,hi=>by rw[Jz _ _ _ _ (by omega)];exact BH (ads hG J hs i (by omega)) _ (UN hG J (hs _ (by rw[aS _ i (by omega)];exact List.getElem_mem _)))
theorem Xz{m:Nat}(hG:aK m n N)(U: ∀x∈z,0<=x/\x<(m:Int))(M:Nat):oD (SS N z (bV n M) (bV n M).length)=bV n (kC N n z M):=Mf λx=>by
 rw[Xy zr]
 have e:(∃j,j<(bV n M).length/\x∈nxR N z ((bV n M).getD j 0))↔ ∃s∈bV n M,x∈nxR N z s:=by
  constructor
  ·rintro⟨j,h1,h2⟩;exact⟨_,by rw[aS _ j h1];exact List.getElem_mem _,h2⟩
  ·rintro⟨s,h1,h2⟩;obtain⟨j,J,e⟩:=List.getElem_of_mem h1;exact⟨j,J,by rw[aS _ j J,e];exact h2⟩
 rw[e];constructor
 ·rintro⟨s,h1,h2⟩;obtain⟨k0,k1,k2⟩:=iA.1 h1;have Z:=UN hG U (s:=s) (by omega) x h2;obtain⟨l,h3,h4⟩:=List.mem_map.1 h2;refine⟨Z.1,by omega,jW.2 ⟨by omega,s.toNat,k1,k2,l,h3,by omega⟩⟩
 ·rintro⟨h0,h1,h2⟩;obtain⟨k1,s,k2,k3,l,k4,k5⟩:=jW.1 h2;exact⟨(s:Int),iA.2 ⟨by omega,by omega,by simpa using k3⟩,List.mem_map.2 ⟨l,k4,by simp[k5];omega⟩⟩
def MtA(w:zW)(z o:zI)(v:Value)(W:zW):Prop:=
 (W.rowIs w.heap.size 205 80 λp=>.bool (decide ((p:Int)∈z)))/\W.ownsRow w.heap.size 3 1 v o.length (o.map (Value.int .i64))/\Below w.heap.size w W
theorem adt: ∀p,p<80->(zeroCells205)[p]? =some (.bool false):=by
 have e:zeroCells205=Array.replicate 80 (.bool false):=by kernel_rfl
 intro p z;rw[e];simp[z]
theorem adu:(zeroCells205).size=80:=by kernel_rfl
theorem Al{S:Nat}{f:Nat->Value}(h:W.rowIs S 205 n f){base k:Nat}(J:W.ownsRow base 3 1 v k xs):v.ownBlock≠some S:=by
 obtain⟨c,hc,_⟩:=h;rcases J.2 with⟨rfl,_⟩|⟨g,cap,cur,rfl,_,z,_⟩
 ·simp[Value.ownBlock]
 ·intro e
  obtain rfl:g=S:=by simpa[Value.ownBlock]using e
  rw[hc]at z;simp at z
theorem ZG(w:zW):MtA w [] [] (.slice none 0 0) (w.alloc (.cells zeroCells205 205)):=
 ⟨⟨_,zl w _,adu,λp z=>by rw[adt p z];simp⟩,World.ownsRow_nil _ _ _ _,zb.alloc zr _⟩
theorem adv{w:zW}(h:MtA w z o v W)(x:Nat):MtA w (z++[(x:Int)]) o v (W.setCell ⟨w.heap.size,x,none⟩ (.bool true)):=by
 refine⟨(h.1.set x (.bool true)).congr λp J=>?_,ownsRow_setCell_other h.2.1 (Al h.1 h.2.1) _,h.2.2.setCell zr _⟩;by_cases e:p=x
 ·subst e;simp
 ·rw[yN e]
  have: ¬((p:Int)=(x:Int)):=by omega
  simp[this]
theorem adw{w:zW}{Z:zI}{v':Value}{J:zW}{U:Obj}{x:Int}(h:MtA w Z o v W)(hown:J.ownsRow w.heap.size 3 1 v' (o.length+1) (o.map (Value.int .i64)++[.int .i64 x]))(z:(W.alloc U).grownBy J v.ownBlock):MtA w Z (o++[x]) v' J:=by refine⟨(h.1.alloc U).of_block (z.block _ (by have:=h.1.lt;simp;omega) (λe=>Al h.1 h.2.1 e.symm)),by rw[List.length_append,List.map_append];exact hown,?_⟩;exact Below.grown (h.2.2.alloc h.2.2.size U) z (by have:=h.2.2.size;simp;omega) (λk hk=>(h.2.1.lt k hk).1)
theorem JA{base:Nat}(h:W.ownsRow base 3 1 v n xs): ∃a c,v=.slice a n c:=by
 rcases h.2 with⟨rfl,rfl⟩|⟨g,cap,cur,rfl,_⟩
 ·exact⟨none,0,rfl⟩
 ·exact⟨_,_,rfl⟩
theorem JB(HO:Xx)(b t:Int)(a:zO)(n cap:Nat)(a':zO)(k' a6:Nat)(m:Nat)(N:zL)(d8:zO)(U sc:Nat)(set:zI)(al:zO)(ll cl:Nat)(J:zI)(w:zW)(hs:gT w a n N)(hG:aK m n N)(hn:n<=80)(b2:Sl w d8 U set)(a7: ∀x∈set,0<=x/\x<(n:Int))(b7:Sl w al ll J)(hl: ∀x∈J,0<=x/\x<(m:Int)):
  Calls prog 138 #[.agg #[.int .i64 b,.int .i64 t,.slice a n cap,.slice a' k' a6],.slice d8 U sc,.slice al ll cl] w (fH w (oD (SS N J set set.length))):=by
 obtain⟨i0,g7,hz0,hz1,hz2⟩:=info_parts rX
 have hL:=b7.1
 have c0:=b2.1
 have f2:=b7.2.1
 have f3:=b2.2.1
 unfold maxLen at f2 f3
 have j6:=hG.2.1
 have c3:Hid (Below w.heap.size w (w.alloc (.cells #[.int .i64 b,.int .i64 t,.slice a n cap,.slice a' k' a6] 35))):=zb.alloc zr _
 have d9:=aj (Hl (w:=w) (v0:=.int .i64 b) (v1:=.int .i64 t) (v2:=.slice a n cap) (v3:=.slice a' k' a6) (T:=35) zb)
 have HS:=aj hs
 have f5:=aj b2
 have g8:=aj b7
 have g9:Hid (∀i,i<U->0<=set.getD i 0/\set.getD i 0<(n:Int)):=λi hi=>a7 _ (by rw[aS _ i (by omega)];exact List.getElem_mem _)
 have c4:=aj (ads hG hl a7)
 have f6:Hid (∀s:Int,0<=s/\s<(n:Int)-> ∀x∈nxR N J s,0<=x/\x<(n:Int)):=λs h=>UN hG hl h
 have i1:Hid (∀i,i<ll->0<=J.getD i 0/\J.getD i 0<(m:Int)):=λi hi=>hl _ (by rw[aS _ i (by omega)];exact List.getElem_mem _)
 have f7:Hid (∀s,s<n->(N.getD s []).length=m/\ ∀j,j<m->0<=(N.getD s []).getD j 0/\(N.getD s []).getD j 0<(n:Int)):=hG.2.2.2.2.2
 have c5:=aj (λi=>Jz N J set i)
 rw[c0]at c5 c4
 have f8:Hid (∀s,(nxR N J s).length=ll):=λs=>by rw[<-hL];simp[nxR]
 have f9:Hid (∀s i,i<ll->(nxR N J s).getD i 0=((fC N s.toNat (J.getD i 0):Nat):Int)):=λs i hi=>by simp[nxR,List.getD,show i<J.length by omega]
 have c6:Hid (∀(v:Value) (W:zW),MtA (w.alloc (.cells #[.int .i64 b,.int .i64 t,.slice a n cap,.slice a' k' a6] 35)) (SS N J set U) (SS N J set U) v W->Calls prog 148 #[v] W (fH w (oD (SS N J set set.length)))):=λv W h=>by have ho:=c4.out U zr;rw[c0];have hlen:=uh n _ ho;refine(HO _ v (SS N J set U) W (by omega) (abM (by omega) ho) h.2.1).mono ?_;rintro e w' ⟨a1,c1,rfl,h1,h2⟩;exact⟨a1,c1,rfl,⟨h1.1,λad e=>by have:=h1.2 ad e;simp at this;omega⟩,h2 w w.heap.size (by simp) (zb.alloc zr _ |>.trans (h.2.2.mono (by simp)))⟩
 clear hs b2 b7 hl a7 hG HO hL c0
 generalize e0:w.alloc (.cells #[.int .i64 b,.int .i64 t,.slice a n cap,.slice a' k' a6] 35)=wb at c3 d9 c6
 have i2:Hid (wb.heap.size=w.heap.size+1):=by show _=_;rw[<-e0];simp
 have c7:=aj (ZG wb)
 have e1:Hid (∀U o v W,MtA wb U o v W->Below w.heap.size w W):=λU o v W h=>c3.out.trans (h.2.2.mono c3.out.size)
 have g1:Hid (∀U o v W,MtA wb U o v W->W.cell? ⟨w.heap.size,2,none⟩=some (.slice a n cap)):=λU o v W h=>by
  have b3:w.heap.size<wb.heap.size:=by rw[i2.out];omega
  exact(h.2.2.cell (p:=⟨w.heap.size,2,none⟩) b3).trans d9.out.2.2.1
 go_enter func138,ntmps138
 go_wp2_with fail
 clear e0
 generalize wb.alloc (.cells zeroCells205 205)=W0 at c7⊢
 rw[<-Jy N J set]at c7
 go_loopw[8,16] (λv u wx=> ∃i:Nat,i<=U/\u=.int .i64 i/\MtA wb (SS N J set i) (SS N J set i) v wx) (λ_ u _=>U-(intOf u).toNat)
 case atStart=>exact⟨0,by omega,rfl,c7.out⟩
 case round=>
  obtain⟨i,hi,rfl,a8⟩:=hrel
  have z:=aj a8
  clear a8
  by_cases b3:i<U
  ·have g2:(i:Int)<(U:Int):=by omega
   obtain⟨b1,o1,rfl,b4⟩:=bH (aF f5.out (e1.out _ _ _ _ z.out)) i b3
   have a7:=g9.out i b3
   have a2:=aj (c5.out i b3)
   have c8:=aj (c4.out i (by omega))
   obtain⟨s,hs⟩: ∃s:Nat,set.getD i 0=s:=⟨(set.getD i 0).toNat,by omega⟩
   rw[hs]at b4 a7 a2
   have e2:s<n:=by omega
   have j0:(s:Int)<(n:Int):=by omega
   have b8:=aj (f6.out (s:Int) a7)
   have c9:=aj (f8.out (s:Int))
   have d0:=aj (f9.out (s:Int))
   rw[Int.toNat_natCast]at d0
   obtain⟨e3,e4⟩:=f7.out s e2
   obtain⟨bn,on,a1,c1,rfl,b5,d1⟩:=gF HS.out s e2
   rw[e3]at b5 d1
   have d2:=aj b5
   have g3:=aj d1
   have i4:=aj e4
   clear d1 e4 b5 e3 hs a7
   generalize hO:SS N J set i=O at z a2 c8⊢
   clear hO
   generalize i5:nxR N J (s:Int)=row at b8 c9 d0 a2
   clear i5
   have g4:Hid (∀q,O9 n (cu O (row.take q))):=λq=>BH c8.out _ λx hx=>b8.out x (List.mem_of_mem_take hx)
   have e5:=aj (λq=>jm O row q)
   have d3:Hid (cu O (row.take ll)=cu O row):=by show _=_;rw[<-c9.out,Hg]
   rw[c9.out]at e5
   obtain⟨av,cv,rfl⟩:=JA z.out.2.1
   have d4:Hid (MtA wb (cu O (row.take 0)) (cu O (row.take 0)) (.slice av O.length cv) wr):=z.out
   clear z
   go_wp2
   obtain⟨wo,e6⟩: ∃wo:zW,wo=wr:=⟨_,rfl⟩
   rw[<-e6]at d4⊢
   clear e6 b4 wr
   go_loopw[8,22] (λv u wx=> ∃q:Nat,q<=ll/\u=.int .i64 q/\MtA wb (cu O (row.take q)) (cu O (row.take q)) v wx) (λ_ u _=>ll-(intOf u).toNat)
   case atStart=>exact⟨0,by omega,rfl,d4.out⟩
   case round=>
    obtain⟨q,hq,rfl,a8⟩:=hrel
    have z:=aj a8
    obtain⟨j7,j8,rfl⟩:=JA a8.2.1
    clear a8
    by_cases b9:q<ll
    ·have g5:(q:Int)<(ll:Int):=by omega
     have d5:=aj (e1.out _ _ _ _ z.out)
     obtain⟨bl,ol,rfl,i6⟩:=bH (aF g8.out d5.out) q b9
     have e7:=i1.out q b9
     have b6:=aj (d0.out q b9)
     have Z:=aj (e5.out q b9)
     have e8:=uh n _ (g4.out q)
     obtain⟨y,hy⟩: ∃y:Nat,J.getD q 0=y:=⟨(J.getD q 0).toNat,by omega⟩
     rw[hy]at i6 e7 b6
     have e9:y<m:=by omega
     have j1:(y:Int)<(m:Int):=by omega
     have j2:=g1.out _ _ _ _ z.out
     have j9:=(d5.out.cell (p:=⟨bn,on+s,none⟩) (zk w _ d2.out)).trans d2.out
     obtain⟨br,k0,rfl,i7⟩:=bH (aF g3.out d5.out) y e9
     have f0:=i4.out y e9
     obtain⟨x,hx⟩: ∃x:Nat,(N.getD s []).getD y 0=x:=⟨((N.getD s []).getD y 0).toNat,by omega⟩
     have f1:fC N s (y:Int)=x:=by have e:fC N s (y:Int)=((N.getD s []).getD y 0).toNat:=rfl;rw[e,hx];rfl
     rw[f1]at b6
     rw[b6.out]at Z
     rw[hx]at i7 f0
     have i8:x<80:=by omega
     have j3:(x:Int)<80:=by omega
     clear hx f0 hy e7 f1
     have b4:=z.out.1.cell i8
     have k3:=z.out.1.frozen x
     by_cases b0:(x:Int)∈cu O (row.take q)
     ·rw[qV b0]at Z
      rw[yT b0]at b4
      clear b0
      generalize cu O (row.take q)=Oq at z Z e8⊢
      go_wp2
      go_roundw
      case rel=>exact⟨q+1,by omega,by go_num,by rw[Z.out];exact z.out⟩
      case measure=>simp[intOf];omega
     ·rw[vJ b0]at Z
      rw[yF b0]at b4
      clear b0
      generalize cu O (row.take q)=Oq at z Z e8⊢
      have d6:=aj (adv z.out x)
      have g6:=aj d6.out.2.1
      have i9:=aj d6.out.2.2.size
      have j4:Hid ((wr.setCell ⟨wb.heap.size,x,none⟩ (.bool true)).heap.size=wr.heap.size):=by show _=_;simp
      go_wp2_with (at_builtin;refine wpList_append_own _ rfl _ _ 24 rfl wb.heap.size 3 i0 (.int .i64 0) 1 8 underlying24 g7 hz0 hz1 hz2 rfl (by decide) _ Oq.length (Oq.map (Value.int .i64)) rfl (g6.out.alloc _) ⟨wr.heap.size,0,none⟩ 1 1 [.int .i64 x] rfl rfl (oh _ _ _ _ (by simp)) (λu hu=>by simp at hu;subst hu;rfl) (by unfold maxLen;omega) (by omega) (by have:=i9.out;simp at this⊢;omega) ?_;intro v' w3 hown d7 j5)
      go_roundw
      case rel=>exact⟨q+1,by omega,by go_num,by rw[Z.out];exact adw d6.out hown d7⟩
      case measure=>simp[intOf];omega
    ·have g5: ¬((q:Int)<(ll:Int)):=by omega
     obtain rfl:q=ll:=by omega
     rw[d3.out]at z
     rw[d3.out]
     go_wp2
     go_roundw
     case rel=>exact⟨i+1,by omega,by go_num,by rw[a2.out];exact z.out⟩
     case measure=>simp[intOf];omega
  ·have g2: ¬(i:Int)<(U:Int):=by omega
   obtain rfl:i=U:=by omega
   have HF:=aj (c6.out _ _ z.out)
   obtain⟨av,cv,rfl⟩:=JA z.out.2.1
   go_wp2_with (go_at_call 148;refine HF.out.mono ?_;intro e w' h;have HR:=aj h;obtain⟨ar,cr,rfl,-⟩:=h)
   go_ret
   exact HR.out
end Go.Proofs.YtceojneljnnooaaGreat
