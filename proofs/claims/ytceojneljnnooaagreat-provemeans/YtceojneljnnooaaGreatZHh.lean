import Derived.Test.YtceojneljnnooaaGreatZHc
import Derived.StringKeys
open Go.Proofs.Tryz
namespace Go.Proofs.YtceojneljnnooaaGreat
open Go.RowKit
set_option maxHeartbeats 0
set_option maxRecDepth 100000
set_option linter.all false
variable{W W':zW}{F G:Nat->Prop}{base m n bx k f qn qe i mv sv:Nat}{vals xs:zV}{rows:Nat->zI}{d:Nat->Nat->Nat}{col:Nat->Nat}{L:List Nat}{es:Nat->Bool}{v vN vE:Value}{b t:Int}{e:TypeId}
structure SX (F:Nat->Prop) (W W':zW):Prop where
 os:W'.os=W.os
 tape:W'.tape=W.tape
 output:W'.output=W.output
 size:W.heap.size<=W'.heap.size
 block: ∀x,x<W.heap.size-> ¬F x->W'.heap[x]? =W.heap[x]?
theorem mK{z:Nat->Prop}{W1 W2:zW}(h:SX F W W1)(h1:SX z W1 W2)(U: ∀x,x<W.heap.size->z x->F x):SX F W W2:=
 ⟨h1.os.trans h.os,h1.tape.trans h.tape,h1.output.trans h.output,Nat.le_trans h.size h1.size,λx hx J=>(h1.block x (Nat.lt_of_lt_of_le hx h.size) (λk=>J (U x hx k))).trans (h.block x hx J)⟩
theorem Em(h:Below W.heap.size W W'):SX F W W':=⟨h.os,h.tape,h.output,h.size,λx hx _=>h.block x hx⟩
theorem mM{B:Nat}{w:zW}(h:Below B w W)(h1:SX F W W')(z: ∀x,F x->B<=x)(J:B<=W.heap.size):Below B w W':=
 ⟨h1.os.trans h.os,h1.tape.trans h.tape,h1.output.trans h.output,Nat.le_trans h.size h1.size,λx hx=>(h1.block x (by omega) (λk=>by have:=z x k;omega)).trans (h.block x hx)⟩
theorem zJ{r:Option Nat}(h:W.grownBy W' r)(z: ∀x,r=some x->F x):SX F W W':=⟨h.os,h.tape,h.output,h.size,λx hx J=>h.block x hx (λe=>J (z x e.symm))⟩
theorem En(W:zW)(o:Obj):SX F W (W.alloc o):=Em (zb.alloc zr _)
theorem Oe(W:zW){a:Addr}(z:F a.block)(v:Value):SX F W (W.setCell a v):=⟨rfl,rfl,rfl,by simp,λx _ J=>Below.heap_setCell _ _ _ _ (λe=>J (e▸z))⟩
theorem UO{b:Nat}(h:W.mapTurned W' b)(hb:F b):SX F W W':=zJ h.grown (λx e=>by cases e;exact hb)
def FV(n M:Nat):Value:=.string (strOfNums (bV n M))
theorem adx{M z:Nat}(Z:n<=80)(h:M<2^n)(J:z<2^n)(e:FV n M=FV n z):M=z:=by
 unfold FV at e;injection e with e;have U:Ux (bV n M)=Ux (bV n z):=by have:=congrArg (λb:ByteArray=>b.data.toList) e;rw[strOfNums_data,strOfNums_data]at this;exact this
 have hb: ∀K,∀x∈bV n K,0<=x/\x<256:=λK x hx=>by have:=iA.1 hx;omega
 exact acZ h J (Q7 (hb M) (hb z) U)
theorem ady(z:n<=80)(M:Nat):keyOf prog 9 (FV n M)=some (.string (strOfNums (bV n M)).data.toList):=
 WideMaps.keyOf_string_mk underlying9 (by rw[strOfNums_size];have:=Jo n M;unfold maxLen;omega)
def Og(n:Nat)(L:List Nat):List (Value × Value):=(List.range L.length).map λi=>(FV n (L.getD i 0),Value.int .i64 (i:Int))
theorem adz(n:Nat)(L:List Nat):(Og n L).length=L.length:=by simp[Og]
theorem adA(n:Nat)(L:List Nat)(M:Nat):Og n (L++[M])=Og n L++[(FV n M,Value.int .i64 (L.length:Int))]:=by
 unfold Og;rw[List.length_append,List.length_singleton,List.range_succ,List.map_append];congr 1
 ·refine List.map_congr_left λi hi=>?_;have:=List.mem_range.1 hi;simp[List.getD,List.getElem?_append_left this]
 ·simp[List.getD]
theorem adB{M:Nat}(h:M∈L):(FV n M,Value.int .i64 ((L.idxOf M:Nat):Int))∈Og n L:=by refine List.mem_map.2 ⟨L.idxOf M,List.mem_range.2 (List.idxOf_lt_length_of_mem h),?_⟩;rw[Gl h]
theorem adC{M:Nat}(J:n<=80)(U:M<2^n)(Z: ∀x∈L,x<2^n)(h: ¬M∈L): ¬FV n M∈(Og n L).map Prod.fst:=λhx=>by obtain⟨p,hp,e⟩:=List.mem_map.1 hx;obtain⟨i,hi,rfl⟩:=List.mem_map.1 hp;have z:=List.mem_range.1 hi;have hm:=jO z;exact h (adx J (Z _ hm) U e▸hm)
structure Oh (base n mv sv:Nat) (L:List Nat) (F:Nat->Prop) (W:zW) (mb:Nat) (v:Value) (vals:zV):Prop where
 hm:W.heap[mv]? =some (.cells #[.map (some mb)] 187 (0,0))
 map:eu prog 9 W mb (Og n L)
 hv:W.heap[sv]? =some (.cells #[v] 32 (0,0))
 own:W.ownsRow base 24 1 v L.length vals
 rows: ∀j,j<L.length-> ∃a cap,vals[j]? =some (.slice a (bV n (L.getD j 0)).length cap)/\Sl W a (bV n (L.getD j 0)).length (bV n (L.getD j 0))/\ ∀x,Tk a (bV n (L.getD j 0)).length x->F x/\x≠mb/\x≠mv/\x≠sv/\v.ownBlock≠some x
 fmb:F mb
 fmv:F mv
 fsv:F sv
 fv: ∀x,v.ownBlock=some x->F x/\x≠mb/\x≠mv/\x≠sv
 ne1:mb≠mv
 ne2:mb≠sv
 ne3:mv≠sv
 lt: ∀x,F x->base<=x/\x<W.heap.size
 hb:base<=W.heap.size
theorem qN{mb:Nat}(h:Oh base n mv sv L F W mb v vals)(z: ∀x,F x->W'.heap[x]? =W.heap[x]?)(J:W.heap.size<=W'.heap.size):Oh base n mv sv L F W' mb v vals where
 hm:=(z _ h.fmv).trans h.hm
 map:=h.map.of_block (z _ h.fmb)
 hv:=(z _ h.fsv).trans h.hv
 own:=aX h.own λx hx=>z x (h.fv x hx).1
 rows:=λj Z=>by obtain⟨a,cap,e1,e2,U⟩:=h.rows j Z;exact⟨a,cap,e1,ng e2 λx hx=>z x (U x hx).1,U⟩
 fmb:=h.fmb
 fmv:=h.fmv
 fsv:=h.fsv
 fv:=h.fv
 ne1:=h.ne1
 ne2:=h.ne2
 ne3:=h.ne3
 lt:=λx hx=>⟨(h.lt x hx).1,Nat.lt_of_lt_of_le (h.lt x hx).2 J⟩
 hb:=Nat.le_trans h.hb J
def wX(base n mv sv:Nat)(L:List Nat)(F:Nat->Prop)(W:zW):Prop:= ∃mb v vals,Oh base n mv sv L F W mb v vals
theorem UQ(h:wX base n mv sv L F W)(J: ∀x,F x->W'.heap[x]? =W.heap[x]?)(z:W.heap.size<=W'.heap.size):wX base n mv sv L F W':=by obtain⟨mb,v,vals,h⟩:=h;exact⟨mb,v,vals,qN h J z⟩
theorem Fw(h:wX base n mv sv L F W)(hb:Below W.heap.size W W'):wX base n mv sv L F W':=by obtain⟨mb,v,vals,h⟩:=h;exact⟨mb,v,vals,qN h (λx hx=>hb.block x (h.lt x hx).2) hb.size⟩
def akB(F:Nat->Prop)(a:zO)(len z hi:Nat)(x:Nat):Prop:=F x\/Tk a len x\/(z<=x/\x<hi)
theorem adD{base n mv sv:Nat}{L:List Nat}{F:Nat->Prop}{W1 w2 U:zW}{mb:Nat}{v:Value}{vals:zV}{a:zO}{M cap:Nat}{o:Obj}{z J:Nat}(h:Oh base n mv sv L F W1 mb v vals)(hs:Sl W1 a (bV n M).length (bV n M))(a7: ∀x,Tk a (bV n M).length x-> ¬F x/\base<=x)(b7:eu prog 9 w2 mb (Og n L++[(FV n M,.int .i64 (L.length:Int))]))(a1:W1.mapTurned w2 mb)(hown:U.ownsRow base 24 1 (.slice (some ⟨z,0,none⟩) (L.length+1) J) (L.length+1) (vals++[.slice a (bV n M).length cap]))(Z:(w2.alloc o).grownBy U v.ownBlock)(b3:v.ownBlock=some z\/z=(w2.alloc o).heap.size):
  (U.cell? ⟨sv,0,none⟩=some v/\U.frozen? ⟨sv,0,none⟩=false)/\Oh base n mv sv (L++[M]) (akB F a (bV n M).length W1.heap.size U.heap.size) (U.setCell ⟨sv,0,none⟩ (.slice (some ⟨z,0,none⟩) (L.length+1) J)) mb (.slice (some ⟨z,0,none⟩) (L.length+1) J) (vals++[.slice a (bV n M).length cap])/\SX F W1 (U.setCell ⟨sv,0,none⟩ (.slice (some ⟨z,0,none⟩) (L.length+1) J)):=by
 have s2:=a1.grown.size
 have s3:=Z.size
 rw[World.size_alloc]at s3
 have c7:W1.heap.size<U.heap.size:=by omega
 have k2: ∀x,x<W1.heap.size->x≠mb->w2.heap[x]? =W1.heap[x]? :=λx hx a6=>a1.grown.block x hx (λe=>a6 (by cases e;rfl))
 have k3: ∀x,x<W1.heap.size->x≠mb->v.ownBlock≠some x->U.heap[x]? =W1.heap[x]? :=λx hx a6 hv=>by rw[Z.block x (by rw[World.size_alloc];omega) (λe=>hv e.symm),Below.heap_alloc _ _ _ (by omega),k2 x hx a6]
 have k4: ∀x,x<W1.heap.size->x≠mb->v.ownBlock≠some x->x≠sv->(U.setCell ⟨sv,0,none⟩ (.slice (some ⟨z,0,none⟩) (L.length+1) J)).heap[x]? =W1.heap[x]? :=λx hx a6 hv b9=>by rw[Below.heap_setCell _ _ _ _ b9,k3 x hx a6 hv]
 have b4:v.ownBlock≠some sv:=λe=>(h.fv _ e).2.2.2 rfl
 have c0:v.ownBlock≠some mv:=λe=>(h.fv _ e).2.2.1 rfl
 have c3:v.ownBlock≠some mb:=λe=>(h.fv _ e).2.1 rfl
 have b5:=(h.lt _ h.fsv).2
 have c4:=(h.lt _ h.fmv).2
 have c8:=(h.lt _ h.fmb).2
 have a8:U.heap[sv]? =some (.cells #[v] 32 (0,0)):=(k3 sv b5 (Ne.symm h.ne2) b4).trans h.hv
 have b0:z=z/\(∀x,x<W1.heap.size->v.ownBlock≠some x->x≠z):=⟨rfl,λx hx hv e=>by
  rcases b3 with h1|h1
  ·exact hv (by rw[e];exact h1)
  ·rw[World.size_alloc]at h1;omega⟩
 have b2:(U.setCell ⟨sv,0,none⟩ (.slice (some ⟨z,0,none⟩) (L.length+1) J)).ownsRow base 24 1 (.slice (some ⟨z,0,none⟩) (L.length+1) J) (L.length+1) (vals++[.slice a (bV n M).length cap]):=
  ownsRow_setCell_other hown (λe=>b0.2 sv b5 b4 (by simpa[Value.ownBlock]using e.symm)) _
 have c5:vals.length=L.length:=by have:=h.own.1;omega
 have c6:z<U.heap.size:=(hown.lt z (by simp[Value.ownBlock])).2
 have c9:base<=z:=(hown.lt z (by simp[Value.ownBlock])).1
 refine⟨⟨by simp[World.cell?,a8],by simp[World.frozen?,a8]⟩,?_,?_⟩
 ·refine⟨(k4 mv c4 (Ne.symm h.ne1) c0 h.ne3).trans h.hm,?_,?_,by rw[List.length_append];exact b2,λj hj=>?_,.inl h.fmb,.inl h.fmv,.inl h.fsv,λx hx=>?_,h.ne1,h.ne2,h.ne3,λx hx=>?_,?_⟩
  ·rw[adA]
   exact((b7.alloc o).grown Z (λe=>c3 e.symm)).setCell h.ne2 _
  ·simp[World.setCell,Array.getElem?_modify,a8]
  ·rw[List.length_append,List.length_singleton]at hj
   by_cases e:j=L.length
   ·subst e
    have e1:(L++[M]).getD L.length 0=M:=by simp[List.getD]
    rw[e1]
    refine⟨a,cap,by rw[List.getElem?_append_right (by omega),c5];simp,ng hs λx hx=>?_,λx hx=>?_⟩
    ·obtain⟨hn,_⟩:=a7 x hx
     exact k4 x (pX hs hx) (λe=>hn (e▸h.fmb)) (λe=>hn (h.fv x e).1) (λe=>hn (e▸h.fsv))
    ·obtain⟨hn,_⟩:=a7 x hx
     refine⟨.inr (.inl hx),λe=>hn (e▸h.fmb),λe=>hn (e▸h.fmv),λe=>hn (e▸h.fsv),λe=>?_⟩
     exact b0.2 x (pX hs hx) (λe=>hn (h.fv x e).1) (by simpa[Value.ownBlock]using e.symm)
   ·have b6:j<L.length:=by omega
    have e1:(L++[M]).getD j 0=L.getD j 0:=by simp[List.getD,List.getElem?_append_left b6]
    rw[e1]
    obtain⟨a2,b8,r1,r2,r3⟩:=h.rows j b6
    refine⟨a2,b8,by rw[List.getElem?_append_left (by omega)];exact r1,ng r2 λx hx=>?_,λx hx=>?_⟩
    ·obtain⟨q1,q2,q3,q4,q5⟩:=r3 x hx
     exact k4 x (pX r2 hx) q2 q5 q4
    ·obtain⟨q1,q2,q3,q4,q5⟩:=r3 x hx
     exact⟨.inl q1,q2,q3,q4,λe=>b0.2 x (pX r2 hx) q5 (by simpa[Value.ownBlock]using e.symm)⟩
  ·have e:z=x:=by simpa[Value.ownBlock]using hx
   subst e
   rcases b3 with h1|h1
   ·obtain⟨q1,q2,q3,q4⟩:=h.fv _ h1
    exact⟨.inl q1,q2,q3,q4⟩
   ·rw[World.size_alloc]at h1
    exact⟨.inr (.inr ⟨by omega,c6⟩),by omega,by omega,by omega⟩
  ·have b1:(U.setCell ⟨sv,0,none⟩ (.slice (some ⟨z,0,none⟩) (L.length+1) J)).heap.size=U.heap.size:=by simp
   rw[b1]
   rcases hx with hx|hx|hx
   ·have:=h.lt x hx;omega
   ·have:=pX hs hx;have:=(a7 x hx).2;omega
   ·have:=h.hb;omega
  ·have b1:(U.setCell ⟨sv,0,none⟩ (.slice (some ⟨z,0,none⟩) (L.length+1) J)).heap.size=U.heap.size:=by simp
   rw[b1];have:=h.hb;omega
 ·exact mK (mK (mK (UO a1 h.fmb) (En (F:=F) w2 o) (λ_ _ hx=>hx)) (zJ (F:=F) Z (λx e=>(h.fv x e).1)) (λ_ _ hx=>hx)) (Oe (F:=F) U (a:=⟨sv,0,none⟩) h.fsv _) (λ_ _ hx=>hx)
theorem UR:(prog.info? 24).map (λi=>(i.zero,i.size,i.bytes))=some (some (.slice none 0 0),1,24):=by kernel_rfl
def ajY(base n mv sv:Nat)(L:List Nat)(F:Nat->Prop)(M:Nat)(a:zO)(W:zW)(e:Ending)(W':zW):Prop:=
 e=.returned (.int .i64 (((vL L M).idxOf M:Nat):Int))/\ ∃z,wX base n mv sv (vL L M) z W'/\(∀x,F x->z x)/\(∀x,z x->F x\/Tk a (bV n M).length x\/W.heap.size<=x)/\SX F W W'
theorem qO(w:zW):(zeroValue 3).run prog w=.ok (.int .i64 0) w:=zeroValue3 w
theorem JC(base n mv sv:Nat)(L:List Nat)(F:Nat->Prop)(M:Nat)(a:zO)(cap:Nat)(W:zW)(h:wX base n mv sv L F W)(hs:Sl W a (bV n M).length (bV n M))(hM:M<2^n)(hL: ∀x∈L,x<2^n)(hn:n<=80)(hlen:L.length<=4000)(a1: ∀x,Tk a (bV n M).length x-> ¬F x/\base<=x):
  Calls prog 135 #[.slice a (bV n M).length cap,.pointer (some ⟨mv,0,none⟩),.pointer (some ⟨sv,0,none⟩)] W (ajY base n mv sv L F M a W):=by
 obtain⟨mb,v,vals,h⟩:=h
 obtain⟨j0,c6,c7,c8,c9⟩:=info_parts UR
 have d8:=Jo n M
 have HK:=aj (agM a (bV n M).length cap (bV n M) W hs (by omega) (λx hx=>by have:=iA.1 hx;omega))
 unfold aiK at HK
 have U:=aj (ady hn M)
 have b1:Hid (Value.string (strOfNums (bV n M))=FV n M):=rfl
 have H1:Hid (∀W1,Below W.heap.size W W1->Oh base n mv sv L F W1 mb v vals):=λW1 hb=>qN h (λx hx=>hb.block x (h.lt x hx).2) hb.size
 have d0:Hid (∀W1,Below W.heap.size W W1->Sl W1 a (bV n M).length (bV n M)):=λW1 hb=>aF hs hb
 have c3:=aj a1
 have b5:Hid (∀W1,Oh base n mv sv L F W1 mb v vals->W1.cell? ⟨mv,0,none⟩=some (.map (some mb))/\W1.cell? ⟨sv,0,none⟩=some v):=λW1 h=>⟨by simp[World.cell?,h.hm],by simp[World.cell?,h.hv]⟩
 obtain⟨av,cv,hv⟩: ∃av cv,v=.slice av L.length cv:=by
  rcases h.own.2 with⟨e1,e2⟩|⟨g,c,cur,e,_⟩
  ·exact⟨none,0,by rw[e1,e2]⟩
  ·exact⟨_,_,e⟩
 subst hv
 by_cases Z:M∈L
 ·have b2:=aj (adB (n:=n) Z)
  have a6:=aj (xI Z)
  clear h hs a1 Z hM hL
  go_enter func135,ntmps135
  go_wp2_with (first
   |(go_at_call 136;refine HK.out.mono ?_;rintro e W1 ⟨rfl,J⟩;have a7:=aj J;have z:=aj (H1.out _ J);clear J;obtain⟨c1,c2⟩:=b5.out _ z.out;rw[b1.out];generalize FV n M=kv at U b2⊢)
   |(at_lookup;refine jM _ rfl _ _ 187 rfl 9 3 (Maps.string_keyed underlying9) underlying187 (qO _) mb _ rfl z.out.map _ _ rfl U.out _ b2.out ?_))
  go_ret
  exact⟨by rw[a6.out];rfl,F,by rw[a6.out];exact⟨mb,_,vals,z.out⟩,λ_ hx=>hx,λ_ hx=>.inl hx,Em a7.out⟩
 ·have b3:=aj (adC hn hM hL Z)
  have a6:=aj (xJ Z)
  have d1:Hid ((L++[M]).idxOf M=L.length):=by show _=_;rw[List.idxOf_append,yN Z];simp
  have hbase:=h.hb
  clear h hs a1 Z hM hL
  go_enter func135,ntmps135
  go_wp2_with (first
   |(go_at_call 136;refine HK.out.mono ?_;rintro e W1 ⟨rfl,J⟩;have a7:=aj J;have z:=aj (H1.out _ J);have c4:=aj (d0.out _ J);clear J;obtain⟨c1,c2⟩:=b5.out _ z.out;have b4:=aj (λw2 w3 o g' a2 k1 k2 k3 k4 k5=>@adD base n mv sv L F W1 w2 w3 mb (.slice av L.length cv) vals a M cap o g' a2 z.out c4.out c3.out k1 k2 k3 k4 k5);rw[b1.out];generalize d2:FV n M=kv at U b3 b4⊢;clear d2 b1)
   |(at_lookup;refine jo _ rfl _ _ 187 rfl 9 3 (Maps.string_keyed underlying9) underlying187 (qO _) mb _ rfl z.out.map _ _ rfl U.out b3.out ?_)
   |(at_mapUpdate;refine jT _ rfl _ _ _ 187 rfl 9 3 (Maps.string_keyed underlying9) underlying187 mb _ rfl z.out.map (by rw[adz];unfold maxLen;omega) kv (.int .i64 (L.length:Int)) _ rfl rfl U.out b3.out ?_;intro w2 b6 b7;have d3:=aj b6;have a8:=aj b7;clear b6 b7;have d9:w2.cell? ⟨sv,0,none⟩=some (.slice av L.length cv):=(World.cell?_of_block (a:=⟨sv,0,none⟩) (a8.out.grown.block sv (z.out.lt _ z.out.fsv).2 (λe=>z.out.ne2 (by cases e;rfl)))).trans c2;have d4:Hid (w2.ownsRow base 24 1 (.slice av L.length cv) L.length vals):=(aX z.out.own (λx hx=>a8.out.grown.block x (z.out.lt _ (z.out.fv x hx).1).2 (λe=>(z.out.fv x hx).2.1 (by cases e;rfl))));have d5:Hid (base<=w2.heap.size):=(Nat.le_trans z.out.hb a8.out.grown.size))
   |(at_builtin;refine wpList_append_lies _ rfl _ _ 32 rfl base 24 j0 (.slice none 0 0) 1 24 underlying32 c6 c7 c8 c9 rfl (by decide) (.slice av L.length cv) L.length vals rfl (d4.out.alloc _) ⟨w2.heap.size,0,none⟩ 1 1 [.slice a (bV n M).length cap] rfl rfl (fV _ _ _) (λu hu=>by simp at hu;subst hu;rfl) (by omega) (by unfold maxLen;omega) (by omega) (by have:=d5.out;simp;omega) (w2.heap.size+1) (by simp) ?_;intro g' a2 w3 hown b0 b8 c5;obtain⟨⟨e0,e3⟩,b9,c0⟩:=b4.out w2 w3 _ g' a2 d3.out a8.out hown b0 (by rw[World.size_alloc];exact b8);have d6:=aj b9;have d7:=aj c0;clear b9 c0 hown b0 b8 c5))
  go_ret
  unfold ajY
  rw[a6.out]
  refine⟨by rw[d1.out];rfl,_,⟨mb,_,_,d6.out⟩,λx hx=>.inl hx,λx hx=>?_,mK (Em a7.out) d7.out (λ_ _ hx=>hx)⟩
  rcases hx with hx|hx|hx
  ·exact .inl hx
  ·exact .inr (.inl hx)
  ·exact .inr (.inr (Nat.le_trans a7.out.size hx.1))
structure wJ (base bx m:Nat) (b t:Int) (rows:Nat->zI) (es:Nat->Bool) (qn qe:Nat) (G:Nat->Prop) (W:zW) (vN vE:Value) (vals:zV):Prop where
 box:W.heap[bx]? =some (.cells #[.int .i64 b,.int .i64 t,vN,vE] 35 (0,0))
 CP:W.ownsRow base 24 1 vN qn vals
 CQ:W.ownsRow base 4 1 vE qe ((List.range qe).map λj=>Value.bool (es j))
 xq: ∀j,j<qn-> ∃g,vals[j]? =some (.slice (some ⟨g,0,none⟩) m m)/\(W.rowIs g 3 m λi=>.int .i64 ((rows j).getD i 0))/\G g/\g≠bx/\vN.ownBlock≠some g/\vE.ownBlock≠some g
 inj: ∀i j,i<qn->j<qn->vals[i]? =vals[j]? ->i=j
 gb:G bx
 gN: ∀x,vN.ownBlock=some x->G x/\x≠bx/\vE.ownBlock≠some x
 gE: ∀x,vE.ownBlock=some x->G x/\x≠bx
 lt: ∀x,G x->base<=x/\x<W.heap.size
 hb:base<=W.heap.size
theorem mO(h:wJ base bx m b t rows es qn qe G W vN vE vals)(z: ∀x,G x->W'.heap[x]? =W.heap[x]?)(J:W.heap.size<=W'.heap.size):wJ base bx m b t rows es qn qe G W' vN vE vals where
 box:=(z _ h.gb).trans h.box
 CP:=aX h.CP λx hx=>z x (h.gN x hx).1
 CQ:=aX h.CQ λx hx=>z x (h.gE x hx).1
 xq:=λj Z=>by obtain⟨g,e1,e2,U⟩:=h.xq j Z;exact⟨g,e1,e2.of_block (z g U.1),U⟩
 inj:=h.inj
 gb:=h.gb
 gN:=h.gN
 gE:=h.gE
 lt:=λx hx=>⟨(h.lt x hx).1,Nat.lt_of_lt_of_le (h.lt x hx).2 J⟩
 hb:=Nat.le_trans h.hb J
def Mv(base bx m:Nat)(b t:Int)(rows:Nat->zI)(es:Nat->Bool)(qn qe:Nat)(G:Nat->Prop)(W:zW):Prop:= ∃vN vE vals,wJ base bx m b t rows es qn qe G W vN vE vals
theorem JD(h:Mv base bx m b t rows es qn qe G W)(J: ∀x,G x->W'.heap[x]? =W.heap[x]?)(z:W.heap.size<=W'.heap.size):Mv base bx m b t rows es qn qe G W':=by obtain⟨vN,vE,vals,h⟩:=h;exact⟨vN,vE,vals,mO h J z⟩
theorem JE(rows:Nat->zI)(es:Nat->Bool)(hb:base<=W.heap.size)(z:base<=bx)(h:W.heap[bx]? =some (.cells #[.int .i64 b,.int .i64 t,.slice none 0 0,.slice none 0 0] 35 (0,0))):wJ base bx m b t rows es 0 0 (λx=>x=bx) W (.slice none 0 0) (.slice none 0 0) []:=
 ⟨h,World.ownsRow_nil _ _ _ _,World.ownsRow_nil _ _ _ _,λj J=>by omega,λi j hi=>by omega,rfl,λx hx=>by simp[Value.ownBlock]at hx,λx hx=>by simp[Value.ownBlock]at hx,λx hx=>⟨hx▸z,hx▸(zG h).1⟩,hb⟩
def agR(G:Nat->Prop)(nb z hi:Nat)(x:Nat):Prop:=G x\/x=nb\/(z<=x/\x<hi)
theorem UU{base bx m:Nat}{b t:Int}{rows:Nat->zI}{es:Nat->Bool}{q qe:Nat}{G:Nat->Prop}{W J:zW}{vN vE:Value}{vals:zV}{nb:Nat}{o:Obj}{U z:Nat}(h:wJ base bx m b t rows es q qe G W vN vE vals)(hr:W.rowIs nb 3 m λi=>.int .i64 ((rows q).getD i 0))(a1: ¬G nb/\base<=nb)(hown:J.ownsRow base 24 1 (.slice (some ⟨U,0,none⟩) (q+1) z) (q+1) (vals++[.slice (some ⟨nb,0,none⟩) m m]))(Z:(W.alloc o).grownBy J vN.ownBlock)(b1:vN.ownBlock=some U\/U=(W.alloc o).heap.size):
  (J.cell? ⟨bx,2,none⟩=some vN/\J.frozen? ⟨bx,2,none⟩=false)/\wJ base bx m b t rows es (q+1) qe (agR G nb W.heap.size J.heap.size) (J.setCell ⟨bx,2,none⟩ (.slice (some ⟨U,0,none⟩) (q+1) z)) (.slice (some ⟨U,0,none⟩) (q+1) z) vE (vals++[.slice (some ⟨nb,0,none⟩) m m])/\SX G W (J.setCell ⟨bx,2,none⟩ (.slice (some ⟨U,0,none⟩) (q+1) z)):=by
 have s3:=Z.size
 rw[World.size_alloc]at s3
 have k3: ∀x,x<W.heap.size->vN.ownBlock≠some x->J.heap[x]? =W.heap[x]? :=λx hx hv=>by rw[Z.block x (by rw[World.size_alloc];omega) (λe=>hv e.symm),Below.heap_alloc _ _ _ hx]
 have k4: ∀x,x<W.heap.size->vN.ownBlock≠some x->x≠bx->(J.setCell ⟨bx,2,none⟩ (.slice (some ⟨U,0,none⟩) (q+1) z)).heap[x]? =W.heap[x]? :=λx hx hv hb=>by rw[Below.heap_setCell _ _ _ _ hb,k3 x hx hv]
 have b2:vN.ownBlock≠some bx:=λe=>(h.gN _ e).2.1 rfl
 have b3:vN.ownBlock≠some nb:=λe=>a1.1 (h.gN _ e).1
 have b4:=(h.lt _ h.gb).2
 have a2:=(k3 bx b4 b2).trans h.box
 have a7: ∀x,x<W.heap.size->vN.ownBlock≠some x->x≠U:=λx hx hv e=>by
  rcases b1 with h1|h1
  ·exact hv (by rw[e];exact h1)
  ·rw[World.size_alloc]at h1;omega
 have a8:vals.length=q:=by have:=h.CP.1;omega
 have b6:U<J.heap.size:=(hown.lt U (by simp[Value.ownBlock])).2
 have b5:(J.setCell ⟨bx,2,none⟩ (.slice (some ⟨U,0,none⟩) (q+1) z)).heap.size=J.heap.size:=by simp
 have a6: ∀x,(Value.slice (some ⟨U,0,none⟩) (q+1) z).ownBlock=some x->U=x:=λx e=>by simpa[Value.ownBlock]using e
 refine⟨⟨by simp[World.cell?,a2],by simp[World.frozen?,a2]⟩,?_,mK (mK (En (F:=G) W o) (zJ (F:=G) Z (λx e=>(h.gN x e).1)) (λ_ _ hx=>hx)) (Oe (F:=G) J (a:=⟨bx,2,none⟩) h.gb _) (λ_ _ hx=>hx)⟩
 refine⟨?_,ownsRow_setCell_other hown (λe=>a7 bx b4 b2 (a6 _ e).symm) _,aX h.CQ λx hx=>?_,λj hj=>?_,λi j hi hj e=>?_,.inl h.gb,λx hx=>?_,λx hx=>⟨.inl (h.gE x hx).1,(h.gE x hx).2⟩,λx hx=>?_,by rw[b5];have:=h.hb;omega⟩
 ·simp[World.setCell,Array.getElem?_modify,a2]
 ·exact k4 x (h.lt _ (h.gE x hx).1).2 (λe=>(h.gN x e).2.2 hx) (h.gE x hx).2
 ·by_cases e:j=q
  ·subst e
   exact⟨nb,by rw[List.getElem?_append_right (by omega),a8];simp,hr.of_block (k4 nb hr.lt b3 (λe=>a1.1 (e▸h.gb))),.inr (.inl rfl),λe=>a1.1 (e▸h.gb),λe=>a7 nb hr.lt b3 (a6 _ e).symm,λe=>a1.1 (h.gE _ e).1⟩
  ·obtain⟨g,r1,r2,r3,r4,r5,r6⟩:=h.xq j (by omega)
   exact⟨g,by rw[List.getElem?_append_left (by omega)];exact r1,r2.of_block (k4 g (h.lt _ r3).2 r5 r4),.inl r3,r4,λe=>a7 g (h.lt _ r3).2 r5 (a6 _ e).symm,r6⟩
 ·have b0: ∀i,i<q->vals[i]? ≠some (.slice (some ⟨nb,0,none⟩) m m):=λi hi e=>by
   obtain⟨g,r1,r2,r3,-⟩:=h.xq i hi;rw[r1]at e;simp only[Option.some.injEq,Value.slice.injEq,Addr.mk.injEq,and_true]at e;exact a1.1 (e▸r3)
  by_cases e1:i=q
  ·by_cases e2:j=q
   ·omega
   ·subst e1
    rw[List.getElem?_append_right (by omega),a8,List.getElem?_append_left (by omega)]at e
    simp at e
    exact absurd e.symm (b0 j (by omega))
  ·by_cases e2:j=q
   ·subst e2
    rw[List.getElem?_append_left (by omega),List.getElem?_append_right (by omega),a8]at e
    simp at e
    exact absurd e (b0 i (by omega))
   ·rw[List.getElem?_append_left (by omega),List.getElem?_append_left (by omega)]at e
    exact h.inj i j (by omega) (by omega) e
 ·have e:=a6 _ hx
  subst e
  rcases b1 with h1|h1
  ·obtain⟨q1,q2,q3⟩:=h.gN _ h1
   exact⟨.inl q1,q2,q3⟩
  ·rw[World.size_alloc]at h1
   exact⟨.inr (.inr ⟨by omega,b6⟩),by omega,λe=>by have:=(h.lt _ (h.gE _ e).1).2;omega⟩
 ·rw[b5]
  rcases hx with hx|hx|hx
  ·have:=h.lt x hx;omega
  ·have:=hr.lt;rw[hx];omega
  ·have:=h.hb;omega
theorem UW{base bx m:Nat}{b t:Int}{rows:Nat->zI}{es:Nat->Bool}{qn q:Nat}{G:Nat->Prop}{W J:zW}{vN vE:Value}{vals:zV}{o:Obj}{U z:Nat}(h:wJ base bx m b t rows es qn q G W vN vE vals)(hown:J.ownsRow base 4 1 (.slice (some ⟨U,0,none⟩) (q+1) z) (q+1) (((List.range q).map λj=>Value.bool (es j))++[.bool (es q)]))(Z:(W.alloc o).grownBy J vE.ownBlock)(a7:vE.ownBlock=some U\/U=(W.alloc o).heap.size):
  (J.cell? ⟨bx,3,none⟩=some vE/\J.frozen? ⟨bx,3,none⟩=false)/\wJ base bx m b t rows es qn (q+1) (agR G bx W.heap.size J.heap.size) (J.setCell ⟨bx,3,none⟩ (.slice (some ⟨U,0,none⟩) (q+1) z)) vN (.slice (some ⟨U,0,none⟩) (q+1) z) vals/\SX G W (J.setCell ⟨bx,3,none⟩ (.slice (some ⟨U,0,none⟩) (q+1) z)):=by
 have s3:=Z.size
 rw[World.size_alloc]at s3
 have k3: ∀x,x<W.heap.size->vE.ownBlock≠some x->J.heap[x]? =W.heap[x]? :=λx hx hv=>by rw[Z.block x (by rw[World.size_alloc];omega) (λe=>hv e.symm),Below.heap_alloc _ _ _ hx]
 have k4: ∀x,x<W.heap.size->vE.ownBlock≠some x->x≠bx->(J.setCell ⟨bx,3,none⟩ (.slice (some ⟨U,0,none⟩) (q+1) z)).heap[x]? =W.heap[x]? :=λx hx hv hb=>by rw[Below.heap_setCell _ _ _ _ hb,k3 x hx hv]
 have a8:vE.ownBlock≠some bx:=λe=>(h.gE _ e).2 rfl
 have b0:=(h.lt _ h.gb).2
 have a1:=(k3 bx b0 a8).trans h.box
 have a6: ∀x,x<W.heap.size->vE.ownBlock≠some x->x≠U:=λx hx hv e=>by
  rcases a7 with h1|h1
  ·exact hv (by rw[e];exact h1)
  ·rw[World.size_alloc]at h1;omega
 have b2:U<J.heap.size:=(hown.lt U (by simp[Value.ownBlock])).2
 have b1:(J.setCell ⟨bx,3,none⟩ (.slice (some ⟨U,0,none⟩) (q+1) z)).heap.size=J.heap.size:=by simp
 have a2: ∀x,(Value.slice (some ⟨U,0,none⟩) (q+1) z).ownBlock=some x->U=x:=λx e=>by simpa[Value.ownBlock]using e
 refine⟨⟨by simp[World.cell?,a1],by simp[World.frozen?,a1]⟩,?_,mK (mK (En (F:=G) W o) (zJ (F:=G) Z (λx e=>(h.gE x e).1)) (λ_ _ hx=>hx)) (Oe (F:=G) J (a:=⟨bx,3,none⟩) h.gb _) (λ_ _ hx=>hx)⟩
 refine⟨?_,aX h.CP λx hx=>?_,?_,λj hj=>?_,h.inj,.inl h.gb,λx hx=>?_,λx hx=>?_,λx hx=>?_,by rw[b1];have:=h.hb;omega⟩
 ·simp[World.setCell,Array.getElem?_modify,a1]
 ·exact k4 x (h.lt _ (h.gN x hx).1).2 (h.gN x hx).2.2 (h.gN x hx).2.1
 ·rw[List.range_succ,List.map_append]
  exact ownsRow_setCell_other hown (λe=>a6 bx b0 a8 (a2 _ e).symm) _
 ·obtain⟨g,r1,r2,r3,r4,r5,r6⟩:=h.xq j hj
  exact⟨g,r1,r2.of_block (k4 g (h.lt _ r3).2 r6 r4),.inl r3,r4,r5,λe=>a6 g (h.lt _ r3).2 r6 (a2 _ e).symm⟩
 ·obtain⟨q1,q2,q3⟩:=h.gN x hx
  exact⟨.inl q1,q2,λe=>a6 x (h.lt _ q1).2 q3 (a2 _ e).symm⟩
 ·have e:=a2 _ hx
  subst e
  rcases a7 with h1|h1
  ·obtain⟨q1,q2⟩:=h.gE _ h1
   exact⟨.inl q1,q2⟩
  ·rw[World.size_alloc]at h1
   exact⟨.inr (.inr ⟨by omega,b2⟩),by omega⟩
 ·rw[b1]
  rcases hx with hx|hx|hx
  ·have:=h.lt x hx;omega
  ·have:=h.lt _ h.gb;rw[hx];omega
  ·have:=h.hb;omega
def qg(d:Nat->Nat->Nat)(m f:Nat)(j:Nat):zI:=(List.range m).map λl=>(((aM d m f (j+1)).idxOf (d ((aM d m f j).getD j 0) l):Nat):Int)
theorem JF(d:Nat->Nat->Nat)(m f j:Nat):(qg d m f j).length=m:=by simp[qg]
theorem AZ{j l:Nat}(z:l<m):(qg d m f j).getD l 0=(((aM d m f (j+1)).idxOf (d ((aM d m f j).getD j 0) l):Nat):Int):=by simp[qg,List.getD,z]
theorem XE{a b:List Nat}(h:a<+:b){x:Nat}(hx:x∈a):b.idxOf x=a.idxOf x:=by obtain⟨c,rfl⟩:=h;rw[List.idxOf_append,yP hx]
theorem mh(h:i<(aM d m f i).length):aM d m f (i+1)=fI d (aM d m f i) ((aM d m f i).getD i 0) m:=by simp only[aM];rw[yP h]
theorem uW(d:Nat->Nat->Nat)(L:List Nat)(x l:Nat):fI d L x (l+1)=vL (fI d L x l) (d x l):=rfl
theorem zK(d:Nat->Nat->Nat)(L:List Nat)(x:Nat): ∀l,(fI d L x l).length<=L.length+l
 |0=>zr
 |l+1=>by rw[uW];have:=abv (fI d L x l) (d x l);have:=zK d L x l;omega
theorem Ep{l:Nat}(h:i<(aM d m f i).length)(J:l<m):(vL (fI d (aM d m f i) ((aM d m f i).getD i 0) l) (d ((aM d m f i).getD i 0) l)).idxOf (d ((aM d m f i).getD i 0) l)=(aM d m f (i+1)).idxOf (d ((aM d m f i).getD i 0) l):=by
 rw[mh h];have e:m=l+1+(m-(l+1)):=by omega
 have z:fI d (aM d m f i) ((aM d m f i).getD i 0) (l+1)<+:fI d (aM d m f i) ((aM d m f i).getD i 0) m:=by have:=PN d (aM d m f i) ((aM d m f i).getD i 0) (l+1) (m-(l+1));rwa [<-e]at this
 rw[XE z (by rw[uW];exact PL.2 (.inr rfl))];rfl
theorem Er(h:(aM d m f i).length<=i)(hi:i<=(aM d m f i).length)(j:Nat)(hj:j<i):(gN d m (aM d m f i)).getD j []=qg d m f j:=by
 have z:j<(aM d m f i).length:=by omega
 rw[TD z];unfold qg;refine List.map_congr_left λl hl=>?_;have Z:=List.mem_range.1 hl
 have J:j<(aM d m f j).length:=by
  rcases Nat.lt_or_ge j (aM d m f j).length with h1|h1
  ·exact h1
  ·have:=uz h1 (i-j);rw[show j+(i-j)=i by omega]at this;rw[this]at z;omega
 have e1:(aM d m f i).getD j 0=(aM d m f j).getD j 0:=uy (BP (by omega)) J;rw[e1];have U:d ((aM d m f j).getD j 0) l∈aM d m f (j+1):=by rw[mh J];exact uw.2 (.inr ⟨l,Z,rfl⟩)
 rw[XE (BP (show j+1<=i by omega)) U]
theorem JG(p:Nat->Bool)(h:(aM d m f i).length<=i)(hi:i<=(aM d m f i).length)(j:Nat)(U:j<i):(gE p (aM d m f i)).getD j false=p ((aM d m f j).getD j 0):=by
 have z:j<(aM d m f i).length:=by omega
 rw[TF z]
 have J:j<(aM d m f j).length:=by
  rcases Nat.lt_or_ge j (aM d m f j).length with h1|h1
  ·exact h1
  ·have:=uz h1 (i-j);rw[show j+(i-j)=i by omega]at this;rw[this]at z;omega
 rw[uy (BP (by omega)) J]
theorem Mx{z:Nat}(h:W.ownsRow base e 1 v n xs)(hb:z<=base):W.ownsRow z e 1 v n xs:=by
 refine⟨h.1,?_⟩;rcases h.2 with h1|⟨g,cap,cur,J,U,Z⟩
 ·exact .inl h1
 ·exact .inr ⟨g,cap,cur,J,Nat.le_trans hb U,Z⟩
theorem MB{z:Nat}(h:wJ base bx m b t rows es qn qe G W vN vE vals)(hb:z<=base):wJ z bx m b t rows es qn qe G W vN vE vals:=
 ⟨h.box,Mx h.CP hb,Mx h.CQ hb,h.xq,h.inj,h.gb,h.gN,h.gE,λx hx=>⟨Nat.le_trans hb (h.lt x hx).1,(h.lt x hx).2⟩,Nat.le_trans hb h.hb⟩
theorem nG(h:W.ownsRow base e 1 v n xs): ∃a c,v=.slice a n c:=by
 rcases h.2 with⟨rfl,rfl⟩|⟨g,cap,cur,rfl,_⟩
 ·exact⟨none,0,rfl⟩
 ·exact⟨_,_,rfl⟩
theorem JH{rows':Nat->zI}{es':Nat->Bool}(h:wJ base bx m b t rows es qn qe G W vN vE vals)(h1: ∀j,j<qn->rows j=rows' j)(h2: ∀j,j<qe->es j=es' j):wJ base bx m b t rows' es' qn qe G W vN vE vals:=
 ⟨h.box,h.CP,by
  have e:((List.range qe).map λj=>Value.bool (es' j))=(List.range qe).map λj=>Value.bool (es j):=List.map_congr_left λj z=>by rw[h2 j (List.mem_range.1 z)]
  rw[e];exact h.CQ,λj z=>by
  obtain⟨g,J,U,Z⟩:=h.xq j z;exact⟨g,J,by rw[<-h1 j z];exact U,Z⟩,h.inj,h.gb,h.gN,h.gE,h.lt,h.hb⟩
def Ol(w:zW)(b t:Int)(m:Nat)(z:zL)(J:zB)(e:Ending)(w':zW):Prop:=
 ∃bx vN vE vals G,e=.returned (.tuple #[.agg #[.int .i64 b,.int .i64 t,vN,vE],.nilIface])/\wJ w.heap.size bx m b t (λj=>z.getD j []) (λj=>J.getD j false) z.length z.length G w' vN vE vals/\Below w.heap.size w w'
def Rn(w:zW)(b t:Int)(m:Nat)(len:Nat)(z:zL)(J:zB)(e:Ending)(w':zW):Prop:=
 (len<=2000->Ol w b t m z J e w')/\(2000<len->e=.returned (.tuple #[.agg #[.int .i64 0,.int .i64 0,.slice none 0 0,.slice none 0 0],bC 3])/\Below w.heap.size w w')
theorem Ro{z:zL}{SE:zB}(h:wJ base bx m b t (λj=>z.getD j []) (λj=>SE.getD j false) z.length z.length G W vN vE vals)(hk:z.length<=100000000)(hm:m<=36)(hl: ∀j,j<z.length->(z.getD j []).length=m)(hw: ∀j,j<z.length-> ∀x∈z.getD j [],(Lit.int .i64 x).wf=true)(hE:SE.length=z.length): ∃aN cN aE cE,vN=.slice aN z.length cN/\vE=.slice aE z.length cE/\gT W aN z.length z/\mR W aE z.length SE:=by
 have hr: ∀j,j<z.length-> ∃g,vals[j]? =some (.slice (some ⟨g,0,none⟩) m m)/\Sl W (some ⟨g,0,none⟩) m (z.getD j []):=λj J=>by obtain⟨g,r1,r2,-⟩:=h.xq j J;exact⟨g,r1,ig (hl j J) (by unfold maxLen;omega) (hw j J) r2⟩
 rcases h.CP.2 with⟨e1,U⟩|⟨g,c,cur,e,_⟩
 ·rcases h.CQ.2 with⟨k1,k2⟩|⟨g',c',a1,e',_⟩
  ·exact⟨none,0,none,0,by rw[e1,U],by rw[k1,U],⟨rfl,by unfold maxLen;omega,Or.inl U⟩,⟨hE,by unfold maxLen;omega,Or.inl U⟩⟩
  ·exact⟨none,0,some ⟨g',0,none⟩,c',by rw[e1,U],e',⟨rfl,by unfold maxLen;omega,Or.inl U⟩,⟨hE,by unfold maxLen;omega,Or.inl U⟩⟩
 ·have hN:gT W (some ⟨g,0,none⟩) z.length z:=⟨rfl,by unfold maxLen;omega,Or.inr ⟨g,0,rfl,λj J=>by
   obtain⟨gj,r1,r2⟩:=hr j J;have Z:=h.CP;rw[e]at Z;rw[hl j J];exact⟨some ⟨gj,0,none⟩,m,by rw[Nat.zero_add];exact(Z.cellAt j (by omega)).trans r1,r2⟩⟩⟩
  rcases h.CQ.2 with⟨k1,k2⟩|⟨g',c',a1,e',_⟩
  ·exact⟨some ⟨g,0,none⟩,c,none,0,e,by rw[k1,k2],hN,⟨hE,by unfold maxLen;omega,Or.inl k2⟩⟩
  ·refine⟨some ⟨g,0,none⟩,c,some ⟨g',0,none⟩,c',e,e',hN,⟨hE,by unfold maxLen;omega,Or.inr ⟨g',0,rfl,λj J=>?_⟩⟩⟩
   have Z:=h.CQ
   rw[e']at Z
   rw[Nat.zero_add,Z.cellAt j (by omega)]
   simp[J]
theorem GJ{N:zL}(hG:aK m n N): ∀j,j<n->(N.getD j []).length=m/\ ∀x∈N.getD j [],(Lit.int .i64 x).wf=true:=λj z=>by obtain⟨h1,h2⟩:=hG.2.2.2.2.2 j z;have U:=hG.2.2.1;refine⟨h1,λx hx=>?_⟩;obtain⟨l,J,rfl⟩:=List.getElem_of_mem hx;have:=h2 l (by omega);rw[aS _ l J]at this;exact Go.WalkArith.wf_i64 (by omega)
def iO(col:Nat->Nat)(s k x:Nat):Nat:=if x<s then col x else k
theorem bJ{s x:Nat}(h:x<s):iO col s k x=col x:=by unfold iO;rw[yP h]
theorem oH{s x:Nat}(h: ¬x<s):iO col s k x=k:=by unfold iO;rw[yN h]
structure OwC (base:Nat) (col:Nat->Nat) (k:Nat) (W:zW) (e:TypeId) (v:Value) (xs:zV):Prop where
 own:W.ownsRow base e 1 v xs.length xs
 clr: ∀x,v.ownBlock=some x->col x=k
structure yH (col:Nat->Nat) (k:Nat) (W W':zW):Prop where
 size:W.heap.size<=W'.heap.size
 block: ∀x,x<W.heap.size->col x≠k->W'.heap[x]? =W.heap[x]?
theorem Ou(base:Nat)(col:Nat->Nat)(k:Nat)(W:zW)(e:TypeId):OwC base col k W e (.slice none 0 0) []:=⟨World.ownsRow_nil _ _ _ _,λx hx=>by simp[Value.ownBlock]at hx⟩
theorem JM{Z:zW}{y:Value}{o:Obj}{J U:Nat}(h:OwC base col k W e v xs)(hn:xs.length=n)(hown:Z.ownsRow base e 1 (.slice (some ⟨J,0,none⟩) (n+1) U) (n+1) (xs++[y]))(z:(W.alloc o).grownBy Z v.ownBlock)(a1:v.ownBlock=some J\/J=W.heap.size+1):
  OwC base (iO col W.heap.size k) k Z e (.slice (some ⟨J,0,none⟩) (n+1) U) (xs++[y])/\yH col k W Z:=by
 have s3:=z.size
 rw[World.size_alloc]at s3
 refine⟨⟨by rw[List.length_append,List.length_singleton,hn];exact hown,λx hx=>?_⟩,⟨by omega,λx hx hc=>?_⟩⟩
 ·have e1:J=x:=by simpa[Value.ownBlock]using hx
  subst e1
  rcases a1 with h1|h1
  ·rw[bJ (h.own.lt _ h1).2];exact h.clr _ h1
  ·rw[oH (by omega)]
 ·rw[z.block x (by rw[World.size_alloc];omega) (λe=>hc (h.clr x e.symm)),Below.heap_alloc _ _ _ hx]
theorem kT{j:Nat}(h:OwC base col j W e v xs)(z:yH col k W W')(J:j≠k):OwC base (iO col W.heap.size k) j W' e v xs:=
 ⟨aX h.own (λx hx=>z.block x (h.own.lt x hx).2 (by rw[h.clr x hx];exact J)),λx hx=>by rw[bJ (h.own.lt x hx).2];exact h.clr x hx⟩
def MF(col:Nat->Nat)(k:Nat)(W:zW)(rows:Nat->zI)(q:Nat)(vals:zV):Prop:=vals.length=q/\ ∀j,j<q-> ∃g cap,vals[j]? =some (.slice (some ⟨g,0,none⟩) (rows j).length cap)/\Sl W (some ⟨g,0,none⟩) (rows j).length (rows j)/\col g=k/\g<W.heap.size
theorem nH{g len:Nat}{l:zI}(h:Sl W (some ⟨g,0,none⟩) len l)(z:W'.heap[g]? =W.heap[g]?):Sl W' (some ⟨g,0,none⟩) len l:=ng h λx hx=>by obtain⟨_,ad,e,rfl⟩:=hx;cases e;exact z
theorem jJ{j:Nat}{q:Nat}(h:MF col j W rows q vals)(z:yH col k W W')(Z:j≠k):MF (iO col W.heap.size k) j W' rows q vals:=
 ⟨h.1,λi hi=>by obtain⟨g,cap,e1,e2,J,U⟩:=h.2 i hi;exact⟨g,cap,e1,nH e2 (z.block g U (by rw[J];exact Z)),by rw[bJ U];exact J,by have:=z.size;omega⟩⟩
section
variable {wb:zW} {g0:Nat} {rows:Nat->zI} {es:Nat->Bool} {col:Nat->Nat} {LN LA LB:List Nat} {qn qe:Nat} {vA vB vN vE vR:Value} {vals:zV} {R:zI} {W:zW}
end
structure MtI (wb:zW) (rows:Nat->zI) (col:Nat->Nat) (L:List Nat) (qn mb bq cq:Nat) (vN:Value) (vals:zV) (W:zW):Prop where
 map:eu prog 129 W mb (JL L)
 JN:col mb=1
 mbs:wb.heap.size<=mb
 FW:Et W bq L.length cq L
 JO:col bq=2
 qbs:wb.heap.size<=bq
 nx:OwC wb.heap.size col 4 W 24 vN vals
 xq:MF col 5 W rows qn vals
 bel:Below wb.heap.size wb W
 rb: ∀v∈vals,∀g,v.ownBlock=some g->wb.heap.size<=g
structure MtX (wb:zW) (rows:Nat->zI) (col:Nat->Nat) (L:List Nat) (qn mb bq cq:Nat) (vN:Value) (vals:zV) (pb s m nb:Nat) (row:zI) (l:Nat) (W:zW):Prop where
 sp:MtI wb rows col L qn mb bq cq vN vals W
 wK:W.rowIs nb 3 m λq=>.int .i64 (if q<l then row.getD q 0 else 0)
 Ve:col nb=7
 nbs:wb.heap.size<=nb
 at_:W.heap[pb]? =some (.cells #[.int .i64 (gu s),.int .i64 (iP s)] 129 (0,0))
 acl:col pb=3
section
variable {wb:zW} {rows:Nat->zI} {col:Nat->Nat} {L:List Nat} {qn mb bq cq:Nat} {vN:Value} {vals:zV} {pb s m nb:Nat} {row:zI} {l:Nat} {W W':zW}
theorem CX{k:Nat}(h:MtI wb rows col L qn mb bq cq vN vals W)(z:yH col k W W')(hb:Below wb.heap.size wb W')(h1:1≠k)(h2:2≠k)(h4:4≠k)(h5:5≠k):MtI wb rows (iO col W.heap.size k) L qn mb bq cq vN vals W':=
 ⟨h.map.of_block (z.block mb h.map.lt (by rw[h.JN];exact h1)),by rw[bJ h.map.lt];exact h.JN,h.mbs,oG h.FW (z.block bq (sZ h.FW) (by rw[h.JO];exact h2)),by rw[bJ (sZ h.FW)];exact h.JO,h.qbs,kT h.nx z h4,jJ h.xq z h5,hb,h.rb⟩
theorem ZY(h:MtI wb rows col L qn mb bq cq vN vals W)(hb:Below W.heap.size W W'):MtI wb rows (iO col W.heap.size 8) L qn mb bq cq vN vals W':=
 CX h ⟨hb.size,λx hx _=>hb.block x hx⟩ (ak h.bel hb) (by decide) (by decide) (by decide) (by decide)
theorem Z0(h:MtX wb rows col L qn mb bq cq vN vals pb s m nb row l W)(hb:Below W.heap.size W W'):MtX wb rows (iO col W.heap.size 8) L qn mb bq cq vN vals pb s m nb row l W':=
 have z:=(zG h.at_).1
 ⟨ZY h.sp hb,h.wK.of_block (hb.block nb h.wK.lt),by rw[bJ h.wK.lt];exact h.Ve,h.nbs,(hb.block pb z).trans h.at_,by rw[bJ z];exact h.acl⟩
theorem Z4(row:zI)(s m:Nat)(h:MtI wb rows col L qn mb bq cq vN vals W): ∃U,MtX wb rows U L qn mb bq cq vN vals W.heap.size s m (W.heap.size+1) row 0 ((W.alloc (.cells #[.int .i64 (gu s),.int .i64 (iP s)] 129)).alloc (.cells (madeCells #[.int .i64 0] m) 3)):=by
 have hb:=(Below.refl W.heap.size W).alloc zr (.cells #[.int .i64 (gu s),.int .i64 (iP s)] 129);have Z:=zl W (.cells #[.int .i64 (gu s),.int .i64 (iP s)] 129);have J:(W.alloc (.cells #[.int .i64 (gu s),.int .i64 (iP s)] 129)).heap.size=W.heap.size+1:=by simp
 have h1:=CX (k:=3) h ⟨hb.size,λx hx _=>hb.block x hx⟩ (ak h.bel hb) (by decide) (by decide) (by decide) (by decide);generalize W.alloc (.cells #[.int .i64 (gu s),.int .i64 (iP s)] 129)=W1 at hb Z J h1⊢;have z:=(Below.refl W1.heap.size W1).alloc zr (.cells (madeCells #[.int .i64 0] m) 3);have h2:=CX (k:=7) h1 ⟨z.size,λx hx _=>z.block x hx⟩ (ak h1.bel z) (by decide) (by decide) (by decide) (by decide);refine⟨_,h2,?_,by rw[oH (by omega)],by have:=h.bel.size;omega,(z.block _ (by omega)).trans Z,by rw[bJ (by omega),oH (by omega)]⟩;rw[<-J];exact(World.rowIs_made W1 (.int .i64 0) m 3).congr λp Z=>by rw[yN (by omega)]
theorem Rx(h:MtX wb rows col L qn mb bq cq vN vals pb s m nb row l W)(z:l<m):W.cell? ⟨nb,l,none⟩=some (.int .i64 0)/\W.frozen? ⟨nb,l,none⟩=false:=by have:=h.wK.cell z;rw[yN (Nat.lt_irrefl _)]at this;exact⟨this,h.wK.frozen l⟩
theorem XL{z:Int}(h:MtX wb rows col L qn mb bq cq vN vals pb s m nb row l W)(hz:row.getD l 0=z):MtX wb rows (iO col W.heap.size 7) L qn mb bq cq vN vals pb s m nb row (l+1) (W.setCell ⟨nb,l,none⟩ (.int .i64 z)):=by
 have J:yH col 7 W (W.setCell ⟨nb,l,none⟩ (.int .i64 z)):=⟨by simp,λx hx hc=>Below.heap_setCell _ _ _ _ (λe=>hc (by rw[show x=nb from e];exact h.Ve))⟩;have U:=(zG h.at_).1;refine⟨CX h.sp J (h.sp.bel.setCell h.nbs _) (by decide) (by decide) (by decide) (by decide),(h.wK.set _ _).congr λq _=>?_,by rw[bJ h.wK.lt];exact h.Ve,h.nbs,(J.block pb U (by rw[h.acl];decide)).trans h.at_,by rw[bJ U];exact h.acl⟩;by_cases e:q=l
 ·subst e;rw[yP rfl,yP (by omega),hz]
 ·rw[yN e]
  congr 1;by_cases Z:q<l
  ·rw[yP Z,yP (show q<l+1 by omega)]
  ·rw[yN Z,yN (show¬q<l+1 by omega)]
theorem ag1{M:Nat}{z U:zW}{o:Obj}{b' Z:Nat}(h:MtX wb rows col L qn mb bq cq vN vals pb s m nb row l W)(hm:eu prog 129 z mb (JL L++[(Bf M,.int .i64 (L.length:Int))]))(ht:W.mapTurned z mb)(hq:Et U b' (L.length+1) Z (L++[M]))(hg:(z.alloc o).grownBy U (some bq))(J:b'=bq\/(z.alloc o).heap.size<=b'):
  MtX wb rows (iO (iO col W.heap.size 1) z.heap.size 2) (L++[M]) qn mb b' Z vN vals pb s m nb row l U:=by
 have s5:=ht.grown.size
 have s6:=hg.size
 rw[World.size_alloc]at s6 J
 have l1:=sZ h.sp.FW
 have l2:=h.sp.map.lt
 have l8:=h.wK.lt
 have a1:mb≠bq:=λe=>by have:=h.sp.JN;rw[e,h.sp.JO]at this;omega
 have a2:nb≠mb:=λe=>by have:=h.Ve;rw[e,h.sp.JN]at this;omega
 have a7:nb≠bq:=λe=>by have:=h.Ve;rw[e,h.sp.JO]at this;omega
 have k5:yH col 1 W z:=⟨s5,λx hx hc=>ht.grown.block x hx (λe=>by cases e;exact hc h.sp.JN)⟩
 have b5:Below wb.heap.size wb z:=Below.grown h.sp.bel ht.grown h.sp.bel.size (λx e=>by cases e;exact h.sp.mbs)
 have q5:Et z bq L.length cq L:=oG h.sp.FW (k5.block bq l1 (by rw[h.sp.JO];decide))
 have c5:iO col W.heap.size 1 bq=2:=by rw[bJ l1];exact h.sp.JO
 have k6:yH (iO col W.heap.size 1) 2 z U:=⟨by omega,λx hx hc=>by rw[hg.block x (by rw[World.size_alloc];omega) (λe=>by cases e;exact hc c5),Below.heap_alloc _ _ _ hx]⟩
 have b6:Below wb.heap.size wb U:=Below.grown (b5.alloc b5.size o) hg (by have:=b5.size;rw[World.size_alloc];omega) (λx e=>by cases e;exact h.sp.qbs)
 have m6:iO col W.heap.size 1 mb=1:=by rw[bJ l2];exact h.sp.JN
 have hp:=(zG h.at_).1
 have a6:iO col W.heap.size 1 pb=3:=by rw[bJ hp];exact h.acl
 have n6:iO col W.heap.size 1 nb=7:=by rw[bJ l8];exact h.Ve
 refine⟨⟨?_,by rw[bJ (by omega)];exact m6,h.sp.mbs,by rw[List.length_append];exact hq,?_,?_,kT (kT h.sp.nx k5 (by decide)) k6 (by decide),jJ (jJ h.sp.xq k5 (by decide)) k6 (by decide),b6,h.sp.rb⟩,(h.wK.of_block (k5.block nb l8 (by rw[h.Ve];decide))).of_block (k6.block nb (by omega) (by rw[n6];decide)),by rw[bJ (by omega)];exact n6,h.nbs,(k6.block pb (by omega) (by rw[a6];decide)).trans ((k5.block pb hp (by rw[h.acl];decide)).trans h.at_),by rw[bJ (by omega)];exact a6⟩
 ·rw[adW]
  exact hm.of_block (k6.block mb (by omega) (by rw[m6];decide))
 ·rcases J with rfl|J
  ·rw[bJ (by omega)];exact c5
  ·rw[oH (by omega)]
 ·rcases J with rfl|J
  ·exact h.sp.qbs
  ·have:=b5.size;omega
theorem aj4{w3:zW}{o:Obj}{g' Z:Nat}(h:MtX wb rows col L qn mb bq cq vN vals pb s m nb (rows qn) m W)(a1:(rows qn).length=m)(a7:m<=maxLen)(a8: ∀x∈rows qn,(Lit.int .i64 x).wf=true)(hown:w3.ownsRow wb.heap.size 24 1 (.slice (some ⟨g',0,none⟩) (qn+1) Z) (qn+1) (vals++[.slice (some ⟨nb,0,none⟩) m m]))(U:(W.alloc o).grownBy w3 vN.ownBlock)(b0:vN.ownBlock=some g'\/g'=W.heap.size+1):
  MtI wb rows (iO (λx=>if x=nb then 5 else col x) W.heap.size 4) L (qn+1) mb bq cq (.slice (some ⟨g',0,none⟩) (qn+1) Z) (vals++[.slice (some ⟨nb,0,none⟩) m m]) w3:=by
 obtain⟨h,z,a6,b4,-,-⟩:=h
 have a2: ∀{x k:Nat},col x=k->k≠7->x≠nb:=λ{x k} hx J e=>J (by rw[<-hx,e,a6])
 have hc: ∀{x k:Nat},col x=k->k≠7->(λx=>if x=nb then 5 else col x) x=k:=λ{x k} hx J=>by show(if x=nb then 5 else col x)=k;rw[yN (a2 hx J)];exact hx
 have hs:Sl W (some ⟨nb,0,none⟩) (rows qn).length (rows qn):=ig rfl (by rw[a1];exact a7) a8 (by rw[a1];exact z.congr λq hq=>by rw[yP hq])
 have b1:OwC wb.heap.size (λx=>if x=nb then 5 else col x) 4 W 24 vN vals:=⟨h.nx.own,λx hx=>hc (h.nx.clr x hx) (by decide)⟩
 have b2:MF (λx=>if x=nb then 5 else col x) 5 W rows qn vals:=⟨h.xq.1,λj hj=>by obtain⟨gj,cj,e1,e2,e3,e4⟩:=h.xq.2 j hj;exact⟨gj,cj,e1,e2,hc e3 (by decide),e4⟩⟩
 obtain⟨h1,J⟩:=JM b1 h.xq.1 hown U b0
 have b3:=jJ b2 J (by decide)
 have lq:=sZ h.FW
 refine⟨h.map.of_block (J.block mb h.map.lt (by show(if mb=nb then 5 else col mb)≠4;rw[yN (a2 h.JN (by decide)),h.JN];decide)),by rw[bJ h.map.lt];exact hc h.JN (by decide),h.mbs,oG h.FW (J.block bq lq (by show(if bq=nb then 5 else col bq)≠4;rw[yN (a2 h.JO (by decide)),h.JO];decide)),by rw[bJ lq];exact hc h.JO (by decide),h.qbs,h1,⟨by rw[List.length_append,h.xq.1];rfl,λj hj=>?_⟩,
  Below.grown (h.bel.alloc h.bel.size o) U (by have:=h.bel.size;rw[World.size_alloc];omega) (λx hx=>(h.nx.own.lt x hx).1),λv hv g hg=>?_⟩
 rotate_left
 ·rcases List.mem_append.1 hv with hv|hv
  ·exact h.rb v hv g hg
  ·simp only[List.mem_singleton]at hv
   subst hv
   have e1:nb=g:=by simpa[Value.ownBlock]using hg
   omega
 by_cases e:j=qn
 ·subst e
  exact⟨nb,m,by rw[List.getElem?_append_right (by rw[h.xq.1];omega),h.xq.1];simp[a1],nH hs (J.block nb z.lt (by show(if nb=nb then 5 else col nb)≠4;rw[yP rfl];decide)),by rw[bJ z.lt];show(if nb=nb then 5 else col nb)=5;rw[yP rfl],by have:=J.size;have:=z.lt;omega⟩
 ·obtain⟨gj,cj,e1,e2⟩:=b3.2 j (by omega)
  exact⟨gj,cj,by rw[List.getElem?_append_left (by rw[h.xq.1];omega)];exact e1,e2⟩
def adZ(wb:zW)(bq cq:Nat)(L:List Nat)(aN:zO)(n:Nat)(N:zL)(W:zW):Prop:= ∀W':zW,(∀x,wb.heap.size<=x->x<W.heap.size->W'.heap[x]? =W.heap[x]?)->Et W' bq L.length cq L/\gT W' aN n N
theorem ag2{aN:zO}{cN:Nat}(h:MtI wb rows col L qn mb bq cq (.slice aN qn cN) vals W)(Z:qn<=maxLen)(N:zL)(hN:N.length=qn)(hr: ∀j,j<qn->N.getD j []=rows j):
  adZ wb bq cq L aN qn N W:=λW' z=>by
 have a1:=h.xq.1
 have h2:=aX (w':=W') h.nx.own (λx hx=>z x (h.nx.own.lt x hx).1 (h.nx.own.lt x hx).2)
 rw[a1]at h2
 refine⟨oG h.FW (z bq h.qbs (sZ h.FW)),?_⟩
 rcases h2.2 with⟨-,U⟩|⟨g,cap,cur,J,_⟩
 ·exact⟨hN,Z,Or.inl U⟩
 ·cases J
  refine⟨hN,Z,Or.inr ⟨g,0,rfl,λi hi=>?_⟩⟩
  obtain⟨gi,ci,J,U,-,e4⟩:=h.xq.2 i hi
  have hb:=h.rb _ (List.mem_of_getElem? J) gi (by simp[Value.ownBlock])
  rw[hr i hi,Nat.zero_add,h2.cellAt i (by omega)]
  exact⟨_,ci,J,nH U (z gi hb e4)⟩
end
theorem Z5{w U:zW}{f:Nat}(rows:Nat->zI){J:zW}(z:Below w.heap.size w J)(a1:eu prog 129 U J.heap.size ([]++[(Bf f,.int .i64 0)]))(Z:(J.alloc (.map #[] 0)).mapTurned U J.heap.size): ∃col,MtI w rows col [f] 0 J.heap.size U.heap.size 1 (.slice none 0 0) [] (U.alloc (.cells #[.int .i64 (gu f),.int .i64 (iP f)] 129)):=by
 have s1:=Z.grown.size;rw[World.size_alloc]at s1;have sw:=z.size;have bp:Below w.heap.size w U:=Below.grown (z.alloc z.size (.map #[] 0)) Z.grown (by rw[World.size_alloc];omega) (λx e=>by cases e;exact z.size);refine⟨λx=>if x=J.heap.size then 1 else 2,?_,yP rfl,sw,⟨rfl,by simp,by decide,#[.int .i64 (gu f),.int .i64 (iP f)],zl _ _,by simp,λq hq=>?_⟩,yN (by omega),by omega,Ou _ _ _ _ _,⟨rfl,λj hj=>by omega⟩,bp.alloc bp.size _,λv hv=>by simp at hv⟩
 ·have e:JL [f]=[]++[(Bf f,.int .i64 0)]:=by simp[JL,List.range_succ]
  rw[e];exact a1.alloc _
 ·simp at hq
  rcases(show q=0\/q=1 by omega)with rfl|rfl
  ·simp[SY]
  ·simp[SY]
section
variable {wb:zW} {rows:Nat->zI} {col:Nat->Nat} {qn:Nat} {vN vO vR:Value} {vals:zV} {O R:zI} {W:zW}
end
theorem JW{l:zI}(z:k<l.length):l.take (k+1)=l.take k++[l.getD k 0]:=by rw[List.take_succ_eq_append_getElem z];simp[List.getD,z]
end Go.Proofs.YtceojneljnnooaaGreat
