import Derived.Test.YtceojneljnnooaaGreatZNx
import Derived.Test.YtceojneljnnooaaGreatAr
import Derived.ArgAppend
import Derived.Sort.LoopGhostIn
open Go.Proofs.Tryz
namespace Go.Proofs.YtceojneljnnooaaGreat
open Go.RowKit
set_option maxHeartbeats 0
set_option maxRecDepth 100000
set_option linter.all false
open Go.RowKit Go.Shelf
attribute [local go_sem] Oper.semAt_some
variable{J:(Nat->Prop)->zI->zW->Prop}{W w:zW}{off cap b n S z:Nat}{l q U:zI}{Q:Exit->Act->zW->Prop}{vN:Value}{ops:Array Oper}{rest:List Oper}
def Wp (W:zW) (b off len cap:Nat) (l:zI):Prop:=
 l.length=len/\len<=cap/\cap<=maxLen/\ ∃cur:Array Value,W.heap[b]? =some (.cells cur 3 (0,0))/\off+cap<=cur.size/\ ∀j,j<len->cur[off+j]? =some (.int .i64 (l.getD j 0))
theorem IB{W':zW}{len:Nat}(h:Wp W b off len cap l)(e:W'.heap[b]? =W.heap[b]?):Wp W' b off len cap l:=by obtain⟨h1,h2,h3,cur,h4,h5⟩:=h;exact⟨h1,h2,h3,cur,e.trans h4,h5⟩
theorem TS{len:Nat}(h:Wp W b off len cap l):b<W.heap.size:=by obtain⟨h1,h2,h3,cur,h4,h5⟩:=h;exact(zG h4).1
theorem Qg{len:Nat}(h:Wp W b off len cap l)(j:Nat)(z:j<len):W.cell? ⟨b,off+j,none⟩=some (.int .i64 (l.getD j 0)):=by obtain⟨h1,h2,h3,cur,h4,h5,J⟩:=h;simp only[World.cell?,h4];exact J j z
theorem abP{k:Nat}(h:Wp W b off (k+1) cap l):Wp W b (if cap=1 then off else off+1) k (cap-1) (l.drop 1):=by obtain⟨h1,h2,h3,cur,h4,h5,z⟩:=h;refine⟨by rw[List.length_drop];omega,by omega,by omega,cur,h4,by split<;>omega,λj J=>?_⟩;rw[yN (by omega)];have:=z (j+1) (by omega);rw[show off+1+j=off+(j+1)by omega,this];simp[List.getD]
theorem jD(W:zW)(a:Addr)(v:Value):W.grownBy (W.setCell a v) (some a.block):=
 ⟨rfl,rfl,rfl,(KeepsWalks.setCell W a v).size,λk _ z=>Below.heap_setCell _ _ _ k (λe=>z (by rw[e]))⟩
theorem abQ{len:Nat}(h:Wp W b off len cap l)(z:len+1<=cap)(y:Int):Wp (W.setCell ⟨b,off+len,none⟩ (.int .i64 y)) b off (len+1) cap (l++[y]):=by
 obtain⟨h1,h2,h3,cur,h4,h5,J⟩:=h;refine⟨by rw[List.length_append,List.length_singleton];omega,z,h3,cur.setIfInBounds (off+len) (.int .i64 y),?_,by simpa using h5,λj U=>?_⟩
 ·simp[World.setCell,Array.getElem?_modify,h4]
 ·rw[Array.getElem?_setIfInBounds]
  by_cases e:j=len
  ·subst e;rw[yP rfl,yP (by omega)];simp[List.getD,<-h1]
  ·rw[yN (by omega),J j (by omega)];simp[List.getD,List.getElem?_append_left (show j<l.length by omega)]
theorem Aa{F:Fence}(w:zW){o:Oper}{a:Act}(hg:o.guard=none)(s x:Operand)(hop:o.op=Op.call {callee:=Callee.builtin Builtin.append,args:=#[s,x],argTypes:=#[24,24]})(b off len cap:Nat)(l:zI)(hs:a.eval s=.slice (some ⟨b,off,none⟩) len cap)(J:Wp w b off len cap l)(ad:Addr)(y:Int)(hx:a.eval x=.slice (some ad) 1 1)(hc: ∀j u,[Value.int .i64 y][j]? =some u->w.cell? (ad.add j)=some u)(hlen:len<=100000000)(hK: ∀b' Z U w',Wp w' b' Z (len+1) U (l++[y])->w.grownBy w' (some b)->(b'=b\/w.heap.size<=b')->wpListIn F n prog ops Q rest (a.put o.dst (.slice (some ⟨b',Z,none⟩) (len+1) U)) w'):
  wpListIn F n prog ops Q (o::rest) a w:=by
 obtain⟨i,hi,hz0,hz1,hz2⟩:=info_parts rX
 refine wpListIn_plain hg λK hK'=>?_
 by_cases hr:len+1<=cap
 ·have a6: ∀j,j<1->(w.cell? ⟨b,off+len+j,none⟩).isSome=true/\w.frozen? ⟨b,off+len+j,none⟩=false:=λj z=>by
   obtain⟨h1,h2,h3,cur,h4,h5,h6⟩:=J;simp only[World.cell?,World.frozen?,h4];have:off+len+j<cur.size:=(by omega);simp[this]
  have hrun:=run_append_room_cells (P:=prog) w 24 o.type 3 i underlying24 hi b off len cap ad 1 1 [.int .i64 y] (by rw[hz1];rfl) hc (λu hu=>by simp at hu;subst hu;rfl) hr (by rw[hz1,Nat.mul_one];exact λj z=>(a6 j z).1) (by rw[hz1,Nat.mul_one];exact λj z=>(a6 j z).2)
  rw[hz1,Nat.mul_one]at hrun
  unfold Oper.wpIn
  refine⟨?_,?_⟩
  ·simp[Oper.about,hop,resolve,Target.leads,Sem.run_pure]
  ·rw[Oper.semAt_plain F _ _ (by rw[hop];intro c hc';cases hc')]
   simp[execOp,hop,resolve,invoke,builtin,hs,hx,hrun,Result.andThen]
   exact hK' _ _ (hK _ _ _ _ (abQ J hr y) (jD w _ _) (.inl rfl))
 ·have a2: ∀j u,(l.map (Value.int .i64))[j]? =some u->w.cell? ((⟨b,off,none⟩:Addr).add j)=some u:=λj u z=>by
   have a1:j<l.length:=(by have:=(List.getElem?_eq_some_iff.1 z).1;simpa using this);rw[Addr.add_lit,Qg J j (by rw[<-J.1];exact a1)];simp[a1]at z;simp[List.getD,a1,z]
  obtain⟨v',w',hrun,r1,r2⟩:=run_append_arg_grows (P:=prog) w 24 o.type 3 i (.int .i64 0) 1 8 underlying24 hi hz0 hz1 hz2 rfl (by decide) ⟨b,off,none⟩ len cap (l.map (Value.int .i64)) (by simp[J.1]) a2 ad 1 1 [.int .i64 y] rfl hc (by omega) (by unfold maxLen;omega) (by omega)
  obtain⟨g,U,hv⟩:=ownsRow_succ r1
  subst hv
  obtain⟨r3,r4⟩:=r1
  rcases r4 with⟨r4,_⟩|⟨g',b2,cur,e1,a8,hh,b0,b1,b3,ht⟩
  ·cases r4
  ·cases e1
   unfold Oper.wpIn
   refine⟨?_,?_⟩
   ·simp[Oper.about,hop,resolve,Target.leads,Sem.run_pure]
   ·rw[Oper.semAt_plain F _ _ (by rw[hop];intro c hc';cases hc')]
    simp[execOp,hop,resolve,invoke,builtin,hs,hx,hrun,Result.andThen]
    refine hK' _ _ (hK _ _ _ _ ⟨by rw[List.length_append,J.1];rfl,b0,b1,cur,hh,by omega,λj z=>?_⟩ ⟨r2.os,r2.tape,r2.output,r2.size,λk hk _=>r2.block k hk (by simp)⟩ (.inr a8))
    have h3:(cur.toList.take ((len+1)*1))[j]? =(l.map (Value.int .i64)++[.int .i64 y])[j]? :=by rw[ht]
    rw[List.getElem?_take,yP (by omega),Array.getElem?_toList]at h3
    rw[Nat.zero_add,h3]
    have a7:j<(l++[y]).length:=by rw[List.length_append,J.1];exact z
    rw[show l.map (Value.int .i64)++[.int .i64 y]=(l++[y]).map (Value.int .i64)by simp,List.getElem?_map,List.getElem?_eq_getElem a7,aS _ j a7]
    rfl
def X3(z S b:Nat)(r:Nat):Prop:=r=z\/r=S\/r=b
def FK(J:(Nat->Prop)->zI->zW->Prop)(w:zW)(n z S:Nat)(vN:Value)(iI U q:zI)(b off cap:Nat)(W:zW):Prop:=
 Wp W b off q.length cap q/\(W.rowIs S 4 n λp=>.bool (decide ((p:Int)∈U)))/\Boxed W z 32 vN/\Below w.heap.size w W/\w.heap.size<=b/\w.heap.size<=S/\J (X3 z S b) iI W
theorem IC{iI:zI}(h:FK J w n z S vN iI U q b off cap W):b≠S/\b≠z/\S≠z:=by
 obtain⟨⟨_,_,_,cur,h4,_⟩,⟨c,hc,_⟩,h3,_⟩:=h;have h3:W.heap[z]? =_:=h3;refine⟨λe=>?_,λe=>?_,λe=>?_⟩
 ·subst e;rw[h4]at hc;simp at hc
 ·subst e;rw[h4]at h3;simp at h3
 ·subst e;rw[hc]at h3;simp at h3
theorem TT{iI sn:zI}{W':zW}(h:FK J w n z S vN iI sn q b off cap W)(hJ:J (X3 z S b) U W')(Z:xP w.heap.size (X3 z S b) W W'):FK J w n z S vN U sn q b off cap W':=by obtain⟨h1,h2,h3,h4,h5,h6,h7⟩:=h;exact⟨IB h1 (Z.1 b (.inr (.inr rfl)) (TS h1)),h2.of_block (Z.1 S (.inr (.inl rfl)) h2.lt),(Z.1 z (.inl rfl) h3.lt).trans h3,h4.trans Z.2,h5,h6,hJ⟩
theorem YT(hF:BZ J){iI:zI}(h:FK J w n z S vN iI U q b off cap W)(x:Nat):FK J w n z S vN iI (U++[(x:Int)]) q b off cap (W.setCell ⟨S,x,none⟩ (.bool true)):=by obtain⟨e1,e2,e3⟩:=IC h;obtain⟨h1,h2,h3,h4,h5,Z,h7⟩:=h;exact⟨IB h1 (Below.heap_setCell _ _ _ _ e1),abL h2 x,(Below.heap_setCell _ _ _ _ (λe=>e3 e.symm)).trans h3,h4.setCell Z _,h5,Z,hF _ _ _ _ _ _ h7 (jD W _ _) (λr e=>by cases e;exact .inr (.inl rfl)) (λr hr=>.inl hr)⟩
theorem YU(hF:BZ J){Bn:Nat}{iI sn:zI}{w':zW}{z:Obj}{y:Int}(h:FK J w n Bn S vN iI sn q b off cap W){b' U Z:Nat}(hq:Wp w' b' U (q.length+1) Z (q++[y]))(hg:(W.alloc z).grownBy w' (some b))(hb:b'=b\/(W.alloc z).heap.size<=b'):FK J w n Bn S vN iI sn (q++[y]) b' U Z w':=by
 obtain⟨e1,e2,e3⟩:=IC h;obtain⟨h1,h2,h3,h4,h5,h6,h7⟩:=h;have hs:=h4.size;rw[World.size_alloc]at hb;refine⟨by rw[List.length_append];exact hq,(h2.alloc z).of_block (hg.block _ (by have:=h2.lt;simp;omega) (λe=>e1 (by cases e;rfl))),(h3.alloc z).kept hg (λe=>e2 (by cases e;rfl)),Below.grown (h4.alloc hs z) hg (by simp;omega) (λk hk=>by cases hk;exact h5),by rcases hb with rfl|hb<;>omega,h6,?_⟩;refine hF _ _ _ _ _ _ (hF.alloc z h7) hg (λr e=>by cases e;exact .inr (.inr rfl)) (λr hr=>?_);rcases hr with rfl|rfl|rfl
 ·exact .inl (.inl rfl)
 ·exact .inl (.inr (.inl rfl))
 ·rcases hb with rfl|hb
  ·exact .inl (.inr (.inr rfl))
  ·exact .inr ⟨by rw[World.size_alloc];exact hb,TS hq⟩
theorem YV{iI:zI}(h:FK J w n z S vN iI U q b off cap W)(hp:0<q.length):FK J w n z S vN iI U (q.drop 1) b (if cap=1 then off else off+1) (cap-1) W:=by obtain⟨h1,h2⟩:=h;obtain⟨k,Z⟩: ∃k,q.length=k+1:=⟨q.length-1,by omega⟩;rw[Z]at h1;refine⟨?_,h2⟩;have:=abP h1;rwa [List.length_drop,Z,Nat.add_sub_cancel]
theorem TU{J:(Nat->Prop)->zI->zW->Prop}(Z:BZ J){w W:zW}{n z:Nat}{vN:Value}(hB:Below w.heap.size w W)(a1:Boxed W z 32 vN)(h0:J (λr=>r=z) [] W):
  FK J w n z W.heap.size vN [] [0] [0] (W.heap.size+1) 0 1 ((W.alloc (.cells ((madeCells #[.bool false] n).setIfInBounds 0 (.bool true)) 4)).alloc (.cells #[.int .i64 0] 3)):=by
 have hm:=(@Qc W n)
 have hs:=hB.size
 refine⟨⟨rfl,by simp,by decide,#[.int .i64 0],?_,by simp,λj hj=>?_⟩,hm.1,(a1.alloc _).alloc _,(hB.alloc hs _).alloc (by simp;omega) _,by omega,by omega,?_⟩
 ·have:=zl (W.alloc (.cells ((madeCells #[.bool false] n).setIfInBounds 0 (.bool true)) 4)) (.cells #[.int .i64 0] 3)
  simpa using this
 ·simp at hj;subst hj;simp
 ·refine Z (λr=>r=z\/r=W.heap.size) _ _ _ _ none (Z _ _ _ _ _ none h0 (World.grownBy_alloc _ _ none) (λ_ e=>by cases e) λr U=>?_) (World.grownBy_alloc _ _ none) (λ_ e=>by cases e) λr U=>?_
  ·rcases U with rfl|rfl
   ·exact .inl rfl
   ·exact .inr ⟨zr,by simp⟩
  ·rcases U with rfl|rfl|rfl
   ·exact .inl (.inl rfl)
   ·exact .inl (.inr rfl)
   ·exact .inr ⟨by simp,by simp⟩
theorem abR(b off k cap:Nat)(z:zW):(Instr.slice 24 (.slice (some ⟨b,off,none⟩) (k+1) cap) (some (.int .i64 1)) none none).run prog z=.ok (.slice (some ⟨b,if cap=1 then off else off+1,none⟩) k (cap-1)) z:=by
 obtain⟨i,hi,hz0,hz1,hz2⟩:=info_parts rX;unfold Instr.slice Instr.sliceBounds Instr.sliceBound;simp only[Sem.run_bind,run_underlying underlying24,Result.andThen_ok,Sem.run_pure,asIntOf];simp[sizeOf,typeInfo,hi,hz1,Addr.add_lit];rw[yP (by omega)];by_cases e:cap=1
 ·simp[e]
 ·simp[e]
theorem ace (l:zI) (i:Nat):(l.drop i).getD 0 0=l.getD i 0:=by simp[List.getD]
theorem acf{o z:zI}(h:o<+:z)(i:Nat)(hi:i<=o.length):z.take i=o.take i:=by obtain⟨s,rfl⟩:=h;rw[List.take_append_of_le_length hi]
theorem Y8{len:Nat}(h:Wp W b off len cap l)(o:Obj):Wp (W.alloc o) b off len cap l:=IB h (Below.heap_alloc W o b (TS h))
theorem Y9{i:Nat}(h:i<l.length):l.take (i+1)=l.take i++[l.getD i 0]:=by rw[List.take_succ_eq_append_getElem h,aS _ _ h]
theorem acg(F:Fence)(nn:Nat)(i2:F.fn 147)(i4:F.round=none)(k4:1<=nn)(lp Bn:Nat)(a:zO)(n cap m:Nat)(N:zL)(w:zW)(hs:gT w a n N)(hG:aK m n N)(J:(Nat->Prop)->zI->zW->Prop)(hF:BZ J)(hY: ∀X iI x W1,J X iI W1->iI.length<n->YieldAt F (nn-1) prog lp #[.int .i64 x] W1 λe W'=>e=.returned (.bool true)/\J X (iI++[x]) W'/\xP w.heap.size X W1 W')(W:zW)(hB:Below w.heap.size w W)(c0:Boxed W Bn 32 (.slice a n cap))(h0:J (λr=>r=Bn) [] W):
  CallsIn F nn prog 147 #[.func (.yield lp) #[] #[],.pointer (some ⟨Bn,0,none⟩)] W λe W'=>(∃v,e=.returned v)/\ ∃xs X,xs=aR N/\J X xs W':=by
 have i5:=Im n (by have:=hG.2.2.1;omega)
 have k5:=hG.2.1
 have j8:=hG.2.2.1
 have j9:=hG.2.2.2.1
 have k6:(0:Int)<(n:Int):=by omega
 have HS:=aj hs
 have HY:=aj hY
 have d8:=aj hF
 have d9:=aj (λi=>sj hG i)
 have f8:=aj (λi=>uj hG i)
 have f9:Hid (∀s,s<n->(N.getD s []).length=m/\ ∀j,j<m->0<=(N.getD s []).getD j 0/\(N.getD s []).getD j 0<(n:Int)):=hG.2.2.2.2.2
 have g1:=aj (λi=>kV N i)
 have g2:=aj (λi=>BI hG i)
 have e0:=aj (@TU J hF w W n Bn (.slice a n cap) hB c0 h0)
 have c3:Hid ((W.alloc (.cells (madeCells #[.bool false] n) 4)).rowIs W.heap.size 4 n λ_=>.bool false):=World.rowIs_made W (.bool false) n 4
 have c4:=c3.out.cell (i:=0) (by omega)
 have g3:=c3.out.frozen 0
 have c5:=c0.cell
 clear hs hG hY hF h0 c0 hB
 refine callsIn_of_wp func147 rfl i2 ?_ i4
 simp only[ntmps147,List.size_toArray,List.length_cons,List.length_nil,Nat.reduceAdd,Nat.reduceSub,Array.replicate_succ,Array.replicate_zero,List.push_toArray,List.append_toArray,List.nil_append,List.cons_append]
 gi_wp2
 clear c4 g3 c3 i5 c5
 generalize(W.alloc (.cells ((madeCells #[.bool false] n).setIfInBounds 0 (.bool true)) 4)).alloc (.cells #[.int .i64 0] 3)=W0 at e0⊢
 gi_loopg[4] n (λk v wr=> ∃i b off qc:Nat,k=n-i/\i<=(bQ N i).length/\v=.slice (some ⟨b,off,none⟩) ((bQ N i).drop i).length qc/\FK J w n Bn W.heap.size (.slice a n cap) ((bQ N i).take i) (bQ N i) ((bQ N i).drop i) b off qc wr)
 case atStart=>exact⟨0,W.heap.size+1,0,1,rfl,by omega,rfl,e0.out⟩
 case round=>
  obtain⟨i,b,off,qc,e2,hi,rfl,a8⟩:=hrel
  have Z:=aj a8
  have i6:=aj e2
  have i7:=f8.out i
  have c6:((bQ N i).drop i).length=(bQ N i).length-i:=List.length_drop
  clear a8 e2
  by_cases b7:i<(bQ N i).length
  ·have b8:((bQ N i).drop i).length=((bQ N i).drop (i+1)).length+1:=by rw[List.length_drop,List.length_drop];omega
   have e3:=yX (d9.out i) i b7
   have z:=aj (g1.out i b7)
   have c7:=aj (Y9 b7)
   have b9:=aj (Qg Z.out.1 0 (by omega))
   rw[ace,Nat.add_zero]at b9
   have a6:=aj (YV Z.out (by omega))
   rw[List.drop_drop]at a6
   obtain⟨s,hs⟩: ∃s:Nat,(bQ N i).getD i 0=s:=⟨((bQ N i).getD i 0).toNat,by omega⟩
   rw[hs]at b9 e3 z c7
   rw[Int.toNat_natCast]at z
   have i8:=b9.out
   have c8:s<n:=by omega
   have k0:(s:Int)<(n:Int):=by omega
   obtain⟨e4,e5⟩:=f9.out s c8
   have c9:=aj e5
   have b0:=aj e4
   have d0:=aj (d9.out i)
   have b4:=abR b off ((bQ N i).drop (i+1)).length qc
   rw[b8]
   obtain⟨fn,tmps,assign,body,hy,hR⟩:=HY.out _ _ (s:Int) wr a6.out.2.2.2.2.2.2 (by rw[List.length_take];omega)
   have HR:=aj hR
   have HI:=aj hi
   clear e4 e5 e3 hs c6 b8 b9 Z hi hR
   generalize hO:bQ N i=O at a6 z d0 i7 b7 c7 HR HI b4⊢
   have HO:=aj hO
   clear hO
   generalize e6:(O.drop (i+1)).length=k at b4⊢
   have i9:=aj e6
   generalize(if qc=1 then off else off+1)=g4 at a6 b4
   generalize qc-1=j0 at a6 b4
   clear e6
   gi_wp2
   refine HR.out.mono ?_
   rintro e W3 ⟨rfl,e7,e8⟩
   have b5:=aj (TT a6.out e7 e8)
   clear e7 e8 a6 HR hy i8 b4
   have c5:=b5.out.2.2.1.cell
   obtain⟨bn,on,a1,c1,rfl,d1,g5⟩:=gF (aG HS.out b5.out.2.2.2.1) s c8
   have d2:Sl w a1 (N.getD s []).length (N.getD s []):=by obtain⟨_,_,a2,c2,e1,h1,h2⟩:=gF HS.out s c8;cases e1;have h3:=(b5.out.2.2.2.1.cell (p:=⟨bn,on+s,none⟩) (zk w _ h1)).trans h1;rw[d1]at h3;cases h3;exact h2
   have d3:=aj d2
   rw[b0.out]at d1 d3
   clear g5 d2
   generalize g6:N.getD s []=row at d3 c9 z b0
   clear g6
   have g7:=aj (λq=>(nY O (row.take q)).length_le)
   have g8:Hid (∀q,O9 n (cu O (row.take q))):=λq=>BH d0.out _ λx hx=>by obtain⟨j,hj,rfl⟩:=List.getElem_of_mem (List.mem_of_mem_take hx);have:=c9.out j (by rw[<-b0.out];exact hj);rwa [aS _ j hj]at this
   have e9:=aj (λq=>jm O row q)
   have d4:Hid (cu O (row.take m)=cu O row):=by show _=_;rw[<-b0.out,Hg]
   have j1:Hid ((cu O row).take (i+1)=O.take i++[(s:Int)]):=by show _=_;rw[acf (nY O row) (i+1) (by omega),c7.out]
   rw[b0.out]at e9
   gi_wp2
   obtain⟨wo,f0⟩: ∃wo:zW,wo=W3:=⟨_,rfl⟩
   rw[<-f0]at b5⊢
   clear f0 d1 c5 W3
   gi_loopw[4,31] (λv u wx=> ∃q b off qc:Nat,q<=m/\u=.int .i64 q/\v=.slice (some ⟨b,off,none⟩) ((cu O (row.take q)).drop (i+1)).length qc/\FK J w n Bn W.heap.size (.slice (some ⟨bn,on,none⟩) n cap) (O.take i++[(s:Int)]) (cu O (row.take q)) ((cu O (row.take q)).drop (i+1)) b off qc wx) (λ_ u _=>m-(intOf u).toNat)
   case atStart=>exact⟨0,b,g4,j0,by omega,rfl,by rw[<-i9.out];rfl,b5.out⟩
   case round=>
    obtain⟨q,b2,b6,d5,hq,rfl,rfl,a8⟩:=hrel
    have Z:=aj a8
    have d6:=g7.out q
    clear a8
    by_cases d7:q<m
    ·have g9:(q:Int)<(m:Int):=by omega
     obtain⟨b1,o1,rfl,j2⟩:=bH (aF d3.out Z.out.2.2.2.1) q d7
     have f1:=c9.out q d7
     have U:=aj (e9.out q d7)
     have f2:=uh n _ (g8.out q)
     obtain⟨x,hx⟩: ∃x:Nat,row.getD q 0=x:=⟨(row.getD q 0).toNat,by omega⟩
     rw[hx]at j2 f1 U
     have j3:x<n:=by omega
     have k3:(x:Int)<(n:Int):=by omega
     clear hx f1
     have f3:=Z.out.2.1.cell j3
     have k7:=Z.out.2.1.frozen x
     by_cases a7:(x:Int)∈cu O (row.take q)
     ·rw[qV a7]at U
      rw[yT a7]at f3
      clear a7
      generalize cu O (row.take q)=Oq at Z U d6 f2⊢
      gi_wp2
      go_roundw
      case rel=>exact⟨q+1,b2,b6,d5,by omega,by go_num,by rw[U.out],by rw[U.out];exact Z.out⟩
      case measure=>simp[intOf];omega
     ·rw[vJ a7]at U
      rw[yF a7]at f3
      clear a7
      generalize cu O (row.take q)=Oq at Z U d6 f2⊢
      have f5:=aj (YT d8.out Z.out x)
      have f6:Hid ((Oq++[(x:Int)]).drop (i+1)=Oq.drop (i+1)++[(x:Int)]):=by show _=_;rw[List.drop_append_of_le_length (by omega)]
      have c6:(Oq.drop (i+1)).length<=4000000:=by rw[List.length_drop];omega
      gi_wp2_with (gi_at_builtin;refine Aa _ rfl _ _ rfl b2 b6 _ d5 _ rfl (Y8 f5.out.1 _) ⟨wr.heap.size,0,none⟩ (x:Int) rfl (oh _ _ _ _ (by simp)) (by omega) ?_;intro b3 i1 j4 w3 j5 j6 j7)
      go_roundw
      case rel=>exact⟨q+1,b3,i1,j4,by omega,by go_num,by rw[U.out,f6.out,List.length_append,List.length_drop];rfl,by rw[U.out,f6.out];exact YU d8.out f5.out j5 j6 j7⟩
      case measure=>simp[intOf];omega
    ·have g9: ¬((q:Int)<(m:Int)):=by omega
     obtain rfl:q=m:=by omega
     rw[d4.out]at Z d6
     rw[d4.out]
     gi_wp2
     gi_roundg (n-(i+1))
     case rel=>exact⟨i+1,b2,b6,d5,rfl,by rw[z.out];omega,by rw[z.out,List.length_drop],by rw[z.out,j1.out];exact Z.out⟩
     case measure=>have:=i6.out;omega
  ·have f7:((bQ N i).drop i).length=0:=by omega
   have HE:=aj (g2.out i (by omega) (by omega))
   have HJ:=aj Z.out.2.2.2.2.2.2
   rw[List.take_of_length_le (by omega),HE.out]at HJ
   rw[f7]
   clear Z c6 f7
   gi_wp2
   go_end0
   exact⟨⟨_,rfl⟩,_,_,rfl,HJ.out⟩
theorem xV {F:Fence}  (w:zW)   {o:Oper} {a:Act} 
  (hg:o.guard=none) (s x:Operand) (hop:o.op=Op.call {callee:=Callee.builtin Builtin.append,args:=#[s,x],argTypes:=#[24,24]})
  (base:Nat) (v:Value) (k:Nat) (xs:zV) (hs:a.eval s=v) (hown:w.ownsRow base 3 1 v k xs) (ad:Addr) (y:Int) (hx:a.eval x=.slice (some ad) 1 1)
  (hc: ∀j u,[Value.int .i64 y][j]? =some u->w.cell? (ad.add j)=some u) (hlen:k<=100000000) (hbase:base<=w.heap.size) (H:Nat) (hH:w.heap.size=H)
  (hK: ∀g cap w',w'.ownsRow base 3 1 (.slice (some ⟨g,0,none⟩) (k+1) cap) (k+1) (xs++[.int .i64 y])->w.grownBy w' v.ownBlock->(v.ownBlock=some g\/g=H)->g<w'.heap.size->wpListIn F n prog ops Q rest (a.put o.dst (.slice (some ⟨g,0,none⟩) (k+1) cap)) w'):
  wpListIn F n prog ops Q (o::rest) a w:=by
 obtain⟨i,hi,hz0,hz1,hz2⟩:=info_parts rX
 refine wpListIn_plain hg λK hK'=>?_
 obtain⟨g,cap,w',hrun,h2,h3,h4,h5⟩:=run_append_lies (P:=prog) w 24 o.type base 3 i (.int .i64 0) 1 8 underlying24 hi hz0 hz1 hz2 rfl (by decide) v k xs hown ad 1 1 [.int .i64 y] rfl hc (λu hu=>by simp at hu;subst hu;rfl) (by decide) (by unfold maxLen;omega) (by omega) hbase H hH
 unfold Oper.wpIn
 refine⟨?_,?_⟩
 ·simp[Oper.about,hop,resolve,Target.leads,Sem.run_pure]
 ·rw[Oper.semAt_plain F _ _ (by rw[hop];intro c hc';cases hc')]
  simp[execOp,hop,resolve,invoke,builtin,hs,hx,hrun,Result.andThen]
  exact hK' _ _ (hK g cap w' h2 h3 h4 h5)
def ach(w:zW)(z:Nat)(X:Nat->Prop)(iI:zI)(W:zW):Prop:=
 (∃v,Boxed W z 24 v/\W.ownsRow w.heap.size 3 1 v iI.length (iI.map (Value.int .i64))/\ ∀r,X r->w.heap.size<=r/\r<W.heap.size/\r≠z/\v.ownBlock≠some r)/\Below w.heap.size w W/\w.heap.size<=z
theorem Za(w:zW)(Bs:Nat):BZ (ach w Bs):=by
 rintro X Y s W W' row ⟨⟨v,hv,z,J⟩,U,a1⟩ hg Z hm;refine⟨⟨v,hv.kept hg (λe=>(J _ (Z _ e.symm)).2.2.1 rfl),aX z (λk hk=>hg.block k (z.lt k hk).2 (λe=>(J k (Z k e.symm)).2.2.2 hk)),λr hy=>?_⟩,U.grown hg U.size (λk e=>(J k (Z k e)).1),a1⟩;have h1:=hg.size;have h2:=U.size;rcases hm r hy with h|h
 ·have:=J r h;exact⟨this.1,by omega,this.2.2⟩
 ·refine⟨by omega,h.2,?_,λe=>?_⟩
  ·have:=hv.lt;omega
  ·have:=z.lt r e;omega
theorem aci{U:Nat}{X:Nat->Prop}{s:zI}{l:Nat}{o:Obj}(z:Obj)(h:ach w U X s W)(hl:w.heap.size<=l)(J:W.heap[l]? =some o)(ho:o.isCells=false):ach w U X s (W.putObj l z):=by
 obtain⟨⟨v,hv,Z,hX⟩,hB,a1⟩:=h;refine⟨⟨v,hv.kept (grownBy_putObj' W l z) (λe=>?_),ownsRow_putObj Z z J ho,λr hr=>?_⟩,hB.grown (grownBy_putObj' W l z) hB.size (λk e=>by cases e;exact hl),a1⟩
 ·cases e;rw[show W.heap[U]? =_ from hv]at J;cases J;cases ho
 ·have:=hX r hr;have h2:=(grownBy_putObj' W l z).size;exact⟨this.1,by omega,this.2.2⟩
theorem Zb{w:zW}{z:Nat}{X:Nat->Prop}{s:zI}{W w1:zW}{v:Value}{x:Int}{g cap:Nat}{ob:Obj}(hv:Boxed W z 24 v)(a2:W.ownsRow w.heap.size 3 1 v s.length (s.map (Value.int .i64)))(hX: ∀r,X r->w.heap.size<=r/\r<W.heap.size/\r≠z/\v.ownBlock≠some r)(hB:Below w.heap.size w W)(Z:w.heap.size<=z)(hown:w1.ownsRow w.heap.size 3 1 (.slice (some ⟨g,0,none⟩) (s.length+1) cap) (s.length+1) (s.map (Value.int .i64)++[.int .i64 x]))(J:(W.alloc ob).grownBy w1 v.ownBlock)(a6:v.ownBlock=some g\/g=W.heap.size+1):
  (w1.cell? ⟨z,0,none⟩=some v/\w1.frozen? ⟨z,0,none⟩=false)/\KeepsOthers W (w1.setCell ⟨z,0,none⟩ (.slice (some ⟨g,0,none⟩) (s.length+1) cap))/\xP w.heap.size X W (w1.setCell ⟨z,0,none⟩ (.slice (some ⟨g,0,none⟩) (s.length+1) cap))/\ach w z X (s++[x]) (w1.setCell ⟨z,0,none⟩ (.slice (some ⟨g,0,none⟩) (s.length+1) cap)):=by
 obtain⟨a1,a7,a8,b0,U⟩:=hv.appended (by decide) a2 hB.size Z hown J
 refine⟨⟨a1.cell,a1.frozen⟩,b0,⟨λr hr hl=>?_,U⟩,⟨⟨_,a7,by rw[List.length_append,List.map_append];exact a8,λr hr=>?_⟩,hB.trans U,Z⟩⟩
 ·have:=hX r hr
  rw[Below.heap_setCell _ _ _ _ this.2.2.1,J.block r (by simp;omega) (λe=>this.2.2.2 e.symm),Below.heap_alloc _ _ _ hl]
 ·have:=hX r hr
  have h2:=U.size
  refine⟨this.1,by omega,this.2.2.1,λe=>?_⟩
  obtain rfl:g=r:=by simpa[Value.ownBlock]using e
  rcases a6 with h|h
  ·exact this.2.2.2 h
  ·omega
theorem aif(F:Fence)(J:Nat)(U:F.fn 132)(z:F.round=none)(a:zO)(n cap:Nat)(w:zW):
  CallsIn F J prog 132 #[.slice a n cap] w λe w'=>e=.returned (.func (.func 147) #[] #[.pointer (some ⟨w.heap.size,0,none⟩)])/\w'=w.alloc (.cells #[.slice a n cap] 32):=by
 refine callsIn_of_wp func132 rfl U ?_ z
 simp only[ntmps132,List.size_toArray,List.length_cons,List.length_nil,Nat.reduceAdd,Nat.reduceSub,Array.replicate_succ,Array.replicate_zero,List.push_toArray,List.append_toArray,List.nil_append,List.cons_append]
 gi_wp2
 go_ret
 exact⟨rfl,rfl⟩
theorem acj(F:Fence)(Z:Nat)(a1:F.fn 147)(a2:F.round=none)(a6:1<=Z)(z:Nat)(a:zO)(n cap m:Nat)(N:zL)(w W0:zW)(hs:gT w a n N)(hG:aK m n N)(hB:Below w.heap.size w W0)(U:Boxed W0 z 32 (.slice a n cap)):
  Wo F Z prog 147 #[.pointer (some ⟨z,0,none⟩)] (λx:Int=>#[Value.int .i64 x]) w.heap.size (λr=>r=z) (λxs=>xs=aR N) n W0:=λl J W hW hJ hY h0=>
 acg F Z a1 a2 a6 l z a n cap m N w hs hG J hJ hY W (hB.trans (hW.mono hB.size)) ((hW.block z U.lt).trans U) h0
theorem acn(F:Fence)(nn:Nat)(hF: ∀f,F.fn f)(Z:F.round=none)(d3:3<=nn)(hC: ∀f args W R k,Calls prog f args W R->CallsIn F k prog f args W R)(M b t:Int)(m:Nat)(a a':zO)(len cap z J:Nat)(N:zL)(w:zW)(hs:gT w a len N)(c0:z<=maxLen)(hA:mD M b t N z=0)(hG:aK m len N):
  CallsIn F nn prog 109 #[.agg #[.int .i64 b,.int .i64 t,.slice a len cap,.slice a' z J],.int .i64 M] w (Pj w (aR N) .nilIface):=by
 have a1:Hid (Below w.heap.size w (w.alloc (.cells #[.int .i64 b,.int .i64 t,.slice a len cap,.slice a' z J] 35))):=zb.alloc zr _
 have a6:=aj (λk=>hC _ _ _ _ k (Nc M b t a a' len cap z J N _ (aG hs a1.out) c0))
 rw[hA,dz rfl]at a6
 have c3:=aj (λW=>aif F (nn-1) (hF _) Z a len cap W)
 have h1:1<=nn:=by omega
 have a7:=aj hF
 have HS:=aj hs
 have HG:=aj hG
 have b7:=hG.2.2.1
 clear hA hs hG
 refine callsIn_of_wp_marks func109 rfl (a7.out _) ?_ Z
 simp only[ntmps109,List.size_toArray,List.length_cons,List.length_nil,Nat.reduceAdd,Nat.reduceSub,Array.replicate_succ,Array.replicate_zero,List.push_toArray,List.append_toArray,List.nil_append,List.cons_append]
 gi_wp2
 refine(a6.out _).mono ?_
 rintro e w2 ⟨rfl,a8⟩
 have b5:=aj (ak a1.out a8)
 have b0:=(Hl a8).2.2.1
 have b8:(w2.alloc (.cells #[.slice none 0 0] 24)).cell? ⟨w.heap.size,2,none⟩=some (.slice a len cap):=(((Below.refl w2.heap.size w2).alloc zr _).cell (p:=⟨w.heap.size,2,none⟩) (zk w2 _ b0)).trans b0
 clear a8 a1 a6
 gi_wp2
 refine(c3.out _).mono ?_
 rintro e w' ⟨rfl,rfl⟩
 gi_wp2
 have bO:=Boxed.new w2 24 (.slice none 0 0)
 have bN:=Boxed.new (w2.alloc (.cells #[.slice none 0 0] 24)) 32 (.slice a len cap)
 rw[World.size_alloc]at bN
 have b6:=b5.out.size
 have b1:Below w.heap.size w ((w2.alloc (.cells #[.slice none 0 0] 24)).alloc (.cells #[.slice a len cap] 32)):=(b5.out.alloc b6 _).alloc (by simp;omega) _
 refine zZ Z h1 (gf:=147) (lb:=#[.pointer (some ⟨w2.heap.size+1,0,none⟩)]) rfl (a7.out _) (enters_of func147 (by kernel_rfl) rfl)
  (acj F (nn-1) (a7.out _) Z (by omega) (w2.heap.size+1) a len cap m N w _ HS.out HG.out b1 bN) (by simp;omega) (λr hr=>by subst hr;simp) (λ_=>rfl)
  (ach w w2.heap.size) (Za w _) (λX s W l o o' h1 h2 h3 h4=>aci o' h1 (by simp at h2;omega) h3 h4)
  ⟨⟨_,bO.alloc _,World.ownsRow_nil _ _ _ _,λr hr=>by subst hr;exact⟨by omega,by simp,by omega,by simp[Value.ownBlock]⟩⟩,b1,b6⟩
  (λx=>{tmps:=#[.agg #[.int .i64 b,.int .i64 t,.slice a len cap,.slice a' z J],.int .i64 M,.pointer (some ⟨w.heap.size,0,none⟩),undef,.slice none 0 0,.nilIface,.nilIface,.pointer (some ⟨w2.heap.size,0,none⟩),.int .i64 x,.agg #[.int .i64 b,.int .i64 t,.slice a len cap,.slice a' z J],.int .i64 M,.nilIface,.nilIface,.bool false,undef,.pointer (some ⟨w.heap.size,2,none⟩),.slice a len cap,.func (.func 147) #[] #[.pointer (some ⟨w2.heap.size+1,0,none⟩)],.int .i64 x,undef,undef,undef,undef,undef],defers:=[]}) ?assign ?body ?done
 case assign=>
  intro l x W K hK
  gi_wp2
  exact hK
 case body=>
  rintro l X iI x W ⟨⟨v,hv,U,hX⟩,hB,b2⟩ d4
  have hc:=hv.cell
  have HP:=aj (λw1 g cap ob h1 h2 h3=>@Zb w w2.heap.size X iI W w1 v x g cap ob hv U hX hB b2 h1 h2 h3)
  have b9:=aj U
  have c4:=aj hB.size
  clear hv U hX hB b2 bO bN b1 b8 b0
  gi_wp2_with (gi_at_builtin;refine xV _ rfl _ _ rfl w.heap.size v iI.length _ rfl (b9.out.alloc _) ⟨W.heap.size,0,none⟩ x rfl (fV _ _ _) (by omega) (by have:=c4.out;simp;omega) (W.heap.size+1) (by simp) ?_;intro g vc w1 hown b4 c5 d2;obtain⟨⟨d5,d6⟩,c6,c7,c8⟩:=HP.out w1 g vc _ hown b4 c5)
  exact⟨c6,c7,c8⟩
 case done=>
  rintro D xs X W hD rfl ⟨⟨v,hv,U,hX⟩,hB,b2⟩ hK
  have hc:=hv.cell
  have c9:=iY HG.out
  have hlen:=oK HG.out
  obtain⟨a2,b3,rfl,d0⟩:=kJ rfl (by unfold maxLen;omega) (abM b7 c9) (ownsRow_putObj U (.deferred none) hK rfl)
  have d1:=hB.trans (belowK_b (w:=w) zr W D _ (.deferred none) (by simp at hD;omega) hK rfl rfl)
  gi_wp2
  refine⟨by simp,.inl ⟨_,_,rfl,run_takeDeferred hK,?_⟩⟩
  exact⟨.tuple #[.slice a2 (aR N).length b3,.nilIface],by simp[results,results109,go_sem],a2,b3,rfl,d0,d1⟩
theorem LQ(M b t:Int)(a a':zO)(len cap z J:Nat)(N:zL)(w:zW)(hs:gT w a len N)(a2:z<=maxLen)(hA:mD M b t N z≠0):
  Calls prog 109 #[.agg #[.int .i64 b,.int .i64 t,.slice a len cap,.slice a' z J],.int .i64 M] w λe w'=>e=.returned (.tuple #[.slice none 0 0,bC (mD M b t N z)])/\Below w.heap.size w w':=by
 have Z:Hid (Below w.heap.size w (w.alloc (.cells #[.int .i64 b,.int .i64 t,.slice a len cap,.slice a' z J] 35))):=zb.alloc zr _
 have U:=aj (Nc M b t a a' len cap z J N _ (aG hs Z.out) a2)
 rw[dx hA]at U⊢
 clear hs
 generalize mD M b t N z=c at U⊢
 go_enter func109,ntmps109
 go_wp2_with fail
 refine U.out.mono ?_
 rintro e w2 ⟨rfl,a1⟩
 have a6:=aj (ak Z.out a1)
 clear a1
 go_wp2
 go_ret2
 exact⟨by simp,a6.out⟩
theorem WA(M b t:Int)(m:Nat)(a a':zO)(len cap z J:Nat)(N:zL)(w:zW)(hs:gT w a len N)(Z:z<=maxLen)(hG:mD M b t N z=0->aK m len N):
  Calls prog 109 #[.agg #[.int .i64 b,.int .i64 t,.slice a len cap,.slice a' z J],.int .i64 M] w (Pj w (if mD M b t N z=0 then aR N else[]) (bC (mD M b t N z))):=by
 by_cases U:mD M b t N z=0
 ·rw[yP U,dz U]
  exact(callsIn_wide (n:=3)).1 (acn Fence.wide 3 (λ_=>trivial) rfl (by omega) (λf args W R k h=>callsIn_wide.2 h) M b t m a a' len cap z J N w hs Z U (hG U))
 ·rw[yN U]
  refine(LQ M b t a a' len cap z J N w hs Z U).mono ?_
  rintro e w' ⟨rfl,hb⟩
  exact⟨none,0,rfl,⟨Dr _,λ_ h=>by cases h⟩,hb⟩
def ND(b t:Int)(N:zL)(e:Nat):zI:=if bP b t N e=0 then aR N else[]
theorem aga(b t:Int)(a a':zO)(len cap z U:Nat)(N:zL)(w:zW)(hs:gT w a len N)(a2:z<=maxLen):
  Calls prog 88 #[.agg #[.int .i64 b,.int .i64 t,.slice a len cap,.slice a' z U]] w (Pj w (ND b t N z) (bC (bP b t N z))):=by
 have hB:=(Below.refl w.heap.size w).alloc zr (.cells #[.int .i64 b,.int .i64 t,.slice a len cap,.slice a' z U] 35)
 have J:=aj (WA 80 b t (aD b t).toNat a a' len cap z U N _ (aG hs hB) a2 (λh=>by rw[xC]at h;obtain⟨-,-,hG,-⟩:=bS h;rwa [hs.1]at hG))
 rw[xC]at J
 unfold Pj at J
 have HB:=aj hB
 unfold ND
 clear hs hB
 generalize(if bP b t N z=0 then aR N else[])=l at J⊢
 generalize bC (bP b t N z)=c at J⊢
 go_enter func88,ntmps88
 go_wp2_with fail
 refine J.out.mono ?_
 rintro e w2 ⟨ar,cr,rfl,Z,a1⟩
 have a6:=aj (ak HB.out a1)
 have a7:=aj (Z.mono HB.out.size)
 clear a1 Z
 go_wp2
 go_ret2
 exact⟨ar,cr,rfl,a7.out,a6.out⟩
theorem aco(b t:Int)(m:Nat)(a a':zO)(len cap z J:Nat)(N:zL)(w:zW)(hs:gT w a len N)(a2:z<=maxLen)(hA:mD 9223372036854775807 b t N z=0)(hG:aK m len N):
  Calls prog 108 #[.agg #[.int .i64 b,.int .i64 t,.slice a len cap,.slice a' z J]] w (Pj w (aR N) .nilIface):=by
 have hB:=(Below.refl w.heap.size w).alloc zr (.cells #[.int .i64 b,.int .i64 t,.slice a len cap,.slice a' z J] 35)
 have U:=aj (WA 9223372036854775807 b t m a a' len cap z J N _ (aG hs hB) a2 (λ_=>hG))
 rw[yP hA,dz hA]at U
 unfold Pj at U
 have HB:=aj hB
 clear hs hB hA hG
 generalize aR N=l at U⊢
 go_enter func108,ntmps108
 go_wp2_with fail
 refine U.out.mono ?_
 rintro e w2 ⟨ar,cr,rfl,Z,a1⟩
 have a6:=aj (ak HB.out a1)
 have a7:=aj (Z.mono HB.out.size)
 clear a1 Z
 go_wp2
 go_ret2
 exact⟨ar,cr,rfl,a7.out,a6.out⟩
theorem acp(b t:Int)(a a':zO)(len cap z J:Nat)(N:zL)(w:zW)(hs:gT w a len N)(a1:z<=maxLen)(hA:bP b t N z≠0):
  Calls prog 88 #[.agg #[.int .i64 b,.int .i64 t,.slice a len cap,.slice a' z J]] w λe w'=>e=.returned (.tuple #[.slice none 0 0,bC (bP b t N z)])/\Below w.heap.size w w':=by
 have hB:=(Below.refl w.heap.size w).alloc zr (.cells #[.int .i64 b,.int .i64 t,.slice a len cap,.slice a' z J] 35)
 have U:=aj (LQ 80 b t a a' len cap z J N _ (aG hs hB) a1 (by rw[xC];exact hA))
 rw[xC]at U
 have HB:=aj hB
 clear hs hB
 generalize bC (bP b t N z)=c at U⊢
 go_enter func88,ntmps88
 go_wp2_with fail
 refine U.out.mono ?_
 rintro e w2 ⟨rfl,Z⟩
 have a2:=aj (ak HB.out Z)
 clear Z
 go_wp2
 go_ret2
 exact⟨rfl,a2.out⟩
end Go.Proofs.YtceojneljnnooaaGreat
