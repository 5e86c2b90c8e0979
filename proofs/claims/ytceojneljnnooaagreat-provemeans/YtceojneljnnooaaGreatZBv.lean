import Derived.Test.YtceojneljnnooaaGreatBk
import Derived.Test.YtceojneljnnooaaGreatBt
open Go.Proofs.Tryz
namespace Go.Proofs.YtceojneljnnooaaGreat
open Go.RowKit
set_option maxHeartbeats 0
set_option maxRecDepth 100000
set_option linter.all false
def Qr(R:Nat->Nat->Bool)(mv:Int->Value)(mt:zI)(n:Nat)(z:zW)(p:Nat)(J:zW):Prop:=
 eu prog 203 J z.heap.size (nZ mv (aH R (mt.take p)))/\(J.rowIs (z.heap.size+1) 3 n λq=>.int .i64 (jc R mt p q))/\Below z.heap.size z J/\z.heap.size+2<=J.heap.size
theorem Qs(R:Nat->Nat->Bool)(mv:Int->Value)(mt:zI)(n:Nat)(z:zW):Qr R mv mt n z 0 ((z.alloc (.map #[] 0)).alloc (.cells (madeCells #[.int .i64 0] n) 3)):=by
 refine⟨(qZ z _ _).alloc _,?_,(zb.alloc zr _).alloc (by simp) _,by simp⟩;have:=(World.rowIs_made (z.alloc (.map #[] 0)) (.int .i64 0) n 3).congr (g:=λq=>.int .i64 (jc R mt 0 q)) λq _=>by rw[Pz]
 rwa [World.size_alloc]at this
theorem Qt{R:Nat->Nat->Bool}{mv:Int->Value}{mt:zI}{n:Nat}{J:zW}{p:Nat}{z W:zW}(h:Qr R mv mt n J p z)(hb:Below z.heap.size z W):Qr R mv mt n J p W:=by obtain⟨h1,h2,h3,h4⟩:=h;exact⟨h1.below hb,h2.of_block (hb.block _ h2.lt),h3.trans (hb.mono h3.size),Nat.le_trans h4 hb.size⟩
theorem Fh{R:Nat->Nat->Bool}{mv:Int->Value}{mt:zI}{n:Nat}{z:zW}{p:Nat}{J:zW}{U:zI}(h1:eu prog 203 J z.heap.size (nZ mv U))(h2:J.rowIs (z.heap.size+1) 3 n λq=>.int .i64 (jc R mt p q))(h3:Below z.heap.size z J)(h4:z.heap.size+2<=J.heap.size)(hp:p<mt.length)(h0:0<=mt.getD p 0){j:Nat}(hj:gU R (aH R mt) (mt.getD p 0)=j)(Z:aH R (mt.take (p+1))=U):Qr R mv mt n z (p+1) (J.setCell ⟨z.heap.size+1,(mt.getD p 0).toNat,none⟩ (.int .i64 (j:Int))):=by refine⟨by rw[Z];exact h1.setCell (by simp) _,(h2.set _ _).congr λq hq=>?_,h3.setCell (by simp) _,by simp[World.setCell];exact h4⟩;rw[PD hp h0,hj];split<;>rfl
theorem Uc(N:zL)(C:zI)(s q:Nat):sF N C 0 s q=if q=0 then C.getD s 0 else 0:=by
 unfold sF;split
 ·rfl
 ·rw[yN (by omega)]
theorem Ud(N:zL)(C:zI)(s j q:Nat):sF N C (j+1) s q=if q=1+j then C.getD (mV N s j) 0 else sF N C j s q:=by
 unfold sF;by_cases h0:q=0
 ·rw[yP h0,yN (by omega),yP h0]
 ·rw[yN h0]
  by_cases h1:q=1+j
  ·rw[yP (by omega),yP h1,show q-1=j by omega]
  ·rw[yN h1,yN h0]
   by_cases h2:q<=j
   ·rw[yP (by omega),yP h2]
   ·rw[yN (by omega),yN h2]
theorem LP:(prog.info? 203).map (·.size)=some 37:=by kernel_rfl
theorem Ce(w:zW){ops:Array Oper}{rest:List Oper}{o:Oper}{a:Act}{Q:Exit->Act->zW->Prop}(hg:o.guard=none)(x:Operand)(hop:o.op=Op.build 203 #[(0,x)])(c:Int)(hx:a.eval x=.int .i64 c)(z:Array Value)(J: ∀W:zW,(Instr.build 203 #[(0,.int .i64 c)]).run prog W=.ok (.agg z) W)(hK:wpList prog ops Q rest (a.put o.dst (.agg z)) w):wpList prog ops Q (o::rest) a w:=by refine wpList_plain hg λK' hK'=>?_;unfold Oper.wp execOp;simp only[hop,List.map_toArray,List.map_cons,List.map_nil,hx,Sem.run_bind,J w,Result.andThen_ok];exact hK' _ _ hK
theorem IQ(w:zW):(zeroValue 3).run prog w=.ok (.int .i64 0) w:=by kernel_rfl
def aia(w:zW)(C:zI)(k:Nat)(e:Ending)(w':zW):Prop:= ∃z,e=.returned (.tuple #[.slice (some ⟨z,0,none⟩) C.length C.length,.int .i64 (k:Int)])/\w.heap.size<=z/\Sl w' (some ⟨z,0,none⟩) C.length C/\Below w.heap.size w w'
def ajN(w:zW)(C:zI)(k:Nat)(e:Ending)(w':zW):Prop:=
 (k<=80->aia w C k e w')/\(80<k-> ∃z j:Nat,80<j/\e=.returned (.tuple #[.slice (some ⟨z,0,none⟩) C.length C.length,.int .i64 (j:Int)])/\Below w.heap.size w w')
theorem Ue(b t:Int)(a:zO)(n cap m:Nat)(N:zL)(va:Value)(E:zB)(i2:zO)(cs:Nat)(ac:zO)(cc k:Nat)(C:zI)(w:zW)(hs:gT w a n N)(hG:aK m n N)(i4:Sl w i2 (aR N).length (aR N))(hc:Sl w ac n C)(hk:1<=k)(hC:YC N E m n k C):
  Calls prog 133 #[.agg #[.int .i64 b,.int .i64 t,.slice a n cap,va],.slice i2 (aR N).length cs,.slice ac n cc] w (ajN w ((List.range n).map (jc (bW N E m (k+1)) (aR N) (aR N).length)) (aH (bW N E m (k+1)) (aR N)).length):=by
 have p4:=hG.2.1
 have o6:=hG.2.2.1
 have o7:=hG.2.2.2.1
 have p5:=fO n (by omega)
 have p6:=@run_makeMap prog
 have c6:Below w.heap.size w (w.alloc (.cells #[.int .i64 b,.int .i64 t,.slice a n cap,va] 35)):=zb.alloc zr _
 have f3:=aj c6
 have HS:=aj (aG hs c6)
 have f5:=aj (aF i4 c6)
 have HC:=aj (aF hc c6)
 have i5:=aj (λW=>@Hl w W (.int .i64 b) (.int .i64 t) (.slice a n cap) va 35)
 have i6:=aj (iY hG)
 have i7:=aj hG
 have i8:=aj (λs t hs ht=>@abn m n N hG E k C hk hC s t hs ht)
 have i9:=aj (λp=>@Py (bW N E m (k+1)) (iR N E m (k+1)) (aR N) p)
 have n6:=oK hG
 have p7:Hid (C.length=n):=hC.1
 clear hs i4 hc hG hC c6
 generalize j0:aR N=mt at f5 i6 i8 i9 n6⊢
 have p8:=aj j0
 clear j0
 generalize j1:w.alloc (.cells #[.int .i64 b,.int .i64 t,.slice a n cap,va] 35)=J at f3 HS f5 HC i5
 have l8:Hid (J.heap.size=w.heap.size+1):=by show _=_;rw[<-j1];simp
 have j2:=aj (Qs (bW N E m (k+1)) (lG N C m) mt n J)
 go_enter func133,ntmps133
 go_wp2
 clear j1
 generalize(J.alloc (.map #[] 0)).alloc (.cells (madeCells #[.int .i64 0] n) 3)=W2 at j2⊢
 go_loopw[23] (λi wx=> ∃p:Nat,p<=mt.length/\i=.int .i64 p/\(aH (bW N E m (k+1)) (mt.take p)).length<=80/\Qr (bW N E m (k+1)) (lG N C m) mt n J p wx) (λi _=>mt.length-(intOf i).toNat)
 case atStart=>exact⟨0,by omega,rfl,by simp[aH],j2.out⟩
 case round=>
  obtain⟨p,hp,rfl,b2,j3⟩:=hrel
  have e4:=aj j3
  obtain⟨h1,h2,h3,h4⟩:=j3
  have H1:=aj h1
  have H2:=aj h2
  have H3:=aj h3
  have H4:=aj h4
  clear h1 h2 h3 h4
  by_cases c7:p<mt.length
  ·have l9:(p:Int)<(mt.length:Int):=by omega
   obtain⟨bs,os,rfl,j4⟩:=bH (aF f5.out H3.out) p c7
   have e5:mt.getD p 0∈mt:=by rw[aS _ p c7];exact List.getElem_mem _
   have j5:=i6.out.2 _ e5
   obtain⟨s,hs⟩: ∃s:Nat,mt.getD p 0=s:=⟨(mt.getD p 0).toNat,by omega⟩
   obtain⟨d0,d1⟩:=i9.out p c7
   rw[hs]at j4 e5 j5 d0 d1
   have a7:=aj d0
   have c3:=aj d1
   have b8:=aj hs
   have i1:=aj e5
   have b3:s<n:=by omega
   have o8:(s:Int)<(n:Int):=by omega
   obtain⟨bc,oc,rfl,j6⟩:=bH (aF HC.out H3.out) s b3
   obtain⟨bn,on,an,cn,rfl,c8,d2⟩:=gF (aG HS.out H3.out) s b3
   have d3:=i7.out.2.2.2.2.2 s b3
   rw[d3.1]at c8 d2
   have d4:=aj d2
   have n7:=aj d3.2
   obtain⟨n8,n9,e6,o0⟩:=i5.out wr H3.out
   have f6:=aj e6
   have f7:=aj c8
   clear hs e5 j5 d0 d1 d2 d3 n8 n9 e6 o0 c8
   obtain⟨U,b4⟩: ∃U,U=(Array.range 37).map λq=>Value.int .i64 (if q=0 then C.getD s 0 else 0):=⟨_,rfl⟩
   have f8: ∀W:zW,(Instr.build 203 #[(0,.int .i64 (C.getD s 0))]).run prog W=.ok (.agg U) W:=λW=>by rw[b4];exact Iz _ W
   have c4:Hid (U.size=37):=by show _=_;rw[b4];simp
   have j7:Hid ((prog.info? 203).map (·.size)=some U.size):=by show _=_;rw[c4.out];exact LP
   have j8:Hid (U.all (·.oneCell')=true):=by show _=_;rw[b4,Array.all_eq_true_iff_forall_mem];intro v hv;obtain⟨q,-,rfl⟩:=Array.mem_map.1 hv;rfl
   have e7:Hid ((wr.alloc (.cells U 203)).rowIs wr.heap.size 203 37 λq=>.int .i64 (sF N C 0 s q)):=by have h0:=World.rowIs_alloc wr U 203 (λq=>.int .i64 (sF N C 0 s q)) (λq hq=>by rw[b4]at hq⊢;simp at hq;simp[hq,Uc]);show World.rowIs _ _ _ _ _;rwa [c4.out]at h0
   have b9:=aj ((Below.refl wr.heap.size wr).alloc zr (.cells U 203))
   have e6:(wr.alloc (.cells U 203)).cell? ⟨w.heap.size,2,none⟩=some (.slice (some ⟨bn,on,none⟩) n cap):=(b9.out.cell (p:=⟨w.heap.size,2,none⟩) (zk wr _ f6.out)).trans f6.out
   have c8:(wr.alloc (.cells U 203)).cell? ⟨bn,on+s,none⟩=some (.slice an m cn):=(b9.out.cell (p:=⟨bn,on+s,none⟩) (zk wr _ f7.out)).trans f7.out
   clear b4
   generalize C.getD s 0=c0 at j6 f8
   have j9:=aj f8
   clear f8
   go_wp2_with (first
    |(refine Ce _ rfl _ rfl _ rfl U j9.out ?_)
    |(refine tY rfl 203 _ _ rfl _ _ _ rfl rfl _ (zl _ _) j7.out (by rw[c4.out];rfl) j8.out ?_;rw[World.setRow_alloc_new]))
   obtain⟨wo,k0⟩: ∃wo:zW,wo=wr:=⟨_,rfl⟩
   rw[<-k0]at e4 H1 H2 H3 H4 e7 b9 d4⊢
   clear k0 e6 c8 j6 j4 j9 j7 j8 c4 f7 f6 wr
   generalize wo.alloc (.cells U 203)=wA at e7 b9⊢
   go_loopw[38] (λi wx=> ∃j:Nat,j<=m/\i=.int .i64 j/\(wx.rowIs wo.heap.size 203 37 λq=>.int .i64 (sF N C j s q))/\Below wo.heap.size wo wx) (λi _=>m-(intOf i).toNat)
   case atStart=>exact⟨0,by omega,rfl,e7.out,b9.out⟩
   case round=>
    obtain⟨j,hj,rfl,k3,k4⟩:=hrel
    have e8:=aj k3
    have e9:=aj k4
    clear k3 k4
    by_cases k5:j<m
    ·have n0:(j:Int)<(m:Int):=by omega
     obtain⟨b1,o1,rfl,k6⟩:=bH (aF d4.out e9.out) j k5
     have f0:=kL i7.out b3 k5
     rw[f0.2]at k6
     obtain⟨_,_,e1,k7⟩:=bH (aF HC.out (H3.out.trans (e9.out.mono H3.out.size))) _ f0.1
     cases e1
     have n2:((mV N s j:Nat):Int)<(n:Int):=by have:=f0.1;omega
     have p9:=e8.out.cell (i:=1+j) (by omega)
     have q0:=e8.out.frozen (1+j)
     have b5:=aj (λq=>Ud N C s j q)
     generalize C.getD (mV N s j) 0=c1 at k7 b5
     generalize mV N s j=x1 at k6 k7 n2
     clear f0
     go_wp2
     go_roundw
     case rel=>exact⟨j+1,by omega,by go_num,(e8.out.set _ _).congr λq hq=>by rw[b5.out q];split<;>rfl,e9.out.setCell zr _⟩
     case measure=>simp[intOf];omega
    ·have n0: ¬((j:Int)<(m:Int)):=by omega
     obtain rfl:m=j:=by omega
     have d5: ∀q,(Lit.int .i64 (C.getD q 0)).wf=true:=λq=>by
      by_cases hq:q<C.length
      ·exact HC.out.2.2.1 _ (by rw[aS _ q hq];exact List.getElem_mem hq)
      ·rw[show C.getD q 0=0 by simp[List.getD,Nat.le_of_not_lt hq]];decide
     obtain⟨kl,k8⟩:=YS (N:=N) (C:=C) (m:=m) (s:Int) (λq=>by
      unfold sF;split
      ·exact d5 _
      ·split
       ·exact d5 _
       ·decide)
     obtain⟨a8,a2,f9⟩: ∃a8,Value.agg a8=lG N C m (s:Int)/\wr.heap[wo.heap.size]? =some (.cells a8 203 (0,0)):=⟨_,rfl,Qf e8.out⟩
     have d6:Hid ((prog.info? 203).map (·.size)=some a8.size):=by unfold lG at a2;injection a2 with a2;show _=_;rw[a2];simp[LP]
     have c9:=aj (a2▸k8)
     have d7:=aj f9
     have d8:=aj a2
     have d9:=aj (Qt e4.out e9.out)
     have HZ:=aj (λW:zW=>IQ W)
     have o9:Hid (wo.heap.size≠J.heap.size/\wo.heap.size≠J.heap.size+1):=by have:=H4.out;constructor<;>omega
     have e0:Hid (∀r∈aH (bW N E m (k+1)) (mt.take p),r∈mt):=λr hr=>List.mem_of_mem_take (nu _ _ r hr)
     have k9:(aH (bW N E m (k+1)) (mt.take p)).length<=n:=by have:=lW (bW N E m (k+1)) (mt.take p);rw[List.length_take]at this;omega
     have b5:Hid (∀r∈aH (bW N E m (k+1)) (mt.take p),(lG N C m r=lG N C m (s:Int)↔bW N E m (k+1) s r.toNat=true)):=λr hr=>by have h:=i8.out r (s:Int) (e0.out r hr) i1.out;rw[Int.toNat_natCast]at h;exact h.trans ⟨(iR N E m (k+1)).symm _ _,(iR N E m (k+1)).symm _ _⟩
     obtain⟨g1,g2,g3,g4⟩:=d9.out
     have G1:=aj g1
     have G2:=aj g2
     have G3:=aj g3
     have G4:=aj g4
     clear g1 g2 g3 g4 k8 d5 a2 f9 d4 e7 b9 n7
     by_cases hr: ∃r∈aH (bW N E m (k+1)) (mt.take p),bW N E m (k+1) s r.toNat=true
     ·have l1:=Aq (s:=(s:Int)) hr
      have c5:=aj (K8 (mv:=lG N C m) (s:=(s:Int)) b5.out hr)
      rw[<-d8.out]at c5
      have Z:Hid (aH (bW N E m (k+1)) (mt.take (p+1))=aH (bW N E m (k+1)) (mt.take p)):=by show _=_;rw[c3.out,yP l1]
      have l3:=G2.out.cell (i:=s) b3
      have l4:=G2.out.frozen s
      clear hr c3
      generalize e2:aH (bW N E m (k+1)) (mt.take p)=z at a7 c5 Z G1 k9 b2
      have a1:Hid ((nZ (lG N C m) z).length=z.length):=BN _ _
      have o3: ¬(80:Int)<(z.length:Int):=by omega
      generalize l5:gU (bW N E m (k+1)) z (s:Int)=cv at a7 c5
      have q1:=aj l5
      clear e2 l5 l1 b5 e0 e4 d9 H1 H2
      go_wp2_with (first
       |(refine pY rfl 203 _ rfl _ rfl _ _ _ _ d7.out underlying203 rfl d6.out ?_)
       |(at_lookup;refine jM _ rfl _ _ 200 rfl 203 3 xO underlying200 (HZ.out _) J.heap.size _ rfl G1.out _ kl rfl c9.out _ c5.out ?_)
       |(at_len;refine jU _ rfl _ 200 rfl 203 3 underlying200 J.heap.size _ rfl (G1.out.setCell (by simp) _) ?_;rw[a1.out]))
      go_roundw
      case rel=>
       refine⟨p+1,by omega,by go_num,by rw[Z.out];exact b2,?_⟩
       have e3:=@Fh (bW N E m (k+1)) (lG N C m) mt n J p wr z G1.out G2.out G3.out G4.out c7 (by rw[b8.out];omega) cv (by rw[b8.out];exact a7.out) Z.out
       rwa [b8.out,Int.toNat_natCast]at e3
      case measure=>simp[intOf];omega
     ·have g5: ¬gU (bW N E m (k+1)) (aH (bW N E m (k+1)) (mt.take p)) (s:Int)<(aH (bW N E m (k+1)) (mt.take p)).length:=λh=>hr ⟨(aH (bW N E m (k+1)) (mt.take p)).getD (gU (bW N E m (k+1)) (aH (bW N E m (k+1)) (mt.take p)) (s:Int)) 0,by rw[aS _ _ h];exact List.getElem_mem h,by have:=wS h;rwa [Int.toNat_natCast]at this⟩
      have b6:=aj (K7 (mv:=lG N C m) (kH:=aH (bW N E m (k+1)) (mt.take p)) (s:=(s:Int)) (λr l6 e=>hr ⟨r,l6,(b5.out r l6).1 e⟩))
      rw[<-d8.out]at b6
      have Z:Hid (aH (bW N E m (k+1)) (mt.take (p+1))=aH (bW N E m (k+1)) (mt.take p)++[(s:Int)]):=by show _=_;rw[c3.out,yN g5]
      have g6:Hid (gU (bW N E m (k+1)) (aH (bW N E m (k+1)) (mt.take p)) (s:Int)=(aH (bW N E m (k+1)) (mt.take p)).length):=by have h1:gU (bW N E m (k+1)) (aH (bW N E m (k+1)) (mt.take p)) (s:Int)<=(aH (bW N E m (k+1)) (mt.take p)).length:=List.findIdx_le_length;show _=_;omega
      rw[g6.out]at a7
      clear hr c3 g5 g6
      generalize e2:aH (bW N E m (k+1)) (mt.take p)=z at a7 b6 Z G1 k9 b2
      have a1:Hid ((nZ (lG N C m) z).length=z.length):=BN _ _
      have g7:Hid (nZ (lG N C m) z++[(Value.agg a8,.int .i64 (z.length:Int))]=nZ (lG N C m) (z++[(s:Int)])):=by show _=_;rw[d8.out];exact PE _ _ _
      generalize g8:nZ (lG N C m) z=nl at G1 b6 a1 g7
      obtain⟨L,hL⟩: ∃L,z.length+1=L:=⟨_,rfl⟩
      have g9:Hid ((nl++[(Value.agg a8,Value.int .i64 (z.length:Int))]).length=L):=by show _=_;rw[List.length_append,a1.out];exact hL
      have n3:Hid (L<=(aH (bW N E m (k+1)) mt).length):=by have h:=(jf (R:=bW N E m (k+1)) (List.take_prefix (p+1) mt)).length_le;rw[Z.out,List.length_append,List.length_singleton,hL]at h;exact h
      clear e2 g8 b5 e0 e4 d9 H1 H2
      by_cases o4:80<L
      ·have n4:(80:Int)<(L:Int):=by omega
       go_wp2_with (first
        |(refine pY rfl 203 _ rfl _ rfl _ _ _ _ d7.out underlying203 rfl d6.out ?_)
        |(at_lookup;refine jo _ rfl _ _ 200 rfl 203 3 xO underlying200 (HZ.out _) J.heap.size _ rfl G1.out _ kl rfl c9.out b6.out ?_)
        |(at_len;refine jU _ rfl _ 200 rfl 203 3 underlying200 J.heap.size _ rfl G1.out ?_;rw[a1.out])
        |(at_mapUpdate;refine jT _ rfl _ _ _ 200 rfl 203 3 xO underlying200 J.heap.size _ rfl G1.out (by rw[a1.out];unfold maxLen;omega) (.agg a8) (.int .i64 (z.length:Int)) kl rfl rfl c9.out b6.out ?_;intro w3 b0 b7;have f1:=aj b0;have f2:=aj b7;have a6:=G2.out.of_block (b7.grown.block _ G2.out.lt (by simp));have l7:=aj a6;have l3:=a6.cell (i:=s) b3;have l4:=a6.frozen s;clear b0 b7 a6)
        |(at_len;refine jU _ rfl _ 200 rfl 203 3 underlying200 J.heap.size _ rfl (f1.out.setCell (by simp) _) ?_;rw[g9.out]))
       go_ret2
       refine⟨λh=>?_,λ_=>⟨J.heap.size+1,L,o4,by rw[List.length_map,List.length_range];rfl,?_⟩⟩
       ·have:=n3.out
        omega
       ·exact ak f3.out ((qw G3.out f2.out zr G3.out.size).setCell (by simp) _)
      ·have n4: ¬(80:Int)<(L:Int):=by omega
       go_wp2_with (first
        |(refine pY rfl 203 _ rfl _ rfl _ _ _ _ d7.out underlying203 rfl d6.out ?_)
        |(at_lookup;refine jo _ rfl _ _ 200 rfl 203 3 xO underlying200 (HZ.out _) J.heap.size _ rfl G1.out _ kl rfl c9.out b6.out ?_)
        |(at_len;refine jU _ rfl _ 200 rfl 203 3 underlying200 J.heap.size _ rfl G1.out ?_;rw[a1.out])
        |(at_mapUpdate;refine jT _ rfl _ _ _ 200 rfl 203 3 xO underlying200 J.heap.size _ rfl G1.out (by rw[a1.out];unfold maxLen;omega) (.agg a8) (.int .i64 (z.length:Int)) kl rfl rfl c9.out b6.out ?_;intro w3 b0 b7;have f1:=aj b0;have f2:=aj b7;have a6:=G2.out.of_block (b7.grown.block _ G2.out.lt (by simp));have l7:=aj a6;have l3:=a6.cell (i:=s) b3;have l4:=a6.frozen s;clear b0 b7 a6)
        |(at_len;refine jU _ rfl _ 200 rfl 203 3 underlying200 J.heap.size _ rfl (f1.out.setCell (by simp) _) ?_;rw[g9.out]))
       go_roundw
       case rel=>
        refine⟨p+1,by omega,by go_num,by rw[Z.out,List.length_append,List.length_singleton];omega,?_⟩
        have b0:=f1.out
        rw[g7.out]at b0
        have e3:=@Fh (bW N E m (k+1)) (lG N C m) mt n J p w3 (z++[(s:Int)]) b0 l7.out (qw G3.out f2.out zr G3.out.size) (Nat.le_trans G4.out f2.out.grown.size) c7 (by rw[b8.out];omega) z.length (by rw[b8.out];exact a7.out) Z.out
        rwa [b8.out,Int.toNat_natCast]at e3
       case measure=>simp[intOf];omega
  ·have l9: ¬((p:Int)<(mt.length:Int)):=by omega
   obtain rfl:p=mt.length:=by omega
   rw[List.take_length]at H1 b2
   have a1:Hid ((nZ (lG N C m) (aH (bW N E m (k+1)) mt)).length=(aH (bW N E m (k+1)) mt).length):=BN _ _
   have n5:Hid (Sl wr (some ⟨J.heap.size+1,0,none⟩) n ((List.range n).map (jc (bW N E m (k+1)) mt mt.length))):=by
    refine ig (by simp) (by unfold maxLen;omega) (λx hx=>?_) (H2.out.congr λq hq=>?_)
    ·obtain⟨q,-,rfl⟩:=List.mem_map.1 hx
     unfold jc;split
     ·rename_i hq;have h1:=xE (iR N E m (k+1)) (s:=(q:Int)) (List.mem_of_mem_take hq);have h2:=lW (bW N E m (k+1)) mt;exact WalkArith.wf_i64 (by omega)
     ·decide
    ·simp[List.getD,hq]
   have o5:=aj (ak f3.out H3.out)
   generalize g8:nZ (lG N C m) (aH (bW N E m (k+1)) mt)=nl at H1 a1
   clear g8
   go_wp2_with (at_len;refine jU _ rfl _ 200 rfl 203 3 underlying200 J.heap.size _ rfl H1.out ?_;rw[a1.out])
   go_ret2
   refine⟨λ_=>?_,λh=>by omega⟩
   unfold aia
   rw[List.length_map,List.length_range]
   exact⟨J.heap.size+1,rfl,by have:=l8.out;omega,n5.out,o5.out⟩
def DV(E:zB)(mt:zI)(p q:Nat):Int:=if(q:Int)∈mt.take p/\E.getD q false=true then 1 else 0
theorem Y4(E:zB)(mt:zI)(q:Nat):DV E mt 0 q=0:=by simp[DV]
theorem Y5{E:zB}{mt:zI}{p:Nat}(U:p<mt.length){s:Nat}(hs:mt.getD p 0=(s:Int))(q:Nat):DV E mt (p+1) q=if q=s/\E.getD s false=true then 1 else DV E mt p q:=by
 have J:mt.take (p+1)=mt.take p++[mt.getD p 0]:=by rw[List.take_succ_eq_append_getElem U,aS _ p U]
 unfold DV;rw[J,hs];by_cases e:q=s
 ·subst e
  by_cases h:E.getD q false=true
  ·rw[yP ⟨by simp,h⟩,yP ⟨rfl,h⟩]
  ·rw[yN (λz=>h z.2),yN (λz=>h z.2),yN (λz=>h z.2)]
 ·rw[yN (λh:q=s/\_=>e h.1)]
  have:((q:Int)∈mt.take p++[(s:Int)])↔((q:Int)∈mt.take p):=by
   rw[List.mem_append,List.mem_singleton];constructor
   ·rintro(h|h)
    ·exact h
    ·exact absurd (by omega) e
   ·exact Or.inl
  simp only[this]
theorem Y6{m n:Nat}{N:zL}(hG:aK m n N)(E:zB):YC N E m n 1 ((List.range n).map (DV E (aR N) (aR N).length)):=by
 refine abl (by simp) λs hs=>?_;have z:=lX hG hs;have h0:=((iY hG).2 s hs).1;have e:((List.range n).map (DV E (aR N) (aR N).length)).getD s.toNat 0=DV E (aR N) (aR N).length s.toNat:=by simp[List.getD,z]
 rw[e];unfold DV;rw[List.take_length,show((s.toNat:Nat):Int)=s by omega];simp only[hs,true_and]
def aib(w:zW)(N:zL)(E:zB)(m n:Nat)(e:Ending)(w':zW):Prop:=
 ∃K z,(aH (bW N E m K) (aR N)).length=(aH (bW N E m (K+1)) (aR N)).length/\e=.returned (.tuple #[.slice (some ⟨z,0,none⟩) n n,.nilIface])/\w.heap.size<=z/\
  Sl w' (some ⟨z,0,none⟩) n ((List.range n).map (jc (bW N E m (K+1)) (aR N) (aR N).length))/\Below w.heap.size w w'
def aic(w:zW)(N:zL)(E:zB)(m n:Nat)(e:Ending)(w':zW):Prop:=
 (bE N E m<=80->aib w N E m n e w')/\(80<bE N E m->e=.returned (.tuple #[.slice none 0 0,.iface 45 (.int .i64 3)])/\Below w.heap.size w w')
theorem Qu{m n:Nat}{N:zL}(hG:aK m n N)(E:zB){k:Nat}(z:(aH (bW N E m k) (aR N)).length=(aH (bW N E m (k+1)) (aR N)).length):(aH (bW N E m (k+1)) (aR N)).length=bE N E m:=by obtain⟨-,J,-,-⟩:=Hy hG E z;rw[<-mE (N:=N),J,aZ]
theorem Qv(b t:Int)(a:zO)(n cap m:Nat)(N:zL)(a':zO)(a6:Nat)(E:zB)(c6:zO)(cs:Nat)(w:zW)(hs:gT w a n N)(hG:aK m n N)(he:mR w a' n E)(b6:Sl w c6 (aR N).length (aR N)):
  Calls prog 110 #[.agg #[.int .i64 b,.int .i64 t,.slice a n cap,.slice a' n a6],.slice c6 (aR N).length cs] w (aic w N E m n):=by
 have i6:=hG.2.1
 have i2:=hG.2.2.1
 have i7:=fO n (by omega)
 have a8:Below w.heap.size w (w.alloc (.cells #[.int .i64 b,.int .i64 t,.slice a n cap,.slice a' n a6] 35)):=zb.alloc zr _
 have c7:=aj a8
 have HS:=aj (aG hs a8)
 have HE:=aj (bD he a8)
 have b7:=aj (aF b6 a8)
 have b8:=aj (λW=>@Hl w W (.int .i64 b) (.int .i64 t) (.slice a n cap) (.slice a' n a6) 35)
 have e2:=aj (iY hG)
 have c8:=aj (λac cc k C W h1 h2 h3 hk hC=>Ue b t a n cap m N (.slice a' n a6) E c6 cs ac cc k C W h1 hG h2 h3 hk hC)
 have c9:=aj (Y6 hG E)
 have e3:=aj (λk=>afQ (YB hG E k))
 have e4:=aj (λk h=>@Tz m n N hG E k h)
 have d0:=aj (λk=>(Dx (R:=bW N E m k) hG).1)
 have d1:=aj (λk=>Tx hG E k)
 have b0:=aj (λk h=>@Qu m n N hG E k h)
 have e5:=oK hG
 clear hs b6 he hG a8
 have d2:Hid (∀k,(aH (bW N E m k) (aR N)).length<=n):=λk=>Nat.le_trans (lW _ _) e5
 unfold aic aib
 generalize e6:aR N=mt at b7 e2 c8 c9 e3 e4 d0 d1 b0 e5 d2⊢
 generalize bE N E m=LK at d1 b0⊢
 have i8:=aj e6
 clear e6
 generalize e7:w.alloc (.cells #[.int .i64 b,.int .i64 t,.slice a n cap,.slice a' n a6] 35)=Z at c7 HS b7 HE b8
 have g1:Hid (Z.heap.size=w.heap.size+1):=by show _=_;rw[<-e7];simp
 have g5:=b8.out Z zb
 obtain⟨b9,c0,c3,d3⟩:=g5
 have d4:Hid (((Z.alloc (.cells (madeCells #[.int .i64 0] n) 3)).rowIs Z.heap.size 3 n λq=>.int .i64 (DV E mt 0 q))/\Below Z.heap.size Z (Z.alloc (.cells (madeCells #[.int .i64 0] n) 3))):=
  ⟨(World.rowIs_made Z (.int .i64 0) n 3).congr λq _=>by rw[Y4],zb.alloc zr _⟩
 go_enter func110,ntmps110
 go_wp2
 clear e7 b9 c0 c3 d3
 generalize Z.alloc (.cells (madeCells #[.int .i64 0] n) 3)=W1 at d4⊢
 go_loopw[18] (λi wx=> ∃p:Nat,p<=mt.length/\i=.int .i64 p/\(wx.rowIs Z.heap.size 3 n λq=>.int .i64 (DV E mt p q))/\Below Z.heap.size Z wx) (λi _=>mt.length-(intOf i).toNat)
 case atStart=>exact⟨0,by omega,rfl,d4.out⟩
 case round=>
  obtain⟨p,hp,rfl,e8,a1⟩:=hrel
  have a7:=aj e8
  have J:=aj a1
  clear e8 a1
  by_cases d5:p<mt.length
  ·have g2:(p:Int)<(mt.length:Int):=by omega
   obtain⟨bs,os,rfl,g6⟩:=bH (aF b7.out J.out) p d5
   have e9:mt.getD p 0∈mt:=by rw[aS _ p d5];exact List.getElem_mem _
   have f0:=e2.out.2 _ e9
   obtain⟨s,hs⟩: ∃s:Nat,mt.getD p 0=s:=⟨(mt.getD p 0).toNat,by omega⟩
   rw[hs]at g6 f0
   have f1:s<n:=by omega
   have i4:(s:Int)<(n:Int):=by omega
   have b4:=aj (λq=>Y5 (E:=E) d5 hs q)
   obtain⟨be,oe,rfl,g7⟩:=jL (bD HE.out J.out) s f1
   obtain⟨b9,c0,c3,d3⟩:=b8.out wr J.out
   have i9:=a7.out.cell (i:=s) f1
   have j0:=a7.out.frozen s
   clear hs e9 f0 b9 c0 c3
   generalize E.getD s false=ev at g7 b4
   rcases ev with _|_
   ·go_wp2
    go_roundw
    case rel=>exact⟨p+1,by omega,by go_num,a7.out.congr λq hq=>by rw[b4.out q,yN (by simp)],J.out⟩
    case measure=>simp[intOf];omega
   ·go_wp2
    go_roundw
    case rel=>exact⟨p+1,by omega,by go_num,(a7.out.set _ _).congr λq hq=>by rw[b4.out q];simp only[and_true];split<;>rfl,J.out.setCell zr _⟩
    case measure=>simp[intOf];omega
  ·have g2: ¬((p:Int)<(mt.length:Int)):=by omega
   obtain rfl:p=mt.length:=by omega
   have f2:Hid (Sl wr (some ⟨Z.heap.size,0,none⟩) n ((List.range n).map (DV E mt mt.length))):=by
    refine ig (by simp) (by unfold maxLen;omega) (λx hx=>?_) (a7.out.congr λq hq=>?_)
    ·obtain⟨q,-,rfl⟩:=List.mem_map.1 hx;unfold DV;split<;>decide
    ·simp[List.getD,hq]
   have d6:=aj J.out
   clear a7 J d4
   go_wp2
   go_loopg[6,9] (n+1) (λg c bv wx=> ∃(k:Nat) (C:zI) (z bc:Nat),g=n+1-z/\1<=k/\z=(if k=1 then 0 else(aH (bW N E m k) mt).length)/\YC N E m n k C/\c=.slice (some ⟨bc,0,none⟩) n n/\bv=.int .i64 z/\Sl wx (some ⟨bc,0,none⟩) n C/\Below Z.heap.size Z wx)
   case atStart=>exact⟨1,_,0,Z.heap.size,rfl,by omega,rfl,c9.out,rfl,rfl,f2.out,d6.out⟩
   case round=>
    obtain⟨k,C,z,bc,f3,g8,b5,hC,rfl,rfl,f5,a1⟩:=hrel
    have g9:=aj f3
    have f6:=aj b5
    have HC:=aj hC
    have J:=aj a1
    have j1:z<=n:=by
     rw[b5];split
     ·omega
     ·exact d2.out k
    obtain⟨b9,c0,c3,d3⟩:=b8.out _ a1
    have U:=aj (c8.out (some ⟨bc,0,none⟩) n k C _ (aG HS.out a1) (aF b7.out a1) f5 g8 hC)
    unfold ajN aia at U
    rw[List.length_map,List.length_range]at U
    have g3:=d2.out (k+1)
    have d7:=aj (d1.out (k+1))
    clear f3 b5 hC f5 a1 f2 d6 c9
    by_cases c4:80<(aH (bW N E m (k+1)) mt).length
    ·have e1:Hid (80<LK):=Nat.lt_of_lt_of_le c4 d7.out
     go_wp2_with (go_at_call 133;refine U.out.mono ?_;rintro e w4 ⟨-,hh⟩;obtain⟨bf,j,i5,rfl,a2⟩:=hh c4;have b1:=aj a2;have i1:(80:Int)<(j:Int):=(by omega);clear hh a2)
     go_ret2
     refine⟨λh=>?_,λ_=>⟨by simp,ak c7.out (ak J.out b1.out)⟩⟩
     have:=e1.out
     omega
    have g4: ¬(80:Int)<((aH (bW N E m (k+1)) mt).length:Int):=by omega
    have c5:=aj (Nat.le_of_not_lt c4)
    by_cases b6:(aH (bW N E m (k+1)) mt).length=z
    ·have d8:(((aH (bW N E m (k+1)) mt).length:Int)==(z:Int))=true:=by simp;omega
     have f7:Hid ((aH (bW N E m k) mt).length=(aH (bW N E m (k+1)) mt).length):=by
      have h:=f6.out;by_cases h1:k=1
      ·rw[yP h1]at h;have:=d0.out (k+1);show _=_;omega
      ·rw[yN h1]at h;show _=_;omega
     go_wp2_with (go_at_call 133;refine U.out.mono ?_;rintro e w4 ⟨hh,-⟩;obtain⟨bf,rfl,b2,b3,a2⟩:=hh c5.out;clear hh;have d9:=aj b3;have b1:=aj a2;have e0:=aj b2;clear b3 a2 b2)
     go_ret2
     refine⟨λ_=>⟨k,bf,f7.out,by simp,?_,d9.out,ak c7.out (ak J.out b1.out)⟩,λh=>?_⟩
     rotate_left
     ·have h1:=b0.out k f7.out
      have h2:=c5.out
      omega
     have h1:=e0.out
     have h2:=J.out.size
     have h3:=g1.out
     omega
    ·have d8:(((aH (bW N E m (k+1)) mt).length:Int)==(z:Int))=false:=by simp;omega
     have f8:Hid (z<(aH (bW N E m (k+1)) mt).length):=by
      have h:=f6.out;show _<_;by_cases h1:k=1
      ·rw[yP h1]at h;have:=d0.out (k+1);omega
      ·rw[yN h1]at h;have:=e4.out k (by omega);omega
     generalize f9:(aH (bW N E m (k+1)) mt).length=rl at b6 d8 f8 U g3 c4 g4 c5 d7
     have b0:=aj f9
     clear f9
     go_wp2_with (go_at_call 133;refine U.out.mono ?_;rintro e w4 ⟨hh,-⟩;obtain⟨bf,rfl,b2,b3,a2⟩:=hh c5.out;clear hh;have d9:=aj b3;have b1:=aj a2;have e0:=aj b2;clear b3 a2 b2)
     go_roundg (n+1-rl)
     case rel=>exact⟨k+1,_,rl,bf,rfl,by omega,by rw[yN (by omega),b0.out],e3.out (k+1),rfl,rfl,d9.out,ak J.out b1.out⟩
     case measure=>have h1:=g9.out;have h2:=f8.out;omega
end Go.Proofs.YtceojneljnnooaaGreat
