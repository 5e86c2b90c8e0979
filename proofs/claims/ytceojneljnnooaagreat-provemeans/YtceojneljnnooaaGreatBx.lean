import Derived.Test.YtceojneljnnooaaGreatBp
import Derived.Test.YtceojneljnnooaaGreatZBv
open Go.Proofs.Tryz
namespace Go.Proofs.YtceojneljnnooaaGreat
open Go.RowKit
set_option maxHeartbeats 0
set_option maxRecDepth 100000
set_option linter.all false
theorem Uf{w:zW}{base:Nat}{e:TypeId}{v:Value}{q:Nat}{xs:zV}(h:w.ownsRow base e 1 v q xs): ∃ad cap,v=.slice ad q cap:=by
 rcases h.2 with⟨rfl,rfl⟩|⟨g,cap,cur,rfl,_⟩
 ·exact⟨_,_,rfl⟩
 ·exact⟨_,_,rfl⟩
theorem IU{wb:zW}{b t:Int}{rows:Nat->zI}{es:Nat->Bool}{qn qe:Nat}{W:zW}(h:sJ wb b t rows es qn qe W)(k:Nat):sJ wb b t rows es qn qe (W.drewN k):=EY h (below_drewN zb k)
theorem af9{R:Nat->Nat->Bool}{mt:zI}{p:Nat}{s:Int}(h:aH R (mt.take (p+1))=aH R (mt.take p)++[s]):(aH R (mt.take p)).length<(aH R mt).length/\(aH R mt).getD (aH R (mt.take p)).length 0=s:=by have z:=jf (R:=R) (List.take_prefix (p+1) mt);rw[h]at z;have J:=z.length_le;rw[List.length_append,List.length_singleton]at J;refine⟨by omega,?_⟩;rw[iq z _ (by simp)];simp[List.getD]
theorem Y7(b t:Int)(a:zO)(n cap m:Nat)(N:zL)(a':zO)(b2:Nat)(E:zB)(R:Nat->Nat->Bool)(hR:vK R)(l4:zO)(cs:Nat)(ac:zO)(cc:Nat)(w:zW)(hs:gT w a n N)(hG:aK m n N)(he:mR w a' n E)(l5:Sl w l4 (aR N).length (aR N))(hc:Sl w ac n ((List.range n).map (jc R (aR N) (aR N).length))):
  Calls prog 111 #[.agg #[.int .i64 b,.int .i64 t,.slice a n cap,.slice a' n b2],.slice l4 (aR N).length cs,.slice ac n cc] w (uG w b t (oU R (aR N) N) (zX R (aR N) E)):=by
 have x7:=hG.2.1
 have x2:=hG.2.2.1
 have x3:=hG.2.2.2.1
 have x8:=fO m (by omega)
 have b7:Below w.heap.size w ((w.alloc (.cells #[.int .i64 b,.int .i64 t,.slice a n cap,.slice a' n b2] 35)).alloc (.cells #[.int .i64 0,.int .i64 0,.slice none 0 0,.slice none 0 0] 35)):=(zb.alloc zr _).alloc (by simp) _
 have l6:=aj b7
 have HS:=aj (aG hs b7)
 have HE:=aj (bD he b7)
 have g8:=aj (aF l5 b7)
 have HC:=aj (aF hc b7)
 have e6:=aj (λW (h:Below _ _ W)=>(@jw w W (.int .i64 b) (.int .i64 t) (.slice a n cap) (.slice a' n b2) (.int .i64 0) (.int .i64 0) (.slice none 0 0) (.slice none 0 0) 35 h).1)
 have d5:=aj (zl (w.alloc (.cells #[.int .i64 b,.int .i64 t,.slice a n cap,.slice a' n b2] 35)) (.cells #[.int .i64 0,.int .i64 0,.slice none 0 0,.slice none 0 0] 35))
 rw[World.size_alloc]at d5
 have l7:=aj (iY hG)
 have l8:=aj (λp=>@Py R hR (aR N) p)
 have g9:=aj (λq h=>@um N R q h)
 have i1:=aj (λq h=>@BK N E R q h)
 have e7:=aj (@mE N R)
 have i2:=aj (@EO N E R)
 have l9:=aj (λs (hs:s∈aR N) x hx=>vI hG s hs x hx)
 have p9:Hid (∀s,s<n->(N.getD s []).length=m/\ ∀j,j<m->0<=(N.getD s []).getD j 0/\(N.getD s []).getD j 0<(n:Int)):=hG.2.2.2.2.2
 have n0:=oK hG
 have e8:Hid (∀x∈aR N,((List.range n).map (jc R (aR N) (aR N).length)).getD x.toNat 0=((gU R (aH R (aR N)) x:Nat):Int)):=λx hx=>by have h0:=lX hG hx;have h1:=((iY hG).2 x hx).1;rw[show((List.range n).map (jc R (aR N) (aR N).length)).getD x.toNat 0=jc R (aR N) (aR N).length x.toNat by simp[List.getD,h0]];unfold jc;rw[List.take_length,show((x.toNat:Nat):Int)=x by omega,yP hx]
 clear hs l5 hc he hG b7
 generalize q9:(List.range n).map (jc R (aR N) (aR N).length)=C' at HC e8
 clear q9
 have n2:=aj (rfl:oU R (aR N) N=oU R (aR N) N)
 generalize r0:oU R (aR N) N=J at g9 e7⊢
 generalize r1:zX R (aR N) E=QE at i1 i2⊢
 clear r0 r1 n2
 have e9:Hid ((aH R (aR N)).length<=n):=Nat.le_trans (lW _ _) n0
 have k8:Hid (∀r∈aH R (aR N),r∈aR N):=λr hr=>nu _ _ r hr
 generalize r2:aR N=mt at g8 l7 l8 g9 i1 e7 i2 l9 n0 e8 e9 k8⊢
 clear r2
 obtain⟨j0,r3,r4,r5,r6⟩:=info_parts Ip
 obtain⟨l0,r7,r8,r9,s0⟩:=info_parts DF
 generalize n3:(w.alloc (.cells #[.int .i64 b,.int .i64 t,.slice a n cap,.slice a' n b2] 35)).alloc (.cells #[.int .i64 0,.int .i64 0,.slice none 0 0,.slice none 0 0] 35)=wb at l6 HS g8 HE HC e6 d5
 have d6:Hid (wb.heap.size=w.heap.size+2):=by show _=_;rw[<-n3];simp
 have n4:=aj (EX wb b t (λq=>J.getD q []) (λq=>QE.getD q false))
 obtain⟨f0,f1,c5,b8⟩:=e6.out wb zb
 go_enter func111,ntmps111
 go_wp2
 clear n3 f0 f1 c5 b8
 generalize wb.alloc (.cells #[.int .i64 b,.int .i64 t,.slice none 0 0,.slice none 0 0] 35)=wB at n4⊢
 go_loopw[20] (λi wx=> ∃p:Nat,p<=mt.length/\i=.int .i64 p/\sJ wb b t (λq=>J.getD q []) (λq=>QE.getD q false) (aH R (mt.take p)).length (aH R (mt.take p)).length wx) (λi _=>mt.length-(intOf i).toNat)
 case atStart=>exact⟨0,by omega,rfl,by simpa[aH]using n4.out⟩
 case round=>
  obtain⟨p,hp,rfl,d7⟩:=hrel
  have a1:=aj d7
  have b3:Hid (Below wb.heap.size wb wr):=by obtain⟨_,_,_,_,_,_,_,h⟩:=d7;exact h
  clear d7
  by_cases i4:p<mt.length
  ·have q0:(p:Int)<(mt.length:Int):=by omega
   obtain⟨bs,os,rfl,n5⟩:=bH (aF g8.out b3.out) p i4
   have c6:mt.getD p 0∈mt:=by rw[aS _ p i4];exact List.getElem_mem _
   have c7:=l7.out.2 _ c6
   obtain⟨s,hs⟩: ∃s:Nat,mt.getD p 0=s:=⟨(mt.getD p 0).toNat,by omega⟩
   obtain⟨d8,d9⟩:=l8.out p i4
   rw[hs]at n5 c6 c7 d8 d9
   have k9:=aj c6
   have f2:s<n:=by omega
   have x4:(s:Int)<(n:Int):=by omega
   obtain⟨bc,oc,rfl,b9⟩:=bH (aF HC.out b3.out) s f2
   have i5:=e8.out (s:Int) c6
   rw[Int.toNat_natCast]at i5
   rw[i5,d8]at b9
   have b1:=aj (λh=>@af9 R mt p (s:Int) h)
   have s1:(aH R (mt.take p)).length<=n:=Nat.le_trans (jf (R:=R) (List.take_prefix p mt)).length_le e9.out
   have e0:gU R (aH R (mt.take p)) (s:Int)<=(aH R (mt.take p)).length:=List.findIdx_le_length
   have b4:=aj d9
   obtain⟨x9,y0,x1,i6,f3,-,-,-⟩:=a1.out
   obtain⟨s2,s3,rfl⟩:=Uf f3
   have n6:wr.cell? ⟨wb.heap.size,2,none⟩=some (.slice s2 (aH R (mt.take p)).length s3):=by simp[World.cell?,i6]
   clear hs c6 c7 d8 d9 i5 f3 i6
   generalize q1:gU R (aH R (mt.take p)) (s:Int)=cl at b9 e0 b4
   clear q1
   generalize i7:aH R (mt.take p)=Z at b1 s1 e0 b4 a1 n6
   by_cases i8:cl<Z.length
   ·have q2:(cl:Int)<(Z.length:Int):=by omega
    have f5:Hid (aH R (mt.take (p+1))=Z):=by show _=_;rw[b4.out,yP i8]
    clear i7 b1
    go_wp2
    go_quiet (fail)
    go_wp2
    go_roundw
    case rel=>exact⟨p+1,by omega,by go_num,by rw[f5.out];exact IU a1.out nq⟩
    case measure=>simp[intOf];omega
   ·have q2: ¬((cl:Int)<(Z.length:Int)):=by omega
    obtain rfl:cl=Z.length:=by omega
    have f5:Hid (aH R (mt.take (p+1))=Z++[(s:Int)]):=by show _=_;rw[b4.out,yN i8]
    obtain⟨c8,n7⟩:=b1.out f5.out
    have n2:=aj c8
    have f6:=aj (g9.out Z.length c8)
    have n8:=aj (i1.out Z.length c8)
    rw[n7,Int.toNat_natCast]at f6 n8
    have x5:Z.length+1<=n:=Nat.le_trans c8 e9.out
    have a8:=p9.out s f2
    have s4:=aj a8.2
    have f7:=aj a8.1
    obtain⟨bn,on,an,cn,rfl,i9,e1⟩:=gF (aG HS.out b3.out) s f2
    rw[a8.1]at i9 e1
    have j1:=aj e1
    have n9:=aj i9
    obtain⟨f0,f1,c5,b8⟩:=e6.out wr b3.out
    have o0:=aj c5
    have s5:=aj b8
    have a6:Hid ((J.getD Z.length []).length=m):=by show _=_;rw[f6.out,List.length_map,f7.out]
    have j2:Hid (∀l,l<m-> ∃y:Nat,(N.getD s []).getD l 0=y/\y<n/\C'.getD y 0=(J.getD Z.length []).getD l 0):=by intro l hl;have hv:=s4.out l hl;refine⟨((N.getD s []).getD l 0).toNat,by omega,by omega,?_⟩;have o3:(N.getD s []).getD l 0∈mt:=l9.out (s:Int) k9.out _ (by rw[Int.toNat_natCast,aS _ l (by have:=f7.out;omega)];exact List.getElem_mem _);rw[e8.out _ o3,f6.out,aS (List.map _ _) l (by rw[List.length_map];have:=f7.out;omega),List.getElem_map,aS _ l (by have:=f7.out;omega)]
    generalize a8:J.getD Z.length []=row at a6 j2
    have f8:=aj a8
    clear a8 c8 n7 f6 i7 b1 b4 e1 i8 e0 f0 f1
    go_wp2
    go_quiet (fail)
    have j3:Below wr.heap.size wr (wr.drewN nq):=below_drewN zb nq
    have f9:=aj (IU a1.out nq)
    have e3:=aj (b3.out.trans (j3.mono b3.out.size))
    have c0:(wr.drewN nq).cell? ⟨bn,on+s,none⟩=some (.slice an m cn):=n9.out
    have c3:(wr.drewN nq).cell? ⟨w.heap.size,2,none⟩=some (.slice (some ⟨bn,on,none⟩) n cap):=o0.out
    have j4:Hid (Sl (wr.drewN nq) an m (N.getD s [])):=aF j1.out j3
    clear j3 n6 i9 c5 b8 a1 b3 n9 o0 s5 j1 n5 b9
    generalize wr.drewN nq=wd at f9 e3 c0 c3 j4⊢
    have g1:=(Below.refl wd.heap.size wd).alloc zr (.cells (madeCells #[.int .i64 0] m) 3)
    have q3:(wd.alloc (.cells (madeCells #[.int .i64 0] m) 3)).cell? ⟨bn,on+s,none⟩=some (.slice an m cn):=(g1.cell (p:=⟨bn,on+s,none⟩) (zk wd _ c0)).trans c0
    have q4:(wd.alloc (.cells (madeCells #[.int .i64 0] m) 3)).cell? ⟨w.heap.size,2,none⟩=some (.slice (some ⟨bn,on,none⟩) n cap):=(g1.cell (p:=⟨w.heap.size,2,none⟩) (zk wd _ c3)).trans c3
    have o4:Hid (((wd.alloc (.cells (madeCells #[.int .i64 0] m) 3)).rowIs wd.heap.size 3 m λq=>.int .i64 (if q<0 then row.getD q 0 else 0))/\Below wd.heap.size wd (wd.alloc (.cells (madeCells #[.int .i64 0] m) 3))):=
     ⟨(World.rowIs_made wd (.int .i64 0) m 3).congr λq _=>by simp,g1⟩
    clear g1
    go_wp2
    clear c0 c3 q3 q4
    generalize wd.alloc (.cells (madeCells #[.int .i64 0] m) 3)=wI at o4⊢
    go_loopw[45] (λi wx=> ∃l:Nat,l<=m/\i=.int .i64 l/\(wx.rowIs wd.heap.size 3 m λq=>.int .i64 (if q<l then row.getD q 0 else 0))/\Below wd.heap.size wd wx) (λi _=>m-(intOf i).toNat)
    case atStart=>exact⟨0,by omega,rfl,o4.out⟩
    case round=>
     obtain⟨l,hl,rfl,o5,o6⟩:=hrel
     have c9:=aj o5
     have d0:=aj o6
     clear o5 o6
     by_cases e4:l<m
     ·have l1:(l:Int)<(m:Int):=by omega
      obtain⟨y,j5,j6,d1⟩:=j2.out l e4
      obtain⟨y1,y2,rfl,s8⟩:=bH (aF j4.out d0.out) l e4
      rw[j5]at s8
      obtain⟨_,_,ec,b9⟩:=bH (aF HC.out (e3.out.trans (d0.out.mono e3.out.size))) y j6
      cases ec
      rw[d1]at b9
      have y3:(y:Int)<(n:Int):=by omega
      have s9:=c9.out.cell (i:=l) e4
      have y4:=c9.out.frozen l
      have t1:=aj (rfl:row.getD l 0=row.getD l 0)
      clear j5 d1
      generalize hz:row.getD l 0=z at b9
      have HZ:=aj hz
      clear hz t1
      rw[yN (Nat.lt_irrefl _)]at s9
      go_wp2
      go_roundw
      case rel=>
       refine⟨l+1,by omega,by go_num,(c9.out.set _ _).congr λq hq=>?_,d0.out.setCell zr _⟩
       by_cases e:q=l
       ·subst e;rw[yP rfl,yP (by omega),HZ.out]
       ·rw[yN e]
        congr 1
        by_cases e2:q<l
        ·rw[yP e2,yP (by omega)]
        ·rw[yN e2,yN (by omega)]
      case measure=>simp[intOf];omega
     ·have l1: ¬(l:Int)<(m:Int):=by omega
      obtain rfl:m=l:=by omega
      have o7: ∀z∈row,(Lit.int .i64 z).wf=true:=λz hz=>by obtain⟨i,hi,rfl⟩:=List.getElem_of_mem hz;obtain⟨y,_,j6,d1⟩:=j2.out i (by have:=a6.out;omega);rw[aS _ i hi]at d1;rw[<-d1];exact HC.out.2.2.1 _ (by rw[aS _ y (by rw[HC.out.1];exact j6)];exact List.getElem_mem _)
      have c7:Sl wr (some ⟨wd.heap.size,0,none⟩) m row:=ig a6.out (by unfold maxLen;omega) o7 (c9.out.congr λq hq=>by rw[yP hq])
      have g2:Hid (∃(vN:Value) (vals:zV),_/\_):=@Wm wb b t (λq=>J.getD q []) (λq=>QE.getD q false) Z.length Z.length wd wr (some ⟨wd.heap.size,0,none⟩) m f9.out d0.out (by simp only[f8.out];rw[a6.out];exact⟨c7,λad t2=>by cases t2;exact zr⟩)
      simp only[f8.out]at g2
      rw[a6.out]at g2
      obtain⟨vN,vals,t6,o8,j7,d2⟩:=g2.out
      have d3:=aj d2
      have c4:=aj o8
      have g3:=aj j7
      clear d2 o8 j7 g2 c7 o7 c9
      go_wp2_with (at_builtin;refine wpList_append_lies _ rfl _ _ 32 rfl (wb.heap.size+1) 24 j0 (.slice none 0 0) 1 24 underlying32 r3 r4 r5 r6 rfl (by decide) vN Z.length vals rfl (c4.out.alloc _) ⟨wr.heap.size,0,none⟩ 1 1 [.slice (some ⟨wd.heap.size,0,none⟩) m m] rfl rfl (fV _ _ _) (λu hu=>by simp at hu;subst hu;rfl) (by omega) (by unfold maxLen;omega) (by omega) (by have:=g3.out;simp;omega) (wr.heap.size+1) (by simp) ?_;intro g' cg w3 g4 d4 j8 q5;obtain⟨⟨q6,q7⟩,j9⟩:=d3.out w3 _ g' cg g4 d4 j8;have k0:=aj j9;clear g4 d4 j8 j9)
      generalize w3.setCell ⟨wb.heap.size,2,none⟩ (.slice (some ⟨g',0,none⟩) (Z.length+1) cg)=w5 at k0⊢
      have o9:Hid (Below wb.heap.size wb w5):=by obtain⟨_,_,_,_,_,_,_,h⟩:=k0.out;exact h
      clear q6 q7 t6 d3 c4 g3 d0 q5
      obtain⟨vE,p4,p5,k3,d2⟩:=Wn k0.out
      obtain⟨be,oe,rfl,p6⟩:=jL (bD HE.out o9.out) s f2
      obtain⟨-,-,-,b8⟩:=e6.out w5 o9.out
      rw[<-n8.out]at p6
      have d3:=aj d2
      have c4:=aj p5
      have g3:=aj k3
      clear d2 p5 k3
      generalize QE.getD Z.length false=ev at p6 d3
      have x6:(w5.alloc (.cells #[.bool ev] 4)).cell? ⟨wb.heap.size,3,none⟩=some vE:=(((Below.refl w5.heap.size w5).alloc zr _).cell (p:=⟨wb.heap.size,3,none⟩) (zk w5 _ p4)).trans p4
      go_region_law (first|(refine step_append_lies _ rfl (.tmp 65) (.tmp 71) 33 rfl (wb.heap.size+1) 4 l0 (.bool false) 1 1 underlying33 r7 r8 r9 s0 rfl (by decide) vE Z.length _ (by simp[Act.eval]) (World.ownsRow.alloc (w:=w5.drew) c4.out _) ⟨w5.heap.size,0,none⟩ 1 1 [.bool ev] (by simp[Act.eval]) rfl (oh _ _ _ _ (by simp)) (λu hu=>by simp at hu;subst hu;rfl) (by omega) (by unfold maxLen;omega) (by omega) (by have:=g3.out;simp;omega) (w5.heap.size+1) (by simp) ?_;intro g5 t7 w6 g6 U k4 q8;obtain⟨⟨o3,y5⟩,p7⟩:=d3.out w6 _ g5 t7 g6 ⟨U.os,U.tape,U.output,U.size,U.block⟩ k4;have t8:=aj p7;clear p7 g6 U k4 q8))
      all_goals
       go_wp2
       go_roundw
       case rel=>exact⟨p+1,by omega,by go_num,by rw[f5.out,List.length_append,List.length_singleton];exact t8.out⟩
       case measure=>simp[intOf];omega
  ·have q0: ¬((p:Int)<(mt.length:Int)):=by omega
   obtain rfl:p=mt.length:=by omega
   rw[List.take_length]at a1
   have e5:=aj (@Lp wb b t (λq=>J.getD q []) (λq=>QE.getD q false) (aH R mt).length wr a1.out (by unfold maxLen;have:=e9.out;omega) J e7.out (λ_ _=>rfl) QE i2.out (λ_ _=>rfl))
   rw[<-e7.out]at e5
   obtain⟨ax,cx,a7,b0,b5,k5,p8⟩:=e5.out
   have v6:=aj p8
   have a2:wr.heap[w.heap.size+1]? =some (.cells #[.int .i64 0,.int .i64 0,.slice none 0 0,.slice none 0 0] 35 (0,0)):=(k5.block (w.heap.size+1) (by have:=d6.out;omega)).trans d5.out
   have v7:=aj (ak l6.out k5)
   have f0:wr.cell? ⟨wb.heap.size,0,none⟩=some (.int .i64 b):=by simp[World.cell?,b5]
   have f1:wr.cell? ⟨wb.heap.size,1,none⟩=some (.int .i64 t):=by simp[World.cell?,b5]
   have c5:wr.cell? ⟨wb.heap.size,2,none⟩=some (.slice ax J.length cx):=by simp[World.cell?,b5]
   have b8:wr.cell? ⟨wb.heap.size,3,none⟩=some (.slice a7 J.length b0):=by simp[World.cell?,b5]
   have y6:wr.cell? ⟨w.heap.size+1,0,none⟩=some (.int .i64 0):=by simp[World.cell?,a2]
   have y7:wr.cell? ⟨w.heap.size+1,1,none⟩=some (.int .i64 0):=by simp[World.cell?,a2]
   have y8:wr.cell? ⟨w.heap.size+1,2,none⟩=some (.slice none 0 0):=by simp[World.cell?,a2]
   have y9:wr.cell? ⟨w.heap.size+1,3,none⟩=some (.slice none 0 0):=by simp[World.cell?,a2]
   have hf: ∀i,wr.frozen? ⟨w.heap.size+1,i,none⟩=false:=λi=>by simp[World.frozen?,a2]
   have l3:=aj a2
   clear b5 p8 k5 e5 a2
   go_wp2
   have b6:=Nw (v0:=.int .i64 b) (v1:=.int .i64 t) (v2:=.slice ax J.length cx) (v3:=.slice a7 J.length b0) l3.out
   have k6:Below w.heap.size w ((((wr.setCell ⟨w.heap.size+1,0,none⟩ (.int .i64 b)).setCell ⟨w.heap.size+1,1,none⟩ (.int .i64 t)).setCell ⟨w.heap.size+1,2,none⟩ (.slice ax J.length cx)).setCell ⟨w.heap.size+1,3,none⟩ (.slice a7 J.length b0)):=(((v7.out.setCell (by simp) _).setCell (by simp) _).setCell (by simp) _).setCell (by simp) _
   have k7:dS w ax J.length J a7 QE ((((wr.setCell ⟨w.heap.size+1,0,none⟩ (.int .i64 b)).setCell ⟨w.heap.size+1,1,none⟩ (.int .i64 t)).setCell ⟨w.heap.size+1,2,none⟩ (.slice ax J.length cx)).setCell ⟨w.heap.size+1,3,none⟩ (.slice a7 J.length b0)):=λW' v8=>v6.out W' (λx hx x0=>by have g7:x≠w.heap.size+1:=(by have:=d6.out;omega);rw[v8 x (by have:=d6.out;omega) (by simp[World.setCell];exact x0),Below.heap_setCell _ _ _ _ g7,Below.heap_setCell _ _ _ _ g7,Below.heap_setCell _ _ _ _ g7,Below.heap_setCell _ _ _ _ g7])
   generalize(((wr.setCell ⟨w.heap.size+1,0,none⟩ (.int .i64 b)).setCell ⟨w.heap.size+1,1,none⟩ (.int .i64 t)).setCell ⟨w.heap.size+1,2,none⟩ (.slice ax J.length cx)).setCell ⟨w.heap.size+1,3,none⟩ (.slice a7 J.length b0)=wZ at b6 k6 k7⊢
   have z0:wZ.cell? ⟨w.heap.size+1,0,none⟩=some (.int .i64 b):=by simp[World.cell?,b6]
   have z1:wZ.cell? ⟨w.heap.size+1,1,none⟩=some (.int .i64 t):=by simp[World.cell?,b6]
   have z2:wZ.cell? ⟨w.heap.size+1,2,none⟩=some (.slice ax J.length cx):=by simp[World.cell?,b6]
   have z3:wZ.cell? ⟨w.heap.size+1,3,none⟩=some (.slice a7 J.length b0):=by simp[World.cell?,b6]
   exact bodyPost_ret (v:=.agg #[.int .i64 b,.int .i64 t,.slice ax J.length cx,.slice a7 J.length b0]) (by simp[results,results111,go_sem,z0,z1,z2,z3]) rfl ⟨ax,cx,a7,b0,rfl,k7,k6⟩
end Go.Proofs.YtceojneljnnooaaGreat
