import Derived.Test.YtceojneljnnooaaGreatPvv
open Go.Proofs.Tryz
namespace Go.Proofs.YtceojneljnnooaaGreat
open Go.RowKit
set_option maxHeartbeats 0
set_option maxRecDepth 100000
set_option linter.all false
theorem RU{b:Int}{os:List Om}{n:Nd}(h4:n.op=4):eX b os n=if n.var>n.gV then⟨Bt b (os.getD n.wd2.toNat dh).N (os.getD n.wd2.toNat dh).O b (os.getD n.wd.toNat dh).N (os.getD n.wd.toNat dh).O,tL b (os.getD n.wd2.toNat dh).N (os.getD n.wd2.toNat dh).O b (os.getD n.wd.toNat dh).N (os.getD n.wd.toNat dh).O,tN b (os.getD n.wd2.toNat dh).N (os.getD n.wd2.toNat dh).O b (os.getD n.wd.toNat dh).N (os.getD n.wd.toNat dh).O⟩
 else if n.var=n.gV then⟨FT b (os.getD n.wd.toNat dh).N (os.getD n.wd.toNat dh).O b (os.getD n.wd2.toNat dh).N (os.getD n.wd2.toNat dh).O,Ac b (os.getD n.wd.toNat dh).N (os.getD n.wd.toNat dh).O b (os.getD n.wd2.toNat dh).N (os.getD n.wd2.toNat dh).O,Ad b (os.getD n.wd.toNat dh).N (os.getD n.wd.toNat dh).O b (os.getD n.wd2.toNat dh).N (os.getD n.wd2.toNat dh).O⟩
 else⟨Bt b (os.getD n.wd.toNat dh).N (os.getD n.wd.toNat dh).O b (os.getD n.wd2.toNat dh).N (os.getD n.wd2.toNat dh).O,tL b (os.getD n.wd.toNat dh).N (os.getD n.wd.toNat dh).O b (os.getD n.wd2.toNat dh).N (os.getD n.wd2.toNat dh).O,tN b (os.getD n.wd.toNat dh).N (os.getD n.wd.toNat dh).O b (os.getD n.wd2.toNat dh).N (os.getD n.wd2.toNat dh).O⟩:=by
 unfold eX
 rw[yN (by omega),yN (by omega)]
theorem aaj(l5:Da)(o0:zQ)(X:List Nat)(s:Nat)(B:Nat)(b:Int)(os:List Om)(aL:zO)(nL cL:Nat)(aw:zO)(m cw:Nat)(n:Nd)(a:zO)(c:Nat)(w:zW)(hB:w.heap[B]? =some (JK b aL nL cL aw m cw))(ho:SlO w aw m os)(hs:s<=w.heap.size)(hX: ∀x∈X,x<w.heap.size)(h4:n.op=4)(l6:qo n=0)(o3:(n.wd.toNat<m/\(os.getD n.wd.toNat dh).b=b)/\n.wd2.toNat<m/\(os.getD n.wd2.toNat dh).b=b)(c8:Gz (eX b os n)):
  Calls prog 43 #[.pointer (some ⟨B,0,none⟩),Bu n a c] w (nD X s w b (aT (.gH n)) (eX b os n)):=by
 have f8:=(dH l6).1
 have hv:=f8.2.1 (.inr (.inl h4))
 have o4:=f8.2.2.1 h4
 have o5:=f8.2.2.2.1 (.inr h4)
 have n9:=f8.2.2.2.2.1 h4
 have e5:=bG w (lK n a c) gL
 have f3:=aj (aP w (lK n a c) gL)
 have i9:=aj (aQ w (lK n a c) gL)
 have j0:=aj ((e5.block _ (zG hB).1).trans hB)
 obtain⟨⟨k4,l7⟩,k5,l8⟩:=o3
 obtain⟨bo,oo,a1,c1,c9,d0,rfl,u0,u1,u2,u3,u4⟩:=pz ho n.wd.toNat k4
 obtain⟨_,_,a2,c2,U,b9,e,v0,v1,v2,v3,v4⟩:=pz ho n.wd2.toNat k5
 cases e
 rw[l7]at u0
 rw[l8]at v0
 have d2:=RU (b:=b) (os:=os) h4
 generalize os.getD n.wd.toNat dh=J at u0 u1 u2 u3 u4 d2
 generalize os.getD n.wd2.toNat dh=z at v0 v1 v2 v3 v4 d2
 obtain⟨k1,k6⟩: ∃k:Nat,n.wd=(k:Int):=⟨n.wd.toNat,by omega⟩
 obtain⟨k2,k7⟩: ∃k:Nat,n.wd2=(k:Int):=⟨n.wd2.toNat,by omega⟩
 rw[k6,Int.toNat_natCast]at u0 u1 u2 k4
 rw[k7,Int.toNat_natCast]at v0 v1 v2 k5
 have p5:(k1:Int)<(m:Int):=by omega
 have p6:(k2:Int)<(m:Int):=by omega
 have j1:=aj (aG u3 e5)
 have j2:=aj (aF u4 e5)
 have j3:=aj (aG v3 e5)
 have j4:=aj (aF v4 e5)
 have f9:=aj e5
 have f5:=aj hs
 have f6:=aj hX
 obtain⟨q,hq⟩: ∃q,q=eX b os n:=⟨_,rfl⟩
 rw[<-hq]at d2 c8⊢
 have l9:Hid (∀W,Below w.heap.size w W->(W.cell? ⟨bo,oo+k1*3,none⟩=some (.int .i64 b)/\W.cell? ⟨bo,oo+k1*3+1,none⟩=some (.slice a1 J.N.length c1)/\W.cell? ⟨bo,oo+k1*3+2,none⟩=some (.slice c9 J.O.length d0))/\(W.cell? ⟨bo,oo+k2*3,none⟩=some (.int .i64 b)/\W.cell? ⟨bo,oo+k2*3+1,none⟩=some (.slice a2 z.N.length c2)/\W.cell? ⟨bo,oo+k2*3+2,none⟩=some (.slice U z.O.length b9))):=λW h=>by have hk: ∀(k:Nat) (v:Value),w.cell? ⟨bo,k,none⟩=some v->W.cell? ⟨bo,k,none⟩=some v:=λk v h0=>(h.cell (p:=⟨bo,k,none⟩) (zk w _ h0)).trans h0;exact⟨⟨hk _ _ u0,hk _ _ u1,hk _ _ u2⟩,hk _ _ v0,hk _ _ v1,hk _ _ v2⟩
 have e6:Hid (aT (.gH n)=if n.var=n.gV then[n.var]else if n.var>n.gV then[n.gV,n.var]else[n.var,n.gV]):=by
  show _=_;by_cases e:n.var=n.gV
  ·rw[yP e,tq (.inr ⟨h4,e⟩) hv]
  ·rw[yN e,Am h4 hv o4 e]
 obtain⟨vs,n0⟩: ∃l,l=aT (.gH n):=⟨_,rfl⟩
 rw[<-n0]at e6⊢
 clear hB ho hs hX h4 l6 f8 o5 n9 k4 k5 l7 l8 u0 u1 u2 u3 u4 v0 v1 v2 v3 v4 e5 hq n0
 unfold Bu
 generalize n2:(w.alloc (lK n a c)).alloc gL=w0 at f3 i9 j0 f9 j1 j2 j3 j4
 have b7:Hid (w0.heap.size=w.heap.size+2):=by show _=_;rw[<-n2];simp
 have j5:Hid (∀W,Below w0.heap.size w0 W->(W.cell? ⟨B,2,none⟩=some (.slice (some ⟨bo,oo,none⟩) m cw)/\W.cell? ⟨w.heap.size,3,none⟩=some (.int .i64 (k1:Int))/\W.cell? ⟨w.heap.size,4,none⟩=some (.int .i64 (k2:Int))/\W.cell? ⟨bo,oo+k1*3,none⟩=some (.int .i64 b)/\W.cell? ⟨bo,oo+k1*3+1,none⟩=some (.slice a1 J.N.length c1)/\W.cell? ⟨bo,oo+k1*3+2,none⟩=some (.slice c9 J.O.length d0)/\W.cell? ⟨bo,oo+k2*3,none⟩=some (.int .i64 b)/\W.cell? ⟨bo,oo+k2*3+1,none⟩=some (.slice a2 z.N.length c2)/\W.cell? ⟨bo,oo+k2*3+2,none⟩=some (.slice U z.O.length b9))):=λW h=>by obtain⟨⟨-,-,p2⟩,-⟩:=aJ ((h.block _ (zG j0.out).1).trans j0.out);obtain⟨⟨-,-,-,q3,q4,-,-⟩,-⟩:=bU ((h.block _ (zG f3.out).1).trans f3.out);obtain⟨⟨g1,g2,g3⟩,g4,g5,g6⟩:=l9.out W (ak f9.out h);rw[k6]at q3;rw[k7]at q4;exact⟨p2,q3,q4,g1,g2,g3,g4,g5,g6⟩
 have n3:Hid (∀W,Below w0.heap.size w0 W->W.cell? ⟨w.heap.size,1,none⟩=some (.int .i64 n.var)/\W.cell? ⟨w.heap.size,2,none⟩=some (.int .i64 n.gV)):=λW h=>by obtain⟨⟨-,q1,q2,-⟩,-⟩:=bU ((h.block _ (zG f3.out).1).trans f3.out);exact⟨q1,q2⟩
 have HD:Hid (Below w0.heap.size w0 w0.drew):=zb.drew
 have k8:Hid (∀W,Below w0.heap.size w0 W->W.heap[w.heap.size+1]? =some gL):=λW h=>(h.block _ (zG i9.out).1).trans i9.out
 clear l9 k6 k7 j0 f3 i9
 go_enter func43,ntmps43
 go_upto_region 1 with fail
 clear n2
 go_cut[6,7] (λs6 s7 wx=> ∃P Q,s6=.pointer (some ⟨P,0,none⟩)/\s7=.pointer (some ⟨Q,0,none⟩)/\w0.heap.size<=P/\w0.heap.size<=Q/\Q≠P/\aec w0.drew P Q (Bv b a1 J.N.length c1 c9 J.O.length d0) (Bv b a2 z.N.length c2 U z.O.length b9) wx)
 case first=>
  go_region_held_law (λW=>W.cell? ⟨B,2,none⟩=some (.slice (some ⟨bo,oo,none⟩) m cw)/\W.cell? ⟨w.heap.size,3,none⟩=some (.int .i64 (k1:Int))/\W.cell? ⟨w.heap.size,4,none⟩=some (.int .i64 (k2:Int))/\W.cell? ⟨bo,oo+k1*3,none⟩=some (.int .i64 b)/\W.cell? ⟨bo,oo+k1*3+1,none⟩=some (.slice a1 J.N.length c1)/\W.cell? ⟨bo,oo+k1*3+2,none⟩=some (.slice c9 J.O.length d0)/\W.cell? ⟨bo,oo+k2*3,none⟩=some (.int .i64 b)/\W.cell? ⟨bo,oo+k2*3+1,none⟩=some (.slice a2 z.N.length c2)/\W.cell? ⟨bo,oo+k2*3+2,none⟩=some (.slice U z.O.length b9)) (first|exact j5.out _ HD.out|exact j5.out _ (HD.out.alloc zr _)|exact j5.out _ ((HD.out.alloc zr _).alloc (by simp) _)) (first|fail)
  all_goals
   go_wp2_with fail
   go_meet
   case rel=>
    first
     |exact⟨_,_,rfl,rfl,zr,by simp,by simp,aiZ _ _ _⟩
     |exact⟨_,_,rfl,rfl,by simp,zr,by simp,ag9 _ _ _⟩
 case rest=>
  obtain⟨P,Q,rfl,rfl,hP,hQ,n4,g7⟩:=hcut
  have k9:=aj n4
  have j6:=aj g7
  have o6:=aj hP
  have o7:=aj hQ
  have e7:Hid (Below w0.heap.size w0 wc):=g7.2.2.2 w0 HD.out hP hQ
  obtain⟨t1,t2⟩:=n3.out wc e7.out
  obtain⟨⟨p0,p1,p2⟩,pf⟩:=aJ g7.1
  obtain⟨⟨q0,q1,q2⟩,qf⟩:=aJ g7.2.1
  clear g7 hP hQ n4 j5 HD
  by_cases d1:n.var=n.gV
  ·have c0:Hid (vs=[n.var]):=by show _=_;rw[e6.out,yP d1]
   have a7:q=⟨FT b J.N J.O b z.N z.O,Ac b J.N J.O b z.N z.O,Ad b J.N J.O b z.N z.O⟩:=by rw[d2,yN (by omega),yP d1]
   have b4:=aj (o0 b a1 J.N.length c1 c9 J.O.length d0 J.N J.O b a2 z.N.length c2 U z.O.length b9 z.N z.O wc (aG j1.out e7.out) (aF j2.out e7.out) (aG j3.out e7.out) (aF j4.out e7.out))
   have e1:FT b J.N J.O b z.N z.O=q.c:=by rw[a7]
   have e2:Ac b J.N J.O b z.N z.O=q.N:=by rw[a7]
   have e3:Ad b J.N J.O b z.N z.O=q.E:=by rw[a7]
   have el:(1:Int)=(vs.length:Int):=by rw[c0.out];rfl
   rw[e1,e2,e3,el]at b4
   unfold dB lH at b4
   have d3:=aj (λa2 g8 U e8 c3 g9 W=>mI b (vs.length:Int) vs q c8 a2 g8 U e8 c3 g9 W)
   have i1:=aj (λ(wq w1 Wf:zW) (a2:zO) (U:zO) (c3:zO) (A:zO) (CA:Nat) (A':zO) (a8:Nat) (AV:zO) (CV:Nat)=>@pJ X w wq w1 Wf b vs q a2 U c3 s A CA A' a8 AV CV c8)
   have i2:Hid (∀x∈[n.var],(Lit.int .i64 x).wf=true):=λx hx=>by simp at hx;subst hx;exact WalkArith.wf_i64 (by omega)
   have Z:=aj e7.out
   have o8:(n.var==n.gV)=true:=by simpa using d1
   clear a7 e1 e2 e3 el d2 c8 e6 d1
   go_wp2_with fail
   clear p0 p1 p2 q0 q1 q2 t1 t2
   refine b4.out.mono ?_
   rintro e w4 ⟨e4,b5,b0,a6,rfl,d4,d5⟩
   have i4:=aj d4
   have b2:=aj ((Below.refl w4.heap.size w4).alloc zr (qM (bK q.c b) (bK q.c (vs.length:Int)) e4 q.N.length b5 b0 q.N.length a6))
   have d6:=aj (zl w4 (qM (bK q.c b) (bK q.c (vs.length:Int)) e4 q.N.length b5 b0 q.N.length a6))
   have b8:=aj (ak Z.out (ak d5 b2.out))
   clear d4 d5 b4
   generalize i5:w4.alloc (qM (bK q.c b) (bK q.c (vs.length:Int)) e4 q.N.length b5 b0 q.N.length a6)=w5 at b2 d6 b8
   have b3:=aj ((Below.refl w5.heap.size w5).alloc zr (.cells #[.int .i64 n.var] 3))
   have c4:=aj (JI w5 3 [n.var] (by unfold maxLen;simp) i2.out)
   have d7:=aj (zl w5 (.cells #[.int .i64 n.var] 3))
   generalize d8:w5.alloc (.cells #[.int .i64 n.var] 3)=w6 at b3 d7
   have e9:Hid (Sl w6 (some ⟨w5.heap.size,0,none⟩) vs.length vs):=by have h:=c4.out;rw[c0.out,<-d8];exact h
   obtain⟨⟨y0,y1,y2,y3⟩,-⟩:=aC d6.out
   obtain⟨t1,t2⟩:=n3.out w5 b8.out
   have b1:=d3.out e4 b5 b0 a6 (some ⟨w5.heap.size,0,none⟩) 1 w6
   rw[show Value.slice (some ⟨w5.heap.size,0,none⟩) vs.length 1=Value.slice (some ⟨w5.heap.size,0,none⟩) 1 1 by rw[c0.out];rfl]at b1
   have b1:=aj b1
   clear d3 c4
   go_wp2_with fail
   clear i5 d8 y0 y1 y2 y3 t1 t2
   refine b1.out.mono ?_
   rintro e w7 ⟨A,CA,A',a8,AV,CV,rfl,hA,b6⟩
   have i6:=aj hA
   have c5:=aj (ak b2.out (ak b3.out b6))
   have c6:=aj b6
   have d9:=aj (ak b8.out (ak b3.out b6))
   have hr:=k8.out w7 d9.out
   obtain⟨⟨r0,r1,r2,r3,r4⟩,rf⟩:=aI hr
   have HR:=aj hr
   clear hA b6 hr b1
   go_wp2
   obtain⟨⟨f0,e0,c7⟩,f1⟩:=dK (v0:=.int .i64 (bK q.c b)) (v1:=.int .i64 (bK q.c (vs.length:Int))) (v2:=.slice A q.N.length CA) (v3:=.slice A' q.N.length a8) (v4:=.slice AV (jY q.c vs).length CV) HR.out rfl
   obtain⟨⟨z0,z1,z2,z3,z4⟩,-⟩:=aI f0
   have f2:=i1.out wc w4 _ e4 b0 (some ⟨w5.heap.size,0,none⟩) A CA A' a8 AV CV i6.out i4.out (by have h1:=f5.out;have h2:=b7.out;have h3:=Z.out.size;omega) (λx hx=>by have h1:=f6.out x hx;have h2:=b7.out;have h3:=Z.out.size;omega) (by rw[e0];exact c5.out.size) (λx h1 h2=>by
    have h3:=b7.out;have h4:=Z.out.size;rw[c7 x (by omega)]
    exact c5.out.block x h2) (λW' i7=>nH e9.out (by
    have h1:=(zG d7.out).1;have h3:=b7.out;have h4:=f5.out;have h5:=b8.out.size;have h6:=c6.out.size;rw[i7 _ (by omega) (λhx=>by have:=f6.out _ hx;omega) (by rw[e0];omega),c7 _ (by omega)];exact c6.out.block _ h1)) (f1 w w.heap.size (ak f9.out d9.out) (by omega))
   exact bodyPost_ret (v:=.tuple #[wC (bK q.c b) (bK q.c (vs.length:Int)) A q.N.length CA A' q.N.length a8 AV (jY q.c vs).length CV,bC q.c]) (by simp[results,results43,go_sem,z0,z1,z2,z3,z4]) rfl f2
  ·have o8:(n.var==n.gV)=false:=by simpa using d1
   go_upto_region 5 with fail
   go_quiet (fail)
   obtain⟨wd,l1⟩: ∃wd,Hid (wd=wc.drewN nq):=⟨_,rfl⟩
   have l3:Hid (Below wc.heap.size wc wd):=by show Below _ _ _;rw[l1.out];exact below_drewN zb nq
   rw[<-l1.out]
   clear l1 p0 p1 p2 q0 q1 q2 t1 t2 pf qf
   have l4:=(l3.out.block _ (zG j6.out.1).1).trans j6.out.1
   have f7:=(l3.out.block _ (zG j6.out.2.1).1).trans j6.out.2.1
   have o9:=aj l4
   have p4:=aj f7
   have n5:=aj (ak e7.out l3.out)
   obtain⟨⟨p0,p1,p2⟩,pf⟩:=aJ l4
   obtain⟨⟨q0,q1,q2⟩,qf⟩:=aJ f7
   clear l4 f7
   by_cases j7:n.var>n.gV
   ·have c0:Hid (vs=[n.gV,n.var]):=by show _=_;rw[e6.out,yN d1,yP j7]
    have a7:q=⟨Bt b z.N z.O b J.N J.O,tL b z.N z.O b J.N J.O,tN b z.N z.O b J.N J.O⟩:=by rw[d2,yP j7]
    have i2:Hid (∀x∈[n.gV,n.var],(Lit.int .i64 x).wf=true):=λx hx=>by simp at hx;rcases hx with rfl|rfl<;>exact WalkArith.wf_i64 (by omega)
    have i8:=λi=>aac wd P Q i (.int .i64 b) (.slice a2 z.N.length c2) (.slice U z.O.length b9) k9.out
    have s0:=(i8 0).1.trans q0
    have s1:=(i8 1).1.trans q1
    have s2:=(i8 2).1.trans q2
    have sf:=λi=>(i8 i).2.trans (qf i)
    obtain⟨j8,j9⟩:=yI (v0:=.int .i64 b) (v1:=.slice a2 z.N.length c2) (v2:=.slice U z.O.length b9) o9.out rfl
    have f7:=(uX wd P (.int .i64 b) (.slice a2 z.N.length c2) (.slice U z.O.length b9) Q k9.out).trans p4.out
    obtain⟨k0,k3⟩:=yI (v0:=.int .i64 b) (v1:=.slice a1 J.N.length c1) (v2:=.slice c9 J.O.length d0) f7 rfl
    have n6:=aj ((uX _ Q (.int .i64 b) (.slice a1 J.N.length c1) (.slice c9 J.O.length d0) P (Ne.symm k9.out)).trans j8)
    have n7:=aj k0
    have Z:=aj (k3 w0 _ (j9 w0 _ n5.out o6.out) o7.out)
    have n8:=aj a7
    clear a7 i8 j8 k0 j9 k3 f7 d2 e6 d1
    go_upto_region 8 with fail
    clear s0 s1 s2 sf p0 p1 p2 q0 q1 q2 pf qf
    generalize((((((wd.setCell ⟨P,0,none⟩ (.int .i64 b)).setCell ⟨P,1,none⟩ (.slice a2 z.N.length c2)).setCell ⟨P,2,none⟩ (.slice U z.O.length b9)).setCell ⟨Q,0,none⟩ (.int .i64 b)).setCell ⟨Q,1,none⟩ (.slice a1 J.N.length c1)).setCell ⟨Q,2,none⟩ (.slice c9 J.O.length d0))=we at n6 n7 Z⊢
    obtain⟨⟨p0,p1,p2⟩,-⟩:=aJ n6.out
    obtain⟨⟨q0,q1,q2⟩,-⟩:=aJ n7.out
    have a7:=n8.out
    have b4:=aj (l5 b a2 z.N.length c2 U z.O.length b9 z.N z.O b a1 J.N.length c1 c9 J.O.length d0 J.N J.O we (aG j3.out Z.out) (aF j4.out Z.out) (aG j1.out Z.out) (aF j2.out Z.out))
    have e1:Bt b z.N z.O b J.N J.O=q.c:=by rw[a7]
    have e2:tL b z.N z.O b J.N J.O=q.N:=by rw[a7]
    have e3:tN b z.N z.O b J.N J.O=q.E:=by rw[a7]
    have el:(2:Int)=(vs.length:Int):=by rw[c0.out];rfl
    rw[e1,e2,e3,el]at b4
    unfold dB lH at b4
    have d3:=aj (λa2 g8 U e8 c3 g9 W=>mI b (vs.length:Int) vs q c8 a2 g8 U e8 c3 g9 W)
    have i1:=aj (λ(wq w1 Wf:zW) (a2:zO) (U:zO) (c3:zO) (A:zO) (CA:Nat) (A':zO) (a8:Nat) (AV:zO) (CV:Nat)=>@pJ X w wq w1 Wf b vs q a2 U c3 s A CA A' a8 AV CV c8)
    clear a7 e1 e2 e3 el c8 n8
    go_wp2_with fail
    clear p0 p1 p2 q0 q1 q2
    refine b4.out.mono ?_
    rintro e w4 ⟨e4,b5,b0,a6,rfl,d4,d5⟩
    have i4:=aj d4
    have b2:=aj ((Below.refl w4.heap.size w4).alloc zr (qM (bK q.c b) (bK q.c (vs.length:Int)) e4 q.N.length b5 b0 q.N.length a6))
    have d6:=aj (zl w4 (qM (bK q.c b) (bK q.c (vs.length:Int)) e4 q.N.length b5 b0 q.N.length a6))
    have b8:=aj (ak Z.out (ak d5 b2.out))
    clear d4 d5 b4
    generalize i5:w4.alloc (qM (bK q.c b) (bK q.c (vs.length:Int)) e4 q.N.length b5 b0 q.N.length a6)=w5 at b2 d6 b8
    have b3:=aj ((Below.refl w5.heap.size w5).alloc zr (.cells #[.int .i64 n.gV,.int .i64 n.var] 3))
    have c4:=aj (JI w5 3 [n.gV,n.var] (by unfold maxLen;simp) i2.out)
    have d7:=aj (zl w5 (.cells #[.int .i64 n.gV,.int .i64 n.var] 3))
    generalize d8:w5.alloc (.cells #[.int .i64 n.gV,.int .i64 n.var] 3)=w6 at b3 d7
    have e9:Hid (Sl w6 (some ⟨w5.heap.size,0,none⟩) vs.length vs):=by have h:=c4.out;rw[c0.out,<-d8];exact h
    obtain⟨⟨y0,y1,y2,y3⟩,-⟩:=aC d6.out
    have b1:=d3.out e4 b5 b0 a6 (some ⟨w5.heap.size,0,none⟩) 2 w6
    rw[show Value.slice (some ⟨w5.heap.size,0,none⟩) vs.length 2=Value.slice (some ⟨w5.heap.size,0,none⟩) 2 2 by rw[c0.out];rfl]at b1
    have b1:=aj b1
    clear d3 c4
    go_wp2_with fail
    clear i5 d8 y0 y1 y2 y3
    refine b1.out.mono ?_
    rintro e w7 ⟨A,CA,A',a8,AV,CV,rfl,hA,b6⟩
    have i6:=aj hA
    have c5:=aj (ak b2.out (ak b3.out b6))
    have c6:=aj b6
    have d9:=aj (ak b8.out (ak b3.out b6))
    have hr:=k8.out w7 d9.out
    obtain⟨⟨r0,r1,r2,r3,r4⟩,rf⟩:=aI hr
    have HR:=aj hr
    clear hA b6 hr b1
    go_wp2
    obtain⟨⟨f0,e0,c7⟩,f1⟩:=dK (v0:=.int .i64 (bK q.c b)) (v1:=.int .i64 (bK q.c (vs.length:Int))) (v2:=.slice A q.N.length CA) (v3:=.slice A' q.N.length a8) (v4:=.slice AV (jY q.c vs).length CV) HR.out rfl
    obtain⟨⟨z0,z1,z2,z3,z4⟩,-⟩:=aI f0
    have f2:=i1.out we w4 _ e4 b0 (some ⟨w5.heap.size,0,none⟩) A CA A' a8 AV CV i6.out i4.out (by have h1:=f5.out;have h2:=b7.out;have h3:=Z.out.size;omega) (λx hx=>by have h1:=f6.out x hx;have h2:=b7.out;have h3:=Z.out.size;omega) (by rw[e0];exact c5.out.size) (λx h1 h2=>by
     have h3:=b7.out;have h4:=Z.out.size;rw[c7 x (by omega)]
     exact c5.out.block x h2) (λW' i7=>nH e9.out (by
     have h1:=(zG d7.out).1;have h3:=b7.out;have h4:=f5.out;have h5:=b8.out.size;have h6:=c6.out.size;rw[i7 _ (by omega) (λhx=>by have:=f6.out _ hx;omega) (by rw[e0];omega),c7 _ (by omega)];exact c6.out.block _ h1)) (f1 w w.heap.size (ak f9.out d9.out) (by omega))
    exact bodyPost_ret (v:=.tuple #[wC (bK q.c b) (bK q.c (vs.length:Int)) A q.N.length CA A' q.N.length a8 AV (jY q.c vs).length CV,bC q.c]) (by simp[results,results43,go_sem,z0,z1,z2,z3,z4]) rfl f2
   ·have c0:Hid (vs=[n.var,n.gV]):=by show _=_;rw[e6.out,yN d1,yN j7]
    have a7:q=⟨Bt b J.N J.O b z.N z.O,tL b J.N J.O b z.N z.O,tN b J.N J.O b z.N z.O⟩:=by rw[d2,yN j7,yN d1]
    have i2:Hid (∀x∈[n.var,n.gV],(Lit.int .i64 x).wf=true):=λx hx=>by simp at hx;rcases hx with rfl|rfl<;>exact WalkArith.wf_i64 (by omega)
    have Z:=aj n5.out
    have b4:=aj (l5 b a1 J.N.length c1 c9 J.O.length d0 J.N J.O b a2 z.N.length c2 U z.O.length b9 z.N z.O wd (aG j1.out Z.out) (aF j2.out Z.out) (aG j3.out Z.out) (aF j4.out Z.out))
    have e1:Bt b J.N J.O b z.N z.O=q.c:=by rw[a7]
    have e2:tL b J.N J.O b z.N z.O=q.N:=by rw[a7]
    have e3:tN b J.N J.O b z.N z.O=q.E:=by rw[a7]
    have el:(2:Int)=(vs.length:Int):=by rw[c0.out];rfl
    rw[e1,e2,e3,el]at b4
    unfold dB lH at b4
    have d3:=aj (λa2 g8 U e8 c3 g9 W=>mI b (vs.length:Int) vs q c8 a2 g8 U e8 c3 g9 W)
    have i1:=aj (λ(wq w1 Wf:zW) (a2:zO) (U:zO) (c3:zO) (A:zO) (CA:Nat) (A':zO) (a8:Nat) (AV:zO) (CV:Nat)=>@pJ X w wq w1 Wf b vs q a2 U c3 s A CA A' a8 AV CV c8)
    clear a7 e1 e2 e3 el d2 c8 e6 d1
    go_wp2_with fail
    clear p0 p1 p2 q0 q1 q2
    refine b4.out.mono ?_
    rintro e w4 ⟨e4,b5,b0,a6,rfl,d4,d5⟩
    have i4:=aj d4
    have b2:=aj ((Below.refl w4.heap.size w4).alloc zr (qM (bK q.c b) (bK q.c (vs.length:Int)) e4 q.N.length b5 b0 q.N.length a6))
    have d6:=aj (zl w4 (qM (bK q.c b) (bK q.c (vs.length:Int)) e4 q.N.length b5 b0 q.N.length a6))
    have b8:=aj (ak Z.out (ak d5 b2.out))
    clear d4 d5 b4
    generalize i5:w4.alloc (qM (bK q.c b) (bK q.c (vs.length:Int)) e4 q.N.length b5 b0 q.N.length a6)=w5 at b2 d6 b8
    have b3:=aj ((Below.refl w5.heap.size w5).alloc zr (.cells #[.int .i64 n.var,.int .i64 n.gV] 3))
    have c4:=aj (JI w5 3 [n.var,n.gV] (by unfold maxLen;simp) i2.out)
    have d7:=aj (zl w5 (.cells #[.int .i64 n.var,.int .i64 n.gV] 3))
    generalize d8:w5.alloc (.cells #[.int .i64 n.var,.int .i64 n.gV] 3)=w6 at b3 d7
    have e9:Hid (Sl w6 (some ⟨w5.heap.size,0,none⟩) vs.length vs):=by have h:=c4.out;rw[c0.out,<-d8];exact h
    obtain⟨⟨y0,y1,y2,y3⟩,-⟩:=aC d6.out
    have b1:=d3.out e4 b5 b0 a6 (some ⟨w5.heap.size,0,none⟩) 2 w6
    rw[show Value.slice (some ⟨w5.heap.size,0,none⟩) vs.length 2=Value.slice (some ⟨w5.heap.size,0,none⟩) 2 2 by rw[c0.out];rfl]at b1
    have b1:=aj b1
    clear d3 c4
    go_wp2_with fail
    clear i5 d8 y0 y1 y2 y3
    refine b1.out.mono ?_
    rintro e w7 ⟨A,CA,A',a8,AV,CV,rfl,hA,b6⟩
    have i6:=aj hA
    have c5:=aj (ak b2.out (ak b3.out b6))
    have c6:=aj b6
    have d9:=aj (ak b8.out (ak b3.out b6))
    have hr:=k8.out w7 d9.out
    obtain⟨⟨r0,r1,r2,r3,r4⟩,rf⟩:=aI hr
    have HR:=aj hr
    clear hA b6 hr b1
    go_wp2
    obtain⟨⟨f0,e0,c7⟩,f1⟩:=dK (v0:=.int .i64 (bK q.c b)) (v1:=.int .i64 (bK q.c (vs.length:Int))) (v2:=.slice A q.N.length CA) (v3:=.slice A' q.N.length a8) (v4:=.slice AV (jY q.c vs).length CV) HR.out rfl
    obtain⟨⟨z0,z1,z2,z3,z4⟩,-⟩:=aI f0
    have f2:=i1.out wd w4 _ e4 b0 (some ⟨w5.heap.size,0,none⟩) A CA A' a8 AV CV i6.out i4.out (by have h1:=f5.out;have h2:=b7.out;have h3:=Z.out.size;omega) (λx hx=>by have h1:=f6.out x hx;have h2:=b7.out;have h3:=Z.out.size;omega) (by rw[e0];exact c5.out.size) (λx h1 h2=>by
     have h3:=b7.out;have h4:=Z.out.size;rw[c7 x (by omega)]
     exact c5.out.block x h2) (λW' i7=>nH e9.out (by
     have h1:=(zG d7.out).1;have h3:=b7.out;have h4:=f5.out;have h5:=b8.out.size;have h6:=c6.out.size;rw[i7 _ (by omega) (λhx=>by have:=f6.out _ hx;omega) (by rw[e0];omega),c7 _ (by omega)];exact c6.out.block _ h1)) (f1 w w.heap.size (ak f9.out d9.out) (by omega))
    exact bodyPost_ret (v:=.tuple #[wC (bK q.c b) (bK q.c (vs.length:Int)) A q.N.length CA A' q.N.length a8 AV (jY q.c vs).length CV,bC q.c]) (by simp[results,results43,go_sem,z0,z1,z2,z3,z4]) rfl f2
end Go.Proofs.YtceojneljnnooaaGreat
