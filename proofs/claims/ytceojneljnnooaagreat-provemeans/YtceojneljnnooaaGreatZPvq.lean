import Derived.Test.YtceojneljnnooaaGreatZHw
import Derived.Test.YtceojneljnnooaaGreatZPwd
open Go.Proofs.Tryz
namespace Go.Proofs.YtceojneljnnooaaGreat
open Go.RowKit
set_option maxHeartbeats 0
set_option maxRecDepth 100000
set_option linter.all false
theorem adP(X:List Nat)(s:Nat)(b:Int)(vs:zI)(p:Pv)(a:zO)(ca:Nat)(a':zO)(iC:Nat)(av:zO)(cv:Nat)(v:Int)(w:zW)(hp:tO X s w a p.N a' p.E av vs)(hs:s<=w.heap.size)(hX: ∀x∈X,x<w.heap.size)(h0:p.c=0)(hv: ¬v∈vs):
  Calls prog 45 #[wC b (vs.length:Int) a p.N.length ca a' p.N.length iC av vs.length cv,.int .i64 v] w (nD X s w b vs p):=by
 have J:=bG w (mg b (vs.length:Int) a p.N.length ca a' p.N.length iC av vs.length cv) gL
 have U:=aj (wH av vs.length cv vs v _ (aF hp.here.2 J))
 have a6:AY vs v= -1:=by unfold AY;rw[yN hv]
 rw[a6]at U
 have z:=aj (aP w (mg b (vs.length:Int) a p.N.length ca a' p.N.length iC av vs.length cv) gL)
 have Z:=aj (aQ w (mg b (vs.length:Int) a p.N.length ca a' p.N.length iC av vs.length cv) gL)
 have HP:=aj hp
 have a7:=aj J
 have b5:=aj hs
 have b6:=aj hX
 have HZ:=aj h0
 clear hp hs hX h0 hv a6 J
 obtain⟨⟨x0,x1,x2,x3,x4⟩,-⟩:=aI z.out
 generalize a8:(w.alloc (mg b (vs.length:Int) a p.N.length ca a' p.N.length iC av vs.length cv)).alloc gL=w0 at U a7 z Z x0 x1 x2 x3 x4
 have b7:Hid (w0.heap.size=w.heap.size+2):=by show _=_;rw[<-a8];simp
 go_enter func45,ntmps45
 go_wp2_with fail
 clear a8 x0 x1 x2 x3 x4
 refine U.out.mono ?_
 rintro e w1 ⟨rfl,b0⟩
 have a1:=aj b0
 obtain⟨⟨x0,x1,x2,x3,x4⟩,-⟩:=aI ((a1.out.block _ (zG z.out).1).trans z.out)
 have hr:=(a1.out.block _ (zG Z.out).1).trans Z.out
 obtain⟨⟨r0,r1,r2,r3,r4⟩,rf⟩:=aI hr
 have HR:=aj hr
 clear b0 hr
 go_wp2
 obtain⟨⟨b1,b4,b2⟩,b3⟩:=dK (v0:=.int .i64 b) (v1:=.int .i64 (vs.length:Int)) (v2:=.slice a p.N.length ca) (v3:=.slice a' p.N.length iC) (v4:=.slice av vs.length cv) HR.out rfl
 obtain⟨⟨z0,z1,z2,z3,z4⟩,-⟩:=aI b1
 have a2:=ak a7.out a1.out
 refine bodyPost_ret (v:=.tuple #[wC b (vs.length:Int) a p.N.length ca a' p.N.length iC av vs.length cv,.nilIface]) (by simp[results,results45,go_sem,z0,z1,z2,z3,z4]) rfl ⟨a,ca,a',iC,av,cv,by rw[HZ.out];rfl,?_,b3 w w.heap.size a2 (by omega)⟩
 unfold jY
 rw[yP HZ.out]
 refine HP.out.on (by rw[b4];exact a2.size) λx h1 _ h2=>?_
 rw[b2 x (by omega)]
 exact a2.block x h2
theorem MC(g7:yC)(X:List Nat)(s:Nat)(b:Int)(vs:zI)(p:Pv)(a:zO)(ca:Nat)(a':zO)(iC:Nat)(av:zO)(cv:Nat)(v:Int)(w:zW)(hp:tO X s w a p.N a' p.E av vs)(hs:s<=w.heap.size)(hX: ∀x∈X,x<w.heap.size)(d5:mZ b vs.length p)(h0:p.c=0)(h5:vs.length<=5)(hv:v∈vs):
  Calls prog 45 #[wC b (vs.length:Int) a p.N.length ca a' p.N.length iC av vs.length cv,.int .i64 v] w (nD X s w b (vs.eraseIdx (fq vs v)) (iU b (vs.length:Int) (fq vs v) p)):=by
 have a7:=bG w (mg b (vs.length:Int) a p.N.length ca a' p.N.length iC av vs.length cv) gL
 have b5:=aj (wH av vs.length cv vs v _ (aF hp.here.2 a7))
 have d6:AY vs v=((fq vs v:Nat):Int):=by unfold AY;rw[yP hv]
 rw[d6]at b5
 have hk:=kG hv
 have hlen:((vs.length:Int)-1)=((vs.eraseIdx (fq vs v)).length:Int):=by rw[List.length_eraseIdx,yP hk];omega
 have b6:=CB d5 h0 hk
 have HF:=aj (λW (h:Below _ _ W)=>g7 b (vs.length:Int) a p.N.length ca a' p.N.length iC p.N p.E ((fq vs v:Nat):Int) W ((hp.below a7).below h).here.1.1 ((hp.below a7).below h).here.1.2)
 have d7:=aj (λW (h:Below _ _ W)=>Vb av vs.length cv vs W ((hp.below a7).below h).here.2 (by omega) (by omega))
 have d8:=hp.here.2.2.2.1
 have d9:=aj (λW0 g c W (h:adO W0 vs.length vs g c W)=>Rs W0 g c vs.length (fq vs v) vs W h rfl (by omega) hk d8)
 have a8:=aj (aP w (mg b (vs.length:Int) a p.N.length ca a' p.N.length iC av vs.length cv) gL)
 have b9:=aj (aQ w (mg b (vs.length:Int) a p.N.length ca a' p.N.length iC av vs.length cv) gL)
 have e0:=aj a7
 have e4:=aj hs
 have e5:=aj hX
 have g8:Hid (fq vs v<=5):=by show _<=_;omega
 obtain⟨J,c0⟩: ∃l,l=vs.eraseIdx (fq vs v):=⟨_,rfl⟩
 obtain⟨q,hq⟩: ∃q,q=iU b (vs.length:Int) (fq vs v) p:=⟨_,rfl⟩
 rw[<-c0]at hlen d9⊢
 rw[<-hq]at b6⊢
 have e6:=aj (λ(w1 Wf:zW) (a2:zO) (Z:zO) (c3:zO) (A:zO) (CA:Nat) (A':zO) (b3:Nat) (AV:zO) (CV:Nat)=>@pJ X w ((w.alloc (mg b (vs.length:Int) a p.N.length ca a' p.N.length iC av vs.length cv)).alloc gL) w1 Wf b J q a2 Z c3 s A CA A' b3 AV CV b6)
 have g9:=aj (λa2 a1 Z U c3 i1 W=>mI b (J.length:Int) J q b6 a2 a1 Z U c3 i1 W)
 have e1:sN b (vs.length:Int) p.N p.E p.N.length ((fq vs v:Nat):Int)=q.c:=by rw[hq];rfl
 have e2:Cc b (vs.length:Int) p.N p.E p.N.length ((fq vs v:Nat):Int)=q.N:=by rw[hq];rfl
 have e3:FN b (vs.length:Int) p.N p.E p.N.length ((fq vs v:Nat):Int)=q.E:=by rw[hq];rfl
 rw[e1,e2,e3,hlen]at HF
 unfold dB at HF
 clear e1 e2 e3 hq b6 hp hs hX d5 h0 hv d6 a7 hk hlen c0 d8
 generalize fq vs v=k at*
 obtain⟨⟨x0,x1,x2,x3,x4⟩,-⟩:=aI a8.out
 generalize e7:(w.alloc (mg b (vs.length:Int) a p.N.length ca a' p.N.length iC av vs.length cv)).alloc gL=w0 at b5 HF d7 e0 a8 b9 e6 x0 x1 x2 x3 x4
 have b0:Hid (w0.heap.size=w.heap.size+2):=by show _=_;rw[<-e7];simp
 have i6: ¬((k:Int)<0):=by omega
 have i7:IntKind.i64.wrap ((k:Int)+1)=(k:Int)+1:=vQ (by omega) (by have:=g8.out;omega)
 go_enter func45,ntmps45
 go_wp2_with fail
 clear e7 x0 x1 x2 x3 x4
 refine b5.out.mono ?_
 rintro e w1 ⟨rfl,e8⟩
 have b4:=aj e8
 obtain⟨⟨x0,x1,x2,x3,x4⟩,-⟩:=aI ((b4.out.block _ (zG a8.out).1).trans a8.out)
 clear e8 b5
 go_wp2_with fail
 clear x0 x1 x2 x3 x4
 refine(HF.out w1 b4.out).mono ?_
 rintro e w2 ⟨a2,a1,Z,U,rfl,hn,e9⟩
 have HN:=aj hn
 have g3:=aj (b4.out.size)
 have c4:=aj (ak b4.out e9)
 have b7:=aj (zl w2 (qM (bK q.c b) (bK q.c (J.length:Int)) a2 q.N.length a1 Z q.N.length U))
 have a6:=aj ((Below.refl w2.heap.size w2).alloc zr (qM (bK q.c b) (bK q.c (J.length:Int)) a2 q.N.length a1 Z q.N.length U))
 clear hn e9 HF b4
 go_upto_region 5 with fail
 obtain⟨z,f0⟩: ∃z,w2.alloc (qM (bK q.c b) (bK q.c (J.length:Int)) a2 q.N.length a1 Z q.N.length U)=z:=⟨_,rfl⟩
 rw[f0]at b7 a6⊢
 obtain⟨X3,c5⟩: ∃X3,X3=w2.heap.size:=⟨_,rfl⟩
 have i2:Hid (w0.heap.size<=X3):=by show _<=_;rw[c5];exact c4.out.size
 rw[<-c5]at b7⊢
 have b1:=aj (ak c4.out a6.out)
 clear f0 c5 c4
 have f1:Hid (∀W:zW,W.heap[w.heap.size]? =z.heap[w.heap.size]? ->W.heap[X3]? =z.heap[X3]? ->(W.cell? ⟨X3,0,none⟩=some (.int .i64 (bK q.c b))/\W.cell? ⟨X3,1,none⟩=some (.int .i64 (bK q.c (J.length:Int)))/\W.cell? ⟨X3,2,none⟩=some (.slice a2 q.N.length a1)/\W.cell? ⟨X3,3,none⟩=some (.slice Z q.N.length U)/\W.cell? ⟨w.heap.size,4,none⟩=some (.slice av vs.length cv))):=λW g1 g2=>by obtain⟨⟨p0,p1,p2,p3,p4⟩,-⟩:=aI ((g1.trans (b1.out.block _ (zG a8.out).1)).trans a8.out);obtain⟨⟨q0,q1,q2,q3⟩,-⟩:=aC (g2.trans b7.out);exact⟨q0,q1,q2,q3,p4⟩
 have c6:=aj (zG b7.out).1
 have c7:Hid (w.heap.size<z.heap.size):=by have h1:=b1.out.size;have h2:=b0.out;show _<_;omega
 have b8:Hid (∀W,Below z.heap.size z W->(λW:zW=>W.cell? ⟨X3,0,none⟩=some (.int .i64 (bK q.c b))/\W.cell? ⟨X3,1,none⟩=some (.int .i64 (bK q.c (J.length:Int)))/\W.cell? ⟨X3,2,none⟩=some (.slice a2 q.N.length a1)/\W.cell? ⟨X3,3,none⟩=some (.slice Z q.N.length U)/\W.cell? ⟨w.heap.size,4,none⟩=some (.slice av vs.length cv)) W):=λW h=>f1.out W (h.block _ c7.out) (h.block _ c6.out)
 have f2:Hid (∀W,Below z.heap.size z W->W.heap[w.heap.size+1]? =some gL):=λW h=>((ak b1.out h).block _ (zG b9.out).1).trans b9.out
 have i4:Hid (∀W u0 u1 u2 u3 u4,Below z.heap.size z W->(λW:zW=>W.cell? ⟨X3,0,none⟩=some (.int .i64 (bK q.c b))/\W.cell? ⟨X3,1,none⟩=some (.int .i64 (bK q.c (J.length:Int)))/\W.cell? ⟨X3,2,none⟩=some (.slice a2 q.N.length a1)/\W.cell? ⟨X3,3,none⟩=some (.slice Z q.N.length U)/\W.cell? ⟨w.heap.size,4,none⟩=some (.slice av vs.length cv)) (((((W.setCell ⟨w.heap.size+1,0,none⟩ u0).setCell ⟨w.heap.size+1,1,none⟩ u1).setCell ⟨w.heap.size+1,2,none⟩ u2).setCell ⟨w.heap.size+1,3,none⟩ u3).setCell ⟨w.heap.size+1,4,none⟩ u4)):=λW u0 u1 u2 u3 u4 h=>by have ho:=(dK (v0:=u0) (v1:=u1) (v2:=u2) (v3:=u3) (v4:=u4) (f2.out W h) rfl).1.2.2;have h1:=b0.out;have h2:=i2.out;exact f1.out _ ((ho _ (by omega)).trans (h.block _ c7.out)) ((ho _ (by omega)).trans (h.block _ c6.out))
 have c8:Hid (Below z.heap.size z z.drew):=zb.drew
 go_region_held_law (λW=>W.cell? ⟨X3,0,none⟩=some (.int .i64 (bK q.c b))/\W.cell? ⟨X3,1,none⟩=some (.int .i64 (bK q.c (J.length:Int)))/\W.cell? ⟨X3,2,none⟩=some (.slice a2 q.N.length a1)/\W.cell? ⟨X3,3,none⟩=some (.slice Z q.N.length U)/\W.cell? ⟨w.heap.size,4,none⟩=some (.slice av vs.length cv)) (first|exact b8.out _ c8.out|exact b8.out _ b2.out|exact b8.out _ c9.out|exact b8.out _ f3.out|exact i4.out _ _ _ _ _ _ b2.out) (first
  |(have hq:=f5.out;go_simp;go_at_call 42;refine(g9.out a2 a1 Z U (some ⟨g,0,none⟩) cg w5).mono ?_;rintro e w6 ⟨A,CA,A',b3,AV,CV,rfl,hA,d0⟩;have i5:=aj hA;have b2:=aj (c9.out.trans (d0.mono c9.out.size));have d1:=aj d0;have hr:=f2.out w6 b2.out;obtain⟨⟨r0,r1,r2,r3,r4⟩,rf⟩:=aI hr;have HR:=aj hr;clear hr hA d0 hq)
  |(have hq:=f6.out;go_simp;go_at_call 65;refine(d9.out z.drew g cg w4 f6.out).mono ?_;rintro e w5 ⟨rfl,f7,f8⟩;have f5:=aj f7;have c9:=aj (f3.out.trans (f8.mono (show z.heap.size<=z.drew.heap.size from zr)));clear f7 f8 hq)
  |(go_simp;go_at_call 66;refine(d7.out z.drew (ak b1.out c8.out)).mono ?_;rintro e w4 ⟨g,cg,rfl,d2⟩;have f6:=aj d2;have f3:=aj (c8.out.trans (d2.2.mono (show z.heap.size<=z.drew.heap.size from zr)));clear d2))
 all_goals
  go_wp2
  obtain⟨⟨g4,f9,d3⟩,g5⟩:=dK (v0:=.int .i64 (bK q.c b)) (v1:=.int .i64 (bK q.c (J.length:Int))) (v2:=.slice A q.N.length CA) (v3:=.slice A' q.N.length b3) (v4:=.slice AV (jY q.c J).length CV) HR.out rfl
  obtain⟨⟨z0,z1,z2,z3,z4⟩,-⟩:=aI g4
  have g6:=e6.out w2 _ a2 Z (some ⟨g,0,none⟩) A CA A' b3 AV CV i5.out (λW' d4=>HN.out W' (λx h1 h2=>d4 x (by have:=g3.out;omega) h2)) (by have:=e4.out;have:=b0.out;omega) (λx hx=>by have:=e5.out x hx;have:=b0.out;omega) (by rw[f9];have h1:=a6.out.size;have h2:=b2.out.size;omega) (λx h1 h2=>by
   have:=b0.out;rw[d3 x (by omega),b2.out.block x (by have:=a6.out.size;omega)]
   exact a6.out.block x h2) (λW' d4=>f5.out W' (λx h1 h2=>by
   have e1:z.drew.heap.size=z.heap.size:=rfl;have h3:=b1.out.size;have h4:=e4.out;have h5:=b0.out;have h6:=d1.out.size;rw[d4 x (by omega) (λhx=>by have:=e5.out x hx;omega) (by rw[f9];omega),d3 x (by omega)];exact d1.out.block x h2)) (g5 w w.heap.size (ak e0.out (ak b1.out b2.out)) (by omega))
  exact bodyPost_ret (v:=.tuple #[wC (bK q.c b) (bK q.c (J.length:Int)) A q.N.length CA A' q.N.length b3 AV (jY q.c J).length CV,bC q.c]) (by simp[results,results45,go_sem,z0,z1,z2,z3,z4]) rfl g6
def Fy(b:Int)(t:Nat)(k:Nat)(p:Pv):Pv:=gI (gX b (t:Int) p) λq=>gI (iU b (t:Int) k q) λr=>gX b ((t:Int)-1) r
theorem agY(X:List Nat)(s:Nat)(b:Int)(vs:zI)(p:Pv)(a:zO)(ca:Nat)(a':zO)(iC:Nat)(av:zO)(cv:Nat)(v:Int)(w:zW)(hp:tO X s w a p.N a' p.E av vs)(hs:s<=w.heap.size)(hX: ∀x∈X,x<w.heap.size)(h0:p.c=0)(hv: ¬v∈vs):
  Calls prog 46 #[wC b (vs.length:Int) a p.N.length ca a' p.N.length iC av vs.length cv,.int .i64 v] w (nD X s w b vs p):=by
 have J:=bG w (mg b (vs.length:Int) a p.N.length ca a' p.N.length iC av vs.length cv) gL
 have U:=aj (Ak av vs.length cv vs v _ (aF hp.here.2 J))
 rw[yF hv]at U
 have z:=aj (aP w (mg b (vs.length:Int) a p.N.length ca a' p.N.length iC av vs.length cv) gL)
 have Z:=aj (aQ w (mg b (vs.length:Int) a p.N.length ca a' p.N.length iC av vs.length cv) gL)
 have HP:=aj hp
 have a6:=aj J
 have b4:=aj hs
 have b5:=aj hX
 have HZ:=aj h0
 clear hp hs hX h0 hv J
 obtain⟨⟨x0,x1,x2,x3,x4⟩,-⟩:=aI z.out
 generalize a7:(w.alloc (mg b (vs.length:Int) a p.N.length ca a' p.N.length iC av vs.length cv)).alloc gL=w0 at U a6 z Z x0 x1 x2 x3 x4
 have b6:Hid (w0.heap.size=w.heap.size+2):=by show _=_;rw[<-a7];simp
 go_enter func46,ntmps46
 go_wp2_with fail
 clear a7 x0 x1 x2 x3 x4
 refine U.out.mono ?_
 rintro e w1 ⟨rfl,a8⟩
 have a1:=aj a8
 obtain⟨⟨x0,x1,x2,x3,x4⟩,-⟩:=aI ((a1.out.block _ (zG z.out).1).trans z.out)
 have hr:=(a1.out.block _ (zG Z.out).1).trans Z.out
 obtain⟨⟨r0,r1,r2,r3,r4⟩,rf⟩:=aI hr
 have HR:=aj hr
 clear a8 hr
 go_wp2
 obtain⟨⟨b0,b3,b1⟩,b2⟩:=dK (v0:=.int .i64 b) (v1:=.int .i64 (vs.length:Int)) (v2:=.slice a p.N.length ca) (v3:=.slice a' p.N.length iC) (v4:=.slice av vs.length cv) HR.out rfl
 obtain⟨⟨z0,z1,z2,z3,z4⟩,-⟩:=aI b0
 have a2:=ak a6.out a1.out
 refine bodyPost_ret (v:=.tuple #[wC b (vs.length:Int) a p.N.length ca a' p.N.length iC av vs.length cv,.nilIface]) (by simp[results,results46,go_sem,z0,z1,z2,z3,z4]) rfl ⟨a,ca,a',iC,av,cv,by rw[HZ.out];rfl,?_,b2 w w.heap.size a2 (by omega)⟩
 unfold jY
 rw[yP HZ.out]
 refine HP.out.on (by rw[b3];exact a2.size) λx h1 _ h2=>?_
 rw[b1 x (by omega)]
 exact a2.block x h2
theorem Rt{X:List Nat}{s:Nat}{W:zW}{a:zO}{N:zL}{a':zO}{E:zB}{av:zO}{vs:zI}(o:Obj)(h:tO X s W a N a' E av vs):tO X s (W.alloc o) a N a' E av vs:=h.below (zb.alloc zr _)
theorem adQ(g5:yc)(j3:yC)(X:List Nat)(s:Nat)(b:Int)(vs:zI)(p:Pv)(a:zO)(ca:Nat)(a':zO)(iC:Nat)(av:zO)(cv:Nat)(v:Int)(w:zW)(hp:tO X s w a p.N a' p.E av vs)(hs:s<=w.heap.size)(hX: ∀x∈X,x<w.heap.size)(e4:mZ b vs.length p)(h0:p.c=0)(h5:vs.length<=5)(hv:v∈vs):
  Calls prog 46 #[wC b (vs.length:Int) a p.N.length ca a' p.N.length iC av vs.length cv,.int .i64 v] w (nD X s w b (vs.eraseIdx (fq vs v)) (Fy b vs.length (fq vs v) p)):=by
 have c4:=bG w (mg b (vs.length:Int) a p.N.length ca a' p.N.length iC av vs.length cv) gL
 have d4:=aj (Ak av vs.length cv vs v _ (aF hp.here.2 c4))
 rw[yT hv]at d4
 have hk:=kG hv
 have j4:(vs.eraseIdx (fq vs v)).length=vs.length-1:=by rw[List.length_eraseIdx,yP hk]
 have hlen:((vs.length:Int)-1)=((vs.eraseIdx (fq vs v)).length:Int):=by omega
 have hY: ∀y∈(w.heap.size+1)::X,y∈X\/w.heap.size<=y:=λy hy=>by
  rcases List.mem_cons.1 hy with rfl|hy
  ·exact .inr (by omega)
  ·exact .inl hy
 have e5: ∀y∈(w.heap.size+1)::X,y<((w.alloc (mg b (vs.length:Int) a p.N.length ca a' p.N.length iC av vs.length cv)).alloc gL).heap.size:=λy hy=>by
  rcases List.mem_cons.1 hy with rfl|hy
  ·simp
  ·have:=hX y hy;simp;omega
 have j5:Hid (∀x∈X,x∈(w.heap.size+1)::X):=λx hx=>List.mem_cons_of_mem _ hx
 have e6:=aj e5
 have c5:=aj (λW (h:Below _ _ W)=>Ej g5 ((w.heap.size+1)::X) s b vs p a ca a' iC av cv W ((hp.but c4 hY).below h) (by have h1:=c4.size;have h2:=h.size;omega) (λx hx=>by have h1:=e5 x hx;have h2:=h.size;omega) e4 h0)
 have d5:=yB e4 h0
 have d6:mZ b vs.length (gX b (vs.length:Int) p):=Cu
 obtain⟨q,hq⟩: ∃q,q=gX b (vs.length:Int) p:=⟨_,rfl⟩
 rw[<-hq]at c5 d5 d6
 have b3:=aj (λa ca a' iC av cv W (h:tO ((w.heap.size+1)::X) s W a q.N a' q.E av vs) (hs:s<=W.heap.size) (hX: ∀x∈(w.heap.size+1)::X,x<W.heap.size) (h0:q.c=0)=>MC j3 ((w.heap.size+1)::X) s b vs q a ca a' iC av cv v W h hs hX d6 h0 h5 hv)
 have d7:=λh0=>CB d6 h0 hk
 have d8:mZ b (vs.eraseIdx (fq vs v)).length (iU b (vs.length:Int) (fq vs v) q):=by have:=@Gx b (vs.eraseIdx (fq vs v)).length (fq vs v) q;rw[<-hlen,show((vs.length:Int)-1)+1=(vs.length:Int)by omega]at this;exact this
 obtain⟨r,hr⟩: ∃r,r=iU b (vs.length:Int) (fq vs v) q:=⟨_,rfl⟩
 have e7:q.c≠0->Fy b vs.length (fq vs v) p=nO 3:=λh=>by unfold Fy;rw[<-hq];unfold gI;rw[yN h,qd d5 h];rfl
 have e8:q.c=0->r.c≠0->Fy b vs.length (fq vs v) p=nO 3:=λh h2=>by have e:=qd (d7 h) (by rw[<-hr];exact h2);unfold Fy;rw[<-hq];unfold gI;rw[yP h];simp only[];rw[e,yN (by decide)];rfl
 have d9:q.c=0->r.c=0->Fy b vs.length (fq vs v) p=gX b ((vs.eraseIdx (fq vs v)).length:Int) r:=λh h2=>by unfold Fy;rw[<-hq];unfold gI;rw[yP h];simp only[];rw[<-hr,yP h2,hlen]
 generalize Fy b vs.length (fq vs v) p=Z at e7 e8 d9⊢
 rw[<-hr]at b3 d7 d8
 have e9:=aj e7
 have f0:=aj e8
 generalize vs.eraseIdx (fq vs v)=J at b3 d8 d9⊢
 have f1:=aj d9
 have c6:=aj (λa ca a' iC av cv W (h:tO ((w.heap.size+1)::X) s W a r.N a' r.E av J) (hs:s<=W.heap.size) (hX: ∀x∈(w.heap.size+1)::X,x<W.heap.size) (h0:r.c=0)=>Ej g5 ((w.heap.size+1)::X) s b J r a ca a' iC av cv W h hs hX d8 h0)
 unfold nD at c5 b3 c6
 have e0:=aj (aP w (mg b (vs.length:Int) a p.N.length ca a' p.N.length iC av vs.length cv) gL)
 have f2:=aj (aQ w (mg b (vs.length:Int) a p.N.length ca a' p.N.length iC av vs.length cv) gL)
 have e1:=aj c4
 have g6:=aj hs
 have k0:=aj hX
 have g7:=aj d5
 have f3:=aj d7
 clear hp hs hX hY e5 e4 h0 hv c4 hk j4 hlen hq d6 d8 hr d5 d7 e7 e8 d9
 obtain⟨⟨x0,x1,x2,x3,x4⟩,-⟩:=aI e0.out
 generalize g8:(w.alloc (mg b (vs.length:Int) a p.N.length ca a' p.N.length iC av vs.length cv)).alloc gL=w0 at d4 c5 e1 e0 f2 e6 x0 x1 x2 x3 x4
 have g9:Hid (w0.heap.size=w.heap.size+2):=by show _=_;rw[<-g8];simp
 have f5:Hid (∀W,Below w0.heap.size w0 W->W.heap[w.heap.size+1]? =some gL):=λW h=>(h.block _ (zG f2.out).1).trans f2.out
 go_enter func46,ntmps46
 go_wp2_with fail
 clear g8 x0 x1 x2 x3 x4
 refine d4.out.mono ?_
 rintro e w1 ⟨rfl,i1⟩
 have e2:=aj i1
 obtain⟨⟨x0,x1,x2,x3,x4⟩,-⟩:=aI ((e2.out.block _ (zG e0.out).1).trans e0.out)
 clear i1 d4
 go_wp2_with fail
 clear x0 x1 x2 x3 x4
 refine(c5.out w1 e2.out).mono ?_
 rintro e w2 ⟨a2,b4,b5,a7,b6,b7,rfl,i2,i4⟩
 have c7:=aj i2
 have c8:=aj (ak e2.out i4)
 clear i2 i4 c5 e2
 by_cases a1:q.c=0
 ·have j6:=aj (f0.out a1)
  have i5:=aj (f1.out a1)
  unfold jY at c7⊢
  unfold bK
  rw[a1,dz rfl,yP rfl,yP rfl,yP rfl]
  rw[a1,yP rfl]at c7
  have i6:=aj (zl w2 (mg b (vs.length:Int) a2 q.N.length b4 b5 q.N.length a7 b6 vs.length b7))
  have c9:=aj (c8.out.alloc c8.out.size (mg b (vs.length:Int) a2 q.N.length b4 b5 q.N.length a7 b6 vs.length b7))
  have f6:=aj (Rt (mg b (vs.length:Int) a2 q.N.length b4 b5 q.N.length a7 b6 vs.length b7) c7.out)
  obtain⟨⟨y0,y1,y2,y3,y4⟩,-⟩:=aI i6.out
  have f7:=aj (b3.out a2 b4 b5 a7 b6 b7 _ f6.out (by have h1:=g6.out;have h2:=g9.out;have h3:=c9.out.size;omega) (λx hx=>by have h1:=e6.out x hx;have h3:=c9.out.size;omega) a1)
  have S3:=aj (f3.out a1)
  generalize j7:w2.alloc (mg b (vs.length:Int) a2 q.N.length b4 b5 q.N.length a7 b6 vs.length b7)=w3 at i6 c9 f6 f7 y0 y1 y2 y3 y4
  clear a1 c7 b3 f3 g7 c8 e9 f0 f1
  go_wp2_with fail
  clear j7 y0 y1 y2 y3 y4
  refine f7.out.mono ?_
  rintro e w4 ⟨a4,b8,b9,a8,c0,c3,rfl,i7,i8⟩
  have d0:=aj i7
  have d1:=aj (ak c9.out i8)
  clear i7 i8 f7 c9 f6
  by_cases b0:r.c=0
  ·have HY:=aj (i5.out b0)
   unfold jY at d0⊢
   unfold bK
   rw[b0,dz rfl,yP rfl,yP rfl,yP rfl]
   rw[b0,yP rfl]at d0
   have i9:=aj (zl w4 (mg b (J.length:Int) a4 r.N.length b8 b9 r.N.length a8 c0 J.length c3))
   have U:=aj (d1.out.alloc d1.out.size (mg b (J.length:Int) a4 r.N.length b8 b9 r.N.length a8 c0 J.length c3))
   have f8:=aj (Rt (mg b (J.length:Int) a4 r.N.length b8 b9 r.N.length a8 c0 J.length c3) d0.out)
   obtain⟨⟨y0,y1,y2,y3,y4⟩,-⟩:=aI i9.out
   have e3:=aj (c6.out a4 b8 b9 a8 c0 c3 _ f8.out (by have h1:=g6.out;have h2:=g9.out;have h3:=U.out.size;omega) (λx hx=>by have h1:=e6.out x hx;have h3:=U.out.size;omega) b0)
   generalize j8:w4.alloc (mg b (J.length:Int) a4 r.N.length b8 b9 r.N.length a8 c0 J.length c3)=w5 at i9 U f8 e3 y0 y1 y2 y3 y4
   clear b0 d0 c6 S3 d1
   generalize gX b (J.length:Int) r=z at e3 HY
   go_wp2_with fail
   clear j8 y0 y1 y2 y3 y4
   refine e3.out.mono ?_
   rintro e w6 ⟨a6,f9,g1,d2,g2,g3,rfl,j0,j1⟩
   have j9:=aj j0
   have j2:=aj (ak U.out j1)
   have hr:=f5.out w6 j2.out
   obtain⟨⟨r0,r1,r2,r3,r4⟩,rf⟩:=aI hr
   have HR:=aj hr
   clear j0 j1 hr e3 U f8
   go_wp2
   obtain⟨⟨b1,g4,d3⟩,b2⟩:=dK (v0:=.int .i64 (bK z.c b)) (v1:=.int .i64 (bK z.c (J.length:Int))) (v2:=.slice a6 z.N.length f9) (v3:=.slice g1 z.N.length d2) (v4:=.slice g2 (jY z.c J).length g3) HR.out rfl
   obtain⟨⟨z0,z1,z2,z3,z4⟩,-⟩:=aI b1
   refine bodyPost_ret (v:=.tuple #[wC (bK z.c b) (bK z.c (J.length:Int)) a6 z.N.length f9 g1 z.N.length d2 g2 (jY z.c J).length g3,bC z.c]) (by simp[results,results46,go_sem,z0,z1,z2,z3,z4]) rfl ?_
   rw[HY.out]
   refine⟨a6,f9,g1,d2,g2,g3,rfl,(j9.out.on (by rw[g4];exact zr) (λx h1 hx h2=>d3 x (λe=>hx (by rw[e];exact List.mem_cons_self)))).less j5.out,b2 w w.heap.size (ak e1.out j2.out) (by omega)⟩
  ·have HY:=aj (j6.out b0)
   have e:r.c=3:=by rw[qd S3.out b0];rfl
   rw[e,dx (show(3:Int)≠0 by decide)]
   have U:=aj (d1.out.alloc d1.out.size (mg (bK 3 b) (bK 3 (J.length:Int)) a4 r.N.length b8 b9 r.N.length a8 c0 (jY 3 J).length c3))
   have hr:=f5.out _ U.out
   obtain⟨⟨r0,r1,r2,r3,r4⟩,rf⟩:=aI hr
   have HR:=aj hr
   clear hr b0 e d0 c6 S3 i5
   go_wp2
   obtain⟨⟨b1,g4,d3⟩,b2⟩:=dK (v0:=.int .i64 0) (v1:=.int .i64 0) (v2:=.slice none 0 0) (v3:=.slice none 0 0) (v4:=.slice none 0 0) HR.out rfl
   obtain⟨⟨z0,z1,z2,z3,z4⟩,-⟩:=aI b1
   refine bodyPost_ret (v:=.tuple #[ptZ,.iface 45 (.int .i64 3)]) (by simp[results,results46,go_sem,z0,z1,z2,z3,z4]) rfl ?_
   rw[HY.out]
   exact Jq (b2 w w.heap.size (ak e1.out U.out) (by omega))
 ·have HY:=aj (e9.out a1)
  have e:q.c=3:=by rw[qd g7.out a1];rfl
  rw[e,dx (show(3:Int)≠0 by decide)]
  have U:=aj (c8.out.alloc c8.out.size (mg (bK 3 b) (bK 3 (vs.length:Int)) a2 q.N.length b4 b5 q.N.length a7 b6 (jY 3 vs).length b7))
  have hr:=f5.out _ U.out
  obtain⟨⟨r0,r1,r2,r3,r4⟩,rf⟩:=aI hr
  have HR:=aj hr
  clear hr a1 e c7 b3 c6 f3 e9 f0 f1
  go_wp2
  obtain⟨⟨b1,g4,d3⟩,b2⟩:=dK (v0:=.int .i64 0) (v1:=.int .i64 0) (v2:=.slice none 0 0) (v3:=.slice none 0 0) (v4:=.slice none 0 0) HR.out rfl
  obtain⟨⟨z0,z1,z2,z3,z4⟩,-⟩:=aI b1
  refine bodyPost_ret (v:=.tuple #[ptZ,.iface 45 (.int .i64 3)]) (by simp[results,results46,go_sem,z0,z1,z2,z3,z4]) rfl ?_
  rw[HY.out]
  exact Jq (b2 w w.heap.size (ak e1.out U.out) (by omega))
theorem ZT(w:zW)(o1 o2 z:Obj){W:zW}(h:Below (((w.alloc o1).alloc o2).alloc z).heap.size (((w.alloc o1).alloc o2).alloc z) W):W.heap[w.heap.size]? =some o1/\W.heap[w.heap.size+1]? =some o2/\W.heap[w.heap.size+2]? =some z:=by
 have k: ∀i,i<w.heap.size+3->W.heap[i]? =(((w.alloc o1).alloc o2).alloc z).heap[i]? :=λi hi=>h.block i (by simp<;>omega);refine⟨?_,?_,?_⟩
 ·rw[k _ (by omega),Below.heap_alloc _ _ _ (by simp<;>omega),aP]
 ·rw[k _ (by omega),Below.heap_alloc _ _ _ (by simp<;>omega),aQ]
 ·rw[k _ (by omega)];have:=zl ((w.alloc o1).alloc o2) z;simpa using this
def jnZ(b:Int)(vs own more:zI)(n:Nd)(p q:Pv):Pv:=if aU b (vs.length:Int)=0 then lI b n vs own more p q else nO 3
theorem ZU(n7:CU)(t6:Gu)(X:List Nat)(s:Nat)(b:Int)(n:Nd)(own more:zI)(p q:Pv)(a:zO)(ca:Nat)(a':zO)(iC:Nat)(av:zO)(cv:Nat)(d:zO)(cd:Nat)(d':zO)(c0:Nat)(dv:zO)(dw:Nat)(w:zW)(hp:tO X s w a p.N a' p.E av own)(hq:tO X s w d q.N d' q.E dv more)(hs:s<=w.heap.size)(hX: ∀x∈X,x<w.heap.size)(d7:mZ b own.length p)(d1:mZ b more.length q)(h0:p.c=0)(h1:q.c=0)(h5:own.length<=5)(j7:more.length<=5)(i5:(oD (own++more)).length<=5)(j8:n.op=6\/n.op=7)(hb:1<=b/\b<=6):
  Calls prog 47 #[wC b (own.length:Int) a p.N.length ca a' p.N.length iC av own.length cv,wC b (more.length:Int) d q.N.length cd d' q.N.length c0 dv more.length dw,.int .i64 (Cx n)] w (nD X s w b (oD (own++more)) (jnZ b (oD (own++more)) own more n p q)):=by
 have J:=eT w (mg b (own.length:Int) a p.N.length ca a' p.N.length iC av own.length cv) (mg b (more.length:Int) d q.N.length cd d' q.N.length c0 dv more.length dw) gL
 have i6:=aj (λW=>@ZT w (mg b (own.length:Int) a p.N.length ca a' p.N.length iC av own.length cv) (mg b (more.length:Int) d q.N.length cd d' q.N.length c0 dv more.length dw) gL W)
 obtain⟨vs,d8⟩: ∃l,l=oD (own++more):=⟨_,rfl⟩
 have d9: ∀x∈own,x∈vs:=λx hx=>by rw[d8,(jE _).2];simp[hx]
 have e0: ∀x∈more,x∈vs:=λx hx=>by rw[d8,(jE _).2];simp[hx]
 have HP:=aj (λW (h:Below _ _ W)=>((hp.below J).below h).here)
 have HQ:=aj (λW (h:Below _ _ W)=>((hq.below J).below h).here)
 have g4:=hp.here.2.2.2.1
 have g5:=hq.here.2.2.2.1
 have c3:=aj (λvb vc W (h:Below _ _ W) g1 g2=>Ru vb vc av own.length cv own dv more.length dw more W g1 g2 (((hp.below J).below h).here.2) (((hq.below J).below h).here.2) (by omega) (by omega))
 have e5:=aj (λbase v W (h:W.ownsRow base 3 1 v (own++more).length ((own++more).map (Value.int .i64)))=>ZR base v (own++more) W (by simp;omega) (λx hx=>(List.mem_append.1 hx).elim (g4 x) (g5 x)) h)
 rw[<-d8]at i5 e5⊢
 have U:=aj (λaw cw W (h:Below _ _ W) (hw:Sl W aw vs.length vs)=>Fz n7 b own vs p a ca a' iC av cv aw cw W ((hp.below J).below h).here.1.1 ((hp.below J).below h).here.1.2 ((hp.below J).below h).here.2 hw h5 i5 d9)
 have a8:=aj (λaw cw W (h:Below _ _ W) (hw:Sl W aw vs.length vs)=>Fz n7 b more vs q d cd d' c0 dv dw aw cw W ((hq.below J).below h).here.1.1 ((hq.below J).below h).here.1.2 ((hq.below J).below h).here.2 hw j7 i5 e0)
 unfold dB at U a8
 unfold GI at c3
 have j9:=aj J
 have n8:=aj hs
 have n9:=aj hX
 have k0:(vs.length:Int)<=5:=by omega
 generalize k3:((w.alloc (mg b (own.length:Int) a p.N.length ca a' p.N.length iC av own.length cv)).alloc (mg b (more.length:Int) d q.N.length cd d' q.N.length c0 dv more.length dw)).alloc gL=w0 at i6 HP HQ c3 U a8 j9
 have i7:Hid (w0.heap.size=w.heap.size+3):=by show _=_;rw[<-k3];simp
 have o0:Hid (∀W,Below w0.heap.size w0 W->W.heap[w.heap.size+2]? =some gL):=λW h=>(i6.out W h).2.2
 have c4:Hid (∀W,Below w0.heap.size w0 W->(W.cell? ⟨w.heap.size,0,none⟩=some (.int .i64 b)/\W.cell? ⟨w.heap.size,1,none⟩=some (.int .i64 (own.length:Int))/\W.cell? ⟨w.heap.size,2,none⟩=some (.slice a p.N.length ca)/\W.cell? ⟨w.heap.size,3,none⟩=some (.slice a' p.N.length iC)/\W.cell? ⟨w.heap.size,4,none⟩=some (.slice av own.length cv))/\(W.cell? ⟨w.heap.size+1,0,none⟩=some (.int .i64 b)/\W.cell? ⟨w.heap.size+1,1,none⟩=some (.int .i64 (more.length:Int))/\W.cell? ⟨w.heap.size+1,2,none⟩=some (.slice d q.N.length cd)/\W.cell? ⟨w.heap.size+1,3,none⟩=some (.slice d' q.N.length c0)/\W.cell? ⟨w.heap.size+1,4,none⟩=some (.slice dv more.length dw))):=λW h=>⟨(aI (i6.out W h).1).1,(aI (i6.out W h).2.1).1⟩
 have o3:=aj (Below.refl w0.heap.size w0)
 by_cases hM:aU b (vs.length:Int)=0
 ·have hZ:jnZ b vs own more n p q=lI b n vs own more p q:=by unfold jnZ;rw[yP hM]
  obtain⟨s1,g1,c1,l1,-⟩:=Cw d9 hM d7 h0
  obtain⟨s2,g2,c2,l2,-⟩:=Cw e0 hM d1 h1
  have hL:=kF hM
  have o4:=ac9 j8 d9 e0 hM d7 d1 h0 h1 rfl rfl rfl rfl
  simp only[]at o4
  obtain⟨hn,b1,b2,b3⟩:=o4
  have k4:Gz (lI b n vs own more p q):=by
   by_cases c5:bE (N8 (aD b (vs.length:Int)).toNat (qx b own.length p.N p.E p.N.length vs.length (dR vs own)) (qx b more.length q.N q.E q.N.length vs.length (dR vs more)) (iE b (vs.length:Int))) (inQ (Cx n) (aD b (vs.length:Int)).toNat (qx b own.length p.N p.E p.N.length vs.length (dR vs own)) (qx b more.length q.N q.E q.N.length vs.length (dR vs more)) (iE b (vs.length:Int)) (xg b own.length p.N p.E p.N.length vs.length (dR vs own)) (xg b more.length q.N q.E q.N.length vs.length (dR vs more)) (nM b (vs.length:Int))) (aD b (vs.length:Int)).toNat<=80
   ·rw[yP c5]at b1;exact .inl b1
   ·rw[yN c5]at b1;exact .inr ⟨b1,(b3 (by rw[b1];decide)).1,(b3 (by rw[b1];decide)).2⟩
  rw[s1,dz rfl]at U
  rw[s2,dz rfl]at a8
  unfold bK at U a8
  rw[yP rfl,yP rfl]at U a8
  have e6:=aj (λW=>t6 b (vs.length:Int) W)
  rw[hM]at e6
  unfold dB bK at e6
  rw[yP rfl,yP rfl,dz rfl]at e6
  have g6:0<=Cx n/\Cx n<=15:=by unfold Cx;split<;>decide
  generalize qx b own.length p.N p.E p.N.length vs.length (dR vs own)=NA at*
  generalize xg b own.length p.N p.E p.N.length vs.length (dR vs own)=EA at*
  generalize qx b more.length q.N q.E q.N.length vs.length (dR vs more)=NB at*
  generalize xg b more.length q.N q.E q.N.length vs.length (dR vs more)=EB at*
  have o5:=hL.auto
  generalize iE b (vs.length:Int)=NC at*
  generalize nM b (vs.length:Int)=EC at*
  have o6:=aj (λa1 r8 t7 n4 a2 r9 e7 n5 a3 s0 t8 n6 W q1 q2 q3 q4 q5 q6=>ZO b (vs.length:Int) a1 NA.length r8 t7 n4 NA EA a2 NB.length r9 e7 n5 NB EB a3 NC.length s0 t8 n6 NC EC (Cx n) W q1 q2 q3 q4 q5 q6 g6.1 g6.2 c1 c2 o5)
  rw[hZ]
  generalize N8 (aD b (vs.length:Int)).toNat NA NB NC=P at*
  generalize inQ (Cx n) (aD b (vs.length:Int)).toNat NA NB NC EA EB EC=Q at*
  generalize aV P Q (aD b (vs.length:Int)).toNat=LN at*
  generalize aY P Q (aD b (vs.length:Int)).toNat=LE at*
  generalize bE P Q (aD b (vs.length:Int)).toNat=LK at*
  generalize lI b n vs own more p q=z at*
  have k5:Hid (∀w e w',acs w b (vs.length:Int) LN LE LK e w'->dB w (bK z.c b) (bK z.c (vs.length:Int)) z.N z.E z.c e w'):=λw e w' h=>by
   by_cases c5:LK<=80
   ·rw[yP c5]at b1;obtain⟨e1,e2⟩:=b2 b1;rw[e1,e2,b1];exact h.1 c5
   ·rw[yN c5]at b1;obtain⟨e1,e2⟩:=b3 (by rw[b1];decide);rw[e1,e2,b1];exact h.2 (by omega)
  unfold dB at k5
  have o7:=aj (λa2 v6 e7 s3 k6 v7 W=>mI b (vs.length:Int) vs z k4 a2 v6 e7 s3 k6 v7 W)
  have v8:=aj (λ(wq w1 Wf:zW) (a2:zO) (e7:zO) (k6:zO) (A:zO) (CA:Nat) (A':zO) (e8:Nat) (AV:zO) (CV:Nat)=>@pJ X w wq w1 Wf b vs z a2 e7 k6 s A CA A' e8 AV CV k4)
  have y6:((vs.length:Nat):Int)=(vs.length:Int):=rfl
  clear hp hq hs hX d7 d1 h0 h1 h5 j7 j8 J d8 d9 e0 g4 g5 s1 g1 c1 l1 s2 g2 c2 l2 hL hn b1 b2 b3 k4 o5 hM hZ g6 k0 hb
  obtain⟨⟨x0,x1,x2,x3,x4⟩,⟨y0,y1,y2,y3,y4⟩⟩:=c4.out w0 o3.out
  have Z:=aj ((Below.refl w0.heap.size w0).alloc zr (.cells #[.slice av own.length cv,.slice dv more.length dw] 24))
  have b4:=aj (zl w0 (.cells #[.slice av own.length cv,.slice dv more.length dw] 24))
  obtain⟨⟨u0,u1⟩,-⟩:=bL b4.out
  generalize k7:w0.alloc (.cells #[.slice av own.length cv,.slice dv more.length dw] 24)=wr at Z b4 u0 u1
  have HC:=aj (c3.out w0.heap.size 2 wr Z.out u0 u1)
  clear c3
  go_enter func47,ntmps47
  go_wp2_with fail
  clear k3 k7 x0 x1 x2 x3 x4 y0 y1 y2 y3 y4 u0 u1
  refine HC.out.mono ?_
  rintro e w1 ⟨v1,rfl,e9,c6⟩
  have b5:=aj (ak Z.out c6)
  have f0:Hid (w0.heap.size<=wr.heap.size):=Z.out.size
  have y7:Hid (wr.heap.size<=w1.heap.size):=c6.size
  have f1:=aj (e5.out _ v1 w1 e9)
  clear c6 e9 HC Z b4 e5
  go_wp2_with fail
  refine f1.out.mono ?_
  rintro e w2 ⟨rfl,i8,f2⟩
  have x5:=aj (b5.out.trans (i8 w0.heap.size f0.out b5.out.size))
  have f3:=aj f2
  clear i8 f2 f1
  go_wp2_with fail
  refine f3.out.mono ?_
  rintro e w3 ⟨aw,cw,rfl,c7,f5⟩
  have x6:=aj c7
  have b0:=aj (b5.out.trans (f5 w0.heap.size f0.out b5.out.size))
  have d2:=aj (c7 w3 (λ_ _ _=>rfl))
  obtain⟨⟨x0,x1,x2,x3,x4⟩,⟨y0,y1,y2,y3,y4⟩⟩:=c4.out w3 b0.out
  have f6:=aj (U.out aw cw w3 b0.out d2.out)
  clear c7 f5 f3 x5 U
  go_wp2_with fail
  clear x0 x1 x2 x3 x4 y0 y1 y2 y3 y4
  refine f6.out.mono ?_
  rintro e w4 ⟨e1,c8,c9,a6,rfl,o8,b6⟩
  have o9:=aj o8
  have d3:=aj (b6.alloc b6.size (qM b (vs.length:Int) e1 NA.length c8 c9 NA.length a6))
  have i9:=aj (zl w4 (qM b (vs.length:Int) e1 NA.length c8 c9 NA.length a6))
  have b7:=aj (ak b0.out d3.out)
  clear o8 b6 f6
  generalize p4:w4.alloc (qM b (vs.length:Int) e1 NA.length c8 c9 NA.length a6)=w5 at d3 i9 b7
  have k8:=aj ((o9.out.below (by rw[<-p4];exact zb.alloc zr _:Below w4.heap.size w4 w5)))
  obtain⟨X4,k9⟩: ∃X,X=w4.heap.size:=⟨_,rfl⟩
  rw[<-k9]at i9
  obtain⟨⟨x0,x1,x2,x3,x4⟩,⟨y0,y1,y2,y3,y4⟩⟩:=c4.out w5 b7.out
  have p5:=aj (a8.out aw cw w5 b7.out (aF d2.out d3.out))
  clear a8 o9
  go_wp2_with fail
  clear x0 x1 x2 x3 x4 y0 y1 y2 y3 y4 p4
  rw[<-k9]
  clear k9
  refine p5.out.mono ?_
  rintro e w6 ⟨e2,j0,j1,d4,rfl,p6,l3⟩
  have p7:=aj p6
  have g7:=aj (l3.alloc l3.size (qM b (vs.length:Int) e2 NB.length j0 j1 NB.length d4))
  have j2:=aj (zl w6 (qM b (vs.length:Int) e2 NB.length j0 j1 NB.length d4))
  have l4:=aj (ak b7.out g7.out)
  clear p6 l3 p5
  generalize p8:w6.alloc (qM b (vs.length:Int) e2 NB.length j0 j1 NB.length d4)=w7 at g7 j2 l4
  have l5:=aj ((p7.out.below (by rw[<-p8];exact zb.alloc zr _:Below w6.heap.size w6 w7)))
  obtain⟨X6,l6⟩: ∃X,X=w6.heap.size:=⟨_,rfl⟩
  rw[<-l6]at j2
  obtain⟨⟨x0,x1,x2,x3,x4⟩,-⟩:=c4.out w7 l4.out
  have p9:=aj (e6.out w7)
  clear e6 p7
  go_wp2_with fail
  clear x0 x1 x2 x3 x4 p8
  rw[<-l6]
  clear l6
  refine p9.out.mono ?_
  rintro e w8 ⟨e3,j3,j4,d5,rfl,q0,l7⟩
  have q7:=aj q0
  have a7:=aj (l7.alloc l7.size (qM b (vs.length:Int) e3 NC.length j3 j4 NC.length d5))
  have q8:=aj (zl w8 (qM b (vs.length:Int) e3 NC.length j3 j4 NC.length d5))
  have j5:=aj (ak l4.out a7.out)
  clear q0 l7 p9
  generalize q9:w8.alloc (qM b (vs.length:Int) e3 NC.length j3 j4 NC.length d5)=w9 at a7 q8 j5
  have l8:=aj ((q7.out.below (by rw[<-q9];exact zb.alloc zr _:Below w8.heap.size w8 w9)))
  have b8:=ak g7.out a7.out
  obtain⟨⟨x0,x1,x2,x3⟩,-⟩:=aC ((b8.block _ (zG i9.out).1).trans i9.out)
  obtain⟨⟨y0,y1,y2,y3⟩,-⟩:=aC ((a7.out.block _ (zG j2.out).1).trans j2.out)
  obtain⟨⟨t0,t1,t2,t3⟩,-⟩:=aC q8.out
  have r5:=aj (o6.out e1 c8 c9 a6 e2 j0 j1 d4 e3 j3 j4 d5 w9 (k8.out.below b8).here.1 (k8.out.below b8).here.2 (l5.out.below a7.out).here.1 (l5.out.below a7.out).here.2 l8.out.here.1 l8.out.here.2)
  have s4:=aj (ak d3.out b8)
  clear b8 o6 q7
  go_wp2_with fail
  clear x0 x1 x2 x3 y0 y1 y2 y3 t0 t1 t2 t3 q9
  refine r5.out.mono ?_
  rintro e f7 r6
  obtain⟨e4,f8,d0,b9,rfl,l9,g8⟩:=k5.out _ _ _ r6
  have s5:=aj l9
  have j6:=aj (g8.alloc g8.size (qM (bK z.c b) (bK z.c (vs.length:Int)) e4 z.N.length f8 d0 z.N.length b9))
  have n0:=aj (zl f7 (qM (bK z.c b) (bK z.c (vs.length:Int)) e4 z.N.length f8 d0 z.N.length b9))
  have f9:=aj ((Below.refl f7.heap.size f7).alloc zr (qM (bK z.c b) (bK z.c (vs.length:Int)) e4 z.N.length f8 d0 z.N.length b9))
  clear l9 g8 r6 r5 k5
  generalize s8:f7.alloc (qM (bK z.c b) (bK z.c (vs.length:Int)) e4 z.N.length f8 d0 z.N.length b9)=x7 at j6 n0 f9
  obtain⟨⟨x0,x1,x2,x3⟩,-⟩:=aC n0.out
  have r7:=aj (o7.out e4 f8 d0 b9 aw cw x7)
  clear o7
  go_wp2_with fail
  clear x0 x1 x2 x3 s8
  refine r7.out.mono ?_
  rintro e x8 ⟨A,CA,A',e8,AV,CV,rfl,hA,g9⟩
  have x9:=aj hA
  have d6:=aj (ak s4.out (ak j6.out g9))
  have g3:=aj (ak f9.out g9)
  have n2:=aj (ak b0.out d6.out)
  have hr:=o0.out x8 n2.out
  obtain⟨⟨r0,r1,r2,r3,r4⟩,rf⟩:=aI hr
  have HR:=aj hr
  clear hA g9 hr r7
  go_wp2
  obtain⟨⟨i1,n3,i2⟩,i4⟩:=dK (v0:=.int .i64 (bK z.c b)) (v1:=.int .i64 (bK z.c (vs.length:Int))) (v2:=.slice A z.N.length CA) (v3:=.slice A' z.N.length e8) (v4:=.slice AV (jY z.c vs).length CV) HR.out rfl
  obtain⟨⟨z0,z1,z2,z3,z4⟩,-⟩:=aI i1
  have s9:=v8.out w9 f7 _ e4 d0 aw A CA A' e8 AV CV x9.out s5.out (by have h1:=n8.out;have h2:=i7.out;have h3:=j5.out.size;omega) (λx hx=>by have h1:=n9.out x hx;have h2:=i7.out;have h3:=j5.out.size;omega) (by rw[n3];exact g3.out.size) (λx h1 h2=>by
   have h3:=i7.out;have h4:=j5.out.size;rw[i2 x (by omega)]
   exact g3.out.block x h2) (λW' y5=>x6.out W' (λx h1 h2=>by
   have h3:=i7.out;have h4:=f0.out;have h5:=n8.out;have h6:=d6.out.size;rw[y5 x (by omega) (λhx=>by have:=n9.out x hx;omega) (by rw[n3];omega),i2 x (by omega)];exact d6.out.block x h2)) (i4 w w.heap.size (ak j9.out n2.out) (by omega))
  exact bodyPost_ret (v:=.tuple #[wC (bK z.c b) (bK z.c (vs.length:Int)) A z.N.length CA A' z.N.length e8 AV (jY z.c vs).length CV,bC z.c]) (by simp[results,results47,go_sem,z0,z1,z2,z3,z4]) rfl s9
 ·have hZ:jnZ b vs own more n p q=nO 3:=by unfold jnZ;rw[yN hM]
  have e1:=ac7 (vs:=vs) hM d7 h0
  have e2:=Fv hb.1 hb.2 i5 hM
  rw[e1,e2,dx (show(3:Int)≠0 by decide)]at U
  unfold bK at U
  rw[yN (show¬(3:Int)=0 by decide),yN (show¬(3:Int)=0 by decide)]at U
  rw[hZ]
  generalize qx b own.length p.N p.E p.N.length vs.length (dR vs own)=NA at*
  generalize xg b own.length p.N p.E p.N.length vs.length (dR vs own)=EA at*
  clear hp hq hs hX d7 d1 h0 h1 h5 j7 j8 J d8 d9 e0 g4 g5 hM hZ k0 hb e1 e2 a8
  obtain⟨⟨x0,x1,x2,x3,x4⟩,⟨y0,y1,y2,y3,y4⟩⟩:=c4.out w0 o3.out
  have Z:=aj ((Below.refl w0.heap.size w0).alloc zr (.cells #[.slice av own.length cv,.slice dv more.length dw] 24))
  have b4:=aj (zl w0 (.cells #[.slice av own.length cv,.slice dv more.length dw] 24))
  obtain⟨⟨u0,u1⟩,-⟩:=bL b4.out
  generalize k7:w0.alloc (.cells #[.slice av own.length cv,.slice dv more.length dw] 24)=wr at Z b4 u0 u1
  have HC:=aj (c3.out w0.heap.size 2 wr Z.out u0 u1)
  clear c3
  go_enter func47,ntmps47
  go_wp2_with fail
  clear k3 k7 x0 x1 x2 x3 x4 y0 y1 y2 y3 y4 u0 u1
  refine HC.out.mono ?_
  rintro e w1 ⟨v1,rfl,e9,c6⟩
  have b5:=aj (ak Z.out c6)
  have f0:Hid (w0.heap.size<=wr.heap.size):=Z.out.size
  have f1:=aj (e5.out _ v1 w1 e9)
  clear c6 e9 HC Z b4 e5
  go_wp2_with fail
  refine f1.out.mono ?_
  rintro e w2 ⟨rfl,i8,f2⟩
  have f3:=aj f2
  clear i8 f2 f1
  go_wp2_with fail
  refine f3.out.mono ?_
  rintro e w3 ⟨aw,cw,rfl,c7,f5⟩
  have b0:=aj (b5.out.trans (f5 w0.heap.size f0.out b5.out.size))
  have d2:=aj (c7 w3 (λ_ _ _=>rfl))
  obtain⟨⟨x0,x1,x2,x3,x4⟩,⟨y0,y1,y2,y3,y4⟩⟩:=c4.out w3 b0.out
  have f6:=aj (U.out aw cw w3 b0.out d2.out)
  clear c7 f5 f3 U
  go_wp2_with fail
  clear x0 x1 x2 x3 x4 y0 y1 y2 y3 y4
  refine f6.out.mono ?_
  rintro e w4 ⟨e1,c8,c9,a6,rfl,-,b6⟩
  have b7:=aj (ak b0.out (b6.alloc b6.size (qM 0 0 e1 NA.length c8 c9 NA.length a6)))
  have hr:=o0.out _ b7.out
  obtain⟨⟨r0,r1,r2,r3,r4⟩,rf⟩:=aI hr
  have HR:=aj hr
  clear b6 hr f6
  go_wp2
  obtain⟨⟨i1,n3,i2⟩,i4⟩:=dK (v0:=.int .i64 0) (v1:=.int .i64 0) (v2:=.slice none 0 0) (v3:=.slice none 0 0) (v4:=.slice none 0 0) HR.out rfl
  obtain⟨⟨z0,z1,z2,z3,z4⟩,-⟩:=aI i1
  exact bodyPost_ret (v:=.tuple #[ptZ,.iface 45 (.int .i64 3)]) (by simp[results,results47,go_sem,z0,z1,z2,z3,z4]) rfl (Jq (i4 w w.heap.size (ak j9.out b7.out) (by omega)))
end Go.Proofs.YtceojneljnnooaaGreat
