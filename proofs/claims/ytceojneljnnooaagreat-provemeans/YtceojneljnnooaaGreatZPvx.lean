import Derived.Test.YtceojneljnnooaaGreatZPvq
import Derived.Test.YtceojneljnnooaaGreatPvw
open Go.Proofs.Tryz
namespace Go.Proofs.YtceojneljnnooaaGreat
open Go.RowKit
set_option maxHeartbeats 0
set_option maxRecDepth 100000
set_option linter.all false
variable{W:zW}{B:Nat}{a' av aw a:zO}{N:zL}{vs:zI}
def nP(B:Nat)(W W':zW):Prop:=Below 0 W W'/\ ∀k,k<W.heap.size->k≠B->W'.heap[k]? =W.heap[k]?
theorem nP.trans{a b c:zW}(h:nP B a b)(k:nP B b c):nP B a c:=⟨h.1.trans k.1,λi hi hx=>(k.2 i (Nat.lt_of_lt_of_le hi h.1.size) hx).trans (h.2 i hi hx)⟩
theorem nP.of_below{W':zW}(h:Below W.heap.size W W'):nP B W W':=⟨h.mono (Nat.zero_le _),λk z _=>h.block k z⟩
theorem nP.set{a:zW}(h:nP B a W){p:Addr}(z:p.block=B\/a.heap.size<=p.block)(u:Value):nP B a (W.setCell p u):=
 ⟨h.1.setCell (Nat.zero_le _) u,λk J hx=>by rw[Below.heap_setCell _ _ _ _ (λe=>by rcases z with z|z;exact hx (by rw[e,z]);omega)];exact h.2 k J hx⟩
theorem nP.alloc{a:zW}(h:nP B a W)(o:Obj):nP B a (W.alloc o):=
 ⟨h.1.alloc (Nat.zero_le _) o,λk z hx=>by rw[Below.heap_alloc _ _ _ (Nat.lt_of_lt_of_le z h.1.size)];exact h.2 k z hx⟩
theorem nP.below{W':zW}(h:nP B W W'){s:Nat}(hs:s<=W.heap.size)(J:s<=B):Below s W W':=⟨h.1.os,h.1.tape,h.1.output,h.1.size,λk z=>h.2 k (Nat.lt_of_lt_of_le z hs) (by omega)⟩
theorem tO.wide{X Y:List Nat}{s r:Nat}{E:zB}(h:tO X s W a N a' E av vs)(hr:r<=s)(J: ∀y∈Y,y∈X\/y<s):tO Y r W a N a' E av vs:=λW' z=>h W' λx h1 U h2=>z x (by omega) (λZ=>(J x Z).elim U (λh=>by omega)) h2
theorem tO.akE{s:Nat}{W2:zW}{E:zB}(h:tO [B] s W a N a' E av vs)(hb:nP B W W2):tO [B] s W2 a N a' E av vs:=h.on hb.1.size λx _ z h2=>hb.2 x h2 (by simpa using z)
theorem vg(b off k cap:Nat)(z:zW):(Instr.slice 22 (.slice (some ⟨b,off,none⟩) (k+1) cap) (some (.int .i64 1)) none none).run prog z=.ok (.slice (some ⟨b,if cap=1 then off else off+7,none⟩) k (cap-1)) z:=by obtain⟨i,hi,hz0,hz1,hz2⟩:=info_parts aeE;unfold Instr.slice Instr.sliceBounds Instr.sliceBound;simp only[Sem.run_bind,run_underlying underlying22,Result.andThen_ok,Sem.run_pure,asIntOf];simp[sizeOf,typeInfo,hi,hz1,Addr.add_lit];rw[yP (by omega)];split<;>rfl
theorem vk{w:zW}{b o:Nat}{k cap:Nat}{nd:Nd}{ns:List Nd}(h:SlF w (some ⟨b,o,none⟩) (k+1) (nd::ns))(hc:k+1<=cap):SlF w (some ⟨b,if cap=1 then o else o+7,none⟩) k ns:=by
 obtain⟨h1,h2,h3,h4⟩:=h;refine⟨by simpa using h1,by omega,λn z=>h3 n (by simp[z]),?_⟩;by_cases h0:k=0
 ·exact .inl h0
 ·refine .inr ⟨b,o+7,by rw[yN (by omega)],λi hi=>?_⟩
  rcases h4 with h4|⟨J,U,e,h4⟩
  ·omega
  ·cases e;obtain⟨a',c',z⟩:=h4 (i+1) (by omega);rw[show o+7+i*7=o+(i+1)*7 by omega];exact⟨a',c',by simpa using z⟩
def yJ(w0:zW)(W:zW)(B:Nat)(b:Int)(aw:zO)(m cw:Nat)(vs:zI)(p:Pv)(post:List Nd)(e:Ending)(W':zW):Prop:=
 ∃a ca a' iC av cv,e=.returned (.tuple #[wC (bK p.c b) (bK p.c (vs.length:Int)) a p.N.length ca a' p.N.length iC av (jY p.c vs).length cv,bC p.c])/\tO [B] W.heap.size W' a p.N a' p.E av (jY p.c vs)/\nP B W W'/\(p.c=0-> ∃z J,W'.heap[B]? =some (JK b z post.length J aw m cw)/\SlF w0 z post.length post/\post.length<=J)
theorem OQ: ∀{l:zI} {x:Int},l.Nodup->x∈l->l.eraseIdx (fq l x)=l.filter λv=>decide (v≠x):=by
 intro l x;induction l with
 |nil=>intro _ h;cases h
 |cons y l U=>
  intro z hx
  rw[List.nodup_cons]at z
  by_cases e:y=x
  ·subst e
   have h0:fq (y::l) y=0:=by unfold fq;rw[List.findIdx_cons];simp
   rw[h0,List.eraseIdx_cons_zero,List.filter_cons_of_neg (by simp)]
   exact(List.filter_eq_self.2 λv hv=>by have:v≠y:=λq=>z.1 (q▸hv);simp[this]).symm
  ·have J:x∈l:=by
    rcases List.mem_cons.1 hx with h|h
    ·exact absurd h.symm e
    ·exact h
   have h0:fq (y::l) x=fq l x+1:=by unfold fq;rw[List.findIdx_cons];have:(y==x)=false:=(by simpa using e);rw[this];rfl
   rw[h0,List.eraseIdx_cons_succ,U z.2 J,List.filter_cons_of_pos (by simpa using e)]
theorem rQ{w0:zW}{b:Int}{J oo k U:Nat}{m cw:Nat}{nd:Nd}{c':Nat}(hx:W.heap[B]? =some (JK b (some ⟨J,oo,none⟩) (k+1) U aw m cw))(hb:Below w0.heap.size w0 W)(hB:w0.heap.size<=B)(v:Value):
  let z:=((W.alloc gL).alloc (lK nd a' c')).setCell ⟨B,1,none⟩ v
  z.heap[B]? =some (.cells #[.int .i64 b,v,.slice aw m cw] 66)/\z.heap[W.heap.size]? =some gL/\z.heap[W.heap.size+1]? =some (lK nd a' c')/\nP B W z/\Below w0.heap.size w0 z/\z.heap.size=W.heap.size+2:=by
 intro z
 have hl:=(zG hx).1
 have e2:((W.alloc gL).alloc (lK nd a' c')).heap[B]? =some (JK b (some ⟨J,oo,none⟩) (k+1) U aw m cw):=by rw[Below.heap_alloc _ _ _ (by simp;omega),Below.heap_alloc _ _ _ hl];exact hx
 have Z: ∀x,x≠B->z.heap[x]? =((W.alloc gL).alloc (lK nd a' c')).heap[x]? :=λx h=>Below.heap_setCell _ _ _ _ h
 refine⟨?_,(Z _ (by omega)).trans (aP _ _ _),(Z _ (by omega)).trans (aQ _ _ _),((nP.of_below (bG W _ _))).set (.inl rfl) v,(ak hb (bG W _ _)).setCell hB v,by simp[z,World.setCell]⟩
 show(((W.alloc gL).alloc (lK nd a' c')).setCell ⟨B,1,none⟩ v).heap[B]? =_
 simp[World.setCell,Array.getElem?_modify,e2]
theorem yK{w0 W z U:zW}{B:Nat}{b:Int}{aw:zO}{m cw:Nat}{vs:zI}{p:Pv}{post:List Nd}{a:zO}{ca:Nat}{a':zO}{iC:Nat}{av:zO}{cv:Nat}{aL:zO}{Z:Nat}(h1:z.heap[B]? =some (JK b aL post.length Z aw m cw))(h2:z.heap[W.heap.size]? =some gL)(h4:nP B W z)(a1:B≠W.heap.size)(a2:SlF w0 aL post.length post)(a6:post.length<=Z)(hp:tO [B,W.heap.size] W.heap.size U a p.N a' p.E av (jY p.c vs))(hb:Below z.heap.size z U):
  yJ w0 W B b aw m cw vs p post (.returned (.tuple #[wC (bK p.c b) (bK p.c (vs.length:Int)) a p.N.length ca a' p.N.length iC av (jY p.c vs).length cv,bC p.c])) (((((U.setCell ⟨W.heap.size,0,none⟩ (.int .i64 (bK p.c b))).setCell ⟨W.heap.size,1,none⟩ (.int .i64 (bK p.c (vs.length:Int)))).setCell ⟨W.heap.size,2,none⟩ (.slice a p.N.length ca)).setCell ⟨W.heap.size,3,none⟩ (.slice a' p.N.length iC)).setCell ⟨W.heap.size,4,none⟩ (.slice av (jY p.c vs).length cv)):=by
 have hr:=(hb.block _ (zG h2).1).trans h2
 obtain⟨⟨a8,a7,J⟩,b0⟩:=dK (v0:=.int .i64 (bK p.c b)) (v1:=.int .i64 (bK p.c (vs.length:Int))) (v2:=.slice a p.N.length ca) (v3:=.slice a' p.N.length iC) (v4:=.slice av (jY p.c vs).length cv) hr rfl
 refine⟨a,ca,a',iC,av,cv,rfl,?_,?_,λ_=>⟨_,Z,?_,a2,a6⟩⟩
 ·refine(hp.on (by rw[a7];exact zr) (λx g1 g2 g3=>J x (λe=>g2 (by simp[e])))).less (λx hx=>?_)
  simp at hx
  simp[hx]
 ·exact((((((h4.trans (nP.of_below hb)).set (.inr zr) _).set (.inr zr) _).set (.inr zr) _).set (.inr zr) _).set (.inr zr) _)
 ·rw[J B a1,hb.block _ (zG h1).1]
  exact h1
theorem aeF(c6:Cj)(w0 W:zW)(B:Nat)(b:Int)(os:List Om)(aL:zO)(U:Nat)(aw:zO)(m cw:Nat)(nd:Nd)(post:List Nd)(hx:W.heap[B]? =some (JK b aL (post.length+1) U aw m cw))(hs:SlF w0 aL (post.length+1) (nd::post))(hc:post.length+1<=U)(hb:Below w0.heap.size w0 W)(hB:w0.heap.size<=B)(hl:nd.op=1\/nd.op=2)(b4:qo nd=0)(b5:Gz (eX b os nd)):
  Calls prog 26 #[.pointer (some ⟨B,0,none⟩)] W (yJ w0 W B b aw m cw (aT (.gH nd)) (eX b os nd) post):=by
 have b6:Hid (B<W.heap.size):=(zG hx).1
 have c8:(nd.op==1)=true\/((nd.op==1)=false/\(nd.op==2)=true):=by
  by_cases e:nd.op=1
  ·exact .inl (by simp[e])
  ·exact .inr ⟨by simp[e],by simp;omega⟩
 obtain⟨bb,oo,a',c',rfl,a2⟩:=jB hs 0 (by omega)
 rw[Nat.zero_mul,Nat.add_zero,show(nd::post).getD 0 oL=nd from rfl]at a2
 have x7:=a2.2.2.2.2.2.2.2
 obtain⟨x0,x1,x2,x3,x4,x5,x6,-⟩:=qG a2 hb
 have a8:=vg bb oo post.length U
 obtain⟨f1,f2,f3,f4,f5,f6⟩:=rQ (nd:=nd) (a':=a') (c':=c') hx hb hB (.slice (some ⟨bb,if U=1 then oo else oo+7,none⟩) post.length (U-1))
 have b0:=aj (vk hs hc)
 have b7:Hid (post.length<=U-1):=by show _<=_;omega
 have b8:=(zG hx).1
 have z: ∀{pp:Addr} {vv:Value},W.cell? pp=some vv-> ∀o,(W.alloc o).cell? pp=some vv:=λh o=>by rw[World.cell?_alloc_lt W o _ (zk W _ h)];exact h
 have y0:=z x0
 have y1:=z x1
 have y2:=z x2
 have y3:=z x3
 have y4:=z x4
 have y5:=z x5
 have y6:=z x6
 obtain⟨⟨p0,p1,p2⟩,pf⟩:=aJ hx
 have y7:=z p0
 have y8:=z p1
 have y9:=z p2
 have Z: ∀o o2,((W.alloc o).alloc o2).heap[B]? =some (JK b (some ⟨bb,oo,none⟩) (post.length+1) U aw m cw):=λo o2=>by rw[Below.heap_alloc _ _ _ (by simp;omega),Below.heap_alloc _ _ _ b8];exact hx
 have u0:=λo o2=>(aJ (Z o o2)).1.1
 have u1:=λo o2=>(aJ (Z o o2)).1.2.1
 have u2:=λo o2=>(aJ (Z o o2)).1.2.2
 have uf:=λo o2=>(aJ (Z o o2)).2
 generalize(if U=1 then oo else oo+7)=o7 at a8 f1 f2 f3 f4 f5 f6 b0
 generalize c9:U-1=c7 at a8 f1 f2 f3 f4 f5 f6 b0 b7
 have b1:=aj f1
 have J:=aj f2
 have b9:=aj f3
 have c0:=aj f4
 have c3:=aj f5
 have b2:=aj f6
 have d0:=aj x7
 have d2:Hid (Below w0.heap.size w0 W):=hb
 have d3:Hid (w0.heap.size<=B):=hB
 clear f1 f2 f3 f4 f5 f6 hx hs hc hb hB b8 z Z x7 c9 a2
 have a6:=aj (λW3 (g1:W3.heap[B]? =some (JK b (some ⟨bb,o7,none⟩) post.length c7 aw m cw)) g2 g3 g4=>adR c6 [B,W.heap.size] W.heap.size B b os (some ⟨bb,o7,none⟩) post.length c7 aw m cw nd a' c' W3 g1 g2 g3 g4 hl b4 b5)
 generalize hq:eX b os nd=q at a6⊢
 unfold nD Bu at a6
 clear hl b4 b5 hq
 go_enter func26,ntmps26
 go_upto_region 3 with fail
 clear x0 x1 x2 x3 x4 x5 x6 y0 y1 y2 y3 y4 y5 y6 y7 y8 y9 a8 u0 u1 u2 uf p0 p1 p2 pf
 generalize(((W.alloc gL).alloc (lK nd a' c')).setCell ⟨B,1,none⟩ (.slice (some ⟨bb,o7,none⟩) post.length c7))=w3 at b1 J b9 c0 c3 b2⊢
 obtain⟨⟨z0,z1,z2,z3,z4,z5,z6⟩,-⟩:=bU b9.out
 have c4:=aj (a6.out w3 b1.out (aF d0.out c3.out) (by have:=b2.out;omega) (λx hx=>by have h1:=b2.out;have h2:=b6.out;simp at hx;omega))
 clear a6
 rcases c8 with e1|⟨e1,e2⟩
 all_goals
  go_wp2_with fail
  clear z0 z1 z2 z3 z4 z5 z6
  refine c4.out.mono ?_
  rintro e w4 ⟨a,ca,a1,iC,av,cv,rfl,hp,a7⟩
  have d1:=aj (yK (ca:=ca) (iC:=iC) (cv:=cv) b1.out J.out c0.out (by have:=b6.out;omega) b0.out b7.out hp a7)
  obtain⟨⟨r0,r1,r2,r3,r4⟩,rf⟩:=aI ((a7.block _ (zG J.out).1).trans J.out)
  obtain⟨⟨b3,-,-⟩,-⟩:=dK (v0:=.int .i64 (bK q.c b)) (v1:=.int .i64 (bK q.c ((aT (.gH nd)).length:Int))) (v2:=.slice a q.N.length ca) (v3:=.slice a1 q.N.length iC) (v4:=.slice av (jY q.c (aT (.gH nd))).length cv) ((a7.block _ (zG J.out).1).trans J.out) rfl
  have c5:=aj b3
  clear hp a7 b3 c4
  go_wp2
  obtain⟨⟨z0,z1,z2,z3,z4⟩,-⟩:=aI c5.out
  exact bodyPost_ret (v:=.tuple #[wC (bK q.c b) (bK q.c ((aT (.gH nd)).length:Int)) a q.N.length ca a1 q.N.length iC av (jY q.c (aT (.gH nd))).length cv,bC q.c]) (by simp[results,results26,go_sem,z0,z1,z2,z3,z4]) rfl d1.out
theorem aaz(c8:Da)(c9:zQ)(w0 W:zW)(B:Nat)(b:Int)(os:List Om)(aL:zO)(U:Nat)(aw:zO)(m cw:Nat)(nd:Nd)(post:List Nd)(hx:W.heap[B]? =some (JK b aL (post.length+1) U aw m cw))(hs:SlF w0 aL (post.length+1) (nd::post))(hc:post.length+1<=U)(hb:Below w0.heap.size w0 W)(hB:w0.heap.size<=B)(ho:SlO w0 aw m os)(hl:nd.op=4)(b4:qo nd=0)(b5:(nd.wd.toNat<m/\(os.getD nd.wd.toNat dh).b=b)/\nd.wd2.toNat<m/\(os.getD nd.wd2.toNat dh).b=b)(b6:Gz (eX b os nd)):
  Calls prog 26 #[.pointer (some ⟨B,0,none⟩)] W (yJ w0 W B b aw m cw (aT (.gH nd)) (eX b os nd) post):=by
 have b7:Hid (B<W.heap.size):=(zG hx).1
 have e1:(nd.op==1)=false:=by simp;omega
 have e2:(nd.op==2)=false:=by simp;omega
 have e3:(nd.op==3)=false:=by simp;omega
 have e4:(nd.op==4)=true:=by simp[hl]
 obtain⟨bb,oo,a',c',rfl,a2⟩:=jB hs 0 (by omega)
 rw[Nat.zero_mul,Nat.add_zero,show(nd::post).getD 0 oL=nd from rfl]at a2
 have x7:=a2.2.2.2.2.2.2.2
 obtain⟨x0,x1,x2,x3,x4,x5,x6,-⟩:=qG a2 hb
 have a8:=vg bb oo post.length U
 obtain⟨f1,f2,f3,f4,f5,f6⟩:=rQ (nd:=nd) (a':=a') (c':=c') hx hb hB (.slice (some ⟨bb,if U=1 then oo else oo+7,none⟩) post.length (U-1))
 have b0:=aj (vk hs hc)
 have b8:Hid (post.length<=U-1):=by show _<=_;omega
 have b9:=(zG hx).1
 have z: ∀{pp:Addr} {vv:Value},W.cell? pp=some vv-> ∀o,(W.alloc o).cell? pp=some vv:=λh o=>by rw[World.cell?_alloc_lt W o _ (zk W _ h)];exact h
 have y0:=z x0
 have y1:=z x1
 have y2:=z x2
 have y3:=z x3
 have y4:=z x4
 have y5:=z x5
 have y6:=z x6
 obtain⟨⟨p0,p1,p2⟩,pf⟩:=aJ hx
 have y7:=z p0
 have y8:=z p1
 have y9:=z p2
 have Z: ∀o o2,((W.alloc o).alloc o2).heap[B]? =some (JK b (some ⟨bb,oo,none⟩) (post.length+1) U aw m cw):=λo o2=>by rw[Below.heap_alloc _ _ _ (by simp;omega),Below.heap_alloc _ _ _ b9];exact hx
 have u0:=λo o2=>(aJ (Z o o2)).1.1
 have u1:=λo o2=>(aJ (Z o o2)).1.2.1
 have u2:=λo o2=>(aJ (Z o o2)).1.2.2
 have uf:=λo o2=>(aJ (Z o o2)).2
 generalize(if U=1 then oo else oo+7)=o7 at a8 f1 f2 f3 f4 f5 f6 b0
 generalize d0:U-1=c7 at a8 f1 f2 f3 f4 f5 f6 b0 b8
 have b1:=aj f1
 have J:=aj f2
 have c0:=aj f3
 have c3:=aj f4
 have c4:=aj f5
 have b2:=aj f6
 have d2:=aj x7
 have d3:Hid (Below w0.heap.size w0 W):=hb
 have d4:Hid (w0.heap.size<=B):=hB
 clear f1 f2 f3 f4 f5 f6 hx hs hc hb hB b9 z Z x7 d0 a2
 have a6:=aj (λW3 (g1:W3.heap[B]? =some (JK b (some ⟨bb,o7,none⟩) post.length c7 aw m cw)) (g2:SlO W3 aw m os) g3 g4=>aaj c8 c9 [B,W.heap.size] W.heap.size B b os (some ⟨bb,o7,none⟩) post.length c7 aw m cw nd a' c' W3 g1 g2 g3 g4 hl b4 b5 b6)
 have HO:=aj ho
 generalize hq:eX b os nd=q at a6⊢
 unfold nD Bu at a6
 clear hl b4 b6 hq b5 ho
 go_enter func26,ntmps26
 go_upto_region 3 with fail
 clear x0 x1 x2 x3 x4 x5 x6 y0 y1 y2 y3 y4 y5 y6 y7 y8 y9 a8 u0 u1 u2 uf p0 p1 p2 pf
 generalize(((W.alloc gL).alloc (lK nd a' c')).setCell ⟨B,1,none⟩ (.slice (some ⟨bb,o7,none⟩) post.length c7))=w3 at b1 J c0 c3 c4 b2⊢
 obtain⟨⟨z0,z1,z2,z3,z4,z5,z6⟩,-⟩:=bU c0.out
 have c5:=aj (a6.out w3 b1.out (gK HO.out c4.out) (by have:=b2.out;omega) (λx hx=>by have h1:=b2.out;have h2:=b7.out;simp at hx;omega))
 clear a6
 go_wp2_with fail
 clear z0 z1 z2 z3 z4 z5 z6
 refine c5.out.mono ?_
 rintro e w4 ⟨a,ca,a1,iC,av,cv,rfl,hp,a7⟩
 have d1:=aj (yK (ca:=ca) (iC:=iC) (cv:=cv) b1.out J.out c3.out (by have:=b7.out;omega) b0.out b8.out hp a7)
 obtain⟨⟨r0,r1,r2,r3,r4⟩,rf⟩:=aI ((a7.block _ (zG J.out).1).trans J.out)
 obtain⟨⟨b3,-,-⟩,-⟩:=dK (v0:=.int .i64 (bK q.c b)) (v1:=.int .i64 (bK q.c ((aT (.gH nd)).length:Int))) (v2:=.slice a q.N.length ca) (v3:=.slice a1 q.N.length iC) (v4:=.slice av (jY q.c (aT (.gH nd))).length cv) ((a7.block _ (zG J.out).1).trans J.out) rfl
 have c6:=aj b3
 clear hp a7 b3 c5
 go_wp2
 obtain⟨⟨z0,z1,z2,z3,z4⟩,-⟩:=aI c6.out
 exact bodyPost_ret (v:=.tuple #[wC (bK q.c b) (bK q.c ((aT (.gH nd)).length:Int)) a q.N.length ca a1 q.N.length iC av (jY q.c (aT (.gH nd))).length cv,bC q.c]) (by simp[results,results26,go_sem,z0,z1,z2,z3,z4]) rfl d1.out
theorem OU{w0 z:zW}{b:Int}{m cw:Nat}{post:List Nd}(h4:nP B W z):
  yJ w0 W B b aw m cw vs (nO 3) post (.returned (.tuple #[ptZ,.iface 45 (.int .i64 3)])) (((((z.setCell ⟨W.heap.size,0,none⟩ (.int .i64 0)).setCell ⟨W.heap.size,1,none⟩ (.int .i64 0)).setCell ⟨W.heap.size,2,none⟩ (.slice none 0 0)).setCell ⟨W.heap.size,3,none⟩ (.slice none 0 0)).setCell ⟨W.heap.size,4,none⟩ (.slice none 0 0)):=
 ⟨none,0,none,0,none,0,rfl,GA _ _ _,((((h4.set (.inr zr) _).set (.inr zr) _).set (.inr zr) _).set (.inr zr) _).set (.inr zr) _,λh=>absurd h (by decide)⟩
def rR(w0:zW)(B:Nat)(b:Int)(os:List Om)(aw:zO)(m cw:Nat)(t:Fm):Prop:= ∀(post:List Nd) (W:zW) (z:zO) (J:Nat),W.heap[B]? =some (JK b z (t.flat++post).length J aw m cw)->SlF w0 z (t.flat++post).length (t.flat++post)->(t.flat++post).length<=J->Below w0.heap.size w0 W->Calls prog 26 #[.pointer (some ⟨B,0,none⟩)] W (yJ w0 W B b aw m cw (aT t) (lN b os t) post)
theorem aho(j7:yc)(j8:yC)(w0:zW)(B:Nat)(b:Int)(os:List Om)(aw:zO)(m cw:Nat)(nd:Nd)(f:Fm)(hB:w0.heap.size<=B)(f8:qo nd=0)(d4:nd.op=5\/nd.op=8\/nd.op=9)(b9:mZ b (aT f).length (lN b os f))(d2:Gz (lN b os f))(hf:rR w0 B b os aw m cw f):rR w0 B b os aw m cw (.un nd f):=by
 intro b4 W aL cL hx hs hc hb;obtain⟨post,b8⟩: ∃p,p=f.flat++b4:=⟨_,rfl⟩;have j9:(Fm.un nd f).flat++b4=nd::post:=by rw[b8];rfl
 rw[j9]at hx hs hc;rw[List.length_cons]at hx hs hc;have f9:Hid (B<W.heap.size):=(zG hx).1;have e1:(nd.op==1)=false:=by simp;omega
 have e2:(nd.op==2)=false:=by simp;omega
 have e3:(nd.op==3)=false:=by simp;omega
 have e4:(nd.op==4)=false:=by simp;omega
 have g5:=aj (λW3 a3 c3 (g1:W3.heap[B]? =some (JK b a3 post.length c3 aw m cw)) (g2:SlF w0 a3 post.length post) (g3:post.length<=c3) (g4:Below w0.heap.size w0 W3)=>hf b4 W3 a3 c3 (by rw[<-b8];exact g1) (by rw[<-b8];exact g2) (by rw[<-b8];exact g3) g4);unfold yJ at g5;have hv:=(dH f8).1.2.1
 have hM:(lN b os f).c=0->aU b ((aT (.un nd f)).length:Int)=0:=λh0=>by
  have h1:=(bS (b9 h0).auto).1;refine UA h1 ?_;rcases d4 with h|h|h
  ·rw[Gy h];exact zr
  ·rw[qH (.inl h)];exact List.length_filter_le _ _
  ·rw[qH (.inr h)];exact List.length_filter_le _ _
 have i1:lN b os (.un nd f)=if aU b ((aT (.un nd f)).length:Int)=0 then gI (lN b os f) (Ck b nd f)else nO 3:=rfl
 have d6:(lN b os f).c≠0->lN b os (.un nd f)=nO 3:=λh=>by
  rw[i1];split
  ·unfold gI;rw[yN h,qd d2 h];rfl
  ·rfl
 have d7:(lN b os f).c=0->lN b os (.un nd f)=Ck b nd f (lN b os f):=λh=>by have hm:=hM h;rw[i1,yP hm];unfold gI;rw[yP h]
 clear i1;have h5:=qL f;have c6:=fK f nd.var;have d5:=AQ f;generalize n0:lN b os (.un nd f)=z at d6 d7⊢;obtain⟨p,hp⟩: ∃p,p=lN b os f:=⟨_,rfl⟩;rw[<-hp]at b9 d2 d6 d7 g5;clear hf hM hp n0 j9 b8;obtain⟨bb,oo,a',c',rfl,g6⟩:=jB hs 0 (by omega);rw[Nat.zero_mul,Nat.add_zero,show(nd::post).getD 0 oL=nd from rfl]at g6;have x7:=g6.2.2.2.2.2.2.2;obtain⟨x0,x1,x2,x3,x4,x5,x6,-⟩:=qG g6 hb;have i2:=vg bb oo post.length cL;obtain⟨f1,f2,f3,f4,f5,f6⟩:=rQ (nd:=nd) (a':=a') (c':=c') hx hb hB (.slice (some ⟨bb,if cL=1 then oo else oo+7,none⟩) post.length (cL-1));have i4:=aj (vk hs hc);have k0:Hid (post.length<=cL-1):=by show _<=_;omega
 have k3:=(zG hx).1;have b1: ∀{pp:Addr} {vv:Value},W.cell? pp=some vv-> ∀o,(W.alloc o).cell? pp=some vv:=λh o=>by rw[World.cell?_alloc_lt W o _ (zk W _ h)];exact h
 have y0:=b1 x0;have y1:=b1 x1;have y2:=b1 x2;have y3:=b1 x3;have y4:=b1 x4;have y5:=b1 x5;have y6:=b1 x6;obtain⟨⟨p0,p1,p2⟩,pf⟩:=aJ hx;have y7:=b1 p0;have y8:=b1 p1;have y9:=b1 p2;have d8: ∀o o2,((W.alloc o).alloc o2).heap[B]? =some (JK b (some ⟨bb,oo,none⟩) (post.length+1) cL aw m cw):=λo o2=>by rw[Below.heap_alloc _ _ _ (by simp;omega),Below.heap_alloc _ _ _ k3];exact hx
 have u0:=λo o2=>(aJ (d8 o o2)).1.1;have u1:=λo o2=>(aJ (d8 o o2)).1.2.1;have u2:=λo o2=>(aJ (d8 o o2)).1.2.2;have uf:=λo o2=>(aJ (d8 o o2)).2;generalize(if cL=1 then oo else oo+7)=o7 at i2 f1 f2 f3 f4 f5 f6 i4;generalize n2:cL-1=c7 at i2 f1 f2 f3 f4 f5 f6 i4 k0;have k4:=aj f1;have i5:=aj f2;have g7:=aj f3;have k5:=aj f4;have k6:=aj f5;have g8:=aj f6;have o3:=aj x7;have o4:Hid (Below w0.heap.size w0 W):=hb;have o5:Hid (w0.heap.size<=B):=hB;clear f1 f2 f3 f4 f5 f6 hx hs hc hb hB k3 b1 d8 x7 n2 g6;go_enter func26,ntmps26;go_upto_region 3 with fail;clear x0 x1 x2 x3 x4 x5 x6 y0 y1 y2 y3 y4 y5 y6 y7 y8 y9 i2 u0 u1 u2 uf p0 p1 p2 pf;generalize(((W.alloc gL).alloc (lK nd a' c')).setCell ⟨B,1,none⟩ (.slice (some ⟨bb,o7,none⟩) post.length c7))=w3 at k4 i5 g7 k5 k6 g8⊢;obtain⟨⟨z0,z1,z2,z3,z4,z5,z6⟩,-⟩:=bU g7.out;have k7:=aj (g5.out w3 (some ⟨bb,o7,none⟩) c7 k4.out i4.out k0.out k6.out);clear g5;go_wp2_with fail;clear z0 z1 z2 z3 z4 z5 z6;refine k7.out.mono ?_;rintro e w4 ⟨a,ca,a1,iC,av,cv,rfl,k8,d0,f0⟩;have k9:=(zG i5.out).1;have l1:=(d0.2 _ k9 (by have:=f9.out;omega)).trans i5.out;have l3:=(d0.2 _ (zG g7.out).1 (by have:=f9.out;omega)).trans g7.out;have d9:=aj l1;have i6:=aj l3;have e0:=aj k8;have i7:=aj d0;have f7:=aj (k5.out.trans d0);clear k9 l1 l3 k8 d0 k7;by_cases h0:p.c=0
 ·obtain⟨n3,n4,q1,q2,q3⟩:=f0 h0
  have i8:=aj q1;have n5:=aj q2;have n6:=aj q3;have hz:=d7 h0;clear f0 q1 q2 q3 d6 d7;unfold jY at e0⊢;unfold bK;rw[h0,dz rfl,yP rfl,yP rfl,yP rfl];rw[h0,yP rfl]at e0;have d3:=(Below.refl w4.heap.size w4).alloc zr (mg b ((aT f).length:Int) a p.N.length ca a1 p.N.length iC av (aT f).length cv);have i9:=aj (zl w4 (mg b ((aT f).length:Int) a p.N.length ca a1 p.N.length iC av (aT f).length cv));have b2:=aj d3;generalize j0:w4.alloc (mg b ((aT f).length:Int) a p.N.length ca a1 p.N.length iC av (aT f).length cv)=w5 at i9 b2
  have e6:Hid (tO [B,W.heap.size] W.heap.size w5 a p.N a1 p.E av (aT f)):=(e0.out.below b2.out).wide (by have:=g8.out;omega) (λy hy=>by
   have:=g8.out;simp at hy;rcases hy with rfl|rfl
   ·exact .inl (by simp)
   ·exact .inr (by omega))
  have n7:=aj ((b2.out.block _ (zG i8.out).1).trans i8.out);have j1:=aj ((b2.out.block _ (zG d9.out).1).trans d9.out);have l9:=aj (f7.out.trans (nP.of_below b2.out));have l4:=(b2.out.block _ (zG i6.out).1).trans i6.out;obtain⟨⟨z0,z1,z2,z3,z4,z5,z6⟩,-⟩:=bU l4;obtain⟨⟨t0,t1,t2,t3,t4⟩,-⟩:=aI i9.out;have j2:=aj (λvs q w6 a6 a2 a7 J a8 b0=>@yK w0 W w5 w6 B b aw m cw vs q b4 a6 a2 a7 J a8 b0 n3 n4 n7.out j1.out l9.out (by have:=f9.out;omega) n5.out n6.out);have b5:Hid (W.heap.size<=w5.heap.size/\ ∀x∈[B,W.heap.size],x<w5.heap.size):=by have h1:=g8.out;have h2:=i7.out.1.size;have h3:=b2.out.size;have h4:=f9.out;refine⟨by omega,λx hx=>?_⟩;simp at hx;omega
  clear l4 d3 e0 b2 i6 d9 i8 f7 i7;have c4:Hid (∀(vs:zI) (q:Pv),aT (.un nd f)=vs->z=q-> ∀e w6,nD [B,W.heap.size] W.heap.size w5 b vs q e w6-> ∃a ca a' iC av cv,e=.returned (.tuple #[wC (bK q.c b) (bK q.c (vs.length:Int)) a q.N.length ca a' q.N.length iC av (jY q.c vs).length cv,bC q.c])/\w6.heap[W.heap.size]? =some gL/\yJ w0 W B b aw m cw (aT (.un nd f)) z b4 (.returned (.tuple #[wC (bK q.c b) (bK q.c (vs.length:Int)) a q.N.length ca a' q.N.length iC av (jY q.c vs).length cv,bC q.c])) (((((w6.setCell ⟨W.heap.size,0,none⟩ (.int .i64 (bK q.c b))).setCell ⟨W.heap.size,1,none⟩ (.int .i64 (bK q.c (vs.length:Int)))).setCell ⟨W.heap.size,2,none⟩ (.slice a q.N.length ca)).setCell ⟨W.heap.size,3,none⟩ (.slice a' q.N.length iC)).setCell ⟨W.heap.size,4,none⟩ (.slice av (jY q.c vs).length cv))):=λvs q n8 n9 e w6 b6=>by obtain⟨a6,a2,a7,J,a8,b0,rfl,o0,l5⟩:=b6;refine⟨a6,a2,a7,J,a8,b0,rfl,(l5.block _ (zG j1.out).1).trans j1.out,?_⟩;rw[n8,n9];exact j2.out vs q w6 a6 a2 a7 J a8 b0 o0 l5
  clear j2;by_cases c5:nd.op=5
  ·have e5:(nd.op==5)=true:=by simp[c5]
   have HC:=aj (Ej j7 [B,W.heap.size] W.heap.size b (aT f) p a ca a1 iC av cv w5 e6.out b5.out.1 b5.out.2 b9 h0);have c0:=aj (c4.out (aT f) (gX b ((aT f).length:Int) p) (Gy c5) (by rw[hz];unfold Ck;rw[yP c5]));generalize gX b ((aT f).length:Int) p=q at HC c0;clear hz c4 b9 d2 c6 d5 h5 hv f8 d4 c5 h0;go_wp2_with fail;clear j0 z0 z1 z2 z3 z4 z5 z6 t0 t1 t2 t3 t4;refine HC.out.mono ?_;rintro e w6 b6;obtain⟨a6,a2,a7,J,a8,b0,rfl,b3,U⟩:=c0.out e w6 b6;obtain⟨⟨r0,r1,r2,r3,r4⟩,rf⟩:=aI b3;obtain⟨⟨Z,-,-⟩,-⟩:=dK (v0:=.int .i64 (bK q.c b)) (v1:=.int .i64 (bK q.c ((aT f).length:Int))) (v2:=.slice a6 q.N.length a2) (v3:=.slice a7 q.N.length J) (v4:=.slice a8 (jY q.c (aT f)).length b0) b3 rfl;have b7:=aj Z;have d1:=aj U;clear Z U b6 c0 HC b3;go_wp2;obtain⟨⟨z0,z1,z2,z3,z4⟩,-⟩:=aI b7.out;exact bodyPost_ret (v:=.tuple #[wC (bK q.c b) (bK q.c ((aT f).length:Int)) a6 q.N.length a2 a7 q.N.length J a8 (jY q.c (aT f)).length b0,bC q.c]) (by simp[results,results26,go_sem,z0,z1,z2,z3,z4]) rfl d1.out
  ·have e5:(nd.op==5)=false:=by simp;omega
   have g9:nd.op=8\/nd.op=9:=(by omega);have l6:=hv (by rcases g9 with h|h;exact .inr (.inr (.inl h));exact .inr (.inr (.inr h)));have j3:=qH (f:=f) g9;have e8:(nd.op==8)=decide (nd.op=8):=rfl;have e9:(nd.op==9)=decide (nd.op=9):=rfl
   obtain⟨vs,q,l7,l8,j4,j5⟩: ∃vs q,aT (.un nd f)=vs/\z=q/\Hid (nd.op=8->Calls prog 45 #[wC b ((aT f).length:Int) a p.N.length ca a1 p.N.length iC av (aT f).length cv,.int .i64 nd.var] w5 (nD [B,W.heap.size] W.heap.size w5 b vs q))/\Hid (nd.op=9->Calls prog 46 #[wC b ((aT f).length:Int) a p.N.length ca a1 p.N.length iC av (aT f).length cv,.int .i64 nd.var] w5 (nD [B,W.heap.size] W.heap.size w5 b vs q)):=by
    by_cases e7:f.jd nd.var=true
    ·have hm:nd.var∈aT f:=c6.2 ⟨l6,e7⟩
     refine⟨(aT f).eraseIdx (fq (aT f) nd.var),Ck b nd f p,by rw[OQ d5 hm];exact j3,hz,λc8=>?_,λc9=>?_⟩
     ·have:=MC j8 [B,W.heap.size] W.heap.size b (aT f) p a ca a1 iC av cv nd.var w5 e6.out b5.out.1 b5.out.2 b9 h0 h5 hm;unfold Ck;rw[yN c5,yP e7,yN (by omega)];exact this
     ·have:=adQ j7 j8 [B,W.heap.size] W.heap.size b (aT f) p a ca a1 iC av cv nd.var w5 e6.out b5.out.1 b5.out.2 b9 h0 h5 hm;unfold Ck;rw[yN c5,yP e7,yP c9];exact this
    ·have hm: ¬nd.var∈aT f:=λh=>e7 (c6.1 h).2
     refine⟨aT f,p,by rw[j3,uS hm],by rw[hz];unfold Ck;rw[yN c5,yN e7],λc8=>?_,λc9=>?_⟩
     ·exact adP [B,W.heap.size] W.heap.size b (aT f) p a ca a1 iC av cv nd.var w5 e6.out b5.out.1 b5.out.2 h0 hm
     ·exact agY [B,W.heap.size] W.heap.size b (aT f) p a ca a1 iC av cv nd.var w5 e6.out b5.out.1 b5.out.2 h0 hm
   have c0:=aj (c4.out vs q l7 l8);clear hz c4 b9 d2 c6 d5 h5 hv f8 d4 c5 h0 j3 l6 l7 l8;by_cases c8:nd.op=8
   ·have HC:=aj (j4.out c8);rw[yT c8]at e8;clear j4 j5 g9 c8 e9;go_wp2_with fail;clear j0 z0 z1 z2 z3 z4 z5 z6 t0 t1 t2 t3 t4;refine HC.out.mono ?_;rintro e w6 b6;obtain⟨a6,a2,a7,J,a8,b0,rfl,b3,U⟩:=c0.out e w6 b6;obtain⟨⟨r0,r1,r2,r3,r4⟩,rf⟩:=aI b3;obtain⟨⟨Z,-,-⟩,-⟩:=dK (v0:=.int .i64 (bK q.c b)) (v1:=.int .i64 (bK q.c (vs.length:Int))) (v2:=.slice a6 q.N.length a2) (v3:=.slice a7 q.N.length J) (v4:=.slice a8 (jY q.c vs).length b0) b3 rfl;have b7:=aj Z;have d1:=aj U;clear Z U b6 c0 HC b3;go_wp2;obtain⟨⟨z0,z1,z2,z3,z4⟩,-⟩:=aI b7.out;exact bodyPost_ret (v:=.tuple #[wC (bK q.c b) (bK q.c (vs.length:Int)) a6 q.N.length a2 a7 q.N.length J a8 (jY q.c vs).length b0,bC q.c]) (by simp[results,results26,go_sem,z0,z1,z2,z3,z4]) rfl d1.out
   ·have c9:nd.op=9:=by omega
    have HC:=aj (j5.out c9);rw[yF c8]at e8;rw[yT c9]at e9;clear j4 j5 g9 c8 c9;go_wp2_with fail;clear j0 z0 z1 z2 z3 z4 z5 z6 t0 t1 t2 t3 t4;refine HC.out.mono ?_;rintro e w6 b6;obtain⟨a6,a2,a7,J,a8,b0,rfl,b3,U⟩:=c0.out e w6 b6;obtain⟨⟨r0,r1,r2,r3,r4⟩,rf⟩:=aI b3;obtain⟨⟨Z,-,-⟩,-⟩:=dK (v0:=.int .i64 (bK q.c b)) (v1:=.int .i64 (bK q.c (vs.length:Int))) (v2:=.slice a6 q.N.length a2) (v3:=.slice a7 q.N.length J) (v4:=.slice a8 (jY q.c vs).length b0) b3 rfl;have b7:=aj Z;have d1:=aj U;clear Z U b6 c0 HC b3;go_wp2;obtain⟨⟨z0,z1,z2,z3,z4⟩,-⟩:=aI b7.out;exact bodyPost_ret (v:=.tuple #[wC (bK q.c b) (bK q.c (vs.length:Int)) a6 q.N.length a2 a7 q.N.length J a8 (jY q.c vs).length b0,bC q.c]) (by simp[results,results26,go_sem,z0,z1,z2,z3,z4]) rfl d1.out
 ·have hz:=d6 h0
  have e:p.c=3:=by rw[qd d2 h0];rfl
  rw[e,dx (show(3:Int)≠0 by decide)];have d3:=(Below.refl w4.heap.size w4).alloc zr (mg (bK 3 b) (bK 3 ((aT f).length:Int)) a p.N.length ca a1 p.N.length iC av (jY 3 (aT f)).length cv);have j6:=(d3.block _ (zG d9.out).1).trans d9.out;have U:=OU (b:=b) (w0:=w0) (aw:=aw) (m:=m) (cw:=cw) (vs:=aT (.un nd f)) (post:=b4) (f7.out.trans (nP.of_below d3));rw[<-hz]at U;have d1:=aj U;obtain⟨⟨r0,r1,r2,r3,r4⟩,rf⟩:=aI j6;obtain⟨⟨Z,-,-⟩,-⟩:=dK (v0:=.int .i64 0) (v1:=.int .i64 0) (v2:=.slice none 0 0) (v3:=.slice none 0 0) (v4:=.slice none 0 0) j6 rfl;have b7:=aj Z;clear U Z j6 d3 hz e h0 d6 d7 b9 d2 f0 e0 c6 d5 h5 hv f8 d4;go_wp2;obtain⟨⟨z0,z1,z2,z3,z4⟩,-⟩:=aI b7.out;exact bodyPost_ret (v:=.tuple #[ptZ,.iface 45 (.int .i64 3)]) (by simp[results,results26,go_sem,z0,z1,z2,z3,z4]) rfl d1.out
theorem aeG(q0:CU)(q4:Gu)(w0:zW)(B:Nat)(b:Int)(os:List Om)(aw:zO)(m cw:Nat)(nd:Nd)(f g:Fm)(hB:w0.heap.size<=B)(n0:1<=b/\b<=6)(d7:nd.op=6\/nd.op=7)(f0:mZ b (aT f).length (lN b os f))(d8:Gz (lN b os f))(c5:mZ b (aT g).length (lN b os g))(c0:Gz (lN b os g))(hf:rR w0 B b os aw m cw f)(hg:rR w0 B b os aw m cw g):rR w0 B b os aw m cw (.bin nd f g):=by
 intro a8 W aL cL hx hs hc hb;obtain⟨c4,b4⟩: ∃p,p=g.flat++a8:=⟨_,rfl⟩;obtain⟨post,b5⟩: ∃p,p=f.flat++c4:=⟨_,rfl⟩;have n2:(Fm.bin nd f g).flat++a8=nd::post:=by rw[b5,b4];simp[Fm.flat]
 rw[n2]at hx hs hc;rw[List.length_cons]at hx hs hc;have c8:Hid (B<W.heap.size):=(zG hx).1;have e1:(nd.op==1)=false:=by simp;omega
 have e2:(nd.op==2)=false:=by simp;omega
 have e3:(nd.op==3)=false:=by simp;omega
 have e4:(nd.op==4)=false:=by simp;omega
 have e5:(nd.op==5)=false:=by simp;omega
 have e8:(nd.op==8)=false:=by simp;omega
 have e9:(nd.op==9)=false:=by simp;omega
 have j1:=aj (λW3 a3 c3 (g1:W3.heap[B]? =some (JK b a3 post.length c3 aw m cw)) (g2:SlF w0 a3 post.length post) (g3:post.length<=c3) (g4:Below w0.heap.size w0 W3)=>hf c4 W3 a3 c3 (by rw[<-b5];exact g1) (by rw[<-b5];exact g2) (by rw[<-b5];exact g3) g4);unfold yJ at j1;have f7:=aj (λW3 a3 c3 (g1:W3.heap[B]? =some (JK b a3 c4.length c3 aw m cw)) (g2:SlF w0 a3 c4.length c4) (g3:c4.length<=c3) (g4:Below w0.heap.size w0 W3)=>hg a8 W3 a3 c3 (by rw[<-b4];exact g1) (by rw[<-b4];exact g2) (by rw[<-b4];exact g3) g4);unfold yJ at f7;have hZ:lN b os (.bin nd f g)=if aU b ((aT (.bin nd f g)).length:Int)=0 then gI (lN b os f) (λp=>gI (lN b os g) λq=>lI b nd (aT (.bin nd f g)) (aT f) (aT g) p q)else nO 3:=rfl
 have f8:(lN b os f).c≠0->lN b os (.bin nd f g)=nO 3:=λh=>by
  rw[hZ];split
  ·unfold gI;rw[yN h,qd d8 h];rfl
  ·rfl
 have d9:(lN b os f).c=0->(lN b os g).c≠0->lN b os (.bin nd f g)=nO 3:=λh h'=>by
  rw[hZ];split
  ·unfold gI;rw[yP h];dsimp only;rw[yN h',qd c0 h'];rfl
  ·rfl
 have e0:(lN b os f).c=0->(lN b os g).c=0->lN b os (.bin nd f g)=jnZ b (aT (.bin nd f g)) (aT f) (aT g) nd (lN b os f) (lN b os g):=λh h'=>by rw[hZ];unfold jnZ gI;rw[yP h];dsimp only;rw[yP h']
 clear hZ;have f9:=Zw (f:=f) (g:=g) d7;have h5:=qL f;have j2:=qL g;have j3:=qL (.bin nd f g);generalize q5:lN b os (.bin nd f g)=z at f8 d9 e0⊢;obtain⟨p,hp⟩: ∃p,p=lN b os f:=⟨_,rfl⟩;obtain⟨q,hq⟩: ∃q,q=lN b os g:=⟨_,rfl⟩;rw[<-hp]at f0 d8 f8 d9 e0 j1;rw[<-hq]at c5 c0 d9 e0 f7;clear hf hg hp hq q5 n2 b5 b4;obtain⟨bb,oo,a',c',rfl,j4⟩:=jB hs 0 (by omega);rw[Nat.zero_mul,Nat.add_zero,show(nd::post).getD 0 oL=nd from rfl]at j4;have x7:=j4.2.2.2.2.2.2.2;obtain⟨x0,x1,x2,x3,x4,x5,x6,-⟩:=qG j4 hb;have k3:=vg bb oo post.length cL;obtain⟨f1,f2,f3,f4,f5,f6⟩:=rQ (nd:=nd) (a':=a') (c':=c') hx hb hB (.slice (some ⟨bb,if cL=1 then oo else oo+7,none⟩) post.length (cL-1));have k4:=aj (vk hs hc);have n3:Hid (post.length<=cL-1):=by show _<=_;omega
 have n4:=(zG hx).1;have a2: ∀{pp:Addr} {vv:Value},W.cell? pp=some vv-> ∀o,(W.alloc o).cell? pp=some vv:=λh o=>by rw[World.cell?_alloc_lt W o _ (zk W _ h)];exact h
 have y0:=a2 x0;have y1:=a2 x1;have y2:=a2 x2;have y3:=a2 x3;have y4:=a2 x4;have y5:=a2 x5;have y6:=a2 x6;obtain⟨⟨p0,p1,p2⟩,pf⟩:=aJ hx;have y7:=a2 p0;have y8:=a2 p1;have y9:=a2 p2;have g5: ∀o o2,((W.alloc o).alloc o2).heap[B]? =some (JK b (some ⟨bb,oo,none⟩) (post.length+1) cL aw m cw):=λo o2=>by rw[Below.heap_alloc _ _ _ (by simp;omega),Below.heap_alloc _ _ _ n4];exact hx
 have u0:=λo o2=>(aJ (g5 o o2)).1.1;have u1:=λo o2=>(aJ (g5 o o2)).1.2.1;have u2:=λo o2=>(aJ (g5 o o2)).1.2.2;have uf:=λo o2=>(aJ (g5 o o2)).2;generalize(if cL=1 then oo else oo+7)=o7 at k3 f1 f2 f3 f4 f5 f6 k4;generalize q6:cL-1=c7 at k3 f1 f2 f3 f4 f5 f6 k4 n3;have n5:=aj f1;have k5:=aj f2;have j5:=aj f3;have n6:=aj f4;have j6:=aj f5;have j7:=aj f6;have r8:=aj x7;have r9:Hid (Below w0.heap.size w0 W):=hb;have q7:Hid (w0.heap.size<=B):=hB;clear f1 f2 f3 f4 f5 f6 hx hs hc hb hB n4 a2 g5 x7 q6 j4;go_enter func26,ntmps26;go_upto_region 3 with fail;clear x0 x1 x2 x3 x4 x5 x6 y0 y1 y2 y3 y4 y5 y6 y7 y8 y9 k3 u0 u1 u2 uf p0 p1 p2 pf;generalize(((W.alloc gL).alloc (lK nd a' c')).setCell ⟨B,1,none⟩ (.slice (some ⟨bb,o7,none⟩) post.length c7))=w3 at n5 k5 j5 n6 j6 j7⊢;obtain⟨⟨z0,z1,z2,z3,z4,z5,z6⟩,-⟩:=bU j5.out;have n7:=aj (j1.out w3 (some ⟨bb,o7,none⟩) c7 n5.out k4.out n3.out j6.out);clear j1;go_wp2_with fail;clear z0 z1 z2 z3 z4 z5 z6;refine n7.out.mono ?_;rintro e w4 ⟨a,ca,a1,iC,av,cv,rfl,n8,c9,i5⟩;have n9:=(zG k5.out).1;have o0:=(c9.2 _ n9 (by have:=c8.out;omega)).trans k5.out;have o3:=(c9.2 _ (zG j5.out).1 (by have:=c8.out;omega)).trans j5.out;have g6:=aj o0;have k6:=aj o3;have g7:=aj n8;have i6:=aj c9;have i7:=aj (n6.out.trans c9);clear n9 o0 o3 n8 c9 n7;by_cases h0:p.c=0
 ·obtain⟨q8,q9,q1,q2,q3⟩:=i5 h0
  have d0:=aj q1;have j8:=aj q2;have j9:=aj q3;have k7:=d9 h0;have k8:=e0 h0;clear i5 q1 q2 q3 f8 d9 e0;unfold jY at g7⊢;unfold bK;rw[h0,dz rfl,yP rfl,yP rfl,yP rfl];rw[h0,yP rfl]at g7;have b0:=(Below.refl w4.heap.size w4).alloc zr (mg b ((aT f).length:Int) a p.N.length ca a1 p.N.length iC av (aT f).length cv);have d2:=aj (zl w4 (mg b ((aT f).length:Int) a p.N.length ca a1 p.N.length iC av (aT f).length cv));have a7:=aj b0;generalize o4:w4.alloc (mg b ((aT f).length:Int) a p.N.length ca a1 p.N.length iC av (aT f).length cv)=w5 at d2 a7;have o5:Hid (tO [B] w3.heap.size w5 a p.N a1 p.E av (aT f)):=g7.out.below a7.out;have o6:=aj ((a7.out.block _ (zG d0.out).1).trans d0.out);have k9:=aj ((a7.out.block _ (zG g6.out).1).trans g6.out);have l1:=aj (i7.out.trans (nP.of_below a7.out));have k0:=aj ((a7.out.block _ (zG k6.out).1).trans k6.out);have e7:Hid (W.heap.size+2<=w4.heap.size/\w4.heap.size<w5.heap.size):=⟨by have h1:=j7.out;have h2:=i6.out.1.size;omega,(zG d2.out).1⟩;have o8:=aj (f7.out w5 q8 q9 o6.out j8.out j9.out (j6.out.trans (((i6.out.trans (nP.of_below a7.out)).below j6.out.size q7.out))));obtain⟨⟨z0,z1,z2,z3,z4,z5,z6⟩,-⟩:=bU k0.out;clear b0 g7 a7 k6 g6 d0 j8 j9 i7 i6 f7 o6;go_wp2_with fail;clear z0 z1 z2 z3 z4 z5 z6;refine o8.out.mono ?_;rintro e w6 ⟨d,cd,d1,g8,dv,dw,rfl,o9,b1,i8⟩;have g9:=aj o9;have l3:=aj b1;have i9:=aj (o5.out.akE b1);have i1:=aj ((b1.2 _ (zG k9.out).1 (by have:=c8.out;omega)).trans k9.out);have l4:=aj ((b1.2 _ (zG k0.out).1 (by have:=c8.out;omega)).trans k0.out);have l5:=aj ((b1.2 _ (zG d2.out).1 (by have h1:=c8.out;have h2:=e7.out.1;omega)).trans d2.out);have j0:=aj (l1.out.trans b1);clear o9 b1 o8 o5 k9 k0 d2 l1;by_cases h1:q.c=0
  ·obtain⟨r5,r6,q1,q2,q3⟩:=i8 h1
   have d0:=aj q1;have j8:=aj q2;have j9:=aj q3;have hz:=k8 h1;clear i8 q1 q2 q3 k8 k7;unfold jY at g9⊢;unfold bK;rw[h1,dz rfl,yP rfl,yP rfl,yP rfl];rw[h1,yP rfl]at g9;have p4:=(Below.refl w6.heap.size w6).alloc zr (mg b ((aT g).length:Int) d q.N.length cd d1 q.N.length g8 dv (aT g).length dw);have l6:=aj (zl w6 (mg b ((aT g).length:Int) d q.N.length cd d1 q.N.length g8 dv (aT g).length dw));have U:=aj p4;generalize p5:w6.alloc (mg b ((aT g).length:Int) d q.N.length cd d1 q.N.length g8 dv (aT g).length dw)=w7 at l6 U
   have l7:Hid (tO [B,W.heap.size] W.heap.size w7 a p.N a1 p.E av (aT f)):=(i9.out.below U.out).wide (by have:=j7.out;omega) (λy hy=>by
    have:=j7.out;simp at hy;rcases hy with rfl|rfl
    ·exact .inl (by simp)
    ·exact .inr (by omega))
   have l8:Hid (tO [B,W.heap.size] W.heap.size w7 d q.N d1 q.E dv (aT g)):=(g9.out.below U.out).wide (by have:=e7.out;omega) (λy hy=>by
    have:=e7.out;simp at hy;rcases hy with rfl|rfl
    ·exact .inl (by simp)
    ·exact .inr (by omega))
   have r7:=aj ((U.out.block _ (zG d0.out).1).trans d0.out);have i2:=aj ((U.out.block _ (zG i1.out).1).trans i1.out);have p9:=aj (j0.out.trans (nP.of_below U.out));have p6:=(U.out.block _ (zG l4.out).1).trans l4.out;have p7:=(U.out.block _ (zG l5.out).1).trans l5.out;obtain⟨⟨z0,z1,z2,z3,z4,z5,z6⟩,-⟩:=bU p6;obtain⟨⟨t0,t1,t2,t3,t4⟩,-⟩:=aI p7;obtain⟨⟨s0,s1,s2,s3,s4⟩,-⟩:=aI l6.out;have l9:=aj (λvs q w6 a6 b6 b7 Z b8 b9=>@yK w0 W w7 w6 B b aw m cw vs q a8 a6 b6 b7 Z b8 b9 r5 r6 r7.out i2.out p9.out (by have:=c8.out;omega) j8.out j9.out);have p8:Hid (W.heap.size<=w7.heap.size/\ ∀x∈[B,W.heap.size],x<w7.heap.size):=(by have h1:=e7.out;have h2:=l3.out.1.size;have h3:=U.out.size;have h4:=c8.out;refine⟨by omega,λx hx=>?_⟩;simp at hx;omega);have HC:=aj (ZU q0 q4 [B,W.heap.size] W.heap.size b nd (aT f) (aT g) p q a ca a1 iC av cv d cd d1 g8 dv dw w7 l7.out l8.out p8.out.1 p8.out.2 f0 c5 h0 h1 h5 j2 (by rw[f9];exact j3) d7 n0);rw[f9,<-hz]at HC;obtain⟨vs,HV⟩: ∃vs,Hid (vs=aT (.bin nd f g)):=⟨_,rfl⟩;rw[<-HV.out]at HC;clear p6 p7 p4 g9 U l4 l5 i1 d0 j0 l3 i9 l7 l8 f0 c5 d8 c0 h5 j2 j3 f9 n0 hz h0 h1;by_cases c6:nd.op=6
   ·have e6:(nd.op==6)=true:=by simp[c6]
    have eJ:Cx nd=8:=(by unfold Cx;rw[yP c6]);rw[eJ]at HC;clear d7 c6 eJ;go_wp2_with fail;clear o4 p5 z0 z1 z2 z3 z4 z5 z6 t0 t1 t2 t3 t4 s0 s1 s2 s3 s4;refine HC.out.mono ?_;rintro e w8 ⟨a6,b6,b7,Z,b8,b9,rfl,i4,d3⟩;have d4:=(d3.block _ (zG i2.out).1).trans i2.out;have d5:=aj (l9.out vs z w8 a6 b6 b7 Z b8 b9 i4 d3);obtain⟨⟨r0,r1,r2,r3,r4⟩,rf⟩:=aI d4;obtain⟨⟨J,-,-⟩,-⟩:=dK (v0:=.int .i64 (bK z.c b)) (v1:=.int .i64 (bK z.c (vs.length:Int))) (v2:=.slice a6 z.N.length b6) (v3:=.slice b7 z.N.length Z) (v4:=.slice b8 (jY z.c vs).length b9) d4 rfl;have b2:=aj J;clear J i4 d3 HC d4;go_wp2;obtain⟨⟨z0,z1,z2,z3,z4⟩,-⟩:=aI b2.out;exact bodyPost_ret (v:=.tuple #[wC (bK z.c b) (bK z.c (vs.length:Int)) a6 z.N.length b6 b7 z.N.length Z b8 (jY z.c vs).length b9,bC z.c]) (by simp[results,results26,go_sem,z0,z1,z2,z3,z4]) rfl (by have h:=d5.out;rw[HV.out]at h⊢;exact h)
   ·have e6:(nd.op==6)=false:=by simp;omega
    have eJ:Cx nd=14:=(by unfold Cx;rw[yN c6]);rw[eJ]at HC;clear d7 c6 eJ;go_wp2_with fail;clear o4 p5 z0 z1 z2 z3 z4 z5 z6 t0 t1 t2 t3 t4 s0 s1 s2 s3 s4;refine HC.out.mono ?_;rintro e w8 ⟨a6,b6,b7,Z,b8,b9,rfl,i4,d3⟩;have d4:=(d3.block _ (zG i2.out).1).trans i2.out;have d5:=aj (l9.out vs z w8 a6 b6 b7 Z b8 b9 i4 d3);obtain⟨⟨r0,r1,r2,r3,r4⟩,rf⟩:=aI d4;obtain⟨⟨J,-,-⟩,-⟩:=dK (v0:=.int .i64 (bK z.c b)) (v1:=.int .i64 (bK z.c (vs.length:Int))) (v2:=.slice a6 z.N.length b6) (v3:=.slice b7 z.N.length Z) (v4:=.slice b8 (jY z.c vs).length b9) d4 rfl;have b2:=aj J;clear J i4 d3 HC d4;go_wp2;obtain⟨⟨z0,z1,z2,z3,z4⟩,-⟩:=aI b2.out;exact bodyPost_ret (v:=.tuple #[wC (bK z.c b) (bK z.c (vs.length:Int)) a6 z.N.length b6 b7 z.N.length Z b8 (jY z.c vs).length b9,bC z.c]) (by simp[results,results26,go_sem,z0,z1,z2,z3,z4]) rfl (by have h:=d5.out;rw[HV.out]at h⊢;exact h)
  ·have hz:=k7 h1;have e:q.c=3:=(by rw[qd c0 h1];rfl);rw[e,dx (show(3:Int)≠0 by decide)];have b0:=(Below.refl w6.heap.size w6).alloc zr (mg (bK 3 b) (bK 3 ((aT g).length:Int)) d q.N.length cd d1 q.N.length g8 dv (jY 3 (aT g)).length dw);have d6:=(b0.block _ (zG i1.out).1).trans i1.out;have b3:=OU (b:=b) (w0:=w0) (aw:=aw) (m:=m) (cw:=cw) (vs:=aT (.bin nd f g)) (post:=a8) (j0.out.trans (nP.of_below b0));rw[<-hz]at b3;have d5:=aj b3;obtain⟨⟨r0,r1,r2,r3,r4⟩,rf⟩:=aI d6;obtain⟨⟨J,-,-⟩,-⟩:=dK (v0:=.int .i64 0) (v1:=.int .i64 0) (v2:=.slice none 0 0) (v3:=.slice none 0 0) (v4:=.slice none 0 0) d6 rfl;have b2:=aj J;clear b3 J d6 b0 hz e h1 h0 k7 k8 f0 d8 c5 c0 i8 g9 h5 j2 j3 f9 d7 i9;go_wp2;obtain⟨⟨z0,z1,z2,z3,z4⟩,-⟩:=aI b2.out;exact bodyPost_ret (v:=.tuple #[ptZ,.iface 45 (.int .i64 3)]) (by simp[results,results26,go_sem,z0,z1,z2,z3,z4]) rfl d5.out
 ·have hz:=f8 h0
  have e:p.c=3:=by rw[qd d8 h0];rfl
  rw[e,dx (show(3:Int)≠0 by decide)];have b0:=(Below.refl w4.heap.size w4).alloc zr (mg (bK 3 b) (bK 3 ((aT f).length:Int)) a p.N.length ca a1 p.N.length iC av (jY 3 (aT f)).length cv);have d6:=(b0.block _ (zG g6.out).1).trans g6.out;have b3:=OU (b:=b) (w0:=w0) (aw:=aw) (m:=m) (cw:=cw) (vs:=aT (.bin nd f g)) (post:=a8) (i7.out.trans (nP.of_below b0));rw[<-hz]at b3;have d5:=aj b3;obtain⟨⟨r0,r1,r2,r3,r4⟩,rf⟩:=aI d6;obtain⟨⟨J,-,-⟩,-⟩:=dK (v0:=.int .i64 0) (v1:=.int .i64 0) (v2:=.slice none 0 0) (v3:=.slice none 0 0) (v4:=.slice none 0 0) d6 rfl;have b2:=aj J;clear b3 J d6 b0 hz e h0 f8 d9 e0 f0 d8 c5 c0 i5 g7 h5 j2 j3 f9 d7 f7;go_wp2;obtain⟨⟨z0,z1,z2,z3,z4⟩,-⟩:=aI b2.out;exact bodyPost_ret (v:=.tuple #[ptZ,.iface 45 (.int .i64 3)]) (by simp[results,results26,go_sem,z0,z1,z2,z3,z4]) rfl d5.out
theorem ahp(j1:Us)(w0 W:zW)(B:Nat)(b:Int)(os:List Om)(aL:zO)(cL:Nat)(aw:zO)(m cw:Nat)(nd:Nd)(post:List Nd)(hx:W.heap[B]? =some (JK b aL (post.length+1) cL aw m cw))(hs:SlF w0 aL (post.length+1) (nd::post))(hc:post.length+1<=cL)(hb:Below w0.heap.size w0 W)(hB:w0.heap.size<=B)(ho:SlO w0 aw m os)(hl:nd.op=3)(f8:qo nd=0)(b7:nd.wd.toNat<m/\(os.getD nd.wd.toNat dh).b=b)(c0:Gz (eX b os nd)):
  Calls prog 26 #[.pointer (some ⟨B,0,none⟩)] W (yJ w0 W B b aw m cw (aT (.gH nd)) (eX b os nd) post):=by
 have d2:Hid (B<W.heap.size):=(zG hx).1
 have e1:(nd.op==1)=false:=by simp;omega
 have e2:(nd.op==2)=false:=by simp;omega
 have e3:(nd.op==3)=true:=by simp[hl]
 obtain⟨bb,oo,a',c',rfl,c3⟩:=jB hs 0 (by omega)
 rw[Nat.zero_mul,Nat.add_zero,show(nd::post).getD 0 oL=nd from rfl]at c3
 have x7:=c3.2.2.2.2.2.2.2
 obtain⟨x0,x1,x2,x3,x4,x5,x6,-⟩:=qG c3 hb
 have d3:=vg bb oo post.length cL
 obtain⟨f1,f2,f3,f4,f5,f6⟩:=rQ (nd:=nd) (a':=a') (c':=c') hx hb hB (.slice (some ⟨bb,if cL=1 then oo else oo+7,none⟩) post.length (cL-1))
 have d4:=aj (vk hs hc)
 have f9:Hid (post.length<=cL-1):=by show _<=_;omega
 have g1:=(zG hx).1
 have Z: ∀{pp:Addr} {vv:Value},W.cell? pp=some vv-> ∀o,(W.alloc o).cell? pp=some vv:=λh o=>by rw[World.cell?_alloc_lt W o _ (zk W _ h)];exact h
 have y0:=Z x0
 have y1:=Z x1
 have y2:=Z x2
 have y3:=Z x3
 have y4:=Z x4
 have y5:=Z x5
 have y6:=Z x6
 obtain⟨⟨p0,p1,p2⟩,pf⟩:=aJ hx
 have y7:=Z p0
 have y8:=Z p1
 have y9:=Z p2
 have b8: ∀o o2,((W.alloc o).alloc o2).heap[B]? =some (JK b (some ⟨bb,oo,none⟩) (post.length+1) cL aw m cw):=λo o2=>by rw[Below.heap_alloc _ _ _ (by simp;omega),Below.heap_alloc _ _ _ g1];exact hx
 have u0:=λo o2=>(aJ (b8 o o2)).1.1
 have u1:=λo o2=>(aJ (b8 o o2)).1.2.1
 have u2:=λo o2=>(aJ (b8 o o2)).1.2.2
 have uf:=λo o2=>(aJ (b8 o o2)).2
 generalize(if cL=1 then oo else oo+7)=o7 at d3 f1 f2 f3 f4 f5 f6 d4
 generalize j2:cL-1=c7 at d3 f1 f2 f3 f4 f5 f6 d4 f9
 have c4:=aj f1
 have a8:=aj f2
 have b0:=aj f3
 have g2:=aj f4
 have c5:=aj f5
 have d5:=aj f6
 have k6:=aj x7
 have k7:Hid (Below w0.heap.size w0 W):=hb
 have k8:Hid (w0.heap.size<=B):=hB
 clear f1 f2 f3 f4 f5 f6 hx hs hc hb hB g1 Z b8 x7 j2 c3
 have HO:=aj ho
 have d6:=(dH f8).1
 have hv:=d6.2.1 (.inl hl)
 have j3:=d6.2.2.2.1 (.inl hl)
 have g3:aT (.gH nd)=[nd.var]:=tq (.inl hl) hv
 have b1:eX b os nd=⟨Eb b (os.getD nd.wd.toNat dh).N (os.getD nd.wd.toNat dh).O nd.num,WU b (os.getD nd.wd.toNat dh).N (os.getD nd.wd.toNat dh).O nd.num,WV b (os.getD nd.wd.toNat dh).N (os.getD nd.wd.toNat dh).O nd.num⟩:=by unfold eX;rw[yN (by omega),yP hl,b7.2]
 have j4:Hid (∀x∈[nd.var],(Lit.int .i64 x).wf=true):=λx hx=>by simp at hx;subst hx;exact WalkArith.wf_i64 (by omega)
 obtain⟨bo,oo,a1,c1,b9,c6,rfl,u0,u1,u2,u3,u4⟩:=pz ho nd.wd.toNat b7.1
 rw[b7.2]at u0
 obtain⟨k1,d7⟩: ∃k:Nat,nd.wd=(k:Int):=⟨nd.wd.toNat,by omega⟩
 have g4:=b7.1
 generalize os.getD nd.wd.toNat dh=z at u0 u1 u2 u3 u4 b1
 rw[d7,Int.toNat_natCast]at u0 u1 u2 g4
 have k5:(k1:Int)<(m:Int):=by omega
 have g5:Hid (∀W,Below w0.heap.size w0 W->W.cell? ⟨bo,oo+k1*3,none⟩=some (.int .i64 b)/\W.cell? ⟨bo,oo+k1*3+1,none⟩=some (.slice a1 z.N.length c1)/\W.cell? ⟨bo,oo+k1*3+2,none⟩=some (.slice b9 z.O.length c6)):=λW h=>by have hk: ∀(k:Nat) (v:Value),w0.cell? ⟨bo,k,none⟩=some v->W.cell? ⟨bo,k,none⟩=some v:=λk v h0=>(h.cell (p:=⟨bo,k,none⟩) (zk w0 _ h0)).trans h0;exact⟨hk _ _ u0,hk _ _ u1,hk _ _ u2⟩
 have g6:=aj u3
 have g7:=aj u4
 generalize hq:eX b os nd=q at b1 c0⊢
 have g8:Eb b z.N z.O nd.num=q.c:=by rw[b1]
 have g9:WU b z.N z.O nd.num=q.N:=by rw[b1]
 have i1:WV b z.N z.O nd.num=q.E:=by rw[b1]
 have c8:=aj (λW (h1:gT W a1 z.N.length z.N) (h2:Sl W b9 z.O.length z.O)=>j1 b a1 z.N.length c1 b9 z.O.length c6 z.N z.O nd.num W h1 h2)
 rw[g8,g9,i1]at c8
 unfold dB lH at c8
 have d8:=aj (λa2 j5 a6 i7 d9 j6 W=>mI b (1:Int) [nd.var] q c0 a2 j5 a6 i7 d9 j6 W)
 have e0:=aj (λ(w w1 Wf:zW) (a2:zO) (a6:zO) (d9:zO) (A:zO) (CA:Nat) (A':zO) (e4:Nat) (AV:zO) (CV:Nat)=>@pJ [B,W.heap.size] w w w1 Wf b [nd.var] q a2 a6 d9 W.heap.size A CA A' e4 AV CV c0)
 rw[g3]
 have j7:=aj d7
 clear d7 hl f8 c0 hq b7 ho b1 d6 hv j3 g3 g8 g9 i1 u0 u1 u2 u3 u4 g4
 go_enter func26,ntmps26
 go_upto_region 3 with fail
 clear x0 x1 x2 x3 x4 x5 x6 y0 y1 y2 y3 y4 y5 y6 y7 y8 y9 d3 u0 u1 u2 uf p0 p1 p2 pf
 generalize(((W.alloc gL).alloc (lK nd a' c')).setCell ⟨B,1,none⟩ (.slice (some ⟨bb,o7,none⟩) post.length c7))=J at c4 a8 b0 g2 c5 d5⊢
 obtain⟨⟨z0,z1,z2,z3,z4,z5,z6⟩,-⟩:=bU b0.out
 have b2:Hid (∀U,Below J.heap.size J U->(U.cell? ⟨B,2,none⟩=some (.slice (some ⟨bo,oo,none⟩) m cw)/\U.cell? ⟨W.heap.size+1,3,none⟩=some (.int .i64 (k1:Int))/\U.cell? ⟨W.heap.size+1,5,none⟩=some (.int .i64 nd.num)/\U.cell? ⟨bo,oo+k1*3,none⟩=some (.int .i64 b)/\U.cell? ⟨bo,oo+k1*3+1,none⟩=some (.slice a1 z.N.length c1)/\U.cell? ⟨bo,oo+k1*3+2,none⟩=some (.slice b9 z.O.length c6))):=λU h=>by obtain⟨⟨-,-,p2⟩,-⟩:=aJ ((h.block _ (zG c4.out).1).trans c4.out);obtain⟨⟨-,-,-,q3,-,q5,-⟩,-⟩:=bU ((h.block _ (zG b0.out).1).trans b0.out);rw[j7.out]at q3;exact⟨p2,q3,q5,g5.out U (ak c5.out h)⟩
 have i2:=aj (λU (h:Below J.heap.size J U)=>c8.out U (aG g6.out (ak c5.out h)) (aF g7.out (ak c5.out h)))
 have HD:Hid (Below J.heap.size J J.drew):=zb.drew
 have j8:=aj (Below.refl J.heap.size J)
 have e5:Hid (W.heap.size<=J.heap.size/\ ∀x∈[B,W.heap.size],x<J.heap.size):=by have h1:=d5.out;have h4:=d2.out;refine⟨by omega,λx hx=>?_⟩;simp at hx;omega
 clear c8 g5 g6 g7 HO
 go_upto_region 8 with fail
 go_cut[5,6] (λs5 s6 wx=> ∃P a2 c2 a6 b3,s5=.pointer (some ⟨P,0,none⟩)/\s6=bC q.c/\ZV J P (bK q.c b) (bK q.c 1) a2 c2 q.N a6 b3 q.E wx)
 case first=>
  clear d8 e0
  go_region_held_law (λU=>U.cell? ⟨B,2,none⟩=some (.slice (some ⟨bo,oo,none⟩) m cw)/\U.cell? ⟨W.heap.size+1,3,none⟩=some (.int .i64 (k1:Int))/\U.cell? ⟨W.heap.size+1,5,none⟩=some (.int .i64 nd.num)/\U.cell? ⟨bo,oo+k1*3,none⟩=some (.int .i64 b)/\U.cell? ⟨bo,oo+k1*3+1,none⟩=some (.slice a1 z.N.length c1)/\U.cell? ⟨bo,oo+k1*3+2,none⟩=some (.slice b9 z.O.length c6)) (first|exact b2.out _ HD.out|exact b2.out _ b4.out|exact b2.out _ (HD.out.alloc zr _)|exact b2.out _ (b4.out.alloc b4.out.size _)|exact b2.out _ ((((b4.out.setCell c9.out _).setCell c9.out _).setCell c9.out _).setCell c9.out _)) (first
   |(go_simp;go_at_call 41;refine(i2.out _ (by first|exact HD.out|exact HD.out.alloc zr _)).mono ?_;rintro e w4 ⟨a2,c2,a6,b3,rfl,hn,a7⟩;have HN:=aj hn;have b4:Hid (Below J.heap.size J w4):=(by first|exact HD.out.trans a7|exact(HD.out.alloc zr _).trans (a7.mono (by simp)));first|(have i4:Hid (w4.heap[J.heap.size]? =some zAO):=((a7.block J.heap.size (by simp)).trans (zl J.drew zAO));obtain⟨⟨k0,k1,k2,k3⟩,kf⟩:=aC i4.out;have c9:Hid (J.heap.size<=J.heap.size):=zr)|skip;clear hn a7))
  all_goals
   go_wp2_with fail
   go_meet
   case rel=>
    first
     |exact⟨_,a2,c2,a6,b3,rfl,rfl,Rv HN.out b4.out⟩
     |exact⟨_,a2,c2,a6,b3,rfl,rfl,Rw i4.out zr (by simp) HN.out b4.out⟩
 case rest=>
  obtain⟨P,a2,c2,a6,b3,rfl,rfl,d0⟩:=hcut
  have e6:=aj d0
  obtain⟨⟨y0,y1,y2,y3⟩,-⟩:=aC d0.2.1
  clear z0 z1 z2 z3 z4 z5 z6
  obtain⟨⟨z0,z1,z2,z3,z4,z5,z6⟩,-⟩:=bU ((d0.2.2.2.block _ (zG b0.out).1).trans b0.out)
  have b6:=aj ((Below.refl wc.heap.size wc).alloc zr (.cells #[.int .i64 nd.var] 3))
  have e7:=aj (JI wc 3 [nd.var] (by unfold maxLen;simp) j4.out)
  have i5:=aj (zl wc (.cells #[.int .i64 nd.var] 3))
  have e8:=aj (d8.out a2 c2 a6 b3 (some ⟨wc.heap.size,0,none⟩) 1 (wc.alloc (.cells #[.int .i64 nd.var] 3)))
  generalize i6:wc.alloc (.cells #[.int .i64 nd.var] 3)=w6 at b6 i5 e8
  have i8:Hid (Sl w6 (some ⟨wc.heap.size,0,none⟩) 1 [nd.var]):=by have h:=e7.out;show Sl _ _ _ _;rw[<-i6];exact h
  clear d0 b2 HD j8 i2 d8 e7
  go_wp2_with fail
  clear i6 y0 y1 y2 y3 z0 z1 z2 z3 z4 z5 z6
  refine e8.out.mono ?_
  rintro e w7 ⟨A,CA,A',e4,AV,CV,rfl,hA,b5⟩
  have e9:=ak e6.out.2.2.2 (ak b6.out b5)
  have i9:=e0.out J wc w7 a2 a6 (some ⟨wc.heap.size,0,none⟩) A CA A' e4 AV CV hA e6.out.auto e5.out.1 e5.out.2 (ak b6.out b5).size (λx _ h2=>(ak b6.out b5).block x h2) (λW' j9=>nH i8.out (by have h1:=(zG i5.out).1;have h3:=e5.out;have h6:=b5.size;have h7:=e6.out.2.2.2.size;have h8:=d5.out;have h9:=d2.out;rw[j9 _ (by omega) (λhx=>by simp at hx;omega) (by omega)];exact b5.block _ h1)) e9
  obtain⟨d,cd,d1,f0,dv,dw,he,hp,a7⟩:=i9
  have k4:=aj (yK (ca:=cd) (iC:=f0) (cv:=dw) c4.out a8.out g2.out (by have:=d2.out;omega) d4.out f9.out hp a7)
  obtain⟨⟨r0,r1,r2,r3,r4⟩,rf⟩:=aI ((a7.block _ (zG a8.out).1).trans a8.out)
  obtain⟨⟨f7,-,-⟩,-⟩:=dK (v0:=.int .i64 (bK q.c b)) (v1:=.int .i64 (bK q.c 1)) (v2:=.slice d q.N.length cd) (v3:=.slice d1 q.N.length f0) (v4:=.slice dv (jY q.c [nd.var]).length dw) ((a7.block _ (zG a8.out).1).trans a8.out) rfl
  have j0:=aj f7
  injection he with he
  rw[show(([nd.var]:zI).length:Int)=1 from rfl]at he
  rw[he]
  clear hp a7 f7 hA b5 e9 e8 e0 he
  go_wp2
  obtain⟨⟨z0,z1,z2,z3,z4⟩,-⟩:=aI j0.out
  exact bodyPost_ret (v:=.tuple #[wC (bK q.c b) (bK q.c 1) d q.N.length cd d1 q.N.length f0 dv (jY q.c [nd.var]).length dw,bC q.c]) (by simp[results,results26,go_sem,z0,z1,z2,z3,z4]) rfl k4.out
theorem aaA(b0:yc)(b1:yC)(b2:CU)(b3:Gu)(b4:Cj)(b5:Da)(b6:zQ)(b7:Us)(w0:zW)(B:Nat)(b:Int)(os:List Om)(aw:zO)(cw:Nat)(hB:w0.heap.size<=B)(h1:1<=b)(h2:b<=6)(J:adg b os)(ho:SlO w0 aw os.length os): ∀t:Fm,t.ok->(∀n∈t.flat,¬yg os.length n)->rR w0 B b os aw os.length cw t:=by
 intro t;induction t with
 |gH n=>
  intro z hw post W aL cL hx hs hc hb
  have hp:=qI (dH z.1).1.1 z.2
  have a1:=adh J z.1 (hw n (by simp[Fm.flat]))
  obtain⟨a2,b8⟩:=Mi h1 h2 z.1 hp a1
  have he:lN b os (.gH n)=eX b os n:=by
   show(if aU b ((aT (.gH n)).length:Int)=0 then eX b os n else nO 3)=_;split
   ·rfl
   ·rename_i h;exact(b8 h).symm
  rw[he]
  by_cases b9:n.op=1\/n.op=2
  ·exact aeF b4 w0 W B b os aL cL aw os.length cw n post hx hs hc hb hB b9 z.1 a2
  ·by_cases h3:n.op=3
   ·have ha:=a1.1 (.inl h3)
    exact ahp b7 w0 W B b os aL cL aw os.length cw n post hx hs hc hb hB ho h3 z.1 ⟨ha.1,ha.2.2⟩ a2
   ·have h4:n.op=4:=by omega
    have ha:=a1.1 (.inr h4)
    have a7:=a1.2 h4
    exact aaz b5 b6 w0 W B b os aL cL aw os.length cw n post hx hs hc hb hB ho h4 z.1 ⟨⟨ha.1,ha.2.2⟩,a7.1,a7.2.2⟩ a2
 |un n f ih=>
  intro z hw
  obtain⟨a8,hp,Z⟩:=z
  have U: ∀x∈f.flat,¬yg os.length x:=λx hx=>hw x (by simp[Fm.flat,hx])
  exact aho b0 b1 w0 B b os aw os.length cw n f hB a8 (uT hp) (Eh f Z (Ei J f Z U)) (Oc h1 h2 J f Z U) (ih Z U)
 |bin n f g c0 c3=>
  intro z hw
  obtain⟨a8,hp,Z,hg⟩:=z
  have U: ∀x∈f.flat,¬yg os.length x:=λx hx=>hw x (by simp[Fm.flat,hx])
  have a6: ∀x∈g.flat,¬yg os.length x:=λx hx=>hw x (by simp[Fm.flat,hx])
  exact aeG b2 b3 w0 B b os aw os.length cw n f g hB ⟨h1,h2⟩ (Cy hp) (Eh f Z (Ei J f Z U)) (Oc h1 h2 J f Z U) (Eh g hg (Ei J g hg a6)) (Oc h1 h2 J g hg a6) (c0 Z U) (c3 hg a6)
theorem aeJ: ∀t:Fm,t.ok-> ∀x∈t.flat,qo x=0:=by
 intro t;induction t with
 |gH n=>intro h x hx;simp[Fm.flat]at hx;subst hx;exact h.1
 |un n f U=>
  intro h x hx
  rcases List.mem_cons.1 hx with rfl|hx
  ·exact h.1
  ·exact U h.2.2 x hx
 |bin n f g z J=>
  intro h x hx
  rcases List.mem_cons.1 hx with rfl|hx
  ·exact h.1
  ·rcases List.mem_append.1 hx with hx|hx
   ·exact z h.2.2.1 x hx
   ·exact J h.2.2.2 x hx
def rT(b:Int)(os:List Om)(t:Fm):Pv:=if zy t.flat os b=0 then lN b os t else nO (zy t.flat os b)
theorem aaB:CU:=λb t a n cap a' k z N E tr J U ca at_ W h1 h2 h3=>aeD b t a n cap a' k z N E tr J U ca at_ W h1 h2 h3
theorem Vx(w0:zW)(B:Nat)(b:Int)(os:List Om)(aw:zO)(cw:Nat)(U:w0.heap.size<=B)(h1:1<=b)(h2:b<=6)(Z:SlO w0 aw os.length os)(t:Fm)(z:t.ok)(J:zy t.flat os b=0):rR w0 B b os aw os.length cw t:=
 aaA aan Vj aaB RX Vr KQ aal RB w0 B b os aw cw U h1 h2 (Cz h1 J).1 Z t z (Cz h1 J).2
theorem Kh(b:Int)(h1:1<=b)(h2:b<=6)(t:Fm)(b6:t.ok)(a:zO)(n cap:Nat)(a2:zO)(z:Nat)(os:List Om)(w:zW)(hs:SlF w a n t.flat)(hc:n<=cap)(ho:SlO w a2 os.length os):Calls prog 12 #[.int .i64 b,.slice a n cap,.slice a2 os.length z] w (nD [] w.heap.size w b (aT t) (rT b os t)):=by
 have b7: ∀x∈t.flat,qo x=0:=aeJ t b6;have b1:=(Below.refl w.heap.size w).alloc zr gL;have c6:=aj (zl w gL);have b8:=aj (Gb b h1 a n cap t.flat a2 os.length z os (w.alloc gL) (dG hs b1) (gK ho b1) b7);have Z:=aj (λ(hw:zy t.flat os b=0) (B:Nat) (hB:w.heap.size<=B)=>Vx w B b os a2 z hB h1 h2 ho t b6 hw []);unfold yJ at Z;rw[List.append_nil,hs.1]at Z;have d4:=aj b1;have HS:=aj hs;have HC:Hid (n<=cap):=hc;have a1:(zy t.flat os b=0->rT b os t=lN b os t)/\(zy t.flat os b≠0->rT b os t=nO (zy t.flat os b)):=by unfold rT;exact⟨λh=>yP h,λh=>yN h⟩
 generalize rT b os t=q at a1⊢;obtain⟨W,hW⟩: ∃W,W=zy t.flat os b:=⟨_,rfl⟩;rw[<-hW]at b8 Z a1;clear hs hc ho b7 b6 hW b1 h1 h2;go_enter func12,ntmps12;go_wp2_with fail;refine b8.out.mono ?_;rintro e w1 ⟨rfl,b9⟩;have a6:=aj (ak d4.out b9);have b2:=aj ((b9.block _ (zG c6.out).1).trans c6.out);clear b9 b8;by_cases h0:W=0
 ·have hq:=a1.1 h0;have HN:=Z.out h0 w1.heap.size a6.out.size;rw[h0,dz rfl];rw[<-hq]at HN;have HN:=aj HN;have c7:=(Below.refl w1.heap.size w1).alloc zr (JK b a n cap a2 os.length z);have c0:=aj (zl w1 (JK b a n cap a2 os.length z));have b3:=aj c7;clear a1 Z h0 hq c7;generalize d5:w1.alloc (JK b a n cap a2 os.length z)=w2 at c0 b3;have c8:=aj (HN.out w2 a cap c0.out HS.out HC.out (ak a6.out b3.out));clear HN;go_wp2_with fail;clear d5;refine c8.out.mono ?_;rintro e w3 ⟨d,cd,d1,c3,dv,dw,rfl,c9,a8,-⟩;have d0:w.heap.size<w1.heap.size:=(zG b2.out).1;have d3:w1.heap.size<w2.heap.size:=(zG c0.out).1;have hr:=(a8.2 w.heap.size (by omega) (by omega)).trans ((b3.out.block _ d0).trans b2.out);obtain⟨⟨J,b4,a7⟩,U⟩:=dK (v0:=.int .i64 (bK q.c b)) (v1:=.int .i64 (bK q.c ((aT t).length:Int))) (v2:=.slice d q.N.length cd) (v3:=.slice d1 q.N.length c3) (v4:=.slice dv (jY q.c (aT t)).length dw) hr rfl;have d2:Below w.heap.size w w3:=(ak a6.out b3.out).trans (a8.below (by have:=a6.out.size;omega) a6.out.size);have c4:=aj (U w w.heap.size d2 zr);have d6:=aj ((c9.on (by rw[b4];exact zr) (λx g1 g2 g3=>a7 x (by omega))).wide (Y:=[]) (r:=w.heap.size) (by omega) (λy hy=>by cases hy));obtain⟨⟨r0,r1,r2,r3,r4⟩,rf⟩:=aI hr;have b0:=aj J;clear J b4 a7 U d2 c9 a8 hr d0 d3 c8;go_wp2;obtain⟨⟨z0,z1,z2,z3,z4⟩,-⟩:=aI b0.out;exact bodyPost_ret (v:=.tuple #[wC (bK q.c b) (bK q.c ((aT t).length:Int)) d q.N.length cd d1 q.N.length c3 dv (jY q.c (aT t)).length dw,bC q.c]) (by simp[results,results12,go_sem,z0,z1,z2,z3,z4]) rfl ⟨d,cd,d1,c3,dv,dw,rfl,d6.out,c4.out⟩
 ·have hq:=a1.2 h0
  have c5:bC W=.iface 45 (.int .i64 W):=by unfold bC;rw[yN h0]
  rw[c5];have d7:=aj c5;obtain⟨⟨r0,r1,r2,r3,r4⟩,rf⟩:=aI b2.out;obtain⟨⟨J,b4,a7⟩,U⟩:=dK (v0:=.int .i64 0) (v1:=.int .i64 0) (v2:=.slice none 0 0) (v3:=.slice none 0 0) (v4:=.slice none 0 0) b2.out rfl;have b0:=aj J;have c4:=aj (U w w.heap.size a6.out zr);have HQ:=aj hq;have b5:Hid (W≠0):=h0;clear J b4 a7 U a1 Z h0 hq c5;go_wp2;obtain⟨⟨z0,z1,z2,z3,z4⟩,-⟩:=aI b0.out;refine bodyPost_ret (v:=.tuple #[ptZ,.iface 45 (.int .i64 W)]) (by simp[results,results12,go_sem,z0,z1,z2,z3,z4]) rfl ?_;rw[HQ.out];refine⟨none,0,none,0,none,0,?_,?_,c4.out⟩
  ·unfold bK jY nO;simp only;rw[yN b5.out,yN b5.out,yN b5.out,d7.out];rfl
  ·unfold jY nO;simp only;rw[yN b5.out];exact GA _ _ _
end Go.Proofs.YtceojneljnnooaaGreat
