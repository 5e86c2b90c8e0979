import Derived.Test.YtceojneljnnooaaGreatZPvx
import Derived.Test.YtceojneljnnooaaGreatZYf
open Go.Proofs.Tryz
namespace Go.Proofs.YtceojneljnnooaaGreat
open Go.RowKit
set_option maxHeartbeats 0
set_option maxRecDepth 100000
set_option linter.all false
variable{nums vs:zI}{os:List Om}{b:Int}{ns:List Nd}{t:Fm}{n:Nd}
def akF(b:Int)(ns:List Nd)(os:List Om)(vs:zI)(q:Pv):Prop:=(qj b ns≠0->q=nO (qj b ns))/\(qj b ns=0-> ∀t:Fm,ns=t.flat->t.ok->vs=aT t/\q=rT b os t)
def OfR(w:zW)(b:Int)(vs:zI)(q:Pv)(e:Ending)(w':zW):Prop:= ∃a ca a' iC av cv,e=.returned (.tuple #[auG (bK q.c b) (bK q.c (vs.length:Int)) a q.N.length ca a' q.N.length iC,.slice av (jY q.c vs).length cv,bC q.c])/\tO [] w.heap.size w' a q.N a' q.E av (jY q.c vs)/\Below w.heap.size w w'
theorem Ko(h:qj b ns=0):(1<=b/\b<=6)/\(mG ns).2=0/\ ∃t:Fm,ns=t.flat/\t.ok:=by
 unfold qj at h;by_cases hb:1<=b/\b<=6
 ·rw[yP hb]at h;obtain⟨t,h1,h2,-⟩:=Ed h;exact⟨hb,h,t,h1,h2⟩
 ·rw[yN hb]at h;omega
theorem MV(b:Int)(a:zO)(n cap:Nat)(ns:List Nd)(a2:zO)(b8:Nat)(os:List Om)(w:zW)(hs:SlF w a n ns)(hc:n<=cap)(ho:SlO w a2 os.length os)(vs:zI)(q:Pv)(hq:akF b ns os vs q):Calls prog 6 #[.int .i64 b,.slice a n cap,.slice a2 os.length b8] w (OfR w b vs q):=by
 have b2:=(Below.refl w.heap.size w).alloc zr zAO;have b3:=aj (zl w zAO);have J:=aj (Kg b a n cap ns (w.alloc zAO) (dG hs b2));have c9:=aj b2;by_cases h0:qj b ns=0
 ·obtain⟨⟨z,a1⟩,-,t,rfl,b9⟩:=Ko h0
  obtain⟨rfl,rfl⟩:=hq.2 h0 t rfl b9;rw[h0,dz rfl]at J;have b0:=aj (λW (hb:Below w.heap.size w W)=>Kh b z a1 t b9 a n cap a2 b8 os W (dG hs hb) hc (gK ho hb));unfold nD at b0;generalize rT b os t=q at b0⊢;generalize aT t=vs at b0⊢;clear hs hc ho b9 h0 hq z a1 b2;go_enter func6,ntmps6;go_wp2_with fail;refine J.out.mono ?_;rintro e w1 ⟨rfl,z⟩;have b4:=aj (ak c9.out z);have d0:=aj ((z.block _ (zG b3.out).1).trans b3.out);have d2:=aj (b0.out w1 b4.out);clear z J b0;go_wp2_with fail;refine d2.out.mono ?_;rintro e w2 ⟨d,cd,d1,a6,dv,dw,rfl,d3,a1⟩;have c0:=(zG d0.out).1;have c3:=(a1.block _ c0).trans d0.out;have a7:=(Below.refl w2.heap.size w2).alloc zr (mg (bK q.c b) (bK q.c (vs.length:Int)) d q.N.length cd d1 q.N.length a6 dv (jY q.c vs).length dw);have c4:=aj (zl w2 (mg (bK q.c b) (bK q.c (vs.length:Int)) d q.N.length cd d1 q.N.length a6 dv (jY q.c vs).length dw));have c5:=aj ((a7.block _ (zG c3).1).trans c3);have d4:=aj (d3.below a7);have d5:=aj (ak (ak b4.out a1) a7);have d6:Hid (w.heap.size<w1.heap.size):=c0;clear d3 a1 c3 a7 d2 c0;generalize d8:w2.alloc (mg (bK q.c b) (bK q.c (vs.length:Int)) d q.N.length cd d1 q.N.length a6 dv (jY q.c vs).length dw)=w3 at c4 c5 d4 d5;have d7:=c4.out;generalize w2.heap.size=P at d7;obtain⟨⟨p0,p1,p2,p3,p4⟩,-⟩:=aI c4.out;obtain⟨⟨r0,r1,r2,r3⟩,rf⟩:=aC c5.out;obtain⟨⟨U,b5,a8⟩,Z⟩:=eO (v0:=.int .i64 (bK q.c b)) (v1:=.int .i64 (bK q.c (vs.length:Int))) (v2:=.slice d q.N.length cd) (v3:=.slice d1 q.N.length a6) c5.out rfl;have c6:=aj (Z w w.heap.size d5.out zr).drew;have d9:=aj ((d4.out.on (by rw[b5];exact zr) (λx g1 g2 g3=>a8 x (by have:=d6.out;omega))).older (r:=w.heap.size) (Nat.le_of_lt d6.out));have b1:=aj U;clear U b5 a8 Z d7;go_upto_region 5 with fail;clear d8;go_region
  all_goals
   go_wp2;obtain⟨⟨z0,z1,z2,z3⟩,-⟩:=aC b1.out
   first
    |exact bodyPost_ret (v:=.tuple #[auG (bK q.c b) (bK q.c (vs.length:Int)) d q.N.length cd d1 q.N.length a6,.slice dv (jY q.c vs).length dw,bC q.c]) (by simp[results,results6,go_sem,z0,z1,z2,z3]) rfl ⟨d,cd,d1,a6,dv,dw,rfl,d9.out,c6.out⟩
 ·have c7:=hq.1 h0
  have b6:bC (qj b ns)=.iface 45 (.int .i64 (qj b ns)):=by unfold bC;rw[yN h0]
  generalize qj b ns=W at J h0 c7 b6;rw[b6]at J;have e0:=aj b6;have HQ:=aj c7;have b7:Hid (W≠0):=h0;clear hs hc ho hq b6 c7 h0 b2;go_enter func6,ntmps6;go_wp2_with fail;refine J.out.mono ?_;rintro e w1 ⟨rfl,z⟩;have b4:=aj (ak c9.out z);have c8:=(z.block _ (zG b3.out).1).trans b3.out;obtain⟨⟨r0,r1,r2,r3⟩,rf⟩:=aC c8;obtain⟨⟨U,b5,a8⟩,Z⟩:=eF c8 rfl;have b1:=aj U;have c6:=aj (Z w w.heap.size b4.out zr);clear U b5 a8 Z c8 z J;go_wp2;obtain⟨⟨z0,z1,z2,z3⟩,-⟩:=aC b1.out;refine bodyPost_ret (v:=.tuple #[auG 0 0 none 0 0 none 0 0,.slice none 0 0,.iface 45 (.int .i64 W)]) (by simp[results,results6,go_sem,z0,z1,z2,z3]) rfl ?_;rw[HQ.out];refine⟨none,0,none,0,none,0,?_,?_,c6.out⟩
  ·unfold bK jY nO;simp only;rw[yN b7.out,yN b7.out,yN b7.out,e0.out];rfl
  ·unfold jY nO;simp only;rw[yN b7.out];exact GA _ _ _
def OY(b:Int)(ns:List Nd)(os:List Om)(c:Int)(v:Bool):Prop:=(qj b ns≠0->c=qj b ns/\v=false)/\(qj b ns=0-> ∀t:Fm,ns=t.flat->t.ok->(aT t≠[]->c=2/\v=false)/\(aT t=[]->c=(rT b os t).c/\v=if(rT b os t).c=0 then(rT b os t).E.getD 0 false else false))
theorem aeS(h1:1<=b)(J:t.ok)(h0:(rT b os t).c=0):0<(rT b os t).N.length:=by
 unfold rT at h0⊢;by_cases z:zy t.flat os b=0
 ·rw[yP z]at h0⊢;obtain⟨U,Z⟩:=Cz h1 z;exact(bS (Eh t J (Ei U t J Z) h0).auto).2.2.1.2.1
 ·rw[yN z]at h0;exact absurd h0 z
theorem OZ(b:Int)(a:zO)(n cap:Nat)(ns:List Nd)(a2:zO)(b6:Nat)(os:List Om)(w:zW)(hs:SlF w a n ns)(hc:n<=cap)(ho:SlO w a2 os.length os)(c:Int)(v:Bool)(hq:OY b ns os c v):Calls prog 4 #[.int .i64 b,.slice a n cap,.slice a2 os.length b6] w λe w'=>e=.returned (.tuple #[.bool v,bC c])/\Below w.heap.size w w':=by
 have J:=aj (Kg b a n cap ns w hs);by_cases h0:qj b ns=0
 ·obtain⟨⟨z,b0⟩,c5,t,rfl,b1⟩:=Ko h0
  obtain⟨b3,b2⟩:=hq.2 h0 t rfl b1;rw[h0,dz rfl]at J;have b4:=aj (λW (hb:Below w.heap.size w W)=>Sj a n cap t.flat W (dG hs hb) (aT t) 0 ⟨c5.symm,λh=>absurd rfl h,λt' h1 h2=>by rw[Kn b1 h2 h1]⟩);unfold ahR at b4;have a1:=aj (λW (hb:Below w.heap.size w W)=>Kh b z b0 t b1 a n cap a2 b6 os W (dG hs hb) hc (gK ho hb));unfold nD at a1;have a6:=aj (λh=>aeS (os:=os) z b1 h);have a8:=qL t;generalize rT b os t=q at a1 a6 b2;generalize aT t=vs at a1 b4 b3 b2 a8;clear hs hc ho b1 h0 hq z b0 c5;go_enter func4,ntmps4;go_wp2_with fail;refine J.out.mono ?_;rintro e w1 ⟨rfl,z⟩;have b7:=aj z;have c6:=aj (b4.out w1 z);clear z J b4;go_wp2_with fail;refine c6.out.mono ?_;rintro e w2 ⟨ah,ch,rfl,-,b0⟩;have b8:=aj (ak b7.out b0);clear b0 c6;rw[dz rfl];by_cases hv:vs=[]
  ·have U:=aj (b2 hv)
   have hl: ¬(vs.length:Int)>0:=(by rw[hv];decide);have c7:=aj (a1.out w2 b8.out);clear b3 b2 hv a1;go_wp2_with fail;refine c7.out.mono ?_;rintro e w3 ⟨d,cd,d1,b9,dv,dw,rfl,c8,c9⟩;have Z:=aj ((Below.refl w3.heap.size w3).alloc zr (mg (bK q.c b) (bK q.c (vs.length:Int)) d q.N.length cd d1 q.N.length b9 dv (jY q.c vs).length dw));have c0:=aj (zl w3 (mg (bK q.c b) (bK q.c (vs.length:Int)) d q.N.length cd d1 q.N.length b9 dv (jY q.c vs).length dw));have c3:=aj (ak (ak b8.out c9) Z.out);have b5:=aj (bD c8.here.1.2 Z.out);clear c8 c9 c7;generalize d3:w3.alloc (mg (bK q.c b) (bK q.c (vs.length:Int)) d q.N.length cd d1 q.N.length b9 dv (jY q.c vs).length dw)=w4 at Z c0 c3 b5;by_cases h0:q.c=0
   ·obtain⟨eb,eo,rfl,d0⟩:=jL b5.out 0 (a6.out h0);have d4:(0:Int)<(q.N.length:Int):=(by have:=a6.out h0;omega);obtain⟨⟨p0,p1,p2,p3,p4⟩,-⟩:=aI c0.out;have c4:Hid (q.c=0):=h0;rw[show bC q.c=.nilIface by rw[h0];rfl];rw[Nat.add_zero]at d0;clear a6 Z b5 a8 h0;go_wp2;go_ret2;exact⟨by rw[U.out.2,U.out.1,c4.out,yP rfl];rfl,c3.out⟩
   ·have a7:bC q.c=.iface 45 (.int .i64 q.c):=by unfold bC;rw[yN h0]
    have c4:Hid (q.c≠0):=h0;have d2:=aj a7;rw[a7];clear a6 Z b5 a8 h0 c0 a7;go_wp2;go_ret2;exact⟨by rw[U.out.2,U.out.1,yN c4.out,d2.out];rfl,c3.out⟩
  ·have U:=aj (b3 hv);have hl:(vs.length:Int)>0:=(by have:0<vs.length:=List.length_pos_iff.2 hv;omega);clear b3 b2 hv a1 a6;go_wp2;go_ret2;exact⟨by rw[U.out.2,U.out.1];rfl,b8.out⟩
 ·obtain⟨rfl,rfl⟩:=hq.1 h0
  have a7:bC (qj b ns)=.iface 45 (.int .i64 (qj b ns)):=by unfold bC;rw[yN h0]
  rw[a7]at J⊢;generalize qj b ns=W at J;clear hs hc ho hq a7 h0;go_enter func4,ntmps4;go_wp2_with fail;refine J.out.mono ?_;rintro e w1 ⟨rfl,z⟩;have b7:=aj z;clear z J;go_wp2;go_ret2;exact⟨rfl,b7.out⟩
theorem aeT{N:zL}{E:zB}{v:Bool}(hb:1<=b/\b<=6)(Z:t.ok)(z:ns=t.flat)(hf:(mG ns).2=0)(hw:zy ns os b=0)(hP:AU b os t 0 1 N E)(hv:E.getD 0 false=v):OY b ns os 0 v:=by
 have hc:qj b ns=0:=by unfold qj;rw[yP hb];exact hf
 refine⟨λh=>absurd hc h,λ_ U h1 h2=>?_⟩;have e:U=t:=Kn Z h2 (by rw[<-z,h1]);subst e;have h0:aT U=[]:=List.length_eq_zero_iff.1 hP.free;have J:rT b os U=⟨0,N,E⟩:=by unfold rT;rw[<-z,yP hw];exact hP.is
 exact⟨λh=>absurd h0 h,λ_=>⟨by rw[J],by rw[J,yP rfl];exact hv.symm⟩⟩
def aeU:zL:=[[0,1,2,1],[1,1,1,1],[1,0,1,2]]
def aeV:zB:=[true,false,false]
theorem aeW:fB 4 aeU aeV:=mF (W:=[[1],[]]) (by decide+kernel)
def aeX:Fm:=.gH ⟨1,0,0,0,0,0,[1,-2]⟩
theorem ako:aeX.ok:=⟨by decide+kernel,by decide⟩
theorem akp:AU 2 [] aeX 2 4 aeU aeV:=Xv (by decide) (C:=[1,-2]) (by decide+kernel) rfl (by decide+kernel) (by decide+kernel) aeW (by decide) (Xu (m:=4) (V:=[1506816,3013760,1520704]) (I:=[0,1,2]) (Ts:=[[0,1,2,1],[1,1,1,1],[1,0,1,2]]) (by decide+kernel) (by decide+kernel) aeW (by decide) (by decide+kernel))
def aeY:zL:=[[0,1],[0,1]]
def aeZ:zB:=[true,false]
theorem ae0:fB 2 aeY aeZ:=mF (W:=[[]]) (by decide+kernel)
theorem akq:iU 2 ((2:Nat):Int) 1 ⟨0,aeU,aeV⟩=⟨0,aeY,aeZ⟩:=N7 (m:=4) (mu:=2) (f:=3) (Rd:=[[0,1],[2,3]]) (V:=[3,6]) (I:=[0,1]) (Ts:=[[0,1],[0,1]]) (by decide+kernel) (by decide+kernel) (by decide+kernel) (by decide) aeW (by decide) ae0 (by decide) (by decide+kernel) rfl (by decide+kernel) (by decide+kernel) (by decide) (by decide+kernel)
def ae1:Fm:=.un ⟨8,1,0,0,0,0,[]⟩ aeX
theorem akr:ae1.ok:=⟨by decide+kernel,by decide,ako⟩
theorem ae2:AU 2 [] ae1 1 2 aeY aeZ:=QY (by decide) akp (by decide+kernel) (by decide+kernel) (by decide+kernel) (by decide+kernel) (by decide+kernel) ae0 (by decide) akq
def ae3:zL:=[[0,1,2,1],[1,1,1,1],[1,0,1,2]]
def ae4:zB:=[false,false,true]
theorem ae5:fB 4 ae3 ae4:=mF (W:=[[],[2]]) (by decide+kernel)
def ae6:Fm:=.gH ⟨1,0,0,0,0,-1,[1,-2]⟩
theorem aks:ae6.ok:=⟨by decide+kernel,by decide⟩
theorem akt:AU 2 [] ae6 2 4 ae3 ae4:=Xv (by decide) (C:=[1,-2]) (by decide+kernel) rfl (by decide+kernel) (by decide+kernel) ae5 (by decide) (Xu (m:=4) (V:=[1506816,3013760,1520704]) (I:=[0,1,2]) (Ts:=[[0,1,2,1],[1,1,1,1],[1,0,1,2]]) (by decide+kernel) (by decide+kernel) ae5 (by decide) (by decide+kernel))
def ae7:zL:=[[0,1],[0,1]]
def ae8:zB:=[false,true]
theorem ae9:fB 2 ae7 ae8:=mF (W:=[[]]) (by decide+kernel)
theorem aku:iU 2 ((2:Nat):Int) 1 ⟨0,ae3,ae4⟩=⟨0,ae7,ae8⟩:=N7 (m:=4) (mu:=2) (f:=3) (Rd:=[[0,1],[2,3]]) (V:=[3,6]) (I:=[0,1]) (Ts:=[[0,1],[0,1]]) (by decide+kernel) (by decide+kernel) (by decide+kernel) (by decide) ae5 (by decide) ae9 (by decide) (by decide+kernel) rfl (by decide+kernel) (by decide+kernel) (by decide) (by decide+kernel)
def VA:Fm:=.un ⟨8,1,0,0,0,0,[]⟩ ae6
theorem ajp:VA.ok:=⟨by decide+kernel,by decide,aks⟩
theorem VB:AU 2 [] VA 1 2 ae7 ae8:=QY (by decide) akt (by decide+kernel) (by decide+kernel) (by decide+kernel) (by decide+kernel) (by decide+kernel) ae9 (by decide) aku
def O1:zL:=[[0,0]]
def O4:zB:=[true]
theorem Kq:fB 2 O1 O4:=mF (W:=[]) (by decide+kernel)
theorem afa:Uw 2 ((1:Nat):Int) 2 O1 O4:=acW (by decide) (by decide+kernel) (by decide+kernel) Kq (acX Kq.good rfl rfl)
def VD:Fm:=.bin ⟨7,0,0,0,0,0,[]⟩ ae1 VA
theorem ajq:VD.ok:=⟨by decide+kernel,by decide,akr,ajp⟩
theorem ajr:AU 2 [] VD 1 2 O1 O4:=agy ae2 VB (vs:=[0]) (own:=[0]) (more:=[0]) (by decide+kernel) (by decide+kernel) (by decide+kernel) rfl (by decide+kernel) (by decide+kernel) Kq (by decide) (aiF (or:=true) (X:=[0,1]) (Y:=[0,1]) (V:=[0,3]) (I:=[0,0]) (Ts:=[[0,1],[0,1]]) afa ae2.code ae2.many VB.code VB.many ae0 (by decide) ae9 (by decide) Kq (by decide) (by decide) (by decide+kernel) (by decide+kernel) (by decide+kernel))
def VE:zL:=[[0,0]]
def VF:zB:=[false]
theorem afb:fB 2 VE VF:=mF (W:=[]) (by decide+kernel)
theorem ajs:gX 2 ((1:Nat):Int) ⟨0,O1,O4⟩=⟨0,VE,VF⟩:=Xr (V:=[0]) (I:=[0]) (Ts:=[[0,0]]) afa Kq (by decide) afb (by decide) (by decide+kernel)
def VG:zL:=[[0]]
def VH:zB:=[false]
theorem afc:fB 1 VG VH:=mF (W:=[]) (by decide+kernel)
theorem ajt:iU 2 ((1:Nat):Int) 0 ⟨0,VE,VF⟩=⟨0,VG,VH⟩:=N7 (m:=2) (mu:=1) (f:=1) (Rd:=[[0,1]]) (V:=[1]) (I:=[0]) (Ts:=[[0]]) (by decide+kernel) (by decide+kernel) (by decide+kernel) (by decide) afb (by decide) afc (by decide) (by decide+kernel) rfl (by decide+kernel) (by decide+kernel) (by decide) (by decide+kernel)
def O5:zL:=[[0]]
def O6:zB:=[true]
theorem O7:fB 1 O5 O6:=mF (W:=[]) (by decide+kernel)
theorem aju:Uw 2 ((0:Nat):Int) 1 O5 O6:=agw (by decide+kernel) (by decide+kernel) O7 (acX O7.good rfl rfl)
theorem ajv:gX 2 ((0:Nat):Int) ⟨0,VG,VH⟩=⟨0,O5,O6⟩:=Xr (V:=[0]) (I:=[0]) (Ts:=[[0]]) aju afc (by decide) O7 (by decide) (by decide+kernel)
def afd:Fm:=.un ⟨9,0,0,0,0,0,[]⟩ VD
theorem ajw:afd.ok:=⟨by decide+kernel,by decide,ajq⟩
theorem ajx:AU 2 [] afd 0 1 O5 O6:=agx (by decide) ajr (by decide+kernel) (by decide+kernel) (by decide+kernel) rfl (by decide+kernel) (by decide+kernel) O7 (by decide) ajs ajt ajv
theorem ahy:OY 2 [⟨9,0,0,0,0,0,[]⟩,⟨7,0,0,0,0,0,[]⟩,⟨8,1,0,0,0,0,[]⟩,⟨1,0,0,0,0,0,[1,-2]⟩,⟨8,1,0,0,0,0,[]⟩,⟨1,0,0,0,0,-1,[1,-2]⟩] [] 0 true:=aeT (by decide) ajw (by decide+kernel) (by decide+kernel) (by decide+kernel) ajx rfl
def afq:Prop:= ∀(n:Nd) (a:zO) (c:Nat) (U:zO) (m J:Nat) (os:List Om) (a3:zO) (l z:Nat) (nums:zI) (w:zW),Sl w a n.cf.length n.cf->SlO w U m os->Sl w a3 l nums->l<=z->qo n=0->(∀v:Nat,v<5->dI n ((v:Nat):Int)=true->v<l)-> ¬yg m n->(∀i,i<m->dJ (os.getD i dh).b (os.getD i dh).N (os.getD i dh).O=0)->mH nums=true->Calls prog 17 #[Bu n a c,.slice U m J,.slice a3 l z] w λe w'=>e=.returned (.tuple #[.bool (gY os nums n),.nilIface])/\Below w.heap.size w w'
def evC(ns:List Nd)(os:List Om)(nums:zI)(t:Fm):Int:=if qp ns=true then(if zy ns os 0=0 then nmC t nums else zy ns os 0)else 2
theorem EL(t:Fm)(h:qp t.flat=true):t.bare:=by
 induction t with
 |gH n=>simp[qp,Fm.flat]at h;exact h
 |un n f U=>
  simp only[qp,Fm.flat,List.all_cons,Bool.and_eq_true,decide_eq_true_eq]at h
  exact⟨h.1,U h.2⟩
 |bin n f g z J=>
  simp only[qp,Fm.flat,List.all_cons,List.all_append,Bool.and_eq_true,decide_eq_true_eq]at h
  exact⟨h.1,z h.2.1,J h.2.2⟩
theorem afr(t:Fm)(h:t.bare): ∀n∈t.flat,∀v:Int,dI n v=true->t.jd v=true:=by
 induction t with
 |gH m=>
  intro n z v hu
  simp[Fm.flat]at z
  subst z
  obtain⟨h1,h2⟩:=h
  unfold Fm.jd
  rw[yN (by omega)]
  exact hu
 |un m f Z=>
  intro n z v hu
  simp only[Fm.flat,List.mem_cons]at z
  obtain⟨⟨h1,h2⟩,h3⟩:=h
  unfold Fm.jd
  rw[yN (by omega)]
  rcases z with rfl|z
  ·rw[hu];rfl
  ·rw[Z h3 n z v hu];simp
 |bin m f g J U=>
  intro n z v hu
  simp only[Fm.flat,List.mem_cons,List.mem_append]at z
  obtain⟨⟨h1,h2⟩,h3,h4⟩:=h
  unfold Fm.jd
  rw[yN (by omega)]
  rcases z with rfl|z|z
  ·rw[hu];simp
  ·rw[J h3 n z v hu];simp
  ·rw[U h4 n z v hu];simp
theorem afs(h:zy ns os 0=0):os.length<=3/\(∀i,i<os.length->dJ (os.getD i dh).b (os.getD i dh).N (os.getD i dh).O=0)/\ ∀n∈ns,¬yg os.length n:=by
 unfold zy at h;by_cases h3:3<os.length
 ·rw[yP h3]at h;omega
 ·rw[yN h3]at h
  by_cases z:jl (os.map (Gv 0))=0
  ·rw[yP z]at h
   by_cases J:(ns.all λn=>decide (¬yg os.length n))=true
   ·refine⟨by omega,λi hi=>?_,λn Z=>?_⟩
    ·have:=oP _ z i (by simpa using hi)
     rw[zA 0 hi]at this;unfold Gv at this;by_cases U:dJ (os.getD i dh).b (os.getD i dh).N (os.getD i dh).O=0
     ·exact U
     ·rw[yN U]at this;exact this
    ·exact of_decide_eq_true (List.all_eq_true.1 J n Z)
   ·rw[yN J]at h;omega
  ·rw[yN z]at h;exact absurd h z
theorem SF(h:nmC t nums=0):(∀v:Nat,v<5->t.jd ((v:Nat):Int)=true->v<nums.length)/\mH nums=true:=by
 unfold nmC at h;by_cases hs:AP t nums.length=true
 ·rw[yP hs]at h;omega
 ·rw[yN hs]at h
  refine⟨λv hv J=>?_,?_⟩
  ·by_cases q:v<nums.length
   ·exact q
   ·exact absurd (M7 hv J (by omega)) hs
  ·by_cases z:mH nums=true
   ·exact z
   ·rw[yN z]at h;omega
theorem VN{W W':zW}{b:Nat}{T:TypeId}{n:Nat}{f:Nat->Value}(h:W.rowIs b T n f)(hb:Below W.heap.size W W'):W'.rowIs b T n f:=by obtain⟨c,hc,h2⟩:=h;exact⟨c,(hb.block _ (zG hc).1).trans hc,h2⟩
theorem aft{J:zW}{z n p:Nat}{S:zB}(h:J.rowIs z 4 n λq=>.bool (if q<p then S.getD q false else false))(v:Bool)(hv:S.getD p false=v):(J.setCell ⟨z,p,none⟩ (.bool v)).rowIs z 4 n λq=>.bool (if q<p+1 then S.getD q false else false):=
 (h.set _ _).congr λq _=>by
  by_cases U:q=p
  ·subst U;rw[yP rfl,yP (by omega),hv]
  ·rw[yN U]
   congr 1;by_cases Z:q<p
   ·rw[yP Z,yP (by omega)]
   ·rw[yN Z,yN (by omega)]
theorem afu{J:zW}{z n:Nat}{S:zB}(U:S.length=n)(Z:n<=100000000)(h:J.rowIs z 4 n λq=>.bool (if q<n then S.getD q false else false)):mR J (some ⟨z,0,none⟩) n S:=by refine⟨U,by unfold maxLen;omega,.inr ⟨z,0,rfl,λi hi=>?_⟩⟩;have h1:=h.cell (i:=i) hi;rw[yP hi]at h1;rw[Nat.zero_add,h1]
def EvR(w:zW)(b:Bool)(c:Int)(e:Ending)(w':zW):Prop:=e=.returned (.tuple #[.bool b,bC c])/\Below w.heap.size w w'
theorem VO(a:zO)(n cap:Nat)(ns:List Nd)(a2:zO)(m b1:Nat)(os:List Om)(a3:zO)(l U:Nat)(nums:zI)(w:zW)(hs:SlF w a n ns)(ho:SlO w a2 m os)(h3:Sl w a3 l nums)(i2:l<=U)(t:Fm)(c5:t.ok)(he:ns=t.flat)(hn:n<=40)(hz:(mG ns).2=0)(f3:afq):Calls prog 7 #[.slice a n cap,.slice a2 m b1,.slice a3 l U] w (EvR w (decide (evC ns os nums t=0)&&t.yh os nums) (evC ns os nums t)):=by
 have hL:=hs.1;have f5:=ho.1;have f6:=h3.1;have d6:=aj (wG a n cap ns w hs);rw[hz,show bC 0=.nilIface from rfl]at d6;have c0: ∀x∈ns,qo x=0:=by rw[he];exact aiy t c5
 have i5:=aj (λW (h1:SlF W a n ns) (h2:SlO W a2 m os)=>KD a n cap ns a2 m b1 os W h1 h2 c0);have i6:=aj (λW (h1:SlF W a n ns) (h2:Sl W a3 l nums)=>KU a n cap ns a3 l U nums W h1 h2 hn t c5 he);have i7:=aj (λop W=>Mr op W);have i8:=aj (λk (hk:k<n)=>aaP ns (k:=k) (by omega));have i9:=aj (λk (hk:k<n)=>ahF (ns:=ns) (k:=k) (by omega));have j0:Hid (ns.take n=ns):=by show _=_;rw[<-hL];exact List.take_length
 have HS:=aj hs;have HO:=aj ho;have H3:=aj h3;have c6:Hid (evC ns os nums t=if qp ns=true then(if zy ns os 0=0 then nmC t nums else zy ns os 0)else 2):=rfl
 have f7:Hid (qp ns=true->zy ns os 0=0->nmC t nums=0-> ∀(k:Nat),k<n-> ∀(a':zO) (c':Nat) (W:zW),Sl W a' (ns.getD k oL).cf.length (ns.getD k oL).cf->SlO W a2 m os->Sl W a3 l nums->Calls prog 17 #[Bu (ns.getD k oL) a' c',.slice a2 m b1,.slice a3 l U] W λe w'=>e=.returned (.tuple #[.bool (gY os nums (ns.getD k oL)),.nilIface])/\Below W.heap.size W w'):=λhb hw hm k hk a' c' W g1 g2 g3=>by
  have c3:ns.getD k oL∈ns:=by simp[List.getD,show k<ns.length by omega]
  obtain⟨-,hO,hW⟩:=afs hw;obtain⟨hf,hq⟩:=SF hm;rw[f5]at hO hW;exact f3 (ns.getD k oL) a' c' a2 m b1 os a3 l U nums W g1 g2 g3 i2 (c0 _ c3) (λv hv hu=>by rw[<-f6];exact hf v hv (afr t (EL t (by rw[<-he];exact hb)) _ (by rw[<-he];exact c3) _ hu)) (hW _ c3) hO hq
 have d7:Hid (qp ns=true-> ∀(W:zW) (a4:zO) (c4:Nat),SlF W a n ns->mR W a4 n (ns.map (gY os nums))->Calls prog 18 #[.slice a n cap,.slice a4 n c4] W λe w'=>e=.returned (.bool (t.yh os nums))/\Below W.heap.size W w'):=λhb W a4 c4 g1 g2=>afn a n cap ns a4 c4 os nums W g1 g2 hn t c5 (EL t (by rw[<-he];exact hb)) he;have j1:Hid ((ns.map (gY os nums)).length=n):=by show _=_;simpa using hL
 have j2:Hid (∀k,k<n->(ns.map (gY os nums)).getD k false=gY os nums (ns.getD k oL)):=λk hk=>by simp[List.getD,show k<ns.length by omega]
 have k3:=Im n (by omega);clear hs ho h3 c5 he hz f3 c0 hL f5 f6;generalize evC ns os nums t=C at c6⊢;generalize t.yh os nums=T at d7⊢;go_enter func7,ntmps7;go_wp2_with fail;refine d6.out.mono ?_;rintro e w1 ⟨rfl,f8⟩;have j3:=aj f8;clear f8 d6;generalize(mG ns).1=f1;go_wp2;go_loopw[29] (λkv wx=> ∃k:Nat,k<=n/\kv=.int .i64 k/\qp (ns.take k)=true/\Below w.heap.size w wx) (λkv _=>n-(intOf kv).toNat);case atStart=>exact⟨0,by omega,rfl,rfl,j3.out⟩
 case round=>
  obtain⟨k,hk,rfl,hb,b4⟩:=hrel;have d8:=aj hb;have Z:=aj b4;clear hb b4;by_cases d9:k<n
  ·have i4:(k:Int)<(n:Int):=by omega
   obtain⟨bb,oo,a',c',rfl,x0,x1,x2,x3,x4,x5,x6,a7⟩:=jB (dG HS.out Z.out) k d9;have c7:=aj (i8.out k d9);have c8:=aj (i9.out k d9);generalize ns.getD k oL=nd at x0 x1 x2 x3 x4 x5 x6 a7 c7 c8;have f9:=aj (Z.out.alloc Z.out.size (lK nd a' c'));have b2:=aj (λW=>i7.out nd.op W);clear a7;by_cases h8:nd.op=8\/nd.op=9
   ·rw[yT h8]at b2;have j4:Hid (C=2):=(by show _=_;rw[c6.out,c8.out h8,yN (by decide)]);clear h8 c7 c8;go_wp2_with (go_at_call 14;refine(b2.out _).mono ?_;rintro e w' ⟨rfl,b5⟩;rw[b5];clear b5 w');go_ret2;exact⟨by rw[j4.out];rfl,f9.out⟩
   ·rw[yF h8]at b2
    have j5:Hid (qp (ns.take (k+1))=true):=(by show _=_;rw[c7.out,d8.out];simp;omega);clear h8 c7 c8;go_wp2_with (go_at_call 14;refine(b2.out _).mono ?_;rintro e w' ⟨rfl,b5⟩;rw[b5];clear b5 w');go_roundw;case rel=>exact⟨k+1,by omega,by go_num,j5.out,f9.out⟩
    case measure=>simp[intOf];omega
  ·have i4: ¬(k:Int)<(n:Int):=by omega
   obtain rfl:k=n:=(by omega);have b6:=d8.out;rw[j0.out]at b6;have c9:=aj (f7.out b6);have j6:=aj (d7.out b6);have e0:=c6.out;rw[yP b6]at e0;have b7:=aj e0;clear b6 e0 d8 f7 d7 c6;obtain⟨wo,g4⟩: ∃wo:zW,wo=wr:=⟨_,rfl⟩;rw[<-g4]at Z⊢;clear g4 wr;have e1:=aj (i5.out wo (dG HS.out Z.out) (gK HO.out Z.out));generalize zy ns os 0=e2 at e1 b7 c9;go_wp2_with fail;refine e1.out.mono ?_;rintro e w2 ⟨rfl,g5⟩;have d0:=aj (ak Z.out g5);clear g5 e1;by_cases J:e2=0
   ·have a1:=b7.out
    rw[yP J]at a1;have d1:=aj (c9.out J);rw[J,show bC 0=.nilIface from rfl];have a8:=aj a1;clear J a1 b7 c9;have e3:=aj (i6.out w2 (dG HS.out d0.out) (aF H3.out d0.out));generalize nmC t nums=nc at e3 a8 d1;go_wp2_with fail;refine e3.out.mono ?_;rintro e z ⟨rfl,g6⟩;have d2:=aj (ak d0.out g6);clear g6 e3;by_cases b0:nc=0
    ·have j7:=aj (d1.out b0)
     rw[b0]at a8⊢;rw[show bC 0=.nilIface from rfl];clear b0 d1;have g7:=(Below.refl z.heap.size z).alloc zr (.cells (madeCells #[.bool false] k) 4)
     have e4:Hid (((z.alloc (.cells (madeCells #[.bool false] k) 4)).rowIs z.heap.size 4 k λq=>.bool (if q<0 then(ns.map (gY os nums)).getD q false else false))/\Below z.heap.size z (z.alloc (.cells (madeCells #[.bool false] k) 4))):=
      ⟨(World.rowIs_made z (.bool false) k 4).congr λq _=>by simp,g7⟩
     clear g7;go_wp2;generalize z.alloc (.cells (madeCells #[.bool false] k) 4)=wI at e4⊢;go_loopw[55] (λi wx=> ∃p:Nat,p<=k/\i=.int .i64 p/\(wx.rowIs z.heap.size 4 k λq=>.bool (if q<p then(ns.map (gY os nums)).getD q false else false))/\Below z.heap.size z wx) (λi _=>k-(intOf i).toNat);case atStart=>exact⟨0,by omega,rfl,e4.out⟩
     case round=>
      obtain⟨p,hp,rfl,g8,b4⟩:=hrel;have e5:=aj g8;have d3:=aj b4;clear g8 b4 e4;by_cases b3:p<k
      ·have f2:(p:Int)<(k:Int):=by omega
       have d4:=ak d2.out d3.out;obtain⟨bb,oo,a',c',rfl,x0,x1,x2,x3,x4,x5,x6,a7⟩:=jB (dG HS.out d4) p b3;have b8:=(Below.refl wr.heap.size wr).alloc zr (lK (ns.getD p oL) a' c');have b9:=aj (j7.out p b3 a' c' (wr.alloc (lK (ns.getD p oL) a' c')) (aF a7 b8) (gK HO.out (ak d4 b8)) (aF H3.out (ak d4 b8)));have e6:=aj (j2.out p b3);have d5:=aj b8;unfold Bu at b9;generalize ns.getD p oL=nd at x0 x1 x2 x3 x4 x5 x6 a7 b9 e6 d5;clear a7 d4 b8;generalize gY os nums nd=hv at b9 e6;have g9:=aj (zl wr (lK nd a' c'));generalize j8:wr.alloc (lK nd a' c')=Wa at b9 d5 g9;obtain⟨⟨z0,z1,z2,z3,z4,z5,z6⟩,-⟩:=bU g9.out;go_wp2_with fail;clear j8 x0 x1 x2 x3 x4 x5 x6 z0 z1 z2 z3 z4 z5 z6;refine b9.out.mono ?_;rintro e w5 ⟨rfl,e7⟩;have e8:=aj (VN e5.out (ak d5.out e7));have j9:=aj (ak d3.out (ak d5.out e7));have k4:=e8.out.cell (i:=p) b3;have k5:=e8.out.frozen p;clear e7;go_wp2;go_roundw;case rel=>exact⟨p+1,by omega,by go_num,aft e8.out hv e6.out,j9.out.setCell zr _⟩
       case measure=>simp[intOf];omega
      ·have f2: ¬(p:Int)<(k:Int):=by omega
       obtain rfl:p=k:=(by omega);have HJ:=aj (j6.out wr (some ⟨z.heap.size,0,none⟩) p (dG HS.out (ak d2.out d3.out)) (afu j1.out (by omega) e5.out));clear e5;go_wp2_with fail;refine HJ.out.mono ?_;rintro e w6 ⟨rfl,i1⟩;have k0:=aj (ak d2.out (ak d3.out i1));clear i1 HJ;go_wp2;go_ret2;exact⟨by rw[a8.out];rfl,k0.out⟩
    ·have a6:bC nc=.iface 45 (.int .i64 nc):=by unfold bC;rw[yN b0]
     rw[a6];have e9:=aj a6;have f0:=aj (yF b0);clear b0 a6 d1;go_wp2;go_ret2;exact⟨by rw[a8.out,f0.out,e9.out];rfl,d2.out⟩
   ·have a1:=b7.out;rw[yN J]at a1;have a8:=aj a1;have a6:bC e2=.iface 45 (.int .i64 e2):=(by unfold bC;rw[yN J]);rw[a6];have e9:=aj a6;have f0:=aj (yF J);clear J a6 a1 b7 c9;go_wp2;go_ret2;exact⟨by rw[a8.out,f0.out,e9.out];rfl,d0.out⟩
theorem aaQ{n:Int}(h:iQ b n=0){d:zI}(J:bI d=zU b n):mo b d=n:=by obtain⟨⟨⟨h1,z⟩,h0,h2⟩,-⟩:=Au h;have hg:=GZ b n h1 z h0 h2;have hv:=afE b n;have:=afg h1 z (zU b n) (λx hx=>by unfold gZ at hg;rw[List.all_eq_true]at hg;have:=hg x hx;simp at this;exact this.1) (by rw[hv];exact h2);rw[<-Bq,J,this.2,hv]
theorem ahG{ws:List Om}{D:Int->zI}: ∀t:Fm,t.ok->Mh t->atB b ws t->(∀v,0<=v->v<5->t.jd v=true->iQ b (nums.getD v.toNat 0)=0/\bI (D v)=zU b (nums.getD v.toNat 0))->(t.sem b ws D↔t.yh ws nums=true):=by
 intro t;induction t with
 |gH n=>
  intro J _ U h
  obtain⟨hr,-⟩:=dH J.1
  have h4:=qI hr.1 J.2
  have hu: ∀v,(Fm.gH n).jd v=dI n v:=λv=>by show(if(n.op=8\/n.op=9)/\n.var=v then false else dI n v)=_;rw[yN (by omega)]
  show tJ b ws n D=true↔gY ws nums n=true
  suffices e:tJ b ws n D=gY ws nums n by rw[e]
  unfold tJ
  by_cases h1:n.op=1\/n.op=2
  ·rw[yP h1]
   have h5:=(hr.2.2.2.2.2.2 h1).1
   have e:iH n.cf (λi=>(MZ b D).getD i 0) n.cf.length=iH n.cf (λi=>nums.getD i 0) n.cf.length:=FE λi hi=>by
    by_cases z:n.cf.getD i 0=0
    ·exact .inl z
    ·right;have h3:(Fm.gH n).jd (i:Int)=true:=(by rw[hu];unfold dI;rw[yP h1,Bool.and_eq_true,decide_eq_true_iff,decide_eq_true_iff,Int.toNat_natCast];exact⟨by omega,z⟩);have e1:=Di b D (v:=(i:Int)) ⟨by omega,by omega⟩;rw[Int.toNat_natCast]at e1;obtain⟨g1,g2⟩:=h (i:Int) (by omega) (by omega) h3;rw[Int.toNat_natCast]at g1 g2;rw[e1];exact aaQ g1 g2
   rw[e]
   unfold gY
   rcases h1 with q|q
   ·rw[yP q,yF (by omega)]
   ·rw[yN (by omega),yP q,yT q]
  ·rw[yN h1]
   unfold gY
   rw[yN (λq=>h1 (.inl q)),yN (λq=>h1 (.inr q))]
   by_cases h3:n.op=3
   ·rw[yP h3,yP h3]
    have hv:=hr.2.1 (.inl h3)
    obtain⟨-,g2⟩:=h n.var hv.1 hv.2 (by rw[hu];unfold dI;rw[yN h1];simp[h3])
    rw[g2,U.1 (.inl h3)]
    rfl
   ·have Z:n.op=4:=by omega
    rw[yN h3,yN h3,yP Z]
    have hv:=hr.2.1 (.inr (.inl Z))
    have ho:=hr.2.2.1 Z
    obtain⟨-,g2⟩:=h n.var hv.1 hv.2 (by rw[hu];unfold dI;rw[yN h1];simp[Z])
    obtain⟨-,g3⟩:=h n.gV ho.1 ho.2 (by rw[hu];unfold dI;rw[yN h1];simp[Z])
    rw[g2,g3,U.1 (.inr Z),U.2 Z]
    rfl
 |un n f ih=>
  intro J hb U h
  rw[GR hb.1,ih J.2.2 hb.2 U (λv h0 h5 hv=>h v h0 h5 (by have hu:dI n v=false:=(by unfold dI;rw[yN (by have:=hb.1;omega)];have:=hb.1;simp;omega);show(if(n.op=8\/n.op=9)/\n.var=v then false else dI n v||f.jd v)=true;rw[yN (by have:=hb.1;omega),hu,hv];rfl))]
  show¬_↔(!f.yh ws nums)=true
  cases f.yh ws nums<;>simp
 |bin n f g a2 a6=>
  intro J hb U h
  have a7:=Cy J.2.1
  have a1: ∀v,(Fm.bin n f g).jd v=(f.jd v||g.jd v):=λv=>by have hu:dI n v=false:=(by unfold dI;rw[yN (by omega)];simp;omega);show(if(n.op=8\/n.op=9)/\n.var=v then false else dI n v||f.jd v||g.jd v)=_;rw[yN (by omega),hu,Bool.false_or]
  have e1:=a2 J.2.2.1 hb.1 U.1 λv h0 h5 hv=>h v h0 h5 (by rw[a1,hv];rfl)
  have e2:=a6 J.2.2.2 hb.2 U.2 λv h0 h5 hv=>h v h0 h5 (by rw[a1,hv,Bool.or_true])
  show(if n.op=6 then f.sem b ws D/\g.sem b ws D else f.sem b ws D\/g.sem b ws D)↔(if n.op=6 then f.yh ws nums&&g.yh ws nums else f.yh ws nums||g.yh ws nums)=true
  rw[e1,e2]
  by_cases q:n.op=6
  ·rw[yP q,yP q,Bool.and_eq_true]
  ·rw[yN q,yN q,Bool.or_eq_true]
def Gh(b:Int)(vs nums:zI):Int->zI:=λv=>if v∈vs then oO b (nums.getD v.toNat 0)else[]
theorem ahH(h: ∀v∈vs,iQ b (nums.getD v.toNat 0)=0):vo b (Gh b vs nums):=by
 refine⟨λv=>?_,λv=>?_⟩
 ·unfold Gh
  split
  ·exact Dz b _
  ·rfl
 ·unfold Gh
  split
  ·rename_i hv;obtain⟨⟨-,p1,p2⟩,e⟩:=Au (h v hv);rw[e];exact Tf b _ p1 p2
  ·exact wQ b
theorem ahI(b n:Int):bI (zU b n)=zU b n:=by
 obtain⟨j,h⟩:=Fg (iW b n 60);unfold zU;conv=>rhs;rw[h]
 rw[TW]
theorem ahJ{v:Int}(hv:v∈vs)(h:iQ b (nums.getD v.toNat 0)=0):bI (Gh b vs nums v)=zU b (nums.getD v.toNat 0):=by unfold Gh;rw[yP hv,(Au h).2,ahI]
theorem afv(b:Int)(vs nums:zI):nC b (vs.map λv=>nums.getD v.toNat 0)=iN b (nR (iK b (vs.map λv=>nums.getD v.toNat 0))) (Gh b vs nums) vs/\ ∀v,(Gh b vs nums v).length<=nR (iK b (vs.map λv=>nums.getD v.toNat 0)):=by
 have z:iK b (vs.map λv=>nums.getD v.toNat 0)=vs.map (Gh b vs nums):=by unfold iK;rw[List.map_map];apply List.map_congr_left;intro v hv;show oO b _=Gh b vs nums v;unfold Gh;rw[yP hv]
 refine⟨?_,λv=>?_⟩
 ·unfold nC iN;rw[z]
 ·by_cases hv:v∈vs
  ·exact abJ _ _ (by rw[z];exact List.mem_map.2 ⟨v,hv,rfl⟩)
  ·unfold Gh;rw[yN hv];exact Nat.zero_le _
theorem aaR{p:Pv}{F:(Int->zI)->Prop}(h:yL b vs p F){w:zI}(z:ql (aD b (vs.length:Int)).toNat w=0):tK b (vs.length:Int) p.N p.E w=gP p.N p.E w/\wY b (vs.length:Int) p.N p.N.length w=0:=ac3 h.well.auto h.well.len z
theorem afw(z:t.ok)(h:t.bare):Mh t:=by
 induction t with
 |gH n=>trivial
 |un n f Z=>
  have:=uT z.2.1
  exact⟨by have:=h.1;omega,Z z.2.2 h.2⟩
 |bin n f g J U=>exact⟨J z.2.2.1 h.2.1,U z.2.2.2 h.2.2⟩
theorem Yl(J:ns=t.flat)(U:t.ok)(h:evC ns os nums t=0):Mh t/\(∀v∈aT t,v.toNat<nums.length)/\mH nums=true:=by
 unfold evC at h;by_cases hb:qp ns=true
 ·rw[yP hb]at h
  by_cases z:zy ns os 0=0
  ·rw[yP z]at h;obtain⟨h1,h2⟩:=SF h;refine⟨afw U (EL t (by rw[<-J];exact hb)),λv hv=>?_,h2⟩;obtain⟨hr,Z⟩:=(fK t v).1 hv;have e:((v.toNat:Nat):Int)=v:=(by omega);exact h1 v.toNat (by omega) (by rw[e];exact Z)
  ·rw[yN z]at h;exact absurd h z
 ·rw[yN hb]at h;omega
theorem Dk(h1:1<=b)(z:b<=6)(h:mH nums=true)(i:Nat):iQ b (nums.getD i 0)=0:=by
 unfold iQ;rw[yP];refine⟨⟨h1,z⟩,?_⟩;by_cases hi:i<nums.length
 ·exact uR h hi
 ·rw[Jf (by omega)];omega
theorem VP(h1:1<=b)(Z:b<=6)(a8:ns=t.flat)(z:t.ok)(U:(rT b os t).c=0)(he:evC ns os nums t=0):
  lZ b ((aT t).map λv=>nums.getD v.toNat 0)=0/\wY b ((aT t).length:Int) (rT b os t).N (rT b os t).N.length (nC b ((aT t).map λv=>nums.getD v.toNat 0))=0/\tK b ((aT t).length:Int) (rT b os t).N (rT b os t).E (nC b ((aT t).map λv=>nums.getD v.toNat 0))=t.yh os nums:=by
 obtain⟨hb,b5,J⟩:=Yl a8 z he
 unfold rT at U⊢
 by_cases hw:zy t.flat os b=0
 ·rw[yP hw]at U⊢
  obtain⟨b0,b1⟩:=Cz h1 hw
  have a1:=Ei b0 t z b1
  have hS:=ahD t z a1 U
  obtain⟨w1,w2⟩:=afv b (aT t) nums
  have b2: ∀v∈aT t,iQ b (nums.getD v.toNat 0)=0:=λv _=>Dk h1 Z J _
  have hE:=ahH (b:=b) (vs:=aT t) (nums:=nums) b2
  have a7:=hS.sem _ _ hE w2
  have b3:=ahG (b:=b) (ws:=os) (nums:=nums) (D:=Gh b (aT t) nums) t z hb a1 λv h0 h5 hv=>⟨Dk h1 Z J _,ahJ ((fK t v).2 ⟨⟨h0,h5⟩,hv⟩) (Dk h1 Z J _)⟩
  have a2:lZ b ((aT t).map λv=>nums.getD v.toNat 0)=0:=by unfold lZ;rw[yP (by rw[List.length_map];exact hS.code)];refine qQ _ λj hj=>?_;rw[List.length_map,List.length_map]at hj;have e:(((aT t).map λv=>nums.getD v.toNat 0).map (iQ b)).getD j 0=iQ b (nums.getD ((aT t)[j]).toNat 0):=(by simp[List.getD,hj]);rw[e];exact Dk h1 Z J _
  have a6:=TN a2
  rw[List.length_map]at a6
  have b4:ql (aD b ((aT t).length:Int)).toNat (nC b ((aT t).map λv=>nums.getD v.toNat 0))=0:=by obtain⟨-,g1,g2⟩:=Ti a6;unfold ql;rw[yN (by omega),yP];unfold afF at g2;rw[List.all_eq_true]at g2⊢;intro x hx;have:=of_decide_eq_true (g2 x hx);exact yT (by omega)
  obtain⟨t1,t2⟩:=aaR hS b4
  refine⟨a2,t2,?_⟩
  rw[t1,Bool.eq_iff_iff,<-b3,<-a7,<-w1]
 ·rw[yN hw]at U
  exact absurd U hw
theorem ahM(h:n.op=3):gY os nums n=decide (AL (os.getD n.wd.toNat dh).b (os.getD n.wd.toNat dh).N (os.getD n.wd.toNat dh).O (nums.getD n.var.toNat 0)=n.num):=by unfold gY;rw[yN (by omega),yN (by omega),yP h]
theorem aaS(h:n.op=4):gY os nums n=decide (AL (os.getD n.wd.toNat dh).b (os.getD n.wd.toNat dh).N (os.getD n.wd.toNat dh).O (nums.getD n.var.toNat 0)=AL (os.getD n.wd2.toNat dh).b (os.getD n.wd2.toNat dh).N (os.getD n.wd2.toNat dh).O (nums.getD n.gV.toNat 0)):=by unfold gY;rw[yN (by omega),yN (by omega),yN (by omega),yP h]
theorem ahN(h:n.op=1\/n.op=2):gY os nums n=jQ n.num (n.op==2) (iH n.cf (λi=>nums.getD i 0) n.cf.length):=by
 unfold gY;rcases h with h|h
 ·rw[yP h,h];rfl
 ·rw[yN (by omega),yP h,h];rfl
theorem ahO(h:5<=n.op):gY os nums n=false:=by unfold gY;rw[yN (by omega),yN (by omega),yN (by omega),yN (by omega)]
theorem VQ{m:Om}{x:Int}(h:dJ m.b m.N m.O=0)(hx:0<=x/\x<=1099511627776):Zj m.b m.N m.O x 1099511627776=0/\atV m.b m.N m.O x=AL m.b m.N m.O x:=by
 have e:Zj m.b m.N m.O x 1099511627776=0:=by unfold Zj;rw[yP h,yP hx]
 exact⟨e,by unfold atV;rw[yP e]⟩
theorem aaT(n:Nd)(a:zO)(c:Nat)(a2:zO)(m b5:Nat)(os:List Om)(a3:zO)(l b6:Nat)(nums:zI)(w:zW)(hs:Sl w a n.cf.length n.cf)(ho:SlO w a2 m os)(h3:Sl w a3 l nums)(a6:qo n=0)(a7: ∀v:Nat,v<5->dI n ((v:Nat):Int)=true->v<l)(a8: ¬yg m n)(hO: ∀i,i<m->dJ (os.getD i dh).b (os.getD i dh).N (os.getD i dh).O=0)(b0:mH nums=true)(J:n.op=3):Calls prog 17 #[Bu n a c,.slice a2 m b5,.slice a3 l b6] w λe w'=>e=.returned (.tuple #[.bool (gY os nums n),.nilIface])/\Below w.heap.size w w':=by
 obtain⟨hr,b7⟩:=dH a6;have hop:=hr.1;have b8:=(Below.refl w.heap.size w).alloc zr (lK n a c);have Z:=aj b8;have HX:=aj (zl w (lK n a c));unfold Bu;generalize b9:w.alloc (lK n a c)=W1 at Z HX;obtain⟨z0,z1,z2,z3,z4,z5,z6⟩:=(bU HX.out).1;have c0:=aj (aF h3 Z.out);have c3:=aj (gK ho Z.out);have HS:=aj (aF hs Z.out);have d2:=h3.1;have c5:=h3.2.1;unfold maxLen at c5;have c6:=ho.2.1;unfold maxLen at c6;have hv:=hr.2.1 (.inl J);have c7:=hr.2.2.2.1 (.inl J);obtain⟨q,hq⟩: ∃q:Nat,n.var=(q:Int):=⟨n.var.toNat,by omega⟩;obtain⟨u,hu⟩: ∃u:Nat,n.wd=(u:Int):=⟨n.wd.toNat,by omega⟩;have c8:q<l:=a7 q (by omega) (by unfold dI;rw[yN (by omega)];simp[J,hq])
 have b1:u<m:=by
  by_cases h:u<m
  ·exact h
  ·exact absurd (show yg m n from .inl ⟨.inl J,by omega⟩) a8
 have d0:(q:Int)<(l:Int):=by omega
 have d1:(u:Int)<(m:Int):=by omega
 have HH:=aj (ahM (os:=os) (nums:=nums) J);rw[hq,hu,Int.toNat_natCast,Int.toNat_natCast]at HH;obtain⟨b3,o3,rfl,c9⟩:=bH c0.out q c8;obtain⟨b2,o2,a1,c1,a4,c4,rfl,x0,x1,x2,y1,y2⟩:=pz c3.out u b1;obtain⟨g1,g2⟩:=VQ (hO u b1) (uR b0 (by omega):0<=nums.getD q 0/\nums.getD q 0<=1099511627776);have U:=aj (λW (hb:Below W1.heap.size W1 W)=>yM (os.getD u dh).b a1 (os.getD u dh).N.length c1 a4 (os.getD u dh).O.length c4 (os.getD u dh).N (os.getD u dh).O (nums.getD q 0) W (aG y1 hb) (aF y2 hb));unfold lH at U;rw[g1,g2]at U;generalize os.getD u dh=om at*;generalize nums.getD q 0=x at*;generalize AL om.b om.N om.O x=sv at U HH;generalize gY os nums n=R at HH⊢;have t1:(n.op==1)=false:=by simp[J]
 have t2:(n.op==2)=false:=by simp[J]
 have t3:(n.op==3)=true:=by simp[J]
 rw[show bC 0=.nilIface from rfl]at U;have HQ:=aj hq;have HU:=aj hu;clear hr b7 hop hs ho h3 a6 a7 a8 hO b0 J hv c7 g1 g2 y1 y2;rw[hq]at z1;rw[hu]at z3;clear hq hu;go_enter func17,ntmps17;go_wp2_with fail;go_region_with (go_at_call 32;refine(U.out _ (zb.drew)).mono ?_;rintro e w2 ⟨rfl,z⟩;have b4:Hid (Below W1.heap.size W1 w2):=⟨z.os,z.tape,z.output,z.size,z.block⟩;clear z)
 all_goals
  clear b9 x0 x1 x2 z0 z1 z2 z3 z4 z5 z6 c9;obtain⟨z0,z1,z2,z3,z4,z5,z6⟩:=(bU ((b4.out.block _ (zG HX.out).1).trans HX.out)).1;go_wp2;go_ret2;exact⟨by rw[HH.out];rfl,ak Z.out b4.out⟩
theorem aaU(n:Nd)(a:zO)(c:Nat)(a2:zO)(m d2:Nat)(os:List Om)(a3:zO)(l d3:Nat)(nums:zI)(w:zW)(hs:Sl w a n.cf.length n.cf)(ho:SlO w a2 m os)(h3:Sl w a3 l nums)(c0:qo n=0)(b4: ∀v:Nat,v<5->dI n ((v:Nat):Int)=true->v<l)(b5: ¬yg m n)(hO: ∀i,i<m->dJ (os.getD i dh).b (os.getD i dh).N (os.getD i dh).O=0)(b6:mH nums=true)(U:n.op=4):Calls prog 17 #[Bu n a c,.slice a2 m d2,.slice a3 l d3] w λe w'=>e=.returned (.tuple #[.bool (gY os nums n),.nilIface])/\Below w.heap.size w w':=by
 obtain⟨hr,d6⟩:=dH c0;have hop:=hr.1;have d7:=(Below.refl w.heap.size w).alloc zr (lK n a c);have HB:=aj d7;have HX:=aj (zl w (lK n a c));unfold Bu;generalize d8:w.alloc (lK n a c)=W1 at HB HX;obtain⟨z0,z1,z2,z3,z4,z5,z6⟩:=(bU HX.out).1;have c3:=aj (aF h3 HB.out);have c7:=aj (gK ho HB.out);have HS:=aj (aF hs HB.out);have f8:=h3.1;have d9:=h3.2.1;unfold maxLen at d9;have e0:=ho.2.1;unfold maxLen at e0;have hv:=hr.2.1 (.inr (.inl U));have e1:=hr.2.2.2.1 (.inr U);have e2:=hr.2.2.1 U;have d4:=hr.2.2.2.2.1 U;obtain⟨q,hq⟩: ∃q:Nat,n.var=(q:Int):=⟨n.var.toNat,by omega⟩;obtain⟨u,hu⟩: ∃u:Nat,n.wd=(u:Int):=⟨n.wd.toNat,by omega⟩;obtain⟨Z,a8⟩: ∃q:Nat,n.gV=(q:Int):=⟨n.gV.toNat,by omega⟩;obtain⟨z,b7⟩: ∃u:Nat,n.wd2=(u:Int):=⟨n.wd2.toNat,by omega⟩;have e3:q<l:=b4 q (by omega) (by unfold dI;rw[yN (by omega)];simp[U,hq]);have d5:Z<l:=b4 Z (by omega) (by unfold dI;rw[yN (by omega)];simp[U,a8])
 have c8:u<m:=by
  by_cases h:u<m
  ·exact h
  ·exact absurd (show yg m n from .inl ⟨.inr U,by omega⟩) b5
 have b8:z<m:=by
  by_cases h:z<m
  ·exact h
  ·exact absurd (show yg m n from .inr ⟨U,by omega⟩) b5
 have f6:(q:Int)<(l:Int):=by omega
 have f7:(u:Int)<(m:Int):=by omega
 have f3:(Z:Int)<(l:Int):=by omega
 have f5:(z:Int)<(m:Int):=by omega
 have HH:=aj (aaS (os:=os) (nums:=nums) U);rw[hq,hu,a8,b7,Int.toNat_natCast,Int.toNat_natCast,Int.toNat_natCast,Int.toNat_natCast]at HH;obtain⟨g1,g2⟩:=VQ (hO u c8) (uR b6 (by omega):0<=nums.getD q 0/\nums.getD q 0<=1099511627776);obtain⟨c9,d0⟩:=VQ (hO z b8) (uR b6 (by omega):0<=nums.getD Z 0/\nums.getD Z 0<=1099511627776);obtain⟨b3,o3,rfl,e5⟩:=bH c3.out q e3;obtain⟨b2,o2,a1,c1,a4,c4,rfl,x0,x1,x2,y1,y2⟩:=pz c7.out u c8;have b0:=aj (λW (hb:Below W1.heap.size W1 W)=>yM (os.getD u dh).b a1 (os.getD u dh).N.length c1 a4 (os.getD u dh).O.length c4 (os.getD u dh).N (os.getD u dh).O (nums.getD q 0) W (aG y1 hb) (aF y2 hb));unfold lH at b0;rw[g1,g2,show bC 0=.nilIface from rfl]at b0;have d1:Hid (∀W2,Below W1.heap.size W1 W2-> ∃a5 c5 a6 c6,(W2.cell? ⟨b3,o3+Z,none⟩=some (.int .i64 (nums.getD Z 0))/\W2.cell? ⟨b2,o2+z*3,none⟩=some (.int .i64 (os.getD z dh).b)/\W2.cell? ⟨b2,o2+z*3+1,none⟩=some (.slice a5 (os.getD z dh).N.length c5)/\W2.cell? ⟨b2,o2+z*3+2,none⟩=some (.slice a6 (os.getD z dh).O.length c6))/\ ∀W,Below W2.heap.size W2 W->Calls prog 32 #[.agg #[.int .i64 (os.getD z dh).b,.slice a5 (os.getD z dh).N.length c5,.slice a6 (os.getD z dh).O.length c6],.int .i64 (nums.getD Z 0)] W λe w'=>e=.returned (.tuple #[.int .i64 (AL (os.getD z dh).b (os.getD z dh).N (os.getD z dh).O (nums.getD Z 0)),.nilIface])/\Below W.heap.size W w'):=λW2 J=>by obtain⟨bx,ox,ex,e6⟩:=bH (aF c3.out J) Z d5;cases ex;obtain⟨f9,oy,a5,c5,a6,c6,ey,v0,v1,v2,t1,t2⟩:=pz (gK c7.out J) z b8;cases ey;refine⟨a5,c5,a6,c6,⟨e6,v0,v1,v2⟩,λW hb=>?_⟩;have:=yM (os.getD z dh).b a5 (os.getD z dh).N.length c5 a6 (os.getD z dh).O.length c6 (os.getD z dh).N (os.getD z dh).O (nums.getD Z 0) W (aG t1 hb) (aF t2 hb);unfold lH at this;rw[c9,d0,show bC 0=.nilIface from rfl]at this;exact this
 generalize os.getD u dh=om at*;generalize nums.getD q 0=x at*;generalize AL om.b om.N om.O x=sv at b0 HH;generalize os.getD z dh=b9 at*;generalize nums.getD Z 0=x' at*;generalize AL b9.b b9.N b9.O x'=g3 at d1 HH;generalize gY os nums n=R at HH⊢;have t1:(n.op==1)=false:=by simp[U]
 have t2:(n.op==2)=false:=by simp[U]
 have t3:(n.op==3)=false:=by simp[U]
 have t4:(n.op==4)=true:=by simp[U]
 have HQ:=aj hq;have HU:=aj hu;have e7:=aj a8;have e8:=aj b7;clear hr d6 hop hs ho h3 c0 b4 b5 hO b6 U hv e1 e2 d4 g1 g2 c9 d0 y1 y2;rw[hq]at z1;rw[hu]at z3;clear hq hu a8 b7;go_enter func17,ntmps17;go_upto_region 9 with fail;clear d8;go_cut[10,11] (λs t wx=>s=.int .i64 sv/\t=.nilIface/\Below W1.heap.size W1 wx)
 case first=>
  go_region_with (go_at_call 32;refine(b0.out _ (zb.drew)).mono ?_;rintro e w2 ⟨rfl,J⟩;have e9:Hid (Below W1.heap.size W1 w2):=⟨J.os,J.tape,J.output,J.size,J.block⟩;clear J)
  all_goals
   go_wp2_with fail;go_meet;exact⟨rfl,rfl,e9.out⟩
 case rest=>
  obtain⟨rfl,rfl,J⟩:=hcut;obtain⟨a5,c5,a6,c6,⟨v0,v1,v2,v3⟩,b1⟩:=d1.out wc J;have f0:=aj b1;have f1:=aj J;clear b1 e5 x0 x1 x2 z0 z1 z2 z3 z4 z5 z6;obtain⟨z0,z1,z2,z3,z4,z5,z6⟩:=(bU ((J.block _ (zG HX.out).1).trans HX.out)).1;rw[e7.out]at z2;rw[e8.out]at z4;clear J;go_wp2_with fail;go_region_with (go_at_call 32;refine(f0.out _ (zb.drew)).mono ?_;rintro e w4 ⟨rfl,a7⟩;have f2:Hid (Below wc.heap.size wc w4):=⟨a7.os,a7.tape,a7.output,a7.size,a7.block⟩;clear a7)
  all_goals
   go_wp2;go_ret2;exact⟨by rw[HH.out];rfl,ak HB.out (ak f1.out f2.out)⟩
def tgS(i:Nat):Nat:=([18,19,20,21,22,23,24,25,26,27,28,29,30,31,32,6,7]:List Nat).getD i 0
theorem Ym: ∀i:Fin 17,∀j:Fin 17,tgS i.val=tgS j.val->i=j:=by decide+kernel
theorem afx: ∀i:Fin 17,tgS i.val<99:=by decide+kernel
theorem VR(n:Nd)(a:zO)(c:Nat)(a2:zO)(m c9:Nat)(os:List Om)(a3:zO)(l a1:Nat)(nums:zI)(w:zW)(hs:Sl w a n.cf.length n.cf)(J:SlO w a2 m os)(h3:Sl w a3 l nums)(f5:l<=a1)(b7:qo n=0)(c4: ∀v:Nat,v<5->dI n ((v:Nat):Int)=true->v<l)(c5:mH nums=true)(b0:n.op=1\/n.op=2):Calls prog 17 #[Bu n a c,.slice a2 m c9,.slice a3 l a1] w λe w'=>e=.returned (.tuple #[.bool (gY os nums n),.nilIface])/\Below w.heap.size w w':=by
 obtain⟨hr,e0⟩:=dH b7;have hop:=hr.1;have e1:=(Below.refl w.heap.size w).alloc zr (lK n a c);have HB:=aj e1;have HX:=aj (zl w (lK n a c));unfold Bu;generalize c6:w.alloc (lK n a c)=W1 at HB HX;obtain⟨z0,z1,z2,z3,z4,z5,z6⟩:=(bU HX.out).1;have e2:=aj (aF h3 HB.out);have f9:=aj (gK J HB.out);have HS:=aj (aF hs HB.out);have g1:=h3.1;have e3:=h3.2.1;unfold maxLen at e3;have e4:=J.2.1;unfold maxLen at e4;have b1:=hr.2.2.2.2.2.2 b0;have e5:=akv b7 b0 c4;have HH:=aj (ahN (os:=os) (nums:=nums) b0);have b8:hdC n.cf n.num (nums.take n.cf.length)=0:=by unfold hdC;rw[yP ⟨⟨b1.1,b1.2.1⟩,b1.2.2.1,b1.2.2.2⟩,yP (by rw[List.length_take];omega),yP];exact QK (λi hi=>by rw[List.length_take]at hi;rw[LY,yP (by omega)];exact uR c5 (by omega))
 have c7:hdB n.cf n.num (n.op==2) (nums.take n.cf.length)=jQ n.num (n.op==2) (iH n.cf (λi=>nums.getD i 0) n.cf.length):=by unfold hdB;rw[yP b8,Kw (g:=λi=>nums.getD i 0)];intro i hi;show(nums.take n.cf.length).getD i 0=nums.getD i 0;rw[LY,yP hi]
 have a8:=aj (λW (hb:Below W1.heap.size W1 W) cc=>SG a n.cf.length c n.cf n.num (n.op==2) a3 n.cf.length cc (nums.take n.cf.length) W (aF HS.out hb) (aF (abS e2.out e5) hb));rw[b8,c7,show bC 0=.nilIface from rfl]at a8;rw[<-HH.out]at a8;generalize gY os nums n=R at a8⊢;obtain⟨ls,c8⟩: ∃ls,(n.op==2)=ls:=⟨_,rfl⟩;rw[c8]at a8
 have e6:(n.op==1)=true\/((n.op==1)=false/\ls=true):=by
  rcases b0 with h|h
  ·exact .inl (by simp[h])
  ·exact .inr ⟨by simp[h],by rw[<-c8];simp[h]⟩
 have f6:(n.cf.length:Int)<=(l:Int):=by omega
 have f7:(n.cf.length:Int)<=(a1:Int):=by omega
 have f8:n.cf.length<=a1:=by omega
 clear hr e0 hop hs J h3 b7 c4 c5 b0 b1 b8 c7 HH;have b3: ∀{pp:Addr} {vv:Value},W1.cell? pp=some vv-> ∀W,Below W1.heap.size W1 W->W.cell? pp=some vv:=λh W hb=>(hb.cell (zk W1 _ h)).trans h;have b4:=aj (b3 z0);have b5:=aj (b3 z5);have b6:=aj (b3 z6);clear b3;go_enter func17,ntmps17;rcases e6 with t1|⟨t1,rfl⟩
 ·skip
  go_upto_region 4 with fail;clear c6 z0 z1 z2 z3 z4 z5 z6;refine FH (by kernel_rfl) (M8 (by decide+kernel)) tgS (λi=>([.pointer (some ⟨w.heap.size,6,none⟩),.slice a n.cf.length c,.pointer (some ⟨w.heap.size,5,none⟩),.int .i64 n.num,.pointer (some ⟨w.heap.size,0,none⟩),.int .i64 n.op,.bool ls,.slice a3 l a1,.pointer (some ⟨w.heap.size,6,none⟩),.slice a n.cf.length c,.int .i64 (n.cf.length:Int),.slice a3 n.cf.length a1,.tuple #[.bool R,.nilIface],.bool R,.nilIface,.bool R,.nilIface]:zV).getD i undef) (λi j hi hj e=>by have:=Ym ⟨i,hi⟩ ⟨j,hj⟩ e;injection this) (λi hi=>afx ⟨i,hi⟩) ?_ ?_
  ·intro T W i o J b2 z a6 hb
   have hi:i<17:=(zG J).1;have s2:T[2]? =some (.slice a3 l a1):=a6 2 (by decide+kernel);have s3:T[3]? =some (.pointer (some ⟨w.heap.size,0,none⟩)):=a6 3 (by decide+kernel);have e7:=b4.out W hb;have e8:=b5.out W hb;have e9:=b6.out W hb;have b9:=aj (a8.out W hb a1);have Z:=aj hb;clear b2 a6 hb b4 b5 b6 a8;rcases(by omega:i=0\/i=1\/i=2\/i=3\/i=4\/i=5\/i=6\/i=7\/i=8\/i=9\/i=10\/i=11\/i=12\/i=13\/i=14\/i=15\/i=16)with rfl|rfl|rfl|rfl|rfl|rfl|rfl|rfl|rfl|rfl|rfl|rfl|rfl|rfl|rfl|rfl|rfl
   ·injection J with J;subst J;clear z;refine wpOp_step (o:=_) rfl λK' hK=>?_;rw[yP (by rfl)];have U:=aj hK;clear hK;go_simp;exact U.out _ _ ⟨rfl,Z.out⟩
   ·injection J with J;subst J;have d0:T[18]? =some (.pointer (some ⟨w.heap.size,6,none⟩)):=z {on:=0,ground:=.data} (by simp) rfl;clear z;refine wpOp_step (o:=_) rfl λK' hK=>?_;rw[yP (by rfl)];have U:=aj hK;clear hK;go_simp;exact U.out _ _ ⟨rfl,Z.out⟩
   ·injection J with J;subst J;clear z;refine wpOp_step (o:=_) rfl λK' hK=>?_;rw[yP (by rfl)];have U:=aj hK;clear hK;go_simp;exact U.out _ _ ⟨rfl,Z.out⟩
   ·injection J with J;subst J;have d2:T[20]? =some (.pointer (some ⟨w.heap.size,5,none⟩)):=z {on:=2,ground:=.data} (by simp) rfl;clear z;refine wpOp_step (o:=_) rfl λK' hK=>?_;rw[yP (by rfl)];have U:=aj hK;clear hK;go_simp;exact U.out _ _ ⟨rfl,Z.out⟩
   ·injection J with J;subst J;clear z;refine wpOp_step (o:=_) rfl λK' hK=>?_;rw[yP (by rfl)];have U:=aj hK;clear hK;go_simp;exact U.out _ _ ⟨rfl,Z.out⟩
   ·injection J with J;subst J;have d4:T[22]? =some (.pointer (some ⟨w.heap.size,0,none⟩)):=z {on:=4,ground:=.data} (by simp) rfl;clear z;refine wpOp_step (o:=_) rfl λK' hK=>?_;rw[yP (by rfl)];have U:=aj hK;clear hK;go_simp;exact U.out _ _ ⟨rfl,Z.out⟩
   ·injection J with J;subst J;have d5:T[23]? =some (.int .i64 n.op):=z {on:=5,ground:=.data} (by simp) rfl;clear z;refine wpOp_step (o:=_) rfl λK' hK=>?_;rw[yP (by rfl)];have U:=aj hK;clear hK;go_simp;exact U.out _ _ ⟨rfl,Z.out⟩
   ·injection J with J;subst J;clear z;refine wpOp_step (o:=_) rfl λK' hK=>?_;rw[yP (by rfl)];have U:=aj hK;clear hK;go_simp;exact U.out _ _ ⟨rfl,Z.out⟩
   ·injection J with J;subst J;clear z;refine wpOp_step (o:=_) rfl λK' hK=>?_;rw[yP (by rfl)];have U:=aj hK;clear hK;go_simp;exact U.out _ _ ⟨rfl,Z.out⟩
   ·injection J with J;subst J;have d8:T[26]? =some (.pointer (some ⟨w.heap.size,6,none⟩)):=z {on:=8,ground:=.data} (by simp) rfl;clear z;refine wpOp_step (o:=_) rfl λK' hK=>?_;rw[yP (by rfl)];have U:=aj hK;clear hK;go_simp;exact U.out _ _ ⟨rfl,Z.out⟩
   ·injection J with J;subst J;have d9:T[27]? =some (.slice a n.cf.length c):=z {on:=9,ground:=.data} (by simp) rfl;clear z;refine wpOp_step (o:=_) rfl λK' hK=>?_;rw[yP (by rfl)];have U:=aj hK;clear hK;go_simp;exact U.out _ _ ⟨rfl,Z.out⟩
   ·injection J with J;subst J;have d7:T[25]? =some (.slice a3 l a1):=z {on:=7,ground:=.data} (by simp) rfl;have f0:T[28]? =some (.int .i64 (n.cf.length:Int)):=z {on:=10,ground:=.data} (by simp) rfl;clear z;refine wpOp_step (o:=_) rfl λK' hK=>?_;rw[yP (by rfl)];have U:=aj hK;clear hK;go_simp;exact U.out _ _ ⟨rfl,Z.out⟩
   ·injection J with J;subst J;have d1:T[19]? =some (.slice a n.cf.length c):=z {on:=1,ground:=.data} (by simp) rfl;have d3:T[21]? =some (.int .i64 n.num):=z {on:=3,ground:=.data} (by simp) rfl;have d6:T[24]? =some (.bool ls):=z {on:=6,ground:=.data} (by simp) rfl;have f1:T[29]? =some (.slice a3 n.cf.length a1):=z {on:=11,ground:=.data} (by simp) rfl;clear z;refine wpOp_step (o:=_) rfl λK' hK=>?_;rw[yP (by rfl)];have U:=aj hK;clear hK;go_simp;refine b9.out.mono ?_;rintro e W2 ⟨rfl,c0⟩;exact U.out _ _ ⟨rfl,ak Z.out c0⟩
   ·injection J with J;subst J;have c3:T[30]? =some (.tuple #[.bool R,.nilIface]):=z {on:=12,ground:=.data} (by simp) rfl;clear z;refine wpOp_step (o:=_) rfl λK' hK=>?_;rw[yP (by rfl)];have U:=aj hK;clear hK;go_simp;exact U.out _ _ ⟨rfl,Z.out⟩
   ·injection J with J;subst J;have c3:T[30]? =some (.tuple #[.bool R,.nilIface]):=z {on:=12,ground:=.data} (by simp) rfl;clear z;refine wpOp_step (o:=_) rfl λK' hK=>?_;rw[yP (by rfl)];have U:=aj hK;clear hK;go_simp;exact U.out _ _ ⟨rfl,Z.out⟩
   ·injection J with J;subst J;have f2:T[31]? =some (.bool R):=z {on:=13,ground:=.data} (by simp) rfl;clear z;refine wpOp_step (o:=_) rfl λK' hK=>?_;rw[yP (by rfl)];have U:=aj hK;clear hK;go_simp;exact U.out _ _ ⟨rfl,Z.out⟩
   ·injection J with J;subst J;have f3:T[32]? =some (.nilIface):=z {on:=14,ground:=.data} (by simp) rfl;clear z;refine wpOp_step (o:=_) rfl λK' hK=>?_;rw[yP (by rfl)];have U:=aj hK;clear hK;go_simp;exact U.out _ _ ⟨rfl,Z.out⟩
  ·intro T W b2 a7 a6 hb;have h6:T[6]? =some (.bool R):=a7 15 (by decide+kernel);have h7:T[7]? =some .nilIface:=a7 16 (by decide+kernel);have Z:=aj hb;clear a7 a6 hb;go_wp2;go_ret2;exact⟨by simp[h6,h7],ak HB.out Z.out⟩
 ·skip
  go_upto_region 4 with fail;clear c6 z0 z1 z2 z3 z4 z5 z6;refine FH (by kernel_rfl) (M8 (by decide+kernel)) tgS (λi=>([.pointer (some ⟨w.heap.size,6,none⟩),.slice a n.cf.length c,.pointer (some ⟨w.heap.size,5,none⟩),.int .i64 n.num,.pointer (some ⟨w.heap.size,0,none⟩),.int .i64 n.op,.bool true,.slice a3 l a1,.pointer (some ⟨w.heap.size,6,none⟩),.slice a n.cf.length c,.int .i64 (n.cf.length:Int),.slice a3 n.cf.length a1,.tuple #[.bool R,.nilIface],.bool R,.nilIface,.bool R,.nilIface]:zV).getD i undef) (λi j hi hj e=>by have:=Ym ⟨i,hi⟩ ⟨j,hj⟩ e;injection this) (λi hi=>afx ⟨i,hi⟩) ?_ ?_
  ·intro T W i o J b2 z a6 hb
   have hi:i<17:=(zG J).1;have s2:T[2]? =some (.slice a3 l a1):=a6 2 (by decide+kernel);have s3:T[3]? =some (.pointer (some ⟨w.heap.size,0,none⟩)):=a6 3 (by decide+kernel);have e7:=b4.out W hb;have e8:=b5.out W hb;have e9:=b6.out W hb;have b9:=aj (a8.out W hb a1);have Z:=aj hb;clear b2 a6 hb b4 b5 b6 a8;rcases(by omega:i=0\/i=1\/i=2\/i=3\/i=4\/i=5\/i=6\/i=7\/i=8\/i=9\/i=10\/i=11\/i=12\/i=13\/i=14\/i=15\/i=16)with rfl|rfl|rfl|rfl|rfl|rfl|rfl|rfl|rfl|rfl|rfl|rfl|rfl|rfl|rfl|rfl|rfl
   ·injection J with J;subst J;clear z;refine wpOp_step (o:=_) rfl λK' hK=>?_;rw[yP (by rfl)];have U:=aj hK;clear hK;go_simp;exact U.out _ _ ⟨rfl,Z.out⟩
   ·injection J with J;subst J;have d0:T[18]? =some (.pointer (some ⟨w.heap.size,6,none⟩)):=z {on:=0,ground:=.data} (by simp) rfl;clear z;refine wpOp_step (o:=_) rfl λK' hK=>?_;rw[yP (by rfl)];have U:=aj hK;clear hK;go_simp;exact U.out _ _ ⟨rfl,Z.out⟩
   ·injection J with J;subst J;clear z;refine wpOp_step (o:=_) rfl λK' hK=>?_;rw[yP (by rfl)];have U:=aj hK;clear hK;go_simp;exact U.out _ _ ⟨rfl,Z.out⟩
   ·injection J with J;subst J;have d2:T[20]? =some (.pointer (some ⟨w.heap.size,5,none⟩)):=z {on:=2,ground:=.data} (by simp) rfl;clear z;refine wpOp_step (o:=_) rfl λK' hK=>?_;rw[yP (by rfl)];have U:=aj hK;clear hK;go_simp;exact U.out _ _ ⟨rfl,Z.out⟩
   ·injection J with J;subst J;clear z;refine wpOp_step (o:=_) rfl λK' hK=>?_;rw[yP (by rfl)];have U:=aj hK;clear hK;go_simp;exact U.out _ _ ⟨rfl,Z.out⟩
   ·injection J with J;subst J;have d4:T[22]? =some (.pointer (some ⟨w.heap.size,0,none⟩)):=z {on:=4,ground:=.data} (by simp) rfl;clear z;refine wpOp_step (o:=_) rfl λK' hK=>?_;rw[yP (by rfl)];have U:=aj hK;clear hK;go_simp;exact U.out _ _ ⟨rfl,Z.out⟩
   ·injection J with J;subst J;have d5:T[23]? =some (.int .i64 n.op):=z {on:=5,ground:=.data} (by simp) rfl;clear z;refine wpOp_step (o:=_) rfl λK' hK=>?_;rw[yP (by rfl)];have U:=aj hK;clear hK;go_simp;exact U.out _ _ ⟨rfl,Z.out⟩
   ·injection J with J;subst J;clear z;refine wpOp_step (o:=_) rfl λK' hK=>?_;rw[yP (by rfl)];have U:=aj hK;clear hK;go_simp;exact U.out _ _ ⟨rfl,Z.out⟩
   ·injection J with J;subst J;clear z;refine wpOp_step (o:=_) rfl λK' hK=>?_;rw[yP (by rfl)];have U:=aj hK;clear hK;go_simp;exact U.out _ _ ⟨rfl,Z.out⟩
   ·injection J with J;subst J;have d8:T[26]? =some (.pointer (some ⟨w.heap.size,6,none⟩)):=z {on:=8,ground:=.data} (by simp) rfl;clear z;refine wpOp_step (o:=_) rfl λK' hK=>?_;rw[yP (by rfl)];have U:=aj hK;clear hK;go_simp;exact U.out _ _ ⟨rfl,Z.out⟩
   ·injection J with J;subst J;have d9:T[27]? =some (.slice a n.cf.length c):=z {on:=9,ground:=.data} (by simp) rfl;clear z;refine wpOp_step (o:=_) rfl λK' hK=>?_;rw[yP (by rfl)];have U:=aj hK;clear hK;go_simp;exact U.out _ _ ⟨rfl,Z.out⟩
   ·injection J with J;subst J;have d7:T[25]? =some (.slice a3 l a1):=z {on:=7,ground:=.data} (by simp) rfl;have f0:T[28]? =some (.int .i64 (n.cf.length:Int)):=z {on:=10,ground:=.data} (by simp) rfl;clear z;refine wpOp_step (o:=_) rfl λK' hK=>?_;rw[yP (by rfl)];have U:=aj hK;clear hK;go_simp;exact U.out _ _ ⟨rfl,Z.out⟩
   ·injection J with J;subst J;have d1:T[19]? =some (.slice a n.cf.length c):=z {on:=1,ground:=.data} (by simp) rfl;have d3:T[21]? =some (.int .i64 n.num):=z {on:=3,ground:=.data} (by simp) rfl;have d6:T[24]? =some (.bool true):=z {on:=6,ground:=.data} (by simp) rfl;have f1:T[29]? =some (.slice a3 n.cf.length a1):=z {on:=11,ground:=.data} (by simp) rfl;clear z;refine wpOp_step (o:=_) rfl λK' hK=>?_;rw[yP (by rfl)];have U:=aj hK;clear hK;go_simp;refine b9.out.mono ?_;rintro e W2 ⟨rfl,c0⟩;exact U.out _ _ ⟨rfl,ak Z.out c0⟩
   ·injection J with J;subst J;have c3:T[30]? =some (.tuple #[.bool R,.nilIface]):=z {on:=12,ground:=.data} (by simp) rfl;clear z;refine wpOp_step (o:=_) rfl λK' hK=>?_;rw[yP (by rfl)];have U:=aj hK;clear hK;go_simp;exact U.out _ _ ⟨rfl,Z.out⟩
   ·injection J with J;subst J;have c3:T[30]? =some (.tuple #[.bool R,.nilIface]):=z {on:=12,ground:=.data} (by simp) rfl;clear z;refine wpOp_step (o:=_) rfl λK' hK=>?_;rw[yP (by rfl)];have U:=aj hK;clear hK;go_simp;exact U.out _ _ ⟨rfl,Z.out⟩
   ·injection J with J;subst J;have f2:T[31]? =some (.bool R):=z {on:=13,ground:=.data} (by simp) rfl;clear z;refine wpOp_step (o:=_) rfl λK' hK=>?_;rw[yP (by rfl)];have U:=aj hK;clear hK;go_simp;exact U.out _ _ ⟨rfl,Z.out⟩
   ·injection J with J;subst J;have f3:T[32]? =some (.nilIface):=z {on:=14,ground:=.data} (by simp) rfl;clear z;refine wpOp_step (o:=_) rfl λK' hK=>?_;rw[yP (by rfl)];have U:=aj hK;clear hK;go_simp;exact U.out _ _ ⟨rfl,Z.out⟩
  ·intro T W b2 a7 a6 hb;have h6:T[6]? =some (.bool R):=a7 15 (by decide+kernel);have h7:T[7]? =some .nilIface:=a7 16 (by decide+kernel);have Z:=aj hb;clear a7 a6 hb;go_wp2;go_ret2;exact⟨by simp[h6,h7],ak HB.out Z.out⟩
theorem VT(n:Nd)(a:zO)(c:Nat)(v2 v3:Value)(os:List Om)(nums:zI)(w:zW)(h5:5<=n.op):Calls prog 17 #[Bu n a c,v2,v3] w λe w'=>e=.returned (.tuple #[.bool (gY os nums n),.nilIface])/\Below w.heap.size w w':=by
 have J:=aj ((Below.refl w.heap.size w).alloc zr (lK n a c));have z:=aj (ahO (os:=os) (nums:=nums) h5);have U:(n.op==1)=false:=by simp;omega
 have Z:(n.op==2)=false:=by simp;omega
 have e3:(n.op==3)=false:=by simp;omega
 have e4:(n.op==4)=false:=by simp;omega
 unfold Bu;generalize gY os nums n=R at z⊢;clear h5;go_enter func17,ntmps17;go_wp2;go_ret2;exact⟨by rw[z.out];rfl,J.out⟩
theorem aaV:afq:=by
 intro n a c a2 m z os a3 l J nums w hs ho h3 a7 U Z a6 hO a1;have hop:=(dH U).1.1;by_cases a8:n.op=1\/n.op=2
 ·exact VR n a c a2 m z os a3 l J nums w hs ho h3 a7 U Z a1 a8
 by_cases e3:n.op=3
 ·exact aaT n a c a2 m z os a3 l J nums w hs ho h3 U Z a6 hO a1 e3
 by_cases e4:n.op=4
 ·exact aaU n a c a2 m z os a3 l J nums w hs ho h3 U Z a6 hO a1 e4
 exact VT n a c _ _ os nums w (by omega)
end Go.Proofs.YtceojneljnnooaaGreat
