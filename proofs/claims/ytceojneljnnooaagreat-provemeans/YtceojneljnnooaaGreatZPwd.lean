import Derived.Test.YtceojneljnnooaaGreatZKn
import Derived.Test.YtceojneljnnooaaGreatZPva
open Go.Proofs.Tryz
namespace Go.Proofs.YtceojneljnnooaaGreat
open Go.RowKit
set_option maxHeartbeats 0
set_option maxRecDepth 100000
set_option linter.all false
variable{b:Int}{vs:zI}{os:List Om}{n:Nd}{p:Pv}
theorem Gb(b:Int)(Z:1<=b)(a:zO)(n cap:Nat)(ns:List Nd)(a2:zO)(m d3:Nat)(os:List Om)(w:zW)(hs:SlF w a n ns)(ho:SlO w a2 m os)(b0: ∀x∈ns,qo x=0):Calls prog 25 #[.int .i64 b,.slice a n cap,.slice a2 m d3] w λe w'=>e=.returned (bC (zy ns os b))/\Below w.heap.size w w':=by
 have hL:=hs.1;have b3:=ho.1;have d5:=ho.2.1;unfold maxLen at d5;have d6:=hs.2.1;unfold maxLen at d6;by_cases h3:(m:Int)>3
 ·have e:zy ns os b=3:=by unfold zy;rw[yP (by omega)]
  rw[e];clear hs ho e hL b3 b0;go_enter func25,ntmps25;go_wp2;go_ret;exact⟨rfl,zb⟩
 have HS:=aj hs;have HO:=aj ho;have b4:=aj (λk (hk:k<m)=>@Xd ns os b (by omega) k (by omega));have b5:=aj (@QL ns os b (by omega));have c6:=aj b3;have e2:=aj hL;have c7:=aj b0;have d7:Hid (1<=b):=Z;clear hs ho hL b3 b0 Z;generalize zy ns os b=R at b4 b5⊢;go_enter func25,ntmps25;go_wp2;go_loopw[16] (λkv wx=> ∃k:Nat,k<=m/\kv=.int .i64 k/\(∀j,j<k->Gv b (os.getD j dh)=0)/\Below w.heap.size w wx) (λkv _=>m-(intOf kv).toNat);case atStart=>exact⟨0,by omega,rfl,λj hj=>by omega,zb⟩
 case round=>
  obtain⟨k,hk,rfl,hz,hb⟩:=hrel;have HZ:=aj hz;have HB:=aj hb;clear hz hb;by_cases c8:k<m
  ·have d4:(k:Int)<(m:Int):=by omega
   obtain⟨bb,oo,a1,c1,a3,c3,rfl,x0,x1,x2,y1,y2⟩:=pz (gK HO.out HB.out) k c8;have U:=aj (b4.out k c8 HZ.out)
   have J:Hid (Gv b (os.getD k dh)=0-> ∀j,j<k+1->Gv b (os.getD j dh)=0):=λh j hj=>by
    by_cases e:j=k
    ·subst e;exact h
    ·exact HZ.out j (by omega)
   generalize os.getD k dh=z at x0 x1 x2 y1 y2 U J;have b1:=(Below.refl wr.heap.size wr).alloc zr (.cells #[.int .i64 z.b,.slice a1 z.N.length c1,.slice a3 z.O.length c3] 71);have b6:=aj (iB z.b a1 z.N.length c1 a3 z.O.length c3 z.N z.O (wr.alloc (.cells #[.int .i64 z.b,.slice a1 z.N.length c1,.slice a3 z.O.length c3] 71)) (aG y1 b1) (aF y2 b1));unfold lH at b6;have d8:=aj (ak HB.out b1);have c9:=zl wr (.cells #[.int .i64 z.b,.slice a1 z.N.length c1,.slice a3 z.O.length c3] 71);have d0:=aj c9
   have d1:Hid (Gv b z=if dJ z.b z.N z.O=0 then(if z.b≠b then 2 else 0)else dJ z.b z.N z.O):=by
    show _=_;unfold Gv;have h:=d7.out
    have h1:(if 0<b/\z.b≠b then(2:Int)else 0)=if z.b≠b then 2 else 0:=by
     by_cases e:z.b=b
     ·rw[yN (λh=>h.2 e),yN (λh=>h e)]
     ·rw[yP ⟨by omega,e⟩,yP e]
    rw[h1]
   clear c9;clear y1 y2 HZ b1;rw[d1.out]at U J;clear d1;generalize dJ z.b z.N z.O=cO at b6 U J;go_wp2_with fail;clear x0 x1 x2;refine b6.out.mono ?_;rintro e w1 ⟨rfl,Z⟩;have b7:=aj (ak d8.out Z);obtain⟨⟨p0,p1,p2⟩,-⟩:=aJ ((Z.block _ (zG d0.out).1).trans d0.out);clear Z;by_cases hc:cO=0
   ·rw[yP hc]at U J
    rw[hc,show bC 0=.nilIface from rfl];by_cases a6:z.b=b
    ·rw[yN (λh=>h a6)]at J
     have d9:=aj (J.out rfl);have e0:(z.b !=b)=false:=(by simp[a6]);clear hc U J a6;go_wp2;go_roundw;case rel=>exact⟨k+1,by omega,by go_num,d9.out,b7.out⟩
     case measure=>simp[intOf];omega
    ·rw[yP a6]at U;have e0:(z.b !=b)=true:=(by simpa using a6);have b8:=aj (U.out (by decide));clear hc U J a6;go_wp2;go_ret;exact⟨by rw[b8.out];rfl,b7.out⟩
   ·have b9:bC cO=.iface 45 (.int .i64 cO):=by unfold bC;rw[yN hc]
    rw[b9];have e1:=aj b9;rw[yN hc]at U;have b8:=aj (U.out hc);clear hc b9 U J p0 p1 p2;go_wp2;go_ret;exact⟨by rw[b8.out,e1.out];rfl,b7.out⟩
  ·have d4: ¬(k:Int)<(m:Int):=by omega
   obtain rfl:k=m:=(by omega);have c0:=b5.out (λj hj=>HZ.out j (by rw[c6.out]at hj;exact hj));rw[c6.out]at c0;have b2:=aj c0;clear c0 HZ b4 b5;obtain⟨wo,d2⟩: ∃wo:zW,wo=wr:=⟨_,rfl⟩;rw[<-d2]at HB⊢;clear d2 wr;have a7:=Sd c7.out k;have c4:=aj (MS a n cap ns wo (dG HS.out HB.out) c7.out);generalize tF ns=q at a7 c4;by_cases hq:q>(k:Int)
   ·have hf: ¬(ns.all λn=>decide (¬yg k n))=true:=λh=>by have:=a7.2 h;omega
    rw[yN hf]at b2;clear a7 hf;go_wp2_with (go_at_call 30;refine c4.out.mono ?_;rintro e w5 ⟨rfl,a8⟩;have c5:=aj (ak HB.out a8);clear a8);go_ret;exact⟨by rw[b2.out];rfl,c5.out⟩
   ·have hf:(ns.all λn=>decide (¬yg k n))=true:=a7.1 (by omega);rw[yP hf]at b2;clear a7 hf;go_wp2_with (go_at_call 30;refine c4.out.mono ?_;rintro e w5 ⟨rfl,a8⟩;have c5:=aj (ak HB.out a8);clear a8);go_ret;exact⟨by rw[b2.out];rfl,c5.out⟩
def qj(b:Int)(ns:List Nd):Int:=if 1<=b/\b<=6 then(mG ns).2 else 1
theorem Kg(b:Int)(a:zO)(n cap:Nat)(ns:List Nd)(w:zW)(hs:SlF w a n ns):Calls prog 10 #[.int .i64 b,.slice a n cap] w λe w'=>e=.returned (bC (qj b ns))/\Below w.heap.size w w':=by
 by_cases hb:1<=b/\b<=6
 ·have J:=aj (wG a n cap ns w hs)
  have e:qj b ns=(mG ns).2:=by unfold qj;rw[yP hb]
  rw[e];have h1:=hb.1;have h2:=hb.2;generalize(mG ns).2=c at J;clear hs e hb;go_enter func10,ntmps10
  go_wp2_with (first
   |(go_at_call 23;refine(lS _ _ h1 h2).mono ?_;rintro e w' ⟨rfl,z⟩;rw[z];clear z w')
   |(go_at_call 13;refine J.out.mono ?_;rintro e w1 ⟨rfl,U⟩;have Z:=aj U;clear U))
  go_ret;exact⟨rfl,Z.out⟩
 ·have e:qj b ns=1:=by unfold qj;rw[yN hb]
  rw[e];have h:b<1\/6<b:=by omega
  clear hs e hb;go_enter func10,ntmps10;go_wp2_with (go_at_call 23;refine(yO _ _ h).mono ?_;rintro e w' ⟨rfl,z⟩;rw[z];clear z w');go_ret;exact⟨rfl,zb⟩
theorem KD(a:zO)(n cap:Nat)(ns:List Nd)(a2:zO)(m c8:Nat)(os:List Om)(w:zW)(hs:SlF w a n ns)(ho:SlO w a2 m os)(a6: ∀x∈ns,qo x=0):Calls prog 15 #[.slice a n cap,.slice a2 m c8] w λe w'=>e=.returned (bC (zy ns os 0))/\Below w.heap.size w w':=by
 have hL:=hs.1;have b0:=ho.1;have d0:=ho.2.1;unfold maxLen at d0;have d1:=hs.2.1;unfold maxLen at d1;by_cases h3:(m:Int)>3
 ·have e:zy ns os 0=3:=by unfold zy;rw[yP (by omega)]
  rw[e];clear hs ho e hL b0 a6;go_enter func15,ntmps15;go_wp2;go_ret;exact⟨rfl,zb⟩
 have HS:=aj hs;have HO:=aj ho;have b1:=aj (λk (hk:k<m)=>@Xd ns os 0 (by omega) k (by omega));have b2:=aj (@QL ns os 0 (by omega));have b8:=aj b0;have d6:=aj hL;have b9:=aj a6;clear hs ho hL b0 a6;generalize zy ns os 0=R at b1 b2⊢;go_enter func15,ntmps15;go_wp2;go_loopw[14] (λkv wx=> ∃k:Nat,k<=m/\kv=.int .i64 k/\(∀j,j<k->Gv 0 (os.getD j dh)=0)/\Below w.heap.size w wx) (λkv _=>m-(intOf kv).toNat);case atStart=>exact⟨0,by omega,rfl,λj hj=>by omega,zb⟩
 case round=>
  obtain⟨k,hk,rfl,hz,hb⟩:=hrel;have HZ:=aj hz;have HB:=aj hb;clear hz hb;by_cases c0:k<m
  ·have c9:(k:Int)<(m:Int):=by omega
   obtain⟨bb,oo,a1,c1,a3,c3,rfl,x0,x1,x2,y1,y2⟩:=pz (gK HO.out HB.out) k c0;have HP:=aj (b1.out k c0 HZ.out)
   have J:Hid (Gv 0 (os.getD k dh)=0-> ∀j,j<k+1->Gv 0 (os.getD j dh)=0):=λh j hj=>by
    by_cases e:j=k
    ·subst e;exact h
    ·exact HZ.out j (by omega)
   generalize os.getD k dh=z at x0 x1 x2 y1 y2 HP J;have a7:=(Below.refl wr.heap.size wr).alloc zr (.cells #[.int .i64 z.b,.slice a1 z.N.length c1,.slice a3 z.O.length c3] 71);have b3:=aj (iB z.b a1 z.N.length c1 a3 z.O.length c3 z.N z.O (wr.alloc (.cells #[.int .i64 z.b,.slice a1 z.N.length c1,.slice a3 z.O.length c3] 71)) (aG y1 a7) (aF y2 a7));unfold lH at b3;have d2:=aj (ak HB.out a7);have c4:Hid (Gv 0 z=dJ z.b z.N z.O):=(by show _=_;unfold Gv;rw[yN (show¬(0<(0:Int)/\z.b≠0)by omega)];split<;>simp_all);clear y1 y2 HZ a7;rw[c4.out]at HP J;clear c4;generalize dJ z.b z.N z.O=cO at b3 HP J;go_wp2_with fail;clear x0 x1 x2;refine b3.out.mono ?_;rintro e w1 ⟨rfl,c5⟩;have c6:=aj (ak d2.out c5);clear c5;by_cases hc:cO=0
   ·have d3:=aj (J.out hc)
    rw[hc,show bC 0=.nilIface from rfl];clear hc HP J;go_wp2;go_roundw;case rel=>exact⟨k+1,by omega,by go_num,d3.out,c6.out⟩
    case measure=>simp[intOf];omega
   ·have b4:bC cO=.iface 45 (.int .i64 cO):=by unfold bC;rw[yN hc]
    rw[b4];have d4:=aj b4;have d5:=aj (HP.out hc);clear hc b4 HP J;go_wp2;go_ret;exact⟨by rw[d5.out,d4.out];rfl,c6.out⟩
  ·have c9: ¬(k:Int)<(m:Int):=by omega
   obtain rfl:k=m:=(by omega);have b5:=b2.out (λj hj=>HZ.out j (by rw[b8.out]at hj;exact hj));rw[b8.out]at b5;have a8:=aj b5;clear b5 HZ b1 b2;obtain⟨wo,c7⟩: ∃wo:zW,wo=wr:=⟨_,rfl⟩;rw[<-c7]at HB⊢;clear c7 wr;have U:=Sd b9.out k;have b6:=aj (MS a n cap ns wo (dG HS.out HB.out) b9.out);generalize tF ns=q at U b6;by_cases hq:q>(k:Int)
   ·have hf: ¬(ns.all λn=>decide (¬yg k n))=true:=λh=>by have:=U.2 h;omega
    rw[yN hf]at a8;clear U hf;go_wp2_with (go_at_call 30;refine b6.out.mono ?_;rintro e w5 ⟨rfl,Z⟩;have b7:=aj (ak HB.out Z);clear Z);go_ret;exact⟨by rw[a8.out];rfl,b7.out⟩
   ·have hf:(ns.all λn=>decide (¬yg k n))=true:=U.1 (by omega);rw[yP hf]at a8;clear U hf;go_wp2_with (go_at_call 30;refine b6.out.mono ?_;rintro e w5 ⟨rfl,Z⟩;have b7:=aj (ak HB.out Z);clear Z);go_ret;exact⟨by rw[a8.out];rfl,b7.out⟩
theorem Fu(t:Fm):(aT t).Pairwise (· < ·):=List.Pairwise.sublist List.filter_sublist (by decide)
theorem ac5{f g:Fm}(h:n.op=6\/n.op=7)(v:Int):(Fm.bin n f g).jd v=(f.jd v||g.jd v):=by
 have hu:dI n v=false:=by unfold dI;rw[yN (by omega)];simp;omega
 show(if(n.op=8\/n.op=9)/\n.var=v then false else dI n v||f.jd v||g.jd v)=_;rw[yN (by omega),hu,Bool.false_or]
theorem Zw{f g:Fm}(h:n.op=6\/n.op=7):oD (aT f++aT g)=aT (.bin n f g):=by
 refine rJ (jE _).1 (Fu _) λx=>?_;rw[(jE _).2,List.mem_append,fK,fK,fK,ac5 h,Bool.or_eq_true];constructor
 ·rintro(⟨h1,h2⟩|⟨h1,h2⟩)
  ·exact⟨h1,.inl h2⟩
  ·exact⟨h1,.inr h2⟩
 ·rintro⟨h1,h2|h2⟩
  ·exact .inl ⟨h1,h2⟩
  ·exact .inr ⟨h1,h2⟩
theorem Fv{b:Int}(h1:1<=b)(h2:b<=6){k:Nat}(h5:k<=5)(h:aU b (k:Int)≠0):aU b (k:Int)=3:=by
 unfold aU at h⊢;rw[yP ⟨⟨h1,h2⟩,by omega,by omega⟩]at h⊢;split at h
 ·exact absurd rfl h
 ·rename_i z;rw[yN z]
theorem ac6{own:zI}(h: ∀x∈own,x∈vs): ∀i,i<(dR vs own).length->0<=(dR vs own).getD i 0/\(dR vs own).getD i 0<(vs.length:Int):=λi hi=>by
 have z:i<own.length:=by unfold dR at hi;rwa [List.length_map]at hi
 have e:(dR vs own).getD i 0=((fq vs own[i]:Nat):Int):=by simp[dR,List.getD,z]
 rw[e];have:=kG (h own[i] (List.getElem_mem z));omega
theorem Cw{own:zI}(hv: ∀x∈own,x∈vs)(Z:aU b (vs.length:Int)=0)(hp:mZ b own.length p)(h0:p.c=0):
  mW b own.length p.N p.N.length vs.length (dR vs own)=0/\aK (aD b (vs.length:Int)).toNat (qx b own.length p.N p.E p.N.length vs.length (dR vs own)).length (qx b own.length p.N p.E p.N.length vs.length (dR vs own))/\bP b vs.length (qx b own.length p.N p.E p.N.length vs.length (dR vs own)) (qx b own.length p.N p.E p.N.length vs.length (dR vs own)).length=0/\(xg b own.length p.N p.E p.N.length vs.length (dR vs own)).length=(qx b own.length p.N p.E p.N.length vs.length (dR vs own)).length/\
   ∀w,fA (aD b (vs.length:Int)).toNat w->gP (qx b own.length p.N p.E p.N.length vs.length (dR vs own)) (xg b own.length p.N p.E p.N.length vs.length (dR vs own)) w=gP p.N p.E (rV (Dp b vs own) w):=by
 have hA:=hp h0
 have hl:((dR vs own).length:Int)=(own.length:Int):=by unfold dR;rw[List.length_map]
 have J:mW b own.length p.N p.N.length vs.length (dR vs own)=0:=agD hA.auto Z hl (ac6 hv)
 obtain⟨iJ,mu,e1,H,-,z⟩:=agB (E:=p.E) J
 obtain rfl:vs.length=iJ:=by omega
 refine⟨J,by rw[z];exact H.good,H.auto,H.len,λw U=>?_⟩
 rw[z]at U
 rw[(H.says w U).2]
 unfold Dp
 rw[z]
theorem ac7{own:zI}(z:aU b (vs.length:Int)≠0)(J:mZ b own.length p)(h0:p.c=0):mW b own.length p.N p.N.length vs.length (dR vs own)=aU b (vs.length:Int):=by have U:=J h0;unfold mW;rw[yP U.auto,yN z]
def Cx(n:Nd):Int:=if n.op=6 then 8 else 14
theorem ac8(h:n.op=6\/n.op=7)(x y:Bool):xG (Cx n) x y=jnT (decide (n.op=7)) x y:=by
 unfold Cx jnT;rcases h with h|h
 ·rw[yP h]
  have e:decide (n.op=7)=false:=by simp;omega
  rw[e,yN (by decide),zu]
 ·rw[yN (by omega)]
  have e:decide (n.op=7)=true:=by simp[h]
  rw[e,yP rfl];cases x<;>cases y<;>rfl
theorem ac9{own more:zI}{q:Pv}(a8:n.op=6\/n.op=7)(b0: ∀x∈own,x∈vs)(b1: ∀x∈more,x∈vs)(z:aU b (vs.length:Int)=0)(hp:mZ b own.length p)(hq:mZ b more.length q)(h0:p.c=0)(h1:q.c=0){A B:zL}{EA EB:zB}(eA:A=qx b own.length p.N p.E p.N.length vs.length (dR vs own))(b2:EA=xg b own.length p.N p.E p.N.length vs.length (dR vs own))(eB:B=qx b more.length q.N q.E q.N.length vs.length (dR vs more))(b3:EB=xg b more.length q.N q.E q.N.length vs.length (dR vs more)):
  let m:=(aD b (vs.length:Int)).toNat
  let P:=N8 m A B (iE b (vs.length:Int))
  let Q:=inQ (Cx n) m A B (iE b (vs.length:Int)) EA EB (nM b (vs.length:Int))
  A.length*B.length*(iE b (vs.length:Int)).length<=4000000/\(lI b n vs own more p q).c=(if bE P Q m<=80 then 0 else 3)/\((lI b n vs own more p q).c=0->(lI b n vs own more p q).N=aV P Q m/\(lI b n vs own more p q).E=aY P Q m)/\((lI b n vs own more p q).c≠0->(lI b n vs own more p q).N=[]/\(lI b n vs own more p q).E=[]):=by
 intro m P Q
 obtain⟨-,gA,aA,-,tA⟩:=Cw b0 z hp h0
 obtain⟨-,gB,aB,-,tB⟩:=Cw b1 z hq h1
 rw[<-eA]at gA aA tA
 rw[<-b2]at tA
 rw[<-eB]at gB aB tB
 rw[<-b3]at tB
 have J:=kF z
 have b4:=eH aA
 have b5:=eH aB
 have b6:=eH J.auto
 have hn:A.length*B.length*(iE b (vs.length:Int)).length<=4000000:=Nat.le_trans (Nat.mul_le_mul (Nat.mul_le_mul b4 b5) b6) (by decide)
 obtain⟨i1,i2,i3,i4⟩:=N9 gA gB J.good hn
 obtain⟨-,Z,-⟩:=bA z
 have a1:=hp h0
 have a2:=hq h1
 have a6:=(bS a1.auto).1
 have a7:=(bS a2.auto).1
 have ma:=(bA a6).2.2.2.2.2
 have mb:=(bA a7).2.2.2.2.2
 have b7:=(fQ a6).1
 have b8:=(fQ a7).1
 rw[Int.toNat_natCast]at ma mb
 have hs:=Xc a1 a2 z (yj (vs:=vs) (own:=own) Z (by omega)) (yj (vs:=vs) (own:=more) Z (by omega)) (decide (n.op=7)) (N:=P) (E:=Q) i4 (λw U=>by show gP (N8 _ _ _ _) (inQ _ _ _ _ _ _ _ _) w=_;rw[ajW EA EB _ gA gB J.good hn w U,tA w U,tB w U,ac8 a8,J.lang w U];rfl)
 refine⟨hn,hs.1,hs.2,λh=>?_⟩
 unfold lI at h⊢
 exact⟨by unfold joN;rw[yN h],by unfold joE;rw[yN h]⟩
def adg(b:Int)(os:List Om):Prop:=os.length<=3/\ ∀i,i<os.length->dJ (os.getD i dh).b (os.getD i dh).N (os.getD i dh).O=0/\(os.getD i dh).b=b
theorem Cz(hb:1<=b){ns:List Nd}(h:zy ns os b=0):adg b os/\ ∀n∈ns,¬yg os.length n:=by
 unfold zy at h;by_cases h3:3<os.length
 ·rw[yP h3]at h;omega
 ·rw[yN h3]at h
  by_cases z:jl (os.map (Gv b))=0
  ·rw[yP z]at h
   refine⟨⟨by omega,λi hi=>?_⟩,?_⟩
   ·have:=oP _ z i (by simpa using hi)
    rw[zA b hi]at this;unfold Gv at this;by_cases J:dJ (os.getD i dh).b (os.getD i dh).N (os.getD i dh).O=0
    ·rw[yP J]at this
     refine⟨J,?_⟩;by_cases e:(os.getD i dh).b=b
     ·exact e
     ·rw[yP ⟨by omega,e⟩]at this;omega
    ·rw[yN J]at this;exact absurd this J
   ·by_cases U:(ns.all λn=>decide (¬yg os.length n))=true
    ·rw[List.all_eq_true]at U;intro n Z;exact of_decide_eq_true (U n Z)
    ·rw[yN U]at h;omega
  ·rw[yN z]at h;exact absurd h z
theorem adh(h:adg b os)(z:qo n=0)(Z: ¬yg os.length n):(n.op=3\/n.op=4->n.wd.toNat<os.length/\dJ b (os.getD n.wd.toNat dh).N (os.getD n.wd.toNat dh).O=0/\(os.getD n.wd.toNat dh).b=b)/\(n.op=4->n.wd2.toNat<os.length/\dJ b (os.getD n.wd2.toNat dh).N (os.getD n.wd2.toNat dh).O=0/\(os.getD n.wd2.toNat dh).b=b):=by
 have J:=(dH z).1;unfold yg at Z;refine⟨λU=>?_,λh4=>?_⟩
 ·have:=J.2.2.2.1 U
  have hi:n.wd.toNat<os.length:=by omega
  obtain⟨h1,h2⟩:=h.2 _ hi;rw[h2]at h1;exact⟨hi,h1,h2⟩
 ·have:=J.2.2.2.2.1 h4
  have hi:n.wd2.toNat<os.length:=by omega
  obtain⟨h1,h2⟩:=h.2 _ hi;rw[h2]at h1;exact⟨hi,h1,h2⟩
theorem Ei(h:adg b os): ∀t:Fm,t.ok->(∀n∈t.flat,¬yg os.length n)->atB b os t:=by
 intro t;induction t with
 |gH n=>
  intro z J
  obtain⟨h1,h2⟩:=adh h z.1 (J n (by simp[Fm.flat]))
  exact⟨λU=>(h1 U).2.2,λh4=>(h2 h4).2.2⟩
 |un n f ih=>intro z J;exact ih z.2.2 (λx hx=>J x (by simp[Fm.flat,hx]))
 |bin n f g Z a1=>intro z J;exact⟨Z z.2.2.1 (λx hx=>J x (by simp[Fm.flat,hx])),a1 z.2.2.2 (λx hx=>J x (by simp[Fm.flat,hx]))⟩
def Gz(p:Pv):Prop:=p.c=0\/(p.c=3/\p.N=[]/\p.E=[])
theorem Ob:Gz (nO 3):=.inr ⟨rfl,rfl,rfl⟩
theorem qd(h:Gz p)(hc:p.c≠0):p=nO 3:=by
 rcases h with h|⟨h1,h2,h3⟩
 ·exact absurd h hc
 ·cases p;simp only at h1 h2 h3;subst h1;subst h2;subst h3;rfl
theorem yA{f:Pv->Pv}(h:Gz p)(z:p.c=0->Gz (f p)):Gz (gI p f):=by
 unfold gI;by_cases h0:p.c=0
 ·rw[yP h0];exact z h0
 ·rw[yN h0]
  rcases h with h|⟨h,-⟩
  ·exact absurd h h0
  ·rw[h];exact Ob
theorem Uy{t:Int}{N N2:zL}{k k2:Nat}(h:bP b t N k=0)(h2:bP b t N2 k2=0):iG b t N k b t N2 k2=0:=by unfold iG;rw[yP h,yP h2,yP ⟨rfl,rfl⟩]
theorem yB{t:Nat}(Z:mZ b t p)(h0:p.c=0):Gz (gX b (t:Int) p):=by
 have J:=Z h0;have hM:=(bS J.auto).1;have hL:=kF hM;have U:iG b t p.N p.N.length b t (iE b t) (iE b t).length=0:=Uy J.auto hL.auto;have e:KF 4 b t p.N p.E p.N.length=if IE b t 4 p.N (iE b t) p.E (nM b t)<=80 then 0 else 3:=by unfold KF iX;rw[yP J.auto,yP (by decide),yP U]
 unfold Gz gX;simp only[];by_cases z:IE b t 4 p.N (iE b t) p.E (nM b t)<=80
 ·rw[yP z]at e;exact .inl e
 ·rw[yN z]at e
  refine .inr ⟨e,?_,?_⟩
  ·unfold Qx kE iX;rw[yP J.auto,yP (show 0<=(4:Int)/\(4:Int)<=15 by decide),yP U,yN z,yN (by decide)]
  ·unfold Qy lu iX;rw[yP J.auto,yP (show 0<=(4:Int)/\(4:Int)<=15 by decide),yP U,yN z,yN (by decide)]
theorem CB{t:Nat}(Z:mZ b t p)(h0:p.c=0){k:Nat}(hk:k<t):Gz (iU b (t:Int) k p):=by
 have hA:=Z h0;have hF:Ww b t p.N p.N.length k=0:=by unfold Ww;rw[yP hA.auto,yP ⟨by omega,by omega⟩]
 unfold Gz iU;simp only[];have U:sN b t p.N p.E p.N.length k≠0->sN b t p.N p.E p.N.length k=3->sN b t p.N p.E p.N.length k=3/\Cc b t p.N p.E p.N.length k=[]/\FN b t p.N p.E p.N.length k=[]:=λh1 h2=>⟨h2,by unfold Cc;rw[yN h1],by unfold FN;rw[yN h1]⟩;by_cases z:IG b t p.N p.E p.N.length k=0
 ·by_cases J:80<bE (mX b t k p.N p.E) (oZ b t k p.N p.E) (aD b ((t:Int)-1)).toNat
  ·have e:sN b t p.N p.E p.N.length k=3:=by unfold sN;rw[yP z,yP J]
   exact .inr (U (by rw[e];decide) e)
  ·exact .inl (by unfold sN;rw[yP z,yN J])
 ·have e:sN b t p.N p.E p.N.length k=3:=by
   unfold sN;rw[yN z];unfold IG at z⊢;rw[yP hF]at z⊢;split at z
   ·rename_i hh;rw[yP hh]
   ·exact absurd rfl z
  exact .inr (U (by rw[e];decide) e)
theorem Zz(C:zI): ∀k,fT C k=((List.range k).map λi=>nN (C.getD i 0)).sum:=by
 intro k;induction k with
 |zero=>rfl
 |succ k z=>rw[fT,z,List.range_succ,List.map_append,List.sum_append];simp
theorem Uz(C:zI)(h5:C.length<=5):fT C C.length=nN (C.getD 0 0)+nN (C.getD 1 0)+nN (C.getD 2 0)+nN (C.getD 3 0)+nN (C.getD 4 0):=by
 have z: ∀i,C.length<=i->nN (C.getD i 0)=0:=λi hi=>by rw[show C.getD i 0=0 by simp[List.getD,List.getElem?_eq_none hi]];rfl
 have J:C.length=0\/C.length=1\/C.length=2\/C.length=3\/C.length=4\/C.length=5:=by omega
 have z0:=z 0;have U:=z 1;have Z:=z 2;have z3:=z 3;have z4:=z 4;rcases J with e|e|e|e|e|e<;>rw[e]at z0 U Z z3 z4⊢ <;>simp only[fT]<;>omega
theorem ZA(Z:n.op=1\/n.op=2)(h5:n.cf.length<=5):fT ((aT (.gH n)).map λv=>n.cf.getD v.toNat 0) ((aT (.gH n)).map λv=>n.cf.getD v.toNat 0).length=fT n.cf n.cf.length:=by
 have h1:fT ((aT (.gH n)).map λv=>n.cf.getD v.toNat 0) ((aT (.gH n)).map λv=>n.cf.getD v.toNat 0).length=((aT (.gH n)).map λv=>nN (n.cf.getD v.toNat 0)).sum:=by
  rw[Zz,List.length_map];congr 1;apply List.ext_getElem
  ·simp
  ·intro i q1 U;simp only[List.length_map]at U;simp[List.getD,U]
 rw[h1,Uz n.cf h5];unfold aT;rw[Jp]
 ·simp only[List.map_cons,List.map_nil,List.sum_cons,List.sum_nil];rw[show(0:Int).toNat=0 from rfl,show(1:Int).toNat=1 from rfl,show(2:Int).toNat=2 from rfl,show(3:Int).toNat=3 from rfl,show(4:Int).toNat=4 from rfl];omega
 ·intro v hv J
  have hu:(Fm.gH n).jd v=(decide (v<(n.cf.length:Int))&&decide (n.cf.getD v.toNat 0≠0)):=by show(if(n.op=8\/n.op=9)/\n.var=v then false else dI n v)=_;rw[yN (by omega)];unfold dI;rw[yP Z]
  rw[hu]at J;by_cases z:n.cf.getD v.toNat 0=0
  ·rw[z];rfl
  ·have h1: ¬v<(n.cf.length:Int):=λh=>by
    rw[yT h,yT z]at J;cases J
   exact absurd (by simp[List.getD,List.getElem?_eq_none (show n.cf.length<=v.toNat by omega)]) z
theorem qL(t:Fm):(aT t).length<=5:=List.length_filter_le _ _
theorem adi(J:qo n=0)(U:n.op=1\/n.op=2):Dn b ((aT (.gH n)).map λv=>n.cf.getD v.toNat 0) n.num=aU b ((aT (.gH n)).length:Int):=by
 have z:=(dH J).1.2.2.2.2.2.2 U;unfold Dn;rw[ZA U z.1,List.length_map];by_cases h:aU b ((aT (.gH n)).length:Int)=0
 ·rw[yP h,yP ⟨z.2.1,z.2.2⟩,h]
 ·rw[yN h]
theorem Mi(h1:1<=b)(h2:b<=6)(a6:qo n=0)(h4:n.op=1\/n.op=2\/n.op=3\/n.op=4)(a2:(n.op=3\/n.op=4->n.wd.toNat<os.length/\dJ b (os.getD n.wd.toNat dh).N (os.getD n.wd.toNat dh).O=0/\(os.getD n.wd.toNat dh).b=b)/\(n.op=4->n.wd2.toNat<os.length/\dJ b (os.getD n.wd2.toNat dh).N (os.getD n.wd2.toNat dh).O=0/\(os.getD n.wd2.toNat dh).b=b)):
  Gz (eX b os n)/\(aU b ((aT (.gH n)).length:Int)≠0->eX b os n=nO 3):=by
 have hr:=(dH a6).1
 have a1:aU b 1=0/\aU b 2=0:=⟨(oC h1 h2).1,(vW h1 h2).1⟩
 unfold eX
 by_cases hl:n.op=1\/n.op=2
 ·rw[yP hl]
  have J:=adi (b:=b) a6 hl
  have h3:=@Fv b h1 h2 (aT (.gH n)).length (qL _)
  generalize((aT (.gH n)).map λv=>n.cf.getD v.toNat 0)=C at J⊢
  have a7:rW b C n.num (decide (n.op=2))≠0->rW b C n.num (decide (n.op=2))=3:=λz=>by
   unfold rW at z⊢;by_cases hz:Dn b C n.num=0
   ·rw[yP hz]at z⊢
    split at z
    ·exact absurd rfl z
    ·rename_i Z;rw[yN Z]
   ·rw[yN hz]at z⊢;rw[J]at z⊢;exact h3 z
  have hN:rW b C n.num (decide (n.op=2))≠0->KG b C n.num (decide (n.op=2))=[]/\KH b C n.num (decide (n.op=2))=[]:=λz=>⟨by unfold KG;rw[yN z],by unfold KH;rw[yN z]⟩
  refine⟨?_,λU=>?_⟩
  ·by_cases z:rW b C n.num (decide (n.op=2))=0
   ·exact .inl z
   ·exact .inr ⟨a7 z,hN z⟩
  ·have z:rW b C n.num (decide (n.op=2))≠0:=by
    intro e;have:=(QD e).1;rw[J]at this;exact U this
   obtain⟨q1,q2⟩:=hN z
   rw[q1,q2,a7 z]
   rfl
 ·rw[yN hl]
  have a8: ∀{N:zL} {O:zI} {N2:zL} {O2:zI},dJ b N O=0->dJ b N2 O2=0->Gz ⟨Bt b N O b N2 O2,tL b N O b N2 O2,tN b N O b N2 O2⟩:=λ{N O N2 O2} q1 q2=>by
   have J:Ab b N O b N2 O2=0:=(by unfold Ab;rw[yP q1,yP q2,yP rfl]);by_cases hc:Bt b N O b N2 O2=0
   ·exact .inl hc
   ·refine .inr ⟨?_,by show tL _ _ _ _ _ _=_;unfold tL;rw[yN hc],by show tN _ _ _ _ _ _=_;unfold tN;rw[yN hc]⟩
    show Bt _ _ _ _ _ _=3;unfold Bt at hc⊢;rw[yP J]at hc⊢;split at hc
    ·exact absurd rfl hc
    ·rename_i Z;rw[yN Z]
  by_cases h3:n.op=3
  ·rw[yP h3,acV h3 (hr.2.1 (.inl h3))]
   obtain⟨-,w2,w3⟩:=a2.1 (.inl h3)
   have b0:=hr.2.2.2.2.2.1 h3
   rw[w3]
   generalize(os.getD n.wd.toNat dh).N=N at w2⊢
   generalize(os.getD n.wd.toNat dh).O=O at w2⊢
   have J:QH b N O n.num=0:=by unfold QH;rw[yP w2,yP b0]
   refine⟨?_,λU=>absurd a1.1 U⟩
   by_cases hc:Eb b N O n.num=0
   ·exact .inl hc
   ·refine .inr ⟨?_,by show WU _ _ _ _=_;unfold WU;rw[yN hc],by show WV _ _ _ _=_;unfold WV;rw[yN hc]⟩
    show Eb _ _ _ _=3
    unfold Eb at hc⊢
    rw[yP J]at hc⊢
    split at hc
    ·exact absurd rfl hc
    ·rename_i Z;rw[yN Z]
  ·rw[yN h3]
   have e4:n.op=4:=by omega
   obtain⟨-,w2,w3⟩:=a2.1 (.inr e4)
   obtain⟨-,u2,u3⟩:=a2.2 e4
   rw[QW e4 (hr.2.1 (.inr (.inl e4))) (hr.2.2.1 e4)]
   generalize(os.getD n.wd.toNat dh).N=N at w2⊢
   generalize(os.getD n.wd.toNat dh).O=O at w2⊢
   generalize(os.getD n.wd2.toNat dh).N=N2 at u2⊢
   generalize(os.getD n.wd2.toNat dh).O=O2 at u2⊢
   by_cases hg:n.var>n.gV
   ·rw[yP hg,yN (by omega)]
    exact⟨a8 u2 w2,λU=>absurd a1.2 U⟩
   ·rw[yN hg]
    by_cases he:n.var=n.gV
    ·rw[yP he,yP he]
     refine⟨?_,λU=>absurd a1.1 U⟩
     have J:Ab b N O b N2 O2=0:=by unfold Ab;rw[yP w2,yP u2,yP rfl]
     by_cases hc:FT b N O b N2 O2=0
     ·exact .inl hc
     ·refine .inr ⟨?_,by show Ac _ _ _ _ _ _=_;unfold Ac;rw[yN hc],by show Ad _ _ _ _ _ _=_;unfold Ad;rw[yN hc]⟩
      show FT _ _ _ _ _ _=3
      unfold FT at hc⊢
      rw[yP J]at hc⊢
      split at hc
      ·exact absurd rfl hc
      ·rename_i Z;rw[yN Z]
    ·rw[yN he,yN he]
     exact⟨a8 w2 u2,λU=>absurd a1.2 U⟩
theorem UA{j k:Nat}(h:aU b (k:Int)=0)(U:j<=k):aU b (j:Int)=0:=by
 obtain⟨h1,h2,h3,h4,h5,-⟩:=bA h;rw[Int.toNat_natCast]at h5;have z:=dA b h2
 have hm:pw (au b) j<=pw (au b) k:=by
  clear h h3 h4 h5;induction k with
  |zero=>
   obtain rfl:j=0:=by omega
   exact Int.le_refl _
  |succ k J=>
   by_cases e:j=k+1
   ·rw[e];exact Int.le_refl _
   ·refine Int.le_trans (J (by omega)) ?_
    have Z:=vG (au b) z.1 k
    show pw (au b) k<=pw (au b) k*au b
    have:=Int.mul_le_mul_of_nonneg_left (show(1:Int)<=au b by omega) (show 0<=pw (au b) k by omega)
    omega
 unfold aU;rw[yP ⟨⟨h1,h2⟩,by omega,by omega⟩,yP (by rw[Int.toNat_natCast];omega)]
theorem Oc(h1:1<=b)(h2:b<=6)(a1:adg b os): ∀t:Fm,t.ok->(∀n∈t.flat,¬yg os.length n)->Gz (lN b os t):=by
 intro t;induction t with
 |gH n=>
  intro z U
  unfold lN
  split
  ·exact(Mi h1 h2 z.1 (qI (dH z.1).1.1 z.2) (adh a1 z.1 (U n (by simp[Fm.flat])))).1
  ·exact Ob
 |un n f ih=>
  intro z U
  obtain⟨a2,hp,hf⟩:=z
  have J: ∀x∈f.flat,¬yg os.length x:=λx hx=>U x (by simp[Fm.flat,hx])
  have hI:=ih hf J
  have hO:=Eh f hf (Ei a1 f hf J)
  unfold lN
  split
  ·refine yA hI λh0=>?_
   unfold Ck
   split
   ·exact yB hO h0
   ·rename_i h5
    split
    ·rename_i a7
     have hv:=(dH a2).1.2.1 (by rcases uT hp with h|h|h;exact absurd h h5;exact .inr (.inr (.inl h));exact .inr (.inr (.inr h)))
     have hm:n.var∈aT f:=(fK f n.var).2 ⟨hv,a7⟩
     have a6:=kG hm
     split
     ·refine yA (yB hO h0) λg0=>?_
      have a8:mZ b (aT f).length (gX b ((aT f).length:Int) (lN b os f)):=Cu
      refine yA (CB a8 g0 a6) λr0=>?_
      have hl:(aT f).length=((aT f).length-1)+1:=by omega
      have b0:mZ b ((aT f).length-1) (iU b ((aT f).length:Int) (fq (aT f) n.var) (gX b ((aT f).length:Int) (lN b os f))):=by have:=@Gx b ((aT f).length-1) (fq (aT f) n.var) (gX b ((aT f).length:Int) (lN b os f));rw[show(((aT f).length-1:Nat):Int)+1=((aT f).length:Int)by omega]at this;exact this
      have:=yB b0 r0
      rw[show(((aT f).length-1:Nat):Int)=((aT f).length:Int)-1 by omega]at this
      exact this
     ·exact CB hO h0 a6
    ·exact hI
  ·exact Ob
 |bin n f g b1 b2=>
  intro z U
  obtain⟨a2,hp,hf,hg⟩:=z
  have J: ∀x∈f.flat,¬yg os.length x:=λx hx=>U x (by simp[Fm.flat,hx])
  have b3: ∀x∈g.flat,¬yg os.length x:=λx hx=>U x (by simp[Fm.flat,hx])
  unfold lN
  split
  ·refine yA (b1 hf J) λh0=>yA (b2 hg b3) λg0=>?_
   unfold lI Gz
   simp only[]
   generalize aT (.bin n f g)=vs
   by_cases Z:joC b vs.length (decide (n.op=7)) (Dp b vs (aT f)) (Dp b vs (aT g)) (lN b os f).N (lN b os g).N (lN b os f).E (lN b os g).E=0
   ·exact .inl Z
   ·refine .inr ⟨?_,by unfold joN;rw[yN Z],by unfold joE;rw[yN Z]⟩
    unfold joC at Z⊢
    split at Z
    ·exact absurd rfl Z
    ·rename_i h';rw[yN h']
  ·exact Ob
abbrev mg(b t:Int)(a:zO)(n c:Nat)(a':zO)(k c':Nat)(av:zO)(z cv:Nat):Obj:=.cells #[.int .i64 b,.int .i64 t,.slice a n c,.slice a' k c',.slice av z cv] 47
abbrev wC(b t:Int)(a:zO)(n c:Nat)(a':zO)(k c':Nat)(av:zO)(z cv:Nat):Value:=.agg #[.int .i64 b,.int .i64 t,.slice a n c,.slice a' k c',.slice av z cv]
abbrev qM(b t:Int)(a:zO)(n c:Nat)(a':zO)(k c':Nat):Obj:=.cells #[.int .i64 b,.int .i64 t,.slice a n c,.slice a' k c'] 35
abbrev auG(b t:Int)(a:zO)(n c:Nat)(a':zO)(k c':Nat):Value:=.agg #[.int .i64 b,.int .i64 t,.slice a n c,.slice a' k c']
abbrev ptZ:Value:=wC 0 0 none 0 0 none 0 0 none 0 0
abbrev gL:Obj:=mg 0 0 none 0 0 none 0 0 none 0 0
theorem aI{W:zW}{B:Nat}{v0 v1 v2 v3 v4:Value}{T:TypeId}(h:W.heap[B]? =some (.cells #[v0,v1,v2,v3,v4] T (0,0))):(W.cell? ⟨B,0,none⟩=some v0/\W.cell? ⟨B,1,none⟩=some v1/\W.cell? ⟨B,2,none⟩=some v2/\W.cell? ⟨B,3,none⟩=some v3/\W.cell? ⟨B,4,none⟩=some v4)/\ ∀i,W.frozen? ⟨B,i,none⟩=false:=by refine⟨⟨?_,?_,?_,?_,?_⟩,λi=>?_⟩<;>simp[World.cell?,World.frozen?,h]
theorem dK{W:zW}{B:Nat}{u0 u1 u2 u3 u4 v0 v1 v2 v3 v4:Value}{T:TypeId}(h:W.heap[B]? =some (.cells #[u0,u1,u2,u3,u4] T (0,0))){W':zW}(e:W'=((((W.setCell ⟨B,0,none⟩ v0).setCell ⟨B,1,none⟩ v1).setCell ⟨B,2,none⟩ v2).setCell ⟨B,3,none⟩ v3).setCell ⟨B,4,none⟩ v4):
  (W'.heap[B]? =some (.cells #[v0,v1,v2,v3,v4] T (0,0))/\W'.heap.size=W.heap.size/\ ∀x,x≠B->W'.heap[x]? =W.heap[x]?)/\ ∀(w:zW) (k:Nat),Below k w W->k<=B->Below k w W':=by
 subst e
 refine⟨⟨by simp[World.setCell,Array.getElem?_modify,h],by simp[World.setCell],λx hx=>?_⟩,λw k hb z=>((((hb.setCell z _).setCell z _).setCell z _).setCell z _).setCell z _⟩
 rw[Below.heap_setCell _ _ _ _ hx,Below.heap_setCell _ _ _ _ hx,Below.heap_setCell _ _ _ _ hx,Below.heap_setCell _ _ _ _ hx,Below.heap_setCell _ _ _ _ hx]
def tO(X:List Nat)(s:Nat)(W:zW)(a:zO)(N:zL)(a':zO)(E:zB)(av:zO)(vs:zI):Prop:= ∀W':zW,(∀x,s<=x->x∉X->x<W.heap.size->W'.heap[x]? =W.heap[x]?)->(gT W' a N.length N/\mR W' a' N.length E)/\Sl W' av vs.length vs
section
variable {X:List Nat} {s:Nat} {W W2:zW} {a:zO} {N:zL} {a':zO} {E:zB} {av:zO} {vs:zI}
theorem tO.here(h:tO X s W a N a' E av vs):(gT W a N.length N/\mR W a' N.length E)/\Sl W av vs.length vs:=h W (λ_ _ _ _=>rfl)
theorem tO.on(h:tO X s W a N a' E av vs)(Z:W.heap.size<=W2.heap.size)(U: ∀x,s<=x->x∉X->x<W.heap.size->W2.heap[x]? =W.heap[x]?):tO X s W2 a N a' E av vs:=λW' z=>h W' λx h1 J h2=>(z x h1 J (by omega)).trans (U x h1 J h2)
theorem tO.below(h:tO X s W a N a' E av vs)(hb:Below W.heap.size W W2):tO X s W2 a N a' E av vs:=h.on hb.size λx _ _ h2=>hb.block x h2
theorem tO.older{r:Nat}(h:tO X s W a N a' E av vs)(U:r<=s):tO X r W a N a' E av vs:=λW' z=>h W' λx h1 J h2=>z x (by omega) J h2
theorem tO.but{Y:List Nat}(h:tO X s W a N a' E av vs)(hb:Below W.heap.size W W2)(J: ∀y∈Y,y∈X\/W.heap.size<=y):tO Y s W2 a N a' E av vs:=λW' z=>h W' λx h1 U h2=>(z x h1 (λZ=>(J x Z).elim U (λh=>by omega)) (by have:=hb.size;omega)).trans (hb.block x h2)
theorem tO.less{Y:List Nat}(h:tO Y s W a N a' E av vs)(J: ∀x∈X,x∈Y):tO X s W a N a' E av vs:=λW' z=>h W' λx h1 U h2=>z x h1 (λhx=>U (J x hx)) h2
theorem GA(X:List Nat)(s:Nat)(W:zW):tO X s W none [] none [] none []:=λW' _=>⟨dD W' W' W' (λ_ _ _=>rfl),Dr W'⟩
end
def jY(c:Int)(vs:zI):zI:=if c=0 then vs else[]
def nD(X:List Nat)(s:Nat)(w:zW)(b:Int)(vs:zI)(p:Pv)(e:Ending)(w':zW):Prop:=
 ∃a ca a' iC av cv,e=.returned (.tuple #[wC (bK p.c b) (bK p.c (vs.length:Int)) a p.N.length ca a' p.N.length iC av (jY p.c vs).length cv,bC p.c])/\tO X s w' a p.N a' p.E av (jY p.c vs)/\Below w.heap.size w w'
theorem Jq{X:List Nat}{s:Nat}{w:zW}{w':zW}(hb:Below w.heap.size w w'):nD X s w b vs (nO 3) (.returned (.tuple #[ptZ,.iface 45 (.int .i64 3)])) w':=⟨none,0,none,0,none,0,rfl,GA _ _ _,hb⟩
theorem agH(b t:Int)(a:zO)(n c:Nat)(a':zO)(k c':Nat)(av:zO)(z cv:Nat)(w:zW):Calls prog 42 #[auG b t a n c a' k c',.nilIface,.slice av z cv] w λe w'=>e=.returned (.tuple #[wC b t a n c a' k c' av z cv,.nilIface])/\Below w.heap.size w w':=by obtain⟨⟨p0,p1,p2,p3⟩,-⟩:=aC (aP w (qM b t a n c a' k c') gL);obtain⟨⟨Z,r1,r2,r3,r4⟩,rf⟩:=aI (aQ w (qM b t a n c a' k c') gL);go_enter func42,ntmps42;go_wp2;obtain⟨⟨z0,J,U,z3,z4⟩,-⟩:=aI (aQ w (qM b t a n c a' k c') (mg b t a n c a' k c' av z cv));exact bodyPost_ret (v:=.tuple #[wC b t a n c a' k c' av z cv,.nilIface]) (by simp[results,results42,go_sem,z0,J,U,z3,z4]) rfl ⟨rfl,bG _ _ _⟩
theorem agI(b t:Int)(a:zO)(n c:Nat)(a':zO)(k c':Nat)(x:Int)(av:zO)(z cv:Nat)(w:zW):Calls prog 42 #[auG b t a n c a' k c',.iface 45 (.int .i64 x),.slice av z cv] w λe w'=>e=.returned (.tuple #[ptZ,.iface 45 (.int .i64 x)])/\Below w.heap.size w w':=by obtain⟨⟨p0,p1,p2,p3⟩,-⟩:=aC (aP w (qM b t a n c a' k c') gL);obtain⟨⟨Z,r1,r2,r3,r4⟩,rf⟩:=aI (aQ w (qM b t a n c a' k c') gL);go_enter func42,ntmps42;go_wp2;obtain⟨⟨z0,J,U,z3,z4⟩,-⟩:=aI (aQ w (qM b t a n c a' k c') gL);exact bodyPost_ret (v:=.tuple #[ptZ,.iface 45 (.int .i64 x)]) (by simp[results,results42,go_sem,z0,J,U,z3,z4]) rfl ⟨rfl,bG _ _ _⟩
theorem mI(b t:Int)(vs:zI)(p:Pv)(z:Gz p)(a:zO)(c:Nat)(a':zO)(c':Nat)(av:zO)(cv:Nat)(w:zW):Calls prog 42 #[auG (bK p.c b) (bK p.c t) a p.N.length c a' p.N.length c',bC p.c,.slice av vs.length cv] w λe w'=> ∃A CA J U Z CV,e=.returned (.tuple #[wC (bK p.c b) (bK p.c t) A p.N.length CA J p.N.length U Z (jY p.c vs).length CV,bC p.c])/\(p.c=0->A=a/\J=a'/\Z=av)/\Below w.heap.size w w':=by
 by_cases h:p.c=0
 ·rw[h,dz rfl];refine(agH _ _ _ _ _ _ _ _ _ _ _ w).mono ?_;rintro e w' ⟨rfl,hb⟩;exact⟨a,c,a',c',av,cv,rfl,λ_=>⟨rfl,rfl,rfl⟩,hb⟩
 ·have e:=qd z h;subst e;refine(agI _ _ _ _ _ _ _ _ _ _ _ _ w).mono ?_;rintro e w' ⟨rfl,hb⟩;exact⟨none,0,none,0,none,0,rfl,λh0=>absurd h0 h,hb⟩
theorem pJ{X:List Nat}{w w0 w1 z:zW}{b:Int}{vs:zI}{p:Pv}{a:zO}{a':zO}{av:zO}{s:Nat}{A:zO}{CA:Nat}{U:zO}{J:Nat}{Z:zO}{CV:Nat}(a2:Gz p)(hA:p.c=0->A=a/\U=a'/\Z=av)(hn:dS w0 a p.N.length p.N a' p.E w1)(hs:s<=w0.heap.size)(hX: ∀x∈X,x<w0.heap.size)(a6:w1.heap.size<=z.heap.size)(hk: ∀x,w0.heap.size<=x->x<w1.heap.size->z.heap[x]? =w1.heap[x]?)(hv: ∀W':zW,(∀x,s<=x->x∉X->x<z.heap.size->W'.heap[x]? =z.heap[x]?)->Sl W' av vs.length vs)(hb:Below w.heap.size w z):
  nD X s w b vs p (.returned (.tuple #[wC (bK p.c b) (bK p.c (vs.length:Int)) A p.N.length CA U p.N.length J Z (jY p.c vs).length CV,bC p.c])) z:=by
 by_cases h:p.c=0
 ·obtain⟨rfl,rfl,rfl⟩:=hA h
  refine⟨A,CA,U,J,Z,CV,rfl,λW' a1=>?_,hb⟩
  unfold jY
  rw[yP h]
  exact⟨hn W' (λx h1 h2=>(a1 x (by omega) (λhx=>by have:=hX x hx;omega) (by omega)).trans (hk x h1 h2)),hv W' a1⟩
 ·have e:=qd a2 h
  subst e
  exact⟨A,CA,U,J,Z,CV,rfl,λW' _=>⟨⟨⟨rfl,Nat.zero_le _,.inl rfl⟩,⟨rfl,Nat.zero_le _,.inl rfl⟩⟩,⟨rfl,Nat.zero_le _,(λn hn=>by cases hn),.inl rfl⟩⟩,hb⟩
theorem Ej(d1:yc)(X:List Nat)(s:Nat)(b:Int)(vs:zI)(p:Pv)(a:zO)(ca:Nat)(a':zO)(iC:Nat)(av:zO)(cv:Nat)(w:zW)(hp:tO X s w a p.N a' p.E av vs)(hs:s<=w.heap.size)(hX: ∀x∈X,x<w.heap.size)(c3:mZ b vs.length p)(h0:p.c=0):
  Calls prog 44 #[wC b (vs.length:Int) a p.N.length ca a' p.N.length iC av vs.length cv] w (nD X s w b vs (gX b (vs.length:Int) p)):=by
 have a7:=bG w (mg b (vs.length:Int) a p.N.length ca a' p.N.length iC av vs.length cv) gL
 have a8:=yB c3 h0
 have HF:=aj (d1 b (vs.length:Int) a p.N.length ca a' p.N.length iC p.N p.E _ (hp.below a7).here.1.1 (hp.below a7).here.1.2)
 have HP:=aj hp
 have b4:=aj a7
 have b0:=aj (aP w (mg b (vs.length:Int) a p.N.length ca a' p.N.length iC av vs.length cv) gL)
 have b5:=aj (aQ w (mg b (vs.length:Int) a p.N.length ca a' p.N.length iC av vs.length cv) gL)
 have d2:=aj hs
 have d3:=aj hX
 clear hp hs hX c3 a7
 obtain⟨q,hq⟩: ∃q,q=gX b (vs.length:Int) p:=⟨_,rfl⟩
 rw[<-hq]at a8
 have c4:=aj (λ(w1 Wf:zW) (Z:zO) (z:zO) (A:zO) (CA:Nat) (A':zO) (a1:Nat) (AV:zO) (CV:Nat)=>@pJ X w ((w.alloc (mg b (vs.length:Int) a p.N.length ca a' p.N.length iC av vs.length cv)).alloc gL) w1 Wf b vs q Z z av s A CA A' a1 AV CV a8)
 have c5:=aj (λZ U z J W=>mI b (vs.length:Int) vs q a8 Z U z J av cv W)
 have e1:KF 4 b (vs.length:Int) p.N p.E p.N.length=q.c:=by rw[hq];rfl
 have e2:Qx 4 b (vs.length:Int) p.N p.E p.N.length=q.N:=by rw[hq];rfl
 have e3:Qy 4 b (vs.length:Int) p.N p.E p.N.length=q.E:=by rw[hq];rfl
 rw[e1,e2,e3]at HF
 unfold dB at HF
 rw[<-hq]
 clear e1 e2 e3 hq a8
 obtain⟨⟨x0,x1,x2,x3,x4⟩,-⟩:=aI b0.out
 generalize c6:(w.alloc (mg b (vs.length:Int) a p.N.length ca a' p.N.length iC av vs.length cv)).alloc gL=w0 at HF b4 b0 b5 c4 x0 x1 x2 x3 x4
 have b1:Hid (w0.heap.size=w.heap.size+2):=by show _=_;rw[<-c6];simp
 go_enter func44,ntmps44
 go_wp2_with fail
 clear c6 x0 x1 x2 x3 x4
 refine HF.out.mono ?_
 rintro e w1 ⟨Z,U,z,J,rfl,hn,b6⟩
 have HN:=aj hn
 have d7:=aj b6
 have b2:=aj (ak b6 ((Below.refl w1.heap.size w1).alloc zr (qM (bK q.c b) (bK q.c (vs.length:Int)) Z q.N.length U z q.N.length J)))
 have b7:=aj (zl w1 (qM (bK q.c b) (bK q.c (vs.length:Int)) Z q.N.length U z q.N.length J))
 have a6:=aj ((Below.refl w1.heap.size w1).alloc zr (qM (bK q.c b) (bK q.c (vs.length:Int)) Z q.N.length U z q.N.length J))
 clear hn b6 HF
 generalize d4:w1.alloc (qM (bK q.c b) (bK q.c (vs.length:Int)) Z q.N.length U z q.N.length J)=w2 at b2 b7 a6
 obtain⟨⟨x0,x1,x2,x3,x4⟩,-⟩:=aI ((b2.out.block _ (zG b0.out).1).trans b0.out)
 obtain⟨⟨y0,y1,y2,y3⟩,-⟩:=aC b7.out
 go_wp2_with fail
 clear d4 x0 x1 x2 x3 x4 y0 y1 y2 y3
 refine(c5.out Z U z J w2).mono ?_
 rintro e w3 ⟨A,CA,A',a1,AV,CV,rfl,hA,b8⟩
 have d5:=aj hA
 have b3:=aj (ak b2.out b8)
 have b9:=aj (ak a6.out b8)
 have hr:=(b3.out.block _ (zG b5.out).1).trans b5.out
 obtain⟨⟨r0,r1,r2,r3,r4⟩,rf⟩:=aI hr
 have HR:=aj hr
 clear hA b8 hr c5 a6 b2 b7
 go_wp2
 obtain⟨⟨c8,c7,c0⟩,c9⟩:=dK (v0:=.int .i64 (bK q.c b)) (v1:=.int .i64 (bK q.c (vs.length:Int))) (v2:=.slice A q.N.length CA) (v3:=.slice A' q.N.length a1) (v4:=.slice AV (jY q.c vs).length CV) HR.out rfl
 obtain⟨⟨z0,z1,z2,z3,z4⟩,-⟩:=aI c8
 have d0:=c4.out w1 _ Z z A CA A' a1 AV CV d5.out HN.out (by have:=d2.out;have:=b1.out;omega) (λx hx=>by have:=d3.out x hx;have:=b1.out;omega) (by rw[c7];exact b9.out.size) (λx h1 h2=>by have:=b1.out;rw[c0 x (by omega)];exact b9.out.block x h2) (λW' d6=>(HP.out W' (λx h1 hX h2=>by rw[d6 x h1 hX (by rw[c7];have:=b3.out.size;have:=b1.out;omega),c0 x (by omega)];exact(ak b4.out b3.out).block x h2)).2) (c9 w w.heap.size (ak b4.out b3.out) (by omega))
 exact bodyPost_ret (v:=.tuple #[wC (bK q.c b) (bK q.c (vs.length:Int)) A q.N.length CA A' q.N.length a1 AV (jY q.c vs).length CV,bC q.c]) (by simp[results,results44,go_sem,z0,z1,z2,z3,z4]) rfl d0
theorem Fz(d4:CU)(b:Int)(own vs:zI)(p:Pv)(a:zO)(ca:Nat)(a':zO)(iC:Nat)(av:zO)(cv:Nat)(aw:zO)(cw:Nat)(w:zW)(hs:gT w a p.N.length p.N)(he:mR w a' p.N.length p.E)(hv:Sl w av own.length own)(hw:Sl w aw vs.length vs)(h5:own.length<=5)(e0:vs.length<=5)(b0: ∀x∈own,x∈vs):
  Calls prog 71 #[wC b (own.length:Int) a p.N.length ca a' p.N.length iC av own.length cv,.slice aw vs.length cw] w (dB w (bK (mW b own.length p.N p.N.length vs.length (dR vs own)) b) (bK (mW b own.length p.N p.N.length vs.length (dR vs own)) (vs.length:Int)) (qx b own.length p.N p.E p.N.length vs.length (dR vs own)) (xg b own.length p.N p.E p.N.length vs.length (dR vs own)) (mW b own.length p.N p.N.length vs.length (dR vs own))):=by
 have z:=bG w (mg b (own.length:Int) a p.N.length ca a' p.N.length iC av own.length cv) (qM 0 0 none 0 0 none 0 0)
 have a7:=aj (aP w (mg b (own.length:Int) a p.N.length ca a' p.N.length iC av own.length cv) (qM 0 0 none 0 0 none 0 0))
 have b1:=aj (aQ w (mg b (own.length:Int) a p.N.length ca a' p.N.length iC av own.length cv) (qM 0 0 none 0 0 none 0 0))
 have HV:=aj (aF hv z)
 have HW:=aj (aF hw z)
 have b6:=aj (λW (h:Below _ _ W) x=>wH aw vs.length cw vs x W (aF (aF hw z) h))
 have b2:(dR vs own).length=own.length:=by unfold dR;rw[List.length_map]
 have b7:Hid (∀i,i<own.length->AY vs (own.getD i 0)=(dR vs own).getD i 0):=λi hi=>by
  have hm:own.getD i 0∈own:=by rw[aS _ i hi];exact List.getElem_mem hi
  unfold AY;rw[yP (b0 _ hm)];simp[dR,List.getD,hi]
 have a6: ∀x∈dR vs own,(Lit.int .i64 x).wf=true:=λx hx=>by obtain⟨i,hi,rfl⟩:=List.getElem_of_mem hx;have:=ac6 b0 i hi;rw[aS _ i hi]at this;exact WalkArith.wf_i64 (by omega)
 have J:=aj (λax la cx W (h:Below _ _ W) (hx:Sl W ax la (dR vs own))=>d4 b (own.length:Int) a p.N.length ca a' p.N.length iC p.N p.E (vs.length:Int) ax la cx (dR vs own) W (aG (aG hs z) h) (bD (bD he z) h) hx)
 have b8:=aj z
 have e1:=fO own.length (by omega)
 obtain⟨T,hT⟩: ∃T,T=dR vs own:=⟨_,rfl⟩
 rw[<-hT]at b2 a6 b7 J⊢
 generalize mW b own.length p.N p.N.length vs.length T=cS at J⊢
 generalize qx b own.length p.N p.E p.N.length vs.length T=Z at J⊢
 generalize xg b own.length p.N p.E p.N.length vs.length T=ES at J⊢
 unfold dB at J
 clear hs he hv hw b0 z hT
 generalize own.length=k at*
 generalize vs.length=m at*
 generalize b9:(w.alloc (mg b (k:Int) a p.N.length ca a' p.N.length iC av k cv)).alloc (qM 0 0 none 0 0 none 0 0)=w0 at a7 b1 HV HW b6 J b8
 have d5:Hid (w0.heap.size=w.heap.size+2):=by show _=_;rw[<-b9];simp
 have b3:=aj (jI w0 T k)
 have c8:=aj (λwx (h:jZ w0 T k k wx)=>wF h b2 (by unfold maxLen;omega) a6)
 obtain⟨⟨x0,x1,x2,x3,x4⟩,-⟩:=aI a7.out
 clear b2 a6
 go_enter func71,ntmps71
 go_wp2
 clear b9 x0 x1 x2 x3 x4
 generalize w0.alloc (.cells (madeCells #[.int .i64 0] k) 3)=w1 at b3⊢
 go_loopw[14] (λiv wx=> ∃i:Nat,i<=k/\iv=.int .i64 (i:Int)/\jZ w0 T k i wx) (λiv _=>k-(intOf iv).toNat)
 case atStart=>exact⟨0,by omega,rfl,b3.out⟩
 case round=>
  obtain⟨i,hi,rfl,hf⟩:=hrel
  have U:=aj hf
  clear hf b3
  obtain⟨⟨x0,x1,x2,x3,x4⟩,-⟩:=aI ((U.out.2.block _ (zG a7.out).1).trans a7.out)
  by_cases b4:i<k
  ·have c9:(i:Int)<(k:Int):=by omega
   obtain⟨bb,oo,rfl,hc⟩:=bH (aF HV.out U.out.2) i b4
   have HI:=aj (b6.out wr U.out.2 (own.getD i 0))
   rw[b7.out i b4]at HI
   generalize own.getD i 0=y at hc HI
   have c0:=aj (λW (h:Below wr.heap.size wr W)=>kS (wD U.out h))
   go_wp2_with fail
   clear hc x0 x1 x2 x3 x4
   refine HI.out.mono ?_
   rintro e w5 ⟨rfl,b5⟩
   have d6:=aj (c0.out w5 b5)
   have c3:=wD U.out b5
   have e2:=(c3.1.cell b4)
   have e3:=c3.1.frozen i
   clear c0 b5
   go_wp2
   go_roundw
   case rel=>exact⟨i+1,by omega,by go_num,d6.out⟩
   case measure=>simp[intOf];omega
  ·have c9: ¬(i:Int)<(k:Int):=by omega
   obtain rfl:i=k:=by omega
   have c4:=aj (J.out (some ⟨w0.heap.size,0,none⟩) i i wr U.out.2 (c8.out wr U.out))
   have c5:=aj U.out.2
   clear U
   go_wp2_with fail
   clear x0 x1 x2 x3 x4
   refine c4.out.mono ?_
   rintro e w2 ⟨a2,c2,a1,a8,rfl,hn,c6⟩
   have HN:=aj hn
   have c7:=aj (ak c5.out c6)
   have hr:=(c7.out.block _ (zG b1.out).1).trans b1.out
   obtain⟨⟨r0,r1,r2,r3⟩,rf⟩:=aC hr
   have HR:=aj hr
   clear hn c6 hr c4
   go_wp2
   obtain⟨⟨d0,d7,d1⟩,d2⟩:=eO (v0:=.int .i64 (bK cS b)) (v1:=.int .i64 (bK cS (m:Int))) (v2:=.slice a2 Z.length c2) (v3:=.slice a1 Z.length a8) HR.out rfl
   have d3:dS w a2 Z.length Z a1 ES ((((w2.setCell ⟨w.heap.size+1,0,none⟩ (.int .i64 (bK cS b))).setCell ⟨w.heap.size+1,1,none⟩ (.int .i64 (bK cS (m:Int)))).setCell ⟨w.heap.size+1,2,none⟩ (.slice a2 Z.length c2)).setCell ⟨w.heap.size+1,3,none⟩ (.slice a1 Z.length a8)):=λW' d8=>HN.out W' (λx hx d9=>by have h1:=c5.out.size;have h2:=d5.out;rw[d8 x (by omega) (by rw[d7];exact d9),d1 x (by omega)])
   have hb:=d2 w w.heap.size (ak b8.out c7.out) (by omega)
   obtain⟨⟨z0,z1,z2,z3⟩,-⟩:=aC d0
   exact bodyPost_ret (v:=.tuple #[auG (bK cS b) (bK cS (m:Int)) a2 Z.length c2 a1 Z.length a8,bC cS]) (by simp[results,results71,go_sem,z0,z1,z2,z3]) rfl ⟨a2,c2,a1,a8,rfl,d3,hb⟩
end Go.Proofs.YtceojneljnnooaaGreat
