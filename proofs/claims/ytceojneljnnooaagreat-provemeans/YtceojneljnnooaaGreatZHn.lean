import Derived.Test.YtceojneljnnooaaGreatZHk
import Derived.Test.YtceojneljnnooaaGreatHj
open Go.Proofs.Tryz
namespace Go.Proofs.YtceojneljnnooaaGreat
open Go.RowKit
set_option maxHeartbeats 0
set_option maxRecDepth 100000
set_option linter.all false
variable{N:zL}
theorem ZL{b:Int}{tr tk m mu:Nat}{E:zB}(H:rC b tr tk N E m mu):
  (jy (aV N E m) (aV N E m).length (nE b tr tk m mu) ((nE b tr tk m mu).getD 0 [])).length=(Ny b ((tr:Int)+1) (tk:Int) N E).length/\
  Cb (aV N E m) (aV N E m).length (nE b tr tk m mu) ((nE b tr tk m mu).getD 0 [])=mX b ((tr:Int)+1) (tk:Int) N E/\
  FM (aV N E m) (aV N E m).length (aY N E m) (nE b tr tk m mu) ((nE b tr tk m mu).getD 0 [])=oZ b ((tr:Int)+1) (tk:Int) N E:=by
 have hG:=fE H.good E
 have J:=H.Fe
 rw[aZ]
 obtain⟨h1,h2,h3⟩:=adq hG (R:=nE b tr tk m mu) (R':=sM b tr tk mu) (by rw[mJ,uI]) (by rw[mJ];omega) (λl z x hx=>by
  rw[mJ]at z;rw[uU z]at hx;exact(uV.1 hx).1) (λl z x=>by
  rw[mJ]at z;rw[uU z,zm z];exact UJ H.base.2 H.tracks.2 H.many H.few z x)
 rw[h1,h2,h3]
 unfold Ny mX oZ
 rw[TV H.fU,H.mU]
 exact⟨rfl,rfl,rfl⟩
theorem ZM{b:Int}{tr tk m mu:Nat}{E:zB}(H:rC b tr tk N E m mu):0<((nE b tr tk m mu).getD 0 []).length:=by have z:=H.Fe;rw[uU (by omega)];have J:1<=m:=H.good.2.2.2.2.1;have:(0:Int)∈lC b tr tk m 0:=uV.2 ⟨by omega,by rw[abY H.base.2];rfl⟩;exact List.length_pos_of_mem this
def Rp(w:zW)(b t:Int)(m:Nat)(c:Int)(z:zL)(J:zB)(e:Ending)(w':zW):Prop:=
 (c=0->Ol w b t m z J e w')/\(c≠0->e=.returned (.tuple #[.agg #[.int .i64 0,.int .i64 0,.slice none 0 0,.slice none 0 0],bC c])/\Below w.heap.size w w')
theorem U9(b:Int)(z tr tk m mu:Nat)(a:zO)(n cap:Nat)(a':zO)(U:Nat)(N:zL)(E:zB)(w:zW)(hs:gT w a n N)(he:mR w a' n E)(d3:z=tr+1)(H:rC b tr tk N E m mu)(hA:bP b (z:Int) N n=0)(b8:aD b (z:Int)=(m:Int))(d4:aU b (z:Int)=0):
  Calls prog 94 #[.agg #[.int .i64 b,.int .i64 (z:Int),.slice a n cap,.slice a' n U],.int .i64 (tk:Int)] w (Rp w b (tr:Int) mu (if 2000<(Ny b ((tr:Int)+1) (tk:Int) N E).length then 3 else 0) (mX b ((tr:Int)+1) (tk:Int) N E) (oZ b ((tr:Int)+1) (tk:Int) N E)):=by
 obtain⟨d5,d6,d7⟩:=ZL H
 have d8:=ZM H
 have b2:=H.Fe
 have b6:=H.base.2
 have d9:=H.tracks
 have e0:=bG w (.cells #[.int .i64 b,.int .i64 (z:Int),.slice a n cap,.slice a' n U] 35) (.cells #[.int .i64 0,.int .i64 0,.slice none 0 0,.slice none 0 0] 35)
 have Z:=aj e0
 have e1:=aj (aP w (.cells #[.int .i64 b,.int .i64 (z:Int),.slice a n cap,.slice a' n U] 35) (.cells #[.int .i64 0,.int .i64 0,.slice none 0 0,.slice none 0 0] 35))
 have b9:=aj (aQ w (.cells #[.int .i64 b,.int .i64 (z:Int),.slice a n cap,.slice a' n U] 35) (.cells #[.int .i64 0,.int .i64 0,.slice none 0 0,.slice none 0 0] 35))
 have b0:Hid (∀W,Below w.heap.size w W->Calls prog 59 #[.agg #[.int .i64 b,.int .i64 (z:Int),.slice a n cap,.slice a' n U]] W (jX W b (z:Int) N E m)):=λW hW=>by have h:=xW b (z:Int) a n cap N a' U E W (aG hs hW) (bD he hW) hA;rw[b8,Int.toNat_natCast]at h;exact h
 unfold jX at b0
 have e2:=fE H.good E
 have e3:=uq H.good E (by have:=H.n80;omega)
 have a8:Hid (∀(W:zW),Calls prog 114 #[.int .i64 b,.int .i64 (z:Int),.int .i64 (tk:Int)] W (CS W (nE b tr tk m mu))):=λW=>Bb b z tr tk m mu W d3 b6 d9.1 d9.2 H.few H.code d4 b8 b2.2
 unfold CS at a8
 have a6:Hid (∀(W:zW) (a1:zO) (c1:Nat) (a2:zO) (c2:Nat) (g:Nat),gT W a1 (aV N E m).length (aV N E m)->mR W a2 (aV N E m).length (aY N E m)->gT W (some ⟨g,0,none⟩) mu (nE b tr tk m mu)->Calls prog 115 #[.agg #[.int .i64 b,.int .i64 (z:Int),.slice a1 (aV N E m).length c1,.slice a2 (aV N E m).length c2],.int .i64 (tr:Int),.slice (some ⟨g,0,none⟩) mu mu] W (Rn W b (tr:Int) mu (Ny b ((tr:Int)+1) (tk:Int) N E).length (mX b ((tr:Int)+1) (tk:Int) N E) (oZ b ((tr:Int)+1) (tk:Int) N E))):=λW a1 c1 a2 c2 g h1 h2 h3=>by have h:=U7 b (z:Int) (tr:Int) a1 _ c1 a2 c2 m (aV N E m) (aY N E m) (some ⟨g,0,none⟩) mu mu (nE b tr tk m mu) W h1 h2 (by rw[aZ];exact e2) (by rw[aZ];exact e3) h3 (λl hl x hx=>by rw[uU hl]at hx;exact(uV.1 hx).1) b2.1 b2.2 d8;rw[d5,d6,d7]at h;exact h
 have e4:Hid ((nE b tr tk m mu).length=mu):=mJ _ _ _ _ _
 rw[e4.out]at a8
 have f3:(z:Int)-1=(tr:Int):=by omega
 clear hs he H hA b8 d4 d5 d6 d7 d8 e2 e3 d3 e0
 generalize(Ny b ((tr:Int)+1) (tk:Int) N E).length=b1 at a6⊢
 generalize mX b ((tr:Int)+1) (tk:Int) N E=SN at a6⊢
 generalize oZ b ((tr:Int)+1) (tk:Int) N E=SE at a6⊢
 generalize nE b tr tk m mu=LR at a8 a6 e4
 generalize aV N E m=LN at b0 a8 a6
 generalize aY N E m=LE at b0 a6
 obtain⟨c,hc⟩: ∃c:Int,c=if 2000<b1 then 3 else 0:=⟨_,rfl⟩
 rw[<-hc]
 have c0:Hid (∀(e:Ending) (w':zW),(b1<=2000->Ol w b (tr:Int) mu SN SE e w')->(2000<b1->e=.returned (.tuple #[.agg #[.int .i64 0,.int .i64 0,.slice none 0 0,.slice none 0 0],bC 3])/\Below w.heap.size w w')->Rp w b (tr:Int) mu c SN SE e w'):=λe w' h1 h2=>by
  rw[hc];by_cases h:2000<b1
  ·rw[yP h];exact⟨λh3=>absurd h3 (by decide),λ_=>h2 h⟩
  ·rw[yN h];exact⟨λ_=>h1 (by omega),λh3=>absurd rfl h3⟩
 clear hc
 generalize e5:(w.alloc (.cells #[.int .i64 b,.int .i64 (z:Int),.slice a n cap,.slice a' n U] 35)).alloc (.cells #[.int .i64 0,.int .i64 0,.slice none 0 0,.slice none 0 0] 35)=wb at Z e1 b9
 have c3:Hid (wb.heap.size=w.heap.size+2):=by show _=_;rw[<-e5];simp
 obtain⟨⟨p0,p1,p2,p3⟩,-⟩:=aC e1.out
 go_enter func94,ntmps94
 have e6:=aj (b0.out wb Z.out)
 clear b0
 go_wp2_with (go_at_call 59;refine e6.out.mono ?_;rintro e w2 ⟨a1,c1,a2,c2,rfl,e7,b6⟩;have e8:=aj e7;have e9:=aj b6;clear e7 b6)
 clear e5 p0 p1 p2 p3
 have c4:=aj ((Below.refl w2.heap.size w2).alloc zr (.cells #[.int .i64 b,.int .i64 (z:Int),.slice a1 LN.length c1,.slice a2 LN.length c2] 35))
 have c5:=aj (zl w2 (.cells #[.int .i64 b,.int .i64 (z:Int),.slice a1 LN.length c1,.slice a2 LN.length c2] 35))
 generalize w2.alloc (.cells #[.int .i64 b,.int .i64 (z:Int),.slice a1 LN.length c1,.slice a2 LN.length c2] 35)=w3 at c4 c5⊢
 refine(a8.out w3).mono ?_
 rintro e w4 ⟨g,rfl,c6,b7⟩
 have f5:=aj b7
 have f6:=aj c6
 obtain⟨⟨q0,q1,q2,q3⟩,-⟩:=aC ((b7.block _ (zG c5.out).1).trans c5.out)
 have c7:Hid (Below w2.heap.size w2 w4):=c4.out.trans (b7.mono c4.out.size)
 have f0:=aj (a6.out w4 a1 c1 a2 c2 g (aG e8.out.here.1 c7.out) (bD e8.out.here.2 c7.out) c6)
 unfold Rn at f0
 have J:Hid (Below wb.heap.size wb w4):=e9.out.trans (c7.out.mono e9.out.size)
 clear c6 b7 a8 a6 e6
 go_wp2_with fail
 refine f0.out.mono ?_
 rintro e w5 ⟨b3,c8⟩
 by_cases hL:b1<=2000
 ·obtain⟨bx,vN,vE,vals,G,rfl,hA,a7⟩:=b3 hL
  obtain⟨aN,cN,rfl⟩:=nG hA.CP
  obtain⟨aE,cE,rfl⟩:=nG hA.CQ
  have hr:=((J.out.trans (a7.mono J.out.size)).block (w.heap.size+1) (by rw[c3.out];omega)).trans b9.out
  obtain⟨⟨r0,r1,r2,r3⟩,rf⟩:=aC hr
  have HR:=aj hr
  have HA:=aj hA
  have c9:Hid (Below w.heap.size w w5):=(Z.out.trans (J.out.mono Z.out.size)).trans (a7.mono (Nat.le_trans Z.out.size J.out.size))
  have d0:Hid (w.heap.size+2<=w4.heap.size):=by have:=J.out.size;have:=c3.out;show _<=_;omega
  clear hr hA a7 b3 c8 q0 q1 q2 q3
  go_wp2
  obtain⟨⟨b4,f1,d1⟩,b5⟩:=eO (v0:=.int .i64 b) (v1:=.int .i64 (tr:Int)) (v2:=.slice aN SN.length cN) (v3:=.slice aE SN.length cE) HR.out rfl
  have hb:=b5 w w.heap.size c9.out (by omega)
  obtain⟨⟨z0,z1,z2,z3⟩,-⟩:=aC b4
  have f2:=mO HA.out (λx hx=>d1 x (by have:=(HA.out.lt x hx).1;have:=d0.out;omega)) (Nat.le_of_eq f1.symm)
  have d2:=MB f2 (show w.heap.size<=w4.heap.size by have:=d0.out;omega)
  exact bodyPost_ret (v:=.tuple #[.agg #[.int .i64 b,.int .i64 (tr:Int),.slice aN SN.length cN,.slice aE SN.length cE],.nilIface]) (by simp[results,results94,go_sem,z0,z1,z2,z3]) rfl (c0.out _ _ (λ_=>⟨bx,_,_,vals,G,rfl,d2,hb⟩) (λh=>by omega))
 ·obtain⟨rfl,a7⟩:=c8 (by omega)
  have hr:=((J.out.trans (a7.mono J.out.size)).block (w.heap.size+1) (by rw[c3.out];omega)).trans b9.out
  obtain⟨⟨r0,r1,r2,r3⟩,rf⟩:=aC hr
  have HR:=aj hr
  have c9:Hid (Below w.heap.size w w5):=(Z.out.trans (J.out.mono Z.out.size)).trans (a7.mono (Nat.le_trans Z.out.size J.out.size))
  clear hr a7 b3 c8 q0 q1 q2 q3
  rw[dx (show(3:Int)≠0 by decide)]
  go_wp2
  obtain⟨⟨b4,f1,d1⟩,b5⟩:=eF HR.out rfl
  have hb:=b5 w w.heap.size c9.out (by omega)
  obtain⟨⟨z0,z1,z2,z3⟩,-⟩:=aC b4
  exact bodyPost_ret (v:=.tuple #[.agg #[.int .i64 0,.int .i64 0,.slice none 0 0,.slice none 0 0],.iface 45 (.int .i64 3)]) (by simp[results,results94,go_sem,z0,z1,z2,z3]) rfl (c0.out _ _ (λh=>by omega) (λ_=>⟨rfl,hb⟩))
theorem Va(b t:Int)(a:zO)(n cap:Nat)(a':zO)(k z:Nat)(N:zL)(tk:Int)(w:zW)(hs:gT w a n N)(hk:k<=maxLen)(hA:bP b t N k≠0):
  Calls prog 94 #[.agg #[.int .i64 b,.int .i64 t,.slice a n cap,.slice a' k z],.int .i64 tk] w λe w'=>e=.returned (.tuple #[.agg #[.int .i64 0,.int .i64 0,.slice none 0 0,.slice none 0 0],bC (bP b t N k)])/\Below w.heap.size w w':=by
 have U:=bG w (.cells #[.int .i64 b,.int .i64 t,.slice a n cap,.slice a' k z] 35) (.cells #[.int .i64 0,.int .i64 0,.slice none 0 0,.slice none 0 0] 35)
 have a2:=aj U
 have a6:=aj (aP w (.cells #[.int .i64 b,.int .i64 t,.slice a n cap,.slice a' k z] 35) (.cells #[.int .i64 0,.int .i64 0,.slice none 0 0,.slice none 0 0] 35))
 have a7:=aj (aQ w (.cells #[.int .i64 b,.int .i64 t,.slice a n cap,.slice a' k z] 35) (.cells #[.int .i64 0,.int .i64 0,.slice none 0 0,.slice none 0 0] 35))
 have J:=aj (acr b t a n cap N a' k z _ (aG hs U) hk hA)
 rw[dx hA]at J⊢
 clear hs U
 generalize bP b t N k=c at J⊢
 clear hA
 generalize a8:(w.alloc (.cells #[.int .i64 b,.int .i64 t,.slice a n cap,.slice a' k z] 35)).alloc (.cells #[.int .i64 0,.int .i64 0,.slice none 0 0,.slice none 0 0] 35)=wb at a2 a6 a7 J
 have b3:Hid (wb.heap.size=w.heap.size+2):=by show _=_;rw[<-a8];simp
 obtain⟨⟨p0,p1,p2,p3⟩,-⟩:=aC a6.out
 go_enter func94,ntmps94
 go_wp2_with fail
 clear a8 p0 p1 p2 p3
 refine J.out.mono ?_
 rintro e w1 ⟨rfl,Z⟩
 have hr:=(Z.block (w.heap.size+1) (by rw[b3.out];omega)).trans a7.out
 have HR:=aj hr
 have b4:=aj (ak a2.out Z)
 clear hr Z
 have a1:=((Below.refl w1.heap.size w1).alloc zr (.cells #[.int .i64 0,.int .i64 0,.slice none 0 0,.slice none 0 0] 35))
 have b0:=aj ((a1.block (w.heap.size+1) (zG HR.out).1).trans HR.out)
 have b5:=aj (ak b4.out a1)
 clear a1
 obtain⟨⟨r0,r1,r2,r3⟩,rf⟩:=aC b0.out
 go_wp2
 obtain⟨⟨b1,b7,b6⟩,b2⟩:=eF b0.out rfl
 have hb:=b2 w w.heap.size b5.out (by omega)
 obtain⟨⟨z0,z1,z2,z3⟩,-⟩:=aC b1
 exact bodyPost_ret (v:=.tuple #[.agg #[.int .i64 0,.int .i64 0,.slice none 0 0,.slice none 0 0],.iface 45 (.int .i64 c)]) (by simp[results,results94,go_sem,z0,z1,z2,z3]) rfl ⟨rfl,hb⟩
theorem Rq(b t:Int)(a:zO)(n cap:Nat)(a':zO)(k z:Nat)(N:zL)(tk:Int)(w:zW)(E:zB)(hs:gT w a n N)(he:mR w a' k E)(hA:bP b t N k=0)(ht: ¬(0<=tk/\tk<t)):
  Calls prog 94 #[.agg #[.int .i64 b,.int .i64 t,.slice a n cap,.slice a' k z],.int .i64 tk] w λe w'=>e=.returned (.tuple #[.agg #[.int .i64 0,.int .i64 0,.slice none 0 0,.slice none 0 0],bC 1])/\Below w.heap.size w w':=by
 have U:=bG w (.cells #[.int .i64 b,.int .i64 t,.slice a n cap,.slice a' k z] 35) (.cells #[.int .i64 0,.int .i64 0,.slice none 0 0,.slice none 0 0] 35)
 have a7:=aj U
 have a8:=aj (aP w (.cells #[.int .i64 b,.int .i64 t,.slice a n cap,.slice a' k z] 35) (.cells #[.int .i64 0,.int .i64 0,.slice none 0 0,.slice none 0 0] 35))
 have b0:=aj (aQ w (.cells #[.int .i64 b,.int .i64 t,.slice a n cap,.slice a' k z] 35) (.cells #[.int .i64 0,.int .i64 0,.slice none 0 0,.slice none 0 0] 35))
 have b6:k=n:=by rw[(bS hA).2.1,hs.1]
 subst b6
 have J:=aj (xW b t a k cap N a' z E _ (aG hs U) (bD he U) hA)
 unfold jX at J
 generalize(aV N E (aD b t).toNat)=LN at J
 generalize(aY N E (aD b t).toNat)=LE at J
 have b1:=aj (λW=>Bc b t tk W (bS hA).1 ht)
 rw[dx (show(1:Int)≠0 by decide)]
 clear hs U hA
 generalize b2:(w.alloc (.cells #[.int .i64 b,.int .i64 t,.slice a k cap,.slice a' k z] 35)).alloc (.cells #[.int .i64 0,.int .i64 0,.slice none 0 0,.slice none 0 0] 35)=wb at a7 a8 b0 J
 have b7:Hid (wb.heap.size=w.heap.size+2):=by show _=_;rw[<-b2];simp
 obtain⟨⟨p0,p1,p2,p3⟩,-⟩:=aC a8.out
 clear ht
 rw[dx (show(1:Int)≠0 by decide)]at b1
 go_enter func94,ntmps94
 go_wp2_with fail
 clear b2 p0 p1 p2 p3
 refine J.out.mono ?_
 rintro e w1 ⟨a1,c1,a2,c2,rfl,-,Z⟩
 have a6:=((Below.refl w1.heap.size w1).alloc zr (.cells #[.int .i64 b,.int .i64 t,.slice a1 LN.length c1,.slice a2 LN.length c2] 35))
 have hr:=(Z.block (w.heap.size+1) (by rw[b7.out];omega)).trans b0.out
 have b3:=aj ((a6.block (w.heap.size+1) (zG hr).1).trans hr)
 have b8:=aj (ak (ak a7.out Z) a6)
 obtain⟨⟨r0,r1,r2,r3⟩,rf⟩:=aC b3.out
 clear hr Z a6
 go_wp2_with (go_at_call 114;refine(b1.out _).mono ?_;rintro e w' ⟨rfl,hw⟩;rw[hw];clear hw w')
 obtain⟨⟨b4,c0,b9⟩,b5⟩:=eF b3.out rfl
 have hb:=b5 w w.heap.size b8.out (by omega)
 obtain⟨⟨z0,z1,z2,z3⟩,-⟩:=aC b4
 exact bodyPost_ret (v:=.tuple #[.agg #[.int .i64 0,.int .i64 0,.slice none 0 0,.slice none 0 0],.iface 45 (.int .i64 1)]) (by simp[results,results94,go_sem,z0,z1,z2,z3]) rfl ⟨rfl,hb⟩
theorem ZN(b t:Int)(a:zO)(n cap:Nat)(a':zO)(k z:Nat)(N:zL)(E:zB)(tk:Int)(w:zW)(hs:gT w a n N)(he:mR w a' k E):
  Calls prog 94 #[.agg #[.int .i64 b,.int .i64 t,.slice a n cap,.slice a' k z],.int .i64 tk] w (Rp w b (t-1) (aD b (t-1)).toNat (IG b t N E k tk) (mX b t tk N E) (oZ b t tk N E)):=by
 have Z: ∀c:Int,c≠0->IG b t N E k tk=c->(Calls prog 94 #[.agg #[.int .i64 b,.int .i64 t,.slice a n cap,.slice a' k z],.int .i64 tk] w λe w'=>e=.returned (.tuple #[.agg #[.int .i64 0,.int .i64 0,.slice none 0 0,.slice none 0 0],bC c])/\Below w.heap.size w w')->Calls prog 94 #[.agg #[.int .i64 b,.int .i64 t,.slice a n cap,.slice a' k z],.int .i64 tk] w (Rp w b (t-1) (aD b (t-1)).toNat (IG b t N E k tk) (mX b t tk N E) (oZ b t tk N E)):=λc h1 h2 h3=>by rw[h2];refine h3.mono ?_;rintro e w' h;exact⟨λh4=>absurd h4 h1,λ_=>h⟩
 by_cases J:bP b t N k=0
 ·by_cases ht:0<=tk/\tk<t
  ·have hF:Ww b t N k tk=0:=by unfold Ww;rw[yP J,yP ht]
   obtain⟨tr,U,m,mu,rfl,rfl,hk,H⟩:=Gp E hF
   obtain rfl:k=n:=by rw[hk,hs.1]
   obtain⟨hM,-,-,-⟩:=bS J
   have hS:IG b ((tr:Int)+1) N E k (U:Int)=if 2000<(Ny b ((tr:Int)+1) (U:Int) N E).length then 3 else 0:=by unfold IG;rw[yP hF]
   have hU:aD b ((tr:Int)+1)=(m:Int):=by obtain⟨-,-,-,-,a1,-⟩:=LC hM;rw[<-a1];exact H.many
   have h:=U9 b (tr+1) tr U m mu a k cap a' z N E w hs he rfl H (by rw[Int.natCast_add];exact J) (by rw[Int.natCast_add];exact hU) (by rw[Int.natCast_add];exact hM)
   rw[Int.natCast_add]at h
   rw[hS,show(tr:Int)+1-1=(tr:Int)by omega,H.fU,Int.toNat_natCast]
   exact h
  ·refine Z 1 (by decide) ?_ (Rq b t a n cap a' k z N tk w E hs he J ht)
   unfold IG Ww
   rw[yP J,yN ht,yN (by decide)]
 ·refine Z _ J ?_ (Va b t a n cap a' k z N tk w hs he.2.1 J)
  unfold IG Ww
  rw[yN J,yN J]
theorem agW{b t:Int}{N:zL}{E:zB}{k:Nat}{tk:Int}(h:IG b t N E k tk=0):aU b (t-1)=0/\aK (aD b (t-1)).toNat (mX b t tk N E).length (mX b t tk N E)/\(mX b t tk N E).length<=2000/\(oZ b t tk N E).length=(mX b t tk N E).length/\(aD b (t-1)).toNat<=36:=by
 obtain⟨U,J⟩:=uJ h;obtain⟨tr,z,m,mu,rfl,rfl,hk,H⟩:=Gp E U;have Z:(mX b ((tr:Int)+1) (z:Int) N E).length=(Ny b ((tr:Int)+1) (z:Int) N E).length:=by unfold mX Ny;exact kQ _ _ _
 have e2:(oZ b ((tr:Int)+1) (z:Int) N E).length=(Ny b ((tr:Int)+1) (z:Int) N E).length:=by unfold oZ Ny;exact Nn _ _
 rw[Z,e2,show(tr:Int)+1-1=(tr:Int)by omega,H.fU,Int.toNat_natCast];exact⟨H.code,Gq H J,J,rfl,H.Fe.2⟩
theorem Vj:yC:=by
 intro b t a n cap a' k U N E tk w hs he;have b6:=bG w (.cells #[.int .i64 b,.int .i64 t,.slice a n cap,.slice a' k U] 35) (.cells #[.int .i64 0,.int .i64 0,.slice none 0 0,.slice none 0 0] 35);have J:=aj b6;have c9:=aj (aP w (.cells #[.int .i64 b,.int .i64 t,.slice a n cap,.slice a' k U] 35) (.cells #[.int .i64 0,.int .i64 0,.slice none 0 0,.slice none 0 0] 35));have b7:=aj (aQ w (.cells #[.int .i64 b,.int .i64 t,.slice a n cap,.slice a' k U] 35) (.cells #[.int .i64 0,.int .i64 0,.slice none 0 0,.slice none 0 0] 35));have HC:=aj (ZN b t a n cap a' k U N E tk _ (aG hs b6) (bD he b6));unfold Rp at HC;have b0:=aj (@agW b t N E k tk)
 have Z:Hid (∀(e:Ending) (w':zW),IG b t N E k tk=0->bE (mX b t tk N E) (oZ b t tk N E) (aD b (t-1)).toNat<=80->dB w b (t-1) (aV (mX b t tk N E) (oZ b t tk N E) (aD b (t-1)).toNat) (aY (mX b t tk N E) (oZ b t tk N E) (aD b (t-1)).toNat) 0 e w'->dB w (bK (sN b t N E k tk) b) (bK (sN b t N E k tk) (t-1)) (Cc b t N E k tk) (FN b t N E k tk) (sN b t N E k tk) e w'):=λe w' h1 h2 h3=>by
  have hc:sN b t N E k tk=0:=by unfold sN;rw[yP h1,yN (by omega)]
  unfold Cc FN;rw[yP hc,yP hc,hc];exact h3
 have HZ:Hid (∀(e:Ending) (w':zW),IG b t N E k tk=0->80<bE (mX b t tk N E) (oZ b t tk N E) (aD b (t-1)).toNat->dB w 0 0 [] [] 3 e w'->dB w (bK (sN b t N E k tk) b) (bK (sN b t N E k tk) (t-1)) (Cc b t N E k tk) (FN b t N E k tk) (sN b t N E k tk) e w'):=λe w' h1 h2 h3=>by
  have hc:sN b t N E k tk=3:=by unfold sN;rw[yP h1,yP (by omega)]
  unfold Cc FN;rw[hc,yN (by decide),yN (by decide)];exact h3
 have HN:Hid (∀(e:Ending) (w':zW),IG b t N E k tk≠0->dB w 0 0 [] [] (IG b t N E k tk) e w'->dB w (bK (sN b t N E k tk) b) (bK (sN b t N E k tk) (t-1)) (Cc b t N E k tk) (FN b t N E k tk) (sN b t N E k tk) e w'):=λe w' h1 h3=>by
  have hc:sN b t N E k tk=IG b t N E k tk:=by unfold sN;rw[yN h1]
  unfold Cc FN;rw[hc,yN h1,yN h1];unfold bK;rw[yN h1,yN h1];exact h3
 clear hs he b6;generalize d0:(w.alloc (.cells #[.int .i64 b,.int .i64 t,.slice a n cap,.slice a' k U] 35)).alloc (.cells #[.int .i64 0,.int .i64 0,.slice none 0 0,.slice none 0 0] 35)=wb at J c9 b7 HC;have b8:Hid (wb.heap.size=w.heap.size+2):=by show _=_;rw[<-d0];simp
 obtain⟨⟨p0,p1,p2,p3⟩,-⟩:=aC c9.out;generalize IG b t N E k tk=S at HC b0 Z HZ HN;generalize mX b t tk N E=SN at HC b0 Z HZ;generalize oZ b t tk N E=SE at HC b0 Z HZ;generalize bK (sN b t N E k tk) b=OB at Z HZ HN⊢;generalize bK (sN b t N E k tk) (t-1)=OT at Z HZ HN⊢;generalize Cc b t N E k tk=RN at Z HZ HN⊢;generalize FN b t N E k tk=RE at Z HZ HN⊢;generalize sN b t N E k tk=RC at Z HZ HN⊢;go_enter func64,ntmps64;go_wp2_with fail;clear d0 p0 p1 p2 p3;refine HC.out.mono ?_;rintro e w1 ⟨b4,c3⟩;by_cases hS:S=0
 ·obtain⟨bx,vN,vE,vals,G,rfl,hA,b1⟩:=b4 hS
  obtain⟨hM,hG,hK,d1,d2⟩:=b0.out hS;obtain⟨aN,cN,aE,cE,rfl,rfl,d3,d4⟩:=Ro hA (by omega) d2 (λj hj=>(GJ hG j hj).1) (λj hj=>(GJ hG j hj).2) d1;have d5:=aj b1;have b9:=aj ((Below.refl w1.heap.size w1).alloc zr (.cells #[.int .i64 b,.int .i64 (t-1),.slice aN SN.length cN,.slice aE SN.length cE] 35));have b2:=aj (rF b (t-1) aN SN.length cN _ SN aE cE SE _ (aG d3 b9.out) (bD d4 b9.out) hG (qR hM hG (by omega)));unfold rE jX at b2;clear hA b1 b4 c3 hM hG hK d1 d2 d3 d4 b0;have c0:=aj (λe w'=>Z.out e w' hS);have d6:=aj (λe w'=>HZ.out e w' hS);clear Z HZ HN hS;have d7:=aj (zl w1 (.cells #[.int .i64 b,.int .i64 (t-1),.slice aN SN.length cN,.slice aE SN.length cE] 35));generalize e0:w1.alloc (.cells #[.int .i64 b,.int .i64 (t-1),.slice aN SN.length cN,.slice aE SN.length cE] 35)=wa at b9 b2 d7;generalize aV SN SE (aD b (t-1)).toNat=LN at b2 c0;generalize aY SN SE (aD b (t-1)).toNat=LE at b2 c0;generalize bE SN SE (aD b (t-1)).toNat=LK at b2 c0 d6;obtain⟨⟨q0,q1,q2,q3⟩,-⟩:=aC d7.out;have z:Hid (Below wb.heap.size wb wa):=d5.out.trans (b9.out.mono d5.out.size);go_wp2_with fail;clear e0 q0 q1 q2 q3;refine b2.out.mono ?_;rintro e w2 ⟨c4,c5⟩;by_cases hK:LK<=80
  ·obtain⟨a1,c1,a2,c2,rfl,d8,a6⟩:=c4 hK;have hr:=((z.out.trans (a6.mono z.out.size)).block (w.heap.size+1) (by rw[b8.out];omega)).trans b7.out;obtain⟨⟨r0,r1,r2,r3⟩,rf⟩:=aC hr;have HR:=aj hr;have e1:=aj d8;have b3:Hid (Below w.heap.size w w2):=(J.out.trans (z.out.mono J.out.size)).trans (a6.mono (Nat.le_trans J.out.size z.out.size));have e2:Hid (w.heap.size+2<=wa.heap.size):=(by have:=z.out.size;have:=b8.out;show _<=_;omega);clear hr d8 a6 c4 c5;go_wp2;obtain⟨⟨a7,c6,b5⟩,a8⟩:=eO (v0:=.int .i64 b) (v1:=.int .i64 (t-1)) (v2:=.slice a1 LN.length c1) (v3:=.slice a2 LN.length c2) HR.out rfl;have d9:dS w a1 LN.length LN a2 LE ((((w2.setCell ⟨w.heap.size+1,0,none⟩ (.int .i64 b)).setCell ⟨w.heap.size+1,1,none⟩ (.int .i64 (t-1))).setCell ⟨w.heap.size+1,2,none⟩ (.slice a1 LN.length c1)).setCell ⟨w.heap.size+1,3,none⟩ (.slice a2 LN.length c2)):=λW' e3=>e1.out W' (λx hx e4=>by have h1:=e2.out;rw[e3 x (by omega) (by rw[c6];exact e4),b5 x (by omega)]);have hb:=a8 w w.heap.size b3.out (by omega);obtain⟨⟨z0,z1,z2,z3⟩,-⟩:=aC a7;exact bodyPost_ret (v:=.tuple #[.agg #[.int .i64 b,.int .i64 (t-1),.slice a1 LN.length c1,.slice a2 LN.length c2],.nilIface]) (by simp[results,results64,go_sem,z0,z1,z2,z3]) rfl (c0.out _ _ hK ⟨a1,c1,a2,c2,rfl,d9,hb⟩)
  ·obtain⟨rfl,a6⟩:=c5 (by omega);have hr:=((z.out.trans (a6.mono z.out.size)).block (w.heap.size+1) (by rw[b8.out];omega)).trans b7.out;obtain⟨⟨r0,r1,r2,r3⟩,rf⟩:=aC hr;have HR:=aj hr;have b3:Hid (Below w.heap.size w w2):=(J.out.trans (z.out.mono J.out.size)).trans (a6.mono (Nat.le_trans J.out.size z.out.size));clear hr a6 c4 c5;go_wp2;obtain⟨⟨a7,c6,b5⟩,a8⟩:=eF HR.out rfl;have hb:=a8 w w.heap.size b3.out (by omega);obtain⟨⟨z0,z1,z2,z3⟩,-⟩:=aC a7;exact bodyPost_ret (v:=.tuple #[.agg #[.int .i64 0,.int .i64 0,.slice none 0 0,.slice none 0 0],.iface 45 (.int .i64 3)]) (by simp[results,results64,go_sem,z0,z1,z2,z3]) rfl (d6.out _ _ (by omega) ⟨none,0,none,0,rfl,dD _ _,hb⟩)
 ·obtain⟨rfl,b1⟩:=c3 hS;have e5:=aj (λe w'=>HN.out e w' hS);have hr:=(b1.block (w.heap.size+1) (by rw[b8.out];omega)).trans b7.out;have c7:=(Below.refl w1.heap.size w1).alloc zr (.cells #[.int .i64 0,.int .i64 0,.slice none 0 0,.slice none 0 0] 35);have b3:Hid (Below w.heap.size w (w1.alloc (.cells #[.int .i64 0,.int .i64 0,.slice none 0 0,.slice none 0 0] 35))):=ak (ak J.out b1) c7;have c8:=(c7.block _ (zG hr).1).trans hr;have e6:=aj hS;rw[dx hS];clear b1 b4 c3 hS Z HZ HN hr b0 c7;obtain⟨⟨r0,r1,r2,r3⟩,rf⟩:=aC c8;have HR:=aj c8;clear c8;go_wp2;obtain⟨⟨a7,c6,b5⟩,a8⟩:=eF HR.out rfl;have hb:=a8 w w.heap.size b3.out (by omega);obtain⟨⟨z0,z1,z2,z3⟩,-⟩:=aC a7;exact bodyPost_ret (v:=.tuple #[.agg #[.int .i64 0,.int .i64 0,.slice none 0 0,.slice none 0 0],.iface 45 (.int .i64 S)]) (by simp[results,results64,go_sem,z0,z1,z2,z3]) rfl (e5.out _ _ ⟨none,0,none,0,by rw[dx e6.out];rfl,dD _ _,hb⟩)
end Go.Proofs.YtceojneljnnooaaGreat
