import Derived.Test.YtfiknidoihlkfaaGreatZHk
import Derived.Test.YtfiknidoihlkfaaGreatHj
open Go.Proofs.Tryz
namespace Go.Proofs.YtfiknidoihlkfaaGreat
open Go.RowKit
set_option maxHeartbeats 0
set_option maxRecDepth 100000
set_option linter.all false
variable{N:zL}
theorem ZK{b:Int}{tr tk m mu:Nat}{E:zB}(H:rC b tr tk N E m mu):
  (jw (aU N E m) (aU N E m).length (nD b tr tk m mu) ((nD b tr tk m mu).getD 0 [])).length=(Nu b ((tr:Int)+1) (tk:Int) N E).length/\
  BZ (aU N E m) (aU N E m).length (nD b tr tk m mu) ((nD b tr tk m mu).getD 0 [])=mR b ((tr:Int)+1) (tk:Int) N E/\
  FM (aU N E m) (aU N E m).length (aZ N E m) (nD b tr tk m mu) ((nD b tr tk m mu).getD 0 [])=oZ b ((tr:Int)+1) (tk:Int) N E:=by
 have hG:=fE H.good E
 have J:=H.Fb
 rw[aY]
 obtain⟨h1,h2,h3⟩:=ado hG (R:=nD b tr tk m mu) (R':=sK b tr tk mu) (by rw[mH,uH]) (by rw[mH];omega) (λl z x hx=>by
  rw[mH]at z;rw[uT z]at hx;exact(uU.1 hx).1) (λl z x=>by
  rw[mH]at z;rw[uT z,zi z];exact UF H.base.2 H.tracks.2 H.many H.few z x)
 rw[h1,h2,h3]
 unfold Nu mR oZ
 rw[TS H.fU,H.mU]
 exact⟨rfl,rfl,rfl⟩
theorem ZL{b:Int}{tr tk m mu:Nat}{E:zB}(H:rC b tr tk N E m mu):0<((nD b tr tk m mu).getD 0 []).length:=by have z:=H.Fb;rw[uT (by omega)];have J:1<=m:=H.good.2.2.2.2.1;have:(0:Int)∈lC b tr tk m 0:=uU.2 ⟨by omega,by rw[abY H.base.2];rfl⟩;exact List.length_pos_of_mem this
def Rm(w:zW)(b t:Int)(m:Nat)(c:Int)(z:zL)(J:zB)(e:Ending)(w':zW):Prop:=
 (c=0->Oh w b t m z J e w')/\(c≠0->e=.returned (.tuple #[.agg #[.int .i64 0,.int .i64 0,.slice none 0 0,.slice none 0 0],bC c])/\Below w.heap.size w w')
theorem U6(b:Int)(z tr tk m mu:Nat)(a:zO)(n cap:Nat)(a':zO)(U:Nat)(N:zL)(E:zB)(w:zW)(hs:gT w a n N)(he:mX w a' n E)(e1:z=tr+1)(H:rC b tr tk N E m mu)(hA:bT b (z:Int) N n=0)(c5:aD b (z:Int)=(m:Int))(e2:aV b (z:Int)=0):
  Calls prog 94 #[.agg #[.int .i64 b,.int .i64 (z:Int),.slice a n cap,.slice a' n U],.int .i64 (tk:Int)] w (Rm w b (tr:Int) mu (if 2000<(Nu b ((tr:Int)+1) (tk:Int) N E).length then 3 else 0) (mR b ((tr:Int)+1) (tk:Int) N E) (oZ b ((tr:Int)+1) (tk:Int) N E)):=by
 obtain⟨e3,e4,e5⟩:=ZK H
 have e6:=ZL H
 have b3:=H.Fb
 have b7:=H.base.2
 have e7:=H.tracks
 have c6:=bG w (.cells #[.int .i64 b,.int .i64 (z:Int),.slice a n cap,.slice a' n U] 35) (.cells #[.int .i64 0,.int .i64 0,.slice none 0 0,.slice none 0 0] 35)
 have a6:=aj c6
 have c7:=aj (aP w (.cells #[.int .i64 b,.int .i64 (z:Int),.slice a n cap,.slice a' n U] 35) (.cells #[.int .i64 0,.int .i64 0,.slice none 0 0,.slice none 0 0] 35))
 have c8:=aj (aQ w (.cells #[.int .i64 b,.int .i64 (z:Int),.slice a n cap,.slice a' n U] 35) (.cells #[.int .i64 0,.int .i64 0,.slice none 0 0,.slice none 0 0] 35))
 have b8:=aj (vK b (z:Int) a a' n cap n U N _ (aG hs c6) he.2.1)
 rw[hA,cu]at b8
 have b1:Hid (∀W,Below w.heap.size w W->Calls prog 59 #[.agg #[.int .i64 b,.int .i64 (z:Int),.slice a n cap,.slice a' n U]] W (kQ W b (z:Int) N E m)):=λW hW=>by have h:=Cc b (z:Int) a n cap N a' U E W (aG hs hW) (bE he hW) hA;rw[c5,Int.toNat_natCast]at h;exact h
 unfold kQ at b1
 have c9:=fE H.good E
 have e8:=uo H.good E (by have:=H.n80;omega)
 have b0:Hid (∀(W:zW) (Z:zO) (c1:Nat) (a2:zO) (c2:Nat),gT W Z (aU N E m).length (aU N E m)->Calls prog 114 #[.agg #[.int .i64 b,.int .i64 (z:Int),.slice Z (aU N E m).length c1,.slice a2 (aU N E m).length c2],.int .i64 (tk:Int)] W (CQ W (nD b tr tk m mu))):=λW Z c1 a2 c2 h1=>Ba b z tr tk m mu Z _ c1 a2 _ c2 _ W h1 (by rw[aY];exact c9) e1 b7 e7.1 e7.2 H.few H.code H.fU e2 c5 b3.2
 unfold CQ at b0
 have a7:Hid (∀(W:zW) (Z:zO) (c1:Nat) (a2:zO) (c2:Nat) (g:Nat),gT W Z (aU N E m).length (aU N E m)->mX W a2 (aU N E m).length (aZ N E m)->gT W (some ⟨g,0,none⟩) mu (nD b tr tk m mu)->Calls prog 115 #[.agg #[.int .i64 b,.int .i64 (z:Int),.slice Z (aU N E m).length c1,.slice a2 (aU N E m).length c2],.int .i64 (tr:Int),.slice (some ⟨g,0,none⟩) mu mu] W (Rk W b (tr:Int) mu (Nu b ((tr:Int)+1) (tk:Int) N E).length (mR b ((tr:Int)+1) (tk:Int) N E) (oZ b ((tr:Int)+1) (tk:Int) N E))):=λW Z c1 a2 c2 g h1 h2 h3=>by have h:=U4 b (z:Int) (tr:Int) Z _ c1 a2 c2 m (aU N E m) (aZ N E m) (some ⟨g,0,none⟩) mu mu (nD b tr tk m mu) W h1 h2 (by rw[aY];exact c9) (by rw[aY];exact e8) h3 (λl hl x hx=>by rw[uT hl]at hx;exact(uU.1 hx).1) b3.1 b3.2 e6;rw[e3,e4,e5]at h;exact h
 have e9:Hid ((nD b tr tk m mu).length=mu):=mH _ _ _ _ _
 rw[e9.out]at b0
 have f8:(z:Int)-1=(tr:Int):=by omega
 have f9: ¬((tk:Int)<0):=by omega
 have g1: ¬((tk:Int)≥(z:Int)):=by omega
 clear hs he H hA c5 e2 e3 e4 e5 e6 c9 e8 e1 c6
 generalize(Nu b ((tr:Int)+1) (tk:Int) N E).length=b2 at a7⊢
 generalize mR b ((tr:Int)+1) (tk:Int) N E=SN at a7⊢
 generalize oZ b ((tr:Int)+1) (tk:Int) N E=SE at a7⊢
 generalize nD b tr tk m mu=LR at b0 a7 e9
 generalize aU N E m=LN at b1 b0 a7
 generalize aZ N E m=LE at b1 a7
 obtain⟨c,hc⟩: ∃c:Int,c=if 2000<b2 then 3 else 0:=⟨_,rfl⟩
 rw[<-hc]
 have d0:Hid (∀(e:Ending) (w':zW),(b2<=2000->Oh w b (tr:Int) mu SN SE e w')->(2000<b2->e=.returned (.tuple #[.agg #[.int .i64 0,.int .i64 0,.slice none 0 0,.slice none 0 0],bC 3])/\Below w.heap.size w w')->Rm w b (tr:Int) mu c SN SE e w'):=λe w' h1 h2=>by
  rw[hc];by_cases h:2000<b2
  ·rw[yP h];exact⟨λh3=>absurd h3 (by decide),λ_=>h2 h⟩
  ·rw[yN h];exact⟨λ_=>h1 (by omega),λh3=>absurd rfl h3⟩
 clear hc
 generalize f0:(w.alloc (.cells #[.int .i64 b,.int .i64 (z:Int),.slice a n cap,.slice a' n U] 35)).alloc (.cells #[.int .i64 0,.int .i64 0,.slice none 0 0,.slice none 0 0] 35)=wb at a6 c7 c8 b8
 have b9:Hid (wb.heap.size=w.heap.size+2):=by show _=_;rw[<-f0];simp
 obtain⟨⟨p0,p1,p2,p3⟩,-⟩:=aC c7.out
 go_enter func94,ntmps94
 go_wp2_with fail
 clear f0 p0 p1 p2 p3
 refine b8.out.mono ?_
 rintro e w1 ⟨rfl,c0⟩
 have d1:=aj c0
 obtain⟨⟨p0,p1,p2,p3⟩,-⟩:=aC ((c0.block _ (by rw[b9.out];omega)).trans c7.out)
 have f1:=aj (b1.out w1 (ak a6.out c0))
 clear c0 b1 b8
 go_wp2_with (go_at_call 59;refine f1.out.mono ?_;rintro e w2 ⟨Z,c1,a2,c2,rfl,f2,b7⟩;have d2:=aj f2;have f3:=aj b7;clear f2 b7)
 have c3:=aj ((Below.refl w2.heap.size w2).alloc zr (.cells #[.int .i64 b,.int .i64 (z:Int),.slice Z LN.length c1,.slice a2 LN.length c2] 35))
 have d3:=aj (zl w2 (.cells #[.int .i64 b,.int .i64 (z:Int),.slice Z LN.length c1,.slice a2 LN.length c2] 35))
 generalize w2.alloc (.cells #[.int .i64 b,.int .i64 (z:Int),.slice Z LN.length c1,.slice a2 LN.length c2] 35)=w3 at c3 d3⊢
 refine(b0.out w3 Z c1 a2 c2 (aG d2.out.here.1 c3.out)).mono ?_
 rintro e w4 ⟨g,rfl,d4,c4⟩
 have g2:=aj c4
 have g3:=aj d4
 obtain⟨⟨q0,q1,q2,q3⟩,-⟩:=aC ((c4.block _ (zG d3.out).1).trans d3.out)
 have d5:Hid (Below w2.heap.size w2 w4):=c3.out.trans (c4.mono c3.out.size)
 have f5:=aj (a7.out w4 Z c1 a2 c2 g (aG d2.out.here.1 d5.out) (bE d2.out.here.2 d5.out) d4)
 unfold Rk at f5
 have J:Hid (Below wb.heap.size wb w4):=(d1.out.trans (f3.out.mono d1.out.size)).trans (d5.out.mono (Nat.le_trans d1.out.size f3.out.size))
 clear d4 c4 p0 p1 p2 p3 b0 a7 f1
 go_wp2_with fail
 refine f5.out.mono ?_
 rintro e w5 ⟨b4,d6⟩
 by_cases hL:b2<=2000
 ·obtain⟨bx,vN,vE,vals,G,rfl,hA,a8⟩:=b4 hL
  obtain⟨aN,cN,rfl⟩:=nE hA.CO
  obtain⟨aE,cE,rfl⟩:=nE hA.CP
  have hr:=((J.out.trans (a8.mono J.out.size)).block (w.heap.size+1) (by rw[b9.out];omega)).trans c8.out
  obtain⟨⟨r0,r1,r2,r3⟩,rf⟩:=aC hr
  have HR:=aj hr
  have HA:=aj hA
  have d7:Hid (Below w.heap.size w w5):=(a6.out.trans (J.out.mono a6.out.size)).trans (a8.mono (Nat.le_trans a6.out.size J.out.size))
  have d8:Hid (w.heap.size+2<=w4.heap.size):=by have:=J.out.size;have:=b9.out;show _<=_;omega
  clear hr hA a8 b4 d6 q0 q1 q2 q3
  go_wp2
  obtain⟨⟨b5,f6,d9⟩,b6⟩:=eO (v0:=.int .i64 b) (v1:=.int .i64 (tr:Int)) (v2:=.slice aN SN.length cN) (v3:=.slice aE SN.length cE) HR.out rfl
  have hb:=b6 w w.heap.size d7.out (by omega)
  obtain⟨⟨z0,z1,z2,z3⟩,-⟩:=aC b5
  have f7:=mK HA.out (λx hx=>d9 x (by have:=(HA.out.lt x hx).1;have:=d8.out;omega)) (Nat.le_of_eq f6.symm)
  have e0:=Mw f7 (show w.heap.size<=w4.heap.size by have:=d8.out;omega)
  exact bodyPost_ret (v:=.tuple #[.agg #[.int .i64 b,.int .i64 (tr:Int),.slice aN SN.length cN,.slice aE SN.length cE],.nilIface]) (by simp[results,results94,go_sem,z0,z1,z2,z3]) rfl (d0.out _ _ (λ_=>⟨bx,_,_,vals,G,rfl,e0,hb⟩) (λh=>by omega))
 ·obtain⟨rfl,a8⟩:=d6 (by omega)
  have hr:=((J.out.trans (a8.mono J.out.size)).block (w.heap.size+1) (by rw[b9.out];omega)).trans c8.out
  obtain⟨⟨r0,r1,r2,r3⟩,rf⟩:=aC hr
  have HR:=aj hr
  have d7:Hid (Below w.heap.size w w5):=(a6.out.trans (J.out.mono a6.out.size)).trans (a8.mono (Nat.le_trans a6.out.size J.out.size))
  clear hr a8 b4 d6 q0 q1 q2 q3
  rw[dD (show(3:Int)≠0 by decide)]
  go_wp2
  obtain⟨⟨b5,f6,d9⟩,b6⟩:=eF HR.out rfl
  have hb:=b6 w w.heap.size d7.out (by omega)
  obtain⟨⟨z0,z1,z2,z3⟩,-⟩:=aC b5
  exact bodyPost_ret (v:=.tuple #[.agg #[.int .i64 0,.int .i64 0,.slice none 0 0,.slice none 0 0],.iface 45 (.int .i64 3)]) (by simp[results,results94,go_sem,z0,z1,z2,z3]) rfl (d0.out _ _ (λh=>by omega) (λ_=>⟨rfl,hb⟩))
theorem U7(b t:Int)(a:zO)(n cap:Nat)(a':zO)(k z:Nat)(N:zL)(tk:Int)(w:zW)(hs:gT w a n N)(hk:k<=maxLen)(hA:bT b t N k≠0):
  Calls prog 94 #[.agg #[.int .i64 b,.int .i64 t,.slice a n cap,.slice a' k z],.int .i64 tk] w λe w'=>e=.returned (.tuple #[.agg #[.int .i64 0,.int .i64 0,.slice none 0 0,.slice none 0 0],bC (bT b t N k)])/\Below w.heap.size w w':=by
 have U:=bG w (.cells #[.int .i64 b,.int .i64 t,.slice a n cap,.slice a' k z] 35) (.cells #[.int .i64 0,.int .i64 0,.slice none 0 0,.slice none 0 0] 35)
 have a1:=aj U
 have a2:=aj (aP w (.cells #[.int .i64 b,.int .i64 t,.slice a n cap,.slice a' k z] 35) (.cells #[.int .i64 0,.int .i64 0,.slice none 0 0,.slice none 0 0] 35))
 have a6:=aj (aQ w (.cells #[.int .i64 b,.int .i64 t,.slice a n cap,.slice a' k z] 35) (.cells #[.int .i64 0,.int .i64 0,.slice none 0 0,.slice none 0 0] 35))
 have J:=aj (vK b t a a' n cap k z N _ (aG hs U) hk)
 rw[dD hA]at J⊢
 clear hs U
 generalize bT b t N k=c at J⊢
 clear hA
 generalize a7:(w.alloc (.cells #[.int .i64 b,.int .i64 t,.slice a n cap,.slice a' k z] 35)).alloc (.cells #[.int .i64 0,.int .i64 0,.slice none 0 0,.slice none 0 0] 35)=wb at a1 a2 a6 J
 have b1:Hid (wb.heap.size=w.heap.size+2):=by show _=_;rw[<-a7];simp
 obtain⟨⟨p0,p1,p2,p3⟩,-⟩:=aC a2.out
 go_enter func94,ntmps94
 go_wp2_with fail
 clear a7 p0 p1 p2 p3
 refine J.out.mono ?_
 rintro e w1 ⟨rfl,Z⟩
 have hr:=(Z.block (w.heap.size+1) (by rw[b1.out];omega)).trans a6.out
 obtain⟨⟨r0,r1,r2,r3⟩,rf⟩:=aC hr
 have HR:=aj hr
 have b2:=aj (ak a1.out Z)
 clear hr Z
 go_wp2
 obtain⟨⟨a8,b4,b3⟩,b0⟩:=eF HR.out rfl
 have hb:=b0 w w.heap.size b2.out (by omega)
 obtain⟨⟨z0,z1,z2,z3⟩,-⟩:=aC a8
 exact bodyPost_ret (v:=.tuple #[.agg #[.int .i64 0,.int .i64 0,.slice none 0 0,.slice none 0 0],.iface 45 (.int .i64 c)]) (by simp[results,results94,go_sem,z0,z1,z2,z3]) rfl ⟨rfl,hb⟩
theorem Rn(b t:Int)(a:zO)(n cap:Nat)(a':zO)(k z:Nat)(N:zL)(tk:Int)(w:zW)(hs:gT w a n N)(hk:k<=maxLen)(hA:bT b t N k=0)(ht: ¬(0<=tk/\tk<t)):
  Calls prog 94 #[.agg #[.int .i64 b,.int .i64 t,.slice a n cap,.slice a' k z],.int .i64 tk] w λe w'=>e=.returned (.tuple #[.agg #[.int .i64 0,.int .i64 0,.slice none 0 0,.slice none 0 0],bC 1])/\Below w.heap.size w w':=by
 have U:=bG w (.cells #[.int .i64 b,.int .i64 t,.slice a n cap,.slice a' k z] 35) (.cells #[.int .i64 0,.int .i64 0,.slice none 0 0,.slice none 0 0] 35)
 have a6:=aj U
 have Z:=aj (aP w (.cells #[.int .i64 b,.int .i64 t,.slice a n cap,.slice a' k z] 35) (.cells #[.int .i64 0,.int .i64 0,.slice none 0 0,.slice none 0 0] 35))
 have a7:=aj (aQ w (.cells #[.int .i64 b,.int .i64 t,.slice a n cap,.slice a' k z] 35) (.cells #[.int .i64 0,.int .i64 0,.slice none 0 0,.slice none 0 0] 35))
 have a1:=aj (vK b t a a' n cap k z N _ (aG hs U) hk)
 rw[hA,cu]at a1
 rw[dD (show(1:Int)≠0 by decide)]
 clear hs U hA
 generalize a8:(w.alloc (.cells #[.int .i64 b,.int .i64 t,.slice a n cap,.slice a' k z] 35)).alloc (.cells #[.int .i64 0,.int .i64 0,.slice none 0 0,.slice none 0 0] 35)=wb at a6 Z a7 a1
 have b0:Hid (wb.heap.size=w.heap.size+2):=by show _=_;rw[<-a8];simp
 obtain⟨⟨p0,p1,p2,p3⟩,-⟩:=aC Z.out
 have a2:tk<0\/(¬tk<0/\tk≥t):=by omega
 clear ht
 go_enter func94,ntmps94
 go_wp2_with fail
 clear a8 p0 p1 p2 p3
 refine a1.out.mono ?_
 rintro e w1 ⟨rfl,J⟩
 obtain⟨⟨p0,p1,p2,p3⟩,-⟩:=aC ((J.block w.heap.size (by rw[b0.out];omega)).trans Z.out)
 have hr:=(J.block (w.heap.size+1) (by rw[b0.out];omega)).trans a7.out
 obtain⟨⟨r0,r1,r2,r3⟩,rf⟩:=aC hr
 have HR:=aj hr
 have b3:=aj (ak a6.out J)
 clear hr J
 rcases a2 with h|⟨h,h'⟩
 all_goals
  go_wp2
  obtain⟨⟨b1,b5,b4⟩,b2⟩:=eF HR.out rfl
  have hb:=b2 w w.heap.size b3.out (by omega)
  obtain⟨⟨z0,z1,z2,z3⟩,-⟩:=aC b1
  exact bodyPost_ret (v:=.tuple #[.agg #[.int .i64 0,.int .i64 0,.slice none 0 0,.slice none 0 0],.iface 45 (.int .i64 1)]) (by simp[results,results94,go_sem,z0,z1,z2,z3]) rfl ⟨rfl,hb⟩
theorem ZM(b t:Int)(a:zO)(n cap:Nat)(a':zO)(k z:Nat)(N:zL)(E:zB)(tk:Int)(w:zW)(hs:gT w a n N)(he:mX w a' k E):
  Calls prog 94 #[.agg #[.int .i64 b,.int .i64 t,.slice a n cap,.slice a' k z],.int .i64 tk] w (Rm w b (t-1) (aD b (t-1)).toNat (IE b t N E k tk) (mR b t tk N E) (oZ b t tk N E)):=by
 have Z: ∀c:Int,c≠0->IE b t N E k tk=c->(Calls prog 94 #[.agg #[.int .i64 b,.int .i64 t,.slice a n cap,.slice a' k z],.int .i64 tk] w λe w'=>e=.returned (.tuple #[.agg #[.int .i64 0,.int .i64 0,.slice none 0 0,.slice none 0 0],bC c])/\Below w.heap.size w w')->Calls prog 94 #[.agg #[.int .i64 b,.int .i64 t,.slice a n cap,.slice a' k z],.int .i64 tk] w (Rm w b (t-1) (aD b (t-1)).toNat (IE b t N E k tk) (mR b t tk N E) (oZ b t tk N E)):=λc h1 h2 h3=>by rw[h2];refine h3.mono ?_;rintro e w' h;exact⟨λh4=>absurd h4 h1,λ_=>h⟩
 by_cases J:bT b t N k=0
 ·by_cases ht:0<=tk/\tk<t
  ·have hF:Wu b t N k tk=0:=by unfold Wu;rw[yP J,yP ht]
   obtain⟨tr,U,m,mu,rfl,rfl,hk,H⟩:=Gn E hF
   obtain rfl:k=n:=by rw[hk,hs.1]
   obtain⟨hM,-,-,-⟩:=bU J
   have hS:IE b ((tr:Int)+1) N E k (U:Int)=if 2000<(Nu b ((tr:Int)+1) (U:Int) N E).length then 3 else 0:=by unfold IE;rw[yP hF]
   have hU:aD b ((tr:Int)+1)=(m:Int):=by obtain⟨-,-,-,-,a1,-⟩:=Lx hM;rw[<-a1];exact H.many
   have h:=U6 b (tr+1) tr U m mu a k cap a' z N E w hs he rfl H (by rw[Int.natCast_add];exact J) (by rw[Int.natCast_add];exact hU) (by rw[Int.natCast_add];exact hM)
   rw[Int.natCast_add]at h
   rw[hS,show(tr:Int)+1-1=(tr:Int)by omega,H.fU,Int.toNat_natCast]
   exact h
  ·refine Z 1 (by decide) ?_ (Rn b t a n cap a' k z N tk w hs he.2.1 J ht)
   unfold IE Wu
   rw[yP J,yN ht,yN (by decide)]
 ·refine Z _ J ?_ (U7 b t a n cap a' k z N tk w hs he.2.1 J)
  unfold IE Wu
  rw[yN J,yN J]
theorem agU{b t:Int}{N:zL}{E:zB}{k:Nat}{tk:Int}(h:IE b t N E k tk=0):aV b (t-1)=0/\aK (aD b (t-1)).toNat (mR b t tk N E).length (mR b t tk N E)/\(mR b t tk N E).length<=2000/\(oZ b t tk N E).length=(mR b t tk N E).length/\(aD b (t-1)).toNat<=36:=by
 obtain⟨U,J⟩:=uI h;obtain⟨tr,z,m,mu,rfl,rfl,hk,H⟩:=Gn E U;have Z:(mR b ((tr:Int)+1) (z:Int) N E).length=(Nu b ((tr:Int)+1) (z:Int) N E).length:=by unfold mR Nu;exact kP _ _ _
 have e2:(oZ b ((tr:Int)+1) (z:Int) N E).length=(Nu b ((tr:Int)+1) (z:Int) N E).length:=by unfold oZ Nu;exact Nk _ _
 rw[Z,e2,show(tr:Int)+1-1=(tr:Int)by omega,H.fU,Int.toNat_natCast];exact⟨H.code,Gp H J,J,rfl,H.Fb.2⟩
theorem Vg:yB:=by
 intro b t a n cap a' k U N E tk w hs he;have b6:=bG w (.cells #[.int .i64 b,.int .i64 t,.slice a n cap,.slice a' k U] 35) (.cells #[.int .i64 0,.int .i64 0,.slice none 0 0,.slice none 0 0] 35);have J:=aj b6;have c9:=aj (aP w (.cells #[.int .i64 b,.int .i64 t,.slice a n cap,.slice a' k U] 35) (.cells #[.int .i64 0,.int .i64 0,.slice none 0 0,.slice none 0 0] 35));have b7:=aj (aQ w (.cells #[.int .i64 b,.int .i64 t,.slice a n cap,.slice a' k U] 35) (.cells #[.int .i64 0,.int .i64 0,.slice none 0 0,.slice none 0 0] 35));have HC:=aj (ZM b t a n cap a' k U N E tk _ (aG hs b6) (bE he b6));unfold Rm at HC;have b0:=aj (@agU b t N E k tk)
 have Z:Hid (∀(e:Ending) (w':zW),IE b t N E k tk=0->bD (mR b t tk N E) (oZ b t tk N E) (aD b (t-1)).toNat<=80->dz w b (t-1) (aU (mR b t tk N E) (oZ b t tk N E) (aD b (t-1)).toNat) (aZ (mR b t tk N E) (oZ b t tk N E) (aD b (t-1)).toNat) 0 e w'->dz w (bK (sM b t N E k tk) b) (bK (sM b t N E k tk) (t-1)) (Ca b t N E k tk) (FN b t N E k tk) (sM b t N E k tk) e w'):=λe w' h1 h2 h3=>by
  have hc:sM b t N E k tk=0:=by unfold sM;rw[yP h1,yN (by omega)]
  unfold Ca FN;rw[yP hc,yP hc,hc];exact h3
 have HZ:Hid (∀(e:Ending) (w':zW),IE b t N E k tk=0->80<bD (mR b t tk N E) (oZ b t tk N E) (aD b (t-1)).toNat->dz w 0 0 [] [] 3 e w'->dz w (bK (sM b t N E k tk) b) (bK (sM b t N E k tk) (t-1)) (Ca b t N E k tk) (FN b t N E k tk) (sM b t N E k tk) e w'):=λe w' h1 h2 h3=>by
  have hc:sM b t N E k tk=3:=by unfold sM;rw[yP h1,yP (by omega)]
  unfold Ca FN;rw[hc,yN (by decide),yN (by decide)];exact h3
 have HN:Hid (∀(e:Ending) (w':zW),IE b t N E k tk≠0->dz w 0 0 [] [] (IE b t N E k tk) e w'->dz w (bK (sM b t N E k tk) b) (bK (sM b t N E k tk) (t-1)) (Ca b t N E k tk) (FN b t N E k tk) (sM b t N E k tk) e w'):=λe w' h1 h3=>by
  have hc:sM b t N E k tk=IE b t N E k tk:=by unfold sM;rw[yN h1]
  unfold Ca FN;rw[hc,yN h1,yN h1];unfold bK;rw[yN h1,yN h1];exact h3
 clear hs he b6;generalize d0:(w.alloc (.cells #[.int .i64 b,.int .i64 t,.slice a n cap,.slice a' k U] 35)).alloc (.cells #[.int .i64 0,.int .i64 0,.slice none 0 0,.slice none 0 0] 35)=wb at J c9 b7 HC;have b8:Hid (wb.heap.size=w.heap.size+2):=by show _=_;rw[<-d0];simp
 obtain⟨⟨p0,p1,p2,p3⟩,-⟩:=aC c9.out;generalize IE b t N E k tk=S at HC b0 Z HZ HN;generalize mR b t tk N E=SN at HC b0 Z HZ;generalize oZ b t tk N E=SE at HC b0 Z HZ;generalize bK (sM b t N E k tk) b=OB at Z HZ HN⊢;generalize bK (sM b t N E k tk) (t-1)=OT at Z HZ HN⊢;generalize Ca b t N E k tk=RN at Z HZ HN⊢;generalize FN b t N E k tk=RE at Z HZ HN⊢;generalize sM b t N E k tk=RC at Z HZ HN⊢;go_enter func64,ntmps64;go_wp2_with fail;clear d0 p0 p1 p2 p3;refine HC.out.mono ?_;rintro e w1 ⟨b4,c3⟩;by_cases hS:S=0
 ·obtain⟨bx,vN,vE,vals,G,rfl,hA,b1⟩:=b4 hS
  obtain⟨hM,hG,hK,d1,d2⟩:=b0.out hS;obtain⟨aN,cN,aE,cE,rfl,rfl,d3,d4⟩:=Rl hA (by omega) d2 (λj hj=>(GI hG j hj).1) (λj hj=>(GI hG j hj).2) d1;have d5:=aj b1;have b9:=aj ((Below.refl w1.heap.size w1).alloc zr (.cells #[.int .i64 b,.int .i64 (t-1),.slice aN SN.length cN,.slice aE SN.length cE] 35));have b2:=aj (rF b (t-1) aN SN.length cN _ SN aE cE SE _ (aG d3 b9.out) (bE d4 b9.out) hG (qR hM hG (by omega)));unfold rE kQ at b2;clear hA b1 b4 c3 hM hG hK d1 d2 d3 d4 b0;have c0:=aj (λe w'=>Z.out e w' hS);have d6:=aj (λe w'=>HZ.out e w' hS);clear Z HZ HN hS;have d7:=aj (zl w1 (.cells #[.int .i64 b,.int .i64 (t-1),.slice aN SN.length cN,.slice aE SN.length cE] 35));generalize e0:w1.alloc (.cells #[.int .i64 b,.int .i64 (t-1),.slice aN SN.length cN,.slice aE SN.length cE] 35)=wa at b9 b2 d7;generalize aU SN SE (aD b (t-1)).toNat=LN at b2 c0;generalize aZ SN SE (aD b (t-1)).toNat=LE at b2 c0;generalize bD SN SE (aD b (t-1)).toNat=LK at b2 c0 d6;obtain⟨⟨q0,q1,q2,q3⟩,-⟩:=aC d7.out;have z:Hid (Below wb.heap.size wb wa):=d5.out.trans (b9.out.mono d5.out.size);go_wp2_with fail;clear e0 q0 q1 q2 q3;refine b2.out.mono ?_;rintro e w2 ⟨c4,c5⟩;by_cases hK:LK<=80
  ·obtain⟨a1,c1,a2,c2,rfl,d8,a6⟩:=c4 hK;have hr:=((z.out.trans (a6.mono z.out.size)).block (w.heap.size+1) (by rw[b8.out];omega)).trans b7.out;obtain⟨⟨r0,r1,r2,r3⟩,rf⟩:=aC hr;have HR:=aj hr;have e1:=aj d8;have b3:Hid (Below w.heap.size w w2):=(J.out.trans (z.out.mono J.out.size)).trans (a6.mono (Nat.le_trans J.out.size z.out.size));have e2:Hid (w.heap.size+2<=wa.heap.size):=(by have:=z.out.size;have:=b8.out;show _<=_;omega);clear hr d8 a6 c4 c5;go_wp2;obtain⟨⟨a7,c6,b5⟩,a8⟩:=eO (v0:=.int .i64 b) (v1:=.int .i64 (t-1)) (v2:=.slice a1 LN.length c1) (v3:=.slice a2 LN.length c2) HR.out rfl;have d9:dS w a1 LN.length LN a2 LE ((((w2.setCell ⟨w.heap.size+1,0,none⟩ (.int .i64 b)).setCell ⟨w.heap.size+1,1,none⟩ (.int .i64 (t-1))).setCell ⟨w.heap.size+1,2,none⟩ (.slice a1 LN.length c1)).setCell ⟨w.heap.size+1,3,none⟩ (.slice a2 LN.length c2)):=λW' e3=>e1.out W' (λx hx e4=>by have h1:=e2.out;rw[e3 x (by omega) (by rw[c6];exact e4),b5 x (by omega)]);have hb:=a8 w w.heap.size b3.out (by omega);obtain⟨⟨z0,z1,z2,z3⟩,-⟩:=aC a7;exact bodyPost_ret (v:=.tuple #[.agg #[.int .i64 b,.int .i64 (t-1),.slice a1 LN.length c1,.slice a2 LN.length c2],.nilIface]) (by simp[results,results64,go_sem,z0,z1,z2,z3]) rfl (c0.out _ _ hK ⟨a1,c1,a2,c2,rfl,d9,hb⟩)
  ·obtain⟨rfl,a6⟩:=c5 (by omega);have hr:=((z.out.trans (a6.mono z.out.size)).block (w.heap.size+1) (by rw[b8.out];omega)).trans b7.out;obtain⟨⟨r0,r1,r2,r3⟩,rf⟩:=aC hr;have HR:=aj hr;have b3:Hid (Below w.heap.size w w2):=(J.out.trans (z.out.mono J.out.size)).trans (a6.mono (Nat.le_trans J.out.size z.out.size));clear hr a6 c4 c5;go_wp2;obtain⟨⟨a7,c6,b5⟩,a8⟩:=eF HR.out rfl;have hb:=a8 w w.heap.size b3.out (by omega);obtain⟨⟨z0,z1,z2,z3⟩,-⟩:=aC a7;exact bodyPost_ret (v:=.tuple #[.agg #[.int .i64 0,.int .i64 0,.slice none 0 0,.slice none 0 0],.iface 45 (.int .i64 3)]) (by simp[results,results64,go_sem,z0,z1,z2,z3]) rfl (d6.out _ _ (by omega) ⟨none,0,none,0,rfl,dA _ _,hb⟩)
 ·obtain⟨rfl,b1⟩:=c3 hS;have e5:=aj (λe w'=>HN.out e w' hS);have hr:=(b1.block (w.heap.size+1) (by rw[b8.out];omega)).trans b7.out;have c7:=(Below.refl w1.heap.size w1).alloc zr (.cells #[.int .i64 0,.int .i64 0,.slice none 0 0,.slice none 0 0] 35);have b3:Hid (Below w.heap.size w (w1.alloc (.cells #[.int .i64 0,.int .i64 0,.slice none 0 0,.slice none 0 0] 35))):=ak (ak J.out b1) c7;have c8:=(c7.block _ (zG hr).1).trans hr;have e6:=aj hS;rw[dD hS];clear b1 b4 c3 hS Z HZ HN hr b0 c7;obtain⟨⟨r0,r1,r2,r3⟩,rf⟩:=aC c8;have HR:=aj c8;clear c8;go_wp2;obtain⟨⟨a7,c6,b5⟩,a8⟩:=eF HR.out rfl;have hb:=a8 w w.heap.size b3.out (by omega);obtain⟨⟨z0,z1,z2,z3⟩,-⟩:=aC a7;exact bodyPost_ret (v:=.tuple #[.agg #[.int .i64 0,.int .i64 0,.slice none 0 0,.slice none 0 0],.iface 45 (.int .i64 S)]) (by simp[results,results64,go_sem,z0,z1,z2,z3]) rfl (e5.out _ _ ⟨none,0,none,0,by rw[dD e6.out];rfl,dA _ _,hb⟩)
end Go.Proofs.YtfiknidoihlkfaaGreat
