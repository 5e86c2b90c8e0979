import Derived.Test.YtceojneljnnooaaGreatZEg
open Go.Proofs.Tryz
namespace Go.Proofs.YtceojneljnnooaaGreat
open Go.RowKit
set_option maxHeartbeats 0
set_option maxRecDepth 100000
set_option linter.all false
variable{vs:zI}{k:Nat}
abbrev atO(b t:Int)(a:zO)(n cap:Nat)(a':zO)(k z:Nat):Obj:=.cells #[.int .i64 b,.int .i64 t,.slice a n cap,.slice a' k z] 35
abbrev atG(b t:Int)(a:zO)(n cap:Nat)(a':zO)(k z:Nat):Value:=.agg #[.int .i64 b,.int .i64 t,.slice a n cap,.slice a' k z]
theorem ZO(b t:Int)(a:zO)(n cap:Nat)(a':zO)(a6:Nat)(N:zL)(E:zB)(a2:zO)(z a1:Nat)(a8:zO)(J:Nat)(N2:zL)(E2:zB)(a3:zO)(Z a7:Nat)(b0:zO)(U:Nat)(N3:zL)(E3:zB)(how:Int)(w:zW)(hs:gT w a n N)(he:mR w a' n E)(c8:gT w a2 z N2)(e4:mR w a8 z E2)(e5:gT w a3 Z N3)(f1:mR w b0 Z E3)(h0:0<=how)(j3:how<=15)(hA:bP b t N n=0)(c9:bP b t N2 z=0)(e6:bP b t N3 Z=0):
  Calls prog 73 #[atG b t a n cap a' n a6,atG b t a2 z a1 a8 z J,atG b t a3 Z a7 b0 Z U,.int .i64 how] w (acs w b t (aV (N8 (aD b t).toNat N N2 N3) (inQ how (aD b t).toNat N N2 N3 E E2 E3) (aD b t).toNat) (aY (N8 (aD b t).toNat N N2 N3) (inQ how (aD b t).toNat N N2 N3 E E2 E3) (aD b t).toNat) (bE (N8 (aD b t).toNat N N2 N3) (inQ how (aD b t).toNat N N2 N3 E E2 E3) (aD b t).toNat)):=by
 have f2:iG b t N n b t N2 z=0:=by unfold iG;rw[yP hA,yP c9,yP ⟨rfl,rfl⟩]
 have f3:iG b t N2 z b t N3 Z=0:=by unfold iG;rw[yP c9,yP e6,yP ⟨rfl,rfl⟩]
 obtain⟨hM,-,hG,-⟩:=bS hA
 obtain⟨-,-,e7,-⟩:=bS c9
 obtain⟨-,-,e8,-⟩:=bS e6
 have f5:=eH hA
 have d8:=eH c9
 have c6:=eH e6
 have hL:=hs.1
 have f6:=c8.1
 have f7:=e5.1
 rw[hL]at hG f5
 rw[f6]at e7 d8
 rw[f7]at e8 c6
 have hn:n*z*Z<=4000000:=Nat.le_trans (Nat.mul_le_mul (Nat.mul_le_mul f5 d8) c6) (by decide)
 obtain⟨i1,i2,i3,i4⟩:=N9 hG e7 e8 hn
 have hB:=yD w (atO b t a n cap a' n a6) (atO b t a2 z a1 a8 z J) (atO b t a3 Z a7 b0 Z U) (.cells #[.int .i64 0,.int .i64 0,.slice none 0 0,.slice none 0 0] 35)
 have HB:=aj hB
 have d0:=aj (λW=>@Od w (atO b t a n cap a' n a6) (atO b t a2 z a1 a8 z J) (atO b t a3 Z a7 b0 Z U) (.cells #[.int .i64 0,.int .i64 0,.slice none 0 0,.slice none 0 0] 35) W)
 have e9:=aj (sK b t a n cap a' n a6 b t a2 z a1 a8 z J N N2 _ (aG hs hB) he.2.1 (aG c8 hB) e4.2.1)
 have c7:=aj (λW (h:Below _ _ W)=>sK b t a2 z a1 a8 z J b t a3 Z a7 b0 Z U N2 N3 W (aG c8 (ak hB h)) e4.2.1 (aG e5 (ak hB h)) f1.2.1)
 rw[dz f2]at e9
 rw[dz f3]at c7
 have c5:=aj (λW (h:Below _ _ W)=>xU b t a n cap a' a6 (aD b t).toNat N E b t a2 z a1 a8 J N2 E2 how W (aG hs (ak hB h)) (bD he (ak hB h)) (aG c8 (ak hB h)) (bD e4 (ak hB h)) hG e7 i1 h0 j3)
 have b1:=aj (λax cx d1 d2 W (h:Below _ _ W) q1 q2=>xU b t ax (dP (eU N N2 (aD b t).toNat)).length cx d1 d2 (aD b t).toNat (dP (eU N N2 (aD b t).toNat)) (jP (eU N N2 (aD b t).toNat) (jq how n z E E2)) b t a3 Z a7 b0 U N3 E3 8 W q1 q2 (aG e5 (ak hB h)) (bD f1 (ak hB h)) i3 e8 i2 (by decide) (by decide))
 unfold uG at c5 b1
 have eP:N8 (aD b t).toNat N N2 N3=eU (dP (eU N N2 (aD b t).toNat)) N3 (aD b t).toNat:=rfl
 have eQ:inQ how (aD b t).toNat N N2 N3 E E2 E3=jq 8 (dP (eU N N2 (aD b t).toNat)).length Z (jP (eU N N2 (aD b t).toNat) (jq how n z E E2)) E3:=by unfold inQ;rw[hL,f6,f7]
 rw[<-eP,<-eQ]at b1
 have d3:=uM i4
 rw[<-xS i4]at d3
 generalize inQ how (aD b t).toNat N N2 N3 E E2 E3=Q at*
 have b3:=aj (λax cx d1 d2 W h1 h2=>rF b t ax (dP (N8 (aD b t).toNat N N2 N3)).length cx (aD b t).toNat (dP (N8 (aD b t).toNat N N2 N3)) d1 d2 (jP (N8 (aD b t).toNat N N2 N3) Q) W h1 h2 d3 (qR hM d3 (by have:=d3.2.2.1;omega)))
 obtain⟨e1,e2,e3⟩:=II i4 Q
 unfold rE jX at b3
 rw[e1,e2,e3]at b3
 clear hs he c8 e4 e5 f1 hA c9 e6 f2 f3 hM hG e7 e8 f5 d8 c6 hn i1 i2 i3 i4 d3 e1 e2 e3 eP eQ hL f6 f7
 generalize jP (eU N N2 (aD b t).toNat) (jq how n z E E2)=CE at c5 b1
 generalize dP (eU N N2 (aD b t).toNat)=CN at c5 b1
 generalize aV (N8 (aD b t).toNat N N2 N3) Q (aD b t).toNat=LN at b3⊢
 generalize aY (N8 (aD b t).toNat N N2 N3) Q (aD b t).toNat=LE at b3⊢
 generalize bE (N8 (aD b t).toNat N N2 N3) Q (aD b t).toNat=LK at b3⊢
 generalize jP (N8 (aD b t).toNat N N2 N3) Q=DE at b1 b3
 generalize dP (N8 (aD b t).toNat N N2 N3)=DN at b1 b3
 generalize g8:(((w.alloc (atO b t a n cap a' n a6)).alloc (atO b t a2 z a1 a8 z J)).alloc (atO b t a3 Z a7 b0 Z U)).alloc (.cells #[.int .i64 0,.int .i64 0,.slice none 0 0,.slice none 0 0] 35)=wb at HB e9 c7 d0 c5 b1
 have j0:Hid (wb.heap.size=w.heap.size+4):=by show _=_;rw[<-g8];simp
 have g9:Hid (∀W,Below wb.heap.size wb W->(W.cell? ⟨w.heap.size,0,none⟩=some (.int .i64 b)/\W.cell? ⟨w.heap.size,1,none⟩=some (.int .i64 t)/\W.cell? ⟨w.heap.size,2,none⟩=some (.slice a n cap)/\W.cell? ⟨w.heap.size,3,none⟩=some (.slice a' n a6))/\(W.cell? ⟨w.heap.size+1,0,none⟩=some (.int .i64 b)/\W.cell? ⟨w.heap.size+1,1,none⟩=some (.int .i64 t)/\W.cell? ⟨w.heap.size+1,2,none⟩=some (.slice a2 z a1)/\W.cell? ⟨w.heap.size+1,3,none⟩=some (.slice a8 z J))/\(W.cell? ⟨w.heap.size+2,0,none⟩=some (.int .i64 b)/\W.cell? ⟨w.heap.size+2,1,none⟩=some (.int .i64 t)/\W.cell? ⟨w.heap.size+2,2,none⟩=some (.slice a3 Z a7)/\W.cell? ⟨w.heap.size+2,3,none⟩=some (.slice b0 Z U))):=λW h=>by obtain⟨g1,g2,g3,-⟩:=d0.out W h;exact⟨(aC g1).1,(aC g2).1,(aC g3).1⟩
 have i5:Hid (∀W W':zW,Below wb.heap.size wb W->(∀x,x≠w.heap.size+3->W'.heap[x]? =W.heap[x]?)->(W'.cell? ⟨w.heap.size,0,none⟩=some (.int .i64 b)/\W'.cell? ⟨w.heap.size,1,none⟩=some (.int .i64 t)/\W'.cell? ⟨w.heap.size,2,none⟩=some (.slice a n cap)/\W'.cell? ⟨w.heap.size,3,none⟩=some (.slice a' n a6)/\W'.cell? ⟨w.heap.size+1,0,none⟩=some (.int .i64 b)/\W'.cell? ⟨w.heap.size+1,1,none⟩=some (.int .i64 t)/\W'.cell? ⟨w.heap.size+1,2,none⟩=some (.slice a2 z a1)/\W'.cell? ⟨w.heap.size+1,3,none⟩=some (.slice a8 z J)/\W'.cell? ⟨w.heap.size+2,0,none⟩=some (.int .i64 b)/\W'.cell? ⟨w.heap.size+2,1,none⟩=some (.int .i64 t)/\W'.cell? ⟨w.heap.size+2,2,none⟩=some (.slice a3 Z a7)/\W'.cell? ⟨w.heap.size+2,3,none⟩=some (.slice b0 Z U))):=λW W' h hk=>by obtain⟨g1,g2,g3,-⟩:=d0.out W h;obtain⟨⟨p0,p1,p2,p3⟩,-⟩:=aC ((hk _ (by omega)).trans g1);obtain⟨⟨q0,q1,q2,q3⟩,-⟩:=aC ((hk _ (by omega)).trans g2);obtain⟨⟨s0,s1,s2,s3⟩,-⟩:=aC ((hk _ (by omega)).trans g3);exact⟨p0,p1,p2,p3,q0,q1,q2,q3,s0,s1,s2,s3⟩
 have f8:Hid (∀W,Below wb.heap.size wb W->W.heap[w.heap.size+3]? =some (.cells #[.int .i64 0,.int .i64 0,.slice none 0 0,.slice none 0 0] 35)):=λW h=>(d0.out W h).2.2.2
 obtain⟨⟨p0,p1,p2,p3⟩,⟨q0,q1,q2,q3⟩,⟨s0,s1,s2,s3⟩⟩:=g9.out wb zb
 have j9:decide (how<0)=false:=by simp;omega
 have k0: ¬16<=how:=by omega
 clear hB d0
 go_enter func73,ntmps73
 go_wp2_with fail
 clear g8 p0 p1 p2 p3 q0 q1 q2 q3 s0 s1 s2 s3
 refine e9.out.mono ?_
 rintro e w1 ⟨rfl,f9⟩
 obtain⟨⟨p0,p1,p2,p3⟩,⟨q0,q1,q2,q3⟩,⟨s0,s1,s2,s3⟩⟩:=g9.out w1 f9
 have g4:=aj f9
 clear f9 e9
 go_wp2_with fail
 clear p0 p1 p2 p3 q0 q1 q2 q3 s0 s1 s2 s3
 refine(c7.out w1 g4.out).mono ?_
 rintro e w2 ⟨rfl,i6⟩
 have b2:=aj (ak g4.out i6)
 clear i6 c7 g4
 go_upto_region 9 with fail
 have b8:Hid (∀W,Below w2.heap.size w2 W->(W.cell? ⟨w.heap.size,0,none⟩=some (.int .i64 b)/\W.cell? ⟨w.heap.size,1,none⟩=some (.int .i64 t)/\W.cell? ⟨w.heap.size,2,none⟩=some (.slice a n cap)/\W.cell? ⟨w.heap.size,3,none⟩=some (.slice a' n a6)/\W.cell? ⟨w.heap.size+1,0,none⟩=some (.int .i64 b)/\W.cell? ⟨w.heap.size+1,1,none⟩=some (.int .i64 t)/\W.cell? ⟨w.heap.size+1,2,none⟩=some (.slice a2 z a1)/\W.cell? ⟨w.heap.size+1,3,none⟩=some (.slice a8 z J)/\W.cell? ⟨w.heap.size+2,0,none⟩=some (.int .i64 b)/\W.cell? ⟨w.heap.size+2,1,none⟩=some (.int .i64 t)/\W.cell? ⟨w.heap.size+2,2,none⟩=some (.slice a3 Z a7)/\W.cell? ⟨w.heap.size+2,3,none⟩=some (.slice b0 Z U))):=λW h=>i5.out W W (ak b2.out h) (λ_ _=>rfl)
 have i7:Hid (∀(W':zW) (u0 u1 u2 u3:Value),Below w2.heap.size w2 W'->(λW:zW=>W.cell? ⟨w.heap.size,0,none⟩=some (.int .i64 b)/\W.cell? ⟨w.heap.size,1,none⟩=some (.int .i64 t)/\W.cell? ⟨w.heap.size,2,none⟩=some (.slice a n cap)/\W.cell? ⟨w.heap.size,3,none⟩=some (.slice a' n a6)/\W.cell? ⟨w.heap.size+1,0,none⟩=some (.int .i64 b)/\W.cell? ⟨w.heap.size+1,1,none⟩=some (.int .i64 t)/\W.cell? ⟨w.heap.size+1,2,none⟩=some (.slice a2 z a1)/\W.cell? ⟨w.heap.size+1,3,none⟩=some (.slice a8 z J)/\W.cell? ⟨w.heap.size+2,0,none⟩=some (.int .i64 b)/\W.cell? ⟨w.heap.size+2,1,none⟩=some (.int .i64 t)/\W.cell? ⟨w.heap.size+2,2,none⟩=some (.slice a3 Z a7)/\W.cell? ⟨w.heap.size+2,3,none⟩=some (.slice b0 Z U)) ((((W'.setCell ⟨w.heap.size+3,0,none⟩ u0).setCell ⟨w.heap.size+3,1,none⟩ u1).setCell ⟨w.heap.size+3,2,none⟩ u2).setCell ⟨w.heap.size+3,3,none⟩ u3)):=λW' u0 u1 u2 u3 h=>i5.out W' _ (ak b2.out h) (eO (f8.out W' (ak b2.out h)) rfl).1.2.2
 have b9:Hid (Below w2.heap.size w2 w2.drew):=zb.drew
 have j4:=aj b2.out.size
 by_cases hK:LK<=80
 ·go_region_held_law (λW=>W.cell? ⟨w.heap.size,0,none⟩=some (.int .i64 b)/\W.cell? ⟨w.heap.size,1,none⟩=some (.int .i64 t)/\W.cell? ⟨w.heap.size,2,none⟩=some (.slice a n cap)/\W.cell? ⟨w.heap.size,3,none⟩=some (.slice a' n a6)/\W.cell? ⟨w.heap.size+1,0,none⟩=some (.int .i64 b)/\W.cell? ⟨w.heap.size+1,1,none⟩=some (.int .i64 t)/\W.cell? ⟨w.heap.size+1,2,none⟩=some (.slice a2 z a1)/\W.cell? ⟨w.heap.size+1,3,none⟩=some (.slice a8 z J)/\W.cell? ⟨w.heap.size+2,0,none⟩=some (.int .i64 b)/\W.cell? ⟨w.heap.size+2,1,none⟩=some (.int .i64 t)/\W.cell? ⟨w.heap.size+2,2,none⟩=some (.slice a3 Z a7)/\W.cell? ⟨w.heap.size+2,3,none⟩=some (.slice b0 Z U)) (first|exact b8.out _ b9.out|exact b8.out _ b4.out|exact b8.out _ c0.out|exact b8.out _ b5.out|exact i7.out _ _ _ _ _ b4.out) (first
   |(have hq:=c3.out;go_simp;go_at_call 83;refine(b3.out _ _ _ _ _ c3.out.1 c3.out.2).mono ?_;rintro e w5 ⟨g5,-⟩;obtain⟨ay,cy,d4,f0,rfl,g6,d5⟩:=g5 hK;have b4:=aj (c0.out.trans (d5.mono c0.out.size));have j1:=aj g6;have hr:=f8.out w5 (ak b2.out b4.out);obtain⟨⟨r0,r1,r2,r3⟩,rf⟩:=aC hr;have HR:=aj hr;clear hr g6 d5 g5 hq)
   |(have hq:=c4.out;go_simp;go_at_call 102;refine(b1.out _ _ _ _ _ (ak b2.out b5.out) c4.out.1 c4.out.2).mono ?_;rintro e w4 ⟨az,cz,j5,j6,rfl,b6,d6⟩;have c0:=aj (b5.out.trans (d6.mono b5.out.size));have c3:=aj b6.here;clear b6 d6 hq)
   |(go_simp;go_at_call 102;refine(c5.out _ (ak b2.out b9.out)).mono ?_;rintro e w3 ⟨ax,cx,d1,d2,rfl,b7,d7⟩;have b5:=aj (b9.out.trans (d7.mono b9.out.size));have c4:=aj b7.here;clear b7 d7))
  all_goals
   go_wp2
   obtain⟨⟨d9,i8,g7⟩,e0⟩:=eO (v0:=.int .i64 b) (v1:=.int .i64 t) (v2:=.slice ay LN.length cy) (v3:=.slice d4 LN.length f0) HR.out rfl
   have j2:dS w ay LN.length LN d4 LE ((((w5.setCell ⟨w.heap.size+3,0,none⟩ (.int .i64 b)).setCell ⟨w.heap.size+3,1,none⟩ (.int .i64 t)).setCell ⟨w.heap.size+3,2,none⟩ (.slice ay LN.length cy)).setCell ⟨w.heap.size+3,3,none⟩ (.slice d4 LN.length f0)):=λW' j7=>j1.out W' (λx hx j8=>by have h1:=c0.out.size;have h2:=j0.out;have h3:=j4.out;rw[j7 x (by omega) (by rw[i8];exact j8),g7 x (by omega)])
   have hb:=e0 w w.heap.size (ak HB.out (ak b2.out b4.out)) (by omega)
   obtain⟨⟨z0,z1,z2,z3⟩,-⟩:=aC d9
   exact bodyPost_ret (v:=.tuple #[.agg #[.int .i64 b,.int .i64 t,.slice ay LN.length cy,.slice d4 LN.length f0],.nilIface]) (by simp[results,results73,go_sem,z0,z1,z2,z3]) rfl ⟨λ_=>⟨ay,cy,d4,f0,rfl,j2,hb⟩,λh=>by omega⟩
 ·go_region_held_law (λW=>W.cell? ⟨w.heap.size,0,none⟩=some (.int .i64 b)/\W.cell? ⟨w.heap.size,1,none⟩=some (.int .i64 t)/\W.cell? ⟨w.heap.size,2,none⟩=some (.slice a n cap)/\W.cell? ⟨w.heap.size,3,none⟩=some (.slice a' n a6)/\W.cell? ⟨w.heap.size+1,0,none⟩=some (.int .i64 b)/\W.cell? ⟨w.heap.size+1,1,none⟩=some (.int .i64 t)/\W.cell? ⟨w.heap.size+1,2,none⟩=some (.slice a2 z a1)/\W.cell? ⟨w.heap.size+1,3,none⟩=some (.slice a8 z J)/\W.cell? ⟨w.heap.size+2,0,none⟩=some (.int .i64 b)/\W.cell? ⟨w.heap.size+2,1,none⟩=some (.int .i64 t)/\W.cell? ⟨w.heap.size+2,2,none⟩=some (.slice a3 Z a7)/\W.cell? ⟨w.heap.size+2,3,none⟩=some (.slice b0 Z U)) (first|exact b8.out _ b9.out|exact b8.out _ b4.out|exact b8.out _ c0.out|exact b8.out _ b5.out|exact i7.out _ _ _ _ _ b4.out) (first
   |(have hq:=c3.out;go_simp;go_at_call 83;refine(b3.out _ _ _ _ _ c3.out.1 c3.out.2).mono ?_;rintro e w5 ⟨-,i9⟩;obtain⟨rfl,d5⟩:=i9 (by omega);have b4:=aj (c0.out.trans (d5.mono c0.out.size));have hr:=f8.out w5 (ak b2.out b4.out);obtain⟨⟨r0,r1,r2,r3⟩,rf⟩:=aC hr;have HR:=aj hr;clear hr d5 i9 hq)
   |(have hq:=c4.out;go_simp;go_at_call 102;refine(b1.out _ _ _ _ _ (ak b2.out b5.out) c4.out.1 c4.out.2).mono ?_;rintro e w4 ⟨az,cz,j5,j6,rfl,b6,d6⟩;have c0:=aj (b5.out.trans (d6.mono b5.out.size));have c3:=aj b6.here;clear b6 d6 hq)
   |(go_simp;go_at_call 102;refine(c5.out _ (ak b2.out b9.out)).mono ?_;rintro e w3 ⟨ax,cx,d1,d2,rfl,b7,d7⟩;have b5:=aj (b9.out.trans (d7.mono b9.out.size));have c4:=aj b7.here;clear b7 d7))
  all_goals
   go_wp2
   obtain⟨⟨d9,i8,g7⟩,e0⟩:=eF HR.out rfl
   have hb:=e0 w w.heap.size (ak HB.out (ak b2.out b4.out)) (by omega)
   obtain⟨⟨z0,z1,z2,z3⟩,-⟩:=aC d9
   exact bodyPost_ret (v:=.tuple #[.agg #[.int .i64 0,.int .i64 0,.slice none 0 0,.slice none 0 0],.iface 45 (.int .i64 3)]) (by simp[results,results73,go_sem,z0,z1,z2,z3]) rfl ⟨λh=>by omega,λ_=>⟨none,0,none,0,rfl,dD _ _,hb⟩⟩
theorem bU{W:zW}{B:Nat}{v0 v1 v2 v3 v4 v5 z:Value}{T:TypeId}(h:W.heap[B]? =some (.cells #[v0,v1,v2,v3,v4,v5,z] T (0,0))):(W.cell? ⟨B,0,none⟩=some v0/\W.cell? ⟨B,1,none⟩=some v1/\W.cell? ⟨B,2,none⟩=some v2/\W.cell? ⟨B,3,none⟩=some v3/\W.cell? ⟨B,4,none⟩=some v4/\W.cell? ⟨B,5,none⟩=some v5/\W.cell? ⟨B,6,none⟩=some z)/\ ∀i,W.frozen? ⟨B,i,none⟩=false:=by refine⟨⟨by simp[World.cell?,h],by simp[World.cell?,h],by simp[World.cell?,h],by simp[World.cell?,h],by simp[World.cell?,h],by simp[World.cell?,h],by simp[World.cell?,h]⟩,λi=>by simp[World.frozen?,h]⟩
theorem aiH(z:Int):(z !=0)=decide (z≠0):=by by_cases h:z=0<;>simp[h]
abbrev lK(n:Nd)(a:zO)(c:Nat):Obj:=.cells #[.int .i64 n.op,.int .i64 n.var,.int .i64 n.gV,.int .i64 n.wd,.int .i64 n.wd2,.int .i64 n.num,.slice a n.cf.length c] 30
theorem adj{l:List Fm}(h:k<l.length): ∃c,c∈l/\l.take (k+1)=l.take k++[c]/\l=l.take k++(c::l.drop (k+1)):=by refine⟨l[k],List.getElem_mem h,by rw[List.take_succ_eq_append_getElem h],?_⟩;rw[<-List.drop_eq_getElem_cons h,List.take_append_drop]
def Gf(t:Fm)(k:Nat):zI:=((List.range k).map λi:Nat=>(i:Int)).filter λv=>t.jd v
theorem aaF(t:Fm):Gf t 5=aT t:=rfl
theorem aaG(t:Fm)(k:Nat):Gf t (k+1)=if t.jd (k:Int)=true then Gf t k++[(k:Int)]else Gf t k:=by
 unfold Gf;rw[List.range_succ,List.map_append,List.filter_append];by_cases h:t.jd (k:Int)=true
 ·rw[yP h];simp[h]
 ·rw[yN h];simp[h]
theorem aeR(t:Fm)(k:Nat):(Gf t k).length<=k:=by unfold Gf;exact Nat.le_trans (List.length_filter_le _ _) (by simp)
theorem ahx(t:Fm)(h:k<=5): ∀x∈Gf t k,(Lit.int .i64 x).wf=true:=λx hx=>by unfold Gf at hx;obtain⟨h1,-⟩:=List.mem_filter.1 hx;obtain⟨i,hi,rfl⟩:=List.mem_map.1 h1;have:=List.mem_range.1 hi;exact WalkArith.wf_i64 (by omega)
def Sk:List Nd:=[⟨8,1,0,0,0,0,[]⟩,⟨1,0,0,0,0,0,[1,-2]⟩]
theorem afe(w:zW):Calls prog 5 #[] w λe w'=>e=.returned (.slice (some ⟨w.heap.size+1,0,none⟩) 2 2)/\SlF w' (some ⟨w.heap.size+1,0,none⟩) 2 Sk/\Below w.heap.size w w':=by
 have hb:=((Below.refl w.heap.size w).alloc zr (.cells #[.int .i64 1,.int .i64 (-2)] 3)).alloc (by simp) (.cells #[.int .i64 8,.int .i64 1,.int .i64 0,.int .i64 0,.int .i64 0,.int .i64 0,.slice none 0 0,.int .i64 1,.int .i64 0,.int .i64 0,.int .i64 0,.int .i64 0,.int .i64 0,.slice (some ⟨w.heap.size,0,none⟩) 2 2] 30);have h0:=aP w (.cells #[.int .i64 1,.int .i64 (-2)] 3) (.cells #[.int .i64 8,.int .i64 1,.int .i64 0,.int .i64 0,.int .i64 0,.int .i64 0,.slice none 0 0,.int .i64 1,.int .i64 0,.int .i64 0,.int .i64 0,.int .i64 0,.int .i64 0,.slice (some ⟨w.heap.size,0,none⟩) 2 2] 30);have h1:=aQ w (.cells #[.int .i64 1,.int .i64 (-2)] 3) (.cells #[.int .i64 8,.int .i64 1,.int .i64 0,.int .i64 0,.int .i64 0,.int .i64 0,.slice none 0 0,.int .i64 1,.int .i64 0,.int .i64 0,.int .i64 0,.int .i64 0,.int .i64 0,.slice (some ⟨w.heap.size,0,none⟩) 2 2] 30)
 have z:Hid (SlF ((w.alloc (.cells #[.int .i64 1,.int .i64 (-2)] 3)).alloc (.cells #[.int .i64 8,.int .i64 1,.int .i64 0,.int .i64 0,.int .i64 0,.int .i64 0,.slice none 0 0,.int .i64 1,.int .i64 0,.int .i64 0,.int .i64 0,.int .i64 0,.int .i64 0,.slice (some ⟨w.heap.size,0,none⟩) 2 2] 30)) (some ⟨w.heap.size+1,0,none⟩) 2 Sk):=by
  generalize(w.alloc (.cells #[.int .i64 1,.int .i64 (-2)] 3)).alloc (.cells #[.int .i64 8,.int .i64 1,.int .i64 0,.int .i64 0,.int .i64 0,.int .i64 0,.slice none 0 0,.int .i64 1,.int .i64 0,.int .i64 0,.int .i64 0,.int .i64 0,.int .i64 0,.slice (some ⟨w.heap.size,0,none⟩) 2 2] 30)=W at h0 h1;refine⟨rfl,by decide,by unfold Je Sk;decide+kernel,.inr ⟨w.heap.size+1,0,rfl,λi hi=>?_⟩⟩;match i,hi with
  |0,_=>exact⟨none,0,by simp[World.cell?,h1];rfl,by simp[World.cell?,h1];rfl,by simp[World.cell?,h1];rfl,by simp[World.cell?,h1];rfl,by simp[World.cell?,h1];rfl,by simp[World.cell?,h1];rfl,by simp[World.cell?,h1];rfl,⟨rfl,by decide,(λx hx=>by cases hx),.inl rfl⟩⟩
  |1,_=>
   refine⟨some ⟨w.heap.size,0,none⟩,2,by simp[World.cell?,h1];rfl,by simp[World.cell?,h1];rfl,by simp[World.cell?,h1];rfl,by simp[World.cell?,h1];rfl,by simp[World.cell?,h1];rfl,by simp[World.cell?,h1];rfl,by simp[World.cell?,h1];rfl,⟨rfl,by decide,by unfold Sk;decide+kernel,.inr ⟨w.heap.size,0,rfl,λj J=>?_⟩⟩⟩
   match j,J with
   |0,_=>simp[World.cell?,h0];rfl
   |1,_=>simp[World.cell?,h0];rfl
 have U:=aj hb;clear h0 h1 hb;go_enter func5,ntmps5;go_wp2;go_ret;exact⟨rfl,z.out,U.out⟩
def qp(ns:List Nd):Bool:=ns.all λn=>decide (n.op≠8/\n.op≠9)
theorem aaP(ns:List Nd)(h:k<ns.length):qp (ns.take (k+1))=(qp (ns.take k)&&decide ((ns.getD k oL).op≠8/\(ns.getD k oL).op≠9)):=by unfold qp;rw[List.take_succ_eq_append_getElem h,List.all_append];simp[List.getD,h]
theorem ahF{ns:List Nd}(h:k<ns.length)(hb:(ns.getD k oL).op=8\/(ns.getD k oL).op=9):qp ns=false:=by unfold qp;rw[List.all_eq_false];refine⟨ns.getD k oL,by simp[List.getD,h],λz=>?_⟩;have:=of_decide_eq_true z;omega
def fq(vs:zI)(x:Int):Nat:=vs.findIdx (λy=>y==x)
theorem kG{x:Int}(h:x∈vs):fq vs x<vs.length:=List.findIdx_lt_length_of_exists ⟨x,h,by simp⟩
theorem Ci{x:Int}(h:x∈vs):vs.getD (fq vs x) 0=x:=by have h1:=List.findIdx_getElem (xs:=vs) (p:=λy=>y==x) (w:=kG h);have h2:(vs[fq vs x]'(kG h)==x)=true:=h1;rw[aS _ _ (kG h)];exact eq_of_beq h2
theorem QI{x:Int}(h:k<fq vs x)(z:k<vs.length):vs.getD k 0≠x:=by have h1:=List.not_of_lt_findIdx (xs:=vs) (p:=λy=>y==x) h;rw[aS _ _ z];simpa using h1
def dR(vs own:zI):zI:=own.map λx=>((fq vs x:Nat):Int)
def Dp(b:Int)(vs own:zI):zI:=iD b vs.length (dR vs own) (aD b vs.length).toNat
end Go.Proofs.YtceojneljnnooaaGreat
