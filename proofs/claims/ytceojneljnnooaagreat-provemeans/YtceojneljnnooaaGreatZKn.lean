import Derived.Test.YtceojneljnnooaaGreatZKm
import Derived.Test.YtceojneljnnooaaGreatZHh
open Go.Proofs.Tryz
namespace Go.Proofs.YtceojneljnnooaaGreat
open Go.RowKit
set_option maxHeartbeats 0
set_option maxRecDepth 100000
set_option linter.all false
variable{N:zL}{b:Int}{O l C:zI}{W:zW}{i:Nat}
theorem RV{w:zW}{T:zI}{m k:Nat}{z:zW}(v:Value)(h:jZ w T m k z):jZ w T m (k+1) ((z.setCell ⟨w.heap.size,k,none⟩ v).setCell ⟨w.heap.size,k,none⟩ (.int .i64 (T.getD k 0))):=by
 refine⟨((h.1.set k v).set k _).congr λp U=>?_,(h.2.setCell zr _).setCell zr _⟩;by_cases e:p=k
 ·subst e;rw[yP rfl,yP (by omega)]
 ·rw[yN e,yN e]
  by_cases J:p<k
  ·rw[yP J,yP (by omega)]
  ·rw[yN J,yN (by omega)]
def akk(wb:zW)(m:Nat)(b t:Int)(i:Nat)(z:zW):Prop:= ∃G,Mv wb.heap.size wb.heap.size m b t (NS b m) (Xe m) i i G z/\Below wb.heap.size wb z
theorem ajj(b t:Int)(m:Nat)(w:zW)(hM:aU b t=0)(d5:aD b t=(m:Int)):
  Calls prog 72 #[.int .i64 b,.int .i64 t] w (jX w b t (SQ b m) (daE m) m):=by
 obtain⟨m1,e4⟩:=fQ hM
 have e5:=agt hM
 rw[d5,Int.toNat_natCast]at m1 e4 e5
 have e6:=aj ((Below.refl w.heap.size w).alloc zr (.cells #[.int .i64 0,.int .i64 0,.slice none 0 0,.slice none 0 0] 35))
 have g5:=aj (zl w (.cells #[.int .i64 0,.int .i64 0,.slice none 0 0,.slice none 0 0] 35))
 have e7:Hid ((w.alloc (.cells #[.int .i64 0,.int .i64 0,.slice none 0 0,.slice none 0 0] 35)).heap.size=w.heap.size+1):=by show _=_;simp
 generalize l7:w.alloc (.cells #[.int .i64 0,.int .i64 0,.slice none 0 0,.slice none 0 0] 35)=wb at e6 g5 e7
 have e8:=aj (lU b t wb)
 rw[hM,cB,d5]at e8
 have a8:wJ wb.heap.size wb.heap.size m b t (NS b m) (Xe m) 0 0 (λx=>x=wb.heap.size) (wb.alloc (.cells #[.int .i64 b,.int .i64 t,.slice none 0 0,.slice none 0 0] 35)) (.slice none 0 0) (.slice none 0 0) []:=JE _ _ (by simp) zr (zl wb _)
 have e9:Hid (akk wb m b t 0 (wb.alloc (.cells #[.int .i64 b,.int .i64 t,.slice none 0 0,.slice none 0 0] 35))):=⟨_,⟨_,_,_,a8⟩,zb.alloc zr _⟩
 have b0:=aj (λW a c a' c' h1 h2=>xW b t a (m+1) c (SQ b m) a' c' (daE m) W h1 h2 e5)
 rw[d5,Int.toNat_natCast]at b0
 have f0:Hid (∀(G:Nat->Prop) (W:zW) (vN vE:Value) (vals:zV),wJ wb.heap.size wb.heap.size m b t (NS b m) (Xe m) (m+1) (m+1) G W vN vE vals-> ∃a c a' c',vN=.slice a (m+1) c/\vE=.slice a' (m+1) c'/\gT W a (m+1) (SQ b m)/\mR W a' (m+1) (daE m)):=λG W vN vE vals h=>by
  have hl:=Xf b m;have g6:=NU b m1 e4;have h2:wJ wb.heap.size wb.heap.size m b t (λj=>(SQ b m).getD j []) (λj=>(daE m).getD j false) (SQ b m).length (SQ b m).length G W vN vE vals:=by rw[hl];exact JH h (λj hj=>(NT hj).symm) (λj hj=>(Xg hj).symm)
  have h3:=Ro h2 (by omega) e4 (λj hj=>by rw[hl]at hj;exact(GJ g6 j hj).1) (λj hj=>by rw[hl]at hj;exact(GJ g6 j hj).2) (by rw[agq,hl]);rw[hl]at h3;exact h3
 unfold jX at b0⊢
 have l8:=aj (λx y (hx:x<m) (hy:y<m) W=>ZC b x y W (by omega) (by omega))
 have l9:=aj (λj l (hj:j<m) (hl:l<m)=>@Ut b m j l hj hl)
 have k6:Hid (NS b m m=List.replicate m (m:Int)):=by show _=_;unfold NS;rw[yN (Nat.lt_irrefl _)]
 have g7:=aj (λW=>adn (m:Int) m W (by omega))
 unfold adl at g7
 have p5:=fO m (by omega)
 obtain⟨j0,g8,g9,i1,i2⟩:=info_parts UR
 obtain⟨l0,i4,i5,i6,i7⟩:=info_parts abK
 have n0:Hid (∀i,i<m->Xe m i=true):=λi hi=>by unfold Xe;simp[hi]
 have n2:Hid (Xe m m=false):=by show _=_;unfold Xe;simp
 clear e5 a8 hM d5
 generalize SQ b m=DN at b0 f0⊢
 generalize daE m=DE at b0 f0⊢
 generalize aV DN DE m=LN at b0⊢
 generalize aY DN DE m=LE at b0⊢
 go_enter func72,ntmps72
 go_wp2_with fail
 clear l7
 refine e8.out.mono ?_
 rintro e w' ⟨rfl,hw⟩
 rw[hw]
 clear hw w' e8
 go_wp2
 generalize wb.alloc (.cells #[.int .i64 b,.int .i64 t,.slice none 0 0,.slice none 0 0] 35)=W1 at e9⊢
 go_loopg[28] m (λg u wx=> ∃i:Nat,g=m-i/\i<=m/\u=.int .i64 i/\akk wb m b t i wx)
 case atStart=>exact⟨0,rfl,by omega,rfl,e9.out⟩
 case round=>
  obtain⟨i,i8,hi,rfl,i9⟩:=hrel
  have n3:=aj i8
  have f1:=aj i9
  clear i8 i9 e9
  by_cases f2:i<m
  ·have k7:(i:Int)<(m:Int):=by omega
   have b8:=aj (jI wr (NS b m i) m)
   have n4:=aj (λy (hy:y<m) W=>l8.out i y f2 hy W)
   have j1:=aj (λl (hl:l<m)=>l9.out i l f2 hl)
   have k8:=aj (n0.out i f2)
   go_wp2
   obtain⟨wq,j2⟩: ∃wq:zW,wq=wr:=⟨_,rfl⟩
   rw[<-j2]at f1 b8⊢
   clear j2 wr
   generalize wq.alloc (.cells (madeCells #[.int .i64 0] m) 3)=w1 at b8⊢
   generalize j3:NS b m i=RI at b8 j1
   have n5:=aj j3
   clear j3
   go_loopw[34] (λu wx=> ∃l:Nat,l<=m/\u=.int .i64 l/\jZ wq RI m l wx) (λu _=>m-(intOf u).toNat)
   case atStart=>exact⟨0,by omega,rfl,b8.out⟩
   case round=>
    obtain⟨l,hl,rfl,j4⟩:=hrel
    have a1:=aj j4
    clear j4 b8
    by_cases d6:l<m
    ·have k9:(l:Int)<(m:Int):=by omega
     have b6:=a1.out.1.cell d6
     have j5:=a1.out.1.frozen l
     rw[yN (Nat.lt_irrefl _)]at b6
     have HC:=aj (λW=>n4.out l d6 W)
     have HV:=aj (j1.out l d6)
     have b9:=aj (kS a1.out)
     have c0:=aj (RV (.int .i64 (l:Int)) a1.out)
     rw[HV.out]at b9 c0
     have c3:=aj ((a1.out.1.set l (.int .i64 (l:Int))).cell d6)
     have n6:=aj ((a1.out.1.set l (.int .i64 (l:Int))).frozen l)
     rw[yP rfl]at c3
     by_cases hc:Pb b i l=true
     ·rw[hc]at HC
      rw[yP hc]at c0
      clear hc b9
      go_wp2_with fail
      have d7:=c3.out
      have n7:=n6.out
      clear b6 j5
      generalize wr.setCell ⟨wq.heap.size,l,none⟩ (.int .i64 (l:Int))=w2 at c0 d7 n7⊢
      refine(HC.out w2).mono ?_
      rintro e w' ⟨rfl,hw⟩
      rw[hw]
      clear hw w'
      go_wp2
      go_roundw
      case rel=>exact⟨l+1,by omega,by go_num,c0.out⟩
      case measure=>simp[intOf];omega
     ·have d7:Pb b i l=false:=by simpa using hc
      rw[d7]at HC
      rw[yN hc]at b9
      clear hc d7 c0
      go_wp2_with fail
      clear b6 j5
      generalize wr.setCell ⟨wq.heap.size,l,none⟩ (.int .i64 (l:Int))=w2 at b9⊢
      refine(HC.out w2).mono ?_
      rintro e w' ⟨rfl,hw⟩
      rw[hw]
      clear hw w'
      go_wp2
      go_roundw
      case rel=>exact⟨l+1,by omega,by go_num,b9.out⟩
      case measure=>simp[intOf];omega
    ·have k9: ¬(l:Int)<(m:Int):=by omega
     obtain rfl:m=l:=by omega
     obtain⟨G,⟨vN,vE,vals,a8⟩,b1⟩:=f1.out
     have hA:=mO a8 (λx hx=>a1.out.2.block x (a8.lt x hx).2) a1.out.2.size
     have c4:wr.cell? ⟨wb.heap.size,2,none⟩=some vN:=(aC hA.box).1.2.2.1
     have f3:=aj (λw3 o g' b7 k1 k2 k3=>@UU wb.heap.size wb.heap.size m b t (NS b m) (Xe m) i i G wr w3 vN vE vals wq.heap.size o g' b7 hA (a1.out.1.congr λq hq=>by rw[yP hq,n5.out]) ⟨λh=>by have:=(a8.lt _ h).2;omega,b1.size⟩ k1 k2 k3)
     have l1:=aj hA.CP
     have d8:Hid (wb.heap.size<=wr.heap.size):=hA.hb
     have HA:=aj hA
     have d9:Hid (Below wb.heap.size wb wr):=b1.trans (a1.out.2.mono b1.size)
     clear hA a8 b1
     go_upto_region 18 with(at_builtin;refine wpList_append_lies _ rfl _ _ 32 rfl wb.heap.size 24 j0 (.slice none 0 0) 1 24 underlying32 g8 g9 i1 i2 rfl (by decide) vN i vals rfl (l1.out.alloc _) ⟨wr.heap.size,0,none⟩ 1 1 [.slice (some ⟨wq.heap.size,0,none⟩) m m] rfl rfl (fV _ _ _) (λu hu=>by simp at hu;subst hu;rfl) (by omega) (by unfold maxLen;omega) (by omega) (by have:=d8.out;simp;omega) (wr.heap.size+1) (by simp) ?_;intro g' cg w3 a2 U b2 d0;obtain⟨⟨d1,d2⟩,b3,b4⟩:=f3.out w3 _ g' cg a2 U (by rw[World.size_alloc];exact b2);have z:=aj b3;have c5:=aj b4;clear a2 U b2 b3 b4)
     clear c4 d1 d2 d0
     generalize w3.setCell ⟨wb.heap.size,2,none⟩ (.slice (some ⟨g',0,none⟩) (i+1) cg)=w5 at z c5⊢
     have f5:Hid (Below wb.heap.size wb w5):=mM d9.out c5.out (λx hx=>(HA.out.lt x hx).1) HA.out.hb
     have j6:w5.cell? ⟨wb.heap.size,3,none⟩=some vE:=(aC z.out.box).1.2.2.2
     have c6:=aj (λw6 o g2 J k1 k2 k3=>@UW wb.heap.size wb.heap.size m b t (NS b m) (Xe m) (i+1) i _ w5 w6 _ vE _ o g2 J z.out k1 k2 k3)
     rw[k8.out]at c6
     have f6:=aj z.out.CQ
     have f7:Hid (wb.heap.size<=w5.heap.size):=z.out.hb
     go_wp2_with (at_builtin;refine wpList_append_lies _ rfl _ _ 33 rfl wb.heap.size 4 l0 (.bool false) 1 1 underlying33 i4 i5 i6 i7 rfl (by decide) vE i _ rfl (f6.out.alloc _) ⟨w5.heap.size,0,none⟩ 1 1 [.bool true] rfl rfl (fV _ _ _) (λu hu=>by simp at hu;subst hu;rfl) (by omega) (by unfold maxLen;omega) (by omega) (by have:=f7.out;simp;omega) (w5.heap.size+1) (by simp) ?_;intro g2 J w7 a6 Z b5 d3;obtain⟨⟨j7,j8⟩,c7,c8⟩:=c6.out w7 _ g2 J a6 Z (by rw[World.size_alloc];exact b5);have c9:=aj c7;have e0:=aj c8;clear c7 c8 a6 Z b5 d3)
     go_roundg (m-(i+1))
     case measure=>have:=n3.out;omega
     case rel=>exact⟨i+1,rfl,by omega,by go_num,_,⟨_,_,_,c9.out⟩,mM f5.out e0.out (λx hx=>(z.out.lt x hx).1) z.out.hb⟩
  ·have k7: ¬(i:Int)<(m:Int):=by omega
   obtain rfl:i=m:=by omega
   obtain⟨G,⟨vN,vE,vals,hA⟩,b1⟩:=f1.out
   have c4:wr.cell? ⟨wb.heap.size,2,none⟩=some vN:=(aC hA.box).1.2.2.1
   have HA:=aj hA
   have d9:=aj b1
   have c3:Hid (∀w2,Below wr.heap.size wr w2->w2.cell? ⟨wb.heap.size,2,none⟩=some vN):=λw2 hb=>(hb.cell (p:=⟨wb.heap.size,2,none⟩) (zk wr _ c4)).trans c4
   have n8:Hid (∀w2,Below wr.heap.size wr w2->w2.ownsRow wb.heap.size 24 1 vN i vals):=λw2 hb=>aX HA.out.CP (λx hx=>hb.block x (HA.out.CP.lt x hx).2)
   have f3:Hid (∀w2 gc,Below wr.heap.size wr w2->wr.heap.size<=gc->(w2.rowIs gc 3 i λk=>.int .i64 ((List.replicate i (i:Int)).getD k 0))-> ∀w3 o g' b7 k1 k2 k3,_):=λw2 gc hb e3 hr w3 o g' b7 k1 k2 k3=>@UU wb.heap.size wb.heap.size i b t (NS b i) (Xe i) i i G w2 w3 vN vE vals gc o g' b7 (mO HA.out (λx hx=>hb.block x (HA.out.lt x hx).2) hb.size) (by rw[k6.out];exact hr) ⟨λh=>by have:=(HA.out.lt _ h).2;omega,Nat.le_trans HA.out.hb e3⟩ k1 k2 k3
   have n9:=aj (g7.out wr.drew)
   have d8:Hid (wb.heap.size<=wr.heap.size):=hA.hb
   clear hA b1
   go_wp2_with fail
   go_region_law (first
    |(refine step_append_lies _ rfl (.tmp 63) (.tmp 67) 32 rfl wb.heap.size 24 j0 (.slice none 0 0) 1 24 underlying32 g8 g9 i1 i2 rfl (by decide) vN i vals (by simp[Act.eval]) ((n8.out w2 a7.out).alloc _) ⟨w2.heap.size,0,none⟩ 1 1 [.slice (some ⟨gc,0,none⟩) i i] (by simp[Act.eval]) rfl (fV _ _ _) (λu hu=>by simp at hu;subst hu;rfl) (by omega) (by unfold maxLen;omega) (by omega) (by have:=d8.out;have:=a7.out.size;simp;omega) (w2.heap.size+1) (by simp) ?_;intro g' cg w3 a2 U b2 d0;obtain⟨⟨d1,d2⟩,b3,b4⟩:=f3.out w2 gc a7.out o0.out o3.out w3 _ g' cg a2 U (by rw[World.size_alloc];exact b2);have z:=aj b3;have c5:=aj b4;clear a2 U b2 b3 b4 d0)
    |(go_simp;go_at_call 100;refine n9.out.mono ?_;rintro e w2 ⟨gc,rfl,e3,j9,k0⟩;have a7:=aj ((Below.refl wr.heap.size wr).drew.trans k0);have o0:Hid (wr.heap.size<=gc):=e3;have o3:=aj j9;have o4:=c3.out w2 a7.out;have l3:=c3.out (w2.alloc (.cells #[.slice (some ⟨gc,0,none⟩) i i] 24)) (a7.out.trans (((Below.refl w2.heap.size w2).alloc zr _).mono a7.out.size));clear e3 j9 k0))
   all_goals
    clear c4 o4 l3 d1 d2
    generalize w3.setCell ⟨wb.heap.size,2,none⟩ (.slice (some ⟨g',0,none⟩) (i+1) cg)=w5 at z c5⊢
    have f5:Hid (Below wb.heap.size wb w5):=mM (d9.out.trans (a7.out.mono d9.out.size)) c5.out (λx hx=>(HA.out.lt x hx).1) (Nat.le_trans d8.out a7.out.size)
    have j6:w5.cell? ⟨wb.heap.size,3,none⟩=some vE:=(aC z.out.box).1.2.2.2
    have c6:=aj (λw6 o g2 J k1 k2 k3=>@UW wb.heap.size wb.heap.size i b t (NS b i) (Xe i) (i+1) i _ w5 w6 _ vE _ o g2 J z.out k1 k2 k3)
    rw[n2.out]at c6
    have f6:=aj z.out.CQ
    have f7:Hid (wb.heap.size<=w5.heap.size):=z.out.hb
    go_upto_region 22 with(at_builtin;refine wpList_append_lies _ rfl _ _ 33 rfl wb.heap.size 4 l0 (.bool false) 1 1 underlying33 i4 i5 i6 i7 rfl (by decide) vE i _ rfl (f6.out.alloc _) ⟨w5.heap.size,0,none⟩ 1 1 [.bool false] rfl rfl (fV _ _ _) (λu hu=>by simp at hu;subst hu;rfl) (by omega) (by unfold maxLen;omega) (by omega) (by have:=f7.out;simp;omega) (w5.heap.size+1) (by simp) ?_;intro g2 J w7 a6 Z b5 d3;obtain⟨⟨j7,j8⟩,c7,c8⟩:=c6.out w7 _ g2 J a6 Z (by rw[World.size_alloc];exact b5);have c9:=aj c7;have e0:=aj c8;clear c7 c8 a6 Z b5 d3)
    clear j6 j7 j8
    generalize w7.setCell ⟨wb.heap.size,3,none⟩ (.slice (some ⟨g2,0,none⟩) (i+1) J)=w8 at c9 e0⊢
    have f8:Hid (Below wb.heap.size wb w8):=mM f5.out e0.out (λx hx=>(z.out.lt x hx).1) z.out.hb
    obtain⟨⟨x0,x1,x2,x3⟩,-⟩:=aC c9.out.box
    obtain⟨aN,cN,aE,cE,e1,e2,k4,k5⟩:=f0.out _ _ _ _ _ c9.out
    cases e1
    cases e2
    have HL:=aj (b0.out w8 _ cg _ J k4 k5)
    clear k4 k5
    go_wp2_with fail
    refine HL.out.mono ?_
    rintro e w9 ⟨ay,cy,f9,g1,rfl,g3,g4⟩
    have d4:=f8.out.trans (g4.mono f8.out.size)
    have hr:=(d4.block w.heap.size (by rw[e7.out];omega)).trans g5.out
    obtain⟨⟨r0,r1,r2,r3⟩,rf⟩:=aC hr
    have HR:=aj hr
    have o5:=aj g3
    have o6:Hid (Below w.heap.size w w9):=e6.out.trans (d4.mono e6.out.size)
    have o7:Hid (w.heap.size<w8.heap.size/\w8.heap.size<=w9.heap.size):=⟨by have:=f8.out.size;have:=e7.out;omega,g4.size⟩
    clear hr g3 g4 d4 x0 x1 x2 x3 HL
    go_wp2
    obtain⟨⟨l4,o8,l5⟩,l6⟩:=eO (v0:=.int .i64 b) (v1:=.int .i64 t) (v2:=.slice ay LN.length cy) (v3:=.slice f9 LN.length g1) HR.out rfl
    have hb:=l6 w w.heap.size o6.out (by omega)
    obtain⟨⟨z0,z1,z2,z3⟩,-⟩:=aC l4
    exact bodyPost_ret (v:=.tuple #[.agg #[.int .i64 b,.int .i64 t,.slice ay LN.length cy,.slice f9 LN.length g1],.nilIface]) (by simp[results,results72,go_sem,z0,z1,z2,z3]) rfl ⟨ay,cy,f9,g1,rfl,λW' o9=>o5.out W' (λx hx p4=>by have h8:=o7.out;rw[o9 x (by omega) (by rw[o8];exact p4),l5 x (by omega)]),hb⟩
theorem XZ(b t:Int)(w:zW)(hM:aU b t≠0):Calls prog 72 #[.int .i64 b,.int .i64 t] w (dB w 0 0 [] [] (aU b t)):=by have U:=aj ((Below.refl w.heap.size w).alloc zr (.cells #[.int .i64 0,.int .i64 0,.slice none 0 0,.slice none 0 0] 35));have J:=aj (zl w (.cells #[.int .i64 0,.int .i64 0,.slice none 0 0,.slice none 0 0] 35));generalize a2:w.alloc (.cells #[.int .i64 0,.int .i64 0,.slice none 0 0,.slice none 0 0] 35)=wb at U J;have z:=aj (lU b t wb);unfold dB;rw[dx hM]at z⊢;clear hM;generalize aU b t=c at z⊢;generalize aD b t=mu at z;obtain⟨⟨p0,p1,p2,p3⟩,pf⟩:=aC J.out;go_enter func72,ntmps72;go_wp2_with fail;clear a2;refine z.out.mono ?_;rintro e w' ⟨rfl,hw⟩;rw[hw];clear hw w';go_wp2;obtain⟨⟨Z,-,-⟩,a1⟩:=eF J.out rfl;obtain⟨⟨z0,z1,z2,z3⟩,-⟩:=aC Z;exact bodyPost_ret (v:=.tuple #[.agg #[.int .i64 0,.int .i64 0,.slice none 0 0,.slice none 0 0],.iface 45 (.int .i64 c)]) (by simp[results,results72,go_sem,z0,z1,z2,z3]) rfl ⟨none,0,none,0,rfl,dD _ _,a1 _ _ U.out (by omega)⟩
theorem RX:Gu:=λb t w=>by
 by_cases z:aU b t=0
 ·obtain⟨m,hm⟩: ∃m:Nat,aD b t=(m:Int):=⟨(aD b t).toNat,by have:=fQ z;omega⟩;have h:=ajj b t m w z hm;have J:=acM z;rw[hm,Int.toNat_natCast]at J;unfold jX at h;rw[J.1,J.2]at h;unfold dB bK;rw[yP z,yP z,dz z];exact h
 ·have h:=XZ b t w z
  have U:iE b t=[]:=by unfold iE;rw[yN z]
  have Z:nM b t=[]:=by unfold nM;rw[yN z]
  unfold bK;rw[yN z,yN z,U,Z];exact h
theorem ahf{how t:Int}(h0:0<=how/\how<=15)(N:zL)(E:zB)(k:Nat):KF how b t N E k=iX how b t N E k b t (iE b t) (nM b t) (iE b t).length/\Qx how b t N E k=kE how b t N E k b t (iE b t) (nM b t) (iE b t).length/\Qy how b t N E k=lu how b t N E k b t (iE b t) (nM b t) (iE b t).length:=by
 unfold KF Qx Qy;by_cases z:bP b t N k=0
 ·rw[yP z,yP z,yP z];exact⟨rfl,rfl,rfl⟩
 ·have J:iG b t N k b t (iE b t) (iE b t).length=bP b t N k:=by unfold iG;rw[yN z]
  have U:iX how b t N E k b t (iE b t) (nM b t) (iE b t).length=bP b t N k:=by unfold iX;rw[yP h0,J,yN z]
  unfold kE lu;rw[yN z,yN z,yN z,U,yN z,yN z];exact⟨rfl,rfl,rfl⟩
theorem ahg{how t:Int}(N:zL)(E:zB)(k:Nat)(z:aU b t≠0):KF how b t N E k=aU b t/\Qx how b t N E k=[]/\Qy how b t N E k=[]:=by
 have J:bP b t N k=aU b t:=by unfold bP;rw[yN z]
 unfold KF Qx Qy;rw[J,yN z,yN z,yN z];exact⟨rfl,rfl,rfl⟩
theorem RY(b t:Int)(a:zO)(n cap:Nat)(a':zO)(k z:Nat)(how:Int)(w:zW)(hM:aU b t≠0):
  Calls prog 93 #[.agg #[.int .i64 b,.int .i64 t,.slice a n cap,.slice a' k z],.int .i64 how] w (dB w 0 0 [] [] (aU b t)):=by
 have a1:=aj (bG w (.cells #[.int .i64 b,.int .i64 t,.slice a n cap,.slice a' k z] 35) (.cells #[.int .i64 0,.int .i64 0,.slice none 0 0,.slice none 0 0] 35))
 have a2:=aj (aP w (.cells #[.int .i64 b,.int .i64 t,.slice a n cap,.slice a' k z] 35) (.cells #[.int .i64 0,.int .i64 0,.slice none 0 0,.slice none 0 0] 35))
 have Z:=aj (aQ w (.cells #[.int .i64 b,.int .i64 t,.slice a n cap,.slice a' k z] 35) (.cells #[.int .i64 0,.int .i64 0,.slice none 0 0,.slice none 0 0] 35))
 generalize b1:(w.alloc (.cells #[.int .i64 b,.int .i64 t,.slice a n cap,.slice a' k z] 35)).alloc (.cells #[.int .i64 0,.int .i64 0,.slice none 0 0,.slice none 0 0] 35)=wb at a1 a2 Z
 have U:=aj (XZ b t wb hM)
 unfold dB at U⊢
 rw[dx hM]at U⊢
 clear hM
 generalize aU b t=c at U⊢
 obtain⟨⟨p0,p1,p2,p3⟩,-⟩:=aC a2.out
 go_enter func93,ntmps93
 go_wp2_with fail
 clear b1 p0 p1 p2 p3
 refine U.out.mono ?_
 rintro e w1 ⟨ar,cr,a6,a7,rfl,-,J⟩
 have b2:=aj (ak a1.out (J.alloc J.size (.cells #[.int .i64 0,.int .i64 0,.slice ar 0 cr,.slice a6 0 a7] 35)))
 have hr:(w1.alloc (.cells #[.int .i64 0,.int .i64 0,.slice ar 0 cr,.slice a6 0 a7] 35)).heap[w.heap.size+1]? =_:=((J.alloc J.size _).block _ (zG Z.out).1).trans Z.out
 obtain⟨⟨r0,r1,r2,r3⟩,rf⟩:=aC hr
 have HR:=aj hr
 clear hr J
 go_wp2
 obtain⟨⟨a8,-,-⟩,b0⟩:=eF HR.out rfl
 obtain⟨⟨z0,z1,z2,z3⟩,-⟩:=aC a8
 exact bodyPost_ret (v:=.tuple #[.agg #[.int .i64 0,.int .i64 0,.slice none 0 0,.slice none 0 0],.iface 45 (.int .i64 c)]) (by simp[results,results93,go_sem,z0,z1,z2,z3]) rfl ⟨none,0,none,0,rfl,dD _ _,b0 _ _ b2.out (by omega)⟩
theorem Vk(b t:Int)(a:zO)(n cap:Nat)(a':zO)(k J:Nat)(N:zL)(E:zB)(how:Int)(w:zW)(hs:gT w a n N)(he:mR w a' k E)(hM:aU b t=0):
  Calls prog 93 #[.agg #[.int .i64 b,.int .i64 t,.slice a n cap,.slice a' k J],.int .i64 how] w (dB w (bK (iX how b t N E k b t (iE b t) (nM b t) (iE b t).length) b) (bK (iX how b t N E k b t (iE b t) (nM b t) (iE b t).length) t) (kE how b t N E k b t (iE b t) (nM b t) (iE b t).length) (lu how b t N E k b t (iE b t) (nM b t) (iE b t).length) (iX how b t N E k b t (iE b t) (nM b t) (iE b t).length)):=by
 have a8:=aj (bG w (.cells #[.int .i64 b,.int .i64 t,.slice a n cap,.slice a' k J] 35) (.cells #[.int .i64 0,.int .i64 0,.slice none 0 0,.slice none 0 0] 35))
 have b1:=aj (aP w (.cells #[.int .i64 b,.int .i64 t,.slice a n cap,.slice a' k J] 35) (.cells #[.int .i64 0,.int .i64 0,.slice none 0 0,.slice none 0 0] 35))
 have b2:=aj (aQ w (.cells #[.int .i64 b,.int .i64 t,.slice a n cap,.slice a' k J] 35) (.cells #[.int .i64 0,.int .i64 0,.slice none 0 0,.slice none 0 0] 35))
 have b6:Hid (((w.alloc (.cells #[.int .i64 b,.int .i64 t,.slice a n cap,.slice a' k J] 35)).alloc (.cells #[.int .i64 0,.int .i64 0,.slice none 0 0,.slice none 0 0] 35)).heap.size=w.heap.size+2):=by show _=_;simp
 generalize c8:(w.alloc (.cells #[.int .i64 b,.int .i64 t,.slice a n cap,.slice a' k J] 35)).alloc (.cells #[.int .i64 0,.int .i64 0,.slice none 0 0,.slice none 0 0] 35)=wb at a8 b1 b2 b6
 have Z:=aj (RX b t wb)
 unfold dB bK at Z
 rw[yP hM,yP hM,dz hM]at Z
 have z:=aj (λa2 c2 c9 d0 W h1 h2 h3 h4=>aii b t a n cap a' k J N E b t a2 (iE b t).length c2 c9 (iE b t).length d0 (iE b t) (nM b t) how W h1 h2 h3 h4)
 have HS:=aj hs
 have HE:=aj he
 unfold dB at z⊢
 clear hM hs he
 generalize iX how b t N E k b t (iE b t) (nM b t) (iE b t).length=c at z⊢
 generalize kE how b t N E k b t (iE b t) (nM b t) (iE b t).length=LN at z⊢
 generalize lu how b t N E k b t (iE b t) (nM b t) (iE b t).length=LE at z⊢
 generalize bK c b=b0 at z⊢
 generalize bK c t=t0 at z⊢
 generalize bC c=ev at z⊢
 generalize iE b t=AN at Z z
 generalize nM b t=AE at Z z
 obtain⟨⟨p0,p1,p2,p3⟩,-⟩:=aC b1.out
 go_enter func93,ntmps93
 go_wp2_with fail
 clear c8 p0 p1 p2 p3
 refine Z.out.mono ?_
 rintro e w1 ⟨a1,c1,b7,b3,rfl,U,b8⟩
 obtain⟨d1,b9⟩:=QJ (b:=b) (t:=t) (c:=c1) (c':=b3) 35 U
 have a6:=aj (ak b8 b9)
 obtain⟨⟨q0,q1,q2,q3⟩,c0,c3⟩:=d1
 obtain⟨⟨p0,p1,p2,p3⟩,-⟩:=aC ((a6.out.block _ (zG b1.out).1).trans b1.out)
 have HC:=aj (z.out a1 c1 b7 b3 _ (aG HS.out (ak a8.out a6.out)) (bD HE.out (ak a8.out a6.out)) c0 c3)
 clear U b8 b9 c0 c3 z Z
 go_wp2_with fail
 clear p0 p1 p2 p3 q0 q1 q2 q3
 generalize w1.alloc (.cells #[.int .i64 b,.int .i64 t,.slice a1 AN.length c1,.slice b7 AN.length b3] 35)=w2 at a6 HC⊢
 refine HC.out.mono ?_
 rintro e w3 ⟨ay,cy,b4,b5,rfl,U,c4⟩
 have a7:=ak a6.out c4
 have hr:=(a7.block _ (zG b2.out).1).trans b2.out
 obtain⟨⟨r0,r1,r2,r3⟩,rf⟩:=aC hr
 have HR:=aj hr
 have d2:=aj U
 have d3:=aj (ak a8.out a7)
 have d4:Hid (w.heap.size+2<=w2.heap.size):=by have h1:=a6.out.size;have h2:=b6.out;show _<=_;omega
 clear hr U c4 a7 HC
 go_wp2
 obtain⟨⟨c5,d5,c6⟩,c7⟩:=eO (v0:=.int .i64 b0) (v1:=.int .i64 t0) (v2:=.slice ay LN.length cy) (v3:=.slice b4 LN.length b5) HR.out rfl
 have hb:=c7 w w.heap.size d3.out (by omega)
 obtain⟨⟨z0,z1,z2,z3⟩,-⟩:=aC c5
 exact bodyPost_ret (v:=.tuple #[.agg #[.int .i64 b0,.int .i64 t0,.slice ay LN.length cy,.slice b4 LN.length b5],ev]) (by simp[results,results93,go_sem,z0,z1,z2,z3]) rfl ⟨ay,cy,b4,b5,rfl,λW' d6=>d2.out W' (λx hx d7=>by have h8:=d4.out;rw[d6 x (by omega) (by rw[d5];exact d7),c6 x (by omega)]),hb⟩
theorem aam(b t:Int)(a:zO)(n cap:Nat)(a':zO)(k z:Nat)(N:zL)(E:zB)(how:Int)(w:zW)(hs:gT w a n N)(he:mR w a' k E)(h0:0<=how/\how<=15):
  Calls prog 93 #[.agg #[.int .i64 b,.int .i64 t,.slice a n cap,.slice a' k z],.int .i64 how] w (dB w (bK (KF how b t N E k) b) (bK (KF how b t N E k) t) (Qx how b t N E k) (Qy how b t N E k) (KF how b t N E k)):=by
 by_cases J:aU b t=0
 ·obtain⟨U,Z,e3⟩:=ahf (b:=b) (t:=t) h0 N E k
  rw[U,Z,e3]
  exact Vk b t a n cap a' k z N E how w hs he J
 ·obtain⟨U,Z,e3⟩:=ahg (how:=how) N E k J
  unfold bK
  rw[U,Z,e3,yN J,yN J]
  exact RY b t a n cap a' k z how w J
theorem aan:yc:=λb t a n cap a' k z N E w hs he=>by
 have U:=aj (bG w (.cells #[.int .i64 b,.int .i64 t,.slice a n cap,.slice a' k z] 35) (.cells #[.int .i64 0,.int .i64 0,.slice none 0 0,.slice none 0 0] 35));have a8:=aj (aP w (.cells #[.int .i64 b,.int .i64 t,.slice a n cap,.slice a' k z] 35) (.cells #[.int .i64 0,.int .i64 0,.slice none 0 0,.slice none 0 0] 35));have Z:=aj (aQ w (.cells #[.int .i64 b,.int .i64 t,.slice a n cap,.slice a' k z] 35) (.cells #[.int .i64 0,.int .i64 0,.slice none 0 0,.slice none 0 0] 35));have b1:Hid (((w.alloc (.cells #[.int .i64 b,.int .i64 t,.slice a n cap,.slice a' k z] 35)).alloc (.cells #[.int .i64 0,.int .i64 0,.slice none 0 0,.slice none 0 0] 35)).heap.size=w.heap.size+2):=by show _=_;simp
 generalize b5:(w.alloc (.cells #[.int .i64 b,.int .i64 t,.slice a n cap,.slice a' k z] 35)).alloc (.cells #[.int .i64 0,.int .i64 0,.slice none 0 0,.slice none 0 0] 35)=wb at U a8 Z b1;have J:=aj (aam b t a n cap a' k z N E 4 wb (aG hs U.out) (bD he U.out) (by decide));unfold dB at J⊢;clear hs he;generalize KF 4 b t N E k=c at J⊢;generalize Qx 4 b t N E k=LN at J⊢;generalize Qy 4 b t N E k=LE at J⊢;generalize bK c b=b0 at J⊢;generalize bK c t=t0 at J⊢;generalize bC c=ev at J⊢;obtain⟨⟨p0,p1,p2,p3⟩,-⟩:=aC a8.out;go_enter func62,ntmps62;go_wp2_with fail;clear b5 p0 p1 p2 p3;refine J.out.mono ?_;rintro e w3 ⟨ay,cy,a1,a2,rfl,a6,a7⟩;have hr:=(a7.block _ (zG Z.out).1).trans Z.out;obtain⟨⟨r0,r1,r2,r3⟩,rf⟩:=aC hr;have HR:=aj hr;have b6:=aj a6;have b7:=aj (ak U.out a7);clear hr a6 a7 J;go_wp2;obtain⟨⟨b2,b8,b3⟩,b4⟩:=eO (v0:=.int .i64 b0) (v1:=.int .i64 t0) (v2:=.slice ay LN.length cy) (v3:=.slice a1 LN.length a2) HR.out rfl;have hb:=b4 w w.heap.size b7.out (by omega);obtain⟨⟨z0,z1,z2,z3⟩,-⟩:=aC b2;exact bodyPost_ret (v:=.tuple #[.agg #[.int .i64 b0,.int .i64 t0,.slice ay LN.length cy,.slice a1 LN.length a2],ev]) (by simp[results,results62,go_sem,z0,z1,z2,z3]) rfl ⟨ay,cy,a1,a2,rfl,λW' b9=>b6.out W' (λx hx c0=>by have h8:=b1.out;rw[b9 x (by omega) (by rw[b8];exact c0),b3 x (by omega)]),hb⟩
def XM(w:zW)(L:List Nat)(N:zL)(e:Ending)(w':zW):Prop:=
 ∃g cq aN cN,e=.returned (.tuple #[.slice (some ⟨g,0,none⟩) L.length cq,.slice aN N.length cN])/\adZ w g cq L aN N.length N w'/\Below w.heap.size w w'
theorem Ry(f:FuncId)(cs:Array Value)(m J:Nat)(d:Nat->Nat->Nat)(w:zW)(h0:J<4096)(h1:1<=m)(q5:m<=36)(i4: ∀(args:Array Value) (W:zW),(callFunc f args).run prog W=.ok (.enter f args) W)(a2: ∀i,∀x∈aM d m J i,x<4096)(hF: ∀(W:zW) (s l i:Nat),Below w.heap.size w W->s∈aM d m J i->l<m->Calls prog f (#[Bf s,.int .i64 (l:Int)]++cs) W (λe W'=>e=.returned (Bf (d s l))/\Below W.heap.size W W')):
  Calls prog 84 #[Bf J,.int .i64 (m:Int),.func (.func f) #[] cs] w (XM w (aM d m J eZ) (gN d m (aM d m J eZ))):=by
 obtain⟨B,hB⟩: ∃B:Nat,B=eZ:=⟨_,rfl⟩
 rw[<-hB]
 rw[CW]at hB
 have q6:=aj hB
 rw[<-hB]at a2
 have e5:Hid (∀i,(aM d m J i).length<=B):=λi=>by have:=kW (K:=List.range B) (kN d m J i) (λx hx=>List.mem_range.2 (a2 i x hx));rwa [List.length_range]at this
 have n3:Hid (∀i,∀x∈aM d m J i,x<4096):=λi x hx=>by have:=a2 i x hx;omega
 have i1:Hid (∀i,(aM d m J i).length<=i->i<=B->aM d m J B=aM d m J i):=λi h hi=>by have:=uz h (B-i);rwa [show i+(B-i)=B by omega]at this
 have q4:B<=4096:=by omega
 clear hB
 have HF:=aj hF
 have n4:=aj i4
 have q7:Hid (aM d m J 0=[J]):=rfl
 have k9:=XK (n:=J) (by omega)
 clear hF i4 a2
 have q8:=fO m (by omega)
 have q9:=@run_makeMap prog
 obtain⟨r2,e6⟩:=k9
 have b1:=aj (zl w (.cells #[.int .i64 (gu J),.int .i64 (iP J)] 129))
 have e7:=aj ((Below.refl w.heap.size w).alloc zr (.cells #[.int .i64 (gu J),.int .i64 (iP J)] 129))
 generalize n5:w.alloc (.cells #[.int .i64 (gu J),.int .i64 (iP J)] 129)=w1 at b1 e7
 have i5:=qZ w1 prog 129
 obtain⟨wp,e8,b9,b2⟩:=i5.put GK underlying153 (val:=.int .i64 0) (by decide) e6 (by simp)
 have i6:=aj (λrows=>@Z5 w wp J rows w1 e7.out b9 b2)
 have e9:(w1.alloc (.map #[] 0)).heap[w.heap.size]? =some (.cells #[.int .i64 (gu J),.int .i64 (iP J)] 129 (0,0)):=(Below.heap_alloc _ _ _ (zG b1.out).1).trans b1.out
 have i7:wp.heap[w.heap.size]? =some (.cells #[.int .i64 (gu J),.int .i64 (iP J)] 129 (0,0)):=(b2.grown.block w.heap.size (Nat.lt_trans (zG b1.out).1 (by simp)) (λe=>by have h1:=Option.some.inj e;have h2:=(zG b1.out).1;omega)).trans e9
 obtain⟨⟨q0,q1⟩,-⟩:=bL e9
 obtain⟨⟨r0,r1⟩,-⟩:=bL i7
 have n6:=(zG b1.out).1
 clear b9 b2 i5 e9 i7
 unfold Bf at e8⊢
 go_enter func84,ntmps84
 go_wp2
 clear q0 q1 r0 r1 e8 e6 n5 n6
 obtain⟨RW,i8⟩: ∃RW,RW=qg d m J:=⟨_,rfl⟩
 obtain⟨l1,f1⟩:=i6.out RW
 have b5:=aj f1
 have e0:Hid (qg d m J=RW):=i8.symm
 clear i8 i6 f1 e7 b1
 generalize l3:w1.heap.size=mb at b5⊢
 clear l3
 generalize n7:wp.alloc (.cells #[.int .i64 (gu J),.int .i64 (iP J)] 129)=w0 at b5⊢
 clear n7
 go_loopg[9,10] (B+1) (λg v vN wx=> ∃(i bq cq:Nat) (col:Nat->Nat) (vals:zV),g=B+1-i/\v=.slice (some ⟨bq,0,none⟩) (aM d m J i).length cq/\i<=(aM d m J i).length/\MtI w RW col (aM d m J i) i mb bq cq vN vals wx)
 case atStart=>exact⟨0,wp.heap.size,1,l1,[],rfl,rfl,Nat.zero_le _,b5.out⟩
 case round=>
  obtain⟨i,bq,cq,col,vals,i9,rfl,j1,e1⟩:=hrel
  have n8:=aj i9
  have c3:=aj e1
  have i2:=e5.out i
  obtain⟨aN,cN,j2⟩:=nG e1.nx.own
  rw[e1.xq.1]at j2
  subst j2
  clear i9 e1 b5
  by_cases a2:i<(aM d m J i).length
  ·have f2:(i:Int)<((aM d m J i).length:Int):=by omega
   obtain⟨c0,c1⟩:=Ot c3.out.FW i a2
   have d0:=aj (mh a2)
   have d1:=aj (λl hl=>Ep (d:=d) (m:=m) (f:=J) (i:=i) (l:=l) a2 hl)
   have d2:Hid (∀l,l<m->(RW i).getD l 0=(((aM d m J (i+1)).idxOf (d ((aM d m J i).getD i 0) l):Nat):Int)):=λl hl=>by rw[<-e0.out];exact AZ hl
   have l4:Hid ((RW i).length=m):=by show _=_;rw[<-e0.out];exact JF _ _ _ _
   have l5:Hid (∀x∈RW i,(Lit.int .i64 x).wf=true):=λx hx=>by rw[<-e0.out]at hx;obtain⟨l,hl,rfl⟩:=List.mem_map.1 hx;have h2:=e5.out (i+1);have h3:=List.idxOf_le_length (a:=d ((aM d m J i).getD i 0) l) (l:=aM d m J (i+1));exact WalkArith.wf_i64 (by omega)
   have f3:Hid ((aM d m J i).getD i 0∈aM d m J i):=jO a2
   have f5:Hid (∀l,l<=m->i<(fI d (aM d m J i) ((aM d m J i).getD i 0) l).length/\(fI d (aM d m J i) ((aM d m J i).getD i 0) l).length<=B+36):=λl hl=>by have h1:=ze d (aM d m J i) ((aM d m J i).getD i 0) l;exact⟨Nat.lt_of_lt_of_le a2 h1.length_le,by have:=zK d (aM d m J i) ((aM d m J i).getD i 0) l;omega⟩
   have f6:Hid (∀l,l<m->d ((aM d m J i).getD i 0) l<4096):=λl hl=>n3.out (i+1) _ (by rw[mh a2];exact uw.2 (.inr ⟨l,hl,rfl⟩))
   have f7:=aj (λl=>uW d (aM d m J i) ((aM d m J i).getD i 0) l)
   obtain⟨l6,j3⟩:=Z4 (RW i) ((aM d m J i).getD i 0) m c3.out
   have b3:=aj j3
   clear j3 c3
   obtain⟨Z,f8⟩: ∃Z,Z=aM d m J i:=⟨_,rfl⟩
   rw[<-f8]at c0 c1 d0 d1 d2 f3 f5 f6 f7 b3 a2 f2 j1 i2⊢
   have n9:=aj f8
   clear f8
   obtain⟨U,f9⟩: ∃U,U=Z.getD i 0:=⟨_,rfl⟩
   rw[<-f9]at c0 c1 d0 d1 d2 f3 f5 f6 f7 b3
   have r3:=aj f9
   clear f9
   have j4:Hid (fI d Z U 0=Z):=rfl
   go_wp2
   clear c0 c1
   obtain⟨wq,j5⟩: ∃wq:zW,wq=wr:=⟨_,rfl⟩
   rw[<-j5]at b3⊢
   clear j5 wr
   generalize o0:(wq.alloc (.cells #[.int .i64 (gu U),.int .i64 (iP U)] 129)).alloc (.cells (madeCells #[.int .i64 0] m) 3)=wz at b3⊢
   clear o0
   go_loopw[9,35] (λv u wx=> ∃(l a6 b0:Nat) (d3:Nat->Nat),l<=m/\u=.int .i64 l/\v=.slice (some ⟨a6,0,none⟩) (fI d Z U l).length b0/\MtX w RW d3 (fI d Z U l) i mb a6 b0 (.slice aN i cN) vals wq.heap.size U m (wq.heap.size+1) (RW i) l wx) (λ_ u _=>m-(intOf u).toNat)
   case atStart=>exact⟨0,bq,cq,l6,by omega,rfl,by rw[j4.out],by rw[j4.out];exact b3.out⟩
   case round=>
    obtain⟨l,a6,b0,d3,hl,rfl,rfl,hx⟩:=hrel
    have HX:=aj hx
    obtain⟨⟨a0,a1⟩,-⟩:=bL hx.at_
    have j6:=f5.out l hl
    clear hx b3
    by_cases b4:l<m
    ·have l7:(l:Int)<(m:Int):=by omega
     have e2:=aj (HF.out wr U l i HX.out.sp.bel (by rw[<-n9.out];exact f3.out) b4)
     have d4:=aj (f7.out l)
     have d5:=aj (d1.out l b4)
     have d6:=aj (d2.out l b4)
     have c4:=f6.out l b4
     obtain⟨kl,j7⟩:=XK c4
     have c5:=aj j7
     clear j7 c4
     obtain⟨M2,c4⟩: ∃M2,M2=d U l:=⟨_,rfl⟩
     rw[<-c4]at e2 d4 d5 d6 c5
     clear c4
     have he:=n4.out
     unfold Bf at e2 c5
     go_wp2_with fail
     clear he a0 a1
     refine e2.out.mono ?_
     rintro e w2 ⟨rfl,g1⟩
     have j8:=g1.alloc g1.size (.cells #[.int .i64 (gu M2),.int .i64 (iP M2)] 129)
     have e3:=aj (zl w2 (.cells #[.int .i64 (gu M2),.int .i64 (iP M2)] 129))
     have a7:=aj (Z0 HX.out j8)
     clear g1 j8 e2 HX
     obtain⟨⟨x0,x1⟩,-⟩:=bL e3.out
     by_cases a8:M2∈fI d Z U l
     ·have b7:=aj (adX a8)
      have c6:Hid (fI d Z U (l+1)=fI d Z U l):=by show _=_;rw[d4.out];exact xI a8
      have b8:Hid ((((fI d Z U l).idxOf M2:Nat):Int)=(RW i).getD l 0):=by show _=_;rw[d6.out,<-d5.out,xI a8]
      rw[b8.out]at b7
      obtain⟨o3,o4⟩:=Rx a7.out b4
      have c7:=aj a7.out.sp.map
      have l8:=aj (λz hz=>@XL _ _ _ _ _ _ _ _ _ _ _ _ _ _ _ _ _ z a7.out hz)
      obtain⟨z,hz⟩: ∃z,z=(RW i).getD l 0:=⟨_,rfl⟩
      rw[<-hz]at b7
      have HZ:=aj hz.symm
      clear a8 hz b8
      unfold Bf at b7
      go_wp2_with (at_lookup;refine jM _ rfl _ _ 153 rfl 129 3 GK underlying153 (qO _) mb _ rfl c7.out _ _ rfl c5.out _ b7.out ?_)
      have d7:=aj (l8.out z HZ.out)
      go_roundw
      case rel=>exact⟨l+1,a6,b0,_,by omega,by go_num,by rw[c6.out],by rw[c6.out];exact d7.out⟩
      case measure=>simp[intOf];omega
     ·have g2:=aj (adY a8)
      have c6:Hid (fI d Z U (l+1)=fI d Z U l++[M2]):=by show _=_;rw[d4.out];exact xJ a8
      have b8:Hid (((fI d Z U l).length:Int)=(RW i).getD l 0):=by show _=_;rw[d6.out,<-d5.out,xJ a8];have:(fI d Z U l++[M2]).idxOf M2=(fI d Z U l).length:=(by rw[List.idxOf_append,yN a8];simp);rw[this]
      have g3:=aj (λw5 w6 o b' d8 k1 k2 k3 k4 k5=>@ag1 w RW _ (fI d Z U l) i mb a6 b0 _ vals _ U m _ (RW i) l _ M2 w5 w6 o b' d8 a7.out k1 k2 k3 k4 k5)
      have c7:=aj a7.out.sp.map
      have o5:=aj (zG e3.out).1
      have o6:Hid (w2.heap.size≠mb):=λe=>by obtain⟨es,q3,h⟩:=c7.out.isMap;rw[<-e,e3.out]at h;cases h
      have o7:Hid (mb≠a6):=λe=>by have:=a7.out.sp.JN;rw[e,a7.out.sp.JO]at this;omega
      have o8:=aj (λW h=>oG (W':=W) a7.out.sp.FW h)
      have g4:=aj (sZ a7.out.sp.FW)
      clear a8
      unfold Bf at g2 g3
      go_wp2_with (first
       |(at_lookup;refine jo _ rfl _ _ 153 rfl 129 3 GK underlying153 (qO _) mb _ rfl c7.out _ _ rfl c5.out g2.out ?_)
       |(at_mapUpdate;refine jT _ rfl _ _ _ 153 rfl 129 3 GK underlying153 mb _ rfl c7.out (by rw[adV];unfold maxLen;omega) (Value.agg #[.int .i64 (gu M2),.int .i64 (iP M2)]) (.int .i64 ((fI d Z U l).length:Int)) _ rfl rfl c5.out g2.out ?_;intro w5 b9 b2;have l9:=aj b9;have d9:=aj b2;have g5:=(b2.grown.block w2.heap.size o5.out (λe=>o6.out (by cases e;rfl))).trans e3.out;obtain⟨⟨y0,y1⟩,-⟩:=bL g5;clear b9 b2 g5)
       |(at_builtin;refine Bd _ rfl _ _ rfl a6 (fI d Z U l).length b0 (fI d Z U l) rfl (o8.out _ ((Below.heap_alloc _ _ _ (Nat.lt_of_lt_of_le g4.out d9.out.grown.size)).trans (d9.out.grown.block a6 g4.out (λe=>o7.out (by cases e;rfl))))) ⟨w5.heap.size,0,none⟩ M2 (gu M2) (iP M2) rfl rfl rfl (Wq _ _ _ _) (by omega) ?_;intro b6 g6 w6 j9 k0 k6;have k7:=aj (g3.out w5 w6 _ b6 g6 l9.out d9.out j9 k0 k6);obtain⟨o3,o4⟩:=Rx k7.out b4;clear j9 k0 k6))
      have d7:=aj (XL k7.out b8.out.symm)
      go_roundw
      case rel=>exact⟨l+1,b6,g6,_,by omega,by go_num,by rw[c6.out,List.length_append,List.length_singleton],by rw[c6.out];exact d7.out⟩
      case measure=>simp[intOf];omega
    ·have l7: ¬(l:Int)<(m:Int):=by omega
     obtain rfl:l=m:=by omega
     clear a0 a1
     rw[<-d0.out]at HX j6⊢
     obtain⟨OS,g7⟩: ∃OS,OS=aM d l J (i+1):=⟨_,rfl⟩
     rw[<-g7]at HX j6⊢
     have g8:Hid (aM d l J (i+1)=OS):=g7.symm
     clear g7
     have n0:Hid (wr.ownsRow w.heap.size 24 1 (.slice aN i cN) i vals):=by have h:=HX.out.sp.nx.own;rw[HX.out.sp.xq.1]at h;exact h
     have o9:Hid (w.heap.size<=wr.heap.size):=HX.out.sp.bel.size
     have p4:=aj (λw3 o g' d8 k1 k2 k3=>@aj4 w RW d3 OS i mb a6 b0 _ vals _ U l _ wr w3 o g' d8 HX.out l4.out (by unfold maxLen;omega) l5.out k1 k2 k3)
     obtain⟨j0,p5,p6,p7,p8⟩:=info_parts Ip
     go_wp2_with (at_builtin;refine wpList_append_lies _ rfl _ _ 32 rfl w.heap.size 24 j0 (.slice none 0 0) 1 24 underlying32 p5 p6 p7 p8 rfl (by decide) (.slice aN i cN) i vals rfl (n0.out.alloc _) ⟨wr.heap.size,0,none⟩ 1 1 [.slice (some ⟨wq.heap.size+1,0,none⟩) l l] rfl rfl (fV _ _ _) (λu hu=>by simp at hu;subst hu;rfl) (by omega) (by unfold maxLen;omega) (by omega) (by have:=o9.out;simp;omega) (wr.heap.size+1) (by simp) ?_;intro g' cg w5 e4 c8 g9 n2;have p9:=aj (p4.out w5 _ g' cg e4 c8 (by simpa using g9));clear e4 c8 g9 n2)
     go_roundg (B+1-(i+1))
     case measure=>have:=n8.out;omega
     case rel=>exact⟨i+1,a6,b0,_,_,rfl,by rw[g8.out],by rw[g8.out];omega,by rw[g8.out];exact p9.out⟩
  ·have f2: ¬(i:Int)<((aM d m J i).length:Int):=by omega
   have c9:Hid ((aM d m J i).length=i):=by show _=_;omega
   have k8:=aj (i1.out i (Nat.le_of_eq c9.out) (by omega))
   have q2:=aj (ag2 c3.out (by unfold maxLen;omega) (gN d m (aM d m J i)) (by rw[kQ];exact c9.out) (λj hj=>by rw[<-e0.out];exact Er (Nat.le_of_eq c9.out) j1 j hj))
   go_wp2
   go_ret2
   refine⟨bq,cq,aN,cN,?_,?_,c3.out.bel⟩
   ·rw[k8.out,kQ,c9.out];rfl
   ·rw[k8.out,kQ,c9.out];exact q2.out
theorem CY(v:Int)(w:zW):Calls prog 52 #[.int .i64 v] w λe w'=>e=.returned (.bool (decide (0<=v/\v<=9)))/\w'=w:=by
 by_cases h1:0<=v
 ·by_cases h2:v<=9
  ·have e:decide (0<=v/\v<=9)=true:=yT ⟨h1,h2⟩;rw[e];go_enter func52,ntmps52;go_wp2;go_ret;exact⟨by simp,rfl⟩
  ·have e:decide (0<=v/\v<=9)=false:=yF λh=>h2 h.2;rw[e];go_enter func52,ntmps52;go_wp2;go_ret;exact⟨by simp,rfl⟩
 ·have e:decide (0<=v/\v<=9)=false:=yF λh=>h1 h.1;rw[e];go_enter func52,ntmps52;go_wp2;go_ret;exact⟨by simp,rfl⟩
def Z8(m:Int)(l:zI):Bool:=l.all λx=>decide (0<=x/\x<=m)
theorem aiW{m:Int}{j:Nat}(z:j<l.length)(h: ¬(0<=l.getD j 0/\l.getD j 0<=m)):Z8 m l=false:=by unfold Z8;rw[List.all_eq_false];exact⟨l.getD j 0,by rw[aS _ j z];exact List.getElem_mem z,by simpa using h⟩
theorem ag5{m:Int}(h: ∀j,j<l.length->0<=l.getD j 0/\l.getD j 0<=m):Z8 m l=true:=by unfold Z8;rw[List.all_eq_true];intro x hx;obtain⟨j,z,rfl⟩:=List.getElem_of_mem hx;have:=h j z;rw[aS _ j z]at this;simpa using this
theorem Rz(m:Int)(a:zO)(len cap:Nat)(l:zI)(w:zW)(hs:Sl w a len l):Calls prog 51 #[.int .i64 m,.slice a len cap] w λe w'=>e=.returned (.bool (Z8 m l))/\w'=w:=by
 have hL:=hs.1;have a8:=hs.2.1;unfold maxLen at a8;have a1:Hid (∀j,j<len-> ¬(0<=l.getD j 0/\l.getD j 0<=m)->Z8 m l=false):=λj hj h=>aiW (by omega) h;have z:Hid ((∀j,j<len->0<=l.getD j 0/\l.getD j 0<=m)->Z8 m l=true):=λh=>ag5 (λj hj=>h j (by omega));have HS:=aj hs;generalize Z8 m l=V at a1 z⊢;clear hs hL;go_enter func51,ntmps51;go_wp2;go_loop[9] (λu=> ∃j:Nat,u=.int .i64 j/\j<=len/\ ∀i,i<j->0<=l.getD i 0/\l.getD i 0<=m) (λu=>len-(intOf u).toNat);case atStart=>exact⟨0,rfl,by omega,λi hi=>by omega⟩
 case round=>
  obtain⟨j,rfl,hj,J⟩:=hrel;have U:=aj J;clear J;by_cases a2:j<len
  ·have a7:(j:Int)<(len:Int):=by omega
   obtain⟨bb,o,rfl,hc⟩:=bH HS.out j a2;have Z:=aj (a1.out j a2)
   have a6:Hid (0<=l.getD j 0/\l.getD j 0<=m-> ∀i,i<j+1->0<=l.getD i 0/\l.getD i 0<=m):=λh i hi=>by
    by_cases e:i=j
    ·subst e;exact h
    ·exact U.out i (by omega)
   obtain⟨x,hx⟩: ∃x,x=l.getD j 0:=⟨_,rfl⟩;rw[<-hx]at hc Z a6;clear hx;by_cases h1:0<=x
   ·by_cases h2:x<=m
    ·go_wp2
     go_round;case rel=>exact⟨j+1,by go_num,by omega,a6.out ⟨h1,h2⟩⟩
     case measure=>simp[intOf];omega
    ·have hV:=Z.out λh=>h2 h.2;have b0:m<x:=(by omega);go_wp2;go_ret;exact⟨by simp,rfl⟩
   ·have hV:=Z.out λh=>h1 h.1;have b1:x<0:=(by omega);go_wp2;go_ret;exact⟨by simp,rfl⟩
  ·have a7: ¬(j:Int)<(len:Int):=by omega
   obtain rfl:j=len:=(by omega);have hV:=z.out U.out;go_wp2;go_ret;exact⟨by simp,rfl⟩
theorem JU(a:Int)(w:zW):Calls prog 87 #[.int .i64 a] w λe w'=>e=.returned (.int .i64 (Ov a))/\w'=w:=by
 unfold Ov;by_cases h:a= -1
 ·have z:(a== -1)=true:=by simp[h]
  rw[yP h];clear h;go_enter func87,ntmps87;go_wp2;go_ret;exact⟨by simp,rfl⟩
 ·have z:(a== -1)=false:=by simp[h]
  rw[yN h];clear h;go_enter func87,ntmps87;go_wp2;go_ret;exact⟨by simp,rfl⟩
theorem Z9(b:Int)(a:zO)(n cap:Nat)(ao:zO)(no co:Nat)(N:zL)(k:Nat)(A C:Int)(x:Nat)(w:zW)(hs:gT w a n N)(hG:aK k n N)(hA:A= -2\/A= -1\/(0<=A/\A<(n:Int)))(hx:x<k):
  Calls prog 86 #[lH b a n cap ao no co,.agg #[.int .i64 A,.int .i64 C],.int .i64 (x:Int)] w λe w'=>e=.returned (.agg #[.int .i64 (kg b N A C (x:Int)).1,.int .i64 (kg b N A C (x:Int)).2])/\Below w.heap.size w w':=by
 have hB:=eT w (.cells #[.int .i64 b,.slice a n cap,.slice ao no co] 71) (.cells #[.int .i64 A,.int .i64 C] 129) (.cells #[.int .i64 0,.int .i64 0] 129)
 have h1:=aP w (.cells #[.int .i64 b,.slice a n cap,.slice ao no co] 71) (.cells #[.int .i64 A,.int .i64 C] 129)
 have h2:=aQ w (.cells #[.int .i64 b,.slice a n cap,.slice ao no co] 71) (.cells #[.int .i64 A,.int .i64 C] 129)
 have b8:((w.alloc (.cells #[.int .i64 b,.slice a n cap,.slice ao no co] 71)).alloc (.cells #[.int .i64 A,.int .i64 C] 129)).heap.size=w.heap.size+2:=by simp
 have h3:=zl ((w.alloc (.cells #[.int .i64 b,.slice a n cap,.slice ao no co] 71)).alloc (.cells #[.int .i64 A,.int .i64 C] 129)) (.cells #[.int .i64 0,.int .i64 0] 129)
 rw[b8]at h3
 have a7:=(Below.heap_alloc _ (.cells #[.int .i64 0,.int .i64 0] 129) _ (zG h1).1).trans h1
 have a8:=(Below.heap_alloc _ (.cells #[.int .i64 0,.int .i64 0] 129) _ (zG h2).1).trans h2
 have b4:=aj (λW=>JU A W)
 have HN:=aj (λ(W:zW) (h:Below w.heap.size w W)=>aG hs h)
 have f0:k<=36:=hG.2.2.2.1
 have d1:Hid (0<n):=hG.2.1
 have d2:Hid (∀s,s<n->(N.getD s []).length=k):=λs b0=>(hG.2.2.2.2.2 s b0).1
 clear hG hs h1 h2 b8
 unfold lH
 generalize d3:((w.alloc (.cells #[.int .i64 b,.slice a n cap,.slice ao no co] 71)).alloc (.cells #[.int .i64 A,.int .i64 C] 129)).alloc (.cells #[.int .i64 0,.int .i64 0] 129)=w0 at hB a7 a8 h3
 have HB:=aj hB
 have b2:=aj h3
 have d4:=aj a7
 have d5:=aj a8
 obtain⟨⟨p0,p1,p2⟩,-⟩:=aJ a7
 obtain⟨⟨q0,q1⟩,-⟩:=bL a8
 obtain⟨⟨r0,r1⟩,rf⟩:=bL h3
 clear hB a7 a8 h3
 have a2:Hid (∀(W:zW),W.heap[w.heap.size+2]? =w0.heap[w.heap.size+2]? ->Below w.heap.size w W-> ∀y z:Int,((W.setCell ⟨w.heap.size+2,0,none⟩ (.int .i64 y)).setCell ⟨w.heap.size+2,1,none⟩ (.int .i64 z)).cell? ⟨w.heap.size+2,0,none⟩=some (.int .i64 y)/\((W.setCell ⟨w.heap.size+2,0,none⟩ (.int .i64 y)).setCell ⟨w.heap.size+2,1,none⟩ (.int .i64 z)).cell? ⟨w.heap.size+2,1,none⟩=some (.int .i64 z)/\Below w.heap.size w ((W.setCell ⟨w.heap.size+2,0,none⟩ (.int .i64 y)).setCell ⟨w.heap.size+2,1,none⟩ (.int .i64 z))):=λW hW hb y z=>by
  rw[b2.out]at hW;refine⟨?_,?_,(hb.setCell (by show w.heap.size<=w.heap.size+2;omega) _).setCell (by show w.heap.size<=w.heap.size+2;omega) _⟩
  ·simp[World.cell?,World.setCell,Array.getElem?_modify,hW]
  ·simp[World.cell?,World.setCell,Array.getElem?_modify,hW]
 by_cases J:A= -2
 ·have e:kg b N A C (x:Int)=(-2,0):=by unfold kg;rw[yP (.inl J)]
  rw[e]
  have d6:(A== -2)=true:=by simp[J]
  clear J hA e
  go_enter func86,ntmps86
  go_wp2
  obtain⟨z0,z1,U⟩:=a2.out w0 rfl HB.out (-2) 0
  exact bodyPost_ret (v:=.agg #[.int .i64 (-2),.int .i64 0]) (by simp[results,results86,go_sem,z0,z1]) rfl ⟨rfl,U⟩
 ·have e9:(A== -2)=false:=by simp[J]
  by_cases Z:C=1/\(x:Int)=1
  ·have e:kg b N A C (x:Int)=(-2,0):=by unfold kg;rw[yP (.inr Z)]
   rw[e]
   have f1:(C==1)=true:=by simp[Z.1]
   have d7:((x:Int)==1)=true:=by simp[Z.2]
   clear J hA e Z
   go_enter func86,ntmps86
   go_wp2
   obtain⟨z0,z1,U⟩:=a2.out w0 rfl HB.out (-2) 0
   exact bodyPost_ret (v:=.agg #[.int .i64 (-2),.int .i64 0]) (by simp[results,results86,go_sem,z0,z1]) rfl ⟨rfl,U⟩
  ·have b9:(C==1)=false\/((C==1)=true/\((x:Int)==1)=false):=by
    by_cases e1:C=1
    ·have: ¬(x:Int)=1:=λh=>Z ⟨e1,h⟩;exact .inr ⟨by simp[e1],by simpa using this⟩
    ·exact .inl (by simp[e1])
   by_cases a6:A= -1/\(x:Int)=0
   ·have e:kg b N A C (x:Int)=(A,C):=by unfold kg;rw[yN (λh=>h.elim J Z),yP a6]
    rw[e]
    have d6:(A== -1)=true:=by simp[a6.1]
    have d7:((x:Int)==0)=true:=by simp[a6.2]
    clear J hA e Z a6
    rcases b9 with b5|⟨b5,d8⟩
    all_goals
     go_enter func86,ntmps86
     go_wp2
     obtain⟨z0,z1,U⟩:=a2.out w0 rfl HB.out A C
     exact bodyPost_ret (v:=.agg #[.int .i64 A,.int .i64 C]) (by simp[results,results86,go_sem,z0,z1]) rfl ⟨rfl,U⟩
   ·have d9:(A== -1)=false\/((A== -1)=true/\((x:Int)==0)=false):=by
     by_cases e1:A= -1
     ·have: ¬(x:Int)=0:=λh=>a6 ⟨e1,h⟩;exact .inr ⟨by simp[e1],by simpa using this⟩
     ·exact .inl (by simp[e1])
    have e:kg b N A C (x:Int)=((N.getD (Ov A).toNat []).getD x 0,if b=1 then(x:Int)else 0):=by unfold kg;rw[yN (λh=>h.elim J Z),yN a6,Int.toNat_natCast]
    rw[e]
    obtain⟨s,b0,c0⟩: ∃s:Nat,s<n/\Ov A=(s:Int):=by
     rcases hA with h|h|h
     ·exact absurd h J
     ·exact⟨0,d1.out,by unfold Ov;rw[yP h];rfl⟩
     ·exact⟨A.toNat,by omega,by unfold Ov;rw[yN (by omega)];omega⟩
    rw[c0]at b4⊢
    rw[Int.toNat_natCast]
    have f2:(s:Int)<(n:Int):=by omega
    have f3:(x:Int)<(k:Int):=by omega
    obtain⟨bb,o,a1,e2,rfl,c3,b6⟩:=gF (HN.out w0 HB.out) s b0
    have c4:=d2.out s b0
    rw[c4]at c3 b6
    obtain⟨b1,o1,rfl,c5⟩:=bH b6 x hx
    have b3:Hid (w.heap.size+2<w0.heap.size):=(zG b2.out).1
    generalize e3:(N.getD s []).getD x 0=z at c5⊢
    clear J hA e Z a6 b6 c4 e3 c0 d4 d5
    obtain⟨y,hy⟩: ∃y:Int,y=if b=1 then(x:Int)else 0:=⟨_,rfl⟩
    rw[<-hy]
    have e4:Hid (b=1->y=(x:Int)):=λh=>by rw[hy,yP h]
    have e5:Hid (b≠1->y=0):=λh=>by rw[hy,yN h]
    clear hy
    have HF:Hid (∀W:zW,(w0.alloc (.cells #[.int .i64 z,.int .i64 0] 129)).drew=W->(W.cell? ⟨w.heap.size,0,none⟩=some (.int .i64 b)/\W.cell? ⟨w.heap.size+2,0,none⟩=some (.int .i64 0)/\W.cell? ⟨w.heap.size+2,1,none⟩=some (.int .i64 0)/\(∀i,W.frozen? ⟨w.heap.size+2,i,none⟩=false))/\W.heap[w0.heap.size]? =some (.cells #[.int .i64 z,.int .i64 0] 129 (0,0))/\W.heap[w.heap.size+2]? =w0.heap[w.heap.size+2]? /\Below w.heap.size w W):=λW hW=>by have hb:Below w0.heap.size w0 W:=(by rw[<-hW];exact((Below.refl w0.heap.size w0).alloc zr _).drew);have h2:=(hb.block _ b3.out).trans b2.out;have h1:=(hb.cell (p:=⟨w.heap.size,0,none⟩) (zk w0 _ p0)).trans p0;obtain⟨⟨e0,e1⟩,ef⟩:=bL h2;refine⟨⟨h1,e0,e1,ef⟩,?_,hb.block _ b3.out,ak HB.out hb⟩;rw[<-hW];exact zl w0 (.cells #[.int .i64 z,.int .i64 0] 129)
    rcases b9 with b5|⟨b5,d8⟩<;>rcases d9 with e6|⟨e6,f5⟩
    all_goals
     go_enter func86,ntmps86
     go_wp2_with fail
     clear d3
     go_region_held_law (λW=>W.cell? ⟨w.heap.size,1,none⟩=some (.slice (some ⟨bb,o,none⟩) n cap)/\W.cell? ⟨w.heap.size+1,0,none⟩=some (.int .i64 A)/\W.cell? ⟨bb,o+s,none⟩=some (.slice (some ⟨b1,o1,none⟩) k e2)/\W.cell? ⟨b1,o1+x,none⟩=some (.int .i64 z)) (first|go_keep) (first|(go_at_call 87;refine(b4.out _).mono ?_;rintro e w' ⟨rfl,c6⟩;rw[c6];clear c6 w'))
     all_goals
      clear p0 p1 p2 q0 q1 r0 r1 rf c3 c5
      obtain⟨W1,b7⟩: ∃W,(w0.alloc (.cells #[.int .i64 z,.int .i64 0] 129)).drew=W:=⟨_,rfl⟩
      rw[b7]
      obtain⟨⟨p0,r0,r1,rf⟩,ht,hr,c7⟩:=HF.out W1 b7
      obtain⟨⟨t0,t1⟩,tf⟩:=bL ht
      have HT:=aj ht
      have c8:=aj hr
      have c9:=aj c7
      clear b7 ht hr c7 HF
      by_cases hb:b=1
      ·obtain rfl:=e4.out hb
       have e7:(b==1)=true:=by simp[hb]
       clear hb
       have hh:(W1.setCell ⟨w0.heap.size,1,none⟩ (.int .i64 (x:Int))).heap[w.heap.size+2]? =w0.heap[w.heap.size+2]? :=(Below.heap_setCell _ _ _ _ (by have:=b3.out;show w.heap.size+2≠w0.heap.size;omega)).trans c8.out
       have d0:Below w.heap.size w (W1.setCell ⟨w0.heap.size,1,none⟩ (.int .i64 (x:Int))):=c9.out.setCell (by have:=b3.out;show w.heap.size<=w0.heap.size;omega) _
       obtain⟨⟨e0,e1⟩,ef⟩:=bL (hh.trans b2.out)
       have HH:=aj hh
       have e8:=aj d0
       clear hh d0
       go_wp2
       obtain⟨z0,z1,U⟩:=a2.out _ HH.out e8.out z (x:Int)
       exact bodyPost_ret (v:=.agg #[.int .i64 z,.int .i64 (x:Int)]) (by simp[results,results86,go_sem,z0,z1]) rfl ⟨rfl,U⟩
      ·obtain rfl:=e5.out hb
       have e7:(b==1)=false:=by simp[hb]
       clear hb
       go_wp2
       obtain⟨z0,z1,U⟩:=a2.out W1 c8.out c9.out z 0
       exact bodyPost_ret (v:=.agg #[.int .i64 z,.int .i64 0]) (by simp[results,results86,go_sem,z0,z1]) rfl ⟨rfl,U⟩
structure Bg (wb:zW) (B f:Nat) (mk:Value->Obj) (ty:TypeId) (vals:zV) (v:Value) (W:zW):Prop where
 box:W.heap[B]? =some (mk v)
 own:W.ownsRow (B+1) ty 1 v vals.length vals
 bel:Below wb.heap.size wb W
 base:wb.heap.size<=B
 put: ∀(W:zW) (v v':Value),W.heap[B]? =some (mk v)->(W.setCell ⟨B,f,none⟩ v').heap[B]? =some (mk v')
section
variable {wb W W':zW} {B f:Nat} {mk:Value->Obj} {ty:TypeId} {vals:zV} {v:Value}
theorem zN(h:Bg wb B f mk ty vals v W)(hb:Below W.heap.size W W'):Bg wb B f mk ty vals v W':=
 ⟨(hb.block B (zG h.box).1).trans h.box,aX h.own (λx hx=>hb.block _ (h.own.lt x hx).2),ak h.bel hb,h.base,h.put⟩
theorem CZ{z:zW}{o:Obj}{u v3:Value}(h:Bg wb B f mk ty vals v W)(hown:z.ownsRow (B+1) ty 1 v3 (vals.length+1) (vals++[u]))(J:(W.alloc o).grownBy z v.ownBlock):z.heap[B]? =some (mk v)/\Bg wb B f mk ty (vals++[u]) v3 (z.setCell ⟨B,f,none⟩ v3):=by
 have hl:=(zG h.box).1;have U:v.ownBlock≠some B:=λe=>by have:=(h.own.lt B e).1;omega
 have h3:z.heap[B]? =some (mk v):=by rw[J.block B (by rw[World.size_alloc];omega) (λe=>U e.symm),Below.heap_alloc _ _ _ hl];exact h.box
 have Z:Below wb.heap.size wb z:=Below.grown (h.bel.alloc h.bel.size o) J (by have:=h.bel.size;rw[World.size_alloc];omega) (λk hk=>by have:=(h.own.lt k hk).1;have:=h.base;omega);refine⟨h3,h.put z v v3 h3,?_,Z.setCell h.base _,h.base,h.put⟩;rw[List.length_append,List.length_singleton];exact aX hown (λx hx=>Below.heap_setCell _ _ _ _ (λe=>by have:=(hown.lt x hx).1;have e':x=B:=e;omega))
end
theorem akD(B:Nat)(z J:Value)(T:TypeId): ∀(W:zW) (v v':Value),W.heap[B]? =some (.cells #[z,J,v] T)->(W.setCell ⟨B,2,none⟩ v').heap[B]? =some (.cells #[z,J,v'] T):=λW v v' h=>by simp[World.setCell,Array.getElem?_modify,h]
theorem aj7(B:Nat)(z J U:Value)(T:TypeId): ∀(W:zW) (v v':Value),W.heap[B]? =some (.cells #[z,J,U,v] T)->(W.setCell ⟨B,3,none⟩ v').heap[B]? =some (.cells #[z,J,U,v'] T):=λW v v' h=>by simp[World.setCell,Array.getElem?_modify,h]
theorem JV{base:Nat}{v:Value}{bs:zB}(h:W.ownsRow base 4 1 v bs.length (bs.map Value.bool))(hm:bs.length<=maxLen): ∃a cap,v=.slice a bs.length cap/\mR W a bs.length bs:=by
 obtain⟨h0,h1⟩:=h;rcases h1 with⟨rfl,z⟩|⟨g,cap,cur,rfl,hg,J,hc,Z,a1,U⟩
 ·exact⟨none,0,by rw[z],rfl,hm,Or.inl z⟩
 ·refine⟨_,cap,rfl,rfl,hm,Or.inr ⟨g,0,rfl,λi hi=>?_⟩⟩
  rw[cell_of_row W g (0+i) cur 4 (0,0) J,Nat.zero_add];have h3:(cur.toList.take (bs.length*1))[i]? =(bs.map Value.bool)[i]? :=by rw[U]
  rw[List.getElem?_take,yP (by omega),Array.getElem?_toList]at h3;rw[h3];simp[List.getD,hi]
theorem RA(b:Int)(a:zO)(n cap:Nat)(ao:zO)(no co:Nat)(N:zL)(k:Nat)(B s l:Nat)(w:zW)(hx:w.heap[B]? =some (.cells #[.int .i64 b,.slice a n cap,.slice ao no co] 71))(hs:gT w a n N)(hG:aK k n N)(hA:gu s= -2\/gu s= -1\/(0<=gu s/\gu s<(n:Int)))(hn:n<=20)(hC:0<=iP s/\iP s<64)(hl:l<k):
  Calls prog 85 #[Bf s,.int .i64 (l:Int),.pointer (some ⟨B,0,none⟩)] w λe w'=>e=.returned (Bf (dW b N s l))/\Below w.heap.size w w':=by
 have Z:=bG w (.cells #[.int .i64 (gu s),.int .i64 (iP s)] 129) (.cells #[.int .i64 0,.int .i64 0] 129)
 have h1:=aP w (.cells #[.int .i64 (gu s),.int .i64 (iP s)] 129) (.cells #[.int .i64 0,.int .i64 0] 129)
 have h2:=aQ w (.cells #[.int .i64 (gu s),.int .i64 (iP s)] 129) (.cells #[.int .i64 0,.int .i64 0] 129)
 have b2:=hG.2.2.2.1
 have a1:Hid (Bf (dW b N s l)=.agg #[.int .i64 (kg b N (gu s) (iP s) (l:Int)).1,.int .i64 (kg b N (gu s) (iP s) (l:Int)).2]):=by
  have hb:(-2<=(kg b N (gu s) (iP s) (l:Int)).1/\(kg b N (gu s) (iP s) (l:Int)).1<62)/\0<=(kg b N (gu s) (iP s) (l:Int)).2/\(kg b N (gu s) (iP s) (l:Int)).2<64:=by
   unfold kg;split
   ·exact⟨⟨by decide,by decide⟩,by decide,by decide⟩
   ·rename_i h
    split
    ·simp only;omega
    ·have a8:(Ov (gu s)).toNat<n:=by
      have:=hG.2.1;unfold Ov;split<;>omega
     have:=(hG.2.2.2.2.2 _ a8).2 l hl
     simp only
     rw[Int.toNat_natCast]
     split<;>omega
  have:=zM hb.1.1 hb.1.2 hb.2.1 hb.2.2;show _=_;unfold Bf dW;rw[this.1,this.2.1]
 rw[a1.out]
 have J:=aj (λW h=>Z9 b a n cap ao no co N k (gu s) (iP s) l W h hG hA hl)
 have HS:=aj (λW (h:Below w.heap.size w W)=>aG hs h)
 have U:=(Z.block B (zG hx).1).trans hx
 unfold Bf
 unfold lH at J
 generalize(kg b N (gu s) (iP s) (l:Int)).1=y at J⊢
 generalize(kg b N (gu s) (iP s) (l:Int)).2=z at J⊢
 generalize gu s=A at h1 h2 Z U J⊢
 generalize iP s=C at h1 h2 Z U J⊢
 clear hs hG a1 hA hC hx
 obtain⟨⟨p0,p1,p2⟩,-⟩:=aJ U
 obtain⟨⟨q0,q1⟩,-⟩:=bL h1
 have HB:=aj Z
 have HR:=aj h2
 clear Z h1 h2 U
 go_enter func85,ntmps85
 go_wp2_with fail
 generalize(w.alloc (.cells #[.int .i64 A,.int .i64 C] 129)).alloc (.cells #[.int .i64 0,.int .i64 0] 129)=w0 at p0 p1 p2 q0 q1 HB HR⊢
 clear p0 p1 p2 q0 q1
 refine(J.out w0 (HS.out w0 HB.out)).mono ?_
 rintro e w1 ⟨rfl,a2⟩
 have hr:=(a2.block _ (zG HR.out).1).trans HR.out
 have b0:=aj hr
 have b1:=aj (ak HB.out a2)
 obtain⟨⟨r0,r1⟩,rf⟩:=bL hr
 clear hr a2
 go_wp2
 obtain⟨⟨a6,-,-⟩,a7⟩:=CK (v0:=.int .i64 y) (v1:=.int .i64 z) b0.out rfl
 obtain⟨⟨z0,z1⟩,-⟩:=bL a6
 exact bodyPost_ret (v:=.agg #[.int .i64 y,.int .i64 z]) (by simp[results,results85,go_sem,z0,z1]) rfl ⟨rfl,a7 _ _ b1.out (by omega)⟩
def Vf(w:zW)(n:Nat)(RN:zL)(RO:zI)(aN aO:zO)(w':zW):Prop:= ∀W':zW,(∀x,w.heap.size<=x->x<w'.heap.size->W'.heap[x]? =w'.heap[x]?)->gT W' aN n RN/\Sl W' aO n RO
def ag6(w:zW)(b:Int)(n:Nat)(RN:zL)(RO:zI)(e:Ending)(w':zW):Prop:=
 ∃aN cN aO cO,e=.returned (.agg #[.int .i64 b,.slice aN n cN,.slice aO n cO])/\Vf w n RN RO aN aO w'/\Below w.heap.size w w'
theorem ad5(hi:i<(tQ b N).length):(nI b N O).take (i+1)=(nI b N O).take i++[FX O ((tQ b N).getD i 0)]:=by
 have h:(nI b N O).getD i 0=FX O ((tQ b N).getD i 0):=by unfold nI;exact Ox _ _ _ 0 _ hi
 rw[JW (by rw[GL];exact hi),h]
theorem ag7(h:dJ b N O=0){s:Nat}(hs:s∈aM (dW b N) (au b).toNat 64 i): -1<=FX O s/\FX O s<=9:=by
 obtain⟨-,-,-,-,hG,z⟩:=cK h;unfold FX;rcases(JR h hs).1 with⟨e,-⟩|⟨e,-⟩|⟨U,Z,-⟩
 ·rw[yP e];decide
 ·rw[yN (by omega),e];have:=z 0 hG.2.1;have J:(Ov (-1)).toNat=0:=rfl;rw[J];omega
 ·rw[yN (by omega)];unfold Ov;rw[yN (by omega)];have:=z (gu s).toNat (by omega);omega
theorem ad6{base:Nat}{W':zW}{a:zO}{len:Nat}(h:Dm base W a len l)(J: ∀x,base<=x->x<W.heap.size->W'.heap[x]? =W.heap[x]?):Sl W' a len l:=by
 obtain⟨⟨h1,h2,h3,h4⟩,h5⟩:=h;refine⟨h1,h2,h3,?_⟩;rcases h4 with h4|⟨b,o,rfl,h4⟩
 ·exact .inl h4
 ·refine .inr ⟨b,o,rfl,λi hi=>?_⟩;rw[<-h4 i hi];have z:b<W.heap.size:=zk W _ (h4 i hi);simp only[World.cell?,J b (h5 _ rfl) z]
theorem rP(b:Int)(a:zO)(n cap:Nat)(ao:zO)(no co:Nat)(N:zL)(O:zI)(w:zW)(hs:gT w a n N)(ho:Sl w ao no O)(hC:dJ b N O=0):
  Calls prog 58 #[lH b a n cap ao no co] w (ag6 w b (tQ b N).length (dV b N) (nI b N O)):=by
 obtain⟨h1,h2,j3,hO,hG,d9⟩:=cK hC
 have hL:=hs.1
 have j4:=ho.1
 obtain⟨k1,k2,k3⟩:=eY h1 h2
 have a8:=bG w (.cells #[.int .i64 b,.slice a n cap,.slice ao no co] 71) (.cells #[.int .i64 0,.slice none 0 0,.slice none 0 0] 71)
 have f3:=aj a8
 have U:=aj (aP w (.cells #[.int .i64 b,.slice a n cap,.slice ao no co] 71) (.cells #[.int .i64 0,.slice none 0 0,.slice none 0 0] 71))
 have b3:=aj (aQ w (.cells #[.int .i64 b,.slice a n cap,.slice ao no co] 71) (.cells #[.int .i64 0,.slice none 0 0,.slice none 0 0] 71))
 generalize j5:(w.alloc (.cells #[.int .i64 b,.slice a n cap,.slice ao no co] 71)).alloc (.cells #[.int .i64 0,.slice none 0 0,.slice none 0 0] 71)=wb at a8 f3 U b3
 have j6:=aj (λW (h:Below wb.heap.size wb W)=>aG (aG hs a8) h)
 have j7:=aj (λW (h:Below wb.heap.size wb W)=>aF (aF ho a8) h)
 have f5:Bf 64=.agg #[.int .i64 (-1),.int .i64 0]:=rfl
 have hM:=Ry 85 #[.pointer (some ⟨w.heap.size,0,none⟩)] (au b).toNat 64 (dW b N) wb (by decide) (by omega) (by omega) (enters_of func85 (by kernel_rfl) rfl) (λi x hx=>aj5 hC hx) (λW s l i hW b4 hl=>by have hm:=(JR hC b4).1;exact RA b a n cap ao no co N (au b).toNat w.heap.size s l W ((hW.block _ (zG U.out).1).trans U.out) (j6.out W hW) (by rw[hL]at hG;exact hG) (by omega) (by omega) (by omega) hl)
 rw[f5,k3]at hM
 have eL:aM (dW b N) (au b).toNat 64 eZ=tQ b N:=rfl
 have eN:gN (dW b N) (au b).toNat (tQ b N)=dV b N:=rfl
 rw[eL,eN]at hM
 unfold XM at hM
 have HM:=aj hM
 have HK:=aj (λW=>mq b W h1 h2)
 have i4:=aj (λA W=>JU A W)
 obtain⟨hc,p0,k6,-⟩:=Oy hC
 have f6:Hid ((dV b N).length=(tQ b N).length):=nJ b N
 have d5:Hid ((nI b N O).length=(tQ b N).length):=GL b N O
 have f7:=aj (λi (hi:i<(tQ b N).length)=>ad5 (b:=b) (N:=N) (O:=O) hi)
 have e3:Hid (∀s,s∈tQ b N->(gu s= -2\/gu s= -1\/(0<=gu s/\gu s<(n:Int)))/\ -1<=FX O s/\FX O s<=9):=λs b4=>by unfold tQ at b4;have:=(JR hC b4).1;exact⟨by omega,ag7 hC b4⟩
 have i5:Hid (∀s,FX O s=if gu s= -2 then -1 else O.getD (Ov (gu s)).toNat 0):=λs=>rfl
 have f8:Hid (no=n):=by show _=_;omega
 have i6:Hid (0<n):=by have:=hG.2.1;show 0<n;omega
 clear hs ho hC hG d9 hO hL j4 j3 a8 hM f5 eL eN hc p0 h1 h2
 generalize tQ b N=L at*
 generalize dV b N=RN at*
 generalize nI b N O=RO at*
 generalize FX O=sy at*
 obtain⟨⟨p0,p1,p2⟩,-⟩:=aJ U.out
 unfold lH
 go_enter func58,ntmps58
 go_wp2_with (go_at_call 34;refine(HK.out _).mono ?_;rintro e w' ⟨rfl,f9⟩;rw[f9];clear f9 w')
 clear j5 p0 p1 p2
 refine HM.out.mono ?_
 rintro e w2 ⟨g,cq,aN,cN,rfl,c7,d6⟩
 obtain⟨hq,e4⟩:=c7 w2 (λ_ _ _=>rfl)
 rw[f6.out]at e4⊢
 have i7:=aj c7
 have i8:Hid (w.heap.size+1<wb.heap.size):=(zG b3.out).1
 have HQ:=aj hq
 have k7:=aj e4
 have g1:=aj d6
 have c8:=aj ((d6.block _ (zG U.out).1).trans U.out)
 have c9:=aj ((d6.block _ (zG b3.out).1).trans b3.out)
 have d0:Hid (Bg w2 w2.heap.size 2 (λv=>.cells #[.int .i64 b,.slice aN L.length cN,v] 71) 3 [] (.slice none 0 0) (w2.alloc (.cells #[.int .i64 b,.slice aN L.length cN,.slice none 0 0] 71))):=⟨zl _ _,World.ownsRow_nil _ _ _ _,zb.alloc zr _,zr,akD _ _ _ _⟩
 obtain⟨⟨p0,p1,p2⟩,-⟩:=aJ c8.out
 clear c7 d6 hq e4 HM U b3
 go_wp2
 clear p0 p1 p2
 generalize w2.alloc (.cells #[.int .i64 b,.slice aN L.length cN,.slice none 0 0] 71)=w3 at d0⊢
 obtain⟨l0,g2,g3,g4,g5⟩:=info_parts rX
 go_loopw[24] (λiv wx=> ∃(i:Nat) (vO:Value),i<=L.length/\iv=.int .i64 i/\Bg w2 w2.heap.size 2 (λv=>.cells #[.int .i64 b,.slice aN L.length cN,v] 71) 3 ((RO.take i).map (Value.int .i64)) vO wx) (λiv _=>L.length-(intOf iv).toNat)
 case atStart=>exact⟨0,.slice none 0 0,by omega,rfl,d0.out⟩
 case round=>
  obtain⟨i,vO,hi,rfl,d1⟩:=hrel
  have b5:=aj d1
  have b6:Hid (((RO.take i).map (Value.int .i64)).length=i):=by show _=_;rw[List.length_map,List.length_take,d5.out];omega
  have Z:=aj d1.bel
  clear d1 d0
  by_cases e5:i<L.length
  ·have i9:(i:Int)<(L.length:Int):=by omega
   obtain⟨c0,c1⟩:=Ot (oG HQ.out (Z.out.block _ (sZ HQ.out))) i e5
   have b7:=aj (e3.out _ (jO e5))
   have a1:=aj (f7.out i e5)
   have a2:=aj (i5.out (L.getD i 0))
   generalize L.getD i 0=s at c0 c1 b7 a1 a2
   have b8:=aj ((Below.refl wr.heap.size wr).alloc zr (.cells #[.int .i64 (gu s),.int .i64 (iP s)] 129))
   have b9:=aj (zl wr (.cells #[.int .i64 (gu s),.int .i64 (iP s)] 129))
   generalize iP s=C at c1 b8 b9
   go_upto_region 6 with fail
   clear c0 c1
   obtain⟨wp,g6⟩: ∃wp,wr.alloc (.cells #[.int .i64 (gu s),.int .i64 C] 129)=wp:=⟨_,rfl⟩
   rw[g6]at b8 b9⊢
   clear g6
   obtain⟨X7,g7⟩: ∃X,X=wr.heap.size:=⟨_,rfl⟩
   rw[<-g7]at b9⊢
   clear g7
   have c4:=aj (zN b5.out b8.out)
   have e6:=aj (ak Z.out b8.out)
   obtain⟨⟨t0,t1⟩,-⟩:=bL b9.out
   clear b8 b9 b5 Z
   by_cases a7:gu s= -2
   ·have g8:sy s= -1:=by rw[a2.out,yP a7]
    have e7:(gu s== -2)=true:=by simp[a7]
    rw[g8]at a1
    have a6:=aj c4.out.own
    rw[b6.out]at a6
    have e8:Hid (w2.heap.size+1<=wp.heap.size):=(zG c4.out.box).1
    obtain⟨⟨b0,b1,b2⟩,-⟩:=aJ c4.out.box
    clear a7 g8 a2 b7
    generalize gu s=A at t0 e7⊢
    go_wp2_with (at_builtin;refine wpList_append_own _ rfl _ _ 24 rfl (w2.heap.size+1) 3 l0 (.int .i64 0) 1 8 underlying24 g2 g3 g4 g5 rfl (by decide) vO i _ rfl (a6.out.alloc _) ⟨wp.heap.size,0,none⟩ 1 1 [.int .i64 (-1)] rfl rfl (fV _ _ _) (λu hu=>by simp at hu;subst hu;rfl) (by unfold maxLen;omega) (by omega) (by have:=e8.out;simp;omega) ?_;intro v3 w5 hown J d2;obtain⟨a3,c3,rfl⟩:=nG hown;have hp:=CZ (u:=.int .i64 (-1)) c4.out (by rw[b6.out];exact hown) J;have e9:=aj hp.2;obtain⟨⟨e0,e1,e2⟩,ef⟩:=aJ hp.1;clear hown J d2 hp)
    go_roundw
    case rel=>exact⟨i+1,_,by omega,by go_num,by rw[a1.out,List.map_append];exact e9.out⟩
    case measure=>simp[intOf];omega
   ·have e7:(gu s== -2)=false:=by simp[a7]
    have j0:=aj ((e6.out.block _ (zG c8.out).1).trans c8.out)
    obtain⟨⟨p0,p1,p2⟩,-⟩:=aJ j0.out
    obtain⟨j,hj,f0⟩: ∃j:Nat,j<n/\Ov (gu s)=(j:Int):=by have h:=b7.out.1;have:=i6.out;refine⟨(Ov (gu s)).toNat,?_,?_⟩<;>(unfold Ov;split<;>omega)
    have d3:=aj a2.out
    rw[yN a7,f0,Int.toNat_natCast]at d3
    have d4:=aj (λW=>i4.out (gu s) W)
    rw[f0]at d4
    obtain⟨bo,oo,g9,f1⟩:=bH (j7.out wp (ak g1.out e6.out)) j (by rw[f8.out];exact hj)
    have k8:(j:Int)<(no:Int):=by have:=f8.out;omega
    rw[<-d3.out]at f1
    rw[g9]at p2
    clear g9
    have j8:=aj b7.out.2
    clear a7 a2 b7 d3 f0
    generalize sy s=z at f1 a1 j8
    generalize gu s=A at t0 e7 d4⊢
    go_wp2_with fail
    go_quiet (first|(go_at_call 87;refine Calls.quiet_of_same (d4.out _)))
    have c5:=aj (zN c4.out (below_drewN (Below.refl wp.heap.size wp) nq))
    generalize wp.drewN nq=wd at c5⊢
    have a6:=aj c5.out.own
    rw[b6.out]at a6
    have e8:Hid (w2.heap.size+1<=wd.heap.size):=(zG c5.out.box).1
    obtain⟨⟨b0,b1,b2⟩,-⟩:=aJ c5.out.box
    clear t0 t1 p0 p1 p2 f1
    go_wp2_with (at_builtin;refine wpList_append_own _ rfl _ _ 24 rfl (w2.heap.size+1) 3 l0 (.int .i64 0) 1 8 underlying24 g2 g3 g4 g5 rfl (by decide) vO i _ rfl (a6.out.alloc _) ⟨wd.heap.size,0,none⟩ 1 1 [.int .i64 z] rfl rfl (fV _ _ _) (λu hu=>by simp at hu;subst hu;rfl) (by unfold maxLen;omega) (by omega) (by have:=e8.out;simp;omega) ?_;intro v3 w5 hown J d2;obtain⟨a3,c3,rfl⟩:=nG hown;have hp:=CZ (u:=.int .i64 z) c5.out (by rw[b6.out];exact hown) J;have e9:=aj hp.2;obtain⟨⟨e0,e1,e2⟩,ef⟩:=aJ hp.1;clear hown J d2 hp)
    go_roundw
    case rel=>exact⟨i+1,_,by omega,by go_num,by rw[a1.out,List.map_append];exact e9.out⟩
    case measure=>simp[intOf];omega
  ·have i9: ¬(i:Int)<(L.length:Int):=by omega
   obtain rfl:i=L.length:=by omega
   have d7:RO.take L.length=RO:=List.take_of_length_le (by rw[d5.out];exact zr)
   have hown:=b5.out.own
   rw[b6.out,d7]at hown
   have j9:Hid (∀y∈RO,(Lit.int .i64 y).wf=true):=λy hy=>by obtain⟨j,hj,rfl⟩:=List.getElem_of_mem hy;have i1:j<L.length:=(by rw[d5.out]at hj;exact hj);have h1:=f7.out j i1;have h2:RO.getD j 0=sy (L.getD j 0):=(by rw[JW hj]at h1;have:=List.append_cancel_left h1;simpa using this);have h3:=(e3.out _ (jO i1)).2;rw[aS _ j hj]at h2;rw[h2];exact WalkArith.wf_i64 (by omega)
   obtain⟨aO,cO,rfl,i2⟩:=kJ d5.out (by unfold maxLen;omega) j9.out hown
   have f2:Hid (w.heap.size+1<w2.heap.size):=(zG c9.out).1
   have k0:Hid (∀W':zW,(∀x,w.heap.size+2<=x->x<wr.heap.size->W'.heap[x]? =wr.heap[x]?)->gT W' aN L.length RN/\Sl W' aO L.length RO):=λW' d8=>by have h1:=f2.out;have h2:=i8.out;have h3:=Z.out.size;have h:=i7.out W' (λx hx c6=>by rw[d8 x (by omega) (by omega)];exact Z.out.block x c6);rw[f6.out]at h;exact⟨h.2,ad6 i2 (λx hx c6=>d8 x (by omega) c6)⟩
   obtain⟨⟨b0,b1,b2⟩,-⟩:=aJ b5.out.box
   have hr:=(Z.out.block _ (zG c9.out).1).trans c9.out
   obtain⟨⟨r0,r1,r2⟩,rf⟩:=aJ hr
   have HR:=aj hr
   have k4:=aj (ak g1.out Z.out)
   clear hown i2 hr d7 b5
   go_wp2
   obtain⟨j1,j2⟩:=yI (v0:=.int .i64 b) (v1:=.slice aN L.length cN) (v2:=.slice aO L.length cO) HR.out rfl
   obtain⟨⟨z0,z1,z2⟩,-⟩:=aJ j1
   have k9:=f2.out
   have k5:=j2 w w.heap.size (ak f3.out k4.out) (by omega)
   have hk: ∀x,x≠w.heap.size+1->(((wr.setCell ⟨w.heap.size+1,0,none⟩ (.int .i64 b)).setCell ⟨w.heap.size+1,1,none⟩ (.slice aN L.length cN)).setCell ⟨w.heap.size+1,2,none⟩ (.slice aO L.length cO)).heap[x]? =wr.heap[x]? :=λx hx=>by rw[Below.heap_setCell _ _ _ _ hx,Below.heap_setCell _ _ _ _ hx,Below.heap_setCell _ _ _ _ hx]
   exact bodyPost_ret (v:=.agg #[.int .i64 b,.slice aN L.length cN,.slice aO L.length cO]) (by simp[results,results58,go_sem,z0,z1,z2]) rfl ⟨aN,cN,aO,cO,rfl,λW' d8=>k0.out W' (λx hx c6=>by rw[d8 x (by omega) (by simpa[World.setCell]using c6),hk x (by omega)]),k5⟩
theorem JX{B:Nat}{v0:Value}{T:TypeId}(h:W.heap[B]? =some (.cells #[v0] T (0,0))):W.cell? ⟨B,0,none⟩=some v0:=by simp[World.cell?,h]
theorem pO{B:Nat}{p:Addr}{u v:Value}(h:p.block≠B):((W.setCell ⟨B,0,none⟩ u).setCell ⟨B,1,none⟩ v).drew.cell? p=W.cell? p:=by
 have e:((W.setCell ⟨B,0,none⟩ u).setCell ⟨B,1,none⟩ v).heap[p.block]? =W.heap[p.block]? :=by rw[Below.heap_setCell _ _ _ _ h,Below.heap_setCell _ _ _ _ h]
 show((W.setCell ⟨B,0,none⟩ u).setCell ⟨B,1,none⟩ v).cell? p=W.cell? p;simp only[World.cell?,e]
abbrev fnV(f:FuncId)(cs:Array Value):Value:=.func (.func f) #[] cs
theorem Oz(f:FuncId)(cs:Array Value)(u v:Nat->Nat)(b:Int)(a:zO)(n cap:Nat)(ao:zO)(no co:Nat)(b2:Int)(a2:zO)(Z a8:Nat)(e0:zO)(e1 e2:Nat)(R R2:zL)(k B0 B1 B3 s l:Nat)(w:zW)(e8: ∀(args:Array Value) (W:zW),(callFunc f args).run prog W=.ok (.enter f args) W)(hF: ∀(W:zW),Below w.heap.size w W->Calls prog f (#[.int .i64 (l:Int)]++cs) W (λe W'=>e=.returned (.tuple #[.int .i64 ((u l:Nat):Int),.int .i64 ((v l:Nat):Int)])/\Below W.heap.size W W'))(b8:w.heap[B0]? =some (.cells #[fnV f cs] 135))(b9:w.heap[B1]? =some (.cells #[.int .i64 b,.slice a n cap,.slice ao no co] 71))(c0:w.heap[B3]? =some (.cells #[.int .i64 b2,.slice a2 Z a8,.slice e0 e1 e2] 71))(hs:gT w a n R)(d2:gT w a2 Z R2)(hG:aK k n R)(c3:aK k Z R2)(hn:n<=42)(e9:Z<=42)(hA:0<=gu s/\gu s<(n:Int))(hB:0<=iP s/\iP s<(Z:Int))(hu:u l<k)(hv:v l<k):
  Calls prog 112 #[Bf s,.int .i64 (l:Int),.pointer (some ⟨B0,0,none⟩),.pointer (some ⟨B1,0,none⟩),.pointer (some ⟨B3,0,none⟩)] w λe w'=>e=.returned (Bf (pK u v R R2 s l))/\Below w.heap.size w w':=by
 have a6:=bG w (.cells #[.int .i64 (gu s),.int .i64 (iP s)] 129) (.cells #[.int .i64 0,.int .i64 0] 129)
 have h1:=aP w (.cells #[.int .i64 (gu s),.int .i64 (iP s)] 129) (.cells #[.int .i64 0,.int .i64 0] 129)
 have h2:=aQ w (.cells #[.int .i64 (gu s),.int .i64 (iP s)] 129) (.cells #[.int .i64 0,.int .i64 0] 129)
 obtain⟨A,c4⟩: ∃A:Nat,gu s=(A:Int):=⟨(gu s).toNat,by omega⟩
 obtain⟨C,c5⟩: ∃C:Nat,iP s=(C:Int):=⟨(iP s).toNat,by omega⟩
 have g1:=(hG.2.2.2.2.2 A (by omega)).2 (u l) hu
 have g2:=(c3.2.2.2.2.2 C (by omega)).2 (v l) hv
 have c6:Bf (pK u v R R2 s l)=.agg #[.int .i64 ((R.getD A []).getD (u l) 0),.int .i64 ((R2.getD C []).getD (v l) 0)]:=by have d3:=zM (a:=(R.getD A []).getD (u l) 0) (c:=(R2.getD C []).getD (v l) 0) (by omega) (by omega) (by omega) (by omega);unfold Bf pK;rw[c4,c5,Int.toNat_natCast,Int.toNat_natCast,d3.1,d3.2.1]
 rw[c6]
 have d4:A<n:=by omega
 have d5:C<Z:=by omega
 have e6:(A:Int)<(n:Int):=by omega
 have e7:(C:Int)<(Z:Int):=by omega
 have r1:=(hG.2.2.2.2.2 A d4).1
 have r2:=(c3.2.2.2.2.2 C d5).1
 unfold Bf
 rw[c4,c5]at h1 h2 a6⊢
 have HF:=aj (hF _ a6)
 have t0:((w.alloc (.cells #[.int .i64 (A:Int),.int .i64 (C:Int)] 129)).alloc (.cells #[.int .i64 0,.int .i64 0] 129)).cell? ⟨B0,0,none⟩=some (fnV f cs):=JX ((a6.block _ (zG b8).1).trans b8)
 obtain⟨bb,o,a1,c7,rfl,b0,c8⟩:=gF hs A d4
 rw[r1]at b0 c8
 obtain⟨b1,o1,rfl,b6⟩:=bH c8 (u l) hu
 obtain⟨U,o2,a3,c9,rfl,J,b7⟩:=gF d2 C d5
 rw[r2]at J b7
 obtain⟨b3,o3,rfl,b4⟩:=bH b7 (v l) hv
 have L1:=(zG b9).1
 have L3:=(zG c0).1
 have L4:=zk w _ b0
 have L5:=zk w _ b6
 have L6:=zk w _ J
 have L7:=zk w _ b4
 have HL:Hid (B1≠w.heap.size+1/\B3≠w.heap.size+1/\bb≠w.heap.size+1/\b1≠w.heap.size+1/\U≠w.heap.size+1/\b3≠w.heap.size+1/\w.heap.size≠w.heap.size+1):=by simp only at L4 L5 L6 L7;refine⟨?_,?_,?_,?_,?_,?_,?_⟩<;>omega
 have b5:Hid (∀W,Below ((w.alloc (.cells #[.int .i64 (A:Int),.int .i64 (C:Int)] 129)).alloc (.cells #[.int .i64 0,.int .i64 0] 129)).heap.size ((w.alloc (.cells #[.int .i64 (A:Int),.int .i64 (C:Int)] 129)).alloc (.cells #[.int .i64 0,.int .i64 0] 129)) W->(W.cell? ⟨B1,1,none⟩=some (.slice (some ⟨bb,o,none⟩) n cap)/\W.cell? ⟨w.heap.size,0,none⟩=some (.int .i64 (A:Int))/\W.cell? ⟨w.heap.size,1,none⟩=some (.int .i64 (C:Int))/\W.cell? ⟨bb,o+A,none⟩=some (.slice (some ⟨b1,o1,none⟩) k c7)/\W.cell? ⟨b1,o1+u l,none⟩=some (.int .i64 ((R.getD A []).getD (u l) 0))/\W.cell? ⟨B3,1,none⟩=some (.slice (some ⟨U,o2,none⟩) Z a8)/\W.cell? ⟨U,o2+C,none⟩=some (.slice (some ⟨b3,o3,none⟩) k c9)/\W.cell? ⟨b3,o3+v l,none⟩=some (.int .i64 ((R2.getD C []).getD (v l) 0)))/\W.heap[w.heap.size+1]? =some (.cells #[.int .i64 0,.int .i64 0] 129 (0,0))):=λW h=>by have a7:=ak a6 h;obtain⟨⟨q0,q1⟩,-⟩:=bL ((h.block _ (zG h1).1).trans h1);obtain⟨⟨-,p1,-⟩,-⟩:=aJ ((a7.block _ L1).trans b9);obtain⟨⟨-,u1,-⟩,-⟩:=aJ ((a7.block _ L3).trans c0);exact⟨⟨p1,q0,q1,(a7.cell L4).trans b0,(a7.cell L5).trans b6,u1,(a7.cell L6).trans J,(a7.cell L7).trans b4⟩,(h.block _ (zG h2).1).trans h2⟩
 have HB:=aj a6
 have f0:((u l:Nat):Int)<(k:Int):=by omega
 have f1:((v l:Nat):Int)<(k:Int):=by omega
 clear hs d2 hG c3 c8 b7 c6 g1 g2 r1 r2 a6 h1 h2 hA hB b8 b9 c0 c4 c5 hu hv hF b0 b6 J b4 L1 L3 L4 L5 L6 L7
 generalize(R.getD A []).getD (u l) 0=y at b5⊢
 generalize(R2.getD C []).getD (v l) 0=z at b5⊢
 generalize u l=D at*
 generalize v l=E at*
 go_enter func112,ntmps112
 go_wp2_with fail
 generalize(w.alloc (.cells #[.int .i64 (A:Int),.int .i64 (C:Int)] 129)).alloc (.cells #[.int .i64 0,.int .i64 0] 129)=w0 at t0 HF HB b5⊢
 clear t0
 refine HF.out.mono ?_
 rintro e w1 ⟨rfl,d0⟩
 obtain⟨⟨p1,q0,q1,e3,e4,u1,d6,d7⟩,hz2⟩:=b5.out w1 d0
 obtain⟨⟨z0,z1⟩,zf⟩:=bL hz2
 have HR:=aj hz2
 have e5:=aj (ak HB.out d0)
 clear HF d0 hz2 b5
 have d1:Hid (∀x y':Value,(λW:zW=>W.cell? ⟨B1,1,none⟩=some (.slice (some ⟨bb,o,none⟩) n cap)/\W.cell? ⟨w.heap.size,0,none⟩=some (.int .i64 (A:Int))/\W.cell? ⟨w.heap.size,1,none⟩=some (.int .i64 (C:Int))/\W.cell? ⟨bb,o+A,none⟩=some (.slice (some ⟨b1,o1,none⟩) k c7)/\W.cell? ⟨b1,o1+D,none⟩=some (.int .i64 y)/\W.cell? ⟨B3,1,none⟩=some (.slice (some ⟨U,o2,none⟩) Z a8)/\W.cell? ⟨U,o2+C,none⟩=some (.slice (some ⟨b3,o3,none⟩) k c9)/\W.cell? ⟨b3,o3+E,none⟩=some (.int .i64 z)) ((w1.setCell ⟨w.heap.size+1,0,none⟩ x).setCell ⟨w.heap.size+1,1,none⟩ y').drew):=λx y'=>by
  obtain⟨n1,n3,n4,n5,n6,n7,n8⟩:=HL.out;refine⟨?_,?_,?_,?_,?_,?_,?_,?_⟩
  ·rw[pO n1];exact p1
  ·rw[pO n8];exact q0
  ·rw[pO n8];exact q1
  ·rw[pO n4];exact e3
  ·rw[pO n5];exact e4
  ·rw[pO n3];exact u1
  ·rw[pO n6];exact d6
  ·rw[pO n7];exact d7
 go_upto_region 2 with fail
 go_region_held_law (λW=>W.cell? ⟨B1,1,none⟩=some (.slice (some ⟨bb,o,none⟩) n cap)/\W.cell? ⟨w.heap.size,0,none⟩=some (.int .i64 (A:Int))/\W.cell? ⟨w.heap.size,1,none⟩=some (.int .i64 (C:Int))/\W.cell? ⟨bb,o+A,none⟩=some (.slice (some ⟨b1,o1,none⟩) k c7)/\W.cell? ⟨b1,o1+D,none⟩=some (.int .i64 y)/\W.cell? ⟨B3,1,none⟩=some (.slice (some ⟨U,o2,none⟩) Z a8)/\W.cell? ⟨U,o2+C,none⟩=some (.slice (some ⟨b3,o3,none⟩) k c9)/\W.cell? ⟨b3,o3+E,none⟩=some (.int .i64 z)) (first|exact d1.out _ _|go_keep) (first|fail)
 all_goals
  go_wp2
  obtain⟨⟨d8,-,-⟩,d9⟩:=CK (v0:=.int .i64 y) (v1:=.int .i64 z) HR.out rfl
  obtain⟨⟨z0,z1⟩,-⟩:=bL d8
  exact bodyPost_ret (v:=.agg #[.int .i64 y,.int .i64 z]) (by simp[results,results112,go_sem,z0,z1]) rfl ⟨rfl,(d9 _ _ e5.out (by omega)).drew⟩
theorem ad7{k n:Nat}{r:zI}(h:r.length=k):ni k n r=if Z8 ((n:Int)-1) r=true then 0 else 1:=by
 have e:(r.all λx=>decide (0<=x/\x<(n:Int)))=Z8 ((n:Int)-1) r:=by unfold Z8;congr 1;funext x;exact decide_eq_decide.2 ⟨λh=>by omega,λh=>by omega⟩
 unfold ni;rw[yP h,e]
theorem iB:Zk:=by
 intro b a n cap ao J co N O w hs ho;have hL:=hs.1;have c4:=ho.1;have d4:=hs.2.1;have d5:=ho.2.1;unfold maxLen at d4 d5;have c5:=aj (acI w b a n cap ao J co 71 hs ho);have HC:Hid (dJ b N O=if 1<=b/\b<=6 then(if n=0 then 4 else if 20<n then 3 else if J=n then jl (Ah (au b).toNat N O)else 2)else 1):=by show _=_;unfold dJ;rw[hL,c4]
 have b5:Hid (∀s,s<n->(∀j,j<s->xk (au b).toNat n (N.getD j []) (O.getD j 0)=0)->xk (au b).toNat n (N.getD s []) (O.getD s 0)≠0->jl (Ah (au b).toNat N O)=xk (au b).toNat n (N.getD s []) (O.getD s 0)):=λs b4 hj hc=>by have h:=vH (Ah (au b).toNat N O) s (λj d6=>by rw[uQ (by omega),hL];exact hj j d6) (by rw[Ea,hL];exact b4) (by rw[uQ (by omega),hL];exact hc);rw[uQ (by omega),hL]at h;exact h
 have b3:Hid ((∀j,j<n->xk (au b).toNat n (N.getD j []) (O.getD j 0)=0)->jl (Ah (au b).toNat N O)=0):=λh=>qQ _ λj hj=>by rw[Ea]at hj;rw[uQ hj,hL];exact h j (by omega)
 clear hs ho hL c4;generalize jl (Ah (au b).toNat N O)=F at HC b5 b3;generalize dJ b N O=c at HC⊢;unfold lH;obtain⟨⟨c0,c1,c2⟩,b4,c6,c7⟩:=c5.out _ zb;have HS:=aj b4;have HO:=aj c6;have a2:=aj c7;clear b4 c6 c7 c5;by_cases hb:1<=b/\b<=6
 ·have a7:=aj (λW=>lS b W hb.1 hb.2)
  have a8:=aj (λW=>mq b W hb.1 hb.2);have U:=HC.out;rw[yP hb]at U;have hk:=eY hb.1 hb.2;rw[<-hk.2.2]at a8;generalize(au b).toNat=k at a8 b5 b3 hk;by_cases h0:n=0
  ·subst h0;rw[yP rfl]at U;subst U;go_enter func29,ntmps29;go_wp2_with (go_at_call 23;refine(a7.out _).mono ?_;rintro e w' ⟨rfl,z⟩;rw[z];clear z w');go_ret;exact⟨by simp[bC],a2.out⟩
  ·rw[yN h0]at U
   have e3:((n:Int)==0)=false:=(by simp;omega);by_cases c8:20<n
   ·rw[yP c8]at U;subst U;have d2:(n:Int)>20:=(by omega);go_enter func29,ntmps29;go_wp2_with (go_at_call 23;refine(a7.out _).mono ?_;rintro e w' ⟨rfl,z⟩;rw[z];clear z w');go_ret;exact⟨by simp[bC],a2.out⟩
   ·rw[yN c8]at U
    have d2: ¬(n:Int)>20:=(by omega);by_cases c9:J=n
    ·subst c9
     rw[yP rfl]at U;subst U;have d7:((J:Int)==(J:Int))=true:=(by simp);go_enter func29,ntmps29;go_wp2_with (go_at_call 23;refine(a7.out _).mono ?_;rintro e w' ⟨rfl,z⟩;rw[z];clear z w');generalize w.alloc (.cells #[.int .i64 b,.slice a J cap,.slice ao J co] 71)=wb at HS HO a2 c0 c1 c2⊢;go_loop[31] (λiv=> ∃s:Nat,s<=J/\iv=.int .i64 s/\(∀j,j<s->xk k J (N.getD j []) (O.getD j 0)=0)) (λiv=>J-(intOf iv).toNat);case atStart=>exact⟨0,by omega,rfl,λj hj=>by omega⟩
     case round=>
      obtain⟨s,e4,rfl,b6⟩:=hrel;have b1:=aj b6;clear b6;by_cases b7:s<J
      ·have d3:(s:Int)<(J:Int):=by omega
       obtain⟨bb,o,a1,e5,rfl,d8,b8⟩:=gF HS.out s b7;obtain⟨bo,oo,rfl,d9⟩:=bH HO.out s b7;have a6:=aj (b5.out s b7 b1.out)
       have b9:Hid (xk k J (N.getD s []) (O.getD s 0)=0-> ∀j,j<s+1->xk k J (N.getD j []) (O.getD j 0)=0):=λh j hj=>by
        by_cases e:j=s
        ·subst e;exact h
        ·exact b1.out j (by omega)
       have b0:=aj (λcp=>Rz ((J:Int)-1) a1 (N.getD s []).length cp (N.getD s []) wb b8);have b2:=aj (λW=>CY (O.getD s 0) W);have d0:=b8.2.1;unfold maxLen at d0;clear b8;generalize e0:N.getD s []=r at d8 a6 b9 b0 d0;generalize e2:O.getD s 0=ov at d9 a6 b9 b2;clear e0 e2;by_cases hlen:r.length=k
       ·have c3:((r.length:Int)==(k:Int))=true:=by simp;omega
        have Z:=ad7 (n:=J) hlen;by_cases hu:Z8 ((J:Int)-1) r=true
        ·rw[hu]at b0
         rw[yP hu]at Z;by_cases h9:0<=ov/\ov<=9
         ·rw[yT h9]at b2
          have HZ:=aj (b9.out (by unfold xk;rw[yP Z,yP h9]));clear Z hu h9 hlen
          go_wp2_with (first
           |(go_at_call 34;refine(a8.out _).mono ?_;rintro e w' ⟨rfl,z⟩;rw[z];clear z w')
           |(go_at_call 51;refine(b0.out _).mono ?_;rintro e w' ⟨rfl,z⟩;rw[z];clear z w')
           |(go_at_call 52;refine(b2.out _).mono ?_;rintro e w' ⟨rfl,z⟩;rw[z];clear z w'))
          go_round;case rel=>exact⟨s+1,by omega,by go_num,HZ.out⟩
          case measure=>simp[intOf];omega
         ·rw[yF h9]at b2
          have e1:xk k J r ov=1:=(by unfold xk;rw[yP Z,yN h9]);have hF:=a6.out (by rw[e1];decide);rw[e1]at hF;clear Z hu h9 hlen e1;subst hF
          go_wp2_with (first
           |(go_at_call 34;refine(a8.out _).mono ?_;rintro e w' ⟨rfl,z⟩;rw[z];clear z w')
           |(go_at_call 51;refine(b0.out _).mono ?_;rintro e w' ⟨rfl,z⟩;rw[z];clear z w')
           |(go_at_call 52;refine(b2.out _).mono ?_;rintro e w' ⟨rfl,z⟩;rw[z];clear z w'))
          go_ret;exact⟨by simp[bC],a2.out⟩
        ·have d1:Z8 ((J:Int)-1) r=false:=by simpa using hu
         rw[d1]at b0;rw[yN hu]at Z;have e1:xk k J r ov=1:=(by unfold xk;rw[yN (by rw[Z];decide),Z]);have hF:=a6.out (by rw[e1];decide);rw[e1]at hF;clear Z hu d1 hlen e1;subst hF
         go_wp2_with (first
          |(go_at_call 34;refine(a8.out _).mono ?_;rintro e w' ⟨rfl,z⟩;rw[z];clear z w')
          |(go_at_call 51;refine(b0.out _).mono ?_;rintro e w' ⟨rfl,z⟩;rw[z];clear z w'))
         go_ret;exact⟨by simp[bC],a2.out⟩
       ·have c3:((r.length:Int)==(k:Int))=false:=by simp;omega
        have e1:xk k J r ov=2:=(by unfold xk;rw[yN (by rw[Dt hlen];decide),Dt hlen]);have hF:=a6.out (by rw[e1];decide);rw[e1]at hF;clear hlen e1;subst hF;go_wp2_with (go_at_call 34;refine(a8.out _).mono ?_;rintro e w' ⟨rfl,z⟩;rw[z];clear z w');go_ret;exact⟨by simp[bC],a2.out⟩
      ·have d3: ¬(s:Int)<(J:Int):=by omega
       obtain rfl:s=J:=(by omega);have hF:=b3.out b1.out;subst hF;go_wp2;go_ret;exact⟨by simp[bC],a2.out⟩
    ·rw[yN c9]at U;subst U;have d7:((J:Int)==(n:Int))=false:=(by simp;omega);go_enter func29,ntmps29;go_wp2_with (go_at_call 23;refine(a7.out _).mono ?_;rintro e w' ⟨rfl,z⟩;rw[z];clear z w');go_ret;exact⟨by simp[bC],a2.out⟩
 ·have a7:=aj (λW=>yO b W (by omega));have U:=HC.out;rw[yN hb]at U;subst U;go_enter func29,ntmps29;go_wp2_with (go_at_call 23;refine(a7.out _).mono ?_;rintro e w' ⟨rfl,z⟩;rw[z];clear z w');go_ret;exact⟨by simp[bC],a2.out⟩
theorem XU{α:Type}(l:List α)(i:Nat)(d:α)(h:i<l.length):l.take (i+1)=l.take i++[l.getD i d]:=by rw[List.take_succ_eq_append_getElem h];congr 2;simp[List.getD,h]
theorem ad8{v:Int}(hi:i<(tQ b N).length):(XR b N O v).take (i+1)=(XR b N O v).take i++[decide ((nI b N O).getD i 0=v)]:=by
 have h1:i<(XR b N O v).length:=by rw[XT];exact hi
 have h2:i<(nI b N O).length:=by rw[GL];exact hi
 have e:(XR b N O v).getD i false=decide ((nI b N O).getD i 0=v):=by unfold XR;exact Ox _ _ _ 0 _ h2
 rw[<-e];exact XU _ _ false h1
theorem ad9{v:Int}(h:QH b N O v≠0):Eb b N O v=QH b N O v/\WU b N O v=[]/\WV b N O v=[]/\bK (Eb b N O v) b=0/\bK (Eb b N O v) 1=0:=by
 have hc:Eb b N O v=QH b N O v:=by unfold Eb;rw[yN h]
 have z:Eb b N O v≠0:=by rw[hc];exact h
 refine⟨hc,?_,?_,?_,?_⟩
 ·unfold WU;rw[yN z]
 ·unfold WV;rw[yN z]
 ·unfold bK;rw[yN z]
 ·unfold bK;rw[yN z]
theorem RB:Us:=by
 intro b a n cap ao no co N O v w hs ho;have a6:=bG w (.cells #[.int .i64 b,.slice a n cap,.slice ao no co] 71) (.cells #[.int .i64 0,.int .i64 0,.slice none 0 0,.slice none 0 0] 35);have c9:=aj a6;have a7:=aj (aP w (.cells #[.int .i64 b,.slice a n cap,.slice ao no co] 71) (.cells #[.int .i64 0,.int .i64 0,.slice none 0 0,.slice none 0 0] 35));have c0:=aj (aQ w (.cells #[.int .i64 b,.slice a n cap,.slice ao no co] 71) (.cells #[.int .i64 0,.int .i64 0,.slice none 0 0,.slice none 0 0] 35));generalize d7:(w.alloc (.cells #[.int .i64 b,.slice a n cap,.slice ao no co] 71)).alloc (.cells #[.int .i64 0,.int .i64 0,.slice none 0 0,.slice none 0 0] 35)=wb at a6 c9 a7 c0;have U:=aj (iB b a n cap ao no co N O wb (aG hs a6) (aF ho a6));have d0:=aj (λW=>CY v W);have d1:Hid (w.heap.size+1<wb.heap.size):=(zG c0.out).1;obtain⟨⟨p0,p1,p2⟩,-⟩:=aJ a7.out;by_cases Z:dJ b N O=0
 ·rw[Z,cB]at U
  by_cases hv:0<=v/\v<=9
  ·rw[yT hv]at d0
   have hF:QH b N O v=0:=(by unfold QH;rw[yP Z,yP hv]);obtain⟨h1,h2,-⟩:=cK Z;obtain⟨hM,hm⟩:=oC h1 h2;obtain⟨hG,d8,-⟩:=qh Z;obtain⟨d9,f2⟩:=agj Z v hG (λu hu=>aj6 Z hv.1 u hu);have d2:=aj (λW (h:Below wb.heap.size wb W)=>rP b a n cap ao no co N O W (aG (aG hs a6) h) (aF (aF ho a6) h) Z);have hK:bE (SL b N) (QG b O v) (au b).toNat<=80:=(by rw[<-aZ,<-d9,aZ];exact uq hG (XR b N O v) (by omega));have a8:=aj (λaN cN aE cE W (q1:gT W aN (dV b N).length (dV b N)) (q2:mR W aE (dV b N).length (XR b N O v))=>xW b 1 aN (dV b N).length cN (dV b N) aE cE (XR b N O v) W q1 q2 (jk hM (by rw[hm];exact hG) (by omega)));rw[hm]at a8;unfold jX at a8;rw[d9,f2,nJ]at a8;have HY:Hid (∀(e:Ending) (w':zW),dB w b 1 (aV (SL b N) (QG b O v) (au b).toNat) (aY (SL b N) (QG b O v) (au b).toNat) 0 e w'->dB w (bK (Eb b N O v) b) (bK (Eb b N O v) 1) (WU b N O v) (WV b N O v) (Eb b N O v) e w'):=λe w' m3=>by have hc:Eb b N O v=0:=(by unfold Eb;rw[yP hF,yP hK]);unfold WU WV;rw[yP hc,yP hc,hc];exact m3
   have i7:=aj (λi (hi:i<(tQ b N).length)=>ad8 (b:=b) (N:=N) (O:=O) (v:=v) hi);have b8:Hid ((XR b N O v).length=(tQ b N).length):=XT b N O v;have k5:(tQ b N).length<=42:=(by rw[<-nJ];exact d8);unfold ag6 at d2;unfold lH at U d2;clear hs ho Z hv hF hM hm hG d9 f2 d8 hK h1 h2 a6;generalize tQ b N=L at*;generalize dV b N=RN at*;generalize XR b N O v=RE at*;generalize nI b N O=RO at*;generalize aV (SL b N) (QG b O v) (au b).toNat=LN at a8 HY;generalize aY (SL b N) (QG b O v) (au b).toNat=LE at a8 HY;generalize bK (Eb b N O v) b=OB at HY⊢;generalize bK (Eb b N O v) 1=OT at HY⊢;generalize WU b N O v=Af at HY⊢;generalize WV b N O v=k6 at HY⊢;generalize Eb b N O v=RC at HY⊢;unfold lH;go_enter func41,ntmps41;go_wp2_with fail;clear d7 p0 p1 p2;refine U.out.mono ?_;rintro e w1 ⟨rfl,z⟩;obtain⟨⟨p0,p1,p2⟩,-⟩:=aJ ((z.block _ (zG a7.out).1).trans a7.out);have b4:=aj z;clear z;go_wp2_with (go_at_call 52;refine(d0.out _).mono ?_;rintro e w' ⟨rfl,c4⟩;rw[c4];clear c4 w');clear p0 p1 p2;refine(d2.out w1 b4.out).mono ?_;rintro e w2 ⟨aN,cN,aO,cO,rfl,d3,c5⟩;obtain⟨f3,f5⟩:=d3 w2 (λ_ _ _=>rfl);clear d3;have e4:=aj (ak b4.out c5);have f6:=aj f3;have f7:=aj f5;obtain⟨⟨p0,p1,p2⟩,-⟩:=aJ ((e4.out.block _ (zG a7.out).1).trans a7.out);clear f3 f5 c5 b4 d2 U;obtain⟨J,d4⟩: ∃J,w2.alloc (.cells #[.int .i64 b,.slice aN L.length cN,.slice aO L.length cO] 71)=J:=⟨_,rfl⟩;have b9:Below w2.heap.size w2 J:=(by rw[<-d4];exact zb.alloc zr _);have f8:=aj (ak e4.out b9);have e5:=aj (aG f6.out b9);have g4:=aj (aF f7.out b9);have i8:J.heap.size=w2.heap.size+1:=(by rw[<-d4];simp);have i9:Hid (J.heap[w2.heap.size]? =some (.cells #[.int .i64 b,.slice aN L.length cN,.slice aO L.length cO] 71 (0,0))):=(by show _=_;rw[<-d4];exact zl _ _);have c6:Hid (Bg J J.heap.size 3 (λv=>.cells #[.int .i64 b,.int .i64 1,.slice aN L.length cN,v] 35) 4 [] (.slice none 0 0) (J.alloc (.cells #[.int .i64 b,.int .i64 1,.slice aN L.length cN,.slice none 0 0] 35))):=⟨zl _ _,World.ownsRow_nil _ _ _ _,zb.alloc zr _,zr,aj7 _ _ _ _ _⟩;obtain⟨⟨x0,x1,x2⟩,-⟩:=aJ i9.out;obtain⟨⟨p0,p1,p2⟩,-⟩:=aJ ((f8.out.block _ (zG a7.out).1).trans a7.out);have y2: ∀o,(J.alloc o).cell? ⟨w2.heap.size,2,none⟩=some (.slice aO L.length cO):=λo=>(((Below.refl J.heap.size J).alloc zr o).cell (p:=⟨w2.heap.size,2,none⟩) (zk J _ x2)).trans x2;clear e4 f6 f7 b9 i8;go_wp2;clear d4 p0 p1 p2 x0 x1 x2 y2;generalize J.alloc (.cells #[.int .i64 b,.int .i64 1,.slice aN L.length cN,.slice none 0 0] 35)=w4 at c6⊢;obtain⟨l0,j0,j1,j2,j3⟩:=info_parts DF;go_loopw[32] (λiv wx=> ∃(i:Nat) (vE:Value),i<=L.length/\iv=.int .i64 i/\Bg J J.heap.size 3 (λv=>.cells #[.int .i64 b,.int .i64 1,.slice aN L.length cN,v] 35) 4 ((RE.take i).map Value.bool) vE wx) (λiv _=>L.length-(intOf iv).toNat);case atStart=>exact⟨0,.slice none 0 0,by omega,rfl,c6.out⟩
   case round=>
    obtain⟨i,vE,hi,rfl,c7⟩:=hrel;have b5:=aj c7;have c8:Hid (((RE.take i).map Value.bool).length=i):=(by show _=_;rw[List.length_map,List.length_take,b8.out];omega);have e6:=aj c7.bel;clear c7 c6;by_cases f9:i<L.length
    ·have g5:(i:Int)<(L.length:Int):=by omega
     obtain⟨bo,oo,rfl,j4⟩:=bH (aF g4.out e6.out) i f9;have e7:=aj (i7.out i f9);have e8:=aj b5.out.own;rw[c8.out]at e8;have g6:Hid (J.heap.size+1<=wr.heap.size):=(zG b5.out.box).1;obtain⟨⟨b0,b1,b2,b3⟩,-⟩:=aC b5.out.box;obtain⟨q,hq⟩: ∃q:Bool,decide (RO.getD i 0=v)=q:=⟨_,rfl⟩;have j5:(RO.getD i 0==v)=q:=(by rw[<-hq];rfl);rw[hq]at e7;generalize RO.getD i 0=x at j4 j5;clear hq;go_wp2_with (at_builtin;refine wpList_append_own _ rfl _ _ 33 rfl (J.heap.size+1) 4 l0 (.bool false) 1 1 underlying33 j0 j1 j2 j3 rfl (by decide) vE i _ rfl (e8.out.alloc _) ⟨wr.heap.size,0,none⟩ 1 1 [.bool q] rfl rfl (fV _ _ _) (λu hu=>by simp at hu;subst hu;rfl) (by unfold maxLen;omega) (by omega) (by have:=g6.out;simp;omega) ?_;intro v3 w5 hown d5 g7;obtain⟨a3,c3,rfl⟩:=nG hown;have hp:=CZ (u:=.bool q) b5.out (by rw[c8.out];exact hown) d5;have j6:=aj hp.2;obtain⟨⟨e0,e1,e2,e3⟩,ef⟩:=aC hp.1;clear hown d5 g7 hp);go_roundw;case rel=>exact⟨i+1,_,by omega,by go_num,by rw[e7.out,List.map_append];exact j6.out⟩
     case measure=>simp[intOf];omega
    ·have g5: ¬(i:Int)<(L.length:Int):=by omega
     obtain rfl:i=L.length:=(by omega);have d6:RE.take L.length=RE:=List.take_of_length_le (by rw[b8.out];exact zr);have hown:=b5.out.own;rw[c8.out,d6]at hown;obtain⟨aE,cE,rfl,e9⟩:=JV (bs:=RE) (by rw[b8.out];exact hown) (by rw[b8.out];unfold maxLen;omega);rw[b8.out]at e9;have j7:=aj (a8.out aN cN aE cE wr (aG e5.out e6.out) e9);have f0:=b5.out.box;rw[b8.out]at f0;obtain⟨⟨b0,b1,b2,b3⟩,-⟩:=aC f0;have f1:=aj (ak f8.out e6.out);clear hown e9 d6 b5 f0 a8 e5;go_wp2_with fail;clear b0 b1 b2 b3;refine j7.out.mono ?_;rintro e j8 ⟨a1,c1,a2,c2,rfl,g1,c5⟩;have g2:=aj (ak f1.out c5);have hr:=(g2.out.block (w.heap.size+1) d1.out).trans c0.out;obtain⟨⟨r0,r1,r2,r3⟩,rf⟩:=aC hr;have HR:=aj hr;have j9:=aj g1;have g8:Hid (w.heap.size+1<wr.heap.size):=(by have h1:=f1.out.size;have h2:=d1.out;show _<_;omega);clear hr g1 c5;go_wp2;obtain⟨⟨b6,k0,g9⟩,b7⟩:=eO (v0:=.int .i64 b) (v1:=.int .i64 1) (v2:=.slice a1 LN.length c1) (v3:=.slice a2 LN.length c2) HR.out rfl;have i6:dS w a1 LN.length LN a2 LE ((((j8.setCell ⟨w.heap.size+1,0,none⟩ (.int .i64 b)).setCell ⟨w.heap.size+1,1,none⟩ (.int .i64 1)).setCell ⟨w.heap.size+1,2,none⟩ (.slice a1 LN.length c1)).setCell ⟨w.heap.size+1,3,none⟩ (.slice a2 LN.length c2)):=λW' k3=>j9.out W' (λx hx k4=>by have h1:=g8.out;rw[k3 x (by omega) (by rw[k0];exact k4),g9 x (by omega)]);have hb:=b7 w w.heap.size (ak c9.out g2.out) (by omega);obtain⟨⟨z0,z1,z2,z3⟩,-⟩:=aC b6;exact bodyPost_ret (v:=.tuple #[.agg #[.int .i64 b,.int .i64 1,.slice a1 LN.length c1,.slice a2 LN.length c2],.nilIface]) (by simp[results,results41,go_sem,z0,z1,z2,z3]) rfl (HY.out _ _ ⟨a1,c1,a2,c2,rfl,i6,hb⟩)
  ·rw[yF hv]at d0;have hF:QH b N O v=1:=(by unfold QH;rw[yP Z,yN hv]);obtain⟨i1,i2,i3,i4,i5⟩:=ad9 (b:=b) (N:=N) (O:=O) (v:=v) (by rw[hF];decide);rw[i2,i3,i4,i5,i1,hF];unfold lH at U⊢;clear i1 i2 i3 i4 i5 hF Z hv hs ho a6;go_enter func41,ntmps41;go_wp2_with fail;clear d7 p0 p1 p2;refine U.out.mono ?_;rintro e w1 ⟨rfl,z⟩;have hr:=(z.block (w.heap.size+1) d1.out).trans c0.out;obtain⟨⟨r0,r1,r2,r3⟩,rf⟩:=aC hr;have HR:=aj hr;have b4:=aj z;clear z hr;go_wp2_with (go_at_call 52;refine(d0.out _).mono ?_;rintro e w' ⟨rfl,c4⟩;rw[c4];clear c4 w');obtain⟨⟨b6,-,-⟩,b7⟩:=eF HR.out rfl;have hb:=b7 w w.heap.size (ak c9.out b4.out) (by omega);obtain⟨⟨z0,z1,z2,z3⟩,-⟩:=aC b6;exact bodyPost_ret (v:=.tuple #[.agg #[.int .i64 0,.int .i64 0,.slice none 0 0,.slice none 0 0],.iface 45 (.int .i64 1)]) (by simp[results,results41,go_sem,z0,z1,z2,z3]) rfl ⟨none,0,none,0,by rw[dx (by decide)];rfl,dD _ _,hb⟩
 ·have hF:QH b N O v=dJ b N O:=by unfold QH;rw[yN Z]
  obtain⟨i1,i2,i3,i4,i5⟩:=ad9 (b:=b) (N:=N) (O:=O) (v:=v) (by rw[hF];exact Z);rw[i2,i3,i4,i5,i1,hF];rw[dx Z]at U;have g3:=aj (dx Z);unfold lH at U⊢;clear i1 i2 i3 i4 i5 hF Z hs ho a6;generalize dJ b N O=c at U g3⊢;go_enter func41,ntmps41;go_wp2_with fail;clear d7 p0 p1 p2;refine U.out.mono ?_;rintro e w1 ⟨rfl,z⟩;have hr:=(z.block (w.heap.size+1) d1.out).trans c0.out;obtain⟨⟨r0,r1,r2,r3⟩,rf⟩:=aC hr;have HR:=aj hr;have b4:=aj z;clear z hr;go_wp2;obtain⟨⟨b6,-,-⟩,b7⟩:=eF HR.out rfl;have hb:=b7 w w.heap.size (ak c9.out b4.out) (by omega);obtain⟨⟨z0,z1,z2,z3⟩,-⟩:=aC b6;exact bodyPost_ret (v:=.tuple #[.agg #[.int .i64 0,.int .i64 0,.slice none 0 0,.slice none 0 0],.iface 45 (.int .i64 c)]) (by simp[results,results41,go_sem,z0,z1,z2,z3]) rfl ⟨none,0,none,0,by rw[g3.out];rfl,dD _ _,hb⟩
structure SpI (wb:zW) (rows:Nat->zI) (es:Nat->Bool) (col:Nat->Nat) (L:List Nat) (qn qe mb bq cq:Nat) (vN vE:Value) (vals:zV) (W:zW):Prop where
 map:eu prog 147 W mb (Ke L)
 JN:col mb=1
 mbs:wb.heap.size<=mb
 FW:FZ W bq L.length cq L
 JO:col bq=2
 qbs:wb.heap.size<=bq
 nx:OwC wb.heap.size col 4 W 24 vN vals
 xq:MF col 5 W rows qn vals
 en:OwC wb.heap.size col 6 W 4 vE ((List.range qe).map λj=>.bool (es j))
 bel:Below wb.heap.size wb W
 rb: ∀v∈vals,∀g,v.ownBlock=some g->wb.heap.size<=g
structure SpX (wb:zW) (rows:Nat->zI) (es:Nat->Bool) (col:Nat->Nat) (L:List Nat) (qn qe mb bq cq:Nat) (vN vE:Value) (vals:zV) (pb s m nb:Nat) (row:zI) (l:Nat) (W:zW):Prop where
 sp:SpI wb rows es col L qn qe mb bq cq vN vE vals W
 wK:W.rowIs nb 3 m λq=>.int .i64 (if q<l then row.getD q 0 else 0)
 Ve:col nb=7
 nbs:wb.heap.size<=nb
 at_:W.heap[pb]? =some (.cells #[.int .i64 (bZ s).f,.int .i64 (bZ s).s,.int .i64 (bZ s).y,.int .i64 (bZ s).l] 147 (0,0))
 acl:col pb=3
section
variable {wb:zW} {rows:Nat->zI} {es:Nat->Bool} {col:Nat->Nat} {L:List Nat} {qn qe mb bq cq:Nat} {vN vE:Value} {vals:zV} {pb s m nb:Nat} {row:zI} {l:Nat} {W W':zW}
theorem Dc{k:Nat}(h:SpI wb rows es col L qn qe mb bq cq vN vE vals W)(z:yH col k W W')(hb:Below wb.heap.size wb W')(h1:1≠k)(h2:2≠k)(h4:4≠k)(h5:5≠k)(J:6≠k):SpI wb rows es (iO col W.heap.size k) L qn qe mb bq cq vN vE vals W':=
 ⟨h.map.of_block (z.block mb h.map.lt (by rw[h.JN];exact h1)),by rw[bJ h.map.lt];exact h.JN,h.mbs,uY h.FW (z.block bq (zR h.FW) (by rw[h.JO];exact h2)),by rw[bJ (zR h.FW)];exact h.JO,h.qbs,kT h.nx z h4,jJ h.xq z h5,kT h.en z J,hb,h.rb⟩
theorem ML(h:SpI wb rows es col L qn qe mb bq cq vN vE vals W)(hb:Below W.heap.size W W'):SpI wb rows es (iO col W.heap.size 8) L qn qe mb bq cq vN vE vals W':=
 Dc h ⟨hb.size,λx hx _=>hb.block x hx⟩ (ak h.bel hb) (by decide) (by decide) (by decide) (by decide) (by decide)
theorem aap(h:SpX wb rows es col L qn qe mb bq cq vN vE vals pb s m nb row l W)(hb:Below W.heap.size W W'):SpX wb rows es (iO col W.heap.size 8) L qn qe mb bq cq vN vE vals pb s m nb row l W':=
 have z:=(zG h.at_).1
 ⟨ML h.sp hb,h.wK.of_block (hb.block nb h.wK.lt),by rw[bJ h.wK.lt];exact h.Ve,h.nbs,(hb.block pb z).trans h.at_,by rw[bJ z];exact h.acl⟩
theorem aaq(row:zI)(s m:Nat)(h:SpI wb rows es col L qn qe mb bq cq vN vE vals W): ∃U,SpX wb rows es U L qn qe mb bq cq vN vE vals W.heap.size s m (W.heap.size+1) row 0 ((W.alloc (.cells #[.int .i64 (bZ s).f,.int .i64 (bZ s).s,.int .i64 (bZ s).y,.int .i64 (bZ s).l] 147)).alloc (.cells (madeCells #[.int .i64 0] m) 3)):=by
 have hb:=(Below.refl W.heap.size W).alloc zr (.cells #[.int .i64 (bZ s).f,.int .i64 (bZ s).s,.int .i64 (bZ s).y,.int .i64 (bZ s).l] 147);have Z:=zl W (.cells #[.int .i64 (bZ s).f,.int .i64 (bZ s).s,.int .i64 (bZ s).y,.int .i64 (bZ s).l] 147);have J:(W.alloc (.cells #[.int .i64 (bZ s).f,.int .i64 (bZ s).s,.int .i64 (bZ s).y,.int .i64 (bZ s).l] 147)).heap.size=W.heap.size+1:=by simp
 have h1:=Dc (k:=3) h ⟨hb.size,λx hx _=>hb.block x hx⟩ (ak h.bel hb) (by decide) (by decide) (by decide) (by decide) (by decide);generalize W.alloc (.cells #[.int .i64 (bZ s).f,.int .i64 (bZ s).s,.int .i64 (bZ s).y,.int .i64 (bZ s).l] 147)=W1 at hb Z J h1⊢;have z:=(Below.refl W1.heap.size W1).alloc zr (.cells (madeCells #[.int .i64 0] m) 3);have h2:=Dc (k:=7) h1 ⟨z.size,λx hx _=>z.block x hx⟩ (ak h1.bel z) (by decide) (by decide) (by decide) (by decide) (by decide);refine⟨_,h2,?_,by rw[oH (by omega)],by have:=h.bel.size;omega,(z.block _ (by omega)).trans Z,by rw[bJ (by omega),oH (by omega)]⟩;rw[<-J];exact(World.rowIs_made W1 (.int .i64 0) m 3).congr λp Z=>by rw[yN (by omega)]
theorem RZ(h:SpX wb rows es col L qn qe mb bq cq vN vE vals pb s m nb row l W)(z:l<m):W.cell? ⟨nb,l,none⟩=some (.int .i64 0)/\W.frozen? ⟨nb,l,none⟩=false:=by have:=h.wK.cell z;rw[yN (Nat.lt_irrefl _)]at this;exact⟨this,h.wK.frozen l⟩
theorem X8{z:Int}(h:SpX wb rows es col L qn qe mb bq cq vN vE vals pb s m nb row l W)(hz:row.getD l 0=z):SpX wb rows es (iO col W.heap.size 7) L qn qe mb bq cq vN vE vals pb s m nb row (l+1) (W.setCell ⟨nb,l,none⟩ (.int .i64 z)):=by
 have J:yH col 7 W (W.setCell ⟨nb,l,none⟩ (.int .i64 z)):=⟨by simp,λx hx hc=>Below.heap_setCell _ _ _ _ (λe=>hc (by rw[show x=nb from e];exact h.Ve))⟩;have U:=(zG h.at_).1;refine⟨Dc h.sp J (h.sp.bel.setCell h.nbs _) (by decide) (by decide) (by decide) (by decide) (by decide),(h.wK.set _ _).congr λq _=>?_,by rw[bJ h.wK.lt];exact h.Ve,h.nbs,(J.block pb U (by rw[h.acl];decide)).trans h.at_,by rw[bJ U];exact h.acl⟩;by_cases e:q=l
 ·subst e;rw[yP rfl,yP (by omega),hz]
 ·rw[yN e]
  congr 1;by_cases Z:q<l
  ·rw[yP Z,yP (show q<l+1 by omega)]
  ·rw[yN Z,yN (show¬q<l+1 by omega)]
theorem ahk{M:Nat}{z w6:zW}{o:Obj}{b' a1:Nat}(h:SpX wb rows es col L qn qe mb bq cq vN vE vals pb s m nb row l W)(hm:eu prog 147 z mb (Ke L++[(GQ M,.int .i64 (L.length:Int))]))(ht:W.mapTurned z mb)(hq:FZ w6 b' (L.length+1) a1 (L++[M]))(hg:(z.alloc o).grownBy w6 (some bq))(J:b'=bq\/(z.alloc o).heap.size<=b'):
  SpX wb rows es (iO (iO col W.heap.size 1) z.heap.size 2) (L++[M]) qn qe mb b' a1 vN vE vals pb s m nb row l w6:=by
 have s5:=ht.grown.size
 have s6:=hg.size
 rw[World.size_alloc]at s6 J
 have l1:=zR h.sp.FW
 have l2:=h.sp.map.lt
 have l8:=h.wK.lt
 have a2:mb≠bq:=λe=>by have:=h.sp.JN;rw[e,h.sp.JO]at this;omega
 have a7:nb≠mb:=λe=>by have:=h.Ve;rw[e,h.sp.JN]at this;omega
 have a8:nb≠bq:=λe=>by have:=h.Ve;rw[e,h.sp.JO]at this;omega
 have U:yH col 1 W z:=⟨s5,λx hx hc=>ht.grown.block x hx (λe=>by cases e;exact hc h.sp.JN)⟩
 have b5:Below wb.heap.size wb z:=Below.grown h.sp.bel ht.grown h.sp.bel.size (λx e=>by cases e;exact h.sp.mbs)
 have q5:FZ z bq L.length cq L:=uY h.sp.FW (U.block bq l1 (by rw[h.sp.JO];decide))
 have c5:iO col W.heap.size 1 bq=2:=by rw[bJ l1];exact h.sp.JO
 have Z:yH (iO col W.heap.size 1) 2 z w6:=⟨by omega,λx hx hc=>by rw[hg.block x (by rw[World.size_alloc];omega) (λe=>by cases e;exact hc c5),Below.heap_alloc _ _ _ hx]⟩
 have b6:Below wb.heap.size wb w6:=Below.grown (b5.alloc b5.size o) hg (by have:=b5.size;rw[World.size_alloc];omega) (λx e=>by cases e;exact h.sp.qbs)
 have m6:iO col W.heap.size 1 mb=1:=by rw[bJ l2];exact h.sp.JN
 have hp:=(zG h.at_).1
 have a6:iO col W.heap.size 1 pb=3:=by rw[bJ hp];exact h.acl
 have n6:iO col W.heap.size 1 nb=7:=by rw[bJ l8];exact h.Ve
 refine⟨⟨?_,by rw[bJ (by omega)];exact m6,h.sp.mbs,by rw[List.length_append];exact hq,?_,?_,kT (kT h.sp.nx U (by decide)) Z (by decide),jJ (jJ h.sp.xq U (by decide)) Z (by decide),kT (kT h.sp.en U (by decide)) Z (by decide),b6,h.sp.rb⟩,(h.wK.of_block (U.block nb l8 (by rw[h.Ve];decide))).of_block (Z.block nb (by omega) (by rw[n6];decide)),by rw[bJ (by omega)];exact n6,h.nbs,(Z.block pb (by omega) (by rw[a6];decide)).trans ((U.block pb hp (by rw[h.acl];decide)).trans h.at_),by rw[bJ (by omega)];exact a6⟩
 ·rw[aew]
  exact hm.of_block (Z.block mb (by omega) (by rw[m6];decide))
 ·rcases J with rfl|J
  ·rw[bJ (by omega)];exact c5
  ·rw[oH (by omega)]
 ·rcases J with rfl|J
  ·exact h.sp.qbs
  ·have:=b5.size;omega
theorem akl{w3:zW}{o:Obj}{g' Z:Nat}(h:SpX wb rows es col L qn qe mb bq cq vN vE vals pb s m nb (rows qn) m W)(a1:(rows qn).length=m)(a7:m<=maxLen)(a8: ∀x∈rows qn,(Lit.int .i64 x).wf=true)(hown:w3.ownsRow wb.heap.size 24 1 (.slice (some ⟨g',0,none⟩) (qn+1) Z) (qn+1) (vals++[.slice (some ⟨nb,0,none⟩) m m]))(U:(W.alloc o).grownBy w3 vN.ownBlock)(b0:vN.ownBlock=some g'\/g'=W.heap.size+1):
  SpI wb rows es (iO (λx=>if x=nb then 5 else col x) W.heap.size 4) L (qn+1) qe mb bq cq (.slice (some ⟨g',0,none⟩) (qn+1) Z) vE (vals++[.slice (some ⟨nb,0,none⟩) m m]) w3:=by
 obtain⟨h,J,a6,b5,-,-⟩:=h
 have a2: ∀{x k:Nat},col x=k->k≠7->x≠nb:=λ{x k} hx z e=>z (by rw[<-hx,e,a6])
 have hc: ∀{x k:Nat},col x=k->k≠7->(λx=>if x=nb then 5 else col x) x=k:=λ{x k} hx z=>by show(if x=nb then 5 else col x)=k;rw[yN (a2 hx z)];exact hx
 have hs:Sl W (some ⟨nb,0,none⟩) (rows qn).length (rows qn):=ig rfl (by rw[a1];exact a7) a8 (by rw[a1];exact J.congr λq hq=>by rw[yP hq])
 have b1:OwC wb.heap.size (λx=>if x=nb then 5 else col x) 4 W 24 vN vals:=⟨h.nx.own,λx hx=>hc (h.nx.clr x hx) (by decide)⟩
 have b2:OwC wb.heap.size (λx=>if x=nb then 5 else col x) 6 W 4 vE ((List.range qe).map λj=>.bool (es j)):=⟨h.en.own,λx hx=>hc (h.en.clr x hx) (by decide)⟩
 have b3:MF (λx=>if x=nb then 5 else col x) 5 W rows qn vals:=⟨h.xq.1,λj hj=>by obtain⟨gj,cj,e1,e2,e3,e4⟩:=h.xq.2 j hj;exact⟨gj,cj,e1,e2,hc e3 (by decide),e4⟩⟩
 obtain⟨h1,z⟩:=JM b1 h.xq.1 hown U b0
 have b4:=jJ b3 z (by decide)
 have lq:=zR h.FW
 refine⟨h.map.of_block (z.block mb h.map.lt (by show(if mb=nb then 5 else col mb)≠4;rw[yN (a2 h.JN (by decide)),h.JN];decide)),by rw[bJ h.map.lt];exact hc h.JN (by decide),h.mbs,uY h.FW (z.block bq lq (by show(if bq=nb then 5 else col bq)≠4;rw[yN (a2 h.JO (by decide)),h.JO];decide)),by rw[bJ lq];exact hc h.JO (by decide),h.qbs,h1,⟨by rw[List.length_append,h.xq.1];rfl,λj hj=>?_⟩,kT b2 z (by decide),
  Below.grown (h.bel.alloc h.bel.size o) U (by have:=h.bel.size;rw[World.size_alloc];omega) (λx hx=>(h.nx.own.lt x hx).1),λv hv g hg=>?_⟩
 rotate_left
 ·rcases List.mem_append.1 hv with hv|hv
  ·exact h.rb v hv g hg
  ·simp only[List.mem_singleton]at hv
   subst hv
   have e1:nb=g:=by simpa[Value.ownBlock]using hg
   omega
 by_cases e:j=qn
 ·subst e
  exact⟨nb,m,by rw[List.getElem?_append_right (by rw[h.xq.1];omega),h.xq.1];simp[a1],nH hs (z.block nb J.lt (by show(if nb=nb then 5 else col nb)≠4;rw[yP rfl];decide)),by rw[bJ J.lt];show(if nb=nb then 5 else col nb)=5;rw[yP rfl],by have:=z.size;have:=J.lt;omega⟩
 ·obtain⟨gj,cj,e1,e2⟩:=b4.2 j (by omega)
  exact⟨gj,cj,by rw[List.getElem?_append_left (by rw[h.xq.1];omega)];exact e1,e2⟩
theorem akm{w3:zW}{o:Obj}{U J:Nat}(h:SpI wb rows es col L qn qe mb bq cq vN vE vals W)(hown:w3.ownsRow wb.heap.size 4 1 (.slice (some ⟨U,0,none⟩) (qe+1) J) (qe+1) (((List.range qe).map λj=>Value.bool (es j))++[.bool (es qe)]))(z:(W.alloc o).grownBy w3 vE.ownBlock)(a1:vE.ownBlock=some U\/U=W.heap.size+1):
  SpI wb rows es (iO col W.heap.size 6) L qn (qe+1) mb bq cq vN (.slice (some ⟨U,0,none⟩) (qe+1) J) vals w3:=by
 obtain⟨h1,Z⟩:=JM h.en (by simp) hown z a1
 have lq:=zR h.FW
 exact⟨h.map.of_block (Z.block mb h.map.lt (by rw[h.JN];decide)),by rw[bJ h.map.lt];exact h.JN,h.mbs,uY h.FW (Z.block bq lq (by rw[h.JO];decide)),by rw[bJ lq];exact h.JO,h.qbs,kT h.nx Z (by decide),jJ h.xq Z (by decide),by rw[List.range_succ,List.map_append];exact h1,
  Below.grown (h.bel.alloc h.bel.size o) z (by have:=h.bel.size;rw[World.size_alloc];omega) (λx hx=>(h.en.own.lt x hx).1),h.rb⟩
theorem ajk{J:zW}{o:Obj}(h:SpX wb rows es col L qn qe mb bq cq vN vE vals pb s m nb row l W)(z:(W.alloc o).grownBy J vN.ownBlock):J.heap[pb]? =some (.cells #[.int .i64 (bZ s).f,.int .i64 (bZ s).s,.int .i64 (bZ s).y,.int .i64 (bZ s).l] 147 (0,0)):=by have U:=(zG h.at_).1;rw[z.block pb (by rw[World.size_alloc];omega) (λe=>by have:=h.sp.nx.clr pb e.symm;rw[h.acl]at this;omega),Below.heap_alloc _ _ _ U];exact h.at_
theorem ahl{aN aE:zO}{cN cE:Nat}(h:SpI wb rows es col L qn qn mb bq cq (.slice aN qn cN) (.slice aE qn cE) vals W)(Z:qn<=maxLen)(N:zL)(hN:N.length=qn)(hr: ∀j,j<qn->N.getD j []=rows j)(E:zB)(hE:E.length=qn)(he: ∀j,j<qn->E.getD j false=es j):
  dS wb aN qn N aE E W:=λW' J=>by
 have a1:=h.xq.1
 have h2:=aX (w':=W') h.nx.own (λx hx=>J x (h.nx.own.lt x hx).1 (h.nx.own.lt x hx).2)
 rw[a1]at h2
 have h3:=aX (w':=W') h.en.own (λx hx=>J x (h.en.own.lt x hx).1 (h.en.own.lt x hx).2)
 rw[List.length_map,List.length_range]at h3
 constructor
 ·rcases h2.2 with⟨-,U⟩|⟨g,cap,cur,z,_⟩
  ·exact⟨hN,Z,Or.inl U⟩
  ·cases z
   refine⟨hN,Z,Or.inr ⟨g,0,rfl,λi hi=>?_⟩⟩
   obtain⟨gi,ci,z,U,-,e4⟩:=h.xq.2 i hi
   have hb:=h.rb _ (List.mem_of_getElem? z) gi (by simp[Value.ownBlock])
   rw[hr i hi,Nat.zero_add,h2.cellAt i (by omega)]
   exact⟨_,ci,z,nH U (J gi hb e4)⟩
 ·rcases h3.2 with⟨-,U⟩|⟨g,cap,cur,z,_⟩
  ·exact⟨hE,Z,Or.inl U⟩
  ·cases z
   refine⟨hE,Z,Or.inr ⟨g,0,rfl,λi hi=>?_⟩⟩
   rw[Nat.zero_add,h3.cellAt i (by omega),he i hi]
   simp[hi]
end
theorem aar(w:zW)(x y z u:Value)(t:TypeId): ∀j v,[x,y,z,u][j]? =some v->(w.alloc (.cells #[x,y,z,u] t)).cell? ((⟨w.heap.size,0,none⟩:Addr).add j)=some v:=by intro j v h;rw[Addr.add_lit,cell_of_row _ _ _ _ t (0,0) (zl w _),Nat.zero_add];simpa using h
theorem aas{w U:zW}{f:Nat}(rows:Nat->zI)(es:Nat->Bool){J:zW}(z:Below w.heap.size w J)(a1:eu prog 147 U J.heap.size ([]++[(GQ f,.int .i64 0)]))(Z:(J.alloc (.map #[] 0)).mapTurned U J.heap.size): ∃col,SpI w rows es col [f] 0 0 J.heap.size U.heap.size 1 (.slice none 0 0) (.slice none 0 0) [] (U.alloc (.cells #[.int .i64 (bZ f).f,.int .i64 (bZ f).s,.int .i64 (bZ f).y,.int .i64 (bZ f).l] 147)):=by
 have s1:=Z.grown.size;rw[World.size_alloc]at s1;have sw:=z.size;have bp:Below w.heap.size w U:=Below.grown (z.alloc z.size (.map #[] 0)) Z.grown (by rw[World.size_alloc];omega) (λx e=>by cases e;exact z.size);refine⟨λx=>if x=J.heap.size then 1 else 2,?_,yP rfl,sw,⟨rfl,by simp,by decide,#[.int .i64 (bZ f).f,.int .i64 (bZ f).s,.int .i64 (bZ f).y,.int .i64 (bZ f).l],zl _ _,by simp,λq hq=>?_⟩,yN (by omega),by omega,Ou _ _ _ _ _,⟨rfl,λj hj=>by omega⟩,Ou _ _ _ _ _,bp.alloc bp.size _,λv hv=>by simp at hv⟩
 ·have e:Ke [f]=[]++[(GQ f,.int .i64 0)]:=by simp[Ke,List.range_succ]
  rw[e];exact a1.alloc _
 ·simp at hq
  rcases(show q=0\/q=1\/q=2\/q=3 by omega)with rfl|rfl|rfl|rfl
  ·simp[S9,Vl]
  ·simp[S9,Vl]
  ·simp[S9,Vl]
  ·simp[S9,Vl]
def OL(w:zW)(N:zL)(E:zB)(e:Ending)(w':zW):Prop:=
 ∃aN cN z J,e=.returned (.tuple #[.slice aN N.length cN,.slice z N.length J])/\dS w aN N.length N z E w'/\Below w.heap.size w w'
theorem OM(f fe:FuncId)(cs:Array Value)(wv:Value)(m J B:Nat)(d:Nat->Nat->Nat)(p:Nat->Bool)(w:zW)(j9:J=1506816)(h1:1<=m)(y4:m<=36)(hB:B<=3013824)(k0: ∀(args:Array Value) (W:zW),(callFunc f args).run prog W=.ok (.enter f args) W)(f2: ∀(args:Array Value) (W:zW),(callFunc fe args).run prog W=.ok (.enter fe args) W)(a7: ∀i,∀x∈aM d m J i,x<B)(hF: ∀(W:zW) (s l i:Nat),Below w.heap.size w W->s∈aM d m J i->l<m->Calls prog f (#[GQ s,.int .i64 (l:Int)]++cs) W (λe W'=>e=.returned (GQ (d s l))/\Below W.heap.size W W'))(hE: ∀(W:zW) (s:Nat),Calls prog fe #[wv,GQ s] W (λe W'=>e=.returned (.bool (p s))/\Below W.heap.size W W')):
  Calls prog 81 #[.int .i64 (m:Int),.func (.func f) #[] cs,.func (.func fe) #[wv] #[]] w (OL w (gN d m (aM d m J B)) (gE p (aM d m J B))):=by
 have f3:Hid (∀i,(aM d m J i).length<=B):=λi=>by have:=kW (K:=List.range B) (kN d m J i) (λx hx=>List.mem_range.2 (a7 i x hx));rwa [List.length_range]at this
 have q6:Hid (∀i,∀x∈aM d m J i,x<3013824):=λi x hx=>Nat.lt_of_lt_of_le (a7 i x hx) hB
 have j7:Hid (∀i,(aM d m J i).length<=i->i<=B->aM d m J B=aM d m J i):=λi h hi=>by have:=uz h (B-i);rwa [show i+(B-i)=B by omega]at this
 have HF:=aj hF
 have q7:=aj hE
 have q8:=aj k0
 have o0:=aj f2
 have y5:Hid (aM d m J 0=[J]):=rfl
 have o3:=X5 (n:=J) (by omega)
 have f5:bZ J=⟨0,0,0,0⟩:=by rw[j9];exact Jj.1
 have k6:=aj f5
 have f6:Hid (GQ J=.agg #[.int .i64 0,.int .i64 0,.int .i64 0,.int .i64 0]):=by show _=_;unfold GQ;rw[f5]
 clear hF hE k0 f2 a7 j9 f5
 have y6:=fO m (by omega)
 have y7:=@run_makeMap prog
 obtain⟨y8,f7⟩:=o3
 have b2:=aj (zl w (.cells #[.int .i64 0,.int .i64 0,.int .i64 0,.int .i64 0] 147))
 have f8:=aj ((Below.refl w.heap.size w).alloc zr (.cells #[.int .i64 0,.int .i64 0,.int .i64 0,.int .i64 0] 147))
 generalize q9:w.alloc (.cells #[.int .i64 0,.int .i64 0,.int .i64 0,.int .i64 0] 147)=w1 at b2 f8
 have k7:=qZ w1 prog 147
 obtain⟨wp,f9,c7,b3⟩:=k7.put GN underlying150 (val:=.int .i64 0) (by decide) f7 (by simp)
 have g1:=aj (λrows es=>@aas w wp J rows es w1 f8.out c7 b3)
 have g3:(w1.alloc (.map #[] 0)).heap[w.heap.size]? =some (.cells #[.int .i64 0,.int .i64 0,.int .i64 0,.int .i64 0] 147 (0,0)):=(Below.heap_alloc _ _ _ (zG b2.out).1).trans b2.out
 have k8:wp.heap[w.heap.size]? =some (.cells #[.int .i64 0,.int .i64 0,.int .i64 0,.int .i64 0] 147 (0,0)):=(b3.grown.block w.heap.size (Nat.lt_trans (zG b2.out).1 (by simp)) (λe=>by have h1:=Option.some.inj e;have h2:=(zG b2.out).1;omega)).trans g3
 obtain⟨⟨q0,q1,q2,q3⟩,-⟩:=aC g3
 obtain⟨⟨r0,r1,r2,r3⟩,-⟩:=aC k8
 rw[f6.out]at f9
 have r4:=(zG b2.out).1
 rw[k6.out]at g1
 clear c7 b3 k7 g3 k8
 go_enter func81,ntmps81
 go_wp2
 clear q0 q1 q2 q3 r0 r1 r2 r3 f9 f7 q9 r4
 obtain⟨RW,k9⟩: ∃RW,RW=qg d m J:=⟨_,rfl⟩
 obtain⟨ES,l1⟩: ∃ES,ES=λj=>p ((aM d m J j).getD j 0):=⟨_,rfl⟩
 obtain⟨o4,g4⟩:=g1.out RW ES
 have b9:=aj g4
 have e6:Hid (qg d m J=RW):=k9.symm
 have l3:Hid ((λj=>p ((aM d m J j).getD j 0))=ES):=l1.symm
 clear k9 l1 g1 g4 f8 b2 k6 f6
 generalize o5:w1.heap.size=mb at b9⊢
 clear o5
 generalize r5:wp.alloc (.cells #[.int .i64 0,.int .i64 0,.int .i64 0,.int .i64 0] 147)=w0 at b9⊢
 clear r5
 go_loopg[10,11,12] (B+1) (λg v vN vE wx=> ∃(i bq cq:Nat) (col:Nat->Nat) (vals:zV),g=B+1-i/\v=.slice (some ⟨bq,0,none⟩) (aM d m J i).length cq/\i<=(aM d m J i).length/\SpI w RW ES col (aM d m J i) i i mb bq cq vN vE vals wx)
 case atStart=>exact⟨0,wp.heap.size,1,o4,[],rfl,rfl,Nat.zero_le _,b9.out⟩
 case round=>
  obtain⟨i,bq,cq,col,vals,l4,rfl,g5,c8⟩:=hrel
  have r6:=aj l4
  have c9:=aj c8
  have j8:=f3.out i
  obtain⟨aN,cN,l5⟩:=nG c8.nx.own
  obtain⟨aE,cE,l6⟩:=nG c8.en.own
  rw[c8.xq.1]at l5
  simp only[List.length_map,List.length_range]at l6
  subst l5
  subst l6
  clear l4 c8 b9
  by_cases a7:i<(aM d m J i).length
  ·have g6:(i:Int)<((aM d m J i).length:Int):=by omega
   obtain⟨c0,c1,c2,c3⟩:=ahh c9.out.FW i a7
   have d6:=aj (mh a7)
   have d7:=aj (λl hl=>Ep (d:=d) (m:=m) (f:=J) (i:=i) (l:=l) a7 hl)
   have d8:Hid (∀l,l<m->(RW i).getD l 0=(((aM d m J (i+1)).idxOf (d ((aM d m J i).getD i 0) l):Nat):Int)):=λl hl=>by rw[<-e6.out];exact AZ hl
   have o6:Hid ((RW i).length=m):=by show _=_;rw[<-e6.out];exact JF _ _ _ _
   have o7:Hid (∀x∈RW i,(Lit.int .i64 x).wf=true):=λx hx=>by rw[<-e6.out]at hx;obtain⟨l,hl,rfl⟩:=List.mem_map.1 hx;have h2:=f3.out (i+1);have h3:=List.idxOf_le_length (a:=d ((aM d m J i).getD i 0) l) (l:=aM d m J (i+1));exact WalkArith.wf_i64 (by omega)
   have g7:Hid ((aM d m J i).getD i 0∈aM d m J i):=jO a7
   have g8:Hid (∀l,l<=m->i<(fI d (aM d m J i) ((aM d m J i).getD i 0) l).length/\(fI d (aM d m J i) ((aM d m J i).getD i 0) l).length<=B+36):=λl hl=>by have h1:=ze d (aM d m J i) ((aM d m J i).getD i 0) l;exact⟨Nat.lt_of_lt_of_le a7 h1.length_le,by have:=zK d (aM d m J i) ((aM d m J i).getD i 0) l;omega⟩
   have g9:Hid (∀l,l<m->d ((aM d m J i).getD i 0) l<3013824):=λl hl=>q6.out (i+1) _ (by rw[mh a7];exact uw.2 (.inr ⟨l,hl,rfl⟩))
   have i1:=aj (λl=>uW d (aM d m J i) ((aM d m J i).getD i 0) l)
   obtain⟨o8,l7⟩:=aaq (RW i) ((aM d m J i).getD i 0) m c9.out
   have b7:=aj l7
   clear l7 c9
   obtain⟨OI,i2⟩: ∃OI,OI=aM d m J i:=⟨_,rfl⟩
   rw[<-i2]at c0 c1 c2 c3 d6 d7 d8 g7 g8 g9 i1 b7 a7 g6 g5 j8⊢
   have l8:=aj i2
   clear i2
   obtain⟨U,i4⟩: ∃U,U=OI.getD i 0:=⟨_,rfl⟩
   rw[<-i4]at c0 c1 c2 c3 d6 d7 d8 g7 g8 g9 i1 b7
   have r7:=aj i4
   clear i4
   have l9:Hid (fI d OI U 0=OI):=rfl
   go_wp2
   clear c0 c1 c2 c3
   obtain⟨wq,n0⟩: ∃wq:zW,wq=wr:=⟨_,rfl⟩
   rw[<-n0]at b7⊢
   clear n0 wr
   generalize r8:(wq.alloc (.cells #[.int .i64 (bZ U).f,.int .i64 (bZ U).s,.int .i64 (bZ U).y,.int .i64 (bZ U).l] 147)).alloc (.cells (madeCells #[.int .i64 0] m) 3)=wz at b7⊢
   clear r8
   go_loopw[10,37] (λv u wx=> ∃(l a6 a8:Nat) (c4:Nat->Nat),l<=m/\u=.int .i64 l/\v=.slice (some ⟨a6,0,none⟩) (fI d OI U l).length a8/\SpX w RW ES c4 (fI d OI U l) i i mb a6 a8 (.slice aN i cN) (.slice aE i cE) vals wq.heap.size U m (wq.heap.size+1) (RW i) l wx) (λ_ u _=>m-(intOf u).toNat)
   case atStart=>exact⟨0,bq,cq,o8,by omega,rfl,by rw[l9.out],by rw[l9.out];exact b7.out⟩
   case round=>
    obtain⟨l,a6,a8,c4,hl,rfl,rfl,hx⟩:=hrel
    have HX:=aj hx
    obtain⟨⟨a0,a1,a2,a3⟩,-⟩:=aC hx.at_
    have n2:=g8.out l hl
    clear hx b7
    by_cases b8:l<m
    ·have o9:(l:Int)<(m:Int):=by omega
     have e7:=aj (HF.out wr U l i HX.out.sp.bel (by rw[<-l8.out];exact g7.out) b8)
     have d9:=aj (i1.out l)
     have e0:=aj (d7.out l b8)
     have e1:=aj (d8.out l b8)
     have d0:=g9.out l b8
     obtain⟨kl,n3⟩:=X5 d0
     have d1:=aj n3
     clear n3 d0
     obtain⟨Z,d0⟩: ∃Z,Z=d U l:=⟨_,rfl⟩
     rw[<-d0]at e7 d9 e0 e1 d1
     clear d0
     have he:=q8.out
     unfold GQ at e7 d1
     go_wp2_with fail
     clear he a0 a1 a2 a3
     refine e7.out.mono ?_
     rintro e w2 ⟨rfl,i5⟩
     have n4:=i5.alloc i5.size (.cells #[.int .i64 (bZ Z).f,.int .i64 (bZ Z).s,.int .i64 (bZ Z).y,.int .i64 (bZ Z).l] 147)
     have e8:=aj (zl w2 (.cells #[.int .i64 (bZ Z).f,.int .i64 (bZ Z).s,.int .i64 (bZ Z).y,.int .i64 (bZ Z).l] 147))
     have b0:=aj (aap HX.out n4)
     clear i5 n4 e7 HX
     obtain⟨⟨x0,x1,x2,x3⟩,-⟩:=aC e8.out
     by_cases b1:Z∈fI d OI U l
     ·have c5:=aj (aex b1)
      have d2:Hid (fI d OI U (l+1)=fI d OI U l):=by show _=_;rw[d9.out];exact xI b1
      have c6:Hid ((((fI d OI U l).idxOf Z:Nat):Int)=(RW i).getD l 0):=by show _=_;rw[e1.out,<-e0.out,xI b1]
      rw[c6.out]at c5
      obtain⟨r9,s0⟩:=RZ b0.out b8
      have d3:=aj b0.out.sp.map
      have p4:=aj (λz hz=>@X8 _ _ _ _ _ _ _ _ _ _ _ _ _ _ _ _ _ _ _ _ z b0.out hz)
      obtain⟨z,hz⟩: ∃z,z=(RW i).getD l 0:=⟨_,rfl⟩
      rw[<-hz]at c5
      have HZ:=aj hz.symm
      clear b1 hz c6
      unfold GQ at c5
      go_wp2_with (at_lookup;refine jM _ rfl _ _ 150 rfl 147 3 GN underlying150 (qO _) mb _ rfl d3.out _ _ rfl d1.out _ c5.out ?_)
      have e2:=aj (p4.out z HZ.out)
      go_roundw
      case rel=>exact⟨l+1,a6,a8,_,by omega,by go_num,by rw[d2.out],by rw[d2.out];exact e2.out⟩
      case measure=>simp[intOf];omega
     ·have i6:=aj (aey b1)
      have d2:Hid (fI d OI U (l+1)=fI d OI U l++[Z]):=by show _=_;rw[d9.out];exact xJ b1
      have c6:Hid (((fI d OI U l).length:Int)=(RW i).getD l 0):=by show _=_;rw[e1.out,<-e0.out,xJ b1];have:(fI d OI U l++[Z]).idxOf Z=(fI d OI U l).length:=(by rw[List.idxOf_append,yN b1];simp);rw[this]
      have i7:=aj (λw5 w6 o b' e3 k1 k2 k3 k4 k5=>@ahk w RW ES _ (fI d OI U l) i i mb a6 a8 _ _ vals _ U m _ (RW i) l _ Z w5 w6 o b' e3 b0.out k1 k2 k3 k4 k5)
      have d3:=aj b0.out.sp.map
      have s1:=aj (zG e8.out).1
      have s2:Hid (w2.heap.size≠mb):=λe=>by obtain⟨es,x9,h⟩:=d3.out.isMap;rw[<-e,e8.out]at h;cases h
      have s3:Hid (mb≠a6):=λe=>by have:=b0.out.sp.JN;rw[e,b0.out.sp.JO]at this;omega
      have s4:=aj (λW h=>uY (W':=W) b0.out.sp.FW h)
      have i8:=aj (zR b0.out.sp.FW)
      clear b1
      unfold GQ at i6 i7
      go_wp2_with (first
       |(at_lookup;refine jo _ rfl _ _ 150 rfl 147 3 GN underlying150 (qO _) mb _ rfl d3.out _ _ rfl d1.out i6.out ?_)
       |(at_mapUpdate;refine jT _ rfl _ _ _ 150 rfl 147 3 GN underlying150 mb _ rfl d3.out (by rw[aev];unfold maxLen;omega) (Value.agg #[.int .i64 (bZ Z).f,.int .i64 (bZ Z).s,.int .i64 (bZ Z).y,.int .i64 (bZ Z).l]) (.int .i64 ((fI d OI U l).length:Int)) _ rfl rfl d1.out i6.out ?_;intro w5 c7 b3;have p5:=aj c7;have e4:=aj b3;have i9:=(b3.grown.block w2.heap.size s1.out (λe=>s2.out (by cases e;rfl))).trans e8.out;obtain⟨⟨y0,y1,y2,y3⟩,-⟩:=aC i9;clear c7 b3 i9)
       |(at_builtin;refine Bl _ rfl _ _ rfl a6 (fI d OI U l).length a8 (fI d OI U l) rfl (s4.out _ ((Below.heap_alloc _ _ _ (Nat.lt_of_lt_of_le i8.out e4.out.grown.size)).trans (e4.out.grown.block a6 i8.out (λe=>s3.out (by cases e;rfl))))) ⟨w5.heap.size,0,none⟩ Z (bZ Z).f (bZ Z).s (bZ Z).y (bZ Z).l rfl rfl rfl rfl rfl (aar _ _ _ _ _ _) (by omega) ?_;intro b6 j1 w6 n5 n6 d4;have n7:=aj (i7.out w5 w6 _ b6 j1 p5.out e4.out n5 n6 d4);obtain⟨r9,s0⟩:=RZ n7.out b8;clear n5 n6 d4))
      have e2:=aj (X8 n7.out c6.out.symm)
      go_roundw
      case rel=>exact⟨l+1,b6,j1,_,by omega,by go_num,by rw[d2.out,List.length_append,List.length_singleton],by rw[d2.out];exact e2.out⟩
      case measure=>simp[intOf];omega
    ·have o9: ¬(l:Int)<(m:Int):=by omega
     obtain rfl:l=m:=by omega
     clear a0 a1 a2 a3
     rw[<-d6.out]at HX n2⊢
     obtain⟨OS,j2⟩: ∃OS,OS=aM d l J (i+1):=⟨_,rfl⟩
     rw[<-j2]at HX n2⊢
     have j3:Hid (aM d l J (i+1)=OS):=j2.symm
     clear j2
     have p6:Hid (wr.ownsRow w.heap.size 24 1 (.slice aN i cN) i vals):=by have h:=HX.out.sp.nx.own;rw[HX.out.sp.xq.1]at h;exact h
     have s5:Hid (w.heap.size<=wr.heap.size):=HX.out.sp.bel.size
     have s8:=aj (λw3 o g' e3 k1 k2 k3=>@akl w RW ES c4 OS i i mb a6 a8 _ _ vals _ U l _ wr w3 o g' e3 HX.out o6.out (by unfold maxLen;omega) o7.out k1 k2 k3)
     have s9:=aj (λw3 o k=>@ajk w RW ES c4 OS i i mb a6 a8 _ _ vals _ U l _ (RW i) l wr w3 o HX.out k)
     obtain⟨j0,t1,t2,t6,t7⟩:=info_parts Ip
     have t8:=o0.out
     go_wp2_with (at_builtin;refine wpList_append_lies _ rfl _ _ 32 rfl w.heap.size 24 j0 (.slice none 0 0) 1 24 underlying32 t1 t2 t6 t7 rfl (by decide) (.slice aN i cN) i vals rfl (p6.out.alloc _) ⟨wr.heap.size,0,none⟩ 1 1 [.slice (some ⟨wq.heap.size+1,0,none⟩) l l] rfl rfl (fV _ _ _) (λu hu=>by simp at hu;subst hu;rfl) (by omega) (by unfold maxLen;omega) (by omega) (by have:=s5.out;simp;omega) (wr.heap.size+1) (by simp) ?_;intro g' cg w5 e9 b4 j4 p7;have v6:=aj (s8.out w5 _ g' cg e9 b4 (by simpa using j4));have n8:=s9.out w5 _ b4;obtain⟨⟨a0,a1,a2,a3⟩,-⟩:=aC n8;clear e9 b4 j4 p7 n8)
     have HC:=aj (q7.out w5 U)
     unfold GQ at HC
     have v7:Hid (p U=ES i):=by show _=_;rw[<-l3.out];show p U=p ((aM d l J i).getD i 0);rw[<-l8.out,<-r7.out]
     rw[v7.out]at HC
     clear t8 a0 a1 a2 a3
     refine HC.out.mono ?_
     rintro e w6 ⟨rfl,d4⟩
     have j5:=aj (ML v6.out d4)
     clear d4 HC
     have p8:Hid (w6.ownsRow w.heap.size 4 1 (.slice aE i cE) i ((List.range i).map λj=>.bool (ES j))):=by have h:=j5.out.en.own;rw[List.length_map,List.length_range]at h;exact h
     have p9:Hid (w.heap.size<=w6.heap.size):=j5.out.bel.size
     have q4:=aj (λw7 o g2 e5 k1 k2 k3=>@akm w RW ES _ OS (i+1) i mb a6 a8 _ _ _ w6 w7 o g2 e5 j5.out k1 k2 k3)
     obtain⟨l0,v8,x4,x5,x6⟩:=info_parts DF
     go_wp2_with (at_builtin;refine wpList_append_lies _ rfl _ _ 33 rfl w.heap.size 4 l0 (.bool false) 1 1 underlying33 v8 x4 x5 x6 rfl (by decide) (.slice aE i cE) i _ rfl (p8.out.alloc _) ⟨w6.heap.size,0,none⟩ 1 1 [.bool (ES i)] rfl rfl (fV _ _ _) (λu hu=>by simp at hu;subst hu;rfl) (by omega) (by unfold maxLen;omega) (by omega) (by have:=p9.out;simp;omega) (w6.heap.size+1) (by simp) ?_;intro g2 e5 w7 f1 d5 j6 q5;have x7:=aj (q4.out w7 _ g2 e5 f1 d5 (by simpa using j6));clear f1 d5 j6 q5)
     go_roundg (B+1-(i+1))
     case measure=>have:=r6.out;omega
     case rel=>exact⟨i+1,a6,a8,_,_,rfl,by rw[j3.out],by rw[j3.out];omega,by rw[j3.out];exact x7.out⟩
  ·have g6: ¬(i:Int)<((aM d m J i).length:Int):=by omega
   have b5:Hid ((aM d m J i).length=i):=by show _=_;omega
   have n9:=aj (j7.out i (Nat.le_of_eq b5.out) (by omega))
   have x8:=aj (ahl c9.out (by unfold maxLen;omega) (gN d m (aM d m J i)) (by rw[kQ];exact b5.out) (λj hj=>by rw[<-e6.out];exact Er (Nat.le_of_eq b5.out) g5 j hj) (gE p (aM d m J i)) (by rw[Nn];exact b5.out) (λj hj=>by rw[<-l3.out];exact JG p (Nat.le_of_eq b5.out) g5 j hj))
   go_wp2
   go_ret2
   refine⟨aN,cN,aE,cE,?_,?_,c9.out.bel⟩
   ·rw[n9.out,kQ,b5.out];rfl
   ·rw[n9.out,kQ,b5.out];exact x8.out
theorem ajl{q:vY}(h:FU b q):GQ (ptN q)=Pf q:=by unfold GQ Pf;rw[(Gw h).1]
theorem ahX{c:Int}(h:Dn b C c=0)(less:Bool){s:Nat}(hs:s∈aM (Xn b C c less) (jH b C) 1506816 i):FU b (bZ s)/\s<3013824:=by obtain⟨u,hu,rfl⟩:=jF hs;exact⟨(NZ h less u hu).1.1,acT h less u hu⟩
theorem ahn{c:Int}(z:aU b (C.length:Int)=0):Dn b C c=Q9 C c:=by unfold Dn Q9;rw[yP z]
theorem OO{c:Int}(h:Dn b C c=0)(less:Bool)(f:FuncId)(cs:Array Value)(w:zW)(U: ∀(args:Array Value) (W:zW),(callFunc f args).run prog W=.ok (.enter f args) W)(Z:FC b (jH b C) (rG b C c less) f cs w):
  Calls prog 81 #[.int .i64 (jH b C:Int),.func (.func f) #[] cs,.func (.func 82) #[.agg #[.int .i64 (-c),.bool less]] #[]] w (OL w (Uv b C c less) (lpE b C c less)):=by
 obtain⟨hM,a1,hc⟩:=uO h
 obtain⟨h1,h2,-⟩:=bA hM
 obtain⟨m1,J⟩:=fQ hM
 exact OM f 82 cs (.agg #[.int .i64 (-c),.bool less]) (jH b C) 1506816 3013824 (Xn b C c less) (λs=>Cn c less (bZ s)) w rfl m1 J zr U (enters_of func82 (by kernel_rfl) rfl) (λi x hx=>(ahX h less hx).2)
  (λW s l i hW hs hl=>by have hp:=(ahX h less hs).1;have hq:=LZ (c:=c) (less:=less) h1 h2 a1 hc (Nat.lt_of_lt_of_le hl (Nat.le_trans J (by decide))) hp;have z:=Z W (bZ s) l hW hp hl;unfold zS at z;have e:GQ (Xn b C c less s l)=Pf (rG b C c less (bZ s) l):=ajl hq;rw[e];exact z)
  (λW s=>UC c less (bZ s) W)
theorem Vr:Cj:=by
 intro b a n cap C c less w hs;have hL:=hs.1;have HS:=aj hs;have b8:=aj (λW=>lU b (n:Int) W);have b6:=aj (zl w (.cells #[.int .i64 0,.int .i64 0,.slice none 0 0,.slice none 0 0] 35));have b3:=aj ((Below.refl w.heap.size w).alloc zr (.cells #[.int .i64 0,.int .i64 0,.slice none 0 0,.slice none 0 0] 35));have b5:Hid ((w.alloc (.cells #[.int .i64 0,.int .i64 0,.slice none 0 0,.slice none 0 0] 35)).heap.size=w.heap.size+1):=by show _=_;simp
 have HN:Hid (∀(e:Ending) (w':zW),Dn b C c≠0->dB w 0 0 [] [] (Dn b C c) e w'->dB w (bK (rW b C c less) b) (bK (rW b C c less) (n:Int)) (KG b C c less) (KH b C c less) (rW b C c less) e w'):=λe w' h1 h3=>by
  have hc:rW b C c less=Dn b C c:=by unfold rW;rw[yN h1]
  unfold KG KH;rw[hc,yN h1,yN h1];unfold bK;rw[yN h1,yN h1];exact h3
 generalize k5:w.alloc (.cells #[.int .i64 0,.int .i64 0,.slice none 0 0,.slice none 0 0] 35)=wb at b6 b3 b5;by_cases hM:aU b (n:Int)=0
 ·rw[hM,cB]at b8
  obtain⟨h1,h2,h3,h4,h5,h6⟩:=bA hM;obtain⟨m1,k6⟩:=fQ hM;have f5:aU b (C.length:Int)=0:=by rw[hL];exact hM
  have d0:jH b C=(aD b (n:Int)).toNat:=by unfold jH;rw[hL]
  have d1:=aj (yE a n cap C c wb (aF hs b3.out) (by omega));have f6:=ahn (c:=c) f5;rw[<-f6]at d1;clear f6;by_cases hF:Dn b C c=0
  ·obtain⟨-,d2,hc⟩:=uO hF
   rw[hF,cB]at d1;have f7:aD b (n:Int)=((jH b C:Nat):Int):=(by rw[d0];omega);have f8:=aj (λW h=>R5 b a n cap C W h hM d2);rw[<-d0,f7]at f8;rw[f7]at b8;have f9:=aj (λW h=>R3 a n cap C W h d2 (by omega));have g1:=aj (λg W h=>Ga b C c less (jH b C) g W h1 h2 d2 h);have g2:Hid (b=1-> ∀(g:Nat) (W:zW),Ag b C (jH b C) (jH b C) g W->Calls prog 80 #[.slice (some ⟨g,0,none⟩) (jH b C) (jH b C),tu (kY C) (kZ C),.agg #[.int .i64 (-c),.bool less]] W (MP W b (jH b C) (pG C c less) 106)):=λhb g W h=>by subst hb;exact KS C c less (jH 1 C) g W d2 (by rw[d0];exact k6) h
   have d3:=aj (λf cs W h1 h2=>OO hF less f cs W h1 h2);have k0:Hid (b≠1->rG b C c less=lQ b C c less):=λh=>by funext p x;unfold rG;rw[yN h]
   have k3:Hid (b=1->rG b C c less=pG C c less):=λh=>by funext p x;unfold rG;rw[yP h]
   obtain⟨hG,f0⟩:=aiD hF less;obtain⟨g3,j1⟩:=WM hF hG f0;have e4:Hid (bE (Uv b C c less) (lpE b C c less) (jH b C)=bE (lnP b C) (lnQ b C c less) (jH b C)):=(by show _=_;rw[<-aZ,<-aZ,g3]);have HY:Hid (∀(e:Ending) (w':zW),bE (Uv b C c less) (lpE b C c less) (jH b C)<=80->dB w b (n:Int) (aV (Uv b C c less) (lpE b C c less) (jH b C)) (aY (Uv b C c less) (lpE b C c less) (jH b C)) 0 e w'->dB w (bK (rW b C c less) b) (bK (rW b C c less) (n:Int)) (KG b C c less) (KH b C c less) (rW b C c less) e w'):=λe w' h1 h3=>by have hc:rW b C c less=0:=(by unfold rW;rw[yP hF,yP (by rw[<-e4.out];exact h1)]);unfold KG KH;rw[yP hc,yP hc,hc,<-g3,<-j1];exact h3
   have HZ:Hid (∀(e:Ending) (w':zW),80<bE (Uv b C c less) (lpE b C c less) (jH b C)->dB w 0 0 [] [] 3 e w'->dB w (bK (rW b C c less) b) (bK (rW b C c less) (n:Int)) (KG b C c less) (KH b C c less) (rW b C c less) e w'):=λe w' h1 h3=>by have hc:rW b C c less=3:=(by unfold rW;rw[yP hF,yN (by rw[<-e4.out];omega)]);unfold KG KH;rw[hc,yN (by decide),yN (by decide)];exact h3
   have j2:aK (aD b (n:Int)).toNat (Uv b C c less).length (Uv b C c less):=(by rw[<-d0];exact hG);have g4:=aj (λaN cN aE cE W k1 k2=>rF b (n:Int) aN (Uv b C c less).length cN _ (Uv b C c less) aE cE (lpE b C c less) W k1 k2 hG (qR hM j2 (by have:=hG.2.2.1;omega)));unfold rE jX at g4;unfold Vq at f8;unfold MP at g1 g2;unfold OL at d3;unfold tu at f9 g1 g2;clear HN hM f5 d0 f7 hs hL hF hG j2 f0 g3 j1 e4 h1 h2 h3 h4 h5 h6 d2;generalize jH b C=m at*;generalize k7:Uv b C c less=SN at*;generalize k8:lpE b C c less=SE at*;clear k7 k8;generalize bK (rW b C c less) b=OB at HY HZ⊢;generalize bK (rW b C c less) (n:Int)=OT at HY HZ⊢;generalize KG b C c less=RN at HY HZ⊢;generalize KH b C c less=RE at HY HZ⊢;generalize rW b C c less=RC at HY HZ⊢;go_enter func57,ntmps57
   go_wp2_with (first
    |(go_at_call 19;refine(b8.out _).mono ?_;rintro e w1 ⟨rfl,a6⟩;rw[a6];clear a6 w1)
    |(go_at_call 53;refine d1.out.mono ?_;rintro e w1 ⟨rfl,a6⟩;rw[a6];clear a6 w1)
    |(go_at_call 77;refine(f8.out _ (aF HS.out b3.out)).mono ?_;rintro e w1 ⟨g,rfl,hg,j3,f1⟩;have e5:=aj j3;have j4:=aj f1;clear hg j3 f1))
   clear k5;have b4:=aj (zl w1 (.cells #[.int .i64 (-c),.bool less] 98));have f2:=aj ((Below.refl w1.heap.size w1).alloc zr (.cells #[.int .i64 (-c),.bool less] 98));generalize w1.alloc (.cells #[.int .i64 (-c),.bool less] 98)=W3 at b4 f2⊢;have f3:Hid (Ag b C m m g W3):=e5.out.of_block (f2.out.block _ e5.out.lt);have d4:Hid (Below wb.heap.size wb W3):=ak j4.out f2.out;have j5:Hid (∀W,Below W3.heap.size W3 W->Sl W a n C):=λW hW=>aF HS.out (ak b3.out (ak d4.out hW));clear e5 f2 j4;go_cut[15] (λg5 wx=> ∃cs,g5=.func (.func 104) #[] cs/\Below W3.heap.size W3 wx/\FC b m (lQ b C c less) 104 cs wx)
   case first=>
    obtain⟨⟨v0,v1⟩,-⟩:=bL b4.out
    go_region_with (first
     |(go_at_call 79;refine(f9.out _ (j5.out _ (by first|exact zb.drew|exact below_drewN zb _))).mono ?_;rintro e w4 ⟨rfl,z⟩;have a8:Hid (Below W3.heap.size W3 w4):=⟨z.os,z.tape,z.output,z.size,z.block⟩;obtain⟨⟨u0,u1⟩,-⟩:=bL ((a8.out.block _ (zG b4.out).1).trans b4.out);have g6:Hid (Ag b C m m g w4):=f3.out.of_block (a8.out.block _ f3.out.lt);clear z)
     |(go_at_call 78;refine(g1.out g _ g6.out).mono ?_;rintro e w5 ⟨cs,rfl,d5,d6⟩;have g7:=aj (ak a8.out d5);have e6:=aj d6;clear d5 d6))
    all_goals
     go_wp2_with fail;go_meet;exact⟨_,rfl,g7.out,e6.out⟩
   case rest=>
    obtain⟨k9,rfl,z,g8⟩:=hcut;have a8:=aj z;have g9:=aj g8;clear z g8;by_cases hb:b=1
    ·have l1:=aj (k3.out hb)
     obtain⟨wo,j6⟩: ∃wo:zW,wo=wc:=⟨_,rfl⟩;rw[<-j6]at a8 g9⊢;clear j6 wc;rw[l1.out]at d3;have f1:(b==1)=true:=(by simp[hb]);have l3:=aj (g2.out hb);have l4:Hid (∀W,Below wo.heap.size wo W->Sl W a n C):=λW hW=>j5.out W (ak a8.out hW);have i1:=aj ((a8.out.block _ (zG b4.out).1).trans b4.out);have j7:Hid (Ag b C m m g wo):=f3.out.of_block (a8.out.block _ f3.out.lt);have l7:=aj hb;clear hb;go_wp2_with fail;go_cut[15] (λg5 wx=> ∃cs,g5=.func (.func 106) #[] cs/\Below wo.heap.size wo wx/\FC b m (pG C c less) 106 cs wx)
     case first=>
      obtain⟨⟨v0,v1⟩,-⟩:=bL i1.out
      go_region_with (first
       |(go_at_call 79;refine(f9.out _ (l4.out _ (by first|exact zb.drew|exact below_drewN zb _))).mono ?_;rintro e w4 ⟨rfl,z⟩;have e7:Hid (Below wo.heap.size wo w4):=⟨z.os,z.tape,z.output,z.size,z.block⟩;obtain⟨⟨u0,u1⟩,-⟩:=bL ((e7.out.block _ (zG i1.out).1).trans i1.out);have g6:Hid (Ag b C m m g w4):=j7.out.of_block (e7.out.block _ j7.out.lt);clear z)
       |(go_at_call 80;refine(l3.out g _ g6.out).mono ?_;rintro e w5 ⟨cs,rfl,d5,d6⟩;have g7:=aj (ak e7.out d5);have e6:=aj d6;clear d5 d6))
      all_goals
       go_wp2_with fail;go_meet;exact⟨_,rfl,g7.out,e6.out⟩
     case rest=>
      obtain⟨l5,rfl,j8,i2⟩:=hcut;have j9:=aj (ak a8.out j8);have k4:=aj i2;clear j8 i2;have b9:=aj (zl wc (.cells #[.int .i64 b,.int .i64 (n:Int),.slice none 0 0,.slice none 0 0] 35));have c0:=aj ((Below.refl wc.heap.size wc).alloc zr (.cells #[.int .i64 b,.int .i64 (n:Int),.slice none 0 0,.slice none 0 0] 35));have c3:=aj (ak j9.out c0.out);obtain⟨⟨v0,v1⟩,-⟩:=bL ((c3.out.block _ (zG b4.out).1).trans b4.out);have HC:=aj (d3.out 106 l5 _ (enters_of func106 (by kernel_rfl) rfl) (FD k4.out c0.out));go_wp2_with fail;generalize wc.alloc (.cells #[.int .i64 b,.int .i64 (n:Int),.slice none 0 0,.slice none 0 0] 35)=w7 at b9 c0 c3 HC v0 v1⊢;have d7:Hid (wc.heap.size<w7.heap.size):=(zG b9.out).1;clear v0 v1;refine HC.out.mono ?_;rintro e w8 ⟨aN,cN,aE,cE,rfl,c4,c5⟩;have c6:=(c5.block _ d7.out).trans b9.out;have i4:=aj c6;obtain⟨⟨q0,q1,q2,q3⟩,qf⟩:=aC c6;have i5:Hid (Below wb.heap.size wb w8):=ak d4.out (ak c3.out c5);have c7:=aj c4;clear c6 c4 c5 HC;go_wp2_with fail;have d8:Hid (wb.heap.size<=wc.heap.size):=Nat.le_trans d4.out.size j9.out.size;have b7:Hid (Below wb.heap.size wb ((w8.setCell ⟨wc.heap.size,2,none⟩ (.slice aN SN.length cN)).setCell ⟨wc.heap.size,3,none⟩ (.slice aE SN.length cE))):=(i5.out.setCell d8.out _).setCell d8.out _;obtain⟨d9,a7⟩:=c7.out ((w8.setCell ⟨wc.heap.size,2,none⟩ (.slice aN SN.length cN)).setCell ⟨wc.heap.size,3,none⟩ (.slice aE SN.length cE)) (λx hx e0=>by have h1:=d7.out;rw[Below.heap_setCell _ _ _ _ (show x≠wc.heap.size by omega),Below.heap_setCell _ _ _ _ (show x≠wc.heap.size by omega)]);have b0:=aj (g4.out aN cN aE cE _ d9 a7);clear q0 q1 q2 q3 qf d9 a7 i4 c7;generalize(w8.setCell ⟨wc.heap.size,2,none⟩ (.slice aN SN.length cN)).setCell ⟨wc.heap.size,3,none⟩ (.slice aE SN.length cE)=w9 at b7 b0⊢;generalize aV SN SE m=LN at b0 HY;generalize aY SN SE m=LE at b0 HY;generalize bE SN SE m=LK at b0 HY HZ;refine b0.out.mono ?_;rintro e i6 ⟨c8,a7⟩;by_cases hK:LK<=80
      ·obtain⟨a1,c1,a2,c2,rfl,e1,b1⟩:=c8 hK;have b2:=aj (ak b7.out b1);have hr:=(b2.out.block w.heap.size (by rw[b5.out];omega)).trans b6.out;obtain⟨⟨r0,r1,r2,r3⟩,rf⟩:=aC hr;have HR:=aj hr;have i7:=aj e1;have e8:Hid (w.heap.size+1<=w9.heap.size):=(by have h1:=b7.out.size;have h2:=b5.out;show _<=_;omega);have i8:=aj (λe w'=>HY.out e w' hK);clear hr e1 b1 c8 a7;go_wp2;obtain⟨⟨U,e2,c9⟩,Z⟩:=eO (v0:=.int .i64 b) (v1:=.int .i64 (n:Int)) (v2:=.slice a1 LN.length c1) (v3:=.slice a2 LN.length c2) HR.out rfl;have e9:dS w a1 LN.length LN a2 LE ((((i6.setCell ⟨w.heap.size,0,none⟩ (.int .i64 b)).setCell ⟨w.heap.size,1,none⟩ (.int .i64 (n:Int))).setCell ⟨w.heap.size,2,none⟩ (.slice a1 LN.length c1)).setCell ⟨w.heap.size,3,none⟩ (.slice a2 LN.length c2)):=λW' i9=>i7.out W' (λx hx e0=>by have h1:=e8.out;rw[i9 x (by omega) (by rw[e2];exact e0),c9 x (by omega)]);have hb:=Z w w.heap.size (ak b3.out b2.out) zr;obtain⟨⟨z0,z1,z2,z3⟩,-⟩:=aC U;exact bodyPost_ret (v:=.tuple #[.agg #[.int .i64 b,.int .i64 (n:Int),.slice a1 LN.length c1,.slice a2 LN.length c2],.nilIface]) (by simp[results,results57,go_sem,z0,z1,z2,z3]) rfl (i8.out _ _ ⟨a1,c1,a2,c2,rfl,e9,hb⟩)
      ·obtain⟨rfl,b1⟩:=a7 (by omega);have b2:=aj (ak b7.out b1);have hr:=(b2.out.block w.heap.size (by rw[b5.out];omega)).trans b6.out;obtain⟨⟨r0,r1,r2,r3⟩,rf⟩:=aC hr;have HR:=aj hr;have j0:=aj (λe w'=>HZ.out e w' (by omega));clear hr b1 c8 a7;go_wp2;obtain⟨⟨U,e2,c9⟩,Z⟩:=eF HR.out rfl;have hb:=Z w w.heap.size (ak b3.out b2.out) zr;obtain⟨⟨z0,z1,z2,z3⟩,-⟩:=aC U;exact bodyPost_ret (v:=.tuple #[.agg #[.int .i64 0,.int .i64 0,.slice none 0 0,.slice none 0 0],.iface 45 (.int .i64 3)]) (by simp[results,results57,go_sem,z0,z1,z2,z3]) rfl (j0.out _ _ ⟨none,0,none,0,rfl,dD _ _,hb⟩)
    ·have f1:(b==1)=false:=by simp[hb]
     have l6:=aj (k0.out hb);rw[l6.out]at d3;have b9:=aj (zl wc (.cells #[.int .i64 b,.int .i64 (n:Int),.slice none 0 0,.slice none 0 0] 35));have c0:=aj ((Below.refl wc.heap.size wc).alloc zr (.cells #[.int .i64 b,.int .i64 (n:Int),.slice none 0 0,.slice none 0 0] 35));have c3:=aj (ak a8.out c0.out);obtain⟨⟨v0,v1⟩,-⟩:=bL ((c3.out.block _ (zG b4.out).1).trans b4.out);have HC:=aj (d3.out 104 k9 _ (enters_of func104 (by kernel_rfl) rfl) (FD g9.out c0.out));go_wp2_with fail;generalize wc.alloc (.cells #[.int .i64 b,.int .i64 (n:Int),.slice none 0 0,.slice none 0 0] 35)=w7 at b9 c0 c3 HC v0 v1⊢;have d7:Hid (wc.heap.size<w7.heap.size):=(zG b9.out).1;clear v0 v1;refine HC.out.mono ?_;rintro e w8 ⟨aN,cN,aE,cE,rfl,c4,c5⟩;have c6:=(c5.block _ d7.out).trans b9.out;have i4:=aj c6;obtain⟨⟨q0,q1,q2,q3⟩,qf⟩:=aC c6;have i5:Hid (Below wb.heap.size wb w8):=ak d4.out (ak c3.out c5);have c7:=aj c4;clear c6 c4 c5 HC;go_wp2_with fail;have d8:Hid (wb.heap.size<=wc.heap.size):=Nat.le_trans d4.out.size a8.out.size;have b7:Hid (Below wb.heap.size wb ((w8.setCell ⟨wc.heap.size,2,none⟩ (.slice aN SN.length cN)).setCell ⟨wc.heap.size,3,none⟩ (.slice aE SN.length cE))):=(i5.out.setCell d8.out _).setCell d8.out _;obtain⟨d9,a7⟩:=c7.out ((w8.setCell ⟨wc.heap.size,2,none⟩ (.slice aN SN.length cN)).setCell ⟨wc.heap.size,3,none⟩ (.slice aE SN.length cE)) (λx hx e0=>by have h1:=d7.out;rw[Below.heap_setCell _ _ _ _ (show x≠wc.heap.size by omega),Below.heap_setCell _ _ _ _ (show x≠wc.heap.size by omega)]);have b0:=aj (g4.out aN cN aE cE _ d9 a7);clear q0 q1 q2 q3 qf d9 a7 i4 c7;generalize(w8.setCell ⟨wc.heap.size,2,none⟩ (.slice aN SN.length cN)).setCell ⟨wc.heap.size,3,none⟩ (.slice aE SN.length cE)=w9 at b7 b0⊢;generalize aV SN SE m=LN at b0 HY;generalize aY SN SE m=LE at b0 HY;generalize bE SN SE m=LK at b0 HY HZ;refine b0.out.mono ?_;rintro e i6 ⟨c8,a7⟩;by_cases hK:LK<=80
     ·obtain⟨a1,c1,a2,c2,rfl,e1,b1⟩:=c8 hK;have b2:=aj (ak b7.out b1);have hr:=(b2.out.block w.heap.size (by rw[b5.out];omega)).trans b6.out;obtain⟨⟨r0,r1,r2,r3⟩,rf⟩:=aC hr;have HR:=aj hr;have i7:=aj e1;have e8:Hid (w.heap.size+1<=w9.heap.size):=(by have h1:=b7.out.size;have h2:=b5.out;show _<=_;omega);have i8:=aj (λe w'=>HY.out e w' hK);clear hr e1 b1 c8 a7;go_wp2;obtain⟨⟨U,e2,c9⟩,Z⟩:=eO (v0:=.int .i64 b) (v1:=.int .i64 (n:Int)) (v2:=.slice a1 LN.length c1) (v3:=.slice a2 LN.length c2) HR.out rfl;have e9:dS w a1 LN.length LN a2 LE ((((i6.setCell ⟨w.heap.size,0,none⟩ (.int .i64 b)).setCell ⟨w.heap.size,1,none⟩ (.int .i64 (n:Int))).setCell ⟨w.heap.size,2,none⟩ (.slice a1 LN.length c1)).setCell ⟨w.heap.size,3,none⟩ (.slice a2 LN.length c2)):=λW' i9=>i7.out W' (λx hx e0=>by have h1:=e8.out;rw[i9 x (by omega) (by rw[e2];exact e0),c9 x (by omega)]);have hb:=Z w w.heap.size (ak b3.out b2.out) zr;obtain⟨⟨z0,z1,z2,z3⟩,-⟩:=aC U;exact bodyPost_ret (v:=.tuple #[.agg #[.int .i64 b,.int .i64 (n:Int),.slice a1 LN.length c1,.slice a2 LN.length c2],.nilIface]) (by simp[results,results57,go_sem,z0,z1,z2,z3]) rfl (i8.out _ _ ⟨a1,c1,a2,c2,rfl,e9,hb⟩)
     ·obtain⟨rfl,b1⟩:=a7 (by omega);have b2:=aj (ak b7.out b1);have hr:=(b2.out.block w.heap.size (by rw[b5.out];omega)).trans b6.out;obtain⟨⟨r0,r1,r2,r3⟩,rf⟩:=aC hr;have HR:=aj hr;have j0:=aj (λe w'=>HZ.out e w' (by omega));clear hr b1 c8 a7;go_wp2;obtain⟨⟨U,e2,c9⟩,Z⟩:=eF HR.out rfl;have hb:=Z w w.heap.size (ak b3.out b2.out) zr;obtain⟨⟨z0,z1,z2,z3⟩,-⟩:=aC U;exact bodyPost_ret (v:=.tuple #[.agg #[.int .i64 0,.int .i64 0,.slice none 0 0,.slice none 0 0],.iface 45 (.int .i64 3)]) (by simp[results,results57,go_sem,z0,z1,z2,z3]) rfl (j0.out _ _ ⟨none,0,none,0,rfl,dD _ _,hb⟩)
  ·have J:=aj (λe w'=>HN.out e w' hF)
   rw[dx hF]at d1;have e3:=aj hF;clear hF HN hM f5 d0 hs hL;generalize Dn b C c=F at d1 J e3;generalize bK (rW b C c less) b=OB at J⊢;generalize bK (rW b C c less) (n:Int)=OT at J⊢;generalize KG b C c less=RN at J⊢;generalize KH b C c less=RE at J⊢;generalize rW b C c less=RC at J⊢;obtain⟨⟨r0,r1,r2,r3⟩,rf⟩:=aC b6.out;go_enter func57,ntmps57
   go_wp2_with (first
    |(go_at_call 19;refine(b8.out _).mono ?_;rintro e w1 ⟨rfl,a6⟩;rw[a6];clear a6 w1)
    |(go_at_call 53;refine d1.out.mono ?_;rintro e w1 ⟨rfl,a6⟩;rw[a6];clear a6 w1))
   obtain⟨⟨U,-,-⟩,Z⟩:=eF b6.out rfl;have hb:=Z w w.heap.size b3.out zr;obtain⟨⟨z0,z1,z2,z3⟩,-⟩:=aC U;exact bodyPost_ret (v:=.tuple #[.agg #[.int .i64 0,.int .i64 0,.slice none 0 0,.slice none 0 0],.iface 45 (.int .i64 F)]) (by simp[results,results57,go_sem,z0,z1,z2,z3]) rfl (J.out _ _ ⟨none,0,none,0,by rw[dx e3.out];rfl,dD _ _,hb⟩)
 ·have hF:Dn b C c=aU b (n:Int):=by unfold Dn;rw[hL,yN hM]
  have J:=aj (λe w'=>HN.out e w' (by rw[hF];exact hM));rw[hF]at J;rw[dx hM]at b8;have e3:=aj hM;clear hF HN hM hs hL;generalize aU b (n:Int)=F at b8 J e3;generalize aD b (n:Int)=mu at b8;generalize bK (rW b C c less) b=OB at J⊢;generalize bK (rW b C c less) (n:Int)=OT at J⊢;generalize KG b C c less=RN at J⊢;generalize KH b C c less=RE at J⊢;generalize rW b C c less=RC at J⊢;obtain⟨⟨r0,r1,r2,r3⟩,rf⟩:=aC b6.out;go_enter func57,ntmps57;go_wp2_with (go_at_call 19;refine(b8.out _).mono ?_;rintro e w1 ⟨rfl,a6⟩;rw[a6];clear a6 w1);obtain⟨⟨U,-,-⟩,Z⟩:=eF b6.out rfl;have hb:=Z w w.heap.size b3.out zr;obtain⟨⟨z0,z1,z2,z3⟩,-⟩:=aC U;exact bodyPost_ret (v:=.tuple #[.agg #[.int .i64 0,.int .i64 0,.slice none 0 0,.slice none 0 0],.iface 45 (.int .i64 F)]) (by simp[results,results57,go_sem,z0,z1,z2,z3]) rfl (J.out _ _ ⟨none,0,none,0,by rw[dx e3.out];rfl,dD _ _,hb⟩)
theorem ahK(x hi:Int)(h:dJ b N O≠0):Zj b N O x hi=dJ b N O:=by unfold Zj;rw[yN h]
theorem ahL{x hi:Int}(h:dJ b N O=0)(hx: ¬(0<=x/\x<=hi)):Zj b N O x hi=1:=by unfold Zj;rw[yP h,yN hx]
theorem ajA{x hi:Int}(h:dJ b N O=0)(hx:0<=x/\x<=hi):Zj b N O x hi=0:=by unfold Zj;rw[yP h,yP hx]
theorem yM:aiw:=by
 intro b a n cap ao no co N O x w hs ho;have U:=aj (acI w b a n cap ao no co 71 hs ho);have c5:=aj (λW h1 h2=>iB b a n cap ao no co N O W h1 h2);have hL:=hs.1;have c6:=ho.1;unfold lH at c5⊢;clear hs ho;obtain⟨⟨c0,c1,c2⟩,a7,a8,z⟩:=U.out _ zb;have Z:=aj (c5.out _ a7 a8);clear c5 a7 a8 z;by_cases hC:dJ b N O=0
 ·obtain⟨h1,h2,d3,hO,hG,b3⟩:=cK hC
  obtain⟨k1,k2,k3⟩:=eY h1 h2;rw[hC,cB]at Z;have a2:=aj (λW=>ajG b x W);by_cases hx:0<=x/\x<=1099511627776
  ·have e1:Zj b N O x 1099511627776=0:=ajA hC hx
   have e2:atV b N O x=AL b N O x:=(by unfold atV;rw[yP e1]);rw[e1,e2,cB];clear e1 e2;have b4:oO b x=zU b x:=(by unfold oO;rw[yP ⟨⟨h1,h2⟩,hx⟩]);have b5:iQ b x=0:=(by unfold iQ;rw[yP ⟨⟨h1,h2⟩,hx⟩]);rw[b4,b5,cB]at a2;unfold Pj at a2;have b0:=GZ b x h1 h2 hx.1 hx.2;have e3:=GY b x;have b6:Hid (∀j,j<(zU b x).length->0<=(zU b x).getD j 0/\(zU b x).getD j 0<(((au b).toNat:Nat):Int)):=λj hj=>by unfold gZ at b0;rw[List.all_eq_true]at b0;have:=b0 ((zU b x).getD j 0) (by rw[aS _ j hj];exact List.getElem_mem hj);rw[k3];simpa using this
   have c4:Hid (∀j,j<=(zU b x).length->bR N ((zU b x).take j)<n):=λj hj=>by have:=yV hG (zU b x) j hj (λi hi=>b6.out i (by omega));rw[hL]at this;exact this
   have c7:Hid (∀j,j<(zU b x).length->((bR N ((zU b x).take (j+1)):Nat):Int)=(N.getD (bR N ((zU b x).take j)) []).getD ((zU b x).getD j 0).toNat 0):=λj hj=>by rw[qU N _ j hj];exact(lV hG _ (by rw[hL];exact c4.out j (by omega)) _ (b6.out j hj)).2
   have c8:Hid (∀s,s<n->(N.getD s []).length=(au b).toNat):=λs f3=>(hG.2.2.2.2.2 s (by omega)).1;have a6:Hid (AL b N O x=O.getD (bR N ((zU b x).take (zU b x).length)) 0):=(by show _=_;rw[List.take_length];rfl);have d4:Hid (no=n):=(by show _=_;omega);have f1:n<=20:=(by omega);clear hC b4 b5 b0 hG b3 hO hL c6 d3;generalize zU b x=D at a2 e3 b6 c4 c7 a6;generalize AL b N O x=SV at a6⊢;generalize(au b).toNat=k at b6 c8 k1 k2 k3;go_enter func32,ntmps32;go_wp2_with fail;generalize w.alloc (.cells #[.int .i64 b,.slice a n cap,.slice ao no co] 71)=wb at U Z c0 c1 c2⊢;clear c0 c1 c2;refine Z.out.mono ?_;rintro e wc ⟨rfl,J⟩;have b7:=aj J;obtain⟨⟨c0,c1,c2⟩,-⟩:=U.out wc J;clear J;go_wp2_with fail;clear c0 c1 c2;refine(a2.out wc).mono ?_;rintro e w1 ⟨ad,cd,rfl,d5,b8⟩;have e4:=aj d5.1;have e5:=aj (ak b7.out b8);clear d5 b8 a2 b7;go_wp2_with fail;go_loopw[9,29] (λsv iv wx=> ∃j:Nat,j<=D.length/\iv=.int .i64 j/\sv=.int .i64 ((bR N (D.take j):Nat):Int)/\Below w1.heap.size w1 wx) (λ_ iv _=>D.length-(intOf iv).toNat);case atStart=>exact⟨0,by omega,rfl,rfl,zb⟩
   case round=>
    obtain⟨j,hj,rfl,rfl,b9⟩:=hrel;have e6:=aj b9;obtain⟨⟨c0,c1,c2⟩,a7,a8,z⟩:=U.out wr (ak e5.out b9);have c3:=aj z;have hrun:=c4.out j hj;have b2:((bR N (D.take j):Nat):Int)<(n:Int):=(by omega);by_cases c9:j<D.length
    ·have e0:(j:Int)<(D.length:Int):=by omega
     obtain⟨bb,o,a1,f5,rfl,d6,d0⟩:=gF a7 (bR N (D.take j)) hrun;obtain⟨bd,od,rfl,e7⟩:=bH (aF e4.out b9) j c9;have hd:=b6.out j c9;have d1:=aj (c7.out j c9);have d7:=c8.out _ hrun;obtain⟨dn,d8⟩: ∃dn:Nat,D.getD j 0=(dn:Int):=⟨(D.getD j 0).toNat,by omega⟩;rw[d8]at e7 hd d1;rw[Int.toNat_natCast]at d1;rw[d7]at d6 d0;have e8:dn<k:=(by omega);have f2:(dn:Int)<(k:Int):=(by omega);obtain⟨b1,o1,rfl,e9⟩:=bH d0 dn e8;rw[<-d1.out]at e9;clear a7 a8 z b9 d0 d7 d8 hd;generalize hR:bR N (D.take j)=R at d6 hrun b2;clear hR;go_wp2;go_roundw;case rel=>exact⟨j+1,by omega,by go_num,rfl,e6.out⟩
     case measure=>simp[intOf];omega
    ·have e0: ¬(j:Int)<(D.length:Int):=by omega
     have f0:D.length=j:=(by omega);rw[f0]at a6;obtain⟨bo,oo,rfl,d9⟩:=bH a8 (bR N (D.take j)) (by rw[d4.out];exact hrun);rw[<-a6.out]at d9;have d2:((bR N (D.take j):Nat):Int)<(no:Int):=(by rw[d4.out];exact b2);clear a7 a8 z b9 a6;generalize hR:bR N (D.take j)=R at d9 hrun b2 d2;clear hR;go_wp2;go_ret2;exact⟨by simp,c3.out⟩
  ·have e1:Zj b N O x 1099511627776=1:=ahL hC hx;have e2:atV b N O x=0:=(by unfold atV;rw[yN (by rw[e1];decide)]);rw[e1,e2];have b4:oO b x=[]:=(by unfold oO;rw[yN (λh=>hx h.2)]);have b5:iQ b x=1:=(by unfold iQ;rw[yN (λh=>hx h.2)]);rw[b4,b5,kD (by decide)]at a2;rw[kD (by decide)];unfold Pj at a2;clear e1 e2 hC b4 b5 hG b3 hO hL c6 d3 hx;go_enter func32,ntmps32;go_wp2_with fail;generalize w.alloc (.cells #[.int .i64 b,.slice a n cap,.slice ao no co] 71)=wb at U Z c0 c1 c2⊢;clear c0 c1 c2;refine Z.out.mono ?_;rintro e wc ⟨rfl,J⟩;have b7:=aj J;obtain⟨⟨c0,c1,c2⟩,-⟩:=U.out wc J;clear J;go_wp2_with fail;clear c0 c1 c2;refine(a2.out wc).mono ?_;rintro e w1 ⟨ad,cd,rfl,-,b8⟩;obtain⟨-,-,-,z⟩:=U.out w1 (ak b7.out b8);have c3:=aj z;clear b8 a2 b7 z;go_wp2;go_ret2;exact⟨by simp,c3.out⟩
 ·have e1:=ahK x 1099511627776 hC
  have e2:atV b N O x=0:=by unfold atV;rw[yN (by rw[e1];exact hC)]
  rw[e1,e2];rw[kD hC]at Z⊢;generalize dJ b N O=c at Z⊢;clear e1 e2 hC hL c6;go_enter func32,ntmps32;go_wp2_with fail;generalize w.alloc (.cells #[.int .i64 b,.slice a n cap,.slice ao no co] 71)=wb at U Z c0 c1 c2⊢;clear c0 c1 c2;refine Z.out.mono ?_;rintro e wc ⟨rfl,J⟩;obtain⟨-,-,-,z⟩:=U.out wc J;have c3:=aj z;clear J z;go_wp2;go_ret2;exact⟨by simp,c3.out⟩
end Go.Proofs.YtceojneljnnooaaGreat
