import Derived.Test.YtceojneljnnooaaGreatBx
import Derived.Test.YtceojneljnnooaaGreatZAt
import Derived.Deep.RegionWith
open Go.Proofs.Tryz
namespace Go.Proofs.YtceojneljnnooaaGreat
open Go.RowKit
set_option maxHeartbeats 0
set_option maxRecDepth 100000
set_option linter.all false
variable{W:zW}{cap b M n:Nat}{l:zI}{Q:Exit->Act->zW->Prop}{cs:Array Value}{ops:Array Oper}{rest:List Oper}
def jX(w:zW)(b t:Int)(N:zL)(E:zB)(m:Nat)(e:Ending)(w':zW):Prop:=
 ∃a c a' c',e=.returned (.tuple #[.agg #[.int .i64 b,.int .i64 t,.slice a (aV N E m).length c,.slice a' (aV N E m).length c'],.nilIface])/\dS w a (aV N E m).length (aV N E m) a' (aY N E m) w'/\Below w.heap.size w w'
def rE(w:zW)(b t:Int)(N:zL)(E:zB)(m:Nat)(e:Ending)(w':zW):Prop:=
 (bE N E m<=80->jX w b t N E m e w')/\(80<bE N E m->e=.returned (.tuple #[.agg #[.int .i64 0,.int .i64 0,.slice none 0 0,.slice none 0 0],.iface 45 (.int .i64 3)])/\Below w.heap.size w w')
theorem IV(b t:Int)(a:zO)(n cap m:Nat)(N:zL)(a':zO)(z:Nat)(E:zB)(b7:zO)(cs:Nat)(w:zW)(hs:gT w a n N)(hG:aK m n N)(he:mR w a' n E)(b1:Sl w b7 (aR N).length (aR N)):
  Calls prog 89 #[.agg #[.int .i64 b,.int .i64 t,.slice a n cap,.slice a' n z],.slice b7 (aR N).length cs] w (rE w b t N E m):=by
 have b2:Below w.heap.size w ((w.alloc (.cells #[.int .i64 b,.int .i64 t,.slice a n cap,.slice a' n z] 35)).alloc (.cells #[.int .i64 0,.int .i64 0,.slice none 0 0,.slice none 0 0] 35)):=(zb.alloc zr _).alloc (by simp) _
 have c0:=aj b2
 have HS:=aj (aG hs b2)
 have HE:=aj (bD he b2)
 have c3:=aj (λW (h:Below _ _ W)=>(@jw w W (.int .i64 b) (.int .i64 t) (.slice a n cap) (.slice a' n z) (.int .i64 0) (.int .i64 0) (.slice none 0 0) (.slice none 0 0) 35 h).1)
 have a8:=aj (zl (w.alloc (.cells #[.int .i64 b,.int .i64 t,.slice a n cap,.slice a' n z] 35)) (.cells #[.int .i64 0,.int .i64 0,.slice none 0 0,.slice none 0 0] 35))
 rw[World.size_alloc]at a8
 have c4:=aj (aF b1 b2)
 have a1:=aj (Qv b t a n cap m N a' z E b7 cs _ HS.out hG HE.out c4.out)
 unfold aic aib at a1
 have b8:=aj (λK ac cc W h1 h2 h3 h4=>Y7 b t a n cap m N a' z E (bW N E m (K+1)) (iR N E m (K+1)) b7 cs ac cc W h1 hG h2 h3 h4)
 unfold uG at b8
 have a2:=aj (λK h=>@Hy m n N hG E K h)
 clear hs he hG b1 b2
 generalize d4:(w.alloc (.cells #[.int .i64 b,.int .i64 t,.slice a n cap,.slice a' n z] 35)).alloc (.cells #[.int .i64 0,.int .i64 0,.slice none 0 0,.slice none 0 0] 35)=wb at c0 HS HE c3 a8 c4 a1
 have b4:Hid (wb.heap.size=w.heap.size+2):=by show _=_;rw[<-d4];simp
 obtain⟨c5,c6,c7,c8⟩:=c3.out wb zb
 unfold rE jX
 generalize d8:aV N E m=LN at a2⊢
 generalize d9:aY N E m=LE at a2⊢
 generalize e0:bE N E m=LK at a2 a1⊢
 clear d8 d9 e0
 go_enter func89,ntmps89
 go_wp2_with fail
 clear d4 c5 c6 c7 c8
 refine a1.out.mono ?_
 rintro e w1 ⟨b5,c9⟩
 by_cases hK:LK<=80
 ·obtain⟨K,bf,b1,rfl,e3,d5,a6⟩:=b5 hK
  have b9:=aj a6
  have hm:=b8.out K (some ⟨bf,0,none⟩) n w1 (aG HS.out a6) (bD HE.out a6) (aF c4.out a6) d5
  obtain⟨-,e1,e2,-⟩:=a2.out K b1
  rw[e1,e2]at hm
  have HM:=aj hm
  obtain⟨c5,c6,c7,c8⟩:=c3.out w1 a6
  clear b5 c9 b1 e3 d5 a6 e1 e2 hm b8 a2 a1
  go_wp2_with fail
  clear c5 c6 c7 c8
  refine HM.out.mono ?_
  rintro e w3 ⟨ax,cx,a7,b3,rfl,d0,U⟩
  have J:=((ak b9.out U).block (w.heap.size+1) (by have:=b4.out;omega)).trans a8.out
  have b0:=aj J
  have d1:=aj (ak c0.out (ak b9.out U))
  have d7:=aj d0
  have e4:=aj b9.out.size
  obtain⟨⟨o0,o1,o2,o3⟩,of⟩:=aC J
  clear J d0 U
  go_wp2
  obtain⟨⟨Z,d6,d2⟩,b6⟩:=eO (v0:=.int .i64 b) (v1:=.int .i64 t) (v2:=.slice ax LN.length cx) (v3:=.slice a7 LN.length b3) b0.out rfl
  have d3:dS w ax LN.length LN a7 LE ((((w3.setCell ⟨w.heap.size+1,0,none⟩ (.int .i64 b)).setCell ⟨w.heap.size+1,1,none⟩ (.int .i64 t)).setCell ⟨w.heap.size+1,2,none⟩ (.slice ax LN.length cx)).setCell ⟨w.heap.size+1,3,none⟩ (.slice a7 LN.length b3)):=λW' e5=>d7.out W' (λx hx e6=>by have h1:=e4.out;have h2:=b4.out;rw[e5 x (by omega) (by rw[d6];exact e6),d2 x (by omega)])
  have hb:=b6 w w.heap.size d1.out (by omega)
  generalize(((w3.setCell ⟨w.heap.size+1,0,none⟩ (.int .i64 b)).setCell ⟨w.heap.size+1,1,none⟩ (.int .i64 t)).setCell ⟨w.heap.size+1,2,none⟩ (.slice ax LN.length cx)).setCell ⟨w.heap.size+1,3,none⟩ (.slice a7 LN.length b3)=wZ at Z d3 hb⊢
  obtain⟨⟨z0,z1,z2,z3⟩,-⟩:=aC Z
  exact bodyPost_ret (v:=.tuple #[.agg #[.int .i64 b,.int .i64 t,.slice ax LN.length cx,.slice a7 LN.length b3],.nilIface]) (by simp[results,results89,go_sem,z0,z1,z2,z3]) rfl ⟨λ_=>⟨ax,cx,a7,b3,rfl,d3,hb⟩,λh=>by omega⟩
 ·obtain⟨rfl,U⟩:=c9 (by omega)
  have b9:=aj (Below.refl wb.heap.size wb)
  clear b5 c9 b8 a2 a1
  have J:=((U).block (w.heap.size+1) (by have:=b4.out;omega)).trans a8.out
  have b0:=aj J
  have d1:=aj (ak c0.out (U))
  obtain⟨⟨o0,o1,o2,o3⟩,of⟩:=aC J
  clear J U
  go_wp2
  obtain⟨⟨Z,d6,d2⟩,b6⟩:=eF b0.out rfl
  have hb:=b6 w w.heap.size d1.out (by omega)
  generalize(((w1.setCell ⟨w.heap.size+1,0,none⟩ (.int .i64 0)).setCell ⟨w.heap.size+1,1,none⟩ (.int .i64 0)).setCell ⟨w.heap.size+1,2,none⟩ (.slice none 0 0)).setCell ⟨w.heap.size+1,3,none⟩ (.slice none 0 0)=wZ at Z hb⊢
  obtain⟨⟨z0,z1,z2,z3⟩,-⟩:=aC Z
  exact bodyPost_ret (v:=.tuple #[.agg #[.int .i64 0,.int .i64 0,.slice none 0 0,.slice none 0 0],.iface 45 (.int .i64 3)]) (by simp[results,results89,go_sem,z0,z1,z2,z3]) rfl ⟨λh=>by omega,λ_=>⟨rfl,hb⟩⟩
theorem Zc(b t:Int)(a:zO)(n cap m:Nat)(N:zL)(a':zO)(z:Nat)(E:zB)(w:zW)(hs:gT w a n N)(he:mR w a' n E)(hG:aK m n N)(hA:bP b t N n=0):
  Calls prog 59 #[.agg #[.int .i64 b,.int .i64 t,.slice a n cap,.slice a' n z]] w (rE w b t N E m):=by
 have b5:Below w.heap.size w ((w.alloc (.cells #[.int .i64 b,.int .i64 t,.slice a n cap,.slice a' n z] 35)).alloc (.cells #[.int .i64 0,.int .i64 0,.slice none 0 0,.slice none 0 0] 35)):=(zb.alloc zr _).alloc (by simp) _
 have b7:=aj b5
 have HS:=aj (aG hs b5)
 have HE:=aj (bD he b5)
 have b8:=aj (λW (h:Below _ _ W)=>(@jw w W (.int .i64 b) (.int .i64 t) (.slice a n cap) (.slice a' n z) (.int .i64 0) (.int .i64 0) (.slice none 0 0) (.slice none 0 0) 35 h).1)
 have a6:=aj (zl (w.alloc (.cells #[.int .i64 b,.int .i64 t,.slice a n cap,.slice a' n z] 35)) (.cells #[.int .i64 0,.int .i64 0,.slice none 0 0,.slice none 0 0] 35))
 rw[World.size_alloc]at a6
 have b6:=aj (λW h=>aga b t a a' n cap n z N W h he.2.1)
 rw[show ND b t N n=aR N by unfold ND;rw[yP hA],hA,dz rfl]at b6
 unfold Pj at b6
 have a1:=aj (λd5 cs W h1 h2 h3=>IV b t a n cap m N a' z E d5 cs W h1 hG h2 h3)
 unfold rE jX at a1⊢
 clear hs he hA hG b5
 generalize d1:(w.alloc (.cells #[.int .i64 b,.int .i64 t,.slice a n cap,.slice a' n z] 35)).alloc (.cells #[.int .i64 0,.int .i64 0,.slice none 0 0,.slice none 0 0] 35)=wb at b7 HS HE b8 a6
 have b2:Hid (wb.heap.size=w.heap.size+2):=by show _=_;rw[<-d1];simp
 obtain⟨b9,c0,c3,c4⟩:=b8.out wb zb
 generalize d6:aV N E m=LN at a1⊢
 generalize d7:aY N E m=LE at a1⊢
 generalize d8:bE N E m=LK at a1⊢
 clear d6 d7 d8
 go_enter func59,ntmps59
 go_wp2_with fail
 clear d1 b9 c0 c3 c4
 refine(b6.out wb HS.out).mono ?_
 rintro e w1 ⟨ar,cr,rfl,⟨d2,-⟩,a8⟩
 have b0:=aj a8
 obtain⟨b9,c0,c3,c4⟩:=b8.out w1 a8
 have c5:=aj (a1.out ar cr w1 (aG HS.out a8) (bD HE.out a8) d2)
 clear d2 a8 b6 a1
 go_wp2_with fail
 clear b9 c0 c3 c4
 refine c5.out.mono ?_
 rintro e w3 ⟨b3,c6⟩
 by_cases hK:LK<=80
 ·obtain⟨ax,cx,a2,b1,rfl,c7,U⟩:=b3 hK
  clear b3 c6 c5
  have J:=((ak b0.out U).block (w.heap.size+1) (by have:=b2.out;omega)).trans a6.out
  have a7:=aj J
  have c8:=aj (ak b7.out (ak b0.out U))
  have d4:=aj c7
  have d9:=aj b0.out.size
  obtain⟨⟨o0,o1,o2,o3⟩,of⟩:=aC J
  clear J c7 U
  go_wp2
  obtain⟨⟨Z,d3,c9⟩,b4⟩:=eO (v0:=.int .i64 b) (v1:=.int .i64 t) (v2:=.slice ax LN.length cx) (v3:=.slice a2 LN.length b1) a7.out rfl
  have d0:dS w ax LN.length LN a2 LE ((((w3.setCell ⟨w.heap.size+1,0,none⟩ (.int .i64 b)).setCell ⟨w.heap.size+1,1,none⟩ (.int .i64 t)).setCell ⟨w.heap.size+1,2,none⟩ (.slice ax LN.length cx)).setCell ⟨w.heap.size+1,3,none⟩ (.slice a2 LN.length b1)):=λW' e0=>d4.out W' (λx hx e1=>by have h1:=d9.out;have h2:=b2.out;rw[e0 x (by omega) (by rw[d3];exact e1),c9 x (by omega)])
  have hb:=b4 w w.heap.size c8.out (by omega)
  generalize(((w3.setCell ⟨w.heap.size+1,0,none⟩ (.int .i64 b)).setCell ⟨w.heap.size+1,1,none⟩ (.int .i64 t)).setCell ⟨w.heap.size+1,2,none⟩ (.slice ax LN.length cx)).setCell ⟨w.heap.size+1,3,none⟩ (.slice a2 LN.length b1)=wZ at Z d0 hb⊢
  obtain⟨⟨z0,z1,z2,z3⟩,-⟩:=aC Z
  exact bodyPost_ret (v:=.tuple #[.agg #[.int .i64 b,.int .i64 t,.slice ax LN.length cx,.slice a2 LN.length b1],.nilIface]) (by simp[results,results59,go_sem,z0,z1,z2,z3]) rfl ⟨λ_=>⟨ax,cx,a2,b1,rfl,d0,hb⟩,λh=>by omega⟩
 ·obtain⟨rfl,U⟩:=c6 (by omega)
  clear b3 c6 c5
  have J:=((ak b0.out U).block (w.heap.size+1) (by have:=b2.out;omega)).trans a6.out
  have a7:=aj J
  have c8:=aj (ak b7.out (ak b0.out U))
  obtain⟨⟨o0,o1,o2,o3⟩,of⟩:=aC J
  clear J U
  go_wp2
  obtain⟨⟨Z,d3,c9⟩,b4⟩:=eF a7.out rfl
  have hb:=b4 w w.heap.size c8.out (by omega)
  generalize(((w3.setCell ⟨w.heap.size+1,0,none⟩ (.int .i64 0)).setCell ⟨w.heap.size+1,1,none⟩ (.int .i64 0)).setCell ⟨w.heap.size+1,2,none⟩ (.slice none 0 0)).setCell ⟨w.heap.size+1,3,none⟩ (.slice none 0 0)=wZ at Z hb⊢
  obtain⟨⟨z0,z1,z2,z3⟩,-⟩:=aC Z
  exact bodyPost_ret (v:=.tuple #[.agg #[.int .i64 0,.int .i64 0,.slice none 0 0,.slice none 0 0],.iface 45 (.int .i64 3)]) (by simp[results,results59,go_sem,z0,z1,z2,z3]) rfl ⟨λh=>by omega,λ_=>⟨rfl,hb⟩⟩
theorem xW(b t:Int)(a:zO)(n cap:Nat)(N:zL)(a':zO)(z:Nat)(E:zB)(w:zW)(hs:gT w a n N)(U:mR w a' n E)(J:bP b t N n=0):
  Calls prog 59 #[.agg #[.int .i64 b,.int .i64 t,.slice a n cap,.slice a' n z]] w (jX w b t N E (aD b t).toNat):=by
 obtain⟨-,-,hG,-⟩:=bS J
 rw[hs.1]at hG
 refine(Zc b t a n cap _ N a' z E w hs U hG J).mono ?_
 rintro e w' ⟨h,-⟩
 exact h (uq hG E (by have:=eH J;rw[hs.1]at this;exact this))
theorem rF(b t:Int)(a:zO)(n cap m:Nat)(N:zL)(a':zO)(z:Nat)(E:zB)(w:zW)(hs:gT w a n N)(he:mR w a' n E)(hG:aK m n N)(hA:mD 9223372036854775807 b t N n=0):
  Calls prog 83 #[.agg #[.int .i64 b,.int .i64 t,.slice a n cap,.slice a' n z]] w (rE w b t N E m):=by
 have b5:Below w.heap.size w ((w.alloc (.cells #[.int .i64 b,.int .i64 t,.slice a n cap,.slice a' n z] 35)).alloc (.cells #[.int .i64 0,.int .i64 0,.slice none 0 0,.slice none 0 0] 35)):=(zb.alloc zr _).alloc (by simp) _
 have b6:=aj b5
 have HS:=aj (aG hs b5)
 have HE:=aj (bD he b5)
 have b7:=aj (λW (h:Below _ _ W)=>(@jw w W (.int .i64 b) (.int .i64 t) (.slice a n cap) (.slice a' n z) (.int .i64 0) (.int .i64 0) (.slice none 0 0) (.slice none 0 0) 35 h).1)
 have a6:=aj (zl (w.alloc (.cells #[.int .i64 b,.int .i64 t,.slice a n cap,.slice a' n z] 35)) (.cells #[.int .i64 0,.int .i64 0,.slice none 0 0,.slice none 0 0] 35))
 rw[World.size_alloc]at a6
 have b8:=aj (λW h=>aco b t m a a' n cap n z N W h he.2.1 hA hG)
 unfold Pj at b8
 have a1:=aj (λd5 cs W h1 h2 h3=>IV b t a n cap m N a' z E d5 cs W h1 hG h2 h3)
 unfold rE jX at a1⊢
 clear hs he hA hG b5
 generalize d1:(w.alloc (.cells #[.int .i64 b,.int .i64 t,.slice a n cap,.slice a' n z] 35)).alloc (.cells #[.int .i64 0,.int .i64 0,.slice none 0 0,.slice none 0 0] 35)=wb at b6 HS HE b7 a6
 have b2:Hid (wb.heap.size=w.heap.size+2):=by show _=_;rw[<-d1];simp
 obtain⟨b9,c0,c3,c4⟩:=b7.out wb zb
 generalize d6:aV N E m=LN at a1⊢
 generalize d7:aY N E m=LE at a1⊢
 generalize d8:bE N E m=LK at a1⊢
 clear d6 d7 d8
 go_enter func83,ntmps83
 go_wp2_with fail
 clear d1 b9 c0 c3 c4
 refine(b8.out wb HS.out).mono ?_
 rintro e w1 ⟨ar,cr,rfl,⟨d2,-⟩,a8⟩
 have b0:=aj a8
 obtain⟨b9,c0,c3,c4⟩:=b7.out w1 a8
 have c5:=aj (a1.out ar cr w1 (aG HS.out a8) (bD HE.out a8) d2)
 clear d2 a8 b8 a1
 go_wp2_with fail
 clear b9 c0 c3 c4
 refine c5.out.mono ?_
 rintro e w3 ⟨b3,c6⟩
 by_cases hK:LK<=80
 ·obtain⟨ax,cx,a2,b1,rfl,c7,U⟩:=b3 hK
  clear b3 c6 c5
  have J:=((ak b0.out U).block (w.heap.size+1) (by have:=b2.out;omega)).trans a6.out
  have a7:=aj J
  have c8:=aj (ak b6.out (ak b0.out U))
  have d4:=aj c7
  have d9:=aj b0.out.size
  obtain⟨⟨o0,o1,o2,o3⟩,of⟩:=aC J
  clear J c7 U
  go_wp2
  obtain⟨⟨Z,d3,c9⟩,b4⟩:=eO (v0:=.int .i64 b) (v1:=.int .i64 t) (v2:=.slice ax LN.length cx) (v3:=.slice a2 LN.length b1) a7.out rfl
  have d0:dS w ax LN.length LN a2 LE ((((w3.setCell ⟨w.heap.size+1,0,none⟩ (.int .i64 b)).setCell ⟨w.heap.size+1,1,none⟩ (.int .i64 t)).setCell ⟨w.heap.size+1,2,none⟩ (.slice ax LN.length cx)).setCell ⟨w.heap.size+1,3,none⟩ (.slice a2 LN.length b1)):=λW' e0=>d4.out W' (λx hx e1=>by have h1:=d9.out;have h2:=b2.out;rw[e0 x (by omega) (by rw[d3];exact e1),c9 x (by omega)])
  have hb:=b4 w w.heap.size c8.out (by omega)
  generalize(((w3.setCell ⟨w.heap.size+1,0,none⟩ (.int .i64 b)).setCell ⟨w.heap.size+1,1,none⟩ (.int .i64 t)).setCell ⟨w.heap.size+1,2,none⟩ (.slice ax LN.length cx)).setCell ⟨w.heap.size+1,3,none⟩ (.slice a2 LN.length b1)=wZ at Z d0 hb⊢
  obtain⟨⟨z0,z1,z2,z3⟩,-⟩:=aC Z
  exact bodyPost_ret (v:=.tuple #[.agg #[.int .i64 b,.int .i64 t,.slice ax LN.length cx,.slice a2 LN.length b1],.nilIface]) (by simp[results,results83,go_sem,z0,z1,z2,z3]) rfl ⟨λ_=>⟨ax,cx,a2,b1,rfl,d0,hb⟩,λh=>by omega⟩
 ·obtain⟨rfl,U⟩:=c6 (by omega)
  clear b3 c6 c5
  have J:=((ak b0.out U).block (w.heap.size+1) (by have:=b2.out;omega)).trans a6.out
  have a7:=aj J
  have c8:=aj (ak b6.out (ak b0.out U))
  obtain⟨⟨o0,o1,o2,o3⟩,of⟩:=aC J
  clear J U
  go_wp2
  obtain⟨⟨Z,d3,c9⟩,b4⟩:=eF a7.out rfl
  have hb:=b4 w w.heap.size c8.out (by omega)
  generalize(((w3.setCell ⟨w.heap.size+1,0,none⟩ (.int .i64 0)).setCell ⟨w.heap.size+1,1,none⟩ (.int .i64 0)).setCell ⟨w.heap.size+1,2,none⟩ (.slice none 0 0)).setCell ⟨w.heap.size+1,3,none⟩ (.slice none 0 0)=wZ at Z hb⊢
  obtain⟨⟨z0,z1,z2,z3⟩,-⟩:=aC Z
  exact bodyPost_ret (v:=.tuple #[.agg #[.int .i64 0,.int .i64 0,.slice none 0 0,.slice none 0 0],.iface 45 (.int .i64 3)]) (by simp[results,results83,go_sem,z0,z1,z2,z3]) rfl ⟨λh=>by omega,λ_=>⟨rfl,hb⟩⟩
theorem acr(b t:Int)(a:zO)(n cap:Nat)(N:zL)(a':zO)(k J:Nat)(w:zW)(hs:gT w a n N)(hm:k<=maxLen)(hA:bP b t N k≠0):
  Calls prog 59 #[.agg #[.int .i64 b,.int .i64 t,.slice a n cap,.slice a' k J]] w λe w'=>e=.returned (.tuple #[.agg #[.int .i64 0,.int .i64 0,.slice none 0 0,.slice none 0 0],bC (bP b t N k)])/\Below w.heap.size w w':=by
 have a6:Below w.heap.size w ((w.alloc (.cells #[.int .i64 b,.int .i64 t,.slice a n cap,.slice a' k J] 35)).alloc (.cells #[.int .i64 0,.int .i64 0,.slice none 0 0,.slice none 0 0] 35)):=(zb.alloc zr _).alloc (by simp) _
 have b1:=aj a6
 have b2:=aj (λW (h:Below _ _ W)=>(@jw w W (.int .i64 b) (.int .i64 t) (.slice a n cap) (.slice a' k J) (.int .i64 0) (.int .i64 0) (.slice none 0 0) (.slice none 0 0) 35 h).1)
 have a1:=aj (zl (w.alloc (.cells #[.int .i64 b,.int .i64 t,.slice a n cap,.slice a' k J] 35)) (.cells #[.int .i64 0,.int .i64 0,.slice none 0 0,.slice none 0 0] 35))
 rw[World.size_alloc]at a1
 have a2:=aj (acp b t a a' n cap k J N _ (aG hs a6) hm hA)
 rw[dx hA]at a2⊢
 generalize bP b t N k=c at a2⊢
 clear hs hm hA a6
 generalize b3:(w.alloc (.cells #[.int .i64 b,.int .i64 t,.slice a n cap,.slice a' k J] 35)).alloc (.cells #[.int .i64 0,.int .i64 0,.slice none 0 0,.slice none 0 0] 35)=wb at b1 b2 a1 a2
 have b4:Hid (wb.heap.size=w.heap.size+2):=by show _=_;rw[<-b3];simp
 obtain⟨b5,b6,b7,b8⟩:=b2.out wb zb
 go_enter func59,ntmps59
 go_wp2_with fail
 clear b3 b5 b6 b7 b8
 refine a2.out.mono ?_
 rintro e Z ⟨rfl,a7⟩
 have z:Z.heap[w.heap.size+1]? =some (.cells #[.int .i64 0,.int .i64 0,.slice none 0 0,.slice none 0 0] 35 (0,0)):=(a7.block (w.heap.size+1) (by have:=b4.out;omega)).trans a1.out
 have b0:=aj z
 have b9:=aj (ak b1.out a7)
 have c0:Z.cell? ⟨w.heap.size+1,0,none⟩=some (.int .i64 0):=by simp[World.cell?,z]
 have c3:Z.cell? ⟨w.heap.size+1,1,none⟩=some (.int .i64 0):=by simp[World.cell?,z]
 have c4:Z.cell? ⟨w.heap.size+1,2,none⟩=some (.slice none 0 0):=by simp[World.cell?,z]
 have c5:Z.cell? ⟨w.heap.size+1,3,none⟩=some (.slice none 0 0):=by simp[World.cell?,z]
 have hf: ∀i,Z.frozen? ⟨w.heap.size+1,i,none⟩=false:=λi=>by simp[World.frozen?,z]
 clear a7 z
 go_wp2
 have U:=Nw (v0:=.int .i64 0) (v1:=.int .i64 0) (v2:=.slice none 0 0) (v3:=.slice none 0 0) b0.out
 have a8:Below w.heap.size w ((((Z.setCell ⟨w.heap.size+1,0,none⟩ (.int .i64 0)).setCell ⟨w.heap.size+1,1,none⟩ (.int .i64 0)).setCell ⟨w.heap.size+1,2,none⟩ (.slice none 0 0)).setCell ⟨w.heap.size+1,3,none⟩ (.slice none 0 0)):=(((b9.out.setCell (by simp) _).setCell (by simp) _).setCell (by simp) _).setCell (by simp) _
 generalize(((Z.setCell ⟨w.heap.size+1,0,none⟩ (.int .i64 0)).setCell ⟨w.heap.size+1,1,none⟩ (.int .i64 0)).setCell ⟨w.heap.size+1,2,none⟩ (.slice none 0 0)).setCell ⟨w.heap.size+1,3,none⟩ (.slice none 0 0)=wZ at U a8⊢
 have z0:wZ.cell? ⟨w.heap.size+1,0,none⟩=some (.int .i64 0):=by simp[World.cell?,U]
 have z1:wZ.cell? ⟨w.heap.size+1,1,none⟩=some (.int .i64 0):=by simp[World.cell?,U]
 have z2:wZ.cell? ⟨w.heap.size+1,2,none⟩=some (.slice none 0 0):=by simp[World.cell?,U]
 have z3:wZ.cell? ⟨w.heap.size+1,3,none⟩=some (.slice none 0 0):=by simp[World.cell?,U]
 exact bodyPost_ret (v:=.tuple #[.agg #[.int .i64 0,.int .i64 0,.slice none 0 0,.slice none 0 0],.iface 45 (.int .i64 c)]) (by simp[results,results59,go_sem,z0,z1,z2,z3]) rfl ⟨rfl,a8⟩
def qm(M:Nat)(l:zI)(q:Nat):Value:=.int .i64 (if q%2=0 then(SH M ((l.getD (q/2) 0).toNat))else(SI M ((l.getD (q/2) 0).toNat)))
theorem Ls(M:Nat)(l:zI)(j:Nat):qm M l (2*j)=.int .i64 (SH M ((l.getD j 0).toNat)):=by unfold qm;rw[yP (by omega),show 2*j/2=j by omega]
theorem Lu(M:Nat)(l:zI)(j:Nat):qm M l (2*j+1)=.int .i64 (SI M ((l.getD j 0).toNat)):=by unfold qm;rw[yN (by omega),show(2*j+1)/2=j by omega]
theorem Lv(M:Nat)(l:zI)(x:Int)(q:Nat)(z:q<2*l.length):qm M (l++[x]) q=qm M l q:=by unfold qm;rw[iq (List.prefix_append _ _) (q/2) (by omega)]
theorem Lx(M:Nat)(l:zI)(x:Int):qm M (l++[x]) (2*l.length)=.int .i64 (SH M (x.toNat))/\qm M (l++[x]) (2*l.length+1)=.int .i64 (SI M (x.toNat)):=by rw[Ls,Lu];simp[List.getD]
theorem Wq(w:zW)(x y:Value)(t:TypeId): ∀j u,[x,y][j]? =some u->(w.alloc (.cells #[x,y] t)).cell? ((⟨w.heap.size,0,none⟩:Addr).add j)=some u:=by intro j u h;rw[Addr.add_lit,cell_of_row _ _ _ _ t (0,0) (zl w _),Nat.zero_add];simpa using h
theorem vU:Maps.Keyed prog 176:=Maps.Keyed.of_law (deep_law_laid zh (m:=4) (by omega) (of_decide_eq_true (by kernel_rfl)) (by kernel_rfl) (by rw[underlying176]))
theorem Nz:prog.cellsOf 176=2/\prog.cellsOf 3=1:=⟨by kernel_rfl,by kernel_rfl⟩
theorem Qp:prog.keyType 176=true:=by kernel_rfl
theorem Ub(z:cs.size=2)(h: ∀v∈cs.toList,Iu v): ∃J,keyOf prog 176 (.agg cs)=some J:=by obtain⟨h1,h3⟩:=Nz;obtain⟨L,U⟩:=Iw prog 176 3 2 (226-1) underlying176 underlying3 h1 h3 (cs:=cs.toList) (by simp[z]) h;refine⟨.string (keyBytes L),?_⟩;unfold keyOf;simp only[underlying176,Qp,Value.formed,h1,z,Gn,Value.cells,BEq.rfl,Bool.and_self,if_true];have e:prog.keyLits (226+1) 176 cs.toList=some L:=U;rw[e];rfl
theorem LM(M:Nat)(s:Int)(hs:s.toNat<=100000000): ∃J,keyOf prog 176 (kr M s)=some J:=by
 have z: ∀x:Nat,x<=100000000->Iu (.int .i64 (x:Int)):=λx hx=>⟨_,rfl,WalkArith.wf_i64 (by omega)⟩;unfold kr SH SI;refine Ub rfl λv hv=>?_;have hv:v∈[Value.int .i64 ((s.toNat/M:Nat):Int),Value.int .i64 ((s.toNat%M:Nat):Int)]:=hv;rcases List.mem_cons.1 hv with rfl|hv
 ·exact z _ (Nat.le_trans (Nat.div_le_self _ _) hs)
 ·rcases List.mem_cons.1 hv with rfl|hv
  ·exact z _ (Nat.le_trans (Nat.mod_le _ _) hs)
  ·cases hv
def AB(M:Nat)(W:zW)(b len cap:Nat)(l:zI):Prop:=
 l.length=len/\len<=cap/\cap<=maxLen/\ ∃cur:Array Value,W.heap[b]? =some (.cells cur 176 (0,0))/\2*cap<=cur.size/\ ∀q,q<2*len->cur[q]? =some (qm M l q)
theorem oz{W':zW}{len:Nat}(h:AB M W b len cap l)(e:W'.heap[b]? =W.heap[b]?):AB M W' b len cap l:=by obtain⟨h1,h2,h3,cur,h4,h5⟩:=h;exact⟨h1,h2,h3,cur,e.trans h4,h5⟩
theorem qy{len:Nat}(h:AB M W b len cap l):b<W.heap.size:=by obtain⟨h1,h2,h3,cur,h4,h5⟩:=h;exact(zG h4).1
theorem DU{len:Nat}(h:AB M W b len cap l)(q:Nat)(z:q<2*len):W.cell? ⟨b,q,none⟩=some (qm M l q):=by obtain⟨h1,h2,h3,cur,h4,h5,J⟩:=h;simp only[World.cell?,h4];exact J q z
theorem af8{len:Nat}(h:AB M W b len cap l)(i:Nat)(hi:i<len):W.cell? ⟨b,i*2,none⟩=some (.int .i64 (SH M ((l.getD i 0).toNat)))/\W.cell? ⟨b,i*2+1,none⟩=some (.int .i64 (SI M ((l.getD i 0).toNat))):=by have h0:=DU h (2*i) (by omega);have h1:=DU h (2*i+1) (by omega);rw[Ls,Nat.mul_comm]at h0;rw[Lu,Nat.mul_comm]at h1;exact⟨h0,h1⟩
theorem Y2{len:Nat}(h:AB M W b len cap l)(J:len+1<=cap)(x:Int):AB M (W.setCells b (0+len*2) [.int .i64 (SH M (x.toNat)),.int .i64 (SI M (x.toNat))]) b (len+1) cap (l++[x]):=by
 obtain⟨h1,h2,h3,cur,h4,h5,U⟩:=h;refine⟨by rw[List.length_append,List.length_singleton];omega,J,h3,(cur.setIfInBounds (0+len*2) (.int .i64 (SH M (x.toNat)))).setIfInBounds (0+len*2+1) (.int .i64 (SI M (x.toNat))),?_,by simpa using h5,λq hq=>?_⟩
 ·simp[World.setCells,World.setCell,Array.getElem?_modify,h4]
 ·rw[Array.getElem?_setIfInBounds,Array.getElem?_setIfInBounds]
  have z:=Lx M l x;rw[h1]at z;by_cases Z:q=2*len+1
  ·subst Z;rw[yP (by omega),yP (by simp;omega),z.2]
  ·rw[yN (by omega)]
   by_cases e0:q=2*len
   ·subst e0;rw[yP (by omega),yP (by omega),z.1]
   ·rw[yN (by omega),Lv M l x q (by omega)];exact U q (by omega)
theorem Qq:(prog.info? 176).map (λi=>(i.zero,i.size,i.bytes))=some (some (.agg #[.int .i64 0,.int .i64 0]),2,16):=by kernel_rfl
theorem IL(W:zW)(b o:Nat)(u v:Value):W.grownBy (W.setCells b o [u,v]) (some b):=by have h1:=jD W ⟨b,o,none⟩ u;have h2:=jD (W.setCell ⟨b,o,none⟩ u) ⟨b,o+1,none⟩ v;show W.grownBy ((W.setCell ⟨b,o,none⟩ u).setCell ⟨b,o+1,none⟩ v) (some b);exact⟨h2.os.trans h1.os,h2.tape.trans h1.tape,h2.output.trans h1.output,Nat.le_trans h1.size h2.size,λk J z=>(h2.block k (Nat.lt_of_lt_of_le J h1.size) z).trans (h1.block k J z)⟩
theorem AJ(M:Nat)(w:zW){o:Oper}{a:Act}(hg:o.guard=none)(s x:Operand)(hop:o.op=Op.call {callee:=Callee.builtin Builtin.append,args:=#[s,x],argTypes:=#[178,178]})(b len cap:Nat)(l:zI)(hs:a.eval s=.slice (some ⟨b,0,none⟩) len cap)(J:AB M w b len cap l)(ad:Addr)(y U Z:Int)(a7:U=(SH M (y.toNat)))(a8:Z=(SI M (y.toNat)))(hx:a.eval x=.slice (some ad) 1 1)(hc: ∀j u,[Value.int .i64 U,.int .i64 Z][j]? =some u->w.cell? (ad.add j)=some u)(hlen:len<=100000000)(hK: ∀b' a1 w',AB M w' b' (len+1) a1 (l++[y])->w.grownBy w' (some b)->(b'=b\/w.heap.size<=b')->wpList prog ops Q rest (a.put o.dst (.slice (some ⟨b',0,none⟩) (len+1) a1)) w'):
  wpList prog ops Q (o::rest) a w:=by
 obtain⟨i,hi,hz0,hz1,hz2⟩:=info_parts Qq
 refine wpList_plain hg λK hK'=>?_
 by_cases hr:len+1<=cap
 ·obtain⟨off,a2⟩: ∃off:Nat,off=0:=⟨_,rfl⟩
  have b2:a.eval s=.slice (some ⟨b,off,none⟩) len cap:=by rw[a2];exact hs
  have b0: ∀j,j<2->(w.cell? ⟨b,off+len*2+j,none⟩).isSome=true/\w.frozen? ⟨b,off+len*2+j,none⟩=false:=λj z=>by obtain⟨h1,h2,h3,cur,h4,h5,h6⟩:=J;simp only[World.cell?,World.frozen?,h4];have:off+len*2+j<cur.size:=(by omega);simp[this]
  have hrun:=run_append_room_cells (P:=prog) w 178 o.type 176 i underlying178 hi b off len cap ad 1 1 [.int .i64 U,.int .i64 Z] (by rw[hz1];rfl) hc (λu hu=>by simp at hu;rcases hu with rfl|rfl<;>rfl) hr (by rw[hz1];exact λj z=>(b0 j z).1) (by rw[hz1];exact λj z=>(b0 j z).2)
  rw[hz1]at hrun
  unfold Oper.wp
  simp[execOp,hop,resolve,invoke,builtin,b2,hx,hrun,Result.andThen]
  subst a2
  exact hK' _ _ (hK _ _ _ (by rw[a7,a8];exact Y2 J hr y) (IL w _ _ _ _) (.inl rfl))
 ·have b3:((List.range (2*len)).map (qm M l)).length=len*2:=by simp;omega
  have a6: ∀j u,((List.range (2*len)).map (qm M l))[j]? =some u->w.cell? ((⟨b,0,none⟩:Addr).add j)=some u:=λj u z=>by have b1:j<2*len:=(by have:=(List.getElem?_eq_some_iff.1 z).1;simpa using this);rw[Addr.add_lit,Nat.zero_add,DU J j b1];simpa[b1]using z
  obtain⟨v',w',hrun,r1,r2⟩:=run_append_arg_grows (P:=prog) w 178 o.type 176 i (.agg #[.int .i64 0,.int .i64 0]) 2 16 underlying178 hi hz0 hz1 hz2 rfl (by decide) ⟨b,0,none⟩ len cap _ b3 a6 ad 1 1 [.int .i64 U,.int .i64 Z] rfl hc (by omega) (by unfold maxLen;omega) (by omega)
  obtain⟨r3,r4⟩:=r1
  rcases r4 with⟨_,r4⟩|⟨g',b7,cur,rfl,b4,hh,b5,b6,b8,ht⟩
  ·omega
  ·unfold Oper.wp
   simp[execOp,hop,resolve,invoke,builtin,hs,hx,hrun,Result.andThen]
   refine hK' _ _ (hK _ _ _ ⟨by rw[List.length_append,J.1];rfl,b5,b6,cur,hh,by omega,λq b9=>?_⟩ ⟨r2.os,r2.tape,r2.output,r2.size,λk hk _=>r2.block k hk (by simp)⟩ (.inr b4))
   have h3:(cur.toList.take ((len+1)*2))[q]? =((List.range (2*len)).map (qm M l)++[.int .i64 U,.int .i64 Z])[q]? :=by rw[ht]
   rw[List.getElem?_take,yP (by omega),Array.getElem?_toList]at h3
   rw[h3]
   have hn:=Lx M l y
   rw[J.1,<-a7,<-a8]at hn
   by_cases e0:q<2*len
   ·rw[List.getElem?_append_left (by simpa using e0),Lv M l y q (by rw[J.1];exact e0)]
    simp[e0]
   ·rw[List.getElem?_append_right (by simpa using Nat.le_of_not_lt e0)]
    by_cases e1:q=2*len
    ·subst e1;rw[hn.1];simp
    ·obtain rfl:q=2*len+1:=by omega
     rw[hn.2];simp
theorem Gs(q:Int)(h0:0<=q)(J:q<=15):(bits BinOp.and IntKind.i64 q 1==1)=(q%2==1):=by
 obtain⟨k,rfl⟩: ∃k:Nat,q=k:=⟨q.toNat,by omega⟩;have z: ∀k:Fin 16,(bits BinOp.and IntKind.i64 ((k.val:Nat):Int) 1==1)=(((k.val:Nat):Int)%2==1):=by decide+kernel
 exact z ⟨k,by omega⟩
theorem Y3(how:Int)(x y:Bool)(w:zW)(h0:0<=how)(z:how<=15):
  Calls prog 130 #[.int .i64 how,.bool x,.bool y] w λe w'=>e=.returned (.bool (xG how x y))/\w'=w:=by
 have J:=Gs how h0 z
 have U:=Gs (how/2) (by omega) (by omega)
 have Z:=Gs (how/4) (by omega) (by omega)
 have e8:=Gs (how/8) (by omega) (by omega)
 have E1:=aj J
 have E2:=aj U
 have E4:=aj Z
 have E8:=aj e8
 clear J U Z e8
 cases x<;>cases y
 all_goals
  go_enter func130,ntmps130
  go_wp2
  go_ret
  refine⟨?_,rfl⟩
  simp only[xG,<-E1.out,<-E2.out,<-E4.out,<-E8.out]
  simp
def eZ:Nat:=4096
theorem CW:eZ=4096:=rfl
def gu(n:Nat):Int:=((n/64:Nat):Int)-2
def iP(n:Nat):Int:=((n%64:Nat):Int)
def Vd(a c:Int):Nat:=((a+2)*64+c).toNat
theorem zM{a c:Int}(h1: -2<=a)(h2:a<62)(h3:0<=c)(h4:c<64):gu (Vd a c)=a/\iP (Vd a c)=c/\Vd a c<4096:=by unfold gu iP Vd;omega
theorem aj3(h:n<4096): -2<=gu n/\gu n<62/\0<=iP n/\iP n<64:=by unfold gu iP;omega
theorem adS{n':Nat}(h1:gu n=gu n')(h2:iP n=iP n'):n=n':=by unfold gu at h1;unfold iP at h2;omega
def SY(l:List Nat)(q:Nat):Value:=.int .i64 (if q%2=0 then gu (l.getD (q/2) 0)else iP (l.getD (q/2) 0))
theorem XG(l:List Nat)(i:Nat):SY l (2*i)=.int .i64 (gu (l.getD i 0)):=by unfold SY;rw[yP (by omega),show 2*i/2=i by omega]
theorem XH(l:List Nat)(i:Nat):SY l (2*i+1)=.int .i64 (iP (l.getD i 0)):=by unfold SY;rw[yN (by omega),show(2*i+1)/2=i by omega]
theorem XI(l:List Nat)(x:Nat)(q:Nat)(z:q<2*l.length):SY (l++[x]) q=SY l q:=by unfold SY;rw[uy (List.prefix_append _ _) (by omega:q/2<l.length)]
theorem XJ(l:List Nat)(x:Nat):SY (l++[x]) (2*l.length)=.int .i64 (gu x)/\SY (l++[x]) (2*l.length+1)=.int .i64 (iP x):=by rw[XG,XH];simp[List.getD]
theorem GK:Maps.Keyed prog 129:=Maps.Keyed.of_law (deep_law_laid zh (m:=4) (by omega) (of_decide_eq_true (by kernel_rfl)) (by kernel_rfl) (by rw[underlying129]))
theorem ZW:prog.cellsOf 129=2/\prog.cellsOf 3=1:=⟨by kernel_rfl,by kernel_rfl⟩
theorem adT:prog.keyType 129=true:=by kernel_rfl
theorem agZ(z:cs.size=2)(h: ∀v∈cs.toList,Iu v): ∃J,keyOf prog 129 (.agg cs)=some J:=by obtain⟨h1,h3⟩:=ZW;obtain⟨L,U⟩:=Iw prog 129 3 2 (226-1) underlying129 underlying3 h1 h3 (cs:=cs.toList) (by simp[z]) h;refine⟨.string (keyBytes L),?_⟩;unfold keyOf;simp only[underlying129,adT,Value.formed,h1,z,Gn,Value.cells,BEq.rfl,Bool.and_self,if_true];have e:prog.keyLits (226+1) 129 cs.toList=some L:=U;rw[e];rfl
def Et(W:zW)(b len cap:Nat)(l:List Nat):Prop:=
 l.length=len/\len<=cap/\cap<=maxLen/\ ∃cur:Array Value,W.heap[b]? =some (.cells cur 129 (0,0))/\2*cap<=cur.size/\ ∀q,q<2*len->cur[q]? =some (SY l q)
theorem oG{W':zW}{len:Nat}{l:List Nat}(h:Et W b len cap l)(e:W'.heap[b]? =W.heap[b]?):Et W' b len cap l:=by obtain⟨h1,h2,h3,cur,h4,h5⟩:=h;exact⟨h1,h2,h3,cur,e.trans h4,h5⟩
theorem sZ{len:Nat}{l:List Nat}(h:Et W b len cap l):b<W.heap.size:=by obtain⟨h1,h2,h3,cur,h4,h5⟩:=h;exact(zG h4).1
theorem Eu{len:Nat}{l:List Nat}(h:Et W b len cap l)(q:Nat)(z:q<2*len):W.cell? ⟨b,q,none⟩=some (SY l q):=by obtain⟨h1,h2,h3,cur,h4,h5,J⟩:=h;simp only[World.cell?,h4];exact J q z
theorem Ot{len:Nat}{l:List Nat}(h:Et W b len cap l)(i:Nat)(hi:i<len):W.cell? ⟨b,i*2,none⟩=some (.int .i64 (gu (l.getD i 0)))/\W.cell? ⟨b,i*2+1,none⟩=some (.int .i64 (iP (l.getD i 0))):=by have h0:=Eu h (2*i) (by omega);have h1:=Eu h (2*i+1) (by omega);rw[XG,Nat.mul_comm]at h0;rw[XH,Nat.mul_comm]at h1;exact⟨h0,h1⟩
theorem ZX{len:Nat}{l:List Nat}(h:Et W b len cap l)(J:len+1<=cap)(x:Nat):Et (W.setCells b (0+len*2) [.int .i64 (gu x),.int .i64 (iP x)]) b (len+1) cap (l++[x]):=by
 obtain⟨h1,h2,h3,cur,h4,h5,U⟩:=h;refine⟨by rw[List.length_append,List.length_singleton];omega,J,h3,(cur.setIfInBounds (0+len*2) (.int .i64 (gu x))).setIfInBounds (0+len*2+1) (.int .i64 (iP x)),?_,by simpa using h5,λq hq=>?_⟩
 ·simp[World.setCells,World.setCell,Array.getElem?_modify,h4]
 ·rw[Array.getElem?_setIfInBounds,Array.getElem?_setIfInBounds]
  have z:=XJ l x;rw[h1]at z;by_cases Z:q=2*len+1
  ·subst Z;rw[yP (by omega),yP (by simp;omega),z.2]
  ·rw[yN (by omega)]
   by_cases e0:q=2*len
   ·subst e0;rw[yP (by omega),yP (by omega),z.1]
   ·rw[yN (by omega),XI l x q (by omega)];exact U q (by omega)
theorem adU:(prog.info? 129).map (λi=>(i.zero,i.size,i.bytes))=some (some (.agg #[.int .i64 0,.int .i64 0]),2,16):=by kernel_rfl
theorem Bd(w:zW){o:Oper}{a:Act}(hg:o.guard=none)(s x:Operand)(hop:o.op=Op.call {callee:=Callee.builtin Builtin.append,args:=#[s,x],argTypes:=#[125,125]})(b len cap:Nat)(l:List Nat)(hs:a.eval s=.slice (some ⟨b,0,none⟩) len cap)(J:Et w b len cap l)(ad:Addr)(y:Nat)(U Z:Int)(a7:U=(gu y))(a8:Z=(iP y))(hx:a.eval x=.slice (some ad) 1 1)(hc: ∀j u,[Value.int .i64 U,.int .i64 Z][j]? =some u->w.cell? (ad.add j)=some u)(hlen:len<=100000000)(hK: ∀b' a1 w',Et w' b' (len+1) a1 (l++[y])->w.grownBy w' (some b)->(b'=b\/w.heap.size<=b')->wpList prog ops Q rest (a.put o.dst (.slice (some ⟨b',0,none⟩) (len+1) a1)) w'):
  wpList prog ops Q (o::rest) a w:=by
 obtain⟨i,hi,hz0,hz1,hz2⟩:=info_parts adU
 refine wpList_plain hg λK hK'=>?_
 by_cases hr:len+1<=cap
 ·obtain⟨off,a2⟩: ∃off:Nat,off=0:=⟨_,rfl⟩
  have b2:a.eval s=.slice (some ⟨b,off,none⟩) len cap:=by rw[a2];exact hs
  have b0: ∀j,j<2->(w.cell? ⟨b,off+len*2+j,none⟩).isSome=true/\w.frozen? ⟨b,off+len*2+j,none⟩=false:=λj z=>by obtain⟨h1,h2,h3,cur,h4,h5,h6⟩:=J;simp only[World.cell?,World.frozen?,h4];have:off+len*2+j<cur.size:=(by omega);simp[this]
  have hrun:=run_append_room_cells (P:=prog) w 125 o.type 129 i underlying125 hi b off len cap ad 1 1 [.int .i64 U,.int .i64 Z] (by rw[hz1];rfl) hc (λu hu=>by simp at hu;rcases hu with rfl|rfl<;>rfl) hr (by rw[hz1];exact λj z=>(b0 j z).1) (by rw[hz1];exact λj z=>(b0 j z).2)
  rw[hz1]at hrun
  unfold Oper.wp
  simp[execOp,hop,resolve,invoke,builtin,b2,hx,hrun,Result.andThen]
  subst a2
  exact hK' _ _ (hK _ _ _ (by rw[a7,a8];exact ZX J hr y) (IL w _ _ _ _) (.inl rfl))
 ·have b3:((List.range (2*len)).map (SY l)).length=len*2:=by simp;omega
  have a6: ∀j u,((List.range (2*len)).map (SY l))[j]? =some u->w.cell? ((⟨b,0,none⟩:Addr).add j)=some u:=λj u z=>by have b1:j<2*len:=(by have:=(List.getElem?_eq_some_iff.1 z).1;simpa using this);rw[Addr.add_lit,Nat.zero_add,Eu J j b1];simpa[b1]using z
  obtain⟨v',w',hrun,r1,r2⟩:=run_append_arg_grows (P:=prog) w 125 o.type 129 i (.agg #[.int .i64 0,.int .i64 0]) 2 16 underlying125 hi hz0 hz1 hz2 rfl (by decide) ⟨b,0,none⟩ len cap _ b3 a6 ad 1 1 [.int .i64 U,.int .i64 Z] rfl hc (by omega) (by unfold maxLen;omega) (by omega)
  obtain⟨r3,r4⟩:=r1
  rcases r4 with⟨_,r4⟩|⟨g',b7,cur,rfl,b4,hh,b5,b6,b8,ht⟩
  ·omega
  ·unfold Oper.wp
   simp[execOp,hop,resolve,invoke,builtin,hs,hx,hrun,Result.andThen]
   refine hK' _ _ (hK _ _ _ ⟨by rw[List.length_append,J.1];rfl,b5,b6,cur,hh,by omega,λq b9=>?_⟩ ⟨r2.os,r2.tape,r2.output,r2.size,λk hk _=>r2.block k hk (by simp)⟩ (.inr b4))
   have h3:(cur.toList.take ((len+1)*2))[q]? =((List.range (2*len)).map (SY l)++[.int .i64 U,.int .i64 Z])[q]? :=by rw[ht]
   rw[List.getElem?_take,yP (by omega),Array.getElem?_toList]at h3
   rw[h3]
   have hn:=XJ l y
   rw[J.1,<-a7,<-a8]at hn
   by_cases e0:q<2*len
   ·rw[List.getElem?_append_left (by simpa using e0),XI l y q (by rw[J.1];exact e0)]
    simp[e0]
   ·rw[List.getElem?_append_right (by simpa using Nat.le_of_not_lt e0)]
    by_cases e1:q=2*len
    ·subst e1;rw[hn.1];simp
    ·obtain rfl:q=2*len+1:=by omega
     rw[hn.2];simp
def Bf(n:Nat):Value:=.agg #[.int .i64 (gu n),.int .i64 (iP n)]
theorem ag0{n':Nat}(e:Bf n=Bf n'):n=n':=by unfold Bf at e;simp only[Value.agg.injEq,Array.mk.injEq,List.cons.injEq,Value.int.injEq,true_and,and_true]at e;exact adS e.1 e.2
theorem XK(h:n<4096): ∃z,keyOf prog 129 (Bf n)=some z:=by
 have hb:=aj3 h;unfold Bf;refine agZ rfl λv hv=>?_;have hv:v∈[Value.int .i64 (gu n),Value.int .i64 (iP n)]:=hv;rcases List.mem_cons.1 hv with rfl|hv
 ·exact⟨_,rfl,WalkArith.wf_i64 (by omega)⟩
 ·rcases List.mem_cons.1 hv with rfl|hv
  ·exact⟨_,rfl,WalkArith.wf_i64 (by omega)⟩
  ·cases hv
def JL(L:List Nat):List (Value × Value):=(List.range L.length).map λi=>(Bf (L.getD i 0),Value.int .i64 (i:Int))
theorem adV(L:List Nat):(JL L).length=L.length:=by simp[JL]
theorem adW(L:List Nat)(M:Nat):JL (L++[M])=JL L++[(Bf M,Value.int .i64 (L.length:Int))]:=by
 unfold JL;rw[List.length_append,List.length_singleton,List.range_succ,List.map_append];congr 1
 ·refine List.map_congr_left λi hi=>?_;have:=List.mem_range.1 hi;simp[List.getD,List.getElem?_append_left this]
 ·simp[List.getD]
theorem adX{L:List Nat}(h:M∈L):(Bf M,Value.int .i64 ((L.idxOf M:Nat):Int))∈JL L:=by refine List.mem_map.2 ⟨L.idxOf M,List.mem_range.2 (List.idxOf_lt_length_of_mem h),?_⟩;rw[Gl h]
theorem adY{L:List Nat}(h: ¬M∈L): ¬Bf M∈(JL L).map Prod.fst:=λhx=>by obtain⟨p,z,e⟩:=List.mem_map.1 hx;obtain⟨i,hi,rfl⟩:=List.mem_map.1 z;have hm:=jO (List.mem_range.1 hi);exact h (ag0 e▸hm)
end Go.Proofs.YtceojneljnnooaaGreat
