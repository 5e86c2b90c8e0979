import Derived.Test.YtceojneljnnooaaGreatZHh
import Derived.Test.YtceojneljnnooaaGreatZHf
open Go.Proofs.Tryz
namespace Go.Proofs.YtceojneljnnooaaGreat
open Go.RowKit
set_option maxHeartbeats 0
set_option maxRecDepth 100000
set_option linter.all false
variable{rows:Nat->zI}{L:List Nat}{es:Nat->Bool}{mv sv n m bx i nb:Nat}{W wb:zW}{row:zI}{b t:Int}
theorem agV{N:zL}{R:zL}{f:Nat}(z:f<2^n)(i:Nat): ∀x∈aM (dM N n R) m f i,x<2^n:=λx hx=>by
 obtain⟨w,J,rfl⟩:=jF hx;clear J hx;induction w generalizing f with
 |nil=>exact z
 |cons y w U=>exact U (ru _ _ _ _)
theorem U5{base mb:Nat}(hb:base<=W.heap.size)(h1:base<=mb/\base<=mv/\base<=sv)(hm:W.heap[mv]? =some (.cells #[.map (some mb)] 187 (0,0)))(hv:W.heap[sv]? =some (.cells #[.slice none 0 0] 32 (0,0)))(z:eu prog 9 W mb [])(ne1:mb≠mv)(ne2:mb≠sv)(ne3:mv≠sv):Oh base n mv sv [] (λx=>x=mb\/x=mv\/x=sv) W mb (.slice none 0 0) []:=
 ⟨hm,z,hv,World.ownsRow_nil _ _ _ _,λj J=>by simp at J,.inl rfl,.inr (.inl rfl),.inr (.inr rfl),λx hx=>by simp[Value.ownBlock]at hx,ne1,ne2,ne3,λx hx=>by have U:=z.lt;have l2:=(zG hm).1;have Z:=(zG hv).1;rcases hx with rfl|rfl|rfl<;>omega,hb⟩
def adJ(wb:zW)(n mv sv bx m:Nat)(b t:Int)(rows:Nat->zI)(es:Nat->Bool)(i:Nat)(L:List Nat)(W:zW):Prop:=
 ∃F G,wX wb.heap.size n mv sv L F W/\Mv wb.heap.size bx m b t rows es i i G W/\(∀x,F x-> ¬G x)/\Below wb.heap.size wb W
def Oo(wb:zW)(n mv sv bx m:Nat)(b t:Int)(rows:Nat->zI)(es:Nat->Bool)(i nb:Nat)(row:zI)(l:Nat)(L:List Nat)(W:zW):Prop:=
 ∃F G,wX wb.heap.size n mv sv L F W/\Mv wb.heap.size bx m b t rows es i i G W/\(∀x,F x-> ¬G x)/\Below wb.heap.size wb W/\(¬F nb/\ ¬G nb/\wb.heap.size<=nb)/\W.rowIs nb 3 m λq=>.int .i64 (if q<l then row.getD q 0 else 0)
theorem U6(row:zI)(h:adJ wb n mv sv bx m b t rows es i L W):Oo wb n mv sv bx m b t rows es i W.heap.size row 0 L (W.alloc (.cells (madeCells #[.int .i64 0] m) 3)):=by
 obtain⟨F,G,h1,h2,h3,h4⟩:=h;have hb:=(Below.refl W.heap.size W).alloc zr (.cells (madeCells #[.int .i64 0] m) 3);have z:=h4.trans (hb.mono h4.size);refine⟨F,G,Fw h1 hb,?_,h3,z,⟨λhx=>?_,λhx=>?_,h4.size⟩,(World.rowIs_made W (.int .i64 0) m 3).congr λp J=>by rw[yN (by omega)]⟩
 ·obtain⟨vN,vE,vals,h2⟩:=h2;exact⟨vN,vE,vals,mO h2 (λx hx=>hb.block x (h2.lt x hx).2) hb.size⟩
 ·obtain⟨mb,v,vals,h1⟩:=h1;have:=(h1.lt _ hx).2;omega
 ·obtain⟨vN,vE,vals,h2⟩:=h2;have:=(h2.lt _ hx).2;omega
theorem adK{l:Nat}{z:Int}(h:Oo wb n mv sv bx m b t rows es i nb row l L W)(Z:row.getD l 0=z):Oo wb n mv sv bx m b t rows es i nb row (l+1) L (W.setCell ⟨nb,l,none⟩ (.int .i64 z)):=by
 obtain⟨F,G,h1,h2,h3,h4,h5,h6⟩:=h;have J: ∀x,x≠nb->(W.setCell ⟨nb,l,none⟩ (.int .i64 z)).heap[x]? =W.heap[x]? :=λx hx=>Below.heap_setCell _ _ _ _ hx;refine⟨F,G,UQ h1 (λx hx=>J x (λe=>h5.1 (e▸hx))) (by simp),JD h2 (λx hx=>J x (λe=>h5.2.1 (e▸hx))) (by simp),h3,h4.setCell h5.2.2 _,h5,(h6.set _ _).congr λq _=>?_⟩;by_cases e:q=l
 ·subst e;rw[yP rfl,yP (by omega),Z]
 ·rw[yN e]
  congr 1;by_cases U:q<l
  ·rw[yP U,yP (by omega)]
  ·rw[yN U,yN (by omega)]
theorem adL{l:Nat}{z:zW}{M:Nat}{a:zO}(cap:Nat)(h:Oo wb n mv sv bx m b t rows es i nb row l L z)(hb:Below z.heap.size z W)(hs:Dm z.heap.size W a (bV n M).length (bV n M))(hM:M<2^n)(hL: ∀x∈L,x<2^n)(hn:n<=80)(hlen:L.length<=4000):
  Calls prog 135 #[.slice a (bV n M).length cap,.pointer (some ⟨mv,0,none⟩),.pointer (some ⟨sv,0,none⟩)] W λe W'=>e=.returned (.int .i64 (((vL L M).idxOf M:Nat):Int))/\Oo wb n mv sv bx m b t rows es i nb row l (vL L M) W':=by
 obtain⟨F,G,⟨mb,v,vals,h1⟩,⟨vN,vE,Z,h2⟩,h3,h4,h5,h6⟩:=h
 have a1:=h4.size
 refine(JC wb.heap.size n mv sv L F M a cap W ⟨mb,v,vals,qN h1 (λx hx=>hb.block x (h1.lt x hx).2) hb.size⟩ hs.1 hM hL hn hlen (λx hx=>?_)).mono ?_
 ·obtain⟨k1,ad,e1,rfl⟩:=hx
  have k2:=hs.2 ad e1
  exact⟨λJ=>by have:=(h1.lt _ J).2;omega,by omega⟩
 ·rintro e W' ⟨rfl,F',n1,n2,n3,n4⟩
  have U: ∀x,F' x->F x\/z.heap.size<=x:=λx hx=>by
   rcases n3 x hx with k|k|k
   ·exact .inl k
   ·obtain⟨k1,ad,e1,rfl⟩:=k;exact .inr (hs.2 ad e1)
   ·exact .inr (Nat.le_trans hb.size k)
  have hk: ∀x,x<z.heap.size-> ¬F x->W'.heap[x]? =z.heap[x]? :=λx hx J=>(n4.block x (Nat.lt_of_lt_of_le hx hb.size) J).trans (hb.block x hx)
  have a2:=Nat.le_trans hb.size n4.size
  refine⟨rfl,F',G,n1,⟨vN,vE,Z,mO h2 (λx hx=>hk x (h2.lt x hx).2 (λJ=>h3 x J hx)) a2⟩,λx hx hG=>?_,mM (h4.trans (hb.mono a1)) n4 (λx hx=>(h1.lt x hx).1) (Nat.le_trans a1 hb.size),⟨λhx=>?_,h5.2⟩,h6.of_block (hk nb h6.lt h5.1)⟩
  ·rcases U x hx with k|k
   ·exact h3 x k hG
   ·have:=(h2.lt x hG).2;omega
  ·rcases U nb hx with k|k
   ·exact h5.1 k
   ·have:=h6.lt;omega
theorem ZJ{l:Nat}(h:Oo wb n mv sv bx m b t rows es i nb row l L W)(J:l<m):W.cell? ⟨nb,l,none⟩=some (.int .i64 0)/\W.frozen? ⟨nb,l,none⟩=false:=by obtain⟨F,G,h1,h2,h3,h4,h5,z⟩:=h;have:=z.cell J;rw[yN (Nat.lt_irrefl _)]at this;exact⟨this,z.frozen l⟩
theorem ZK{F G:Nat->Prop}{J Z W8:zW}{hi:Nat}{vN vE:Value}{vals:zV}(h5:wX wb.heap.size n mv sv L F J)(z:Below J.heap.size J Z)(hA:wJ wb.heap.size bx m b t rows es (i+1) (i+1) (agR G bx Z.heap.size hi) W8 vN vE vals)(hT:SX G Z W8)(hD: ∀x,F x-> ¬G x)(a1:G bx)(hG: ∀x,G x->wb.heap.size<=x)(hB:Below wb.heap.size wb J):adJ wb n mv sv bx m b t rows es (i+1) L W8:=by
 obtain⟨mb,v,U,h1⟩:=h5;have hs:=hB.size;refine⟨F,_,⟨mb,v,U,qN h1 (λx hx=>(hT.block x (Nat.lt_of_lt_of_le (h1.lt x hx).2 z.size) (hD x hx)).trans (z.block x (h1.lt x hx).2)) (Nat.le_trans z.size hT.size)⟩,⟨vN,vE,vals,hA⟩,λx hx hG=>?_,mM (hB.trans (z.mono hs)) hT hG (Nat.le_trans hs z.size)⟩;rcases hG with k|k|k
 ·exact hD x hx k
 ·exact hD x hx (k▸a1)
 ·have:=(h1.lt x hx).2;have:=z.size;omega
theorem Ba{base:Nat}{F:Nat->Prop}(h:wX base n mv sv L F W): ∃av cv,W.cell? ⟨sv,0,none⟩=some (.slice av L.length cv)/\ ∀i,i<L.length-> ∃g a c,av=some ⟨g,0,none⟩/\W.cell? ⟨g,i,none⟩=some (.slice a (bV n (L.getD i 0)).length c)/\Sl W a (bV n (L.getD i 0)).length (bV n (L.getD i 0)):=by
 obtain⟨mb,v,vals,h⟩:=h;rcases h.own.2 with⟨J,U⟩|⟨g,c,cur,e,_⟩
 ·exact⟨none,0,by simp[World.cell?,h.hv,J,U],λi hi=>by omega⟩
 ·refine⟨some ⟨g,0,none⟩,c,by simp[World.cell?,h.hv,e],λi hi=>?_⟩;obtain⟨a,ca,Z,r2,-⟩:=h.rows i hi;have z:=h.own;rw[e]at z;exact⟨g,a,ca,rfl,(z.cellAt i (by omega)).trans Z,r2⟩
theorem U7(b t tr:Int)(a:zO)(n cap:Nat)(a':zO)(U:Nat)(m0:Nat)(N:zL)(E:zB)(ay:zO)(m cy:Nat)(J:zL)(w:zW)(hs:gT w a n N)(he:mR w a' n E)(hG:aK m0 n N)(hn:n<=80)(i4:gT w ay m J)(hb: ∀l,l<m-> ∀x∈J.getD l [],0<=x/\x<(m0:Int))(B2:1<=m)(A4:m<=36)(h0:0<(J.getD 0 []).length):
  Calls prog 115 #[.agg #[.int .i64 b,.int .i64 t,.slice a n cap,.slice a' n U],.int .i64 tr,.slice ay m cy] w (Rn w b tr m (jy N n J (J.getD 0 [])).length (Cb N n J (J.getD 0 [])) (FM N n E J (J.getD 0 []))):=by
 have hL:=i4.1
 obtain⟨j0,s5,s8,s9,t1⟩:=info_parts UR
 have B3:=fO m (by omega)
 have t2:=@run_makeMap prog
 have b3:=aj (bG w (.cells #[.int .i64 b,.int .i64 t,.slice a n cap,.slice a' n U] 35) (.cells #[.int .i64 0,.int .i64 0,.slice none 0 0,.slice none 0 0] 35))
 have l6:=aj (aP w (.cells #[.int .i64 b,.int .i64 t,.slice a n cap,.slice a' n U] 35) (.cells #[.int .i64 0,.int .i64 0,.slice none 0 0,.slice none 0 0] 35))
 have l7:=aj (aQ w (.cells #[.int .i64 b,.int .i64 t,.slice a n cap,.slice a' n U] 35) (.cells #[.int .i64 0,.int .i64 0,.slice none 0 0,.slice none 0 0] 35))
 generalize l8:(w.alloc (.cells #[.int .i64 b,.int .i64 t,.slice a n cap,.slice a' n U] 35)).alloc (.cells #[.int .i64 0,.int .i64 0,.slice none 0 0,.slice none 0 0] 35)=wb at b3 l6 l7
 have i5:Hid (wb.heap.size=w.heap.size+1+1):=by show _=_;rw[<-l8];simp
 have HS:=aj (aG hs b3.out)
 have HE:=aj (bD he b3.out)
 have t6:=aj (aG i4 b3.out)
 have b7:Hid (∀W,Below wb.heap.size wb W->(W.cell? ⟨w.heap.size,0,none⟩=some (.int .i64 b)/\W.cell? ⟨w.heap.size,1,none⟩=some (.int .i64 t)/\W.cell? ⟨w.heap.size,2,none⟩=some (.slice a n cap)/\W.cell? ⟨w.heap.size,3,none⟩=some (.slice a' n U))/\W.heap[w.heap.size+1]? =some (.cells #[.int .i64 0,.int .i64 0,.slice none 0 0,.slice none 0 0] 35 (0,0))):=λW hW=>by have h1:=(hW.block w.heap.size (by rw[i5.out];omega)).trans l6.out;have h2:=(hW.block (w.heap.size+1) (by rw[i5.out];omega)).trans l7.out;exact⟨(aC h1).1,h2⟩
 have f8:Hid (∀(W:zW) (al:zO) (cl:Nat),Below wb.heap.size wb W->Sl W al (J.getD 0 []).length (J.getD 0 [])->Calls prog 137 #[.agg #[.int .i64 b,.int .i64 t,.slice a n cap,.slice a' n U],.slice al (J.getD 0 []).length cl] W (fH W (bV n (kI N n (J.getD 0 []))))):=λW al cl hW d6=>Oj b t a n cap a' n U m0 N al _ cl _ W (aG HS.out hW) hG hn d6 (hb 0 (by omega)) h0
 have f9:Hid (∀(W:zW) (M l:Nat) (a2:zO) (sc:Nat) (al:zO) (cl:Nat),Below wb.heap.size wb W->l<m->Sl W a2 (bV n M).length (bV n M)->Sl W al (J.getD l []).length (J.getD l [])->Calls prog 138 #[.agg #[.int .i64 b,.int .i64 t,.slice a n cap,.slice a' n U],.slice a2 (bV n M).length sc,.slice al (J.getD l []).length cl] W (fH W (bV n (dM N n J M l)))):=λW M l a2 sc al cl hW b8 d6 t7=>by have h:=JB yG b t a n cap a' n U m0 N a2 _ sc (bV n M) al _ cl _ W (aG HS.out hW) hG hn d6 (λx hx=>by have:=iA.1 hx;omega) t7 (hb l b8);rw[Xz hG (hb l b8) M]at h;exact h
 have l9:Hid (∀(W:zW) (M:Nat) (a2:zO) (sc:Nat),Below wb.heap.size wb W->Sl W a2 (bV n M).length (bV n M)->Calls prog 139 #[.agg #[.int .i64 b,.int .i64 t,.slice a n cap,.slice a' n U],.slice a2 (bV n M).length sc] W (adI (vM n E M) W)):=λW M a2 sc hW d6=>U4 b t a n cap a' n U E a2 M sc W (bD HE.out hW) zr d6
 unfold fH at f8 f9
 unfold adI at l9
 have i6:Hid (∀i,∀x∈aM (dM N n J) m (kI N n (J.getD 0 [])) i,x<2^n):=λi=>agV (vP _ _ _) i
 have i7:Hid (kI N n (J.getD 0 [])<2^n):=vP _ _ _
 have d9:Hid (∀M l,dM N n J M l<2^n):=λM l=>ru _ _ _ _
 have g1:Hid (∀l,l<m-> ∃b1 o1 al cl,ay=some ⟨b1,o1,none⟩/\ ∀W,Below wb.heap.size wb W->W.cell? ⟨b1,o1+l,none⟩=some (.slice al (J.getD l []).length cl)/\Sl W al (J.getD l []).length (J.getD l [])):=λl hl=>by obtain⟨b1,o1,al,cl,e1,e2,e3⟩:=gF t6.out l hl;exact⟨b1,o1,al,cl,e1,λW hW=>⟨(hW.cell (p:=⟨b1,o1+l,none⟩) (zk wb _ e2)).trans e2,aF e3 hW⟩⟩
 have e0:jy N n J (J.getD 0 [])=aM (dM N n J) m (kI N n (J.getD 0 [])) 2000:=by unfold jy;rw[hL]
 have n0:Cb N n J (J.getD 0 [])=gN (dM N n J) m (jy N n J (J.getD 0 [])):=by unfold Cb;rw[hL]
 have n2:FM N n E J (J.getD 0 [])=gE (vM n E) (jy N n J (J.getD 0 [])):=rfl
 have d0:Hid (∀(i:Nat) (w':zW) (e:Ending),i<=2000->(aM (dM N n J) m (kI N n (J.getD 0 [])) i).length=i->Ol w b tr m (gN (dM N n J) m (aM (dM N n J) m (kI N n (J.getD 0 [])) i)) (gE (vM n E) (aM (dM N n J) m (kI N n (J.getD 0 [])) i)) e w'->Rn w b tr m (jy N n J (J.getD 0 [])).length (Cb N n J (J.getD 0 [])) (FM N n E J (J.getD 0 [])) e w'):=λi w' e h1 h2 h3=>by have h4:=uz (Nat.le_of_eq h2) (2000-i);rw[show i+(2000-i)=2000 by omega]at h4;rw[n0,n2,e0,h4];exact⟨λ_=>h3,λh=>by omega⟩
 have d1:Hid (∀(i:Nat) (w':zW) (e:Ending),i<=2000->2000<(aM (dM N n J) m (kI N n (J.getD 0 [])) i).length->(e=.returned (.tuple #[.agg #[.int .i64 0,.int .i64 0,.slice none 0 0,.slice none 0 0],bC 3])/\Below w.heap.size w w')->Rn w b tr m (jy N n J (J.getD 0 [])).length (Cb N n J (J.getD 0 [])) (FM N n E J (J.getD 0 [])) e w'):=λi w' e h1 h2 h3=>by have h4:=(BP (d:=dM N n J) (m:=m) (f:=kI N n (J.getD 0 [])) h1).length_le;rw[e0];exact⟨λh=>by omega,λ_=>h3⟩
 clear e0 n0 n2
 generalize(jy N n J (J.getD 0 [])).length=B4 at d0 d1⊢
 generalize Cb N n J (J.getD 0 [])=SN at d0 d1⊢
 generalize FM N n E J (J.getD 0 [])=SE at d0 d1⊢
 clear hs he i4 hb h0 hG hL
 generalize dM N n J=d at f9 i6 d9 d0 d1
 generalize kI N n (J.getD 0 [])=f at f8 i6 i7 d0 d1
 have e4:=zl wb (.cells #[.int .i64 b,.int .i64 tr,.slice none 0 0,.slice none 0 0] 35)
 have e5:=qZ (wb.alloc (.cells #[.int .i64 b,.int .i64 tr,.slice none 0 0,.slice none 0 0] 35)) prog 9
 have e6:=zl ((wb.alloc (.cells #[.int .i64 b,.int .i64 tr,.slice none 0 0,.slice none 0 0] 35)).alloc (.map #[] 0)) (.cells #[.map (some (wb.heap.size+1))] 187)
 have e7:=zl (((wb.alloc (.cells #[.int .i64 b,.int .i64 tr,.slice none 0 0,.slice none 0 0] 35)).alloc (.map #[] 0)).alloc (.cells #[.map (some (wb.heap.size+1))] 187)) (.cells #[.slice none 0 0] 32)
 simp only[World.size_alloc]at e4 e5 e6 e7
 have b0:Hid (Oh wb.heap.size n (wb.heap.size+1+1) (wb.heap.size+1+1+1) [] (λx=>x=wb.heap.size+1\/x=wb.heap.size+1+1\/x=wb.heap.size+1+1+1) ((((wb.alloc (.cells #[.int .i64 b,.int .i64 tr,.slice none 0 0,.slice none 0 0] 35)).alloc (.map #[] 0)).alloc (.cells #[.map (some (wb.heap.size+1))] 187)).alloc (.cells #[.slice none 0 0] 32)) (wb.heap.size+1) (.slice none 0 0) []):=
  U5 (by simp;omega) (by omega) ((Below.heap_alloc _ _ _ (by simp)).trans e6) e7 ((e5.alloc _).alloc _) (by omega) (by omega) (by omega)
 have c6:Hid (wJ wb.heap.size wb.heap.size m b tr (qg d m f) (λj=>vM n E ((aM d m f j).getD j 0)) 0 0 (λx=>x=wb.heap.size) ((((wb.alloc (.cells #[.int .i64 b,.int .i64 tr,.slice none 0 0,.slice none 0 0] 35)).alloc (.map #[] 0)).alloc (.cells #[.map (some (wb.heap.size+1))] 187)).alloc (.cells #[.slice none 0 0] 32)) (.slice none 0 0) (.slice none 0 0) []):=
  JE _ _ (by simp;omega) zr ((Below.heap_alloc _ _ _ (by simp;omega)).trans ((Below.heap_alloc _ _ _ (by simp;omega)).trans ((Below.heap_alloc _ _ _ (by simp)).trans e4)))
 have Z:Hid (Below wb.heap.size wb ((((wb.alloc (.cells #[.int .i64 b,.int .i64 tr,.slice none 0 0,.slice none 0 0] 35)).alloc (.map #[] 0)).alloc (.cells #[.map (some (wb.heap.size+1))] 187)).alloc (.cells #[.slice none 0 0] 32))):=(((zb.alloc zr _).alloc (by simp) _).alloc (by simp;omega) _).alloc (by simp;omega) _
 clear e4 e5 e6 e7
 generalize n3:qg d m f=RW at c6
 have n4:=aj n3
 clear n3
 generalize n5:(λj=>vM n E ((aM d m f j).getD j 0))=ES at c6
 have n6:=aj n5
 clear n5
 obtain⟨⟨p0,p1,p2,p3⟩,-⟩:=b7.out wb zb
 go_enter func115,ntmps115
 go_upto_region 5 with fail
 clear l8 p0 p1 p2 p3
 generalize(((wb.alloc (.cells #[.int .i64 b,.int .i64 tr,.slice none 0 0,.slice none 0 0] 35)).alloc (.map #[] 0)).alloc (.cells #[.map (some (wb.heap.size+1))] 187)).alloc (.cells #[.slice none 0 0] 32)=W6 at b0 c6 Z⊢
 obtain⟨⟨c0,c1,c2,c3⟩,-⟩:=b7.out _ Z.out
 obtain⟨b1,o1,al,cl,rfl,e8⟩:=g1.out 0 (by omega)
 obtain⟨i8,q6⟩:=e8 _ Z.out
 rw[Nat.add_zero]at i8
 have c7:=aj (f8.out W6.drew al cl Z.out.drew (e8 _ Z.out.drew).2)
 clear e8 q6 f8
 generalize J.getD 0 []=B0 at i8 c7
 have i9:Hid (∀w1,Below W6.heap.size W6 w1->wX wb.heap.size n (wb.heap.size+1+1) (wb.heap.size+1+1+1) [] (λx=>x=wb.heap.size+1\/x=wb.heap.size+1+1\/x=wb.heap.size+1+1+1) w1):=λw1 h=>Fw ⟨_,_,_,b0.out⟩ h
 have j1:Hid (∀w1 w2,Below W6.heap.size W6 w1->SX (λx=>x=wb.heap.size+1\/x=wb.heap.size+1+1\/x=wb.heap.size+1+1+1) w1 w2->Mv wb.heap.size wb.heap.size m b tr RW ES 0 0 (λx=>x=wb.heap.size) w2/\Below wb.heap.size wb w2):=λw1 w2 h h2=>by have d2:=b0.out.lt (wb.heap.size+1) (.inl rfl);refine⟨JD ⟨_,_,_,c6.out⟩ (λx hx=>?_) (Nat.le_trans h.size h2.size),mM (Z.out.trans (h.mono Z.out.size)) h2 (λx hx=>by omega) (by have:=h.size;omega)⟩;subst hx;rw[h2.block _ (by have:=h.size;omega) (by omega),h.block _ (by omega)]
 have n7:Hid (∀(w1:zW) (a1:zO) (a6:Nat),Below W6.heap.size W6 w1->Dm W6.heap.size w1 a1 (bV n f).length (bV n f)->Calls prog 135 #[.slice a1 (bV n f).length a6,.pointer (some ⟨wb.heap.size+1+1,0,none⟩),.pointer (some ⟨wb.heap.size+1+1+1,0,none⟩)] w1 λe w2=>(∃z:Int,e=.returned (.int .i64 z))/\adJ wb n (wb.heap.size+1+1) (wb.heap.size+1+1+1) wb.heap.size m b tr RW ES 0 [f] w2):=λw1 a1 a6 a7 a8=>by
  have h4:=b0.out.lt;have q1:=h4 _ (.inl rfl);have q2:=h4 _ (.inr (.inl rfl));have q3:=h4 _ (.inr (.inr rfl));have h5:=Z.out.size;refine(JC wb.heap.size n (wb.heap.size+1+1) (wb.heap.size+1+1+1) [] _ f a1 a6 w1 (i9.out w1 a7) a8.1 i7.out (by simp) hn (by simp) (λx hx=>?_)).mono ?_
  ·obtain⟨h1,ad,e1,e2⟩:=hx;have h3:=a8.2 ad e1;omega
  ·rintro e w2 ⟨rfl,F',t8,B5,v6,v7⟩
   obtain⟨k1,k2⟩:=j1.out w1 w2 a7 v7;refine⟨⟨_,rfl⟩,F',_,t8,k1,λx hx e=>?_,k2⟩;subst e;rcases v6 _ hx with h|h|h
   ·omega
   ·obtain⟨h1,ad,e1,e2⟩:=h;have h3:=a8.2 ad e1;omega
   ·have:=a7.size;omega
 go_cut[] (λwx=>adJ wb n (wb.heap.size+1+1) (wb.heap.size+1+1+1) wb.heap.size m b tr RW ES 0 [f] wx)
 case first=>
  go_region_with (first
   |(go_at_call 137;refine c7.out.mono ?_;rintro e w1 ⟨a1,a6,rfl,a8,a7⟩;have j2:=aj a8;have j3:=aj ((Below.refl W6.heap.size W6).drew.trans a7);clear a8 a7)
   |(go_at_call 135;refine(n7.out w1 a1 a6 j3.out j2.out).mono ?_;rintro e w2 ⟨⟨z,rfl⟩,b4⟩;have d3:=aj b4;clear b4))
  all_goals
   go_wp2_with fail
   go_meet
   exact d3.out
 case rest=>
  have d3:=aj hcut
  clear hcut c0 c1 c2 c3 i8 c7 n7 i9 j1 b0 c6 Z t2
  have B6:Hid (∀i,0<(aM d m f i).length):=λi=>(nA d m f i).1
  go_wp2
  go_loopg[12] 2001 (λg u wx=> ∃i:Nat,g=2001-i/\u=.int .i64 i/\i<=(aM d m f i).length/\(aM d m f i).length<=2000/\adJ wb n (wb.heap.size+1+1) (wb.heap.size+1+1+1) wb.heap.size m b tr RW ES i (aM d m f i) wx)
  case atStart=>exact⟨0,rfl,rfl,Nat.zero_le _,by simp[aM],d3.out⟩
  case round=>
   obtain⟨i,n8,rfl,v8,hlen,b4⟩:=hrel
   have x4:=aj n8
   have e9:=aj b4
   obtain⟨F,G,b9,g3,d4,b5⟩:=b4
   obtain⟨av,cv,g4,g6⟩:=Ba b9
   have b2:=aj b5
   clear n8 b9 g3 d4 b5 d3
   by_cases d2:i<(aM d m f i).length
   ·have j4:(i:Int)<((aM d m f i).length:Int):=by omega
    have c8:=aj (mh d2)
    have f0:=aj (λl hl=>Ep (d:=d) (m:=m) (f:=f) (i:=i) (l:=l) d2 hl)
    have f1:Hid (∀l,l<m->(RW i).getD l 0=(((aM d m f (i+1)).idxOf (d ((aM d m f i).getD i 0) l):Nat):Int)):=λl hl=>by rw[<-n4.out];exact AZ hl
    have c4:=aj (U6 (RW i) e9.out)
    clear g6
    go_wp2
    obtain⟨wq,j5⟩: ∃wq:zW,wq=wr:=⟨_,rfl⟩
    rw[<-j5]at c4⊢
    have A5:Hid (wb.heap.size<=wq.heap.size):=by show _<=_;rw[j5];exact b2.out.size
    clear j5 g4 e9 b2 wr
    have d7:Hid (∀l,i<(fI d (aM d m f i) ((aM d m f i).getD i 0) l).length/\(fI d (aM d m f i) ((aM d m f i).getD i 0) l).getD i 0=(aM d m f i).getD i 0/\(∀x∈fI d (aM d m f i) ((aM d m f i).getD i 0) l,x<2^n)/\(fI d (aM d m f i) ((aM d m f i).getD i 0) l).length<=2000+l):=λl=>by
     have h1:=ze d (aM d m f i) ((aM d m f i).getD i 0) l;refine⟨Nat.lt_of_lt_of_le d2 h1.length_le,uy h1 d2,λx hx=>?_,by have:=zK d (aM d m f i) ((aM d m f i).getD i 0) l;omega⟩;rcases uw.1 hx with h|⟨j,_,rfl⟩
     ·exact i6.out i x h
     ·exact d9.out _ _
    have j6:=aj (λl=>uW d (aM d m f i) ((aM d m f i).getD i 0) l)
    generalize wq.alloc (.cells (madeCells #[.int .i64 0] m) 3)=w1 at c4⊢
    have f2:Hid (Oo wb n (wb.heap.size+1+1) (wb.heap.size+1+1+1) wb.heap.size m b tr RW ES i wq.heap.size (RW i) 0 (fI d (aM d m f i) ((aM d m f i).getD i 0) 0) w1):=c4.out
    clear c4
    generalize n9:aM d m f i=OI at f2 d7 j6 f0 f1 c8 hlen v8 d2 j4⊢
    have x5:=aj n9
    clear n9
    generalize o0:OI.getD i 0=sI at f2 d7 j6 f0 f1 c8
    have q7:=aj o0
    clear o0
    go_loopw[39] (λu wx=> ∃l:Nat,l<=m/\u=.int .i64 l/\Oo wb n (wb.heap.size+1+1) (wb.heap.size+1+1+1) wb.heap.size m b tr RW ES i wq.heap.size (RW i) l (fI d OI sI l) wx) (λu _=>m-(intOf u).toNat)
    case atStart=>exact⟨0,by omega,rfl,f2.out⟩
    case round=>
     obtain⟨l,hl,rfl,o3⟩:=hrel
     have c4:=aj o3
     obtain⟨F,G,b9,g3,d4,b5,o4,o5⟩:=o3
     have b0:=aj b9
     have c6:=aj g3
     have o6:=aj d4
     have b2:=aj b5
     have j7:=aj o4
     have q8:=aj o5
     obtain⟨B7,B8,g4,g6⟩:=Ba b9
     obtain⟨o7,o8,o9,p4⟩:=d7.out l
     obtain⟨gs,a2,x6,rfl,p5,j8⟩:=g6 i o7
     rw[o8]at p5 j8
     have x7:=aj j8
     have x8:=aj o9
     clear b9 g3 d4 b5 o4 o5 j8 o9 o8
     by_cases b8:l<m
     ·have q9:(l:Int)<(m:Int):=by omega
      have A6:(i:Int)<((fI d OI sI l).length:Int):=by omega
      obtain⟨_,_,al,cl,e,j9⟩:=g1.out l b8
      cases e
      obtain⟨x9,-⟩:=j9 _ b2.out
      obtain⟨⟨c0,c1,c2,c3⟩,-⟩:=b7.out _ b2.out
      have c7:=aj (f9.out wr.drew sI l a2 x6 al cl b2.out.drew b8 x7.out (j9 _ b2.out.drew).2)
      have k0:Hid (∀(w1:zW) (a1:zO) (a6:Nat),Below wr.heap.size wr w1->Dm wr.heap.size w1 a1 (bV n (d sI l)).length (bV n (d sI l))->Calls prog 135 #[.slice a1 (bV n (d sI l)).length a6,.pointer (some ⟨wb.heap.size+1+1,0,none⟩),.pointer (some ⟨wb.heap.size+1+1+1,0,none⟩)] w1 λe w2=>e=.returned (.int .i64 ((RW i).getD l 0))/\Oo wb n (wb.heap.size+1+1) (wb.heap.size+1+1+1) wb.heap.size m b tr RW ES i wq.heap.size (RW i) l (fI d OI sI (l+1)) w2):=λw1 a1 a6 a7 a8=>by have h:=adL a6 c4.out a7 a8 (d9.out _ _) x8.out hn (by omega);rw[f1.out l b8,<-f0.out l b8,j6.out l];exact h
      have p6:Hid (∃z,(RW i).getD l 0=z):=⟨_,rfl⟩
      clear j9 f9
      obtain⟨z,hz⟩:=p6.out
      rw[hz]at k0
      have HZ:=aj hz
      clear hz p6
      generalize y0:d sI l=M2 at c7 k0
      clear y0
      generalize J.getD l []=BL at x9 c7
      go_wp2
      go_region_with (first
       |(go_at_call 138;refine c7.out.mono ?_;rintro e w1 ⟨a1,a6,rfl,a8,a7⟩;have j2:=aj a8;have j3:=aj ((Below.refl wr.heap.size wr).drew.trans a7);clear a8 a7)
       |(go_at_call 135;refine(k0.out w1 a1 a6 j3.out j2.out).mono ?_;rintro e w2 ⟨rfl,b4⟩;have d3:=aj b4;obtain⟨B9,C0⟩:=ZJ b4 b8;clear b4))
      all_goals
       go_wp2
       go_roundw
       case rel=>exact⟨l+1,by omega,by go_num,adK d3.out HZ.out⟩
       case measure=>simp[intOf];omega
     ·have q9: ¬(l:Int)<(m:Int):=by omega
      obtain rfl:l=m:=by omega
      clear p5 o7
      rw[<-c8.out]at c4 b0 g4 p4
      generalize p7:aM d l f (i+1)=OS at c4 b0 g4 p4
      have d5:=aj p7
      clear p7
      by_cases r4:2000<OS.length
      ·have l4:((OS.length:Nat):Int)>2000:=by omega
       obtain⟨-,hr⟩:=b7.out _ b2.out
       obtain⟨⟨r0,r1,r2,r3⟩,rf⟩:=aC hr
       have HR:=aj hr
       have k4:Hid (Below w.heap.size w wr):=b3.out.trans (b2.out.mono b3.out.size)
       clear hr
       go_wp2
       obtain⟨⟨f3,-,-⟩,f5⟩:=eF HR.out rfl
       have hb:=f5 w w.heap.size k4.out (by omega)
       obtain⟨⟨z0,z1,z2,z3⟩,-⟩:=aC f3
       exact bodyPost_ret (v:=.tuple #[.agg #[.int .i64 0,.int .i64 0,.slice none 0 0,.slice none 0 0],.iface 45 (.int .i64 3)]) (by simp[results,results115,go_sem,z0,z1,z2,z3]) rfl (d1.out (i+1) _ _ (by omega) (by rw[d5.out];exact r4) ⟨rfl,hb⟩)
      ·have l4: ¬((OS.length:Nat):Int)>2000:=by omega
       obtain⟨vN,vE,vals,hA⟩:=c6.out
       have y1:wr.cell? ⟨wb.heap.size,2,none⟩=some vN:=(aC hA.box).1.2.2.1
       have HA:=aj hA
       have y2:=aj (λw3 o g' U k1 k2 k3=>@UU wb.heap.size wb.heap.size l b tr RW ES i i G wr w3 vN vE vals wq.heap.size o g' U hA (q8.out.congr λq hq=>by rw[yP hq]) ⟨j7.out.2.1,j7.out.2.2⟩ k1 k2 k3)
       have r5:=aj hA.CP
       have y3:Hid (wb.heap.size<=wr.heap.size):=hA.hb
       clear hA
       go_wp2_with (at_builtin;refine wpList_append_lies _ rfl _ _ 32 rfl wb.heap.size 24 j0 (.slice none 0 0) 1 24 underlying32 s5 s8 s9 t1 rfl (by decide) vN i vals rfl (r5.out.alloc _) ⟨wr.heap.size,0,none⟩ 1 1 [.slice (some ⟨wq.heap.size,0,none⟩) l l] rfl rfl (fV _ _ _) (λu hu=>by simp at hu;subst hu;rfl) (by omega) (by unfold maxLen;omega) (by omega) (by have:=y3.out;simp;omega) (wr.heap.size+1) (by simp) ?_;intro g' cg w3 g7 c9 k5 r6;obtain⟨⟨r7,r8⟩,k6,k7⟩:=y2.out w3 _ g' cg g7 c9 (by rw[World.size_alloc];exact k5);have b6:=aj k6;have y4:=aj k7;have C1:=aj c9.size;clear g7 c9 k5 k6 k7)
       have g8:Hid (SX G wr (w3.setCell ⟨wb.heap.size,2,none⟩ (.slice (some ⟨g',0,none⟩) (i+1) cg))):=y4.out
       generalize w3.setCell ⟨wb.heap.size,2,none⟩ (.slice (some ⟨g',0,none⟩) (i+1) cg)=w5 at b6 g8⊢
       have k8:Hid (Below wb.heap.size wb w5):=mM b2.out g8.out (λx hx=>(HA.out.lt x hx).1) HA.out.hb
       have k9:Hid (wX wb.heap.size n (wb.heap.size+1+1) (wb.heap.size+1+1+1) OS F w5):=by obtain⟨mb,v,g9,h1⟩:=b0.out;exact⟨mb,v,g9,qN h1 (λx hx=>g8.out.block x (h1.lt x hx).2 (λhG=>o6.out x hx hG)) g8.out.size⟩
       have y5:Hid (∀x,F x-> ¬agR G wq.heap.size wr.heap.size w3.heap.size x):=λx hx hG=>by
        obtain⟨mb,v,g9,h1⟩:=b0.out;rcases hG with h|h|h
        ·exact o6.out x hx h
        ·exact j7.out.1 (h▸hx)
        ·have:=(h1.lt x hx).2;omega
       obtain⟨C2,C3,A7,l1⟩:=Ba k9.out
       have y6:i<OS.length:=by have h1:=(d7.out l).1;rw[<-c8.out,d5.out]at h1;exact h1
       have p8:OS.getD i 0=sI:=by have h1:=(d7.out l).2.1;rw[<-c8.out,d5.out]at h1;exact h1
       obtain⟨g5,a5,c5,rfl,r9,f6⟩:=l1 i y6
       rw[p8]at r9 f6
       have A8:(i:Int)<(OS.length:Int):=by omega
       obtain⟨⟨c0,c1,c2,c3⟩,-⟩:=b7.out _ k8.out
       have p9:w5.cell? ⟨wb.heap.size,3,none⟩=some vE:=(aC b6.out.box).1.2.2.2
       have s0:Hid (vM n E sI=ES i):=by show _=_;rw[<-n6.out];show vM n E sI=vM n E ((aM d l f i).getD i 0);rw[x5.out,q7.out]
       have q0:=aj (l9.out w5.drew sI a5 c5 k8.out.drew f6)
       rw[s0.out]at q0
       have y7:=aj (λw6 w7 o g2 f7 (hb:Below w5.heap.size w5 w6) k1 k2 k3=>@UW wb.heap.size wb.heap.size l b tr RW ES (i+1) i _ w6 w7 _ vE _ o g2 f7 (mO b6.out (λx hx=>hb.block x (b6.out.lt x hx).2) hb.size) k1 k2 k3)
       have q4:Hid (∀w6,Below w5.heap.size w5 w6->w6.cell? ⟨wb.heap.size,3,none⟩=some vE):=λw6 hb=>(hb.cell (p:=⟨wb.heap.size,3,none⟩) (zk w5 _ p9)).trans p9
       have y8:Hid (∀w6,Below w5.heap.size w5 w6->w6.ownsRow wb.heap.size 4 1 vE i ((List.range i).map λj=>Value.bool (ES j))):=λw6 hb=>aX b6.out.CQ (λx hx=>hb.block x (b6.out.CQ.lt x hx).2)
       have y9:Hid (wb.heap.size<=w5.heap.size):=b6.out.hb
       obtain⟨l0,z6,z7,z8,A0⟩:=info_parts abK
       clear l1 f6 p8 r7 r8 y1 r6
       go_region_law (first
        |(refine step_append_lies _ rfl (.tmp 70) (.tmp 77) 33 rfl wb.heap.size 4 l0 (.bool false) 1 1 underlying33 z6 z7 z8 A0 rfl (by decide) vE i _ (by simp[Act.eval]) ((y8.out w6 Z.out).alloc _) ⟨w6.heap.size,0,none⟩ 1 1 [.bool (ES i)] (by simp[Act.eval]) rfl (fV _ _ _) (λu hu=>by simp at hu;subst hu;rfl) (by omega) (by unfold maxLen;omega) (by omega) (by have:=y9.out;have:=Z.out.size;simp;omega) (w6.heap.size+1) (by simp) ?_;intro g2 f7 w7 i1 d8 l3 s1;obtain⟨⟨m1,m2⟩,m3,m4⟩:=y7.out w6 w7 _ g2 f7 Z.out i1 d8 (by rw[World.size_alloc];exact l3);have A1:=aj m3;have A2:=aj m4;clear m3 m4 i1 d8 l3 s1)
        |(go_simp;go_at_call 139;refine q0.out.mono ?_;rintro e w6 ⟨rfl,q5⟩;have Z:=aj ((Below.refl w5.heap.size w5).drew.trans q5);have A9:=q4.out w6 Z.out;have B1:=q4.out (w6.alloc (.cells #[.bool (ES i)] 4)) (Z.out.trans (((Below.refl w6.heap.size w6).alloc zr _).mono Z.out.size));clear q5))
       all_goals
        have s2:=aj (ZK (i:=i) k9.out Z.out A1.out A2.out y5.out b6.out.gb (λx hx=>(b6.out.lt x hx).1) k8.out)
        go_wp2
        go_roundg (2001-(i+1))
        case measure=>have:=x4.out;omega
        case rel=>exact⟨i+1,rfl,by go_num,by rw[d5.out];omega,by rw[d5.out];omega,by rw[d5.out];exact s2.out⟩
   ·have j4: ¬(i:Int)<((aM d m f i).length:Int):=by omega
    have i2:Hid ((aM d m f i).length=i):=by show _=_;omega
    obtain⟨F,G,b9,⟨vN,vE,vals,hA⟩,d4,b5⟩:=e9.out
    obtain⟨aN,cN,rfl⟩:=nG hA.CP
    obtain⟨aE,cE,rfl⟩:=nG hA.CQ
    obtain⟨⟨x0,x1,x2,x3⟩,-⟩:=aC hA.box
    obtain⟨-,hr⟩:=b7.out _ b5
    obtain⟨⟨r0,r1,r2,r3⟩,rf⟩:=aC hr
    have HR:=aj hr
    have k4:Hid (Below w.heap.size w wr):=b3.out.trans (b5.mono b3.out.size)
    have HA:=aj hA
    clear hr hA b9 d4 b5 g6
    go_wp2
    obtain⟨⟨f3,A3,s3⟩,f5⟩:=eO (v0:=.int .i64 b) (v1:=.int .i64 tr) (v2:=.slice aN i cN) (v3:=.slice aE i cE) HR.out rfl
    have hb:=f5 w w.heap.size k4.out (by omega)
    obtain⟨⟨z0,z1,z2,z3⟩,-⟩:=aC f3
    have s4:=mO HA.out (λx hx=>s3 x (by have:=(HA.out.lt x hx).1;have:=i5.out;omega)) (Nat.le_of_eq A3.symm)
    have l5:=JH (rows':=λj=>(gN d m (aM d m f i)).getD j []) (es':=λj=>(gE (vM n E) (aM d m f i)).getD j false) (MB s4 b3.out.size) (λj hj=>by rw[<-n4.out];exact(Er (Nat.le_of_eq i2.out) (by omega) j hj).symm) (λj hj=>by rw[<-n6.out];exact(JG (vM n E) (Nat.le_of_eq i2.out) (by omega) j hj).symm)
    exact bodyPost_ret (v:=.tuple #[.agg #[.int .i64 b,.int .i64 tr,.slice aN i cN,.slice aE i cE],.nilIface]) (by simp[results,results115,go_sem,z0,z1,z2,z3]) rfl (d0.out i _ _ (by omega) i2.out ⟨_,_,_,vals,G,rfl,by rw[kQ,i2.out];exact l5,hb⟩)
end Go.Proofs.YtceojneljnnooaaGreat
