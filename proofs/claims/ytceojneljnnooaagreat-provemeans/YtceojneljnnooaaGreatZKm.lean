import Derived.Test.YtceojneljnnooaaGreatZEg
import Derived.Laws.BitsLemmas
open Go.Proofs.Tryz
namespace Go.Proofs.YtceojneljnnooaaGreat
open Go.RowKit
set_option maxHeartbeats 0
set_option maxRecDepth 100000
set_option linter.all false
variable{W w:zW}{C:zI}{b a low:Int}{l:List Nat}{k cap m n g:Nat}
theorem Ml{x y:Nat}(hx:x<64)(z:y<64):bits .and .i64 (x:Int) (y:Int)=((x&&&y:Nat):Int):=(bits_nat .i64 6 (by decide) (λn h0 h1=>by rw[IntKind.wrap_i64];omega) x y hx z).1
theorem ZC(b:Int)(x y:Nat)(w:zW)(hx:x<64)(U:y<64):
  Calls prog 99 #[.int .i64 b,.int .i64 (x:Int),.int .i64 (y:Int)] w λe w'=>e=.returned (.bool (Pb b x y))/\w'=w:=by
 have J:=Ml hx U
 by_cases hb:b=1
 ·subst hb
  have hc:Pb 1 x y=decide (x&&&y≠0):=by unfold Pb;simp
  rw[hc]
  by_cases h0:x&&&y=0
  ·rw[h0]at J
   have h1:decide (x&&&y≠0)=false:=by simp[h0]
   rw[h1]
   go_enter func99,ntmps99
   go_wp2
   go_ret
   exact⟨by simp,rfl⟩
  ·have h1:decide (x&&&y≠0)=true:=by simp[h0]
   have h2:(((x&&&y:Nat):Int)==0)=false:=by simp;omega
   rw[h1]
   clear hc h1
   generalize x&&&y=z at J h2 h0
   go_enter func99,ntmps99
   go_wp2
   go_ret
   exact⟨by simp[h0],rfl⟩
 ·have hc:Pb b x y=false:=by unfold Pb;simp[hb]
  have Z:(b==1)=false:=by simp[hb]
  rw[hc]
  go_enter func99,ntmps99
  go_wp2
  go_ret
  exact⟨by simp,rfl⟩
theorem Xw(z:Int)(J:k<m):(List.replicate m z).getD k 0=z:=by simp[List.getD,J]
def adl(w:zW)(m:Nat)(z:Int)(e:Ending)(w':zW):Prop:= ∃g,e=.returned (.slice (some ⟨g,0,none⟩) m m)/\w.heap.size<=g/\(w'.rowIs g 3 m λi=>.int .i64 ((List.replicate m z).getD i 0))/\Below w.heap.size w w'
theorem adn(z:Int)(m:Nat)(w:zW)(hm:m<=1000):
  Calls prog 100 #[.int .i64 z,.int .i64 (m:Int)] w (adl w m z):=by
 have a7:=fO m (by omega)
 have H0:=aj (jI w (List.replicate m z) m)
 have HG:Hid (∀k,k<m->(List.replicate m z).getD k 0=z):=λk hk=>Xw z hk
 unfold adl
 generalize List.replicate m z=T at H0 HG⊢
 go_enter func100,ntmps100
 go_wp2
 generalize w.alloc (.cells (madeCells #[.int .i64 0] m) 3)=w0 at H0⊢
 go_loopw[10] (λi wx=> ∃k:Nat,k<=m/\i=.int .i64 k/\jZ w T m k wx) (λi _=>m-(intOf i).toNat)
 case atStart=>exact⟨0,by omega,rfl,H0.out⟩
 case round=>
  obtain⟨k,hk,rfl,Z⟩:=hrel
  have J:=aj Z
  clear Z
  by_cases a1:k<m
  ·have a6:(k:Int)<(m:Int):=by omega
   have U:=J.out.1.cell a1
   have a8:=J.out.1.frozen k
   have a2:=aj (kS J.out)
   rw[yN (Nat.lt_irrefl _)]at U
   rw[HG.out k a1]at a2
   go_wp2
   go_roundw
   case rel=>exact⟨k+1,by omega,by go_num,a2.out⟩
   case measure=>simp[intOf];omega
  ·have a6: ¬(k:Int)<(m:Int):=by omega
   obtain rfl:m=k:=by omega
   go_wp2
   go_ret
   refine⟨w.heap.size,?_,zr,J.out.1.congr λi hi=>by rw[yP hi];rfl,J.out.2⟩
   simp
def Q9(C:zI)(c:Int):Int:=if fT C C.length<=12/\ -60<=c/\c<=60 then 0 else 1
theorem agL(c:Int)(h:12<fT C C.length):Q9 C c=1:=by unfold Q9;rw[yN (by omega)]
theorem yE(a:zO)(n cap:Nat)(C:zI)(c:Int)(w:zW)(hs:Sl w a n C)(b5:n<=5):
  Calls prog 53 #[.slice a n cap,.int .i64 c] w λe w'=>e=.returned (bC (Q9 C c))/\w'=w:=by
 have hL:=hs.1
 have HS:=aj hs
 have a2:Hid (∀k,k<=n->12<fT C k->Q9 C c=1):=λk hk h=>agL c (by rw[hL];have:=DX C hk;omega)
 have a1:Hid (∀k,fT C (k+1)=fT C k+nN (C.getD k 0)):=λk=>rfl
 have a6:=aj (λk=>WH C k)
 have U:Hid (Q9 C c=if fT C n<=12/\ -60<=c/\c<=60 then 0 else 1):=by show _=_;unfold Q9;rw[hL]
 have HZ:Hid (fT C 0=0):=rfl
 clear hs hL
 generalize hA:fT C=A at a2 a1 a6 U HZ
 clear hA
 generalize Q9 C c=sz at a2 U⊢
 go_enter func53,ntmps53
 go_wp2
 go_loop[5,10] (λsv iv=> ∃k:Nat,k<=n/\iv=.int .i64 k/\sv=.int .i64 (A k)/\A k<=12*(k:Int)) (λ_ iv=>n-(intOf iv).toNat)
 case atStart=>exact⟨0,by omega,rfl,by rw[HZ.out],by rw[HZ.out];decide⟩
 case round=>
  obtain⟨k,hk,rfl,rfl,a8⟩:=hrel
  have a7:=a6.out k
  by_cases b0:k<n
  ·have b2:(k:Int)<(n:Int):=by omega
   obtain⟨b1,o1,rfl,hc⟩:=bH HS.out k b0
   have J:=a1.out k
   have HM:=aj (a2.out (k+1) b0)
   have Z:=a6.out (k+1)
   generalize C.getD k 0=x at hc J
   generalize A k=z at J a8 a7
   unfold nN at J
   by_cases h1:x< -12
   ·obtain rfl:sz=1:=HM.out (by rw[yP (by omega)]at J;omega)
    clear J a7 Z
    go_wp2
    go_ret
    exact⟨by simp[bC],rfl⟩
   ·have b3:decide (x< -12)=false:=by simp;omega
    by_cases h2:x>12
    ·obtain rfl:sz=1:=HM.out (by rw[yN (by omega)]at J;omega)
     clear J a7 Z
     go_wp2
     go_ret
     exact⟨by simp[bC],rfl⟩
    ·have b4:decide (x>12)=false:=by simp;omega
     by_cases h3:x<0
     ·rw[yP h3]at J
      have h4: -x>x:=by omega
      have HY:=aj J
      clear J Z
      go_wp2
      go_round
      case rel=>exact⟨k+1,by omega,by go_num,by rw[HY.out],by rw[HY.out];omega⟩
      case measure=>simp[intOf];omega
     ·rw[yN h3]at J
      have h4: ¬ -x>x:=by omega
      have HY:=aj J
      clear J Z
      go_wp2
      go_round
      case rel=>exact⟨k+1,by omega,by go_num,by rw[HY.out],by rw[HY.out];omega⟩
      case measure=>simp[intOf];omega
  ·have b2: ¬(k:Int)<(n:Int):=by omega
   obtain rfl:k=n:=by omega
   have HE:=U.out
   clear a2 a1 a6 HZ U
   generalize A k=z at a8 a7 HE⊢
   by_cases h1:z>12
   ·obtain rfl:sz=1:=by rw[HE,yN (by omega)]
    clear HE
    go_wp2
    go_ret
    exact⟨by simp[bC],rfl⟩
   ·have b3:decide (z>12)=false:=by simp;omega
    by_cases h2:c< -60
    ·obtain rfl:sz=1:=by rw[HE,yN (by omega)]
     clear HE
     go_wp2
     go_ret
     exact⟨by simp[bC],rfl⟩
    ·have b4:decide (c< -60)=false:=by simp;omega
     by_cases h3:c>60
     ·obtain rfl:sz=1:=by rw[HE,yN (by omega)]
      clear HE
      go_wp2
      go_ret
      exact⟨by simp[bC],rfl⟩
     ·have b6:decide (c>60)=false:=by simp;omega
      obtain rfl:sz=0:=by rw[HE,yP (by omega)]
      clear HE
      go_wp2
      go_ret
      exact⟨by simp[bC],rfl⟩
theorem Mq(c:Int)(less:Bool)(x:Int)(w:zW):
  Calls prog 55 #[.agg #[.int .i64 (-c),.bool less],.int .i64 x] w λe w'=>e=.returned (.bool (jQ c less x))/\Below w.heap.size w w':=by
 have J:=aj ((Below.refl w.heap.size w).alloc zr (.cells #[.int .i64 (-c),.bool less] 98))
 have z:Hid (jQ c less x=if less=true then decide (x< -c)else decide (x= -c)):=by
  show _=_;unfold jQ;cases less
  ·simp;omega
  ·simp;omega
 generalize jQ c less x=r at z⊢
 generalize -c=g at J z⊢
 by_cases h1:x=g
 ·subst h1
  have h2:decide (x<x)=false:=by simp
  cases less
  ·go_enter func55,ntmps55
   go_wp2
   go_ret
   exact⟨by rw[z.out];simp,J.out⟩
  ·go_enter func55,ntmps55
   go_wp2
   go_ret
   exact⟨by rw[z.out];simp,J.out⟩
 ·have U:(x==g)=false:=by simp[h1]
  by_cases h2:x<g
  ·cases less
   ·go_enter func55,ntmps55
    go_wp2
    go_ret
    exact⟨by rw[z.out];simp[h1],J.out⟩
   ·go_enter func55,ntmps55
    go_wp2
    go_ret
    exact⟨by rw[z.out];simp[h2],J.out⟩
  ·have Z:decide (x<g)=false:=by simp;omega
   cases less
   ·go_enter func55,ntmps55
    go_wp2
    go_ret
    exact⟨by rw[z.out];simp[h1],J.out⟩
   ·go_enter func55,ntmps55
    go_wp2
    go_ret
    exact⟨by rw[z.out];simp;omega,J.out⟩
def Pf(p:vY):Value:=.agg #[.int .i64 p.f,.int .i64 p.s,.int .i64 p.y,.int .i64 p.l]
theorem UC(c:Int)(less:Bool)(p:vY)(w:zW):
  Calls prog 82 #[.agg #[.int .i64 (-c),.bool less],Pf p] w λe w'=>e=.returned (.bool (Cn c less p))/\Below w.heap.size w w':=by
 have J:=aj (bG w (.cells #[.int .i64 (-c),.bool less] 98) (.cells #[.int .i64 p.f,.int .i64 p.s,.int .i64 p.y,.int .i64 p.l] 147))
 have U:=aj (λW=>Mq c less p.s W)
 have z:Hid (Cn c less p=(decide (p.f=1)||(decide (p.f=0)&&jQ c less p.s))):=rfl
 unfold Pf
 generalize Cn c less p=r at z⊢
 generalize jQ c less p.s=q at z U
 obtain⟨f,s,y,l⟩:=p
 simp only at z U J⊢
 generalize -c=g at J U⊢
 by_cases h1:f=1
 ·subst h1
  go_enter func82,ntmps82
  go_wp2
  go_ret
  exact⟨by rw[z.out];simp,J.out⟩
 ·have a2:(f==1)=false:=by simp[h1]
  by_cases h0:f=0
  ·subst h0
   go_enter func82,ntmps82
   go_wp2_with fail
   refine(U.out _).mono ?_
   rintro e w1 ⟨rfl,Z⟩
   have a1:=aj (ak J.out Z)
   go_wp2
   go_ret
   exact⟨by rw[z.out];simp,a1.out⟩
  ·have a6:(f==0)=false:=by simp[h0]
   go_enter func82,ntmps82
   go_wp2
   go_ret
   exact⟨by rw[z.out];simp[h0,h1],J.out⟩
theorem CG(c:Int)(less:Bool)(p:vY)(low J:Int)(w:zW):
  Calls prog 105 #[.agg #[.int .i64 (-c),.bool less],Pf p,.int .i64 low,.int .i64 J] w λe w'=>e=.returned (Pf (jh c less p low J))/\Below w.heap.size w w':=by
 unfold jh Pf
 obtain⟨f,s,y,l⟩:=p
 simp only
 generalize -c=g
 have z:Hid (∀u v x:Obj,Below w.heap.size w (((w.alloc u).alloc v).alloc x)):=λu v x=>eT w u v x
 cases less
 ·rw[yN (by simp)]
  by_cases h1:J<g
  ·rw[yP (.inl h1)]
   go_enter func105,ntmps105
   go_wp2
   exact bodyPost_ret (v:=.agg #[.int .i64 2,.int .i64 0,.int .i64 0,.int .i64 0]) (by simp[results,results105,go_sem]) rfl ⟨rfl,z.out _ _ _⟩
  ·have U:decide (J<g)=false:=by simp;omega
   by_cases h2:low>g
   ·rw[yP (.inr (.inl h2))]
    go_enter func105,ntmps105
    go_wp2
    exact bodyPost_ret (v:=.agg #[.int .i64 2,.int .i64 0,.int .i64 0,.int .i64 0]) (by simp[results,results105,go_sem]) rfl ⟨rfl,z.out _ _ _⟩
   ·have Z:decide (low>g)=false:=by simp;omega
    rw[yN (by simp;omega)]
    go_enter func105,ntmps105
    go_wp2
    exact bodyPost_ret (v:=.agg #[.int .i64 f,.int .i64 s,.int .i64 y,.int .i64 l]) (by simp[results,results105,go_sem]) rfl ⟨rfl,z.out _ _ _⟩
 ·by_cases h1:J<g
  ·rw[yP ⟨rfl,h1⟩]
   go_enter func105,ntmps105
   go_wp2
   exact bodyPost_ret (v:=.agg #[.int .i64 1,.int .i64 0,.int .i64 0,.int .i64 l]) (by simp[results,results105,go_sem]) rfl ⟨rfl,z.out _ _ _⟩
  ·have U:decide (J<g)=false:=by simp;omega
   rw[yN (λh=>h1 h.2)]
   by_cases h2:low>g
   ·rw[yP (.inr (.inl h2))]
    go_enter func105,ntmps105
    go_wp2
    exact bodyPost_ret (v:=.agg #[.int .i64 2,.int .i64 0,.int .i64 0,.int .i64 0]) (by simp[results,results105,go_sem]) rfl ⟨rfl,z.out _ _ _⟩
   ·have Z:decide (low>g)=false:=by simp;omega
    by_cases h3:low=g
    ·subst h3
     rw[yP (.inr (.inr ⟨rfl,rfl⟩))]
     go_enter func105,ntmps105
     go_wp2
     exact bodyPost_ret (v:=.agg #[.int .i64 2,.int .i64 0,.int .i64 0,.int .i64 0]) (by simp[results,results105,go_sem]) rfl ⟨rfl,z.out _ _ _⟩
    ·have a1:(low==g)=false:=by simp[h3]
     rw[yN (by simp[h3];omega)]
     go_enter func105,ntmps105
     go_wp2
     exact bodyPost_ret (v:=.agg #[.int .i64 f,.int .i64 s,.int .i64 y,.int .i64 l]) (by simp[results,results105,go_sem]) rfl ⟨rfl,z.out _ _ _⟩
theorem El(h:0<=a/\0<=b):pF (k+1) low a b=if b<low then b else low:=by unfold pF;rw[yP h]
theorem Jt(h: ¬(0<=a/\0<=b))(h2:a<=0/\b<=0):pF (k+1) low a b= -2199023255552:=by unfold pF;rw[yN h,yP h2]
theorem Ju(h: ¬(0<=a/\0<=b))(h2: ¬(a<=0/\b<=0)):pF (k+1) low a b=pF k (if b<low then b else low) b (a+b):=by
 conv=>lhs;unfold pF
 rw[yN h,yN h2]
def ahU(V:Int)(k:Nat)(low a b:Int):Prop:=pF k low a b=V/\Jg k a b/\ -900<=a/\a<=900/\ -900<=b/\b<=900
theorem AX(h: ¬(0<=a/\0<=b))(h2: ¬(a<=0/\b<=0))(h3: -900<=a/\a<=900/\ -900<=b/\b<=900): -900<=a+b/\a+b<=900:=by omega
theorem Jv(a more:Int)(w:zW)(h1: -900<=a/\a<=900)(h2: -900<=a+more/\a+more<=900):
  Calls prog 107 #[.int .i64 a,.int .i64 more] w λe w'=>e=.returned (.int .i64 (lJ a more))/\w'=w:=by
 have H0:Hid (ahU (lJ a more) 2000 a a (a+more)):=⟨rfl,QN h1 h2,h1.1,h1.2,h2.1,h2.2⟩
 generalize lJ a more=V at H0⊢
 go_enter func107,ntmps107
 go_wp2
 generalize a+more=z at H0 h2⊢
 go_loopg[5,6,7] 2000 (λg lv av bv wx=> ∃(k:Nat) (low x y:Int),g=k/\lv=.int .i64 low/\av=.int .i64 x/\bv=.int .i64 y/\ahU V k low x y/\wx=w)
 case atStart=>exact⟨2000,a,a,z,rfl,rfl,rfl,rfl,H0.out,rfl⟩
 case round=>
  obtain⟨k0,low,x,y,hg,rfl,rfl,rfl,⟨hV,a1,a2⟩,rfl⟩:=hrel
  obtain⟨k,rfl⟩: ∃k,k0=k+1:=⟨k0-1,by have:=a1.1;omega⟩
  have Z:=aj hV
  have a6:=aj a1
  have HG:=aj hg
  clear hV a1 hg
  by_cases p1:0<=x
  ·have a7:x≥0:=p1
   by_cases p2:0<=y
   ·have a8:y≥0:=p2
    by_cases J:y<low
    ·obtain rfl:V=y:=by rw[<-Z.out,El ⟨p1,p2⟩,yP J]
     go_wp2
     go_ret
     exact⟨by simp,rfl⟩
    ·obtain rfl:V=low:=by rw[<-Z.out,El ⟨p1,p2⟩,yN J]
     go_wp2
     go_ret
     exact⟨by simp,rfl⟩
   ·have a8:decide (y≥0)=false:=by simp;omega
    by_cases p3:x<=0
    ·have p4:y<=0:=by omega
     obtain rfl:V= -2199023255552:=by rw[<-Z.out,Jt (by omega) (by omega)]
     by_cases J:y<low
     ·go_wp2
      go_ret
      exact⟨by simp,rfl⟩
     ·go_wp2
      go_ret
      exact⟨by simp,rfl⟩
    ·have b0:decide (x<=0)=false:=by simp;omega
     have HN:=aj (yu a6.out (by omega) (by omega))
     have U:=aj (Ju (k:=k) (low:=low) (a:=x) (b:=y) (by omega) (by omega))
     rw[Z.out]at U
     have hs:=AX (a:=x) (b:=y) (by omega) (by omega) a2
     by_cases J:y<low
     ·rw[yP J]at U
      go_wp2
      go_roundg k
      case measure=>have:=HG.out;omega
      case rel=>exact⟨k,y,y,x+y,rfl,rfl,rfl,rfl,⟨U.out.symm,HN.out,by omega,by omega,hs.1,hs.2⟩,rfl⟩
     ·rw[yN J]at U
      go_wp2
      go_roundg k
      case measure=>have:=HG.out;omega
      case rel=>exact⟨k,low,y,x+y,rfl,rfl,rfl,rfl,⟨U.out.symm,HN.out,by omega,by omega,hs.1,hs.2⟩,rfl⟩
  ·have a7:decide (x≥0)=false:=by simp;omega
   have p5:x<=0:=by omega
   by_cases p4:y<=0
   ·obtain rfl:V= -2199023255552:=by rw[<-Z.out,Jt (by omega) (by omega)]
    by_cases J:y<low
    ·go_wp2
     go_ret
     exact⟨by simp,rfl⟩
    ·go_wp2
     go_ret
     exact⟨by simp,rfl⟩
   ·have b1:decide (y<=0)=false:=by simp;omega
    have HN:=aj (yu a6.out (by omega) (by omega))
    have U:=aj (Ju (k:=k) (low:=low) (a:=x) (b:=y) (by omega) (by omega))
    rw[Z.out]at U
    have hs:=AX (a:=x) (b:=y) (by omega) (by omega) a2
    by_cases J:y<low
    ·rw[yP J]at U
     go_wp2
     go_roundg k
     case measure=>have:=HG.out;omega
     case rel=>exact⟨k,y,y,x+y,rfl,rfl,rfl,rfl,⟨U.out.symm,HN.out,by omega,by omega,hs.1,hs.2⟩,rfl⟩
    ·rw[yN J]at U
     go_wp2
     go_roundg k
     case measure=>have:=HG.out;omega
     case rel=>exact⟨k,low,y,x+y,rfl,rfl,rfl,rfl,⟨U.out.symm,HN.out,by omega,by omega,hs.1,hs.2⟩,rfl⟩
theorem MG{B i:Nat}{u0 u1 v:Value}{T:TypeId}(h:W.heap[B]? =some (.cells #[u0,u1] T (0,0))):
  ((W.setCell ⟨B,i,none⟩ v).heap[B]? =some (.cells (#[u0,u1].setIfInBounds i v) T (0,0))/\(W.setCell ⟨B,i,none⟩ v).heap.size=W.heap.size/\ ∀x,x≠B->(W.setCell ⟨B,i,none⟩ v).heap[x]? =W.heap[x]?)/\ ∀(w:zW) (k:Nat),Below k w W->k<=B->Below k w (W.setCell ⟨B,i,none⟩ v):=by
 refine⟨⟨?_,by simp[World.setCell],λx hx=>Below.heap_setCell _ _ _ _ hx⟩,λw k hb z=>hb.setCell z _⟩
 simp[World.setCell,Array.getElem?_modify,h]
def Vl(p:vY)(j:Nat):Int:=if j=0 then p.f else if j=1 then p.s else if j=2 then p.y else p.l
def S9(l:List Nat)(q:Nat):Value:=.int .i64 (Vl (bZ (l.getD (q/4) 0)) (q%4))
theorem aep(l:List Nat)(i j:Nat)(z:j<4):S9 l (i*4+j)=.int .i64 (Vl (bZ (l.getD i 0)) j):=by unfold S9;rw[show(i*4+j)/4=i by omega,show(i*4+j)%4=j by omega]
theorem X0(l:List Nat)(x:Nat)(q:Nat)(z:q<4*l.length):S9 (l++[x]) q=S9 l q:=by unfold S9;rw[uy (List.prefix_append _ _) (by omega:q/4<l.length)]
theorem Db(l:List Nat)(x j:Nat)(z:j<4):S9 (l++[x]) (l.length*4+j)=.int .i64 (Vl (bZ x) j):=by rw[aep _ _ _ z];simp[List.getD]
theorem aer:(prog.info? 147).map (λi=>(i.zero,i.size,i.bytes))=some (some (.agg #[.int .i64 0,.int .i64 0,.int .i64 0,.int .i64 0]),4,32):=by kernel_rfl
def FZ(W:zW)(b len cap:Nat)(l:List Nat):Prop:=
 l.length=len/\len<=cap/\cap<=maxLen/\ ∃cur:Array Value,W.heap[b]? =some (.cells cur 147 (0,0))/\4*cap<=cur.size/\ ∀q,q<4*len->cur[q]? =some (S9 l q)
theorem uY{W':zW}{b len:Nat}(h:FZ W b len cap l)(e:W'.heap[b]? =W.heap[b]?):FZ W' b len cap l:=by obtain⟨h1,h2,h3,cur,h4,h5⟩:=h;exact⟨h1,h2,h3,cur,e.trans h4,h5⟩
theorem zR{b len:Nat}(h:FZ W b len cap l):b<W.heap.size:=by obtain⟨h1,h2,h3,cur,h4,h5⟩:=h;exact(zG h4).1
theorem uZ{b len:Nat}(h:FZ W b len cap l)(q:Nat)(z:q<4*len):W.cell? ⟨b,q,none⟩=some (S9 l q):=by obtain⟨h1,h2,h3,cur,h4,h5,J⟩:=h;simp only[World.cell?,h4];exact J q z
theorem ahh{b len:Nat}(h:FZ W b len cap l)(i:Nat)(hi:i<len):W.cell? ⟨b,i*4,none⟩=some (.int .i64 (bZ (l.getD i 0)).f)/\W.cell? ⟨b,i*4+1,none⟩=some (.int .i64 (bZ (l.getD i 0)).s)/\W.cell? ⟨b,i*4+2,none⟩=some (.int .i64 (bZ (l.getD i 0)).y)/\W.cell? ⟨b,i*4+3,none⟩=some (.int .i64 (bZ (l.getD i 0)).l):=by have h0:=uZ h (i*4+0) (by omega);have h1:=uZ h (i*4+1) (by omega);have h2:=uZ h (i*4+2) (by omega);have h3:=uZ h (i*4+3) (by omega);rw[aep _ _ _ (by omega)]at h0 h1 h2 h3;exact⟨h0,h1,h2,h3⟩
theorem aao{b len:Nat}(h:FZ W b len cap l)(Z:len+1<=cap)(x:Nat):FZ (W.setCells b (0+len*4) [.int .i64 (bZ x).f,.int .i64 (bZ x).s,.int .i64 (bZ x).y,.int .i64 (bZ x).l]) b (len+1) cap (l++[x]):=by
 obtain⟨h1,h2,h3,cur,h4,h5,h6⟩:=h;refine⟨by rw[List.length_append,List.length_singleton];omega,Z,h3,(((cur.setIfInBounds (0+len*4) (.int .i64 (bZ x).f)).setIfInBounds (0+len*4+1) (.int .i64 (bZ x).s)).setIfInBounds (0+len*4+1+1) (.int .i64 (bZ x).y)).setIfInBounds (0+len*4+1+1+1) (.int .i64 (bZ x).l),?_,by simpa using h5,λq hq=>?_⟩
 ·simp[World.setCells,World.setCell,Array.getElem?_modify,h4]
 ·rw[Array.getElem?_setIfInBounds,Array.getElem?_setIfInBounds,Array.getElem?_setIfInBounds,Array.getElem?_setIfInBounds]
  have z:=Db l x 0 (by omega);have n1:=Db l x 1 (by omega);have J:=Db l x 2 (by omega);have U:=Db l x 3 (by omega);rw[h1]at z n1 J U;by_cases e3:q=len*4+3
  ·subst e3;rw[yP (by omega),yP (by simp;omega),U];rfl
  ·rw[yN (by omega)]
   by_cases e2:q=len*4+2
   ·subst e2;rw[yP (by omega),yP (by simp;omega),J];rfl
   ·rw[yN (by omega)]
    by_cases e1:q=len*4+1
    ·subst e1;rw[yP (by omega),yP (by simp;omega),n1];rfl
    ·rw[yN (by omega)]
     by_cases e0:q=len*4+0
     ·subst e0;rw[yP (by omega),yP (by omega),z];rfl
     ·rw[yN (by omega),X0 l x q (by omega)];exact h6 q (by omega)
theorem Bj{w' z:zW}{r:Option Nat}(h1:w.grownBy w' r)(h2:w'.grownBy z r):w.grownBy z r:=
 ⟨h2.os.trans h1.os,h2.tape.trans h1.tape,h2.output.trans h1.output,Nat.le_trans h1.size h2.size,λk J U=>(h2.block k (Nat.lt_of_lt_of_le J h1.size) U).trans (h1.block k J U)⟩
theorem KR(W:zW)(b o:Nat)(u v x y:Value):W.grownBy (W.setCells b o [u,v,x,y]) (some b):=by
 have e:W.setCells b o [u,v,x,y]=(((W.setCell ⟨b,o,none⟩ u).setCell ⟨b,o+1,none⟩ v).setCell ⟨b,o+1+1,none⟩ x).setCell ⟨b,o+1+1+1,none⟩ y:=by simp[World.setCells]
 rw[e];exact Bj (Bj (Bj (jD W ⟨b,o,none⟩ u) (jD _ ⟨b,o+1,none⟩ v)) (jD _ ⟨b,o+1+1,none⟩ x)) (jD _ ⟨b,o+1+1+1,none⟩ y)
theorem Bl(w:zW){ops:Array Oper}{rest:List Oper}{o:Oper}{a:Act}{Q:Exit->Act->zW->Prop}(hg:o.guard=none)(s x:Operand)(hop:o.op=Op.call {callee:=Callee.builtin Builtin.append,args:=#[s,x],argTypes:=#[151,151]})(b len cap:Nat)(l:List Nat)(hs:a.eval s=.slice (some ⟨b,0,none⟩) len cap)(J:FZ w b len cap l)(ad:Addr)(y:Nat)(U Z y2 y3:Int)(a7:U=(bZ y).f)(a8:Z=(bZ y).s)(b0:y2=(bZ y).y)(b1:y3=(bZ y).l)(hx:a.eval x=.slice (some ad) 1 1)(hc: ∀j u,[Value.int .i64 U,.int .i64 Z,.int .i64 y2,.int .i64 y3][j]? =some u->w.cell? (ad.add j)=some u)(hlen:len<=100000000)(hK: ∀b' a1 w',FZ w' b' (len+1) a1 (l++[y])->w.grownBy w' (some b)->(b'=b\/w.heap.size<=b')->wpList prog ops Q rest (a.put o.dst (.slice (some ⟨b',0,none⟩) (len+1) a1)) w'):
  wpList prog ops Q (o::rest) a w:=by
 obtain⟨i,hi,hz0,hz1,hz2⟩:=info_parts aer
 refine wpList_plain hg λK hK'=>?_
 by_cases hr:len+1<=cap
 ·obtain⟨off,a2⟩: ∃off:Nat,off=0:=⟨_,rfl⟩
  have b5:a.eval s=.slice (some ⟨b,off,none⟩) len cap:=by rw[a2];exact hs
  have b2: ∀j,j<4->(w.cell? ⟨b,off+len*4+j,none⟩).isSome=true/\w.frozen? ⟨b,off+len*4+j,none⟩=false:=λj z=>by obtain⟨h1,h2,h3,cur,h4,h5,h6⟩:=J;simp only[World.cell?,World.frozen?,h4];have:off+len*4+j<cur.size:=(by omega);simp[this]
  have hrun:=run_append_room_cells (P:=prog) w 151 o.type 147 i underlying151 hi b off len cap ad 1 1 [.int .i64 U,.int .i64 Z,.int .i64 y2,.int .i64 y3] (by rw[hz1];rfl) hc (λu hu=>by simp at hu;rcases hu with rfl|rfl|rfl|rfl<;>rfl) hr (by rw[hz1];exact λj z=>(b2 j z).1) (by rw[hz1];exact λj z=>(b2 j z).2)
  rw[hz1]at hrun
  unfold Oper.wp
  simp[execOp,hop,resolve,invoke,builtin,b5,hx,hrun,Result.andThen]
  subst a2
  have hp:=aao J hr y
  rw[<-a7,<-a8,<-b0,<-b1]at hp
  exact hK' _ _ (hK b cap (w.setCells b (0+len*4) [.int .i64 U,.int .i64 Z,.int .i64 y2,.int .i64 y3]) hp (KR w _ _ _ _ _ _) (.inl rfl))
 ·have b3:((List.range (4*len)).map (S9 l)).length=len*4:=by simp;omega
  have a6: ∀j u,((List.range (4*len)).map (S9 l))[j]? =some u->w.cell? ((⟨b,0,none⟩:Addr).add j)=some u:=λj u z=>by have b4:j<4*len:=(by have:=(List.getElem?_eq_some_iff.1 z).1;simpa using this);rw[Addr.add_lit,Nat.zero_add,uZ J j b4];simpa[b4]using z
  obtain⟨v',w',hrun,r1,r2⟩:=run_append_arg_grows (P:=prog) w 151 o.type 147 i (.agg #[.int .i64 0,.int .i64 0,.int .i64 0,.int .i64 0]) 4 32 underlying151 hi hz0 hz1 hz2 rfl (by decide) ⟨b,0,none⟩ len cap _ b3 a6 ad 1 1 [.int .i64 U,.int .i64 Z,.int .i64 y2,.int .i64 y3] rfl hc (by omega) (by unfold maxLen;omega) (by omega)
  obtain⟨r3,r4⟩:=r1
  rcases r4 with⟨_,r4⟩|⟨g',b9,cur,rfl,b6,hh,b7,b8,c0,ht⟩
  ·omega
  ·unfold Oper.wp
   simp[execOp,hop,resolve,invoke,builtin,hs,hx,hrun,Result.andThen]
   refine hK' _ _ (hK _ _ _ ⟨by rw[List.length_append,J.1];rfl,b7,b8,cur,hh,by omega,λq c3=>?_⟩ ⟨r2.os,r2.tape,r2.output,r2.size,λk hk _=>r2.block k hk (by simp)⟩ (.inr b6))
   have h3:(cur.toList.take ((len+1)*4))[q]? =((List.range (4*len)).map (S9 l)++[.int .i64 U,.int .i64 Z,.int .i64 y2,.int .i64 y3])[q]? :=by rw[ht]
   rw[List.getElem?_take,yP (by omega),Array.getElem?_toList]at h3
   rw[h3]
   by_cases e0:q<4*len
   ·rw[List.getElem?_append_left (by simpa using e0),X0 l y q (by rw[J.1];exact e0)]
    simp[e0]
   ·obtain⟨j,z,rfl⟩: ∃j,j<4/\q=len*4+j:=⟨q-len*4,by omega,by omega⟩
    have hn:=Db l y j z
    rw[J.1]at hn
    rw[List.getElem?_append_right (by simp;omega),hn]
    rw[show len*4+j-((List.range (4*len)).map (S9 l)).length=j by rw[b3];omega]
    rcases(show j=0\/j=1\/j=2\/j=3 by omega)with rfl|rfl|rfl|rfl
    ·rw[a7];rfl
    ·rw[a8];rfl
    ·rw[b0];rfl
    ·rw[b1];rfl
theorem GN:Maps.Keyed prog 147:=Maps.Keyed.of_law (deep_law_laid zh (m:=4) (by omega) (of_decide_eq_true (by kernel_rfl)) (by kernel_rfl) (by rw[underlying147]))
theorem MK:prog.cellsOf 147=4:=by kernel_rfl
theorem aes:prog.keyType 147=true:=by kernel_rfl
def GQ(n:Nat):Value:=.agg #[.int .i64 (bZ n).f,.int .i64 (bZ n).s,.int .i64 (bZ n).y,.int .i64 (bZ n).l]
theorem ahi(h:n<3013824):(0<=(bZ n).f/\(bZ n).f<=2)/\(-108<=(bZ n).s/\(bZ n).s<=108)/\(-108<=(bZ n).y/\(bZ n).y<=108)/\0<=(bZ n).l/\(bZ n).l<64:=by
 unfold bZ;by_cases h1:n<3013696
 ·rw[yP h1];simp only;omega
 ·rw[yN h1];simp only;omega
theorem aeu{n':Nat}(e:bZ n=bZ n'):n=n':=by
 unfold bZ at e;by_cases h1:n<3013696
 ·rw[yP h1]at e
  by_cases h2:n'<3013696
  ·rw[yP h2]at e;simp only[vY.mk.injEq]at e;omega
  ·rw[yN h2]at e;simp only[vY.mk.injEq]at e;omega
 ·rw[yN h1]at e
  by_cases h2:n'<3013696
  ·rw[yP h2]at e;simp only[vY.mk.injEq]at e;omega
  ·rw[yN h2]at e;simp only[vY.mk.injEq]at e;omega
theorem ahj{n':Nat}(e:GQ n=GQ n'):n=n':=by unfold GQ at e;simp only[Value.agg.injEq,Array.mk.injEq,List.cons.injEq,Value.int.injEq,true_and,and_true]at e;apply aeu;obtain⟨z,J,U,Z⟩:=e;generalize bZ n=p at*;generalize bZ n'=p' at*;obtain⟨f,s,y,l⟩:=p;obtain⟨f',s',y',l'⟩:=p';simp only at z J U Z;rw[z,J,U,Z]
theorem X5(h:n<3013824): ∃kl,keyOf prog 147 (GQ n)=some kl:=by obtain⟨_,_,h3⟩:=Iy;have hb:=ahi h;have z: ∀x:Int,-1000<=x/\x<=1000->Iu (.int .i64 x):=λx hx=>⟨_,rfl,WalkArith.wf_i64 (by omega)⟩;obtain⟨J,e1⟩:=uH prog 3 (226-1) underlying3 (z (bZ n).f (by omega));obtain⟨U,e2⟩:=uH prog 3 (226-1) underlying3 (z (bZ n).s (by omega));obtain⟨Z,e3⟩:=uH prog 3 (226-1) underlying3 (z (bZ n).y (by omega));obtain⟨L4,e4⟩:=uH prog 3 (226-1) underlying3 (z (bZ n).l (by omega));have g1:prog.keyLits 226 3 [.int .i64 (bZ n).f]=some J:=e1;have g2:prog.keyLits 226 3 [.int .i64 (bZ n).s]=some U:=e2;have g3:prog.keyLits 226 3 [.int .i64 (bZ n).y]=some Z:=e3;have g4:prog.keyLits 226 3 [.int .i64 (bZ n).l]=some L4:=e4;refine⟨.string (keyBytes (J++(U++(Z++L4)))),?_⟩;unfold keyOf GQ;simp only[underlying147,aes,Value.formed,MK,Gn,Value.cells,List.size_toArray,List.length_cons,List.length_nil,Nat.zero_add,Nat.reduceAdd,BEq.rfl,Bool.and_self,if_true];unfold Program.keyLits;simp only[underlying147,MK];rw[yP ⟨rfl,by simp⟩];simp only[List.mapM_cons,List.mapM_nil,List.drop_zero,List.drop_succ_cons,List.take_succ_cons,List.take_zero,h3,g1,g2,g3,g4,Option.bind_eq_bind,Option.bind_some,Option.pure_def,Option.map_some,List.flatten_cons,List.flatten_nil,List.append_nil]
def Ke(L:List Nat):List (Value × Value):=(List.range L.length).map λi=>(GQ (L.getD i 0),Value.int .i64 (i:Int))
theorem aev(L:List Nat):(Ke L).length=L.length:=by simp[Ke]
theorem aew(L:List Nat)(M:Nat):Ke (L++[M])=Ke L++[(GQ M,Value.int .i64 (L.length:Int))]:=by
 unfold Ke;rw[List.length_append,List.length_singleton,List.range_succ,List.map_append];congr 1
 ·refine List.map_congr_left λi hi=>?_;have:=List.mem_range.1 hi;simp[List.getD,List.getElem?_append_left this]
 ·simp[List.getD]
theorem aex{L:List Nat}{M:Nat}(h:M∈L):(GQ M,Value.int .i64 ((L.idxOf M:Nat):Int))∈Ke L:=by refine List.mem_map.2 ⟨L.idxOf M,List.mem_range.2 (List.idxOf_lt_length_of_mem h),?_⟩;rw[Gl h]
theorem aey{L:List Nat}{M:Nat}(h: ¬M∈L): ¬GQ M∈(Ke L).map Prod.fst:=λhx=>by obtain⟨p,z,e⟩:=List.mem_map.1 hx;obtain⟨i,hi,rfl⟩:=List.mem_map.1 z;have hm:=jO (List.mem_range.1 hi);exact h (ahj e▸hm)
theorem aez{N:zI}(U:fT C C.length<=12)(J:k<=C.length)(z: ∀i,i<k->0<=N.getD i 0/\N.getD i 0<=1099511627776):(0<=xu C (λi=>N.getD i 0) k/\xu C (λi=>N.getD i 0) k<=13194139533312)/\(0<=xA C (λi=>N.getD i 0) k/\xA C (λi=>N.getD i 0) k<=13194139533312):=by have h0:=Xj (C:=C) (f:=λi=>N.getD i 0) (k:=k) (λi hi=>(z i hi).1);have h1:=qz (C:=C) (f:=λi=>N.getD i 0) (g:=λ_=>1099511627776) (k:=k) (λi hi=>(z i hi).2);have h2:=acP C 1099511627776 k;have h3:=acO C k;have h4:=DX C J;have h5:=Xj (C:=C) (f:=λ_=>1) (k:=k) (λ_ _=>by decide);omega
def tu(u d:Int):Value:=.agg #[.int .i64 u,.int .i64 d]
def aat(w:zW)(u d:Int)(W:zW):Prop:=W.heap[w.heap.size+1]? =some (.cells #[.int .i64 u,.int .i64 d] 95 (0,0))/\W.heap[w.heap.size]? =some (.cells #[.int .i64 0,.int .i64 0] 95 (0,0))/\Below w.heap.size w W
theorem Vm(w:zW):aat w 0 0 ((w.alloc (.cells #[.int .i64 0,.int .i64 0] 95)).alloc (.cells #[.int .i64 0,.int .i64 0] 95)):=by have h1:=aP w (.cells #[.int .i64 0,.int .i64 0] 95) (.cells #[.int .i64 0,.int .i64 0] 95);have h2:=aQ w (.cells #[.int .i64 0,.int .i64 0] 95) (.cells #[.int .i64 0,.int .i64 0] 95);exact⟨h2,h1,bG _ _ _⟩
theorem aau{u d:Int}(h:aat w u d W)(x:Int):aat w x d (W.setCell ⟨w.heap.size+1,0,none⟩ (.int .i64 x)).drew:=by obtain⟨h1,h2,h3⟩:=h;obtain⟨⟨J,-,k1⟩,z⟩:=MG (i:=0) (v:=.int .i64 x) h1;exact⟨J,(k1 _ (by omega)).trans h2,(z w w.heap.size h3 (by omega)).drew⟩
theorem aav{u d:Int}(h:aat w u d W)(x:Int):aat w u x (W.setCell ⟨w.heap.size+1,1,none⟩ (.int .i64 x)).drew:=by obtain⟨h1,h2,h3⟩:=h;obtain⟨⟨J,-,k1⟩,z⟩:=MG (i:=1) (v:=.int .i64 x) h1;exact⟨J,(k1 _ (by omega)).trans h2,(z w w.heap.size h3 (by omega)).drew⟩
theorem Bo(a:zO)(n cap:Nat)(C:zI)(a2:zO)(n2 c3:Nat)(N:zI)(w:zW)(hs:Sl w a n C)(b0:Sl w a2 n2 N)(hn:n<=n2)(b3:fT C C.length<=12)(hN: ∀i,i<n->0<=N.getD i 0/\N.getD i 0<=1099511627776):
  Calls prog 54 #[.slice a n cap,.slice a2 n2 c3] w λe w'=>e=.returned (tu (xu C (λi=>N.getD i 0) C.length) (xA C (λi=>N.getD i 0) C.length))/\Below w.heap.size w w':=by
 have hL:=hs.1
 have c7:=b0.2.1
 unfold maxLen at c7
 have HS:=aj hs
 have c8:=aj b0
 have H0:=aj (Vm w)
 have a8:Hid (∀k,k<=n->(0<=xu C (λi=>N.getD i 0) k/\xu C (λi=>N.getD i 0) k<=13194139533312)/\(0<=xA C (λi=>N.getD i 0) k/\xA C (λi=>N.getD i 0) k<=13194139533312)):=λk hk=>aez b3 (by omega) (λi hi=>hN i (by omega))
 have b7:Hid (∀k,xu C (λi=>N.getD i 0) (k+1)=if 0<C.getD k 0 then xu C (λi=>N.getD i 0) k+C.getD k 0*N.getD k 0 else xu C (λi=>N.getD i 0) k):=λk=>rfl
 have b8:Hid (∀k,xA C (λi=>N.getD i 0) (k+1)=if 0<C.getD k 0 then xA C (λi=>N.getD i 0) k else xA C (λi=>N.getD i 0) k-C.getD k 0*N.getD k 0):=λk=>rfl
 have c9:Hid (∀k,k<n-> -13194139533312<=C.getD k 0*N.getD k 0/\C.getD k 0*N.getD k 0<=13194139533312):=λk hk=>agn b3 (by omega) (hN k hk).1 (hN k hk).2
 have HZ:Hid (xu C (λi=>N.getD i 0) 0=0/\xA C (λi=>N.getD i 0) 0=0):=⟨rfl,rfl⟩
 rw[hL]
 clear hs b0 hL b3 hN
 generalize hU:xu C (λi=>N.getD i 0)=U at a8 b7 HZ⊢
 generalize hD:xA C (λi=>N.getD i 0)=D at a8 b8 HZ⊢
 clear hU hD
 unfold tu
 generalize d0:(w.alloc (.cells #[.int .i64 0,.int .i64 0] 95)).alloc (.cells #[.int .i64 0,.int .i64 0] 95)=wb at H0
 go_enter func54,ntmps54
 go_wp2
 clear d0
 go_loopw[10] (λiv wx=> ∃k:Nat,k<=n/\iv=.int .i64 k/\aat w (U k) (D k) wx) (λiv _=>n-(intOf iv).toNat)
 case atStart=>exact⟨0,by omega,rfl,by rw[HZ.out.1,HZ.out.2];exact H0.out⟩
 case round=>
  obtain⟨k,hk,rfl,Z⟩:=hrel
  have d1:=aj Z
  have hu:=a8.out k hk
  obtain⟨⟨c0,c1⟩,cf⟩:=bL Z.1
  have b4:=aF HS.out Z.2.2
  have b5:=aF c8.out Z.2.2
  by_cases b6:k<n
  ·have c4:(k:Int)<(n:Int):=by omega
   have d7:(k:Int)<(n2:Int):=by omega
   obtain⟨b1,o1,rfl,hc⟩:=bH b4 k b6
   obtain⟨b2,o2,rfl,d2⟩:=bH b5 k (by omega)
   have b9:=c9.out k b6
   have a7:=a8.out (k+1) b6
   have z:=b7.out k
   have J:=b8.out k
   have d3:=aj (λx=>aau Z x)
   have d4:=aj (λx=>aav Z x)
   clear b4 b5 Z
   generalize C.getD k 0=x at hc b9 z J
   generalize N.getD k 0=y at d2 b9 z J
   by_cases hx:x>0
   ·rw[yP hx]at z J
    have a1:=aj z
    have a6:=aj J
    rw[z,J]at a7
    clear z J
    have HN:=aj (d3.out (U k+x*y))
    generalize U k=u at hu a7 c0 HN a1
    generalize D k=d at hu a7 c1 HN a6
    go_wp2
    go_region
    go_wp2
    go_roundw
    case rel=>exact⟨k+1,by omega,by go_num,by rw[a1.out,a6.out];exact HN.out⟩
    case measure=>simp[intOf];omega
   ·rw[yN hx]at z J
    have d8: ¬x>0:=hx
    have a1:=aj z
    have a6:=aj J
    rw[z,J]at a7
    clear z J
    have HN:=aj (d4.out (D k-x*y))
    generalize U k=u at hu a7 c0 HN a1
    generalize D k=d at hu a7 c1 HN a6
    go_wp2
    go_region
    go_wp2
    go_roundw
    case rel=>exact⟨k+1,by omega,by go_num,by rw[a1.out,a6.out];exact HN.out⟩
    case measure=>simp[intOf];omega
  ·have c4: ¬(k:Int)<(n:Int):=by omega
   obtain rfl:k=n:=by omega
   obtain⟨h1,h2,h3⟩:=Z
   have d5:=aj h2
   have d6:=aj h3
   obtain⟨⟨q0,q1⟩,qf⟩:=bL h2
   clear h1 h2 h3 b4 b5
   generalize hU:U k=u at c0 hu
   generalize hD:D k=d at c1 hu
   have HU:=aj hU
   have HD:=aj hD
   clear hU hD d1
   go_wp2
   obtain⟨⟨c5,-,-⟩,c6⟩:=CK (v0:=.int .i64 u) (v1:=.int .i64 d) d5.out rfl
   obtain⟨⟨z0,z1⟩,-⟩:=bL c5
   exact bodyPost_ret (v:=.agg #[.int .i64 u,.int .i64 d]) (by simp[results,results54,go_sem,z0,z1]) rfl ⟨by rw[HU.out,HD.out],c6 _ _ d6.out (by omega)⟩
theorem R3(a:zO)(n cap:Nat)(C:zI)(w:zW)(hs:Sl w a n C)(a6:fT C C.length<=12)(hn:n<=1000):
  Calls prog 79 #[.slice a n cap] w λe w'=>e=.returned (tu (kY C) (kZ C))/\Below w.heap.size w w':=by
 have hL:=hs.1
 have HS:=aj hs
 have a7:=aj ((Below.refl w.heap.size w).alloc zr (.cells #[.int .i64 0,.int .i64 0] 95))
 have a8:Hid ((w.alloc (.cells #[.int .i64 0,.int .i64 0] 95)).heap[w.heap.size]? =some (.cells #[.int .i64 0,.int .i64 0] 95 (0,0))):=zl _ _
 have U:Hid ((w.alloc (.cells #[.int .i64 0,.int .i64 0] 95)).heap.size=w.heap.size+1):=by show _=_;simp
 generalize c0:w.alloc (.cells #[.int .i64 0,.int .i64 0] 95)=wb at a7 a8 U
 have c6:=fO n (by omega)
 have H0:=aj (jI wb (List.replicate n 1) n)
 have HG:Hid (∀k,k<n->(List.replicate n (1:Int)).getD k 0=1):=λk hk=>Xw 1 hk
 have b0:Hid ((List.replicate n (1:Int)).length=n):=by show _=_;simp
 have b1:Hid (∀x∈List.replicate n (1:Int),(Lit.int .i64 x).wf=true):=λx hx=>by rw[(List.mem_replicate.1 hx).2];exact WalkArith.wf_i64 (by omega)
 have J:Hid (∀(T:zI) (g:Nat) (W:zW),Sl W a n C->Sl W (some ⟨g,0,none⟩) n T->(∀k,k<n->T.getD k 0=1)->Calls prog 54 #[.slice a n cap,.slice (some ⟨g,0,none⟩) n n] W λe w'=>e=.returned (tu (kY C) (kZ C))/\Below W.heap.size W w'):=λT g W h1 h2 h3=>by
  have h:=Bo a n cap C (some ⟨g,0,none⟩) n n T W h1 h2 zr a6 (λi hi=>by rw[h3 i hi];decide);have e1:=qz (C:=C) (f:=λi=>T.getD i 0) (g:=λ_=>1) (k:=C.length) (λi hi=>Int.le_of_eq (h3 i (by omega)));have e2:=qz (C:=C) (f:=λ_=>1) (g:=λi=>T.getD i 0) (k:=C.length) (λi hi=>Int.le_of_eq (h3 i (by omega)).symm);have e3:xu C (λi=>T.getD i 0) C.length=kY C:=by unfold kY;omega
  have e4:xA C (λi=>T.getD i 0) C.length=kZ C:=by unfold kZ;omega
  rw[e3,e4]at h;exact h
 clear hs hL a6
 unfold tu at J⊢
 generalize kY C=u at J⊢
 generalize kZ C=d at J⊢
 generalize List.replicate n (1:Int)=T at H0 HG b0 b1
 go_enter func79,ntmps79
 go_wp2
 clear c0
 generalize wb.alloc (.cells (madeCells #[.int .i64 0] n) 3)=w0 at H0⊢
 go_loopw[10] (λi wx=> ∃k:Nat,k<=n/\i=.int .i64 k/\jZ wb T n k wx) (λi _=>n-(intOf i).toNat)
 case atStart=>exact⟨0,by omega,rfl,H0.out⟩
 case round=>
  obtain⟨k,hk,rfl,b2⟩:=hrel
  have z:=aj b2
  clear b2
  by_cases b3:k<n
  ·have b6:(k:Int)<(n:Int):=by omega
   have a2:=z.out.1.cell b3
   have c7:=z.out.1.frozen k
   have b4:=aj (kS z.out)
   rw[yN (Nat.lt_irrefl _)]at a2
   rw[HG.out k b3]at b4
   go_wp2
   go_roundw
   case rel=>exact⟨k+1,by omega,by go_num,b4.out⟩
   case measure=>simp[intOf];omega
  ·have b6: ¬(k:Int)<(n:Int):=by omega
   obtain rfl:k=n:=by omega
   have b5:=aj (ak a7.out z.out.2)
   have b7:Hid (Sl wr (some ⟨wb.heap.size,0,none⟩) k T):=ig b0.out (by unfold maxLen;omega) b1.out (z.out.1.congr λi hi=>by rw[yP hi])
   have c3:=aj (J.out T wb.heap.size wr (aF HS.out b5.out) b7.out HG.out)
   go_wp2_with fail
   refine c3.out.mono ?_
   rintro e w1 ⟨rfl,Z⟩
   have c4:=aj (ak b5.out Z)
   have a1:=(Z.block w.heap.size (by have:=z.out.2.size;have:=U.out;omega)).trans ((z.out.2.block w.heap.size (by have:=U.out;omega)).trans a8.out)
   have c5:=aj a1
   obtain⟨⟨q0,q1⟩,qf⟩:=bL a1
   clear Z a1
   go_wp2
   obtain⟨⟨b8,-,-⟩,b9⟩:=CK (v0:=.int .i64 u) (v1:=.int .i64 d) c5.out rfl
   obtain⟨⟨z0,z1⟩,-⟩:=bL b8
   exact bodyPost_ret (v:=.agg #[.int .i64 u,.int .i64 d]) (by simp[results,results79,go_sem,z0,z1]) rfl ⟨rfl,b9 _ _ c4.out zr⟩
theorem aaw:(prog.info? 95).map (λi=>(i.zero,i.size,i.bytes))=some (some (.agg #[.int .i64 0,.int .i64 0]),2,16):=by kernel_rfl
theorem Vn(n:Nat)(U:n<=1000000)(w:zW):(Instr.makeSlice 115 (.int .i64 (n:Int)) (.int .i64 (n:Int))).run prog w=.ok (.slice (some ⟨w.heap.size,0,none⟩) n n) (w.alloc (.cells (madeCells #[.int .i64 0,.int .i64 0] (n*2)) 95)):=by obtain⟨i,hi,J,hs,hb⟩:=info_parts aaw;have z:=run_make (P:=prog) w 115 95 i _ underlying115 hi J .i64 .i64 n n (by omega) (Int.le_refl _) (by rw[hb];omega) (by omega);simp only[Int.toNat_natCast,hs]at z;exact z
def ldC(b:Int)(C:zI)(k q:Nat):Value:=.int .i64 (if q/2<k then(if q%2=0 then pE b C ((q/2:Nat):Int)else pU b C ((q/2:Nat):Int))else 0)
def Ag(b:Int)(C:zI)(m k g:Nat)(W:zW):Prop:=W.rowIs g 95 (m*2) (ldC b C k)
theorem Vo(b:Int)(C:zI)(m:Nat)(w:zW):Ag b C m 0 w.heap.size (w.alloc (.cells (madeCells #[.int .i64 0,.int .i64 0] (m*2)) 95)):=
 ⟨_,zl _ _,size_madeCells _ _,λi hi=>by unfold ldC;rw[yN (by omega)];rcases(show i%2=0\/i%2=1 by omega)with h|h<;>simp[madeCells,hi,h]⟩
theorem Vp(h:Ag b C m k g W){j:Nat}(z:j<m):(∃v,W.cell? ⟨g,j*2,none⟩=some v)/\(∃v,W.cell? ⟨g,j*2+1,none⟩=some v)/\ ∀q,W.frozen? ⟨g,q,none⟩=false:=⟨⟨_,h.cell (i:=j*2) (by omega)⟩,⟨_,h.cell (i:=j*2+1) (by omega)⟩,h.frozen⟩
theorem R4(h:Ag b C m m g W){j:Nat}(z:j<m):W.cell? ⟨g,j*2,none⟩=some (.int .i64 (pE b C (j:Int)))/\W.cell? ⟨g,j*2+1,none⟩=some (.int .i64 (pU b C (j:Int))):=by have h0:=h.cell (i:=j*2) (by omega);have h1:=h.cell (i:=j*2+1) (by omega);unfold ldC at h0 h1;rw[yP (by omega),yP (by omega),show j*2/2=j by omega]at h0;rw[yP (by omega),yN (by omega),show(j*2+1)/2=j by omega]at h1;exact⟨h0,h1⟩
theorem aeA(h:Ag b C m k g W):Ag b C m (k+1) g ((W.setCell ⟨g,k*2,none⟩ (.int .i64 (pE b C (k:Int)))).setCell ⟨g,k*2+1,none⟩ (.int .i64 (pU b C (k:Int)))):=
 ((h.set (k*2) _).set (k*2+1) _).congr λq Z=>by
  unfold ldC;by_cases z:q=k*2+1
  ·subst z;rw[yP rfl,yP (by omega),yN (by omega),show(k*2+1)/2=k by omega]
  ·rw[yN z]
   by_cases J:q=k*2
   ·subst J;rw[yP rfl,yP (by omega),yP (by omega),show k*2/2=k by omega]
   ·rw[yN J]
    congr 1;by_cases U:q/2<k
    ·rw[yP U,yP (show q/2<k+1 by omega)]
    ·rw[yN U,yN (show¬q/2<k+1 by omega)]
theorem aeB{f g:Nat->Int}(h: ∀i,i<k->f i=g i):xu C f k=xu C g k/\xA C f k=xA C g k:=by have h1:=qz (C:=C) (λi hi=>Int.le_of_eq (h i hi));have h2:=qz (C:=C) (λi hi=>Int.le_of_eq (h i hi).symm);omega
def Vq(w:zW)(b:Int)(C:zI)(m:Nat)(e:Ending)(w':zW):Prop:= ∃g,e=.returned (.tuple #[.slice (some ⟨g,0,none⟩) m m,.nilIface])/\w.heap.size<=g/\Ag b C m m g w'/\Below w.heap.size w w'
theorem R5(b:Int)(a:zO)(n cap:Nat)(C:zI)(w:zW)(hs:Sl w a n C)(hM:aU b (n:Int)=0)(a2:fT C C.length<=12):
  Calls prog 77 #[.int .i64 b,.slice a n cap,.int .i64 (aD b (n:Int))] w (Vq w b C (aD b (n:Int)).toNat):=by
 have hL:=hs.1
 obtain⟨h1,h2,h3,h4,h5,h6⟩:=bA hM
 obtain⟨m1,c0⟩:=fQ hM
 have HS:=aj hs
 have a6:aD b (n:Int)=(((aD b (n:Int)).toNat:Nat):Int):=by omega
 have J:Hid (∀W l,l<(aD b (n:Int)).toNat->Calls prog 103 #[.int .i64 b,.int .i64 n,.int .i64 (l:Int)] W (CF W (bM b n (l:Int)))):=λW l hl=>Jr b n l W (by unfold Iq;rw[yP hM,yP ⟨by omega,by omega⟩])
 have a7:Hid (∀(g l:Nat) (W:zW),Sl W a n C->Sl W (some ⟨g,0,none⟩) n (bM b n (l:Int))->Calls prog 54 #[.slice a n cap,.slice (some ⟨g,0,none⟩) n n] W λe w'=>e=.returned (tu (pE b C (l:Int)) (pU b C (l:Int)))/\Below W.heap.size W w'):=λg l W k1 k2=>by have hd: ∀i,i<n->(bM b n (l:Int)).getD i 0=pW b n l i:=λi hi=>lT b n l i hi;have h:=Bo a n cap C (some ⟨g,0,none⟩) n n (bM b n (l:Int)) W k1 k2 zr a2 (λi hi=>by rw[hd i hi];have:=nX b h2 n l i;have:=dA b h2;omega);have e:=aeB (C:=C) (f:=λi=>(bM b n (l:Int)).getD i 0) (g:=pW b C.length (l:Int)) (k:=C.length) (λi hi=>by rw[hL];exact hd i (by omega));rw[e.1,e.2]at h;exact h
 have a8:Hid (∀l:Int,(bM b n l).length=n):=λl=>bF b n l
 unfold CF at J
 rw[a6]
 simp only[Int.toNat_natCast]
 unfold Vq
 generalize(aD b (n:Int)).toNat=m at J m1 c0⊢
 have c8:=Vn m (by omega)
 have H0:=aj (Vo b C m w)
 have b0:=aj ((Below.refl w.heap.size w).alloc zr (.cells (madeCells #[.int .i64 0,.int .i64 0] (m*2)) 95))
 clear hs hL hM a2 h1 h2 h3 h4 h5 h6 a6
 unfold tu at a7
 go_enter func77,ntmps77
 go_wp2
 generalize w.alloc (.cells (madeCells #[.int .i64 0,.int .i64 0] (m*2)) 95)=w0 at H0 b0⊢
 go_loopw[15] (λi wx=> ∃k:Nat,k<=m/\i=.int .i64 k/\Ag b C m k w.heap.size wx/\Below w.heap.size w wx) (λi _=>m-(intOf i).toNat)
 case atStart=>exact⟨0,by omega,rfl,H0.out,b0.out⟩
 case round=>
  obtain⟨k,hk,rfl,b1,b2⟩:=hrel
  have U:=aj b1
  have b3:=aj b2
  clear b1 b2
  by_cases b4:k<m
  ·have b8:(k:Int)<(m:Int):=by omega
   have c3:=aj (J.out wr k b4)
   go_wp2_with (first
    |(go_at_call 103;refine c3.out.mono ?_;rintro e w1 ⟨g1,rfl,c9,z,Z⟩;rw[a8.out]at z;simp only[a8.out];have c7:=aj z;have b5:=aj (ak b3.out Z);have b6:=aj (U.out.of_block (Z.block _ U.out.lt));have c4:=aj (a7.out g1 k w1 (aF HS.out b5.out) z);clear z Z)
    |(go_at_call 54;refine c4.out.mono ?_;rintro e w2 ⟨rfl,a1⟩;have c5:=aj (ak b5.out a1);have b7:Hid (Ag b C m k w.heap.size w2):=b6.out.of_block (a1.block _ b6.out.lt);obtain⟨⟨v0,d0⟩,⟨v1,d1⟩,d2⟩:=Vp b7.out b4;clear a1))
   have b9:=aj (aeA b7.out)
   have c6:Hid (Below w.heap.size w ((w2.setCell ⟨w.heap.size,k*2,none⟩ (.int .i64 (pE b C (k:Int)))).setCell ⟨w.heap.size,k*2+1,none⟩ (.int .i64 (pU b C (k:Int))))):=(c5.out.setCell zr _).setCell zr _
   go_roundw
   case rel=>exact⟨k+1,by omega,by go_num,b9.out,c6.out⟩
   case measure=>simp[intOf];omega
  ·have b8: ¬(k:Int)<(m:Int):=by omega
   obtain rfl:k=m:=by omega
   go_wp2
   go_ret2
   exact⟨w.heap.size,rfl,zr,U.out,b3.out⟩
def MO(b:Int)(C:zI)(c:Int)(less:Bool)(m g z J U:Nat)(W:zW):Prop:=
 W.heap[z]? =some (.cells #[.slice (some ⟨g,0,none⟩) m m] 115 (0,0))/\W.heap[J]? =some (.cells #[.int .i64 (kY C),.int .i64 (kZ C)] 95 (0,0))/\W.heap[U]? =some (.cells #[.int .i64 (-c),.bool less] 98 (0,0))/\Ag b C m m g W
theorem tC{c:Int}{less:Bool}{J U Z:Nat}{W':zW}(h:MO b C c less m g J U Z W)(hb:Below W.heap.size W W'):MO b C c less m g J U Z W':=by obtain⟨h1,h2,h3,h4⟩:=h;have z: ∀{B:Nat} {o:Obj},W.heap[B]? =some o->W'.heap[B]? =some o:=λ{B o} h=>(hb.block B (zG h).1).trans h;exact⟨z h1,z h2,z h3,h4.of_block (hb.block _ h4.lt)⟩
theorem Ez{B:Nat}{v:Value}{T:TypeId}(h:W.heap[B]? =some (.cells #[v] T (0,0))):W.cell? ⟨B,0,none⟩=some v:=by simp[World.cell?,h]
theorem ahm{s:Int}(h: -107<=s/\s<=107)(h1:1<=b)(h2:b<=6): -642<=s*b/\s*b<=642:=by have z:s*b<=107*b:=Int.mul_le_mul_of_nonneg_right h.2 (by omega);have J: -107*b<=s*b:=Int.mul_le_mul_of_nonneg_right h.1 (by omega);omega
theorem aax(h2:b<=6)(z:fT C C.length<=12)(x:Int):(0<=pE b C x/\pE b C x<=72)/\(0<=pU b C x/\pU b C x<=72):=by
 have h:=yt h2 C x;have J:=udA z;have U:1<=au b-1/\au b-1<=5:=by unfold au;split<;>omega
 have Z:(au b-1)*kY C<=5*kY C:=Int.mul_le_mul_of_nonneg_right U.2 J.1;have e2:(au b-1)*kZ C<=5*kZ C:=Int.mul_le_mul_of_nonneg_right U.2 J.2.1;omega
theorem R6: ∀(k:Nat) (low a b:Int),-900<=low/\low<=900->(-900<=a/\a<=900/\ -900<=b/\b<=900)-> -2199023255552<=pF k low a b/\pF k low a b<=900
 |0,low,_,_,h,_=>by show -2199023255552<=low/\low<=900;omega
 |k+1,low,a,b,h,hb=>by
  by_cases h1:0<=a/\0<=b
  ·rw[El h1];split<;>omega
  ·by_cases h2:a<=0/\b<=0
   ·rw[Jt h1 h2];omega
   ·rw[Ju h1 h2];have hs:=AX h1 h2 hb;exact R6 k _ _ _ (by split<;>omega) ⟨hb.2.2.1,hb.2.2.2,hs.1,hs.2⟩
theorem R7{more:Int}(h1: -900<=a/\a<=900)(h2: -900<=a+more/\a+more<=900): -2199023255552<=lJ a more/\lJ a more<=900:=R6 _ _ _ _ h1 ⟨h1.1,h1.2,h2.1,h2.2⟩
def zS(W:zW)(p:vY)(e:Ending)(W':zW):Prop:=e=.returned (Pf p)/\Below W.heap.size W W'
theorem R8(b:Int)(C:zI)(c:Int)(less:Bool)(m g B0 B1 B2 B3:Nat)(p:vY)(x:Nat)(W:zW)(h1:1<=b)(h2:b<=6)(b2:fT C C.length<=12)(hp:FU b p)(hx:x<m)(h0:W.heap[B0]? =some (.cells #[.int .i64 b] 3 (0,0)))(hB:MO b C c less m g B1 B2 B3 W):
  Calls prog 104 #[Pf p,.int .i64 (x:Int),.pointer (some ⟨B0,0,none⟩),.pointer (some ⟨B1,0,none⟩),.pointer (some ⟨B2,0,none⟩),.pointer (some ⟨B3,0,none⟩)] W (zS W (lQ b C c less p x)):=by
 have hA:=udA b2
 have b8:=Co hp
 obtain⟨f,s,y,l⟩:=p
 simp only at b8
 unfold zS
 have c8:(x:Int)<(m:Int):=by omega
 have a8:=bG W (.cells #[.int .i64 f,.int .i64 s,.int .i64 y,.int .i64 l] 147) (.cells #[.int .i64 0,.int .i64 0,.int .i64 0,.int .i64 0] 147)
 have hr:=aQ W (.cells #[.int .i64 f,.int .i64 s,.int .i64 y,.int .i64 l] 147) (.cells #[.int .i64 0,.int .i64 0,.int .i64 0,.int .i64 0] 147)
 have hq:=aP W (.cells #[.int .i64 f,.int .i64 s,.int .i64 y,.int .i64 l] 147) (.cells #[.int .i64 0,.int .i64 0,.int .i64 0,.int .i64 0] 147)
 by_cases hf:f=0
 ·subst hf
  have b9:=aax (b:=b) h2 b2 (x:Int)
  have c3:=ahm b8.2.1 h1 h2
  have b3:=zC b C (x:Int)
  have b4:Hid (lQ b C c less ⟨0,s,y,l⟩ x=jh c less ⟨0,s*b+pE b C x-pU b C x,0,0⟩ (Ef C (s*b+pE b C x-pU b C x)) (zD C (s*b+pE b C x-pU b C x))):=by show _=_;unfold lQ;rw[yP rfl,<-b3,show s*b+(pE b C x-pU b C x)=s*b+pE b C x-pU b C x by omega]
  have b0:=aj (λs low c4 W=>CG c less ⟨0,s,0,0⟩ low c4 W)
  have c5:=tC hB a8
  obtain⟨k1,k2,k3,k4⟩:=c5
  have d0:=Ez ((a8.block B0 (zG h0).1).trans h0)
  have d1:=Ez k1
  obtain⟨⟨d2,d3⟩,-⟩:=bL k2
  obtain⟨⟨d4,d5⟩,-⟩:=bL k3
  obtain⟨d6,d7⟩:=R4 k4 hx
  have HR:=aj hr
  have b5:=aj a8
  rw[b4.out]
  clear hB k1 k2 k3 k4 h0 b3 hr a8 hp b4 b2
  unfold Ef zD
  unfold Pf at b0⊢
  generalize pE b C (x:Int)=u at b9 d6⊢
  generalize pU b C (x:Int)=d at b9 d7⊢
  generalize kY C=ua at hA d2⊢
  generalize kZ C=da at hA d3⊢
  simp only at b0⊢
  have c6:IntKind.i64.wrap (s*b)=s*b:=by rw[IntKind.wrap_i64];omega
  obtain⟨Z,hZ⟩: ∃Z,Z=s*b+u-d:=⟨_,rfl⟩
  rw[<-hZ]
  obtain⟨R,hR⟩: ∃R,jh c less ⟨0,Z,0,0⟩ (if da<=Z then Z else -1099511627776) (if Z<= -ua then Z else 1099511627776)=R:=⟨_,rfl⟩
  rw[hR]
  obtain⟨rf,rs,ry,rl⟩:=R
  simp only
  go_enter func104,ntmps104
  go_wp2_with fail
  have c7:=(aC hq).1
  obtain⟨q0,q1,q2,q3⟩:=c7
  have c0:Hid (W.heap.size+1<((W.alloc (.cells #[.int .i64 0,.int .i64 s,.int .i64 y,.int .i64 l] 147)).alloc (.cells #[.int .i64 0,.int .i64 0,.int .i64 0,.int .i64 0] 147)).heap.size):=by show _<_;simp
  clear hq
  generalize(W.alloc (.cells #[.int .i64 0,.int .i64 s,.int .i64 y,.int .i64 l] 147)).alloc (.cells #[.int .i64 0,.int .i64 0,.int .i64 0,.int .i64 0] 147)=W2 at d0 d1 d2 d3 d4 d5 d6 d7 q0 q1 q2 q3 HR b5 c0⊢
  go_quiet (fail)
  rw[show s*b+u-d=Z from hZ.symm]
  have c9: -1000<=Z/\Z<=1000:=by omega
  clear hZ c6 c3
  have b1:Hid (∀(nq:Nat) (w3:zW),Below (W2.drewN nq).heap.size (W2.drewN nq) w3->w3.heap[W.heap.size+1]? =some (.cells #[.int .i64 0,.int .i64 0,.int .i64 0,.int .i64 0] 147 (0,0))/\Below W.heap.size W w3):=λnq w3 h=>by have J:Below W2.heap.size W2 w3:=⟨h.os,h.tape,h.output,h.size,h.block⟩;exact⟨(J.block _ c0.out).trans HR.out,ak b5.out J⟩
  by_cases g1:Z≥da
  ·rw[yP g1]at hR
   by_cases g2:Z<= -ua
   ·rw[yP g2]at hR
    go_wp2_with fail
    refine(b0.out Z Z Z _).mono ?_
    rintro e w3 ⟨rfl,J⟩
    simp only[hR]
    obtain⟨z,U⟩:=b1.out _ w3 J
    have a6:=aj U
    have a7:=aj z
    obtain⟨⟨r0,r1,r2,r3⟩,b6⟩:=aC z
    clear z J U
    go_wp2
    obtain⟨⟨a1,-,-⟩,a2⟩:=eO (v0:=.int .i64 rf) (v1:=.int .i64 rs) (v2:=.int .i64 ry) (v3:=.int .i64 rl) a7.out rfl
    obtain⟨⟨z0,z1,z2,z3⟩,-⟩:=aC a1
    exact bodyPost_ret (v:=.agg #[.int .i64 rf,.int .i64 rs,.int .i64 ry,.int .i64 rl]) (by simp[results,results104,go_sem,z0,z1,z2,z3]) rfl ⟨rfl,a2 _ _ a6.out (by omega)⟩
   ·rw[yN g2]at hR
    go_wp2_with fail
    refine(b0.out Z Z 1099511627776 _).mono ?_
    rintro e w3 ⟨rfl,J⟩
    simp only[hR]
    obtain⟨z,U⟩:=b1.out _ w3 J
    have a6:=aj U
    have a7:=aj z
    obtain⟨⟨r0,r1,r2,r3⟩,b6⟩:=aC z
    clear z J U
    go_wp2
    obtain⟨⟨a1,-,-⟩,a2⟩:=eO (v0:=.int .i64 rf) (v1:=.int .i64 rs) (v2:=.int .i64 ry) (v3:=.int .i64 rl) a7.out rfl
    obtain⟨⟨z0,z1,z2,z3⟩,-⟩:=aC a1
    exact bodyPost_ret (v:=.agg #[.int .i64 rf,.int .i64 rs,.int .i64 ry,.int .i64 rl]) (by simp[results,results104,go_sem,z0,z1,z2,z3]) rfl ⟨rfl,a2 _ _ a6.out (by omega)⟩
  ·rw[yN g1]at hR
   by_cases g2:Z<= -ua
   ·rw[yP g2]at hR
    go_wp2_with fail
    refine(b0.out Z (-1099511627776) Z _).mono ?_
    rintro e w3 ⟨rfl,J⟩
    simp only[hR]
    obtain⟨z,U⟩:=b1.out _ w3 J
    have a6:=aj U
    have a7:=aj z
    obtain⟨⟨r0,r1,r2,r3⟩,b6⟩:=aC z
    clear z J U
    go_wp2
    obtain⟨⟨a1,-,-⟩,a2⟩:=eO (v0:=.int .i64 rf) (v1:=.int .i64 rs) (v2:=.int .i64 ry) (v3:=.int .i64 rl) a7.out rfl
    obtain⟨⟨z0,z1,z2,z3⟩,-⟩:=aC a1
    exact bodyPost_ret (v:=.agg #[.int .i64 rf,.int .i64 rs,.int .i64 ry,.int .i64 rl]) (by simp[results,results104,go_sem,z0,z1,z2,z3]) rfl ⟨rfl,a2 _ _ a6.out (by omega)⟩
   ·rw[yN g2]at hR
    go_wp2_with fail
    refine(b0.out Z (-1099511627776) 1099511627776 _).mono ?_
    rintro e w3 ⟨rfl,J⟩
    simp only[hR]
    obtain⟨z,U⟩:=b1.out _ w3 J
    have a6:=aj U
    have a7:=aj z
    obtain⟨⟨r0,r1,r2,r3⟩,b6⟩:=aC z
    clear z J U
    go_wp2
    obtain⟨⟨a1,-,-⟩,a2⟩:=eO (v0:=.int .i64 rf) (v1:=.int .i64 rs) (v2:=.int .i64 ry) (v3:=.int .i64 rl) a7.out rfl
    obtain⟨⟨z0,z1,z2,z3⟩,-⟩:=aC a1
    exact bodyPost_ret (v:=.agg #[.int .i64 rf,.int .i64 rs,.int .i64 ry,.int .i64 rl]) (by simp[results,results104,go_sem,z0,z1,z2,z3]) rfl ⟨rfl,a2 _ _ a6.out (by omega)⟩
 ·have d8:(f==0)=false:=by simp[hf]
  have b7:lQ b C c less ⟨f,s,y,l⟩ x=⟨f,s,y,l⟩:=by unfold lQ;rw[yN hf]
  rw[b7]
  unfold Pf
  have HR:=aj hr
  have b5:=aj a8
  clear hB h0 hp hr a8 hq b7
  go_enter func104,ntmps104
  go_wp2
  exact bodyPost_ret (v:=.agg #[.int .i64 f,.int .i64 s,.int .i64 y,.int .i64 l]) (by simp[results,results104,go_sem]) rfl ⟨rfl,bG _ _ _⟩
theorem aay(C:zI)(c:Int)(less:Bool)(m g B1 B2 B3:Nat)(p:vY)(x:Nat)(W:zW)(e3:fT C C.length<=12)(hp:FU 1 p)(hx:x<m)(hB:MO 1 C c less m g B1 B2 B3 W)(hm:m<=36):
  Calls prog 106 #[Pf p,.int .i64 (x:Int),.pointer (some ⟨B1,0,none⟩),.pointer (some ⟨B2,0,none⟩),.pointer (some ⟨B3,0,none⟩)] W (zS W (pG C c less p x)):=by
 have hA:=udA e3
 have f1:=Co hp
 have a7: ∀h0:p.f=0,-272<=13*p.s-21*p.y/\13*p.s-21*p.y<=272:=λh0=>by
  rcases hp with⟨_,_,_,_,h⟩|⟨h,_⟩|⟨h,_⟩
  ·exact h rfl
  ·omega
  ·omega
 obtain⟨f,s,y,l⟩:=p
 simp only at f1 a7
 obtain⟨Z,rfl⟩: ∃Z:Nat,l=(Z:Int):=⟨l.toNat,by omega⟩
 unfold zS
 have g1:(x:Int)<(m:Int):=by omega
 have c8:=Ml (x:=Z) (y:=x) (by omega) (by omega)
 have b3:=bG W (.cells #[.int .i64 f,.int .i64 s,.int .i64 y,.int .i64 (Z:Int)] 147) (.cells #[.int .i64 0,.int .i64 0,.int .i64 0,.int .i64 0] 147)
 have hr:=aQ W (.cells #[.int .i64 f,.int .i64 s,.int .i64 y,.int .i64 (Z:Int)] 147) (.cells #[.int .i64 0,.int .i64 0,.int .i64 0,.int .i64 0] 147)
 have hq:=aP W (.cells #[.int .i64 f,.int .i64 s,.int .i64 y,.int .i64 (Z:Int)] 147) (.cells #[.int .i64 0,.int .i64 0,.int .i64 0,.int .i64 0] 147)
 by_cases e4:f=2
 ·subst e4
  have U:pG C c less ⟨2,s,y,(Z:Int)⟩ x=⟨2,0,0,0⟩:=by unfold pG;rw[yP (.inl rfl)]
  rw[U]
  unfold Pf
  clear hB hp hr b3 hq U a7
  go_enter func106,ntmps106
  go_wp2
  exact bodyPost_ret (v:=.agg #[.int .i64 2,.int .i64 0,.int .i64 0,.int .i64 0]) (by simp[results,results106,go_sem]) rfl ⟨rfl,bG _ _ _⟩
 ·have f8:(f==2)=false:=by simp[e4]
  by_cases a6:Z&&&x=0
  ·rw[a6]at c8
   by_cases e5:f=1
   ·subst e5
    have U:pG C c less ⟨1,s,y,(Z:Int)⟩ x=⟨1,0,0,x⟩:=by unfold pG;rw[yN (by simp[a6]),yP rfl]
    rw[U]
    unfold Pf
    clear hB hp hr b3 hq U a7 a6
    go_enter func106,ntmps106
    go_wp2
    exact bodyPost_ret (v:=.agg #[.int .i64 1,.int .i64 0,.int .i64 0,.int .i64 (x:Int)]) (by simp[results,results106,go_sem]) rfl ⟨rfl,bG _ _ _⟩
   ·have f9:(f==1)=false:=by simp[e5]
    obtain rfl:f=0:=by omega
    have g2:=a7 rfl
    have b4:=yt (b:=1) (by decide) C (x:Int)
    rw[show au 1=2 by decide]at b4
    have c9:=zC 1 C (x:Int)
    have d0:Hid (pG C c less ⟨0,s,y,(Z:Int)⟩ x=jh c less ⟨0,s+y+(pE 1 C x-pU 1 C x),s+(pE 1 C x-pU 1 C x),x⟩ (lJ (s+y+(pE 1 C x-pU 1 C x)-kZ C) (s+(pE 1 C x-pU 1 C x)-kZ C+pU 1 C x)+kZ C) (-lJ (-(s+y+(pE 1 C x-pU 1 C x))-kY C) (-(s+(pE 1 C x-pU 1 C x))-kY C+pE 1 C x)-kY C)):=by show _=_;unfold pG Jh Cm;rw[yN (by simp[a6]),yN (by show¬(0:Int)=1;decide),c9]
    have d1:=aj (λX Y low e8 W=>CG c less ⟨0,X,Y,(x:Int)⟩ low e8 W)
    have J:Hid (∀W',Below W.heap.size W W'->(W'.cell? ⟨B1,0,none⟩=some (.slice (some ⟨g,0,none⟩) m m))/\(W'.cell? ⟨B2,0,none⟩=some (.int .i64 (kY C))/\W'.cell? ⟨B2,1,none⟩=some (.int .i64 (kZ C)))/\(W'.cell? ⟨B3,0,none⟩=some (.int .i64 (-c))/\W'.cell? ⟨B3,1,none⟩=some (.bool less))/\(W'.cell? ⟨g,x*2,none⟩=some (.int .i64 (pE 1 C x))/\W'.cell? ⟨g,x*2+1,none⟩=some (.int .i64 (pU 1 C x)))):=λW' hb=>by obtain⟨k1,k2,k3,k4⟩:=tC hB hb;exact⟨Ez k1,(bL k2).1,(bL k3).1,R4 k4 hx⟩
    have HR:=aj hr
    have b8:=aj b3
    have HQ:=aj hq
    rw[d0.out]
    clear hB c9 hr b3 hq hp d0 e3 a7
    obtain⟨V1,d2⟩: ∃V1,V1=lJ (s+y+(pE 1 C x-pU 1 C x)-kZ C) (s+(pE 1 C x-pU 1 C x)-kZ C+pU 1 C x):=⟨_,rfl⟩
    obtain⟨V2,d3⟩: ∃V2,V2=lJ (-(s+y+(pE 1 C x-pU 1 C x))-kY C) (-(s+(pE 1 C x-pU 1 C x))-kY C+pE 1 C x):=⟨_,rfl⟩
    rw[<-d2,<-d3]
    have f2:=R7 (a:=s+y+(pE 1 C x-pU 1 C x)-kZ C) (more:=s+(pE 1 C x-pU 1 C x)-kZ C+pU 1 C x) (by omega) (by omega)
    have f3:=R7 (a:=-(s+y+(pE 1 C x-pU 1 C x))-kY C) (more:=-(s+(pE 1 C x-pU 1 C x))-kY C+pE 1 C x) (by omega) (by omega)
    have a1:=aj (λW=>Jv (s+y+(pE 1 C x-pU 1 C x)-kZ C) (s+(pE 1 C x-pU 1 C x)-kZ C+pU 1 C x) W (by omega) (by omega))
    have a2:=aj (λW=>Jv (-(s+y+(pE 1 C x-pU 1 C x))-kY C) (-(s+(pE 1 C x-pU 1 C x))-kY C+pE 1 C x) W (by omega) (by omega))
    rw[<-d2]at f2 a1
    rw[<-d3]at f3 a2
    clear d2 d3
    generalize pE 1 C (x:Int)=u at b4 J a1 a2⊢
    generalize pU 1 C (x:Int)=d at b4 J a1 a2⊢
    generalize kY C=ua at hA b4 J a1 a2⊢
    generalize kZ C=da at hA b4 J a1 a2⊢
    obtain⟨r,d4⟩: ∃r,r=u-d:=⟨_,rfl⟩
    rw[<-d4]at a1 a2⊢
    have g3: -12<=r/\r<=12:=by omega
    obtain⟨X,hX⟩: ∃X,X=s+y+r:=⟨_,rfl⟩
    obtain⟨Y,hY⟩: ∃Y,Y=s+r:=⟨_,rfl⟩
    rw[<-hX,<-hY]at a1 a2⊢
    have g4: -500<=X/\X<=500:=by omega
    have g5: -500<=Y/\Y<=500:=by omega
    obtain⟨R,hR⟩: ∃R,jh c less ⟨0,X,Y,(x:Int)⟩ (V1+da) (-V2-ua)=R:=⟨_,rfl⟩
    rw[hR]
    obtain⟨rf,rs,ry,rl⟩:=R
    have f5:=aj d4
    have HX:=aj hX
    have HY:=aj hY
    clear d4 hX hY
    unfold Pf at d1⊢
    simp only at d1⊢
    obtain⟨c1,⟨c2,c3⟩,-,c6,c7⟩:=J.out _ b8.out
    obtain⟨⟨q0,q1,q2,q3⟩,-⟩:=aC HQ.out
    go_enter func106,ntmps106
    go_wp2_with fail
    have d5:Hid (W.heap.size+1<((W.alloc (.cells #[.int .i64 0,.int .i64 s,.int .i64 y,.int .i64 (Z:Int)] 147)).alloc (.cells #[.int .i64 0,.int .i64 0,.int .i64 0,.int .i64 0] 147)).heap.size):=by show _<_;simp
    generalize(W.alloc (.cells #[.int .i64 0,.int .i64 s,.int .i64 y,.int .i64 (Z:Int)] 147)).alloc (.cells #[.int .i64 0,.int .i64 0,.int .i64 0,.int .i64 0] 147)=W2 at c1 c2 c3 c6 c7 q0 q1 q2 q3 HR HQ b8 d5⊢
    go_quiet (fail)
    rw[<-f5.out]
    have a8:Hid (Below W.heap.size W (W2.drewN nq)):=below_drewN b8.out nq
    have d6:Hid ((W2.drewN nq).heap[W.heap.size+1]? =some (.cells #[.int .i64 0,.int .i64 0,.int .i64 0,.int .i64 0] 147 (0,0))):=HR.out
    have d7:Hid ((W2.drewN nq).heap[W.heap.size]? =some (.cells #[.int .i64 0,.int .i64 s,.int .i64 y,.int .i64 (Z:Int)] 147 (0,0))):=HQ.out
    have b0:Hid (W.heap.size+1<(W2.drewN nq).heap.size):=d5.out
    clear c1 c2 c3 c6 c7 q0 q1 q2 q3 HR HQ b8 d5
    generalize W2.drewN nq=W3 at a8 d6 d7 b0⊢
    obtain⟨⟨q0,q1,q2,q3⟩,-⟩:=aC d7.out
    go_wp2_with fail
    rw[<-HX.out,<-HY.out]
    have b1:Hid (Below W.heap.size W (W3.alloc (.cells #[.int .i64 0,.int .i64 X,.int .i64 Y,.int .i64 (x:Int)] 147))):=a8.out.alloc a8.out.size _
    have b9:Hid ((W3.alloc (.cells #[.int .i64 0,.int .i64 X,.int .i64 Y,.int .i64 (x:Int)] 147)).heap[W3.heap.size]? =some (.cells #[.int .i64 0,.int .i64 X,.int .i64 Y,.int .i64 (x:Int)] 147 (0,0))):=zl _ _
    have d8:Hid ((W3.alloc (.cells #[.int .i64 0,.int .i64 X,.int .i64 Y,.int .i64 (x:Int)] 147)).heap[W.heap.size+1]? =some (.cells #[.int .i64 0,.int .i64 0,.int .i64 0,.int .i64 0] 147 (0,0))):=(Below.heap_alloc _ _ _ b0.out).trans d6.out
    have b5:Hid (W.heap.size+1<(W3.alloc (.cells #[.int .i64 0,.int .i64 X,.int .i64 Y,.int .i64 (x:Int)] 147)).heap.size):=by show _<_;have:=b0.out;simp;omega
    clear q0 q1 q2 q3 d6 d7 a8 b0
    generalize W3.alloc (.cells #[.int .i64 0,.int .i64 X,.int .i64 Y,.int .i64 (x:Int)] 147)=W4 at b1 b9 d8 b5⊢
    obtain⟨c1,⟨c2,c3⟩,-,c6,c7⟩:=J.out _ b1.out
    obtain⟨⟨q0,q1,q2,q3⟩,-⟩:=aC b9.out
    go_quiet (first|(go_at_call 107;refine Calls.quiet_of_same (a1.out _)))
    have b2:Hid (Below W.heap.size W (W4.drewN nq)):=below_drewN b1.out nq
    have c0:Hid ((W4.drewN nq).heap[W3.heap.size]? =some (.cells #[.int .i64 0,.int .i64 X,.int .i64 Y,.int .i64 (x:Int)] 147 (0,0))):=b9.out
    have d9:Hid ((W4.drewN nq).heap[W.heap.size+1]? =some (.cells #[.int .i64 0,.int .i64 0,.int .i64 0,.int .i64 0] 147 (0,0))):=d8.out
    have b6:Hid (W.heap.size+1<(W4.drewN nq).heap.size):=b5.out
    clear c1 c2 c3 c6 c7 q0 q1 q2 q3 d8 b9 b1 b5
    generalize W4.drewN nq=W5 at b2 c0 d9 b6⊢
    obtain⟨c1,⟨c2,c3⟩,-,c6,c7⟩:=J.out _ b2.out
    obtain⟨⟨q0,q1,q2,q3⟩,-⟩:=aC c0.out
    go_wp2_with fail
    go_quiet (first|(go_at_call 107;refine Calls.quiet_of_same (a2.out _)))
    have b7:Hid (Below W.heap.size W (W5.drewN nq)):=below_drewN b2.out nq
    have e6:Hid ((W5.drewN nq).heap[W3.heap.size]? =some (.cells #[.int .i64 0,.int .i64 X,.int .i64 Y,.int .i64 (x:Int)] 147 (0,0))):=c0.out
    have e7:Hid ((W5.drewN nq).heap[W.heap.size+1]? =some (.cells #[.int .i64 0,.int .i64 0,.int .i64 0,.int .i64 0] 147 (0,0))):=d9.out
    have e0:Hid (W.heap.size+1<(W5.drewN nq).heap.size):=b6.out
    clear c1 c2 c3 c6 c7 q0 q1 q2 q3 d9 c0 b2 b6
    generalize W5.drewN nq=W6 at b7 e6 e7 e0⊢
    obtain⟨-,-,⟨c4,c5⟩,-⟩:=J.out _ b7.out
    obtain⟨⟨q0,q1,q2,q3⟩,-⟩:=aC e6.out
    go_wp2_with fail
    refine(d1.out X Y (V1+da) (-V2-ua) _).mono ?_
    rintro e w3 ⟨rfl,e1⟩
    simp only[hR]
    have e2:=(e1.block _ e0.out).trans e7.out
    have f6:=aj (ak b7.out e1)
    have f7:=aj e2
    obtain⟨⟨r0,r1,r2,r3⟩,g6⟩:=aC e2
    clear e2 e1 c4 c5 q0 q1 q2 q3
    go_wp2
    obtain⟨⟨e9,-,-⟩,f0⟩:=eO (v0:=.int .i64 rf) (v1:=.int .i64 rs) (v2:=.int .i64 ry) (v3:=.int .i64 rl) f7.out rfl
    obtain⟨⟨z0,z1,z2,z3⟩,-⟩:=aC e9
    exact bodyPost_ret (v:=.agg #[.int .i64 rf,.int .i64 rs,.int .i64 ry,.int .i64 rl]) (by simp[results,results106,go_sem,z0,z1,z2,z3]) rfl ⟨rfl,f0 _ _ f6.out (by omega)⟩
  ·have hz:(((Z&&&x:Nat):Int)==0)=false:=by simp[a6]
   have U:pG C c less ⟨f,s,y,(Z:Int)⟩ x=⟨2,0,0,0⟩:=by unfold pG;rw[yP (.inr (by simpa using a6))]
   rw[U]
   unfold Pf
   clear hB hp hr b3 hq U a7
   generalize Z&&&x=z at c8 hz a6
   go_enter func106,ntmps106
   go_wp2
   exact bodyPost_ret (v:=.agg #[.int .i64 2,.int .i64 0,.int .i64 0,.int .i64 0]) (by simp[results,results106,go_sem]) rfl ⟨rfl,bG _ _ _⟩
def FC(b:Int)(m:Nat)(z:vY->Nat->vY)(f:FuncId)(cs:Array Value)(w':zW):Prop:= ∀(W:zW) (p:vY) (x:Nat),Below w'.heap.size w' W->FU b p->x<m->Calls prog f (#[Pf p,.int .i64 (x:Int)]++cs) W (zS W (z p x))
theorem FD{z:vY->Nat->vY}{f:FuncId}{cs:Array Value}{w':zW}(h:FC b m z f cs w)(hb:Below w.heap.size w w'):FC b m z f cs w':=λW p x J U hx=>h W p x (ak hb J) U hx
def MP(w:zW)(b:Int)(m:Nat)(z:vY->Nat->vY)(f:FuncId)(e:Ending)(w':zW):Prop:= ∃cs,e=.returned (.func (.func f) #[] cs)/\Below w.heap.size w w'/\FC b m z f cs w'
theorem lg{B:Nat}{o:Obj}(h:w.heap[B]? =some o)(u:Obj):(w.alloc u).heap[B]? =some o:=(Below.heap_alloc _ _ _ (zG h).1).trans h
theorem Ga(b:Int)(C:zI)(c:Int)(less:Bool)(m g:Nat)(w:zW)(h1:1<=b)(h2:b<=6)(a2:fT C C.length<=12)(U:Ag b C m m g w):
  Calls prog 78 #[.int .i64 b,.slice (some ⟨g,0,none⟩) m m,tu (kY C) (kZ C),.agg #[.int .i64 (-c),.bool less]] w (MP w b m (lQ b C c less) 104):=by
 have k1:=zl w (.cells #[.int .i64 b] 3)
 have Z:=(Below.refl w.heap.size w).alloc zr (.cells #[.int .i64 b] 3)
 have z:(w.alloc (.cells #[.int .i64 b] 3)).heap.size=w.heap.size+1:=by simp
 have HF:Hid (∀w1,w1=w.alloc (.cells #[.int .i64 b] 3)->FC b m (lQ b C c less) 104 #[.pointer (some ⟨w.heap.size,0,none⟩),.pointer (some ⟨w.heap.size+1,0,none⟩),.pointer (some ⟨w.heap.size+1+1,0,none⟩),.pointer (some ⟨w.heap.size+1+1+1,0,none⟩)] (((w1.alloc (.cells #[.slice (some ⟨g,0,none⟩) m m] 115)).alloc (.cells #[.int .i64 (kY C),.int .i64 (kZ C)] 95)).alloc (.cells #[.int .i64 (-c),.bool less] 98))/\Below w.heap.size w (((w1.alloc (.cells #[.slice (some ⟨g,0,none⟩) m m] 115)).alloc (.cells #[.int .i64 (kY C),.int .i64 (kZ C)] 95)).alloc (.cells #[.int .i64 (-c),.bool less] 98))):=λw1 a6=>by rw[<-a6]at k1 Z z;have a7:=eT w1 (.cells #[.slice (some ⟨g,0,none⟩) m m] 115) (.cells #[.int .i64 (kY C),.int .i64 (kZ C)] 95) (.cells #[.int .i64 (-c),.bool less] 98);have J:=ak Z a7;have e0:=lg (lg (lg k1 (.cells #[.slice (some ⟨g,0,none⟩) m m] 115)) (.cells #[.int .i64 (kY C),.int .i64 (kZ C)] 95)) (.cells #[.int .i64 (-c),.bool less] 98);have e1:=lg (lg (zl w1 (.cells #[.slice (some ⟨g,0,none⟩) m m] 115)) (.cells #[.int .i64 (kY C),.int .i64 (kZ C)] 95)) (.cells #[.int .i64 (-c),.bool less] 98);have e2:=lg (zl (w1.alloc (.cells #[.slice (some ⟨g,0,none⟩) m m] 115)) (.cells #[.int .i64 (kY C),.int .i64 (kZ C)] 95)) (.cells #[.int .i64 (-c),.bool less] 98);have e3:=zl ((w1.alloc (.cells #[.slice (some ⟨g,0,none⟩) m m] 115)).alloc (.cells #[.int .i64 (kY C),.int .i64 (kZ C)] 95)) (.cells #[.int .i64 (-c),.bool less] 98);rw[z]at e1;rw[World.size_alloc,z]at e2;rw[World.size_alloc,World.size_alloc,z]at e3;refine⟨λW p x hW hp hx=>?_,J⟩;have a1:MO b C c less m g (w.heap.size+1) (w.heap.size+1+1) (w.heap.size+1+1+1) W:=tC ⟨e1,e2,e3,U.of_block (J.block _ U.lt)⟩ hW;exact R8 b C c less m g w.heap.size _ _ _ p x W h1 h2 a2 hp hx ((hW.block _ (zG e0).1).trans e0) a1
 clear U k1 Z z
 unfold tu MP
 generalize kY C=u at HF⊢
 generalize kZ C=d at HF⊢
 go_enter func78,ntmps78
 go_wp2
 go_ret
 obtain⟨q1,q2⟩:=HF.out _ rfl
 exact⟨_,by simp,q2,q1⟩
theorem KS(C:zI)(c:Int)(less:Bool)(m g:Nat)(w:zW)(a1:fT C C.length<=12)(hm:m<=36)(J:Ag 1 C m m g w):
  Calls prog 80 #[.slice (some ⟨g,0,none⟩) m m,tu (kY C) (kZ C),.agg #[.int .i64 (-c),.bool less]] w (MP w 1 m (pG C c less) 106):=by
 have U:Hid (FC 1 m (pG C c less) 106 #[.pointer (some ⟨w.heap.size,0,none⟩),.pointer (some ⟨w.heap.size+1,0,none⟩),.pointer (some ⟨w.heap.size+1+1,0,none⟩)] (((w.alloc (.cells #[.slice (some ⟨g,0,none⟩) m m] 115)).alloc (.cells #[.int .i64 (kY C),.int .i64 (kZ C)] 95)).alloc (.cells #[.int .i64 (-c),.bool less] 98))/\Below w.heap.size w (((w.alloc (.cells #[.slice (some ⟨g,0,none⟩) m m] 115)).alloc (.cells #[.int .i64 (kY C),.int .i64 (kZ C)] 95)).alloc (.cells #[.int .i64 (-c),.bool less] 98))):=by have z:=eT w (.cells #[.slice (some ⟨g,0,none⟩) m m] 115) (.cells #[.int .i64 (kY C),.int .i64 (kZ C)] 95) (.cells #[.int .i64 (-c),.bool less] 98);have e1:=lg (lg (zl w (.cells #[.slice (some ⟨g,0,none⟩) m m] 115)) (.cells #[.int .i64 (kY C),.int .i64 (kZ C)] 95)) (.cells #[.int .i64 (-c),.bool less] 98);have e2:=lg (zl (w.alloc (.cells #[.slice (some ⟨g,0,none⟩) m m] 115)) (.cells #[.int .i64 (kY C),.int .i64 (kZ C)] 95)) (.cells #[.int .i64 (-c),.bool less] 98);have e3:=zl ((w.alloc (.cells #[.slice (some ⟨g,0,none⟩) m m] 115)).alloc (.cells #[.int .i64 (kY C),.int .i64 (kZ C)] 95)) (.cells #[.int .i64 (-c),.bool less] 98);rw[World.size_alloc]at e2;rw[World.size_alloc,World.size_alloc]at e3;refine⟨λW p x hW hp hx=>?_,z⟩;have Z:MO 1 C c less m g w.heap.size (w.heap.size+1) (w.heap.size+1+1) W:=tC ⟨e1,e2,e3,J.of_block (z.block _ J.lt)⟩ hW;exact aay C c less m g _ _ _ p x W a1 hp hx Z hm
 clear J
 unfold tu MP
 generalize kY C=u at U⊢
 generalize kZ C=d at U⊢
 go_enter func80,ntmps80
 go_wp2
 go_ret
 obtain⟨q1,q2⟩:=U.out
 exact⟨_,by simp,q2,q1⟩
theorem SG:Zl:=by
 intro a n cap C c less a2 n2 d9 nums w hs b3;have b6:=hs.1;have c9:=b3.1;have e2:=hs.2.1;have e0:=b3.2.1;unfold maxLen at e2 e0;have U:Hid (hdC C c nums=if(n<=5/\fT C C.length<=12)/\ -60<=c/\c<=60 then(if n2=n then(if mH nums=true then 0 else 1)else 2)else 1):=by show _=_;unfold hdC;rw[b6,c9]
 have a8:Hid (hdB C c less nums=if hdC C c nums=0 then jQ c less (iH C (λi=>nums.getD i 0) C.length)else false):=rfl;have J:Hid (hdC C c nums≠0->hdB C c less nums=false):=λh=>by rw[a8.out,yN h]
 have a6:Hid (hdC C c nums=0->hdB C c less nums=jQ c less (iH C (λi=>nums.getD i 0) C.length)):=λh=>by rw[a8.out,yP h]
 generalize hdC C c nums=HC at U a8 J a6⊢;generalize hdB C c less nums=HB at a8 J a6⊢;clear a8;have HS:=aj hs;have d0:=aj b3;clear hs b3;by_cases h5:n<=5
 ·have e3: ¬(n:Int)>5:=by omega
  have b0:=aj (yE a n cap C c w HS.out h5);by_cases Z:Q9 C c=0
  ·have b2:fT C C.length<=12/\ -60<=c/\c<=60:=by
    unfold Q9 at Z;by_cases h:fT C C.length<=12/\ -60<=c/\c<=60
    ·exact h
    ·rw[yN h]at Z;omega
   rw[Z,cB]at b0
   have z:=U.out
   rw[yP ⟨⟨h5,b2.1⟩,b2.2⟩]at z
   by_cases d1:n2=n
   ·subst d1
    rw[yP rfl]at z
    have b7:=aj z
    have d2:=aj b2
    have e9:=b2.2
    have e4:=aj b6
    have d3:=aj c9
    clear U z Z b2 b6
    go_enter func31,ntmps31
    go_wp2_with (go_at_call 53;refine b0.out.mono ?_;rintro e w1 ⟨rfl,a1⟩;rw[a1];clear a1 w1)
    go_loop[32] (λiv=> ∃k:Nat,k<=n2/\iv=.int .i64 k/\ ∀i,i<k->0<=nums.getD i 0/\nums.getD i 0<=1099511627776) (λiv=>n2-(intOf iv).toNat)
    case atStart=>exact⟨0,by omega,rfl,λi hi=>by omega⟩
    case round=>
     obtain⟨k,hk,rfl,b8⟩:=hrel
     have a7:=aj b8
     clear b8
     by_cases d4:k<n2
     ·have e1:(k:Int)<(n2:Int):=by omega
      obtain⟨b1,o1,rfl,hc⟩:=bH d0.out k d4
      have b9:Hid (¬(0<=nums.getD k 0/\nums.getD k 0<=1099511627776)->HC=1/\HB=false):=λh=>by have h1:=b7.out;rw[yN (Zm (i:=k) (by rw[d3.out];exact d4) h)]at h1;exact⟨h1,J.out (by rw[h1];decide)⟩
      have d5:Hid ((0<=nums.getD k 0/\nums.getD k 0<=1099511627776)-> ∀i,i<k+1->0<=nums.getD i 0/\nums.getD i 0<=1099511627776):=λh i hi=>by
       by_cases e:i=k
       ·subst e;exact h
       ·exact a7.out i (by omega)
      generalize nums.getD k 0=x at hc b9 d5
      by_cases hx:x<0
      ·obtain⟨c0,c3⟩:=b9.out (by omega)
       subst c0
       subst c3
       go_wp2
       go_ret2
       exact⟨by simp[bC],zb⟩
      ·have f2:decide (x<0)=false:=by simp;omega
       by_cases f3:x>1099511627776
       ·obtain⟨c0,c3⟩:=b9.out (by omega)
        subst c0
        subst c3
        go_wp2
        go_ret2
        exact⟨by simp[bC],zb⟩
       ·have f0:decide (x>1099511627776)=false:=by simp;omega
        have e5:=aj (d5.out ⟨by omega,by omega⟩)
        go_wp2
        go_round
        case rel=>exact⟨k+1,by omega,by go_num,e5.out⟩
        case measure=>simp[intOf];omega
     ·have e1: ¬(k:Int)<(n2:Int):=by omega
      obtain rfl:k=n2:=by omega
      have d6:Hid (HC=0):=by show _=_;have h1:=b7.out;rw[yP (QK (λi hi=>a7.out i (by rw[d3.out]at hi;exact hi)))]at h1;exact h1
      have b4:=aj (a6.out d6.out)
      have b5:=aj (Bo a k cap C a2 k d9 nums w HS.out d0.out zr d2.out.1 a7.out)
      have c4:=aez (C:=C) (N:=nums) d2.out.1 (k:=C.length) zr (λi hi=>a7.out i (by rw[e4.out]at hi;exact hi))
      have c5:=acN C (λi=>nums.getD i 0) C.length
      rw[<-c5]at b4
      unfold tu at b5
      clear c5
      generalize xu C (λi=>nums.getD i 0) C.length=u at b5 c4 b4
      generalize xA C (λi=>nums.getD i 0) C.length=d at b5 c4 b4
      have d7:=aj (λW=>Mq c less (u-d) W)
      rw[<-b4.out]at d7
      go_wp2_with fail
      refine b5.out.mono ?_
      rintro e w1 ⟨rfl,c6⟩
      have e6:=aj (c6.alloc c6.size (.cells #[.int .i64 u,.int .i64 d] 95))
      clear c6
      go_wp2_with fail
      refine(d7.out _).mono ?_
      rintro e w2 ⟨rfl,d8⟩
      have e7:=aj (ak e6.out d8)
      have e8:=d6.out
      subst e8
      clear d8
      go_wp2
      go_ret2
      exact⟨by simp[bC],e7.out⟩
   ·have f1:((n2:Int)==(n:Int))=false:=by simp;omega
    rw[yN d1]at z
    obtain rfl:HB=false:=J.out (by rw[z];decide)
    subst z
    clear U J a6
    go_enter func31,ntmps31
    go_wp2_with (go_at_call 53;refine b0.out.mono ?_;rintro e w1 ⟨rfl,a1⟩;rw[a1];clear a1 w1)
    go_ret2
    exact⟨by simp[bC],zb⟩
  ·have c7:Q9 C c=1:=by unfold Q9 at Z⊢;split at Z<;>simp_all
   have c8: ¬((n<=5/\fT C C.length<=12)/\ -60<=c/\c<=60):=λh=>Z (by unfold Q9;rw[yP ⟨h.1.2,h.2⟩]);have z:=U.out;rw[yN c8]at z;obtain rfl:HB=false:=J.out (by rw[z];decide);subst z;rw[c7,dx (by decide)]at b0;clear U J a6 Z c7 c8;go_enter func31,ntmps31;go_wp2_with (go_at_call 53;refine b0.out.mono ?_;rintro e w1 ⟨rfl,a1⟩;rw[a1];clear a1 w1);go_ret2;exact⟨by simp[bC],zb⟩
 ·have e3:(n:Int)>5:=by omega
  have z:=U.out;rw[yN (λh=>h5 h.1.1)]at z;obtain rfl:HB=false:=J.out (by rw[z];decide);subst z;clear U J a6;go_enter func31,ntmps31;go_wp2;go_ret2;exact⟨by simp[bC],zb⟩
end Go.Proofs.YtceojneljnnooaaGreat
