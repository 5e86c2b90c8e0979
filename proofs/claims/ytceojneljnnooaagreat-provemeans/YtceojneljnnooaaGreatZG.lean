import Derived.Test.YtceojneljnnooaaGreatZF
import Derived.RegionTactic
open Go.Proofs.Tryz
namespace Go.Proofs.YtceojneljnnooaaGreat
open Go.RowKit
set_option maxHeartbeats 0
set_option maxRecDepth 100000
set_option linter.all false
variable{N:zL}{R R':Nat->Nat->Bool}{n m s t k:Nat}{E:zB}{mt l o kH w:zI}{b x:Int}
def nV(b n:Int):Nat->Int
 |0=>n
 |k+1=>nV b n k%pR b (59-k)
def VX(b n:Int)(k:Nat):Int:=nV b n k/pR b (59-k)
def iW(b n:Int)(k:Nat):zI:=(List.range 60).map λj=>if j<k then VX b n j else 0
theorem fu(b n:Int)(k:Nat):(iW b n k).length=60:=by simp[iW]
theorem qC(b n:Int)(k j:Nat)(h:j<60):(iW b n k).getD j 0=if j<k then VX b n j else 0:=by simp[iW,List.getD,h]
theorem Tc(b n:Int):iW b n 0=List.replicate 60 0:=by rfl
theorem Yp(b n:Int):vC (iW b n 0)=(#[.int .i64 0,.int .i64 0,.int .i64 0,.int .i64 0,.int .i64 0,.int .i64 0,.int .i64 0,.int .i64 0,.int .i64 0,.int .i64 0,.int .i64 0,.int .i64 0,.int .i64 0,.int .i64 0,.int .i64 0,.int .i64 0,.int .i64 0,.int .i64 0,.int .i64 0,.int .i64 0,.int .i64 0,.int .i64 0,.int .i64 0,.int .i64 0,.int .i64 0,.int .i64 0,.int .i64 0,.int .i64 0,.int .i64 0,.int .i64 0,.int .i64 0,.int .i64 0,.int .i64 0,.int .i64 0,.int .i64 0,.int .i64 0,.int .i64 0,.int .i64 0,.int .i64 0,.int .i64 0,.int .i64 0,.int .i64 0,.int .i64 0,.int .i64 0,.int .i64 0,.int .i64 0,.int .i64 0,.int .i64 0,.int .i64 0,.int .i64 0,.int .i64 0,.int .i64 0,.int .i64 0,.int .i64 0,.int .i64 0,.int .i64 0,.int .i64 0,.int .i64 0,.int .i64 0,.int .i64 0]:Array Value):=by rw[Tc];rfl
theorem Yq(b n:Int)(k:Nat)(h:k<60):(vC (iW b n k)).setIfInBounds k (.int .i64 (VX b n k))=vC (iW b n (k+1)):=by
 apply Array.ext_getElem?;intro j;rw[Array.getElem?_setIfInBounds];by_cases z:j<60
 ·rw[ug _ _ (by rw[fu];exact z),ug _ _ (by rw[fu];exact z),qC _ _ _ _ z,qC _ _ _ _ z]
  by_cases e:k=j
  ·subst e;rw[yP rfl,yP (by rw[yQ,fu];exact z),yP (by omega)]
  ·rw[yN e]
   by_cases h1:j<k
   ·rw[yP h1,yP (by omega)]
   ·rw[yN h1,yN (by omega)]
 ·rw[yN (by omega),Array.getElem?_eq_none (by rw[yQ,fu];omega),Array.getElem?_eq_none (by rw[yQ,fu];omega)]
theorem M9(b n:Int)(h1:1<=b)(h2:b<=6)(z:0<=n)(k:Nat):0<=nV b n k/\nV b n k<=n:=by
 induction k with
 |zero=>exact⟨z,Int.le_refl _⟩
 |succ k J=>
  have hc:=(vw b h1 h2 (59-k)).1
  simp only[nV]
  have U:=Int.emod_nonneg (nV b n k) (b:=pR b (59-k)) (by omega)
  have Z:nV b n k%pR b (59-k)<=nV b n k:=by have:=Int.emod_add_mul_ediv (nV b n k) (pR b (59-k));have:=Int.ediv_nonneg J.1 (b:=pR b (59-k)) (by omega);have:=Int.mul_nonneg (a:=pR b (59-k)) (b:=nV b n k/pR b (59-k)) (by omega) this;omega
  omega
theorem aa2(b n:Int)(h1:1<=b)(h2:b<=6)(J:0<=n)(k:Nat):0<=VX b n k/\VX b n k<=n:=by have hc:=(vw b h1 h2 (59-k)).1;have z:=M9 b n h1 h2 J k;unfold VX;have U:=Int.ediv_nonneg z.1 (b:=pR b (59-k)) (by omega);have Z:=Int.ediv_le_self (pR b (59-k)) z.1;omega
theorem aa3(b n:Int)(w:zW)(h:b<1\/6<b):
  Calls prog 20 #[.int .i64 b,.int .i64 n] w λe w'=>e=.returned (.tuple #[.slice none 0 0,.iface 45 (.int .i64 1)])/\w'=w:=by
 go_enter func20,ntmps20
 go_wp2_with (go_at_call 23;refine(yO _ _ h).mono ?_;rintro e w' ⟨rfl,rfl⟩)
 go_ret2
 exact⟨by simp,rfl⟩
theorem ah1(b n:Int)(w:zW)(h1:1<=b)(h2:b<=6)(h:n<0\/1099511627776<n):
  Calls prog 20 #[.int .i64 b,.int .i64 n] w λe w'=>e=.returned (.tuple #[.slice none 0 0,.iface 45 (.int .i64 1)])/\w'=w:=by
 rcases h with h|h
 ·go_enter func20,ntmps20
  go_wp2_with (go_at_call 23;refine(lS _ _ h1 h2).mono ?_;rintro e w' ⟨rfl,rfl⟩)
  go_ret2
  exact⟨by simp,rfl⟩
 ·have z:0<=n:=by omega
  go_enter func20,ntmps20
  go_wp2_with (go_at_call 23;refine(lS _ _ h1 h2).mono ?_;rintro e w' ⟨rfl,rfl⟩)
  go_ret2
  exact⟨by simp,rfl⟩
def afA(w:zW)(l:zI)(e:Ending)(w':zW):Prop:= ∃a cap,e=.returned (.tuple #[.slice a l.length cap,.nilIface])/\Dm w.heap.size w' a l.length l/\Below w.heap.size w w'
theorem afB(C:Array Value)(k:Nat)(z:k<60)(v:Value)(hv:C[k]? =some v)(W:zW):(Instr.index 77 (.agg C) (.int .i64 k)).run prog W=.ok v W:=by simp[Instr.index,asIntOf,run_underlying underlying77,part,isAgg3,sizeOf3,hv];omega
theorem pV(w:zW)(o J z:Obj):(((w.alloc o).alloc J).alloc z).heap[w.heap.size]? =some o:=by rw[Below.heap_alloc _ _ _ (by simp;omega),aP]
theorem jK{w:zW}{g:Nat}{cs:Array Value}{t:TypeId}{v:Value}(h:w.heap[g]? =some (.cells cs t (0,0))):(w.setCell ⟨g,k,none⟩ v).heap[g]? =some (.cells (cs.setIfInBounds k v) t (0,0)):=by simp only[World.setCell,Array.getElem?_modify];simp[h]
def ajE(b n:Int)(w:zW)(k:Nat)(z:zW):Prop:=z.heap[w.heap.size]? =some (.cells (vC (iW b n k)) 77 (0,0))/\Below w.heap.size w z
theorem ajF(b n:Int)(w:zW)(h1:1<=b)(h2:b<=6)(hn:0<=n)(b4:n<=1099511627776):
  Calls prog 20 #[.int .i64 b,.int .i64 n] w (afA w (bI (iW b n 60))):=by
 have b5:decide (n<0)=false:=by simp;omega
 have b6:decide (1099511627776<n)=false:=by simp;omega
 go_enter func20,ntmps20
 go_wp2_with (first
  |(go_at_call 23;refine(lS _ _ h1 h2).mono ?_;rintro e w' ⟨rfl,hw⟩;rw[hw];clear hw w')
  |(go_at_call 35;refine(Ta _ _ h1 h2).mono ?_;rintro e w' ⟨rfl,rfl⟩))
 rw[<-Yp b n]
 have H0:Hid (ajE b n w 0 (((w.alloc (Obj.cells (vC (iW b n 0)) 77)).alloc (Obj.cells (lD b 60) 77)).alloc (Obj.cells (lD b 60) 77))):=
  ⟨pV _ _ _ _,((zb.alloc zr _).alloc (by simp) _).alloc (by simp;omega) _⟩
 generalize((w.alloc (Obj.cells (vC (iW b n 0)) 77)).alloc (Obj.cells (lD b 60) 77)).alloc (Obj.cells (lD b 60) 77)=W at H0⊢
 go_loopw[1,23] (λs i wx=> ∃k:Nat,k<=60/\i=.int .i64 k/\s=.int .i64 (nV b n k)/\ajE b n w k wx) (λ_ i _=>60-(intOf i).toNat)
 case atStart=>exact⟨0,by omega,rfl,rfl,H0.out⟩
 case round=>
  obtain⟨k,hk,rfl,rfl,ho⟩:=hrel
  have z:=aj ho
  clear ho
  by_cases J:k<60
  ·have a1:(k:Int)<60:=by omega
   have U:=xB b 60 k J
   rw[yP (by omega)]at U
   have a2:=afB _ _ J _ U
   have Z:Hid (VX b n k=nV b n k/pR b (59-k)):=rfl
   have HR:Hid (nV b n (k+1)=nV b n k%pR b (59-k)):=rfl
   have a6:=M9 b n h1 h2 hn k
   obtain⟨a7,a8⟩:=a6
   have b0:=(vw b h1 h2 (59-k)).1
   obtain⟨b1,b2⟩:=b0
   have b3:wr.cell? ⟨w.heap.size,k,none⟩=some (.int .i64 0):=by rw[cell_of_row _ _ k _ _ _ z.out.1,ug _ _ (by rw[fu];exact J),qC _ _ _ _ J,yN (by omega)]
   have b7:wr.frozen? ⟨w.heap.size,k,none⟩=false:=by simp[World.frozen?,z.out.1]
   generalize pR b (59-k)=c at U a2 Z HR b1 b2
   generalize nV b n k=r at Z HR a7 a8⊢
   have b8:(c==0)=false:=by simp;omega
   clear U
   go_wp2
   go_region
   all_goals go_wp2
   all_goals
    go_roundw
    case rel=>
     refine⟨k+1,by omega,by go_num,by rw[HR.out],?_⟩
     have hs:wr.heap[w.heap.size]? =some (.cells (vC (iW b n k)) 77 (0,0)):=z.out.1
     have h3:=jK (k:=k) (v:=.int .i64 (r/c)) hs
     rw[<-Z.out,Yq b n k J,Z.out]at h3
     exact⟨h3,(z.out.2.setCell zr _).drew⟩
    case measure=>simp[intOf];omega
  ·have a1: ¬((k:Int)<60):=by omega
   obtain rfl:k=60:=by omega
   have HI:Hid ((prog.info? 77).map (·.size)=some (vC (iW b n 60)).size):=by rw[yQ,fu];exact aa0
   have HW:Hid (∀W,Below w.heap.size w W->Calls prog 36 #[.agg (vC (iW b n 60))] W (fH W (bI (iW b n 60)))):=λW _=>
    Ph _ (fu b n 60) (λx hx=>by simp only[iW,List.mem_map,List.mem_range]at hx;obtain⟨j,hj,rfl⟩:=hx;rw[yP hj];have:=aa2 b n h1 h2 hn j;exact Go.WalkArith.wf_i64 (by omega)) W
   go_wp2_with (refine wR rfl 77 _ rfl _ rfl _ _ _ _ _ z.out.1 underlying77 HI.out ?_)
   refine(HW.out wr z.out.2).mono ?_
   rintro e w' ⟨a,cap,rfl,hs,hb⟩
   have HS:=aj hs
   clear hs
   go_wp2
   go_ret2
   exact⟨a,cap,rfl,HS.out.mono z.out.2.size,z.out.2.trans (hb.mono z.out.2.size)⟩
theorem afC(l:zI)(k:Nat)(h:k<l.length):l.getD k 0=l[k]:=by simp[List.getD,h]
theorem ah2(b:Int)(h1:1<=b)(h2:b<=6):pR b 60=1099511627777:=by
 have:b=1\/b=2\/b=3\/b=4\/b=5\/b=6:=by omega
 rcases this with rfl|rfl|rfl|rfl|rfl|rfl<;>decide+kernel
theorem ah3(b:Int)(h1:1<=b)(h2:b<=6)(k:Nat):ahd b k<=pR b k:=by
 cases k with
 |zero=>simp[GX,Bz]
 |succ k=>
  rw[BA,tX]
  obtain⟨⟨z,J⟩,a3,a4⟩:=vw b h1 h2 k
  have:pR b k<=if b=1 then pR b k+ahd b k else pR b k*b:=by
   split
   ·omega
   ·have:=Int.mul_le_mul_of_nonneg_left h1 (show 0<=pR b k by omega);omega
  omega
theorem Na(b:Int)(h1:1<=b)(h2:b<=6)(k:Nat):pR b (k+1)<=au b*pR b k:=by
 have z:=ah3 b h1 h2 k;rw[tX];by_cases e:b=1
 ·rw[yP e]
  have:au b=2:=by unfold au;rw[yP (by omega)]
  rw[this];omega
 ·rw[yN e]
  have:au b=b:=by unfold au;split<;>omega
  rw[this,Int.mul_comm b];omega
theorem VY(b n:Int)(h1:1<=b)(h2:b<=6)(z:n<=1099511627776)(k:Nat)(J:k<=60):nV b n k<pR b (60-k):=by
 cases k with
 |zero=>simp only[nV,Nat.sub_zero,ah2 b h1 h2];omega
 |succ k=>
  have hc:=(vw b h1 h2 (59-k)).1
  simp only[nV]
  rw[show 60-(k+1)=59-k by omega]
  exact Int.emod_lt_of_pos _ (by omega)
theorem ah4(b n:Int)(h1:1<=b)(h2:b<=6)(z:n<=1099511627776)(k:Nat)(U:k<60):VX b n k<au b:=by have J:=VY b n h1 h2 z k (by omega);have hc:=(vw b h1 h2 (59-k)).1;rw[show 60-k=(59-k)+1 by omega]at J;have:=Na b h1 h2 (59-k);unfold VX;apply Int.ediv_lt_of_lt_mul (by omega);omega
theorem KV(b n:Int)(k:Nat):nV b n k=VX b n k*pR b (59-k)+nV b n (k+1):=by simp only[VX,nV];have:=Int.emod_add_mul_ediv (nV b n k) (pR b (59-k));rw[Int.mul_comm]at this;omega
theorem afD(n:Int)(J:0<=n)(z:n<=1099511627776)(k:Nat)(hk:k+1<60)(h:VX 1 n k=1):VX 1 n (k+1)=0:=by
 have U:=VY 1 n (by omega) (by omega) z k (by omega);have hs:=KV 1 n k;rw[h]at hs;have e:60-k=(58-k)+1+1:=by omega
 rw[e,tX,yP rfl,BA]at U;rw[show 59-k=(58-k)+1 by omega]at hs;have Z:=(M9 1 n (by omega) (by omega) J (k+1)).1;have:nV 1 n (k+1)<pR 1 (58-k):=by omega
 unfold VX;rw[show 59-(k+1)=58-k by omega];exact Int.ediv_eq_zero_of_lt Z this
theorem aa4(b n:Int)(j:Nat)(U:j<=60):val b ((iW b n 60).drop (60-j))=nV b n (60-j):=by
 induction j with
 |zero=>
  rw[List.drop_of_length_le (by rw[fu];omega)]
  simp only[val]
  show 0=nV b n (59+1)
  simp[nV,Bz]
 |succ j J=>
  have z:60-(j+1)<(iW b n 60).length:=by rw[fu];omega
  rw[List.drop_eq_getElem_cons z]
  simp only[val]
  rw[<-afC _ _ z,qC _ _ _ _ (by omega),yP (by omega)]
  rw[show 60-(j+1)+1=60-j by omega,J (by omega)]
  rw[List.length_drop,fu]
  have:=KV b n (60-(j+1))
  rw[show 60-(60-j)=59-(60-(j+1))by omega]
  rw[this,show 60-(j+1)+1=60-j by omega]
theorem Yr(b n:Int):val b (iW b n 60)=n:=by have:=aa4 b n 60 (by omega);simpa[nV]using this
theorem Yt(b:Int)(l:zI):val b (bI l)=val b l:=by
 induction l with
 |nil=>rfl
 |cons x r z=>
  unfold bI at z⊢
  by_cases h:x=0
  ·simp[h,val,z]
  ·simp[h]
theorem vD(l:zI): ∃k,k<=l.length/\bI l=l.drop k/\(∀j,j<k->l.getD j 0=0)/\(k<l.length->l.getD k 0≠0):=by
 induction l with
 |nil=>exact⟨0,by simp,rfl,by omega,by simp⟩
 |cons x r z=>
  obtain⟨k,h1,h2,h3,h4⟩:=z
  by_cases h:x=0
  ·refine⟨k+1,by simpa using h1,by unfold bI at h2⊢;simp[h,h2],?_,λJ=>by simpa using h4 (by simpa using J)⟩
   intro j U
   cases j with
   |zero=>simpa using h
   |succ j=>simpa using h3 j (by omega)
  ·exact⟨0,by simp,by simp[bI,h],by omega,λ_=>by simpa using h⟩
theorem Yu(h:gZ b l=true)(k:Nat):gZ b (l.drop k)=true:=by unfold gZ at h⊢;rw[List.all_eq_true]at h⊢;exact λx hx=>h x (List.mem_of_mem_drop hx)
theorem Td(h:iV l=false)(k:Nat):iV (l.drop k)=false:=by
 cases z:iV (l.drop k)with
 |false=>rfl
 |true=>
  obtain⟨j,h1,h2,h3⟩:=(Dq _).1 z
  have:iV l=true:=(Dq _).2 ⟨k+j,by simp at h1;omega,by simpa[List.getD]using h2,by simpa[List.getD,Nat.add_assoc]using h3⟩
  rw[h]at this
  exact this.symm
theorem Te(b n:Int)(h1:1<=b)(h2:b<=6)(U:0<=n)(z:n<=1099511627776):gZ b (iW b n 60)=true:=by unfold gZ;rw[List.all_eq_true];intro x hx;simp only[iW,List.mem_map,List.mem_range]at hx;obtain⟨j,J,rfl⟩:=hx;rw[yP J];have:=(aa2 b n h1 h2 U j).1;have:=ah4 b n h1 h2 z j J;simp[*]
theorem Nb(b n:Int)(J:0<=n)(z:n<=1099511627776):b=1->iV (iW b n 60)=false:=by
 rintro rfl;cases U:iV (iW 1 n 60)with
 |false=>rfl
 |true=>
  obtain⟨j,h1,h2,h3⟩:=(Dq _).1 U
  rw[fu]at h1
  rw[qC _ _ _ _ (by omega),yP (by omega)]at h2
  rw[qC _ _ _ _ (by omega),yP (by omega)]at h3
  have:=afD n J z j (by omega) h2
  omega
def zU(b n:Int):zI:=bI (iW b n 60)
theorem GY(b n:Int):(zU b n).length<=60:=by obtain⟨k,h1,h2,_⟩:=vD (iW b n 60);unfold zU;rw[h2,List.length_drop,fu];omega
theorem afE(b n:Int):val b (zU b n)=n:=by unfold zU;rw[Yt,Yr]
theorem GZ(b n:Int)(h1:1<=b)(h2:b<=6)(J:0<=n)(z:n<=1099511627776):gZ b (zU b n)=true:=by obtain⟨k,_,h,_⟩:=vD (iW b n 60);unfold zU;rw[h];exact Yu (Te b n h1 h2 J z) k
theorem Tf(b n:Int)(J:0<=n)(z:n<=1099511627776):iF b (zU b n)=true:=by
 obtain⟨k,_,h,_⟩:=vD (iW b n 60);unfold zU iF;by_cases e:b=1
 ·rw[h,Td (Nb b n J z e) k];simp
 ·simp[e]
def bC(c:Int):Value:=if c=0 then .nilIface else .iface 45 (.int .i64 c)
def iQ(b n:Int):Int:=if(1<=b/\b<=6)/\0<=n/\n<=1099511627776 then 0 else 1
def oO(b n:Int):zI:=if(1<=b/\b<=6)/\0<=n/\n<=1099511627776 then zU b n else[]
def Pj(w:zW)(l:zI)(z:Value)(e:Ending)(w':zW):Prop:= ∃a cap,e=.returned (.tuple #[.slice a l.length cap,z])/\Dm w.heap.size w' a l.length l/\Below w.heap.size w w'
theorem ajG(b n:Int)(w:zW):Calls prog 20 #[.int .i64 b,.int .i64 n] w (Pj w (oO b n) (bC (iQ b n))):=by
 unfold oO iQ;by_cases h:(1<=b/\b<=6)/\0<=n/\n<=1099511627776
 ·rw[yP h,yP h];exact ajF b n w h.1.1 h.1.2 h.2.1 h.2.2
 ·rw[yN h,yN h]
  have hc:Calls prog 20 #[.int .i64 b,.int .i64 n] w λe w'=>e=.returned (.tuple #[.slice none 0 0,.iface 45 (.int .i64 1)])/\w'=w:=by
   by_cases hb:1<=b/\b<=6
   ·exact ah1 b n w hb.1 hb.2 (by omega)
   ·exact aa3 b n w (by omega)
  refine hc.mono ?_;rintro e w' ⟨rfl,rfl⟩;exact⟨none,0,rfl,⟨Dr _,λ_ h=>by cases h⟩,zb⟩
def pw(k:Int):Nat->Int
 |0=>1
 |n+1=>pw k n*k
theorem rY(k:Int)(n:Nat):pw k (n+1)=pw k n*k:=rfl
theorem vG(k:Int)(h:2<=k)(n:Nat):1<=pw k n:=by
 induction n with
 |zero=>simp[pw]
 |succ n z=>rw[rY];have:=Int.mul_le_mul z (show 1<=k by omega) (by omega) (by omega);omega
theorem aa5(k:Int)(h1:2<=k)(h2:k<=6)(n:Nat)(z:n<=5):1<=pw k n/\pw k n<=7776:=by
 have J:k=2\/k=3\/k=4\/k=5\/k=6:=by omega
 have z:n=0\/n=1\/n=2\/n=3\/n=4\/n=5:=by omega
 rcases J with rfl|rfl|rfl|rfl|rfl<;>rcases z with rfl|rfl|rfl|rfl|rfl|rfl<;>decide
theorem dA(b:Int)(h2:b<=6):2<=au b/\au b<=6:=by unfold au;split<;>omega
def aU(b t:Int):Int:=if(1<=b/\b<=6)/\0<=t/\t<=5 then(if pw (au b) t.toNat<=36 then 0 else 3)else 1
def aD(b t:Int):Int:=if aU b t=0 then pw (au b) t.toNat else 0
theorem bA{t:Int}(h:aU b t=0):1<=b/\b<=6/\0<=t/\t<=5/\pw (au b) t.toNat<=36/\aD b t=pw (au b) t.toNat:=by
 have z:=h;unfold aU at h;split at h
 ·split at h
  ·exact⟨by omega,by omega,by omega,by omega,by assumption,by unfold aD;rw[yP z]⟩
  ·cases h
 ·cases h
theorem Yv{t:Int}(h1:1<=b)(h2:b<=6)(h3:0<=t)(h4:t<=5):aU b t=if pw (au b) t.toNat<=36 then 0 else 3:=by unfold aU;rw[yP ⟨⟨h1,h2⟩,h3,h4⟩]
def fF(b:Int)(l:zI):Int:=l.foldl (λs x=>s*au b+x) 0
theorem Ap(b:Int)(l:zI)(x:Int):fF b (l++[x])=fF b l*au b+x:=by simp[fF,List.foldl_append]
theorem lM(b:Int)(l:zI)(k:Nat)(h:k<l.length):fF b (l.take (k+1))=fF b (l.take k)*au b+l.getD k 0:=by rw[List.take_succ_eq_append_getElem h,Ap];simp[List.getD,h]
theorem KW(z:gZ b l=true)(j:Nat)(J:j<l.length):0<=l.getD j 0/\l.getD j 0<au b:=by unfold gZ at z;rw[List.all_eq_true]at z;have:=z (l.getD j 0) (by simp[List.getD,J]);simpa using this
theorem BF(b:Int)(h2:b<=6)(l:zI)(n:Nat)(hn:n<=l.length)(J: ∀j,j<n->0<=l.getD j 0/\l.getD j 0<au b):0<=fF b (l.take n)/\fF b (l.take n)<pw (au b) n:=by
 have U:=dA b h2;induction n with
 |zero=>simp[fF,pw]
 |succ n z=>
  have z:=z (by omega) (λj hj=>J j (by omega))
  rw[lM b l n (by omega),rY]
  have hx:=J n (by omega)
  generalize fF b (l.take n)=p at z⊢
  generalize pw (au b) n=q at z⊢
  generalize l.getD n 0=x at hx⊢
  generalize au b=k at U hx⊢
  have e1:0<=p*k:=Int.mul_nonneg z.1 (by omega)
  have Z:(p+1)*k<=q*k:=Int.mul_le_mul_of_nonneg_right (by omega) (by omega)
  rw[Int.add_mul]at Z
  omega
def pW(b:Int)(t:Nat)(l:Int)(i:Nat):Int:=l/pw (au b) (t-1-i)%au b
theorem nX(b:Int)(h2:b<=6)(t:Nat)(l:Int)(i:Nat):0<=pW b t l i/\pW b t l i<au b:=by have z:=dA b h2;unfold pW;exact⟨Int.emod_nonneg _ (by omega),Int.emod_lt_of_pos _ (by omega)⟩
theorem Tg(k:Int)(h:2<=k)(l:Int)(n:Nat):l/pw k n/k=l/pw k (n+1):=by rw[rY];have:=vG k h n;rw[Int.ediv_ediv,yN (by omega),Int.sub_zero]
theorem aa6(k:Int)(h:2<=k)(l:Int)(z:0<=l)(n:Nat):0<=l/pw k n/\l/pw k n<=l:=
 ⟨Int.ediv_nonneg z (by have:=vG k h n;omega),Int.ediv_le_self _ z⟩
def bM(b:Int)(t:Nat)(l:Int):zI:=(List.range t).map (pW b t l)
theorem bF(b:Int)(t:Nat)(l:Int):(bM b t l).length=t:=by simp[bM]
theorem lT(b:Int)(t:Nat)(l:Int)(i:Nat)(h:i<t):(bM b t l).getD i 0=pW b t l i:=by simp[bM,List.getD,h]
def bT(b:Int)(t:Nat)(w:zI)(i:Nat):zI:=w.map λl=>pW b t l i
theorem oJ(b:Int)(t:Nat)(w:zI)(i:Nat):(bT b t w i).length=w.length:=by simp[bT]
theorem He(b:Int)(t:Nat)(w:zI)(i j:Nat)(h:j<w.length):(bT b t w i).getD j 0=pW b t (w.getD j 0) i:=by simp[bT,List.getD,h]
theorem Pk(b:Int)(h2:b<=6)(t:Nat)(w:zI)(i:Nat):gZ b (bT b t w i)=true:=by unfold gZ bT;rw[List.all_eq_true];intro x hx;simp only[List.mem_map]at hx;obtain⟨l,_,rfl⟩:=hx;have:=nX b h2 t l i;simp[this]
def afF(b t:Int)(w:zI):Bool:=w.all λx=>decide (0<=x/\x<aD b t)
def VZ(b t:Int)(w:zI):Int:=if aU b t=0 then(if w.length<=60 then(if afF b t w=true then 0 else 1)else 3)else aU b t
theorem Ti{t:Int}(h:VZ b t w=0):aU b t=0/\w.length<=60/\afF b t w=true:=by
 unfold VZ at h;split at h
 ·split at h
  ·split at h
   ·exact⟨by assumption,by assumption,by assumption⟩
   ·cases h
  ·cases h
 ·contradiction
def jl:zI->Int
 |[]=>0
 |c::r=>if c=0 then jl r else c
theorem vH(l:zI)(k:Nat)(h: ∀j,j<k->l.getD j 0=0)(z:k<l.length)(hc:l.getD k 0≠0):jl l=l.getD k 0:=by
 induction l generalizing k with
 |nil=>simp at z
 |cons c r J=>
  cases k with
  |zero=>simp at hc;simp[jl,hc]
  |succ k=>
   have h0:c=0:=by simpa using h 0 (by omega)
   simp only[jl,h0,if_true]
   have:=J k (λj U=>by simpa using h (j+1) (by omega)) (by simpa using z) (by simpa using hc)
   rw[this];simp
theorem qQ(l:zI)(h: ∀j,j<l.length->l.getD j 0=0):jl l=0:=by
 induction l with
 |nil=>rfl
 |cons c r z=>
  have h0:c=0:=by simpa using h 0 (by simp)
  simp only[jl,h0,if_true]
  exact z λj J=>by simpa using h (j+1) (by simpa using J)
theorem oP(l:zI)(h:jl l=0): ∀j,j<l.length->l.getD j 0=0:=by
 induction l with
 |nil=>intro j z;simp at z
 |cons c r J=>
  intro j z
  by_cases hc:c=0
  ·simp only[jl,hc,if_true]at h
   cases j with
   |zero=>simpa using hc
   |succ j=>simpa using J h j (by simpa using z)
  ·simp only[jl,hc,if_false]at h
theorem Tj(b t:Int)(w:zW)(h: ¬((1<=b/\b<=6)/\0<=t/\t<=5)):
  Calls prog 19 #[.int .i64 b,.int .i64 t] w λe w'=>e=.returned (.tuple #[.int .i64 0,.iface 45 (.int .i64 1)])/\w'=w:=by
 by_cases hb:1<=b/\b<=6
 ·obtain⟨h1,h2⟩:=hb
  have z:t<0\/(0<=t/\5<t):=by omega
  clear h
  rcases z with z|⟨J,z⟩
  all_goals
   go_enter func19,ntmps19
   go_wp2_with (go_at_call 23;refine(lS _ _ h1 h2).mono ?_;rintro e w' ⟨rfl,rfl⟩)
   go_ret2
   exact⟨by simp,rfl⟩
 ·have hb:b<1\/6<b:=by omega
  clear h
  go_enter func19,ntmps19
  go_wp2_with (go_at_call 23;refine(yO _ _ hb).mono ?_;rintro e w' ⟨rfl,rfl⟩)
  go_ret2
  exact⟨by simp,rfl⟩
theorem afG(b:Int)(n:Nat)(w:zW)(h1:1<=b)(h2:b<=6)(hn:n<=5):
  Calls prog 19 #[.int .i64 b,.int .i64 n] w λe w'=>e=.returned (if pw (au b) n<=36 then .tuple #[.int .i64 (pw (au b) n),.nilIface]else .tuple #[.int .i64 0,.iface 45 (.int .i64 3)])/\w'=w:=by
 have hk:=dA b h2
 obtain⟨a1,a2⟩:=hk
 have HP:=aj (aa5 (au b) a1 a2)
 have b3: ¬(5:Int)<(n:Int):=by omega
 have HK:=aj (λw=>mq b w h1 h2)
 have HS:=aj (rY (au b))
 have HI:Hid (∀w,Calls prog 23 #[.int .i64 b] w λe w'=>e=.returned (.bool true)/\w'=w):=λw=>lS b w h1 h2
 have z:Hid (pw (au b) n<=36->(if pw (au b) n<=36 then Value.tuple #[.int .i64 (pw (au b) n),.nilIface]else .tuple #[.int .i64 0,.iface 45 (.int .i64 3)])=.tuple #[.int .i64 (pw (au b) n),.nilIface]):=λh=>yP h
 have J:Hid (¬pw (au b) n<=36->(if pw (au b) n<=36 then Value.tuple #[.int .i64 (pw (au b) n),.nilIface]else .tuple #[.int .i64 0,.iface 45 (.int .i64 3)])=.tuple #[.int .i64 0,.iface 45 (.int .i64 3)]):=λh=>yN h
 generalize(if pw (au b) n<=36 then Value.tuple #[.int .i64 (pw (au b) n),.nilIface]else .tuple #[.int .i64 0,.iface 45 (.int .i64 3)])=R at z J⊢
 generalize au b=K at a1 a2 HP HK HS z J
 go_enter func19,ntmps19
 go_wp2_with (go_at_call 23;refine(HI.out _).mono ?_;rintro e w' ⟨rfl,rfl⟩)
 go_loop[6,20] (λs i=> ∃k:Nat,k<=n/\i=.int .i64 k/\s=.int .i64 (pw K k)) (λ_ i=>n-(intOf i).toNat)
 case atStart=>exact⟨0,Nat.zero_le _,rfl,rfl⟩
 case round=>
  obtain⟨k,hk,rfl,rfl⟩:=hrel
  have b0:=HP.out k (by omega)
  obtain⟨a6,a7⟩:=b0
  by_cases b4:k<n
  ·have a8:(k:Int)<(n:Int):=by omega
   have U:=aj (HS.out k)
   have Z:=HP.out (k+1) (by omega)
   rw[U.out]at Z
   obtain⟨b1,b2⟩:=Z
   generalize pw K k=p at a6 a7 b1 b2 U⊢
   go_wp2_with (go_at_call 34;refine(HK.out _).mono ?_;rintro e w' ⟨rfl,rfl⟩)
   go_round
   case rel=>exact⟨k+1,by omega,by go_num,by rw[U.out]⟩
   case measure=>simp[intOf];omega
  ·have a8: ¬((k:Int)<(n:Int)):=by omega
   obtain rfl:k=n:=by omega
   generalize pw K k=p at a6 a7 z J⊢
   by_cases hp:p<=36
   ·replace z:=aj (z.out (by omega))
    clear J
    go_wp2
    go_ret2
    exact⟨by rw[z.out];simp,rfl⟩
   ·replace J:=aj (J.out (by omega))
    have b5:36<p:=by omega
    clear hp z
    go_wp2
    go_ret2
    exact⟨by rw[J.out];simp,rfl⟩
theorem lU(b t:Int)(w:zW):
  Calls prog 19 #[.int .i64 b,.int .i64 t] w λe w'=>e=.returned (.tuple #[.int .i64 (aD b t),bC (aU b t)])/\w'=w:=by
 by_cases h:(1<=b/\b<=6)/\0<=t/\t<=5
 ·obtain⟨n,rfl⟩: ∃n:Nat,t=n:=⟨t.toNat,by omega⟩
  have:=afG b n w h.1.1 h.1.2 (by omega)
  unfold aD aU
  rw[yP h,Int.toNat_natCast]
  by_cases z:pw (au b) n<=36
  ·simpa[z,bC]using this
  ·simpa[z,bC]using this
 ·have:=Tj b t w h
  unfold aD aU
  rw[yN h]
  simpa[bC]using this
theorem FI(o:zI)(x:Int):o.length<=(o.erase x).length+1:=by rw[List.length_erase];split<;>omega
def ni(m n:Nat)(r:zI):Int:=if r.length=m then(if r.all (λx=>decide (0<=x/\x<(n:Int)))=true then 0 else 1)else 2
def BG(m n:Nat)(N:zL):Int:=jl (N.map (ni m n))
def bP(b t:Int)(N:zL)(e:Nat):Int:=
 if aU b t=0 then(if N.length=0 then 4 else if 80<N.length then 3 else if e=N.length then BG (aD b t).toNat N.length N else 2)else aU b t
def mD(M b t:Int)(N:zL)(e:Nat):Int:=
 if aU b t=0 then(if N.length=0 then 4 else if M<(N.length:Int)then 3 else if e=N.length then BG (aD b t).toNat N.length N else 2)else aU b t
theorem xC(b t:Int)(N:zL)(e:Nat):mD 80 b t N e=bP b t N e:=by
 unfold mD bP;by_cases h:80<N.length
 ·rw[yP h,yP (show(80:Int)<(N.length:Int)by omega)]
 ·rw[yN h,yN (show¬(80:Int)<(N.length:Int)by omega)]
def ql(m:Nat)(w:zI):Int:=if 400<w.length then 3 else if w.all (λx=>decide (0<=x/\x<(m:Int)))=true then 0 else 1
def fC(N:zL)(s:Nat)(x:Int):Nat:=((N.getD s []).getD x.toNat 0).toNat
def bR(N:zL)(w:zI):Nat:=w.foldl (fC N) 0
def aK(m n:Nat)(N:zL):Prop:=N.length=n/\1<=n/\n<=4000000/\m<=36/\1<=m/\ ∀s,s<n->(N.getD s []).length=m/\ ∀j,j<m->0<=(N.getD s []).getD j 0/\(N.getD s []).getD j 0<(n:Int)
theorem Hf(h:l.all (λx=>decide (0<=x/\x<(n:Int)))=true)(j:Nat)(z:j<l.length):0<=l.getD j 0/\l.getD j 0<(n:Int):=by rw[List.all_eq_true]at h;have:=h (l.getD j 0) (by simp[List.getD,z]);simpa using this
theorem EM(h: ∀j,j<l.length->0<=l.getD j 0/\l.getD j 0<(n:Int)):l.all (λx=>decide (0<=x/\x<(n:Int)))=true:=by rw[List.all_eq_true];intro x hx;obtain⟨j,z,rfl⟩:=List.getElem_of_mem hx;have:=h j z;simpa[List.getD,z]using this
theorem V3(k:Nat)(z:k<l.length)(h: ¬(0<=l.getD k 0/\l.getD k 0<(n:Int))):l.all (λx=>decide (0<=x/\x<(n:Int)))=false:=by
 cases e:l.all (λx=>decide (0<=x/\x<(n:Int)))with
 |false=>rfl
 |true=>exact absurd (Hf e k z) h
theorem Dt{m n:Nat}{r:zI}(h:r.length≠m):ni m n r=2:=by unfold ni;rw[yN h]
theorem aa7{m n:Nat}{r:zI}(h:r.length=m)(k:Nat)(z:k<m)(hx: ¬(0<=r.getD k 0/\r.getD k 0<(n:Int))):ni m n r=1:=by unfold ni;rw[yP h,yN (by rw[V3 k (by omega) hx];decide)]
theorem yR{m n:Nat}{r:zI}(h:r.length=m)(hx: ∀k,k<m->0<=r.getD k 0/\r.getD k 0<(n:Int)):ni m n r=0:=by unfold ni;rw[yP h,yP (EM (by rw[h];exact hx))]
theorem KY{r:zI}(h:ni m n r=0):r.length=m/\ ∀k,k<m->0<=r.getD k 0/\r.getD k 0<(n:Int):=by
 unfold ni at h;split at h
 ·split at h
  ·refine⟨by assumption,λk z=>Hf (by assumption) k (by omega)⟩
  ·cases h
 ·cases h
theorem yS(m n:Nat)(N:zL)(k:Nat)(z:k<N.length):(N.map (ni m n)).getD k 0=ni m n (N.getD k []):=by simp[List.getD,z]
theorem aa8{m n:Nat}{N:zL}(k:Nat)(z:k<N.length)(h: ∀j,j<k->ni m n (N.getD j [])=0)(hc:ni m n (N.getD k [])≠0):BG m n N=ni m n (N.getD k []):=by unfold BG;rw[<-yS m n N k z]at hc⊢;exact vH _ k (λj J=>by rw[yS m n N j (by omega)];exact h j J) (by simpa using z) hc
theorem yU{m n:Nat}{N:zL}(h: ∀j,j<N.length->ni m n (N.getD j [])=0):BG m n N=0:=by unfold BG;exact qQ _ λj z=>by rw[yS m n N j (by simpa using z)];exact h j (by simpa using z)
theorem Tm(h:BG m n N=0)(j:Nat)(z:j<N.length):ni m n (N.getD j [])=0:=by unfold BG at h;have:=oP _ h j (by simpa using z);rwa [yS m n N j z]at this
theorem bS{t:Int}{e:Nat}(h:bP b t N e=0):aU b t=0/\e=N.length/\aK (aD b t).toNat N.length N/\((aD b t).toNat:Int)=aD b t:=by
 unfold bP at h;split at h
 ·rename_i z
  obtain⟨h1,h2,h3,h4,h5,h6⟩:=bA z;have J:=dA b h2;have hp:=vG (au b) J.1 t.toNat;split at h
  ·cases h
  ·split at h
   ·cases h
   ·split at h
    ·rename_i hN Z U;refine⟨z,U,⟨rfl,by omega,by omega,by omega,by omega,λs hs=>?_⟩,by omega⟩;exact KY (Tm h s hs)
    ·cases h
 ·contradiction
theorem qR{t M:Int}(J:aU b t=0)(hG:aK (aD b t).toNat n N)(h:(n:Int)<=M):mD M b t N n=0:=by have z:=hG.1;have h1:=hG.2.1;unfold mD;rw[yP J,yN (by omega),yN (by omega),yP z.symm];exact yU λj U=>yR (hG.2.2.2.2.2 j (by omega)).1 (by rw[z];exact(hG.2.2.2.2.2 j (by omega)).2)
theorem Tn(h:ql m w=0):w.length<=400/\ ∀j,j<w.length->0<=w.getD j 0/\w.getD j 0<(m:Int):=by
 unfold ql at h;split at h
 ·cases h
 ·split at h
  ·exact⟨by omega,λj z=>Hf (by assumption) j z⟩
  ·cases h
theorem Tp{m:Nat}{w:zI}(h:400<w.length):ql m w=3:=by unfold ql;rw[yP h]
theorem Yw{m:Nat}{w:zI}(h: ¬400<w.length)(k:Nat)(z:k<w.length)(hx: ¬(0<=w.getD k 0/\w.getD k 0<(m:Int))):ql m w=1:=by unfold ql;rw[yN h,yN (by rw[V3 k z hx];decide)]
theorem Tq{m:Nat}{w:zI}(h: ¬400<w.length)(hx: ∀k,k<w.length->0<=w.getD k 0/\w.getD k 0<(m:Int)):ql m w=0:=by unfold ql;rw[yN h,yP (EM hx)]
theorem lV{m n:Nat}{N:zL}(h:aK m n N)(s:Nat)(hs:s<n)(x:Int)(hx:0<=x/\x<(m:Int)):fC N s x<n/\((fC N s x:Nat):Int)=(N.getD s []).getD x.toNat 0:=by have:=(h.2.2.2.2.2 s hs).2 x.toNat (by omega);unfold fC;omega
theorem qU(N:zL)(w:zI)(k:Nat)(z:k<w.length):bR N (w.take (k+1))=fC N (bR N (w.take k)) (w.getD k 0):=by unfold bR;rw[List.take_succ_eq_append_getElem z,List.foldl_append];simp[List.getD,z]
theorem yV{m n:Nat}{N:zL}(h:aK m n N)(w:zI)(k:Nat)(U:k<=w.length)(z: ∀j,j<k->0<=w.getD j 0/\w.getD j 0<(m:Int)):bR N (w.take k)<n:=by
 induction k with
 |zero=>simp[bR];have:=h.2.1;omega
 |succ k J=>
  rw[qU N w k (by omega)]
  exact(lV h _ (J (by omega) (λj Z=>z j (by omega))) _ (z k (by omega))).1
theorem rZ(N:zL)(v w:zI):bR N (v++w)=w.foldl (fC N) (bR N v):=by simp[bR,List.foldl_append]
def nk(o:zI)(x:Int):zI:=if x∈o then o else o++[x]
def cu(o r:zI):zI:=r.foldl nk o
def bQ(N:zL):Nat->zI
 |0=>[0]
 |i+1=>if i<(bQ N i).length then cu (bQ N i) (N.getD ((bQ N i).getD i 0).toNat [])else bQ N i
def aR(N:zL):zI:=bQ N N.length
theorem Pn(o:zI)(x:Int):o<+:nk o x:=by unfold nk;split;exact List.prefix_refl _;exact List.prefix_append _ _
theorem nY(o r:zI):o<+:cu o r:=by
 unfold cu;induction r generalizing o with
 |nil=>exact List.prefix_refl _
 |cons x r z=>exact(Pn o x).trans (z _)
theorem jm(o r:zI)(k:Nat)(z:k<r.length):cu o (r.take (k+1))=nk (cu o (r.take k)) (r.getD k 0):=by unfold cu;rw[List.take_succ_eq_append_getElem z,List.foldl_append];simp[List.getD,z]
theorem Hg(o r:zI):cu o (r.take r.length)=cu o r:=by rw[List.take_length]
theorem aa9(o:zI)(x:Int):x∈nk o x:=by unfold nk;split;assumption;simp
theorem Tt(o r:zI)(x:Int)(hx:x∈r):x∈cu o r:=by
 unfold cu;induction r generalizing o with
 |nil=>simp at hx
 |cons y r z=>
  rcases List.mem_cons.1 hx with rfl|hx
  ·exact(nY (nk o x) r).subset (aa9 o x)
  ·exact z _ hx
def O9(n:Nat)(o:zI):Prop:=o.Nodup/\ ∀x∈o,0<=x/\x<(n:Int)
theorem afH(h:O9 n o)(hx:0<=x/\x<(n:Int)):O9 n (nk o x):=by
 unfold nk;split
 ·exact h
 ·rename_i J
  refine⟨?_,λy z=>?_⟩
  ·rw[List.nodup_append];refine⟨h.1,by simp,λa U b hb=>?_⟩;rw[List.mem_singleton]at hb;rintro rfl;exact J (hb▸U)
  ·rcases List.mem_append.1 z with z|z
   ·exact h.2 y z
   ·rw[List.mem_singleton]at z;subst z;exact hx
theorem BH(h:O9 n o)(r:zI)(z: ∀x∈r,0<=x/\x<(n:Int)):O9 n (cu o r):=by
 unfold cu;induction r generalizing o with
 |nil=>exact h
 |cons x r J=>exact J (afH h (z x (by simp))) (λy U=>z y (by simp[U]))
theorem uh(n:Nat)(o:zI)(h:O9 n o):o.length<=n:=by
 induction n generalizing o with
 |zero=>
  cases o with
  |nil=>simp
  |cons x o=>have:=h.2 x (by simp);omega
 |succ n z=>
  have:=z (o.erase (n:Int)) ⟨h.1.erase _,λx hx=>by have h1:=(h.1.mem_erase_iff).1 hx;have h2:=h.2 x h1.2;have h3:=h1.1;omega⟩
  have:=FI o (n:Int)
  omega
theorem aS(l:zI)(j:Nat)(z:j<l.length):l.getD j 0=l[j]:=by simp[List.getD,z]
theorem KZ(h:aK m n N)(s:Int)(hs:0<=s/\s<(n:Int)):(N.getD s.toNat []).length=m/\ ∀x∈N.getD s.toNat [],0<=x/\x<(n:Int):=by have:=h.2.2.2.2.2 s.toNat (by omega);refine⟨this.1,λx hx=>?_⟩;obtain⟨j,z,rfl⟩:=List.getElem_of_mem hx;have h2:=this.2 j (by omega);rwa [aS _ j z]at h2
theorem yX(h:O9 n o)(i:Nat)(hi:i<o.length):0<=o.getD i 0/\o.getD i 0<(n:Int):=h.2 _ (by simp[List.getD,hi])
theorem sj(h:aK m n N)(i:Nat):O9 n (bQ N i):=by
 induction i with
 |zero=>exact⟨by simp[bQ],λx hx=>by simp[bQ]at hx;subst hx;have:=h.2.1;omega⟩
 |succ i z=>
  unfold bQ
  split
  ·rename_i hi
   exact BH z _ (KZ h _ (yX z i hi)).2
  ·exact z
theorem oQ(N:zL)(i j:Nat):bQ N i<+:bQ N (i+j):=by
 induction j with
 |zero=>exact List.prefix_refl _
 |succ j z=>
  refine z.trans ?_
  show _<+:bQ N (i+j+1)
  rw[bQ]
  split
  ·exact nY _ _
  ·exact List.prefix_refl _
theorem Du(N:zL)(i:Nat)(h:(bQ N i).length<=i)(j:Nat):bQ N (i+j)=bQ N i:=by
 induction j with
 |zero=>rfl
 |succ j z=>
  show bQ N (i+j+1)=_
  rw[bQ,z,yN (by omega)]
theorem BI(h:aK m n N)(i:Nat)(hi:(bQ N i).length<=i)(z:i<=n):bQ N i=aR N:=by unfold aR;rw[h.1,show n=i+(n-i)by omega,Du N i hi]
theorem uj(h:aK m n N)(i:Nat):(bQ N i).length<=n:=uh n _ (sj h i)
theorem kV(N:zL)(i:Nat)(hi:i<(bQ N i).length):bQ N (i+1)=cu (bQ N i) (N.getD ((bQ N i).getD i 0).toNat []):=by rw[bQ,yP hi]
theorem iq{z:zI}(h:o<+:z)(i:Nat)(hi:i<o.length):z.getD i 0=o.getD i 0:=by obtain⟨s,rfl⟩:=h;simp[List.getD,List.getElem?_append_left hi]
theorem EN(N:zL)(i:Nat): ∀j,j<i->j<(bQ N i).length-> ∀x∈N.getD ((bQ N i).getD j 0).toNat [],x∈bQ N i:=by
 induction i with
 |zero=>intro j Z;omega
 |succ i U=>
  intro j Z J x hx
  by_cases hi:i<(bQ N i).length
  ·have z:=oQ N i 1
   rw[kV N i hi]at J hx⊢
   rw[kV N i hi]at z
   by_cases e:j=i
   ·subst e
    rw[iq z j hi]at hx
    exact Tt _ _ x hx
   ·rw[iq z j (by omega)]at hx
    exact z.subset (U j (by omega) (by omega) x hx)
  ·have:=Du N i (by omega) 1
   rw[this]at J hx⊢
   exact U j (by omega) J x hx
theorem vI(h:aK m n N)(s:Int)(hs:s∈aR N)(x:Int)(hx:x∈N.getD s.toNat []):x∈aR N:=by unfold aR at hs⊢;rw[h.1]at hs⊢;obtain⟨j,z,rfl⟩:=List.getElem_of_mem hs;have J:=uj h n;refine EN N n j (by omega) z x ?_;rwa [aS _ j z]
theorem abb(h:aK m n N):(0:Int)∈aR N:=by have:=oQ N 0 n;rw[Nat.zero_add]at this;unfold aR;rw[h.1];exact this.subset (by simp[bQ])
theorem qV(h:x∈o):nk o x=o:=by unfold nk;rw[yP h]
theorem vJ(h: ¬x∈o):nk o x=o++[x]:=by unfold nk;rw[yN h]
theorem oK(h:aK m n N):(aR N).length<=n:=by unfold aR;exact uj h _
theorem iY(h:aK m n N):O9 n (aR N):=by unfold aR;exact sj h _
structure vK (R:Nat->Nat->Bool):Prop where
 refl: ∀s,R s s=true
 symm: ∀s t,R s t=true->R t s=true
 trans: ∀s t u,R s t=true->R t u=true->R s u=true
def iZ(R:Nat->Nat->Bool)(z:zI)(s:Int):zI:=if z.any (λr=>R s.toNat r.toNat)=true then z else z++[s]
def aH(R:Nat->Nat->Bool)(mt:zI):zI:=mt.foldl (iZ R) []
def gU(R:Nat->Nat->Bool)(kH:zI)(s:Int):Nat:=kH.findIdx λr=>R s.toNat r.toNat
theorem fD(R:Nat->Nat->Bool)(mt:zI)(s:Int):aH R (mt++[s])=iZ R (aH R mt) s:=by simp[aH,List.foldl_append]
theorem Ho(R:Nat->Nat->Bool)(z:zI)(s:Int):z<+:iZ R z s:=by unfold iZ;split;exact List.prefix_refl _;exact List.prefix_append _ _
theorem Dv(R:Nat->Nat->Bool)(a b:zI):aH R a<+:aH R (a++b):=by
 unfold aH;rw[List.foldl_append];generalize a.foldl (iZ R) []=z;induction b generalizing z with
 |nil=>exact List.prefix_refl _
 |cons x b J=>exact(Ho R z x).trans (J _)
theorem bB{p:zI->Prop}(h0:p [])(h1: ∀l x,p l->p (l++[x]))(l:zI):p l:=by
 have: ∀n (l:zI),l.length=n->p l:=by
  intro n;induction n with
  |zero=>intro l z;rw[List.eq_nil_of_length_eq_zero z];exact h0
  |succ n U=>
   intro l z
   have J:l≠[]:=by intro e;subst e;simp at z
   rw[<-List.dropLast_concat_getLast J]
   exact h1 _ _ (U _ (by simp[z]))
 exact this _ l rfl
theorem nu(R:Nat->Nat->Bool)(mt:zI): ∀r∈aH R mt,r∈mt:=by
 induction mt using bB with
 |h0=>intro r z;simp[aH]at z
 |h1 l x J=>
  intro r z
  rw[fD]at z
  unfold iZ at z
  split at z
  ·exact List.mem_append.2 (.inl (J r z))
  ·rcases List.mem_append.1 z with h|h
   ·exact List.mem_append.2 (.inl (J r h))
   ·exact List.mem_append.2 (.inr h)
theorem xD(z:vK R)(mt:zI): ∀s∈mt,∃r∈aH R mt,R s.toNat r.toNat=true:=by
 induction mt using bB with
 |h0=>intro s hs;simp at hs
 |h1 l x J=>
  intro s hs
  rw[fD]
  rcases List.mem_append.1 hs with h|h
  ·obtain⟨r,h1,h2⟩:=J s h
   exact⟨r,(Ho R _ x).subset h1,h2⟩
  ·rw[List.mem_singleton]at h
   subst h
   unfold iZ
   split
   ·rename_i h
    rw[List.any_eq_true]at h
    exact h
   ·exact⟨s,by simp,z.refl _⟩
theorem Tw(R:Nat->Nat->Bool)(J:vK R)(mt:zI):(aH R mt).Pairwise λa b=>R a.toNat b.toNat=false:=by
 induction mt using bB with
 |h0=>simp[aH]
 |h1 l x z=>
  rw[fD]
  unfold iZ
  split
  ·exact z
  ·rename_i h
   rw[List.pairwise_append]
   refine⟨z,by simp,λa U b hb=>?_⟩
   rw[List.mem_singleton]at hb
   subst hb
   cases e:R a.toNat b.toNat with
   |false=>rfl
   |true=>exact absurd (List.any_eq_true.2 ⟨a,U,J.symm _ _ e⟩) h
theorem qW(U:vK R){i j:Nat}(hi:i<(aH R mt).length)(z:j<(aH R mt).length)(h:R ((aH R mt).getD i 0).toNat ((aH R mt).getD j 0).toNat=true):i=j:=by
 have J:=Tw R U mt;rw[List.pairwise_iff_getElem]at J;rw[aS _ i hi,aS _ j z]at h;rcases Nat.lt_trichotomy i j with h1|h1|h1
 ·have:=J i j hi z h1;rw[this]at h;cases h
 ·exact h1
 ·have:=J j i z hi h1;rw[U.symm _ _ h]at this;cases this
theorem Aq{s:Int}(h: ∃r∈kH,R s.toNat r.toNat=true):gU R kH s<kH.length:=by unfold gU;exact List.findIdx_lt_length_of_exists h
theorem wS{s:Int}(h:gU R kH s<kH.length):R s.toNat (kH.getD (gU R kH s) 0).toNat=true:=by rw[aS _ _ h];unfold gU at h⊢;exact List.findIdx_getElem (p:=λr:Int=>R s.toNat r.toNat) (w:=h)
theorem xE(z:vK R){s:Int}(hs:s∈mt):gU R (aH R mt) s<(aH R mt).length:=Aq (xD z mt s hs)
theorem Dw(z:vK R){s:Int}(J:k<(aH R mt).length)(h:R s.toNat ((aH R mt).getD k 0).toNat=true):gU R (aH R mt) s=k:=by have U:gU R (aH R mt) s<(aH R mt).length:=Aq ⟨_,by rw[aS _ k J];exact List.getElem_mem J,h⟩;exact qW z U J (z.trans _ _ _ (z.symm _ _ (wS U)) h)
theorem Gj(z:vK R)(J:k<(aH R mt).length):gU R (aH R mt) ((aH R mt).getD k 0)=k:=Dw z J (z.refl _)
theorem Nf(z:vK R){s t:Int}(hs:s∈mt)(J:t∈mt):gU R (aH R mt) s=gU R (aH R mt) t↔R s.toNat t.toNat=true:=by
 have h1:=xE z hs;have h2:=xE z J;constructor
 ·intro h;refine z.trans _ _ _ (wS h1) ?_;rw[h];exact z.symm _ _ (wS h2)
 ·intro h;exact Dw z h2 (z.trans _ _ _ h (wS h2))
theorem Hq(mt:zI)(h: ∀s∈mt,∀t∈mt,R s.toNat t.toNat=R' s.toNat t.toNat):aH R mt=aH R' mt:=by
 have: ∀l:zI,(∀s∈l,s∈mt)->aH R l=aH R' l:=by
  intro l;induction l using bB with
  |h0=>intro _;rfl
  |h1 l x J=>
   intro z
   rw[fD,fD,<-J (λs hs=>z s (List.mem_append.2 (.inl hs)))]
   unfold iZ
   have hx:=z x (by simp)
   have e:(aH R l).any (λr=>R x.toNat r.toNat)=(aH R l).any (λr=>R' x.toNat r.toNat):=by
    rw[Bool.eq_iff_iff,List.any_eq_true,List.any_eq_true];constructor
    ·rintro⟨r,h1,h2⟩;exact⟨r,h1,by rw[<-h x hx r (z r (List.mem_append.2 (.inl (nu R l r h1))))];exact h2⟩
    ·rintro⟨r,h1,h2⟩;exact⟨r,h1,by rw[h x hx r (z r (List.mem_append.2 (.inl (nu R l r h1))))];exact h2⟩
   rw[e]
 exact this mt (λ_ h=>h)
theorem Yx(h: ∀s∈mt,∀t∈mt,R s.toNat t.toNat=R' s.toNat t.toNat)(z: ∀r∈kH,r∈mt){s:Int}(hs:s∈mt):gU R kH s=gU R' kH s:=by
 unfold gU;induction kH with
 |nil=>rfl
 |cons r kH J=>
  rw[List.findIdx_cons,List.findIdx_cons,h s hs r (z r (by simp)),J (λx hx=>z x (by simp[hx]))]
theorem Pp(z:vK R)(Z: ∀s t,R' s t=true->R s t=true)(mt:zI):(aH R mt).Sublist (aH R' mt)/\ ∀s∈mt,(∃r∈aH R' mt,R s.toNat r.toNat=true)-> ∃r∈aH R mt,R s.toNat r.toNat=true:=by
 induction mt using bB with
 |h0=>simp[aH]
 |h1 l x J=>
  refine⟨?_,λs hs _=>xD z _ s hs⟩
  rw[fD,fD]
  unfold iZ
  by_cases h1:(aH R l).any (λr=>R x.toNat r.toNat)=true
  ·rw[yP h1]
   split
   ·exact J.1
   ·exact J.1.trans (List.sublist_append_left _ _)
  ·rw[yN h1]
   have h2: ¬(aH R' l).any (λr=>R' x.toNat r.toNat)=true:=by intro h;rw[List.any_eq_true]at h;obtain⟨r,hr,hx⟩:=h;obtain⟨q,hq,U⟩:=xD z l r (nu R' l r hr);exact h1 (List.any_eq_true.2 ⟨q,hq,z.trans _ _ _ (Z _ _ hx) U⟩)
   rw[yN h2]
   exact List.Sublist.append J.1 (List.Sublist.refl _)
theorem Ng(z:vK R)(J: ∀s t,R' s t=true->R s t=true)(mt:zI):(aH R mt).length<=(aH R' mt).length:=(Pp z J mt).1.length_le
theorem K5(J:vK R)(z:vK R')(U: ∀s t,R' s t=true->R s t=true)(mt:zI)(hl:(aH R mt).length=(aH R' mt).length): ∀s∈mt,∀t∈mt,R s.toNat t.toNat=R' s.toNat t.toNat:=by
 intro s hs t ht;have Z:=(Pp J U mt).1.eq_of_length hl;rw[Bool.eq_iff_iff];refine⟨λh=>?_,U _ _⟩;have h1:=xE z hs;have h2:=xE z ht;have r1:=wS h1;have r2:=wS h2;have e:gU R' (aH R' mt) s=gU R' (aH R' mt) t:=by refine qW J (mt:=mt) (by rw[Z];exact h1) (by rw[Z];exact h2) ?_;rw[Z];exact J.trans _ _ _ (J.symm _ _ (U _ _ r1)) (J.trans _ _ _ h (U _ _ r2))
 rw[e]at r1;exact z.trans _ _ _ r1 (z.symm _ _ r2)
def mV(N:zL)(s j:Nat):Nat:=((N.getD s []).getD j 0).toNat
def bW(N:zL)(E:zB)(m:Nat):Nat->Nat->Nat->Bool
 |0,_,_=>true
 |k+1,s,t=>(E.getD s false==E.getD t false)&&(bW N E m k s t&&(List.range m).all λj=>bW N E m k (mV N s j) (mV N t j))
theorem je:bW N E m (k+1) s t=true↔E.getD s false=E.getD t false/\bW N E m k s t=true/\ ∀j,j<m->bW N E m k (mV N s j) (mV N t j)=true:=by simp only[bW,Bool.and_eq_true,beq_iff_eq,List.all_eq_true,List.mem_range]
theorem iR(N:zL)(E:zB)(m k:Nat):vK (bW N E m k):=by
 induction k with
 |zero=>exact⟨λ_=>rfl,λ_ _ _=>rfl,λ_ _ _ _ _=>rfl⟩
 |succ k z=>
  refine⟨λs=>?_,λs t h=>?_,λs t u h J=>?_⟩
  ·rw[je];exact⟨rfl,z.refl _,λ_ _=>z.refl _⟩
  ·rw[je]at h⊢;exact⟨h.1.symm,z.symm _ _ h.2.1,λj U=>z.symm _ _ (h.2.2 j U)⟩
  ·rw[je]at h J⊢;exact⟨h.1.trans J.1,z.trans _ _ _ h.2.1 J.2.1,λj U=>z.trans _ _ _ (h.2.2 j U) (J.2.2 j U)⟩
theorem qD(h:bW N E m (k+1) s t=true):bW N E m k s t=true:=(je.1 h).2.1
def ny(N:zL)(s:Nat)(w:zI):Nat:=w.foldl (fC N) s
def fA(m:Nat)(w:zI):Prop:= ∀x∈w,0<=x/\x<(m:Int)
def qX(N:zL)(E:zB)(m s t:Nat):Prop:= ∀w,fA m w->E.getD (ny N s w) false=E.getD (ny N t w) false
theorem kK(N:zL)(s:Nat)(x:Int):fC N s x=mV N s x.toNat:=rfl
theorem Hr(h:qX N E m s t)(j:Nat)(J:j<m):qX N E m (mV N s j) (mV N t j):=by
 intro w z
 have:=h ((j:Int)::w) (λx hx=>by
  rcases List.mem_cons.1 hx with rfl|hx
  ·omega
  ·exact z x hx)
 simpa[ny,kK]using this
theorem Ht(k:Nat)(h:qX N E m s t):bW N E m k s t=true:=by
 induction k generalizing s t with
 |zero=>rfl
 |succ k z=>
  rw[je]
  exact⟨by simpa[ny]using h [] (by simp[fA]),z h,λj J=>z (Hr h j J)⟩
theorem Pq{M:Nat->Prop}(U: ∀s j,M s->j<m->M (mV N s j))(hE: ∀s t,M s->M t->R s t=true->E.getD s false=E.getD t false)(hS: ∀s t,M s->M t->R s t=true-> ∀j,j<m->R (mV N s j) (mV N t j)=true)(hs:M s)(z:M t)(h:R s t=true):qX N E m s t:=by
 intro w;induction w generalizing s t with
 |nil=>intro _;simpa[ny]using hE s t hs z h
 |cons x w ih=>
  intro Z
  have hx:=Z x (by simp)
  have J:x.toNat<m:=by omega
  have:=ih (U s _ hs J) (U t _ z J) (hS s t hs z h _ J) (λy hy=>Z y (by simp[hy]))
  simpa[ny,kK]using this
theorem Pt{M:Nat->Prop}(U: ∀s j,M s->j<m->M (mV N s j))(J: ∀s t,M s->M t->bW N E m k s t=true->bW N E m (k+1) s t=true)(hs:M s)(z:M t)(h:bW N E m k s t=true):qX N E m s t:=
 Pq (R:=bW N E m k) U (λs t hs z h=>(je.1 (J s t hs z h)).1) (λs t hs z h=>(je.1 (J s t hs z h)).2.2) hs z h
def gy(n:Nat):zI:=(List.range n).map λi:Nat=>(i:Int)
theorem jR:x∈gy n↔0<=x/\x<(n:Int):=by
 unfold gy;rw[List.mem_map];constructor
 ·rintro⟨i,hi,rfl⟩;rw[List.mem_range]at hi;omega
 ·intro h;exact⟨x.toNat,List.mem_range.2 (by omega),by omega⟩
theorem lW(R:Nat->Nat->Bool)(mt:zI):(aH R mt).length<=mt.length:=by
 induction mt using bB with
 |h0=>simp[aH]
 |h1 l x z=>
  rw[fD]
  unfold iZ
  split
  ·simp;omega
  ·simp;exact z
theorem Yy(N:zL)(E:zB)(m n:Nat)(mt:zI)(U:mt.length<=n)(h0:mt≠[]): ∃k,k<n/\(aH (bW N E m k) mt).length=(aH (bW N E m (k+1)) mt).length:=by
 apply Classical.byContradiction;intro h
 have z: ∀k,k<=n->k+1<=(aH (bW N E m k) mt).length:=by
  intro k;induction k with
  |zero=>
   intro _
   cases mt with
   |nil=>exact absurd rfl h0
   |cons x l=>
    have:=Dv (bW N E m 0) [x] l
    have h1:=this.length_le
    simp[aH,iZ]at h1⊢
    exact h1
  |succ k J=>
   intro Z
   have h1:=J (by omega)
   have h2:=Ng (R':=bW N E m (k+1)) (iR N E m k) (λs t=>qD (N:=N) (E:=E) (m:=m)) mt
   have h3:(aH (bW N E m k) mt).length≠(aH (bW N E m (k+1)) mt).length:=λe=>h ⟨k,by omega,e⟩
   omega
 have h1:=z n zr;have h2:=lW (bW N E m n) mt;omega
theorem V4(hG:aK m n N)(E:zB)(hs:s<n)(U:t<n):bW N E m n s t=true↔qX N E m s t:=by
 refine⟨λh=>?_,Ht n⟩;have hM: ∀s j,s<n->j<m->mV N s j<n:=λs j hs hj=>by have:=(hG.2.2.2.2.2 s hs).2 j hj;unfold mV;omega
 obtain⟨k,hk,hl⟩:=Yy N E m n (gy n) (by simp[gy]) (by have:=hG.2.1;intro e;have:=congrArg List.length e;simp[gy]at this;omega);have z:=K5 (iR N E m k) (iR N E m (k+1)) (λs t=>qD) (gy n) hl;have J: ∀s t,s<n->t<n->bW N E m k s t=true->bW N E m (k+1) s t=true:=λs t hs U h=>by have:=z (s:Int) (jR.2 (by omega)) (t:Int) (jR.2 (by omega));rw[Int.toNat_natCast,Int.toNat_natCast]at this;rw[<-this];exact h
 have Z:bW N E m k s t=true:=by
  have: ∀i,bW N E m (k+i) s t=true->bW N E m k s t=true:=by
   intro i;induction i with
   |zero=>exact id
   |succ i ih=>exact λh=>ih (qD h)
  exact this (n-k) (by rw[show k+(n-k)=n by omega];exact h)
 exact Pt (M:=λs=>s<n) hM J hs U Z
def oU(R:Nat->Nat->Bool)(mt:zI)(N:zL):zL:=(aH R mt).map λr=>(N.getD r.toNat []).map λx=>((gU R (aH R mt) x:Nat):Int)
def zX(R:Nat->Nat->Bool)(mt:zI)(E:zB):zB:=(aH R mt).map λr=>E.getD r.toNat false
structure BJ (N:zL) (E:zB) (m:Nat) (R:Nat->Nat->Bool):Prop where
 eqv:vK R
 ends: ∀s∈aR N,∀t∈aR N,R s.toNat t.toNat=true->E.getD s.toNat false=E.getD t.toNat false
 step: ∀s∈aR N,∀t∈aR N,R s.toNat t.toNat=true-> ∀j,j<m->R (mV N s.toNat j) (mV N t.toNat j)=true
theorem ko(hG:aK m n N){s:Int}(hs:s∈aR N)(j:Nat)(z:j<m):((mV N s.toNat j:Nat):Int)∈aR N/\((mV N s.toNat j:Nat):Int)=(N.getD s.toNat []).getD j 0:=by
 have h:=(iY hG).2 s hs;have h1:=hG.2.2.2.2.2 s.toNat (by omega);have h2:=h1.2 j z;have e:((mV N s.toNat j:Nat):Int)=(N.getD s.toNat []).getD j 0:=by unfold mV;omega
 refine⟨?_,e⟩;rw[e];refine vI hG s hs _ ?_;rw[aS _ j (by omega)];exact List.getElem_mem _
theorem afK(hG:aK m n N):(aR N).getD 0 0=0/\0<(aR N).length:=by
 have h:=oQ N 0 n;rw[Nat.zero_add]at h;have e:bQ N n=aR N:=by unfold aR;rw[hG.1]
 rw[e]at h;have h1:=h.length_le;have h2:=iq h 0 (by simp[bQ]);simp[bQ]at h1 h2;exact⟨by simpa using h2,h1⟩
section
variable {m n:Nat} {N:zL} {E:zB} {R:Nat->Nat->Bool}
theorem mE:(oU R (aR N) N).length=(aH R (aR N)).length:=by simp[oU]
theorem EO:(zX R (aR N) E).length=(aH R (aR N)).length:=by simp[zX]
theorem um{k:Nat}(z:k<(aH R (aR N)).length):(oU R (aR N) N).getD k []=(N.getD ((aH R (aR N)).getD k 0).toNat []).map λx=>((gU R (aH R (aR N)) x:Nat):Int):=by simp[oU,List.getD,z]
theorem BK{k:Nat}(z:k<(aH R (aR N)).length):(zX R (aR N) E).getD k false=E.getD ((aH R (aR N)).getD k 0).toNat false:=by simp[zX,List.getD,z]
theorem BM{k:Nat}(z:k<(aH R (aR N)).length):(aH R (aR N)).getD k 0∈aR N:=nu R _ _ (by rw[aS _ k z];exact List.getElem_mem z)
theorem Dx(hG:aK m n N):0<(aH R (aR N)).length/\(aH R (aR N)).getD 0 0=0:=by
 obtain⟨h1,h2⟩:=afK hG;cases hm:aR N with
 |nil=>rw[hm]at h2;simp at h2
 |cons x l=>
  rw[hm]at h1
  have hx:x=0:=by simpa using h1
  have z:=Dv R [x] l
  have e:aH R [x]=[x]:=by simp[aH,iZ]
  rw[e]at z
  have h3:=z.length_le
  have h4:=iq z 0 (by simp)
  have J:[x]++l=x::l:=rfl
  rw[J]at h3 h4
  refine⟨by simp at h3;omega,?_⟩
  rw[h4,hx];rfl
theorem afL(hG:aK m n N)(z:BJ N E m R){s:Int}(hs:s∈aR N)(j:Nat)(J:j<m):mV (oU R (aR N) N) (gU R (aH R (aR N)) s) j=gU R (aH R (aR N)) (mV N s.toNat j:Nat):=by
 have U:=xE z.eqv hs;have Z:=BM U;have a1:=wS U;have h1:=ko hG Z j J;have h2:=ko hG hs j J;have a2:=(iY hG).2 _ Z;have hlen:=(hG.2.2.2.2.2 _ (show((aH R (aR N)).getD (gU R (aH R (aR N)) s) 0).toNat<n by omega)).1;unfold mV at h1 h2⊢;rw[um U];have e:((N.getD ((aH R (aR N)).getD (gU R (aH R (aR N)) s) 0).toNat []).map λx=>((gU R (aH R (aR N)) x:Nat):Int)).getD j 0=((gU R (aH R (aR N)) ((N.getD ((aH R (aR N)).getD (gU R (aH R (aR N)) s) 0).toNat []).getD j 0):Nat):Int):=by rw[aS _ j (by rw[List.length_map];omega),List.getElem_map,aS _ j (by omega)]
 rw[e,Int.toNat_natCast,<-h1.2];refine(Nf z.eqv h1.1 h2.1).2 ?_;rw[Int.toNat_natCast,Int.toNat_natCast];exact z.step _ Z _ hs (z.eqv.symm _ _ a1) j J
theorem Pw(hG:aK m n N)(J:BJ N E m R):aK m (aH R (aR N)).length (oU R (aR N) N):=by
 refine⟨mE,(Dx hG).1,?_,hG.2.2.2.1,hG.2.2.2.2.1,λs hs=>?_⟩
 ·have h1:=lW R (aR N);have h2:=oK hG;have h3:=hG.2.2.1;omega
 ·have z:=BM hs;have Z:=(iY hG).2 _ z;have hlen:=hG.2.2.2.2.2 _ (show((aH R (aR N)).getD s 0).toNat<n by omega);rw[um hs];refine⟨by rw[List.length_map];exact hlen.1,λj U=>?_⟩;have h1:=ko hG z j U;rw[aS _ j (by rw[List.length_map];omega),List.getElem_map];rw[aS _ j (by omega)]at h1;have:=xE J.eqv h1.1;rw[h1.2]at this;omega
theorem Nh(hG:aK m n N){s:Int}(hs:s∈aR N)(w:zI)(z:fA m w):((ny N s.toNat w:Nat):Int)∈aR N:=by
 induction w generalizing s with
 |nil=>
  have:=(iY hG).2 s hs
  rw[show((ny N s.toNat []:Nat):Int)=s by simp[ny];omega]
  exact hs
 |cons x w J=>
  have hx:=z x (by simp)
  have h1:=ko hG hs x.toNat (by omega)
  have:=J h1.1 (λy U=>z y (by simp[U]))
  rw[Int.toNat_natCast]at this
  simpa[ny,kK]using this
theorem Ni(hG:aK m n N)(J:BJ N E m R){s:Int}(hs:s∈aR N)(w:zI)(z:fA m w):ny (oU R (aR N) N) (gU R (aH R (aR N)) s) w=gU R (aH R (aR N)) (ny N s.toNat w:Nat):=by
 induction w generalizing s with
 |nil=>
  have:=(iY hG).2 s hs
  rw[show((ny N s.toNat []:Nat):Int)=s by simp[ny];omega]
  rfl
 |cons x w U=>
  have hx:=z x (by simp)
  have h1:=ko hG hs x.toNat (by omega)
  have h2:=afL hG J hs x.toNat (by omega)
  have:=U h1.1 (λy Z=>z y (by simp[Z]))
  rw[Int.toNat_natCast]at this
  simp only[ny,List.foldl_cons,kK]at this⊢
  rw[h2]
  exact this
theorem Nj(z:BJ N E m R){s:Int}(hs:s∈aR N):(zX R (aR N) E).getD (gU R (aH R (aR N)) s) false=E.getD s.toNat false:=by have J:=xE z.eqv hs;rw[BK J];exact z.ends _ (BM J) _ hs (z.eqv.symm _ _ (wS J))
theorem abe(hG:aK m n N)(z:BJ N E m R):gU R (aH R (aR N)) 0=0:=by obtain⟨h1,h2⟩:=Dx (R:=R) hG;have:=Gj z.eqv h1;rwa [h2]at this
theorem K6(hG:aK m n N)(z:BJ N E m R)(w:zI)(J:fA m w):(zX R (aR N) E).getD (bR (oU R (aR N) N) w) false=E.getD (bR N w) false:=by have h0:=abb hG;have h1:=Ni hG z h0 w J;rw[abe hG z]at h1;have h2:=Nh hG h0 w J;have h3:=Nj z h2;rw[<-h1,Int.toNat_natCast]at h3;exact h3
theorem Hu(b:Nat):gy (b+1)=gy b++[(b:Int)]:=by simp[gy,List.range_succ]
theorem jS(b:Nat):(gy b).length=b:=by simp[gy]
theorem uo{b k:Nat}(z:k<b):(gy b).getD k 0=(k:Int):=by simp[gy,List.getD,z]
theorem jf{o mt:zI}(h:o<+:mt):aH R o<+:aH R mt:=by obtain⟨s,rfl⟩:=h;exact Dv R o s
theorem Hw{o mt:zI}(U:vK R)(h:o<+:mt){x:Int}(hx: ∃r∈aH R o,R x.toNat r.toNat=true):gU R (aH R mt) x<(aH R o).length:=by have z:=Aq hx;have J:=jf (R:=R) h;have:=Dw (mt:=mt) U (Nat.lt_of_lt_of_le z J.length_le) (s:=x) (by rw[iq J _ z];exact wS z);rw[this];exact z
theorem abf(J:vK R){o mt:zI}{x:Int}(h:nk o x<+:mt):gy (aH R (nk o x)).length=nk (gy (aH R o).length) (gU R (aH R mt) x:Nat):=by
 have Z:o<+:mt:=(Pn o x).trans h;by_cases hx: ∃r∈aH R o,R x.toNat r.toNat=true
 ·have hc:=Hw J Z hx
  have z:(aH R (nk o x))=aH R o:=by
   unfold nk;split
   ·rfl
   ·rw[fD];unfold iZ;rw[yP (List.any_eq_true.2 hx)]
  rw[z,qV (jR.2 (by omega))]
 ·have a1: ¬x∈o:=λhm=>hx (xD J o x hm)
  rw[vJ a1]at h⊢;have z:aH R (o++[x])=aH R o++[x]:=by rw[fD];unfold iZ;rw[yN (λe=>hx (List.any_eq_true.1 e))]
  have U:=jf (R:=R) h;rw[z]at U;have a2:(aH R o).length<(aH R mt).length:=by have:=U.length_le;simp at this;omega
  have hg:=iq U (aH R o).length (by simp);have hc:=Gj J a2;have e2:(aH R o++[x]).getD (aH R o).length 0=x:=by simp[List.getD]
  rw[hg,e2]at hc;rw[z,List.length_append,List.length_singleton,hc,Hu,vJ (λhm=>by have:=jR.1 hm;omega)]
theorem abg(z:vK R){mt:zI}(row:zI){o:zI}(h:cu o row<+:mt):gy (aH R (cu o row)).length=cu (gy (aH R o).length) (row.map λx=>((gU R (aH R mt) x:Nat):Int)):=by
 induction row generalizing o with
 |nil=>rfl
 |cons x row J=>
  have h1:cu o (x::row)=cu (nk o x) row:=rfl
  rw[h1]at h⊢
  rw[J h,abf z ((nY _ _).trans h)]
  rfl
theorem Px{o r:zI}(h: ∀x∈r,x∈o):cu o r=o:=by
 unfold cu;induction r with
 |nil=>rfl
 |cons x r z=>rw[List.foldl_cons,qV (h x (by simp))];exact z (λy J=>h y (by simp[J]))
theorem abh(hG:aK m n N)(U:BJ N E m R)(i:Nat)(hi:i<=(aR N).length):bQ (oU R (aR N) N) (aH R ((aR N).take i)).length=gy (aH R (bQ N i)).length:=by
 have b6:bQ N n=aR N:=by unfold aR;rw[hG.1]
 have c9:=oK hG;have Z: ∀j,j<=n->bQ N j<+:aR N:=λj hj=>by have:=oQ N j (n-j);rwa [show j+(n-j)=n by omega,b6]at this
 induction i with
 |zero=>simp[aH,bQ,iZ,gy]
 |succ i ih=>
  have ih:=ih (by omega)
  have a1:i<(bQ N i).length:=by apply Classical.byContradiction;intro h;have:=BI hG i (by omega) (by omega);rw[this]at h;omega
  have hp:=Z i (by omega)
  have b7:=Z (i+1) (by omega)
  have b4:=iq hp i a1
  have hs:(aR N).getD i 0∈aR N:=by rw[aS _ i (by omega)];exact List.getElem_mem _
  have J:(aR N).take (i+1)=(aR N).take i++[(aR N).getD i 0]:=by rw[List.take_succ_eq_append_getElem (by omega),aS _ i (by omega)]
  have z:=abg (R:=R) U.eqv (N.getD ((bQ N i).getD i 0).toNat []) (o:=bQ N i) (mt:=aR N) (by rw[<-kV N i a1];exact b7)
  rw[<-kV N i a1,<-b4]at z
  have b8:(aR N).take i<+:bQ N i:=by obtain⟨q,hq⟩:=hp;rw[<-hq,List.take_append_of_le_length (by omega)];exact List.take_prefix _ _
  have b5:(aR N).take (i+1)<+:bQ N i:=by obtain⟨q,hq⟩:=hp;rw[<-hq,List.take_append_of_le_length (by omega)];exact List.take_prefix _ _
  by_cases hx: ∃r∈aH R ((aR N).take i),R ((aR N).getD i 0).toNat r.toNat=true
  ·have e1:aH R ((aR N).take (i+1))=aH R ((aR N).take i):=by
    rw[J,fD];unfold iZ;rw[yP (List.any_eq_true.2 hx)]
   rw[e1,ih,z]
   refine(Px λy hy=>?_).symm
   obtain⟨r,hr,b9⟩:=hx
   obtain⟨x,c0,rfl⟩:=List.mem_map.1 hy
   obtain⟨j,hj,rfl⟩:=List.getElem_of_mem c0
   have b1:=nu R _ r hr
   obtain⟨p,a2,c3⟩:=List.getElem_of_mem b1
   have c4:p<i:=by rw[List.length_take]at a2;omega
   have a6:r∈aR N:=List.mem_of_mem_take b1
   have d0:=(iY hG).2 _ hs
   have a7:j<m:=by have:=(hG.2.2.2.2.2 _ (show((aR N).getD i 0).toNat<n by omega)).1;omega
   have h1:=ko hG hs j a7
   have h2:=ko hG a6 j a7
   have c5:=U.step _ hs _ a6 b9 j a7
   have a8:=(Nf U.eqv h1.1 h2.1).2 (by rw[Int.toNat_natCast,Int.toNat_natCast];exact c5)
   rw[h1.2,aS _ j hj]at a8
   rw[a8]
   refine jR.2 ⟨by omega,?_⟩
   have c6:((mV N r.toNat j:Nat):Int)∈bQ N i:=by have c7:(bQ N i).getD p 0=r:=(by rw[<-c3];have:=iq b8 p a2;rw[this,aS _ p a2]);refine EN N i p c4 (by omega) _ ?_;rw[c7,h2.2];have d1:=(iY hG).2 _ a6;rw[aS _ j (by have:=(hG.2.2.2.2.2 r.toNat (by omega)).1;omega)];exact List.getElem_mem _
   have:=Hw U.eqv hp (xD U.eqv _ _ c6)
   omega
  ·have e1:aH R ((aR N).take (i+1))=aH R ((aR N).take i)++[(aR N).getD i 0]:=by
    rw[J,fD];unfold iZ;rw[yN (λe=>hx (List.any_eq_true.1 e))]
   have b0:=jf (R:=R) b5
   rw[e1]at b0
   have b2:(aH R ((aR N).take i)).length<(aH R (bQ N i)).length:=by have:=b0.length_le;simp at this;omega
   have b3:=b0.trans (jf (R:=R) hp)
   have hg:=iq b3 (aH R ((aR N).take i)).length (by simp)
   have c8:(aH R ((aR N).take i)).length<(aH R (aR N)).length:=by have:=b3.length_le;simp at this;omega
   have e2:(aH R ((aR N).take i)++[(aR N).getD i 0]).getD (aH R ((aR N).take i)).length 0=(aR N).getD i 0:=by simp[List.getD]
   rw[e2]at hg
   rw[e1,List.length_append,List.length_singleton,kV _ _ (by rw[ih,jS];exact b2),ih,uo b2,Int.toNat_natCast,um c8,hg,z]
theorem afM(hG:aK m n N)(Z:BJ N E m R):aR (oU R (aR N) N)=gy (aH R (aR N)).length:=by
 have h:=abh hG Z (aR N).length zr;have z:=oK hG;have J:bQ N n=aR N:=by unfold aR;rw[hG.1]
 have e:bQ N (aR N).length=aR N:=by have U:=oQ N (aR N).length (n-(aR N).length);rw[show(aR N).length+(n-(aR N).length)=n by omega,J]at U;exact BI hG _ U.length_le z
 rw[List.take_of_length_le zr,e]at h;show bQ _ (oU R (aR N) N).length=_;rw[mE,h]
end
def ji(N:zL)(E:zB)(m:Nat):Nat->Nat->Bool:=bW N E m N.length
def aV(N:zL)(E:zB)(m:Nat):zL:=oU (ji N E m) (aR N) N
def aY(N:zL)(E:zB)(m:Nat):zB:=zX (ji N E m) (aR N) E
def bE(N:zL)(E:zB)(m:Nat):Nat:=(aH (ji N E m) (aR N)).length
theorem lX(hG:aK m n N){s:Int}(hs:s∈aR N):s.toNat<n:=by have:=(iY hG).2 s hs;omega
theorem qE(hG:aK m n N)(E:zB)(hs:s<n)(z:t<n):ji N E m s t=true↔qX N E m s t:=by unfold ji;rw[hG.1];exact V4 hG E hs z
theorem qY(hG:aK m n N)(E:zB):BJ N E m (ji N E m):=by
 refine⟨iR _ _ _ _,λs hs t z h=>?_,λs hs t z h j J=>?_⟩
 ·have:=(qE hG E (lX hG hs) (lX hG z)).1 h [] (by simp[fA]);simpa[ny]using this
 ·have h1:=Hr ((qE hG E (lX hG hs) (lX hG z)).1 h) j J;have h2:=lX hG (ko hG hs j J).1;have h3:=lX hG (ko hG z j J).1;rw[Int.toNat_natCast]at h2 h3;exact(qE hG E h2 h3).2 h1
theorem afN(hG:aK m n N)(hR:BJ N E m R)(hc: ∀s∈aR N,∀t∈aR N,qX N E m s.toNat t.toNat->R s.toNat t.toNat=true): ∀s∈aR N,∀t∈aR N,R s.toNat t.toNat=ji N E m s.toNat t.toNat:=by
 intro s hs t J;rw[Bool.eq_iff_iff,qE hG E (lX hG hs) (lX hG J)];refine⟨λh=>?_,hc s hs t J⟩;refine Pq (M:=λq=>(q:Int)∈aR N) (R:=R) (λq j hq U=>?_) (λa b Z hb z=>?_) (λa b Z hb z j U=>?_) ?_ ?_ h
 ·have:=(ko hG hq j U).1;rwa [Int.toNat_natCast]at this
 ·have:=hR.ends _ Z _ hb (by rw[Int.toNat_natCast,Int.toNat_natCast];exact z);rwa [Int.toNat_natCast,Int.toNat_natCast]at this
 ·have:=hR.step _ Z _ hb (by rw[Int.toNat_natCast,Int.toNat_natCast];exact z) j U;rwa [Int.toNat_natCast,Int.toNat_natCast]at this
 ·have:=(iY hG).2 s hs;rwa [show((s.toNat:Nat):Int)=s by omega]
 ·have:=(iY hG).2 t J;rwa [show((t.toNat:Nat):Int)=t by omega]
theorem Yz(hG:aK m n N)(h: ∀s∈aR N,∀t∈aR N,R s.toNat t.toNat=R' s.toNat t.toNat):oU R (aR N) N=oU R' (aR N) N/\ ∀E,zX R (aR N) E=zX R' (aR N) E:=by have J:=Hq (aR N) h;refine⟨?_,λE=>by unfold zX;rw[J]⟩;unfold oU;rw[J];refine List.map_congr_left λr U=>List.map_congr_left λx hx=>?_;have z:=nu R' _ r U;have Z:=vI hG r z x hx;rw[Yx h (λq hq=>nu R' _ q hq) Z]
theorem Nk(hG:aK m n N)(z:BJ N E m R)(hc: ∀s∈aR N,∀t∈aR N,qX N E m s.toNat t.toNat->R s.toNat t.toNat=true):oU R (aR N) N=aV N E m/\zX R (aR N) E=aY N E m:=by have:=Yz hG (afN hG z hc);exact⟨this.1,this.2 E⟩
theorem aZ(N:zL)(E:zB)(m:Nat):(aV N E m).length=bE N E m:=by simp[aV,oU,bE]
theorem fM(N:zL)(E:zB)(m:Nat):(aY N E m).length=bE N E m:=by simp[aY,zX,bE]
theorem fE(hG:aK m n N)(E:zB):aK m (bE N E m) (aV N E m):=Pw hG (qY hG E)
theorem yY(hG:aK m n N)(E:zB):aR (aV N E m)=gy (bE N E m):=afM hG (qY hG E)
theorem su(hG:aK m n N)(E:zB)(w:zI)(z:fA m w):(aY N E m).getD (bR (aV N E m) w) false=E.getD (bR N w) false:=K6 hG (qY hG E) w z
theorem sD(hG:aK m n N)(E:zB)(hs:s<bE N E m)(ht:t<bE N E m)(h:qX (aV N E m) (aY N E m) m s t):s=t:=by
 have z:=qY hG E;have J:=BM (N:=N) (R:=ji N E m) hs;have U:=BM (N:=N) (R:=ji N E m) ht;have cs:=Gj z.eqv (mt:=aR N) hs;have ct:=Gj z.eqv (mt:=aR N) ht;have hl:qX N E m ((aH (ji N E m) (aR N)).getD s 0).toNat ((aH (ji N E m) (aR N)).getD t 0).toNat:=by intro w Z;have h1:=Ni hG z J w Z;have h2:=Ni hG z U w Z;rw[cs]at h1;rw[ct]at h2;have h3:=h w Z;have e1:=Nj z (Nh hG J w Z);have e2:=Nj z (Nh hG U w Z);rw[Int.toNat_natCast]at e1 e2;unfold aV aY at h3;rw[h1,h2,e1,e2]at h3;exact h3
 exact qW z.eqv hs ht ((qE hG E (lX hG J) (lX hG U)).2 hl)
theorem YA(k:Nat)(h: ∀s t,s<k->t<k->R s t=true->s=t): ∀j,j<=k->aH R (gy j)=gy j:=by
 intro j;induction j with
 |zero=>intro _;rfl
 |succ j J=>
  intro U
  rw[Hu,fD,J (by omega)]
  unfold iZ
  rw[yN]
  intro e
  obtain⟨r,z,hx⟩:=List.any_eq_true.1 e
  have z:=jR.1 z
  rw[Int.toNat_natCast]at hx
  have:=h j r.toNat (by omega) (by omega) hx
  omega
theorem jC(hG:aK m n N)(E:zB):aV (aV N E m) (aY N E m) m=aV N E m/\aY (aV N E m) (aY N E m) m=aY N E m:=by
 have U:=fE hG E;have Z:=yY hG E;have a7: ∀s t,s<bE N E m->t<bE N E m->ji (aV N E m) (aY N E m) m s t=true->s=t:=λs t hs ht h=>sD hG E hs ht ((qE U _ hs ht).1 h);have z:aH (ji (aV N E m) (aY N E m) m) (aR (aV N E m))=gy (bE N E m):=by rw[Z];exact YA _ a7 _ zr
 have a6:=qY U (aY N E m)
 have a1: ∀x:Int,x∈aR (aV N E m)->((gU (ji (aV N E m) (aY N E m) m) (aH (ji (aV N E m) (aY N E m) m) (aR (aV N E m))) x:Nat):Int)=x:=by
  intro x hx;have a2:=hx;rw[Z]at a2;have a2:=jR.1 a2;have hk:x.toNat<(aH (ji (aV N E m) (aY N E m) m) (aR (aV N E m))).length:=by rw[z,jS];omega
  have:=Dw a6.eqv hk (s:=x) (by rw[z,uo (by omega),Int.toNat_natCast];exact a6.eqv.refl _);rw[this];omega
 constructor
 ·apply List.ext_getElem
  ·rw[aZ,aZ];unfold bE;rw[z,jS];rfl
  ·intro i h1 h2;have hi:i<bE N E m:=(by rwa [aZ]at h2);have e:(aV (aV N E m) (aY N E m) m).getD i []=(aV N E m).getD i []:=(by unfold aV at z a1⊢;rw[um (N:=oU (ji N E m) (aR N) N) (by rw[z,jS];exact hi)];have e1:((aH (ji (oU (ji N E m) (aR N) N) (aY N E m) m) (aR (oU (ji N E m) (aR N) N))).getD i 0).toNat=i:=(by rw[z,uo hi,Int.toNat_natCast]);rw[e1];refine(List.map_congr_left (g:=id) λx hx=>?_).trans (List.map_id _);refine a1 x (vI U (i:Int) (by rw[Z];exact jR.2 (by omega)) x ?_);rw[Int.toNat_natCast];exact hx);simpa[List.getD,h1,h2]using e
 ·apply List.ext_getElem
  ·rw[fM,fM];unfold bE;rw[z,jS];rfl
  ·intro i h1 h2;have hi:i<bE N E m:=(by rwa [fM]at h2);have e:(aY (aV N E m) (aY N E m) m).getD i false=(aY N E m).getD i false:=(by have J:=z;unfold aY at J⊢;rw[BK (N:=aV N E m) (by rw[J,jS];exact hi),J,uo hi,Int.toNat_natCast]);simpa[List.getD,h1,h2]using e
theorem lF:fA m (w++[x])↔fA m w/\0<=x/\x<(m:Int):=by
 unfold fA;constructor
 ·intro h;exact⟨λy z=>h y (by simp[z]),h x (by simp)⟩
 ·rintro⟨h1,h2⟩ y z
  rcases List.mem_append.1 z with h|h
  ·exact h1 y h
  ·rw[List.mem_singleton]at h;subst h;exact h2
theorem dF(N:zL)(w:zI)(x:Int):bR N (w++[x])=fC N (bR N w) x:=by simp[bR,List.foldl_append]
def iI(b n:Int)(k:Nat):zI:=bI ((iW b n 60).take k)
end Go.Proofs.YtceojneljnnooaaGreat
