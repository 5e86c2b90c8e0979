import Derived.Test.YtceojneljnnooaaGreatZEg
import Derived.Lib.SlicesCompact
open Go.Proofs.Tryz
namespace Go.Proofs.YtceojneljnnooaaGreat
open Go.RowKit
set_option maxHeartbeats 0
set_option maxRecDepth 100000
set_option linter.all false
variable{n m M tr tk:Nat}{N:zL}{d z:Nat->Nat->Nat}
theorem rJ: ∀{l k:zI},l.Pairwise (· < ·)->k.Pairwise (· < ·)->(∀x,x∈l↔x∈k)->l=k
 |[],[],_,_,_=>rfl
 |[],y::k,_,_,h=>by have:=(h y).2 (by simp);simp at this
 |x::l,[],_,_,h=>by have:=(h x).1 (by simp);simp at this
 |x::l,y::k,hl,hk,h=>by
  obtain⟨h1,h2⟩:=List.pairwise_cons.1 hl;obtain⟨h3,h4⟩:=List.pairwise_cons.1 hk
  have e:x=y:=by
   have hx:=(h x).1 (by simp);have J:=(h y).2 (by simp);simp only[List.mem_cons]at hx J;rcases hx with hx|hx
   ·exact hx
   ·rcases J with J|J
    ·exact J.symm
    ·have:=h1 y J;have:=h3 x hx;omega
  subst e
  rw[rJ h2 h4 (λz=>by
   constructor
   ·intro U
    have:=(h z).1 (by simp[U]);simp only[List.mem_cons]at this;rcases this with rfl|Z
    ·have:=h1 z U;omega
    ·exact Z
   ·intro U
    have:=(h z).2 (by simp[U]);simp only[List.mem_cons]at this;rcases this with rfl|Z
    ·have:=h3 z U;omega
    ·exact Z)]
theorem rM(zs:zI)(hs:zs.Pairwise (· <= ·)): ∀m,m<=zs.length->(Lib.compactUpTo zs.toArray m).Pairwise (· < ·)/\(∀x,x∈Lib.compactUpTo zs.toArray m↔ ∃j,j<m/\zs.getD j 0=x)
 |0,_=>by simp[Lib.compactUpTo]
 |m+1,hm=>by
  obtain⟨h1,h2⟩:=rM zs hs m (by omega)
  have Z: ∀i j,i<=j->j<zs.length->zs.getD i 0<=zs.getD j 0:=λi j a6 z=>by
   rcases Nat.lt_or_eq_of_le a6 with h|h
   ·have:=List.pairwise_iff_getElem.1 hs i j (by omega) z h;simpa[List.getD,show i<zs.length by omega,z]using this
   ·rw[h];exact Int.le_refl _
  have U: ∀j,j<zs.length->zs.toArray[j]! =zs.getD j 0:=λj z=>by simp[List.getD,z]
  rw[Lib.compactUpTo_succ];by_cases J:Lib.keeps zs.toArray m=true
  ·rw[yP J,U m (by omega)]
   refine⟨List.pairwise_append.2 ⟨h1,List.pairwise_singleton _ _,λx hx y hy=>?_⟩,λx=>?_⟩
   ·simp only[List.mem_singleton]at hy
    subst hy;obtain⟨j,z,rfl⟩:=(h2 x).1 hx;have a1:=Z j (m-1) (by omega) (by omega);have a2:=Z (m-1) m (by omega) (by omega);simp only[Lib.keeps,decide_eq_true_eq]at J;rcases J with J|J
    ·omega
    ·rw[U m (by omega),U (m-1) (by omega)]at J;omega
   ·simp only[List.mem_append,List.mem_singleton]
    rw[h2 x];constructor
    ·rintro(⟨j,z,e⟩|e)
     ·exact⟨j,by omega,e⟩
     ·exact⟨m,by omega,e.symm⟩
    ·rintro⟨j,z,e⟩
     rcases Nat.lt_or_ge j m with h|h
     ·exact .inl ⟨j,h,e⟩
     ·have:j=m:=by omega
      subst this;exact .inr e.symm
  ·rw[yN J,List.append_nil]
   refine⟨h1,λx=>?_⟩;rw[h2 x];constructor
   ·rintro⟨j,z,e⟩;exact⟨j,by omega,e⟩
   ·rintro⟨j,z,e⟩
    rcases Nat.lt_or_ge j m with h|h
    ·exact⟨j,h,e⟩
    ·have:j=m:=by omega
     subst this;simp only[Lib.keeps,decide_eq_true_eq,not_or,Decidable.not_not]at J;obtain⟨k1,k2⟩:=J;rw[U j (by omega),U (j-1) (by omega)]at k2;exact⟨j-1,by omega,by rw[<-k2,e]⟩
def oD(l:zI):zI:=Lib.compact (l.mergeSort λx y=>decide (x<=y))
theorem jE(l:zI):(oD l).Pairwise (· < ·)/\ ∀x,x∈oD l↔x∈l:=by
 have hs:(l.mergeSort λx y=>decide (x<=y)).Pairwise (· <= ·):=by have:=List.pairwise_mergeSort (le:=λx y:Int=>decide (x<=y)) (λa b c h1 h2=>by simp at h1 h2⊢;omega) (λa b=>by simp;omega) l;exact this.imp (λh=>by simpa using h)
 obtain⟨h1,h2⟩:=rM _ hs _ zr;refine⟨h1,λx=>?_⟩;unfold oD Lib.compact;rw[h2 x];have J:=List.mergeSort_perm l (λx y=>decide (x<=y));refine Iff.trans ?_ J.mem_iff;constructor
 ·rintro⟨j,z,rfl⟩;rw[aS _ j z];exact List.getElem_mem _
 ·intro hx;obtain⟨j,z,e⟩:=List.getElem_of_mem hx;exact⟨j,z,by rw[aS _ j z,e]⟩
theorem QZ(l:zI):(oD l).length<=l.length:=by unfold oD Lib.compact Lib.compactUpTo;have h:=List.length_filter_le (Lib.keeps (l.mergeSort λx y=>decide (x<=y)).toArray) (List.range (l.mergeSort λx y=>decide (x<=y)).length);simp only[List.length_range,List.length_mergeSort]at h;simpa using h
theorem Cv:oD []=[]:=by simp[oD,Lib.compact,Lib.compactUpTo]
def bV(n M:Nat):zI:=((List.range n).filter λs=>M.testBit s).map λs:Nat=>(s:Int)
theorem iA{n M:Nat}{x:Int}:x∈bV n M↔0<=x/\x.toNat<n/\M.testBit x.toNat=true:=by
 simp only[bV,List.mem_map,List.mem_filter,List.mem_range];constructor
 ·rintro⟨s,⟨h1,h2⟩,rfl⟩;exact⟨by omega,by simpa using h1,by simpa using h2⟩
 ·rintro⟨h0,h1,h2⟩;exact⟨x.toNat,⟨h1,h2⟩,by omega⟩
theorem Fq(n M:Nat):(bV n M).Pairwise (· < ·):=by unfold bV;refine List.Pairwise.map _ (λa b h=>?_) (List.Pairwise.filter _ (List.pairwise_lt_range (n:=n)));exact Int.ofNat_lt.2 h
theorem Jo(n M:Nat):(bV n M).length<=n:=by have h:=List.length_filter_le (λs=>M.testBit s) (List.range n);simpa[bV]using h
theorem Mf{l:zI}(h: ∀x,x∈l↔0<=x/\x.toNat<n/\M.testBit x.toNat=true):oD l=bV n M:=
 rJ (jE l).1 (Fq n M) λx=>by rw[(jE l).2,h x,iA]
theorem acZ{z:Nat}(h:M<2^n)(J:z<2^n)(e:bV n M=bV n z):M=z:=
 xH h J λs hs=>by have:=@iA n M (s:Int);rw[e,iA]at this;simp only[Int.toNat_natCast]at this;have h3:z.testBit s=true↔M.testBit s=true:=⟨λhb=>(this.1 ⟨by omega,hs,hb⟩).2.2,λhb=>(this.2 ⟨by omega,hs,hb⟩).2.2⟩;cases h4:M.testBit s<;>cases h5:z.testBit s<;>simp_all
theorem Q0(h:0<n):bV n (2^0)=[0]:=rJ (Fq _ _) (List.pairwise_singleton _ _) λx=>by
 rw[iA];simp only[List.mem_singleton,Nat.testBit_two_pow];constructor
 ·rintro⟨h0,h1,h2⟩;simp at h2;omega
 ·rintro rfl;simp[h]
theorem Q5{z:Nat}(h:M<2^n)(Z:z<2^n)(hs: ∀s,M.testBit s=true->z.testBit s=true)(hl:(bV n z).length<=(bV n M).length):M=z:=by
 refine xH h Z λs J=>?_;cases h4:M.testBit s with
 |true=>exact(hs s h4).symm
 |false=>
  cases h5:z.testBit s with
  |false=>rfl
  |true=>
   have U: ∀K:Nat,((List.range n).filter λs=>K.testBit s).Nodup:=λK=>List.Pairwise.filter _ List.nodup_range
   have:=kW (L:=s::(List.range n).filter λs=>M.testBit s) (K:=(List.range n).filter λs=>z.testBit s) (List.nodup_cons.2 ⟨by simp[h4],U M⟩) (λx hx=>by
    simp only[List.mem_cons,List.mem_filter,List.mem_range]at hx⊢;rcases hx with rfl|⟨k1,k2⟩
    ·exact⟨J,h5⟩
    ·exact⟨k1,hs x k2⟩)
   simp only[bV,List.length_map]at hl
   simp only[List.length_cons]at this
   omega
theorem Q6{z:Nat}(h:M<2^n)(U:z<2^n)(hs: ∀s,M.testBit s=true->z.testBit s=true)(J:M≠z):(bV n M).length<(bV n z).length:=by
 rcases Nat.lt_or_ge (bV n M).length (bV n z).length with h1|h1
 ·exact h1
 ·exact absurd (Q5 h U hs h1) J
def Ux(l:zI):List UInt8:=l.map λx=>UInt8.ofNat x.toNat
theorem Q7: ∀{l k:zI},(∀x∈l,0<=x/\x<256)->(∀x∈k,0<=x/\x<256)->Ux l=Ux k->l=k
 |[],[],_,_,_=>rfl
 |[],y::k,_,_,h=>by simp[Ux]at h
 |x::l,[],_,_,h=>by simp[Ux]at h
 |x::l,y::k,U,Z,h=>by simp only[Ux,List.map_cons,List.cons.injEq]at h;have hx:=U x (by simp);have hy:=Z y (by simp);have e:=congrArg UInt8.toNat h.1;simp only[UInt8.toNat_ofNat']at e;rw[Nat.mod_eq_of_lt (by omega),Nat.mod_eq_of_lt (by omega)]at e;rw[Q7 (λz J=>U z (by simp[J])) (λz J=>Z z (by simp[J])) h.2,show x=y by omega]
theorem Zt{J z:zI}(h: ∀x,x∈J↔x∈z)(M:Nat):kC N n J M=kC N n z M:=by
 refine xH (ru _ _ _ _) (ru _ _ _ _) λs _=>?_
 have e:(kC N n J M).testBit s=true↔(kC N n z M).testBit s=true:=by
  rw[jW,jW];constructor<;>(rintro⟨h1,t,h2,h3,l,h4,h5⟩;refine⟨h1,t,h2,h3,l,?_,h5⟩)
  ·exact(h l).1 h4
  ·exact(h l).2 h4
 cases h4:(kC N n J M).testBit s<;>cases h5:(kC N n z M).testBit s<;>simp_all
theorem ac0(hG:aK m n N){U J:zI}(Z: ∀x∈U,0<=x/\x<(m:Int))(h: ∀x,x∈U↔x∈J):kI N n U=kI N n J:=by
 refine xH (vP _ _ _) (vP _ _ _) λs _=>?_
 have e:(kI N n U).testBit s=true↔(kI N n J).testBit s=true:=by
  rw[oV hG Z,oV hG (λx hx=>Z x ((h x).2 hx))];constructor<;>(rintro⟨z,h1,h2⟩;refine⟨z,λx hx=>?_,h2⟩)
  ·exact(h x).1 (h1 x hx)
  ·exact(h x).2 (h1 x hx)
 cases h4:(kI N n U).testBit s<;>cases h5:(kI N n J).testBit s<;>simp_all
def yw(N:zL)(n:Nat)(z:zI)(M:Nat):Nat:=M|||kC N n z M
theorem agz{N:zL}{n:Nat}{z:zI}{M:Nat}(h:M<2^n):yw N n z M<2^n:=Nat.or_lt_two_pow h (ru _ _ _ _)
theorem ac1{N:zL}{n:Nat}{z:zI}{M s:Nat}(h:M.testBit s=true):(yw N n z M).testBit s=true:=by simp[yw,h]
theorem Zu{N:zL}{n:Nat}{z:zI}{M:Nat}:oD (bV n M++bV n (kC N n z M))=bV n (yw N n z M):=Mf λx=>by
 rw[List.mem_append,iA,iA];simp only[yw,Nat.testBit_or,Bool.or_eq_true];constructor
 ·rintro(⟨h1,h2,h3⟩|⟨h1,h2,h3⟩)
  ·exact⟨h1,h2,.inl h3⟩
  ·exact⟨h1,h2,.inr h3⟩
 ·rintro⟨h1,h2,h3|h3⟩
  ·exact .inl ⟨h1,h2,h3⟩
  ·exact .inr ⟨h1,h2,h3⟩
theorem agA{m n:Nat}{N:zL}(hG:aK m n N){J:zI}(U: ∀x∈J,0<=x/\x<(m:Int)){M:Nat}(Z: ∀s,M.testBit s=true->(kI N n J).testBit s=true): ∀s,(yw N n J M).testBit s=true->(kI N n J).testBit s=true:=λs hs=>by
 simp only[yw,Nat.testBit_or,Bool.or_eq_true]at hs;rcases hs with hs|hs
 ·exact Z s hs
 ·obtain⟨h1,t,h2,h3,l,h4,h5⟩:=jW.1 hs
  obtain⟨z,hz,e⟩:=(oV hG U).1 (Z t h3);refine(oV hG U).2 ⟨z++[l],λx hx=>?_,?_⟩
  ·rcases List.mem_append.1 hx with hx|hx
   ·exact hz x hx
   ·simp at hx;rw[hx];exact h4
  ·rw[rZ,e];exact h5
theorem ac2{m n:Nat}{N:zL}(hG:aK m n N){J:zI}(hl: ∀x∈J,0<=x/\x<(m:Int)){M:Nat}(a1:M<2^n)(h0:M.testBit 0=true)(hM: ∀s,M.testBit s=true->(kI N n J).testBit s=true)(hw:yw N n J M=M):M=kI N n J:=by
 have a2: ∀(z:zI) (s:Nat),M.testBit s=true->(∀x∈z,x∈J)->M.testBit (ny N s z)=true:=by
  intro z;induction z with
  |nil=>intro s h _;exact h
  |cons x z ih=>
   intro s h U
   have hx:=U x (by simp)
   refine ih (fC N s x) ?_ (λy Z=>U y (by simp[Z]))
   rw[<-hw]
   simp only[yw,Nat.testBit_or,Bool.or_eq_true]
   have hs:=Nl a1 h
   refine .inr (jW.2 ⟨?_,s,hs,h,x,hx,rfl⟩)
   exact zi hG hs (v:=[x]) (λy Z=>hl y (by simp at Z;rw[Z];exact hx))
 refine xH a1 (vP _ _ _) λs _=>?_;have e:M.testBit s=true↔(kI N n J).testBit s=true:=⟨hM s,λh=>by obtain⟨z,U,e⟩:=(oV hG hl).1 h;rw[<-e];exact a2 z 0 h0 U⟩;cases h4:M.testBit s<;>cases h5:(kI N n J).testBit s<;>simp_all
def lC(b:Int)(tr tk x:Nat)(l:Nat):zI:=((List.range x).filter λy:Nat=>decide (mY b tr tk (y:Int)=(l:Int))).map λy:Nat=>(y:Int)
def nE(b:Int)(tr tk m mu:Nat):zL:=(List.range mu).map λl=>lC b tr tk m l
theorem mJ(b:Int)(tr tk m mu:Nat):(nE b tr tk m mu).length=mu:=by simp[nE]
theorem uU{b:Int}{mu l:Nat}(z:l<mu):(nE b tr tk m mu).getD l []=lC b tr tk m l:=by simp[nE,List.getD,z]
theorem UG(b:Int)(tr tk l:Nat):lC b tr tk 0 l=[]:=by simp[lC]
theorem UH(b:Int)(tr tk x l:Nat):lC b tr tk (x+1) l=if mY b tr tk (x:Int)=(l:Int)then lC b tr tk x l++[(x:Int)]else lC b tr tk x l:=by
 unfold lC;rw[List.range_succ,List.filter_append,List.map_append];by_cases h:mY b tr tk (x:Int)=(l:Int)
 ·rw[yP h];simp[h]
 ·rw[yN h];simp[h]
theorem Mt(b:Int)(tr tk x l:Nat):(lC b tr tk x l).length<=x:=by have h:=List.length_filter_le (λy:Nat=>decide (mY b tr tk (y:Int)=(l:Int))) (List.range x);simpa[lC]using h
theorem uV{b:Int}{x l:Nat}{y:Int}:y∈lC b tr tk x l↔(0<=y/\y<(x:Int))/\mY b tr tk y=(l:Int):=by
 simp only[lC,List.mem_map,List.mem_filter,List.mem_range,decide_eq_true_eq];constructor
 ·rintro⟨s,⟨h1,h2⟩,rfl⟩;exact⟨by omega,h2⟩
 ·rintro⟨h1,h2⟩;exact⟨y.toNat,⟨by omega,by rw[Int.toNat_of_nonneg h1.1];exact h2⟩,by omega⟩
theorem UJ{b:Int}(h2:b<=6){mu:Nat}(z:tk<=tr)(hm:pw (au b) (tr+1)=(m:Int))(J:pw (au b) tr=(mu:Int)){l:Nat}(U:l<mu)(x:Int):x∈lC b tr tk m l↔x∈EZ b tr tk (l:Int):=by rw[uV,zn h2 z hm J (by omega)]
theorem adp(h: ∀x l,l<m->d x l=z x l)(f:Nat): ∀i,aM d m f i=aM z m f i:=by
 have U: ∀(L:List Nat) (x l:Nat),l<=m->fI d L x l=fI z L x l:=by
  intro L x l;induction l with
  |zero=>intro _;rfl
  |succ l J=>intro Z;simp only[fI];rw[J (by omega),h x l (by omega)]
 intro i;induction i with
 |zero=>rfl
 |succ i J=>simp only[aM];rw[J,U _ _ _ zr]
theorem aiJ(h: ∀x l,l<m->d x l=z x l)(L:List Nat):gN d m L=gN z m L:=by unfold gN;refine List.map_congr_left λx _=>List.map_congr_left λl J=>?_;rw[h x l (List.mem_range.1 J)]
theorem adq(hG:aK m n N){R R':zL}(hlen:R.length=R'.length)(h0:0<R.length)(J: ∀l,l<R.length-> ∀x∈R.getD l [],0<=x/\x<(m:Int))(h: ∀l,l<R.length-> ∀x,x∈R.getD l []↔x∈R'.getD l []):
  jy N n R (R.getD 0 [])=jy N n R' (R'.getD 0 [])/\Cb N n R (R.getD 0 [])=Cb N n R' (R'.getD 0 [])/\ ∀E,FM N n E R (R.getD 0 [])=FM N n E R' (R'.getD 0 []):=by
 have z: ∀x l,l<R.length->dM N n R x l=dM N n R' x l:=λx l U=>Zt (h l U) x
 have h1:jy N n R (R.getD 0 [])=jy N n R' (R'.getD 0 []):=by unfold jy;rw[ac0 hG (J 0 h0) (h 0 h0),adp z,hlen]
 refine⟨h1,?_,λE=>?_⟩
 ·unfold Cb
  rw[h1,aiJ z,hlen]
 ·unfold FM
  rw[h1]
theorem adH{E:zB}:(bV n M).any (λx=>E.getD x.toNat false)=vM n E M:=by
 rw[Bool.eq_iff_iff,PU,List.any_eq_true];constructor
 ·rintro⟨x,h1,h2⟩;obtain⟨z,k1,k2⟩:=iA.1 h1;exact⟨x.toNat,k1,h2,k2⟩
 ·rintro⟨s,h1,h2,h3⟩;exact⟨(s:Int),iA.2 ⟨by omega,by simpa using h1,by simpa using h3⟩,by simpa using h2⟩
def XD(v:Value)(w:zW)(e:Ending)(w':zW):Prop:=e=.returned v/\w'=w
theorem Rm(B:Nat)(a':zO)(z J:Nat)(E:zB)(s:Nat)(W:zW)(hb:W.cell? ⟨B,3,none⟩=some (.slice a' z J))(U:mR W a' z E)(hs:s<z):
  Calls prog 150 #[.int .i64 (s:Int),.pointer (some ⟨B,0,none⟩)] W (XD (.bool (E.getD s false)) W):=by
 obtain⟨b1,o1,rfl,hc⟩:=jL U s hs
 have Z:(s:Int)<(z:Int):=by omega
 clear U
 go_enter func150,ntmps150
 go_wp2
 go_ret
 exact⟨rfl,rfl⟩
def aj0(p:Int->Bool)(l:zI)(w:zW)(e:Ending)(w':zW):Prop:= ∃i:Int,e=.returned (.int .i64 i)/\decide (0<=i)=l.any p/\w'=w
theorem KO(B:Nat)(a':zO)(z J:Nat)(E:zB)(a1:zO)(n c:Nat)(l:zI)(w:zW)(hb:w.cell? ⟨B,3,none⟩=some (.slice a' z J))(he:mR w a' z E)(hs:Sl w a1 n l)(hl: ∀x∈l,0<=x/\x<(z:Int)):
  Calls prog 152 #[.slice a1 n c,.func (.func 150) #[] #[.pointer (some ⟨B,0,none⟩)]] w (aj0 (λx=>E.getD x.toNat false) l w):=by
 have hL:=hs.1
 have a8:=hs.2.1
 unfold maxLen at a8
 have HS:=aj hs
 have H1:=aj (λs hs=>Rm B a' z J E s w hb he hs)
 unfold XD at H1
 have b0:Hid (∀i,i<n->0<=l.getD i 0/\l.getD i 0<(z:Int)):=λi hi=>hl _ (by rw[aS _ i (by omega)];exact List.getElem_mem _)
 have a6:Hid (∀i,i<n->E.getD (l.getD i 0).toNat false=true->l.any (λx=>E.getD x.toNat false)=true):=λi hi h=>List.any_eq_true.2 ⟨l.getD i 0,by rw[aS _ i (by omega)];exact List.getElem_mem _,h⟩
 have b2:Hid ((∀i,i<n->E.getD (l.getD i 0).toNat false=false)->l.any (λx=>E.getD x.toNat false)=false):=λh=>by rw[List.any_eq_false];intro x hx;obtain⟨i,hi,e⟩:=List.getElem_of_mem hx;have:=h i (by omega);rw[aS _ i hi,e]at this;rw[this];exact Bool.false_ne_true
 clear hb he hs hl hL
 go_enter func152,ntmps152
 go_wp2
 go_loop[8] (λu=> ∃k:Nat,k<=n/\u=.int .i64 k/\ ∀i,i<k->E.getD (l.getD i 0).toNat false=false) (λu=>n-(intOf u).toNat)
 case atStart=>exact⟨0,by omega,rfl,λi hi=>by omega⟩
 case round=>
  obtain⟨k,hk,rfl,a2⟩:=hrel
  have HN:=aj a2
  clear a2
  by_cases U:k<n
  ·have a7:(k:Int)<(n:Int):=by omega
   obtain⟨b1,o1,rfl,b3⟩:=bH HS.out k U
   have hr:=b0.out k U
   obtain⟨s,hs⟩: ∃s:Nat,l.getD k 0=s:=⟨(l.getD k 0).toNat,by omega⟩
   have HY:=aj (a6.out k U)
   have HX:Hid (E.getD (l.getD k 0).toNat false=E.getD s false):=by show _=_;rw[hs];rfl
   rw[HX.out]at HY
   rw[hs]at b3 hr
   have Z:=aj (H1.out s (by omega))
   clear hs hr
   cases hq:E.getD s false with
   |true=>
    rw[hq]at Z
    have b4:=aj (HY.out hq)
    clear HY
    go_wp2_with (go_at_call 150;refine Z.out.mono ?_;rintro e w' ⟨rfl,rfl⟩)
    go_ret
    exact⟨(k:Int),rfl,by rw[b4.out];exact yT (Int.natCast_nonneg k),rfl⟩
   |false=>
    rw[hq]at Z HX
    go_wp2_with (go_at_call 150;refine Z.out.mono ?_;rintro e w' ⟨rfl,rfl⟩)
    go_round
    case rel=>exact⟨k+1,by omega,by go_num,λi hi=>by
     rcases Nat.lt_or_ge i k with h|h
     ·exact HN.out i h
     ·have:i=k:=by omega
      subst this;exact HX.out⟩
    case measure=>simp[intOf];omega
  ·have a7: ¬(k:Int)<(n:Int):=by omega
   obtain rfl:k=n:=by omega
   have HF:=aj (b2.out HN.out)
   go_wp2
   go_ret
   exact⟨-1,rfl,(show decide ((0:Int)<= -1)=_ from HF.out.symm),rfl⟩
theorem Eo(B:Nat)(a':zO)(U z:Nat)(E:zB)(J:zO)(n c:Nat)(l:zI)(w:zW)(hb:w.cell? ⟨B,3,none⟩=some (.slice a' U z))(Z:mR w a' U E)(hs:Sl w J n l)(hl: ∀x∈l,0<=x/\x<(U:Int)):
  Calls prog 149 #[.slice J n c,.func (.func 150) #[] #[.pointer (some ⟨B,0,none⟩)]] w (XD (.bool (l.any λx=>E.getD x.toNat false)) w):=by
 have H:=aj (KO B a' U z E J n c l w hb Z hs hl)
 unfold aj0 at H
 clear hb Z hs hl
 generalize l.any (λx=>E.getD x.toNat false)=q at H
 go_enter func149,ntmps149
 go_wp2_with (go_at_call 152;refine H.out.mono ?_;rintro e w' ⟨i,rfl,hi,rfl⟩;have HI:=aj hi;clear hi)
 go_ret
 exact⟨by rw[show q=decide (0<=i)from HI.out.symm];rfl,rfl⟩
def adI(q:Bool)(w:zW)(e:Ending)(w':zW):Prop:=e=.returned (.bool q)/\Below w.heap.size w w'
theorem U4(b t:Int)(a:zO)(n cap:Nat)(a':zO)(J z:Nat)(E:zB)(Z:zO)(M c:Nat)(w:zW)(he:mR w a' J E)(hk:n<=J)(hs:Sl w Z (bV n M).length (bV n M)):
  Calls prog 139 #[.agg #[.int .i64 b,.int .i64 t,.slice a n cap,.slice a' J z],.slice Z (bV n M).length c] w (adI (vM n E M) w):=by
 have U:Hid (Below w.heap.size w (w.alloc (.cells #[.int .i64 b,.int .i64 t,.slice a n cap,.slice a' J z] 35))):=zb.alloc zr _
 have h4:=Hl (w:=w) (v0:=.int .i64 b) (v1:=.int .i64 t) (v2:=.slice a n cap) (v3:=.slice a' J z) (T:=35) zb
 have H:=aj (Eo w.heap.size a' J z E Z (bV n M).length c (bV n M) _ h4.2.2.2 (bD he U.out) (aF hs U.out) (λx hx=>by have:=iA.1 hx;omega))
 unfold XD at H
 rw[adH]at H
 clear he hs h4
 generalize a1:w.alloc (.cells #[.int .i64 b,.int .i64 t,.slice a n cap,.slice a' J z] 35)=wb at U H
 go_enter func139,ntmps139
 go_wp2_with (go_at_call 149;refine H.out.mono ?_;rintro e w' ⟨rfl,rfl⟩)
 go_ret
 exact⟨rfl,U.out⟩
end Go.Proofs.YtceojneljnnooaaGreat
