import Derived.Test.YtceojneljnnooaaGreatZLb
import Derived.Test.YtceojneljnnooaaGreatZMp
open Go.Proofs.Tryz
namespace Go.Proofs.YtceojneljnnooaaGreat
open Go.RowKit
set_option maxHeartbeats 0
set_option maxRecDepth 100000
set_option linter.all false
variable{N:zL}{z:zI}{m n:Nat}
def og(N:zL)(z:zI):zL:=N.map λr=>z.map λx=>r.getD x.toNat 0
def Nt(m:Nat)(z:zI):Prop:= ∀x∈z,0<=x/\x<(m:Int)
def rV(z:zI)(w:zI):zI:=w.map λx=>z.getD x.toNat 0
theorem P9(N:zL)(z:zI):(og N z).length=N.length:=by simp[og]
theorem Qa{s:Nat}(hs:s<N.length)(z:zI):(og N z).getD s []=z.map λx=>(N.getD s []).getD x.toNat 0:=by simp[og,List.getD,hs]
theorem Ih(h:Nt m z){j:Nat}(J:j<z.length):0<=z.getD j 0/\z.getD j 0<(m:Int):=h _ (by rw[aS _ j J];exact List.getElem_mem J)
theorem Ii(hG:aK m n N){s j:Nat}(hs:s<n)(J:j<z.length):((og N z).getD s []).getD j 0=(N.getD s []).getD (z.getD j 0).toNat 0:=by rw[Qa (by rw[hG.1];exact hs)];simp[List.getD,J]
theorem xM(hG:aK m n N)(Z:Nt m z)(h1:1<=z.length)(J:z.length<=36):aK z.length n (og N z):=by
 refine⟨by rw[P9];exact hG.1,hG.2.1,hG.2.2.1,J,h1,λs hs=>⟨?_,λj U=>?_⟩⟩
 ·rw[Qa (by rw[hG.1];exact hs)];simp
 ·rw[Ii hG hs U];have:=Ih Z U;exact(hG.2.2.2.2.2 s hs).2 _ (by omega)
theorem Ij{w:zI}(J:Nt m z)(U:fA z.length w):fA m (rV z w):=by intro x hx;obtain⟨y,Z,rfl⟩:=List.mem_map.1 hx;have:=U y Z;exact Ih J (by omega)
theorem Nu(hG:aK m n N)(Z:Nt m z)(h1:1<=z.length)(U:z.length<=36)(w:zI)(J:fA z.length w):bR (og N z) w=bR N (rV z w):=by
 induction w using bB with
 |h0=>rfl
 |h1 w x ih=>
  rw[lF]at J
  have hr:=jr (xM hG Z h1 U) w J.1
  have e:rV z (w++[x])=rV z w++[z.getD x.toNat 0]:=by simp[rV]
  rw[e,dF,dF,<-ih J.1]
  unfold fC
  rw[Ii hG hr (by omega)]
theorem ah6(hG:aK m n N)(U:Nt m z)(h1:1<=z.length)(J:z.length<=36)(E:zB)(w:zI)(Z:fA z.length w):gP (og N z) E w=gP N E (rV z w):=by unfold gP;rw[Nu hG U h1 J w Z]
theorem TP(b:Int)(h2:b<=6)(t:Nat)(l:Int):bM b (t+1) l=bM b t (l/au b)++[l%au b]:=by
 have z:=dA b h2;unfold bM;rw[List.range_succ,List.map_append];congr 1
 ·apply List.map_congr_left
  intro i hi;rw[List.mem_range]at hi;unfold pW;have e:l/au b/pw (au b) (t-1-i)=l/pw (au b) (t-1-i+1):=by rw[rY,Int.ediv_ediv,yN (by omega),Int.sub_zero,Int.mul_comm]
  rw[show t+1-1-i=t-1-i+1 by omega,e]
 ·simp[pW,pw]
theorem Av(b:Int)(h2:b<=6)(t:Nat)(l:Int)(h0:0<=l)(z:l<pw (au b) t):fF b (bM b t l)=l:=by
 have U:=dA b h2;induction t generalizing l with
 |zero=>
  simp[pw]at z
  simp[bM,fF]
  omega
 |succ t J=>
  rw[TP b h2,Ap,J (l/au b) (Int.ediv_nonneg h0 (by omega)) (by rw[rY]at z;exact Int.ediv_lt_of_lt_mul (by omega) z),Int.mul_comm]
  exact Int.mul_ediv_add_emod l (au b)
theorem BU(b:Int)(h2:b<=6)(t:Nat)(l:Int)(j:Nat)(z:j<(bM b t l).length):0<=(bM b t l).getD j 0/\(bM b t l).getD j 0<au b:=by rw[bF]at z;rw[lT b t l j z];exact nX b h2 t l j
theorem Aw(b:Int)(h2:b<=6)(z:zI)(J: ∀j,j<z.length->0<=z.getD j 0/\z.getD j 0<au b):bM b z.length (fF b z)=z:=by
 apply List.ext_getElem
 ·rw[bF]
 ·intro i h1 h3;rw[<-aS _ i h1,<-aS _ i h3,lT b _ _ i h3,Ig b h2 z J i h3]
theorem Gm(b:Int)(h2:b<=6)(z:zI)(J: ∀j,j<z.length->0<=z.getD j 0/\z.getD j 0<au b):0<=fF b z/\fF b z<pw (au b) z.length:=by have:=BF b h2 z z.length zr J;rwa [List.take_length]at this
def iL(b:Int)(tr:Nat)(at_:zI)(l:Int):zI:=at_.map λi=>pW b tr l i.toNat
def iD(b:Int)(tr:Nat)(at_:zI)(n:Nat):zI:=(List.range n).map λl:Nat=>fF b (iL b tr at_ (l:Int))
theorem Ik(b:Int)(h2:b<=6)(tr:Nat)(at_:zI)(l:Int)(j:Nat)(z:j<(iL b tr at_ l).length):0<=(iL b tr at_ l).getD j 0/\(iL b tr at_ l).getD j 0<au b:=by unfold iL at z⊢;rw[List.length_map]at z;rw[aS _ j (by rw[List.length_map];exact z),List.getElem_map];exact nX b h2 tr l _
theorem DC(b:Int)(h2:b<=6)(tr:Nat)(at_:zI)(n m:Nat)(hm:pw (au b) at_.length=(m:Int)):Nt m (iD b tr at_ n):=by intro x hx;obtain⟨l,-,rfl⟩:=List.mem_map.1 hx;have:=Gm b h2 (iL b tr at_ (l:Int)) (Ik b h2 tr at_ l);rw[show(iL b tr at_ (l:Int)).length=at_.length by simp[iL],hm]at this;exact this
theorem Ay(b:Int)(tr:Nat)(at_:zI)(n:Nat):(iD b tr at_ n).length=n:=by simp[iD]
theorem Il(b:Int)(tr:Nat)(at_:zI){x:Int}(h0:0<=x)(hx:x<(n:Int)):(iD b tr at_ n).getD x.toNat 0=fF b (iL b tr at_ x):=by
 have z:x.toNat<n:=by omega
 simp only[iD,List.getD,List.getElem?_map,List.getElem?_range z,Option.map_some,Option.getD_some];rw[show((x.toNat:Nat):Int)=x by omega]
def zY(b:Int)(tr:Nat)(t:Nat)(x l:Int):zI:=(bM b tr l).take t++[x]++(bM b tr l).drop t
theorem Qb{b:Int}{tr t:Nat}(z:t<=tr)(x l:Int):(zY b tr t x l).length=tr+1:=by unfold zY;simp[bF];omega
theorem Wj(b:Int)(h2:b<=6){tr t:Nat}{x:Int}(hx:0<=x/\x<au b)(l:Int)(j:Nat)(J:j<(zY b tr t x l).length):0<=(zY b tr t x l).getD j 0/\(zY b tr t x l).getD j 0<au b:=by
 have hm:(zY b tr t x l).getD j 0∈zY b tr t x l:=by rw[aS _ j J];exact List.getElem_mem J
 have z: ∀y∈bM b tr l,0<=y/\y<au b:=λy U=>by obtain⟨i,hi,rfl⟩:=List.getElem_of_mem U;have:=BU b h2 tr l i hi;rwa [aS _ i hi]at this
 unfold zY at hm;rcases List.mem_append.1 hm with h|h
 ·rcases List.mem_append.1 h with h|h
  ·exact z _ (List.mem_of_mem_take h)
  ·rw[List.mem_singleton]at h;unfold zY;rw[h];exact hx
 ·exact z _ (List.mem_of_mem_drop h)
end Go.Proofs.YtceojneljnnooaaGreat
