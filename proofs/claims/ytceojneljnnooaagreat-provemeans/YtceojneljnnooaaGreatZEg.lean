import Derived.Test.YtceojneljnnooaaGreatZAx
import Derived.Test.YtceojneljnnooaaGreatEe
open Go.Proofs.Tryz
namespace Go.Proofs.YtceojneljnnooaaGreat
open Go.RowKit
set_option maxHeartbeats 0
set_option maxRecDepth 100000
set_option linter.all false
variable{N A B R N2 z MN:zL}{b t c how t1 t2 more:Int}{m k tr n tk s mu ma l mb j i:Nat}{E EA EB ME:zB}{O C w x y J nums v at_:zI}{LA LB:zI->Bool}{p P:Int × Int}{W W':zW}{a:zO}{d:Nat->Nat->Nat}
def EZ(b:Int)(tr t:Nat)(l:Int):zI:=(List.range (au b).toNat).map λx:Nat=>fF b (zY b tr t (x:Int) l)
theorem abS{w:zW}{ad:zO}{len:Nat}{l:zI}(h:Sl w ad len l){t:Nat}(z:t<=len):Sl w ad t (l.take t):=by
 obtain⟨h1,h2,h3,h4⟩:=h;refine⟨by rw[List.length_take];omega,by omega,λx hx=>h3 x (List.mem_of_mem_take hx),?_⟩;rcases h4 with h4|⟨b,o,rfl,hc⟩
 ·exact .inl (by omega)
 ·refine .inr ⟨b,o,rfl,λi hi=>?_⟩;rw[hc i (by omega)];simp[List.getD,hi]
theorem LC(h:aU b ((tr:Int)+1)=0):aU b (tr:Int)=0/\aD b (tr:Int)=pw (au b) tr/\1<=aD b (tr:Int)/\aD b (tr:Int)<=36/\pw (au b) (tr+1)=aD b ((tr:Int)+1)/\tr<=4/\1<=b/\b<=6:=by
 obtain⟨h1,h2,h3,h4,h5,z⟩:=bA h;have U:=dA b h2;rw[show((tr:Int)+1).toNat=tr+1 by omega]at h5 z;have Z:=vG (au b) U.1 tr;have J:pw (au b) tr<=36:=by rw[rY]at h5;have:=Int.mul_le_mul_of_nonneg_left (show(1:Int)<=au b by omega) (show 0<=pw (au b) tr by omega);omega
 have hc:aU b (tr:Int)=0:=by rw[Yv h1 h2 (by omega) (by omega),Int.toNat_natCast,yP J]
 have hm:aD b (tr:Int)=pw (au b) tr:=by have:=(bA hc).2.2.2.2.2;rwa [Int.toNat_natCast]at this
 exact⟨hc,hm,by omega,by omega,z.symm,by omega,h1,h2⟩
theorem DK{J:zL}{m mu:Nat}(Z: ∀l,l<mu-> ∀x∈J.getD l [],0<=x/\x<(m:Int)): ∀{w v:zI},fA mu w->rz J w v->fA m v
 |[],[],_,_=>λ_ h=>by cases h
 |x::w,y::v,hw,h=>λz U=>by
  rcases List.mem_cons.1 U with rfl|U
  ·have:=hw x (by simp);exact Z x.toNat (by omega) z h.1
  ·exact DK Z (λq hq=>hw q (by simp[hq])) h.2 z U
 |[],_::_,_,h=>h.elim
 |_::_,[],_,h=>h.elim
theorem Fa(N:zL)(z v:zI):ny N (bR N z) v=bR N (z++v):=by rw[rZ];rfl
theorem zi(hG:aK m n N)(hs:s<n)(hv:fA m v):ny N s v<n:=by
 induction v generalizing s with
 |nil=>exact hs
 |cons x v z=>exact z (lV hG s hs x (hv x (by simp))).1 (λy J=>hv y (by simp[J]))
theorem abT(h:fA m v)(k:Nat):fA m (v.take k):=λx hx=>h x (List.mem_of_mem_take hx)
theorem ajM(hG:aK m n N)(E:zB){J:zL}{Z:zI}(hr: ∀l,l<mu-> ∀x∈J.getD l [],0<=x/\x<(m:Int))(hl: ∀x∈Z,0<=x/\x<(m:Int))(hw:fA mu w):
  vM n E (fZ (dM N n J) (kI N n Z) w)=true↔ ∃z v,(∀x∈z,x∈Z)/\rz J w v/\gP N E (z++v)=true:=by
 have a1: ∀z:zI,(∀x∈z,x∈Z)->bR N z<n:=λz U=>by have:=yV hG z z.length zr (λj hj=>hl _ (U _ (by rw[aS _ j hj];exact List.getElem_mem _)));rwa [List.take_length]at this
 rw[PU]
 constructor
 ·rintro⟨t,ht,he,hb⟩
  obtain⟨-,s,v,h1,h2,-,h4⟩:=(PV w _ (vP _ _ _) t).1 hb
  obtain⟨z,U,rfl⟩:=(oV hG hl).1 h1
  refine⟨z,v,U,h2,?_⟩
  unfold gP
  rw[<-Fa,h4]
  exact he
 ·rintro⟨z,v,U,h2,h3⟩
  have hv:=DK hr hw h2
  have hs:=a1 z U
  refine⟨ny N (bR N z) v,zi hG hs hv,?_,(PV w _ (vP _ _ _) _).2 ⟨zi hG hs hv,bR N z,v,(oV hG hl).2 ⟨z,U,rfl⟩,h2,λk _=>zi hG hs (abT hv k),rfl⟩⟩
  rw[Fa]
  exact h3
def sM(b:Int)(tr tk mu:Nat):zL:=(List.range mu).map λl:Nat=>EZ b tr tk (l:Int)
theorem uI(b:Int)(tr tk mu:Nat):(sM b tr tk mu).length=mu:=by simp[sM]
theorem zm(z:l<mu):(sM b tr tk mu).getD l []=EZ b tr tk (l:Int):=by simp[sM,List.getD,z]
theorem Ca(h2:b<=6)(z:tk<=tr)(hm:pw (au b) (tr+1)=(m:Int))(l:Int): ∀x∈EZ b tr tk l,0<=x/\x<(m:Int):=by intro x hx;obtain⟨y,J,rfl⟩:=List.mem_map.1 hx;have U:=dA b h2;have:=Gm b h2 (zY b tr tk (y:Int) l) (Wj b h2 ⟨by omega,by have:=List.mem_range.1 J;omega⟩ l);rwa [Qb z,hm]at this
theorem Qi(h2:b<=6)(z:tk<=tr)(hm:pw (au b) (tr+1)=(m:Int)): ∀l,l<mu-> ∀x∈(sM b tr tk mu).getD l [],0<=x/\x<(m:Int):=by intro l J;rw[zm J];exact Ca h2 z hm _
def jy(N:zL)(n:Nat)(z:zL)(J:zI):List Nat:=aM (dM N n z) z.length (kI N n J) 2000
def Cb(N:zL)(n:Nat)(z:zL)(J:zI):zL:=gN (dM N n z) z.length (jy N n z J)
def FM(N:zL)(n:Nat)(E:zB)(z:zL)(J:zI):zB:=gE (vM n E) (jy N n z J)
theorem Fb(h:(jy N n z J).length<=2000):ku (dM N n z) z.length (jy N n z J):=kP h
theorem Az(N:zL)(n:Nat)(z:zL)(J:zI):0<(jy N n z J).length/\(jy N n z J).getD 0 0=kI N n J:=nA _ _ _ _
theorem YX(h:(jy N n z J).length<=2000)(h1:1<=z.length)(U:z.length<=36):aK z.length (jy N n z J).length (Cb N n z J):=sH (Fb h) (Az _ _ _ _).1 (by omega) h1 U
theorem afZ(h:(jy N n z J).length<=2000)(w:zI)(U:fA z.length w):gP (Cb N n z J) (FM N n E z J) w=vM n E (fZ (dM N n z) (kI N n J) w):=by rw[<-(Az N n z J).2];exact Ic (Fb h) (Az _ _ _ _).1 w U
def smR(b t tk:Int):zL:=sM b (t.toNat-1) tk.toNat (aD b (t-1)).toNat
def Ny(b t tk:Int)(N:zL)(E:zB):List Nat:=jy (aV N E (aD b t).toNat) (bE N E (aD b t).toNat) (smR b t tk) ((smR b t tk).getD 0 [])
def mX(b t tk:Int)(N:zL)(E:zB):zL:=Cb (aV N E (aD b t).toNat) (bE N E (aD b t).toNat) (smR b t tk) ((smR b t tk).getD 0 [])
def oZ(b t tk:Int)(N:zL)(E:zB):zB:=FM (aV N E (aD b t).toNat) (bE N E (aD b t).toNat) (aY N E (aD b t).toNat) (smR b t tk) ((smR b t tk).getD 0 [])
def Ww(b t:Int)(N:zL)(k:Nat)(tk:Int):Int:=if bP b t N k=0 then(if 0<=tk/\tk<t then 0 else 1)else bP b t N k
def IG(b t:Int)(N:zL)(E:zB)(k:Nat)(tk:Int):Int:=if Ww b t N k tk=0 then(if 2000<(Ny b t tk N E).length then 3 else 0)else Ww b t N k tk
def sN(b t:Int)(N:zL)(E:zB)(k:Nat)(tk:Int):Int:=if IG b t N E k tk=0 then(if 80<bE (mX b t tk N E) (oZ b t tk N E) (aD b (t-1)).toNat then 3 else 0)else IG b t N E k tk
def Cc(b t:Int)(N:zL)(E:zB)(k:Nat)(tk:Int):zL:=if sN b t N E k tk=0 then aV (mX b t tk N E) (oZ b t tk N E) (aD b (t-1)).toNat else[]
def FN(b t:Int)(N:zL)(E:zB)(k:Nat)(tk:Int):zB:=if sN b t N E k tk=0 then aY (mX b t tk N E) (oZ b t tk N E) (aD b (t-1)).toNat else[]
theorem abU{tk:Int}(h:Ww b t N k tk=0):bP b t N k=0/\0<=tk/\tk<t:=by
 unfold Ww at h;split at h
 ·split at h
  ·exact⟨by assumption,by omega,by omega⟩
  ·cases h
 ·rename_i h1;exact absurd h h1
theorem uJ{tk:Int}(h:IG b t N E k tk=0):Ww b t N k tk=0/\(Ny b t tk N E).length<=2000:=by
 unfold IG at h;split at h
 ·split at h
  ·cases h
  ·exact⟨by assumption,by omega⟩
 ·rename_i h1;exact absurd h h1
theorem xR{tk:Int}(h:sN b t N E k tk=0):IG b t N E k tk=0/\bE (mX b t tk N E) (oZ b t tk N E) (aD b (t-1)).toNat<=80:=by
 unfold sN at h;split at h
 ·split at h
  ·cases h
  ·exact⟨by assumption,by omega⟩
 ·rename_i h1;exact absurd h h1
structure rC (b:Int) (tr tk:Nat) (N:zL) (E:zB) (m mu:Nat):Prop where
 base:1<=b/\b<=6
 tracks:tr<=4/\tk<=tr
 good:aK m N.length N
 many:pw (au b) (tr+1)=(m:Int)
 few:pw (au b) tr=(mu:Int)
 Fe:1<=mu/\mu<=36
 code:aU b (tr:Int)=0
 mU:(aD b ((tr:Int)+1)).toNat=m
 fU:aD b (tr:Int)=(mu:Int)
 n80:N.length<=80
theorem Gp(E:zB){tk:Int}(h:Ww b t N k tk=0): ∃tr z m mu:Nat,t=(tr:Int)+1/\tk=(z:Int)/\k=N.length/\rC b tr z N E m mu:=by obtain⟨Z,h0,h1⟩:=abU h;obtain⟨a1,hk,hG,b0⟩:=bS Z;have J:=eH Z;obtain⟨tr,rfl⟩: ∃tr:Nat,t=(tr:Int)+1:=⟨(t-1).toNat,by omega⟩;obtain⟨z,rfl⟩: ∃z:Nat,tk=(z:Int):=⟨tk.toNat,by omega⟩;obtain⟨hM,a2,b1,b2,a6,U,a7,a8⟩:=LC a1;refine⟨tr,z,(aD b ((tr:Int)+1)).toNat,(aD b (tr:Int)).toNat,rfl,rfl,hk,⟨⟨a7,a8⟩,⟨U,by omega⟩,hG,by rw[a6];omega,by rw[<-a2];omega,by omega,hM,rfl,by omega,J⟩⟩
theorem TV(h:aD b (tr:Int)=(mu:Int)):smR b ((tr:Int)+1) (tk:Int)=sM b tr tk mu:=by unfold smR;rw[show((tr:Int)+1).toNat-1=tr by omega,show(tr:Int)+1-1=(tr:Int)by omega,h,Int.toNat_natCast,Int.toNat_natCast]
def abV(b:Int)(tr tk mu:Nat)(N:zL)(E:zB)(w:zI):Prop:= ∃z v,(∀x∈z,x∈EZ b tr tk 0)/\rz (sM b tr tk mu) w v/\gP N E (z++v)=true
theorem af0(H:rC b tr tk N E m mu)(h:(Ny b ((tr:Int)+1) (tk:Int) N E).length<=2000)(U:fA mu w):
  gP (mX b ((tr:Int)+1) (tk:Int) N E) (oZ b ((tr:Int)+1) (tk:Int) N E) w=true↔abV b tr tk mu N E w:=by
 have hR:=TV (tk:=tk) H.fU
 have hz:(sM b tr tk mu).getD 0 []=EZ b tr tk 0:=zm (by have:=H.Fe;omega)
 have Z:=fE H.good E
 unfold Ny at h
 unfold mX oZ
 rw[hR,hz,H.mU]at h⊢
 rw[afZ h w (by rw[uI];exact U),ajM Z (aY N E m) (Qi H.base.2 H.tracks.2 H.many) (Ca H.base.2 H.tracks.2 H.many 0) U]
 have J: ∀z v,(∀x∈z,x∈EZ b tr tk 0)->rz (sM b tr tk mu) w v->fA m (z++v):=λz v h1 h2=>gG.2 ⟨λx hx=>Ca H.base.2 H.tracks.2 H.many 0 x (h1 x hx),DK (Qi H.base.2 H.tracks.2 H.many) U h2⟩
 constructor
 ·rintro⟨z,v,h1,h2,h3⟩
  exact⟨z,v,h1,h2,by rw[<-jN H.good E _ (J z v h1 h2)];exact h3⟩
 ·rintro⟨z,v,h1,h2,h3⟩
  exact⟨z,v,h1,h2,by rw[jN H.good E _ (J z v h1 h2)];exact h3⟩
theorem Gq(H:rC b tr tk N E m mu)(h:(Ny b ((tr:Int)+1) (tk:Int) N E).length<=2000):aK mu (Ny b ((tr:Int)+1) (tk:Int) N E).length (mX b ((tr:Int)+1) (tk:Int) N E):=by have z:=TV (tk:=tk) H.fU;unfold Ny at h⊢;unfold mX;have:=YX h (by rw[z,uI];exact H.Fe.1) (by rw[z,uI];exact H.Fe.2);rw[z,uI]at this;rw[z];exact this
theorem uK(w:zI)(x:Int):bI (w++[x])=if bI w=[]then(if x=0 then[]else[x])else bI w++[x]:=by
 unfold bI;induction w with
 |nil=>
  by_cases h:x=0
  ·simp[h]
  ·simp[h]
 |cons y w z=>
  by_cases h:y=0
  ·subst h;simpa using z
  ·simp[h]
theorem DL(h:fA m w):fA m (bI w):=λy z=>h y ((List.dropWhile_sublist _).subset z)
theorem rD(z:aU b t=0)(hG:aK (aD b t).toNat n N)(J:n<=80):bP b t N n=0:=by have h1:=hG.1;have h2:=hG.2.1;unfold bP;rw[yP z,yN (by omega),yN (by omega),yP (by omega)];exact yU λj U=>by have:=hG.2.2.2.2.2 j (by omega);exact yR this.1 (by rw[h1];exact this.2)
def mY(b:Int)(tr tk:Nat)(y:Int):Int:=fF b ((bM b (tr+1) y).eraseIdx tk)
theorem Qj{z:zI}(tk:Nat)(h: ∀j,j<z.length->0<=z.getD j 0/\z.getD j 0<au b): ∀j,j<(z.eraseIdx tk).length->0<=(z.eraseIdx tk).getD j 0/\(z.eraseIdx tk).getD j 0<au b:=by
 intro j J;have hm:(z.eraseIdx tk).getD j 0∈z:=by rw[aS _ j J];exact(List.eraseIdx_sublist z tk).subset (List.getElem_mem J)
 obtain⟨i,hi,e⟩:=List.getElem_of_mem hm;rw[<-e,<-aS _ i hi];exact h i hi
theorem YZ(J:tk<=tr)(x l:Int):(zY b tr tk x l).eraseIdx tk=bM b tr l:=by
 unfold zY;have z:((bM b tr l).take tk).length=tk:=by rw[List.length_take,bF];omega
 rw[List.append_assoc,List.eraseIdx_append_of_length_le (by omega),z,Nat.sub_self];simp
theorem af2(h2:b<=6)(J:tk<=tr)(z:pw (au b) tr=(mu:Int))(y:Int):0<=mY b tr tk y/\mY b tr tk y<(mu:Int):=by have:=Gm b h2 ((bM b (tr+1) y).eraseIdx tk) (Qj tk (BU b h2 (tr+1) y));rw[List.length_eraseIdx_of_lt (by rw[bF];omega),bF,show tr+1-1=tr by omega,z]at this;exact this
theorem zn(h2:b<=6)(U:tk<=tr)(hm:pw (au b) (tr+1)=(m:Int))(hf:pw (au b) tr=(mu:Int)){y l:Int}(Z:0<=l/\l<(mu:Int)):y∈EZ b tr tk l↔(0<=y/\y<(m:Int))/\mY b tr tk y=l:=by
 have a1:=dA b h2;constructor
 ·intro h;refine⟨Ca h2 U hm l y h,?_⟩;obtain⟨x,hx,rfl⟩:=List.mem_map.1 h;have a2:=List.mem_range.1 hx;unfold mY;have e:=Aw b h2 (zY b tr tk (x:Int) l) (Wj b h2 ⟨by omega,by omega⟩ l);rw[Qb U]at e;rw[e,YZ U,Av b h2 tr l Z.1 (by rw[hf];exact Z.2)]
 ·rintro⟨hy,rfl⟩
  have hlen:((bM b (tr+1) y).eraseIdx tk).length=tr:=by rw[List.length_eraseIdx_of_lt (by rw[bF];omega),bF];omega
  have e:=Aw b h2 ((bM b (tr+1) y).eraseIdx tk) (Qj tk (BU b h2 (tr+1) y));rw[hlen]at e;have hd:=BU b h2 (tr+1) y tk (by rw[bF];omega);refine List.mem_map.2 ⟨((bM b (tr+1) y).getD tk 0).toNat,List.mem_range.2 (by omega),?_⟩;rw[show((((bM b (tr+1) y).getD tk 0).toNat:Nat):Int)=(bM b (tr+1) y).getD tk 0 by omega];have hp:zY b tr tk ((bM b (tr+1) y).getD tk 0) (mY b tr tk y)=bM b (tr+1) y:=by unfold zY mY;rw[e];have z:tk<(bM b (tr+1) y).length:=(by rw[bF];omega);generalize bM b (tr+1) y=J at z;rw[List.eraseIdx_eq_take_drop_succ,List.take_append_of_le_length (by rw[List.length_take];omega),List.take_take,Nat.min_self,List.drop_append_of_le_length (by rw[List.length_take];omega)];rw[show List.drop tk (List.take tk J)=[]by rw[List.drop_eq_nil_iff,List.length_take];omega];rw[List.nil_append,aS _ tk z,List.append_assoc];show J.take tk++(J[tk]::J.drop (tk+1))=J;rw[<-List.drop_eq_getElem_cons z,List.take_append_drop]
  rw[hp,Av b h2 (tr+1) y hy.1 (by rw[hm];exact hy.2)]
theorem AA{b:Int}(h2:b<=6){tr tk m mu:Nat}(J:tk<=tr)(hm:pw (au b) (tr+1)=(m:Int))(U:pw (au b) tr=(mu:Int)): ∀{w v:zI},fA mu w->(rz (sM b tr tk mu) w v↔fA m v/\v.map (mY b tr tk)=w)
 |[],[],_=>by simp[rz,fA]
 |x::w,y::v,Z=>by
  have hx:=Z x (by simp);have ih:=AA h2 J hm U (w:=w) (v:=v) (λq z=>Z q (by simp[z]));show(y∈(sM b tr tk mu).getD x.toNat []/\rz (sM b tr tk mu) w v)↔_;rw[zm (by omega),show((x.toNat:Nat):Int)=x by omega,zn h2 J hm U hx,ih];constructor
  ·rintro⟨⟨h3,h4⟩,h5,h6⟩
   refine⟨λq z=>?_,by rw[List.map_cons,h4,h6]⟩;rcases List.mem_cons.1 z with rfl|z
   ·exact h3
   ·exact h5 q z
  ·rintro⟨h3,h4⟩;rw[List.map_cons,List.cons.injEq]at h4;exact⟨⟨h3 y (by simp),h4.1⟩,λq z=>h3 q (by simp[z]),h4.2⟩
 |[],_::_,_=>by simp[rz]
 |_::_,[],_=>by simp[rz]
theorem LD(H:rC b tr tk N E m mu)(J:fA mu w):abV b tr tk mu N E w↔ ∃u,fA m u/\gP N E u=true/\ ∃j,u.map (mY b tr tk)=List.replicate j 0++w:=by
 have h0:(0:Int)<=0/\(0:Int)<(mu:Int):=by have:=H.Fe;omega
 constructor
 ·rintro⟨z,v,h1,h2,h3⟩;obtain⟨h4,h5⟩:=(AA H.base.2 H.tracks.2 H.many H.few J).1 h2;have U: ∀x∈z,(0<=x/\x<(m:Int))/\mY b tr tk x=0:=λx hx=>(zn H.base.2 H.tracks.2 H.many H.few h0).1 (h1 x hx);refine⟨z++v,gG.2 ⟨λx hx=>(U x hx).1,h4⟩,h3,z.length,?_⟩;rw[List.map_append,h5];congr 1;have:z.map (mY b tr tk)=z.map (λ_=>0):=List.map_congr_left λx hx=>(U x hx).2;rw[this,List.map_const']
 ·rintro⟨u,h1,h2,j,h3⟩
  have hl:u.length=j+w.length:=by have:=congrArg List.length h3;simpa using this
  have Z:(u.take j).map (mY b tr tk)=List.replicate j 0:=by rw[List.map_take,h3,List.take_append_of_le_length (by simp)];simp
  have e2:(u.drop j).map (mY b tr tk)=w:=by rw[List.map_drop,h3,List.drop_append_of_le_length (by simp)];simp
  refine⟨u.take j,u.drop j,λx hx=>(zn H.base.2 H.tracks.2 H.many H.few h0).2 ⟨h1 x (List.mem_of_mem_take hx),?_⟩,(AA H.base.2 H.tracks.2 H.many H.few J).2 ⟨λx hx=>h1 x (List.mem_of_mem_drop hx),e2⟩,by rw[List.take_append_drop];exact h2⟩;have:mY b tr tk x∈(u.take j).map (mY b tr tk):=List.mem_map_of_mem hx;rw[Z]at this;exact(List.mem_replicate.1 this).2
theorem abW(H:rC b tr tk N E m mu)(h:sN b ((tr:Int)+1) N E k (tk:Int)=0)(z:fA mu w):
  gP (Cc b ((tr:Int)+1) N E k (tk:Int)) (FN b ((tr:Int)+1) N E k (tk:Int)) w=true↔abV b tr tk mu N E w:=by
 obtain⟨U,hK⟩:=xR h
 obtain⟨-,J⟩:=uJ U
 have hG:=Gq H J
 unfold Cc FN
 rw[yP h,yP h,show(tr:Int)+1-1=(tr:Int)by omega,H.fU,Int.toNat_natCast,jN hG _ _ z,af0 H J z]
theorem abX(H:rC b tr tk N E m mu)(h:sN b ((tr:Int)+1) N E k (tk:Int)=0):
  bP b (tr:Int) (Cc b ((tr:Int)+1) N E k (tk:Int)) (Cc b ((tr:Int)+1) N E k (tk:Int)).length=0/\(FN b ((tr:Int)+1) N E k (tk:Int)).length=(Cc b ((tr:Int)+1) N E k (tk:Int)).length/\aK mu (Cc b ((tr:Int)+1) N E k (tk:Int)).length (Cc b ((tr:Int)+1) N E k (tk:Int)):=by
 obtain⟨J,hK⟩:=xR h
 obtain⟨-,U⟩:=uJ J
 have hG:=Gq H U
 have e:(tr:Int)+1-1=(tr:Int):=by omega
 rw[e,H.fU,Int.toNat_natCast]at hK
 unfold Cc FN
 rw[yP h,yP h,e,H.fU,Int.toNat_natCast]
 have z:=fE hG (oZ b ((tr:Int)+1) (tk:Int) N E)
 refine⟨?_,by rw[aZ,fM],by rw[aZ];exact z⟩
 rw[aZ]
 exact rD H.code (by rw[H.fU,Int.toNat_natCast];exact z) hK
theorem abY(h2:b<=6)(tr tk:Nat):mY b tr tk 0=0:=by
 have Z:=dA b h2;unfold mY;have hs: ∀x∈(bM b (tr+1) 0).eraseIdx tk,x=0:=λx hx=>by have:=(List.eraseIdx_sublist _ tk).subset hx;simp only[bM,List.mem_map]at this;obtain⟨i,_,rfl⟩:=this;simp[pW]
 generalize(bM b (tr+1) 0).eraseIdx tk=z at hs;induction z using bB with
 |h0=>rfl
 |h1 z x J=>
  have e:fF b (z++[x])=fF b z*au b+x:=by simp[fF,List.foldl_append]
  rw[e,J (λy U=>hs y (by simp[U])),hs x (by simp)]
  simp
theorem Fg(w:zI): ∃j,w=List.replicate j 0++bI w:=by
 unfold bI;induction w with
 |nil=>exact⟨0,rfl⟩
 |cons x w z=>
  by_cases h:x=0
  ·subst h
   obtain⟨j,e⟩:=z
   refine⟨j+1,?_⟩
   rw[List.replicate_succ,List.cons_append]
   simp only[List.dropWhile_cons,BEq.rfl,if_true]
   rw[<-e]
  ·exact⟨0,by simp[h]⟩
theorem TW(j:Nat)(w:zI):bI (List.replicate j 0++w)=bI w:=by
 induction j with
 |zero=>rfl
 |succ j _=>rw[List.replicate_succ,List.cons_append];unfold bI;simp
theorem adr(hG:aK m n N){z:zI}(J: ∀x∈z,0<=x/\x<(m:Int)):(kI N n z).testBit 0=true:=(oV hG J).2 ⟨[],by simp,rfl⟩
def dB(w:zW)(b t:Int)(N:zL)(E:zB)(c:Int)(e:Ending)(w':zW):Prop:=
 ∃a ca a' iC,e=.returned (.tuple #[.agg #[.int .i64 b,.int .i64 t,.slice a N.length ca,.slice a' N.length iC],bC c])/\dS w a N.length N a' E w'/\Below w.heap.size w w'
theorem Uj(b t:Int)(a:zO)(n cap:Nat)(a':zO)(k J:Nat)(b2 t2:Int)(a2:zO)(n2 U:Nat)(Z:zO)(k2 z:Nat)(how:Int)(w:zW)(hh:how<0\/15<how):
  Calls prog 113 #[.agg #[.int .i64 b,.int .i64 t,.slice a n cap,.slice a' k J],.agg #[.int .i64 b2,.int .i64 t2,.slice a2 n2 U,.slice Z k2 z],.int .i64 how] w (dB w 0 0 [] [] 1):=by
 have HB:=aj (eT w (.cells #[.int .i64 b,.int .i64 t,.slice a n cap,.slice a' k J] 35) (.cells #[.int .i64 b2,.int .i64 t2,.slice a2 n2 U,.slice Z k2 z] 35) (.cells #[.int .i64 0,.int .i64 0,.slice none 0 0,.slice none 0 0] 35))
 have a1:=aj (@oW w _ (.int .i64 b) (.int .i64 t) (.slice a n cap) (.slice a' k J) (.int .i64 b2) (.int .i64 t2) (.slice a2 n2 U) (.slice Z k2 z) 35 (.cells #[.int .i64 0,.int .i64 0,.slice none 0 0,.slice none 0 0] 35) zb).1
 go_enter func113,ntmps113
 by_cases h0:how<0
 ·have a6:decide (how<0)=true:=by simpa using h0
  go_wp2
  obtain⟨⟨z0,z1,z2,z3⟩,-⟩:=aC a1.out
  exact bodyPost_ret (v:=.tuple #[.agg #[.int .i64 0,.int .i64 0,.slice none 0 0,.slice none 0 0],.iface 45 (.int .i64 1)]) (by simp[results,results113,go_sem,z0,z1,z2,z3]) rfl ⟨none,0,none,0,rfl,dD _ _,HB.out⟩
 ·have h1:16<=how:=by omega
  have a6:decide (how<0)=false:=by simpa using h0
  go_wp2
  obtain⟨⟨z0,z1,z2,z3⟩,-⟩:=aC a1.out
  exact bodyPost_ret (v:=.tuple #[.agg #[.int .i64 0,.int .i64 0,.slice none 0 0,.slice none 0 0],.iface 45 (.int .i64 1)]) (by simp[results,results113,go_sem,z0,z1,z2,z3]) rfl ⟨none,0,none,0,rfl,dD _ _,HB.out⟩
theorem agb(b t:Int)(a:zO)(n cap:Nat)(a':zO)(k J:Nat)(N:zL)(E:zB)(b2 t2:Int)(a2:zO)(n2 U:Nat)(Z:zO)(k2 z:Nat)(N2:zL)(E2:zB)(how:Int)(w:zW)(hs:gT w a n N)(he:mR w a' k E)(a7:gT w a2 n2 N2)(a8:mR w Z k2 E2)(h0:0<=how)(b6:how<=15)(hC:iG b t N k b2 t2 N2 k2≠0):
  Calls prog 113 #[.agg #[.int .i64 b,.int .i64 t,.slice a n cap,.slice a' k J],.agg #[.int .i64 b2,.int .i64 t2,.slice a2 n2 U,.slice Z k2 z],.int .i64 how] w (dB w 0 0 [] [] (iG b t N k b2 t2 N2 k2)):=by
 have hB:=eT w (.cells #[.int .i64 b,.int .i64 t,.slice a n cap,.slice a' k J] 35) (.cells #[.int .i64 b2,.int .i64 t2,.slice a2 n2 U,.slice Z k2 z] 35) (.cells #[.int .i64 0,.int .i64 0,.slice none 0 0,.slice none 0 0] 35)
 have HB:=aj hB
 have a1:=aj (sK b t a n cap a' k J b2 t2 a2 n2 U Z k2 z N N2 _ (aG hs hB) he.2.1 (aG a7 hB) a8.2.1)
 have b0:=aj (λw'=>@oW w w' (.int .i64 b) (.int .i64 t) (.slice a n cap) (.slice a' k J) (.int .i64 b2) (.int .i64 t2) (.slice a2 n2 U) (.slice Z k2 z) 35 (.cells #[.int .i64 0,.int .i64 0,.slice none 0 0,.slice none 0 0] 35))
 clear hs he a7 a8 hB
 unfold dB
 rw[dx hC]at a1⊢
 generalize iG b t N k b2 t2 N2 k2=c at a1⊢
 obtain⟨-,b1⟩:=b0.out _ zb
 obtain⟨⟨p0,p1,p2,p3⟩,q0,q1,q2,q3⟩:=jw b1
 have b7:decide (how<0)=false:=by simp;omega
 have b8: ¬16<=how:=by omega
 clear b1
 go_enter func113,ntmps113
 go_wp2_with fail
 refine a1.out.mono ?_
 rintro e w1 ⟨rfl,a6⟩
 obtain⟨hr,-⟩:=b0.out w1 a6
 obtain⟨⟨r0,r1,r2,r3⟩,rf⟩:=aC hr
 have HR:=aj hr
 have b5:=aj (ak HB.out a6)
 clear hr a6 p0 p1 p2 p3 q0 q1 q2 q3
 go_wp2
 obtain⟨⟨b3,-,-⟩,b4⟩:=eF HR.out rfl
 obtain⟨⟨z0,z1,z2,z3⟩,-⟩:=aC b3
 exact bodyPost_ret (v:=.tuple #[.agg #[.int .i64 0,.int .i64 0,.slice none 0 0,.slice none 0 0],.iface 45 (.int .i64 c)]) (by simp[results,results113,go_sem,z0,z1,z2,z3]) rfl ⟨none,0,none,0,rfl,dD _ _,b4 _ _ b5.out (by omega)⟩
def acs(w:zW)(b t:Int)(LN:zL)(J:zB)(z:Nat)(e:Ending)(w':zW):Prop:=(z<=80->dB w b t LN J 0 e w')/\(80<z->dB w 0 0 [] [] 3 e w')
theorem agc(b t:Int)(a:zO)(n cap:Nat)(a':zO)(Z:Nat)(N:zL)(E:zB)(a2:zO)(z a1:Nat)(a7:zO)(J:Nat)(N2:zL)(E2:zB)(how:Int)(w:zW)(hs:gT w a n N)(he:mR w a' n E)(c0:gT w a2 z N2)(c6:mR w a7 z E2)(h0:0<=how)(f0:how<=15)(hC:iG b t N n b t N2 z=0):
  Calls prog 113 #[.agg #[.int .i64 b,.int .i64 t,.slice a n cap,.slice a' n Z],.agg #[.int .i64 b,.int .i64 t,.slice a2 z a1,.slice a7 z J],.int .i64 how] w (acs w b t (aV (wW b t N N2) (rA how N N2 E E2) (aD b t).toNat) (aY (wW b t N N2) (rA how N N2 E E2) (aD b t).toNat) (IE b t how N N2 E E2)):=by
 obtain⟨c7,c8,-,-⟩:=xQ hC
 obtain⟨hM,-,hG,-⟩:=bS c7
 obtain⟨-,-,c3,-⟩:=bS c8
 have c9:=eH c7
 have b6:=eH c8
 have hL:=hs.1
 have d6:=c0.1
 rw[hL]at hG c9
 rw[d6]at c3 b6
 have hn:n*z<=4000000:=Nat.le_trans (Nat.mul_le_mul c9 b6) (by decide)
 have hB:=eT w (.cells #[.int .i64 b,.int .i64 t,.slice a n cap,.slice a' n Z] 35) (.cells #[.int .i64 b,.int .i64 t,.slice a2 z a1,.slice a7 z J] 35) (.cells #[.int .i64 0,.int .i64 0,.slice none 0 0,.slice none 0 0] 35)
 have HB:=aj hB
 have c4:=aj (sK b t a n cap a' n Z b t a2 z a1 a7 z J N N2 _ (aG hs hB) he.2.1 (aG c0 hB) c6.2.1)
 rw[dz hC]at c4
 have b1:=aj (λw'=>@oW w w' (.int .i64 b) (.int .i64 t) (.slice a n cap) (.slice a' n Z) (.int .i64 b) (.int .i64 t) (.slice a2 z a1) (.slice a7 z J) 35 (.cells #[.int .i64 0,.int .i64 0,.slice none 0 0,.slice none 0 0] 35))
 have b0:=aj (λW (h:Below _ _ W)=>xU b t a n cap a' Z (aD b t).toNat N E b t a2 z a1 a7 J N2 E2 how W (aG hs (ak hB h)) (bD he (ak hB h)) (aG c0 (ak hB h)) (bD c6 (ak hB h)) hG c3 hn h0 f0)
 unfold uG at b0
 have hP:=gW hG c3 hn
 have b2:=uM hP
 rw[<-xS hP]at b2
 have U:=aj (λax cx d0 d1 W h1 h2=>rF b t ax (dP (eU N N2 (aD b t).toNat)).length cx (aD b t).toNat (dP (eU N N2 (aD b t).toNat)) d0 d1 (jP (eU N N2 (aD b t).toNat) (jq how n z E E2)) W h1 h2 b2 (qR hM b2 (by have:=b2.2.2.1;omega)))
 obtain⟨e1,e2,e3⟩:=II hP (jq how n z E E2)
 unfold rE jX at U
 rw[e1,e2,e3]at U
 have d7:wW b t N N2=eU N N2 (aD b t).toNat:=rfl
 have d8:rA how N N2 E E2=jq how n z E E2:=by unfold rA;rw[hL,d6]
 unfold IE
 rw[d7,d8]
 clear hs he c0 c6 c7 c8 hC hM hG c3 c9 b6 hn hP b2 e1 e2 e3 d7 d8
 generalize dP (eU N N2 (aD b t).toNat)=CN at b0 U
 generalize jP (eU N N2 (aD b t).toNat) (jq how n z E E2)=CE at b0 U
 generalize aV (eU N N2 (aD b t).toNat) (jq how n z E E2) (aD b t).toNat=LN at U⊢
 generalize aY (eU N N2 (aD b t).toNat) (jq how n z E E2) (aD b t).toNat=LE at U⊢
 generalize bE (eU N N2 (aD b t).toNat) (jq how n z E E2) (aD b t).toNat=LK at U⊢
 generalize d9:((w.alloc (.cells #[.int .i64 b,.int .i64 t,.slice a n cap,.slice a' n Z] 35)).alloc (.cells #[.int .i64 b,.int .i64 t,.slice a2 z a1,.slice a7 z J] 35)).alloc (.cells #[.int .i64 0,.int .i64 0,.slice none 0 0,.slice none 0 0] 35)=wb at HB c4 b1 b0
 have e7:Hid (wb.heap.size=w.heap.size+3):=by show _=_;rw[<-d9];simp
 obtain⟨-,b3⟩:=b1.out wb zb
 obtain⟨⟨p0,p1,p2,p3⟩,q0,q1,q2,q3⟩:=jw b3
 have f5:decide (how<0)=false:=by simp;omega
 have f6: ¬16<=how:=by omega
 clear b3 hB
 go_enter func113,ntmps113
 go_wp2_with fail
 clear d9 p0 p1 p2 p3 q0 q1 q2 q3
 refine c4.out.mono ?_
 rintro e w1 ⟨rfl,d2⟩
 obtain⟨-,b3⟩:=b1.out w1 d2
 obtain⟨⟨p0,p1,p2,p3⟩,q0,q1,q2,q3⟩:=jw b3
 have e0:=aj d2
 clear d2 b3 c4
 go_wp2_with fail
 clear p0 p1 p2 p3 q0 q1 q2 q3
 refine(b0.out w1 e0.out).mono ?_
 rintro e w2 ⟨ax,cx,d0,d1,rfl,a6,e4⟩
 have b4:=aj (ak e0.out e4)
 have e5:=aj (U.out ax cx d0 d1 w2 a6.here.1 a6.here.2)
 clear a6 e4 b0 U
 go_wp2_with fail
 refine e5.out.mono ?_
 rintro e w3 ⟨b7,d3⟩
 clear e5
 by_cases hK:LK<=80
 ·obtain⟨ay,cy,b5,c5,rfl,a6,a8⟩:=b7 hK
  obtain⟨hr,-⟩:=b1.out w3 (ak b4.out a8)
  obtain⟨⟨r0,r1,r2,r3⟩,rf⟩:=aC hr
  have HR:=aj hr
  have d4:=aj (ak HB.out (ak b4.out a8))
  have e8:=aj a6
  have f1:=aj b4.out.size
  clear hr a8 b7 d3 a6
  go_wp2
  obtain⟨⟨b8,e6,d5⟩,b9⟩:=eO (v0:=.int .i64 b) (v1:=.int .i64 t) (v2:=.slice ay LN.length cy) (v3:=.slice b5 LN.length c5) HR.out rfl
  have e9:dS w ay LN.length LN b5 LE ((((w3.setCell ⟨w.heap.size+2,0,none⟩ (.int .i64 b)).setCell ⟨w.heap.size+2,1,none⟩ (.int .i64 t)).setCell ⟨w.heap.size+2,2,none⟩ (.slice ay LN.length cy)).setCell ⟨w.heap.size+2,3,none⟩ (.slice b5 LN.length c5)):=λW' f2=>e8.out W' (λx hx f3=>by have h1:=f1.out;have h2:=e7.out;rw[f2 x (by omega) (by rw[e6];exact f3),d5 x (by omega)])
  have hb:=b9 w w.heap.size d4.out (by omega)
  obtain⟨⟨z0,z1,z2,z3⟩,-⟩:=aC b8
  exact bodyPost_ret (v:=.tuple #[.agg #[.int .i64 b,.int .i64 t,.slice ay LN.length cy,.slice b5 LN.length c5],.nilIface]) (by simp[results,results113,go_sem,z0,z1,z2,z3]) rfl ⟨λ_=>⟨ay,cy,b5,c5,rfl,e9,hb⟩,λh=>by omega⟩
 ·obtain⟨rfl,a8⟩:=d3 (by omega)
  obtain⟨hr,-⟩:=b1.out w3 (ak b4.out a8)
  obtain⟨⟨r0,r1,r2,r3⟩,rf⟩:=aC hr
  have HR:=aj hr
  have d4:=aj (ak HB.out (ak b4.out a8))
  clear hr a8 b7 d3
  go_wp2
  obtain⟨⟨b8,e6,d5⟩,b9⟩:=eF HR.out rfl
  have hb:=b9 w w.heap.size d4.out (by omega)
  obtain⟨⟨z0,z1,z2,z3⟩,-⟩:=aC b8
  exact bodyPost_ret (v:=.tuple #[.agg #[.int .i64 0,.int .i64 0,.slice none 0 0,.slice none 0 0],.iface 45 (.int .i64 3)]) (by simp[results,results113,go_sem,z0,z1,z2,z3]) rfl ⟨λh=>by omega,λ_=>⟨none,0,none,0,rfl,dD _ _,hb⟩⟩
theorem aii(b t:Int)(a:zO)(n cap:Nat)(a':zO)(k a1:Nat)(N:zL)(E:zB)(U Z:Int)(a2:zO)(n2 a6:Nat)(a7:zO)(k2 J:Nat)(N2:zL)(z:zB)(how:Int)(w:zW)(hs:gT w a n N)(he:mR w a' k E)(a8:gT w a2 n2 N2)(b0:mR w a7 k2 z):
  Calls prog 113 #[.agg #[.int .i64 b,.int .i64 t,.slice a n cap,.slice a' k a1],.agg #[.int .i64 U,.int .i64 Z,.slice a2 n2 a6,.slice a7 k2 J],.int .i64 how] w (dB w (bK (iX how b t N E k U Z N2 z k2) b) (bK (iX how b t N E k U Z N2 z k2) t) (kE how b t N E k U Z N2 z k2) (lu how b t N E k U Z N2 z k2) (iX how b t N E k U Z N2 z k2)):=by
 by_cases hh:0<=how/\how<=15
 ·by_cases hC:iG b t N k U Z N2 k2=0
  ·obtain⟨b1,b3,rfl,rfl⟩:=xQ hC
   obtain rfl:k=n:=by rw[(bS b1).2.1,hs.1]
   obtain rfl:k2=n2:=by rw[(bS b3).2.1,a8.1]
   refine(agc b t a k cap a' a1 N E a2 k2 a6 a7 J N2 z how w hs he a8 b0 hh.1 hh.2 hC).mono ?_
   rintro e w' ⟨h1,h2⟩
   by_cases hK:IE b t how N N2 E z<=80
   ·have hc:iX how b t N E k b t N2 z k2=0:=by unfold iX;rw[yP hh,yP hC,yP hK]
    unfold kE lu bK
    rw[hc,yP rfl,yP rfl,yP rfl,yP rfl]
    exact h1 hK
   ·have hc:iX how b t N E k b t N2 z k2=3:=by unfold iX;rw[yP hh,yP hC,yN hK]
    unfold kE lu bK
    rw[hc,yN (by decide),yN (by decide),yN (by decide),yN (by decide)]
    exact h2 (by omega)
  ·have hc:=@YW b t N k U Z N2 k2 how E z hh.1 hh.2 hC
   unfold kE lu bK
   rw[hc,yN hC,yN hC,yN hC,yN hC]
   exact agb b t a n cap a' k a1 N E U Z a2 n2 a6 a7 k2 J N2 z how w hs he a8 b0 hh.1 hh.2 hC
 ·have hc:iX how b t N E k U Z N2 z k2=1:=by unfold iX;rw[yN hh]
  unfold kE lu bK
  rw[hc,yN (by decide),yN (by decide),yN (by decide),yN (by decide)]
  exact Uj b t a n cap a' k a1 U Z a2 n2 a6 a7 k2 J how w (by omega)
theorem LU{J U:Int}{z:zB}{k2:Nat}(hc:iX how b t N E k J U N2 z k2=0):
  (0<=how/\how<=15)/\J=b/\U=t/\bP b t N k=0/\bP b t N2 k2=0/\bP b t (kE how b t N E k J U N2 z k2) (kE how b t N E k J U N2 z k2).length=0/\(lu how b t N E k J U N2 z k2).length=(kE how b t N E k J U N2 z k2).length/\
   ∀w,fA (aD b t).toNat w->gP (kE how b t N E k J U N2 z k2) (lu how b t N E k J U N2 z k2) w=xG how (gP N E w) (gP N2 z w):=by
 have hN:kE how b t N E k J U N2 z k2=aV (wW b t N N2) (rA how N N2 E z) (aD b t).toNat:=by unfold kE;rw[yP hc]
 have a7:lu how b t N E k J U N2 z k2=aY (wW b t N N2) (rA how N N2 E z) (aD b t).toNat:=by unfold lu;rw[yP hc]
 rw[hN,a7]
 unfold iX at hc
 split at hc
 ·rename_i hh
  split at hc
  ·rename_i hC
   split at hc
   ·rename_i hK
    obtain⟨Z,a1,rfl,rfl⟩:=xQ hC
    obtain⟨hM,b0,hG,-⟩:=bS Z
    obtain⟨-,b1,a2,-⟩:=bS a1
    have a8:=eH Z
    have a6:=eH a1
    have hn:N.length*N2.length<=4000000:=Nat.le_trans (Nat.mul_le_mul a8 a6) (by decide)
    have hP:=gW hG a2 hn
    have hL:=fE hP (rA how N N2 E z)
    refine⟨hh,rfl,rfl,Z,a1,?_,by rw[aZ,fM],λw hw=>?_⟩
    ·have:=jk hM hL hK
     rwa [<-aZ]at this
    ·exact V7 hG a2 hn how E z w hw
   ·cases hc
  ·rename_i hC
   exact absurd hc hC
 ·cases hc
def pq(b:Int)(tr:Nat)(x y:Int):Bool:=(List.range tr).any λk=>decide (b=1)&&decide (pW b tr x k=1)&&decide (pW b tr y k=1)
def arT(b:Int)(tr m s l:Nat):Nat:=if s=m+1 then m+1 else if 0<s/\pq b tr ((s:Int)-1) (l:Int)=true then m+1 else l+1
def SK(b:Int)(tr m:Nat):zL:=(List.range (m+2)).map λs=>(List.range m).map λl=>((arT b tr m s l:Nat):Int)
def arE(m:Nat):zB:=(List.range (m+2)).map λs=>decide (s<=m)
theorem agd(b:Int)(tr m:Nat):(SK b tr m).length=m+2:=by simp[SK]
theorem WB(hs:s<m+2):(SK b tr m).getD s []=(List.range m).map λl=>((arT b tr m s l:Nat):Int):=by simp[SK,List.getD,hs]
theorem IW(hs:s<m+2)(z:l<m):((SK b tr m).getD s []).getD l 0=((arT b tr m s l:Nat):Int):=by rw[WB hs];simp[List.getD,z]
theorem Gt(hs:s<m+2):(arE m).getD s false=decide (s<=m):=by simp[arE,List.getD,hs]
theorem acu(z:l<m):arT b tr m s l<m+2:=by unfold arT;split;omega;split<;>omega
theorem WC(b:Int)(tr:Nat)(h1:1<=m)(z:m<=36):aK m (m+2) (SK b tr m):=by refine⟨agd _ _ _,by omega,by omega,z,h1,λs hs=>⟨by rw[WB hs];simp,λj J=>?_⟩⟩;rw[IW hs J];have:=acu (b:=b) (tr:=tr) (s:=s) J;omega
def fJ(b:Int)(tr:Nat):zI->Bool
 |x::y::r=>pq b tr x y||fJ b tr (y::r)
 |_=>false
theorem qF(b:Int)(tr:Nat)(w:zI)(x y:Int):fJ b tr (w++[x]++[y])=(fJ b tr (w++[x])||pq b tr x y):=by
 induction w with
 |nil=>simp[fJ]
 |cons z w U=>
  cases w with
  |nil=>simp[fJ]
  |cons J w=>
   show(pq b tr z J||fJ b tr (J::w++[x]++[y]))=_
   rw[U]
   show _=((pq b tr z J||fJ b tr (J::w++[x]))||pq b tr x y)
   rw[Bool.or_assoc]
theorem NG(hs:s<m+2){x:Int}(hx:0<=x/\x<(m:Int)):fC (SK b tr m) s x=arT b tr m s x.toNat:=by unfold fC;rw[IW hs (by omega),Int.toNat_natCast]
theorem aij(w:zI):fA m w->(fJ b tr w=true->bR (SK b tr m) w=m+1)/\(fJ b tr w=false->(w=[]/\bR (SK b tr m) w=0)\/ ∃v x,w=v++[x]/\bR (SK b tr m) w=x.toNat+1):=by
 induction w using bB with
 |h0=>exact λ_=>⟨λh=>by simp[fJ]at h,λ_=>.inl ⟨rfl,rfl⟩⟩
 |h1 w y ih=>
  intro hw
  obtain⟨U,a2⟩:=gG.1 hw
  have hy:=a2 y (by simp)
  obtain⟨i1,i2⟩:=ih U
  rw[dF]
  by_cases hb:fJ b tr w=true
  ·rw[i1 hb,NG (by omega) hy]
   have a1:fJ b tr (w++[y])=true:=by
    cases w using bB with
    |h0=>simp[fJ]at hb
    |h1 v z _=>rw[qF,hb];rfl
   refine⟨λ_=>by unfold arT;rw[yP rfl],λh=>by rw[a1]at h;cases h⟩
  ·have Z:fJ b tr w=false:=by simpa using hb
   rcases i2 Z with⟨rfl,h0⟩|⟨v,x,rfl,h1⟩
   ·rw[h0,NG (by omega) hy]
    refine⟨λh=>by simp[fJ]at h,λ_=>.inr ⟨[],y,rfl,?_⟩⟩
    unfold arT
    rw[yN (by omega),yN (by omega)]
   ·have hx:=U x (by simp)
    rw[h1,NG (by omega) hy,qF,Z,Bool.false_or]
    have e1:((x.toNat+1:Nat):Int)-1=x:=by omega
    have e2:((y.toNat:Nat):Int)=y:=by omega
    unfold arT
    rw[yN (by omega),e1,e2]
    by_cases J:pq b tr x y=true
    ·rw[yP ⟨by omega,J⟩]
     exact⟨λ_=>rfl,λh=>by rw[J]at h;cases h⟩
    ·rw[yN (λh=>J h.2)]
     exact⟨λh=>absurd h J,λ_=>.inr ⟨v++[x],y,rfl,rfl⟩⟩
theorem ajO(z:fA m w):gP (SK b tr m) (arE m) w= !fJ b tr w:=by
 obtain⟨h1,h2⟩:=aij (b:=b) (tr:=tr) w z;unfold gP;cases hb:fJ b tr w with
 |true=>
  rw[h1 hb,Gt (by omega)]
  simp
 |false=>
  rcases h2 hb with⟨_,h0⟩|⟨v,x,rfl,J⟩
  ·rw[h0,Gt (by omega)];simp
  ·have hx:=z x (by simp)
   rw[J,Gt (by omega)]
   simp;omega
theorem Zd(w:zI)(x y:Int):iV (w++[x]++[y])=(iV (w++[x])||(x==1&&y==1)):=by
 induction w with
 |nil=>simp[iV]
 |cons z w U=>
  cases w with
  |nil=>simp[iV]
  |cons J w=>
   show((z==1&&J==1)||iV (J::w++[x]++[y]))=_
   rw[U]
   show _=(((z==1&&J==1)||iV (J::w++[x]))||(x==1&&y==1))
   rw[Bool.or_assoc]
theorem zq(ht:t=(tr:Int))(w:zI):(!fJ b tr w)=dU b t w:=by
 subst ht
 have U:fJ b tr w=(List.range tr).any λk=>decide (b=1)&&iV (bT b tr w k):=by
  induction w using bB with
  |h0=>simp[fJ,bT,iV]
  |h1 w y ih=>
   cases w using bB with
   |h0=>simp[fJ,bT,iV]
   |h1 v x _=>
    rw[qF,ih]
    have e: ∀k,iV (bT b tr (v++[x]++[y]) k)=(iV (bT b tr (v++[x]) k)||(pW b tr x k==1&&pW b tr y k==1)):=λk=>by have:=Zd (bT b tr v k) (pW b tr x k) (pW b tr y k);simpa[bT,List.map_append]using this
    rw[Bool.eq_iff_iff,Bool.or_eq_true]
    unfold pq
    simp only[List.any_eq_true,Bool.and_eq_true,decide_eq_true_eq,e,Bool.or_eq_true,beq_iff_eq]
    constructor
    ·rintro(⟨k,h1,h2,h3⟩|⟨k,h1,⟨h2,h3⟩,h4⟩)
     ·exact⟨k,h1,h2,.inl h3⟩
     ·exact⟨k,h1,h2,.inr ⟨h3,h4⟩⟩
    ·rintro⟨k,h1,h2,h3|⟨h3,h4⟩⟩
     ·exact .inl ⟨k,h1,h2,h3⟩
     ·exact .inr ⟨k,h1,⟨h2,h3⟩,h4⟩
 rw[U];unfold dU BS iF;rw[Int.toNat_natCast,Bool.eq_iff_iff];simp only[Bool.not_eq_true',List.all_map,List.all_eq_true,Function.comp,Bool.or_eq_true,bne_iff_ne,ne_eq];rw[<-Bool.not_eq_true,List.any_eq_true];constructor
 ·intro h k z
  by_cases hb:b=1
  ·refine .inr ?_
   cases Z:iV (bT b tr w k)with
   |false=>rfl
   |true=>exact absurd ⟨k,z,by simp[hb]at Z⊢;exact Z⟩ h
  ·exact .inl hb
 ·rintro h ⟨k,z,J⟩
  rw[Bool.and_eq_true,decide_eq_true_eq]at J;rcases h k z with h1|h1
  ·exact h1 J.1
  ·rw[J.2]at h1;cases h1
def iE(b t:Int):zL:=if aU b t=0 then aV (SK b t.toNat (aD b t).toNat) (arE (aD b t).toNat) (aD b t).toNat else[]
def nM(b t:Int):zB:=if aU b t=0 then aY (SK b t.toNat (aD b t).toNat) (arE (aD b t).toNat) (aD b t).toNat else[]
structure aik (b t:Int) (m:Nat) (MN:zL) (ME:zB):Prop where
 auto:bP b t MN MN.length=0
 len:ME.length=MN.length
 good:aK m MN.length MN
 many:(aD b t).toNat=m
 least:aV MN ME m=MN/\aY MN ME m=ME
 lang: ∀w,fA m w->gP MN ME w=dU b t w
theorem fQ(h:aU b t=0):1<=(aD b t).toNat/\(aD b t).toNat<=36:=by obtain⟨h1,h2,h3,h4,h5,z⟩:=bA h;have J:=dA b h2;have U:1<=pw (au b) t.toNat:=vG _ (by omega) _;omega
theorem kF(h:aU b t=0):aik b t (aD b t).toNat (iE b t) (nM b t):=by
 obtain⟨m1,Z⟩:=fQ h;obtain⟨h1,h2,h3,h4,h5,h6⟩:=bA h;have hG:=WC b t.toNat m1 Z;have J:=fE hG (arE (aD b t).toNat);have hK:=uq hG (arE (aD b t).toNat) (by omega);have z:iE b t=aV (SK b t.toNat (aD b t).toNat) (arE (aD b t).toNat) (aD b t).toNat:=by unfold iE;rw[yP h]
 have U:nM b t=aY (SK b t.toNat (aD b t).toNat) (arE (aD b t).toNat) (aD b t).toNat:=by unfold nM;rw[yP h]
 refine⟨?_,by rw[z,U,aZ,fM],by rw[z,aZ];exact J,rfl,by rw[z,U];exact jC hG _,λw hw=>?_⟩
 ·rw[z,aZ];exact rD h J hK
 ·rw[z,U,jN hG _ w hw,ajO hw];exact zq (by omega) w
def KF(how b t:Int)(N:zL)(E:zB)(k:Nat):Int:=if bP b t N k=0 then iX how b t N E k b t (iE b t) (nM b t) (iE b t).length else bP b t N k
def Qx(how b t:Int)(N:zL)(E:zB)(k:Nat):zL:=if bP b t N k=0 then kE how b t N E k b t (iE b t) (nM b t) (iE b t).length else[]
def Qy(how b t:Int)(N:zL)(E:zB)(k:Nat):zB:=if bP b t N k=0 then lu how b t N E k b t (iE b t) (nM b t) (iE b t).length else[]
theorem acv(H:rC b tr tk N E m mu)(h:sN b ((tr:Int)+1) N E k (tk:Int)=0):
  aV (Cc b ((tr:Int)+1) N E k (tk:Int)) (FN b ((tr:Int)+1) N E k (tk:Int)) mu=Cc b ((tr:Int)+1) N E k (tk:Int)/\aY (Cc b ((tr:Int)+1) N E k (tk:Int)) (FN b ((tr:Int)+1) N E k (tk:Int)) mu=FN b ((tr:Int)+1) N E k (tk:Int):=by
 obtain⟨z,hK⟩:=xR h
 obtain⟨-,J⟩:=uJ z
 have hG:=Gq H J
 unfold Cc FN
 rw[yP h,yP h,show(tr:Int)+1-1=(tr:Int)by omega,H.fU,Int.toNat_natCast]
 exact jC hG _
theorem Uk{z J:Int}{U:zB}{k2:Nat}(hc:iX how b t N E k z J N2 U k2=0):
  aV (kE how b t N E k z J N2 U k2) (lu how b t N E k z J N2 U k2) (aD b t).toNat=kE how b t N E k z J N2 U k2/\aY (kE how b t N E k z J N2 U k2) (lu how b t N E k z J N2 U k2) (aD b t).toNat=lu how b t N E k z J N2 U k2:=by
 obtain⟨-,rfl,rfl,Z,a1,-⟩:=LU hc
 obtain⟨hM,a7,hG,-⟩:=bS Z
 obtain⟨-,a8,a2,-⟩:=bS a1
 have hn:N.length*N2.length<=4000000:=Nat.le_trans (Nat.mul_le_mul (eH Z) (eH a1)) (by decide)
 have hP:=gW hG a2 hn
 have hN:kE how z J N E k z J N2 U k2=aV (wW z J N N2) (rA how N N2 E U) (aD z J).toNat:=by unfold kE;rw[yP hc]
 have a6:lu how z J N E k z J N2 U k2=aY (wW z J N N2) (rA how N N2 E U) (aD z J).toNat:=by unfold lu;rw[yP hc]
 rw[hN,a6]
 exact jC hP _
theorem zu(x y:Bool):xG 8 x y=(x&&y):=by cases x<;>cases y<;>rfl
theorem Qz(x y:Bool):xG 4 x y=(!x&&y):=by cases x<;>cases y<;>rfl
structure ail (how b t:Int) (N:zL) (E:zB) (m:Nat) (MN:zL) (ME:zB):Prop where
 auto:bP b t MN MN.length=0
 len:ME.length=MN.length
 good:aK m MN.length MN
 many:(aD b t).toNat=m
 least:aV MN ME m=MN/\aY MN ME m=ME
 lang: ∀w,fA m w->gP MN ME w=xG how (gP N E w) (dU b t w)
theorem acw(h:KF how b t N E k=0):bP b t N k=0/\iX how b t N E k b t (iE b t) (nM b t) (iE b t).length=0/\Qx how b t N E k=kE how b t N E k b t (iE b t) (nM b t) (iE b t).length/\Qy how b t N E k=lu how b t N E k b t (iE b t) (nM b t) (iE b t).length:=by
 unfold KF at h;by_cases z:bP b t N k=0
 ·rw[yP z]at h;unfold Qx Qy;rw[yP z,yP z];exact⟨z,h,rfl,rfl⟩
 ·rw[yN z]at h;exact absurd h z
theorem WE(h:KF how b t N E k=0):ail how b t N E (aD b t).toNat (Qx how b t N E k) (Qy how b t N E k):=by obtain⟨hA,hB,J,U⟩:=acw h;obtain⟨hM,-,-,-⟩:=bS hA;have hL:=kF hM;obtain⟨-,-,-,-,-,Z,h7,h8⟩:=LU hB;have z:=Uk hB;rw[<-J]at Z z;rw[<-U]at z;rw[<-J,<-U]at h7;obtain⟨-,-,hG,-⟩:=bS Z;refine⟨Z,h7,hG,rfl,z,λw hw=>?_⟩;rw[J,U,h8 w hw,hL.lang w hw]
theorem ajP(h0:0<=how/\how<=15)(z:bP b t N k=0)(hG:aK (aD b t).toNat MN.length MN)(a7:MN.length<=80)(hl:aV MN ME (aD b t).toNat=MN/\aY MN ME (aD b t).toNat=ME)(U: ∀w,fA (aD b t).toNat w->gP MN ME w=xG how (gP N E w) (dU b t w)):
  KF how b t N E k=0/\Qx how b t N E k=MN/\Qy how b t N E k=ME:=by
 obtain⟨hM,hk,a1,-⟩:=bS z
 have a2:=eH z
 have J:=kF hM
 have a6:=eH J.auto
 have hn:N.length*(iE b t).length<=4000000:=Nat.le_trans (Nat.mul_le_mul a2 a6) (by decide)
 have hP:=gW a1 J.good hn
 have same:=kM hP hG (rA how N (iE b t) E (nM b t)) ME (λw Z=>by show gP _ _ w=gP MN ME w;rw[U w Z,<-J.lang w Z];have h:=V7 a1 J.good hn how E (nM b t) w Z;rw[<-h];exact(jN hP _ w Z).symm)
 have hK:IE b t how N (iE b t) E (nM b t)=MN.length:=by show bE (wW b t N (iE b t)) (rA how N (iE b t) E (nM b t)) (aD b t).toNat=_;rw[<-aZ];have:aV (wW b t N (iE b t)) (rA how N (iE b t) E (nM b t)) (aD b t).toNat=MN:=same.1.trans hl.1;rw[this]
 have a8:iG b t N k b t (iE b t) (iE b t).length=0:=by unfold iG;rw[yP z,yP J.auto,yP ⟨rfl,rfl⟩]
 have hB:iX how b t N E k b t (iE b t) (nM b t) (iE b t).length=0:=by unfold iX;rw[yP h0,yP a8,yP (by rw[hK];exact a7)]
 unfold KF Qx Qy
 rw[yP z,yP z,yP z]
 refine⟨hB,?_,?_⟩
 ·unfold kE;rw[yP hB];exact same.1.trans hl.1
 ·unfold lu;rw[yP hB];exact same.2.trans hl.2
def iH(C:zI)(f:Nat->Int):Nat->Int
 |0=>0
 |k+1=>iH C f k+C.getD k 0*f k
def nN(x:Int):Int:=if x<0 then -x else x
def fT(C:zI):Nat->Int
 |0=>0
 |k+1=>fT C k+nN (C.getD k 0)
theorem WG(x:Int):0<=nN x:=by unfold nN;split<;>omega
theorem WH(C:zI)(k:Nat):0<=fT C k:=by
 induction k with
 |zero=>exact Int.le_refl 0
 |succ k z=>have:=WG (C.getD k 0);show 0<=fT C k+nN (C.getD k 0);omega
theorem DX(C:zI)(h:j<=k):fT C j<=fT C k:=by
 induction k with
 |zero=>
  obtain rfl:j=0:=by omega
  exact Int.le_refl _
 |succ k z=>
  by_cases e:j=k+1
  ·subst e;exact Int.le_refl _
  ·have:=z (by omega)
   have:=WG (C.getD k 0)
   show _<=fT C k+nN (C.getD k 0)
   omega
theorem agf(C:zI)(h:j<k):nN (C.getD j 0)<=fT C k:=by have h1:=DX C (show j+1<=k from h);have h2:=WH C j;have h3:fT C (j+1)=fT C j+nN (C.getD j 0):=rfl;omega
theorem acy{x y D:Int}(h0:0<=y)(h1:y<=D): -(nN x*D)<=x*y/\x*y<=nN x*D:=by
 unfold nN;by_cases h:x<0
 ·rw[yP h];have h2:x*D<=x*y:=Int.mul_le_mul_of_nonpos_left (by omega) h1;have h3:x*y<=0:=Int.mul_nonpos_of_nonpos_of_nonneg (by omega) h0;have h4: -x*D= -(x*D):=Int.neg_mul _ _;have h5:x*D<=0:=Int.mul_nonpos_of_nonpos_of_nonneg (by omega) (by omega);omega
 ·rw[yN h];have h2:x*y<=x*D:=Int.mul_le_mul_of_nonneg_left h1 (by omega);have h3:0<=x*y:=Int.mul_nonneg (by omega) h0;omega
theorem agh(C:zI)(f:Nat->Int)(D:Int)(k:Nat)(z: ∀i,i<k->0<=f i/\f i<=D): -(fT C k*D)<=iH C f k/\iH C f k<=fT C k*D:=by
 induction k with
 |zero=>simp[iH,fT]
 |succ k J=>
  have h1:=J (λi hi=>z i (by omega))
  have h2:=acy (x:=C.getD k 0) (z k (by omega)).1 (z k (by omega)).2
  have h3:fT C (k+1)*D=fT C k*D+nN (C.getD k 0)*D:=Int.add_mul _ _ _
  have h4:iH C f (k+1)=iH C f k+C.getD k 0*f k:=rfl
  rw[h3,h4]
  omega
def iT(b:Int)(C:zI)(l:Int):Int:=iH C (pW b C.length l) C.length
theorem NH(h2:b<=6)(z:fT C C.length<=12)(l:Int): -(12*(au b-1))<=iT b C l/\iT b C l<=12*(au b-1):=by
 have h:=agh C (pW b C.length l) (au b-1) C.length (λi _=>by have:=nX b h2 C.length l i;omega);have J:1<=au b-1:=by unfold au;split<;>omega
 have h3:fT C C.length*(au b-1)<=12*(au b-1):=Int.mul_le_mul_of_nonneg_right z (by omega);unfold iT;omega
def iM(b:Int)(p:Int × Int)(s:Int):Int × Int:=if b=1 then(p.1+p.2+s,p.1+s)else(p.1*b+s,0)
def Cg(b:Int)(p:Int × Int)(s:Int):Int × Int:=
 if p.1=108\/p.1= -108 then(p.1,0)else if 108<=(iM b p s).1 then(108,0)else if(iM b p s).1<= -108 then(-108,0)else iM b p s
def Ul(b:Int)(p:Int × Int):Prop:=(p.1=108/\p.2=0)\/(p.1= -108/\p.2=0)\/(-107<=p.1/\p.1<=107/\(b≠1->p.2=0)/\(b=1-> -272<=13*p.1-21*p.2/\13*p.1-21*p.2<=272))
theorem agi(h:Ul b p): -108<=p.1/\p.1<=108/\ -108<=p.2/\p.2<=108:=by
 rcases h with h|h|⟨h1,h2,h3,h4⟩
 ·omega
 ·omega
 ·by_cases hb:b=1
  ·have:=h4 hb;omega
  ·have:=h3 hb;omega
theorem QA{s:Int}(h:Ul b p)(hs:b=1-> -12<=s/\s<=12):Ul b (Cg b p s):=by
 unfold Cg;by_cases h0:p.1=108\/p.1= -108
 ·rw[yP h0]
  rcases h0 with h0|h0
  ·exact .inl ⟨h0,rfl⟩
  ·exact .inr (.inl ⟨h0,rfl⟩)
 ·rw[yN h0]
  by_cases h1:108<=(iM b p s).1
  ·rw[yP h1];exact .inl ⟨rfl,rfl⟩
  ·rw[yN h1]
   by_cases h2:(iM b p s).1<= -108
   ·rw[yP h2];exact .inr (.inl ⟨rfl,rfl⟩)
   ·rw[yN h2]
    refine .inr (.inr ⟨by omega,by omega,λhb=>?_,λhb=>?_⟩)
    ·unfold iM;rw[yN hb]
    ·have J:=hs hb
     unfold iM;rw[yP hb];rcases h with h|h|⟨h3,h4,h5,z⟩
     ·omega
     ·omega
     ·have:=z hb;show -272<=13*(p.1+p.2+s)-21*(p.1+s)/\13*(p.1+p.2+s)-21*(p.1+s)<=272;omega
def WI(b:Int)(p P:Int × Int):Prop:=(p=P/\Ul b p/\p.1≠108/\p.1≠ -108)\/(p=(108,0)/\108<=P.1/\(b=1->54<=P.2))\/(p=(-108,0)/\P.1<= -108/\(b=1->P.2<= -54))
theorem Um{s:Int}(h1:1<=b)(h:WI b p P)(hs: -(12*(au b-1))<=s/\s<=12*(au b-1)):WI b (Cg b p s) (iM b P s):=by
 have z:b=1-> -12<=s/\s<=12:=λhb=>by
  have:au b=2:=by unfold au;rw[yP (by omega)]
  omega
 have U:b≠1-> -(12*(b-1))<=s/\s<=12*(b-1):=λhb=>by
  have:au b=b:=by unfold au;split<;>omega
  rw[this]at hs;exact hs
 rcases h with⟨rfl,J,a1,a2⟩|⟨rfl,Z,hY⟩|⟨rfl,Z,hY⟩
 ·have hcut:=QA J z
  unfold Cg at hcut⊢;rw[yN (by omega)]at hcut⊢;by_cases c1:108<=(iM b p s).1
  ·rw[yP c1]
   refine .inr (.inl ⟨rfl,c1,λhb=>?_⟩);have:=z hb;unfold iM at c1⊢;rw[yP hb]at c1⊢;rcases J with h|h|⟨h3,h4,h5,h6⟩
   ·omega
   ·omega
   ·have:=h6 hb;change 108<=p.1+p.2+s at c1;show 54<=p.1+s;omega
  ·rw[yN c1]at hcut⊢
   by_cases c2:(iM b p s).1<= -108
   ·rw[yP c2]
    refine .inr (.inr ⟨rfl,c2,λhb=>?_⟩);have:=z hb;unfold iM at c2⊢;rw[yP hb]at c2⊢;rcases J with h|h|⟨h3,h4,h5,h6⟩
    ·omega
    ·omega
    ·have:=h6 hb;change p.1+p.2+s<= -108 at c2;show p.1+s<= -54;omega
   ·rw[yN c2]at hcut⊢;exact .inl ⟨rfl,hcut,by omega,by omega⟩
 ·have e:Cg b (108,0) s=(108,0):=by unfold Cg;rw[yP (.inl rfl)]
  rw[e];unfold iM;by_cases hb:b=1
  ·rw[yP hb];have:=z hb;have:=hY hb;exact .inr (.inl ⟨rfl,by show 108<=P.1+P.2+s;omega,λ_=>by show 54<=P.1+s;omega⟩)
  ·rw[yN hb];have:=U hb;refine .inr (.inl ⟨rfl,?_,λh=>absurd h hb⟩);show 108<=P.1*b+s;have h3:108*b<=P.1*b:=Int.mul_le_mul_of_nonneg_right Z (by omega);omega
 ·have e:Cg b (-108,0) s=(-108,0):=by unfold Cg;rw[yP (.inr rfl)]
  rw[e];unfold iM;by_cases hb:b=1
  ·rw[yP hb];have:=z hb;have:=hY hb;exact .inr (.inr ⟨rfl,by show P.1+P.2+s<= -108;omega,λ_=>by show P.1+s<= -54;omega⟩)
  ·rw[yN hb];have:=U hb;refine .inr (.inr ⟨rfl,?_,λh=>absurd h hb⟩);show P.1*b+s<= -108;have h3:P.1*b<= -108*b:=Int.mul_le_mul_of_nonneg_right Z (by omega);omega
def QB(p:Int × Int):Nat:=((p.1+108)*217+p.2+108).toNat
def xX(n:Nat):Int × Int:=(((n/217:Nat):Int)-108,((n%217:Nat):Int)-108)
theorem QC(h:Ul b p):xX (QB p)=p/\QB p<47089:=by
 have hb:=agi h;obtain⟨x,y⟩:=p;simp only at hb;have e:QB (x,y)=(x+108).toNat*217+(y+108).toNat:=by unfold QB;show((x+108)*217+y+108).toNat=_;omega
 refine⟨?_,by rw[e];omega⟩;unfold xX;rw[e];have h1:((x+108).toNat*217+(y+108).toNat)/217=(x+108).toNat:=by omega
 have h2:((x+108).toNat*217+(y+108).toNat)%217=(y+108).toNat:=by omega
 rw[h1,h2];ext
 ·show((x+108).toNat:Int)-108=x;omega
 ·show((y+108).toNat:Int)-108=y;omega
def lnD(b:Int)(C:zI)(s l:Nat):Nat:=QB (Cg b (xX s) (iT b C (l:Int)))
def nS(b:Int)(C:zI)(w:zI):Int × Int:=w.foldl (λp l=>iM b p (iT b C l)) (0,0)
theorem vV(b:Int)(C:zI)(w:zI)(l:Int):nS b C (w++[l])=iM b (nS b C w) (iT b C l):=by simp[nS,List.foldl_append]
theorem WJ(b:Int):Ul b (0,0):=.inr (.inr ⟨by decide,by decide,λ_=>rfl,λ_=>by decide⟩)
theorem NI:xX 23544=(0,0):=by decide
theorem acz(h1:1<=b)(h2:b<=6)(z:fT C C.length<=12)(w:zI):fA m w->Ul b (xX (fZ (lnD b C) 23544 w))/\WI b (xX (fZ (lnD b C) 23544 w)) (nS b C w)/\fZ (lnD b C) 23544 w<47089:=by
 induction w using bB with
 |h0=>
  intro _
  have e:fZ (lnD b C) 23544 []=23544:=rfl
  rw[e,NI]
  exact⟨WJ b,.inl ⟨rfl,WJ b,by decide,by decide⟩,by decide⟩
 |h1 w y ih=>
  intro hw
  obtain⟨J,U⟩:=gG.1 hw
  have hy:=U y (by simp)
  obtain⟨Z,i2,-⟩:=ih J
  have hs:=NH h2 z y
  have a1:b=1-> -12<=iT b C y/\iT b C y<=12:=λhb=>by have:au b=2:=(by unfold au;rw[yP (by omega)]);omega
  have hc:=QA Z a1
  have hu:=QC hc
  have ey:((y.toNat:Nat):Int)=y:=by omega
  rw[jV,vV]
  unfold lnD at Z i2 hc hu⊢
  rw[ey]
  rw[hu.1]
  exact⟨hc,Um h1 i2 hs,hu.2⟩
def jQ(c:Int)(less:Bool)(x:Int):Bool:=if less=true then decide (x+c<0)else decide (x+c=0)
theorem Ze(h:WI b p P)(hc: -60<=c/\c<=60)(less:Bool):jQ c less p.1=jQ c less P.1:=by
 rcases h with⟨rfl,-⟩|⟨rfl,z,-⟩|⟨rfl,z,-⟩
 ·rfl
 ·unfold jQ
  cases less
  ·simp only[Bool.false_eq_true,if_false];rw[yF (by show¬(108+c=0);omega),yF (by omega)]
  ·simp only[if_true];rw[yF (by show¬(108+c<0);omega),yF (by omega)]
 ·unfold jQ
  cases less
  ·simp only[Bool.false_eq_true,if_false];rw[yF (by show¬(-108+c=0);omega),yF (by omega)]
  ·simp only[if_true];rw[yT (by show -108+c<0;omega),yT (by omega)]
def jH(b:Int)(C:zI):Nat:=(aD b (C.length:Int)).toNat
def lnL(b:Int)(C:zI):List Nat:=aM (lnD b C) (jH b C) 23544 47089
def NJ(b:Int)(C:zI):zL:=gN (lnD b C) (jH b C) (lnL b C)
def ain(b:Int)(C:zI)(c:Int)(less:Bool):zB:=gE (λs=>jQ c less (xX s).1) (lnL b C)
def lnP(b:Int)(C:zI):zL:=eU (NJ b C) (iE b (C.length:Int)) (jH b C)
def lnQ(b:Int)(C:zI)(c:Int)(less:Bool):zB:=jq 8 (NJ b C).length (iE b (C.length:Int)).length (ain b C c less) (nM b (C.length:Int))
def Dn(b:Int)(C:zI)(c:Int):Int:=if aU b (C.length:Int)=0 then(if fT C C.length<=12/\ -60<=c/\c<=60 then 0 else 1)else aU b (C.length:Int)
def rW(b:Int)(C:zI)(c:Int)(less:Bool):Int:=if Dn b C c=0 then(if bE (lnP b C) (lnQ b C c less) (jH b C)<=80 then 0 else 3)else Dn b C c
def KG(b:Int)(C:zI)(c:Int)(less:Bool):zL:=if rW b C c less=0 then aV (lnP b C) (lnQ b C c less) (jH b C)else[]
def KH(b:Int)(C:zI)(c:Int)(less:Bool):zB:=if rW b C c less=0 then aY (lnP b C) (lnQ b C c less) (jH b C)else[]
theorem uO(h:Dn b C c=0):aU b (C.length:Int)=0/\fT C C.length<=12/\ -60<=c/\c<=60:=by
 unfold Dn at h;by_cases h1:aU b (C.length:Int)=0
 ·rw[yP h1]at h
  by_cases h2:fT C C.length<=12/\ -60<=c/\c<=60
  ·exact⟨h1,h2⟩
  ·rw[yN h2]at h;omega
 ·rw[yN h1]at h;exact absurd h h1
theorem QD{less:Bool}(h:rW b C c less=0):Dn b C c=0/\bE (lnP b C) (lnQ b C c less) (jH b C)<=80:=by
 unfold rW at h;by_cases h1:Dn b C c=0
 ·rw[yP h1]at h
  by_cases h2:bE (lnP b C) (lnQ b C c less) (jH b C)<=80
  ·exact⟨h1,h2⟩
  ·rw[yN h2]at h;omega
 ·rw[yN h1]at h;exact absurd h h1
theorem QF{f B:Nat}(h: ∀w,fA m w->fZ d f w<B)(i:Nat):(aM d m f i).length<=B:=by have:=kW (K:=List.range B) (kN d m f i) (λx hx=>by obtain⟨w,z,rfl⟩:=jF hx;exact List.mem_range.2 (h w z));rwa [List.length_range]at this
theorem DY{f B:Nat}(h: ∀w,fA m w->fZ d f w<B):ku d m (aM d m f B)/\0<(aM d m f B).length/\(aM d m f B).length<=B/\(aM d m f B).getD 0 0=f:=
 ⟨kP (QF h B),(nA d m f B).1,QF h B,(nA d m f B).2⟩
theorem Un(h1:1<=b)(h2:b<=6)(z:fT C C.length<=12):ku (lnD b C) (jH b C) (lnL b C)/\0<(lnL b C).length/\(lnL b C).length<=47089/\(lnL b C).getD 0 0=23544:=by have:=DY (d:=lnD b C) (m:=jH b C) (f:=23544) (B:=47089) (λw J=>(acz h1 h2 z w J).2.2);unfold lnL;exact this
def sQ(b:Int)(C:zI)(c:Int)(less:Bool)(w:zI):Bool:=dU b (C.length:Int) w&&jQ c less (nS b C w).1
theorem acA(h1:1<=b)(h2:b<=6)(z:fT C C.length<=12)(U:aU b (C.length:Int)=0):aK (jH b C) (NJ b C).length (NJ b C):=by obtain⟨m1,J⟩:=fQ U;obtain⟨k1,k2,Z,k4⟩:=Un h1 h2 z;have h:=sH k1 k2 (by omega) m1 J;have e:(NJ b C).length=(lnL b C).length:=kQ _ _ _;rw[e];exact h
theorem aio(h1:1<=b)(h2:b<=6)(z:fT C C.length<=12)(hc: -60<=c/\c<=60)(less:Bool)(w:zI)(J:fA (jH b C) w):gP (NJ b C) (ain b C c less) w=jQ c less (nS b C w).1:=by obtain⟨k1,k2,k3,U⟩:=Un h1 h2 z;have h:=Ic (p:=λs=>jQ c less (xX s).1) k1 k2 w J;rw[U]at h;have Z:=(acz h1 h2 z w J).2.1;rw[<-Ze Z hc less];exact h
theorem acB(h:Dn b C c=0)(less:Bool):aK (jH b C) ((NJ b C).length*(iE b (C.length:Int)).length) (lnP b C)/\ ∀w,fA (jH b C) w->gP (lnP b C) (lnQ b C c less) w=sQ b C c less w:=by obtain⟨U,z,hc⟩:=uO h;obtain⟨h1,h2,-⟩:=bA U;have Z:=kF U;have hG:=acA h1 h2 z U;have J:aK (jH b C) (iE b (C.length:Int)).length (iE b (C.length:Int)):=Z.good;have k3:=(Un h1 h2 z).2.2.1;have e:(NJ b C).length=(lnL b C).length:=kQ _ _ _;have a1:=eH Z.auto;have hn:(NJ b C).length*(iE b (C.length:Int)).length<=4000000:=Nat.le_trans (Nat.mul_le_mul (by rw[e];exact k3) a1) (by decide);refine⟨gW hG J hn,λw hw=>?_⟩;have hp:=Ib hG J 8 (ain b C c less) (nM b (C.length:Int)) w hw;have h3:=aio h1 h2 z hc less w hw;have h4:=Z.lang w hw;unfold gP at h3 h4;rw[h3,h4,zu,Bool.and_comm]at hp;exact hp
structure aip (b:Int) (C:zI) (c:Int) (less:Bool) (m:Nat) (MN:zL) (ME:zB):Prop where
 auto:bP b (C.length:Int) MN MN.length=0
 len:ME.length=MN.length
 good:aK m MN.length MN
 many:(aD b (C.length:Int)).toNat=m
 least:aV MN ME m=MN/\aY MN ME m=ME
 lang: ∀w,fA m w->gP MN ME w=sQ b C c less w
theorem WK{less:Bool}(h:rW b C c less=0):aip b C c less (jH b C) (KG b C c less) (KH b C c less):=by
 obtain⟨J,hK⟩:=QD h;obtain⟨Z,-,-⟩:=uO J;obtain⟨hG,hl⟩:=acB J less;have e1:KG b C c less=aV (lnP b C) (lnQ b C c less) (jH b C):=by unfold KG;rw[yP h]
 have e2:KH b C c less=aY (lnP b C) (lnQ b C c less) (jH b C):=by unfold KH;rw[yP h]
 have z:=fE hG (lnQ b C c less);rw[e1,e2];refine⟨?_,by rw[fM,aZ],by rw[aZ];exact z,rfl,jC hG _,λw U=>by rw[jN hG _ w U];exact hl w U⟩;rw[aZ];exact jk Z z hK
theorem WM{less:Bool}(h:Dn b C c=0)(hG:aK (jH b C) n N)(U: ∀w,fA (jH b C) w->gP N E w=sQ b C c less w):aV N E (jH b C)=aV (lnP b C) (lnQ b C c less) (jH b C)/\aY N E (jH b C)=aY (lnP b C) (lnQ b C c less) (jH b C):=by obtain⟨Z,z⟩:=acB h less;refine kM hG Z E _ λw J=>?_;have h1:=U w J;have h2:=z w J;unfold gP at h1 h2;rw[h1,h2]
theorem ajQ{less:Bool}(h:Dn b C c=0)(hG:aK (jH b C) MN.length MN)(Z:MN.length<=80)(z:aV MN ME (jH b C)=MN/\aY MN ME (jH b C)=ME)(hl: ∀w,fA (jH b C) w->gP MN ME w=sQ b C c less w):
  rW b C c less=0/\KG b C c less=MN/\KH b C c less=ME:=by
 obtain⟨J,s2⟩:=WM h hG hl
 rw[z.1]at J
 rw[z.2]at s2
 have U:rW b C c less=0:=by unfold rW;rw[yP h,yP];rw[<-aZ,<-J];exact Z
 refine⟨U,?_,?_⟩
 ·unfold KG;rw[yP U];exact J.symm
 ·unfold KH;rw[yP U];exact s2.symm
def jnP(nb z p q r:Nat):Nat:=(p*nb+q)*z+r
theorem DZ{J nb z p q r:Nat}(U:p<J)(Z:q<nb)(hr:r<z):jnP nb z p q r%z=r/\jnP nb z p q r/z%nb=q/\jnP nb z p q r/z/nb=p:=by have h1:=lY (n:=J*nb) (n':=z) (sG U Z) hr;have h2:=lY U Z;unfold jnP;rw[h1.1,h1.2,h2.1,h2.2];exact⟨rfl,rfl,rfl⟩
theorem aiq{J nb z p q r:Nat}(U:p<J)(Z:q<nb)(hr:r<z):jnP nb z p q r<J*nb*z:=sG (sG U Z) hr
def jnD(A B R:zL)(x y:zI)(s l:Nat):Nat:=jnP B.length R.length (fC A (s/R.length/B.length) (x.getD l 0)) (fC B (s/R.length%B.length) (y.getD l 0)) (fC R (s%R.length) (l:Int))
def jnT(or:Bool)(p q:Bool):Bool:=if or=true then p||q else p&&q
def jnF(or:Bool)(B R:zL)(EA EB z:zB)(s:Nat):Bool:=jnT or (EA.getD (s/R.length/B.length) false) (EB.getD (s/R.length%B.length) false)&&z.getD (s%R.length) false
theorem WO(x w:zI)(l:Int):rV x (w++[l])=rV x w++[x.getD l.toNat 0]:=by simp[rV]
structure acC (m ma mb:Nat) (A B R:zL) (x y:zI):Prop where
 a:aK ma A.length A
 b:aK mb B.length B
 r:aK m R.length R
 x: ∀l,l<m->0<=x.getD l 0/\x.getD l 0<(ma:Int)
 y: ∀l,l<m->0<=y.getD l 0/\y.getD l 0<(mb:Int)
 few:A.length*B.length*R.length<=4000000
theorem uP(hx: ∀l,l<m->0<=x.getD l 0/\x.getD l 0<(ma:Int))(U:fA m w):fA ma (rV x w):=λz J=>by unfold rV at J;obtain⟨l,Z,rfl⟩:=List.mem_map.1 J;have:=U l Z;exact hx l.toNat (by omega)
theorem Uo(h:acC m ma mb A B R x y)(w:zI)(J:fA m w):
  bR A (rV x w)<A.length/\bR B (rV y w)<B.length/\bR R w<R.length/\fZ (jnD A B R x y) 0 w=jnP B.length R.length (bR A (rV x w)) (bR B (rV y w)) (bR R w):=by
 refine⟨jr h.a _ (uP h.x J),jr h.b _ (uP h.y J),jr h.r _ J,?_⟩
 induction w using bB with
 |h0=>simp[fZ,rV,bR,jnP]
 |h1 w l U=>
  have z:=(lF.1 J).1
  have hl:=(lF.1 J).2
  have p1:=jr h.a _ (uP h.x z)
  have p2:=jr h.b _ (uP h.y z)
  have p3:=jr h.r _ z
  obtain⟨Z,q2,q3⟩:=DZ p1 p2 p3
  rw[jV,U z,WO,WO,dF,dF,dF]
  unfold jnD
  rw[Z,q2,q3]
  have e:((l.toNat:Nat):Int)=l:=by omega
  rw[e]
def jnL(m:Nat)(A B R:zL)(x y:zI):List Nat:=aM (jnD A B R x y) m 0 (A.length*B.length*R.length)
def jnN(m:Nat)(A B R:zL)(x y:zI):zL:=gN (jnD A B R x y) m (jnL m A B R x y)
def jnE(or:Bool)(m:Nat)(A B R:zL)(EA EB z:zB)(x y:zI):zB:=gE (jnF or B R EA EB z) (jnL m A B R x y)
theorem acD(h:acC m ma mb A B R x y):ku (jnD A B R x y) m (jnL m A B R x y)/\0<(jnL m A B R x y).length/\(jnL m A B R x y).length<=A.length*B.length*R.length/\(jnL m A B R x y).getD 0 0=0:=by have:=DY (d:=jnD A B R x y) (m:=m) (f:=0) (B:=A.length*B.length*R.length) (λw z=>by obtain⟨p1,p2,p3,e⟩:=Uo h w z;rw[e];exact aiq p1 p2 p3);unfold jnL;exact this
theorem WQ(h:acC m ma mb A B R x y):aK m (jnN m A B R x y).length (jnN m A B R x y):=by obtain⟨k1,k2,z,J⟩:=acD h;have hg:=sH k1 k2 (Nat.le_trans z h.few) h.r.2.2.2.2.1 h.r.2.2.2.1;have e:(jnN m A B R x y).length=(jnL m A B R x y).length:=kQ _ _ _;rw[e];exact hg
theorem ajR(h:acC m ma mb A B R x y)(or:Bool)(EA EB z:zB)(w:zI)(J:fA m w):gP (jnN m A B R x y) (jnE or m A B R EA EB z x y) w=(jnT or (gP A EA (rV x w)) (gP B EB (rV y w))&&gP R z w):=by obtain⟨k1,k2,k3,Z⟩:=acD h;have U:=Ic (p:=jnF or B R EA EB z) k1 k2 w J;rw[Z]at U;obtain⟨p1,p2,p3,e⟩:=Uo h w J;obtain⟨q1,q2,q3⟩:=DZ p1 p2 p3;unfold jnN jnE;rw[U,e];unfold jnF gP;rw[q1,q2,q3]
def xk(k n:Nat)(r:zI)(o:Int):Int:=if ni k n r=0 then(if 0<=o/\o<=9 then 0 else 1)else ni k n r
def Ah(k:Nat)(N:zL)(O:zI):zI:=(List.range N.length).map λs=>xk k N.length (N.getD s []) (O.getD s 0)
def dJ(b:Int)(N:zL)(O:zI):Int:=
 if 1<=b/\b<=6 then(if N.length=0 then 4 else if 20<N.length then 3 else if O.length=N.length then jl (Ah (au b).toNat N O)else 2)else 1
theorem Ea(k:Nat)(N:zL)(O:zI):(Ah k N O).length=N.length:=by simp[Ah]
theorem uQ(hs:s<N.length):(Ah k N O).getD s 0=xk k N.length (N.getD s []) (O.getD s 0):=by simp[Ah,List.getD,hs]
theorem Zf{r:zI}{o:Int}(h:xk k n r o=0):ni k n r=0/\0<=o/\o<=9:=by
 unfold xk at h;by_cases h1:ni k n r=0
 ·rw[yP h1]at h
  by_cases h2:0<=o/\o<=9
  ·exact⟨h1,h2⟩
  ·rw[yN h2]at h;omega
 ·rw[yN h1]at h;exact absurd h h1
theorem eY(h1:1<=b)(h2:b<=6):2<=(au b).toNat/\(au b).toNat<=6/\((au b).toNat:Int)=au b:=by unfold au;split<;>omega
theorem oC(h1:1<=b)(h2:b<=6):aU b 1=0/\aD b 1=au b:=by
 have z:=eY h1 h2;have hc:aU b 1=0:=by unfold aU;rw[yP ⟨⟨h1,h2⟩,by decide,by decide⟩,yP];show pw (au b) 1<=36;simp[pw];omega
 refine⟨hc,?_⟩;unfold aD;rw[yP hc];show pw (au b) 1=_;simp[pw]
theorem vW(h1:1<=b)(h2:b<=6):aU b 2=0/\aD b 2=au b*au b:=by
 have z:=eY h1 h2;have hm:au b*au b<=36:=by have:au b*au b<=6*6:=Int.mul_le_mul (by omega) (by omega) (by omega) (by decide);omega
 have e:pw (au b) (2:Int).toNat=au b*au b:=by show pw (au b) 2=_;simp[pw]
 have hc:aU b 2=0:=by unfold aU;rw[yP ⟨⟨h1,h2⟩,by decide,by decide⟩,yP (by rw[e];exact hm)]
 refine⟨hc,?_⟩;unfold aD;rw[yP hc,e]
theorem cK(h:dJ b N O=0):1<=b/\b<=6/\N.length<=20/\O.length=N.length/\aK (au b).toNat N.length N/\ ∀s,s<N.length->0<=O.getD s 0/\O.getD s 0<=9:=by
 unfold dJ at h;by_cases hb:1<=b/\b<=6
 ·rw[yP hb]at h
  have U:=eY hb.1 hb.2;by_cases h0:N.length=0
  ·rw[yP h0]at h;omega
  ·rw[yN h0]at h
   by_cases z:20<N.length
   ·rw[yP z]at h;omega
   ·rw[yN z]at h
    by_cases J:O.length=N.length
    ·rw[yP J]at h
     have hs: ∀s,s<N.length->ni (au b).toNat N.length (N.getD s [])=0/\0<=O.getD s 0/\O.getD s 0<=9:=λs hs=>by have:=oP _ h s (by rw[Ea];exact hs);rw[uQ hs]at this;exact Zf this
     exact⟨hb.1,hb.2,by omega,J,⟨rfl,by omega,by omega,by omega,by omega,λs h=>KY (hs s h).1⟩,λs h=>(hs s h).2⟩
    ·rw[yN J]at h;omega
 ·rw[yN hb]at h;omega
def kR(N:zL)(O:zI)(w:zI):Int:=O.getD (bR N w) 0
def AL(b:Int)(N:zL)(O:zI)(n:Int):Int:=kR N O (zU b n)
def upR(r:zI):zI:=r.map λx=>x+1
def wN(N:zL):zL:=(upR (N.getD 0 [])).set 0 0::N.map upR
def wO(O:zI):zI:=O.getD 0 0::O
theorem air(N:zL):(wN N).length=N.length+1:=by simp[wN]
theorem ais(O:zI):(wO O).length=O.length+1:=by simp[wO]
theorem NK(r:zI):(upR r).length=r.length:=by simp[upR]
theorem NM{r:zI}(z:j<r.length):(upR r).getD j 0=r.getD j 0+1:=by simp[upR,List.getD,z]
theorem WR(hs:s<N.length):(wN N).getD (s+1) []=upR (N.getD s []):=by simp[wN,List.getD,hs]
theorem WS(N:zL):(wN N).getD 0 []=(upR (N.getD 0 [])).set 0 0:=rfl
theorem Fj(z:j<(N.getD 0 []).length):((wN N).getD 0 []).getD j 0=if j=0 then 0 else(N.getD 0 []).getD j 0+1:=by
 rw[WS];by_cases e:j=0
 ·subst e
  rw[yP rfl];have h0:0<(upR (N.getD 0 [])).length:=by rw[NK];exact z
  generalize upR (N.getD 0 [])=r at h0;cases r with
  |nil=>simp at h0
  |cons x r=>rfl
 ·rw[yN e,<-NM z];simp[List.getD,Ne.symm e]
theorem Ch(hG:aK k N.length N)(J:N.length<=20):aK k (N.length+1) (wN N):=by
 refine⟨air N,by omega,by omega,hG.2.2.2.1,hG.2.2.2.2.1,λs hs=>?_⟩;cases s with
 |zero=>
  have h0:=hG.2.2.2.2.2 0 hG.2.1
  refine⟨by rw[WS,List.length_set,NK];exact h0.1,λj z=>?_⟩
  rw[Fj (by rw[h0.1];exact z)]
  have:=h0.2 j z
  split<;>omega
 |succ s=>
  have h1:=hG.2.2.2.2.2 s (by omega)
  rw[WR (by omega)]
  refine⟨by rw[NK];exact h1.1,λj z=>?_⟩
  rw[NM (by rw[h1.1];exact z)]
  have:=h1.2 j z
  omega
theorem ait(hG:aK k N.length N)(w:zI):fA k w->bR N (bI w)<N.length/\bR (wN N) w=if bI w=[]then 0 else bR N (bI w)+1:=by
 induction w using bB with
 |h0=>exact λ_=>⟨hG.2.1,rfl⟩
 |h1 w y ih=>
  intro hw
  obtain⟨U,Z⟩:=gG.1 hw
  have hy:=Z y (by simp)
  obtain⟨i1,i2⟩:=ih U
  have z: ∀s,s<N.length->fC N s y<N.length/\fC (wN N) (s+1) y=fC N s y+1:=λs hs=>by have h1:=hG.2.2.2.2.2 s hs;have h2:=h1.2 y.toNat (by omega);unfold fC;rw[WR hs,NM (by rw[h1.1];omega)];omega
  rw[dF,i2,uK]
  by_cases J:bI w=[]
  ·rw[yP J,yP J]
   have h0:=hG.2.2.2.2.2 0 hG.2.1
   have e0:fC (wN N) 0 y=if y=0 then 0 else fC N 0 y+1:=by
    unfold fC;rw[Fj (by rw[h0.1];omega)];have:=h0.2 y.toNat (by omega);by_cases e:y=0
    ·subst e;rfl
    ·rw[yN (by omega),yN e];omega
   rw[e0]
   by_cases e:y=0
   ·rw[yP e,yP e]
    exact⟨hG.2.1,rfl⟩
   ·rw[yN e,yN e,yN (by simp)]
    have e1:bR N [y]=fC N 0 y:=rfl
    rw[e1]
    exact⟨(z 0 hG.2.1).1,rfl⟩
  ·rw[yN J,yN J,yN (by simp),dF]
   exact⟨(z _ i1).1,(z _ i1).2⟩
theorem IX(hG:aK k N.length N)(w:zI)(J:fA k w):(wO O).getD (bR (wN N) w) 0=kR N O (bI w):=by
 obtain⟨h1,h2⟩:=ait hG w J;rw[h2];unfold kR;by_cases z:bI w=[]
 ·rw[yP z,z];rfl
 ·rw[yN z];simp[wO,List.getD]
def isL(b:Int)(N:zL)(O:zI)(v:Int)(w:zI):Bool:=dU b 1 w&&decide (kR N O (bI w)=v)
def wE(O:zI)(v:Int):zB:=(wO O).map λx=>decide (x=v)
theorem aiu{v:Int}(hs:s<O.length+1):(wE O v).getD s false=decide ((wO O).getD s 0=v):=by
 have:s<(wO O).length:=by rw[ais];exact hs
 simp[wE,List.getD,this]
def SL(b:Int)(N:zL):zL:=eU (wN N) (iE b 1) (au b).toNat
def QG(b:Int)(O:zI)(v:Int):zB:=jq 8 (O.length+1) (iE b 1).length (wE O v) (nM b 1)
def QH(b:Int)(N:zL)(O:zI)(v:Int):Int:=if dJ b N O=0 then(if 0<=v/\v<=9 then 0 else 1)else dJ b N O
def Eb(b:Int)(N:zL)(O:zI)(v:Int):Int:=if QH b N O v=0 then(if bE (SL b N) (QG b O v) (au b).toNat<=80 then 0 else 3)else QH b N O v
def WU(b:Int)(N:zL)(O:zI)(v:Int):zL:=if Eb b N O v=0 then aV (SL b N) (QG b O v) (au b).toNat else[]
def WV(b:Int)(N:zL)(O:zI)(v:Int):zB:=if Eb b N O v=0 then aY (SL b N) (QG b O v) (au b).toNat else[]
theorem acE{v:Int}(h:QH b N O v=0):dJ b N O=0/\0<=v/\v<=9:=by
 unfold QH at h;by_cases h1:dJ b N O=0
 ·rw[yP h1]at h
  by_cases h2:0<=v/\v<=9
  ·exact⟨h1,h2⟩
  ·rw[yN h2]at h;omega
 ·rw[yN h1]at h;exact absurd h h1
theorem acF(h:dJ b N O=0)(v:Int):aK (au b).toNat ((N.length+1)*(iE b 1).length) (SL b N)/\ ∀w,fA (au b).toNat w->gP (SL b N) (QG b O v) w=isL b N O v w:=by
 obtain⟨h1,h2,a1,hO,hG,-⟩:=cK h;obtain⟨hM,hm⟩:=oC h1 h2;have Z:=kF hM;have U:(aD b 1).toNat=(au b).toNat:=by rw[hm]
 have hW:=Ch hG a1;have z:=Z.good;rw[U]at z;have a2:=eH Z.auto;have hn:(N.length+1)*(iE b 1).length<=4000000:=Nat.le_trans (Nat.mul_le_mul (show N.length+1<=21 by omega) a2) (by decide);refine⟨gW hW z hn,λw J=>?_⟩;have hp:=za hW z 8 (wE O v) (nM b 1) w J;have hr:=jr hW w J;have h3:gP (wN N) (wE O v) w=decide (kR N O (bI w)=v):=by unfold gP;rw[aiu (by rw[hO];exact hr),IX hG w J]
 have h4:=Z.lang w (by rw[U];exact J);rw[h3,h4,zu]at hp;unfold QG isL;rw[hO,Bool.and_comm];exact hp
structure jA (b t:Int) (L:zI->Bool) (m:Nat) (MN:zL) (ME:zB):Prop where
 auto:bP b t MN MN.length=0
 len:ME.length=MN.length
 good:aK m MN.length MN
 many:(aD b t).toNat=m
 least:aV MN ME m=MN/\aY MN ME m=ME
 lang: ∀w,fA m w->gP MN ME w=L w
section
variable {b:Int} {N:zL} {O:zI} {v:Int}
theorem WW(h:Eb b N O v=0):jA b 1 (isL b N O v) (au b).toNat (WU b N O v) (WV b N O v):=by
 have J:QH b N O v=0/\bE (SL b N) (QG b O v) (au b).toNat<=80:=by
  unfold Eb at h;by_cases h1:QH b N O v=0
  ·rw[yP h1]at h
   by_cases h2:bE (SL b N) (QG b O v) (au b).toNat<=80
   ·exact⟨h1,h2⟩
   ·rw[yN h2]at h;omega
  ·rw[yN h1]at h;exact absurd h h1
 obtain⟨U,-⟩:=acE J.1;obtain⟨h1,h2,-⟩:=cK U;obtain⟨hM,hm⟩:=oC h1 h2;obtain⟨hG,hl⟩:=acF U v;have e1:WU b N O v=aV (SL b N) (QG b O v) (au b).toNat:=by unfold WU;rw[yP h]
 have e2:WV b N O v=aY (SL b N) (QG b O v) (au b).toNat:=by unfold WV;rw[yP h]
 have z:=fE hG (QG b O v);rw[e1,e2];refine⟨?_,by rw[fM,aZ],by rw[aZ];exact z,by rw[hm],jC hG _,λw Z=>by rw[jN hG _ w Z];exact hl w Z⟩;rw[aZ];exact jk hM (by rw[hm];exact z) J.2
theorem agj(h:dJ b N O=0)(v:Int){n:Nat}{M:zL}{ME:zB}(hG:aK (au b).toNat n M)(U: ∀w,fA (au b).toNat w->gP M ME w=isL b N O v w):aV M ME (au b).toNat=aV (SL b N) (QG b O v) (au b).toNat/\aY M ME (au b).toNat=aY (SL b N) (QG b O v) (au b).toNat:=by obtain⟨Z,z⟩:=acF h v;refine kM hG Z ME _ λw J=>?_;have h1:=U w J;have h2:=z w J;unfold gP at h1 h2;rw[h1,h2]
end
def WX(k:Nat):zI:=(List.range (k*k)).map λl=>((l/k:Nat):Int)
def WY(k:Nat):zI:=(List.range (k*k)).map λl=>((l%k:Nat):Int)
theorem sS(k:Nat):(WX k).length=k*k:=by simp[WX]
theorem sU(k:Nat):(WY k).length=k*k:=by simp[WY]
theorem WZ(h:l<k*k):(WX k).getD l 0=((l/k:Nat):Int):=by simp[WX,List.getD,h]
theorem W9(h:l<k*k):(WY k).getD l 0=((l%k:Nat):Int):=by simp[WY,List.getD,h]
theorem NP:Nt k (WX k):=λx hx=>by obtain⟨l,z,rfl⟩:=List.mem_map.1 hx;have h1:=List.mem_range.1 z;exact⟨Int.natCast_nonneg _,Int.ofNat_lt.2 (Nat.div_lt_of_lt_mul h1)⟩
theorem NQ(z:1<=k):Nt k (WY k):=λx hx=>by obtain⟨l,J,rfl⟩:=List.mem_map.1 hx;exact⟨Int.natCast_nonneg _,Int.ofNat_lt.2 (Nat.mod_lt l (show k>0 by omega))⟩
theorem IY(h1:1<=b)(h2:b<=6)(z:l<(au b).toNat*(au b).toNat):pW b 2 (l:Int) 0=((l/(au b).toNat:Nat):Int)/\pW b 2 (l:Int) 1=((l%(au b).toNat:Nat):Int):=by
 obtain⟨k1,k2,J⟩:=eY h1 h2;have U:l/(au b).toNat<(au b).toNat:=Nat.div_lt_of_lt_mul z;have Z:pw (au b) (2-1-0)=au b:=by simp[pw]
 have e0:pw (au b) (2-1-1)=1:=by simp[pw]
 unfold pW;rw[Z,e0,<-J];constructor
 ·rw[<-Int.natCast_ediv,<-Int.natCast_emod,Nat.mod_eq_of_lt U,Int.toNat_natCast]
 ·rw[Int.ediv_one,<-Int.natCast_emod,Int.toNat_natCast]
theorem LV(h1:1<=b)(h2:b<=6)(J:fA ((au b).toNat*(au b).toNat) w):rV (WX (au b).toNat) w=bT b 2 w 0/\rV (WY (au b).toNat) w=bT b 2 w 1:=by
 constructor
 ·unfold rV bT
  refine List.map_congr_left λx hx=>?_;have h:=J x hx;have z:x.toNat<(au b).toNat*(au b).toNat:=by omega
  rw[WZ z,<-(IY h1 h2 z).1,show((x.toNat:Nat):Int)=x by omega]
 ·unfold rV bT
  refine List.map_congr_left λx hx=>?_;have h:=J x hx;have z:x.toNat<(au b).toNat*(au b).toNat:=by omega
  rw[W9 z,<-(IY h1 h2 z).2,show((x.toNat:Nat):Int)=x by omega]
def lkN(k:Nat)(N N2:zL):zL:=eU (og (wN N) (WX k)) (og (wN N2) (WY k)) (k*k)
def lkE(O O2:zI):zB:=(List.range ((O.length+1)*(O2.length+1))).map λq=>decide ((wO O).getD (q/(O2.length+1)) 0=(wO O2).getD (q%(O2.length+1)) 0)
def Ai(b:Int)(N:zL)(O:zI)(N2:zL)(O2:zI)(w:zI):Bool:=dU b 2 w&&decide (kR N O (bI (bT b 2 w 0))=kR N2 O2 (bI (bT b 2 w 1)))
def lkP(b:Int)(N N2:zL):zL:=eU (lkN (au b).toNat N N2) (iE b 2) ((au b).toNat*(au b).toNat)
def lkQ(b:Int)(O O2:zI):zB:=jq 8 ((O.length+1)*(O2.length+1)) (iE b 2).length (lkE O O2) (nM b 2)
def Ab(b:Int)(N:zL)(O:zI)(z:Int)(N2:zL)(O2:zI):Int:=if dJ b N O=0 then(if dJ z N2 O2=0 then(if b=z then 0 else 2)else dJ z N2 O2)else dJ b N O
def Bt(b:Int)(N:zL)(O:zI)(z:Int)(N2:zL)(O2:zI):Int:=if Ab b N O z N2 O2=0 then(if bE (lkP b N N2) (lkQ b O O2) ((au b).toNat*(au b).toNat)<=80 then 0 else 3)else Ab b N O z N2 O2
def tL(b:Int)(N:zL)(O:zI)(z:Int)(N2:zL)(O2:zI):zL:=if Bt b N O z N2 O2=0 then aV (lkP b N N2) (lkQ b O O2) ((au b).toNat*(au b).toNat)else[]
def tN(b:Int)(N:zL)(O:zI)(z:Int)(N2:zL)(O2:zI):zB:=if Bt b N O z N2 O2=0 then aY (lkP b N N2) (lkQ b O O2) ((au b).toNat*(au b).toNat)else[]
theorem xY{z:Int}{O2:zI}(h:Ab b N O z N2 O2=0):dJ b N O=0/\dJ z N2 O2=0/\z=b:=by
 unfold Ab at h;by_cases h1:dJ b N O=0
 ·rw[yP h1]at h
  by_cases h2:dJ z N2 O2=0
  ·rw[yP h2]at h
   by_cases h3:b=z
   ·exact⟨h1,h2,h3.symm⟩
   ·rw[yN h3]at h;omega
  ·rw[yN h2]at h;exact absurd h h2
 ·rw[yN h1]at h;exact absurd h h1
section
variable {b:Int} {N:zL} {O:zI} {N2:zL} {O2:zI}
theorem agk(h:dJ b N O=0)(h':dJ b N2 O2=0):aK ((au b).toNat*(au b).toNat) ((N.length+1)*(N2.length+1)) (lkN (au b).toNat N N2)/\ ∀w,fA ((au b).toNat*(au b).toNat) w->(lkE O O2).getD (bR (lkN (au b).toNat N N2) w) false=decide (kR N O (bI (bT b 2 w 0))=kR N2 O2 (bI (bT b 2 w 1))):=by
 obtain⟨h1,h2,a8,hO,hG,-⟩:=cK h;obtain⟨-,-,a7,Z,a1,-⟩:=cK h';obtain⟨k1,k2,k3⟩:=eY h1 h2;have hW:=Ch hG a8;have a2:=Ch a1 a7;have z:(au b).toNat*(au b).toNat<=36:=Nat.le_trans (Nat.mul_le_mul k2 k2) (by decide);have J:1<=(au b).toNat*(au b).toNat:=Nat.le_trans (by decide) (Nat.mul_le_mul k1 k1);have hA:=xM hW (NP (k:=(au b).toNat)) (by rw[sS];exact J) (by rw[sS];exact z);have hB:=xM a2 (NQ (k:=(au b).toNat) (by omega)) (by rw[sU];exact J) (by rw[sU];exact z);rw[sS]at hA;rw[sU]at hB;have hn:(N.length+1)*(N2.length+1)<=4000000:=Nat.le_trans (Nat.mul_le_mul (show N.length+1<=21 by omega) (show N2.length+1<=21 by omega)) (by decide);refine⟨gW hA hB hn,λw U=>?_⟩;obtain⟨p1,p2,p3⟩:=Ia hA hB w U;obtain⟨t0,t1⟩:=LV h1 h2 U;have r0:=Nu hW (NP (k:=(au b).toNat)) (by rw[sS];exact J) (by rw[sS];exact z) w (by rw[sS];exact U);have r1:=Nu a2 (NQ (k:=(au b).toNat) (by omega)) (by rw[sU];exact J) (by rw[sU];exact z) w (by rw[sU];exact U);have w0:fA (au b).toNat (rV (WX (au b).toNat) w):=Ij NP (by rw[sS];exact U);have w1:fA (au b).toNat (rV (WY (au b).toNat) w):=Ij (NQ (by omega)) (by rw[sU];exact U);have hq:=sG p1 p2;have a6:=lY p1 p2
 have e:(lkE O O2).getD (bR (lkN (au b).toNat N N2) w) false=decide ((wO O).getD (bR (lkN (au b).toNat N N2) w/(O2.length+1)) 0=(wO O2).getD (bR (lkN (au b).toNat N N2) w%(O2.length+1)) 0):=by
  have:bR (lkN (au b).toNat N N2) w<(O.length+1)*(O2.length+1):=by unfold lkN;rw[p3,hO,Z];exact hq
  simp[lkE,List.getD,this];exact decide_eq_decide.2 Iff.rfl
 rw[e];unfold lkN;rw[p3,Z,a6.1,a6.2,r0,r1,IX hG _ w0,IX a1 _ w1,t0,t1]
theorem acG(h:dJ b N O=0)(h':dJ b N2 O2=0):aK ((au b).toNat*(au b).toNat) ((N.length+1)*(N2.length+1)*(iE b 2).length) (lkP b N N2)/\ ∀w,fA ((au b).toNat*(au b).toNat) w->gP (lkP b N N2) (lkQ b O O2) w=Ai b N O N2 O2 w:=by
 obtain⟨h1,h2,a8,hO,-,-⟩:=cK h;obtain⟨-,-,a7,a1,-,-⟩:=cK h';obtain⟨k1,k2,k3⟩:=eY h1 h2;obtain⟨hM,hm⟩:=vW h1 h2;have U:=kF hM;have J:(aD b 2).toNat=(au b).toNat*(au b).toNat:=by rw[hm,<-k3,<-Int.natCast_mul,Int.toNat_natCast,Int.toNat_natCast]
 obtain⟨hW,a2⟩:=agk h h';have z:=U.good;rw[J]at z;have a6:=eH U.auto;have hn:(N.length+1)*(N2.length+1)*(iE b 2).length<=4000000:=Nat.le_trans (Nat.mul_le_mul (Nat.mul_le_mul (show N.length+1<=21 by omega) (show N2.length+1<=21 by omega)) a6) (by decide);refine⟨gW hW z hn,λw Z=>?_⟩;have hp:=za hW z 8 (lkE O O2) (nM b 2) w Z;have h4:=U.lang w (by rw[J];exact Z);have h3:gP (lkN (au b).toNat N N2) (lkE O O2) w=decide (kR N O (bI (bT b 2 w 0))=kR N2 O2 (bI (bT b 2 w 1))):=a2 w Z;rw[h3,h4,zu]at hp;unfold lkQ Ai;rw[hO,a1,Bool.and_comm];exact hp
theorem zw(h:Bt b N O b N2 O2=0):jA b 2 (Ai b N O N2 O2) ((au b).toNat*(au b).toNat) (tL b N O b N2 O2) (tN b N O b N2 O2):=by
 have U:Ab b N O b N2 O2=0/\bE (lkP b N N2) (lkQ b O O2) ((au b).toNat*(au b).toNat)<=80:=by
  unfold Bt at h;by_cases h1:Ab b N O b N2 O2=0
  ·rw[yP h1]at h
   by_cases h2:bE (lkP b N N2) (lkQ b O O2) ((au b).toNat*(au b).toNat)<=80
   ·exact⟨h1,h2⟩
   ·rw[yN h2]at h;omega
  ·rw[yN h1]at h;exact absurd h h1
 obtain⟨Z,a1,-⟩:=xY U.1;obtain⟨h1,h2,-⟩:=cK Z;obtain⟨k1,k2,k3⟩:=eY h1 h2;obtain⟨hM,hm⟩:=vW h1 h2;have z:(aD b 2).toNat=(au b).toNat*(au b).toNat:=by rw[hm,<-k3,<-Int.natCast_mul,Int.toNat_natCast,Int.toNat_natCast]
 obtain⟨hG,hl⟩:=acG Z a1;have e1:tL b N O b N2 O2=aV (lkP b N N2) (lkQ b O O2) ((au b).toNat*(au b).toNat):=by unfold tL;rw[yP h]
 have e2:tN b N O b N2 O2=aY (lkP b N N2) (lkQ b O O2) ((au b).toNat*(au b).toNat):=by unfold tN;rw[yP h]
 have J:=fE hG (lkQ b O O2);rw[e1,e2];refine⟨?_,by rw[fM,aZ],by rw[aZ];exact J,z,jC hG _,λw hw=>by rw[jN hG _ w hw];exact hl w hw⟩;rw[aZ];exact jk hM (by rw[z];exact J) U.2
theorem Zg(h:dJ b N O=0)(U:dJ b N2 O2=0){n:Nat}{M:zL}{ME:zB}(hG:aK ((au b).toNat*(au b).toNat) n M)(Z: ∀w,fA ((au b).toNat*(au b).toNat) w->gP M ME w=Ai b N O N2 O2 w):aV M ME ((au b).toNat*(au b).toNat)=aV (lkP b N N2) (lkQ b O O2) ((au b).toNat*(au b).toNat)/\aY M ME ((au b).toNat*(au b).toNat)=aY (lkP b N N2) (lkQ b O O2) ((au b).toNat*(au b).toNat):=by obtain⟨hP,z⟩:=acG h U;refine kM hG hP ME _ λw J=>?_;have h1:=Z w J;have h2:=z w J;unfold gP at h1 h2;rw[h1,h2]
end
def IZ(b:Int)(t:Nat)(or:Bool)(x y:zI)(LA LB:zI->Bool)(w:zI):Bool:=jnT or (LA (rV x w)) (LB (rV y w))&&dU b (t:Int) w
def joC(b:Int)(t:Nat)(or:Bool)(x y:zI)(A B:zL)(EA EB:zB):Int:=if bE (jnN (aD b (t:Int)).toNat A B (iE b (t:Int)) x y) (jnE or (aD b (t:Int)).toNat A B (iE b (t:Int)) EA EB (nM b (t:Int)) x y) (aD b (t:Int)).toNat<=80 then 0 else 3
def joN(b:Int)(t:Nat)(or:Bool)(x y:zI)(A B:zL)(EA EB:zB):zL:=if joC b t or x y A B EA EB=0 then aV (jnN (aD b (t:Int)).toNat A B (iE b (t:Int)) x y) (jnE or (aD b (t:Int)).toNat A B (iE b (t:Int)) EA EB (nM b (t:Int)) x y) (aD b (t:Int)).toNat else[]
def joE(b:Int)(t:Nat)(or:Bool)(x y:zI)(A B:zL)(EA EB:zB):zB:=if joC b t or x y A B EA EB=0 then aY (jnN (aD b (t:Int)).toNat A B (iE b (t:Int)) x y) (jnE or (aD b (t:Int)).toNat A B (iE b (t:Int)) EA EB (nM b (t:Int)) x y) (aD b (t:Int)).toNat else[]
theorem Xa{t:Nat}(z:jA b t1 LA ma A EA)(J:jA b t2 LB mb B EB)(hM:aU b (t:Int)=0)(hx: ∀l,l<(aD b (t:Int)).toNat->0<=x.getD l 0/\x.getD l 0<(ma:Int))(hy: ∀l,l<(aD b (t:Int)).toNat->0<=y.getD l 0/\y.getD l 0<(mb:Int)):acC (aD b (t:Int)).toNat ma mb A B (iE b (t:Int)) x y:=by have U:=kF hM;have Z:=eH z.auto;have a1:=eH J.auto;have a2:=eH U.auto;exact⟨z.good,J.good,U.good,hx,hy,Nat.le_trans (Nat.mul_le_mul (Nat.mul_le_mul Z a1) a2) (by decide)⟩
theorem ahQ{t:Nat}(J:jA b t1 LA ma A EA)(U:jA b t2 LB mb B EB)(Z:aU b (t:Int)=0)(hx: ∀l,l<(aD b (t:Int)).toNat->0<=x.getD l 0/\x.getD l 0<(ma:Int))(hy: ∀l,l<(aD b (t:Int)).toNat->0<=y.getD l 0/\y.getD l 0<(mb:Int))(or:Bool)(w:zI)(z:fA (aD b (t:Int)).toNat w):
  gP (jnN (aD b (t:Int)).toNat A B (iE b (t:Int)) x y) (jnE or (aD b (t:Int)).toNat A B (iE b (t:Int)) EA EB (nM b (t:Int)) x y) w=IZ b t or x y LA LB w:=by
 rw[ajR (Xa J U Z hx hy) or EA EB (nM b (t:Int)) w z,J.lang _ (uP hx z),U.lang _ (uP hy z),(kF Z).lang w z]
 rfl
theorem Xb{t:Nat}(hA:jA b t1 LA ma A EA)(hB:jA b t2 LB mb B EB)(U:aU b (t:Int)=0)(hx: ∀l,l<(aD b (t:Int)).toNat->0<=x.getD l 0/\x.getD l 0<(ma:Int))(hy: ∀l,l<(aD b (t:Int)).toNat->0<=y.getD l 0/\y.getD l 0<(mb:Int))(or:Bool)(h:joC b t or x y A B EA EB=0):
  jA b (t:Int) (IZ b t or x y LA LB) (aD b (t:Int)).toNat (joN b t or x y A B EA EB) (joE b t or x y A B EA EB):=by
 have hG:=WQ (Xa hA hB U hx hy)
 have Z:=λw z=>ahQ hA hB U hx hy or w z
 unfold joN joE
 rw[yP h,yP h]
 have hK:bE (jnN (aD b (t:Int)).toNat A B (iE b (t:Int)) x y) (jnE or (aD b (t:Int)).toNat A B (iE b (t:Int)) EA EB (nM b (t:Int)) x y) (aD b (t:Int)).toNat<=80:=by
  unfold joC at h;split at h
  ·assumption
  ·omega
 generalize jnE or (aD b (t:Int)).toNat A B (iE b (t:Int)) EA EB (nM b (t:Int)) x y=E at Z hK⊢
 generalize jnN (aD b (t:Int)).toNat A B (iE b (t:Int)) x y=N at hG Z hK⊢
 have J:=fE hG E
 refine⟨?_,by rw[fM,aZ],by rw[aZ];exact J,rfl,jC hG _,λw z=>by rw[jN hG _ w z];exact Z w z⟩
 rw[aZ]
 exact jk U J hK
theorem Xc{t:Nat}(J:jA b t1 LA ma A EA)(U:jA b t2 LB mb B EB)(Z:aU b (t:Int)=0)(hx: ∀l,l<(aD b (t:Int)).toNat->0<=x.getD l 0/\x.getD l 0<(ma:Int))(hy: ∀l,l<(aD b (t:Int)).toNat->0<=y.getD l 0/\y.getD l 0<(mb:Int))(or:Bool)(hG:aK (aD b (t:Int)).toNat n N)(hl: ∀w,fA (aD b (t:Int)).toNat w->gP N E w=IZ b t or x y LA LB w):
  joC b t or x y A B EA EB=(if bE N E (aD b (t:Int)).toNat<=80 then 0 else 3)/\(joC b t or x y A B EA EB=0->joN b t or x y A B EA EB=aV N E (aD b (t:Int)).toNat/\joE b t or x y A B EA EB=aY N E (aD b (t:Int)).toNat):=by
 have a1:=WQ (Xa J U Z hx hy)
 have a2:=λw z=>ahQ J U Z hx hy or w z
 obtain⟨s1,s2⟩:=kM a1 hG _ E (λw z=>by have h1:=hl w z;have h2:=a2 w z;unfold gP at h1 h2;rw[h1,h2])
 refine⟨?_,λh=>?_⟩
 ·unfold joC
  rw[<-aZ,s1,aZ]
 ·unfold joN joE
  rw[yP h,yP h]
  exact⟨s1,s2⟩
def agN(k:Nat)(N N2:zL):zL:=eU (wN N) (wN N2) k
def xZ(b:Int)(N:zL)(O:zI)(N2:zL)(O2:zI)(w:zI):Bool:=dU b 1 w&&decide (kR N O (bI w)=kR N2 O2 (bI w))
def agP(b:Int)(N N2:zL):zL:=eU (agN (au b).toNat N N2) (iE b 1) (au b).toNat
def agQ(b:Int)(O O2:zI):zB:=jq 8 ((O.length+1)*(O2.length+1)) (iE b 1).length (lkE O O2) (nM b 1)
def FT(b:Int)(N:zL)(O:zI)(z:Int)(N2:zL)(O2:zI):Int:=if Ab b N O z N2 O2=0 then(if bE (agP b N N2) (agQ b O O2) (au b).toNat<=80 then 0 else 3)else Ab b N O z N2 O2
def Ac(b:Int)(N:zL)(O:zI)(z:Int)(N2:zL)(O2:zI):zL:=if FT b N O z N2 O2=0 then aV (agP b N N2) (agQ b O O2) (au b).toNat else[]
def Ad(b:Int)(N:zL)(O:zI)(z:Int)(N2:zL)(O2:zI):zB:=if FT b N O z N2 O2=0 then aY (agP b N N2) (agQ b O O2) (au b).toNat else[]
section
variable {b:Int} {N:zL} {O:zI} {N2:zL} {O2:zI}
theorem agl(h:dJ b N O=0)(h':dJ b N2 O2=0):aK (au b).toNat ((N.length+1)*(N2.length+1)) (agN (au b).toNat N N2)/\ ∀w,fA (au b).toNat w->(lkE O O2).getD (bR (agN (au b).toNat N N2) w) false=decide (kR N O (bI w)=kR N2 O2 (bI w)):=by
 obtain⟨h1,h2,a2,hO,hG,-⟩:=cK h;obtain⟨-,-,a1,z,J,-⟩:=cK h';have hW:=Ch hG a2;have U:=Ch J a1;have hn:(N.length+1)*(N2.length+1)<=4000000:=Nat.le_trans (Nat.mul_le_mul (show N.length+1<=21 by omega) (show N2.length+1<=21 by omega)) (by decide);refine⟨gW hW U hn,λw hw=>?_⟩;obtain⟨p1,p2,p3⟩:=Ia hW U w hw;have hq:=sG p1 p2;have Z:=lY p1 p2
 have e:(lkE O O2).getD (bR (agN (au b).toNat N N2) w) false=decide ((wO O).getD (bR (agN (au b).toNat N N2) w/(O2.length+1)) 0=(wO O2).getD (bR (agN (au b).toNat N N2) w%(O2.length+1)) 0):=by
  have:bR (agN (au b).toNat N N2) w<(O.length+1)*(O2.length+1):=by unfold agN;rw[p3,hO,z];exact hq
  simp[lkE,List.getD,this];exact decide_eq_decide.2 Iff.rfl
 rw[e];unfold agN;rw[p3,z,Z.1,Z.2,IX hG _ hw,IX J _ hw]
theorem acH(h:dJ b N O=0)(h':dJ b N2 O2=0):aK (au b).toNat ((N.length+1)*(N2.length+1)*(iE b 1).length) (agP b N N2)/\ ∀w,fA (au b).toNat w->gP (agP b N N2) (agQ b O O2) w=xZ b N O N2 O2 w:=by
 obtain⟨h1,h2,a8,hO,-,-⟩:=cK h;obtain⟨-,-,a7,a1,-,-⟩:=cK h';obtain⟨hM,hm⟩:=oC h1 h2;have U:=kF hM;have J:(aD b 1).toNat=(au b).toNat:=by rw[hm]
 obtain⟨hW,a2⟩:=agl h h';have z:=U.good;rw[J]at z;have a6:=eH U.auto;have hn:(N.length+1)*(N2.length+1)*(iE b 1).length<=4000000:=Nat.le_trans (Nat.mul_le_mul (Nat.mul_le_mul (show N.length+1<=21 by omega) (show N2.length+1<=21 by omega)) a6) (by decide);refine⟨gW hW z hn,λw Z=>?_⟩;have hp:=za hW z 8 (lkE O O2) (nM b 1) w Z;have h4:=U.lang w (by rw[J];exact Z);have h3:gP (agN (au b).toNat N N2) (lkE O O2) w=decide (kR N O (bI w)=kR N2 O2 (bI w)):=a2 w Z;rw[h3,h4,zu]at hp;unfold agQ xZ;rw[hO,a1,Bool.and_comm];exact hp
theorem Ja(h:FT b N O b N2 O2=0):jA b 1 (xZ b N O N2 O2) (au b).toNat (Ac b N O b N2 O2) (Ad b N O b N2 O2):=by
 have U:Ab b N O b N2 O2=0/\bE (agP b N N2) (agQ b O O2) (au b).toNat<=80:=by
  unfold FT at h;by_cases h1:Ab b N O b N2 O2=0
  ·rw[yP h1]at h
   by_cases h2:bE (agP b N N2) (agQ b O O2) (au b).toNat<=80
   ·exact⟨h1,h2⟩
   ·rw[yN h2]at h;omega
  ·rw[yN h1]at h;exact absurd h h1
 obtain⟨Z,a1,-⟩:=xY U.1;obtain⟨h1,h2,-⟩:=cK Z;obtain⟨hM,hm⟩:=oC h1 h2;have z:(aD b 1).toNat=(au b).toNat:=by rw[hm]
 obtain⟨hG,hl⟩:=acH Z a1;have e1:Ac b N O b N2 O2=aV (agP b N N2) (agQ b O O2) (au b).toNat:=by unfold Ac;rw[yP h]
 have e2:Ad b N O b N2 O2=aY (agP b N N2) (agQ b O O2) (au b).toNat:=by unfold Ad;rw[yP h]
 have J:=fE hG (agQ b O O2);rw[e1,e2];refine⟨?_,by rw[fM,aZ],by rw[aZ];exact J,z,jC hG _,λw hw=>by rw[jN hG _ w hw];exact hl w hw⟩;rw[aZ];exact jk hM (by rw[z];exact J) U.2
theorem Uq(h:dJ b N O=0)(U:dJ b N2 O2=0){n:Nat}{M:zL}{ME:zB}(hG:aK (au b).toNat n M)(Z: ∀w,fA (au b).toNat w->gP M ME w=xZ b N O N2 O2 w):aV M ME (au b).toNat=aV (agP b N N2) (agQ b O O2) (au b).toNat/\aY M ME (au b).toNat=aY (agP b N N2) (agQ b O O2) (au b).toNat:=by obtain⟨hP,z⟩:=acH h U;refine kM hG hP ME _ λw J=>?_;have h1:=Z w J;have h2:=z w J;unfold gP at h1 h2;rw[h1,h2]
end
theorem aJ{B:Nat}{v0 v1 v2:Value}{T:TypeId}(h:W.heap[B]? =some (.cells #[v0,v1,v2] T (0,0))):(W.cell? ⟨B,0,none⟩=some v0/\W.cell? ⟨B,1,none⟩=some v1/\W.cell? ⟨B,2,none⟩=some v2)/\ ∀i,W.frozen? ⟨B,i,none⟩=false:=by refine⟨⟨by simp[World.cell?,h],by simp[World.cell?,h],by simp[World.cell?,h]⟩,λi=>by simp[World.frozen?,h]⟩
def lH(b:Int)(a:zO)(n cap:Nat)(z:zO)(J U:Nat):Value:=.agg #[.int .i64 b,.slice a n cap,.slice z J U]
theorem acI(w:zW)(b:Int)(a:zO)(n cap:Nat)(z:zO)(J U:Nat)(T:TypeId)(hs:gT w a n N)(ho:Sl w z J O):
  ∀W,Below (w.alloc (.cells #[.int .i64 b,.slice a n cap,.slice z J U] T)).heap.size (w.alloc (.cells #[.int .i64 b,.slice a n cap,.slice z J U] T)) W->(W.cell? ⟨w.heap.size,0,none⟩=some (.int .i64 b)/\W.cell? ⟨w.heap.size,1,none⟩=some (.slice a n cap)/\W.cell? ⟨w.heap.size,2,none⟩=some (.slice z J U))/\gT W a n N/\Sl W z J O/\Below w.heap.size w W:=λW hW=>by
 have hb:=(Below.refl w.heap.size w).alloc zr (.cells #[.int .i64 b,.slice a n cap,.slice z J U] T)
 have hx:=zl w (.cells #[.int .i64 b,.slice a n cap,.slice z J U] T)
 have Z:=ak hb hW
 exact⟨(aJ ((hW.block _ (zG hx).1).trans hx)).1,aG hs Z,aF ho Z,Z⟩
structure Nd where
 op:Int
 var:Int
 gV:Int
 wd:Int
 wd2:Int
 num:Int
 cf:zI
deriving DecidableEq
def oL:Nd:=⟨0,0,0,0,0,0,[]⟩
def gQ(op:Int):Nat:=if op=5\/op=8\/op=9 then 1 else if op=6\/op=7 then 2 else 0
def Fp(n:Nd):Prop:=n.op=1\/n.op=2
def Jb(n:Nd):Prop:=n.op=3\/n.op=4\/n.op=8\/n.op=9
def Ec(n:Nd):Prop:=n.op=3\/n.op=4
instance (n:Nd):Decidable (Fp n):=by unfold Fp;exact inferInstance
instance (n:Nd):Decidable (Jb n):=by unfold Jb;exact inferInstance
instance (n:Nd):Decidable (Ec n):=by unfold Ec;exact inferInstance
def Zi(n:Nd):Prop:=(1<=n.op/\n.op<=9)/\(Jb n->0<=n.var/\n.var<5)/\(n.op=4->0<=n.gV/\n.gV<5)/\(Ec n->0<=n.wd/\n.wd<3)/\(n.op=4->0<=n.wd2/\n.wd2<3)/\(n.op=3->0<=n.num/\n.num<=9)/\(Fp n->n.cf.length<=5/\fT n.cf n.cf.length<=12/\ -60<=n.num/\n.num<=60)
def ndS(n:Nd):Prop:=(¬Jb n->n.var=0)/\(n.op≠4->n.gV=0/\n.wd2=0)/\(¬Ec n->n.wd=0)/\(¬Fp n->n.op≠3->n.num=0)/\(¬Fp n->n.cf.length=0)/\(0<n.cf.length->n.cf.getD (n.cf.length-1) 0≠0)
instance (n:Nd):Decidable (Zi n):=by unfold Zi;exact inferInstance
instance (n:Nd):Decidable (ndS n):=by unfold ndS;exact inferInstance
def qo(n:Nd):Int:=if Zi n then(if ndS n then 0 else 2)else 1
theorem dH{n:Nd}(h:qo n=0):Zi n/\ndS n:=by
 unfold qo at h;by_cases h1:Zi n
 ·rw[yP h1]at h
  by_cases h2:ndS n
  ·exact⟨h1,h2⟩
  ·rw[yN h2]at h;omega
 ·rw[yN h1]at h;omega
def NR:List Nd->Nat->Nat->Nat × Int
 |[],i,o=>if 0<o then(i,4)else(0,0)
 |n::t,i,o=>if qo n=0 then(if o=0 then(i,2)else NR t (i+1) (o-1+gQ n.op))else(i,qo n)
def mG(f:List Nd):Nat × Int:=if f.length=0 then(0,4)else if 40<f.length then(0,3)else NR f 0 1
inductive Fm where
 |gH (n:Nd)
 |un (n:Nd) (f:Fm)
 |bin (n:Nd) (f g:Fm)
def Fm.flat:Fm->List Nd
 |.gH n=>[n]
 |.un n f=>n::f.flat
 |.bin n f g=>n::(f.flat++g.flat)
def Fm.ok:Fm->Prop
 |.gH n=>qo n=0/\gQ n.op=0
 |.un n f=>qo n=0/\gQ n.op=1/\f.ok
 |.bin n f g=>qo n=0/\gQ n.op=2/\f.ok/\g.ok
def gM(ts:List Fm):List Nd:=(ts.map Fm.flat).flatten
theorem Ur: ∀(l:List Nd) (i o:Nat),(NR l i o).2=0-> ∃ts:List Fm,ts.length=o/\l=gM ts/\ ∀t∈ts,t.ok:=by
 intro l;induction l with
 |nil=>
  intro i o h
  unfold NR at h
  by_cases h0:0<o
  ·rw[yP h0]at h;simp at h
  ·obtain rfl:o=0:=by omega
   exact⟨[],rfl,rfl,λt z=>by cases z⟩
 |cons n t Z=>
  intro i o h
  unfold NR at h
  by_cases U:qo n=0
  ·rw[yP U]at h
   by_cases h0:o=0
   ·rw[yP h0]at h;simp at h
   ·rw[yN h0]at h
    obtain⟨ts,h1,h2,h3⟩:=Z _ _ h
    obtain⟨k,rfl⟩: ∃k,o=k+1:=⟨o-1,by omega⟩
    rw[Nat.add_sub_cancel]at h1
    have J:gQ n.op=0\/gQ n.op=1\/gQ n.op=2:=by unfold gQ;split;exact .inr (.inl rfl);split;exact .inr (.inr rfl);exact .inl rfl
    rcases J with J|J|J
    ·rw[J]at h1
     refine⟨.gH n::ts,by simp[h1],by rw[h2];rfl,λt z=>?_⟩
     rcases List.mem_cons.1 z with rfl|z
     ·exact⟨U,J⟩
     ·exact h3 t z
    ·rw[J]at h1
     match ts,h1,h2,h3 with
     |f::ts,h1,h2,h3=>
      refine⟨.un n f::ts,by simpa using h1,by rw[h2];rfl,λt z=>?_⟩
      rcases List.mem_cons.1 z with rfl|z
      ·exact⟨U,J,h3 f (by simp)⟩
      ·exact h3 t (by simp[z])
    ·rw[J]at h1
     match ts,h1,h2,h3 with
     |[f],h1,h2,h3=>simp at h1
     |f::g::ts,h1,h2,h3=>
      refine⟨.bin n f g::ts,by simp at h1⊢;omega,by rw[h2];simp[gM,Fm.flat],λt z=>?_⟩
      rcases List.mem_cons.1 z with rfl|z
      ·exact⟨U,J,h3 f (by simp),h3 g (by simp)⟩
      ·exact h3 t (by simp[z])
  ·rw[yN U]at h
   exact absurd h U
theorem Ed{f:List Nd}(h:(mG f).2=0): ∃t:Fm,f=t.flat/\t.ok/\f.length<=40/\0<f.length:=by
 unfold mG at h;by_cases h0:f.length=0
 ·rw[yP h0]at h;simp at h
 ·rw[yN h0]at h
  by_cases h1:40<f.length
  ·rw[yP h1]at h;simp at h
  ·rw[yN h1]at h
   obtain⟨ts,U,z,J⟩:=Ur _ _ _ h;match ts,U,z,J with
   |[t],U,z,J=>exact⟨t,by rw[z];simp[gM],J t (by simp),by omega,by omega⟩
theorem Jc(t:Fm):0<t.flat.length:=by cases t<;>simp[Fm.flat]
def dI(n:Nd)(v:Int):Bool:=if n.op=1\/n.op=2 then decide (v<(n.cf.length:Int))&&decide (n.cf.getD v.toNat 0≠0)else(decide (n.op=3\/n.op=4)&&decide (n.var=v))||(decide (n.op=4)&&decide (n.gV=v))
def Fm.jd:Fm->Int->Bool
 |.gH n,v=>if(n.op=8\/n.op=9)/\n.var=v then false else dI n v
 |.un n f,v=>if(n.op=8\/n.op=9)/\n.var=v then false else dI n v||f.jd v
 |.bin n f g,v=>if(n.op=8\/n.op=9)/\n.var=v then false else dI n v||f.jd v||g.jd v
def Fm.node:Fm->Nd
 |.gH n=>n
 |.un n _=>n
 |.bin n _ _=>n
def Fm.kids:Fm->List Fm
 |.gH _=>[]
 |.un _ f=>[f]
 |.bin _ f g=>[f,g]
theorem Ee(t:Fm):t.flat=t.node::gM t.kids:=by cases t<;>simp[Fm.flat,Fm.node,Fm.kids,gM]
theorem zx{t:Fm}(h:t.ok):qo t.node=0/\t.kids.length=gQ t.node.op/\ ∀c∈t.kids,c.ok:=by
 cases t with
 |gH n=>exact⟨h.1,h.2.symm,λc hc=>by cases hc⟩
 |un n f=>exact⟨h.1,h.2.1.symm,λc hc=>by simp[Fm.kids]at hc;subst hc;exact h.2.2⟩
 |bin n f g=>
  refine⟨h.1,h.2.1.symm,λc hc=>?_⟩
  simp[Fm.kids]at hc
  rcases hc with rfl|rfl
  ·exact h.2.2.1
  ·exact h.2.2.2
theorem acJ(t:Fm)(v:Int):t.jd v=if(t.node.op=8\/t.node.op=9)/\t.node.var=v then false else dI t.node v||t.kids.any (λc=>c.jd v):=by
 cases t with
 |gH n=>simp[Fm.jd,Fm.node,Fm.kids]
 |un n f=>simp[Fm.jd,Fm.node,Fm.kids]
 |bin n f g=>simp[Fm.jd,Fm.node,Fm.kids,Bool.or_assoc]
theorem AO(t:Fm)(ts:List Fm):gM (t::ts)=t.flat++gM ts:=by simp[gM]
theorem vX(ts z:List Fm):gM (ts++z)=gM ts++gM z:=by simp[gM]
theorem Jd{t:Fm}{ts:List Fm}(h: ∀c∈t::ts,c.ok):gM (t::ts)=t.node::gM (t.kids++ts)/\(t.kids++ts).length=ts.length+gQ t.node.op/\ ∀c∈t.kids++ts,c.ok:=by
 obtain⟨-,h2,h3⟩:=zx (h t (by simp));refine⟨by rw[AO,vX,Ee];rfl,by rw[List.length_append,h2];omega,λc hc=>?_⟩;rcases List.mem_append.1 hc with hc|hc
 ·exact h3 c hc
 ·exact h c (by simp[hc])
theorem aiv{t c:Fm}(h:c∈t.kids):c.flat.length<t.flat.length:=by
 cases t with
 |gH n=>cases h
 |un n f=>simp[Fm.kids]at h;subst h;simp[Fm.flat]
 |bin n f g=>
  simp[Fm.kids]at h
  rcases h with rfl|rfl<;>simp[Fm.flat]<;>omega
def aT(t:Fm):zI:=([0,1,2,3,4]:zI).filter λv=>t.jd v
def NdC(W:zW)(b o:Nat)(n:Nd)(a:zO)(c:Nat):Prop:=
 W.cell? ⟨b,o,none⟩=some (.int .i64 n.op)/\W.cell? ⟨b,o+1,none⟩=some (.int .i64 n.var)/\W.cell? ⟨b,o+2,none⟩=some (.int .i64 n.gV)/\W.cell? ⟨b,o+3,none⟩=some (.int .i64 n.wd)/\W.cell? ⟨b,o+4,none⟩=some (.int .i64 n.wd2)/\W.cell? ⟨b,o+5,none⟩=some (.int .i64 n.num)/\W.cell? ⟨b,o+6,none⟩=some (.slice a n.cf.length c)/\Sl W a n.cf.length n.cf
def Je(n:Nd):Prop:= ∀x∈[n.op,n.var,n.gV,n.wd,n.wd2,n.num],(Lit.int .i64 x).wf=true
def SlF(W:zW)(a:zO)(len:Nat)(ns:List Nd):Prop:=
 ns.length=len/\len<=maxLen/\(∀n∈ns,Je n)/\(len=0\/ ∃b o,a=some ⟨b,o,none⟩/\ ∀i,i<len-> ∃a' c',NdC W b (o+i*7) (ns.getD i oL) a' c')
theorem qG{b o:Nat}{n:Nd}{c:Nat}(h:NdC W b o n a c)(hb:Below W.heap.size W W'):NdC W' b o n a c:=by obtain⟨h0,h1,h2,h3,h4,h5,J,U⟩:=h;have z: ∀(k:Nat) (v:Value),W.cell? ⟨b,k,none⟩=some v->W'.cell? ⟨b,k,none⟩=some v:=λk v h=>(hb.cell (p:=⟨b,k,none⟩) (zk W _ h)).trans h;exact⟨z _ _ h0,z _ _ h1,z _ _ h2,z _ _ h3,z _ _ h4,z _ _ h5,z _ _ J,aF U hb⟩
theorem dG{len:Nat}{ns:List Nd}(h:SlF W a len ns)(hb:Below W.heap.size W W'):SlF W' a len ns:=by
 obtain⟨h1,h2,h3,h4⟩:=h;refine⟨h1,h2,h3,?_⟩;rcases h4 with h4|⟨b,o,e,h4⟩
 ·exact .inl h4
 ·refine .inr ⟨b,o,e,λi hi=>?_⟩;obtain⟨a',c',hc⟩:=h4 i hi;exact⟨a',c',qG hc hb⟩
theorem jB{len:Nat}{ns:List Nd}(h:SlF W a len ns)(i:Nat)(hi:i<len): ∃b o a' c',a=some ⟨b,o,none⟩/\NdC W b (o+i*7) (ns.getD i oL) a' c':=by
 rcases h.2.2.2 with h4|⟨b,o,e,h4⟩
 ·omega
 ·obtain⟨a',c',hc⟩:=h4 i hi;exact⟨b,o,a',c',e,hc⟩
def Gu:Prop:= ∀(b t:Int) (W:zW),Calls prog 72 #[.int .i64 b,.int .i64 t] W (dB W (bK (aU b t) b) (bK (aU b t) t) (iE b t) (nM b t) (aU b t))
def yc:Prop:= ∀(b t:Int) (a:zO) (n cap:Nat) (a':zO) (k z:Nat) (N:zL) (E:zB) (W:zW),gT W a n N->mR W a' k E->Calls prog 62 #[.agg #[.int .i64 b,.int .i64 t,.slice a n cap,.slice a' k z]] W (dB W (bK (KF 4 b t N E k) b) (bK (KF 4 b t N E k) t) (Qx 4 b t N E k) (Qy 4 b t N E k) (KF 4 b t N E k))
theorem QJ{w:zW}{c:Nat}{a':zO}{c':Nat}(T:TypeId)(h:dS w a n N a' E W):abd (W.alloc (.cells #[.int .i64 b,.int .i64 t,.slice a n c,.slice a' n c'] T)) W.heap.size b t a n c a' n c' N E/\Below W.heap.size W (W.alloc (.cells #[.int .i64 b,.int .i64 t,.slice a n c,.slice a' n c'] T)):=
 ⟨Tv h.here.1 h.here.2,zb.alloc zr _⟩
def Zj(b:Int)(N:zL)(O:zI)(x hi:Int):Int:=if dJ b N O=0 then(if 0<=x/\x<=hi then 0 else 1)else dJ b N O
def atV(b:Int)(N:zL)(O:zI)(x:Int):Int:=if Zj b N O x 1099511627776=0 then AL b N O x else 0
def Zk:Prop:= ∀(b:Int) (a:zO) (n cap:Nat) (z:zO) (J U:Nat) (N:zL) (O:zI) (W:zW),gT W a n N->Sl W z J O->Calls prog 29 #[lH b a n cap z J U] W λe w'=>e=.returned (bC (dJ b N O))/\Below W.heap.size W w'
def aiw:Prop:= ∀(b:Int) (a:zO) (n cap:Nat) (z:zO) (J U:Nat) (N:zL) (O:zI) (x:Int) (W:zW),gT W a n N->Sl W z J O->Calls prog 32 #[lH b a n cap z J U,.int .i64 x] W λe w'=>e=.returned (.tuple #[.int .i64 (atV b N O x),bC (Zj b N O x 1099511627776)])/\Below W.heap.size W w'
def ahR(W:zW)(l:zI)(c:Int)(e:Ending)(w':zW):Prop:= ∃z J,e=.returned (.tuple #[.slice z l.length J,bC c])/\Sl w' z l.length l/\Below W.heap.size W w'
def Us:Prop:= ∀(b:Int) (a:zO) (n cap:Nat) (z:zO) (J U:Nat) (N:zL) (O:zI) (v:Int) (W:zW),gT W a n N->Sl W z J O->Calls prog 41 #[lH b a n cap z J U,.int .i64 v] W (dB W (bK (Eb b N O v) b) (bK (Eb b N O v) 1) (WU b N O v) (WV b N O v) (Eb b N O v))
def mH(nums:zI):Bool:=nums.all λx=>decide (0<=x/\x<=1099511627776)
def hdC(C:zI)(c:Int)(nums:zI):Int:=if(C.length<=5/\fT C C.length<=12)/\ -60<=c/\c<=60 then(if nums.length=C.length then(if mH nums=true then 0 else 1)else 2)else 1
def hdB(C:zI)(c:Int)(less:Bool)(nums:zI):Bool:=if hdC C c nums=0 then jQ c less (iH C (λi=>nums.getD i 0) C.length)else false
def Cj:Prop:= ∀(b:Int) (a:zO) (n cap:Nat) (C:zI) (c:Int) (less:Bool) (W:zW),Sl W a n C->Calls prog 57 #[.int .i64 b,.slice a n cap,.int .i64 c,.bool less] W (dB W (bK (rW b C c less) b) (bK (rW b C c less) (n:Int)) (KG b C c less) (KH b C c less) (rW b C c less))
def Zl:Prop:= ∀(a:zO) (n cap:Nat) (C:zI) (c:Int) (less:Bool) (J:zO) (U z:Nat) (nums:zI) (W:zW),Sl W a n C->Sl W J U nums->Calls prog 31 #[.slice a n cap,.int .i64 c,.bool less,.slice J U z] W λe w'=>e=.returned (.tuple #[.bool (hdB C c less nums),bC (hdC C c nums)])/\Below W.heap.size W w'
theorem uR(h:mH nums=true)(hi:i<nums.length):0<=nums.getD i 0/\nums.getD i 0<=1099511627776:=by unfold mH at h;rw[List.all_eq_true]at h;have:=h (nums.getD i 0) (by rw[aS _ i hi];exact List.getElem_mem hi);simpa using this
theorem QK(h: ∀i,i<nums.length->0<=nums.getD i 0/\nums.getD i 0<=1099511627776):mH nums=true:=by unfold mH;rw[List.all_eq_true];intro x hx;obtain⟨i,hi,rfl⟩:=List.getElem_of_mem hx;have:=h i hi;rw[aS _ i hi]at this;simpa using this
theorem Zm(hi:i<nums.length)(h: ¬(0<=nums.getD i 0/\nums.getD i 0<=1099511627776)):mH nums≠true:=λe=>h (uR e hi)
theorem agn(J:fT C C.length<=12)(z:k<C.length){y:Int}(h0:0<=y)(h1:y<=1099511627776): -13194139533312<=C.getD k 0*y/\C.getD k 0*y<=13194139533312:=by
 have h:=acy (x:=C.getD k 0) h0 h1;have h2:=agf C z;have h3:nN (C.getD k 0)*1099511627776<=13194139533312:=by omega
 omega
def Pb(b:Int)(x y:Nat):Bool:=decide (b=1)&&decide (x&&&y≠0)
def NS(b:Int)(m j:Nat):zI:=if j<m then(List.range m).map λl=>if Pb b j l=true then(m:Int)else(l:Int)else List.replicate m (m:Int)
def Xe(m j:Nat):Bool:=decide (j<m)
def SQ(b:Int)(m:Nat):zL:=(List.range (m+1)).map (NS b m)
def daE(m:Nat):zB:=(List.range (m+1)).map (Xe m)
theorem Xf(b:Int)(m:Nat):(SQ b m).length=m+1:=by simp[SQ]
theorem agq(m:Nat):(daE m).length=m+1:=by simp[daE]
theorem NT(z:j<m+1):(SQ b m).getD j []=NS b m j:=by simp[SQ,List.getD,z]
theorem Xg(z:j<m+1):(daE m).getD j false=Xe m j:=by simp[daE,List.getD,z]
theorem agr(b:Int)(m j:Nat):(NS b m j).length=m:=by unfold NS;split<;>simp
theorem Ut{b:Int}{m j l:Nat}(z:j<m)(J:l<m):(NS b m j).getD l 0=if Pb b j l=true then(m:Int)else(l:Int):=by unfold NS;rw[yP z];simp[List.getD,J]
theorem Xh(z: ¬j<m)(J:l<m):(NS b m j).getD l 0=(m:Int):=by unfold NS;rw[yN z];simp[List.getD,J]
theorem NU(b:Int)(h1:1<=m)(z:m<=36):aK m (m+1) (SQ b m):=by
 refine⟨Xf b m,by omega,by omega,z,h1,λs hs=>?_⟩;rw[NT hs];refine⟨agr b m s,λj J=>?_⟩;by_cases h:s<m
 ·rw[Ut h J];split<;>omega
 ·rw[Xh h J];omega
theorem aiz(hs:s<m+1)(z:l<m):mV (SQ b m) s l=if s<m then(if Pb b s l=true then m else l)else m:=by
 unfold mV;rw[NT hs];by_cases h:s<m
 ·rw[Ut h z,yP h];split<;>simp
 ·rw[Xh h z,yN h];simp
theorem aiA(hs:s<m+2)(z:l<m):mV (SK b tr m) s l=arT b tr m s l:=by unfold mV;rw[IW hs z,Int.toNat_natCast]
theorem ags: ∀t:Nat,t<6-> ∀x:Nat,x<(aD 1 (t:Int)).toNat-> ∀y:Nat,y<(aD 1 (t:Int)).toNat->pq 1 t (x:Int) (y:Int)=Pb 1 x y:=by decide+kernel
theorem acL{b t:Int}(h:aU b t=0){x y:Nat}(hx:x<(aD b t).toNat)(J:y<(aD b t).toNat):pq b t.toNat (x:Int) (y:Int)=Pb b x y:=by
 obtain⟨h1,h2,h3,h4,-⟩:=bA h;by_cases hb:b=1
 ·subst hb;obtain⟨z,rfl⟩: ∃z:Nat,t=(z:Int):=⟨t.toNat,by omega⟩;rw[Int.toNat_natCast];exact ags z (by omega) x hx y J
 ·unfold pq Pb;simp[hb]
theorem Xi(b:Int)(y:Nat):Pb b 0 y=false:=by unfold Pb;simp
theorem acM(h:aU b t=0):aV (SQ b (aD b t).toNat) (daE (aD b t).toNat) (aD b t).toNat=iE b t/\aY (SQ b (aD b t).toNat) (daE (aD b t).toNat) (aD b t).toNat=nM b t:=by
 obtain⟨m1,z⟩:=fQ h;have hc:=λx y=>@acL b t h x y;generalize hm:(aD b t).toNat=m at m1 z hc⊢;unfold iE nM;rw[yP h,yP h,hm];have Z:=WC b t.toNat m1 z;have hH: ∀s,s<m+2->((List.range (m+2)).map λs=>s-1).getD s 0=s-1:=λs hs=>by simp[List.getD,hs]
 refine kM (NU b m1 z) Z _ _ λw hw=>?_;have hr:=jr Z w hw;rw[afS Z ((List.range (m+2)).map λs=>s-1) (by rw[hH 0 (by omega)]) (λs hs j J=>?_) w hw,hH _ hr,Gt hr,Xg (by omega)]
 ·unfold Xe;congr 1;apply propext;omega
 ·rw[aiA hs J,hH s hs,hH _ (acu J),aiz (by omega) J]
  unfold arT;by_cases e1:s=m+1
  ·subst e1;rw[yP rfl,yN (by omega)];omega
  ·rw[yN e1,yP (show s-1<m by omega)]
   by_cases e0:s=0
   ·subst e0;rw[yN (by omega),Xi,yN (by decide)];omega
   ·have e:((s:Int)-1)=((s-1:Nat):Int):=by omega
    rw[e,hc (s-1) j (by omega) J];by_cases U:Pb b (s-1) j=true
    ·rw[yP ⟨by omega,U⟩,yP U];omega
    ·rw[yN (λh=>U h.2),yN U];omega
theorem agt(h:aU b t=0):bP b t (SQ b (aD b t).toNat) ((aD b t).toNat+1)=0:=by obtain⟨m1,z⟩:=fQ h;exact jk h (NU b m1 z) (by omega)
def xu(C:zI)(f:Nat->Int):Nat->Int
 |0=>0
 |k+1=>if 0<C.getD k 0 then xu C f k+C.getD k 0*f k else xu C f k
def xA(C:zI)(f:Nat->Int):Nat->Int
 |0=>0
 |k+1=>if 0<C.getD k 0 then xA C f k else xA C f k-C.getD k 0*f k
theorem acN(C:zI)(f:Nat->Int)(k:Nat):xu C f k-xA C f k=iH C f k:=by
 induction k with
 |zero=>rfl
 |succ k z=>
  unfold xu xA iH
  by_cases h:0<C.getD k 0
  ·rw[yP h,yP h];omega
  ·rw[yN h,yN h];omega
theorem acO(C:zI)(k:Nat):xu C (λ_=>1) k+xA C (λ_=>1) k=fT C k:=by
 induction k with
 |zero=>rfl
 |succ k z=>
  unfold xu xA fT nN
  by_cases h:0<C.getD k 0
  ·rw[yP h,yP h,yN (by omega)];omega
  ·rw[yN h,yN h]
   split<;>omega
theorem qz{C:zI}{f g:Nat->Int}: ∀{k:Nat},(∀i,i<k->f i<=g i)->xu C f k<=xu C g k/\xA C f k<=xA C g k
 |0,_=>⟨Int.le_refl _,Int.le_refl _⟩
 |k+1,h=>by
  have J:=qz (C:=C) (k:=k) (λi hi=>h i (by omega));have z:=h k (by omega);unfold xu xA;by_cases hc:0<C.getD k 0
  ·rw[yP hc,yP hc,yP hc,yP hc];have:=Int.mul_le_mul_of_nonneg_left z (Int.le_of_lt hc);omega
  ·rw[yN hc,yN hc,yN hc,yN hc];have:=Int.mul_le_mul_of_nonpos_left (a:=C.getD k 0) (by omega) z;omega
theorem aiB(C:zI)(f g:Nat->Int)(k:Nat):xu C (λi=>f i+g i) k=xu C f k+xu C g k/\xA C (λi=>f i+g i) k=xA C f k+xA C g k:=by
 induction k with
 |zero=>exact⟨rfl,rfl⟩
 |succ k z=>
  unfold xu xA
  by_cases hc:0<C.getD k 0
  ·rw[yP hc,yP hc,yP hc,yP hc,yP hc,yP hc,Int.mul_add]
   omega
  ·rw[yN hc,yN hc,yN hc,yN hc,yN hc,yN hc,Int.mul_add]
   omega
theorem agu(C:zI)(k:Nat):xu C (λ_=>0) k=0/\xA C (λ_=>0) k=0:=by
 induction k with
 |zero=>exact⟨rfl,rfl⟩
 |succ k z=>
  unfold xu xA
  by_cases hc:0<C.getD k 0
  ·rw[yP hc,yP hc];omega
  ·rw[yN hc,yN hc];omega
theorem acP(C:zI)(K:Int)(k:Nat):xu C (λ_=>K) k=K*xu C (λ_=>1) k/\xA C (λ_=>K) k=K*xA C (λ_=>1) k:=by
 induction k with
 |zero=>exact⟨by simp[xu],by simp[xA]⟩
 |succ k z=>
  unfold xu xA
  by_cases hc:0<C.getD k 0
  ·rw[yP hc,yP hc,yP hc,yP hc,Int.mul_add,Int.mul_one,Int.mul_comm (C.getD k 0) K]
   omega
  ·rw[yN hc,yN hc,yN hc,yN hc,Int.mul_sub,Int.mul_one,Int.mul_comm (C.getD k 0) K]
   omega
theorem Xj{f:Nat->Int}(h: ∀i,i<k->0<=f i):0<=xu C f k/\0<=xA C f k:=by have h1:=qz (C:=C) (f:=λ_=>0) (g:=f) h;have h2:=agu C k;omega
def kY(C:zI):Int:=xu C (λ_=>1) C.length
def kZ(C:zI):Int:=xA C (λ_=>1) C.length
def pE(b:Int)(C:zI)(x:Int):Int:=xu C (pW b C.length x) C.length
def pU(b:Int)(C:zI)(x:Int):Int:=xA C (pW b C.length x) C.length
theorem udA(z:fT C C.length<=12):0<=kY C/\0<=kZ C/\kY C+kZ C<=12:=by have h1:=acO C C.length;have h2:=Xj (C:=C) (f:=λ_=>1) (k:=C.length) (λ_ _=>by decide);unfold kY kZ;omega
theorem zC(b:Int)(C:zI)(x:Int):pE b C x-pU b C x=iT b C x:=acN _ _ _
theorem yt(h2:b<=6)(C:zI)(x:Int):0<=pE b C x/\0<=pU b C x/\pE b C x<=(au b-1)*kY C/\pU b C x<=(au b-1)*kZ C:=by have h1:=Xj (C:=C) (f:=pW b C.length x) (k:=C.length) (λi _=>(nX b h2 C.length x i).1);have h3:=qz (C:=C) (f:=pW b C.length x) (g:=λ_=>au b-1) (k:=C.length) (λi _=>by have:=nX b h2 C.length x i;show _<=au b-1;omega);have h4:=acP C (au b-1) C.length;unfold pE pU kY kZ;omega
theorem Xk{l x:Int}(h:pq 1 C.length l x=false):pE 1 C l+pE 1 C x<=kY C/\pU 1 C l+pU 1 C x<=kZ C:=by
 have z:au 1=2:=by decide
 have h1:=aiB C (pW 1 C.length l) (pW 1 C.length x) C.length
 have h3:=qz (C:=C) (f:=λi=>pW 1 C.length l i+pW 1 C.length x i) (g:=λ_=>1) (k:=C.length) (λi hi=>by
  have J:=nX 1 (by decide) C.length l i;have U:=nX 1 (by decide) C.length x i;show pW 1 C.length l i+pW 1 C.length x i<=1;rw[z]at J U;apply Decidable.byContradiction;intro hn;have Z:pW 1 C.length l i=1:=by omega
  have e2:pW 1 C.length x i=1:=by omega
  have:pq 1 C.length l x=true:=by unfold pq;rw[List.any_eq_true];exact⟨i,List.mem_range.2 hi,by simp[Z,e2]⟩
  rw[h]at this;cases this)
 unfold pE pU kY kZ;omega
def Zo(a b:Int):Nat->Int
 |0=>a
 |n+1=>Zo b (a+b) n
theorem Xl: ∀(n:Nat) (a b:Int),0<=a->0<=b->b<=Zo a b (n+1)
 |0,_,_,_,_=>Int.le_refl _
 |n+1,a,b,z,hb=>by have:=Xl n b (a+b) hb (by omega);show b<=Zo b (a+b) (n+1);omega
def pF:Nat->Int->Int->Int->Int
 |0,low,_,_=>low
 |k+1,low,a,b=>if 0<=a/\0<=b then(if b<low then b else low)else if a<=0/\b<=0 then -2199023255552 else pF k (if b<low then b else low) b (a+b)
def Jg(k:Nat)(a b:Int):Prop:=1<=k/\(¬(0<=a/\0<=b)-> ¬(a<=0/\b<=0)->2+nN a+nN b<=k)
theorem yu{a:Int}(h:Jg (k+1) a b)(h1: ¬(0<=a/\0<=b))(h2: ¬(a<=0/\b<=0)):Jg k b (a+b):=by obtain⟨-,h3⟩:=h;have h4:=h3 h1 h2;unfold nN at h4;refine⟨by split at h4<;>split at h4<;>omega,λh5 z=>?_⟩;unfold nN;split at h4<;>split at h4<;>split<;>split<;>omega
theorem QM: ∀(k:Nat) (low a b:Int),Jg k a b->pF k low a b= -2199023255552\/(pF k low a b<=low/\ ∀n,pF k low a b<=Zo a b (n+1))
 |0,_,_,_,h=>absurd h.1 (by decide)
 |k+1,low,a,b,h=>by
  unfold pF;by_cases h1:0<=a/\0<=b
  ·rw[yP h1];refine .inr ⟨by split<;>omega,λn=>?_⟩;have:=Xl n a b h1.1 h1.2;split<;>omega
  ·rw[yN h1]
   by_cases h2:a<=0/\b<=0
   ·rw[yP h2];exact .inl rfl
   ·rw[yN h2]
    rcases QM k (if b<low then b else low) b (a+b) (yu h h1 h2)with h3|⟨h3,h4⟩
    ·exact .inl h3
    ·refine .inr ⟨by split at h3<;>split<;>omega,λn=>?_⟩
     cases n with
     |zero=>
      show _<=b
      split at h3<;>split<;>omega
     |succ n=>exact h4 n
def lJ(a more:Int):Int:=pF 2000 a a (a+more)
theorem QN{a:Int}(h1: -900<=a/\a<=900)(h2: -900<=a+more/\a+more<=900):Jg 2000 a (a+more):=⟨by decide,λ_ _=>by unfold nN;split<;>split<;>omega⟩
theorem QO{a:Int}(h1: -900<=a/\a<=900)(h2: -900<=a+more/\a+more<=900):lJ a more= -2199023255552\/ ∀n,lJ a more<=Zo a (a+more) n:=by
 rcases QM 2000 a a (a+more) (QN h1 h2)with h|⟨h,h3⟩
 ·exact .inl h
 ·refine .inr λn=>?_
  cases n with
  |zero=>exact h
  |succ n=>exact h3 n
theorem QS{a:Int}(h1:0<=a)(h2:0<=a+more):lJ a more=if a+more<a then a+more else a:=by unfold lJ;rw[show(2000:Nat)=1999+1 from rfl];unfold pF;rw[yP ⟨h1,h2⟩]
theorem NV{r dn:Int->Int}{D:Int}{t:Nat}(h1: ∀z,-dn z<=r z)(h2: ∀l z,pq 1 t l z=false->dn l+dn z<=D):
  ∀(v:zI) (x y l a b:Int),a<=x-D->b<=x+y-2*D+dn l->fJ 1 t (l::v)=false->Zo a b v.length<=(v.foldl (λ(p:Int × Int) z=>(p.1+p.2+r z,p.1+r z)) (x,y)).1-D
 |[],_,_,_,_,_,U,_,_=>U
 |z::v,x,y,l,a,b,U,hb,Z=>by have J:(pq 1 t l z||fJ 1 t (z::v))=false:=Z;rw[Bool.or_eq_false_iff]at J;have e1:=h1 z;have e2:=h2 l z J.1;exact NV h1 h2 v (x+y+r z) (x+r z) z b (a+b) (by omega) (by omega) J.2
structure vY where
 f:Int
 s:Int
 y:Int
 l:Int
def jh(c:Int)(less:Bool)(p:vY)(low z:Int):vY:=
 if less=true/\z< -c then⟨1,0,0,p.l⟩else if z< -c\/low> -c\/(less=true/\low= -c)then⟨2,0,0,0⟩else p
def Ef(C:zI)(s:Int):Int:=if kZ C<=s then s else -1099511627776
def zD(C:zI)(s:Int):Int:=if s<= -kY C then s else 1099511627776
def lQ(b:Int)(C:zI)(c:Int)(less:Bool)(p:vY)(x:Nat):vY:=
 if p.f=0 then jh c less ⟨0,p.s*b+iT b C x,0,0⟩ (Ef C (p.s*b+iT b C x)) (zD C (p.s*b+iT b C x))else p
def Jh(C:zI)(s y:Int)(x:Nat):Int:=lJ (s-kZ C) (y-kZ C+pU 1 C x)+kZ C
def Cm(C:zI)(s y:Int)(x:Nat):Int:=-lJ (-s-kY C) (-y-kY C+pE 1 C x)-kY C
def pG(C:zI)(c:Int)(less:Bool)(p:vY)(x:Nat):vY:=
 if p.f=2\/p.l.toNat&&&x≠0 then⟨2,0,0,0⟩else if p.f=1 then⟨1,0,0,x⟩else
  jh c less ⟨0,p.s+p.y+iT 1 C x,p.s+iT 1 C x,x⟩ (Jh C (p.s+p.y+iT 1 C x) (p.s+iT 1 C x) x) (Cm C (p.s+p.y+iT 1 C x) (p.s+iT 1 C x) x)
def rG(b:Int)(C:zI)(c:Int)(less:Bool)(p:vY)(x:Nat):vY:=if b=1 then pG C c less p x else lQ b C c less p x
def Cn(c:Int)(less:Bool)(p:vY):Bool:=decide (p.f=1)||(decide (p.f=0)&&jQ c less p.s)
def FU(b:Int)(p:vY):Prop:=
 (p.f=0/\(-107<=p.s/\p.s<=107)/\(0<=p.l/\p.l<64)/\(b≠1->p.y=0/\p.l=0)/\(b=1-> -272<=13*p.s-21*p.y/\13*p.s-21*p.y<=272))\/(p.f=1/\p.s=0/\p.y=0/\0<=p.l/\p.l<64/\(b≠1->p.l=0))\/(p.f=2/\p.s=0/\p.y=0/\p.l=0)
theorem Co{p:vY}(h:FU b p):(0<=p.f/\p.f<=2)/\(-107<=p.s/\p.s<=107)/\(-108<=p.y/\p.y<=108)/\0<=p.l/\p.l<64:=by
 rcases h with⟨h1,h2,h3,h4,h5⟩|⟨h1,h2,h3,h4,h5,-⟩|⟨h1,h2,h3,h4⟩
 ·by_cases hb:b=1
  ·have:=h5 hb;omega
  ·have:=h4 hb;omega
 ·omega
 ·omega
def ptN(p:vY):Nat:=if p.f=0 then(((p.s+108)*217+(p.y+108))*64+p.l).toNat else(3013696+64*(p.f-1)+p.l).toNat
def bZ(n:Nat):vY:=if n<3013696 then⟨0,((n/64/217:Nat):Int)-108,((n/64%217:Nat):Int)-108,((n%64:Nat):Int)⟩else⟨1+(((n-3013696)/64:Nat):Int),0,0,(((n-3013696)%64:Nat):Int)⟩
theorem Gw{p:vY}(h:FU b p):bZ (ptN p)=p/\ptN p<3013824:=by
 have hb:=Co h;obtain⟨f,s,y,l⟩:=p;simp only at hb;unfold ptN bZ;by_cases z:f=0
 ·subst z
  have e:(((s+108)*217+(y+108))*64+l).toNat=((s+108).toNat*217+(y+108).toNat)*64+l.toNat:=by omega
  simp only[if_true];rw[e];have h1:(((s+108).toNat*217+(y+108).toNat)*64+l.toNat)/64=(s+108).toNat*217+(y+108).toNat:=by omega
  have h2:(((s+108).toNat*217+(y+108).toNat)*64+l.toNat)%64=l.toNat:=by omega
  have h3:((s+108).toNat*217+(y+108).toNat)/217=(s+108).toNat:=by omega
  have h4:((s+108).toNat*217+(y+108).toNat)%217=(y+108).toNat:=by omega
  have h5:((s+108).toNat*217+(y+108).toNat)*64+l.toNat<3013696:=by omega
  rw[yP h5,h1,h2,h3,h4];refine⟨?_,by omega⟩;rw[show(((s+108).toNat:Nat):Int)-108=s by omega,show(((y+108).toNat:Nat):Int)-108=y by omega,show((l.toNat:Nat):Int)=l by omega]
 ·have hs:s=0/\y=0:=by
   rcases h with⟨h1,-⟩|⟨h1,h2,h3,-⟩|⟨h1,h2,h3,-⟩
   ·exact absurd h1 z
   ·exact⟨h2,h3⟩
   ·exact⟨h2,h3⟩
  obtain⟨rfl,rfl⟩:=hs
  have e:(3013696+64*(f-1)+l).toNat=3013696+(64*(f-1).toNat+l.toNat):=by omega
  simp only[z,if_false]
  rw[e,yN (by omega),show 3013696+(64*(f-1).toNat+l.toNat)-3013696=64*(f-1).toNat+l.toNat by omega]
  have h1:(64*(f-1).toNat+l.toNat)/64=(f-1).toNat:=by omega
  have h2:(64*(f-1).toNat+l.toNat)%64=l.toNat:=by omega
  rw[h1,h2]
  refine⟨?_,by omega⟩
  rw[show 1+(((f-1).toNat:Nat):Int)=f by omega,show((l.toNat:Nat):Int)=l by omega]
theorem Ji(b:Int):FU b ⟨0,0,0,0⟩:=.inl ⟨rfl,by decide,by decide,λ_=>⟨rfl,rfl⟩,λ_=>by decide⟩
theorem Jj:bZ 1506816=⟨0,0,0,0⟩/\ptN ⟨0,0,0,0⟩=1506816:=by
 have h:ptN ⟨0,0,0,0⟩=1506816:=by decide
 refine⟨?_,h⟩;rw[<-h];exact(Gw (Ji 1)).1
theorem vZ(c:Int)(less:Bool)(p:vY)(low z:Int):
  (jh c less p low z=⟨1,0,0,p.l⟩/\less=true/\z< -c)\/(jh c less p low z=⟨2,0,0,0⟩/\((less=false/\z< -c)\/low> -c\/(less=true/\low= -c)))\/(jh c less p low z=p/\ -c<=z/\low<= -c):=by
 unfold jh
 by_cases h1:less=true/\z< -c
 ·rw[yP h1];exact .inl ⟨rfl,h1⟩
 ·rw[yN h1]
  by_cases h2:z< -c\/low> -c\/(less=true/\low= -c)
  ·rw[yP h2]
   refine .inr (.inl ⟨rfl,?_⟩)
   rcases h2 with h2|h2
   ·refine .inl ⟨?_,h2⟩
    cases less
    ·rfl
    ·exact absurd ⟨rfl,h2⟩ h1
   ·exact .inr h2
  ·rw[yN h2]
   exact .inr (.inr ⟨rfl,by omega,by omega⟩)
section
variable {b:Int} {C:zI} {c:Int} {less:Bool} {p:vY} {x:Nat}
theorem LZ(h1:1<=b)(h2:b<=6)(Z:fT C C.length<=12)(hc: -60<=c/\c<=60)(hx:x<64)(h:FU b p):FU b (rG b C c less p x):=by
 have hA:=udA Z;have a1:=NH h2 Z (x:Int);have hl:=Co h;unfold rG;by_cases hb:b=1
 ·subst hb
  rw[yP rfl];unfold pG;by_cases z:p.f=2\/p.l.toNat&&&x≠0
  ·rw[yP z];exact .inr (.inr ⟨rfl,rfl,rfl,rfl⟩)
  ·rw[yN z]
   by_cases d2:p.f=1
   ·rw[yP d2];exact .inr (.inl ⟨rfl,rfl,rfl,by show 0<=(x:Int);omega,by show(x:Int)<64;omega,λh=>absurd rfl h⟩)
   ·rw[yN d2]
    rcases h with⟨k1,k2,k3,k4,k5⟩|⟨k1,-⟩|⟨k1,-⟩
    ·have k6:=k5 rfl
     have hk:au 1=2:=(by decide);rw[hk]at a1;have a2:=yt (b:=1) (by decide) C (x:Int);rw[hk]at a2;generalize iT 1 C (x:Int)=r at a1⊢;rcases vZ c less ⟨0,p.s+p.y+r,p.s+r,x⟩ (Jh C (p.s+p.y+r) (p.s+r) x) (Cm C (p.s+p.y+r) (p.s+r) x)with⟨e,-⟩|⟨e,-⟩|⟨e,J,U⟩
     ·rw[e];exact .inr (.inl ⟨rfl,rfl,rfl,by show 0<=(x:Int);omega,by show(x:Int)<64;omega,λh=>absurd rfl h⟩)
     ·rw[e];exact .inr (.inr ⟨rfl,rfl,rfl,rfl⟩)
     ·rw[e]
      refine .inl ⟨rfl,⟨?_,?_⟩,⟨by show 0<=(x:Int);omega,by show(x:Int)<64;omega⟩,λh=>absurd rfl h,λ_=>by show -272<=13*(p.s+p.y+r)-21*(p.s+r)/\13*(p.s+p.y+r)-21*(p.s+r)<=272;omega⟩
      ·show -107<=p.s+p.y+r;apply Decidable.byContradiction;intro hn;have hy:p.s+r<= -54:=(by omega);unfold Cm at J;rw[QS (by omega) (by omega)]at J;split at J<;>omega
      ·show p.s+p.y+r<=107;apply Decidable.byContradiction;intro hn;have hy:54<=p.s+r:=(by omega);unfold Jh at U;rw[QS (by omega) (by omega)]at U;split at U<;>omega
    ·exact absurd k1 d2
    ·exact absurd (.inl k1) z
 ·rw[yN hb]
  unfold lQ;by_cases z:p.f=0
  ·rw[yP z]
   generalize p.s*b+iT b C (x:Int)=s;rcases vZ c less ⟨0,s,0,0⟩ (Ef C s) (zD C s)with⟨e,-⟩|⟨e,-⟩|⟨e,J,U⟩
   ·rw[e];exact .inr (.inl ⟨rfl,rfl,rfl,Int.le_refl _,by show(0:Int)<64;decide,λ_=>rfl⟩)
   ·rw[e];exact .inr (.inr ⟨rfl,rfl,rfl,rfl⟩)
   ·rw[e]
    refine .inl ⟨rfl,⟨?_,?_⟩,by show(0:Int)<=0/\(0:Int)<64;decide,λ_=>⟨rfl,rfl⟩,λh=>absurd h hb⟩
    ·show -107<=s;unfold zD at J;split at J<;>omega
    ·show s<=107;unfold Ef at U;split at U<;>omega
  ·rw[yN z];exact h
end
def Aj(w:zI):Int:=w.getLastD 0
theorem rH(w:zI)(x:Int):Aj (w++[x])=x:=by unfold Aj;rw[List.getLastD_eq_getLast?];simp
theorem acQ(b:Int)(tr:Nat)(w:zI)(x:Int)(v:zI):fJ b tr (w++x::v)=(fJ b tr (w++[x])||fJ b tr (x::v)):=by
 induction w with
 |nil=>simp[fJ]
 |cons z w U=>
  cases w with
  |nil=>simp[fJ]
  |cons J w=>
   show(pq b tr z J||fJ b tr (J::w++x::v))=((pq b tr z J||fJ b tr (J::w++[x]))||fJ b tr (x::v))
   rw[U,Bool.or_assoc]
section
variable {b:Int} {C:zI} {c:Int} {less:Bool}
theorem Xm(z:aU b (C.length:Int)=0){x y:Nat}(hx:x<jH b C)(J:y<jH b C):pq b C.length (x:Int) (y:Int)=Pb b x y:=by have:=acL z hx J;rwa [Int.toNat_natCast]at this
theorem acR(z:aU b (C.length:Int)=0){y:Int}(J:0<=y/\y<(jH b C:Int)):pq b C.length 0 y=false:=by obtain⟨m1,-⟩:=fQ z;have h0:0<jH b C:=m1;have:=Xm z h0 (show y.toNat<jH b C by omega);rw[Xi,show((y.toNat:Nat):Int)=y by omega]at this;exact this
theorem Zp(z:aU b (C.length:Int)=0){w:zI}(J:fA (jH b C) w):fJ b C.length (0::w)=fJ b C.length w:=by
 cases w with
 |nil=>rfl
 |cons y w=>
  show(pq b C.length 0 y||fJ b C.length (y::w))=_
  rw[acR z (J y (by simp))]
  rfl
theorem NY(z:aU b (C.length:Int)=0){w v:zI}(hv:fA (jH b C) v):fJ b C.length (w++v)=(fJ b C.length w||fJ b C.length (Aj w::v)):=by
 cases w using bB with
 |h0=>
  show fJ b C.length v=(false||fJ b C.length (0::v))
  rw[Zp z hv];rfl
 |h1 u x _=>
  rw[rH,List.append_assoc]
  exact acQ b C.length u x v
theorem sV(w:zI):dU b (C.length:Int) w= !fJ b C.length w:=(zq rfl w).symm
def Cq(b:Int)(C:zI)(p:Int × Int)(v:zI):Int × Int:=v.foldl (λp l=>iM b p (iT b C l)) p
theorem zF(w v:zI):nS b C (w++v)=Cq b C (nS b C w) v:=by simp[nS,Cq,List.foldl_append]
theorem L8(h1:1<=b)(h2:b<=6)(hb:b≠1): ∀(v:zI) (p:Int × Int) (s:Int),kZ C<=s->s<=p.1->s<=(Cq b C p v).1
 |[],_,_,_,h=>h
 |z::v,p,s,h,Z=>by
  have J:=yt h2 C z;have hs:=zC b C z;have U:au b=b:=by unfold au;split<;>omega
  rw[U]at J;have e:Cq b C p (z::v)=Cq b C (p.1*b+iT b C z,0) v:=by show Cq b C (iM b p (iT b C z)) v=_;unfold iM;rw[yN hb]
  rw[e];refine L8 h1 h2 hb v _ s h ?_;show s<=p.1*b+iT b C z;have h5:(b-1)*kZ C<=(b-1)*p.1:=Int.mul_le_mul_of_nonneg_left (by omega) (by omega);rw[Int.sub_mul,Int.sub_mul]at h5;rw[Int.sub_mul,Int.sub_mul]at J;rw[Int.mul_comm b p.1]at h5;omega
theorem Jk(h1:1<=b)(h2:b<=6)(hb:b≠1): ∀(v:zI) (p:Int × Int) (s:Int),s<= -kY C->p.1<=s->(Cq b C p v).1<=s
 |[],_,_,_,h=>h
 |z::v,p,s,h,Z=>by
  have J:=yt h2 C z;have hs:=zC b C z;have U:au b=b:=by unfold au;split<;>omega
  rw[U]at J;have e:Cq b C p (z::v)=Cq b C (p.1*b+iT b C z,0) v:=by show Cq b C (iM b p (iT b C z)) v=_;unfold iM;rw[yN hb]
  rw[e];refine Jk h1 h2 hb v _ s h ?_;show p.1*b+iT b C z<=s;have h5:(b-1)*p.1<=(b-1)*(-kY C):=Int.mul_le_mul_of_nonneg_left (by omega) (by omega);rw[Int.sub_mul,Int.sub_mul,Int.mul_neg]at h5;rw[Int.sub_mul,Int.sub_mul]at J;rw[Int.mul_comm b p.1]at h5;omega
theorem QT(p:Int × Int)(v:zI):Cq 1 C p v=v.foldl (λ(p:Int × Int) z=>(p.1+p.2+iT 1 C z,p.1+iT 1 C z)) p:=by unfold Cq iM;simp
theorem QU(r:Int->Int): ∀(v:zI) (x y:Int),(v.foldl (λ(p:Int × Int) z=>(p.1+p.2+ -r z,p.1+ -r z)) (-x,-y)).1= -(v.foldl (λ(p:Int × Int) z=>(p.1+p.2+r z,p.1+r z)) (x,y)).1
 |[],_,_=>rfl
 |z::v,x,y=>by have:=QU r v (x+y+r z) (x+r z);show(v.foldl _ (-x+ -y+ -r z,-x+ -r z)).1= -(v.foldl _ (x+y+r z,x+r z)).1;rw[<-this];congr 2;rw[show -x+ -y+ -r z= -(x+y+r z)by omega,show -x+ -r z= -(x+r z)by omega]
theorem acS{x y l:Int}{v:zI}(hv:fJ 1 C.length (l::v)=false)(h1: -900<=x-kZ C/\x-kZ C<=900)(h2: -900<=x-kZ C+(y-kZ C+pU 1 C l)/\x-kZ C+(y-kZ C+pU 1 C l)<=900):
  lJ (x-kZ C) (y-kZ C+pU 1 C l)= -2199023255552\/lJ (x-kZ C) (y-kZ C+pU 1 C l)+kZ C<=(Cq 1 C (x,y) v).1:=by
 rcases QO h1 h2 with h|h
 ·exact .inl h
 ·refine .inr ?_
  have J:=NV (r:=iT 1 C) (dn:=pU 1 C) (D:=kZ C) (t:=C.length) (λz=>by have:=zC 1 C z;have:=yt (b:=1) (by decide) C z;omega) (λl z h=>(Xk h).2) v x y l (x-kZ C) (x-kZ C+(y-kZ C+pU 1 C l)) (Int.le_refl _) (by omega) hv
  rw[QT]
  have:=h v.length
  omega
theorem Zq{x y l:Int}{v:zI}(hv:fJ 1 C.length (l::v)=false)(h1: -900<= -x-kY C/\ -x-kY C<=900)(h2: -900<= -x-kY C+(-y-kY C+pE 1 C l)/\ -x-kY C+(-y-kY C+pE 1 C l)<=900):
  lJ (-x-kY C) (-y-kY C+pE 1 C l)= -2199023255552\/(Cq 1 C (x,y) v).1<= -lJ (-x-kY C) (-y-kY C+pE 1 C l)-kY C:=by
 rcases QO h1 h2 with h|h
 ·exact .inl h
 ·refine .inr ?_
  have J:=NV (r:=λz=>-iT 1 C z) (dn:=pE 1 C) (D:=kY C) (t:=C.length) (λz=>by have:=zC 1 C z;have:=yt (b:=1) (by decide) C z;show -pE 1 C z<= -iT 1 C z;omega) (λl z h=>(Xk h).1) v (-x) (-y) l (-x-kY C) (-x-kY C+(-y-kY C+pE 1 C l)) (Int.le_refl _) (by omega) hv
  rw[QU (iT 1 C) v x y]at J
  rw[QT]
  have:=h v.length
  omega
def L9(b:Int)(C:zI)(c:Int)(less:Bool)(w:zI)(p:vY):Prop:=
 FU b p/\(p.f=0->fJ b C.length w=false/\nS b C w=(p.s,p.y)/\(b=1->p.l=Aj w))/\
 (p.f=1->less=true/\fJ b C.length w=false/\(b=1->p.l=Aj w)/\ ∀v,fA (jH b C) v->fJ b C.length (w++v)=false->(nS b C (w++v)).1< -c)/\
 (p.f=2-> ∀v,fA (jH b C) v->sQ b C c less (w++v)=false)
theorem Ma{w:zI}{p:vY}(h:L9 b C c less w p):Cn c less p=sQ b C c less w:=by
 obtain⟨h0,h1,h2,h3⟩:=h;unfold Cn;rcases h0 with⟨k,-⟩|⟨k,-⟩|⟨k,-⟩
 ·obtain⟨J,z,-⟩:=h1 k;unfold sQ;rw[sV,J,z,k];simp
 ·obtain⟨J,z,-,a3⟩:=h2 k;have:=a3 [] (λ_ h=>by simp at h) (by rw[List.append_nil];exact z);rw[List.append_nil]at this;unfold sQ;rw[sV,z,k,J];unfold jQ;simp;omega
 ·have:=h3 k [] (λ_ h=>by simp at h);rw[List.append_nil]at this;rw[this,k];simp
theorem QV:L9 b C c less [] ⟨0,0,0,0⟩:=⟨Ji b,λ_=>⟨rfl,rfl,λ_=>rfl⟩,λh=>absurd h (by decide),λh=>absurd h (by decide)⟩
theorem Cr{w:zI}(h:fJ b C.length w=true):sQ b C c less w=false:=by unfold sQ;rw[sV,h];rfl
theorem wh(hb:b≠1)(tr:Nat): ∀w:zI,fJ b tr w=false
 |[]=>rfl
 |[_]=>rfl
 |x::y::r=>by show(pq b tr x y||fJ b tr (y::r))=false;rw[wh hb tr (y::r)];unfold pq;simp[hb]
theorem Jl{w:zI}{p:vY}{low z:Int}(hc: -60<=c/\c<=60)(J:FU b (jh c less p low z))(hf:p.f=0)(h0:fJ b C.length w=false)(h1:nS b C w=(p.s,p.y))(h2:b=1->p.l=Aj w)(a1:low<= -100\/ ∀v,fA (jH b C) v->fJ b C.length (w++v)=false->low<=(nS b C (w++v)).1)(U:100<=z\/ ∀v,fA (jH b C) v->fJ b C.length (w++v)=false->(nS b C (w++v)).1<=z):L9 b C c less w (jh c less p low z):=by
 rcases vZ c less p low z with⟨e,e1,e2⟩|⟨e,e1⟩|⟨e,-⟩
 ·rw[e]at J⊢
  refine⟨J,λh=>absurd h (by show¬(1:Int)=0;decide),λ_=>⟨e1,h0,h2,λv hv hb=>?_⟩,λh=>absurd h (by show¬(1:Int)=2;decide)⟩;rcases U with h|h
  ·omega
  ·have:=h v hv hb;omega
 ·rw[e]at J⊢
  refine⟨J,λh=>absurd h (by show¬(2:Int)=0;decide),λh=>absurd h (by show¬(2:Int)=1;decide),λ_ v hv=>?_⟩;by_cases hb:fJ b C.length (w++v)=true
  ·exact Cr hb
  ·have Z:fJ b C.length (w++v)=false:=by simpa using hb
   unfold sQ jQ;rw[sV,Z];rcases e1 with⟨k1,k2⟩|k2|⟨k1,k2⟩
   ·rcases U with h|h
    ·omega
    ·have:=h v hv Z;subst k1;simp;omega
   ·rcases a1 with h|h
    ·omega
    ·have:=h v hv Z;cases less<;>simp<;>omega
   ·rcases a1 with h|h
    ·omega
    ·have:=h v hv Z;subst k1;simp;omega
 ·rw[e]at J⊢;refine⟨J,λ_=>⟨h0,h1,h2⟩,λh=>absurd (hf.symm.trans h) (by decide),λh=>absurd (hf.symm.trans h) (by decide)⟩
theorem Uu{w:zI}{p:vY}{x:Nat}(hM:aU b (C.length:Int)=0)(a8:fT C C.length<=12)(hc: -60<=c/\c<=60)(hw:fA (jH b C) w)(hx:x<jH b C)(h:L9 b C c less w p):L9 b C c less (w++[(x:Int)]) (rG b C c less p x):=by
 obtain⟨h1,h2,-⟩:=bA hM;obtain⟨m1,b3⟩:=fQ hM;have b7:x<36:=Nat.lt_of_lt_of_le hx b3;have z:=LZ (c:=c) (less:=less) h1 h2 a8 hc (show x<64 by omega) h.1;obtain⟨k0,k1,k2,k3⟩:=h;have hA:=udA a8;have b1:fA (jH b C) [(x:Int)]:=λy hy=>by simp at hy;subst hy;omega
 have Z: ∀v,fA (jH b C) v->fA (jH b C) ((x:Int)::v):=λv hv=>gG.2 ⟨b1,hv⟩;have a6: ∀v:zI,w++[(x:Int)]++v=w++(x:Int)::v:=λv=>by simp
 have b8:=Co k0;unfold rG at z⊢;by_cases hb:b=1
 ·subst hb
  rw[yP rfl]at z⊢;unfold pG at z⊢
  have b4: ∀hl:p.l=Aj w,Aj w=((p.l.toNat:Nat):Int)/\p.l.toNat<jH 1 C:=λhl=>by
   refine⟨by omega,?_⟩;cases w using bB with
   |h0=>rw[hl];exact m1
   |h1 u y _=>
    rw[rH]at hl
    have:=hw y (by simp)
    omega
  have b0: ∀hl:p.l=Aj w,fJ 1 C.length w=false->fJ 1 C.length (w++[(x:Int)])=decide (p.l.toNat&&&x≠0):=λhl h0=>by rw[NY hM b1,h0];obtain⟨e1,e2⟩:=b4 hl;rw[e1];show(false||(pq 1 C.length ((p.l.toNat:Nat):Int) (x:Int)||false))=_;rw[Xm hM e2 hx];unfold Pb;simp
  by_cases U:p.f=2\/p.l.toNat&&&x≠0
  ·rw[yP U]at z⊢
   refine⟨z,λh=>absurd h (by show¬(2:Int)=0;decide),λh=>absurd h (by show¬(2:Int)=1;decide),λ_ v hv=>?_⟩;by_cases d3:p.f=2
   ·rw[a6];exact k3 d3 _ (Z v hv)
   ·have d4:p.l.toNat&&&x≠0:=U.resolve_left d3
    have hh:fJ 1 C.length w=false/\p.l=Aj w:=by
     rcases k0 with⟨q,-⟩|⟨q,-⟩|⟨q,-⟩
     ·exact⟨(k1 q).1,(k1 q).2.2 rfl⟩
     ·exact⟨(k2 q).2.1,(k2 q).2.2.1 rfl⟩
     ·exact absurd q d3
    have h5:=b0 hh.2 hh.1;rw[yT d4]at h5;refine Cr ?_;rw[NY hM hv,h5];rfl
  ·rw[yN U]at z⊢
   have d4: ¬(p.l.toNat&&&x≠0):=λh=>U (.inr h);have d5:p.f≠2:=λh=>U (.inl h);by_cases d2:p.f=1
   ·rw[yP d2]at z⊢;obtain⟨a1,a2,a3,a4⟩:=k2 d2;have h5:=b0 (a3 rfl) a2;rw[yF d4]at h5;exact⟨z,λh=>absurd h (by show¬(1:Int)=0;decide),λ_=>⟨a1,h5,λ_=>(rH _ _).symm,λv hv J=>by rw[a6]at J⊢;exact a4 _ (Z v hv) J⟩,λh=>absurd h (by show¬(1:Int)=2;decide)⟩
   ·rw[yN d2]at z⊢
    have d0:p.f=0:=(by omega);obtain⟨a1,a2,a3⟩:=k1 d0;have h5:=b0 (a3 rfl) a1;rw[yF d4]at h5;have hrun:nS 1 C (w++[(x:Int)])=(p.s+p.y+iT 1 C x,p.s+iT 1 C x):=(by rw[vV,a2];rfl);have b5:=NH h2 a8 (x:Int);have hk:au 1=2:=(by decide);have b6:=yt (b:=1) (by decide) C (x:Int);rw[hk]at b5 b6;have b2: ∀v,fA (jH 1 C) v->fJ 1 C.length (w++[(x:Int)]++v)=false->fJ 1 C.length ((x:Int)::v)=false:=λv hv J=>by rw[NY hM hv,h5,rH]at J;simpa using J
    refine Jl hc z rfl h5 hrun (λ_=>(rH _ _).symm) ?_ ?_
    ·unfold Jh
     by_cases a7:lJ (p.s+p.y+iT 1 C x-kZ C) (p.s+iT 1 C x-kZ C+pU 1 C x)= -2199023255552
     ·left;omega
     ·right
      intro v hv J;rw[zF,hrun];rcases acS (x:=p.s+p.y+iT 1 C x) (y:=p.s+iT 1 C x) (b2 v hv J) (by omega) (by omega)with h|h
      ·exact absurd h a7
      ·exact h
    ·unfold Cm
     by_cases a7:lJ (-(p.s+p.y+iT 1 C x)-kY C) (-(p.s+iT 1 C x)-kY C+pE 1 C x)= -2199023255552
     ·left;omega
     ·right
      intro v hv J;rw[zF,hrun];rcases Zq (x:=p.s+p.y+iT 1 C x) (y:=p.s+iT 1 C x) (b2 v hv J) (by omega) (by omega)with h|h
      ·exact absurd h a7
      ·exact h
 ·rw[yN hb]at z⊢
  unfold lQ at z⊢;by_cases U:p.f=0
  ·rw[yP U]at z⊢
   obtain⟨a1,a2,a3⟩:=k1 U;have hrun:nS b C (w++[(x:Int)])=(p.s*b+iT b C x,0):=(by rw[vV,a2];unfold iM;rw[yN hb]);refine Jl hc z rfl (wh hb _ _) hrun (λh=>absurd h hb) ?_ ?_
   ·unfold Ef
    by_cases hD:kZ C<=p.s*b+iT b C x
    ·rw[yP hD];exact .inr λv _ _=>by rw[zF,hrun];exact L8 h1 h2 hb v _ _ hD (Int.le_refl _)
    ·rw[yN hD];left;decide
   ·unfold zD
    by_cases hD:p.s*b+iT b C x<= -kY C
    ·rw[yP hD];exact .inr λv _ _=>by rw[zF,hrun];exact Jk h1 h2 hb v _ _ hD (Int.le_refl _)
    ·rw[yN hD];left;decide
  ·rw[yN U]at z⊢;refine⟨z,λh=>absurd h U,λh=>?_,λh v hv=>by rw[a6];exact k3 h _ (Z v hv)⟩;obtain⟨a1,a2,a3,a4⟩:=k2 h;exact⟨a1,wh hb _ _,λh=>absurd h hb,λv hv J=>by rw[a6]at J⊢;exact a4 _ (Z v hv) J⟩
def Xn(b:Int)(C:zI)(c:Int)(less:Bool)(s l:Nat):Nat:=ptN (rG b C c less (bZ s) l)
theorem NZ(h:Dn b C c=0)(less:Bool)(w:zI)(hw:fA (jH b C) w):L9 b C c less w (bZ (fZ (Xn b C c less) 1506816 w))/\fZ (Xn b C c less) 1506816 w=ptN (bZ (fZ (Xn b C c less) 1506816 w)):=by
 obtain⟨hM,J,hc⟩:=uO h;induction w using bB with
 |h0=>
  have e:fZ (Xn b C c less) 1506816 []=1506816:=rfl
  rw[e,Jj.1]
  exact⟨QV,Jj.2.symm⟩
 |h1 w y ih=>
  obtain⟨z,U⟩:=gG.1 hw
  have hy:=U y (by simp)
  obtain⟨Z,i2⟩:=ih z
  have hs:=Uu (x:=y.toNat) hM J hc z (by omega) Z
  rw[show((y.toNat:Nat):Int)=y by omega]at hs
  have hu:=Gw hs.1
  rw[jV]
  unfold Xn at Z i2 hs hu⊢
  rw[hu.1]
  exact⟨hs,rfl⟩
def lpL(b:Int)(C:zI)(c:Int)(less:Bool):List Nat:=aM (Xn b C c less) (jH b C) 1506816 3013824
def Uv(b:Int)(C:zI)(c:Int)(less:Bool):zL:=gN (Xn b C c less) (jH b C) (lpL b C c less)
def lpE(b:Int)(C:zI)(c:Int)(less:Bool):zB:=gE (λs=>Cn c less (bZ s)) (lpL b C c less)
theorem acT(h:Dn b C c=0)(less:Bool)(w:zI)(z:fA (jH b C) w):fZ (Xn b C c less) 1506816 w<3013824:=by obtain⟨h1,h2⟩:=NZ h less w z;have:=(Gw h1.1).2;omega
theorem aiC(h:Dn b C c=0)(less:Bool):ku (Xn b C c less) (jH b C) (lpL b C c less)/\0<(lpL b C c less).length/\(lpL b C c less).length<=3013824/\(lpL b C c less).getD 0 0=1506816:=by have:=DY (d:=Xn b C c less) (m:=jH b C) (f:=1506816) (B:=3013824) (λw z=>acT h less w z);unfold lpL;exact this
theorem aiD(h:Dn b C c=0)(less:Bool):aK (jH b C) (Uv b C c less).length (Uv b C c less)/\ ∀w,fA (jH b C) w->gP (Uv b C c less) (lpE b C c less) w=sQ b C c less w:=by
 obtain⟨Z,-⟩:=uO h;obtain⟨m1,z⟩:=fQ Z;obtain⟨k1,k2,k3,k4⟩:=aiC h less;constructor
 ·have hg:=sH k1 k2 (by omega) m1 z;have e:(Uv b C c less).length=(lpL b C c less).length:=kQ _ _ _;rw[e];exact hg
 ·intro w J;have U:=Ic (p:=λs=>Cn c less (bZ s)) k1 k2 w J;rw[k4]at U;rw[<-Ma (NZ h less w J).1];exact U
end
def N8(m:Nat)(N N2 z:zL):zL:=eU (dP (eU N N2 m)) z m
def inQ(how:Int)(m:Nat)(N N2 z:zL)(E J U:zB):zB:=jq 8 (dP (eU N N2 m)).length z.length (jP (eU N N2 m) (jq how N.length N2.length E J)) U
theorem Zr{P:zL}(hG:aK m n P):(dP P).length<=n:=by rw[xS hG];exact oK hG
theorem N9{U z:Nat}{N3:zL}(hG:aK m n N)(a2:aK m U N2)(Z:aK m z N3)(hn:n*U*z<=4000000):n*U<=4000000/\(dP (eU N N2 m)).length*z<=4000000/\aK m (dP (eU N N2 m)).length (dP (eU N N2 m))/\aK m ((dP (eU N N2 m)).length*z) (N8 m N N2 N3):=by have h3:=Z.2.1;have a1:n*U<=4000000:=Nat.le_trans (Nat.le_mul_of_pos_right _ (by omega)) hn;have hP:=gW hG a2 a1;have hc:=Zr hP;have hl:(dP (eU N N2 m)).length*z<=4000000:=Nat.le_trans (Nat.mul_le_mul_right _ hc) hn;have J:=uM hP;rw[<-xS hP]at J;exact⟨a1,hl,J,gW J Z hl⟩
theorem ajW{n2 n3:Nat}{U:zL}(E Z E3:zB)(hG:aK m n N)(z:aK m n2 N2)(J:aK m n3 U)(hn:n*n2*n3<=4000000)(w:zI)(hw:fA m w):gP (N8 m N N2 U) (inQ how m N N2 U E Z E3) w=(xG how (gP N E w) (gP N2 Z w)&&gP U E3 w):=by obtain⟨h1,h2,h3,h4⟩:=N9 hG z J hn;have hP:=gW hG z h1;unfold N8 inQ;rw[J.1,za h3 J 8 _ E3 w hw,zu,Wz hP _ w hw,hG.1,z.1,za hG z how E Z w hw]
theorem ac3(J:bP b t N k=0)(U:E.length=k){l:zI}(h:ql (aD b t).toNat l=0):tK b t N E l=gP N E l/\wY b t N k l=0:=by
 have z:wY b t N k l=0:=by unfold wY;rw[yP J];exact h
 refine⟨?_,z⟩;unfold tK;rw[U,yP z];rfl
structure aiG (b:Int) (iJ:Nat) (N:zL) (E:zB) (at_:zI) (m mu:Nat) (MN:zL) (ME:zB):Prop where
 auto:bP b iJ MN MN.length=0
 len:ME.length=MN.length
 good:aK mu MN.length MN
 many:aD b iJ=(mu:Int)
 akA:mu<=36
 code:aU b iJ=0
 base:1<=b/\b<=6
 five:iJ<=5/\at_.length<=5
 akG: ∀i,i<at_.length->0<=at_.getD i 0/\at_.getD i 0<(iJ:Int)
 says: ∀l,fA mu l->fA m (rV (iD b iJ at_ mu) l)/\gP MN ME l=gP N E (rV (iD b iJ at_ mu) l)
theorem agB{tr:Int}(h:mW b t N k tr at_=0): ∃(iJ mu:Nat),tr=(iJ:Int)/\aiG b iJ N E at_ (aD b t).toNat mu (qx b t N E k tr at_) (xg b t N E k tr at_)/\bP b t N k=0/\(aD b tr).toNat=mu:=by
 obtain⟨hA,hM,hT,a7⟩:=DI h;obtain⟨a8,-,hG,b3⟩:=bS hA;have a2:=eH hA;obtain⟨h1,h2,h3,h4,h5,h6⟩:=bA hM;obtain⟨-,-,g3,g4,g5,g6⟩:=bA a8;have b0:=dA b h2;have a6:=vG (au b) b0.1 tr.toNat;obtain⟨iJ,rfl⟩: ∃iJ:Nat,tr=(iJ:Int):=⟨tr.toNat,by omega⟩;rw[Int.toNat_natCast]at h5 h6 a6;obtain⟨mu,J⟩: ∃mu:Nat,aD b (iJ:Int)=(mu:Int):=⟨(aD b (iJ:Int)).toNat,by omega⟩;refine⟨iJ,mu,rfl,?_,hA,by omega⟩;have b1:pw (au b) at_.length=((aD b t).toNat:Int):=by rw[show at_.length=t.toNat by omega,<-g6];omega
 have U:=DC b h2 iJ at_ mu (aD b t).toNat b1;have z:=Ay b iJ at_ mu;have hR:=xM hG U (by rw[z];omega) (by rw[z];omega);rw[z]at hR;have hN:qx b t N E k (iJ:Int) at_=aV (og N (iD b iJ at_ mu)) E mu/\xg b t N E k (iJ:Int) at_=aY (og N (iD b iJ at_ mu)) E mu:=by unfold qx xg;rw[yP h,yP h,J,Int.toNat_natCast,Int.toNat_natCast];exact⟨rfl,rfl⟩
 rw[hN.1,hN.2];have hL:=fE hR E;have Z:=aZ (og N (iD b iJ at_ mu)) E mu;have b2:=fM (og N (iD b iJ at_ mu)) E mu;have hK:=uq hR E a2;refine⟨?_,by rw[Z,b2],by rw[Z];exact hL,J,by omega,hM,⟨h1,h2⟩,by omega,λi hi=>Wv a7 i hi,λl hl=>?_⟩
 ·rw[Z];exact jk hM (by rw[J,Int.toNat_natCast];exact hL) hK
 ·have a1:fA (iD b iJ at_ mu).length l:=by rw[z];exact hl
  refine⟨Ij U a1,?_⟩;rw[jN hR E l hl,ah6 hG U (by rw[z];omega) (by rw[z];omega) E l a1]
def Zv(w:zW)(xs J:zI)(v v':Value)(W:zW):Prop:=
 W.ownsRow w.heap.size 3 1 v xs.length (xs.map (Value.int .i64))/\W.ownsRow w.heap.size 3 1 v' J.length (J.map (Value.int .i64))/\(∀z,v.ownBlock=some z->v'.ownBlock≠some z)/\Below w.heap.size w W
theorem ac4(w:zW):Zv w [] [] (.slice none 0 0) (.slice none 0 0) w:=⟨World.ownsRow_nil _ _ _ _,World.ownsRow_nil _ _ _ _,λz h=>by simp[Value.ownBlock]at h,zb⟩
theorem Mg{w:zW}{xs:zI}{v v':Value}(h:Zv w xs J v v' W):Zv w J xs v' v W:=⟨h.2.1,h.1,λz h1 h2=>h.2.2.1 z h2 h1,h.2.2.2⟩
def yC:Prop:= ∀(b t:Int) (a:zO) (n cap:Nat) (a':zO) (k z:Nat) (N:zL) (E:zB) (tk:Int) (W:zW),gT W a n N->mR W a' k E->Calls prog 64 #[.agg #[.int .i64 b,.int .i64 t,.slice a n cap,.slice a' k z],.int .i64 tk] W (dB W (bK (sN b t N E k tk) b) (bK (sN b t N E k tk) (t-1)) (Cc b t N E k tk) (FN b t N E k tk) (sN b t N E k tk))
def Bu(n:Nd)(a:zO)(c:Nat):Value:=.agg #[.int .i64 n.op,.int .i64 n.var,.int .i64 n.gV,.int .i64 n.wd,.int .i64 n.wd2,.int .i64 n.num,.slice a n.cf.length c]
theorem Mj(op:Int):gQ op<=2:=by unfold gQ;split;decide;split<;>decide
theorem agJ{l:List Nd}(h:k<l.length):l.drop k=l.getD k oL::l.drop (k+1):=by rw[List.drop_eq_getElem_cons h];simp[List.getD,h]
def CU:Prop:= ∀(b t:Int) (a:zO) (n cap:Nat) (a':zO) (k z:Nat) (N:zL) (E:zB) (tr:Int) (J:zO) (U ca:Nat) (at_:zI) (W:zW),gT W a n N->mR W a' k E->Sl W J U at_->Calls prog 98 #[.agg #[.int .i64 b,.int .i64 t,.slice a n cap,.slice a' k z],.int .i64 tr,.slice J U ca] W (dB W (bK (mW b t N k tr at_) b) (bK (mW b t N k tr at_) tr) (qx b t N E k tr at_) (xg b t N E k tr at_) (mW b t N k tr at_))
def Ov(a:Int):Int:=if a= -1 then 0 else a
def kg(b:Int)(N:zL)(a c x:Int):Int × Int:=
 if a= -2\/(c=1/\x=1)then(-2,0)else if a= -1/\x=0 then(a,c)else((N.getD (Ov a).toNat []).getD x.toNat 0,if b=1 then x else 0)
def dW(b:Int)(N:zL)(s l:Nat):Nat:=Vd (kg b N (gu s) (iP s) (l:Int)).1 (kg b N (gu s) (iP s) (l:Int)).2
theorem Ow{x:Int}(h0:0<=x)(h1:x<au b):pW b 1 x 0=x:=by
 have z:pw (au b) (1-1-0)=1:=by simp[pw]
 unfold pW;rw[z,Int.ediv_one,Int.emod_eq_of_lt h0 h1]
theorem XO{x y:Int}(h0:0<=x)(h1:x<au b)(h2:0<=y)(h3:y<au b):pq b 1 x y=decide (b=1/\x=1/\y=1):=by unfold pq;have e:List.range 1=[0]:=rfl;rw[e];simp only[List.any_cons,List.any_nil,Bool.or_false];rw[Ow h0 h1,Ow h2 h3];by_cases z:b=1<;>by_cases J:x=1<;>by_cases U:y=1<;>simp[z,J,U]
def ad1(b:Int)(N:zL)(w:zI)(a c:Int):Prop:=
 (fJ b 1 w=true/\a= -2/\c=0)\/(fJ b 1 w=false/\bI w=[]/\a= -1/\c=0)\/(fJ b 1 w=false/\bI w≠[]/\a=(bR N (bI w):Int)/\bR N (bI w)<N.length/\ ∃v y,w=v++[y]/\c=if b=1 then y else 0)
theorem Z6{y:Int}(h:bI (v++[y])=[]):y=0:=by
 rw[uK]at h;by_cases e:bI v=[]
 ·rw[yP e]at h
  by_cases z:y=0
  ·exact z
  ·rw[yN z]at h;cases h
 ·rw[yN e]at h;simp at h
theorem JQ(w:zI):w=[]\/ ∃v y,w=v++[y]:=by
 induction w using bB with
 |h0=>exact .inl rfl
 |h1 l x _=>exact .inr ⟨l,x,rfl⟩
theorem ag3(hG:aK k N.length N)(hk:(k:Int)=au b){a y:Int}(hw:fA k w)(hy:0<=y/\y<(k:Int))(h:ad1 b N w a c):ad1 b N (w++[y]) (kg b N a c y).1 (kg b N a c y).2:=by
 have Z: ∀s,s<N.length->(((N.getD s []).getD y.toNat 0=(fC N s y:Int))/\fC N s y<N.length):=λs hs=>by have h1:=hG.2.2.2.2.2 s hs;have h2:=h1.2 y.toNat (by omega);unfold fC;omega
 rcases h with⟨h1,rfl,rfl⟩|⟨h1,h2,rfl,rfl⟩|⟨h1,h2,rfl,h3,v,x,rfl,rfl⟩
 ·refine .inl ⟨?_,?_,?_⟩
  ·rcases JQ w with rfl|⟨v,x,rfl⟩
   ·simp[fJ]at h1
   ·rw[qF,h1];rfl
  ·simp[kg]
  ·simp[kg]
 ·have z:fJ b 1 (w++[y])=false:=by
   rcases JQ w with rfl|⟨v,x,rfl⟩
   ·simp[fJ]
   ·obtain rfl:=Z6 h2;rw[qF,h1,XO (by omega) (by omega) (by omega) (by omega)];simp
  by_cases e:y=0
  ·subst e
   refine .inr (.inl ⟨z,by rw[uK,yP h2,yP rfl],by simp[kg],by simp[kg]⟩)
  ·have J:bI (w++[y])=[y]:=by rw[uK,yP h2,yN e]
   have U:kg b N (-1) 0 y=((N.getD 0 []).getD y.toNat 0,if b=1 then y else 0):=by simp[kg,Ov,e]
   have h4:=Z 0 hG.2.1
   have e1:bR N [y]=fC N 0 y:=rfl
   refine .inr (.inr ⟨z,by rw[J];simp,?_,by rw[J,e1];exact h4.2,w,y,rfl,by rw[U]⟩)
   rw[J,U,e1]
   exact h4.1
 ·obtain⟨a2,a6,a7⟩:=lF.1 hw
  have z:fJ b 1 (v++[x]++[y])=decide (b=1/\x=1/\y=1):=by rw[qF,h1,XO (by omega) (by omega) (by omega) (by omega)];rfl
  have J:bI (v++[x]++[y])=bI (v++[x])++[y]:=by rw[uK,yN h2]
  by_cases e:b=1/\x=1/\y=1
  ·refine .inl ⟨by rw[z];simpa using e,?_,?_⟩
   ·simp[kg,e]
   ·simp[kg,e]
  ·have U:kg b N (bR N (bI (v++[x])):Int) (if b=1 then x else 0) y=((N.getD (bR N (bI (v++[x]))) []).getD y.toNat 0,if b=1 then y else 0):=by
    have n1: ¬((bR N (bI (v++[x])):Int)= -2\/((if b=1 then x else 0)=1/\y=1)):=by
     rintro(h|⟨h,a1⟩)
     ·omega
     ·by_cases hb:b=1
      ·rw[yP hb]at h;exact e ⟨hb,h,a1⟩
      ·rw[yN hb]at h;omega
    unfold kg Ov;rw[yN n1,yN (by omega),yN (by omega),Int.toNat_natCast]
   have h4:=Z _ h3
   refine .inr (.inr ⟨by rw[z];simpa using e,by rw[J];simp,?_,by rw[J,dF];exact h4.2,v++[x],y,rfl,by rw[U]⟩)
   rw[J,U,dF]
   exact h4.1
theorem ahV(J:(k:Int)=au b){a:Int}(U:fA k w)(h:ad1 b N w a c):(a= -2/\c=0)\/(a= -1/\c=0)\/(0<=a/\a<(N.length:Int)/\0<=c/\c<=1):=by
 rcases h with⟨h1,rfl,rfl⟩|⟨h1,h2,rfl,rfl⟩|⟨h1,h2,rfl,h3,v,x,rfl,rfl⟩
 ·exact .inl ⟨rfl,rfl⟩
 ·exact .inr (.inl ⟨rfl,rfl⟩)
 ·obtain⟨Z,a1,z⟩:=lF.1 U
  refine .inr (.inr ⟨by omega,by omega,?_⟩);by_cases hb:b=1
  ·rw[yP hb];subst hb;rw[J]at z;have:au 1=2:=rfl;omega
  ·rw[yN hb];omega
theorem ad2(hG:aK k N.length N)(J:(k:Int)=au b)(hN:N.length<=20)(w:zI):fA k w->ad1 b N w (gu (fZ (dW b N) 64 w)) (iP (fZ (dW b N) 64 w)):=by
 induction w using bB with
 |h0=>exact λ_=>.inr (.inl ⟨rfl,rfl,by show gu 64= -1;decide,by show iP 64=0;decide⟩)
 |h1 w y Z=>
  intro U
  obtain⟨z,hy⟩:=lF.1 U
  have h:=ag3 hG J z hy (Z z)
  have hb:=ahV J U h
  rw[jV]
  have e:dW b N (fZ (dW b N) 64 w) y.toNat=Vd (kg b N (gu (fZ (dW b N) 64 w)) (iP (fZ (dW b N) 64 w)) y).1 (kg b N (gu (fZ (dW b N) 64 w)) (iP (fZ (dW b N) 64 w)) y).2:=by unfold dW;rw[show((y.toNat:Nat):Int)=y by omega]
  rw[e]
  have h2:=zM (a:=(kg b N (gu (fZ (dW b N) 64 w)) (iP (fZ (dW b N) 64 w)) y).1) (c:=(kg b N (gu (fZ (dW b N) 64 w)) (iP (fZ (dW b N) 64 w)) y).2) (by omega) (by omega) (by omega) (by omega)
  rw[h2.1,h2.2.1]
  exact h
theorem Ox{α β:Type}(f:α->β)(l:List α)(i:Nat)(d:α)(z:β)(h:i<l.length):(l.map f).getD i z=f (l.getD i d):=by simp[List.getD,h]
def XP:List Nat:=[Vd (-2) 0,Vd (-1) 0]++((List.range 20).map λi:Nat=>Vd (i:Int) 0)++(List.range 20).map λi:Nat=>Vd (i:Int) 1
def tQ(b:Int)(N:zL):List Nat:=aM (dW b N) (au b).toNat 64 eZ
def FX(O:zI)(s:Nat):Int:=if gu s= -2 then -1 else O.getD (Ov (gu s)).toNat 0
def dV(b:Int)(N:zL):zL:=gN (dW b N) (au b).toNat (tQ b N)
def nI(b:Int)(N:zL)(O:zI):zI:=(tQ b N).map (FX O)
theorem JR(h:dJ b N O=0)(hs:s∈aM (dW b N) (au b).toNat 64 i):((gu s= -2/\iP s=0)\/(gu s= -1/\iP s=0)\/(0<=gu s/\gu s<(N.length:Int)/\0<=iP s/\iP s<=1))/\s∈XP:=by
 obtain⟨h1,h2,a1,hO,hG,-⟩:=cK h;obtain⟨k1,k2,k3⟩:=eY h1 h2;obtain⟨w,hw,rfl⟩:=jF hs;have hb:=ahV k3 hw (ad2 hG k3 a1 w hw);refine⟨hb,?_⟩;have z: ∀s a c,gu s=a->iP s=c-> -2<=a->a<62->0<=c->c<64->s=Vd a c:=λs a c J U b1 b2 b3 b4=>by have hb:=zM b1 b2 b3 b4;exact adS (J.trans hb.1.symm) (U.trans hb.2.1.symm)
 unfold XP;rcases hb with⟨J,U⟩|⟨J,U⟩|⟨J,U,e3,e4⟩
 ·rw[z _ _ _ J U (by decide) (by decide) (by decide) (by decide)];simp
 ·rw[z _ _ _ J U (by decide) (by decide) (by decide) (by decide)];simp
 ·obtain⟨n,hn⟩: ∃n:Nat,gu (fZ (dW b N) 64 w)=(n:Int):=⟨(gu (fZ (dW b N) 64 w)).toNat,by omega⟩
  rcases(show iP (fZ (dW b N) 64 w)=0\/iP (fZ (dW b N) 64 w)=1 by omega)with Z|Z
  ·rw[z _ _ _ hn Z (by omega) (by omega) (by decide) (by decide)];exact List.mem_append.2 (.inl (List.mem_append.2 (.inr (List.mem_map.2 ⟨n,List.mem_range.2 (by omega),rfl⟩))))
  ·rw[z _ _ _ hn Z (by omega) (by omega) (by decide) (by decide)];exact List.mem_append.2 (.inr (List.mem_map.2 ⟨n,List.mem_range.2 (by omega),rfl⟩))
theorem aj5(h:dJ b N O=0)(hs:s∈aM (dW b N) (au b).toNat 64 i):s<4096:=by
 have z: ∀x∈XP,x<4096:=by decide+kernel
 exact z s (JR h hs).2
theorem aiS(h:dJ b N O=0)(i:Nat):(aM (dW b N) (au b).toNat 64 i).length<=42:=
 kW (K:=XP) (kN _ _ _ i) (λ_ hx=>(JR h hx).2)
theorem nJ(b:Int)(N:zL):(dV b N).length=(tQ b N).length:=by unfold dV;exact kQ _ _ _
theorem GL(b:Int)(N:zL)(O:zI):(nI b N O).length=(tQ b N).length:=by simp[nI]
theorem Oy(h:dJ b N O=0):ku (dW b N) (au b).toNat (tQ b N)/\0<(tQ b N).length/\(tQ b N).length<=42/\(tQ b N).getD 0 0=64:=by have z:=aiS h eZ;obtain⟨p0,p1⟩:=nA (dW b N) (au b).toNat 64 eZ;have hc:ku (dW b N) (au b).toNat (aM (dW b N) (au b).toNat 64 eZ):=kP (Nat.le_trans z (by rw[CW];decide));unfold tQ;exact⟨hc,p0,z,p1⟩
theorem XQ(h:dJ b N O=0):aK (au b).toNat (dV b N).length (dV b N)/\(dV b N).length<=42:=by obtain⟨h1,h2,-⟩:=cK h;obtain⟨k1,k2,J⟩:=eY h1 h2;obtain⟨hc,p0,z,-⟩:=Oy h;rw[nJ];refine⟨?_,z⟩;unfold dV;generalize tQ b N=L at hc p0 z⊢;exact sH hc p0 (Nat.le_trans z (by decide)) (by omega) (by omega)
theorem aiT(h:ad1 b N w (gu s) (iP s)):FX O s=if dU b 1 w=true then kR N O (bI w)else -1:=by
 rw[<-zq (b:=b) (t:=1) (tr:=1) rfl w];unfold FX kR;rcases h with⟨z,J,-⟩|⟨z,J,U,-⟩|⟨z,J,U,Z,-⟩
 ·rw[z,J,yP rfl,yN (by simp)]
 ·rw[z,U,yN (by decide),yP (by rfl),J];rfl
 ·rw[z,U,yN (by omega),yP (by rfl)];unfold Ov;rw[yN (by omega),Int.toNat_natCast]
theorem aiU(h:dJ b N O=0)(w:zI)(z:fA (au b).toNat w):(nI b N O).getD (bR (dV b N) w) 0=if dU b 1 w=true then kR N O (bI w)else -1:=by obtain⟨h1,h2,J,hO,hG,-⟩:=cK h;obtain⟨k1,k2,Z⟩:=eY h1 h2;obtain⟨hc,p0,hf,p1⟩:=Oy h;have hr:=ad2 hG Z J w z;rw[<-aiT hr];unfold nI dV;generalize tQ b N=L at hc p0 p1⊢;obtain⟨r1,U⟩:=abx hc p0 w z;rw[p1]at U;rw[<-U];exact Ox _ _ _ 0 _ r1
theorem qh(h:dJ b N O=0):aK (au b).toNat (dV b N).length (dV b N)/\(dV b N).length<=42/\ ∀w,fA (au b).toNat w->(nI b N O).getD (bR (dV b N) w) 0=if dU b 1 w=true then kR N O (bI w)else -1:=
 ⟨(XQ h).1,(XQ h).2,λw z=>aiU h w z⟩
def XR(b:Int)(N:zL)(O:zI)(v:Int):zB:=(nI b N O).map λx=>decide (x=v)
theorem XT(b:Int)(N:zL)(O:zI)(v:Int):(XR b N O v).length=(tQ b N).length:=by simp[XR,nI]
theorem aj6{v:Int}(h:dJ b N O=0)(hv:0<=v)(w:zI)(J:fA (au b).toNat w):gP (dV b N) (XR b N O v) w=isL b N O v w:=by
 obtain⟨hG,Z,hs⟩:=qh h;have U:=jr hG w J;have h1:=hs w J;rw[nJ,<-GL b N O]at U;unfold gP XR isL;have e:((nI b N O).map λx=>decide (x=v)).getD (bR (dV b N) w) false=decide ((nI b N O).getD (bR (dV b N) w) 0=v):=by exact Ox _ _ _ 0 _ U
 rw[e,h1];by_cases z:dU b 1 w=true
 ·rw[yP z,z,Bool.true_and]
 ·rw[yN z]
  have:dU b 1 w=false:=by simpa using z
  rw[this,Bool.false_and];exact yF (by omega)
def dL(k:Nat)(R z:zL)(s l:Nat):Nat:=Vd ((R.getD (gu s).toNat []).getD (l/k) 0) ((z.getD (iP s).toNat []).getD (l%k) 0)
theorem ad3{Z:Nat}(hk:1<=k)(hG:aK k n R)(J:aK k Z z)(hn:n<=42)(a2:Z<=42)(w:zI):fA (k*k) w->gu (fZ (dL k R z) 128 w)=(bR R (rV (WX k) w):Int)/\iP (fZ (dL k R z) 128 w)=(bR z (rV (WY k) w):Int)/\bR R (rV (WX k) w)<n/\bR z (rV (WY k) w)<Z:=by
 induction w using bB with
 |h0=>exact λ_=>⟨by show gu 128=0;decide,by show iP 128=0;decide,hG.2.1,J.2.1⟩
 |h1 w y ih=>
  intro hw
  obtain⟨a1,hy⟩:=lF.1 hw
  obtain⟨i1,i2,i3,i4⟩:=ih a1
  have hl:y.toNat<k*k:=by omega
  have ha:y.toNat/k<k:=Nat.div_lt_of_lt_mul hl
  have hb:y.toNat%k<k:=Nat.mod_lt _ (by omega)
  have g1:=(hG.2.2.2.2.2 _ i3).2 (y.toNat/k) ha
  have g2:=(J.2.2.2.2.2 _ i4).2 (y.toNat%k) hb
  have e1:rV (WX k) (w++[y])=rV (WX k) w++[((y.toNat/k:Nat):Int)]:=by unfold rV;rw[List.map_append,List.map_singleton,WZ hl]
  have e2:rV (WY k) (w++[y])=rV (WY k) w++[((y.toNat%k:Nat):Int)]:=by unfold rV;rw[List.map_append,List.map_singleton,W9 hl]
  rw[e1,e2,dF,dF,jV]
  have eD:dL k R z (fZ (dL k R z) 128 w) y.toNat=Vd ((R.getD (gu (fZ (dL k R z) 128 w)).toNat []).getD (y.toNat/k) 0) ((z.getD (iP (fZ (dL k R z) 128 w)).toNat []).getD (y.toNat%k) 0):=rfl
  rw[eD]
  unfold fC
  rw[i1,i2,Int.toNat_natCast,Int.toNat_natCast,Int.toNat_natCast,Int.toNat_natCast]
  have U:=zM (a:=(R.getD (bR R (rV (WX k) w)) []).getD (y.toNat/k) 0) (c:=(z.getD (bR z (rV (WY k) w)) []).getD (y.toNat%k) 0) (by omega) (by omega) (by omega) (by omega)
  rw[U.1,U.2.1]
  omega
def lwL(b:Int)(N N2:zL):List Nat:=aM (dL (au b).toNat (dV b N) (dV b N2)) ((au b).toNat*(au b).toNat) 128 eZ
def lwN(b:Int)(N N2:zL):zL:=gN (dL (au b).toNat (dV b N) (dV b N2)) ((au b).toNat*(au b).toNat) (lwL b N N2)
def mP(P z:zI)(s:Nat):Bool:=decide (P.getD (gu s).toNat 0≠ -1)&&decide (P.getD (gu s).toNat 0=z.getD (iP s).toNat 0)
def lwE(b:Int)(N:zL)(O:zI)(N2:zL)(O2:zI):zB:=gE (mP (nI b N O) (nI b N2 O2)) (lwL b N N2)
theorem ag4(b:Int)(N N2:zL):(lwN b N N2).length=(lwL b N N2).length:=by unfold lwN;exact kQ _ _ _
section
variable {b:Int} {N:zL} {O:zI} {N2:zL} {O2:zI}
theorem ad4(h:dJ b N O=0)(U:dJ b N2 O2=0){i s:Nat}(hs:s∈aM (dL (au b).toNat (dV b N) (dV b N2)) ((au b).toNat*(au b).toNat) 128 i):0<=gu s/\gu s<((dV b N).length:Int)/\0<=iP s/\iP s<((dV b N2).length:Int)/\s<4096:=by
 obtain⟨hG,Z,-⟩:=qh h;obtain⟨z,J,-⟩:=qh U;obtain⟨h1,h2,-⟩:=cK h;obtain⟨k1,k2,k3⟩:=eY h1 h2;obtain⟨w,hw,rfl⟩:=jF hs;obtain⟨r1,r2,r3,r4⟩:=ad3 (by omega) hG z Z J w hw;generalize fZ (dL (au b).toNat (dV b N) (dV b N2)) 128 w=s at r1 r2;refine⟨by omega,by omega,by omega,by omega,?_⟩;have h5:gu s<42:=by omega
 unfold gu at h5;omega
theorem Z7{w:zI}(h2:b<=6):dU b 2 w=(dU b 1 (bT b 2 w 0)&&dU b 1 (bT b 2 w 1)):=by
 have z: ∀i,bT b 1 (bT b 2 w i) 0=bT b 2 w i:=λi=>by unfold bT;rw[List.map_map];refine List.map_congr_left λx _=>?_;have hb:=nX b h2 2 x i;exact Ow hb.1 hb.2
 have U:dU b 2 w=(iF b (bT b 2 w 0)&&(iF b (bT b 2 w 1)&&true)):=rfl;have J: ∀u,dU b 1 u=(iF b (bT b 1 u 0)&&true):=λu=>rfl;rw[U,J,J,z,z];simp only[Bool.and_true]
theorem aiV(h:dJ b N O=0)(h':dJ b N2 O2=0):aK ((au b).toNat*(au b).toNat) (lwN b N N2).length (lwN b N N2)/\(lwN b N N2).length<=4096/\ ∀w,fA ((au b).toNat*(au b).toNat) w->gP (lwN b N N2) (lwE b N O N2 O2) w=Ai b N O N2 O2 w:=by
 obtain⟨hG,hn,hs⟩:=qh h;obtain⟨a7,a8,b0⟩:=qh h';obtain⟨h1,h2,-⟩:=cK h;obtain⟨k1,k2,k3⟩:=eY h1 h2;have b1:(au b).toNat*(au b).toNat<=36:=Nat.le_trans (Nat.mul_le_mul k2 k2) (by decide);have b2:1<=(au b).toNat*(au b).toNat:=Nat.le_trans (by decide) (Nat.mul_le_mul k1 k1);have J:(lwL b N N2).length<=4096:=by unfold lwL;have:=kW (K:=List.range 4096) (kN (dL (au b).toNat (dV b N) (dV b N2)) ((au b).toNat*(au b).toNat) 128 eZ) (λx hx=>List.mem_range.2 (ad4 h h' hx).2.2.2.2);rwa [List.length_range]at this
 have hc:ku (dL (au b).toNat (dV b N) (dV b N2)) ((au b).toNat*(au b).toNat) (lwL b N N2):=by unfold lwL at J⊢;exact kP (by rw[CW]at J⊢;exact J)
 obtain⟨p0,p1⟩:=nA (dL (au b).toNat (dV b N) (dV b N2)) ((au b).toNat*(au b).toNat) 128 eZ;have b3:(lwL b N N2).getD 0 0=128:=by unfold lwL;exact p1
 have Z:0<(lwL b N N2).length:=by unfold lwL;exact p0
 rw[ag4];refine⟨by unfold lwN;exact sH hc Z (by omega) b2 b1,J,λw z=>?_⟩;have hg:gP (lwN b N N2) (lwE b N O N2 O2) w=mP (nI b N O) (nI b N2 O2) (fZ (dL (au b).toNat (dV b N) (dV b N2)) ((lwL b N N2).getD 0 0) w):=by unfold lwN lwE;exact Ic hc Z w z
 rw[hg,b3];obtain⟨r1,r2,r3,r4⟩:=ad3 (by omega) hG a7 hn a8 w z;obtain⟨t0,t1⟩:=LV h1 h2 z;have w0:fA (au b).toNat (rV (WX (au b).toNat) w):=Ij NP (by rw[sS];exact z);have w1:fA (au b).toNat (rV (WY (au b).toNat) w):=Ij (NQ (by omega)) (by rw[sU];exact z);have s1:=hs _ w0;have s2:=b0 _ w1;unfold mP Ai;rw[r1,r2,Int.toNat_natCast,Int.toNat_natCast,s1,s2,Z7 h2,t0,t1];obtain⟨-,-,-,hO,b4,b5⟩:=cK h;have a1:0<=kR N O (bI (bT b 2 w 0)):=by rw[t0]at w0;exact(b5 _ (jr b4 _ (DL w0))).1
 obtain⟨-,-,-,b6,a2,a6⟩:=cK h';have U:0<=kR N2 O2 (bI (bT b 2 w 1)):=by rw[t1]at w1;exact(a6 _ (jr a2 _ (DL w1))).1
 generalize kR N O (bI (bT b 2 w 0))=x at a1⊢;generalize kR N2 O2 (bI (bT b 2 w 1))=y at U⊢;cases dU b 1 (bT b 2 w 0)<;>cases dU b 1 (bT b 2 w 1)
 ·simp
 ·simp
 ·simp
 ·simp;omega
end
theorem yI{B:Nat}{u0 u1 u2 v0 v1 v2:Value}{T:TypeId}(h:W.heap[B]? =some (.cells #[u0,u1,u2] T (0,0)))(e:W'=((W.setCell ⟨B,0,none⟩ v0).setCell ⟨B,1,none⟩ v1).setCell ⟨B,2,none⟩ v2):
  W'.heap[B]? =some (.cells #[v0,v1,v2] T (0,0))/\ ∀(w:zW) (k:Nat),Below k w W->k<=B->Below k w W':=by
 subst e
 refine⟨?_,λw k hb z=>((hb.setCell z _).setCell z _).setCell z _⟩
 simp[World.setCell,Array.getElem?_modify,h]
def pK(u v:Nat->Nat)(R z:zL)(s l:Nat):Nat:=Vd ((R.getD (gu s).toNat []).getD (u l) 0) ((z.getD (iP s).toNat []).getD (v l) 0)
def XV(R z:zL)(s l:Nat):Nat:=pK (λl=>l) (λl=>l) R z s l
theorem aea{Z:Nat}(hG:aK k n R)(J:aK k Z z)(hn:n<=42)(a2:Z<=42)(w:zI):fA k w->gu (fZ (XV R z) 128 w)=(bR R w:Int)/\iP (fZ (XV R z) 128 w)=(bR z w:Int)/\bR R w<n/\bR z w<Z:=by
 induction w using bB with
 |h0=>exact λ_=>⟨by show gu 128=0;decide,by show iP 128=0;decide,hG.2.1,J.2.1⟩
 |h1 w y ih=>
  intro hw
  obtain⟨a1,hy⟩:=lF.1 hw
  obtain⟨i1,i2,i3,i4⟩:=ih a1
  have hl:y.toNat<k:=by omega
  have g1:=(hG.2.2.2.2.2 _ i3).2 y.toNat hl
  have g2:=(J.2.2.2.2.2 _ i4).2 y.toNat hl
  rw[dF,dF,jV]
  have eD:XV R z (fZ (XV R z) 128 w) y.toNat=Vd ((R.getD (gu (fZ (XV R z) 128 w)).toNat []).getD y.toNat 0) ((z.getD (iP (fZ (XV R z) 128 w)).toNat []).getD y.toNat 0):=rfl
  rw[eD]
  unfold fC
  rw[i1,i2,Int.toNat_natCast,Int.toNat_natCast]
  have U:=zM (a:=(R.getD (bR R w) []).getD y.toNat 0) (c:=(z.getD (bR z w) []).getD y.toNat 0) (by omega) (by omega) (by omega) (by omega)
  rw[U.1,U.2.1]
  omega
def awL(b:Int)(N N2:zL):List Nat:=aM (XV (dV b N) (dV b N2)) (au b).toNat 128 eZ
def awN(b:Int)(N N2:zL):zL:=gN (XV (dV b N) (dV b N2)) (au b).toNat (awL b N N2)
def awE(b:Int)(N:zL)(O:zI)(N2:zL)(O2:zI):zB:=gE (mP (nI b N O) (nI b N2 O2)) (awL b N N2)
theorem ag8(b:Int)(N N2:zL):(awN b N N2).length=(awL b N N2).length:=by unfold awN;exact kQ _ _ _
section
variable {b:Int} {N:zL} {O:zI} {N2:zL} {O2:zI}
theorem aeb(h:dJ b N O=0)(U:dJ b N2 O2=0){i s:Nat}(hs:s∈aM (XV (dV b N) (dV b N2)) (au b).toNat 128 i):0<=gu s/\gu s<((dV b N).length:Int)/\0<=iP s/\iP s<((dV b N2).length:Int)/\s<4096:=by
 obtain⟨hG,Z,-⟩:=qh h;obtain⟨z,J,-⟩:=qh U;obtain⟨w,hw,rfl⟩:=jF hs;obtain⟨r1,r2,r3,r4⟩:=aea hG z Z J w hw;generalize fZ (XV (dV b N) (dV b N2)) 128 w=s at r1 r2;refine⟨by omega,by omega,by omega,by omega,?_⟩;have h5:gu s<42:=by omega
 unfold gu at h5;omega
theorem aiX(h:dJ b N O=0)(Z:dJ b N2 O2=0):aK (au b).toNat (awN b N N2).length (awN b N N2)/\(awN b N N2).length<=4096/\ ∀w,fA (au b).toNat w->gP (awN b N N2) (awE b N O N2 O2) w=xZ b N O N2 O2 w:=by
 obtain⟨hG,hn,hs⟩:=qh h;obtain⟨a2,a6,a7⟩:=qh Z;obtain⟨h1,h2,b4,hO,b5,b6⟩:=cK h;obtain⟨k1,k2,k3⟩:=eY h1 h2;have J:(awL b N N2).length<=4096:=by unfold awL;have:=kW (K:=List.range 4096) (kN (XV (dV b N) (dV b N2)) (au b).toNat 128 eZ) (λx hx=>List.mem_range.2 (aeb h Z hx).2.2.2.2);rwa [List.length_range]at this
 have hc:ku (XV (dV b N) (dV b N2)) (au b).toNat (awL b N N2):=by unfold awL at J⊢;exact kP (by rw[CW]at J⊢;exact J)
 obtain⟨p0,p1⟩:=nA (XV (dV b N) (dV b N2)) (au b).toNat 128 eZ;have a8:(awL b N N2).getD 0 0=128:=by unfold awL;exact p1
 have U:0<(awL b N N2).length:=by unfold awL;exact p0
 rw[ag8];refine⟨by unfold awN;exact sH hc U (by omega) (by omega) (by omega),J,λw z=>?_⟩;have hg:gP (awN b N N2) (awE b N O N2 O2) w=mP (nI b N O) (nI b N2 O2) (fZ (XV (dV b N) (dV b N2)) ((awL b N N2).getD 0 0) w):=by unfold awN awE;exact Ic hc U w z
 rw[hg,a8];obtain⟨r1,r2,r3,r4⟩:=aea hG a2 hn a6 w z;have s1:=hs _ z;have s2:=a7 _ z;unfold mP xZ;rw[r1,r2,Int.toNat_natCast,Int.toNat_natCast,s1,s2];obtain⟨-,-,-,-,b0,b1⟩:=cK h;have a1:0<=kR N O (bI w):=(b1 _ (jr b0 _ (DL z))).1;obtain⟨-,-,-,-,b2,b3⟩:=cK Z;generalize kR N O (bI w)=x at a1⊢;generalize kR N2 O2 (bI w)=y;cases dU b 1 w
 ·simp
 ·simp;omega
end
theorem OP(f:FuncId)(cs:Array Value)(b t:Int)(a:zO)(n cap:Nat)(a':zO)(J:Nat)(N:zL)(E:zB)(iJ mu m:Nat)(F:Nat->zI)(T:zI)(w:zW)(hs:gT w a n N)(he:mR w a' n E)(hG:aK m n N)(g7:n<=80)(hM:aU b (iJ:Int)=0)(b6:aD b (iJ:Int)=(mu:Int))(e7: ∀(args:Array Value) (W:zW),(callFunc f args).run prog W=.ok (.enter f args) W)(hF: ∀(W:zW) (g l:Nat),Below w.heap.size w W->l<mu->Sl W (some ⟨g,0,none⟩) iJ (bM b iJ (l:Int))->Calls prog f (#[.slice (some ⟨g,0,none⟩) iJ iJ]++cs) W (fH W (F l)))(hP: ∀l,l<mu->wV b (F l)=0/\fF b (F l)=T.getD l 0)(hT:T.length=mu)(h1:1<=mu)(i8:mu<=36)(b7:Nt m T):
  Calls prog 128 #[.agg #[.int .i64 b,.int .i64 t,.slice a n cap,.slice a' n J],.int .i64 (iJ:Int),.func (.func f) #[] cs] w (dB w b (iJ:Int) (aV (og N T) E mu) (aY (og N T) E mu) 0):=by
 have l1:=hG.2.2.2.1
 have hR:=xM hG b7 (by omega) (by omega)
 rw[hT]at hR
 have a2:=bG w (.cells #[.int .i64 b,.int .i64 t,.slice a n cap,.slice a' n J] 35) (.cells #[.int .i64 0,.int .i64 0,.slice none 0 0,.slice none 0 0] 35)
 have e8:=aj a2
 have HS:=aj (aG hs a2)
 have HE:=aj (bD he a2)
 have b8:=aj (λW (h:Below _ _ W)=>(@jw w W (.int .i64 b) (.int .i64 t) (.slice a n cap) (.slice a' n J) (.int .i64 0) (.int .i64 0) (.slice none 0 0) (.slice none 0 0) 35 h).1)
 have c8:=aj (aQ w (.cells #[.int .i64 b,.int .i64 t,.slice a n cap,.slice a' n J] 35) (.cells #[.int .i64 0,.int .i64 0,.slice none 0 0,.slice none 0 0] 35))
 have e9: ∀x∈T,(Lit.int .i64 x).wf=true:=λx hx=>by have:=b7 x hx;exact WalkArith.wf_i64 (by omega)
 have a6:=aj (Js f cs b iJ mu F T _ hM b6 e7 (λW g l h=>hF W g l (ak a2 h)) hP hT i8 e9)
 unfold Pj at a6
 rw[hT]at a6
 have HG:=aj hG
 have HT:=aj b7
 have i9:=aj hT
 have c9:=aj (λs j (h:s<n) (h':j<T.length)=>Ii hG h h')
 rw[hT]at c9
 have d0:=aj hR
 have U:=aj (λan cn W h1 h2=>xW b (iJ:Int) an n cn (og N T) a' J E W h1 h2 (jk hM (by rw[b6,Int.toNat_natCast];exact hR) g7))
 rw[b6,Int.toNat_natCast]at U
 unfold jX at U
 have d1:Hid ((og N T).length=n):=by show _=_;rw[P9];exact hG.1
 clear hs he hG b7 hR a2 hF hP hT hM b6 e7 e9
 unfold dB
 rw[cB]
 generalize aV (og N T) E mu=LN at U⊢
 generalize aY (og N T) E mu=LE at U⊢
 generalize og N T=RN at c9 d0 U d1
 generalize f0:(w.alloc (.cells #[.int .i64 b,.int .i64 t,.slice a n cap,.slice a' n J] 35)).alloc (.cells #[.int .i64 0,.int .i64 0,.slice none 0 0,.slice none 0 0] 35)=wb at e8 HS HE b8 c8 a6
 have g8:Hid (wb.heap.size=w.heap.size+2):=by show _=_;rw[<-f0];simp
 obtain⟨j0,j1,j2,j3,j4⟩:=info_parts Ip
 have l6:=fO mu (by omega)
 obtain⟨p0,p1,p2,p3⟩:=b8.out wb zb
 go_enter func128,ntmps128
 go_wp2_with fail
 clear f0 p0 p1 p2 p3
 refine a6.out.mono ?_
 rintro e w1 ⟨l7,l8,rfl,⟨f1,-⟩,b9⟩
 have a7:=aj b9
 have j5:=aj f1
 obtain⟨p0,p1,p2,p3⟩:=b8.out w1 b9
 have d2:=aj (Vt w1 b (iJ:Int) (λs=>RN.getD s []) (.slice a' n J))
 have f2:=(Below.refl w1.heap.size w1).alloc zr (.cells #[.int .i64 b,.int .i64 (iJ:Int),.slice none 0 0,.slice a' n J] 35)
 obtain⟨q0,q1,q2,q3⟩:=b8.out _ (ak b9 f2)
 clear b9 f1 a6 f2
 go_wp2
 clear p0 p1 p2 p3 q0 q1 q2 q3
 generalize w1.alloc (.cells #[.int .i64 b,.int .i64 (iJ:Int),.slice none 0 0,.slice a' n J] 35)=wB at d2⊢
 go_loopw[37] (λiv wx=> ∃s:Nat,s<=n/\iv=.int .i64 s/\Vs w1 b (iJ:Int) (λs=>RN.getD s []) (.slice a' n J) s wx) (λiv _=>n-(intOf iv).toNat)
 case atStart=>exact⟨0,by omega,rfl,d2.out⟩
 case round=>
  obtain⟨s,hs,rfl,d3⟩:=hrel
  have c0:=aj d3
  have Z:Hid (Below w1.heap.size w1 wr):=by obtain⟨_,_,_,_,_,h⟩:=d3;exact h
  clear d3 d2
  by_cases a8:s<n
  ·have j6:(s:Int)<(n:Int):=by omega
   have b0:Hid ((RN.getD s []).length=mu):=(d0.out.2.2.2.2.2 s a8).1
   have f3:Hid (∀j,j<mu->0<=(RN.getD s []).getD j 0/\(RN.getD s []).getD j 0<(n:Int)):=(d0.out.2.2.2.2.2 s a8).2
   have d4:=aj (λj h=>c9.out s j a8 h)
   obtain⟨bn,on,an,cn,rfl,f5,d5⟩:=gF (aG HS.out (ak a7.out Z.out)) s a8
   rw[(HG.out.2.2.2.2.2 s a8).1]at f5 d5
   have f6:=aj d5
   obtain⟨row,b4⟩: ∃row,row=RN.getD s []:=⟨_,rfl⟩
   rw[<-b4]at b0 f3 d4
   have d6:=aj b4
   have d7:=aj (jI wr row mu)
   clear d5 b4
   go_wp2
   clear f5
   generalize wr.alloc (.cells (madeCells #[.int .i64 0] mu) 3)=wI at d7⊢
   obtain⟨wq,f7⟩: ∃wq:zW,wq=wr:=⟨_,rfl⟩
   rw[<-f7]at c0 Z f6 d7⊢
   clear f7 wr
   go_loopw[46] (λlv wx=> ∃l:Nat,l<=mu/\lv=.int .i64 l/\jZ wq row mu l wx) (λlv _=>mu-(intOf lv).toNat)
   case atStart=>exact⟨0,by omega,rfl,d7.out⟩
   case round=>
    obtain⟨l,hl,rfl,f8⟩:=hrel
    have a1:=aj f8
    clear f8
    by_cases d8:l<mu
    ·have g9:(l:Int)<(mu:Int):=by omega
     obtain⟨bt,ot,rfl,j7⟩:=bH (aF j5.out (ak Z.out a1.out.2)) l d8
     have f9:=Ih HT.out (j:=l) (by have:=i9.out;omega)
     have c3:=d4.out l d8
     obtain⟨x,hx⟩: ∃x:Nat,T.getD l 0=(x:Int):=⟨(T.getD l 0).toNat,by omega⟩
     rw[hx]at j7 f9 c3
     rw[Int.toNat_natCast]at c3
     have j8:x<m:=by omega
     have l9:(x:Int)<(m:Int):=by omega
     obtain⟨b1,o1,rfl,g1⟩:=bH (aF f6.out a1.out.2) x j8
     rw[<-c3]at g1
     have e5:=a1.out.1.cell d8
     have n0:=a1.out.1.frozen l
     have c4:=aj (kS a1.out)
     rw[yN (Nat.lt_irrefl _)]at e5
     generalize row.getD l 0=u at g1 c4
     clear c3 hx f9
     go_wp2
     go_roundw
     case rel=>exact⟨l+1,by omega,by go_num,c4.out⟩
     case measure=>simp[intOf];omega
    ·have g9: ¬((l:Int)<(mu:Int)):=by omega
     obtain rfl:mu=l:=by omega
     have g2: ∀z∈row,(Lit.int .i64 z).wf=true:=λz hz=>by obtain⟨i,hi,rfl⟩:=List.getElem_of_mem hz;have h1:=f3.out i (by have:=b0.out;omega);rw[aS _ i hi]at h1;exact WalkArith.wf_i64 (by omega)
     have g3:=wF a1.out b0.out (by unfold maxLen;omega) g2
     have c5:Hid (∃(vN:Value) (vals:zV),_/\_):=@ajm w1 b (iJ:Int) (λs=>RN.getD s []) (.slice a' n J) s wq wr (some ⟨wq.heap.size,0,none⟩) mu c0.out a1.out.2 (by simp only[<-d6.out];rw[b0.out];exact⟨g3,λad j9=>by cases j9;exact zr⟩)
     simp only[<-d6.out]at c5
     rw[b0.out]at c5
     obtain⟨vN,vals,n2,g4,d9,g5⟩:=c5.out
     have c4:=aj g5
     have i1:=aj g4
     have k0:=aj d9
     clear g5 g4 d9 c5 g3 g2
     go_wp2_with (at_builtin;refine wpList_append_lies _ rfl _ _ 32 rfl (w1.heap.size+1) 24 j0 (.slice none 0 0) 1 24 underlying32 j1 j2 j3 j4 rfl (by decide) vN s vals rfl (i1.out.alloc _) ⟨wr.heap.size,0,none⟩ 1 1 [.slice (some ⟨wq.heap.size,0,none⟩) mu mu] rfl rfl (fV _ _ _) (λu hu=>by simp at hu;subst hu;rfl) (by omega) (by unfold maxLen;omega) (by omega) (by have:=k0.out;simp;omega) (wr.heap.size+1) (by simp) ?_;intro g' cg w3 c6 b2 e0 l3;obtain⟨⟨l4,l5⟩,e1⟩:=c4.out w3 _ g' cg c6 b2 e0;have k3:=aj e1;clear c6 b2 e0 e1)
     go_roundw
     case rel=>exact⟨s+1,by omega,by go_num,k3.out⟩
     case measure=>simp[intOf];omega
  ·have j6: ¬((s:Int)<(n:Int)):=by omega
   obtain rfl:n=s:=by omega
   obtain⟨ax,cx,e2,k4,g6⟩:=aeC c0.out (by unfold maxLen;omega) RN d1.out (λ_ _=>rfl)
   have HC:=aj (U.out ax cx wr g6 (bD HE.out (ak a7.out Z.out)))
   have HR:=aj (((ak a7.out Z.out).block _ (zG c8.out).1).trans c8.out)
   obtain⟨⟨p0,p1,p2,p3⟩,-⟩:=aC e2
   clear g6 c0 U e2 k4
   go_wp2_with fail
   clear p0 p1 p2 p3
   refine HC.out.mono ?_
   rintro e w3 ⟨ay,cy,b3,c7,rfl,e3,e4⟩
   have b5:=(e4.block _ (zG HR.out).1).trans HR.out
   have e6:=aj b5
   have i2:=aj e3
   have k5:=aj (ak e8.out (ak a7.out (ak Z.out e4)))
   have k6:=aj (ak a7.out Z.out).size
   obtain⟨⟨o0,o1,o2,o3⟩,of⟩:=aC b5
   clear e3 e4 b5 HC
   go_wp2
   obtain⟨⟨i4,k7,i5⟩,i6⟩:=eO (v0:=.int .i64 b) (v1:=.int .i64 (iJ:Int)) (v2:=.slice ay LN.length cy) (v3:=.slice b3 LN.length c7) e6.out rfl
   have i7:dS w ay LN.length LN b3 LE ((((w3.setCell ⟨w.heap.size+1,0,none⟩ (.int .i64 b)).setCell ⟨w.heap.size+1,1,none⟩ (.int .i64 (iJ:Int))).setCell ⟨w.heap.size+1,2,none⟩ (.slice ay LN.length cy)).setCell ⟨w.heap.size+1,3,none⟩ (.slice b3 LN.length c7)):=λW' k8=>i2.out W' (λx hx k9=>by have h1:=k6.out;have h2:=g8.out;rw[k8 x (by omega) (by rw[k7];exact k9),i5 x (by omega)])
   have hb:=i6 w w.heap.size k5.out (by omega)
   obtain⟨⟨z0,z1,z2,z3⟩,-⟩:=aC i4
   exact bodyPost_ret (v:=.tuple #[.agg #[.int .i64 b,.int .i64 (iJ:Int),.slice ay LN.length cy,.slice b3 LN.length c7],.nilIface]) (by simp[results,results128,go_sem,z0,z1,z2,z3]) rfl ⟨ay,cy,b3,c7,rfl,i7,hb⟩
def Vv(w:zW)(c:Int)(e:Ending)(w':zW):Prop:=e=.returned (bC c)/\Below w.heap.size w w'
theorem Ao(b t:Int)(a:zO)(n cap:Nat)(a':zO)(k Z:Nat)(N:zL)(tr:Int)(aa:zO)(la ca:Nat)(at_:zI)(w:zW)(hs:gT w a n N)(hk:k<=maxLen)(ha:Sl w aa la at_):
  Calls prog 127 #[.agg #[.int .i64 b,.int .i64 t,.slice a n cap,.slice a' k Z],.int .i64 tr,.slice aa la ca] w (Vv w (mW b t N k tr at_)):=by
 have b3:=ha.1
 have b9:=ha.2.1
 unfold maxLen at b9
 have a8:=(Below.refl w.heap.size w).alloc zr (.cells #[.int .i64 b,.int .i64 t,.slice a n cap,.slice a' k Z] 35)
 have b4:=aj a8
 have U:=aj (Gi b t a a' n cap k Z N _ (aG hs a8) hk)
 have a1:=aj (λW=>lU b tr W)
 have HA:=aj (aF ha a8)
 have b0:=aj (zl w (.cells #[.int .i64 b,.int .i64 t,.slice a n cap,.slice a' k Z] 35))
 generalize b5:w.alloc (.cells #[.int .i64 b,.int .i64 t,.slice a n cap,.slice a' k Z] 35)=wb at b4 U HA b0
 have z:Hid (mW b t N k tr at_=if bP b t N k=0 then(if aU b tr=0 then(if(la:Int)=t then atC tr at_ else 2)else aU b tr)else bP b t N k):=by show _=_;unfold mW;rw[b3]
 have a6:=aj (λi=>@Wt tr at_ i)
 have a7:=aj (@Wu tr at_)
 rw[b3]at a6 a7
 clear hs hk ha a8 b3
 generalize mW b t N k tr at_=c at z⊢
 generalize bP b t N k=cx at z U
 generalize aU b tr=cm at z a1
 generalize aD b tr=mu at a1
 generalize atC tr at_=ac at z a6 a7
 obtain⟨⟨p0,p1,p2,p3⟩,-⟩:=aC b0.out
 by_cases hx:cx=0
 ·rw[yP hx]at z
  subst hx
  rw[cB]at U
  go_enter func127,ntmps127
  go_wp2_with fail
  clear b5 p0 p1 p2 p3
  refine U.out.mono ?_
  rintro e w1 ⟨rfl,a2⟩
  have c0:=aj a2
  obtain⟨⟨p0,p1,p2,p3⟩,-⟩:=aC ((a2.block _ (zG b0.out).1).trans b0.out)
  have J:=aj (ak b4.out a2)
  clear a2 U
  by_cases hM:cm=0
  ·rw[yP hM]at z
   subst hM
   rw[cB]at a1
   by_cases hT:(la:Int)=t
   ·rw[yP hT]at z
    have c3:((la:Int)!=t)=false:=by simpa using hT
    go_wp2_with (go_at_call 19;refine(a1.out _).mono ?_;rintro e w' ⟨rfl,hw⟩;rw[hw];clear hw w')
    clear p0 p1 p2 p3
    go_loop[35] (λi=> ∃j:Nat,j<=la/\i=.int .i64 j/\ ∀q,q<j->0<=at_.getD q 0/\at_.getD q 0<tr) (λi=>la-(intOf i).toNat)
    case atStart=>exact⟨0,by omega,rfl,by omega⟩
    case round=>
     obtain⟨j,hj,rfl,hd⟩:=hrel
     have HD:=aj hd
     clear hd
     by_cases b6:j<la
     ·have b8:(j:Int)<(la:Int):=by omega
      obtain⟨ba,oa,rfl,c4⟩:=bH (aF HA.out c0.out) j b6
      have b1:=aj (a6.out j b6)
      have b2:Hid (0<=at_.getD j 0/\at_.getD j 0<tr-> ∀q,q<j+1->0<=at_.getD q 0/\at_.getD q 0<tr):=by
       intro h q hq;by_cases e:q=j
       ·subst e;exact h
       ·exact HD.out q (by omega)
      generalize at_.getD j 0=x at c4 b1 b2
      by_cases hg:0<=x/\x<tr
      ·have c5:=aj (b2.out hg)
       have c8:decide (x<0)=false:=by simp;omega
       have c6: ¬tr<=x:=by omega
       clear b2 b1 hg
       go_wp2
       go_round
       case rel=>exact⟨j+1,by omega,by go_num,c5.out⟩
       case measure=>simp[intOf];omega
      ·have b7:=b1.out hg
       rw[b7]at z
       have c7:decide (x<0)=true\/(decide (x<0)=false/\tr<=x):=by
        by_cases h0:x<0
        ·exact .inl (by simpa using h0)
        ·exact .inr ⟨by simpa using h0,by omega⟩
       clear b2 b1 hg b7
       rcases c7 with hg|⟨hg,c6⟩
       all_goals
        go_wp2
        go_ret
        exact⟨by rw[z.out,kD (by decide)];simp,J.out⟩
     ·have b8: ¬(j:Int)<(la:Int):=by omega
      rw[a7.out λq hq=>HD.out q (by omega)]at z
      go_wp2
      go_ret
      exact⟨by rw[z.out,cB];simp,J.out⟩
   ·rw[yN hT]at z
    have c3:((la:Int)!=t)=true:=by simpa using hT
    go_wp2_with (go_at_call 19;refine(a1.out _).mono ?_;rintro e w' ⟨rfl,hw⟩;rw[hw];clear hw w')
    go_ret
    exact⟨by rw[z.out,kD (by decide)];simp,J.out⟩
  ·rw[yN hM]at z
   rw[kD hM]at a1
   have HM:=aj hM
   clear hM
   go_wp2_with (go_at_call 19;refine(a1.out _).mono ?_;rintro e w' ⟨rfl,hw⟩;rw[hw];clear hw w')
   go_ret
   exact⟨by rw[z.out,kD HM.out];simp,J.out⟩
 ·rw[yN hx]at z
  rw[kD hx]at U
  have HX:=aj hx
  clear hx
  go_enter func127,ntmps127
  go_wp2_with fail
  clear b5 p0 p1 p2 p3
  refine U.out.mono ?_
  rintro e w1 ⟨rfl,a2⟩
  have J:=aj (ak b4.out a2)
  clear a2 U
  go_wp2
  go_ret
  exact⟨by rw[z.out,kD HX.out];simp,J.out⟩
theorem MQ(w:zW)(o1 o2 z:Obj):(((w.alloc o1).alloc o2).alloc z).heap[w.heap.size]? =some o1/\(((w.alloc o1).alloc o2).alloc z).heap[w.heap.size+1]? =some o2/\(((w.alloc o1).alloc o2).alloc z).heap[w.heap.size+2]? =some z:=by
 have h3:=zl ((w.alloc o1).alloc o2) z;simp only[World.size_alloc]at h3;refine⟨?_,?_,h3⟩
 ·rw[Below.heap_alloc _ _ _ (by simp;omega)];exact aP w o1 o2
 ·rw[Below.heap_alloc _ _ _ (by simp)];exact aQ w o1 o2
theorem R9{iJ:Nat}(h: ∀i,i<at_.length->0<=at_.getD i 0/\at_.getD i 0<(iJ:Int))(l:Int):(at_.map λi=>(bM b iJ l).getD i.toNat 0)=iL b iJ at_ l:=by unfold iL;apply List.map_congr_left;intro x hx;obtain⟨i,hi,rfl⟩:=List.getElem_of_mem hx;have:=h i hi;rw[aS _ i hi]at this;exact lT b iJ l _ (by omega)
theorem Sb(b t:Int)(a:zO)(n cap:Nat)(a':zO)(J:Nat)(N:zL)(E:zB)(tr:Int)(U:zO)(z ca:Nat)(at_:zI)(w:zW)(hs:gT w a n N)(he:mR w a' n E)(ha:Sl w U z at_)(hC:mW b t N n tr at_=0):
  Calls prog 98 #[.agg #[.int .i64 b,.int .i64 t,.slice a n cap,.slice a' n J],.int .i64 tr,.slice U z ca] w (dB w b tr (aV (og N (iD b tr.toNat at_ (aD b tr).toNat)) E (aD b tr).toNat) (aY (og N (iD b tr.toNat at_ (aD b tr).toNat)) E (aD b tr).toNat) 0):=by
 have c5:=ha.1
 obtain⟨hA,hM,hT,c6⟩:=DI hC
 obtain⟨b3,-,hG,e4⟩:=bS hA
 have b4:=eH hA
 rw[hs.1]at hG b4
 obtain⟨h1,h2,h3,h4,h5,h6⟩:=bA hM
 obtain⟨-,-,g3,g4,g5,g6⟩:=bA b3
 have e5:=dA b h2
 have b5:=vG (au b) e5.1 tr.toNat
 obtain⟨iJ,e6⟩: ∃iJ:Nat,tr=(iJ:Int):=⟨tr.toNat,by omega⟩
 subst e6
 rw[Int.toNat_natCast]at h5 h6 b5⊢
 have c7:aD b (iJ:Int)=((aD b (iJ:Int)).toNat:Int):=by omega
 have d8:1<=(aD b (iJ:Int)).toNat:=by omega
 have c3:(aD b (iJ:Int)).toNat<=36:=by omega
 have e7:t.toNat=z:=by omega
 have c8:pw (au b) at_.length=((aD b t).toNat:Int):=by rw[c5,<-e7,<-g6];omega
 have c9:=DC b h2 iJ at_ (aD b (iJ:Int)).toNat (aD b t).toNat c8
 have f3:z<=5:=by omega
 have b0: ∀i,i<z->0<=at_.getD i 0/\at_.getD i 0<(iJ:Int):=λi hi=>Wv c6 i (by omega)
 have a7:=eT w (.cells #[.int .i64 b,.int .i64 t,.slice a n cap,.slice a' n J] 35) (.cells #[.slice U z ca] 24) (.cells #[.int .i64 0,.int .i64 0,.slice none 0 0,.slice none 0 0] 35)
 obtain⟨d0,d1,d2⟩:=MQ w (.cells #[.int .i64 b,.int .i64 t,.slice a n cap,.slice a' n J] 35) (.cells #[.slice U z ca] 24) (.cells #[.int .i64 0,.int .i64 0,.slice none 0 0,.slice none 0 0] 35)
 have d3:=aj a7
 have b6:=aj d0
 have b7:=aj d1
 have d4:=aj d2
 have HS:=aj (aG hs a7)
 have HE:=aj (bD he a7)
 have HA:=aj (aF ha a7)
 have a1:=aj (Ao b t a n cap a' n J N (iJ:Int) U z ca at_ _ HS.out he.2.1 HA.out)
 rw[hC]at a1
 unfold Vv at a1
 rw[cB]at a1
 have HF:Hid (∀(W:zW) (B g l:Nat),W.cell? ⟨B,0,none⟩=some (.slice U z ca)->Sl W U z at_->l<(aD b (iJ:Int)).toNat->Sl W (some ⟨g,0,none⟩) iJ (bM b iJ (l:Int))->Calls prog 129 #[.slice (some ⟨g,0,none⟩) iJ iJ,.pointer (some ⟨B,0,none⟩)] W (fH W (iL b iJ at_ (l:Int)))):=λW B g l k1 k2 k3 k4=>by have:=Q8 B U z ca at_ (some ⟨g,0,none⟩) iJ iJ (bM b iJ (l:Int)) W k1 k2 k4 (by omega) b0;rwa [R9 (λi hi=>b0 i (by omega))]at this
 have a2:=aj (λcs W k1 k2 k3=>OP 129 cs b t a n cap a' J N E iJ (aD b (iJ:Int)).toNat (aD b t).toNat (λl=>iL b iJ at_ (l:Int)) (iD b iJ at_ (aD b (iJ:Int)).toNat) W k1 k2 hG b4 hM c7 (enters_of func129 (by kernel_rfl) rfl) k3
  (λl hl=>⟨by unfold wV;rw[show((iL b iJ at_ (l:Int)).length:Int)=t by simp[iL,c5];omega,yP b3,yP (Qh b h2 iJ at_ _)],by have:=Il b iJ at_ (n:=(aD b (iJ:Int)).toNat) (x:=(l:Int)) (by omega) (by omega);rw[Int.toNat_natCast]at this;exact this.symm⟩) (Ay b iJ at_ _) d8 c3 c9)
 unfold dB at a2⊢
 rw[cB]at a2⊢
 clear hs he ha hA hM b3 hG hC c9 a7 e4 g3 g4 g5 g6 h3 h4 h5 h6 c8 b5 c6 c7 d0 d1 d2 b0 hT
 generalize aV (og N (iD b iJ at_ (aD b (iJ:Int)).toNat)) E (aD b (iJ:Int)).toNat=LN at a2⊢
 generalize aY (og N (iD b iJ at_ (aD b (iJ:Int)).toNat)) E (aD b (iJ:Int)).toNat=LE at a2⊢
 generalize d5:((w.alloc (.cells #[.int .i64 b,.int .i64 t,.slice a n cap,.slice a' n J] 35)).alloc (.cells #[.slice U z ca] 24)).alloc (.cells #[.int .i64 0,.int .i64 0,.slice none 0 0,.slice none 0 0] 35)=wb at d3 b6 b7 d4 HS HE HA a1
 have a6:Hid (wb.heap.size=w.heap.size+3):=by show _=_;rw[<-d5];simp
 obtain⟨⟨p0,p1,p2,p3⟩,-⟩:=aC b6.out
 have pa:wb.cell? ⟨w.heap.size+1,0,none⟩=some (.slice U z ca):=by simp[World.cell?,b7.out]
 go_enter func98,ntmps98
 go_wp2_with fail
 clear d5 p0 p1 p2 p3 pa
 refine a1.out.mono ?_
 rintro e w1 ⟨rfl,Z⟩
 have b8:=aj Z
 obtain⟨⟨p0,p1,p2,p3⟩,-⟩:=aC ((Z.block _ (by have:=a6.out;omega)).trans b6.out)
 have d6:Hid (w1.heap[w.heap.size+1]? =some (.cells #[.slice U z ca] 24)):=(Z.block _ (by have:=a6.out;omega)).trans b7.out
 have d7:=aj ((Z.block _ (by have:=a6.out;omega)).trans d4.out)
 have HC:=aj (a2.out #[.pointer (some ⟨w.heap.size+1,0,none⟩)] w1 (aG HS.out Z) (bD HE.out Z) (λW g l k1 k2 k3=>HF.out W (w.heap.size+1) g l (by have h:=(k1.block _ (zG d6.out).1).trans d6.out;simp[World.cell?,h]) (aF HA.out (ak b8.out k1)) k2 k3))
 clear Z a1 a2 HF
 go_wp2_with fail
 clear p0 p1 p2 p3
 refine HC.out.mono ?_
 rintro e w3 ⟨ay,cy,a8,b2,rfl,b9,c0⟩
 have b1:=(c0.block _ (zG d7.out).1).trans d7.out
 have c4:=aj b1
 have d9:=aj b9
 have e8:=aj (ak d3.out (ak b8.out c0))
 have e9:=aj b8.out.size
 obtain⟨⟨o0,o1,o2,o3⟩,of⟩:=aC b1
 clear b9 c0 b1 HC
 go_wp2
 obtain⟨⟨e0,f0,e1⟩,e2⟩:=eO (v0:=.int .i64 b) (v1:=.int .i64 (iJ:Int)) (v2:=.slice ay LN.length cy) (v3:=.slice a8 LN.length b2) c4.out rfl
 have e3:dS w ay LN.length LN a8 LE ((((w3.setCell ⟨w.heap.size+2,0,none⟩ (.int .i64 b)).setCell ⟨w.heap.size+2,1,none⟩ (.int .i64 (iJ:Int))).setCell ⟨w.heap.size+2,2,none⟩ (.slice ay LN.length cy)).setCell ⟨w.heap.size+2,3,none⟩ (.slice a8 LN.length b2)):=λW' f1=>d9.out W' (λx hx f2=>by have h1:=e9.out;have h2:=a6.out;rw[f1 x (by omega) (by rw[f0];exact f2),e1 x (by omega)])
 have hb:=e2 w w.heap.size e8.out (by omega)
 obtain⟨⟨z0,z1,z2,z3⟩,-⟩:=aC e0
 exact bodyPost_ret (v:=.tuple #[.agg #[.int .i64 b,.int .i64 (iJ:Int),.slice ay LN.length cy,.slice a8 LN.length b2],.nilIface]) (by simp[results,results98,go_sem,z0,z1,z2,z3]) rfl ⟨ay,cy,a8,b2,rfl,e3,hb⟩
theorem Vw(b t:Int)(a:zO)(n cap:Nat)(a':zO)(k z:Nat)(N:zL)(tr:Int)(U:zO)(Z ca:Nat)(at_:zI)(w:zW)(hs:gT w a n N)(hk:k<=maxLen)(ha:Sl w U Z at_)(hC:mW b t N k tr at_≠0):
  Calls prog 98 #[.agg #[.int .i64 b,.int .i64 t,.slice a n cap,.slice a' k z],.int .i64 tr,.slice U Z ca] w (dB w 0 0 [] [] (mW b t N k tr at_)):=by
 have a1:=eT w (.cells #[.int .i64 b,.int .i64 t,.slice a n cap,.slice a' k z] 35) (.cells #[.slice U Z ca] 24) (.cells #[.int .i64 0,.int .i64 0,.slice none 0 0,.slice none 0 0] 35)
 obtain⟨a7,a8,b0⟩:=MQ w (.cells #[.int .i64 b,.int .i64 t,.slice a n cap,.slice a' k z] 35) (.cells #[.slice U Z ca] 24) (.cells #[.int .i64 0,.int .i64 0,.slice none 0 0,.slice none 0 0] 35)
 have b1:=aj a1
 have b2:=aj a7
 have b3:=aj a8
 have a2:=aj b0
 have J:=aj (Ao b t a n cap a' k z N tr U Z ca at_ _ (aG hs a1) hk (aF ha a1))
 unfold Vv at J
 unfold dB
 rw[kD hC]at J⊢
 clear hs ha a1 a7 a8 b0 hk
 generalize mW b t N k tr at_=c at J⊢
 generalize b6:((w.alloc (.cells #[.int .i64 b,.int .i64 t,.slice a n cap,.slice a' k z] 35)).alloc (.cells #[.slice U Z ca] 24)).alloc (.cells #[.int .i64 0,.int .i64 0,.slice none 0 0,.slice none 0 0] 35)=wb at b1 b2 b3 a2 J
 obtain⟨⟨p0,p1,p2,p3⟩,-⟩:=aC b2.out
 have pa:wb.cell? ⟨w.heap.size+1,0,none⟩=some (.slice U Z ca):=by simp[World.cell?,b3.out]
 go_enter func98,ntmps98
 go_wp2_with fail
 clear b6 p0 p1 p2 p3 pa
 refine J.out.mono ?_
 rintro e w1 ⟨rfl,a6⟩
 have hr:=(a6.block _ (zG a2.out).1).trans a2.out
 obtain⟨⟨r0,r1,r2,r3⟩,rf⟩:=aC hr
 have HR:=aj hr
 have b7:=aj (ak b1.out a6)
 clear hr a6
 go_wp2
 obtain⟨⟨b4,-,-⟩,b5⟩:=eF HR.out rfl
 obtain⟨⟨z0,z1,z2,z3⟩,-⟩:=aC b4
 exact bodyPost_ret (v:=.tuple #[.agg #[.int .i64 0,.int .i64 0,.slice none 0 0,.slice none 0 0],.iface 45 (.int .i64 c)]) (by simp[results,results98,go_sem,z0,z1,z2,z3]) rfl ⟨none,0,none,0,rfl,dD _ _,b5 _ _ b7.out (by omega)⟩
theorem aeD(b t:Int)(a:zO)(n cap:Nat)(a':zO)(k z:Nat)(N:zL)(E:zB)(tr:Int)(J:zO)(U ca:Nat)(at_:zI)(w:zW)(hs:gT w a n N)(Z:mR w a' k E)(ha:Sl w J U at_):
  Calls prog 98 #[.agg #[.int .i64 b,.int .i64 t,.slice a n cap,.slice a' k z],.int .i64 tr,.slice J U ca] w (dB w (bK (mW b t N k tr at_) b) (bK (mW b t N k tr at_) tr) (qx b t N E k tr at_) (xg b t N E k tr at_) (mW b t N k tr at_)):=by
 by_cases hc:mW b t N k tr at_=0
 ·obtain rfl:k=n:=by rw[(bS (DI hc).1).2.1,hs.1]
  unfold qx xg bK
  rw[yP hc,yP hc,yP hc,yP hc,hc]
  exact Sb b t a k cap a' z N E tr J U ca at_ w hs Z ha hc
 ·unfold qx xg bK
  rw[yN hc,yN hc,yN hc,yN hc]
  exact Vw b t a n cap a' k z N tr J U ca at_ w hs Z.2.1 ha hc
def Sc(n:Nd)(a:zO)(c:Nat):zV:=[.int .i64 n.op,.int .i64 n.var,.int .i64 n.gV,.int .i64 n.wd,.int .i64 n.wd2,.int .i64 n.num,.slice a n.cf.length c]
theorem X9(n:Nd)(a:zO)(c:Nat):(Sc n a c).length=7:=rfl
theorem aeE:(prog.info? 30).map (λi=>(i.zero,i.size,i.bytes))=some (some (.agg #[.int .i64 0,.int .i64 0,.int .i64 0,.int .i64 0,.int .i64 0,.int .i64 0,.slice none 0 0]),7,72):=by kernel_rfl
theorem Kn: ∀{t J:Fm},t.ok->J.ok->t.flat=J.flat->J=t:=by
 have a6: ∀(N:Nat) (ts z:List Fm),(gM ts).length<=N->(∀c∈ts,c.ok)->(∀c∈z,c.ok)->ts.length=z.length->gM ts=gM z->z=ts:=by
  intro N;induction N with
  |zero=>
   intro ts z hN h1 h2 hl he
   match ts,z,hl with
   |[],[],_=>rfl
   |t::ts,J::z,_=>rw[AO,List.length_append]at hN;have:=Jc t;omega
  |succ N ih=>
   intro ts z hN h1 h2 hl he
   match ts,z,hl with
   |[],[],_=>rfl
   |t::ts,J::z,hl=>
    obtain⟨a1,a2,a3⟩:=Jd h1
    obtain⟨b1,b2,b3⟩:=Jd h2
    rw[a1,b1]at he
    injection he with U e2
    have hlen:(t.kids++ts).length=(J.kids++z).length:=by rw[a2,b2,U];simp at hl;omega
    have hh:=ih (t.kids++ts) (J.kids++z) (by rw[a1]at hN;simpa using hN) a3 b3 hlen e2
    have Z:J.kids.length=t.kids.length:=by rw[(zx (h1 t (by simp))).2.1,(zx (h2 J (by simp))).2.1,U]
    obtain⟨k1,k2⟩:=List.append_inj hh Z
    have ht:J=t:=by
     have g1:=zx (h1 t (by simp));have g2:=zx (h2 J (by simp));cases t with
     |gH x=>cases J with
      |gH y=>simp[Fm.node]at U;rw[U]
      |un y f=>simp[Fm.kids]at Z
      |bin y f g=>simp[Fm.kids]at Z
     |un x f=>cases J with
      |gH y=>simp[Fm.kids]at Z
      |un y f'=>simp[Fm.node]at U;simp[Fm.kids]at k1;rw[U,k1]
      |bin y f' g=>simp[Fm.kids]at Z
     |bin x f g=>cases J with
      |gH y=>simp[Fm.kids]at Z
      |un y f'=>simp[Fm.kids]at Z
      |bin y f' g'=>simp[Fm.node]at U;simp[Fm.kids]at k1;rw[U,k1.1,k1.2]
    rw[ht,k2]
 intro t J h1 h2 he;have:=a6 _ [t] [J] zr (by simpa using h1) (by simpa using h2) rfl (by simpa[gM]using he);simpa using this
def Ku(b:Int)(p:Int × Int)(x:Int):Int × Int:=if b=1 then(p.1+p.2+x,p.1+x)else(p.1*b+x,0)
def nU(b:Int)(l:zI):Int × Int:=l.foldl (Ku b) (0,0)
theorem Kv(b:Int)(l:zI)(x:Int):nU b (l++[x])=Ku b (nU b l) x:=by simp[nU,List.foldl_append]
theorem Dh(C:zI)(f g:Nat->Int)(k:Nat):iH C (λi=>f i+g i) k=iH C f k+iH C g k:=by
 induction k with
 |zero=>rfl
 |succ k z=>
  show iH C (λi=>f i+g i) k+C.getD k 0*(f k+g k)=(iH C f k+C.getD k 0*f k)+(iH C g k+C.getD k 0*g k)
  rw[z,Int.mul_add]
  omega
theorem aff(C:zI)(f:Nat->Int)(b:Int)(k:Nat):iH C (λi=>f i*b) k=iH C f k*b:=by
 induction k with
 |zero=>show(0:Int)=0*b;omega
 |succ k z=>
  show iH C (λi=>f i*b) k+C.getD k 0*(f k*b)=(iH C f k+C.getD k 0*f k)*b
  rw[z,Int.add_mul,Int.mul_assoc]
theorem MW(C:zI)(k:Nat):iH C (λ_=>0) k=0:=by
 induction k with
 |zero=>rfl
 |succ k z=>
  show iH C (λ_=>0) k+C.getD k 0*0=0
  rw[z];omega
theorem Kw{f g:Nat->Int}(h: ∀i,i<k->f i=g i):iH C f k=iH C g k:=by
 induction k with
 |zero=>rfl
 |succ k z=>
  show iH C f k+C.getD k 0*f k=iH C g k+C.getD k 0*g k
  rw[z (λi hi=>h i (by omega)),h k (by omega)]
theorem Sv(b:Int)(t:Nat)(w:zI)(y:Int)(i:Nat):bT b t (w++[y]) i=bT b t w i++[pW b t y i]:=by simp[bT]
theorem aaH(b:Int)(C:zI)(w:zI):nS b C w=(iH C (λi=>(nU b (bT b C.length w i)).1) C.length,iH C (λi=>(nU b (bT b C.length w i)).2) C.length):=by
 induction w using bB with
 |h0=>
  have e: ∀i,nU b (bT b C.length [] i)=(0,0):=λi=>rfl
  simp only[e]
  rw[MW]
  rfl
 |h1 w y z=>
  rw[vV,z]
  have e: ∀i,nU b (bT b C.length (w++[y]) i)=Ku b (nU b (bT b C.length w i)) (pW b C.length y i):=λi=>by rw[Sv,Kv]
  simp only[e]
  unfold iM Ku iT
  by_cases hb:b=1
  ·simp only[yP hb]
   rw[Dh C (λi=>(nU b (bT b C.length w i)).1+(nU b (bT b C.length w i)).2) (pW b C.length y),Dh,Dh C (λi=>(nU b (bT b C.length w i)).1) (pW b C.length y)]
  ·simp only[yN hb]
   rw[Dh C (λi=>(nU b (bT b C.length w i)).1*b) (pW b C.length y),aff,MW]
def tV(b:Int):Nat->Int × Int
 |0=>(1,1)
 |k+1=>(if b=1 then(tV b k).1+(tV b k).2 else(tV b k).1*b,(tV b k).1)
theorem Ky(b:Int)(k:Nat):tV b (k+1)=(if b=1 then(tV b k).1+(tV b k).2 else(tV b k).1*b,(tV b k).1):=rfl
theorem Sw(b:Int):tV b 0=(1,1):=rfl
theorem ahA(h1:1<=b)(k:Nat):1<=(tV b k).1/\1<=(tV b k).2:=by
 induction k with
 |zero=>rw[Sw];exact⟨Int.le_refl _,Int.le_refl _⟩
 |succ k z=>
  rw[Ky]
  refine⟨?_,z.1⟩
  show 1<=if b=1 then(tV b k).1+(tV b k).2 else(tV b k).1*b
  split
  ·omega
  ·have:=Int.mul_le_mul z.1 h1 (by omega) (by omega)
   omega
theorem ajz(h1:1<=b)(k:Nat):pR b k=min (tV b k).1 1099511627777/\ahd b k=min (tV b k).2 1099511627777:=by
 induction k with
 |zero=>rw[Bz,GX,Sw];exact⟨rfl,rfl⟩
 |succ k z=>
  obtain⟨p1,p2⟩:=ahA h1 k
  rw[tX,BA,Ky,z.1,z.2]
  refine⟨?_,rfl⟩
  show min (if b=1 then min (tV b k).1 1099511627777+min (tV b k).2 1099511627777 else min (tV b k).1 1099511627777*b) 1099511627777=min (if b=1 then(tV b k).1+(tV b k).2 else(tV b k).1*b) 1099511627777
  generalize(tV b k).1=x at p1
  generalize(tV b k).2=y at p2
  by_cases hb:b=1
  ·rw[yP hb,yP hb];omega
  ·rw[yN hb,yN hb]
   by_cases hx:x<=1099511627777
   ·rw[show min x 1099511627777=x by omega]
   ·have h2:1099511627777*1<=x*b:=Int.mul_le_mul (by omega) h1 (by omega) (by omega)
    have h3:1099511627777*1<=1099511627777*b:=Int.mul_le_mul (by omega) h1 (by omega) (by omega)
    rw[show min x 1099511627777=1099511627777 by omega]
    omega
def mo(b:Int):zI->Int
 |[]=>0
 |x::r=>x*(tV b r.length).1+mo b r
def KT(b:Int):zI->Int
 |[]=>0
 |x::r=>x*(tV b r.length).2+KT b r
theorem MX(b:Int)(l:zI)(x:Int):mo b (l++[x])=(if b=1 then mo b l+KT b l+x else mo b l*b+x)/\KT b (l++[x])=mo b l+x:=by
 induction l with
 |nil=>
  refine⟨?_,?_⟩
  ·show x*(tV b 0).1+0=if b=1 then(0:Int)+0+x else 0*b+x
   rw[show(tV b 0).1=1 from rfl]
   split<;>omega
  ·show x*(tV b 0).2+0=0+x
   rw[show(tV b 0).2=1 from rfl]
   omega
 |cons y r z=>
  have J:(r++[x]).length=r.length+1:=by simp
  have U:mo b ((y::r)++[x])=y*(tV b (r.length+1)).1+mo b (r++[x]):=by show y*(tV b (r++[x]).length).1+mo b (r++[x])=_;rw[J]
  have Z:KT b ((y::r)++[x])=y*(tV b (r.length+1)).2+KT b (r++[x]):=by show y*(tV b (r++[x]).length).2+KT b (r++[x])=_;rw[J]
  have e3:mo b (y::r)=y*(tV b r.length).1+mo b r:=rfl
  have e4:KT b (y::r)=y*(tV b r.length).2+KT b r:=rfl
  rw[U,Z,e3,e4,z.1,z.2,Ky]
  refine⟨?_,?_⟩
  ·by_cases hb:b=1
   ·rw[yP hb,yP hb,yP hb]
    show y*((tV b r.length).1+(tV b r.length).2)+(mo b r+KT b r+x)=_
    rw[Int.mul_add]
    omega
   ·rw[yN hb,yN hb,yN hb]
    show y*((tV b r.length).1*b)+(mo b r*b+x)=_
    rw[Int.add_mul,Int.mul_assoc]
    omega
  ·show y*(tV b r.length).1+(mo b r+x)=_
   omega
theorem ahB(b:Int)(l:zI):(nU b l).1=mo b l/\(b=1->(nU b l).2=KT b l):=by
 induction l using bB with
 |h0=>exact⟨rfl,λ_=>rfl⟩
 |h1 l x z=>
  rw[Kv,(MX b l x).1,(MX b l x).2]
  unfold Ku
  by_cases hb:b=1
  ·rw[yP hb,yP hb]
   refine⟨?_,λ_=>?_⟩
   ·show(nU b l).1+(nU b l).2+x=_
    rw[z.1,z.2 hb]
   ·show(nU b l).1+x=_
    rw[z.1]
  ·rw[yN hb,yN hb]
   refine⟨?_,λh=>absurd h hb⟩
   show(nU b l).1*b+x=_
   rw[z.1]
theorem afg(h1:1<=b)(h6:b<=6)(l:zI):(∀x∈l,0<=x)->val b l<=1099511627776->0<=val b l/\mo b l=val b l:=by
 induction l with
 |nil=>exact λ_ _=>⟨Int.le_refl _,rfl⟩
 |cons x r J=>
  intro hx hv
  have U:=hx x (by simp)
  have e1:val b (x::r)=x*pR b r.length+val b r:=rfl
  have e2:mo b (x::r)=x*(tV b r.length).1+mo b r:=rfl
  obtain⟨⟨c1,c2⟩,-⟩:=vw b h1 h6 r.length
  have hp:0<=x*pR b r.length:=Int.mul_nonneg U (by omega)
  have hr:0<=val b r:=by
   clear J hv e1 e2;have: ∀x∈r,0<=x:=λy Z=>hx y (by simp[Z]);clear hx hp c1 c2 U;induction r with
   |nil=>exact Int.le_refl _
   |cons y r J=>
    have a1:=this y (by simp)
    obtain⟨⟨d1,-⟩,-⟩:=vw b h1 h6 r.length
    have:=J (λz hz=>this z (by simp[hz]))
    have h3:0<=y*pR b r.length:=Int.mul_nonneg a1 (by omega)
    show 0<=y*pR b r.length+val b r
    omega
  obtain⟨i1,i2⟩:=J (λy Z=>hx y (by simp[Z])) (by omega)
  rw[e1,e2,i2]
  refine⟨by omega,?_⟩
  have hc:=(ajz h1 r.length).1
  by_cases hz:x=0
  ·subst hz;omega
  ·have h3:pR b r.length*1<=pR b r.length*x:=Int.mul_le_mul_of_nonneg_left (by omega) (by omega)
   rw[Int.mul_comm]at h3
   have h4:pR b r.length<=1099511627776:=by rw[Int.mul_comm (pR b r.length) x]at h3;omega
   have h5:(tV b r.length).1=pR b r.length:=by omega
   rw[h5]
theorem akv{n:Nd}(z:qo n=0)(h:n.op=1\/n.op=2)(J: ∀v:Nat,v<5->dI n ((v:Nat):Int)=true->v<l):n.cf.length<=l:=by
 obtain⟨U,hs⟩:=dH z;have h5:=(U.2.2.2.2.2.2 h).1;by_cases h0:n.cf.length=0
 ·omega
 ·have:=J (n.cf.length-1) (by omega) (by
   unfold dI;rw[yP h,Int.toNat_natCast,yT (by omega),yT (hs.2.2.2.2.2 (by omega))];rfl)
  omega
end Go.Proofs.YtceojneljnnooaaGreat
