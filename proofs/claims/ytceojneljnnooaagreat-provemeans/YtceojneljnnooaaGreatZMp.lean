import Derived.Test.YtceojneljnnooaaGreatZNx
import Derived.DeepKeys4
import Derived.Maps.OwnSet
open Go.Proofs.Tryz
namespace Go.Proofs.YtceojneljnnooaaGreat
open Go.RowKit
set_option maxHeartbeats 0
set_option maxRecDepth 100000
set_option linter.all false
section
def abj(v:Value):Option (DataW Value × List MemPlace):=some (.held v,[])
def eu(P:Program)(k:TypeId)(w:zW)(b:Nat)(l:List (Value × Value)):Prop:=
 ∃D:DataW Value,w.ownsMap P k abj b l.length D/\Maps.size D=l.length/\
  ∀z J,keyOf P k z=some J->(¬z∈l.map Prod.fst->Maps.has D J=false)/\ ∀v,(z,v)∈l->Maps.has D J=true/\D.atKey J .nil=.held v
theorem qZ(w:zW)(P:Program)(k:TypeId):eu P k (w.alloc (.map #[] 0)) w.heap.size []:=
 ⟨.map [],World.ownsMap_made w P k abj,rfl,λz J _=>⟨λ_=>by simp[Maps.has],λv h=>by simp at h⟩⟩
variable {P:Program} {k:TypeId} {w w':zW} {b:Nat} {l:List (Value × Value)}
theorem eu.lt(h:eu P k w b l):b<w.heap.size:=by obtain⟨D,h1,_⟩:=h;exact h1.lt
theorem eu.of_block(h:eu P k w b l)(hb:w'.heap[b]? =w.heap[b]?):eu P k w' b l:=by obtain⟨D,⟨es,z,h1,h2⟩,h3⟩:=h;exact⟨D,⟨es,z,by rw[hb];exact h1,h2⟩,h3⟩
theorem eu.isMap(h:eu P k w b l): ∃es z,w.heap[b]? =some (.map es z):=by obtain⟨D,⟨es,z,h1,h2⟩,h3⟩:=h;exact⟨es,z,h1⟩
theorem eu.below(h:eu P k w b l)(hb:Below w.heap.size w w'):eu P k w' b l:=h.of_block (hb.block _ h.lt)
theorem eu.alloc(h:eu P k w b l)(o:Obj):eu P k (w.alloc o) b l:=h.of_block (Below.heap_alloc _ _ _ h.lt)
theorem eu.setCell(h:eu P k w b l){a:Addr}(z:b≠a.block)(u:Value):eu P k (w.setCell a u) b l:=h.of_block (by rw[Below.heap_setCell _ _ _ _ z])
theorem eu.drewN(h:eu P k w b l)(j:Nat):eu P k (w.drewN j) b l:=h.below (below_drewN zb j)
theorem eu.grown{row:Option Nat}(h:eu P k w b l)(hg:w.grownBy w' row)(z:some b≠row):eu P k w' b l:=h.of_block (hg.block b h.lt z)
theorem eu.abk(h:eu P k w b l)(K:Maps.Keyed P k){t e:TypeId}(ht:P.underlying t=some (.map k e)){z:Value}(hz:(zeroValue e).run P w=.ok z w){J v:Value}{kl:Lit}(U:keyOf P k J=some kl)(hv:(J,v)∈l)(c:Bool):
  (Instr.lookup t (.map (some b)) J c).run P w=.ok (if c then .tuple #[v,.bool true]else v) w:=by
 obtain⟨D,⟨es,a6,hb,F,_,rfl⟩,h2,h3⟩:=h
 obtain⟨_,h5⟩:=h3 J kl U
 obtain⟨h4,Z⟩:=h5 v hv
 rcases Maps.fit_look c K ht hz hb F U with⟨hrun,_,a1⟩|⟨e0,y,_,_,hrun,a2,a1,_⟩
 ·rw[Maps.has_false_of_atKey a1]at h4;cases h4
 ·rw[a1 .nil]at Z
  have h7:y.1=.held e0.val:=by simp only[abj,Option.some.injEq]at a2;rw[<-a2]
  rw[h7]at Z
  injection Z with Z
  rw[hrun,Z]
theorem eu.afP(h:eu P k w b l)(K:Maps.Keyed P k){t e:TypeId}(ht:P.underlying t=some (.map k e)){z:Value}(hz:(zeroValue e).run P w=.ok z w){J:Value}{kl:Lit}(U:keyOf P k J=some kl)(hv: ¬J∈l.map Prod.fst)(c:Bool):
  (Instr.lookup t (.map (some b)) J c).run P w=.ok (if c then .tuple #[z,.bool false]else z) w:=by
 obtain⟨D,⟨es,a1,hb,F,_,rfl⟩,h2,h3⟩:=h
 have h4:=(h3 J kl U).1 hv
 rcases Maps.fit_look c K ht hz hb F U with⟨hrun,_,Z⟩|⟨e0,y,_,_,hrun,a2,Z,_⟩
 ·exact hrun
 ·rw[Maps.has_true_of_atKey Z]at h4;cases h4
theorem eu.put(h:eu P k w b l)(K:Maps.Keyed P k){t e:TypeId}(ht:P.underlying t=some (.map k e))(U:l.length<maxLen){J val:Value}{Z:Lit}(z:keyOf P k J=some Z)(hf: ¬J∈l.map Prod.fst):
  ∃w',(Instr.mapUpdate t (.map (some b)) J val).run P w=.ok () w'/\eu P k w' b (l++[(J,val)])/\w.mapTurned w' b:=by
 obtain⟨D,h1,h2,h3⟩:=h
 obtain⟨w',r1,r2,r3⟩:=h1.store K ht U (val:=val) (d:=.held val) (ps:=[]) z rfl
 have a2:Maps.has D Z=false:=(h3 J Z z).1 hf
 refine⟨w',r1,⟨_,by rw[List.length_append];exact r2,?_,λx xl hx=>?_⟩,r3⟩
 ·rw[Maps.size_put (h1.tidy K) _]
  simp[a2,h2]
 ·by_cases e:x=J
  ·subst e
   rw[z]at hx;cases hx
   refine⟨λU=>absurd (by simp) U,λv hv=>⟨Maps.has_put_same h1.isMap (K.key z) _,?_⟩⟩
   rcases List.mem_append.1 hv with hv|hv
   ·exact absurd (List.mem_map.2 ⟨_,hv,rfl⟩) hf
   ·simp at hv
    rw[hv]
    exact Maps.atKey_put_same h1.isMap (K.key z) _ _
  ·have a1:xl≠Z:=λe'=>e (K.inj hx (e'▸z))
   rw[Maps.has_put_other a1,Maps.atKey_put_other a1]
   refine⟨λU=>(h3 x xl hx).1 (λhm=>U (by rw[List.map_append];exact List.mem_append_left _ hm)),λv hv=>(h3 x xl hx).2 v ?_⟩
   rcases List.mem_append.1 hv with hv|hv
   ·exact hv
   ·simp at hv;exact absurd hv.1 e
theorem eu.len(h:eu P k w b l){t e:TypeId}(z:P.underlying t=some (.map k e))(ty:TypeId):(Builtin.len_ #[t] ty #[.map (some b)]).run P w=.ok (.int .i64 (l.length:Int)) w:=by obtain⟨D,h1,h2,_⟩:=h;rw[<-h2];exact h1.len z ty
section
variable (w:zW) {ops:Array Oper} {rest:List Oper} {o:Oper} {a:Act} {Q:Exit->Act->zW->Prop}
theorem jM(hg:o.guard=none)(m x:Operand)(t:TypeId)(hop:o.op=Op.lookup t m x true)(k e:TypeId)(K:Maps.Keyed P k)(Z:P.underlying t=some (.map k e)){z:Value}(hz:(zeroValue e).run P w=.ok z w)(b:Nat)(l:List (Value × Value))(hm:a.eval m=.map (some b))(hown:eu P k w b l)(J:Value)(kl:Lit)(hx:a.eval x=J)(U:keyOf P k J=some kl)(v:Value)(hv:(J,v)∈l)(hK:wpList P ops Q rest (a.put o.dst (.tuple #[v,.bool true])) w):
  wpList P ops Q (o::rest) a w:=by
 refine wpList_plain hg λK' hK'=>?_
 have hrun:=hown.abk K Z hz U hv true
 rw[yP rfl]at hrun
 unfold Oper.wp
 simp[execOp,hop,hm,hx,hrun,Result.andThen]
 exact hK' _ _ hK
theorem jo(hg:o.guard=none)(m x:Operand)(t:TypeId)(hop:o.op=Op.lookup t m x true)(k e:TypeId)(K:Maps.Keyed P k)(Z:P.underlying t=some (.map k e)){z:Value}(hz:(zeroValue e).run P w=.ok z w)(b:Nat)(l:List (Value × Value))(hm:a.eval m=.map (some b))(hown:eu P k w b l)(J:Value)(kl:Lit)(hx:a.eval x=J)(U:keyOf P k J=some kl)(hv: ¬J∈l.map Prod.fst)(hK:wpList P ops Q rest (a.put o.dst (.tuple #[z,.bool false])) w):
  wpList P ops Q (o::rest) a w:=by
 refine wpList_plain hg λK' hK'=>?_
 have hrun:=hown.afP K Z hz U hv true
 rw[yP rfl]at hrun
 unfold Oper.wp
 simp[execOp,hop,hm,hx,hrun,Result.andThen]
 exact hK' _ _ hK
theorem jT(hg:o.guard=none)(m x v:Operand)(t:TypeId)(hop:o.op=Op.mapUpdate t m x v)(k e:TypeId)(K:Maps.Keyed P k)(U:P.underlying t=some (.map k e))(b:Nat)(l:List (Value × Value))(hm:a.eval m=.map (some b))(hown:eu P k w b l)(Z:l.length<maxLen)(z val:Value)(kl:Lit)(hx:a.eval x=z)(hv:a.eval v=val)(J:keyOf P k z=some kl)(hf: ¬z∈l.map Prod.fst)(hK: ∀w',eu P k w' b (l++[(z,val)])->w.mapTurned w' b->wpList P ops Q rest (a.put o.dst undef) w'):
  wpList P ops Q (o::rest) a w:=by
 refine wpList_plain hg λK' hK'=>?_
 obtain⟨w',hrun,r1,r2⟩:=hown.put (val:=val) K U Z J hf
 unfold Oper.wp
 simp[execOp,hop,hm,hx,hv,hrun,Result.andThen]
 exact hK' _ _ (hK w' r1 r2)
theorem jU(hg:o.guard=none)(m:Operand)(t:TypeId)(hop:o.op=Op.call {callee:=Callee.builtin Builtin.len,args:=#[m],argTypes:=#[t]})(k e:TypeId)(z:P.underlying t=some (.map k e))(b:Nat)(l:List (Value × Value))(hm:a.eval m=.map (some b))(hown:eu P k w b l)(hK:wpList P ops Q rest (a.put o.dst (.int .i64 (l.length:Int))) w):
  wpList P ops Q (o::rest) a w:=by
 refine wpList_plain hg λK' hK'=>?_
 unfold Oper.wp
 simp[execOp,hop,resolve,invoke,builtin,hm,hown.len z o.type,Result.andThen]
 exact hK' _ _ hK
end
theorem qw{base:Nat}{w W W':zW}{b:Nat}(h:Below base w W)(z:W.mapTurned W' b)(hb:base<=b)(hs:base<=W.heap.size):Below base w W':=Below.grown h z.grown hs (λk J=>by cases J;exact hb)
end
section
variable{N B A z P U:zL}{m n x n' i s K' f K t M y l k qn:Nat}{d:Nat->Nat->Nat}{EB EA E:zB}{X L V I:List Nat}{o J:zI}{W wb W2:zW}{rows:Nat->zI}{Ts:List (List Nat)}{es F:Nat->Bool}{a:zO}{v:Value}{b:Int}{mv:Int->Value}{xs:zV}
def YC(N:zL)(E:zB)(m n k:Nat)(C:zI):Prop:=C.length=n/\ ∀s∈aR N,∀t∈aR N,(C.getD s.toNat 0=C.getD t.toNat 0↔bW N E m k s.toNat t.toNat=true)
theorem afQ{C:zI}(h:CAt N E m n k C):YC N E m n k C:=⟨h.1,λ_ hs _ z=>afO E h hs z⟩
theorem abl{C:zI}(z:C.length=n)(h: ∀s∈aR N,C.getD s.toNat 0=if E.getD s.toNat false=true then 1 else 0):YC N E m n 1 C:=by refine⟨z,λs hs t J=>?_⟩;rw[h s hs,h t J,je];cases E.getD s.toNat false<;>cases E.getD t.toNat false<;>simp[bW]
theorem abm(z:1<=k)(h:bW N E m k s t=true):E.getD s false=E.getD t false:=by obtain⟨j,rfl⟩: ∃j,k=j+1:=⟨k-1,by omega⟩;exact(je.1 h).1
def sF(N:zL)(C:zI)(m s q:Nat):Int:=if q=0 then C.getD s 0 else if q<=m then C.getD (mV N s (q-1)) 0 else 0
def lG(N:zL)(C:zI)(m:Nat)(s:Int):Value:=.agg ((Array.range 37).map λq=>Value.int .i64 (sF N C m s.toNat q))
theorem V6{f g:Nat->Int}(h:(Value.agg ((Array.range n).map λq=>Value.int .i64 (f q)))=.agg ((Array.range n).map λq=>Value.int .i64 (g q)))(q:Nat)(z:q<n):f q=g q:=by
 injection h with h;have h1:((Array.range n).map λq=>Value.int .i64 (f q))[q]? =((Array.range n).map λq=>Value.int .i64 (g q))[q]? :=by rw[h]
 simpa[z]using h1
theorem abn{m n:Nat}{N:zL}(hG:aK m n N){E:zB}{k:Nat}{C:zI}(hk:1<=k)(J:YC N E m n k C){s t:Int}(hs:s∈aR N)(U:t∈aR N):lG N C m s=lG N C m t↔bW N E m (k+1) s.toNat t.toNat=true:=by
 have hm:=hG.2.2.2.1;rw[je,<-J.2 s hs t U];have Z: ∀j,j<m->(C.getD (mV N s.toNat j) 0=C.getD (mV N t.toNat j) 0↔bW N E m k (mV N s.toNat j) (mV N t.toNat j)=true):=λj z=>by have:=J.2 _ (ko hG hs j z).1 _ (ko hG U j z).1;rwa [Int.toNat_natCast,Int.toNat_natCast]at this
 constructor
 ·intro h;have h0:=V6 h 0 (by omega);simp only[sF,yP]at h0;refine⟨abm hk ((J.2 s hs t U).1 h0),h0,λj z=>(Z j z).1 ?_⟩;have h1:=V6 h (j+1) (by omega);simp only[sF]at h1;rw[yN (Nat.succ_ne_zero j),yP (show j+1<=m by omega),yN (Nat.succ_ne_zero j),yP (show j+1<=m by omega)]at h1;simpa using h1
 ·rintro⟨_,h1,h2⟩
  unfold lG;congr 2;funext q;simp only[sF];split
  ·rw[h1]
  ·split
   ·rw[(Z (q-1) (by omega)).2 (h2 _ (by omega))]
   ·rfl
def nZ(mv:Int->Value)(kH:zI):List (Value × Value):=(List.range kH.length).map λi=>(mv (kH.getD i 0),Value.int .i64 (i:Int))
theorem BN(mv:Int->Value)(kH:zI):(nZ mv kH).length=kH.length:=by simp[nZ]
theorem K7{kH:zI}{s:Int}(h: ∀r∈kH,mv r≠mv s): ¬mv s∈(nZ mv kH).map Prod.fst:=by simp only[nZ,List.map_map,List.mem_map,List.mem_range,Function.comp,not_exists,not_and];intro i hi;exact h _ (by rw[aS _ i hi];exact List.getElem_mem hi)
theorem PE(mv:Int->Value)(kH:zI)(s:Int):nZ mv kH++[(mv s,.int .i64 (kH.length:Int))]=nZ mv (kH++[s]):=by
 unfold nZ;rw[List.length_append,List.length_singleton,List.range_succ,List.map_append];congr 1
 ·apply List.map_congr_left;intro i hi;rw[List.mem_range]at hi;rw[iq (List.prefix_append _ _) i hi]
 ·simp[List.getD]
theorem K8{R:Nat->Nat->Bool}{kH:zI}{s:Int}(h: ∀r∈kH,(mv r=mv s↔R s.toNat r.toNat=true))(hs: ∃r∈kH,R s.toNat r.toNat=true):(mv s,Value.int .i64 ((gU R kH s:Nat):Int))∈nZ mv kH:=by have z:=Aq hs;have J:=wS z;refine List.mem_map.2 ⟨gU R kH s,List.mem_range.2 z,?_⟩;rw[(h _ (by rw[aS _ _ z];exact List.getElem_mem z)).2 J]
def SH(M s:Nat):Int:=((s/M:Nat):Int)
def SI(M s:Nat):Int:=((s%M:Nat):Int)
def kr(M:Nat)(s:Int):Value:=.agg #[.int .i64 (SH M (s.toNat)),.int .i64 (SI M (s.toNat))]
theorem K9{s t:Int}(hs:0<=s)(z:0<=t)(h:kr M s=kr M t):s=t:=by
 unfold kr at h;injection h with h;have h1:(s.toNat/M:Nat)=t.toNat/M/\(s.toNat%M:Nat)=t.toNat%M:=by have h0:=congrArg (λa:Array Value=>a[0]?) h;have h1:=congrArg (λa:Array Value=>a[1]?) h;simp only[List.getElem?_toArray,List.getElem?_cons_zero,List.getElem?_cons_succ,Option.some.injEq,Value.int.injEq,true_and]at h0 h1;unfold SH at h0;unfold SI at h1;exact⟨Int.ofNat.inj h0,Int.ofNat.inj h1⟩
 have:=Nat.div_add_mod s.toNat M;have h2:=Nat.div_add_mod t.toNat M;rw[h1.1,h1.2,h2]at this;omega
def eU(N z:zL)(m:Nat):zL:=(List.range (N.length*z.length)).map λs=>(List.range m).map λl=>(N.getD (s/z.length) []).getD l 0*(z.length:Int)+(z.getD (s%z.length) []).getD l 0
def xG(how:Int):Bool->Bool->Bool
 |false,false=>how%2==1
 |true,false=>how/2%2==1
 |false,true=>how/4%2==1
 |true,true=>how/8%2==1
def jq(how:Int)(n n':Nat)(E z:zB):zB:=(List.range (n*n')).map λs=>xG how (E.getD (s/n') false) (z.getD (s%n') false)
theorem sG(hx:x<n)(z:y<n'):x*n'+y<n*n':=by have:=Nat.mul_le_mul_right n' (show x+1<=n from hx);rw[Nat.add_mul]at this;omega
theorem lY(J:x<n)(z:y<n'):(x*n'+y)/n'=x/\(x*n'+y)%n'=y:=by
 constructor
 ·rw[Nat.mul_comm,Nat.mul_add_div (by omega),Nat.div_eq_of_lt z];omega
 ·rw[Nat.mul_comm,Nat.mul_add_mod,Nat.mod_eq_of_lt z]
theorem Hz(h:s<n*n'):s/n'<n/\s%n'<n':=by
 have h0:0<n':=by
  rcases Nat.eq_zero_or_pos n' with e|e
  ·rw[e,Nat.mul_zero]at h;omega
  ·exact e
 exact⟨Nat.div_lt_of_lt_mul (by rw[Nat.mul_comm];exact h),Nat.mod_lt _ h0⟩
theorem La(h:s<N.length*z.length):(eU N z m).getD s []=(List.range m).map λl=>(N.getD (s/z.length) []).getD l 0*(z.length:Int)+(z.getD (s%z.length) []).getD l 0:=by simp[eU,List.getD,h]
theorem Lb{how:Int}{z:zB}(h:s<n*n'):(jq how n n' E z).getD s false=xG how (E.getD (s/n') false) (z.getD (s%n') false):=by simp[jq,List.getD,h]
theorem Lc(hG:aK m n N)(J:aK m n' z)(hs:s<n*n')(U:l<m):((eU N z m).getD s []).getD l 0=((mV N (s/n') l*n'+mV z (s%n') l:Nat):Int):=by obtain⟨h1,h2⟩:=Hz hs;rw[La (by rw[hG.1,J.1];exact hs),J.1];rw[show((List.range m).map λl=>(N.getD (s/n') []).getD l 0*(n':Int)+(z.getD (s%n') []).getD l 0).getD l 0=(N.getD (s/n') []).getD l 0*(n':Int)+(z.getD (s%n') []).getD l 0 by simp[List.getD,U]];have Z:=(kL hG h1 U).2;have e2:=(kL J h2 U).2;rw[Z,e2];simp
theorem PG(hG:aK m n N)(J:aK m n' z)(hs:s<n*n')(U:l<m):mV (eU N z m) s l=mV N (s/n') l*n'+mV z (s%n') l:=by unfold mV;have:=Lc hG J hs U;unfold mV at this;rw[this,Int.toNat_natCast]
theorem gW(hG:aK m n N)(z:aK m n' U)(Z:n*n'<=4000000):aK m (n*n') (eU N U m):=by
 refine⟨by simp[eU,hG.1,z.1],Nat.mul_pos hG.2.1 z.2.1,Z,hG.2.2.2.1,hG.2.2.2.2.1,λs hs=>⟨?_,λj J=>?_⟩⟩
 ·rw[La (by rw[hG.1,z.1];exact hs)];simp
 ·rw[Lc hG z hs J];obtain⟨h1,h2⟩:=Hz hs;have:=sG (kL hG h1 J).1 (kL z h2 J).1;omega
theorem Ia{J:zL}(hG:aK m n N)(z:aK m n' J)(w:zI)(U:fA m w):bR N w<n/\bR J w<n'/\bR (eU N J m) w=bR N w*n'+bR J w:=by
 induction w using bB with
 |h0=>exact⟨hG.2.1,z.2.1,by simp[bR]⟩
 |h1 w x Z=>
  rw[lF]at U
  obtain⟨h1,h2,h3⟩:=Z U.1
  have hx:=U.2
  have hl:x.toNat<m:=by omega
  have p1:=lY h1 h2
  refine⟨?_,?_,?_⟩
  ·rw[dF];exact(lV hG _ h1 x hx).1
  ·rw[dF];exact(lV z _ h2 x hx).1
  ·rw[dF,dF,dF,h3,kK,kK,kK,PG hG z (sG h1 h2) hl,p1.1,p1.2]
theorem Ib(hG:aK m n N)(J:aK m n' z)(how:Int)(E U:zB)(w:zI)(Z:fA m w):(jq how n n' E U).getD (bR (eU N z m) w) false=xG how (E.getD (bR N w) false) (U.getD (bR z w) false):=by obtain⟨h1,h2,h3⟩:=Ia hG J w Z;have p1:=lY h1 h2;rw[h3,Lb (sG h1 h2),p1.1,p1.2]
theorem uq(hG:aK m n N)(E:zB)(z:n<=80):bE N E m<=80:=by unfold bE;exact Nat.le_trans (lW _ _) (Nat.le_trans (oK hG) z)
theorem eH{t:Int}{e:Nat}(h:bP b t N e=0):N.length<=80:=by
 unfold bP at h;split at h
 ·split at h
  ·cases h
  ·split at h
   ·cases h
   ·omega
 ·contradiction
theorem gG{u v:zI}:fA m (u++v)↔fA m u/\fA m v:=by
 unfold fA;constructor
 ·intro h;exact⟨λx hx=>h x (by simp[hx]),λx hx=>h x (by simp[hx])⟩
 ·rintro⟨h1,h2⟩ x hx
  rcases List.mem_append.1 hx with h|h
  ·exact h1 x h
  ·exact h2 x h
theorem yZ(N:zL)(u v:zI):bR N (u++v)=ny N (bR N u) v:=rZ N u v
theorem jr(h:aK m n N)(w:zI)(J:fA m w):bR N w<n:=by have:=yV h w w.length zr (λj z=>J _ (by rw[aS _ j z];exact List.getElem_mem z));rwa [List.take_length]at this
structure Twins (m K K':Nat) (A:zL) (EA:zB) (B:zL) (EB:zB):Prop where
 good:aK m K A
 BO:aK m K' B
 same: ∀w,fA m w->EA.getD (bR A w) false=EB.getD (bR B w) false
 apart: ∀s t,s<K->t<K->qX A EA m s t->s=t
 apart': ∀s t,s<K'->t<K'->qX B EB m s t->s=t
theorem Twins.symm(h:Twins m K K' A EA B EB):Twins m K' K B EB A EA:=⟨h.BO,h.good,λw z=>(h.same w z).symm,h.apart',h.apart⟩
def PI(m:Nat)(A B:zL)(s t:Nat):Prop:= ∃w,fA m w/\bR A w=s/\bR B w=t
theorem Ar(h:Twins m K K' A EA B EB){J:Nat}(h1:PI m A B s t)(h2:PI m A B s J):t=J:=by obtain⟨u,hu,Z,rfl⟩:=h1;obtain⟨v,hv,e2,rfl⟩:=h2;refine h.apart' _ _ (jr h.BO u hu) (jr h.BO v hv) λz U=>?_;rw[<-yZ,<-yZ,<-h.same _ (gG.2 ⟨hu,U⟩),<-h.same _ (gG.2 ⟨hv,U⟩),yZ,yZ,Z,e2]
theorem YD(h:Twins m K K' A EA B EB){z:Nat}(h1:PI m A B s t)(h2:PI m A B z t):s=z:=by obtain⟨u,hu,J,U⟩:=h1;obtain⟨v,hv,Z,e4⟩:=h2;exact Ar h.symm ⟨u,hu,U,J⟩ ⟨v,hv,e4,Z⟩
theorem Ld{j:Nat}(h:PI m A B s t)(z:j<m):PI m A B (mV A s j) (mV B t j):=by obtain⟨u,hu,rfl,rfl⟩:=h;exact⟨u++[(j:Int)],lF.2 ⟨hu,by omega,by omega⟩,by rw[dF,kK,Int.toNat_natCast],by rw[dF,kK,Int.toNat_natCast]⟩
def afR(m:Nat)(A B:zL)(x y:Int):Prop:=0<=x/\0<=y/\PI m A B x.toNat y.toNat
def KJ(m:Nat)(A B:zL)(o z:zI):Prop:=o.length=z.length/\ ∀i,i<o.length->afR m A B (o.getD i 0) (z.getD i 0)
theorem YE{z:zI}{x y:Int}(h:KJ m A B o z)(hx:afR m A B x y):KJ m A B (o++[x]) (z++[y]):=by
 refine⟨by rw[List.length_append,List.length_append,h.1];rfl,λi hi=>?_⟩;rw[List.length_append,List.length_singleton]at hi;by_cases e:i<o.length
 ·rw[iq (List.prefix_append _ _) i e,iq (List.prefix_append _ _) i (by rw[<-h.1];exact e)];exact h.2 i e
 ·obtain rfl:i=o.length:=by omega
  have J:(o++[x]).getD o.length 0=x:=by simp[List.getD]
  have U:(z++[y]).getD o.length 0=y:=by rw[h.1];simp[List.getD]
  rw[J,U];exact hx
theorem abo(Z:Twins m K K' A EA B EB){z:zI}{x y:Int}(h:KJ m A B o z)(hx:afR m A B x y):x∈o↔y∈z:=by
 constructor
 ·intro hm
  obtain⟨i,hi,e⟩:=List.getElem_of_mem hm;have h1:=h.2 i hi;rw[aS _ i hi,e]at h1;have:=Ar Z hx.2.2 h1.2.2;have h2:=h1.2.1;have h3:=hx.2.1;have U:y=z.getD i 0:=by omega
  rw[U,aS _ i (by rw[<-h.1];exact hi)];exact List.getElem_mem _
 ·intro hm
  obtain⟨i,hi,e⟩:=List.getElem_of_mem hm;have J:i<o.length:=by rw[h.1];exact hi
  have h1:=h.2 i J;rw[aS z i hi,e]at h1;have:=YD Z hx.2.2 h1.2.2;have h2:=h1.1;have h3:=hx.1;have U:x=o.getD i 0:=by omega
  rw[U,aS _ i J];exact List.getElem_mem _
theorem abp(J:Twins m K K' A EA B EB){z:zI}{x y:Int}(h:KJ m A B o z)(hx:afR m A B x y):KJ m A B (nk o x) (nk z y):=by
 have hm:=abo J h hx;by_cases e:x∈o
 ·rw[qV e,qV (hm.1 e)];exact h
 ·rw[vJ e,vJ (λU=>e (hm.2 U))];exact YE h hx
theorem abq(Z:Twins m K K' A EA B EB){z:zI}{r:zI}(h:KJ m A B o z)(U:KJ m A B r J)(k:Nat)(hk:k<=r.length):KJ m A B (cu o (r.take k)) (cu z (J.take k)):=by
 induction k with
 |zero=>simpa[cu]using h
 |succ k ih=>
  rw[jm _ _ k (by omega),jm _ _ k (by rw[<-U.1];omega)]
  exact abp Z (ih (by omega)) (U.2 k (by omega))
theorem YF(J:Twins m K K' A EA B EB)(i:Nat):KJ m A B (bQ A i) (bQ B i):=by
 induction i with
 |zero=>
  refine⟨rfl,λi hi=>?_⟩
  simp[bQ]at hi
  subst hi
  exact⟨by simp[bQ,List.getD],by simp[bQ,List.getD],[],by simp[fA],by simp[bQ,List.getD,bR],by simp[bQ,List.getD,bR]⟩
 |succ i z=>
  unfold bQ
  by_cases hi:i<(bQ A i).length
  ·rw[yP hi,yP (by rw[<-z.1];exact hi)]
   have hrel:=z.2 i hi
   have s1:=yX (sj J.good i) i hi
   have s2:=yX (sj J.BO i) i (by rw[<-z.1];exact hi)
   have g1:=J.good.2.2.2.2.2 _ (show((bQ A i).getD i 0).toNat<K by omega)
   have g2:=J.BO.2.2.2.2.2 _ (show((bQ B i).getD i 0).toNat<K' by omega)
   have U:KJ m A B (A.getD ((bQ A i).getD i 0).toNat []) (B.getD ((bQ B i).getD i 0).toNat []):=by refine⟨by rw[g1.1,g2.1],λj Z=>?_⟩;rw[g1.1]at Z;exact⟨(g1.2 j Z).1,(g2.2 j Z).1,Ld hrel.2.2 Z⟩
   have:=abq J z U _ zr
   rw[List.take_length]at this
   have e:(B.getD ((bQ B i).getD i 0).toNat []).take (A.getD ((bQ A i).getD i 0).toNat []).length=B.getD ((bQ B i).getD i 0).toNat []:=by rw[U.1,List.take_length]
   rwa [e]at this
  ·rw[yN hi,yN (by rw[<-z.1];exact hi)]
   exact z
theorem Le(h:aK m n N)(j:Nat):bQ N (n+j)=aR N:=by
 have e:bQ N n=aR N:=by unfold aR;rw[h.1]
 rw[<-e];exact Du N n (uj h n) j
theorem Lf(z:Twins m K K' A EA B EB)(hA:aR A=gy K)(hB:aR B=gy K')(a1:EA.length=K)(a2:EB.length=K'):A=B/\EA=EB:=by
 have U:=YF z (K+K');rw[Le z.good K',Nat.add_comm,Le z.BO K,hA,hB]at U;obtain rfl:K=K':=by have:=U.1;rwa [jS,jS]at this
 have J: ∀i,i<K->PI m A B i i:=λi hi=>by have:=(U.2 i (by rw[jS];exact hi)).2.2;rwa [uo hi,Int.toNat_natCast]at this
 constructor
 ·apply List.ext_getElem
  ·rw[z.good.1,z.BO.1]
  ·intro i h1 h2
   have hi:i<K:=(by rw[<-z.good.1];exact h1);have g1:=z.good.2.2.2.2.2 i hi;have g2:=z.BO.2.2.2.2.2 i hi;have Z:A.getD i []=A[i]:=(by simp[List.getD,h1]);have e2:B.getD i []=B[i]:=(by simp[List.getD,h2]);rw[<-Z,<-e2];apply List.ext_getElem
   ·rw[g1.1,g2.1]
   ·intro j j1 j2;have hj:j<m:=(by rw[<-g1.1];exact j1);have c1:=(kL z.good hi hj);have c2:=(kL z.BO hi hj);have hr:=Ld (J i hi) hj;have:=Ar z hr (J _ c1.1);rw[<-aS _ j j1,<-aS _ j j2,c1.2,c2.2,this]
 ·apply List.ext_getElem
  ·rw[a1,a2]
  ·intro i h1 h2;obtain⟨u,hu,Z,e2⟩:=J i (by omega);have:=z.same u hu;rw[Z,e2]at this;simpa[List.getD,h1,h2]using this
theorem kM(hG:aK m n N)(J:aK m n' U)(E z:zB)(h: ∀w,fA m w->E.getD (bR N w) false=z.getD (bR U w) false):aV N E m=aV U z m/\aY N E m=aY U z m:=
 Lf (K:=bE N E m) (K':=bE U z m) ⟨fE hG E,fE J z,λw Z=>by rw[su hG E w Z,su J z w Z];exact h w Z,λs t hs ht=>sD hG E hs ht,λs t hs ht=>sD J z hs ht⟩ (yY hG E) (yY J z) (fM N E m) (fM U z m)
theorem afS(hG:aK m n N)(H:List Nat)(h0:H.getD 0 0=0)(hH: ∀s,s<n-> ∀j,j<m->H.getD (mV N s j) 0=mV B (H.getD s 0) j)(w:zI):fA m w->bR B w=H.getD (bR N w) 0:=by
 induction w using bB with
 |h0=>exact λ_=>h0.symm
 |h1 w y U=>
  intro Z
  obtain⟨z,J⟩:=gG.1 Z
  have hy:=J y (by simp)
  rw[dF,dF,U z,kK,kK,hH _ (jr hG w z) y.toNat (by omega)]
def abr(m n:Nat)(N:zL):Bool:=decide (N.length=n)&&decide (1<=n)&&decide (n<=4000000)&&decide (m<=36)&&decide (1<=m)&&N.all (λr=>decide (r.length=m)&&r.all λx=>decide (0<=x)&&decide (x<(n:Int)))
theorem afT(h:abr m n N=true):aK m n N:=by
 unfold abr at h;simp only[Bool.and_eq_true,decide_eq_true_eq,List.all_eq_true]at h;obtain⟨⟨⟨⟨⟨h1,h2⟩,h3⟩,h4⟩,h5⟩,U⟩:=h;refine⟨h1,h2,h3,h4,h5,λs hs=>?_⟩
 have z:=U (N.getD s []) (by
  have J:s<N.length:=by omega
  have e:N.getD s []=N[s]:=by simp[List.getD,J]
  rw[e];exact List.getElem_mem _)
 refine⟨z.1,λj Z=>?_⟩;have:=z.2 ((N.getD s []).getD j 0) (by rw[aS _ j (by rw[z.1];exact Z)];exact List.getElem_mem _);exact this
def gP(N:zL)(E:zB)(w:zI):Bool:=E.getD (bR N w) false
theorem jN(hG:aK m n N)(E:zB)(w:zI)(z:fA m w):gP (aV N E m) (aY N E m) w=gP N E w:=su hG E w z
theorem za(hG:aK m n N)(U:aK m n' z)(how:Int)(E J:zB)(w:zI)(Z:fA m w):gP (eU N z m) (jq how n n' E J) w=xG how (gP N E w) (gP z J w):=Ib hG U how E J w Z
theorem abt(hG:aK m n N)(U:aK m n' z)(E J:zB)(h: ∀w,fA m w->gP N E w=gP z J w):aV N E m=aV z J m/\aY N E m=aY z J m/\bE N E m=bE z J m:=by obtain⟨h1,h2⟩:=kM hG U E J h;exact⟨h1,h2,by rw[<-aZ,h1,aZ]⟩
theorem V7(hG:aK m n N)(U:aK m n' z)(hn:n*n'<=4000000)(how:Int)(E J:zB)(w:zI)(Z:fA m w):gP (aV (eU N z m) (jq how n n' E J) m) (aY (eU N z m) (jq how n n' E J) m) w=xG how (gP N E w) (gP z J w):=by rw[jN (gW hG U hn) _ w Z,za hG U how E J w Z]
def EP:Nat->(Nat->Bool)->Nat
 |0,_=>0
 |n+1,p=>if p n=true then EP n p|||2^n else EP n p
theorem Dy(n:Nat)(p:Nat->Bool)(s:Nat):(EP n p).testBit s=(decide (s<n)&&p s):=by
 induction n with
 |zero=>simp[EP]
 |succ n J=>
  unfold EP
  by_cases z:p n=true
  ·rw[yP z,Nat.testBit_or,J,Nat.testBit_two_pow]
   by_cases e:n=s
   ·subst e;simp[z]
   ·have:(s<n+1)↔s<n:=by omega
    simp[e,this]
  ·rw[yN z,J]
   by_cases e:s=n
   ·subst e;simp[z]
   ·have:(s<n+1)↔s<n:=by omega
    simp[this]
theorem PK(n:Nat)(p:Nat->Bool):EP n p<2^n:=by apply Nat.lt_pow_two_of_testBit;intro i hi;rw[Dy];simp;omega
theorem xH(hx:x<2^n)(z:y<2^n)(h: ∀s,s<n->x.testBit s=y.testBit s):x=y:=by
 apply Nat.eq_of_testBit_eq;intro i;by_cases hi:i<n
 ·exact h i hi
 ·have h2:2^n<=2^i:=Nat.pow_le_pow_right (by decide) (by omega);rw[Nat.testBit_lt_two_pow (Nat.lt_of_lt_of_le hx h2),Nat.testBit_lt_two_pow (Nat.lt_of_lt_of_le z h2)]
theorem Nl(hx:x<2^n)(h:x.testBit s=true):s<n:=by apply Classical.byContradiction;intro z;rw[Nat.testBit_lt_two_pow (Nat.lt_of_lt_of_le hx (Nat.pow_le_pow_right (by decide) (by omega)))]at h;cases h
def vL(L:List Nat)(x:Nat):List Nat:=if x∈L then L else L++[x]
def fI(d:Nat->Nat->Nat)(L:List Nat)(x:Nat):Nat->List Nat
 |0=>L
 |l+1=>vL (fI d L x l) (d x l)
def aM(d:Nat->Nat->Nat)(m f:Nat):Nat->List Nat
 |0=>[f]
 |i+1=>if i<(aM d m f i).length then fI d (aM d m f i) ((aM d m f i).getD i 0) m else aM d m f i
def fZ(d:Nat->Nat->Nat)(f:Nat)(w:zI):Nat:=w.foldl (λx l=>d x l.toNat) f
theorem abu(L:List Nat)(x:Nat):L<+:vL L x:=by unfold vL;split;exact List.prefix_refl _;exact List.prefix_append _ _
theorem PL:y∈vL L x↔y∈L\/y=x:=by
 unfold vL;split
 ·rename_i h
  constructor
  ·exact Or.inl
  ·rintro(z|rfl)
   ·exact z
   ·exact h
 ·simp
theorem TA(h:L.Nodup):(vL L x).Nodup:=by
 unfold vL;split
 ·exact h
 ·rename_i hx;rw[List.nodup_append];refine⟨h,by simp,?_⟩;intro a z b hb e;simp at hb;subst hb;subst e;exact hx z
theorem xI(h:x∈L):vL L x=L:=by unfold vL;rw[yP h]
theorem xJ(h: ¬x∈L):vL L x=L++[x]:=by unfold vL;rw[yN h]
theorem abv(L:List Nat)(x:Nat):(vL L x).length<=L.length+1:=by unfold vL;split<;>simp
theorem PN(d:Nat->Nat->Nat)(L:List Nat)(x l j:Nat):fI d L x l<+:fI d L x (l+j):=by
 induction j with
 |zero=>exact List.prefix_refl _
 |succ j z=>exact z.trans (abu _ _)
theorem ze(d:Nat->Nat->Nat)(L:List Nat)(x l:Nat):L<+:fI d L x l:=by have:=PN d L x 0 l;rwa [Nat.zero_add]at this
theorem uw:y∈fI d L x l↔y∈L\/ ∃j,j<l/\y=d x j:=by
 induction l with
 |zero=>simp[fI]
 |succ l z=>
  unfold fI
  rw[PL,z]
  constructor
  ·rintro((h|⟨j,J,h⟩)|h)
   ·exact .inl h
   ·exact .inr ⟨j,by omega,h⟩
   ·exact .inr ⟨l,by omega,h⟩
  ·rintro(h|⟨j,J,h⟩)
   ·exact .inl (.inl h)
   ·by_cases e:j=l
    ·subst e;exact .inr h
    ·exact .inl (.inr ⟨j,by omega,h⟩)
theorem TB(h:L.Nodup)(l:Nat):(fI d L x l).Nodup:=by
 induction l with
 |zero=>exact h
 |succ l z=>exact TA z
theorem PO(d:Nat->Nat->Nat)(m f i j:Nat):aM d m f i<+:aM d m f (i+j):=by
 induction j with
 |zero=>exact List.prefix_refl _
 |succ j z=>
  refine z.trans ?_
  show _<+:aM d m f (i+j+1)
  conv=>rhs;unfold aM
  split
  ·exact ze _ _ _ _
  ·exact List.prefix_refl _
theorem BP(h:i<=k):aM d m f i<+:aM d m f k:=by have:=PO d m f i (k-i);rwa [Nat.add_sub_cancel' h]at this
theorem kN(d:Nat->Nat->Nat)(m f i:Nat):(aM d m f i).Nodup:=by
 induction i with
 |zero=>simp[aM]
 |succ i z=>
  unfold aM
  split
  ·exact TB z _
  ·exact z
theorem nA(d:Nat->Nat->Nat)(m f i:Nat):0<(aM d m f i).length/\(aM d m f i).getD 0 0=f:=by obtain⟨t,z⟩:=BP (d:=d) (m:=m) (f:=f) (Nat.zero_le i);rw[<-z];simp[aM]
theorem uy{a b:List Nat}(h:a<+:b)(hi:i<a.length):b.getD i 0=a.getD i 0:=by obtain⟨t,rfl⟩:=h;simp[List.getD,List.getElem?_append_left hi]
theorem jO{a:List Nat}(hi:i<a.length):a.getD i 0∈a:=by simp[List.getD,hi]
theorem abw{a:List Nat}(h:x∈a): ∃i,i<a.length/\a.getD i 0=x:=by obtain⟨i,hi,rfl⟩:=List.getElem_of_mem h;exact⟨i,hi,by simp[List.getD,hi]⟩
theorem YG{p j:Nat}(hp:p<i)(J:p<(aM d m f i).length)(hj:j<m):d ((aM d m f i).getD p 0) j∈aM d m f i:=by
 induction i with
 |zero=>omega
 |succ i U=>
  by_cases Z:i<(aM d m f i).length
  ·have e:aM d m f (i+1)=fI d (aM d m f i) ((aM d m f i).getD i 0) m:=by
    conv=>lhs;unfold aM
    rw[yP Z]
   have z:p<(aM d m f i).length:=by omega
   rw[uy (PO d m f i 1) z,e,uw]
   by_cases ep:p=i
   ·subst ep;exact .inr ⟨j,hj,rfl⟩
   ·exact .inl (U (by omega) z)
  ·have e:aM d m f (i+1)=aM d m f i:=by
    conv=>lhs;unfold aM
    rw[yN Z]
   rw[e]at J⊢
   exact U (by omega) J
theorem jV(d:Nat->Nat->Nat)(f:Nat)(w:zI)(x:Int):fZ d f (w++[x])=d (fZ d f w) x.toNat:=by simp[fZ,List.foldl_append]
theorem Lg(d:Nat->Nat->Nat)(f:Nat)(w:zI)(x:Int):fZ d f (x::w)=fZ d (d f x.toNat) w:=rfl
theorem jF(h:x∈aM d m f i): ∃w,fA m w/\fZ d f w=x:=by
 induction i generalizing x with
 |zero=>simp[aM]at h;subst h;exact⟨[],by simp[fA],rfl⟩
 |succ i z=>
  unfold aM at h
  split at h
  ·rename_i hi
   rcases uw.1 h with h|⟨j,hj,rfl⟩
   ·exact z h
   ·obtain⟨w,J,U⟩:=z (jO hi)
    refine⟨w++[(j:Int)],gG.2 ⟨J,λy Z=>by simp at Z;omega⟩,?_⟩
    rw[jV,U,Int.toNat_natCast]
  ·exact z h
def ku(d:Nat->Nat->Nat)(m:Nat)(L:List Nat):Prop:= ∀x∈L,∀j,j<m->d x j∈L
theorem kP(h:(aM d m f i).length<=i):ku d m (aM d m f i):=λx hx j z=>by obtain⟨p,J,rfl⟩:=abw hx;exact YG (by omega) J z
theorem uz(h:(aM d m f i).length<=i)(j:Nat):aM d m f (i+j)=aM d m f i:=by
 induction j with
 |zero=>rfl
 |succ j z=>
  show aM d m f (i+j+1)=_
  conv=>lhs;unfold aM
  rw[z,yN (by omega)]
theorem PS(h:ku d m L)(z:f∈L)(w:zI)(J:fA m w):fZ d f w∈L:=by
 induction w generalizing f with
 |nil=>exact z
 |cons x w U=>
  rw[Lg]
  have hx:=J x (by simp)
  exact U (h f z _ (by omega)) (λy Z=>J y (by simp[Z]))
theorem kW{K:List Nat}(z:L.Nodup)(h: ∀x∈L,x∈K):L.length<=K.length:=by
 induction L generalizing K with
 |nil=>simp
 |cons a L U=>
  rw[List.nodup_cons]at z
  have J:=h a (by simp)
  have:=U (K:=K.erase a) z.2 (λx hx=>(List.mem_erase_of_ne (by rintro rfl;exact z.1 hx)).2 (h x (by simp[hx])))
  rw[List.length_erase_of_mem J]at this
  have:=List.length_pos_of_mem J
  simp
  omega
def gN(d:Nat->Nat->Nat)(m:Nat)(L:List Nat):zL:=L.map λx=>(List.range m).map λl=>((L.idxOf (d x l):Nat):Int)
def gE(p:Nat->Bool)(L:List Nat):zB:=L.map p
theorem kQ(d:Nat->Nat->Nat)(m:Nat)(L:List Nat):(gN d m L).length=L.length:=by simp[gN]
theorem Nn(p:Nat->Bool)(L:List Nat):(gE p L).length=L.length:=by simp[gE]
theorem TD(hi:i<L.length):(gN d m L).getD i []=(List.range m).map λl=>((L.idxOf (d (L.getD i 0) l):Nat):Int):=by simp[gN,List.getD,hi]
theorem V8(hi:i<L.length)(z:l<m):((gN d m L).getD i []).getD l 0=((L.idxOf (d (L.getD i 0) l):Nat):Int):=by rw[TD hi];simp[List.getD,z]
theorem TF{p:Nat->Bool}(hi:i<L.length):(gE p L).getD i false=p (L.getD i 0):=by simp[gE,List.getD,hi]
theorem sH(hc:ku d m L)(h0:0<L.length)(z:L.length<=4000000)(h1:1<=m)(J:m<=36):aK m L.length (gN d m L):=by refine⟨kQ _ _ _,h0,z,J,h1,λs hs=>⟨by rw[TD hs];simp,λj U=>?_⟩⟩;rw[V8 hs U];have:=List.idxOf_lt_length_of_mem (hc _ (jO hs) j U);omega
theorem Gl(h:x∈L):L.getD (L.idxOf x) 0=x:=by have z:=List.idxOf_lt_length_of_mem h;simp[List.getD,z]
theorem abx(hc:ku d m L)(h0:0<L.length)(w:zI)(Z:fA m w):bR (gN d m L) w<L.length/\L.getD (bR (gN d m L) w) 0=fZ d (L.getD 0 0) w:=by
 induction w using bB with
 |h0=>exact⟨h0,rfl⟩
 |h1 w x ih=>
  obtain⟨z,J⟩:=gG.1 Z
  obtain⟨U,i2⟩:=ih z
  have hx:=J x (by simp)
  have hm:=hc _ (jO U) x.toNat (by omega)
  have e:bR (gN d m L) (w++[x])=L.idxOf (d (L.getD (bR (gN d m L) w) 0) x.toNat):=by rw[rZ];show fC _ _ x=_;unfold fC;rw[V8 U (by omega),Int.toNat_natCast]
  rw[e,jV,<-i2]
  exact⟨List.idxOf_lt_length_of_mem hm,Gl hm⟩
theorem Ic{p:Nat->Bool}(hc:ku d m L)(h0:0<L.length)(w:zI)(z:fA m w):gP (gN d m L) (gE p L) w=p (fZ d (L.getD 0 0) w):=by obtain⟨h1,h2⟩:=abx hc h0 w z;unfold gP;rw[TF h1,h2]
def kC(N:zL)(n:Nat)(z:zI)(M:Nat):Nat:=EP n λt=>(List.range n).any λs=>M.testBit s&&z.any λl=>decide (fC N s l=t)
def byL(N:zL)(z:zI)(s l:Nat):Nat:=fC N s (z.getD l 0)
def kI(N:zL)(n:Nat)(z:zI):Nat:=EP n λt=>decide (t∈aM (byL N z) z.length 0 n)
def vM(n:Nat)(E:zB)(M:Nat):Bool:=(List.range n).any λs=>E.getD s false&&M.testBit s
theorem jW:(kC N n J M).testBit t=true↔t<n/\ ∃s,s<n/\M.testBit s=true/\ ∃l∈J,fC N s l=t:=by
 unfold kC;rw[Dy,Bool.and_eq_true,decide_eq_true_iff,List.any_eq_true];constructor
 ·rintro⟨h0,s,hs,h⟩;rw[Bool.and_eq_true,List.any_eq_true]at h;obtain⟨h1,l,z,h2⟩:=h;exact⟨h0,s,List.mem_range.1 hs,h1,l,z,by simpa using h2⟩
 ·rintro⟨h0,s,hs,h1,l,z,h2⟩;refine⟨h0,s,List.mem_range.2 hs,?_⟩;rw[Bool.and_eq_true,List.any_eq_true];exact⟨h1,l,z,by simpa using h2⟩
theorem Np(N:zL)(z:zI)(w:zI):fZ (byL N z) 0 w=bR N (w.map λx=>z.getD x.toNat 0):=by unfold fZ bR;rw[List.foldl_map];rfl
theorem oV(hG:aK m n N)(hl: ∀x∈J,0<=x/\x<(m:Int)):(kI N n J).testBit t=true↔ ∃z:zI,(∀x∈z,x∈J)/\bR N z=t:=by
 have Z: ∀w,fA J.length w->(∀x∈w.map (λx=>J.getD x.toNat 0),x∈J):=λw U x hx=>by obtain⟨y,hy,rfl⟩:=List.mem_map.1 hx;have:=U y hy;rw[aS _ y.toNat (by omega)];exact List.getElem_mem _
 have a1: ∀z:zI,(∀x∈z,x∈J)->bR N z<n:=λz Z=>by have:=yV hG z z.length zr (λj hj=>hl _ (Z _ (by rw[aS _ j hj];exact List.getElem_mem _)));rwa [List.take_length]at this
 have hlen:(aM (byL N J) J.length 0 n).length<=n:=by have:=kW (K:=List.range n) (kN (byL N J) J.length 0 n) (λx hx=>by obtain⟨w,U,rfl⟩:=jF hx;rw[Np];exact List.mem_range.2 (a1 _ (Z w U)));rwa [List.length_range]at this
 have hp:=nA (byL N J) J.length 0 n;have h0:0∈aM (byL N J) J.length 0 n:=by have:=jO hp.1;rwa [hp.2]at this
 unfold kI;rw[Dy,Bool.and_eq_true,decide_eq_true_iff,decide_eq_true_iff];constructor
 ·rintro⟨-,h⟩;obtain⟨w,U,rfl⟩:=jF h;rw[Np];exact⟨_,Z w U,rfl⟩
 ·rintro⟨z,hz1,rfl⟩
  refine⟨a1 z hz1,?_⟩
  have e:z=(z.map λx=>((J.idxOf x:Nat):Int)).map λx=>J.getD x.toNat 0:=by
   rw[List.map_map];conv=>lhs;rw[<-List.map_id z]
   apply List.map_congr_left;intro x hx;have:=List.idxOf_lt_length_of_mem (hz1 x hx);simp[List.getD,this]
  rw[e,<-Np];refine PS (kP hlen) h0 _ λy hy=>?_;obtain⟨x,hx,rfl⟩:=List.mem_map.1 hy;have:=List.idxOf_lt_length_of_mem (hz1 x hx);omega
theorem ru(N:zL)(n:Nat)(z:zI)(M:Nat):kC N n z M<2^n:=PK _ _
theorem vP(N:zL)(n:Nat)(z:zI):kI N n z<2^n:=PK _ _
theorem PU:vM n E M=true↔ ∃s,s<n/\E.getD s false=true/\M.testBit s=true:=by
 unfold vM;rw[List.any_eq_true];constructor
 ·rintro⟨s,hs,h⟩;rw[Bool.and_eq_true]at h;exact⟨s,List.mem_range.1 hs,h⟩
 ·rintro⟨s,hs,h1,h2⟩;exact⟨s,List.mem_range.2 hs,by rw[h1,h2];rfl⟩
def rz(z:zL):zI->zI->Prop
 |[],[]=>True
 |x::w,y::v=>y∈z.getD x.toNat []/\rz z w v
 |_,_=>False
def dM(N:zL)(n:Nat)(z:zL)(M l:Nat):Nat:=kC N n (z.getD l []) M
theorem PV(w:zI)(M:Nat)(Z:M<2^n)(t:Nat):(fZ (dM N n z) M w).testBit t=true↔t<n/\ ∃s v,M.testBit s=true/\rz z w v/\(∀k,k<=v.length->ny N s (v.take k)<n)/\ny N s v=t:=by
 induction w generalizing M with
 |nil=>
  constructor
  ·intro h
   have:=Nl Z h
   exact⟨this,t,[],h,trivial,λk _=>by simp[ny];exact this,rfl⟩
  ·rintro⟨-,s,v,h1,h2,-,h3⟩
   cases v with
   |nil=>simp[ny]at h3;subst h3;exact h1
   |cons y v=>exact h2.elim
 |cons x w ih=>
  rw[Lg,ih (dM N n z M x.toNat) (ru _ _ _ _)]
  constructor
  ·rintro⟨J,s1,v,h1,h2,h3,h4⟩
   obtain⟨a1,s,hs,hm,l,hl,e⟩:=jW.1 h1
   refine⟨J,s,l::v,hm,⟨hl,h2⟩,λk U=>?_,by rw[<-h4,<-e];rfl⟩
   cases k with
   |zero=>simp[ny];exact hs
   |succ k=>
    rw[List.take_succ_cons]
    show ny N (fC N s l) (v.take k)<n
    rw[e]
    exact h3 k (by simpa using U)
  ·rintro⟨J,s,v,h1,h2,h3,h4⟩
   cases v with
   |nil=>exact h2.elim
   |cons l v=>
    have hs:=Nl Z h1
    refine⟨J,fC N s l,v,jW.2 ⟨?_,s,hs,h1,l,h2.1,rfl⟩,h2.2,λk U=>?_,h4⟩
    ·exact h3 1 (by simp)
    ·have:=h3 (k+1) (by simpa using U)
     rwa [List.take_succ_cons]at this
theorem TG{a b:Nat}(h:Nat.blt a b=true):a<b:=Nat.le_of_ble_eq_true h
def TH:Nat->zI->Option Nat
 |c,[]=>some c
 |c,x::r=>if x<(c:Int)then TH c r else if x=(c:Int)then TH (c+1) r else none
def aby(K:Nat):Nat->Nat->zL->Bool
 |_,c,[]=>Nat.beq c K
 |i,c,r::N=>Nat.blt i c&&(match TH c r with|some c'=>aby K (i+1) c' N|none=>false)
theorem abz{c:Nat}{x:Int}(h0:0<=x)(h:x<(c:Int)):nk (gy c) x=gy c:=by unfold nk;rw[yP (jR.2 ⟨h0,h⟩)]
theorem abA(c:Nat):nk (gy c) (c:Int)=gy (c+1):=by unfold nk;rw[yN (λh=>by have:=(jR.1 h).2;omega)];unfold gy;rw[List.range_succ,List.map_append];rfl
theorem Nq: ∀(r:zI) (c c':Nat),(∀x∈r,0<=x)->TH c r=some c'->cu (gy c) r=gy c'
 |[],c,c',_,h=>by unfold TH at h;cases h;rfl
 |x::r,c,c',h0,h=>by
  unfold TH at h;have hx:=h0 x (by simp);have z:=λy J=>h0 y (List.mem_cons_of_mem x J);show cu (nk (gy c) x) r=_;by_cases h1:x<(c:Int)
  ·rw[yP h1]at h;rw[abz hx h1];exact Nq r c c' z h
  ·rw[yN h1]at h
   by_cases h2:x=(c:Int)
   ·rw[yP h2]at h;subst h2;rw[abA];exact Nq r (c+1) c' z h
   ·rw[yN h2]at h;cases h
theorem abB{c:Nat}(h:i<c):(gy c).getD i 0=(i:Int):=by simp[gy,List.getD,h]
theorem V9{K:Nat}{N:zL}(h0: ∀r∈N,∀x∈r,0<=x): ∀(R:zL) (i c:Nat),N.drop i=R->bQ N i=gy c->aby K i c R=true->bQ N (i+R.length)=gy K
 |[],i,c,_,z,h=>by unfold aby at h;have:=Nat.eq_of_beq_eq_true h;subst this;exact z
 |r::R,i,c,U,z,h=>by
  unfold aby at h;rw[Bool.and_eq_true]at h;obtain⟨h1,h2⟩:=h;have J:i<c:=TG h1;have hr:N.getD i []=r:=by have h3:(N.drop i)[0]? =some r:=(by rw[U];rfl);rw[List.getElem?_drop,Nat.add_zero]at h3;simp[List.getD,h3]
  have hm:r∈N:=by have:r∈N.drop i:=(by rw[U];simp);exact List.mem_of_mem_drop this
  have Z:i<(bQ N i).length:=by rw[z,jS];exact J
  cases hc:TH c r with
  |none=>rw[hc]at h2;cases h2
  |some c'=>
   rw[hc]at h2
   have hs:bQ N (i+1)=gy c':=by rw[kV N i Z,z,abB J,Int.toNat_natCast,hr];exact Nq r c c' (h0 r hm) hc
   have ht:N.drop (i+1)=R:=by rw[<-List.drop_drop,U];rfl
   have:=V9 h0 R (i+1) c' ht hs h2
   rw[List.length_cons,show i+(R.length+1)=i+1+R.length by omega]
   exact this
def abC(N:zL)(E:zB)(s:Nat):zL->Nat
 |[]=>0
 |w::ws=>2*abC N E s ws+(E.getD (ny N s w) false).toNat
def afU:List Nat->Bool
 |[]=>true
 |a::l=>l.all (λb=>!Nat.beq a b)&&afU l
theorem Wh: ∀l:List Nat,afU l=true->l.Nodup
 |[],_=>by simp
 |a::l,h=>by unfold afU at h;rw[Bool.and_eq_true,List.all_eq_true]at h;rw[List.nodup_cons];refine⟨λhm=>?_,Wh l h.2⟩;have:=h.1 a hm;rw[Nat.beq_refl]at this;cases this
theorem Lh{m:Nat}{N:zL}{E:zB}{s t:Nat}(h:qX N E m s t): ∀W:zL,(∀w∈W,fA m w)->abC N E s W=abC N E t W
 |[],_=>rfl
 |w::W,z=>by unfold abC;rw[h w (z w (by simp)),Lh h W (λv hv=>z v (by simp[hv]))]
def abD(m:Nat)(B:zL)(EB:zB)(W:zL):Bool:=
 abr m B.length B&&decide (EB.length=B.length)&&aby B.length 0 1 B&&W.all (λw=>w.all λx=>decide (0<=x)&&decide (x<(m:Int)))&&afU ((List.range B.length).map λs=>abC B EB s W)
structure fB (m:Nat) (B:zL) (EB:zB):Prop where
 good:aK m B.length B
 len:EB.length=B.length
 met:aR B=gy B.length
 apart: ∀s t,s<B.length->t<B.length->qX B EB m s t->s=t
theorem mF{W:zL}(h:abD m B EB W=true):fB m B EB:=by
 unfold abD at h;simp only[Bool.and_eq_true,decide_eq_true_eq,List.all_eq_true]at h;obtain⟨⟨⟨⟨h1,h2⟩,h3⟩,h4⟩,h5⟩:=h;have hg:=afT h1
 have h0: ∀r∈B,∀x∈r,0<=x:=λr hr x hx=>by
  obtain⟨i,hi,rfl⟩:=List.getElem_of_mem hr;obtain⟨j,J,rfl⟩:=List.getElem_of_mem hx;have e:B.getD i []=B[i]:=by simp[List.getD,hi]
  have g:=hg.2.2.2.2.2 i hi;rw[e]at g;have:=(g.2 j (by rw[<-g.1];exact J)).1;rwa [aS _ j J]at this
 refine⟨hg,h2,?_,λs t hs U h=>?_⟩
 ·have:=V9 h0 B 0 1 rfl rfl h3;rw[Nat.zero_add]at this;exact this
 ·have hn:=Wh _ h5
  have Z:=List.pairwise_iff_getElem.1 hn;have e:=Lh h W (λw hw x hx=>h4 w hw x hx);apply Classical.byContradiction;intro a1;rcases Nat.lt_or_gt_of_ne a1 with z|z
  ·have:=Z s t (by simpa using hs) (by simpa using U) z;simp at this;exact this e
  ·have:=Z t s (by simpa using U) (by simpa using hs) z;simp at this;exact this e.symm
theorem BQ(hG:aK m n N)(h:fB m B EB)(J: ∀w,fA m w->gP N E w=gP B EB w):aV N E m=B/\aY N E m=EB:=
 Lf (K:=bE N E m) (K':=B.length) ⟨fE hG E,h.good,λw z=>by rw[su hG E w z];exact J w z,λ_ _ hs U=>sD hG E hs U,h.apart⟩ (yY hG E) h.met (fM N E m) h.len
theorem uD(h:fB m B EB):aV B EB m=B/\aY B EB m=EB/\bE B EB m=B.length:=by obtain⟨h1,h2⟩:=BQ h.good h (λ_ _=>rfl);exact⟨h1,h2,by rw[<-aZ,h1]⟩
def YH(f:Nat->Nat)(n:Nat)(V I:List Nat):Nat->List Nat->zI->Bool
 |_,[],[]=>true
 |j,t::T,x::r=>Nat.blt t n&&Nat.beq (f j) (V.getD t 0)&&decide (x=((I.getD t 0:Nat):Int))&&YH f n V I (j+1) T r
 |_,_,_=>false
theorem PW{f:Nat->Nat}{n:Nat}{V I:List Nat}: ∀(T:List Nat) (r:zI) (j:Nat),YH f n V I j T r=true-> ∀k,k<r.length->T.getD k 0<n/\f (j+k)=V.getD (T.getD k 0) 0/\r.getD k 0=((I.getD (T.getD k 0) 0:Nat):Int)
 |[],[],_,_,k,z=>by simp at z
 |[],_::_,_,h,_,_=>by simp[YH]at h
 |_::_,[],_,_,k,z=>by simp at z
 |t::T,x::r,j,h,k,z=>by
  unfold YH at h;simp only[Bool.and_eq_true,decide_eq_true_eq]at h;obtain⟨⟨⟨h1,h2⟩,h3⟩,h4⟩:=h;cases k with
  |zero=>exact⟨TG h1,Nat.eq_of_beq_eq_true h2,h3⟩
  |succ k=>
   have:=PW T r (j+1) h4 k (by simpa using z)
   rw[show j+1+k=j+(k+1)by omega]at this
   simpa using this
def afV(d:Nat->Nat->Nat)(n:Nat)(V I:List Nat)(B:zL):Nat->List (List Nat)->Bool
 |_,[]=>true
 |i,T::Ts=>YH (d (V.getD i 0)) n V I 0 T (B.getD (I.getD i 0) [])&&afV d n V I B (i+1) Ts
theorem PX{d:Nat->Nat->Nat}{n:Nat}{V I:List Nat}{B:zL}: ∀(Ts:List (List Nat)) (i:Nat),afV d n V I B i Ts=true-> ∀k,k<Ts.length-> ∃T,YH (d (V.getD (i+k) 0)) n V I 0 T (B.getD (I.getD (i+k) 0) [])=true
 |[],_,_,k,z=>by simp at z
 |T::Ts,i,h,k,z=>by
  unfold afV at h;rw[Bool.and_eq_true]at h;cases k with
  |zero=>exact⟨T,h.1⟩
  |succ k=>
   have:=PX Ts (i+1) h.2 k (by simpa using z)
   rwa [show i+1+k=i+(k+1)by omega]at this
def PY(d:Nat->Nat->Nat)(f:Nat)(F:Nat->Bool)(V I:List Nat)(Ts:List (List Nat))(B:zL)(EB:zB):Bool:=
 Nat.blt 0 Ts.length&&Nat.beq (V.getD 0 0) f&&Nat.beq (I.getD 0 0) 0&&afV d Ts.length V I B 0 Ts&&(List.range Ts.length).all (λi=>F (V.getD i 0)==EB.getD (I.getD i 0) false)
theorem Wi(hB:aK m B.length B)(h:PY d f F V I Ts B EB=true)(w:zI):fA m w-> ∃i,i<Ts.length/\fZ d f w=V.getD i 0/\bR B w=I.getD i 0/\F (V.getD i 0)=EB.getD (I.getD i 0) false:=by
 unfold PY at h;simp only[Bool.and_eq_true,List.all_eq_true,List.mem_range,beq_iff_eq]at h;obtain⟨⟨⟨⟨h1,h2⟩,h3⟩,h4⟩,h5⟩:=h
 have a1:fA m w-> ∃i,i<Ts.length/\fZ d f w=V.getD i 0/\bR B w=I.getD i 0:=by
  induction w using bB with
  |h0=>exact λ_=>⟨0,TG h1,(Nat.eq_of_beq_eq_true h2).symm,(Nat.eq_of_beq_eq_true h3).symm⟩
  |h1 w x ih=>
   intro Z
   obtain⟨J,a2⟩:=gG.1 Z
   have hx:=a2 x (by simp)
   obtain⟨i,z,i2,i3⟩:=ih J
   obtain⟨T,hT⟩:=PX Ts 0 h4 i z
   rw[Nat.zero_add]at hT
   have U:=jr hB w J
   rw[i3]at U
   obtain⟨k1,k2,k3⟩:=PW T _ 0 hT x.toNat (by rw[(hB.2.2.2.2.2 _ U).1];omega)
   rw[Nat.zero_add]at k2
   refine⟨T.getD x.toNat 0,k1,by rw[jV,i2,k2],?_⟩
   rw[dF,i3]
   unfold fC
   rw[k3,Int.toNat_natCast]
 intro Z;obtain⟨i,z,i2,i3⟩:=a1 Z;exact⟨i,z,i2,i3,h5 i z⟩
theorem Nr(z:aK m B.length B)(h:PY d f F V I Ts B EB=true)(w:zI)(J:fA m w):F (fZ d f w)=gP B EB w:=by obtain⟨i,-,U,i3,Z⟩:=Wi z h w J;unfold gP;rw[U,i3,Z]
theorem YI(z:aK m B.length B)(h:PY d f F V I Ts B EB=true)(i:Nat):(aM d m f i).length<=Ts.length:=by have:=kW (K:=(List.range Ts.length).map λi=>V.getD i 0) (kN d m f i) (λx hx=>by obtain⟨w,J,rfl⟩:=jF hx;obtain⟨i,U,Z,-⟩:=Wi z h w J;rw[Z];exact List.mem_map.2 ⟨i,List.mem_range.2 U,rfl⟩);simpa using this
def Wx(s t:Nat):Bool:=s==t
theorem sO:Wx s t=true↔s=t:=by simp[Wx]
theorem af3:vK Wx:=⟨λ_=>by simp[Wx],λs t h=>by rw[sO]at h⊢;exact h.symm,λs t u h z=>by rw[sO]at h z⊢;exact h.trans z⟩
theorem Qk(N:zL)(E:zB)(m:Nat):BJ N E m Wx:=
 ⟨af3,λs _ t _ h=>by rw[sO]at h;rw[h],λs _ t _ h j _=>by rw[sO]at h⊢;rw[h]⟩
theorem uL(h:O9 n o):aH Wx o=o:=by
 induction o using bB with
 |h0=>rfl
 |h1 l x J=>
  obtain⟨h1,h2⟩:=h
  rw[List.nodup_append]at h1
  rw[fD,J ⟨h1.1,λy U=>h2 y (by simp[U])⟩]
  unfold iZ
  rw[yN ?_]
  intro hx
  obtain⟨r,z,e⟩:=List.any_eq_true.1 hx
  rw[sO]at e
  have Z:=(h2 r (by simp[z])).1
  have a1:=(h2 x (by simp)).1
  exact h1.2.2 r z x (by simp) (by omega)
def FP(o:zI)(x:Int):Nat:=gU Wx o x
theorem ah7{x:Int}(hx:x∈o):FP o x<o.length:=Aq ⟨x,hx,by simp[Wx]⟩
theorem Wy{z:zI}{x:Int}(h:o<+:z)(hx:x∈o):FP z x=FP o x:=by obtain⟨s,rfl⟩:=h;have:=ah7 hx;unfold FP gU at this⊢;rw[List.findIdx_append,yP this]
theorem abZ(h:O9 n o){x:Int}(h0:0<=x)(hx: ¬x∈o):FP o x=o.length:=by
 unfold FP gU;rw[List.findIdx_eq_length];intro r z;cases e:Wx x.toNat r.toNat with
 |false=>rfl
 |true=>
  rw[sO]at e
  have:=(h.2 r z).1
  exact absurd (show x=r by omega) (λJ=>hx (J▸z))
theorem af4(h:O9 n o){x:Int}(h0:0<=x)(hx: ¬x∈o):FP (o++[x]) x=o.length:=by have:=abZ h h0 hx;unfold FP gU at this⊢;rw[List.findIdx_append,yN (by omega)];simp[Wx]
def dP(P:zL):zL:=oU Wx (aR P) P
def jP(P:zL)(Q:zB):zB:=zX Wx (aR P) Q
section
variable {m n:Nat} {P:zL} (hG:aK m n P)
include hG
theorem xS:(dP P).length=(aR P).length:=by unfold dP;rw[mE,uL (iY hG)]
theorem Y0(Q:zB):(jP P Q).length=(aR P).length:=by unfold jP;rw[EO,uL (iY hG)]
theorem uM:aK m (aR P).length (dP P):=by have:=Pw hG (Qk P [] m);rwa [uL (iY hG)]at this
theorem Wz(Q:zB)(w:zI)(z:fA m w):gP (dP P) (jP P Q) w=gP P Q w:=K6 hG (Qk P Q m) w z
theorem II(Q:zB):aV (dP P) (jP P Q) m=aV P Q m/\aY (dP P) (jP P Q) m=aY P Q m/\bE (dP P) (jP P Q) m=bE P Q m:=abt (uM hG) hG _ _ λw z=>Wz hG Q w z
theorem ab0{i:Nat}(hi:i<(aR P).length):(dP P).getD i []=(P.getD ((aR P).getD i 0).toNat []).map λx=>((FP (aR P) x:Nat):Int):=by have h:=uL (iY hG);unfold dP;rw[um (by rw[h];exact hi),h];rfl
theorem ab1(Q:zB){i:Nat}(hi:i<(aR P).length):(jP P Q).getD i false=Q.getD ((aR P).getD i 0).toNat false:=by have h:=uL (iY hG);unfold jP;rw[BK (by rw[h];exact hi),h]
theorem Ql(i:Nat)(hi:i<=(bQ P i).length):bQ P i<+:aR P:=by have h1:=uj hG i;have h2:=oQ P i (n-i);unfold aR;rwa [hG.1,show n=i+(n-i)by omega]
end
def jg(P:zL)(i l:Nat):zI:=cu (bQ P i) ((P.getD ((bQ P i).getD i 0).toNat []).take l)
theorem DR(P:zL)(i:Nat):jg P i 0=bQ P i:=by simp[jg,cu]
theorem LG(z:l<(P.getD ((bQ P i).getD i 0).toNat []).length):jg P i (l+1)=nk (jg P i l) ((P.getD ((bQ P i).getD i 0).toNat []).getD l 0):=jm _ _ _ z
theorem ab2(hi:i<(bQ P i).length):jg P i (P.getD ((bQ P i).getD i 0).toNat []).length=bQ P (i+1):=by unfold jg;rw[List.take_length,kV P i hi]
theorem TY(o r s:zI):cu o r<+:cu o (r++s):=by unfold cu;rw[List.foldl_append];exact nY _ s
theorem Y1(hi:i<(bQ P i).length)(l:Nat):jg P i l<+:bQ P (i+1):=by rw[kV P i hi];unfold jg;have:=TY (bQ P i) ((P.getD ((bQ P i).getD i 0).toNat []).take l) ((P.getD ((bQ P i).getD i 0).toNat []).drop l);rwa [List.take_append_drop]at this
section
variable {m n:Nat} {P:zL} (hG:aK m n P)
include hG
theorem Gr{i:Nat}(hi:i<(bQ P i).length)(l:Nat):O9 n (jg P i l):=BH (sj hG i) _ λx hx=>(KZ hG _ (yX (sj hG i) i hi)).2 x (List.mem_of_mem_take hx)
theorem Qm{i:Nat}(hi:i<(bQ P i).length)(l:Nat):jg P i l<+:aR P:=by have h1:=oQ P i 1;exact(Y1 hi l).trans (Ql hG (i+1) (Nat.le_trans hi h1.length_le))
theorem af5{i:Nat}(hi:i<(bQ P i).length)(l:Nat):(jg P i l).length<=n:=uh n _ (Gr hG hi l)
end
theorem ab3(h:O9 n o){x:Int}(hx:x∈o):(kr M x,Value.int .i64 ((FP o x:Nat):Int))∈nZ (kr M) o:=
 K8 (R:=Wx) (λr z=>⟨λe=>sO.2 (by rw[K9 (h.2 r z).1 (h.2 x hx).1 e]),λe=>by rw[sO]at e;rw[show r=x by have:=(h.2 r z).1;have:=(h.2 x hx).1;omega]⟩) ⟨x,hx,by simp[Wx]⟩
theorem ab4(h:O9 n o){x:Int}(h0:0<=x)(hx: ¬x∈o): ¬kr M x∈(nZ (kr M) o).map Prod.fst:=
 K7 λr z e=>hx (by rw[<-K9 (h.2 r z).1 h0 e];exact z)
def iy(X:List Nat)(W:zW):zW:={W with heap:=W.heap.mapIdx λi o=>if i∈X then .map #[] 0 else o}
theorem gJ(X:List Nat)(W:zW):(iy X W).heap.size=W.heap.size:=by simp[iy]
theorem fP(hx: ¬x∈X)(W:zW):(iy X W).heap[x]? =W.heap[x]? :=by simp[iy,hx]
theorem af6(hx:x∈X)(W:zW)(cs:Array Value)(T:TypeId)(f:Nat × Nat):(iy X W).heap[x]? ≠some (.cells cs T f):=by simp[iy,hx]
theorem vS{cs:Array Value}{T:TypeId}{f:Nat × Nat}(h:(iy X W).heap[x]? =some (.cells cs T f)): ¬x∈X/\W.heap[x]? =some (.cells cs T f):=by have hx: ¬x∈X:=λhx=>af6 hx W cs T f h;exact⟨hx,by rwa [fP hx]at h⟩
theorem IJ{p:Addr}(h:W.cell? p=some v): ∃cs T f,W.heap[p.block]? =some (.cells cs T f):=by
 unfold World.cell? at h;split at h
 ·exact⟨_,_,_,by assumption⟩
 ·cases h
theorem ou{p:Addr}(h:(iy X W).cell? p=some v): ¬p.block∈X/\W.cell? p=some v:=by obtain⟨cs,T,f,hc⟩:=IJ h;obtain⟨h1,h2⟩:=vS hc;refine⟨h1,?_⟩;rw[<-h];exact(World.cell?_of_block (fP h1 W)).symm
theorem vT{B:Nat}{w:zW}(h:Below B w W)(z: ∀x∈X,B<=x):Below B w (iy X W):=
 ⟨h.os,h.tape,h.output,by rw[gJ];exact h.size,λk J=>by rw[fP (λhx=>by have:=z k hx;omega)];exact h.block k J⟩
theorem Qn{B:Nat}{w:zW}(hs:w.heap.size<=W.heap.size)(z:W.os=w.os)(J:W.tape=w.tape)(U:W.output=w.output)(h: ∀x,x<B-> ¬x∈X->W.heap[x]? =w.heap[x]?)(hB:B<=w.heap.size):Below B (iy X w) (iy X W):=by
 refine⟨z,J,U,by rw[gJ,gJ];exact hs,λk Z=>?_⟩;by_cases hx:k∈X
 ·simp only[iy,Array.getElem?_mapIdx,hx,if_true];rw[Array.getElem?_eq_getElem (show k<W.heap.size by omega),Array.getElem?_eq_getElem (show k<w.heap.size by omega)];rfl
 ·rw[fP hx,fP hx,h k Z hx]
theorem LH{base:Nat}{e:TypeId}(h:(iy X W).ownsRow base e 1 v n xs):W.ownsRow base e 1 v n xs/\ ∀x,v.ownBlock=some x-> ¬x∈X:=by
 obtain⟨h0,h1⟩:=h;rcases h1 with⟨rfl,rfl⟩|⟨g,cap,cur,rfl,hg,z,J⟩
 ·exact⟨⟨h0,.inl ⟨rfl,rfl⟩⟩,λx hx=>by simp[Value.ownBlock]at hx⟩
 ·obtain⟨k1,k2⟩:=vS z;refine⟨⟨h0,.inr ⟨g,cap,cur,rfl,hg,k2,J⟩⟩,λx hx=>?_⟩;simp[Value.ownBlock]at hx;subst hx;exact k1
theorem LJ{base:Nat}{e:TypeId}(h:W.ownsRow base e 1 v n xs)(z: ∀x,v.ownBlock=some x-> ¬x∈X):(iy X W).ownsRow base e 1 v n xs:=aX h λx hx=>fP (z x hx) W
theorem af7{len:Nat}{l:zI}(h:Sl (iy X W) a len l):Sl W a len l:=by
 obtain⟨h1,h2,h3,h4⟩:=h;refine⟨h1,h2,h3,?_⟩;rcases h4 with h4|⟨b,o,rfl,hc⟩
 ·exact .inl h4
 ·exact .inr ⟨b,o,rfl,λi hi=>(ou (hc i hi)).2⟩
theorem ab5{len:Nat}{l:zL}(h:gT (iy X W) a len l):gT W a len l:=by
 obtain⟨h1,h2,h4⟩:=h;refine⟨h1,h2,?_⟩;rcases h4 with h4|⟨b,o,rfl,hc⟩
 ·exact .inl h4
 ·refine .inr ⟨b,o,rfl,λi hi=>?_⟩;obtain⟨a',c',z,J⟩:=hc i hi;exact⟨a',c',(ou z).2,af7 J⟩
theorem ab6{len:Nat}{l:zB}(h:mR (iy X W) a len l):mR W a len l:=by
 obtain⟨h1,h2,h4⟩:=h;refine⟨h1,h2,?_⟩;rcases h4 with h4|⟨b,o,rfl,hc⟩
 ·exact .inl h4
 ·exact .inr ⟨b,o,rfl,λi hi=>(ou (hc i hi)).2⟩
theorem sP{t:Int}{qe:Nat}(h:sJ wb b t rows es qn qe W)(hc: ∀(x:Nat) (cs:Array Value) (T:TypeId) (f:Nat × Nat),W.heap[x]? =some (Obj.cells cs T f)->W2.heap[x]? =W.heap[x]?)(hb:Below wb.heap.size wb W2):sJ wb b t rows es qn qe W2:=by
 obtain⟨vN,vE,vals,h1,h2,h3,h4,-⟩:=h
 have hown: ∀{e:TypeId} {v:Value} {n:Nat} {xs:zV},W.ownsRow (wb.heap.size+1) e 1 v n xs->W2.ownsRow (wb.heap.size+1) e 1 v n xs:=λ{e v n xs} h=>aX h λx hx=>by
  rcases h.2 with⟨rfl,_⟩|⟨g,cap,cur,rfl,_,z,_⟩
  ·simp[Value.ownBlock]at hx
  ·simp[Value.ownBlock]at hx;subst hx;exact hc _ _ _ _ z
 refine⟨vN,vE,vals,(hc _ _ _ _ h1).trans h1,hown h2,hown h3,λj Z=>?_,hb⟩;obtain⟨a,cap,e1,J,e3⟩:=h4 j Z;refine⟨a,cap,e1,⟨ng J.1 λx hx=>?_,J.2⟩,e3⟩;obtain⟨h0,ad,rfl,rfl⟩:=hx;obtain⟨b',o,e,U⟩:=bH J.1 0 h0;cases e;obtain⟨cs,T,f,z⟩:=IJ U;exact hc _ _ _ _ z
def FQ(wb:zW)(b t:Int)(rows:Nat->zI)(es:Nat->Bool)(qn qe:Nat)(X:List Nat)(W:zW):Prop:=sJ wb b t rows es qn qe (iy X W)/\Below wb.heap.size wb W/\ ∀x∈X,wb.heap.size<x
theorem DT{t:Int}{qe:Nat}{X':List Nat}(h:FQ wb b t rows es qn qe X W)(Z: ∀x,x<W.heap.size-> ¬x∈X->W2.heap[x]? =W.heap[x]?)(hX: ∀x∈X',x∈X\/W.heap.size<=x)(hb:Below wb.heap.size wb W2)(z: ∀x∈X',wb.heap.size<x):FQ wb b t rows es qn qe X' W2:=by refine⟨sP h.1 (λx cs T f hx=>?_) (vT hb λx hx=>Nat.le_of_lt (z x hx)),hb,z⟩;obtain⟨h1,h2⟩:=vS hx;have J:=(zG h2).1;rw[fP (λU=>by rcases hX x U with h|h;exact h1 h;omega),fP h1,Z x J h1]
theorem Ua(wb:zW)(b t:Int)(rows:Nat->zI)(es:Nat->Bool):FQ wb b t rows es 0 0 [] (wb.alloc (.cells #[.int .i64 b,.int .i64 t,.slice none 0 0,.slice none 0 0] 35)):=by have h:=EX wb b t rows es;refine⟨sP h (λx cs T f hx=>fP (by simp) _) (vT (zb.alloc zr _) (by simp)),zb.alloc zr _,by simp⟩
theorem Qo{a:Addr}(J: ¬a.block∈X)(v:Value)(x:Nat):(iy X (W.setCell a v)).heap[x]? =((iy X W).setCell a v).heap[x]? :=by
 by_cases hx:x=a.block
 ·subst hx;rw[fP J];simp only[World.setCell,Array.getElem?_modify,if_true];rw[fP J]
 ·rw[Below.heap_setCell _ _ _ _ hx]
  by_cases z:x∈X
  ·simp only[iy,Array.getElem?_mapIdx,z,if_true];rw[Below.heap_setCell _ _ _ _ hx]
  ·rw[fP z,fP z,Below.heap_setCell _ _ _ _ hx]
theorem IK{z:zW}{o:Obj}{r:Option Nat}(Z: ∀x∈X,x<W2.heap.size)(h:(W2.alloc o).grownBy z r):((iy X W2).alloc o).grownBy (iy X z) r:=by
 have hs:=h.size;rw[World.size_alloc]at hs;refine⟨h.os,h.tape,h.output,by rw[World.size_alloc,gJ,gJ];exact hs,λk J U=>?_⟩;rw[World.size_alloc,gJ]at J;by_cases hx:k∈X
 ·have:=Z k hx;rw[Below.heap_alloc _ _ _ (by rw[gJ];exact this)];simp only[iy,Array.getElem?_mapIdx,hx,if_true];rw[Array.getElem?_eq_getElem (show k<z.heap.size by omega),Array.getElem?_eq_getElem this];rfl
 ·rw[fP hx,h.block k (by rw[World.size_alloc];exact J) U]
  by_cases e:k<W2.heap.size
  ·rw[Below.heap_alloc _ _ _ e,Below.heap_alloc _ _ _ (by rw[gJ];exact e),fP hx]
  ·obtain rfl:k=W2.heap.size:=by omega
   have h2:=zl (iy X W2) o;rw[gJ]at h2;rw[zl,h2]
theorem ah8{wb:zW}{b t:Int}{rows:Nat->zI}{es:Nat->Bool}{q qe:Nat}{X:List Nat}{W W2:zW}{br cr:Nat}(hW:FQ wb b t rows es q qe X W)(hb:Below W.heap.size (iy X W) (iy X W2))(a2:Below wb.heap.size wb W2)(hs:Sl W2 (some ⟨br,0,none⟩) (rows q).length (rows q))(b0: ¬br∈X)(b1:W.heap.size<=br)(a1: ∀x∈X,x<W2.heap.size):
  ∃(vN:Value) (vals:zV),W2.cell? ⟨wb.heap.size,2,none⟩=some vN/\W2.ownsRow (wb.heap.size+1) 24 1 vN q vals/\wb.heap.size+1<=W2.heap.size/\
   ∀(U:zW) (o:Obj) (J z:Nat),U.ownsRow (wb.heap.size+1) 24 1 (.slice (some ⟨J,0,none⟩) (q+1) z) (q+1) (vals++[.slice (some ⟨br,0,none⟩) (rows q).length cr])->(W2.alloc o).grownBy U vN.ownBlock->(vN.ownBlock=some J\/J=W2.heap.size+1)->
    (U.cell? ⟨wb.heap.size,2,none⟩=some vN/\U.frozen? ⟨wb.heap.size,2,none⟩=false)/\FQ wb b t rows es (q+1) qe X (U.setCell ⟨wb.heap.size,2,none⟩ (.slice (some ⟨J,0,none⟩) (q+1) z))/\ ∀x,(x∈X\/(x<wb.heap.size))->(U.setCell ⟨wb.heap.size,2,none⟩ (.slice (some ⟨J,0,none⟩) (q+1) z)).heap[x]? =W2.heap[x]? :=by
 obtain⟨vN,vals,c1,c2,c3,c4⟩:=@Wm wb b t rows es q qe (iy X W) (iy X W2) (some ⟨br,0,none⟩) cr hW.1 (by rw[gJ];exact hb) ⟨ng hs (λx hx=>by obtain⟨_,ad,e,rfl⟩:=hx;cases e;exact fP b0 _),λad e=>by cases e;rw[gJ];exact b1⟩
 obtain⟨-,d1⟩:=ou c1
 obtain⟨d2,d3⟩:=LH c2
 refine⟨vN,vals,d1,d2,by rwa [gJ]at c3,λU o J z hown Z a8=>?_⟩
 have b2: ¬J∈X:=by
  rcases a8 with e|e
  ·exact d3 J e
  ·intro hx;have:=a1 J hx;omega
 obtain⟨⟨f1,f2⟩,f3⟩:=c4 (iy X U) o J z (LJ hown (λx hx=>by simp[Value.ownBlock]at hx;subst hx;exact b2)) (IK a1 Z) (by rw[gJ];exact a8)
 obtain⟨e1,e2⟩:=ou f1
 have a6:Below wb.heap.size wb (U.setCell ⟨wb.heap.size,2,none⟩ (.slice (some ⟨J,0,none⟩) (q+1) z)):=(Below.grown (a2.alloc a2.size o) Z (by have:=a2.size;simp;omega) (λx hx=>by have:=(d2.lt x hx).1;omega)).setCell zr _
 refine⟨⟨e2,by rw[<-f2];exact(World.frozen?_of_block (a:=⟨wb.heap.size,2,none⟩) (fP e1 U)).symm⟩,⟨sP f3 (λx cs T f _=>Qo e1 _ x) (vT a6 λx hx=>Nat.le_of_lt (hW.2.2 x hx)),a6,hW.2.2⟩,λx hx=>?_⟩
 have a7:x<W2.heap.size/\x≠wb.heap.size/\vN.ownBlock≠some x:=by
  rcases hx with hx|hx
  ·exact⟨a1 x hx,by have:=hW.2.2 x hx;omega,λe=>d3 x e hx⟩
  ·exact⟨by have:=a2.size;omega,by omega,λe=>by have:=(d2.lt x e).1;omega⟩
 rw[Below.heap_setCell _ _ _ _ a7.2.1,Z.block x (by simp;omega) (λe=>a7.2.2 e.symm),Below.heap_alloc _ _ _ a7.1]
theorem ah9{t:Int}{q:Nat}(hW:FQ wb b t rows es qn q X W2)(a1: ∀x∈X,x<W2.heap.size):
  ∃(vE:Value),W2.cell? ⟨wb.heap.size,3,none⟩=some vE/\W2.ownsRow (wb.heap.size+1) 4 1 vE q ((List.range q).map λj=>Value.bool (es j))/\wb.heap.size+1<=W2.heap.size/\
   ∀(U:zW) (o:Obj) (J z:Nat),U.ownsRow (wb.heap.size+1) 4 1 (.slice (some ⟨J,0,none⟩) (q+1) z) (q+1) (((List.range q).map λj=>Value.bool (es j))++[.bool (es q)])->(W2.alloc o).grownBy U vE.ownBlock->(vE.ownBlock=some J\/J=W2.heap.size+1)->
    (U.cell? ⟨wb.heap.size,3,none⟩=some vE/\U.frozen? ⟨wb.heap.size,3,none⟩=false)/\FQ wb b t rows es qn (q+1) X (U.setCell ⟨wb.heap.size,3,none⟩ (.slice (some ⟨J,0,none⟩) (q+1) z))/\ ∀x,(x∈X\/(x<wb.heap.size))->(U.setCell ⟨wb.heap.size,3,none⟩ (.slice (some ⟨J,0,none⟩) (q+1) z)).heap[x]? =W2.heap[x]? :=by
 have a2:=hW.2.1
 obtain⟨vN,c1,c2,c3,c4⟩:=Wn hW.1
 obtain⟨-,d1⟩:=ou c1
 obtain⟨d2,d3⟩:=LH c2
 refine⟨vN,d1,d2,by rwa [gJ]at c3,λU o J z hown Z a8=>?_⟩
 have b0: ¬J∈X:=by
  rcases a8 with e|e
  ·exact d3 J e
  ·intro hx;have:=a1 J hx;omega
 obtain⟨⟨f1,f2⟩,f3⟩:=c4 (iy X U) o J z (LJ hown (λx hx=>by simp[Value.ownBlock]at hx;subst hx;exact b0)) (IK a1 Z) (by rw[gJ];exact a8)
 obtain⟨e1,e2⟩:=ou f1
 have a6:Below wb.heap.size wb (U.setCell ⟨wb.heap.size,3,none⟩ (.slice (some ⟨J,0,none⟩) (q+1) z)):=(Below.grown (a2.alloc a2.size o) Z (by have:=a2.size;simp;omega) (λx hx=>by have:=(d2.lt x hx).1;omega)).setCell zr _
 refine⟨⟨e2,by rw[<-f2];exact(World.frozen?_of_block (a:=⟨wb.heap.size,3,none⟩) (fP e1 U)).symm⟩,⟨sP f3 (λx cs T f _=>Qo e1 _ x) (vT a6 λx hx=>Nat.le_of_lt (hW.2.2 x hx)),a6,hW.2.2⟩,λx hx=>?_⟩
 have a7:x<W2.heap.size/\x≠wb.heap.size/\vN.ownBlock≠some x:=by
  rcases hx with hx|hx
  ·exact⟨a1 x hx,by have:=hW.2.2 x hx;omega,λe=>d3 x e hx⟩
  ·exact⟨by have:=a2.size;omega,by omega,λe=>by have:=(d2.lt x e).1;omega⟩
 rw[Below.heap_setCell _ _ _ _ a7.2.1,Z.block x (by simp;omega) (λe=>a7.2.2 e.symm),Below.heap_alloc _ _ _ a7.1]
theorem ab7{t:Int}(h:FQ wb b t rows es k k X W)(Z:k<=maxLen)(N:zL)(hN:N.length=k)(hr: ∀j,j<k->N.getD j []=rows j)(E:zB)(hE:E.length=k)(he: ∀j,j<k->E.getD j false=es j):
  ∃a c a' c',W.heap[wb.heap.size]? =some (.cells #[.int .i64 b,.int .i64 t,.slice a k c,.slice a' k c'] 35 (0,0))/\Below wb.heap.size wb W/\ ∀W':zW,(∀x,wb.heap.size<x->x<W.heap.size->W'.heap[x]? =W.heap[x]?)->gT W' a k N/\mR W' a' k E:=by
 obtain⟨a,c,a',c',h1,h2,h3⟩:=Lp h.1 Z N hN hr E hE he
 refine⟨a,c,a',c',(vS h1).2,h.2.1,λW' z=>?_⟩
 obtain⟨r1,r2⟩:=h3 (iy X W') (λx hx J=>by
  rw[gJ]at J;by_cases U:x∈X
  ·simp only[iy,Array.getElem?_mapIdx,U,if_true];rw[z x hx J]
  ·rw[fP U,fP U,z x hx J])
 exact⟨ab5 r1,ab6 r2⟩
end
end Go.Proofs.YtceojneljnnooaaGreat
