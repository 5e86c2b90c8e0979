import Derived.Test.YtceojneljnnooaaGreatZKn
import Derived.Maps.AppendAt
open Go.Proofs.Tryz
namespace Go.Proofs.YtceojneljnnooaaGreat
open Go.RowKit
set_option maxHeartbeats 0
set_option maxRecDepth 100000
set_option linter.all false
variable{T T0:Array Value}{N N2 RN:zL}{Q:Exit->Act->zW->Prop}{D0:List Deferred}{O:zI}{b:Int}
def Da:Prop:= ∀(b:Int) (a:zO) (n cap:Nat) (ao:zO) (no co:Nat) (N:zL) (O:zI) (z:Int) (a2:zO) (n2 Z:Nat) (J:zO) (U a1:Nat) (N2:zL) (O2:zI) (W:zW),gT W a n N->Sl W ao no O->gT W a2 n2 N2->Sl W J U O2->
  Calls prog 61 #[lH b a n cap ao no co,lH z a2 n2 Z J U a1] W (dB W (bK (Bt b N O z N2 O2) b) (bK (Bt b N O z N2 O2) 2) (tL b N O z N2 O2) (tN b N O z N2 O2) (Bt b N O z N2 O2))
theorem aiY{z:Int}{O2:zI}(h:Ab b N O z N2 O2≠0):Bt b N O z N2 O2=Ab b N O z N2 O2/\tL b N O z N2 O2=[]/\tN b N O z N2 O2=[]/\bK (Bt b N O z N2 O2) b=0/\bK (Bt b N O z N2 O2) 2=0:=by
 have hc:Bt b N O z N2 O2=Ab b N O z N2 O2:=by unfold Bt;rw[yN h]
 have J:Bt b N O z N2 O2≠0:=by rw[hc];exact h
 refine⟨hc,?_,?_,?_,?_⟩
 ·unfold tL;rw[yN J]
 ·unfold tN;rw[yN J]
 ·unfold bK;rw[yN J]
 ·unfold bK;rw[yN J]
def Vg(b:Int)(n:Nat)(RN:zL)(RO:zI)(z:Nat)(Af:zL)(zP:zI)(X Y:Nat)(aN:zO)(cN:Nat)(aO:zO)(cO:Nat)(nT:zO)(pQ:Nat)(oI:zO)(oM:Nat)(W:zW):Prop:=
 W.heap[X]? =some (.cells #[.int .i64 b,.slice aN n cN,.slice aO n cO] 71)/\W.heap[Y]? =some (.cells #[.int .i64 b,.slice nT z pQ,.slice oI z oM] 71)/\gT W aN n RN/\Sl W aO n RO/\gT W nT z Af/\Sl W oI z zP
abbrev FY:Obj:=.cells #[.int .i64 0,.slice none 0 0,.slice none 0 0] 71
def aec(z:zW)(X Y:Nat)(V1 V2:Obj)(W:zW):Prop:=W.heap[X]? =some V1/\W.heap[Y]? =some V2/\(∀x,x<z.heap.size->x≠X->x≠Y->W.heap[x]? =z.heap[x]?)/\ ∀w:zW,Below w.heap.size w z->w.heap.size<=X->w.heap.size<=Y->Below w.heap.size w W
theorem aiZ(z:zW)(V1 V2:Obj):aec z z.heap.size (z.heap.size+1) V1 V2 ((z.alloc V1).alloc V2):=
 ⟨aP _ _ _,aQ _ _ _,λx hx _ _=>(Below.heap_alloc _ _ _ (by simp;omega)).trans (Below.heap_alloc _ _ _ hx),λw hb _ _=>(hb.alloc hb.size _).alloc (by have:=hb.size;simp;omega) _⟩
theorem ag9(z:zW)(V1 V2:Obj):aec z (z.heap.size+1) z.heap.size V1 V2 ((z.alloc V2).alloc V1):=
 ⟨aQ _ _ _,aP _ _ _,λx hx _ _=>(Below.heap_alloc _ _ _ (by simp;omega)).trans (Below.heap_alloc _ _ _ hx),λw hb _ _=>(hb.alloc hb.size _).alloc (by have:=hb.size;simp;omega) _⟩
theorem uX(z:zW)(X:Nat)(v0 v1 v2:Value)(x:Nat)(h:x≠X):(((z.setCell ⟨X,0,none⟩ v0).setCell ⟨X,1,none⟩ v1).setCell ⟨X,2,none⟩ v2).heap[x]? =z.heap[x]? :=by rw[Below.heap_setCell _ _ _ _ h,Below.heap_setCell _ _ _ _ h,Below.heap_setCell _ _ _ _ h]
theorem MH(z:zW)(X:Nat)(v0 v1 v2:Value):(((z.setCell ⟨X,0,none⟩ v0).setCell ⟨X,1,none⟩ v1).setCell ⟨X,2,none⟩ v2).heap.size=z.heap.size:=by simp[World.setCell]
theorem aac(z:zW)(X Y i:Nat)(v0 v1 v2:Value)(h:Y≠X):(((z.setCell ⟨X,0,none⟩ v0).setCell ⟨X,1,none⟩ v1).setCell ⟨X,2,none⟩ v2).cell? ⟨Y,i,none⟩=z.cell? ⟨Y,i,none⟩/\(((z.setCell ⟨X,0,none⟩ v0).setCell ⟨X,1,none⟩ v1).setCell ⟨X,2,none⟩ v2).frozen? ⟨Y,i,none⟩=z.frozen? ⟨Y,i,none⟩:=by have e:=uX z X v0 v1 v2 Y h;exact⟨by simp only[World.cell?,e],by simp only[World.frozen?,e]⟩
abbrev XW:Array Oper:=
   #[{dst:=some 52,op:=Op.load 71 (Operand.tmp 4),type:=71,pos:= "word.go:158",after:=#[],guard:=none},
    {dst:=some 53,op:=Op.call {callee:=Callee.value (Operand.func 58),args:=#[Operand.tmp 52],argTypes:=#[71]},type:=71,pos:= "word.go:158",after:=#[{on:=0,ground:=Ground.data}],guard:=none},
    {dst:=some 54,op:=Op.load 71 (Operand.tmp 5),type:=71,pos:= "word.go:158",after:=#[],guard:=none},
    {dst:=some 55,op:=Op.call {callee:=Callee.value (Operand.func 58),args:=#[Operand.tmp 54],argTypes:=#[71]},type:=71,pos:= "word.go:158",after:=#[{on:=2,ground:=Ground.data},{on:=1,ground:=Ground.chain}],guard:=none},
    {dst:=some 14,op:=Op.alloc 71,type:=0,pos:= "word.go:158",after:=#[],guard:=none},
    {dst:=some 15,op:=Op.alloc 71,type:=0,pos:= "word.go:158",after:=#[],guard:=none},
    {dst:=none,op:=Op.store 71 (Operand.tmp 14) (Operand.tmp 53),type:=0,pos:= "word.go:158",after:=
      #[{on:=4,ground:=Ground.data},{on:=1,ground:=Ground.data},
       {on:=3,ground:=Ground.chain},{on:=0,ground:=Ground.phase},
       {on:=1,ground:=Ground.phase},{on:=2,ground:=Ground.textOnly Departure.lateStores},
       {on:=3,ground:=Ground.textOnly Departure.lateStoresUnsure},{on:=4,ground:=Ground.phase},
       {on:=5,ground:=Ground.phase}],
     guard:=none},
    {dst:=none,op:=Op.store 71 (Operand.tmp 15) (Operand.tmp 55),type:=0,pos:= "word.go:158",after:=
      #[{on:=5,ground:=Ground.data},{on:=3,ground:=Ground.data},
       {on:=6,ground:=Ground.chain},{on:=0,ground:=Ground.phase},
       {on:=1,ground:=Ground.phase},{on:=2,ground:=Ground.phase},
       {on:=3,ground:=Ground.phase},{on:=4,ground:=Ground.phase},
       {on:=5,ground:=Ground.phase},{on:=6,ground:=Ground.phase}],
     guard:=none}]
def lkR(l0 c1 l2 c2 a4 a5 s6 s7:Bool)(i:Nat):Bool:=
 (i==0&& !l0)||(i==1&& !c1&&l0)||(i==2&& !l2)||(i==3&& !c2&&l2&&c1)||(i==4&& !a4)||(i==5&& !a5)||(i==6&& !s6&& !s7&&l0&&c1&&l2&&c2&&a4&&a5)||(i==7&& !s7&&l0&&c1&&l2&&c2&&a4&&a5&&s6)
theorem aed: ∀l0 c1 l2 c2 a4 a5 s6 s7:Bool,(c2=true->l2=true)->(s7=true->s6=true)->(Region.ready .any XW #[l0,c1,l2,c2,a4,a5,s6,s7]).all (lkR l0 c1 l2 c2 a4 a5 s6 s7)=true/\(Region.ready .any XW #[l0,c1,l2,c2,a4,a5,s6,s7]=[]->(l0&&c1&&l2&&c2&&a4&&a5&&s6&&s7)=true)/\((l0&&c1&&l2&&c2&&a4&&a5&&s6&&s7)=true->Region.ready .any XW #[l0,c1,l2,c2,a4,a5,s6,s7]=[]):=by decide+kernel
def aha(w2:zW)(P:Nat->Prop)(n:Nat)(N:zL)(O:zI)(aN aO:zO)(W:zW):Prop:= ∀W':zW,(∀x:Nat,w2.heap.size<=x-> ¬P x->x<W.heap.size->W'.heap[x]? =W.heap[x]?)->gT W' aN n N/\Sl W' aO n O
def bxP(a4 a5:Bool)(X Y:Nat)(x:Nat):Prop:=(a4=true/\x=X)\/(a5=true/\x=Y)
theorem oN{w2:zW}{P z:Nat->Prop}{n:Nat}{aN aO:zO}{W W1:zW}(h:aha w2 P n N O aN aO W)(hP: ∀x,x<W.heap.size->z x->P x)(a1:W.heap.size<=W1.heap.size)(hk: ∀x:Nat,w2.heap.size<=x-> ¬P x->x<W.heap.size->W1.heap[x]? =W.heap[x]?):aha w2 z n N O aN aO W1:=
 λW' J=>h W' λx hx U Z=>(J x hx (λh'=>U (hP x Z h')) (by omega)).trans (hk x hx U Z)
abbrev aj8(b:Int)(aN:zO)(n cN:Nat)(aO:zO)(cO:Nat):Obj:=.cells #[.int .i64 b,.slice aN n cN,.slice aO n cO] 71
abbrev FB(b:Int)(aN:zO)(n cN:Nat)(aO:zO)(cO:Nat):Value:=.agg #[.int .i64 b,.slice aN n cN,.slice aO n cO]
abbrev ptr(x:Nat):Value:=.pointer (some ⟨x,0,none⟩)
structure OA (T0:Array Value) (w2:zW) (V1 V2:Value) (b:Int) (n1:Nat) (RN:zL) (RO:zI) (m1:Nat) (Af:zL) (zP:zI) (l0 c1 l2 c2 a4 a5 s6 s7:Bool) (X Y:Nat) (aN:zO) (cN:Nat) (aO:zO) (cO:Nat) (nT:zO) (pQ:Nat) (oI:zO) (oM:Nat) (T:Array Value) (W:zW):Prop where
 size:T.size=T0.size
 same: ∀i:Nat,i≠52->i≠53->i≠54->i≠55->i≠14->i≠15->T[i]? =T0[i]?
 o1:c2=true->l2=true
 o2:s7=true->s6=true
 v48:l0=true->T[52]? =some V1
 v50:l2=true->T[54]? =some V2
 v49:c1=true->T[53]? =some (FB b aN n1 cN aO cO)
 v51:c2=true->T[55]? =some (FB b nT m1 pQ oI oM)
 v10:a4=true->T[14]? =some (ptr X)
 v11:a5=true->T[15]? =some (ptr Y)
 bX:a4=true->w2.heap.size<=X/\W.heap[X]? =some (if s6=true then aj8 b aN n1 cN aO cO else FY)
 bY:a5=true->w2.heap.size<=Y/\W.heap[Y]? =some (if s7=true then aj8 b nT m1 pQ oI oM else FY)
 ne:a4=true->a5=true->X≠Y
 k1:c1=true->aha w2 (bxP a4 a5 X Y) n1 RN RO aN aO W
 k2:c2=true->aha w2 (bxP a4 a5 X Y) m1 Af zP nT oI W
 bel:Below w2.heap.size w2 W
theorem eG{k:Nat}(v:Value)(h:k<T.size):(T.setIfInBounds k v)[k]? =some v:=by rw[Array.getElem?_setIfInBounds_self_of_lt h]
theorem bg{k i:Nat}(v:Value)(h:k≠i):(T.setIfInBounds k v)[i]? =T[i]? :=Array.getElem?_setIfInBounds_ne h
section
variable {T0:Array Value} {w2:zW} {V1 V2:Value} {b:Int} {n1:Nat} {RN:zL} {RO:zI} {m1:Nat} {Af:zL} {zP:zI} {l0 c1 l2 c2 a4 a5 s6 s7:Bool} {X Y:Nat} {aN:zO} {cN:Nat} {aO:zO} {cO:Nat} {nT:zO} {pQ:Nat} {oI:zO} {oM:Nat} {T:Array Value} {W:zW}
theorem ai0(J:100<=T0.size)(h:OA T0 w2 V1 V2 b n1 RN RO m1 Af zP false c1 l2 c2 a4 a5 s6 s7 X Y aN cN aO cO nT pQ oI oM T W):OA T0 w2 V1 V2 b n1 RN RO m1 Af zP true c1 l2 c2 a4 a5 s6 s7 X Y aN cN aO cO nT pQ oI oM (T.setIfInBounds 52 V1) W:=by have hs:=h.size;exact{size:=by simpa using hs,same:=λi h1 h2 h3 h4 h5 z=>(bg _ (Ne.symm h1)).trans (h.same i h1 h2 h3 h4 h5 z),o1:=h.o1,o2:=h.o2,v48:=λ_=>eG _ (by omega),v50:=λe=>(bg _ (by decide)).trans (h.v50 e),v49:=λe=>(bg _ (by decide)).trans (h.v49 e),v51:=λe=>(bg _ (by decide)).trans (h.v51 e),v10:=λe=>(bg _ (by decide)).trans (h.v10 e),v11:=λe=>(bg _ (by decide)).trans (h.v11 e),bX:=h.bX,bY:=h.bY,ne:=h.ne,k1:=h.k1,k2:=h.k2,bel:=h.bel}
theorem ai1(J:100<=T0.size)(h:OA T0 w2 V1 V2 b n1 RN RO m1 Af zP l0 c1 false c2 a4 a5 s6 s7 X Y aN cN aO cO nT pQ oI oM T W):OA T0 w2 V1 V2 b n1 RN RO m1 Af zP l0 c1 true c2 a4 a5 s6 s7 X Y aN cN aO cO nT pQ oI oM (T.setIfInBounds 54 V2) W:=by have hs:=h.size;exact{size:=by simpa using hs,same:=λi h1 h2 h3 h4 h5 z=>(bg _ (Ne.symm h3)).trans (h.same i h1 h2 h3 h4 h5 z),o1:=λ_=>rfl,o2:=h.o2,v50:=λ_=>eG _ (by omega),v48:=λe=>(bg _ (by decide)).trans (h.v48 e),v49:=λe=>(bg _ (by decide)).trans (h.v49 e),v51:=λe=>(bg _ (by decide)).trans (h.v51 e),v10:=λe=>(bg _ (by decide)).trans (h.v10 e),v11:=λe=>(bg _ (by decide)).trans (h.v11 e),bX:=h.bX,bY:=h.bY,ne:=h.ne,k1:=h.k1,k2:=h.k2,bel:=h.bel}
theorem OC(h:OA T0 w2 V1 V2 b n1 RN RO m1 Af zP l0 c1 l2 c2 a4 a5 s6 s7 X Y aN cN aO cO nT pQ oI oM T W): ∀x,bxP a4 a5 X Y x->x<W.heap.size:=λx hx=>by
 rcases hx with⟨e,rfl⟩|⟨e,rfl⟩
 ·exact(zG (h.bX e).2).1
 ·exact(zG (h.bY e).2).1
theorem ai2(hz:100<=T0.size)(h:OA T0 w2 V1 V2 b n1 RN RO m1 Af zP l0 false l2 c2 a4 a5 false false X Y aN cN aO cO nT pQ oI oM T W){W1:zW}{J:zO}{dN:Nat}{U:zO}{dO:Nat}(hb:Below W.heap.size W W1)(hn:Vf W n1 RN RO J U W1):OA T0 w2 V1 V2 b n1 RN RO m1 Af zP l0 true l2 c2 a4 a5 false false X Y J dN U dO nT pQ oI oM (T.setIfInBounds 53 (FB b J n1 dN U dO)) W1:=by have hs:=h.size;have z:=OC h;have hw:=h.bel.size;have a1:=hb.size;exact{size:=by simpa using hs,same:=λi h1 h2 h3 h4 h5 h6=>(bg _ (Ne.symm h2)).trans (h.same i h1 h2 h3 h4 h5 h6),o1:=h.o1,o2:=h.o2,v49:=λ_=>eG _ (by omega),v48:=λe=>(bg _ (by decide)).trans (h.v48 e),v50:=λe=>(bg _ (by decide)).trans (h.v50 e),v51:=λe=>(bg _ (by decide)).trans (h.v51 e),v10:=λe=>(bg _ (by decide)).trans (h.v10 e),v11:=λe=>(bg _ (by decide)).trans (h.v11 e),bX:=λe=>⟨(h.bX e).1,(hb.block _ (z X (.inl ⟨e,rfl⟩))).trans (h.bX e).2⟩,bY:=λe=>⟨(h.bY e).1,(hb.block _ (z Y (.inr ⟨e,rfl⟩))).trans (h.bY e).2⟩,ne:=h.ne,k1:=λ_ W' a2=>hn W' λx hx Z=>a2 x (by omega) (λhp=>by have:=z x hp;omega) Z,k2:=λe=>oN (h.k2 e) (λ_ _ hp=>hp) a1 (λx _ _ Z=>hb.block x Z),bel:=ak h.bel hb}
theorem ai3(hz:100<=T0.size)(h:OA T0 w2 V1 V2 b n1 RN RO m1 Af zP l0 c1 true false a4 a5 false false X Y aN cN aO cO nT pQ oI oM T W){W1:zW}{J:zO}{dN:Nat}{U:zO}{dO:Nat}(hb:Below W.heap.size W W1)(hn:Vf W m1 Af zP J U W1):OA T0 w2 V1 V2 b n1 RN RO m1 Af zP l0 c1 true true a4 a5 false false X Y aN cN aO cO J dN U dO (T.setIfInBounds 55 (FB b J m1 dN U dO)) W1:=by have hs:=h.size;have z:=OC h;have hw:=h.bel.size;have a1:=hb.size;exact{size:=by simpa using hs,same:=λi h1 h2 h3 h4 h5 h6=>(bg _ (Ne.symm h4)).trans (h.same i h1 h2 h3 h4 h5 h6),o1:=λ_=>rfl,o2:=h.o2,v51:=λ_=>eG _ (by omega),v48:=λe=>(bg _ (by decide)).trans (h.v48 e),v50:=λe=>(bg _ (by decide)).trans (h.v50 e),v49:=λe=>(bg _ (by decide)).trans (h.v49 e),v10:=λe=>(bg _ (by decide)).trans (h.v10 e),v11:=λe=>(bg _ (by decide)).trans (h.v11 e),bX:=λe=>⟨(h.bX e).1,(hb.block _ (z X (.inl ⟨e,rfl⟩))).trans (h.bX e).2⟩,bY:=λe=>⟨(h.bY e).1,(hb.block _ (z Y (.inr ⟨e,rfl⟩))).trans (h.bY e).2⟩,ne:=h.ne,k2:=λ_ W' a2=>hn W' λx hx Z=>a2 x (by omega) (λhp=>by have:=z x hp;omega) Z,k1:=λe=>oN (h.k1 e) (λ_ _ hp=>hp) a1 (λx _ _ Z=>hb.block x Z),bel:=ak h.bel hb}
theorem ai4(hz:100<=T0.size)(h:OA T0 w2 V1 V2 b n1 RN RO m1 Af zP l0 c1 l2 c2 false a5 false false X Y aN cN aO cO nT pQ oI oM T W):OA T0 w2 V1 V2 b n1 RN RO m1 Af zP l0 c1 l2 c2 true a5 false false W.heap.size Y aN cN aO cO nT pQ oI oM (T.setIfInBounds 14 (ptr W.heap.size)) (W.alloc FY):=by
 have hs:=h.size;have U:=OC h;have hw:=h.bel.size;have a1:(W.alloc FY).heap.size=W.heap.size+1:=by simp
 exact{size:=by simpa using hs,same:=λi h1 h2 h3 h4 h5 h6=>(bg _ (Ne.symm h5)).trans (h.same i h1 h2 h3 h4 h5 h6),o1:=h.o1,o2:=h.o2,v10:=λ_=>eG _ (by omega),v48:=λe=>(bg _ (by decide)).trans (h.v48 e),v50:=λe=>(bg _ (by decide)).trans (h.v50 e),v49:=λe=>(bg _ (by decide)).trans (h.v49 e),v51:=λe=>(bg _ (by decide)).trans (h.v51 e),v11:=λe=>(bg _ (by decide)).trans (h.v11 e),bX:=λ_=>⟨hw,zl W FY⟩,bY:=λe=>⟨(h.bY e).1,(Below.heap_alloc _ _ _ (U Y (.inr ⟨e,rfl⟩))).trans (h.bY e).2⟩,ne:=λ_ e=>by have:=U Y (.inr ⟨e,rfl⟩);omega,k1:=λe=>oN (h.k1 e) (λx z Z=>by rcases Z with⟨_,J⟩|J;omega;exact .inr J) (by omega) (λx _ _ z=>Below.heap_alloc _ _ _ z),k2:=λe=>oN (h.k2 e) (λx z Z=>by rcases Z with⟨_,J⟩|J;omega;exact .inr J) (by omega) (λx _ _ z=>Below.heap_alloc _ _ _ z),bel:=h.bel.alloc hw _}
theorem ai5(hz:100<=T0.size)(h:OA T0 w2 V1 V2 b n1 RN RO m1 Af zP l0 c1 l2 c2 a4 false false false X Y aN cN aO cO nT pQ oI oM T W):OA T0 w2 V1 V2 b n1 RN RO m1 Af zP l0 c1 l2 c2 a4 true false false X W.heap.size aN cN aO cO nT pQ oI oM (T.setIfInBounds 15 (ptr W.heap.size)) (W.alloc FY):=by
 have hs:=h.size;have U:=OC h;have hw:=h.bel.size;have a1:(W.alloc FY).heap.size=W.heap.size+1:=by simp
 exact{size:=by simpa using hs,same:=λi h1 h2 h3 h4 h5 h6=>(bg _ (Ne.symm h6)).trans (h.same i h1 h2 h3 h4 h5 h6),o1:=h.o1,o2:=h.o2,v11:=λ_=>eG _ (by omega),v48:=λe=>(bg _ (by decide)).trans (h.v48 e),v50:=λe=>(bg _ (by decide)).trans (h.v50 e),v49:=λe=>(bg _ (by decide)).trans (h.v49 e),v51:=λe=>(bg _ (by decide)).trans (h.v51 e),v10:=λe=>(bg _ (by decide)).trans (h.v10 e),bY:=λ_=>⟨hw,zl W FY⟩,bX:=λe=>⟨(h.bX e).1,(Below.heap_alloc _ _ _ (U X (.inl ⟨e,rfl⟩))).trans (h.bX e).2⟩,ne:=λe _=>by have:=U X (.inl ⟨e,rfl⟩);omega,k1:=λe=>oN (h.k1 e) (λx z Z=>by rcases Z with J|⟨_,J⟩;exact .inl J;omega) (by omega) (λx _ _ z=>Below.heap_alloc _ _ _ z),k2:=λe=>oN (h.k2 e) (λx z Z=>by rcases Z with J|⟨_,J⟩;exact .inl J;omega) (by omega) (λx _ _ z=>Below.heap_alloc _ _ _ z),bel:=h.bel.alloc hw _}
theorem ai6(h:OA T0 w2 V1 V2 b n1 RN RO m1 Af zP l0 true l2 c2 true true false false X Y aN cN aO cO nT pQ oI oM T W):OA T0 w2 V1 V2 b n1 RN RO m1 Af zP l0 true l2 c2 true true true false X Y aN cN aO cO nT pQ oI oM T (((W.setCell ⟨X,0,none⟩ (.int .i64 b)).setCell ⟨X,1,none⟩ (.slice aN n1 cN)).setCell ⟨X,2,none⟩ (.slice aO n1 cO)):=by have J:=λx hx=>uX W X (.int .i64 b) (.slice aN n1 cN) (.slice aO n1 cO) x hx;have a1:=MH W X (.int .i64 b) (.slice aN n1 cN) (.slice aO n1 cO);obtain⟨U,Z⟩:=yI (v0:=.int .i64 b) (v1:=.slice aN n1 cN) (v2:=.slice aO n1 cO) (show W.heap[X]? =some FY from(h.bX rfl).2) rfl;exact{size:=h.size,same:=h.same,o1:=h.o1,o2:=λ_=>rfl,v48:=h.v48,v50:=h.v50,v49:=h.v49,v51:=h.v51,v10:=h.v10,v11:=h.v11,bX:=λ_=>⟨(h.bX rfl).1,U⟩,bY:=λ_=>⟨(h.bY rfl).1,(J Y (Ne.symm (h.ne rfl rfl))).trans (h.bY rfl).2⟩,ne:=h.ne,k1:=λe=>oN (h.k1 e) (λ_ _ z=>z) (by omega) (λx _ z _=>J x (λe'=>z (.inl ⟨rfl,e'⟩))),k2:=λe=>oN (h.k2 e) (λ_ _ z=>z) (by omega) (λx _ z _=>J x (λe'=>z (.inl ⟨rfl,e'⟩))),bel:=Z w2 _ h.bel (h.bX rfl).1}
theorem ai7(h:OA T0 w2 V1 V2 b n1 RN RO m1 Af zP l0 true l2 c2 true true true false X Y aN cN aO cO nT pQ oI oM T W):OA T0 w2 V1 V2 b n1 RN RO m1 Af zP l0 true l2 c2 true true true true X Y aN cN aO cO nT pQ oI oM T (((W.setCell ⟨Y,0,none⟩ (.int .i64 b)).setCell ⟨Y,1,none⟩ (.slice nT m1 pQ)).setCell ⟨Y,2,none⟩ (.slice oI m1 oM)):=by have J:=λx hx=>uX W Y (.int .i64 b) (.slice nT m1 pQ) (.slice oI m1 oM) x hx;have a1:=MH W Y (.int .i64 b) (.slice nT m1 pQ) (.slice oI m1 oM);obtain⟨U,Z⟩:=yI (v0:=.int .i64 b) (v1:=.slice nT m1 pQ) (v2:=.slice oI m1 oM) (show W.heap[Y]? =some FY from(h.bY rfl).2) rfl;exact{size:=h.size,same:=h.same,o1:=h.o1,o2:=λ_=>rfl,v48:=h.v48,v50:=h.v50,v49:=h.v49,v51:=h.v51,v10:=h.v10,v11:=h.v11,bY:=λ_=>⟨(h.bY rfl).1,U⟩,bX:=λ_=>⟨(h.bX rfl).1,(J X (h.ne rfl rfl)).trans (h.bX rfl).2⟩,ne:=h.ne,k1:=λe=>oN (h.k1 e) (λ_ _ z=>z) (by omega) (λx _ z _=>J x (λe'=>z (.inr ⟨rfl,e'⟩))),k2:=λe=>oN (h.k2 e) (λ_ _ z=>z) (by omega) (λx _ z _=>J x (λe'=>z (.inr ⟨rfl,e'⟩))),bel:=Z w2 _ h.bel (h.bY rfl).1}
theorem ahb(hz:100<=T0.size)(h:OA T0 w2 V1 V2 b n1 RN RO m1 Af zP true true true true true true true true X Y aN cN aO cO nT pQ oI oM T W):T=(((((T0.setIfInBounds 52 V1).setIfInBounds 54 V2).setIfInBounds 53 (FB b aN n1 cN aO cO)).setIfInBounds 55 (FB b nT m1 pQ oI oM)).setIfInBounds 14 (ptr X)).setIfInBounds 15 (ptr Y)/\Vg b n1 RN RO m1 Af zP X Y aN cN aO cO nT pQ oI oM W/\Below w2.heap.size w2 W:=by
 obtain⟨s1,s2⟩:=h.k1 rfl W (λ_ _ _ _=>rfl);obtain⟨s3,s4⟩:=h.k2 rfl W (λ_ _ _ _=>rfl);refine⟨?_,⟨(h.bX rfl).2,(h.bY rfl).2,s1,s2,s3,s4⟩,h.bel⟩;refine Array.ext_getElem? λi=>?_;by_cases z:i=15
 ·subst z;rw[eG _ (by simp;omega)];exact h.v11 rfl
 rw[bg _ (Ne.symm z)];by_cases J:i=14
 ·subst J;rw[eG _ (by simp;omega)];exact h.v10 rfl
 rw[bg _ (Ne.symm J)];by_cases U:i=55
 ·subst U;rw[eG _ (by simp;omega)];exact h.v51 rfl
 rw[bg _ (Ne.symm U)];by_cases Z:i=53
 ·subst Z;rw[eG _ (by simp;omega)];exact h.v49 rfl
 rw[bg _ (Ne.symm Z)];by_cases e5:i=54
 ·subst e5;rw[eG _ (by simp;omega)];exact h.v50 rfl
 rw[bg _ (Ne.symm e5)];by_cases e6:i=52
 ·subst e6;rw[eG _ (by omega)];exact h.v48 rfl
 rw[bg _ (Ne.symm e6)];exact h.same i e6 Z e5 U J z
end
abbrev aj9:Oper:={dst:=some 52,op:=Op.load 71 (Operand.tmp 4),type:=71,pos:= "word.go:158",after:=#[],guard:=none}
abbrev akb:Oper:={dst:=some 53,op:=Op.call {callee:=Callee.value (Operand.func 58),args:=#[Operand.tmp 52],argTypes:=#[71]},type:=71,pos:= "word.go:158",after:=#[{on:=0,ground:=Ground.data}],guard:=none}
abbrev akc:Oper:={dst:=some 54,op:=Op.load 71 (Operand.tmp 5),type:=71,pos:= "word.go:158",after:=#[],guard:=none}
abbrev akd:Oper:={dst:=some 55,op:=Op.call {callee:=Callee.value (Operand.func 58),args:=#[Operand.tmp 54],argTypes:=#[71]},type:=71,pos:= "word.go:158",after:=#[{on:=2,ground:=Ground.data},{on:=1,ground:=Ground.chain}],guard:=none}
abbrev ake:Oper:={dst:=some 14,op:=Op.alloc 71,type:=0,pos:= "word.go:158",after:=#[],guard:=none}
abbrev akf:Oper:={dst:=some 15,op:=Op.alloc 71,type:=0,pos:= "word.go:158",after:=#[],guard:=none}
abbrev akg:Oper:={dst:=none,op:=Op.store 71 (Operand.tmp 14) (Operand.tmp 53),type:=0,pos:= "word.go:158",after:=#[{on:=4,ground:=Ground.data},{on:=1,ground:=Ground.data},{on:=3,ground:=Ground.chain},{on:=0,ground:=Ground.phase},{on:=1,ground:=Ground.phase},{on:=2,ground:=Ground.textOnly Departure.lateStores},{on:=3,ground:=Ground.textOnly Departure.lateStoresUnsure},{on:=4,ground:=Ground.phase},{on:=5,ground:=Ground.phase}],guard:=none}
abbrev akh:Oper:={dst:=none,op:=Op.store 71 (Operand.tmp 15) (Operand.tmp 55),type:=0,pos:= "word.go:158",after:=#[{on:=5,ground:=Ground.data},{on:=3,ground:=Ground.data},{on:=6,ground:=Ground.chain},{on:=0,ground:=Ground.phase},{on:=1,ground:=Ground.phase},{on:=2,ground:=Ground.phase},{on:=3,ground:=Ground.phase},{on:=4,ground:=Ground.phase},{on:=5,ground:=Ground.phase},{on:=6,ground:=Ground.phase}],guard:=none}
def OD(l0 c1 l2 c2 a4 a5 s6 s7:Bool):Nat:=(if l0=true then 0 else 1)+(if c1=true then 0 else 1)+(if l2=true then 0 else 1)+(if c2=true then 0 else 1)+(if a4=true then 0 else 1)+(if a5=true then 0 else 1)+(if s6=true then 0 else 1)+(if s7=true then 0 else 1)
theorem aee: ∀l0 c1 l2 c2 a4 a5 s6 s7:Bool,OD l0 c1 l2 c2 a4 a5 s6 s7=0->(l0&&c1&&l2&&c2&&a4&&a5&&s6&&s7)=true:=by decide
theorem ahc: ∀l0 c1 l2 c2 a4 a5 s6 s7:Bool,(l0&&c1&&l2&&c2&&a4&&a5&&s6&&s7)=true->OD l0 c1 l2 c2 a4 a5 s6 s7=0:=by decide
theorem ai8: ∀c1 l2 c2 a4 a5 s6 s7:Bool,OD false c1 l2 c2 a4 a5 s6 s7=OD true c1 l2 c2 a4 a5 s6 s7+1:=by decide
theorem ai9: ∀l0 l2 c2 a4 a5 s6 s7:Bool,OD l0 false l2 c2 a4 a5 s6 s7=OD l0 true l2 c2 a4 a5 s6 s7+1:=by decide
theorem aja: ∀l0 c1 c2 a4 a5 s6 s7:Bool,OD l0 c1 false c2 a4 a5 s6 s7=OD l0 c1 true c2 a4 a5 s6 s7+1:=by decide
theorem ajb: ∀l0 c1 l2 a4 a5 s6 s7:Bool,OD l0 c1 l2 false a4 a5 s6 s7=OD l0 c1 l2 true a4 a5 s6 s7+1:=by decide
theorem ajc: ∀l0 c1 l2 c2 a5 s6 s7:Bool,OD l0 c1 l2 c2 false a5 s6 s7=OD l0 c1 l2 c2 true a5 s6 s7+1:=by decide
theorem ajd: ∀l0 c1 l2 c2 a4 s6 s7:Bool,OD l0 c1 l2 c2 a4 false s6 s7=OD l0 c1 l2 c2 a4 true s6 s7+1:=by decide
theorem aje: ∀l0 c1 l2 c2 a4 a5 s7:Bool,OD l0 c1 l2 c2 a4 a5 false s7=OD l0 c1 l2 c2 a4 a5 true s7+1:=by decide
theorem ajf: ∀l0 c1 l2 c2 a4 a5 s6:Bool,OD l0 c1 l2 c2 a4 a5 s6 false=OD l0 c1 l2 c2 a4 a5 s6 true+1:=by decide
theorem aad: ∀(l0 c1 l2 c2 a4 a5 s6 s7:Bool) (i:Nat),lkR l0 c1 l2 c2 a4 a5 s6 s7 i=true->(i=0/\l0=false)\/(i=1/\c1=false/\l0=true)\/(i=2/\l2=false)\/(i=3/\c2=false/\l2=true/\c1=true)\/(i=4/\a4=false)\/(i=5/\a5=false)\/(i=6/\s6=false/\s7=false/\l0=true/\c1=true/\l2=true/\c2=true/\a4=true/\a5=true)\/(i=7/\s7=false/\l0=true/\c1=true/\l2=true/\c2=true/\a4=true/\a5=true/\s6=true):=by
 intro l0 c1 l2 c2 a4 a5 s6 s7 i h;unfold lkR at h;simp only[Bool.or_eq_true,Bool.and_eq_true,beq_iff_eq,Bool.not_eq_true']at h;rcases h with((((((⟨h,h1⟩|⟨⟨h,h1⟩,h2⟩)|⟨h,h1⟩)|⟨⟨⟨h,h1⟩,h2⟩,h3⟩)|⟨h,h1⟩)|⟨h,h1⟩)|⟨⟨⟨⟨⟨⟨⟨⟨h,h1⟩,h2⟩,h3⟩,h4⟩,h5⟩,z⟩,J⟩,U⟩)|⟨⟨⟨⟨⟨⟨⟨⟨h,h1⟩,h2⟩,h3⟩,h4⟩,h5⟩,z⟩,J⟩,U⟩
 ·exact .inl ⟨h,h1⟩
 ·exact .inr (.inl ⟨h,h1,h2⟩)
 ·exact .inr (.inr (.inl ⟨h,h1⟩))
 ·exact .inr (.inr (.inr (.inl ⟨h,h1,h2,h3⟩)))
 ·exact .inr (.inr (.inr (.inr (.inl ⟨h,h1⟩))))
 ·exact .inr (.inr (.inr (.inr (.inr (.inl ⟨h,h1⟩)))))
 ·exact .inr (.inr (.inr (.inr (.inr (.inr (.inl ⟨h,h1,h2,h3,h4,h5,z,J,U⟩))))))
 ·exact .inr (.inr (.inr (.inr (.inr (.inr (.inr ⟨h,h1,h2,h3,h4,h5,z,J,U⟩))))))
def aki(T0:Array Value)(z:List Deferred)(w2:zW)(V1 V2:Value)(b:Int)(n1:Nat)(RN:zL)(RO:zI)(m1:Nat)(Af:zL)(zP:zI)(k:Nat)(l:Array Bool)(J:Act)(W:zW):Prop:=
 ∃(l0 c1 l2 c2 a4 a5 s6 s7:Bool) (X Y:Nat) (aN:zO) (cN:Nat) (aO:zO) (cO:Nat) (nT:zO) (pQ:Nat) (oI:zO) (oM:Nat) (T:Array Value),l=#[l0,c1,l2,c2,a4,a5,s6,s7]/\k=OD l0 c1 l2 c2 a4 a5 s6 s7/\J=⟨T,z⟩/\(s6=true->l0=true/\c1=true/\l2=true/\c2=true/\a4=true/\a5=true)/\OA T0 w2 V1 V2 b n1 RN RO m1 Af zP l0 c1 l2 c2 a4 a5 s6 s7 X Y aN cN aO cO nT pQ oI oM T W
theorem RD{id:Nat}{w2:zW}{p1 p2:Nat}{a:zO}{n cap:Nat}{ao:zO}{no co:Nat}{a2:zO}{n2 a1:Nat}{a7:zO}{a8 b0:Nat}{n1:Nat}{RO:zI}{m1:Nat}{Af:zL}{zP:zI}(hz:100<=T0.size)(t2:T0[4]? =some (ptr p1))(t3:T0[5]? =some (ptr p2))(hc: ∀W,Below w2.heap.size w2 W->(W.cell? ⟨p1,0,none⟩=some (.int .i64 b)/\W.cell? ⟨p1,1,none⟩=some (.slice a n cap)/\W.cell? ⟨p1,2,none⟩=some (.slice ao no co)/\W.cell? ⟨p2,0,none⟩=some (.int .i64 b)/\W.cell? ⟨p2,1,none⟩=some (.slice a2 n2 a1)/\W.cell? ⟨p2,2,none⟩=some (.slice a7 a8 b0)))(b1: ∀W,Below w2.heap.size w2 W->Calls prog 58 #[.agg #[.int .i64 b,.slice a n cap,.slice ao no co]] W (ag6 W b n1 RN RO))(b2: ∀W,Below w2.heap.size w2 W->Calls prog 58 #[.agg #[.int .i64 b,.slice a2 n2 a1,.slice a7 a8 b0]] W (ag6 W b m1 Af zP))(hQ: ∀X Y aN cN aO cO nT pQ oI oM W,Vg b n1 RN RO m1 Af zP X Y aN cN aO cO nT pQ oI oM W->Below w2.heap.size w2 W->Q .normal ⟨(((((T0.setIfInBounds 52 (.agg #[.int .i64 b,.slice a n cap,.slice ao no co])).setIfInBounds 54 (.agg #[.int .i64 b,.slice a2 n2 a1,.slice a7 a8 b0])).setIfInBounds 53 (FB b aN n1 cN aO cO)).setIfInBounds 55 (FB b nT m1 pQ oI oM)).setIfInBounds 14 (ptr X)).setIfInBounds 15 (ptr Y),D0⟩ W):
  Code.wp prog (Code.region id XW true) Q ⟨T0,D0⟩ w2:=by
 refine wp_region_any (by kernel_rfl) ?_
 refine Ev (aki T0 D0 w2 (.agg #[.int .i64 b,.slice a n cap,.slice ao no co]) (.agg #[.int .i64 b,.slice a2 n2 a1,.slice a7 a8 b0]) b n1 RN RO m1 Af zP) ?_ ?_ 8 _ _ _ ?_
 ·rintro l ac W ⟨l0,c1,l2,c2,a4,a5,s6,s7,X,Y,aN,cN,aO,cO,nT,pQ,oI,oM,T,rfl,hk,rfl,-,h⟩
  have a6:=aee _ _ _ _ _ _ _ _ hk.symm
  refine⟨(aed l0 c1 l2 c2 a4 a5 s6 s7 h.o1 h.o2).2.2 a6,?_⟩
  simp only[Bool.and_eq_true]at a6
  obtain⟨⟨⟨⟨⟨⟨⟨rfl,rfl⟩,rfl⟩,rfl⟩,rfl⟩,rfl⟩,rfl⟩,rfl⟩:=a6
  obtain⟨rfl,h1,h2⟩:=ahb hz h
  exact hQ X Y aN cN aO cO nT pQ oI oM W h1 h2
 ·rintro k l ac W ⟨l0,c1,l2,c2,a4,a5,s6,s7,X,Y,aN,cN,aO,cO,nT,pQ,oI,oM,T,rfl,hk,rfl,z,h⟩
  obtain⟨Z,he,-⟩:=aed l0 c1 l2 c2 a4 a5 s6 s7 h.o1 h.o2
  refine⟨λe=>?_,λi hi=>?_⟩
  ·have:=ahc _ _ _ _ _ _ _ _ (he e)
   omega
  ·rw[List.all_eq_true]at Z
   have hi:=aad _ _ _ _ _ _ _ _ i (Z i hi)
   have e2:T[4]? =some (ptr p1):=(h.same 4 (by decide) (by decide) (by decide) (by decide) (by decide) (by decide)).trans t2
   have e3:T[5]? =some (ptr p2):=(h.same 5 (by decide) (by decide) (by decide) (by decide) (by decide) (by decide)).trans t3
   obtain⟨x0,x1,x2,y0,y1,y2⟩:=hc W h.bel
   rcases hi with⟨rfl,rfl⟩|⟨rfl,rfl,rfl⟩|⟨rfl,rfl⟩|⟨rfl,rfl,rfl,rfl⟩|⟨rfl,rfl⟩|⟨rfl,rfl⟩|⟨rfl,rfl,rfl,rfl,rfl,rfl,rfl,rfl,rfl⟩|⟨rfl,rfl,rfl,rfl,rfl,rfl,rfl,rfl,rfl⟩
   ·refine wpOp_step (o:=aj9) rfl λK' hK=>?_
    rw[yP (by rfl)]
    have J:=aj hK
    have U:=aj h
    clear hK h Z he
    go_simp
    exact J.out _ _ ⟨true,c1,l2,c2,a4,a5,s6,s7,X,Y,aN,cN,aO,cO,nT,pQ,oI,oM,_,rfl,by have:=ai8 c1 l2 c2 a4 a5 s6 s7;omega,rfl,λe=>absurd (z e).1 (by decide),ai0 hz U.out⟩
   ·obtain rfl:s6=false:=by
     cases s6 with
     |false=>rfl
     |true=>exact absurd (z rfl).2.1 (by decide)
    obtain rfl:s7=false:=by
     cases s7 with
     |false=>rfl
     |true=>exact absurd (h.o2 rfl) (by decide)
    refine wpOp_step (o:=akb) rfl λK' hK=>?_
    rw[yP (by rfl)]
    have J:=aj hK
    have U:=aj h
    have b3:=h.v48 rfl
    have HC:=aj (b1 W h.bel)
    clear hK h Z he z x0 x1 x2 y0 y1 y2 e2 e3
    go_simp
    refine HC.out.mono ?_
    rintro e W1 ⟨bN,dN,bO,dO,rfl,hn,hb⟩
    exact J.out _ _ ⟨true,true,l2,c2,a4,a5,false,false,X,Y,bN,dN,bO,dO,nT,pQ,oI,oM,_,rfl,by have:=ai9 true l2 c2 a4 a5 false false;omega,rfl,(λe=>by cases e),ai2 hz U.out hb hn⟩
   ·refine wpOp_step (o:=akc) rfl λK' hK=>?_
    rw[yP (by rfl)]
    have J:=aj hK
    have U:=aj h
    clear hK h Z he
    go_simp
    exact J.out _ _ ⟨l0,c1,true,c2,a4,a5,s6,s7,X,Y,aN,cN,aO,cO,nT,pQ,oI,oM,_,rfl,by have:=aja l0 c1 c2 a4 a5 s6 s7;omega,rfl,λe=>absurd (z e).2.2.1 (by decide),ai1 hz U.out⟩
   ·obtain rfl:s6=false:=by
     cases s6 with
     |false=>rfl
     |true=>exact absurd (z rfl).2.2.2.1 (by decide)
    obtain rfl:s7=false:=by
     cases s7 with
     |false=>rfl
     |true=>exact absurd (h.o2 rfl) (by decide)
    refine wpOp_step (o:=akd) rfl λK' hK=>?_
    rw[yP (by rfl)]
    have J:=aj hK
    have U:=aj h
    have b4:=h.v50 rfl
    have HC:=aj (b2 W h.bel)
    clear hK h Z he z x0 x1 x2 y0 y1 y2 e2 e3
    go_simp
    refine HC.out.mono ?_
    rintro e W1 ⟨bN,dN,bO,dO,rfl,hn,hb⟩
    exact J.out _ _ ⟨l0,true,true,true,a4,a5,false,false,X,Y,aN,cN,aO,cO,bN,dN,bO,dO,_,rfl,by have:=ajb l0 true true a4 a5 false false;omega,rfl,(λe=>by cases e),ai3 hz U.out hb hn⟩
   ·obtain rfl:s6=false:=by
     cases s6 with
     |false=>rfl
     |true=>exact absurd (z rfl).2.2.2.2.1 (by decide)
    obtain rfl:s7=false:=by
     cases s7 with
     |false=>rfl
     |true=>exact absurd (h.o2 rfl) (by decide)
    refine wpOp_step (o:=ake) rfl λK' hK=>?_
    rw[yP (by rfl)]
    have J:=aj hK
    have U:=aj h
    clear hK h Z he z x0 x1 x2 y0 y1 y2 e2 e3
    go_simp
    exact J.out _ _ ⟨l0,c1,l2,c2,true,a5,false,false,W.heap.size,Y,aN,cN,aO,cO,nT,pQ,oI,oM,_,rfl,by have:=ajc l0 c1 l2 c2 a5 false false;omega,rfl,(λe=>by cases e),ai4 hz U.out⟩
   ·obtain rfl:s6=false:=by
     cases s6 with
     |false=>rfl
     |true=>exact absurd (z rfl).2.2.2.2.2 (by decide)
    obtain rfl:s7=false:=by
     cases s7 with
     |false=>rfl
     |true=>exact absurd (h.o2 rfl) (by decide)
    refine wpOp_step (o:=akf) rfl λK' hK=>?_
    rw[yP (by rfl)]
    have J:=aj hK
    have U:=aj h
    clear hK h Z he z x0 x1 x2 y0 y1 y2 e2 e3
    go_simp
    exact J.out _ _ ⟨l0,c1,l2,c2,a4,true,false,false,X,W.heap.size,aN,cN,aO,cO,nT,pQ,oI,oM,_,rfl,by have:=ajd l0 c1 l2 c2 a4 false false;omega,rfl,(λe=>by cases e),ai5 hz U.out⟩
   ·refine wpOp_step (o:=akg) rfl λK' hK=>?_
    rw[yP (by rfl)]
    have J:=aj hK
    have U:=aj h
    have b5:=h.v10 rfl
    have b6:=h.v49 rfl
    obtain⟨⟨z0,z1,z2⟩,zf⟩:=aJ (show W.heap[X]? =some FY from(h.bX rfl).2)
    clear hK h Z he z x0 x1 x2 y0 y1 y2 e2 e3
    go_simp
    exact J.out _ _ ⟨true,true,true,true,true,true,true,false,X,Y,aN,cN,aO,cO,nT,pQ,oI,oM,_,rfl,by have:=aje true true true true true true false;omega,rfl,λ_=>⟨rfl,rfl,rfl,rfl,rfl,rfl⟩,ai6 U.out⟩
   ·refine wpOp_step (o:=akh) rfl λK' hK=>?_
    rw[yP (by rfl)]
    have J:=aj hK
    have U:=aj h
    have b7:=h.v11 rfl
    have b8:=h.v51 rfl
    obtain⟨⟨z0,z1,z2⟩,zf⟩:=aJ (show W.heap[Y]? =some FY from(h.bY rfl).2)
    clear hK h Z he z x0 x1 x2 y0 y1 y2 e2 e3
    go_simp
    exact J.out _ _ ⟨true,true,true,true,true,true,true,true,X,Y,aN,cN,aO,cO,nT,pQ,oI,oM,_,rfl,by have:=ajf true true true true true true true;omega,rfl,λ_=>⟨rfl,rfl,rfl,rfl,rfl,rfl⟩,ai7 U.out⟩
 ·exact⟨false,false,false,false,false,false,false,false,0,0,none,0,none,0,none,0,none,0,T0,rfl,rfl,rfl,(λe=>by cases e),{size:=rfl,same:=λ_ _ _ _ _ _ _=>rfl,o1:=(λe=>by cases e),o2:=(λe=>by cases e),v48:=(λe=>by cases e),v50:=(λe=>by cases e),v49:=(λe=>by cases e),v51:=(λe=>by cases e),v10:=(λe=>by cases e),v11:=(λe=>by cases e),bX:=(λe=>by cases e),bY:=(λe=>by cases e),ne:=(λe=>by cases e),k1:=(λe=>by cases e),k2:=(λe=>by cases e),bel:=zb.drew}⟩
abbrev aef:Oper:={dst:=some 80,op:=Op.fieldAddr 35 (Operand.tmp 18) 3,type:=0,pos:= "word.go:166",after:=#[],guard:=none}
abbrev aeg:Oper:={dst:=some 81,op:=Op.load 33 (Operand.tmp 80),type:=33,pos:= "word.go:166",after:=#[{on:=0,ground:=Ground.data}],guard:=none}
abbrev aeh:Oper:={dst:=some 82,op:=Op.move (Operand.tmp 21),type:=3,pos:= "word.go:166",after:=#[],guard:=none}
abbrev aei:Oper:={dst:=some 83,op:=Op.binOp BinOp.neq 3 (Operand.tmp 82) (Operand.const (Value.int IntKind.i64 (-1))) 3,type:=4,pos:= "word.go:166",after:=#[{on:=2,ground:=Ground.data}],guard:=none}
abbrev aej:Oper:={dst:=some 84,op:=Op.move (Operand.tmp 83),type:=4,pos:= "word.go:166",after:=#[{on:=3,ground:=Ground.data}],guard:=none}
abbrev RF:Oper:={dst:=some 85,op:=Op.move (Operand.tmp 21),type:=3,pos:= "word.go:166",after:=#[{on:=4,ground:=Ground.guard}],guard:=some (4,true)}
abbrev RG:Oper:={dst:=some 86,op:=Op.fieldAddr 71 (Operand.tmp 15) 2,type:=0,pos:= "word.go:166",after:=#[{on:=4,ground:=Ground.guard}],guard:=some (4,true)}
abbrev RH:Oper:={dst:=some 87,op:=Op.load 24 (Operand.tmp 86),type:=24,pos:= "word.go:166",after:=#[{on:=6,ground:=Ground.data},{on:=4,ground:=Ground.guard}],guard:=some (4,true)}
abbrev RJ:Oper:={dst:=some 88,op:=Op.indexAddr 129 (Operand.tmp 20) (Operand.const (Value.int IntKind.i64 1)),type:=0,pos:= "word.go:166",after:=#[{on:=4,ground:=Ground.guard}],guard:=some (4,true)}
abbrev RP:Oper:={dst:=some 89,op:=Op.load 3 (Operand.tmp 88),type:=3,pos:= "word.go:166",after:=#[{on:=8,ground:=Ground.data},{on:=4,ground:=Ground.guard}],guard:=some (4,true)}
abbrev Bh:Oper:={dst:=some 90,op:=Op.indexAddr 24 (Operand.tmp 87) (Operand.tmp 89),type:=0,pos:= "word.go:166",after:=#[{on:=7,ground:=Ground.data},{on:=9,ground:=Ground.data},{on:=4,ground:=Ground.guard}],guard:=some (4,true)}
abbrev Ew:Oper:={dst:=some 91,op:=Op.load 3 (Operand.tmp 90),type:=3,pos:= "word.go:166",after:=#[{on:=10,ground:=Ground.data},{on:=4,ground:=Ground.guard}],guard:=some (4,true)}
abbrev Ey:Oper:={dst:=some 92,op:=Op.binOp BinOp.eql 3 (Operand.tmp 85) (Operand.tmp 91) 3,type:=4,pos:= "word.go:166",after:=#[{on:=5,ground:=Ground.data},{on:=11,ground:=Ground.data},{on:=4,ground:=Ground.guard}],guard:=some (4,true)}
abbrev JZ:Oper:={dst:=some 93,op:=Op.pick (Operand.tmp 84) (Operand.tmp 92) (Operand.const (Value.bool false)),type:=4,pos:= "word.go:166",after:=#[{on:=4,ground:=Ground.data},{on:=12,ground:=Ground.data}],guard:=none}
abbrev OG:Oper:={dst:=some 94,op:=Op.buildSlice 33 1 #[(0,Operand.tmp 93)],type:=33,pos:= "word.go:166",after:=#[{on:=13,ground:=Ground.data}],guard:=none}
abbrev Ka:Oper:={dst:=some 95,op:=Op.call {callee:=Callee.builtin Builtin.append,args:=#[Operand.tmp 81,Operand.tmp 94],argTypes:=#[33,33]},type:=33,pos:= "word.go:166",after:=#[{on:=1,ground:=Ground.data},{on:=14,ground:=Ground.data},{on:=4,ground:=Ground.chain}],guard:=none}
abbrev Vh:Oper:={dst:=some 96,op:=Op.fieldAddr 35 (Operand.tmp 18) 3,type:=0,pos:= "word.go:166",after:=#[{on:=0,ground:=Ground.phase},{on:=1,ground:=Ground.phase},{on:=2,ground:=Ground.phase},{on:=3,ground:=Ground.phase},{on:=4,ground:=Ground.phase},{on:=5,ground:=Ground.phase},{on:=6,ground:=Ground.phase},{on:=7,ground:=Ground.phase},{on:=8,ground:=Ground.phase},{on:=9,ground:=Ground.phase},{on:=10,ground:=Ground.phase},{on:=11,ground:=Ground.phase},{on:=12,ground:=Ground.phase},{on:=13,ground:=Ground.phase},{on:=14,ground:=Ground.phase},{on:=15,ground:=Ground.phase}],guard:=none}
abbrev OH:Oper:={dst:=none,op:=Op.store 33 (Operand.tmp 96) (Operand.tmp 95),type:=0,pos:= "word.go:166",after:=#[{on:=16,ground:=Ground.data},{on:=15,ground:=Ground.data},{on:=15,ground:=Ground.chain},{on:=0,ground:=Ground.phase},{on:=1,ground:=Ground.phase},{on:=2,ground:=Ground.phase},{on:=3,ground:=Ground.phase},{on:=4,ground:=Ground.phase},{on:=5,ground:=Ground.phase},{on:=6,ground:=Ground.phase},{on:=7,ground:=Ground.phase},{on:=8,ground:=Ground.phase},{on:=9,ground:=Ground.phase},{on:=10,ground:=Ground.phase},{on:=11,ground:=Ground.phase},{on:=12,ground:=Ground.phase},{on:=13,ground:=Ground.phase},{on:=14,ground:=Ground.phase},{on:=15,ground:=Ground.phase}],guard:=none}
abbrev kU:Array Oper:=#[aef,aeg,aeh,aei,aej,RF,RG,RH,RJ,RP,Bh,Ew,Ey,JZ,OG,Ka,Vh,OH]
def onB(ops:Array Oper):Bool:=(List.range ops.size).all λj=>((ops[j]?).map λo=>o.after.toList.all λe=>decide (e.on<j)).getD true
theorem aek{ops:Array Oper}(h:onB ops=true): ∀(j:Nat) (o:Oper),ops[j]? =some o-> ∀e∈o.after.toList,e.on<j:=λj o z e J=>by unfold onB at h;rw[List.all_eq_true]at h;have h1:=h j (List.mem_range.2 (zG z).1);rw[z]at h1;simp only[Option.map_some,Option.getD_some,List.all_eq_true]at h1;exact of_decide_eq_true (h1 e J)
theorem akj: ∀(j:Nat) (o:Oper),kU[j]? =some o-> ∀e∈o.after.toList,e.on<j:=aek (by decide+kernel)
def gdV(g:Bool)(v:Value):Option Value:=if g=true then some v else none
def leE(B Y X bo oo D m cO:Nat)(g q:Bool)(vE:Value)(zo zp:Int)(s:Nat):Nat->Option Value
 |0=>some (.pointer (some ⟨B,3,none⟩))
 |1=>some vE
 |2=>some (.int .i64 zo)
 |3=>some (.bool g)
 |4=>some (.bool g)
 |5=>gdV g (.int .i64 zo)
 |6=>gdV g (.pointer (some ⟨Y,2,none⟩))
 |7=>gdV g (.slice (some ⟨bo,oo,none⟩) m cO)
 |8=>gdV g (.pointer (some ⟨X,1,none⟩))
 |9=>gdV g (.int .i64 (D:Int))
 |10=>gdV g (.pointer (some ⟨bo,oo+D,none⟩))
 |11=>gdV g (.int .i64 zp)
 |12=>gdV g (.bool (zo==zp))
 |13=>some (.bool q)
 |14=>some (.slice (some ⟨s,0,none⟩) 1 1)
 |16=>some (.pointer (some ⟨B,3,none⟩))
 |_=>none
structure LeI (T0:Array Value) (E:Nat->Option Value) (w1 W1:zW) (Good:Value->zW->Prop) (Fin:zW->Prop) (L:Nat->Prop) (T:Array Value) (W:zW):Prop where
 size:T.size=T0.size
 same: ∀i:Nat,i<80\/96<i->T[i]? =T0[i]?
 val: ∀(j:Nat) (v:Value),j<=16->L j->E j=some v->T[80+j]? =some v
 p0: ¬L 14->W=w1
 p1:L 14-> ¬L 15->W=W1
 p2:L 15-> ¬L 17-> ∃v,T[95]? =some v/\Good v W
 p3:L 17->Fin W
section
variable {T0:Array Value} {E:Nat->Option Value} {w1 W1:zW} {Good:Value->zW->Prop} {Fin:zW->Prop} {L:Nat->Prop} {T:Array Value} {W:zW}
theorem Kc(Z:100<=T0.size)(h:LeI T0 E w1 W1 Good Fin L T W){i:Nat}(hi:i<=16)(v:Value)(hv: ∀v',E i=some v'->v'=v):(T.setIfInBounds (80+i) v).size=T0.size/\(∀j:Nat,j<80\/96<j->(T.setIfInBounds (80+i) v)[j]? =T0[j]?)/\ ∀(j:Nat) (u:Value),j<=16->(j=i\/L j)->E j=some u->(T.setIfInBounds (80+i) v)[80+j]? =some u:=by
 have hs:=h.size;refine⟨by simpa using hs,λj z=>(bg _ (by omega)).trans (h.same j z),λj u z U J=>?_⟩;by_cases e:j=i
 ·subst e;rw[eG _ (by omega),hv u J]
 ·rw[bg _ (by omega)];exact h.val j u z (U.resolve_left e) J
theorem ael(Z:100<=T0.size)(h:LeI T0 E w1 W1 Good Fin L T W){i:Nat}(hi:i<=16)(J:i≠14)(U:i≠15)(v:Value)(hv: ∀v',E i=some v'->v'=v):LeI T0 E w1 W1 Good Fin (λj=>j=i\/L j) (T.setIfInBounds (80+i) v) W:=by obtain⟨s1,s2,s3⟩:=Kc Z h hi v hv;refine⟨s1,s2,s3,λhn=>h.p0 (λz=>hn (.inr z)),λh1 h2=>h.p1 (h1.resolve_left (Ne.symm J)) (λz=>h2 (.inr z)),λh1 h2=>?_,λh1=>h.p3 (h1.resolve_left (by omega))⟩;obtain⟨v2,g1,g2⟩:=h.p2 (h1.resolve_left (Ne.symm U)) (λz=>h2 (.inr z));exact⟨v2,(bg _ (by omega)).trans g1,g2⟩
theorem qA(U:100<=T0.size)(h:LeI T0 E w1 W1 Good Fin L T W){i:Nat}{v:Value}(hv: ∀v',E i=some v'->v'=v)(hi:i<=16:=by decide)(z:i≠14:=by decide)(J:i≠15:=by decide):LeI T0 E w1 W1 Good Fin (λj=>j=i\/L j) (T.setIfInBounds (80+i) v) W:=ael U h hi z J v hv
theorem aem(U:100<=T0.size)(h:LeI T0 E w1 W1 Good Fin L T W)(z: ¬L 15)(J: ¬L 17)(v:Value)(hv: ∀v',E 14=some v'->v'=v):LeI T0 E w1 W1 Good Fin (λj=>j=14\/L j) (T.setIfInBounds 94 v) W1:=by obtain⟨Z,s2,s3⟩:=Kc U h (i:=14) (by decide) v hv;exact⟨Z,s2,s3,λhn=>absurd (.inl rfl) hn,λ_ _=>rfl,λh1=>absurd (h1.resolve_left (by decide)) z,λh1=>absurd (h1.resolve_left (by decide)) J⟩
theorem ajh(Z:100<=T0.size)(h:LeI T0 E w1 W1 Good Fin L T W)(U:L 14)(z: ¬L 17)(v:Value)(hv: ∀v',E 15=some v'->v'=v){W2:zW}(hg:Good v W2):LeI T0 E w1 W1 Good Fin (λj=>j=15\/L j) (T.setIfInBounds 95 v) W2:=by obtain⟨s1,s2,s3⟩:=Kc Z h (i:=15) (by decide) v hv;have hs:=h.size;exact⟨s1,s2,s3,λJ=>absurd (.inr U) J,λ_ J=>absurd (.inl rfl) J,λ_ _=>⟨v,eG _ (by omega),hg⟩,λh1=>absurd (h1.resolve_left (by decide)) z⟩
theorem aen(h:LeI T0 E w1 W1 Good Fin L T W)(J:L 14)(U:L 15){W2:zW}(Z:Fin W2):LeI T0 E w1 W1 Good Fin (λj=>j=17\/L j) T W2:=
 ⟨h.size,h.same,λj v hj hl he=>h.val j v hj (hl.resolve_left (by omega)) he,λz=>absurd (.inr J) z,λ_ z=>absurd (.inr U) z,λ_ z=>absurd (.inl rfl) z,λ_=>Z⟩
end
theorem mQ{g:Bool}(h:T[84]? =some (.bool g)){o:Oper}(hg:o.guard=some (4,true)):Region.wanted o (yielded kU T)=g:=by
 have z:yielded kU T 4=some g:=by unfold yielded;rw[show((kU[4]?).bind (·.dst)).bind (λt=>T[t]?)=some (.bool g)from h]
 unfold Region.wanted;rw[hg];show(yielded kU T 4==some true)=g;rw[z];cases g<;>rfl
theorem aah{id:Nat}{wb wp:zW}{B Y X bo oo D m cO:Nat}{zo zp:Int}{vE:Value}{tt:Int}{aW:zO}{nW cW:Nat}{vals:zV}{i0:Nat}(hz:100<=T0.size)(c9:T0[18]? =some (ptr B))(e0:T0[20]? =some (ptr X))(e1:T0[21]? =some (.int .i64 zo))(e2:T0[15]? =some (ptr Y))(hF:Bg wb B 3 (λv=>.cells #[.int .i64 b,.int .i64 tt,.slice aW nW cW,v] 35) 4 vals vE wp)(hlen:vals.length=i0)(g4:i0<=4096)(cX:wp.cell? ⟨X,1,none⟩=some (.int .i64 (D:Int)))(cY:wp.cell? ⟨Y,2,none⟩=some (.slice (some ⟨bo,oo,none⟩) m cO))(cZ:wp.cell? ⟨bo,oo+D,none⟩=some (.int .i64 zp))(hD:(D:Int)<(m:Int))(hQ: ∀(T:Array Value) (W:zW) (v:Value),T.size=T0.size->(∀i:Nat,i<80\/96<i->T[i]? =T0[i]?)->Bg wb B 3 (λv=>.cells #[.int .i64 b,.int .i64 tt,.slice aW nW cW,v] 35) 4 (vals++[.bool ((zo != -1)&&(zo==zp))]) v W->Q .normal ⟨T,D0⟩ W):
  Code.wp prog (Code.region id kU true) Q ⟨T0,D0⟩ wp:=by
 obtain⟨g,hg⟩: ∃g,(zo != -1)=g:=⟨_,rfl⟩
 obtain⟨q,hq⟩: ∃q,((zo != -1)&&(zo==zp))=q:=⟨_,rfl⟩
 have a2:Bg wb B 3 (λv=>.cells #[.int .i64 b,.int .i64 tt,.slice aW nW cW,v] 35) 4 vals vE wp.drew:=zN hF zb.drew
 have dX:wp.drew.cell? ⟨X,1,none⟩=some (.int .i64 (D:Int)):=cX
 have dY:wp.drew.cell? ⟨Y,2,none⟩=some (.slice (some ⟨bo,oo,none⟩) m cO):=cY
 have dZ:wp.drew.cell? ⟨bo,oo+D,none⟩=some (.int .i64 zp):=cZ
 clear cX cY cZ hF
 refine JY (by kernel_rfl) akj (λL a W=> ∃T,a=⟨T,D0⟩/\LeI T0 (leE B Y X bo oo D m cO g q vE zo zp wp.drew.heap.size) wp.drew (wp.drew.alloc (.cells #[.bool q] 4)) (λv W=>W.heap[B]? =some (.cells #[.int .i64 b,.int .i64 tt,.slice aW nW cW,vE] 35)/\Bg wb B 3 (λv=>.cells #[.int .i64 b,.int .i64 tt,.slice aW nW cW,v] 35) 4 (vals++[.bool q]) v (W.setCell ⟨B,3,none⟩ v)) (λW=> ∃v,Bg wb B 3 (λv=>.cells #[.int .i64 b,.int .i64 tt,.slice aW nW cW,v] 35) 4 (vals++[.bool q]) v W) L T W) ?_ ?_ ?_
 ·exact⟨T0,rfl,rfl,λ_ _=>rfl,λ_ _ _ h=>h.elim,λ_=>rfl,λh=>h.elim,λh=>h.elim,λh=>h.elim⟩
 ·rintro L ac W i o ho b7 z a1 ⟨T,rfl,h⟩
  generalize wp.drew=w1 at*
  have hi:i<18:=(zG ho).1
  have g5:T[18]? =some (ptr B):=(h.same 18 (.inl (by decide))).trans c9
  have g7:T[20]? =some (ptr X):=(h.same 20 (.inl (by decide))).trans e0
  have g8:T[21]? =some (.int .i64 zo):=(h.same 21 (.inl (by decide))).trans e1
  have g9:T[15]? =some (ptr Y):=(h.same 15 (.inl (by decide))).trans e2
  have J:kU[i]? =some o:=ho
  clear hQ c9 e0 e1 e2
  have b0:L 17->L 15:=λh'=>a1 17 OH h' rfl {on:=15,ground:=.data} (by simp) rfl
  have b1:L 15->L 14:=λh'=>a1 15 Ka h' rfl {on:=14,ground:=.data} (by simp) rfl
  have b3:L 15->L 1:=λh'=>a1 15 Ka h' rfl {on:=1,ground:=.data} (by simp) rfl
  have a6:L 14->L 13:=λh'=>a1 14 OG h' rfl {on:=13,ground:=.data} (by simp) rfl
  have a7:L 13->L 12:=λh'=>a1 13 JZ h' rfl {on:=12,ground:=.data} (by simp) rfl
  have a8:L 12->L 11:=λh'=>a1 12 Ey h' rfl {on:=11,ground:=.data} (by simp) rfl
  have b2:L 11->L 10:=λh'=>a1 11 Ew h' rfl {on:=10,ground:=.data} (by simp) rfl
  have b4:L 10->L 9:=λh'=>a1 10 Bh h' rfl {on:=9,ground:=.data} (by simp) rfl
  have b5:L 10->L 7:=λh'=>a1 10 Bh h' rfl {on:=7,ground:=.data} (by simp) rfl
  rcases(by omega:i=0\/i=1\/i=2\/i=3\/i=4\/i=5\/i=6\/i=7\/i=8\/i=9\/i=10\/i=11\/i=12\/i=13\/i=14\/i=15\/i=16\/i=17)with rfl|rfl|rfl|rfl|rfl|rfl|rfl|rfl|rfl|rfl|rfl|rfl|rfl|rfl|rfl|rfl|rfl|rfl
  ·obtain rfl:aef=o:=by injection J
   refine wpOp_step (o:=aef) rfl λK' hK=>?_
   rw[yP (by rfl)]
   have U:=aj hK
   have Z:=aj h
   clear hK h z a1 ho J a2 hlen b0 b1 b3 a6 a7 a8 b2 b4 b5
   go_simp
   exact U.out _ _ ⟨_,rfl,qA hz Z.out (i:=0) λ_ e=>(by injection e with e;exact e.symm)⟩
  ·obtain rfl:aeg=o:=by injection J
   have d0:L 0:=z {on:=0,ground:=.data} (by simp) rfl
   have v0:=h.val 0 _ (by decide) d0 rfl
   have i1:W.cell? ⟨B,3,none⟩=some vE:=by
    have c4:=(aC a2.box).1.2.2.2;by_cases e3:L 14
    ·rw[h.p1 e3 (λh'=>b7 (b3 h'))];exact(((Below.refl w1.heap.size w1).alloc zr _).cell (p:=⟨B,3,none⟩) (zk w1 _ c4)).trans c4
    ·rw[h.p0 e3];exact c4
   refine wpOp_step (o:=aeg) rfl λK' hK=>?_
   rw[yP (by rfl)]
   have U:=aj hK
   have Z:=aj h
   clear hK h z a1 ho J a2 hlen b0 b1 b3 a6 a7 a8 b2 b4 b5
   go_simp
   exact U.out _ _ ⟨_,rfl,qA hz Z.out (i:=1) λ_ e=>(by injection e with e;exact e.symm)⟩
  ·obtain rfl:aeh=o:=by injection J
   refine wpOp_step (o:=aeh) rfl λK' hK=>?_
   rw[yP (by rfl)]
   have U:=aj hK
   have Z:=aj h
   clear hK h z a1 ho J a2 hlen b0 b1 b3 a6 a7 a8 b2 b4 b5
   go_simp
   exact U.out _ _ ⟨_,rfl,qA hz Z.out (i:=2) λ_ e=>(by injection e with e;exact e.symm)⟩
  ·obtain rfl:aei=o:=by injection J
   have d2:L 2:=z {on:=2,ground:=.data} (by simp) rfl
   have v2:=h.val 2 _ (by decide) d2 rfl
   refine wpOp_step (o:=aei) rfl λK' hK=>?_
   rw[yP (by rfl)]
   have U:=aj hK
   have Z:=aj h
   clear hK h z a1 ho J a2 hlen b0 b1 b3 a6 a7 a8 b2 b4 b5
   go_simp
   exact U.out _ _ ⟨_,rfl,qA hz Z.out (i:=3) λ_ e=>(by injection e with e;exact e.symm)⟩
  ·obtain rfl:aej=o:=by injection J
   have d3:L 3:=z {on:=3,ground:=.data} (by simp) rfl
   have v3:=h.val 3 _ (by decide) d3 rfl
   refine wpOp_step (o:=aej) rfl λK' hK=>?_
   rw[yP (by rfl)]
   have U:=aj hK
   have Z:=aj h
   clear hK h z a1 ho J a2 hlen b0 b1 b3 a6 a7 a8 b2 b4 b5
   go_simp
   exact U.out _ _ ⟨_,rfl,qA hz Z.out (i:=4) λ_ e=>(by injection e with e;exact e.symm)⟩
  ·obtain rfl:RF=o:=by injection J
   have d4:L 4:=z {on:=4,ground:=.guard} (by simp) rfl
   have v4:=h.val 4 _ (by decide) d4 rfl
   refine wpOp_step (o:=RF) rfl λK' hK=>?_
   have U:=aj hK
   have Z:=aj h
   have hw:Region.wanted RF (yielded kU T)=g:=mQ v4 rfl
   cases g with
   |false=>
    rw[yN (by show¬(Region.wanted RF (yielded kU T)=true);rw[hw];decide)]
    exact U.out _ _ ⟨_,rfl,qA hz Z.out (i:=5) λ_ e=>(by cases e)⟩
   |true=>
    rw[yP (by exact hw)]
    clear hK h z a1 ho J a2 hlen b0 b1 b3 a6 a7 a8 b2 b4 b5
    clear hw
    go_simp
    exact U.out _ _ ⟨_,rfl,qA hz Z.out (i:=5) λ_ e=>(by injection e with e;exact e.symm)⟩
  ·obtain rfl:RG=o:=by injection J
   have d4:L 4:=z {on:=4,ground:=.guard} (by simp) rfl
   have v4:=h.val 4 _ (by decide) d4 rfl
   refine wpOp_step (o:=RG) rfl λK' hK=>?_
   have U:=aj hK
   have Z:=aj h
   have hw:Region.wanted RG (yielded kU T)=g:=mQ v4 rfl
   cases g with
   |false=>
    rw[yN (by show¬(Region.wanted RG (yielded kU T)=true);rw[hw];decide)]
    exact U.out _ _ ⟨_,rfl,qA hz Z.out (i:=6) λ_ e=>(by cases e)⟩
   |true=>
    rw[yP (by exact hw)]
    clear hK h z a1 ho J a2 hlen b0 b1 b3 a6 a7 a8 b2 b4 b5
    clear hw
    go_simp
    exact U.out _ _ ⟨_,rfl,qA hz Z.out (i:=6) λ_ e=>(by injection e with e;exact e.symm)⟩
  ·obtain rfl:RH=o:=by injection J
   have d4:L 4:=z {on:=4,ground:=.guard} (by simp) rfl
   have v4:=h.val 4 _ (by decide) d4 rfl
   have d6:L 6:=z {on:=6,ground:=.data} (by simp) rfl
   obtain rfl:W=w1:=h.p0 (λh'=>b7 (b5 (b2 (a8 (a7 (a6 h'))))))
   refine wpOp_step (o:=RH) rfl λK' hK=>?_
   have U:=aj hK
   have Z:=aj h
   have hw:Region.wanted RH (yielded kU T)=g:=mQ v4 rfl
   cases g with
   |false=>
    rw[yN (by show¬(Region.wanted RH (yielded kU T)=true);rw[hw];decide)]
    exact U.out _ _ ⟨_,rfl,qA hz Z.out (i:=7) λ_ e=>(by cases e)⟩
   |true=>
    rw[yP (by exact hw)]
    have v6:=h.val 6 _ (by decide) d6 rfl
    clear hK h z a1 ho J a2 hlen b0 b1 b3 a6 a7 a8 b2 b4 b5
    clear hw
    go_simp
    exact U.out _ _ ⟨_,rfl,qA hz Z.out (i:=7) λ_ e=>(by injection e with e;exact e.symm)⟩
  ·obtain rfl:RJ=o:=by injection J
   have d4:L 4:=z {on:=4,ground:=.guard} (by simp) rfl
   have v4:=h.val 4 _ (by decide) d4 rfl
   refine wpOp_step (o:=RJ) rfl λK' hK=>?_
   have U:=aj hK
   have Z:=aj h
   have hw:Region.wanted RJ (yielded kU T)=g:=mQ v4 rfl
   cases g with
   |false=>
    rw[yN (by show¬(Region.wanted RJ (yielded kU T)=true);rw[hw];decide)]
    exact U.out _ _ ⟨_,rfl,qA hz Z.out (i:=8) λ_ e=>(by cases e)⟩
   |true=>
    rw[yP (by exact hw)]
    clear hK h z a1 ho J a2 hlen b0 b1 b3 a6 a7 a8 b2 b4 b5
    clear hw
    go_simp
    exact U.out _ _ ⟨_,rfl,qA hz Z.out (i:=8) λ_ e=>(by injection e with e;exact e.symm)⟩
  ·obtain rfl:RP=o:=by injection J
   have d4:L 4:=z {on:=4,ground:=.guard} (by simp) rfl
   have v4:=h.val 4 _ (by decide) d4 rfl
   have d8:L 8:=z {on:=8,ground:=.data} (by simp) rfl
   obtain rfl:W=w1:=h.p0 (λh'=>b7 (b4 (b2 (a8 (a7 (a6 h'))))))
   refine wpOp_step (o:=RP) rfl λK' hK=>?_
   have U:=aj hK
   have Z:=aj h
   have hw:Region.wanted RP (yielded kU T)=g:=mQ v4 rfl
   cases g with
   |false=>
    rw[yN (by show¬(Region.wanted RP (yielded kU T)=true);rw[hw];decide)]
    exact U.out _ _ ⟨_,rfl,qA hz Z.out (i:=9) λ_ e=>(by cases e)⟩
   |true=>
    rw[yP (by exact hw)]
    have v8:=h.val 8 _ (by decide) d8 rfl
    clear hK h z a1 ho J a2 hlen b0 b1 b3 a6 a7 a8 b2 b4 b5
    clear hw
    go_simp
    exact U.out _ _ ⟨_,rfl,qA hz Z.out (i:=9) λ_ e=>(by injection e with e;exact e.symm)⟩
  ·obtain rfl:Bh=o:=by injection J
   have d4:L 4:=z {on:=4,ground:=.guard} (by simp) rfl
   have v4:=h.val 4 _ (by decide) d4 rfl
   have d7:L 7:=z {on:=7,ground:=.data} (by simp) rfl
   have d9:L 9:=z {on:=9,ground:=.data} (by simp) rfl
   refine wpOp_step (o:=Bh) rfl λK' hK=>?_
   have U:=aj hK
   have Z:=aj h
   have hw:Region.wanted Bh (yielded kU T)=g:=mQ v4 rfl
   cases g with
   |false=>
    rw[yN (by show¬(Region.wanted Bh (yielded kU T)=true);rw[hw];decide)]
    exact U.out _ _ ⟨_,rfl,qA hz Z.out (i:=10) λ_ e=>(by cases e)⟩
   |true=>
    rw[yP (by exact hw)]
    have v7:=h.val 7 _ (by decide) d7 rfl
    have v9:=h.val 9 _ (by decide) d9 rfl
    clear hK h z a1 ho J a2 hlen b0 b1 b3 a6 a7 a8 b2 b4 b5
    clear hw
    go_simp
    exact U.out _ _ ⟨_,rfl,qA hz Z.out (i:=10) λ_ e=>(by injection e with e;exact e.symm)⟩
  ·obtain rfl:Ew=o:=by injection J
   have d4:L 4:=z {on:=4,ground:=.guard} (by simp) rfl
   have v4:=h.val 4 _ (by decide) d4 rfl
   have e6:L 10:=z {on:=10,ground:=.data} (by simp) rfl
   obtain rfl:W=w1:=h.p0 (λh'=>b7 (a8 (a7 (a6 h'))))
   refine wpOp_step (o:=Ew) rfl λK' hK=>?_
   have U:=aj hK
   have Z:=aj h
   have hw:Region.wanted Ew (yielded kU T)=g:=mQ v4 rfl
   cases g with
   |false=>
    rw[yN (by show¬(Region.wanted Ew (yielded kU T)=true);rw[hw];decide)]
    exact U.out _ _ ⟨_,rfl,qA hz Z.out (i:=11) λ_ e=>(by cases e)⟩
   |true=>
    rw[yP (by exact hw)]
    have v10:=h.val 10 _ (by decide) e6 rfl
    clear hK h z a1 ho J a2 hlen b0 b1 b3 a6 a7 a8 b2 b4 b5
    clear hw
    go_simp
    exact U.out _ _ ⟨_,rfl,qA hz Z.out (i:=11) λ_ e=>(by injection e with e;exact e.symm)⟩
  ·obtain rfl:Ey=o:=by injection J
   have d4:L 4:=z {on:=4,ground:=.guard} (by simp) rfl
   have v4:=h.val 4 _ (by decide) d4 rfl
   have d5:L 5:=z {on:=5,ground:=.data} (by simp) rfl
   have e7:L 11:=z {on:=11,ground:=.data} (by simp) rfl
   refine wpOp_step (o:=Ey) rfl λK' hK=>?_
   have U:=aj hK
   have Z:=aj h
   have hw:Region.wanted Ey (yielded kU T)=g:=mQ v4 rfl
   cases g with
   |false=>
    rw[yN (by show¬(Region.wanted Ey (yielded kU T)=true);rw[hw];decide)]
    exact U.out _ _ ⟨_,rfl,qA hz Z.out (i:=12) λ_ e=>(by cases e)⟩
   |true=>
    rw[yP (by exact hw)]
    have v5:=h.val 5 _ (by decide) d5 rfl
    have v11:=h.val 11 _ (by decide) e7 rfl
    clear hK h z a1 ho J a2 hlen b0 b1 b3 a6 a7 a8 b2 b4 b5
    clear hw
    go_simp
    exact U.out _ _ ⟨_,rfl,qA hz Z.out (i:=12) λ_ e=>(by injection e with e;exact e.symm)⟩
  ·obtain rfl:JZ=o:=by injection J
   have d4:L 4:=z {on:=4,ground:=.data} (by simp) rfl
   have v4:=h.val 4 _ (by decide) d4 rfl
   have e8:L 12:=z {on:=12,ground:=.data} (by simp) rfl
   cases g with
   |false=>
    have b9:q=false:=by rw[<-hq,hg];rfl
    subst b9
    refine wpOp_step (o:=JZ) rfl λK' hK=>?_
    rw[yP (by rfl)]
    have U:=aj hK
    have Z:=aj h
    clear hK h z a1 ho J a2 hlen b0 b1 b3 a6 a7 a8 b2 b4 b5 hq
    go_simp
    exact U.out _ _ ⟨_,rfl,qA hz Z.out (i:=13) λ_ e=>(by injection e with e;exact e.symm)⟩
   |true=>
    have e9:=h.val 12 _ (by decide) e8 rfl
    have b9:(zo==zp)=q:=by rw[<-hq,hg];rfl
    rw[b9]at e9
    refine wpOp_step (o:=JZ) rfl λK' hK=>?_
    rw[yP (by rfl)]
    have U:=aj hK
    have Z:=aj h
    clear hK h z a1 ho J a2 hlen b0 b1 b3 a6 a7 a8 b2 b4 b5 hq b9
    go_simp
    exact U.out _ _ ⟨_,rfl,qA hz Z.out (i:=13) λ_ e=>(by injection e with e;exact e.symm)⟩
  ·obtain rfl:OG=o:=by injection J
   have f0:L 13:=z {on:=13,ground:=.data} (by simp) rfl
   have i2:=h.val 13 _ (by decide) f0 rfl
   have e4: ¬L 15:=λh'=>b7 (b1 h')
   have c5: ¬L 17:=λh'=>e4 (b0 h')
   obtain rfl:W=w1:=h.p0 b7
   refine wpOp_step (o:=OG) rfl λK' hK=>?_
   rw[yP (by rfl)]
   have U:=aj hK
   have Z:=aj h
   clear hK h z a1 ho J a2 hlen b0 b1 b3 a6 a7 a8 b2 b4 b5
   go_simp
   exact U.out _ _ ⟨_,rfl,aem hz Z.out e4 c5 _ (λv' e=>by injection e with e;exact e.symm)⟩
  ·obtain rfl:Ka=o:=by injection J
   have d1:L 1:=z {on:=1,ground:=.data} (by simp) rfl
   have v1:=h.val 1 _ (by decide) d1 rfl
   have b8:L 14:=z {on:=14,ground:=.data} (by simp) rfl
   have f1:=h.val 14 _ (by decide) b8 rfl
   have c5: ¬L 17:=λh'=>b7 (b0 h')
   obtain rfl:W=w1.alloc (.cells #[.bool q] 4):=h.p1 b8 b7
   obtain⟨l0,f2,f3,f5,f6⟩:=info_parts DF
   have hown:=a2.own
   rw[hlen]at hown
   have i4:B<w1.heap.size:=(zG a2.box).1
   refine wpOp_step (o:=Ka) rfl λK' hK=>?_
   refine step_append_lies _ rfl (.tmp 81) (.tmp 94) 33 rfl (B+1) 4 l0 (.bool false) 1 1 underlying33 f2 f3 f5 f6 rfl (by decide) vE i0 vals (by show T.getD 81 undef=vE;rw[Array.getD_eq_getD_getElem?,v1];rfl) (World.ownsRow.alloc (w:=w1) hown _) ⟨w1.heap.size,0,none⟩ 1 1 [.bool q] (by show T.getD 94 undef=_;rw[Array.getD_eq_getD_getElem?,f1];rfl) rfl (fV w1 _ _) (λu hu=>by simp at hu;subst hu;rfl) (by omega) (by unfold maxLen;omega) (by omega) (by simp;omega) (w1.heap.size+1) (by simp) ?_
   intro g6 c6 w6 c8 b6 g2 g3
   have f7:(w1.alloc (.cells #[.bool q] 4)).grownBy w6 vE.ownBlock:=⟨b6.os,b6.tape,b6.output,b6.size,b6.block⟩
   have hp:=CZ (u:=.bool q) a2 (by rw[hlen];exact c8) f7
   exact hK _ _ ⟨_,rfl,ajh hz h b8 c5 _ (λv' e=>by cases e) hp⟩
  ·obtain rfl:Vh=o:=by injection J
   refine wpOp_step (o:=Vh) rfl λK' hK=>?_
   rw[yP (by rfl)]
   have U:=aj hK
   have Z:=aj h
   clear hK h z a1 ho J a2 hlen b0 b1 b3 a6 a7 a8 b2 b4 b5
   go_simp
   exact U.out _ _ ⟨_,rfl,qA hz Z.out (i:=16) λ_ e=>(by injection e with e;exact e.symm)⟩
  ·obtain rfl:OH=o:=by injection J
   have f8:L 16:=z {on:=16,ground:=.data} (by simp) rfl
   have i5:=h.val 16 _ (by decide) f8 rfl
   have c7:L 15:=z {on:=15,ground:=.data} (by simp) rfl
   have b8:L 14:=b1 c7
   obtain⟨v,u93,f9,c0⟩:=h.p2 c7 b7
   obtain⟨a3,c3,rfl⟩:=nG c0.own
   generalize(vals++[Value.bool q]).length=n3 at u93 c0
   obtain⟨⟨z0,z1,z2,z3⟩,zf⟩:=aC f9
   refine wpOp_step (o:=OH) rfl λK' hK=>?_
   rw[yP (by rfl)]
   have U:=aj hK
   have Z:=aj h
   have g1:=aj c0
   clear hK h z a1 ho J a2 hlen b0 b1 b3 a6 a7 a8 b2 b4 b5 c0
   go_simp
   exact U.out _ _ ⟨_,rfl,aen Z.out b8 c7 ⟨_,g1.out⟩⟩
 ·rintro L ac W e5 ⟨T,rfl,h⟩
  obtain⟨v,hv⟩:=h.p3 (e5 17 (by decide))
  exact hQ T W v h.size h.same (by rw[hq];exact hv)
theorem aeo(hz:100<=T0.size)(hs:T.size=T0.size)(hd: ∀i:Nat,i<80\/96<i->T[i]? =T0[i]?): ∃b8 b9 c0 c3 c4 c5 c6 c7 c8 c9 d0 d1 d2 d3 d4 d5 d6:Value,T=((((((((((((((((T0.setIfInBounds 80 b8).setIfInBounds 81 b9).setIfInBounds 82 c0).setIfInBounds 83 c3).setIfInBounds 84 c4).setIfInBounds 85 c5).setIfInBounds 86 c6).setIfInBounds 87 c7).setIfInBounds 88 c8).setIfInBounds 89 c9).setIfInBounds 90 d0).setIfInBounds 91 d1).setIfInBounds 92 d2).setIfInBounds 93 d3).setIfInBounds 94 d4).setIfInBounds 95 d5).setIfInBounds 96 d6:=by
 have hg: ∀k:Nat,k<100->T[k]? =some (T.getD k undef):=λk hk=>by rw[Array.getD_eq_getD_getElem?,Array.getElem?_eq_getElem (by omega)];rfl
 refine⟨T.getD 80 undef,T.getD 81 undef,T.getD 82 undef,T.getD 83 undef,T.getD 84 undef,T.getD 85 undef,T.getD 86 undef,T.getD 87 undef,T.getD 88 undef,T.getD 89 undef,T.getD 90 undef,T.getD 91 undef,T.getD 92 undef,T.getD 93 undef,T.getD 94 undef,T.getD 95 undef,T.getD 96 undef,Array.ext_getElem? λi=>?_⟩;by_cases z:i=96
 ·subst z;rw[eG _ (by(try simp);omega)];exact hg _ (by decide)
 rw[bg _ (Ne.symm z)];by_cases J:i=95
 ·subst J;rw[eG _ (by(try simp);omega)];exact hg _ (by decide)
 rw[bg _ (Ne.symm J)];by_cases U:i=94
 ·subst U;rw[eG _ (by(try simp);omega)];exact hg _ (by decide)
 rw[bg _ (Ne.symm U)];by_cases Z:i=93
 ·subst Z;rw[eG _ (by(try simp);omega)];exact hg _ (by decide)
 rw[bg _ (Ne.symm Z)];by_cases a1:i=92
 ·subst a1;rw[eG _ (by(try simp);omega)];exact hg _ (by decide)
 rw[bg _ (Ne.symm a1)];by_cases a2:i=91
 ·subst a2;rw[eG _ (by(try simp);omega)];exact hg _ (by decide)
 rw[bg _ (Ne.symm a2)];by_cases a6:i=90
 ·subst a6;rw[eG _ (by(try simp);omega)];exact hg _ (by decide)
 rw[bg _ (Ne.symm a6)];by_cases a7:i=89
 ·subst a7;rw[eG _ (by(try simp);omega)];exact hg _ (by decide)
 rw[bg _ (Ne.symm a7)];by_cases a8:i=88
 ·subst a8;rw[eG _ (by(try simp);omega)];exact hg _ (by decide)
 rw[bg _ (Ne.symm a8)];by_cases b0:i=87
 ·subst b0;rw[eG _ (by(try simp);omega)];exact hg _ (by decide)
 rw[bg _ (Ne.symm b0)];by_cases b1:i=86
 ·subst b1;rw[eG _ (by(try simp);omega)];exact hg _ (by decide)
 rw[bg _ (Ne.symm b1)];by_cases b2:i=85
 ·subst b2;rw[eG _ (by(try simp);omega)];exact hg _ (by decide)
 rw[bg _ (Ne.symm b2)];by_cases b3:i=84
 ·subst b3;rw[eG _ (by(try simp);omega)];exact hg _ (by decide)
 rw[bg _ (Ne.symm b3)];by_cases b4:i=83
 ·subst b4;rw[eG _ (by(try simp);omega)];exact hg _ (by decide)
 rw[bg _ (Ne.symm b4)];by_cases b5:i=82
 ·subst b5;rw[eG _ (by(try simp);omega)];exact hg _ (by decide)
 rw[bg _ (Ne.symm b5)];by_cases b6:i=81
 ·subst b6;rw[eG _ (by(try simp);omega)];exact hg _ (by decide)
 rw[bg _ (Ne.symm b6)];by_cases b7:i=80
 ·subst b7;rw[eG _ (by(try simp);omega)];exact hg _ (by decide)
 rw[bg _ (Ne.symm b7)];exact hd i (by omega)
abbrev Bv(b:Int)(a:zO)(n cap:Nat)(z:zO)(J U:Nat):Obj:=.cells #[.int .i64 b,.slice a n cap,.slice z J U] 71
abbrev XY:Obj:=.cells #[.int .i64 0,.int .i64 0,.slice none 0 0,.slice none 0 0] 35
def ahW(w:zW)(b J:Int)(LN:zL)(U:zB)(z:Nat)(e:Ending)(w':zW):Prop:=(z<=80->dB w b J LN U 0 e w')/\(80<z->dB w 0 0 [] [] 3 e w')
theorem RQ(f:FuncId)(cs:Array Value)(u v:Nat->Nat)(tt:Int)(z:Nat)(b:Int)(a:zO)(n cap:Nat)(ao:zO)(no co:Nat)(N:zL)(O:zI)(a2:zO)(n2 Z:Nat)(a6:zO)(a7 b4:Nat)(N2:zL)(O2:zI)(w:zW)(hs:gT w a n N)(ho:Sl w ao no O)(g9:gT w a2 n2 N2)(i1:Sl w a6 a7 O2)(hC:dJ b N O=0)(e5:dJ b N2 O2=0)(l3: ∀(args:Array Value) (W:zW),(callFunc f args).run prog W=.ok (.enter f args) W)(hF: ∀(W:zW) (l:Nat),Below w.heap.size w W->l<z->Calls prog f (#[.int .i64 (l:Int)]++cs) W (λe W'=>e=.returned (.tuple #[.int .i64 ((u l:Nat):Int),.int .i64 ((v l:Nat):Int)])/\Below W.heap.size W W'))(hM:aU b tt=0)(i2:aD b tt=(z:Int))(hu: ∀l,l<z->u l<(au b).toNat)(hv: ∀l,l<z->v l<(au b).toNat)(c7: ∀i,∀s∈aM (pK u v (dV b N) (dV b N2)) z 128 i,0<=gu s/\gu s<((dV b N).length:Int)/\0<=iP s/\iP s<((dV b N2).length:Int)/\s<4096)(b9:aK z (gN (pK u v (dV b N) (dV b N2)) z (aM (pK u v (dV b N) (dV b N2)) z 128 eZ)).length (gN (pK u v (dV b N) (dV b N2)) z (aM (pK u v (dV b N) (dV b N2)) z 128 eZ)))(l4:(gN (pK u v (dV b N) (dV b N2)) z (aM (pK u v (dV b N) (dV b N2)) z 128 eZ)).length<=4096):
  Calls prog 90 #[.agg #[.int .i64 b,.slice a n cap,.slice ao no co],.agg #[.int .i64 b,.slice a2 n2 Z,.slice a6 a7 b4],.int .i64 tt,fnV f cs] w (ahW w b tt (aV (gN (pK u v (dV b N) (dV b N2)) z (aM (pK u v (dV b N) (dV b N2)) z 128 eZ)) (gE (mP (nI b N O) (nI b N2 O2)) (aM (pK u v (dV b N) (dV b N2)) z 128 eZ)) z) (aY (gN (pK u v (dV b N) (dV b N2)) z (aM (pK u v (dV b N) (dV b N2)) z 128 eZ)) (gE (mP (nI b N O) (nI b N2 O2)) (aM (pK u v (dV b N) (dV b N2)) z 128 eZ)) z) (bE (gN (pK u v (dV b N) (dV b N2)) z (aM (pK u v (dV b N) (dV b N2)) z 128 eZ)) (gE (mP (nI b N O) (nI b N2 O2)) (aM (pK u v (dV b N) (dV b N2)) z 128 eZ)) z)):=by
 have J:=yD w (Bv b a n cap ao no co) (Bv b a2 n2 Z a6 a7 b4) (.cells #[fnV f cs] 135) XY
 have i4:=aj J
 obtain⟨l5,l6,l7,l8⟩:=Od w (Bv b a n cap ao no co) (Bv b a2 n2 Z a6 a7 b4) (.cells #[fnV f cs] 135) XY zb
 have i5:=aj l7
 have a8:=aj l5
 have b5:=aj l6
 have e6:=aj l8
 generalize s2:(((w.alloc (Bv b a n cap ao no co)).alloc (Bv b a2 n2 Z a6 a7 b4)).alloc (.cells #[fnV f cs] 135)).alloc XY=wb at J i4 i5 a8 b5 e6
 clear l7 l5 l6 l8
 have c9:=aj (iB b a n cap ao no co N O wb (aG hs J) (aF ho J))
 have d0:=aj (λW (h:Below wb.heap.size wb W)=>iB b a2 n2 Z a6 a7 b4 N2 O2 W (aG (aG g9 J) h) (aF (aF i1 J) h))
 have i6:Hid (w.heap.size+3<wb.heap.size):=(zG e6.out).1
 obtain⟨⟨p0,p1,p2⟩,-⟩:=aJ a8.out
 unfold lH at c9 d0
 rw[hC,cB]at c9
 rw[e5,cB]at d0
 obtain⟨h1,h2,-⟩:=cK hC
 obtain⟨k1,k2,k3⟩:=eY h1 h2
 obtain⟨hG,i7,-⟩:=qh hC
 obtain⟨l9,e7,-⟩:=qh e5
 have e8:=aj (λW=>lU b tt W)
 rw[hM,cB,i2]at e8
 have i8:=aj (λW (h:Below wb.heap.size wb W)=>rP b a n cap ao no co N O W (aG (aG hs J) h) (aF (aF ho J) h) hC)
 have i9:=aj (λW (h:Below wb.heap.size wb W)=>rP b a2 n2 Z a6 a7 b4 N2 O2 W (aG (aG g9 J) h) (aF (aF i1 J) h) e5)
 unfold lH at i8 i9
 have s3:(b==b)=true:=by simp
 have s4:z<=36:=b9.2.2.2.1
 have s5:1<=z:=b9.2.2.2.2.1
 have e9:Hid (∀(W:zW) (X K2 Y:Nat) (aN:zO) (cN:Nat) (aO:zO) (cO:Nat) (nT:zO) (pQ:Nat) (oI:zO) (oM:Nat),Below wb.heap.size wb W->W.heap[X]? =some (.cells #[.int .i64 b,.slice aN (tQ b N).length cN,.slice aO (tQ b N).length cO] 71)->W.heap[K2]? =some (.cells #[fnV f cs] 135)->W.heap[Y]? =some (.cells #[.int .i64 b,.slice nT (tQ b N2).length pQ,.slice oI (tQ b N2).length oM] 71)->gT W aN (tQ b N).length (dV b N)->gT W nT (tQ b N2).length (dV b N2)->Calls prog 84 #[.agg #[.int .i64 0,.int .i64 0],.int .i64 (z:Int),.func (.func 112) #[] #[.pointer (some ⟨K2,0,none⟩),.pointer (some ⟨X,0,none⟩),.pointer (some ⟨Y,0,none⟩)]] W (XM W (aM (pK u v (dV b N) (dV b N2)) z 128 eZ) (gN (pK u v (dV b N) (dV b N2)) z (aM (pK u v (dV b N) (dV b N2)) z 128 eZ)))):=λW X K2 Y aN cN aO cO nT pQ oI oM g0 g1 g2 g3 g4 g5=>by have s8:Bf 128=.agg #[.int .i64 0,.int .i64 0]:=rfl;have h:=Ry 112 #[.pointer (some ⟨K2,0,none⟩),.pointer (some ⟨X,0,none⟩),.pointer (some ⟨Y,0,none⟩)] z 128 (pK u v (dV b N) (dV b N2)) W (by decide) s5 s4 (enters_of func112 (by kernel_rfl) rfl) (λi x hx=>(c7 i x hx).2.2.2.2) (λW' s l i hW j0 hl=>by have hm:=c7 i s j0;have n0:=hG;have j1:=l9;rw[nJ]at n0 hm;rw[nJ]at j1 hm;exact Oz f cs u v b aN (tQ b N).length cN aO (tQ b N).length cO b nT (tQ b N2).length pQ oI (tQ b N2).length oM (dV b N) (dV b N2) (au b).toNat K2 X Y s l W' l3 (λW2 s9=>hF W2 l (ak J (ak g0 (ak hW s9))) hl) ((hW.block _ (zG g2).1).trans g2) ((hW.block _ (zG g1).1).trans g1) ((hW.block _ (zG g3).1).trans g3) (aG g4 hW) (aG g5 hW) n0 j1 (by rw[<-nJ];exact i7) (by rw[<-nJ];exact e7) ⟨hm.1,hm.2.1⟩ ⟨hm.2.2.1,hm.2.2.2.1⟩ (hu l hl) (hv l hl));rw[s8]at h;exact h
 have c4:Hid ((gN (pK u v (dV b N) (dV b N2)) z (aM (pK u v (dV b N) (dV b N2)) z 128 eZ)).length=(aM (pK u v (dV b N) (dV b N2)) z 128 eZ).length):=kQ _ _ _
 have n3:Hid (∀s,s∈aM (pK u v (dV b N) (dV b N2)) z 128 eZ->(0<=gu s/\gu s<((tQ b N).length:Int))/\0<=iP s/\iP s<((tQ b N2).length:Int)):=λs j0=>by have hm:=c7 _ _ j0;rw[nJ,nJ]at hm;exact⟨⟨hm.1,hm.2.1⟩,hm.2.2.1,hm.2.2.2.1⟩
 have b6:Hid ((gE (mP (nI b N O) (nI b N2 O2)) (aM (pK u v (dV b N) (dV b N2)) z 128 eZ)).length=(aM (pK u v (dV b N) (dV b N2)) z 128 eZ).length):=Nn _ _
 have n4:Hid (∀i,i<(aM (pK u v (dV b N) (dV b N2)) z 128 eZ).length->(gE (mP (nI b N O) (nI b N2 O2)) (aM (pK u v (dV b N) (dV b N2)) z 128 eZ)).take (i+1)=(gE (mP (nI b N O) (nI b N2 O2)) (aM (pK u v (dV b N) (dV b N2)) z 128 eZ)).take i++[mP (nI b N O) (nI b N2 O2) ((aM (pK u v (dV b N) (dV b N2)) z 128 eZ).getD i 0)]):=λi hi=>by have e:(gE (mP (nI b N O) (nI b N2 O2)) (aM (pK u v (dV b N) (dV b N2)) z 128 eZ)).getD i false=mP (nI b N O) (nI b N2 O2) ((aM (pK u v (dV b N) (dV b N2)) z 128 eZ).getD i 0):=TF hi;rw[<-e];exact XU _ _ false (by rw[Nn];exact hi)
 have n5:Hid (∀s,mP (nI b N O) (nI b N2 O2) s=(decide ((nI b N O).getD (gu s).toNat 0≠ -1)&&decide ((nI b N O).getD (gu s).toNat 0=(nI b N2 O2).getD (iP s).toNat 0))):=λs=>rfl
 have x9:(aM (pK u v (dV b N) (dV b N2)) z 128 eZ).length<=4096:=by rw[<-c4.out];exact l4
 have f3:=aj (λaN cN aE cE W (q1:gT W aN (gN (pK u v (dV b N) (dV b N2)) z (aM (pK u v (dV b N) (dV b N2)) z 128 eZ)).length (gN (pK u v (dV b N) (dV b N2)) z (aM (pK u v (dV b N) (dV b N2)) z 128 eZ))) (q2:mR W aE (gN (pK u v (dV b N) (dV b N2)) z (aM (pK u v (dV b N) (dV b N2)) z 128 eZ)).length (gE (mP (nI b N O) (nI b N2 O2)) (aM (pK u v (dV b N) (dV b N2)) z 128 eZ)))=>rF b tt aN (gN (pK u v (dV b N) (dV b N2)) z (aM (pK u v (dV b N) (dV b N2)) z 128 eZ)).length cN _ (gN (pK u v (dV b N) (dV b N2)) z (aM (pK u v (dV b N) (dV b N2)) z 128 eZ)) aE cE (gE (mP (nI b N O) (nI b N2 O2)) (aM (pK u v (dV b N) (dV b N2)) z 128 eZ)) W q1 q2 b9 (qR hM (by rw[i2,Int.toNat_natCast];exact b9) (by have:=b9.2.2.1;omega)))
 unfold rE jX at f3
 unfold XM at e9
 clear hs ho g9 i1 hC e5 hF l3 h1 h2 hM hG l9 b9 i2 i7 e7 l4 J k1 k2 k3 c7 hu hv
 generalize gN (pK u v (dV b N) (dV b N2)) z (aM (pK u v (dV b N) (dV b N2)) z 128 eZ)=NW at*
 generalize gE (mP (nI b N O) (nI b N2 O2)) (aM (pK u v (dV b N) (dV b N2)) z 128 eZ)=EW at*
 generalize aV NW EW z=LN at*
 generalize aY NW EW z=LE at*
 generalize bE NW EW z=LK at*
 generalize aM (pK u v (dV b N) (dV b N2)) z 128 eZ=LW at*
 generalize dV b N=RN at*
 generalize nI b N O=RO at*
 generalize dV b N2=Af at*
 generalize nI b N2 O2=zP at*
 generalize(tQ b N).length=n1 at*
 generalize(tQ b N2).length=m1 at*
 go_enter func90,ntmps90
 go_wp2_with fail
 clear s2 p0 p1 p2
 refine c9.out.mono ?_
 rintro e w1 ⟨rfl,d5⟩
 obtain⟨⟨p0,p1,p2⟩,-⟩:=aJ ((d5.block _ (zG b5.out).1).trans b5.out)
 have j2:=aj d5
 clear d5
 go_wp2_with fail
 clear p0 p1 p2
 refine(d0.out w1 j2.out).mono ?_
 rintro e w2 ⟨rfl,j3⟩
 have b7:=aj (ak j2.out j3)
 clear j3 j2
 obtain⟨⟨p0,p1,p2⟩,-⟩:=aJ ((b7.out.block _ (zG a8.out).1).trans a8.out)
 obtain⟨⟨q0,q1,q2⟩,-⟩:=aJ ((b7.out.block _ (zG b5.out).1).trans b5.out)
 go_wp2_with (go_at_call 19;refine(e8.out _).mono ?_;rintro e w' ⟨rfl,n6⟩;rw[n6];clear n6 w')
 have j4:Hid (∀W,Below w2.heap.size w2 W->(W.cell? ⟨w.heap.size,0,none⟩=some (.int .i64 b)/\W.cell? ⟨w.heap.size,1,none⟩=some (.slice a n cap)/\W.cell? ⟨w.heap.size,2,none⟩=some (.slice ao no co)/\W.cell? ⟨w.heap.size+1,0,none⟩=some (.int .i64 b)/\W.cell? ⟨w.heap.size+1,1,none⟩=some (.slice a2 n2 Z)/\W.cell? ⟨w.heap.size+1,2,none⟩=some (.slice a6 a7 b4))):=λW h=>by obtain⟨⟨e0,e1,e2⟩,-⟩:=aJ (((ak b7.out h).block _ (zG a8.out).1).trans a8.out);obtain⟨⟨f0,f1,f2⟩,-⟩:=aJ (((ak b7.out h).block _ (zG b5.out).1).trans b5.out);exact⟨e0,e1,e2,f0,f1,f2⟩
 have t2:=aj (Below.refl w2.heap.size w2)
 go_cut[14,15] (λt6 t7 wx=> ∃X Y aN cN aO cO nT pQ oI oM,t6=.pointer (some ⟨X,0,none⟩)/\t7=.pointer (some ⟨Y,0,none⟩)/\Vg b n1 RN RO m1 Af zP X Y aN cN aO cO nT pQ oI oM wx/\Below w2.heap.size w2 wx)
 case first=>
  clear e8 c9 d0 s3 e9 c4 n3 b6 n4 n5 f3
  refine RD (p1:=w.heap.size) (p2:=w.heap.size+1) (show 100<=102 by decide) rfl rfl j4.out (λW h=>i8.out W (ak b7.out h)) (λW h=>i9.out W (ak b7.out h)) ?_
  intro X Y aN cN aO cO nT pQ oI oM W c5 n7
  simp only[List.setIfInBounds_toArray,List.set_cons_zero,List.set_cons_succ]
  have r6:=aj c5
  have r7:=aj n7
  clear c5 n7
  go_wp2_with fail
  go_meet
  case rel=>exact⟨X,Y,aN,cN,aO,cO,nT,pQ,oI,oM,rfl,rfl,r6.out,r7.out⟩
 case rest=>
  obtain⟨X,Y,aN,cN,aO,cO,nT,pQ,oI,oM,rfl,rfl,c5,f5⟩:=hcut
  obtain⟨w5,n8⟩: ∃w5:zW,w5=wc:=⟨_,rfl⟩
  rw[<-n8]at c5 f5⊢
  have n9:=aj c5
  have f6:=aj (ak b7.out f5)
  obtain⟨p0,p1,p2,-⟩:=j4.out w5 f5
  clear n8 c5 f5 wc j4 t2
  clear p0 p1 p2
  obtain⟨g1,g2,g3,g4,g5,g6⟩:=n9.out
  have f7:=aj g1
  have f8:=aj g2
  have j5:=aj g4
  have j6:=aj g6
  have o0:=aj (e9.out w5 X (w.heap.size+2) Y aN cN aO cO nT pQ oI oM f6.out f7.out ((f6.out.block _ (zG i5.out).1).trans i5.out) f8.out g3 g5)
  have o3:=aj f6.out
  clear g1 g2 g3 g4 g5 g6 n9 f6 e9 e8 c9 d0 i8 i9
  go_wp2_with fail
  refine o0.out.mono ?_
  rintro e w7 ⟨gq,cq,aW,cW,rfl,j7,c6⟩
  obtain⟨o4,j8⟩:=j7 w7 (λ_ _ _=>rfl)
  rw[c4.out]at j8⊢
  have o5:=aj o4
  have o6:=aj j8
  have o7:=aj (ak o3.out c6)
  have o8:=aj ((c6.block _ (zG f7.out).1).trans f7.out)
  have o9:=aj ((c6.block _ (zG f8.out).1).trans f8.out)
  have t8:=aj (aF j5.out c6)
  have r8:=aj (aF j6.out c6)
  obtain⟨⟨p0,p1,p2⟩,-⟩:=aJ ((o7.out.block _ (zG a8.out).1).trans a8.out)
  clear j7 o4 j8 c6 o0 o3 f7 f8 j5 j6
  have d6:Hid (Bg w7 w7.heap.size 3 (λv=>.cells #[.int .i64 b,.int .i64 tt,.slice aW LW.length cW,v] 35) 4 [] (.slice none 0 0) (w7.alloc (.cells #[.int .i64 b,.int .i64 tt,.slice aW LW.length cW,.slice none 0 0] 35))):=⟨zl _ _,World.ownsRow_nil _ _ _ _,zb.alloc zr _,zr,aj7 _ _ _ _ _⟩
  go_wp2
  clear p0 p1 p2
  generalize w7.alloc (.cells #[.int .i64 b,.int .i64 tt,.slice aW LW.length cW,.slice none 0 0] 35)=w8 at d6⊢
  obtain⟨l0,y3,y4,y5,y6⟩:=info_parts DF
  go_loopw[70] (λiv wx=> ∃(i:Nat) (vE:Value),i<=LW.length/\iv=.int .i64 i/\Bg w7 w7.heap.size 3 (λv=>.cells #[.int .i64 b,.int .i64 tt,.slice aW LW.length cW,v] 35) 4 ((EW.take i).map Value.bool) vE wx) (λiv _=>LW.length-(intOf iv).toNat)
  case atStart=>exact⟨0,.slice none 0 0,by omega,rfl,d6.out⟩
  case round=>
   obtain⟨i,vE,hi,rfl,d7⟩:=hrel
   have d1:=aj d7
   have j9:Hid (((EW.take i).map Value.bool).length=i):=by show _=_;rw[List.length_map,List.length_take,b6.out];omega
   have d2:=aj d7.bel
   clear d7 d6
   by_cases k0:i<LW.length
   ·have r9:(i:Int)<(LW.length:Int):=by omega
    obtain⟨c0,c1⟩:=Ot (oG o5.out (d2.out.block _ (sZ o5.out))) i k0
    have k4:=n3.out _ (jO k0)
    have c8:=aj (n4.out i k0)
    have U:=aj (n5.out (LW.getD i 0))
    generalize LW.getD i 0=s at c0 c1 k4 c8 U
    obtain⟨A,hA⟩: ∃A:Nat,gu s=(A:Int):=⟨(gu s).toNat,by omega⟩
    obtain⟨D,hD⟩: ∃D:Nat,iP s=(D:Int):=⟨(iP s).toNat,by omega⟩
    rw[hA,hD]at k4
    rw[hA]at c0 U
    rw[hD]at c1 U
    rw[Int.toNat_natCast,Int.toNat_natCast]at U
    clear hA hD
    have f9:=aj ((Below.refl wr.heap.size wr).alloc zr (.cells #[.int .i64 (A:Int),.int .i64 (D:Int)] 129))
    have g7:=aj (zl wr (.cells #[.int .i64 (A:Int),.int .i64 (D:Int)] 129))
    go_upto_region 18 with fail
    clear c0 c1
    obtain⟨wp,p4⟩: ∃wp,wr.alloc (.cells #[.int .i64 (A:Int),.int .i64 (D:Int)] 129)=wp:=⟨_,rfl⟩
    rw[p4]at f9 g7⊢
    clear p4
    obtain⟨X7,p5⟩: ∃X,X=wr.heap.size:=⟨_,rfl⟩
    rw[<-p5]at g7⊢
    clear p5
    have p6:=aj (zN d1.out f9.out)
    have b8:=aj (ak d2.out f9.out)
    obtain⟨⟨t0,t1⟩,-⟩:=bL g7.out
    obtain⟨⟨x0,x1,x2⟩,-⟩:=aJ ((b8.out.block _ (zG o8.out).1).trans o8.out)
    obtain⟨⟨y0,y1,y2⟩,-⟩:=aJ ((b8.out.block _ (zG o9.out).1).trans o9.out)
    obtain⟨bo,oo,p7,p8⟩:=bH (aF t8.out b8.out) A (by omega)
    obtain⟨v6,v7,k5,d8⟩:=bH (aF r8.out b8.out) D (by omega)
    rw[p7]at x2
    rw[k5]at y2
    have y7:(A:Int)<(n1:Int):=by omega
    have v8:(D:Int)<(m1:Int):=by omega
    clear p7 k5 f9 g7 d1 d2 k4
    generalize x3:RO.getD A 0=zo at p8 U
    generalize x4:zP.getD D 0=zp at d8 U
    clear x3 x4
    go_upto_region 19 with fail
    have p9:Hid (mP RO zP s=((zo != -1)&&(zo==zp))):=by show _=_;rw[U.out];have h1:decide (zo≠ -1)=(zo != -1):=(by by_cases h:zo= -1<;>simp[h]);rw[h1];rfl
    rw[p9.out]at c8
    clear p9 U
    refine aah (B:=w7.heap.size) (Y:=Y) (X:=X7) (bo:=v6) (oo:=v7) (D:=D) (m:=m1) (cO:=oM) (zo:=zo) (zp:=zp) (i0:=i) (show 100<=102 by decide) rfl rfl rfl rfl p6.out j9.out (by omega) t1 y2 d8 v8 ?_
    intro T9 w9 v9 q3 q4 q5
    obtain⟨y8,y9,z6,z7,z8,A0,A1,A2,A3,A4,A5,A6,A7,A8,A9,B0,B1,q6⟩:=aeo (by exact(show 100<=102 by decide)) q3 q4
    rw[q6]
    have q7:=aj q5
    clear q6 q3 q4 q5 t0 t1 x0 x1 x2 y0 y1 y2 p8 d8 p6 b8
    simp only[List.setIfInBounds_toArray,List.set_cons_zero,List.set_cons_succ]
    generalize((zo != -1)&&(zo==zp))=q9 at q7 c8
    go_wp2
    go_roundw
    case rel=>exact⟨i+1,_,by omega,by go_num,by rw[c8.out,List.map_append];exact q7.out⟩
    case measure=>simp[intOf];omega
   ·have r9: ¬(i:Int)<(LW.length:Int):=by omega
    obtain rfl:i=LW.length:=by omega
    have g8:EW.take LW.length=EW:=List.take_of_length_le (by rw[b6.out];exact zr)
    have hown:=d1.out.own
    rw[j9.out,g8]at hown
    obtain⟨aE,cE,rfl,k6⟩:=JV (bs:=EW) (by rw[b6.out];exact hown) (by rw[b6.out];unfold maxLen;omega)
    rw[b6.out]at k6
    have q8:=aj (f3.out aW cW aE cE wr (by rw[c4.out];exact aG o6.out d2.out) (by rw[c4.out];exact k6))
    rw[c4.out]at q8
    have k7:=d1.out.box
    rw[b6.out]at k7
    obtain⟨⟨b0,b1,b2,b3⟩,-⟩:=aC k7
    have d9:=aj (ak o7.out d2.out)
    clear hown k6 g8 d1 k7 f3 o6
    go_wp2_with fail
    clear b0 b1 b2 b3
    refine q8.out.mono ?_
    rintro e x5 ⟨k8,k9⟩
    by_cases hK:LK<=80
    ·obtain⟨a1,c1,a3,c3,rfl,r4,d3⟩:=k8 hK
     have d4:=aj (ak d9.out d3)
     have hr:=(d4.out.block (w.heap.size+3) i6.out).trans e6.out
     obtain⟨⟨r0,r1,r2,r3⟩,rf⟩:=aC hr
     have HR:=aj hr
     have x6:=aj r4
     have s0:Hid (w.heap.size+3<wr.heap.size):=by have h1:=d9.out.size;have h2:=i6.out;show _<_;omega
     clear hr r4 d3 k8 k9
     go_wp2
     obtain⟨⟨e3,r5,l1⟩,e4⟩:=eO (v0:=.int .i64 b) (v1:=.int .i64 tt) (v2:=.slice a1 LN.length c1) (v3:=.slice a3 LN.length c3) HR.out rfl
     have s1:dS w a1 LN.length LN a3 LE ((((x5.setCell ⟨w.heap.size+3,0,none⟩ (.int .i64 b)).setCell ⟨w.heap.size+3,1,none⟩ (.int .i64 tt)).setCell ⟨w.heap.size+3,2,none⟩ (.slice a1 LN.length c1)).setCell ⟨w.heap.size+3,3,none⟩ (.slice a3 LN.length c3)):=λW' x7=>x6.out W' (λx hx x8=>by have h1:=s0.out;rw[x7 x (by omega) (by rw[r5];exact x8),l1 x (by omega)])
     have hb:=e4 w w.heap.size (ak i4.out d4.out) (by omega)
     obtain⟨⟨z0,z1,z2,z3⟩,-⟩:=aC e3
     exact bodyPost_ret (v:=.tuple #[.agg #[.int .i64 b,.int .i64 tt,.slice a1 LN.length c1,.slice a3 LN.length c3],.nilIface]) (by simp[results,results90,go_sem,z0,z1,z2,z3]) rfl ⟨λ_=>⟨a1,c1,a3,c3,rfl,s1,hb⟩,λh=>by omega⟩
    ·obtain⟨rfl,d3⟩:=k9 (by omega)
     have d4:=aj (ak d9.out d3)
     have hr:=(d4.out.block (w.heap.size+3) i6.out).trans e6.out
     obtain⟨⟨r0,r1,r2,r3⟩,rf⟩:=aC hr
     have HR:=aj hr
     clear hr d3 k8 k9
     go_wp2
     obtain⟨⟨e3,r5,l1⟩,e4⟩:=eF HR.out rfl
     have hb:=e4 w w.heap.size (ak i4.out d4.out) (by omega)
     obtain⟨⟨z0,z1,z2,z3⟩,-⟩:=aC e3
     exact bodyPost_ret (v:=.tuple #[.agg #[.int .i64 0,.int .i64 0,.slice none 0 0,.slice none 0 0],.iface 45 (.int .i64 3)]) (by simp[results,results90,go_sem,z0,z1,z2,z3]) rfl ⟨λh=>by omega,λ_=>⟨none,0,none,0,rfl,dD _ _,hb⟩⟩
theorem MJ(f:FuncId)(cs:Array Value)(tt:Int)(b:Int)(a:zO)(n cap:Nat)(ao:zO)(no co:Nat)(N:zL)(O:zI)(U:Int)(a2:zO)(n2 a6:Nat)(b5:zO)(b6 b8:Nat)(N2:zL)(O2:zI)(w:zW)(hs:gT w a n N)(ho:Sl w ao no O)(c3:gT w a2 n2 N2)(c4:Sl w b5 b6 O2)(c5:Ab b N O U N2 O2≠0):
  Calls prog 90 #[.agg #[.int .i64 b,.slice a n cap,.slice ao no co],.agg #[.int .i64 U,.slice a2 n2 a6,.slice b5 b6 b8],.int .i64 tt,fnV f cs] w (dB w 0 0 [] [] (Ab b N O U N2 O2)):=by
 have Z:=yD w (Bv b a n cap ao no co) (Bv U a2 n2 a6 b5 b6 b8) (.cells #[fnV f cs] 135) XY
 have c6:=aj Z
 obtain⟨d1,d2,-,d3⟩:=Od w (Bv b a n cap ao no co) (Bv U a2 n2 a6 b5 b6 b8) (.cells #[fnV f cs] 135) XY zb
 have c7:=aj d1
 have a7:=aj d2
 have b9:=aj d3
 generalize c8:(((w.alloc (Bv b a n cap ao no co)).alloc (Bv U a2 n2 a6 b5 b6 b8)).alloc (.cells #[fnV f cs] 135)).alloc XY=wb at Z c6 c7 a7 b9
 clear d1 d2 d3
 have a8:=aj (iB b a n cap ao no co N O wb (aG hs Z) (aF ho Z))
 have b7:=aj (λW (h:Below wb.heap.size wb W)=>iB U a2 n2 a6 b5 b6 b8 N2 O2 W (aG (aG c3 Z) h) (aF (aF c4 Z) h))
 have c9:Hid (w.heap.size+3<wb.heap.size):=(zG b9.out).1
 obtain⟨⟨p0,p1,p2⟩,-⟩:=aJ c7.out
 unfold lH at a8 b7
 by_cases hC:dJ b N O=0
 ·rw[hC,cB]at a8
  by_cases a1:dJ U N2 O2=0
  ·rw[a1,cB]at b7
   have d0: ¬b=U:=λe=>c5 (by unfold Ab;rw[yP hC,yP a1,yP e])
   have hF:Ab b N O U N2 O2=2:=by unfold Ab;rw[yP hC,yP a1,yN d0]
   rw[hF]
   have d4:(b==U)=false:=by simpa using d0
   clear hs ho c3 c4 Z hF c5 d0 hC a1
   go_enter func90,ntmps90
   go_wp2_with fail
   clear c8 p0 p1 p2
   refine a8.out.mono ?_
   rintro e w1 ⟨rfl,z⟩
   obtain⟨⟨p0,p1,p2⟩,-⟩:=aJ ((z.block _ (zG a7.out).1).trans a7.out)
   have b0:=aj z
   clear z
   go_wp2_with fail
   clear p0 p1 p2
   refine(b7.out w1 b0.out).mono ?_
   rintro e w2 ⟨rfl,b1⟩
   have J:=aj (ak b0.out b1)
   obtain⟨⟨p0,p1,p2⟩,-⟩:=aJ ((J.out.block _ (zG c7.out).1).trans c7.out)
   obtain⟨⟨q0,q1,q2⟩,-⟩:=aJ ((J.out.block _ (zG a7.out).1).trans a7.out)
   have hr:=(J.out.block (w.heap.size+3) c9.out).trans b9.out
   obtain⟨⟨r0,r1,r2,r3⟩,rf⟩:=aC hr
   have HR:=aj hr
   clear b1 b0 hr
   go_wp2
   obtain⟨⟨b3,-,-⟩,b4⟩:=eF HR.out rfl
   have hb:=b4 w w.heap.size (ak c6.out J.out) (by omega)
   obtain⟨⟨z0,z1,z2,z3⟩,-⟩:=aC b3
   exact bodyPost_ret (v:=.tuple #[.agg #[.int .i64 0,.int .i64 0,.slice none 0 0,.slice none 0 0],.iface 45 (.int .i64 2)]) (by simp[results,results90,go_sem,z0,z1,z2,z3]) rfl ⟨none,0,none,0,by rw[dx (by decide)];rfl,dD _ _,hb⟩
  ·have hF:Ab b N O U N2 O2=dJ U N2 O2:=by unfold Ab;rw[yP hC,yN a1]
   rw[hF]
   clear hs ho c3 c4 Z hF c5
   have c0:=aj (dx a1)
   rw[dx a1]at b7
   clear hC a1
   generalize dJ U N2 O2=c at b7 c0⊢
   go_enter func90,ntmps90
   go_wp2_with fail
   clear c8 p0 p1 p2
   refine a8.out.mono ?_
   rintro e w1 ⟨rfl,z⟩
   obtain⟨⟨p0,p1,p2⟩,-⟩:=aJ ((z.block _ (zG a7.out).1).trans a7.out)
   have b0:=aj z
   clear z
   go_wp2_with fail
   clear p0 p1 p2
   refine(b7.out w1 b0.out).mono ?_
   rintro e w2 ⟨rfl,b1⟩
   have J:=aj (ak b0.out b1)
   have hr:=(J.out.block (w.heap.size+3) c9.out).trans b9.out
   obtain⟨⟨r0,r1,r2,r3⟩,rf⟩:=aC hr
   have HR:=aj hr
   clear b1 b0 hr
   go_wp2
   obtain⟨⟨b3,-,-⟩,b4⟩:=eF HR.out rfl
   have hb:=b4 w w.heap.size (ak c6.out J.out) (by omega)
   obtain⟨⟨z0,z1,z2,z3⟩,-⟩:=aC b3
   exact bodyPost_ret (v:=.tuple #[.agg #[.int .i64 0,.int .i64 0,.slice none 0 0,.slice none 0 0],.iface 45 (.int .i64 c)]) (by simp[results,results90,go_sem,z0,z1,z2,z3]) rfl ⟨none,0,none,0,by rw[c0.out];rfl,dD _ _,hb⟩
 ·have hF:Ab b N O U N2 O2=dJ b N O:=by unfold Ab;rw[yN hC]
  rw[hF]
  clear hs ho c3 c4 Z hF c5
  have c0:=aj (dx hC)
  rw[dx hC]at a8
  clear hC
  generalize dJ b N O=c at a8 c0⊢
  go_enter func90,ntmps90
  go_wp2_with fail
  clear c8 p0 p1 p2
  refine a8.out.mono ?_
  rintro e w1 ⟨rfl,z⟩
  have J:=aj z
  have hr:=(J.out.block (w.heap.size+3) c9.out).trans b9.out
  obtain⟨⟨r0,r1,r2,r3⟩,rf⟩:=aC hr
  have HR:=aj hr
  clear z hr
  go_wp2
  obtain⟨⟨b3,-,-⟩,b4⟩:=eF HR.out rfl
  have hb:=b4 w w.heap.size (ak c6.out J.out) (by omega)
  obtain⟨⟨z0,z1,z2,z3⟩,-⟩:=aC b3
  exact bodyPost_ret (v:=.tuple #[.agg #[.int .i64 0,.int .i64 0,.slice none 0 0,.slice none 0 0],.iface 45 (.int .i64 c)]) (by simp[results,results90,go_sem,z0,z1,z2,z3]) rfl ⟨none,0,none,0,by rw[c0.out];rfl,dD _ _,hb⟩
theorem aai(k l B:Nat)(w:zW)(hk:1<=k)(hl:l<1296)(hx:w.heap[B]? =some (.cells #[.int .i64 (k:Int)] 3)):Calls prog 92 #[.int .i64 (l:Int),.pointer (some ⟨B,0,none⟩)] w λe w'=>e=.returned (.tuple #[.int .i64 ((l/k:Nat):Int),.int .i64 ((l%k:Nat):Int)])/\Below w.heap.size w w':=by
 have t0:=JX hx;have a1:((k:Int)==0)=false:=by simp;omega
 have z:(l:Int).tdiv (k:Int)=((l/k:Nat):Int):=by rw[Int.tdiv_eq_ediv_of_nonneg (by omega)];exact(Int.natCast_ediv l k).symm
 have U:(l:Int).tmod (k:Int)=((l%k:Nat):Int):=by rw[Int.tmod_eq_emod_of_nonneg (by omega)];exact(Int.natCast_emod l k).symm
 have J:l/k<=l:=Nat.div_le_self _ _;have HB:=aj (Below.refl w.heap.size w);generalize l/k=D at z J⊢;generalize l%k=E at U⊢;have Z:IntKind.i64.wrap (D:Int)=(D:Int):=vQ (by omega) (by omega);have a2:IntKind.i64.wrap ((l:Int).tdiv (k:Int))=(D:Int):=by rw[z];exact Z
 clear hx J;go_enter func92,ntmps92;go_wp2;go_quiet (fail);go_wp2;go_ret2;exact⟨rfl,below_drewN HB.out _⟩
theorem Vi(l:Nat)(w:zW):Calls prog 91 #[.int .i64 (l:Int)] w λe w'=>e=.returned (.tuple #[.int .i64 (l:Int),.int .i64 (l:Int)])/\Below w.heap.size w w':=by go_enter func91,ntmps91;go_wp2;go_ret2;exact⟨rfl,zb⟩
def zQ:Prop:= ∀(b:Int) (a:zO) (n cap:Nat) (ao:zO) (no co:Nat) (N:zL) (O:zI) (z:Int) (a2:zO) (n2 Z:Nat) (J:zO) (U a1:Nat) (N2:zL) (O2:zI) (W:zW),gT W a n N->Sl W ao no O->gT W a2 n2 N2->Sl W J U O2->Calls prog 60 #[lH b a n cap ao no co,lH z a2 n2 Z J U a1] W (dB W (bK (FT b N O z N2 O2) b) (bK (FT b N O z N2 O2) 1) (Ac b N O z N2 O2) (Ad b N O z N2 O2) (FT b N O z N2 O2))
theorem RS{w:zW}{J:Int}{LN:zL}{U:zB}{z:Nat}{c:Int}{RE:zB}{e:Ending}{w':zW}(h:ahW w b J LN U z e w')(hc:c=if z<=80 then 0 else 3)(Z:c=0->RN=LN/\RE=U)(hZ:c≠0->RN=[]/\RE=[]):dB w (bK c b) (bK c J) RN RE c e w':=by
 by_cases hK:z<=80
 ·rw[yP hK]at hc;subst hc;obtain⟨rfl,rfl⟩:=Z rfl;exact h.1 hK
 ·rw[yN hK]at hc;subst hc;obtain⟨rfl,rfl⟩:=hZ (by decide);exact h.2 (by omega)
theorem OJ(b:Int)(a:zO)(n cap:Nat)(ao:zO)(no co:Nat)(N:zL)(O:zI)(z:Int)(a2:zO)(n2 J:Nat)(U:zO)(Z a6:Nat)(N2:zL)(O2:zI)(B:Nat)(W:zW)(hs:gT W a n N)(ho:Sl W ao no O)(a8:gT W a2 n2 N2)(b0:Sl W U Z O2)(hx:Ab b N O z N2 O2=0->W.heap[B]? =some (.cells #[.int .i64 (((au b).toNat:Nat):Int)] 3)):
  Calls prog 90 #[.agg #[.int .i64 b,.slice a n cap,.slice ao no co],.agg #[.int .i64 z,.slice a2 n2 J,.slice U Z a6],.int .i64 2,fnV 92 #[.pointer (some ⟨B,0,none⟩)]] W (dB W (bK (Bt b N O z N2 O2) b) (bK (Bt b N O z N2 O2) 2) (tL b N O z N2 O2) (tN b N O z N2 O2) (Bt b N O z N2 O2)):=by
 by_cases hF:Ab b N O z N2 O2=0
 ·obtain⟨hC,a1,rfl⟩:=xY hF
  have hx:=hx hF
  obtain⟨h1,h2,-⟩:=cK hC
  obtain⟨k1,k2,k3⟩:=eY h1 h2
  obtain⟨hM,hm⟩:=vW h1 h2
  obtain⟨b1,b5,a7⟩:=aiV hC a1
  obtain⟨b3,b4⟩:=Zg hC a1 b1 a7
  have b6:aD z 2=(((au z).toNat*(au z).toNat:Nat):Int):=by rw[hm,Int.natCast_mul,k3]
  have b8:(au z).toNat*(au z).toNat<=36:=Nat.le_trans (Nat.mul_le_mul k2 k2) (by decide)
  have h:=RQ 92 #[.pointer (some ⟨B,0,none⟩)] (λl=>l/(au z).toNat) (λl=>l%(au z).toNat) 2 ((au z).toNat*(au z).toNat) z a n cap ao no co N O a2 n2 J U Z a6 N2 O2 W hs ho a8 b0 hC a1 (enters_of func92 (by kernel_rfl) rfl) (λW' l hW hl=>aai (au z).toNat l B W' (by omega) (by omega) ((hW.block _ (zG hx).1).trans hx)) hM b6 (λl hl=>Nat.div_lt_of_lt_mul hl) (λl _=>Nat.mod_lt _ (by omega)) (λi s b7=>ad4 hC a1 b7) b1 b5
  refine h.mono λe w' hw=>RS hw ?_ ?_ ?_
  ·unfold Bt
   rw[yP hF]
   have e3:=aZ (lwN z N N2) (lwE z N O N2 O2) ((au z).toNat*(au z).toNat)
   rw[b3,aZ]at e3
   rw[e3]
   rfl
  ·intro hc
   unfold tL tN
   rw[yP hc,yP hc,<-b3,<-b4]
   exact⟨rfl,rfl⟩
  ·intro hc
   unfold tL tN
   rw[yN hc,yN hc]
   exact⟨rfl,rfl⟩
 ·obtain⟨i1,i2,i3,i4,i5⟩:=aiY hF
  rw[i2,i3,i4,i5,i1]
  exact MJ _ _ 2 b a n cap ao no co N O z a2 n2 J U Z a6 N2 O2 W hs ho a8 b0 hF
theorem aji{z:Int}{O2:zI}(h:Ab b N O z N2 O2≠0):FT b N O z N2 O2=Ab b N O z N2 O2/\Ac b N O z N2 O2=[]/\Ad b N O z N2 O2=[]/\bK (FT b N O z N2 O2) b=0/\bK (FT b N O z N2 O2) 1=0:=by
 have hc:FT b N O z N2 O2=Ab b N O z N2 O2:=by unfold FT;rw[yN h]
 have J:FT b N O z N2 O2≠0:=by rw[hc];exact h
 refine⟨hc,?_,?_,?_,?_⟩
 ·unfold Ac;rw[yN J]
 ·unfold Ad;rw[yN J]
 ·unfold bK;rw[yN J]
 ·unfold bK;rw[yN J]
theorem KP(b:Int)(a:zO)(n cap:Nat)(ao:zO)(no co:Nat)(N:zL)(O:zI)(z:Int)(a2:zO)(n2 J:Nat)(U:zO)(Z a6:Nat)(N2:zL)(O2:zI)(W:zW)(hs:gT W a n N)(ho:Sl W ao no O)(a8:gT W a2 n2 N2)(b0:Sl W U Z O2):
  Calls prog 90 #[.agg #[.int .i64 b,.slice a n cap,.slice ao no co],.agg #[.int .i64 z,.slice a2 n2 J,.slice U Z a6],.int .i64 1,fnV 91 #[]] W (dB W (bK (FT b N O z N2 O2) b) (bK (FT b N O z N2 O2) 1) (Ac b N O z N2 O2) (Ad b N O z N2 O2) (FT b N O z N2 O2)):=by
 by_cases hF:Ab b N O z N2 O2=0
 ·obtain⟨hC,a1,rfl⟩:=xY hF
  obtain⟨h1,h2,-⟩:=cK hC
  obtain⟨k1,k2,k3⟩:=eY h1 h2
  obtain⟨hM,hm⟩:=oC h1 h2
  obtain⟨b1,b5,a7⟩:=aiX hC a1
  obtain⟨b3,b4⟩:=Uq hC a1 b1 a7
  have b6:aD z 1=(((au z).toNat:Nat):Int):=by rw[hm,k3]
  have h:=RQ 91 #[] (λl=>l) (λl=>l) 1 (au z).toNat z a n cap ao no co N O a2 n2 J U Z a6 N2 O2 W hs ho a8 b0 hC a1 (enters_of func91 (by kernel_rfl) rfl) (λW' l hW hl=>Vi l W') hM b6 (λl hl=>hl) (λl hl=>hl) (λi s b7=>aeb hC a1 b7) b1 b5
  refine h.mono λe w' hw=>RS hw ?_ ?_ ?_
  ·unfold FT
   rw[yP hF]
   have e3:=aZ (awN z N N2) (awE z N O N2 O2) (au z).toNat
   rw[b3,aZ]at e3
   rw[e3]
   rfl
  ·intro hc
   unfold Ac Ad
   rw[yP hc,yP hc,<-b3,<-b4]
   exact⟨rfl,rfl⟩
  ·intro hc
   unfold Ac Ad
   rw[yN hc,yN hc]
   exact⟨rfl,rfl⟩
 ·obtain⟨i1,i2,i3,i4,i5⟩:=aji hF
  rw[i2,i3,i4,i5,i1]
  exact MJ _ _ 1 b a n cap ao no co N O z a2 n2 J U Z a6 N2 O2 W hs ho a8 b0 hF
theorem wL(w:zW)(o1 o2 z:Obj){W:zW}(h:Below (((w.alloc o1).alloc o2).alloc z).heap.size (((w.alloc o1).alloc o2).alloc z) W):W.heap[w.heap.size]? =some o1/\W.heap[w.heap.size+1]? =some o2/\W.heap[w.heap.size+2]? =some z:=by
 have k: ∀i,i<w.heap.size+3->W.heap[i]? =(((w.alloc o1).alloc o2).alloc z).heap[i]? :=λi hi=>h.block i (by simp<;>omega);refine⟨?_,?_,?_⟩
 ·rw[k _ (by omega),Below.heap_alloc _ _ _ (by simp<;>omega),aP]
 ·rw[k _ (by omega),Below.heap_alloc _ _ _ (by simp<;>omega),aQ]
 ·rw[k _ (by omega)];have:=zl ((w.alloc o1).alloc o2) z;simpa using this
theorem aak(b:Int)(w:zW):Calls prog 34 #[.int .i64 b] w λe w'=>e=.returned (.int .i64 (if(2:Int)>b then(2:Int)else b))/\w'=w:=by
 by_cases h:(2:Int)>b
 ·rw[yP h];go_enter func34,ntmps34;go_wp2;go_ret;exact⟨rfl,rfl⟩
 ·rw[yN h];go_enter func34,ntmps34;go_wp2;go_ret;exact⟨rfl,rfl⟩
theorem aal:zQ:=by
 intro b a n cap ao no co N O J a2 n2 z U Z a1 N2 O2 w hs ho b1 b3;have hB:=eT w (Bv b a n cap ao no co) (Bv J a2 n2 z U Z a1) XY;have HB:=aj hB;obtain⟨g1,g2,-⟩:=wL w (Bv b a n cap ao no co) (Bv J a2 n2 z U Z a1) XY zb;have b4:=aj (λW h=>(@wL w (Bv b a n cap ao no co) (Bv J a2 n2 z U Z a1) XY W h).2.2);have HC:=aj (KP b a n cap ao no co N O J a2 n2 z U Z a1 N2 O2 _ (aG hs hB) (aF ho hB) (aG b1 hB) (aF b3 hB));unfold dB at HC;generalize FT b N O J N2 O2=c at HC⊢;generalize Ac b N O J N2 O2=RN at HC⊢;generalize Ad b N O J N2 O2=RE at HC⊢;clear hs ho b1 b3 hB;obtain⟨⟨p0,p1,p2⟩,-⟩:=aJ g1;obtain⟨⟨q0,q1,q2⟩,-⟩:=aJ g2;clear g1 g2;unfold lH;generalize b5:((w.alloc (Bv b a n cap ao no co)).alloc (Bv J a2 n2 z U Z a1)).alloc XY=wb at HB b4 HC p0 p1 p2 q0 q1 q2;have b6:Hid (wb.heap.size=w.heap.size+3):=by show _=_;rw[<-b5];simp
 go_enter func60,ntmps60;go_wp2_with fail;clear b5 p0 p1 p2 q0 q1 q2;refine HC.out.mono ?_;rintro e w3 ⟨ay,cy,a6,a7,rfl,a8,b0⟩;have hr:=b4.out w3 b0;obtain⟨⟨r0,r1,r2,r3⟩,rf⟩:=aC hr;have HR:=aj hr;have c4:=aj (ak HB.out b0);have b7:=aj a8;clear hr b0 a8 HC;go_wp2;obtain⟨⟨b8,c5,b9⟩,c0⟩:=eO (v0:=.int .i64 (bK c b)) (v1:=.int .i64 (bK c 1)) (v2:=.slice ay RN.length cy) (v3:=.slice a6 RN.length a7) HR.out rfl;have c3:dS w ay RN.length RN a6 RE ((((w3.setCell ⟨w.heap.size+2,0,none⟩ (.int .i64 (bK c b))).setCell ⟨w.heap.size+2,1,none⟩ (.int .i64 (bK c 1))).setCell ⟨w.heap.size+2,2,none⟩ (.slice ay RN.length cy)).setCell ⟨w.heap.size+2,3,none⟩ (.slice a6 RN.length a7)):=λW' c6=>b7.out W' (λx hx c7=>by have h2:=b6.out;rw[c6 x (by omega) (by rw[c5];exact c7),b9 x (by omega)]);have hb:=c0 w w.heap.size c4.out (by omega);obtain⟨⟨z0,z1,z2,z3⟩,-⟩:=aC b8;exact bodyPost_ret (v:=.tuple #[.agg #[.int .i64 (bK c b),.int .i64 (bK c 1),.slice ay RN.length cy,.slice a6 RN.length a7],bC c]) (by simp[results,results60,go_sem,z0,z1,z2,z3]) rfl ⟨ay,cy,a6,a7,rfl,c3,hb⟩
theorem KQ:Da:=by
 intro b a n cap ao no co N O U a2 n2 z Z a1 a6 N2 O2 w hs ho b5 b6;have hB:=eT w (Bv b a n cap ao no co) (Bv U a2 n2 z Z a1 a6) XY;have HB:=aj hB;obtain⟨g1,g2,-⟩:=wL w (Bv b a n cap ao no co) (Bv U a2 n2 z Z a1 a6) XY zb;have b7:=aj (λW h=>(@wL w (Bv b a n cap ao no co) (Bv U a2 n2 z Z a1 a6) XY W h).2.2);have HC:=aj (λB W (h:Below _ _ W) hx=>OJ b a n cap ao no co N O U a2 n2 z Z a1 a6 N2 O2 B W (aG hs (ak hB h)) (aF ho (ak hB h)) (aG b5 (ak hB h)) (aF b6 (ak hB h)) hx);have hK:Ab b N O U N2 O2=0->(if(2:Int)>b then(2:Int)else b)=(((au b).toNat:Nat):Int):=λh=>by obtain⟨h1,-,-⟩:=xY h;obtain⟨q1,q2,-⟩:=cK h1;obtain⟨-,-,k3⟩:=eY q1 q2;rw[k3];unfold au;split<;>split<;>omega
 have b0:=aj (λW=>aak b W);generalize(if(2:Int)>b then(2:Int)else b)=kd at hK b0;have HK:=aj hK;unfold dB at HC;generalize Bt b N O U N2 O2=c at HC⊢;generalize tL b N O U N2 O2=RN at HC⊢;generalize tN b N O U N2 O2=RE at HC⊢;clear hs ho b5 b6 hB hK;obtain⟨⟨p0,p1,p2⟩,-⟩:=aJ g1;have b1:=aj g1;have b3:=aj g2;clear g1 g2;unfold lH;generalize b8:((w.alloc (Bv b a n cap ao no co)).alloc (Bv U a2 n2 z Z a1 a6)).alloc XY=wb at HB b7 HC b1 b3 p0 p1 p2;have c7:Hid (wb.heap.size=w.heap.size+3):=by show _=_;rw[<-b8];simp
 have J:=aj ((Below.refl wb.heap.size wb).alloc zr (.cells #[.int .i64 kd] 3));have b9:=aj (zl wb (.cells #[.int .i64 kd] 3));go_enter func61,ntmps61;go_upto_region 2 with(go_at_call 34;refine(b0.out _).mono ?_;rintro e w' ⟨rfl,c0⟩;rw[c0];clear c0 w');clear b8 p0 p1 p2 b0;obtain⟨w4,c3⟩: ∃w4,wb.alloc (.cells #[.int .i64 kd] 3)=w4:=⟨_,rfl⟩;rw[c3]at J b9⊢;obtain⟨⟨p0,p1,p2⟩,-⟩:=aJ ((J.out.block _ (zG b1.out).1).trans b1.out);obtain⟨⟨q0,q1,q2⟩,-⟩:=aJ ((J.out.block _ (zG b3.out).1).trans b3.out);have c4:=aj (HC.out wb.heap.size w4 J.out (λh=>by rw[b9.out,HK.out h]));clear c3 HC;go_wp2_with fail;clear p0 p1 p2 q0 q1 q2;refine c4.out.mono ?_;rintro e w5 ⟨ay,cy,a7,a8,rfl,b4,c5⟩;have c6:=aj (ak J.out c5);have hr:=b7.out w5 c6.out;obtain⟨⟨r0,r1,r2,r3⟩,rf⟩:=aC hr;have HR:=aj hr;have c8:=aj b4;clear hr c5 b4 c4;go_wp2;obtain⟨⟨c9,d3,d0⟩,d1⟩:=eO (v0:=.int .i64 (bK c b)) (v1:=.int .i64 (bK c 2)) (v2:=.slice ay RN.length cy) (v3:=.slice a7 RN.length a8) HR.out rfl;have d2:dS w ay RN.length RN a7 RE ((((w5.setCell ⟨w.heap.size+2,0,none⟩ (.int .i64 (bK c b))).setCell ⟨w.heap.size+2,1,none⟩ (.int .i64 (bK c 2))).setCell ⟨w.heap.size+2,2,none⟩ (.slice ay RN.length cy)).setCell ⟨w.heap.size+2,3,none⟩ (.slice a7 RN.length a8)):=λW' d4=>c8.out W' (λx hx d5=>by have h2:=c7.out;have h3:=J.out.size;rw[d4 x (by omega) (by rw[d3];exact d5),d0 x (by omega)]);have hb:=d1 w w.heap.size (ak HB.out c6.out) (by omega);obtain⟨⟨z0,z1,z2,z3⟩,-⟩:=aC c9;exact bodyPost_ret (v:=.tuple #[.agg #[.int .i64 (bK c b),.int .i64 (bK c 2),.slice ay RN.length cy,.slice a7 RN.length a8],bC c]) (by simp[results,results61,go_sem,z0,z1,z2,z3]) rfl ⟨ay,cy,a7,a8,rfl,d2,hb⟩
theorem JJ{w:zW}{xs ys:zI}{v v' v2:Value}{W w3:zW}{o:Obj}{x:Int}(h:Zv w xs ys v v' W)(hown:w3.ownsRow w.heap.size 3 1 v2 (xs.length+1) (xs.map (Value.int .i64)++[.int .i64 x]))(J:(W.alloc o).grownBy w3 v.ownBlock)(a1:v2.ownBlock=v.ownBlock\/v2.ownBlock=some (W.alloc o).heap.size):
  Zv w (xs++[x]) ys v2 v' w3:=by
 obtain⟨h1,h2,h3,h4⟩:=h
 refine⟨by rw[List.length_append,List.map_append];exact hown,aX h2 (λz U=>?_),λz U Z=>?_,Below.grown (h4.alloc h4.size o) J (by have:=h4.size;simp;omega) (λk hk=>(h1.lt k hk).1)⟩
 ·have hl:=(h2.lt z U).2
  rw[J.block z (by simp;omega) (λe=>h3 z e.symm U),Below.heap_alloc _ _ _ hl]
 ·have hl:=(h2.lt z Z).2
  rcases a1 with e|e
  ·exact h3 z (e▸U) Z
  ·rw[e]at U
   simp at U
   omega
end Go.Proofs.YtceojneljnnooaaGreat
