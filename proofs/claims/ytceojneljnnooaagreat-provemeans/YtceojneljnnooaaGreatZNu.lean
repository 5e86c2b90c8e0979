import Derived.Test.YtceojneljnnooaaGreatZEg
import Derived.Deep.Onto
open Go.Proofs.Tryz
namespace Go.Proofs.YtceojneljnnooaaGreat
open Go.RowKit
set_option maxHeartbeats 0
set_option maxRecDepth 100000
set_option linter.all false
variable{W W':zW}{base:Nat}{V:zV}{a:zO}{L:List Nd}
theorem VI:(Value.agg #[.int .i64 0,.int .i64 0,.int .i64 0,.int .i64 0,.int .i64 0,.int .i64 0,.slice none 0 0]).cells.size=7:=rfl
def ndA(W:zW)(b o i:Nat):Value:=(W.cell? ⟨b,o+i,none⟩).getD (.bool false)
def Kr(W:zW)(b o n:Nat):zV:=(List.range (n*7)).map (ndA W b o)
theorem Df(W:zW)(b o n:Nat):(Kr W b o n).length=n*7:=by simp[Kr]
theorem Yd{b o n:Nat}{ns:List Nd}(h:SlF W (some ⟨b,o,none⟩) n ns){i:Nat}(hi:i<n): ∃a c,(∀j,j<7->(Kr W b o n)[i*7+j]? =(Sc (ns.getD i oL) a c)[j]?)/\(∀j,j<7->W.cell? ⟨b,o+(i*7+j),none⟩=(Sc (ns.getD i oL) a c)[j]?)/\Sl W a (ns.getD i oL).cf.length (ns.getD i oL).cf:=by
 obtain⟨b',o',a,c,e,h0,h1,h2,h3,h4,h5,Z,h7⟩:=jB h i hi;cases e
 have J: ∀j,j<7->W.cell? ⟨b,o+(i*7+j),none⟩=(Sc (ns.getD i oL) a c)[j]? :=λj z=>by
  rw[show o+(i*7+j)=o+i*7+j by omega];match j,z with
  |0,_=>exact h0
  |1,_=>exact h1
  |2,_=>exact h2
  |3,_=>exact h3
  |4,_=>exact h4
  |5,_=>exact h5
  |6,_=>exact Z
 refine⟨a,c,λj z=>?_,J,h7⟩;have U:i*7+j<n*7:=by omega
 unfold Kr ndA;rw[List.getElem?_map,List.getElem?_range U,Option.map_some,J j z];have:(Sc (ns.getD i oL) a c)[j]? =some ((Sc (ns.getD i oL) a c)[j]'(by rw[X9];exact z)):=List.getElem?_eq_getElem _;rw[this];rfl
def VJ(base:Nat)(W W':zW):Prop:= ∀x,base<=x->x<W.heap.size->W'.heap[x]? =W.heap[x]?
def Gg(base:Nat)(W:zW)(V:zV)(L:List Nd):Prop:=V.length=L.length*7/\(∀n∈L,Je n)/\ ∀j,j<L.length-> ∃a c,(∀i,i<7->V[j*7+i]? =(Sc (L.getD j oL) a c)[i]?)/\ ∀W',VJ base W W'->Sl W' a (L.getD j oL).cf.length (L.getD j oL).cf
theorem VJ.refl(base:Nat)(W:zW):VJ base W W:=λ_ _ _=>rfl
theorem VJ.below(h:Below W.heap.size W W'):VJ base W W':=λx _ hx=>h.block x hx
theorem VJ.trans{W2:zW}(h:VJ base W W2)(hs:W.heap.size<=W2.heap.size)(h2:VJ base W2 W'):VJ base W W':=λx h1 hx=>(h2 x h1 (Nat.lt_of_lt_of_le hx hs)).trans (h x h1 hx)
theorem Bp{W2:zW}(h:Gg base W V L)(z:VJ base W W2)(hs:W.heap.size<=W2.heap.size):Gg base W2 V L:=
 ⟨h.1,h.2.1,λj J=>by obtain⟨a,c,h1,h2⟩:=h.2.2 j J;exact⟨a,c,h1,λW' U=>h2 W' (z.trans hs U)⟩⟩
theorem Kt{V2:zV}{z:List Nd}(h:Gg base W V L)(h2:Gg base W V2 z):Gg base W (V++V2) (L++z):=by
 refine⟨by rw[List.length_append,List.length_append,h.1,h2.1];omega,λn hn=>(List.mem_append.1 hn).elim (h.2.1 n) (h2.2.1 n),λj hj=>?_⟩;rw[List.length_append]at hj;have hl:=h.1;by_cases J:j<L.length
 ·obtain⟨a,c,U,Z⟩:=h.2.2 j J
  have e:(L++z).getD j oL=L.getD j oL:=by rw[List.getD_eq_getElem?_getD,List.getD_eq_getElem?_getD,List.getElem?_append_left J]
  rw[e];exact⟨a,c,λi hi=>by rw[List.getElem?_append_left (by omega)];exact U i hi,Z⟩
 ·obtain⟨a,c,U,Z⟩:=h2.2.2 (j-L.length) (by omega)
  have e:(L++z).getD j oL=z.getD (j-L.length) oL:=by rw[List.getD_eq_getElem?_getD,List.getD_eq_getElem?_getD,List.getElem?_append_right (by omega)]
  rw[e];exact⟨a,c,λi hi=>by rw[List.getElem?_append_right (by omega),show j*7+i-V.length=(j-L.length)*7+i by omega];exact U i hi,Z⟩
theorem Sm{n:Nat}{l:zI}(h:Dm base W a n l)(J:VJ base W W'):Sl W' a n l:=by
 obtain⟨⟨h1,h2,h3,h4⟩,h5⟩:=h;refine⟨h1,h2,h3,?_⟩;rcases h4 with h4|⟨b,o,rfl,h4⟩
 ·exact .inl h4
 ·refine .inr ⟨b,o,rfl,λi hi=>?_⟩;have hc:=h4 i hi;have z:=zk W _ hc;rw[World.cell?_of_block (J b (h5 _ rfl) z)];exact hc
theorem Sn{n:Nd}{c:Nat}(z:Je n)(h:Dm base W a n.cf.length n.cf):Gg base W (Sc n a c) [n]:=
 ⟨rfl,λm hm=>by rw[List.mem_singleton]at hm;subst hm;exact z,λj J=>by
  obtain rfl:j=0:=by simp at J;omega
  exact⟨a,c,λi _=>by rw[Nat.zero_mul,Nat.zero_add];rfl,λW' U=>Sm h U⟩⟩
def ajy(base:Nat)(W:zW)(a:zO)(V:zV)(L:List Nd):Prop:=Gg base W V L/\((L.length=0/\a=none)\/ ∃b o,a=some ⟨b,o,none⟩/\base<=b/\0<L.length/\ ∀j u,V[j]? =some u->W.cell? ⟨b,o+j,none⟩=some u)
theorem Ye(h:ajy base W a V L)(U:L.length<=maxLen):SlF W a L.length L:=by
 obtain⟨⟨h1,Z,hc⟩,h2⟩:=h;refine⟨rfl,U,Z,?_⟩;rcases h2 with⟨h2,-⟩|⟨b,o,rfl,hb,-,h2⟩
 ·exact .inl h2
 ·refine .inr ⟨b,o,rfl,λi hi=>?_⟩
  obtain⟨a',c',e1,e2⟩:=hc i hi;have z: ∀j,j<7->W.cell? ⟨b,o+i*7+j,none⟩=(Sc (L.getD i oL) a' c')[j]? :=λj J=>by have h3:=e1 j J;have h4:(Sc (L.getD i oL) a' c')[j]? =some ((Sc (L.getD i oL) a' c')[j]'(by rw[X9];exact J)):=List.getElem?_eq_getElem _;rw[h4]at h3⊢;rw[show o+i*7+j=o+(i*7+j)by omega];exact h2 _ _ h3
  exact⟨a',c',z 0 (by decide),z 1 (by decide),z 2 (by decide),z 3 (by decide),z 4 (by decide),z 5 (by decide),z 6 (by decide),e2 W (VJ.refl _ _)⟩
theorem Sq{g k J:Nat}(h:W.ownsRow base 30 7 (.slice (some ⟨g,0,none⟩) k J) k V)(hc:Gg base W V L)(U:0<L.length):ajy base W (some ⟨g,0,none⟩) V L:=by
 refine⟨hc,.inr ⟨g,0,rfl,?_,U,?_⟩⟩
 ·rcases h.2 with⟨h1,-⟩|⟨Z,cap,cur,e,hg,-⟩
  ·cases h1
  ·cases e;exact hg
 ·intro j u hu
  rcases h.2 with⟨h1,-⟩|⟨Z,cap,cur,e,hg,hh,-,-,-,ht⟩
  ·cases h1
  ·cases e
   rw[cell_of_row W g (0+j) cur 30 (0,0) hh,Nat.zero_add];rw[<-ht,List.getElem?_take]at hu;by_cases z:j<k*7
   ·rw[yP z,Array.getElem?_toList]at hu;exact hu
   ·rw[yN z]at hu;cases hu
theorem Sr(b o j:Nat):(⟨b,o,none⟩:Addr).add j=⟨b,o+j,none⟩:=by unfold Addr.add;split<;>simp_all
theorem Yf{b o n:Nat}{ns:List Nd}(h:SlF W (some ⟨b,o,none⟩) n ns)(hn:0<n):ajy 0 W (some ⟨b,o,none⟩) (Kr W b o n) ns:=by
 have hl:=h.1;refine⟨⟨by rw[Df,hl],h.2.2.1,λj U=>?_⟩,.inr ⟨b,o,rfl,Nat.zero_le _,by omega,λj u hu=>?_⟩⟩
 ·obtain⟨a,c,J,-,e3⟩:=Yd h (i:=j) (by omega);exact⟨a,c,J,λW' Z=>Sm (base:=0) ⟨e3,λ_ _=>Nat.zero_le _⟩ Z⟩
 ·have U:=(List.getElem?_eq_some_iff.1 hu).1;rw[Df]at U;obtain⟨i,l,hi,z,rfl⟩: ∃i l,i<n/\l<7/\j=i*7+l:=⟨j/7,j%7,by omega,by omega,by omega⟩;obtain⟨a,c,J,e2,-⟩:=Yd h hi;rw[e2 l z,<-J l z];exact hu
theorem rU{ops:Array Oper}{rest:List Oper}{o:Oper}{a:Act}{Q:Exit->Act->zW->Prop}(w:zW)(a7:o.guard=none)(s x:Operand)(ho:o.op=.call {callee:=.builtin .append,args:=#[s,x],argTypes:=#[22,22]})(J o1 k:Nat)(hs:a.eval s=.slice (some ⟨J,o1,none⟩) k k)(n1:List Nd)(h1:SlF w (some ⟨J,o1,none⟩) k n1)(U o2 m c:Nat)(hx:a.eval x=.slice (some ⟨U,o2,none⟩) m c)(Z:List Nd)(h2:SlF w (some ⟨U,o2,none⟩) m Z)(hk:0<k)(hm:0<m)(b8:k+m<=100000)(h: ∀g cap w',SlF w' (some ⟨g,0,none⟩) (k+m) (n1++Z)->k+m<=cap->Below w.heap.size w w'->wpList prog ops Q rest (a.put o.dst (.slice (some ⟨g,0,none⟩) (k+m) cap)) w'):wpList prog ops Q (o::rest) a w:=by
 obtain⟨l0,a8,b0,b3,b4⟩:=info_parts aeE;have r1:=Yf h1 hk;have r2:=Yf h2 hm;have b5:=h1.1;have b6:=h2.1;refine wpList_plain a7 λK hK'=>?_
 have c1: ∀j u,(Kr w J o1 k)[j]? =some u->w.cell? ((⟨J,o1,none⟩:Addr).add j)=some u:=λj u hu=>by
  rw[Sr];rcases r1.2 with⟨h0,-⟩|⟨b,o,e,-,-,hc⟩
  ·omega
  ·cases e;exact hc j u hu
 have c2: ∀j u,(Kr w U o2 m)[j]? =some u->w.cell? ((⟨U,o2,none⟩:Addr).add j)=some u:=λj u hu=>by
  rw[Sr];rcases r2.2 with⟨h0,-⟩|⟨b,o,e,-,-,hc⟩
  ·omega
  ·cases e;exact hc j u hu
 obtain⟨v',w',hrun,hown,z⟩:=run_append_arg_grows (P:=prog) w 22 o.type 30 l0 (.agg #[.int .i64 0,.int .i64 0,.int .i64 0,.int .i64 0,.int .i64 0,.int .i64 0,.slice none 0 0]) 7 72 underlying22 a8 b0 b3 b4 VI (by decide) ⟨J,o1,none⟩ k k (Kr w J o1 k) (Df _ _ _ _) c1 ⟨U,o2,none⟩ m c (Kr w U o2 m) (Df _ _ _ _) c2 (by omega) (by unfold maxLen;omega) (by omega);have hb:Below w.heap.size w w':=⟨z.os,z.tape,z.output,z.size,λq hq=>z.block q hq (by simp)⟩;have hA:VJ 0 w w':=VJ.below hb;have a2:Gg 0 w' (Kr w J o1 k++Kr w U o2 m) (n1++Z):=Kt (Bp r1.1 hA hb.size) (Bp r2.1 hA hb.size);rcases hown.2 with⟨e,e0⟩|⟨g,cap,cur,rfl,hg,hh,b7,b9,c0,ht⟩
 ·omega
 ·have a6:=Sq (hown.mono (Nat.zero_le _)) a2 (by rw[List.length_append];omega);have a1:=Ye a6 (by rw[List.length_append];unfold maxLen;omega);rw[show(n1++Z).length=k+m by rw[List.length_append,b5,b6]]at a1;unfold Oper.wp;simp[execOp,ho,resolve,invoke,builtin,hs,hx,hrun,Result.andThen];exact hK' _ _ (h g cap w' a1 b7 hb)
theorem EH{n:Nd}(z:Je n)(h:n.cf=[]):Gg 0 W (Sc n none 0) [n]:=Sn z ⟨by rw[h];exact⟨rfl,Nat.zero_le _,(λx hx=>by cases hx),.inl rfl⟩,λ_ _=>Nat.zero_le _⟩
theorem ahz{n:Nd}{c:Nat}(z:Je n)(h:Sl W a n.cf.length n.cf):Gg 0 W (Sc n a c) [n]:=Sn z ⟨h,λ_ _=>Nat.zero_le _⟩
theorem Yg{w:zW}{k:Nat}(J:L.length=k)(h0:0<k)(Z:k<=1000)(hc:Gg 0 w V L):SlF (w.alloc (.cells V.toArray 30)) (some ⟨w.heap.size,0,none⟩) k L:=by
 have z:V.length=k*7:=by rw[hc.1,J]
 have hb:=(Below.refl w.heap.size w).alloc zr (.cells V.toArray 30)
 have hown:(w.alloc (.cells V.toArray 30)).ownsRow 0 30 7 (.slice (some ⟨w.heap.size,0,none⟩) k k) k V:=
  ⟨z,.inr ⟨w.heap.size,k,V.toArray,rfl,Nat.zero_le _,zl w _,zr,by unfold maxLen;omega,by simp[z],by simp[<-z]⟩⟩
 have U:=Sq hown (Bp hc (VJ.below hb) hb.size) (by omega);have hs:=Ye U (by unfold maxLen;omega);rw[J]at hs;exact hs
end Go.Proofs.YtceojneljnnooaaGreat
