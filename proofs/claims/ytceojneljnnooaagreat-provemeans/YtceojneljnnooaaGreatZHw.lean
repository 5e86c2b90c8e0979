import Derived.Test.YtceojneljnnooaaGreatZPvg
import Derived.Test.YtceojneljnnooaaGreatZHn
import Derived.Shelf.Slices.Clone
open Go.Proofs.Tryz
namespace Go.Proofs.YtceojneljnnooaaGreat
open Go.RowKit
set_option maxHeartbeats 0
set_option maxRecDepth 100000
set_option linter.all false
def aiP:Go.Shelf.Ren:=⟨fun|15=>66|n=>n,fun|3=>3|4=>4|22=>24|n=>n,λn=>n⟩
theorem agX:Lays2.n15 prog aiP where
 mixed:=by kernel_rfl
 f15:=func66.trans (congrArg some (by kernel_rfl))
 t3:=underlying3
 a3:=isAgg3
 z3:=sizeOf3
 v3:=zeroValue3
 t4:=underlying4
 a4:=isAgg4
 z4:=sizeOf4
 v4:=zeroValue4
 t22:=underlying24
 a22:=isAgg24
 z22:=sizeOf24
 v22:=zeroValue24
 i3:=by kernel_rfl
def adO(w:zW)(len:Nat)(l:zI)(g c:Nat)(w':zW):Prop:=w'.ownsRow w.heap.size 3 1 (.slice (some ⟨g,0,none⟩) len c) len (l.map (Value.int .i64))/\Below w.heap.size w w'
theorem Vb(a:zO)(len cap:Nat)(l:zI)(w:zW)(hs:Sl w a len l)(h0:0<len)(h1:len<=1000):Calls prog 66 #[.slice a len cap] w λe w'=> ∃g c,e=.returned (.slice (some ⟨g,0,none⟩) len c)/\adO w len l g c w':=by
 obtain⟨hl,hm,hw,hc⟩:=hs;rcases hc with hc|⟨b,o,rfl,hc⟩
 ·omega
 ·have h:=Any.slices_Clone_int agX b o len cap l w (by omega) (by omega) (λj hj=>hc j (by omega))
  refine Calls.mono h ?_;rintro e w' ⟨v',rfl,J,Z,hb⟩;rw[List.take_of_length_le (by omega)]at J;have z:w'.ownsRow w.heap.size 3 1 v' len (l.map (Value.int .i64)):=J;rcases z.2 with⟨U,e2⟩|⟨g,c,cur,U,_⟩
  ·omega
  ·subst U;exact⟨g,c,rfl,z,hb⟩
def aj1(w0 w:zW)(g c:Nat)(l:zI)(e:Ending)(w':zW):Prop:=e=.returned (.slice (some ⟨g,0,none⟩) l.length c)/\(∀W':zW,(∀x,w0.heap.size<=x->x<w'.heap.size->W'.heap[x]? =w'.heap[x]?)->Sl W' (some ⟨g,0,none⟩) l.length l)/\Below w0.heap.size w w'
theorem Rs(w0:zW)(g c n i:Nat)(d:zI)(w:zW)(hd:adO w0 n d g c w)(hl:d.length=n)(hn:n<=1000)(hi:i<n)(a6: ∀x∈d,(Lit.int .i64 x).wf=true):
  Calls prog 65 #[.slice (some ⟨g,0,none⟩) n c,.int .i64 (i:Int),.int .i64 ((i:Int)+1)] w (aj1 w0 w g c (d.eraseIdx i)):=by
 subst hl
 obtain⟨ho,hb⟩:=hd
 rcases ho.2 with⟨z,-⟩|⟨g',cap,cur,z,hg,hh,hc,a1,b1,ht⟩
 ·cases z
 ·obtain⟨rfl,rfl⟩:g=g'/\c=cap:=by injection z with z e2 e3;injection z with z;injection z with z;exact⟨z,e3⟩
  have hH:Sort.Holds (Value.int .i64) w g 0 d.toArray:=holds_of_blockI hh (by simpa using ht)
  have a2:=a1
  unfold maxLen at a2
  have h:=Any.slices_Delete_int XB g 0 c i (i+1) d w hH (by omega) (by omega) (by omega) (by omega)
  rw[show((i+1:Nat):Int)=(i:Int)+1 by omega]at h
  refine h.mono ?_
  rintro e w' ⟨rfl,q,rfl⟩
  have J:(d.eraseIdx i).length=d.length-1:=by rw[List.length_eraseIdx,yP hi]
  rw[Fx]
  obtain⟨ts,U⟩: ∃ts,ts=d.eraseIdx i++List.replicate (i+1-i) (0:Int):=⟨_,rfl⟩
  rw[<-U]
  have a7:ts.length=d.length:=by rw[U];simp[J];omega
  have Z:=ownsRow_sortedI (w:=w) (base:=w0.heap.size) (g:=g) (cap:=c) (n:=q) (os:=#[]) (ss:=d) (ts:=ts) a7 hg hh (by omega) a1 (by omega)
  have hG:=grownBy_sortedI (w:=w) (g:=g) (n:=q) (os:=#[]) ts.toArray
  rw[zH]at Z hG
  refine⟨by rw[J,show d.length-1=d.length-(i+1-i)by omega],λW' a8=>?_,Below.grown zb hG (by have:=hb.size;omega) (λk hk=>by cases hk;omega)⟩
  have b0:=aX (w':=W') Z (λx hx=>a8 x (Z.lt x hx).1 (Z.lt x hx).2)
  refine⟨rfl,by rw[J];unfold maxLen;omega,λx hx=>a6 x ((List.eraseIdx_sublist d i).subset hx),Or.inr ⟨g,0,rfl,λj hj=>?_⟩⟩
  rw[Nat.zero_add,b0.cellAt j (by omega),U,List.map_append,List.getElem?_append_left (by simpa using hj)]
  simp[List.getD,hj]
end Go.Proofs.YtceojneljnnooaaGreat
