import Derived.Test.YtceojneljnnooaaGreatZNx
import Derived.Deep.Grids
import Derived.Deep.Matrix
import Derived.Lib.SmallJoins
open Go.Proofs.Tryz
namespace Go.Proofs.YtceojneljnnooaaGreat
open Go.RowKit
set_option maxHeartbeats 0
set_option maxRecDepth 100000
set_option linter.all false
open Go.ChangeShapes Go.WideShapes Go.ChangeAt Go.RowKit Go.Joins Go.Deep
theorem agm{w:zW}{x:Addr}{V:Nat->Value}{n:Nat}(h: ∀i,i<n->w.cell? (x.add i)=some (V i))(U:0<n):
  ∃b off,x=⟨b,off,none⟩/\ ∀j,j<n->w.cell? ⟨b,off+j,none⟩=some (V j):=by
 obtain⟨b,off,J⟩:=x
 have z:J=none:=by simpa[Addr.add]using World.cell?_spot (h 0 U)
 subst z
 exact⟨b,off,rfl,λj Z=>by rw[<-Go.WideShapes.add_plain];exact h j Z⟩
theorem Zh{H:Type}{a2:TypeId × Value->H}{W:zW}{base:Nat}{held:Bool}{J:Nat}{v:Value}{x:DataW H × List MemPlace}(h:DataW.trod a2 prog W base (λ_=>true) held J 32 [v]=some x):
  ∃a len cap N,v=.slice a len cap/\gT W a len N:=by
 rcases open_int_rows underlying32 underlying24 underlying3 (by kernel_rfl) (by kernel_rfl) h with⟨z,_⟩|⟨a,len,cap,U,L,C,Z,z,_,hl,hm,_,hr⟩
 ·simp at z
  exact⟨none,0,0,[],z,rfl,by decide,Or.inl rfl⟩
 ·simp at z
  refine⟨some a,len,cap,(List.range len).map λr=>(Z r).take (L r),z,by simp,by omega,?_⟩
  by_cases h0:len=0
  ·exact Or.inl h0
  ·obtain⟨b,o,rfl,hc⟩:=agm (V:=λr=>.slice (U r) (L r) (C r)) (n:=cap) (λi hi=>(hr i hi).1) (by omega)
   refine Or.inr ⟨b,o,rfl,λi hi=>?_⟩
   have a1:((List.range len).map λr=>(Z r).take (L r)).getD i []=(Z i).take (L i):=by simp[List.getD,hi]
   obtain⟨_,h1,h2,h3,h4,h5,h6⟩:=hr i (by omega)
   have hlen:((Z i).take (L i)).length=L i:=by rw[List.length_take];omega
   rw[a1,hlen]
   refine⟨U i,C i,hc i (by omega),?_⟩
   cases hA:U i with
   |none=>
    have hC:=h5 hA
    have hL:L i=0:=by omega
    refine⟨hlen,by omega,λn hn=>h4 n (List.mem_of_mem_take hn),Or.inl hL⟩
   |some ad=>
    exact sl_of_row (cap:=C i) (Or.inr ⟨ad,rfl,h1,h2,h3,λc hc'=>(h6 ad hA).2 c (by omega),h4⟩)
end Go.Proofs.YtceojneljnnooaaGreat
