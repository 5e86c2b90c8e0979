import Derived.Test.YtceojneljnnooaaGreatZC
import Derived.OwnWalk
open Go.Proofs.Tryz
namespace Go.Proofs.YtceojneljnnooaaGreat
open Go.RowKit
set_option maxHeartbeats 0
set_option maxRecDepth 100000
set_option linter.all false
variable{w:zW}{l:zI}{a:zO}
def vC(d:zI):Array Value:=(d.map (Value.int .i64)).toArray
theorem yQ(d:zI):(vC d).size=d.length:=by simp[vC]
theorem ug(d:zI)(k:Nat)(h:k<d.length):(vC d)[k]? =some (.int .i64 (d.getD k 0)):=by simp[vC,h]
def bI(d:zI):zI:=d.dropWhile (· ==0)
theorem aa1: ∀(d:zI) (k:Nat),k<=d.length->(∀j,j<k->d.getD j 0=0)->(k<d.length->d.getD k 0≠0)->bI d=d.drop k:=by
 intro d;induction d with
 |nil=>intro k z _ _;simp at z;subst z;rfl
 |cons x r U=>
  intro k z h0 h1
  cases k with
  |zero=>
   have:x≠0:=by simpa using h1 (by simp)
   simp[bI,this]
  |succ k=>
   have hx:x=0:=by simpa using h0 0 (by omega)
   have:=U k (by simpa using z) (λj J=>by simpa using h0 (j+1) (by omega)) (λJ=>by simpa using h1 (by simpa using J))
   simp only[bI]at this
   simp[bI,hx,this]
def Dm(base:Nat)(w:zW)(a:zO)(len:Nat)(l:zI):Prop:=Sl w a len l/\ ∀ad,a=some ad->base<=ad.block
theorem Dm.mono{base z:Nat}{len:Nat}(h:Dm base w a len l)(hb:z<=base):Dm z w a len l:=⟨h.1,λad e=>Nat.le_trans hb (h.2 ad e)⟩
theorem kJ{base:Nat}{v:Value}{n:Nat}(z:l.length=n)(hm:n<=maxLen)(J: ∀x∈l,(Lit.int .i64 x).wf=true)(h:w.ownsRow base 3 1 v n (l.map (Value.int .i64))): ∃a cap,v=.slice a n cap/\Dm base w a n l:=by
 obtain⟨h1,h2⟩:=h;rcases h2 with⟨rfl,rfl⟩|⟨g,cap,cur,rfl,hg,U,hc,a1,a2,Z⟩
 ·exact⟨none,0,rfl,⟨z,hm,J,Or.inl rfl⟩,λ_ h=>by cases h⟩
 ·refine⟨_,_,rfl,⟨z,hm,J,Or.inr ⟨g,0,rfl,λi hi=>?_⟩⟩,λad h=>by cases h;exact hg⟩
  rw[cell_of_row w g (0+i) cur 3 (0,0) U,Nat.zero_add];have h3:(cur.toList.take (n*1))[i]? =(l.map (Value.int .i64))[i]? :=by rw[Z]
  rw[List.getElem?_take,yP (by omega)]at h3;rw[Array.getElem?_toList]at h3;rw[h3];simp[List.getD,z,hi]
theorem rX:(prog.info? 3).map (λi=>(i.zero,i.size,i.bytes))=some (some (.int .i64 0),1,8):=by kernel_rfl
def fH(w:zW)(l:zI)(e:Ending)(w':zW):Prop:= ∃a cap,e=.returned (.slice a l.length cap)/\Dm w.heap.size w' a l.length l/\Below w.heap.size w w'
theorem Pg{z:zW}{d:zI}{k:Nat}{v:Value}{o:Obj}(hL:d.length=60)(U: ∀x∈d,(Lit.int .i64 x).wf=true)(Z:bI d=d.drop k)(hown:z.ownsRow w.heap.size 3 1 v (0+(60-k)) ([]++(d.drop k).map (Value.int .i64)))(hg:(w.alloc o).grownBy z none):fH w (bI d) (.returned v) z:=by
 have J:(d.drop k).length=60-k:=by simp[hL]
 rw[Nat.zero_add,List.nil_append]at hown;obtain⟨a,cap,rfl,hs⟩:=kJ (l:=d.drop k) J (by unfold maxLen;omega) (λx hx=>U x (List.mem_of_mem_drop hx)) hown;refine⟨a,cap,by rw[Z,J],by rw[Z,J];exact hs,?_⟩;exact Below.grown (zb.alloc zr o) hg (by simp) (λk h=>by cases h)
theorem Ph(d:zI)(hd:d.length=60)(hw: ∀x∈d,(Lit.int .i64 x).wf=true)(w:zW):
  Calls prog 36 #[.agg (vC d)] w (fH w (bI d)):=by
 have U:=aj hd
 have b0:=aj hw
 have HZ:=aj (aa1 d)
 clear hd hw
 obtain⟨i0,hi,hz0,hz1,hz2⟩:=info_parts rX
 go_enter func36,ntmps36
 go_wp2
 go_loop[3] (λi=> ∃k:Nat,k<=60/\i=.int .i64 k/\ ∀j,j<k->d.getD j 0=0) (λi=>60-(intOf i).toNat)
 case atStart=>exact⟨0,by omega,rfl,by omega⟩
 case round=>
  obtain⟨k,hk,rfl,hz⟩:=hrel
  have HK:=aj hz
  clear hz
  by_cases hx:k<60/\d.getD k 0=0
  ·obtain⟨Z,hx⟩:=hx
   have b3:(k:Int)<60:=by omega
   have z:=ug d k (by rw[U.out];exact Z)
   have b4:Hid (∀j,j<k+1->d.getD j 0=0):=by
    intro j hj;by_cases e:j=k
    ·subst e;exact hx
    ·exact HK.out j (by omega)
   rw[hx]at z
   clear hx
   go_wp2
   go_round
   case rel=>exact⟨k+1,by omega,by go_num,b4.out⟩
   case measure=>simp[intOf];omega
  ·have HE:Hid (bI d=d.drop k):=HZ.out k (by rw[U.out];exact hk) HK.out (λh=>by rw[U.out]at h;exact λe=>hx ⟨h,e⟩)
   obtain⟨o,b5,ho⟩:=afz (k:Int) (by omega) (by omega)
   rw[Int.toNat_natCast]at b5
   have HO:Hid (k<60->o=k):=λh=>by have:=ho (by omega);omega
   clear ho
   have a1:Hid (((d.drop k).map (Value.int .i64)).length=(60-k)*1):=by show _=_;simp[U.out]
   have a2:Hid (∀j u,((d.drop k).map (Value.int .i64))[j]? =some u->(w.alloc (Obj.cells (vC d) 77)).cell? ((⟨w.heap.size,o,none⟩:Addr).add j)=some u):=by intro j u hu;have hj:j<60-k:=(by have:=(List.getElem?_eq_some_iff.1 hu).1;simp[U.out]at this;exact this);have b1:(⟨w.heap.size,o,none⟩:Addr).add j=⟨w.heap.size,o+j,none⟩:=(by unfold Addr.add;split<;>simp_all);rw[b1,HO.out (by omega),cell_of_row _ _ (k+j) (vC d) 77 (0,0) (zl w _)];rw[<-hu];simp[vC]
   have a7:Hid (∀u∈(d.drop k).map (Value.int .i64),u.oneCell'=true):=by intro u hu;simp only[List.mem_map]at hu;obtain⟨x,_,rfl⟩:=hu;rfl
   have b6:(k<60/\(d.getD k 0==0)=false)\/60<=k:=by
    by_cases e:k<60
    ·exact Or.inl ⟨e,by simpa using λh=>hx ⟨e,h⟩⟩
    ·exact Or.inr (by omega)
   clear hx HZ
   rcases b6 with⟨Z,hx⟩|Z
   ·have b3:(k:Int)<60:=by omega
    have z:=ug d k (by rw[U.out];exact Z)
    generalize d.getD k 0=y at z hx
    go_wp2_with (at_builtin;refine wpList_append_own _ rfl _ _ 24 rfl w.heap.size 3 i0 (.int .i64 0) 1 8 underlying24 hi hz0 hz1 hz2 rfl (by decide) _ _ _ rfl (World.ownsRow_nil _ _ _ _) ⟨w.heap.size,o,none⟩ (60-k) (60-k) ((d.drop k).map (Value.int .i64)) rfl a1.out a2.out a7.out (by unfold maxLen;omega) (by omega) (by simp) ?_;intro v' w3 hown J b2)
    go_ret
    exact Pg U.out b0.out HE.out hown J
   ·obtain rfl:k=60:=by omega
    have a6:Hid (((d.drop 60).map (Value.int .i64)).length=0*1):=a1.out
    have a8:Hid (∀j u,((d.drop 60).map (Value.int .i64))[j]? =some u->(w.alloc (Obj.cells (vC d) 77)).cell? ((⟨w.heap.size,0,none⟩:Addr).add j)=some u):=by intro j u hu;have h1:=(List.getElem?_eq_some_iff.1 hu).1;have h2:=a6.out;omega
    clear Z a1 a2 HO
    go_wp2_with (at_builtin;refine wpList_append_own _ rfl _ _ 24 rfl w.heap.size 3 i0 (.int .i64 0) 1 8 underlying24 hi hz0 hz1 hz2 rfl (by decide) _ _ _ rfl (World.ownsRow_nil _ _ _ _) ⟨w.heap.size,0,none⟩ 0 0 ((d.drop 60).map (Value.int .i64)) rfl a6.out a8.out a7.out (by unfold maxLen;omega) (by omega) (by simp) ?_;intro v' w3 hown J b2)
    go_ret
    exact Pg (k:=60) U.out b0.out HE.out hown J
theorem aF{W:zW}{len:Nat}(h:Sl w a len l)(hb:Below w.heap.size w W):Sl W a len l:=by
 obtain⟨h1,h2,h3,h4⟩:=h;refine⟨h1,h2,h3,?_⟩;rcases h4 with h4|⟨b,o,rfl,hc⟩
 ·exact Or.inl h4
 ·refine Or.inr ⟨b,o,rfl,λi hi=>?_⟩;have:=hc i hi;rw[hb.cell (p:=⟨b,o+i,none⟩) (zk w _ this)];exact this
theorem ak{a b:zW}(h:Below w.heap.size w a)(k:Below a.heap.size a b):Below w.heap.size w b:=h.trans (k.mono h.size)
theorem Dr(w:zW):Sl w none 0 []:=⟨rfl,by decide,by simp,Or.inl rfl⟩
theorem fV(w:zW)(x:Value)(t:TypeId): ∀j u,[x][j]? =some u->(w.alloc (.cells #[x] t)).cell? ((⟨w.heap.size,0,none⟩:Addr).add j)=some u:=by
 intro j u h;have J:j=0:=by have:=(List.getElem?_eq_some_iff.1 h).1;simp at this;exact this
 subst J;have z:(⟨w.heap.size,0,none⟩:Addr).add 0=⟨w.heap.size,0,none⟩:=by unfold Addr.add;split<;>simp_all
 rw[z,cell_of_row _ _ 0 _ t (0,0) (zl w _)];simpa using h
end Go.Proofs.YtceojneljnnooaaGreat
