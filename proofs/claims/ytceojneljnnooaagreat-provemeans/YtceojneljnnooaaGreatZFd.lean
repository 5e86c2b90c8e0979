import Derived.Test.YtceojneljnnooaaGreatZFb
import Derived.Deep.Slices
open Go.Proofs.Tryz
namespace Go.Proofs.YtceojneljnnooaaGreat
open Go.RowKit
set_option maxHeartbeats 0
set_option maxRecDepth 100000
set_option linter.all false
section
open Go.ChangeShapes Go.WideShapes Go.ChangeAt Go.RowKit Go.Joins Go.Deep
structure Om where
 b:Int
 N:zL
 O:zI
instance:Inhabited Om:=⟨⟨0,[],[]⟩⟩
def dh:Om:=⟨0,[],[]⟩
def OmC(W:zW)(b o:Nat)(m:Om)(a:zO)(c:Nat)(a':zO)(c':Nat):Prop:=
 W.cell? ⟨b,o,none⟩=some (.int .i64 m.b)/\W.cell? ⟨b,o+1,none⟩=some (.slice a m.N.length c)/\W.cell? ⟨b,o+2,none⟩=some (.slice a' m.O.length c')/\gT W a m.N.length m.N/\Sl W a' m.O.length m.O
def SlO(W:zW)(a:zO)(len:Nat)(os:List Om):Prop:=
 os.length=len/\len<=maxLen/\(len=0\/ ∃b o,a=some ⟨b,o,none⟩/\ ∀i,i<len-> ∃z c1 J c2,OmC W b (o+i*3) (os.getD i dh) z c1 J c2)
theorem outs_open{H:Type}{b2:TypeId × Value->H}{W:zW}{base:Nat}{held:Bool}{a7:Nat}{v:Value}{x:DataW H × List MemPlace}(h:DataW.trod b2 prog W base (λ_=>true) held a7 23 [v]=some x):
  ∃a len cap os,v=.slice a len cap/\SlO W a len os:=by
 rcases open_slice underlying23 h with⟨J,_⟩|⟨a,len,cap,m,n,D,Pl,J,hb,hl,hm,b3,_,hx⟩
 ·simp at J
  exact⟨none,0,0,[],J,rfl,by decide,Or.inl rfl⟩
 ·simp at J
  have b4:m=cap:=by simpa using b3
  subst b4
  have a8: ∀i,i<m-> ∃q:Om × (zO × Nat) × (zO × Nat),(W.cell? (a.add (i*3))=some (.int .i64 q.1.b)/\W.cell? (a.add (i*3+1))=some (.slice q.2.1.1 q.1.N.length q.2.1.2)/\W.cell? (a.add (i*3+2))=some (.slice q.2.2.1 q.1.O.length q.2.2.2))/\gT W q.2.1.1 q.1.N.length q.1.N/\Sl W q.2.2.1 q.1.O.length q.1.O:=by
   intro i hi;obtain⟨b5,h1,h2⟩:=hx i hi;rw[show prog.cellsOf 71=3 by kernel_rfl]at h1;obtain⟨_,hlen,z⟩:=World.cells?_some h1;obtain⟨xs,k,hk,b9,_,b6,hf⟩:=DataW.trod_struct underlying71 h2;match xs,b6,b5,hlen with
   |[y0,y1,y2],_,[c0,c1,c2],_=>
    have g0:=hf 0 _ rfl
    have g1:=hf 1 _ rfl
    have g2:=hf 2 _ rfl
    have ci:prog.cellsOf 3=1:=by kernel_rfl
    have cl:prog.cellsOf 24=1:=by kernel_rfl
    have cr:prog.cellsOf 32=1:=by kernel_rfl
    simp[ci,cl,cr]at g0 g1 g2
    obtain⟨z0,e0,_,w0⟩:=DataW.trod_int underlying3 g0
    obtain⟨a1,l1,k1,N,e1,U⟩:=Zh g1
    obtain⟨a2,l2,k2,O,e2,Z⟩:=LX g2
    simp at e0
    subst e0 e1 e2
    have b7:=U.1
    have b8:=Z.1
    subst b7 b8
    have q0:=z 0 (by decide)
    have q1:=z 1 (by decide)
    have q2:=z 2 (by decide)
    rw[add_add]at q0 q1 q2
    exact⟨(⟨z0,N,O⟩,(a1,k1),(a2,k2)),⟨by simpa using q0,by simpa using q1,by simpa using q2⟩,U,Z⟩
  obtain⟨q,hq⟩:=choose_lt a8
  refine⟨some a,len,m,(List.range len).map λi=>(q i).1,J,by simp,by omega,?_⟩
  by_cases h0:len=0
  ·exact .inl h0
  ·obtain⟨b,off,b0⟩:=a
   have a6:b0=none:=by simpa[Addr.add]using World.cell?_spot (hq 0 (by omega)).1.1
   subst a6
   refine .inr ⟨b,off,rfl,λi hi=>⟨(q i).2.1.1,(q i).2.1.2,(q i).2.2.1,(q i).2.2.2,?_⟩⟩
   have b1:((List.range len).map λi=>(q i).1).getD i dh=(q i).1:=by simp[List.getD,hi]
   rw[b1]
   obtain⟨⟨e0,e1,e2⟩,U,Z⟩:=hq i (by omega)
   rw[Go.WideShapes.add_plain]at e0 e1 e2
   exact⟨e0,by rw[Nat.add_assoc];exact e1,by rw[Nat.add_assoc];exact e2,U,Z⟩
end
section
variable{os:List Om}{a:zO}
def ahS(l:zI):Nat->Nat
 |0=>0
 |k+1=>if l.getD k 0=0 then ahS l k else k+1
def ajS(l:zI):zI:=l.take (ahS l l.length)
def aky:zI:=[0,0,0,0,0]
def ajT(z cf:zI):Nat->zI
 |0=>aky
 |k+1=>(ajT z cf k).set (z.getD k 0).toNat (cf.getD k 0)
def akz(z cf:zI):zI:=ajT z cf cf.length
def aix(z:zI)(n:Nd):Nd:=⟨n.op,if n.op=3\/n.op=4\/n.op=8\/n.op=9 then z.getD n.var.toNat 0 else n.var,if n.op=4 then z.getD n.gV.toNat 0 else n.gV,n.wd,n.wd2,n.num,ajS (akz z n.cf)⟩
theorem Jf{l:zI}{i:Nat}(h:l.length<=i):l.getD i 0=0:=by simp[List.getD,h]
theorem LY(l:zI)(m i:Nat):(l.take m).getD i 0=if i<m then l.getD i 0 else 0:=by
 by_cases h:i<m
 ·rw[yP h];simp[List.getD,h]
 ·rw[yN h];exact Jf (by rw[List.length_take];omega)
theorem gK{W W':zW}{len:Nat}(h:SlO W a len os)(hb:Below W.heap.size W W'):SlO W' a len os:=by
 obtain⟨h1,h2,h4⟩:=h;refine⟨h1,h2,?_⟩;rcases h4 with h4|⟨b,o,e,h4⟩
 ·exact .inl h4
 ·refine .inr ⟨b,o,e,λi hi=>?_⟩;obtain⟨J,c1,U,c2,h5,Z,h7,h8,h9⟩:=h4 i hi;have z: ∀(k:Nat) (v:Value),W.cell? ⟨b,k,none⟩=some v->W'.cell? ⟨b,k,none⟩=some v:=λk v h=>(hb.cell (p:=⟨b,k,none⟩) (zk W _ h)).trans h;exact⟨J,c1,U,c2,z _ _ h5,z _ _ Z,z _ _ h7,aG h8 hb,aF h9 hb⟩
theorem pz{W:zW}{len:Nat}(h:SlO W a len os)(i:Nat)(hi:i<len): ∃b o z c1 J c2,a=some ⟨b,o,none⟩/\OmC W b (o+i*3) (os.getD i dh) z c1 J c2:=by
 rcases h.2.2 with h4|⟨b,o,e,h4⟩
 ·omega
 ·obtain⟨z,c1,J,c2,hc⟩:=h4 i hi;exact⟨b,o,z,c1,J,c2,e,hc⟩
def Gv(base:Int)(m:Om):Int:=if dJ m.b m.N m.O=0 then(if 0<base/\m.b≠base then 2 else 0)else dJ m.b m.N m.O
def yg(k:Nat)(n:Nd):Prop:=((n.op=3\/n.op=4)/\n.wd≥(k:Int))\/(n.op=4/\n.wd2≥(k:Int))
instance (k:Nat) (n:Nd):Decidable (yg k n):=by unfold yg;exact inferInstance
def zy(ns:List Nd)(os:List Om)(base:Int):Int:=if 3<os.length then 3 else if jl (os.map (Gv base))=0 then(if(ns.all λn=>decide (¬yg os.length n))=true then 0 else 4)else jl (os.map (Gv base))
theorem zA(base:Int){k:Nat}(h:k<os.length):(os.map (Gv base)).getD k 0=Gv base (os.getD k dh):=by simp[List.getD,h]
theorem Xd{ns:List Nd}{os:List Om}{base:Int}(h3: ¬3<os.length){k:Nat}(z:k<os.length)(h: ∀j,j<k->Gv base (os.getD j dh)=0)(hc:Gv base (os.getD k dh)≠0):zy ns os base=Gv base (os.getD k dh):=by have e:=vH (os.map (Gv base)) k (λj J=>by rw[zA base (by omega)];exact h j J) (by simpa using z) (by rw[zA base z];exact hc);rw[zA base z]at e;unfold zy;rw[yN h3,e,yN hc]
theorem QL{ns:List Nd}{os:List Om}{base:Int}(h3: ¬3<os.length)(h: ∀j,j<os.length->Gv base (os.getD j dh)=0):zy ns os base=if(ns.all λn=>decide (¬yg os.length n))=true then 0 else 4:=by
 have e:=qQ (os.map (Gv base)) (λj J=>by
  have z:j<os.length:=by simpa using J
  rw[zA base z];exact h j z)
 unfold zy;rw[yN h3,yP e]
theorem agp(ns:List Nd)(m:Nat){k:Nat}(h:k<ns.length):((ns.take (k+1)).all λn=>decide (¬yg m n))=(((ns.take k).all λn=>decide (¬yg m n))&&decide (¬yg m (ns.getD k oL))):=by rw[List.take_succ_eq_append_getElem h,List.all_append];simp[List.getD,h]
def gY(os:List Om)(nums:zI)(n:Nd):Bool:=
 if n.op=1 then jQ n.num false (iH n.cf (λi=>nums.getD i 0) n.cf.length)
 else if n.op=2 then jQ n.num true (iH n.cf (λi=>nums.getD i 0) n.cf.length)
 else if n.op=3 then decide (AL (os.getD n.wd.toNat dh).b (os.getD n.wd.toNat dh).N (os.getD n.wd.toNat dh).O (nums.getD n.var.toNat 0)=n.num)
 else if n.op=4 then decide (AL (os.getD n.wd.toNat dh).b (os.getD n.wd.toNat dh).N (os.getD n.wd.toNat dh).O (nums.getD n.var.toNat 0)=AL (os.getD n.wd2.toNat dh).b (os.getD n.wd2.toNat dh).N (os.getD n.wd2.toNat dh).O (nums.getD n.gV.toNat 0))
 else false
def Fm.yh(os:List Om)(nums:zI):Fm->Bool
 |.gH n=>gY os nums n
 |.un _ f=>!f.yh os nums
 |.bin n f g=>if n.op=6 then f.yh os nums&&g.yh os nums else f.yh os nums||g.yh os nums
def AP(t:Fm)(k:Nat):Bool:=(aT t).any λv=>decide ((k:Int)<=v)
theorem acK(l:zI)(f:Nat->Int){k m:Nat}(h:k<=m)(h2:l.length<=k):iH l f m=iH l f k:=by
 induction m with
 |zero=>
  obtain rfl:k=0:=by omega
  rfl
 |succ m z=>
  by_cases e:k=m+1
  ·subst e;rfl
  ·rw[iH,z (by omega),Jf (by omega)];simp
theorem Zn(l:zI)(f:Nat->Int)(h:l.length<=5):iH l f l.length=l.getD 0 0*f 0+l.getD 1 0*f 1+l.getD 2 0*f 2+l.getD 3 0*f 3+l.getD 4 0*f 4:=by rw[<-acK l f h zr];simp only[iH,Int.zero_add]
def Fm.ren(z:zI):Fm->Fm
 |.gH n=>.gH (aix z n)
 |.un n f=>.un (aix z n) (f.ren z)
 |.bin n f g=>.bin (aix z n) (f.ren z) (g.ren z)
theorem aiy(t:Fm)(h:t.ok): ∀n∈t.flat,qo n=0:=by
 induction t with
 |gH n=>intro m hm;simp[Fm.flat]at hm;subst hm;exact h.1
 |un n f U=>
  intro m hm
  simp[Fm.flat]at hm
  rcases hm with rfl|hm
  ·exact h.1
  ·exact U h.2.2 m hm
 |bin n f g z J=>
  intro m hm
  simp[Fm.flat]at hm
  rcases hm with rfl|hm|hm
  ·exact h.1
  ·exact z h.2.2.1 m hm
  ·exact J h.2.2.2 m hm
theorem fK(t:Fm)(v:Int):v∈aT t↔(0<=v/\v<5)/\t.jd v=true:=by
 unfold aT;rw[List.mem_filter];have:v∈([0,1,2,3,4]:zI)↔0<=v/\v<5:=by simp;omega
 rw[this]
end
section
open Go.ChangeShapes Go.WideShapes Go.ChangeAt Go.RowKit Go.Joins Go.Deep
instance:Inhabited Nd:=⟨oL⟩
theorem nodes_open{H:Type}{b0:TypeId × Value->H}{W:zW}{base:Nat}{held:Bool}{a2:Nat}{v:Value}{x:DataW H × List MemPlace}(h:DataW.trod b0 prog W base (λ_=>true) held a2 22 [v]=some x):
  ∃a len cap ns,v=.slice a len cap/\SlF W a len ns:=by
 rcases open_slice underlying22 h with⟨J,_⟩|⟨a,len,cap,m,n,D,Pl,J,hb,hl,hm,b1,_,hx⟩
 ·simp at J
  exact⟨none,0,0,[],J,rfl,by decide,(λn hn=>by cases hn),Or.inl rfl⟩
 ·simp at J
  have b2:m=cap:=by simpa using b1
  subst b2
  have a6: ∀i,i<m-> ∃q:Nd × zO × Nat,Je q.1/\(W.cell? (a.add (i*7))=some (.int .i64 q.1.op)/\W.cell? (a.add (i*7+1))=some (.int .i64 q.1.var)/\W.cell? (a.add (i*7+2))=some (.int .i64 q.1.gV)/\W.cell? (a.add (i*7+3))=some (.int .i64 q.1.wd)/\W.cell? (a.add (i*7+4))=some (.int .i64 q.1.wd2)/\W.cell? (a.add (i*7+5))=some (.int .i64 q.1.num)/\W.cell? (a.add (i*7+6))=some (.slice q.2.1 q.1.cf.length q.2.2))/\Sl W q.2.1 q.1.cf.length q.1.cf:=by
   intro i hi;obtain⟨b3,h1,h2⟩:=hx i hi;rw[show prog.cellsOf 30=7 by kernel_rfl]at h1;obtain⟨_,hlen,z⟩:=World.cells?_some h1;obtain⟨xs,k,hk,b6,_,b4,U⟩:=DataW.trod_struct underlying30 h2;match xs,b4,b3,hlen with
   |[y0,y1,y2,y3,y4,y5,y6],_,[c0,c1,c2,c3,c4,c5,c6],_=>
    have g0:=U 0 _ rfl
    have g1:=U 1 _ rfl
    have g2:=U 2 _ rfl
    have g3:=U 3 _ rfl
    have g4:=U 4 _ rfl
    have g5:=U 5 _ rfl
    have g6:=U 6 _ rfl
    have ci:prog.cellsOf 3=1:=by kernel_rfl
    have cl:prog.cellsOf 24=1:=by kernel_rfl
    simp[ci,cl]at g0 g1 g2 g3 g4 g5 g6
    obtain⟨z0,Z,_,w0⟩:=DataW.trod_int underlying3 g0
    obtain⟨z1,e1,_,w1⟩:=DataW.trod_int underlying3 g1
    obtain⟨z2,e2,_,w2⟩:=DataW.trod_int underlying3 g2
    obtain⟨z3,e3,_,w3⟩:=DataW.trod_int underlying3 g3
    obtain⟨z4,e4,_,w4⟩:=DataW.trod_int underlying3 g4
    obtain⟨z5,e5,_,w5⟩:=DataW.trod_int underlying3 g5
    obtain⟨a',l',c',cf,e6,hs⟩:=LX g6
    simp at Z e1 e2 e3 e4 e5
    subst Z e1 e2 e3 e4 e5 e6
    have b5:=hs.1
    subst b5
    have q0:=z 0 (by decide)
    have q1:=z 1 (by decide)
    have q2:=z 2 (by decide)
    have q3:=z 3 (by decide)
    have q4:=z 4 (by decide)
    have q5:=z 5 (by decide)
    have q6:=z 6 (by decide)
    rw[add_add]at q0 q1 q2 q3 q4 q5 q6
    refine⟨(⟨z0,z1,z2,z3,z4,z5,cf⟩,a',c'),λx hx=>?_,⟨by simpa using q0,by simpa using q1,by simpa using q2,by simpa using q3,by simpa using q4,by simpa using q5,by simpa using q6⟩,hs⟩
    simp at hx
    rcases hx with rfl|rfl|rfl|rfl|rfl|rfl<;>assumption
  obtain⟨q,hq⟩:=choose_lt a6
  refine⟨some a,len,m,(List.range len).map λi=>(q i).1,J,by simp,by omega,λx hx=>?_,?_⟩
  ·obtain⟨i,hi,rfl⟩:=List.mem_map.1 hx
   exact(hq i (by have:=List.mem_range.1 hi;omega)).1
  ·by_cases h0:len=0
   ·exact .inl h0
   ·obtain⟨b,off,a7⟩:=a
    have a1:a7=none:=by simpa[Addr.add]using World.cell?_spot (hq 0 (by omega)).2.1.1
    subst a1
    refine .inr ⟨b,off,rfl,λi hi=>⟨(q i).2.1,(q i).2.2,?_⟩⟩
    have a8:((List.range len).map λi=>(q i).1).getD i oL=(q i).1:=by simp[List.getD,hi]
    rw[a8]
    obtain⟨-,⟨Z,e1,e2,e3,e4,e5,e6⟩,hs⟩:=hq i (by omega)
    rw[Go.WideShapes.add_plain]at Z e1 e2 e3 e4 e5 e6
    exact⟨Z,by rw[Nat.add_assoc];exact e1,by rw[Nat.add_assoc];exact e2,by rw[Nat.add_assoc];exact e3,by rw[Nat.add_assoc];exact e4,by rw[Nat.add_assoc];exact e5,by rw[Nat.add_assoc];exact e6,hs⟩
theorem nodes_cap{H:Type}{U:TypeId × Value->H}{W:zW}{base:Nat}{held:Bool}{J:Nat}{a:zO}{len cap:Nat}{x:DataW H × List MemPlace}(h:DataW.trod U prog W base (λ_=>true) held J 22 [.slice a len cap]=some x):len<=cap:=by
 rcases open_slice underlying22 h with⟨z,_⟩|⟨_,_,_,_,_,_,_,z,_,Z,_⟩
 ·simp at z;omega
 ·simp at z;omega
end
end Go.Proofs.YtceojneljnnooaaGreat
