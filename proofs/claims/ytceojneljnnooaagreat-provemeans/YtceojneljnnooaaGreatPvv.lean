import Derived.Test.YtceojneljnnooaaGreatZVh
import Derived.Test.YtceojneljnnooaaGreatZPwd
open Go.Proofs.Tryz
namespace Go.Proofs.YtceojneljnnooaaGreat
open Go.RowKit
set_option maxHeartbeats 0
set_option maxRecDepth 100000
set_option linter.all false
variable{N:zL}{a' a:zO}{E:zB}{w0:zW}{c':Nat}
def vF(cf:zI)(i:Nat):zI:=((List.range i).filter λj=>decide (cf.getD j 0≠0)).map λj:Nat=>(j:Int)
def cF(cf:zI)(i:Nat):zI:=(vF cf i).map λv=>cf.getD v.toNat 0
theorem aiQ{cf:zI}{i:Nat}(h:cf.getD i 0≠0):vF cf (i+1)=vF cf i++[(i:Int)]/\cF cf (i+1)=cF cf i++[cf.getD i 0]:=by
 have e:vF cf (i+1)=vF cf i++[(i:Int)]:=by unfold vF;rw[List.range_succ,List.filter_append,List.map_append,List.filter_cons_of_pos (by simpa using h)];rfl
 refine⟨e,?_⟩;unfold cF;rw[e,List.map_append,List.map_singleton,Int.toNat_natCast]
theorem aj2{cf:zI}{i:Nat}(h:cf.getD i 0=0):vF cf (i+1)=vF cf i/\cF cf (i+1)=cF cf i:=by
 have e:vF cf (i+1)=vF cf i:=by unfold vF;rw[List.range_succ,List.filter_append,List.map_append,List.filter_cons_of_neg (by simpa using h)];simp
 exact⟨e,by unfold cF;rw[e]⟩
theorem aiR(cf:zI)(i:Nat):(vF cf i).length<=i:=by unfold vF;rw[List.length_map];have:=List.length_filter_le (λj=>decide (cf.getD j 0≠0)) (List.range i);simpa using this
theorem XF{n:Nd}(z:n.op=1\/n.op=2)(h5:n.cf.length<=5):vF n.cf n.cf.length=aT (.gH n):=by
 refine rJ ?_ (Fu _) λx=>?_
 ·unfold vF;rw[List.pairwise_map];exact(List.pairwise_lt_range.sublist List.filter_sublist).imp (λh=>by omega)
 ·have hu:(Fm.gH n).jd x=(decide (x<(n.cf.length:Int))&&decide (n.cf.getD x.toNat 0≠0)):=by
   show(if(n.op=8\/n.op=9)/\n.var=x then false else dI n x)=_;rw[yN (by omega)];unfold dI;rw[yP z]
  rw[fK,hu,Bool.and_eq_true,decide_eq_true_iff,decide_eq_true_iff]
  unfold vF
  simp only[List.mem_map,List.mem_filter,List.mem_range,decide_eq_true_iff]
  constructor
  ·rintro⟨j,⟨h1,h2⟩,rfl⟩
   exact⟨by omega,by omega,by rw[Int.toNat_natCast];exact h2⟩
  ·rintro⟨h1,h2,h3⟩
   exact⟨x.toNat,⟨by omega,h3⟩,by omega⟩
def ZV(w0:zW)(P:Nat)(b t:Int)(a:zO)(c:Nat)(N:zL)(a':zO)(c':Nat)(E:zB)(z:zW):Prop:=w0.heap.size<=P/\z.heap[P]? =some (qM b t a N.length c a' N.length c')/\(∀W':zW,(∀x,w0.heap.size<=x->x≠P->x<z.heap.size->W'.heap[x]? =z.heap[x]?)->gT W' a N.length N/\mR W' a' N.length E)/\Below w0.heap.size w0 z
theorem ZV.auto{P:Nat}{b t:Int}{c:Nat}{z:zW}(h:ZV w0 P b t a c N a' c' E z):dS w0 a N.length N a' E z:=λW' J=>h.2.2.1 W' λx h1 _ h2=>J x h1 h2
theorem Rv{w1:zW}{b t:Int}{c:Nat}(J:dS w0 a N.length N a' E w1)(hb:Below w0.heap.size w0 w1):ZV w0 w1.heap.size b t a c N a' c' E (w1.alloc (qM b t a N.length c a' N.length c')):=
 ⟨hb.size,zl _ _,λW' z=>J W' λx h1 h2=>(z x h1 (by omega) (by simp;omega)).trans (Below.heap_alloc _ _ _ h2),hb.alloc hb.size _⟩
theorem Rw{Z w1:zW}{P:Nat}{b t:Int}{c:Nat}{o0 o1 o2 o3:Value}(hz:w1.heap[P]? =some (.cells #[o0,o1,o2,o3] 35 (0,0)))(hP:w0.heap.size<=P)(a6:P<Z.heap.size)(hn:dS Z a N.length N a' E w1)(hb:Below w0.heap.size w0 w1):
  ZV w0 P b t a c N a' c' E ((((w1.setCell ⟨P,0,none⟩ (.int .i64 b)).setCell ⟨P,1,none⟩ (.int .i64 t)).setCell ⟨P,2,none⟩ (.slice a N.length c)).setCell ⟨P,3,none⟩ (.slice a' N.length c')):=by
 obtain⟨⟨z,a1,J⟩,U⟩:=eO (v0:=.int .i64 b) (v1:=.int .i64 t) (v2:=.slice a N.length c) (v3:=.slice a' N.length c') hz rfl
 refine⟨hP,z,λW' a2=>hn W' λx h1 h2=>?_,U _ _ hb hP⟩
 rw[a2 x (by omega) (by omega) (by rw[a1];exact h2),J x (by omega)]
abbrev zAO:Obj:=qM 0 0 none 0 0 none 0 0
abbrev JK(b:Int)(z:zO)(J U:Nat)(aw:zO)(m cw:Nat):Obj:=.cells #[.int .i64 b,.slice z J U,.slice aw m cw] 66
theorem adR(j5:Cj)(X:List Nat)(s:Nat)(B:Nat)(b:Int)(os:List Om)(aL:zO)(nL cL:Nat)(aw:zO)(m cw:Nat)(n:Nd)(a:zO)(c:Nat)(w:zW)(hB:w.heap[B]? =some (JK b aL nL cL aw m cw))(d3:Sl w a n.cf.length n.cf)(hs:s<=w.heap.size)(hX: ∀x∈X,x<w.heap.size)(hl:n.op=1\/n.op=2)(f0:qo n=0)(b8:Gz (eX b os n)):
  Calls prog 40 #[.pointer (some ⟨B,0,none⟩),Bu n a c] w (nD X s w b (aT (.gH n)) (eX b os n)):=by
 have h5:=((dH f0).1.2.2.2.2.2.2 hl).1
 have z:eX b os n=⟨rW b (cF n.cf n.cf.length) n.num (decide (n.op=2)),KG b (cF n.cf n.cf.length) n.num (decide (n.op=2)),KH b (cF n.cf n.cf.length) n.num (decide (n.op=2))⟩:=by unfold eX cF;rw[yP hl,XF hl h5]
 have b9:=bG w (lK n a c) gL
 have c0:=aj (aP w (lK n a c) gL)
 have d4:=aj (aQ w (lK n a c) gL)
 have d5:=aj ((b9.block _ (zG hB).1).trans hB)
 have f1:=aj (aF d3 b9)
 have f2:=aj b9
 have f3:=aj hs
 have f5:=aj hX
 have f6:=d3.2.2.1
 have f7:=aj (λi=>@aiQ n.cf i)
 have f8:=aj (λi=>@aj2 n.cf i)
 have c4:=aj (λi=>aiR n.cf i)
 have c5:Hid (∀x∈vF n.cf n.cf.length,(Lit.int .i64 x).wf=true):=λx hx=>by unfold vF at hx;obtain⟨j,hj,rfl⟩:=List.mem_map.1 hx;have:=List.mem_range.1 (List.mem_filter.1 hj).1;exact WalkArith.wf_i64 (by omega)
 have f9:Hid (∀x∈cF n.cf n.cf.length,(Lit.int .i64 x).wf=true):=λx hx=>by unfold cF at hx;obtain⟨v,hv,rfl⟩:=List.mem_map.1 hx;unfold vF at hv;obtain⟨j,hj,rfl⟩:=List.mem_map.1 hv;have:=List.mem_range.1 (List.mem_filter.1 hj).1;rw[Int.toNat_natCast,aS _ _ this];exact f6 _ (List.getElem_mem this)
 have d6: ∀i,(cF n.cf i).length=(vF n.cf i).length:=λi=>by unfold cF;rw[List.length_map]
 have c6:=aj d6
 have hop:(n.op==2)=decide (n.op=2):=rfl
 obtain⟨vs,d7⟩: ∃l,l=aT (.gH n):=⟨_,rfl⟩
 have c7:vF n.cf n.cf.length=vs:=by rw[d7];exact XF hl h5
 have c8:=aj (λax la cx W (h:Sl W ax la (cF n.cf n.cf.length))=>j5 b ax la cx (cF n.cf n.cf.length) n.num (decide (n.op=2)) W h)
 rw[<-d7]
 have c9:(cF n.cf n.cf.length).length=vs.length:=by rw[d6,c7]
 obtain⟨q,hq⟩: ∃q,q=eX b os n:=⟨_,rfl⟩
 rw[<-hq]at z b8⊢
 have e1:rW b (cF n.cf n.cf.length) n.num (decide (n.op=2))=q.c:=by rw[z]
 have e2:KG b (cF n.cf n.cf.length) n.num (decide (n.op=2))=q.N:=by rw[z]
 have e3:KH b (cF n.cf n.cf.length) n.num (decide (n.op=2))=q.E:=by rw[z]
 rw[e1,e2,e3]at c8
 unfold dB at c8
 have d8:=aj (λa2 j6 J i9 d9 j7 W=>mI b (vs.length:Int) vs q b8 a2 j6 J i9 d9 j7 W)
 have g1:=aj (λ(wq w1 Wf:zW) (a2:zO) (J:zO) (d9:zO) (A:zO) (CA:Nat) (A':zO) (b1:Nat) (AV:zO) (CV:Nat)=>@pJ X w wq w1 Wf b vs q a2 J d9 s A CA A' b1 AV CV b8)
 have b2:Hid (n.cf.length<=5):=h5
 rw[c7]at c5
 have g2:=aj c7
 have e0:=aj c9
 clear hB d3 hs hX hl f0 b8 h5 z b9 f6 d6 d7 c7 c9 hq e1 e2 e3
 obtain⟨i0,g3,hz0,hz1,hz2⟩:=info_parts rX
 obtain⟨⟨x0,x1,x2,x3,x4,x5,x6⟩,-⟩:=bU c0.out
 unfold Bu
 generalize g4:(w.alloc (lK n a c)).alloc gL=w0 at c0 d4 d5 f1 f2 x0 x1 x2 x3 x4 x5 x6
 have d0:Hid (w0.heap.size=w.heap.size+2):=by show _=_;rw[<-g4];simp
 have j8:Hid (∀W,Below w0.heap.size w0 W->(W.cell? ⟨B,0,none⟩=some (.int .i64 b)/\W.cell? ⟨w.heap.size,5,none⟩=some (.int .i64 n.num)/\W.cell? ⟨w.heap.size,0,none⟩=some (.int .i64 n.op))):=λW h=>by obtain⟨⟨p0,-,-⟩,-⟩:=aJ ((h.block _ (zG d5.out).1).trans d5.out);obtain⟨⟨q0,-,-,-,-,q5,-⟩,-⟩:=bU ((h.block _ (zG c0.out).1).trans c0.out);exact⟨p0,q5,q0⟩
 go_enter func40,ntmps40
 go_wp2
 clear g4 x0 x1 x2 x3 x4 x5 x6
 go_loopw[6,7,15] (λv v' iv wx=> ∃i:Nat,i<=n.cf.length/\iv=.int .i64 (i:Int)/\Zv w0 (vF n.cf i) (cF n.cf i) v v' wx) (λ_ _ iv _=>n.cf.length-(intOf iv).toNat)
 case atStart=>exact⟨0,by omega,rfl,ac4 w0⟩
 case round=>
  obtain⟨i,hi,rfl,g5⟩:=hrel
  have U:=aj g5
  clear g5
  have l3:=b2.out
  by_cases j9:i<n.cf.length
  ·have j0:(i:Int)<(n.cf.length:Int):=by omega
   obtain⟨bb,oo,rfl,hc⟩:=bH (aF f1.out U.out.2.2.2) i j9
   have hy:=f7.out i
   have hz:=f8.out i
   generalize n.cf.getD i 0=y at hc hy hz
   by_cases h0:y=0
   ·have HT:=aj (hz h0)
    have k4:(y !=0)=false:=by simp[h0]
    clear hy hz h0
    go_wp2
    go_roundw
    case rel=>exact⟨i+1,by omega,by go_num,by rw[HT.out.1,HT.out.2];exact U.out⟩
    case measure=>simp[intOf];omega
   ·have HT:=aj (hy h0)
    have k4:(y !=0)=true:=by simpa using h0
    have b3:=aj (c4.out i)
    have b5:=aj (c6.out i)
    have b0:Hid (i<=5):=by have:=b2.out;show _<=_;omega
    have b6:=aj U.out.1
    have j1:=aj U.out.2.2.2.size
    clear hy hz h0
    obtain⟨k,hk⟩: ∃k,k=(vF n.cf i).length:=⟨_,rfl⟩
    rw[<-hk]at b6 b3 b5
    have HK:=aj hk
    clear hk
    go_wp2_with (first
     |(at_builtin;refine wpList_append_own_at _ rfl _ _ 24 rfl w0.heap.size 3 i0 (.int .i64 0) 1 8 underlying24 g3 hz0 hz1 hz2 rfl (by decide) _ k ((vF n.cf i).map (Value.int .i64)) rfl (b6.out.alloc _) ⟨wr.heap.size,0,none⟩ 1 1 [.int .i64 (i:Int)] rfl rfl (fV _ _ _) (λu hu=>by simp at hu;subst hu;rfl) (by have:=b3.out;have:=b0.out;unfold maxLen;omega) (by have:=b3.out;have:=b0.out;omega) (by have:=j1.out;simp;omega) ?_;intro v3 w6 hown Z _ z;have HX:=aj (Mg (JJ U.out (by rw[<-HK.out];exact hown) Z z));have e4:=aj HX.out.1;rw[b5.out]at e4;have k5:=aj HX.out.2.2.2.size;clear hown Z z b6)
     |(at_builtin;refine wpList_append_own_at _ rfl _ _ 24 rfl w0.heap.size 3 i0 (.int .i64 0) 1 8 underlying24 g3 hz0 hz1 hz2 rfl (by decide) _ k ((cF n.cf i).map (Value.int .i64)) rfl (e4.out.alloc _) ⟨w6.heap.size,0,none⟩ 1 1 [.int .i64 y] rfl rfl (fV _ _ _) (λu hu=>by simp at hu;subst hu;rfl) (by have:=b3.out;have:=b0.out;unfold maxLen;omega) (by have:=b3.out;have:=b0.out;omega) (by have:=k5.out;simp;omega) ?_;intro v4 w7 hown Z _ z;have HY:=aj (Mg (JJ HX.out (by rw[b5.out];exact hown) Z z));clear hown Z z e4 HX))
    go_roundw
    case rel=>exact⟨i+1,by omega,by go_num,by rw[HT.out.1,HT.out.2];exact HY.out⟩
    case measure=>simp[intOf];omega
  ·have j0: ¬(i:Int)<(n.cf.length:Int):=by omega
   obtain rfl:i=n.cf.length:=by omega
   obtain⟨w2,g6⟩: ∃w2:zW,w2=wr:=⟨_,rfl⟩
   rw[<-g6]at U⊢
   clear g6 wr
   have g7:=U.out.2.2.2
   have a6:=U.out.1
   have g8:=U.out.2.1
   rw[g2.out]at a6
   obtain⟨av,cv,rfl,g9⟩:=kJ rfl (by have:=e0.out;have:=c6.out n.cf.length;have:=c4.out n.cf.length;have:=b2.out;unfold maxLen;omega) c5.out a6
   obtain⟨ax,cx,rfl,i1⟩:=kJ rfl (by have:=c6.out n.cf.length;have:=c4.out n.cf.length;have:=b2.out;unfold maxLen;omega) f9.out g8
   have k6:Hid (∀W':zW,(∀x,w0.heap.size<=x->x<w2.heap.size->W'.heap[x]? =w2.heap[x]?)->Sl W' av vs.length vs):=λW' e5=>by have:=kJ rfl g9.1.2.1 c5.out (aX (w':=W') a6 (λx hx=>e5 x (a6.lt x hx).1 (a6.lt x hx).2));obtain⟨a3,c3,e,h3⟩:=this;injection e with e1 e2 e3;rw[e1];exact h3.1
   have b4:=aj g7
   have e6:=aj (λW (h:Below w2.heap.size w2 W)=>c8.out ax (cF n.cf n.cf.length).length cx W (aF i1.1 h))
   rw[e0.out]at e6⊢
   have a1:Hid (∀W,Below w2.heap.size w2 W->(W.cell? ⟨B,0,none⟩=some (.int .i64 b)/\W.cell? ⟨w.heap.size,5,none⟩=some (.int .i64 n.num)/\W.cell? ⟨w.heap.size,0,none⟩=some (.int .i64 n.op))):=λW h=>j8.out W (ak b4.out h)
   have HD:Hid (Below w2.heap.size w2 w2.drew):=zb.drew
   obtain⟨n0,n1,n2⟩:=a1.out (w2.alloc zAO) (zb.alloc zr _)
   clear a6 g8 g9 i1 g7 U c8 f7 f8 c4 c5 f9 c6 g2 e0 b2
   have k7:=aj (Below.refl w2.heap.size w2)
   go_upto_region 9 with fail
   go_cut[10,11] (λk8 k9 wx=> ∃P a2 c2 J a7,k8=.pointer (some ⟨P,0,none⟩)/\k9=bC q.c/\ZV w2 P (bK q.c b) (bK q.c (vs.length:Int)) a2 c2 q.N J a7 q.E wx)
   case first=>
    clear d8 g1
    go_region_held_law (λW=>W.cell? ⟨B,0,none⟩=some (.int .i64 b)/\W.cell? ⟨w.heap.size,5,none⟩=some (.int .i64 n.num)/\W.cell? ⟨w.heap.size,0,none⟩=some (.int .i64 n.op)) (first|exact a1.out _ HD.out|exact a1.out _ a8.out|exact a1.out _ (HD.out.alloc zr _)|exact a1.out _ (a8.out.alloc a8.out.size _)|exact a1.out _ ((((a8.out.setCell d1.out _).setCell d1.out _).setCell d1.out _).setCell d1.out _)) (first
     |(go_simp;go_at_call 57;refine(e6.out _ (by first|exact HD.out|exact HD.out.alloc zr _)).mono ?_;rintro e w4 ⟨a2,c2,J,a7,rfl,hn,d2⟩;have HN:=aj hn;have a8:Hid (Below w2.heap.size w2 w4):=(by first|exact HD.out.trans d2|exact(HD.out.alloc zr _).trans (d2.mono (by simp)));first|(have i2:Hid (w4.heap[w2.heap.size]? =some zAO):=((d2.block w2.heap.size (by simp)).trans (zl w2.drew zAO));obtain⟨⟨k0,k1,k2,k3⟩,kf⟩:=aC i2.out;have d1:Hid (w2.heap.size<=w2.heap.size):=zr)|skip;clear hn d2))
    all_goals
     go_wp2_with fail
     go_meet
     case rel=>
      first
       |exact⟨_,a2,c2,J,a7,rfl,rfl,Rv HN.out a8.out⟩
       |exact⟨_,a2,c2,J,a7,rfl,rfl,Rw i2.out zr (by simp) HN.out a8.out⟩
   case rest=>
    obtain⟨P,a2,c2,J,a7,rfl,rfl,e7⟩:=hcut
    have i4:=aj e7
    obtain⟨⟨y0,y1,y2,y3⟩,-⟩:=aC e7.2.1
    have i5:=aj (d8.out a2 c2 J a7 av cv wc)
    clear e7 a1 HD k7 n0 n1 n2 e6 d8
    go_wp2_with fail
    clear y0 y1 y2 y3
    refine i5.out.mono ?_
    rintro e w5 ⟨A,CA,A',b1,AV,CV,rfl,hA,e8⟩
    have l1:=aj hA
    have i6:=aj e8
    have b7:=aj (ak i4.out.2.2.2 e8)
    have i7:=aj (ak b4.out b7.out)
    have hr:=(i7.out.block _ (zG d4.out).1).trans d4.out
    obtain⟨⟨r0,r1,r2,r3,r4⟩,rf⟩:=aI hr
    have HR:=aj hr
    clear hA e8 hr i5
    go_wp2
    obtain⟨⟨j2,i8,e9⟩,j3⟩:=dK (v0:=.int .i64 (bK q.c b)) (v1:=.int .i64 (bK q.c (vs.length:Int))) (v2:=.slice A q.N.length CA) (v3:=.slice A' q.N.length b1) (v4:=.slice AV (jY q.c vs).length CV) HR.out rfl
    obtain⟨⟨z0,z1,z2,z3,z4⟩,-⟩:=aI j2
    have j4:=g1.out w2 wc _ a2 J av A CA A' b1 AV CV l1.out i4.out.auto (by have h1:=f3.out;have h2:=d0.out;have h3:=b4.out.size;omega) (λx hx=>by have h1:=f5.out x hx;have h2:=d0.out;have h3:=b4.out.size;omega) (by rw[i8];exact i6.out.size) (λx h1 h2=>by
     have h3:=d0.out;have h4:=b4.out.size;rw[e9 x (by omega)]
     exact i6.out.block x h2) (λW' e5=>k6.out W' (λx h1 h2=>by
     have h3:=d0.out;have h4:=f3.out;have h5:=b7.out.size;rw[e5 x (by omega) (λhx=>by have:=f5.out x hx;omega) (by rw[i8];omega),e9 x (by omega)];exact b7.out.block x h2)) (j3 w w.heap.size (ak f2.out i7.out) (by omega))
    exact bodyPost_ret (v:=.tuple #[wC (bK q.c b) (bK q.c (vs.length:Int)) A q.N.length CA A' q.N.length b1 AV (jY q.c vs).length CV,bC q.c]) (by simp[results,results40,go_sem,z0,z1,z2,z3,z4]) rfl j4
end Go.Proofs.YtceojneljnnooaaGreat
