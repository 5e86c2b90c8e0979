import Derived.Test.YtceojneljnnooaaGreatHe
import Derived.Shelf.Spec.SlicesGrow
open Go.Proofs.Tryz
namespace Go.Proofs.YtceojneljnnooaaGreat
open Go.RowKit
set_option maxHeartbeats 0
set_option maxRecDepth 100000
set_option linter.all false
def GH:Go.Shelf.Ren:=⟨fun|4=>95|n=>n,fun|0=>0|3=>3|4=>4|9=>9|20=>20|22=>24|25=>3|n=>n,λn=>n⟩
theorem adG:Lays8.n4 prog GH where
 mixed:=by kernel_rfl
 f4:=Exists.intro "slices.Grow[[]int,int]" (And.intro (by decide) (func95.trans (congrArg some (by kernel_rfl))))
 t0:=underlying0
 a0:=isAgg0
 z0:=sizeOf0
 v0:=zeroValue0
 t3:=underlying3
 a3:=isAgg3
 z3:=sizeOf3
 v3:=zeroValue3
 t4:=underlying4
 a4:=isAgg4
 z4:=sizeOf4
 v4:=zeroValue4
 t9:=underlying9
 a9:=isAgg9
 z9:=sizeOf9
 v9:=zeroValue9
 t20:=underlying20
 a20:=isAgg20
 z20:=sizeOf20
 v20:=zeroValue20
 t22:=underlying24
 a22:=isAgg24
 z22:=sizeOf24
 v22:=zeroValue24
def Rj(w:zW)(e:Ending)(w':zW):Prop:= ∃v,e=.returned v/\w'.ownsRow w.heap.size 3 1 v 0 []/\Below w.heap.size w w'
theorem Rk(n:Nat)(w:zW)(h0:0<n)(Z:n<=100000000):Calls prog 95 #[.slice none 0 0,.int .i64 (n:Int)] w (Rj w):=by obtain⟨i0,J,hz0,hz1,hz2⟩:=info_parts rX;have h:=Any8.slices_Grow_grow adG i0 (.int .i64 0) J hz0 (by omega) none 0 0 n [] w zr (by omega) (by rw[hz2];omega) (by omega) (by simp) (λ_=>rfl) (λa e=>by cases e);refine h.mono ?_;rintro e w' ⟨rfl,rfl⟩;rw[Nat.zero_add];have U:=grownCap_ge w n 0 (GH.t 25);have z:=grownCap_le_maxLen w n 0 (GH.t 25) (by unfold maxLen;omega);generalize grownCap w n 0 (GH.t 25)=G at U z;refine⟨_,rfl,⟨rfl,.inr ⟨w.heap.size,G,_,rfl,zr,zl w.drew _,by omega,z,?_,by simp⟩⟩,zb.drew.alloc zr _⟩;simp[Builtin.zeroCells,Value.cells];omega
def GI(w:zW)(l:zI)(e:Ending)(w':zW):Prop:= ∃v,e=.returned v/\w'.ownsRow w.heap.size 3 1 v l.length (l.map (Value.int .i64))/\Below w.heap.size w w'
theorem U3(Z vc:Nat)(a1:zO)(n1 c1:Nat)(l1:zI)(a2:zO)(z c2:Nat)(l2:zI)(w:zW)(a8:w.cell? ⟨Z,0,none⟩=some (.slice a1 n1 c1))(b0:w.cell? ⟨Z,1,none⟩=some (.slice a2 z c2))(h1:Sl w a1 n1 l1)(h2:Sl w a2 z l2)(hz1:a1=none->c1=0)(hz2:a2=none->c2=0)(hp:0<n1)(a6:n1<=1000)(c7:z<=1000):
  Calls prog 68 #[.slice (some ⟨Z,0,none⟩) 2 vc] w (GI w (l1++l2)):=by
 have HG:=aj (λn W h0 hn=>Rk n W h0 hn)
 unfold Rj at HG
 have H1:=aj h1
 have H2:=aj h2
 have c8:wrap64 ((0:Int)+(n1:Int))=(n1:Int):=by unfold wrap64;omega
 have c9:wrap64 ((n1:Int)+(z:Int))=((n1+z:Nat):Int):=by unfold wrap64;omega
 have d0:=h1.1
 have d1:=h2.1
 have b1:=aj a8
 have b2:=aj b0
 clear h1 h2
 go_enter func68,ntmps68
 go_wp2
 have c4: ¬((n1:Int)<0):=by omega
 have c5: ¬(((n1+z:Nat):Int)<0):=by omega
 refine wp_loop_rounds 3 ?_
 rw[rounds_succ]
 go_wp2
 rw[rounds_succ]
 go_wp2
 rw[rounds_succ]
 go_wp2_with (go_at_call 95;refine(HG.out (n1+z) _ (by omega) (by omega)).mono ?_;rintro e w1 ⟨v1,rfl,b3,a6⟩;have b4:=aj b3;have J:=aj a6;clear b3 a6)
 have b9:=(J.out.cell (p:=⟨Z,0,none⟩) (zk w _ b1.out)).trans b1.out
 clear a8 b0
 refine wp_loop_rounds 3 ?_
 rw[rounds_succ]
 go_wp2_with (at_builtin;refine oq rfl _ _ rfl w.heap.size v1 [] rfl b4.out a1 n1 c1 l1 rfl (aF H1.out J.out) hz1 (by simp) (by omega) J.out.size ?_;intro v2 w2 b5 b6;have a7:=aj b5;have U:=aj (Below.grown J.out b6 J.out.size (λk hk=>(b4.out.lt k hk).1));clear b5 b6)
 rw[List.nil_append]at a7
 have c6:=(U.out.cell (p:=⟨Z,1,none⟩) (zk w _ b2.out)).trans b2.out
 clear b9
 rw[rounds_succ]
 go_wp2_with (at_builtin;refine oq rfl _ _ rfl w.heap.size v2 l1 rfl a7.out a2 z c2 l2 rfl (aF H2.out U.out) hz2 (by omega) (by omega) U.out.size ?_;intro v3 w3 b7 b8;have c0:=aj b7;have c3:=aj (Below.grown U.out b8 U.out.size (λk hk=>(a7.out.lt k hk).1));clear b7 b8)
 rw[rounds_succ]
 go_wp2
 go_ret
 exact⟨v3,rfl,c0.out,c3.out⟩
def akC:Value->Nat
 |.slice _ n _=>n
 |_=>0
def ajZ(w:zW)(N:zL)(n:Nat)(J:zI)(v:Value)(z:zW):Prop:=
 ∃(M:Nat) (a:zO) (c:Nat),v=.slice a (bV n M).length c/\Dm w.heap.size z a (bV n M).length (bV n M)/\M<2^n/\M.testBit 0=true/\(∀s,M.testBit s=true->(kI N n J).testBit s=true)/\Below w.heap.size w z
theorem agU{N:zL}{n m:Nat}(hG:aK m n N){z:zI}(J: ∀x∈z,0<=x/\x<(m:Int))(s:Nat)(h:(2^0).testBit s=true):(kI N n z).testBit s=true:=by
 rw[Nat.testBit_two_pow]at h;have:s=0:=by simpa using(of_decide_eq_true h).symm
 subst this;exact adr hG J
theorem Rl{n M s:Nat}(h:M<2^n)(hb:M.testBit s=true):0<(bV n M).length:=by have hm:(s:Int)∈bV n M:=iA.2 ⟨by omega,by simpa using Nl h hb,by simpa using hb⟩;exact List.length_pos_of_mem hm
theorem XC{w:zW}{a:zO}{n:Nat}{l:zI}(h:Sl w a n l)(z:0<n): ∃ad,a=some ad:=by
 rcases h.2.2.2 with h0|⟨b,o,e,_⟩
 ·omega
 ·exact⟨_,e⟩
theorem Oj(b t:Int)(a:zO)(n cap:Nat)(a':zO)(k' a1:Nat)(m:Nat)(N:zL)(al:zO)(ll cl:Nat)(z:zI)(w:zW)(hs:gT w a n N)(hG:aK m n N)(hn:n<=80)(b4:Sl w al ll z)(hl: ∀x∈z,0<=x/\x<(m:Int))(g1:0<ll):
  Calls prog 137 #[.agg #[.int .i64 b,.int .i64 t,.slice a n cap,.slice a' k' a1],.slice al ll cl] w (fH w (bV n (kI N n z))):=by
 have g2:=hG.2.1
 have hL:=b4.1
 have a7:Hid (Below w.heap.size w (w.alloc (.cells #[.int .i64 b,.int .i64 t,.slice a n cap,.slice a' k' a1] 35))):=zb.alloc zr _
 have d0:=aj (λw'=>@Hl w w' (.int .i64 b) (.int .i64 t) (.slice a n cap) (.slice a' k' a1) 35)
 have HS:=aj hs
 have g3:=aj b4
 have d1:Hid (∀(M:Nat) (W:zW) (J:zO) (sc:Nat),Below w.heap.size w W->M<2^n->Sl W J (bV n M).length (bV n M)->Calls prog 138 #[.agg #[.int .i64 b,.int .i64 t,.slice a n cap,.slice a' k' a1],.slice J (bV n M).length sc,.slice al ll cl] W (fH W (bV n (kC N n z M)))):=λM W J sc hb hM b0=>by have h:=JB yG b t a n cap a' k' a1 m N J (bV n M).length sc (bV n M) al ll cl z W (aG hs hb) hG hn b0 (λx hx=>by have:=iA.1 hx;omega) (aF b4 hb) hl;rw[Xz hG hl M]at h;exact h
 unfold fH at d1
 have d2:=aj U3
 have e4:=aj yG
 unfold GI at d2
 have a6:=aj (λM=>Jo n M)
 have e5:Hid (∀M,M<2^n->M.testBit 0=true->0<(bV n (kC N n z M)).length):=λM hM h0=>by
  have hm:z.getD 0 0∈z:=by rw[aS _ 0 (by omega)];exact List.getElem_mem _
  have e6:fC N 0 (z.getD 0 0)<n:=zi hG (s:=0) (by omega) (v:=[z.getD 0 0]) (λy hy=>hl y (by simp at hy;rw[hy];exact hm));exact Rl (ru _ _ _ _) (jW.2 ⟨e6,0,by omega,h0,_,hm,rfl⟩)
 have e2:=aj (λM=>@Zu N n z M)
 have b9:=aj (λM h=>@agz N n z M h)
 have c0:=aj (λM s h=>@ac1 N n z M s h)
 have e7:=aj (λM h=>@agA m n N hG z hl M h)
 have e8:=aj (λM h1 h2 h3 h4=>@ac2 m n N hG z hl M h1 h2 h3 h4)
 have d3:Hid (∀M,∀x∈bV n M,(Lit.int .i64 x).wf=true):=λM x hx=>Go.WalkArith.wf_i64 (by have:=iA.1 hx;omega)
 generalize d4:w.alloc (.cells #[.int .i64 b,.int .i64 t,.slice a n cap,.slice a' k' a1] 35)=wb at a7 d0
 have g4:Hid (wb.heap.size=w.heap.size+1):=by show _=_;rw[<-d4];simp
 have d5:Hid (ajZ wb N n z (.slice (some ⟨wb.heap.size,0,none⟩) 1 1) (wb.alloc (.cells #[.int .i64 0] 3))):=by refine⟨2^0,some ⟨wb.heap.size,0,none⟩,1,by rw[Q0 (by omega)];rfl,?_,Nat.pow_lt_pow_right (by decide) (by omega),by decide,agU hG hl,zb.alloc zr _⟩;rw[Q0 (by omega)];have hh:=zl wb (.cells #[.int .i64 0] 3);exact⟨⟨rfl,by decide,by decide,Or.inr ⟨wb.heap.size,0,rfl,λi hi=>by have:i=0:=(by simpa using hi);subst this;exact cell_of_row _ _ _ _ _ (0,0) hh⟩⟩,λad e=>by cases e;exact zr⟩
 have e3:Hid (∀(M:Nat) (wx:zW) (ar:zO) (c:Nat),M=kI N n z->Dm wb.heap.size wx ar (bV n M).length (bV n M)->Below wb.heap.size wb wx->fH w (bV n (kI N n z)) (.returned (.slice ar (bV n M).length c)) wx):=λM wx ar c e h1 h2=>by rw[<-e];exact⟨ar,c,rfl,⟨h1.1,λad e=>Nat.le_trans a7.out.size (h1.2 ad e)⟩,a7.out.trans (h2.mono a7.out.size)⟩
 clear hs b4 hl hG hL
 go_enter func137,ntmps137
 go_wp2_with fail
 clear d4
 generalize wb.alloc (.cells #[.int .i64 0] 3)=W0 at d5⊢
 go_loopw[5] (λv wx=>ajZ wb N n z v wx) (λv _=>n-akC v)
 case atStart=>exact d5.out
 case round=>
  obtain⟨M,J,sc,rfl,b0,hM,h0,c4,b5⟩:=hrel
  have b6:=aj b0
  have c5:=aj c4
  have b1:=aj b5
  have HM:=aj hM
  have H0:=aj h0
  obtain⟨g5,g6,g7,g8⟩:=d0.out _ b5
  have e9:=aj (a7.out.trans (b5.mono a7.out.size))
  have HC:=aj (d1.out M wr J sc e9.out hM b0.1)
  have HP:=aj (e5.out M hM h0)
  have d6:=aj (Rl hM h0)
  clear b0 c4 b5 hM h0
  go_wp2_with (go_at_call 138;refine HC.out.mono ?_;rintro e w1 ⟨a2,c2,rfl,d7,b2⟩;have d8:=aj d7;have U:=aj b2;clear d7 b2)
  have Z:=aj ((Below.refl w1.heap.size w1).alloc zr (.cells #[.slice J (bV n M).length sc,.slice a2 (bV n (kC N n z M)).length c2] 24))
  have c6:=aj (zl w1 (.cells #[.slice J (bV n M).length sc,.slice a2 (bV n (kC N n z M)).length c2] 24))
  have f0:Hid (w1.heap.size+1=(w1.alloc (.cells #[.slice J (bV n M).length sc,.slice a2 (bV n (kC N n z M)).length c2] 24)).heap.size):=by show _=_;simp
  generalize w1.alloc (.cells #[.slice J (bV n M).length sc,.slice a2 (bV n (kC N n z M)).length c2] 24)=wc at Z c6 f0⊢
  refine(d2.out w1.heap.size 2 J (bV n M).length sc (bV n M) a2 (bV n (kC N n z M)).length c2 (bV n (kC N n z M)) wc (cell_of_row _ _ _ _ _ (0,0) c6.out) (cell_of_row _ _ _ _ _ (0,0) c6.out) (aF (aF b6.out.1 U.out) Z.out) (aF d8.out.1 Z.out) (λe=>by obtain⟨ad,h⟩:=XC b6.out.1 d6.out;rw[e]at h;cases h) (λe=>by obtain⟨ad,h⟩:=XC d8.out.1 HP.out;rw[e]at h;cases h) d6.out (by have:=a6.out M;omega) (by have:=a6.out (kC N n z M);omega)).mono ?_
  rintro e w2 ⟨v2,rfl,d9,b2⟩
  have f1:=aj d9
  have e0:=aj b2
  clear d9 b2
  have b7:=aj (e4.out wc.heap.size v2 (bV n M++bV n (kC N n z M)) w2 (by have:=a6.out M;have:=a6.out (kC N n z M);simp;omega) (λx hx=>by
   rcases List.mem_append.1 hx with h|h
   ·exact d3.out M x h
   ·exact d3.out _ x h) f1.out)
  unfold aiL at b7
  rw[e2.out M]at b7
  have e1:Hid (Below wb.heap.size wb w2):=((b1.out.trans (U.out.mono b1.out.size)).trans (Z.out.mono (Nat.le_trans b1.out.size U.out.size))).trans (e0.out.mono (by have h1:=b1.out.size;have h2:=U.out.size;have h3:=Z.out.size;omega))
  have c7:Hid (wb.heap.size<=wc.heap.size):=by have h1:=b1.out.size;have h2:=U.out.size;have h3:=Z.out.size;show _<=_;omega
  have f2:Hid (Below wr.heap.size wr w2):=(U.out.trans (Z.out.mono U.out.size)).trans (e0.out.mono (by have h2:=U.out.size;have h3:=Z.out.size;omega))
  have f3:Hid (wr.heap.size<=wc.heap.size):=by have h2:=U.out.size;have h3:=Z.out.size;show _<=_;omega
  by_cases b8:(bV n (yw N n z M)).length=(bV n M).length
  ·have f5:(((bV n (yw N n z M)).length:Int)==((bV n M).length:Int))=true:=by simp[b8]
   have f6:Hid (M=yw N n z M):=Q5 HM.out (b9.out M HM.out) (λs h=>c0.out M s h) (by omega)
   have f7:=aj (e8.out M HM.out H0.out c5.out f6.out.symm)
   clear b8
   go_wp2_with (go_at_call 148;refine b7.out.mono ?_;rintro e w3 ⟨a3,c3,rfl,b3,a8⟩;have c8:=aj b3;have c9:=aj (a8 wb wb.heap.size c7.out e1.out);have f8:=aj (a8 wr wr.heap.size f3.out f2.out);clear b3 a8)
   go_ret
   exact e3.out M w3 J sc f7.out ⟨aF b6.out.1 f8.out,b6.out.2⟩ c9.out
  ·have f5:(((bV n (yw N n z M)).length:Int)==((bV n M).length:Int))=false:=by
    rw[beq_eq_false_iff_ne];omega
   have f9:Hid (M≠yw N n z M):=λe=>b8 (by rw[<-e])
   clear b8
   go_wp2_with (go_at_call 148;refine b7.out.mono ?_;rintro e w3 ⟨a3,c3,rfl,b3,a8⟩;have c8:=aj b3;have c9:=aj (a8 wb wb.heap.size c7.out e1.out);clear b3 a8)
   go_roundw
   case rel=>exact⟨yw N n z M,a3,c3,rfl,⟨c8.out.1,λad e=>Nat.le_trans c7.out (c8.out.2 ad e)⟩,b9.out M HM.out,c0.out M 0 H0.out,e7.out M c5.out,c9.out⟩
   case measure=>
    have h1:=Q6 HM.out (b9.out M HM.out) (λs h=>c0.out M s h) f9.out
    have h2:=a6.out (yw N n z M)
    show n-(bV n (yw N n z M)).length<n-(bV n M).length
    omega
theorem sW{w:zW}{ops:Array Oper}{rest:List Oper}{o:Oper}{a:Act}{Q:Exit->Act->zW->Prop}(J:o.guard=none)(s x:Operand)(Z:o.op=.call {callee:=.builtin .append,args:=#[s,x],argTypes:=#[24,24]})(base:Nat)(v:Value)(xs:zI)(hs:a.eval s=v)(hown:w.ownsRow base 3 1 v xs.length (xs.map (Value.int .i64)))(U:zO)(m c:Nat)(l:zI)(hx:a.eval x=.slice U m c)(z:Sl w U m l)(a1:xs.length<=4000000)(a2:m<=4000000)(hbase:base<=w.heap.size)(h: ∀v' w',w'.ownsRow base 3 1 v' (xs++l).length ((xs++l).map (Value.int .i64))->w.grownBy w' v.ownBlock->wpList prog ops Q rest (a.put o.dst v') w'):wpList prog ops Q (o::rest) a w:=by
 cases U with
 |some ad=>exact oq J s x Z base v xs hs hown (some ad) m c l hx z (λe=>by cases e) a1 a2 hbase h
 |none=>
  obtain rfl:m=0:=by
   rcases z.2.2.2 with h0|⟨_,_,e,_⟩
   ·exact h0
   ·cases e
  obtain rfl:l=[]:=List.eq_nil_of_length_eq_zero z.1
  obtain⟨i,hi,-,-,-⟩:=info_parts rX
  refine Ae J s x 24 Z base 3 i 1 underlying24 hi v xs.length (xs.map (Value.int .i64)) hs hown c hx ?_
  exact h v w (by rw[List.append_nil];exact hown) ⟨rfl,rfl,rfl,zr,λ_ _ _=>rfl⟩
theorem ZP(w:zW):Calls prog 95 #[.slice none 0 0,.int .i64 0] w (Rj w):=by go_enter func95,ntmps95;go_wp2;go_ret;exact⟨.slice none 0 0,rfl,World.ownsRow_nil _ _ _ _,zb⟩
theorem ZQ(n:Nat)(w:zW)(z:n<=100000000):Calls prog 95 #[.slice none 0 0,.int .i64 (n:Int)] w (Rj w):=by
 by_cases h:n=0
 ·subst h;exact ZP w
 ·exact Rk n w (by omega) z
theorem Ru(Z vc:Nat)(a1:zO)(n1 c1:Nat)(l1:zI)(a2:zO)(z c2:Nat)(l2:zI)(w:zW)(a8:w.cell? ⟨Z,0,none⟩=some (.slice a1 n1 c1))(b0:w.cell? ⟨Z,1,none⟩=some (.slice a2 z c2))(h1:Sl w a1 n1 l1)(h2:Sl w a2 z l2)(a6:n1<=1000)(c7:z<=1000):
  Calls prog 68 #[.slice (some ⟨Z,0,none⟩) 2 vc] w (GI w (l1++l2)):=by
 have HG:=aj (λn W hn=>ZQ n W hn)
 unfold Rj at HG
 have H1:=aj h1
 have H2:=aj h2
 have c8:wrap64 ((0:Int)+(n1:Int))=(n1:Int):=by unfold wrap64;omega
 have c9:wrap64 ((n1:Int)+(z:Int))=((n1+z:Nat):Int):=by unfold wrap64;omega
 have d0:=h1.1
 have d1:=h2.1
 have b1:=aj a8
 have b2:=aj b0
 clear h1 h2
 go_enter func68,ntmps68
 go_wp2
 have c4: ¬((n1:Int)<0):=by omega
 have c5: ¬(((n1+z:Nat):Int)<0):=by omega
 refine wp_loop_rounds 3 ?_
 rw[rounds_succ]
 go_wp2
 rw[rounds_succ]
 go_wp2
 rw[rounds_succ]
 go_wp2_with (go_at_call 95;refine(HG.out (n1+z) _ (by omega)).mono ?_;rintro e w1 ⟨v1,rfl,b3,a6⟩;have b4:=aj b3;have J:=aj a6;clear b3 a6)
 have b9:=(J.out.cell (p:=⟨Z,0,none⟩) (zk w _ b1.out)).trans b1.out
 clear a8 b0
 refine wp_loop_rounds 3 ?_
 rw[rounds_succ]
 go_wp2_with (at_builtin;refine sW rfl _ _ rfl w.heap.size v1 [] rfl b4.out a1 n1 c1 l1 rfl (aF H1.out J.out) (by simp) (by omega) J.out.size ?_;intro v2 w2 b5 b6;have a7:=aj b5;have U:=aj (Below.grown J.out b6 J.out.size (λk hk=>(b4.out.lt k hk).1));clear b5 b6)
 rw[List.nil_append]at a7
 have c6:=(U.out.cell (p:=⟨Z,1,none⟩) (zk w _ b2.out)).trans b2.out
 clear b9
 rw[rounds_succ]
 go_wp2_with (at_builtin;refine sW rfl _ _ rfl w.heap.size v2 l1 rfl a7.out a2 z c2 l2 rfl (aF H2.out U.out) (by omega) (by omega) U.out.size ?_;intro v3 w3 b7 b8;have c0:=aj b7;have c3:=aj (Below.grown U.out b8 U.out.size (λk hk=>(a7.out.lt k hk).1));clear b7 b8)
 rw[rounds_succ]
 go_wp2
 go_ret
 exact⟨v3,rfl,c0.out,c3.out⟩
theorem ZR(base:Nat)(v:Value)(l:zI)(w:zW)(hl:l.length<=1000)(a8: ∀x∈l,(Lit.int .i64 x).wf=true)(hv:w.ownsRow base 3 1 v l.length (l.map (Value.int .i64))):
  Calls prog 69 #[v] w λe w'=>e=.returned (.tuple #[])/\(∀z,z<=base->z<=w.heap.size->Below z w w')/\Calls prog 70 #[v] w' λe2 w2=> ∃a c,e2=.returned (.slice a (oD l).length c)/\(∀W':zW,(∀x,base<=x->x<w2.heap.size->W'.heap[x]? =w2.heap[x]?)->Sl W' a (oD l).length (oD l))/\(∀z,z<=base->z<=w.heap.size->Below z w w2):=by
 rcases hv.2 with⟨rfl,h0⟩|⟨g,cap,cur,rfl,hg,hh,hc,b1,b5,ht⟩
 ·have e:l=[]:=List.eq_nil_of_length_eq_zero h0
  subst e
  refine(Any.slices_Sort_int_none CO none 0 w).mono ?_
  rintro e w' ⟨rfl,rfl⟩
  refine⟨rfl,λz _ hb=>zb.mono hb,(Any.slices_Compact_int_empty GD none 0 w').mono ?_⟩
  rintro e w2 ⟨rfl,rfl⟩
  refine⟨none,0,by rw[Cv];rfl,λW' _=>by rw[Cv];exact Dr _,λz _ hb=>zb.mono hb⟩
 ·obtain⟨zs,Z⟩: ∃zs,zs=l.mergeSort λx y=>decide (x<=y):=⟨_,rfl⟩
  have a1:zs.length=l.length:=by rw[Z];exact XA l
  have a7:g<w.heap.size:=(zG hh).1
  have h:=Any.slices_Sort_int CO g 0 cap l w (holds_of_blockI hh (by simpa using ht)) a7 (by omega)
  rw[<-Z]at h
  refine h.mono ?_
  rintro e w' ⟨rfl,n,os,a2⟩
  have H2:w'.heap[g]? =some (.cells (Sort.putCells (Value.int .i64) 0 zs.toArray cur) 3 (0,0)):=by rw[a2];exact heap_sortedI _ hh
  have H3:w.grownBy w' (some g):=by rw[a2];exact grownBy_sortedI _
  refine⟨rfl,λz h1 h2=>Below.grown ((Below.refl w.heap.size w).mono h2) H3 h2 (λk hk=>by cases hk;omega),?_⟩
  have h2:=Any.slices_Compact_int GD g 0 cap zs w' (holds_of_blockI H2 (take_putCellsI cur zs (by omega))) (by omega) (by omega)
  rw[a1]at h2
  refine h2.mono ?_
  rintro e w2 ⟨rfl,q,a6⟩
  have J:oD l=Lib.compact zs:=by unfold oD;rw[Z]
  have b6:(Lib.compact zs).length<=zs.length:=by rw[<-J,a1];exact QZ l
  obtain⟨ts,U⟩: ∃ts,ts=Lib.compact zs++List.replicate (zs.length-(Lib.compact zs).length) (0:Int):=⟨_,rfl⟩
  rw[a1]at U
  rw[<-U]at a6
  have b2:ts.length=zs.length:=by rw[U];simp;omega
  have hO:=ownsRow_sortedI (w:=w') (base:=base) (g:=g) (cap:=cap) (n:=q) (os:=#[]) (ss:=zs) (ts:=ts) b2 hg H2 (by omega) b1 (by simp[Sort.putCells];omega)
  have hG:=grownBy_sortedI (w:=w') (g:=g) (n:=q) (os:=#[]) ts.toArray
  rw[zH,<-a6]at hO hG
  refine⟨some ⟨g,0,none⟩,cap,by rw[J],λW' b3=>?_,λz h1 h2=>?_⟩
  ·have b4:=aX (w':=W') hO (λx hx=>b3 x (hO.lt x hx).1 (hO.lt x hx).2)
   refine⟨rfl,by rw[J];unfold maxLen;omega,λx hx=>a8 x (((jE l).2 x).1 hx),Or.inr ⟨g,0,rfl,λj hj=>?_⟩⟩
   rw[J]at hj⊢
   rw[Nat.zero_add,b4.cellAt j (by omega)]
   rw[U,List.map_append,List.getElem?_append_left (by simpa using hj)]
   simp[List.getD,hj]
  ·have k1:Below z w w':=Below.grown ((Below.refl w.heap.size w).mono h2) H3 h2 (λk hk=>by cases hk;omega)
   exact Below.grown k1 hG (by have:=H3.size;omega) (λk hk=>by cases hk;omega)
end Go.Proofs.YtceojneljnnooaaGreat
