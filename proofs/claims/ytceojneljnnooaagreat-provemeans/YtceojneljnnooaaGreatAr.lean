import Derived.Test.YtceojneljnnooaaGreatZz
import Derived.LoopIn
import Derived.LoopNIn
import Derived.OwnWalkIn
import Derived.RangeFuncBound
import Derived.RangeFuncCalls
import Derived.RangeFuncLeaves
import Derived.RangeFuncNested
import Derived.Shelf.Abstract
import Derived.Shelf.RegionOpen
import Derived.TacticsInMore
import Derived.WalkKit
namespace Go.Proofs.YtceojneljnnooaaGreat
open Go.RowKit
set_option maxHeartbeats 0
set_option maxRecDepth 100000
set_option linter.all false
open Go.RowKit Go.Shelf
variable{α:Type}
def BZ(J:(Nat->Prop)->List α->zW->Prop):Prop:=
 ∀X Y s W W' row,J X s W->W.grownBy W' row->(∀r,row=some r->X r)->(∀r,Y r->X r\/(W.heap.size<=r/\r<W'.heap.size))->J Y s W'
theorem BZ.alloc{J:(Nat->Prop)->List α->zW->Prop}(h:BZ J){X:Nat->Prop}{s:List α}{W:zW}(o:Obj)(z:J X s W):J X s (W.alloc o):=
 h X X s W _ none z (World.grownBy_alloc W o none) (λ_ e=>by cases e) (λ_ U=>.inl U)
def xP(z:Nat)(X:Nat->Prop)(W W':zW):Prop:=(∀r,X r->r<W.heap.size->W'.heap[r]? =W.heap[r]?)/\Below z W W'
theorem xP.trans{z:Nat}{X:Nat->Prop}{A B C:zW}(h:xP z X A B)(k:xP z X B C):xP z X A C:=
 ⟨λr J U=>(k.1 r J (Nat.lt_of_lt_of_le U h.2.size)).trans (h.1 r J U),h.2.trans k.2⟩
def Wo(F:Fence)(n:Nat)(P:Program)(g:Nat)(lb:Array Value)(z:α->Array Value)(U:Nat)(Z:Nat->Prop)(S:List α->Prop)(N:Nat)(w:zW):Prop:=
 ∀(l:Nat) (J:(Nat->Prop)->List α->zW->Prop) (W:zW),Below w.heap.size w W->BZ J->
  (∀X iI x W1,J X iI W1->iI.length<N->YieldAt F (n-1) P l (z x) W1 λe W'=>e=.returned (.bool true)/\J X (iI++[x]) W'/\xP U X W1 W')->
  J Z [] W->
  CallsIn F n P g (#[.func (.yield l) #[] #[]]++lb) W λe W'=>(∃v,e=.returned v)/\ ∃xs X,S xs/\J X xs W'
def ajL(z:Nat)(I:(Nat->Prop)->List α->zW->Prop)(X:Nat->Prop)(xs:List α)(W:zW):Exit->Act->zW->Prop
 |.normal,_,W'=>KeepsOthers W W'/\xP z X W W'/\I X xs W'
 |.ret,_,_=>False
 |.exit _,_,_=>False
 |.goto _,_,_=>False
 |.panic _,_,_=>False
 |.outgrown,_,_=>False
theorem zZ{F:Fence}{n:Nat}{P:Program}{g:Operand}{ps:Array Tmp}{assign body:Code}{Q:Exit->Act->zW->Prop}{a:Act}{w:zW}(c7:F.round=none)(h1:1<=n){gf:Nat}{lb:Array Value}(hg:a.eval g=.func (.func gf) #[] lb)(c8:F.fn gf)(eg: ∀args w,(callFunc gf args).run P w=.ok (.enter gf args) w){a1:α->Array Value}{n₀:Nat}{X₀:Nat->Prop}{S:List α->Prop}{N:Nat}(c4:Wo F (n-1) P gf lb a1 n₀ X₀ S N w)(d9:n₀<=w.heap.size)(b6: ∀r,X₀ r->r<w.heap.size)(c9: ∀x,(a1 x).size=ps.size)(I:(Nat->Prop)->List α->zW->Prop)(hI:BZ I)(b0: ∀X s W l o o',I X s W->w.heap.size<=l->W.heap[l]? =some o->o.isCells=false->I X s (W.putObj l o'))(h0:I X₀ [] w)(a₁:α->Act)(a8: ∀(l:Nat) (x:α) (W:zW) (K:Act->zW->Prop),K (a₁ x) W->
   assign.wpIn (F.inRound l) (n-1-1) P (Exit.then K (λ_ _ _=>False)) {tmps:=(ps.zip (a1 x)).foldl (λt (p,v)=>t.setIfInBounds p v) a.tmps,defers:=[]} W)(b4: ∀(l:Nat) (X:Nat->Prop) (iI:List α) (x:α) (W:zW),I X iI W->iI.length<N->body.wpIn (F.inRound l) (n-1-1) P (ajL n₀ I X (iI++[x]) W) (a₁ x) W)(b5: ∀(D:Nat) (xs:List α) (X:Nat->Prop) (W:zW),w.heap.size<=D->S xs->I X xs W->W.heap[D]? =some (.deferred (some []))->Q .normal {a with defers:={target:=.collected D,args:=#[]}::a.defers} W):
  (Code.rangeFunc g ps assign body).wpIn F n P Q a w:=by
 refine wpIn_rangeFunc ?_
 intro fn d0
 rw[c7]
 obtain⟨z,J⟩: ∃z:LoopState->Option Code->Loop,z=λst pe=>{state:=st,pending:=pe,fn,tmps:=a.tmps,params:=ps,assign,body,defers:=w.heap.size}:=⟨_,rfl⟩
 obtain⟨W1,a2⟩: ∃W1,(w.alloc (.deferred (some []))).alloc (.loop (z .ready none))=W1:=⟨_,rfl⟩
 have d1:W1.heap[w.heap.size+1]? =some (.loop (z .ready none)):=by rw[<-a2];have:=World.alloc_heap_new (w.alloc (.deferred (some []))) (.loop (z .ready none));rwa [World.size_alloc]at this
 have d2:W1.heap[w.heap.size]? =some (.deferred (some [])):=by rw[<-a2];exact(Below.heap_alloc _ _ _ (by simp)).trans (World.alloc_heap_new w _)
 have d3:I X₀ [] W1:=by rw[<-a2];exact hI.alloc _ (hI.alloc _ h0)
 have d4:Below w.heap.size w W1:=by rw[<-a2];exact((Below.refl _ w).alloc zr _).alloc (by simp) _
 refine⟨w.heap.size+1,[{target:=.collected w.heap.size,args:=#[]}],W1,{target:=.fn (.func gf) lb,args:=#[.func (.yield (w.heap.size+1)) #[] #[]]},W1,gf,
  #[.func (.yield (w.heap.size+1)) #[] #[]]++lb,W1,?_,?_,?_,?_,λ_=>h1,?_⟩
 ·rw[<-a2,J];exact run_enterLoop_outer _ _ _ _ _
 ·simp only[resolve,hg]
  simp[go_sem]
 ·intro f' b7;simp[Target.leads]at b7;subst b7;exact c8
 ·simp[invoke,go_sem,eg]
 ·have b1: ∀(X:Nat->Prop) (W:zW) (o o':Obj),¬X (w.heap.size+1)->W.heap[w.heap.size+1]? =some o->xP n₀ X W (W.putObj (w.heap.size+1) o'):=λX W o o' hx U=>
   ⟨λr hr _=>World.putObj_heap_other (λe=>hx (by rw[<-e];exact hr)),(Below.refl n₀ W).grown (grownBy_putObj' W _ o') (by have:=(zG U).1;omega) (λk e=>by cases e;omega)⟩
  refine(c4 (w.heap.size+1)
   (λX iI W=>I X iI W/\W.heap[w.heap.size+1]? =some (.loop (z .ready none))/\W.heap[w.heap.size]? =some (.deferred (some []))/\ ¬X (w.heap.size+1)/\ ¬X w.heap.size)
   W1 d4 ?_ ?_ ⟨d3,d1,d2,λh=>by have:=b6 _ h;omega,λh=>by have:=b6 _ h;omega⟩).mono ?_
  ·rintro X Y s A B row ⟨hi,U,hk,Z,a6⟩ b2 hr hm
   have c5:=(zG U).1
   have c6:=(zG hk).1
   refine⟨hI X Y s A B row hi b2 hr hm,(b2.block _ c5 (λe=>Z (hr _ e.symm))).trans U,(b2.block _ c6 (λe=>a6 (hr _ e.symm))).trans hk,λhy=>?_,λhy=>?_⟩
   ·rcases hm _ hy with h|h
    ·exact Z h
    ·omega
   ·rcases hm _ hy with h|h
    ·exact a6 h
    ·omega
  ·rintro X iI x W ⟨hi,U,hk,Z,a6⟩ hlen
   have d5:w.heap.size+1<W.heap.size:=(zG U).1
   have hy:=run_yield (P:=P) (args:=a1 x) U (by rw[J];exact c9 x)
   rw[J]at hy
   refine⟨fn,_,assign,body,hy,roundIn_of_wpIn d0 (a8 _ x W _ ⟨_,run_beginRound U (by rw[J]),?_⟩)⟩
   have d6:(W.putObj (w.heap.size+1) (.loop {z .ready none with state:=.busy})).heap[w.heap.size+1]? =some (.loop {z .ready none with state:=.busy}):=World.putObj_heap_same d5
   have d7:(W.putObj (w.heap.size+1) (.loop {z .ready none with state:=.busy})).heap[w.heap.size]? =some (.deferred (some [])):=(World.putObj_heap_other (by omega)).trans hk
   have b8:xP n₀ X W (W.putObj (w.heap.size+1) (.loop {z .ready none with state:=.busy})):=b1 X W _ _ Z U
   refine wpIn_mono (b4 _ X iI x _ (b0 _ _ _ _ _ _ hi (by omega) U rfl) hlen) ?_
   rintro e a3 W3 hp
   cases e with
   |normal=>
    obtain⟨b9,b3,d8⟩:=hp
    have a7:=b9.same _ _ d6 rfl
    have hr:=run_endRound (P:=P) none a7
    have c0:(W3.putObj (w.heap.size+1) (.loop (z .ready none))).heap[w.heap.size+1]? =some (.loop (z .ready none)):=World.putObj_heap_same (zG a7).1
    have c3:(W3.putObj (w.heap.size+1) (.loop (z .ready none))).heap[w.heap.size]? =some (.deferred (some [])):=(World.putObj_heap_other (by omega)).trans (b9.same _ _ d7 rfl)
    rw[J]at hr a7 c0 c3 b8 b3
    rw[J]
    exact⟨_,_,hr,rfl,⟨b0 _ _ _ _ _ _ d8 (by omega) a7 rfl,c0,c3,Z,a6⟩,(b8.trans b3).trans (b1 X W3 _ _ Z a7)⟩
   |ret=>exact hp.elim
   |exit id=>exact hp.elim
   |goto t=>exact hp.elim
   |panic ch=>exact hp.elim
   |outgrown=>exact hp.elim
  ·rintro e W2 ⟨⟨v,rfl⟩,xs,X,hS,hi,U,hk,Z,a6⟩
   exact⟨none,_,by have:=run_endLoop (P:=P) U (by rw[J];simp);rw[J]at this;exact this,b5 _ xs X _ zr hS (b0 _ _ _ _ _ _ hi (by omega) U rfl) ((World.putObj_heap_other (by omega)).trans hk)⟩
end Go.Proofs.YtceojneljnnooaaGreat
