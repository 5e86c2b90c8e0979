import Derived.Test.YtceojneljnnooaaGreatCh
open Go.Proofs.Tryz
namespace Go.Proofs.YtceojneljnnooaaGreat
open Go.RowKit
set_option maxHeartbeats 0
set_option maxRecDepth 100000
set_option linter.all false
variable{P:zL}
theorem vQ{x:Int}(h0:0<=x)(h1:x<=100000000):IntKind.i64.wrap x=x:=by rw[IntKind.wrap_i64];omega
theorem dD(w W:zW):dS w none 0 [] none [] W:=λW' _=>⟨⟨rfl,by unfold maxLen;omega,.inl rfl⟩,⟨rfl,by unfold maxLen;omega,.inl rfl⟩⟩
theorem eT(w:zW)(o1 o2 z:Obj):Below w.heap.size w (((w.alloc o1).alloc o2).alloc z):=((zb.alloc zr _).alloc (by simp) _).alloc (by simp;omega) _
theorem oW{w w':zW}{v0 v1 v2 v3 u0 u1 u2 u3:Value}{T:TypeId}{o:Obj}(hb:Below (((w.alloc (.cells #[v0,v1,v2,v3] T)).alloc (.cells #[u0,u1,u2,u3] T)).alloc o).heap.size (((w.alloc (.cells #[v0,v1,v2,v3] T)).alloc (.cells #[u0,u1,u2,u3] T)).alloc o) w'):
  w'.heap[w.heap.size+2]? =some o/\Below ((w.alloc (.cells #[v0,v1,v2,v3] T)).alloc (.cells #[u0,u1,u2,u3] T)).heap.size ((w.alloc (.cells #[v0,v1,v2,v3] T)).alloc (.cells #[u0,u1,u2,u3] T)) w':=by
 refine⟨?_,ak (zb.alloc zr _) hb⟩
 have h:=zl ((w.alloc (.cells #[v0,v1,v2,v3] T)).alloc (.cells #[u0,u1,u2,u3] T)) o
 have hs:((w.alloc (.cells #[v0,v1,v2,v3] T)).alloc (.cells #[u0,u1,u2,u3] T)).heap.size=w.heap.size+2:=by simp
 rw[hs]at h
 exact(hb.block _ (by simp)).trans h
def wW(b t:Int)(N N2:zL):zL:=eU N N2 (aD b t).toNat
def rA(how:Int)(N N2:zL)(E z:zB):zB:=jq how N.length N2.length E z
def IE(b t:Int)(how:Int)(N N2:zL)(E z:zB):Nat:=bE (wW b t N N2) (rA how N N2 E z) (aD b t).toNat
def iX(how b t:Int)(N:zL)(E:zB)(k:Nat)(z J:Int)(N2:zL)(U:zB)(k2:Nat):Int:=
 if 0<=how/\how<=15 then(if iG b t N k z J N2 k2=0 then(if IE b t how N N2 E U<=80 then 0 else 3)else iG b t N k z J N2 k2)else 1
def kE(how b t:Int)(N:zL)(E:zB)(k:Nat)(J U:Int)(N2:zL)(z:zB)(k2:Nat):zL:=
 if iX how b t N E k J U N2 z k2=0 then aV (wW b t N N2) (rA how N N2 E z) (aD b t).toNat else[]
def lu(how b t:Int)(N:zL)(E:zB)(k:Nat)(J U:Int)(N2:zL)(z:zB)(k2:Nat):zB:=
 if iX how b t N E k J U N2 z k2=0 then aY (wW b t N N2) (rA how N N2 E z) (aD b t).toNat else[]
def bK(c x:Int):Int:=if c=0 then x else 0
theorem YW{b t:Int}{N:zL}{k:Nat}{z J:Int}{N2:zL}{k2:Nat}{how:Int}{E Z:zB}(h0:0<=how)(U:how<=15)(hC:iG b t N k z J N2 k2≠0):iX how b t N E k z J N2 Z k2=iG b t N k z J N2 k2:=by unfold iX;rw[yP ⟨h0,U⟩,yN hC]
theorem yD(w:zW)(o1 o2 z J:Obj):Below w.heap.size w ((((w.alloc o1).alloc o2).alloc z).alloc J):=(eT w o1 o2 z).alloc (eT w o1 o2 z).size _
theorem Od(w:zW)(o1 o2 z J:Obj){W:zW}(h:Below ((((w.alloc o1).alloc o2).alloc z).alloc J).heap.size ((((w.alloc o1).alloc o2).alloc z).alloc J) W):W.heap[w.heap.size]? =some o1/\W.heap[w.heap.size+1]? =some o2/\W.heap[w.heap.size+2]? =some z/\W.heap[w.heap.size+3]? =some J:=by
 have k: ∀i,i<w.heap.size+4->W.heap[i]? =((((w.alloc o1).alloc o2).alloc z).alloc J).heap[i]? :=λi hi=>h.block i (by simp<;>omega);refine⟨?_,?_,?_,?_⟩
 ·rw[k _ (by omega),Below.heap_alloc _ _ _ (by simp<;>omega),Below.heap_alloc _ _ _ (by simp<;>omega),aP]
 ·rw[k _ (by omega),Below.heap_alloc _ _ _ (by simp<;>omega),Below.heap_alloc _ _ _ (by simp<;>omega),aQ]
 ·rw[k _ (by omega),Below.heap_alloc _ _ _ (by simp<;>omega)];have:=zl ((w.alloc o1).alloc o2) z;simpa using this
 ·rw[k _ (by omega)];have:=zl (((w.alloc o1).alloc o2).alloc z) J;simpa using this
def aie(wb:zW)(b t:Int)(P:zL)(Q:zB)(M i:Nat)(v:Value)(J:zW):Prop:=
 ∃z cap,v=.slice (some ⟨z,0,none⟩) (bQ P i).length cap/\AB M J z (bQ P i).length cap (bQ P i)/\
  eu prog 176 J (wb.heap.size+2) (nZ (kr M) (bQ P i))/\
  FQ wb b t (λq=>(dP P).getD q []) (λq=>(jP P Q).getD q false) i i [wb.heap.size+2,z] J/\wb.heap.size+2<z/\i<=(bQ P i).length
def ab8(wb J:zW)(P:zL)(M m i l Z:Nat)(x0 x1:Int)(row:zI)(v:Value)(z:zW):Prop:=
 ∃U cap,v=.slice (some ⟨U,0,none⟩) (jg P i l).length cap/\AB M z U (jg P i l).length cap (jg P i l)/\
  eu prog 176 z (wb.heap.size+2) (nZ (kr M) (jg P i l))/\
  (z.rowIs (J.heap.size+1) 3 m λq=>.int .i64 (if q<l then row.getD q 0 else 0))/\
  z.heap[J.heap.size]? =some (.cells #[.int .i64 x0,.int .i64 x1] 176 (0,0))/\
  (U=Z\/J.heap.size+1<U)/\(∀x,x<J.heap.size->x≠wb.heap.size+2->x≠Z->z.heap[x]? =J.heap[x]?)/\Below wb.heap.size wb z/\J.heap.size+2<=z.heap.size
theorem Ug{wb z W1:zW}{P:zL}{M m i J cap:Nat}{Z x1:Int}{row:zI}(hq:AB M z J (bQ P i).length cap (bQ P i))(hm:eu prog 176 z (wb.heap.size+2) (nZ (kr M) (bQ P i)))(hb:Below wb.heap.size wb z)(h1:W1=(z.alloc (.cells #[.int .i64 Z,.int .i64 x1] 176)).alloc (.cells (madeCells #[.int .i64 0] m) 3)):ab8 wb z P M m i 0 J Z x1 row (.slice (some ⟨J,0,none⟩) (bQ P i).length cap) W1:=by
 have U:Below z.heap.size z W1:=by rw[h1];exact bG _ _ _
 have hl:=qy hq;refine⟨J,cap,by rw[DR],by rw[DR];exact oz hq (U.block _ hl),by rw[DR];exact hm.below U,?_,?_,.inl rfl,λx hx _ _=>U.block x hx,hb.trans (U.mono hb.size),by rw[h1];simp⟩
 ·rw[h1]
  have:=(World.rowIs_made (z.alloc (.cells #[.int .i64 Z,.int .i64 x1] 176)) (.int .i64 0) m 3).congr (g:=λq=>.int .i64 (if q<0 then row.getD q 0 else 0)) λq _=>by simp
  rwa [World.size_alloc]at this
 ·rw[h1];exact aP _ _ _
theorem Qw{z:zW}{nb m l:Nat}{row:zI}{num:Int}(h:z.rowIs nb 3 m λq=>.int .i64 (if q<l then row.getD q 0 else 0))(U:row.getD l 0=num):(z.setCell ⟨nb,l,none⟩ (.int .i64 num)).rowIs nb 3 m λq=>.int .i64 (if q<l+1 then row.getD q 0 else 0):=
 (h.set _ _).congr λq _=>by
  by_cases e:q=l
  ·subst e;rw[yP rfl,yP (by omega),U]
  ·rw[yN e]
   congr 1;by_cases J:q<l
   ·rw[yP J,yP (by omega)]
   ·rw[yN J,yN (by omega)]
theorem Uh{wb z J wU:zW}{P:zL}{M m i l U:Nat}{x0 x1:Int}{row:zI}{v:Value}{num:Int}(h:ab8 wb z P M m i l U x0 x1 row v J)(a2:wb.heap.size+2<z.heap.size)(a6:U<z.heap.size)(hU:Below J.heap.size J wU)(hs:jg P i (l+1)=jg P i l)(hn:row.getD l 0=num):
  ab8 wb z P M m i (l+1) U x0 x1 row v (wU.setCell ⟨z.heap.size+1,l,none⟩ (.int .i64 num)):=by
 obtain⟨bm,cap,h1,h2,h3,h4,h5,h6,h7,h8,h9⟩:=h
 have hl:=qy h2
 have hk: ∀x,x<J.heap.size->x≠z.heap.size+1->(wU.setCell ⟨z.heap.size+1,l,none⟩ (.int .i64 num)).heap[x]? =J.heap[x]? :=λx hx Z=>by rw[Below.heap_setCell _ _ _ _ Z,hU.block x hx]
 refine⟨bm,cap,by rw[hs];exact h1,by rw[hs];exact oz h2 (hk _ hl (by omega)),by rw[hs];exact h3.of_block (hk _ h3.lt (by omega)),Qw (h4.of_block (hU.block _ h4.lt)) hn,(hk _ (by omega) (by omega)).trans h5,h6,λx hx Z a1=>(hk x (by omega) (by omega)).trans (h7 x hx Z a1),?_,?_⟩
 ·exact(h8.trans (hU.mono h8.size)).setCell (by show _<=z.heap.size+1;omega) _
 ·have:=hU.size
  simp[World.setCell]
  omega
theorem ab9{wb z J wU w5 U:zW}{P:zL}{M m i l Z bm cap:Nat}{x0 x1:Int}{row:zI}{num:Nat}{x:Int}{o:Obj}{b' a1:Nat}(h2:AB M J bm (jg P i l).length cap (jg P i l))(h4:J.rowIs (z.heap.size+1) 3 m λq=>.int .i64 (if q<l then row.getD q 0 else 0))(h5:J.heap[z.heap.size]? =some (.cells #[.int .i64 x0,.int .i64 x1] 176 (0,0)))(h6:bm=Z\/z.heap.size+1<bm)(h7: ∀x,x<z.heap.size->x≠wb.heap.size+2->x≠Z->J.heap[x]? =z.heap[x]?)(h8:Below wb.heap.size wb J)(h9:z.heap.size+2<=J.heap.size)(b5:wb.heap.size+2<z.heap.size)(b6:Z<z.heap.size)(b7:wb.heap.size+2<Z)(hU:Below J.heap.size J wU)(hm:eu prog 176 w5 (wb.heap.size+2) (nZ (kr M) (jg P i l)++[(kr M x,Value.int .i64 (num:Int))]))(ht:wU.mapTurned w5 (wb.heap.size+2))(a2:jg P i (l+1)=jg P i l++[x])(b1:num=(jg P i l).length)(b2:AB M U b' ((jg P i l).length+1) a1 (jg P i l++[x]))(hg:(w5.alloc o).grownBy U (some bm))(b3:b'=bm\/(w5.alloc o).heap.size<=b')(hn:row.getD l 0=(num:Int)):
  (U.cell? ⟨z.heap.size+1,l,none⟩=J.cell? ⟨z.heap.size+1,l,none⟩/\U.frozen? ⟨z.heap.size+1,l,none⟩=false)/\ab8 wb z P M m i (l+1) Z x0 x1 row (.slice (some ⟨b',0,none⟩) ((jg P i l).length+1) a1) (U.setCell ⟨z.heap.size+1,l,none⟩ (.int .i64 (num:Int))):=by
 have hl:=qy h2
 have b8:=hU.size
 have b9:=ht.grown.size
 have b4:=hg.size
 rw[World.size_alloc]at b4
 have hk: ∀y,y<J.heap.size->y≠bm->y≠wb.heap.size+2->U.heap[y]? =J.heap[y]? :=λy hy a7 a6=>by rw[hg.block y (by simp;omega) (λe=>a7 (by cases e;rfl)),Below.heap_alloc _ _ _ (by omega),ht.grown.block y (by omega) (λe=>a6 (by cases e;rfl)),hU.block y hy]
 have b0:=h4.of_block (hk _ h4.lt (by omega) (by omega))
 have k0:Below wb.heap.size wb wU:=h8.trans (hU.mono h8.size)
 have k1:Below wb.heap.size wb w5:=qw k0 ht (by omega) k0.size
 have k2:Below wb.heap.size wb U:=Below.grown (k1.alloc k1.size o) hg (by have:=k1.size;simp;omega) (λk hk=>by cases hk;omega)
 have c0:b'=bm\/J.heap.size<=b':=by
  rcases b3 with h|h
  ·exact .inl h
  ·rw[World.size_alloc]at h;exact .inr (by omega)
 have a8: ∀y,y≠z.heap.size+1->(U.setCell ⟨z.heap.size+1,l,none⟩ (.int .i64 (num:Int))).heap[y]? =U.heap[y]? :=λy hy=>Below.heap_setCell _ _ _ _ hy
 refine⟨⟨World.cell?_of_block (a:=⟨z.heap.size+1,l,none⟩) (hk (z.heap.size+1) h4.lt (by omega) (by omega)),b0.frozen l⟩,b',a1,by rw[a2,List.length_append];rfl,?_,?_,Qw b0 hn,?_,by omega,λy hy a7 a6=>?_,k2.setCell (by show _<=z.heap.size+1;omega) _,?_⟩
 ·rw[a2,List.length_append]
  exact oz b2 (a8 b' (by omega))
 ·rw[a2,<-PE,<-b1]
  exact((hm.alloc o).grown hg (λe=>by cases e;omega)).of_block (a8 _ (by omega))
 ·rw[a8 _ (by omega),hk _ (by omega) (by omega) (by omega)]
  exact h5
 ·rw[a8 _ (by omega),hk y (by omega) (by omega) a7]
  exact h7 y hy a7 a6
 ·simp[World.setCell];omega
theorem acd{wb J wr:zW}{b t:Int}{Q:zB}{m i U Z:Nat}(hO:FQ wb b t (λq=>(dP P).getD q []) (λq=>(jP P Q).getD q false) i i [wb.heap.size+2,U] J)(hl:Z<wr.heap.size)(h4:wr.rowIs (J.heap.size+1) 3 m λq=>.int .i64 (if q<m then((dP P).getD i []).getD q 0 else 0))(h6:Z=U\/J.heap.size+1<Z)(h7: ∀x,x<J.heap.size->x≠wb.heap.size+2->x≠U->wr.heap[x]? =J.heap[x]?)(h8:Below wb.heap.size wb wr)(h9:J.heap.size+2<=wr.heap.size)(b3:wb.heap.size+2<J.heap.size)(b4:U<J.heap.size)(b5:wb.heap.size+2<U)(a2:((dP P).getD i []).length=m)(b2:m<=36)(a8: ∀z∈(dP P).getD i [],(Lit.int .i64 z).wf=true):
  ∃(vN:Value) (vals:zV),wr.cell? ⟨wb.heap.size,2,none⟩=some vN/\wr.ownsRow (wb.heap.size+1) 24 1 vN i vals/\wb.heap.size+1<=wr.heap.size/\
   ∀(w3:zW) (o:Obj) (g' a1:Nat),w3.ownsRow (wb.heap.size+1) 24 1 (.slice (some ⟨g',0,none⟩) (i+1) a1) (i+1) (vals++[.slice (some ⟨J.heap.size+1,0,none⟩) m m])->(wr.alloc o).grownBy w3 vN.ownBlock->(vN.ownBlock=some g'\/g'=wr.heap.size+1)->
    (w3.cell? ⟨wb.heap.size,2,none⟩=some vN/\w3.frozen? ⟨wb.heap.size,2,none⟩=false)/\FQ wb b t (λq=>(dP P).getD q []) (λq=>(jP P Q).getD q false) (i+1) i [wb.heap.size+2,U,Z,J.heap.size] (w3.setCell ⟨wb.heap.size,2,none⟩ (.slice (some ⟨g',0,none⟩) (i+1) a1))/\ ∀x,(x∈[wb.heap.size+2,U,Z,J.heap.size]\/(x<wb.heap.size))->(w3.setCell ⟨wb.heap.size,2,none⟩ (.slice (some ⟨g',0,none⟩) (i+1) a1)).heap[x]? =wr.heap[x]? :=by
 have hX: ∀x∈[wb.heap.size+2,U,Z,J.heap.size],wb.heap.size<x/\x<wr.heap.size/\(x=wb.heap.size+2\/x=U\/J.heap.size<=x):=λx hx=>by simp only[List.mem_cons,List.not_mem_nil,or_false]at hx;omega
 have b0:=DT (X':=[wb.heap.size+2,U,Z,J.heap.size]) (W2:=J) hO (λ_ _ _=>rfl) (λx hx=>by
  rcases(hX x hx).2.2 with h|h|h
  ·exact .inl (by simp[h])
  ·exact .inl (by simp[h])
  ·exact .inr h) hO.2.1 (λx hx=>(hX x hx).1)
 have hs:Sl wr (some ⟨J.heap.size+1,0,none⟩) m ((dP P).getD i []):=ig a2 (by unfold maxLen;omega) a8 (h4.congr λq hq=>by rw[yP hq])
 have b1:Below J.heap.size (iy [wb.heap.size+2,U,Z,J.heap.size] J) (iy [wb.heap.size+2,U,Z,J.heap.size] wr):=Qn (by omega) (h8.os.trans hO.2.1.os.symm) (h8.tape.trans hO.2.1.tape.symm) (h8.output.trans hO.2.1.output.symm) (λx hx a7=>h7 x hx (λe=>a7 (by simp[e])) (λe=>a7 (by simp[e]))) zr
 have a6:=@ah8 wb b t (λq=>(dP P).getD q []) (λq=>(jP P Q).getD q false) i i [wb.heap.size+2,U,Z,J.heap.size] J wr (J.heap.size+1) m b0 b1 h8 (by simp only[a2];exact hs) (λhx=>by simp only[List.mem_cons,List.not_mem_nil,or_false]at hx;omega) (by omega) (λx hx=>(hX x hx).2.1)
 simp only[a2]at a6
 exact a6
theorem DW{wb wr U:zW}{b t:Int}{Q:zB}{M m i z cap:Nat}{X:List Nat}(h2:AB M wr z (jg P i m).length cap (jg P i m))(h3:eu prog 176 wr (wb.heap.size+2) (nZ (kr M) (jg P i m)))(Z:FQ wb b t (λq=>(dP P).getD q []) (λq=>(jP P Q).getD q false) (i+1) (i+1) X U)(J:wb.heap.size+2∈X/\z∈X)(hk: ∀x∈X,U.heap[x]? =wr.heap[x]?)(he:jg P i m=bQ P (i+1))(a1:wb.heap.size+2<z)(hi:i+1<=(bQ P (i+1)).length):aie wb b t P Q M (i+1) (.slice (some ⟨z,0,none⟩) (jg P i m).length cap) U:=by
 rw[he]at h2 h3⊢;refine⟨z,cap,rfl,oz h2 (hk _ J.2),h3.of_block (hk _ J.1),DT Z (λ_ _ _=>rfl) (λx hx=>.inl ?_) Z.2.1 (λx hx=>?_),a1,hi⟩
 all_goals
  simp only[List.mem_cons,List.not_mem_nil,or_false]at hx;rcases hx with rfl|rfl
 ·exact J.1
 ·exact J.2
 ·omega
 ·omega
theorem Ui(wb:zW)(b t:Int)(P:zL)(Q:zB)(M:Nat){z:zW}(hm:eu prog 176 z (wb.heap.size+2) ([]++[(Value.agg #[.int .i64 0,.int .i64 0],Value.int .i64 0)]))(Z:(((wb.alloc (.cells #[.int .i64 b,.int .i64 t,.slice none 0 0,.slice none 0 0] 35)).alloc (.cells #[.int .i64 0,.int .i64 0] 176)).alloc (.map #[] 0)).mapTurned z (wb.heap.size+2)):
  aie wb b t P Q M 0 (.slice (some ⟨z.heap.size,0,none⟩) 1 1) (z.alloc (.cells #[.int .i64 0,.int .i64 0] 176)):=by
 have a1:wb.heap.size+3<=z.heap.size:=by have:=Z.grown.size;simp at this;omega
 have J:SH M 0=0/\SI M 0=0:=by simp[SH,SI]
 have U:Below wb.heap.size wb z:=qw (eT wb _ _ _) Z (by omega) (by simp;omega)
 refine⟨z.heap.size,1,by simp[bQ],⟨rfl,by simp[bQ],by decide,#[.int .i64 0,.int .i64 0],zl _ _,by simp,λq hq=>?_⟩,?_,?_,by omega,by simp[bQ]⟩
 ·simp[bQ]at hq
  rcases(show q=0\/q=1 by omega)with rfl|rfl
  ·simp[qm,bQ,List.getD,J.1]
  ·simp[qm,bQ,List.getD,J.2]
 ·have e:nZ (kr M) (bQ P 0)=[]++[(Value.agg #[.int .i64 0,.int .i64 0],Value.int .i64 0)]:=by simp[nZ,bQ,kr,List.range_succ,J.1,J.2]
  rw[e]
  exact hm.alloc _
 ·refine DT (Ua wb b t _ _) (λx hx _=>?_) (λx hx=>.inr ?_) (U.alloc U.size _) (λx hx=>?_)
  ·rw[World.size_alloc]at hx
   rw[Below.heap_alloc _ _ _ (by omega),Z.grown.block x (by simp;omega) (λe=>by have:=Option.some.inj e;omega),Below.heap_alloc _ _ _ (by simp;omega),Below.heap_alloc _ _ _ (by simp;omega)]
  ·simp only[List.mem_cons,List.not_mem_nil,or_false]at hx
   rw[World.size_alloc];omega
  ·simp only[List.mem_cons,List.not_mem_nil,or_false]at hx
   omega
theorem xU(b t:Int)(a:zO)(n cap:Nat)(a':zO)(b4 m:Nat)(N:zL)(E:zB)(b2 t2:Int)(a2:zO)(U c7:Nat)(e5:zO)(a7:Nat)(N2:zL)(E2:zB)(how:Int)(w:zW)(hs:gT w a n N)(he:mR w a' n E)(y1:gT w a2 U N2)(y2:mR w e5 U E2)(hG:aK m n N)(g2:aK m U N2)(hn:n*U<=4000000)(h0:0<=how)(E4:how<=15):
  Calls prog 102 #[.agg #[.int .i64 b,.int .i64 t,.slice a n cap,.slice a' n b4],.agg #[.int .i64 b2,.int .i64 t2,.slice a2 U c7,.slice e5 U a7],.int .i64 how] w (uG w b t (dP (eU N N2 m)) (jP (eU N N2 m) (jq how n U E E2))):=by
 have hP:=gW hG g2 hn
 have C7:=hG.2.2.2.1
 have I4:=hG.2.2.1
 have I2:=g2.2.2.1
 have I9:=fO m (by omega)
 have J0:=@run_makeMap prog
 have e6:=eT w (.cells #[.int .i64 b,.int .i64 t,.slice a n cap,.slice a' n b4] 35) (.cells #[.int .i64 b2,.int .i64 t2,.slice a2 U c7,.slice e5 U a7] 35) (.cells #[.int .i64 0,.int .i64 0,.slice none 0 0,.slice none 0 0] 35)
 have y3:=aj e6
 have HS:=aj (aG hs e6)
 have HE:=aj (bD he e6)
 have y4:=aj (aG y1 e6)
 have l1:=aj (bD y2 e6)
 have e7:=aj (λW (h:Below _ _ W)=>And.intro (jw (@oW w W (.int .i64 b) (.int .i64 t) (.slice a n cap) (.slice a' n b4) (.int .i64 b2) (.int .i64 t2) (.slice a2 U c7) (.slice e5 U a7) 35 (.cells #[.int .i64 0,.int .i64 0,.slice none 0 0,.slice none 0 0] 35) h).2) (@oW w W (.int .i64 b) (.int .i64 t) (.slice a n cap) (.slice a' n b4) (.int .i64 b2) (.int .i64 t2) (.slice a2 U c7) (.slice e5 U a7) 35 (.cells #[.int .i64 0,.int .i64 0,.slice none 0 0,.slice none 0 0] 35) h).1)
 have HG:=aj hG
 have y5:=aj g2
 have HP:=aj hP
 have E5:=aj (λx y W=>Y3 how x y W h0 E4)
 have y6:Hid (∀s,s<n*U->(jq how n U E E2).getD s false=xG how (E.getD (s/U) false) (E2.getD (s%U) false)):=λs h=>Lb h
 have y7:Hid (∀s l,s<n*U->l<m->mV (eU N N2 m) s l=mV N (s/U) l*U+mV N2 (s%U) l):=λs l h1 h2=>PG hG g2 h1 h2
 clear hs he y1 y2 hG g2 hP e6
 generalize eU N N2 m=P at HP y7⊢
 generalize jq how n U E E2=Q at y6⊢
 obtain⟨E6,o8⟩:=LM U 0 (by decide)
 have y8:keyOf prog 176 (Value.agg #[.int .i64 0,.int .i64 0])=some E6:=by
  have:kr U 0=Value.agg #[.int .i64 0,.int .i64 0]:=by simp[kr,SH,SI]
  rw[<-this];exact o8
 generalize y9:((w.alloc (.cells #[.int .i64 b,.int .i64 t,.slice a n cap,.slice a' n b4] 35)).alloc (.cells #[.int .i64 b2,.int .i64 t2,.slice a2 U c7,.slice e5 U a7] 35)).alloc (.cells #[.int .i64 0,.int .i64 0,.slice none 0 0,.slice none 0 0] 35)=wb at y3 HS HE y4 l1 e7
 have o9:Hid (wb.heap.size=w.heap.size+3):=by show _=_;rw[<-y9];simp
 obtain⟨⟨⟨p0,p1,p2,p3⟩,⟨q0,q1,q2,q3⟩⟩,c8⟩:=e7.out wb zb
 have I5:=aj c8
 have p4:=qZ ((wb.alloc (.cells #[.int .i64 b,.int .i64 t,.slice none 0 0,.slice none 0 0] 35)).alloc (.cells #[.int .i64 0,.int .i64 0] 176)) prog 176
 simp only[World.size_alloc,Nat.add_assoc,Nat.reduceAdd]at p4
 obtain⟨wm,C8,d0,p5⟩:=p4.put vU underlying177 (val:=.int .i64 0) (by decide) y8 (by simp)
 have H0:=aj (Ui wb b t P Q U d0 p5)
 have i6:wm.heap[wb.heap.size+1]? =some (.cells #[.int .i64 0,.int .i64 0] 176 (0,0)):=(p5.grown.block (wb.heap.size+1) (by simp) (by simp)).trans (by have:=aP (wb.alloc (.cells #[.int .i64 b,.int .i64 t,.slice none 0 0,.slice none 0 0] 35)) (.cells #[.int .i64 0,.int .i64 0] 176) (.map #[] 0);rwa [World.size_alloc]at this)
 have C9:wm.cell? ⟨wb.heap.size+1,0,none⟩=some (.int .i64 0):=by simp[World.cell?,i6]
 have D0:wm.cell? ⟨wb.heap.size+1,1,none⟩=some (.int .i64 0):=by simp[World.cell?,i6]
 clear p4 d0 p5 o8 y8 i6 c8
 obtain⟨j0,E7,E8,E9,F0⟩:=info_parts Ip
 obtain⟨l0,p6,p7,p8,p9⟩:=info_parts DF
 go_enter func102,ntmps102
 go_wp2
 clear C8 C9 D0 y9 p0 p1 p2 p3 q0 q1 q2 q3
 generalize wm.alloc (.cells #[.int .i64 0,.int .i64 0] 176)=w0 at H0⊢
 go_loopg[10,11] (n*U+1) (λg v iv wx=> ∃i:Nat,g=n*U+1-i/\iv=.int .i64 i/\aie wb b t P Q U i v wx)
 case atStart=>exact⟨0,rfl,rfl,H0.out⟩
 case round=>
  obtain⟨i,z6,rfl,F1⟩:=hrel
  have q4:=aj z6
  obtain⟨d5,F2,rfl,hq,d0,hO,z7,J1⟩:=F1
  have HQ:=aj hq
  have l3:=aj d0
  have HO:=aj hO
  have l4:=aj z7
  have I6:=uj HP.out i
  have l5:Hid (Below wb.heap.size wb wr):=hO.2.1
  clear z6 hq d0 hO z7 H0
  by_cases b7:i<(bQ P i).length
  ·have D1:(i:Int)<((bQ P i).length:Int):=by omega
   have F3:=yX (sj HP.out i) i b7
   obtain⟨s,hs⟩: ∃s:Nat,(bQ P i).getD i 0=(s:Int):=⟨((bQ P i).getD i 0).toNat,by omega⟩
   have d1:s<n*U:=by omega
   obtain⟨l6,l7⟩:=af8 HQ.out i b7
   rw[hs,Int.toNat_natCast]at l6 l7
   obtain⟨b8,d6⟩:=Hz d1
   have i7:=aj (λl h=>y7.out s l d1 h)
   have i8:=aj (y6.out s d1)
   rw[show SH U s=((s/U:Nat):Int)from rfl]at l6
   rw[show SI U s=((s%U:Nat):Int)from rfl]at l7
   generalize s/U=x at l6 b8 i7 i8
   generalize s%U=y at l7 d6 i7 i8
   have i9:=Ql HP.out i (Nat.le_of_lt b7)
   have q5:i<(aR P).length:=Nat.lt_of_lt_of_le b7 i9.length_le
   have q6:(aR P).getD i 0=(s:Int):=(iq i9 i b7).trans hs
   have q7:=aj hs
   have f1:=ab0 HP.out q5
   rw[q6,Int.toNat_natCast]at f1
   have q8:=ab1 HP.out Q q5
   rw[q6,Int.toNat_natCast,i8.out]at q8
   have F4:=aj q8
   have l8:=(HP.out.2.2.2.2.2 s d1)
   have l9:Hid (((dP P).getD i []).length=m):=by show _=_;rw[f1,List.length_map];exact l8.1
   have F5:Hid (∀l,l<m->((dP P).getD i []).getD l 0=((FP (aR P) ((mV P s l:Nat):Int):Nat):Int)):=λl hl=>by rw[f1,aS _ l (by rw[List.length_map,l8.1];exact hl),List.getElem_map,<-aS _ l (by rw[l8.1];exact hl),(kL HP.out d1 hl).2]
   have F6:Hid (∀z∈(dP P).getD i [],(Lit.int .i64 z).wf=true):=λz hz=>by obtain⟨l,hl,rfl⟩:=List.getElem_of_mem hz;have F7:l<m:=(by have:=l9.out;omega);have h1:=(uM HP.out).2.2.2.2.2 i q5;have h2:=h1.2 l F7;rw[aS _ l hl]at h2;have h3:=oK HP.out;exact WalkArith.wf_i64 (by omega)
   have z8:(x:Int)<(n:Int):=by omega
   obtain⟨bn,on,an,cn,rfl,c3,j1⟩:=gF (aG HS.out l5.out) x b8
   rw[(HG.out.2.2.2.2.2 x b8).1]at c3 j1
   have q9:=aj j1
   have F8:=aj c3
   obtain⟨⟨⟨-,-,p2,-⟩,-⟩,-⟩:=e7.out wr l5.out
   clear F3 hs j1 f1 q8 l8 i9 q6
   have r0:=(Below.refl wr.heap.size wr).alloc zr (.cells #[.int .i64 (x:Int),.int .i64 (y:Int)] 176)
   have d7:=zl wr (.cells #[.int .i64 (x:Int),.int .i64 (y:Int)] 176)
   have d8:(wr.alloc (.cells #[.int .i64 (x:Int),.int .i64 (y:Int)] 176)).cell? ⟨bn,on+x,none⟩=some (.slice an m cn):=(r0.cell (p:=⟨bn,on+x,none⟩) (zk wr _ c3)).trans c3
   have D2:(wr.alloc (.cells #[.int .i64 (x:Int),.int .i64 (y:Int)] 176)).cell? ⟨w.heap.size,2,none⟩=some (.slice (some ⟨bn,on,none⟩) n cap):=(r0.cell (p:=⟨w.heap.size,2,none⟩) (zk wr _ p2)).trans p2
   have F9:(wr.alloc (.cells #[.int .i64 (x:Int),.int .i64 (y:Int)] 176)).cell? ⟨wr.heap.size,0,none⟩=some (.int .i64 (x:Int)):=cell_of_row _ _ 0 _ _ (0,0) d7
   have H1:=aj (@Ug wb wr _ P U m i d5 F2 (x:Int) (y:Int) ((dP P).getD i []) HQ.out l3.out l5.out rfl)
   clear r0 d7
   go_wp2
   obtain⟨wq,A0⟩: ∃wq:zW,wq=wr:=⟨_,rfl⟩
   rw[<-A0]at H1 HQ l3 HO l5⊢
   clear A0 l6 l7 c3 d8 D2 F9 p2 q9 F8 wr
   have c4:Hid (wb.heap.size+2<wq.heap.size):=l3.out.lt
   have f2:Hid (d5<wq.heap.size):=qy HQ.out
   generalize(wq.alloc (.cells #[.int .i64 (x:Int),.int .i64 (y:Int)] 176)).alloc (.cells (madeCells #[.int .i64 0] m) 3)=w1 at H1⊢
   go_loopw[48,10] (λlv v wx=> ∃l:Nat,l<=m/\lv=.int .i64 l/\ab8 wb wq P U m i l d5 (x:Int) (y:Int) ((dP P).getD i []) v wx) (λlv _ _=>m-(intOf lv).toNat)
   case atStart=>exact⟨0,by omega,rfl,H1.out⟩
   case round=>
    obtain⟨l,hl,rfl,A1⟩:=hrel
    have G0:=aj A1
    obtain⟨bm,A2,rfl,hq,d0,A3,d7,r7,A4,A5,n0⟩:=A1
    have d2:=aj hq
    have g3:=aj d0
    have g4:=aj A3
    have A6:=aj d7
    have f3:=aj r7
    have A7:=aj A4
    have g6:=aj A5
    have j2:=aj n0
    have d9:wr.cell? ⟨wq.heap.size,0,none⟩=some (.int .i64 (x:Int)):=cell_of_row _ _ 0 _ _ (0,0) d7
    have e0:wr.cell? ⟨wq.heap.size,1,none⟩=some (.int .i64 (y:Int)):=cell_of_row _ _ 1 _ _ (0,0) d7
    clear hq d0 A3 d7 r7 A4 A5 n0 H1
    by_cases b5:l<m
    ·have x8:(l:Int)<(m:Int):=by omega
     have z8:(x:Int)<(n:Int):=by omega
     have G1:(y:Int)<(U:Int):=by omega
     obtain⟨⟨⟨-,-,p2,-⟩,⟨-,-,q2,-⟩⟩,-⟩:=e7.out wr g6.out
     obtain⟨_,_,J2,G2,e,c3,j3⟩:=gF (aG HS.out g6.out) x b8
     cases e
     rw[(HG.out.2.2.2.2.2 x b8).1]at c3 j3
     obtain⟨b1,o1,rfl,n3⟩:=bH j3 l b5
     obtain⟨A8,A9,J3,G3,rfl,d8,j4⟩:=gF (aG y4.out g6.out) y d6
     rw[(y5.out.2.2.2.2.2 y d6).1]at d8 j4
     obtain⟨b3,o3,rfl,n4⟩:=bH j4 l b5
     have r8:=kL HG.out b8 b5
     have r9:=kL y5.out d6 b5
     rw[r8.2]at n3
     rw[r9.2]at n4
     have s0:=r8.1
     have s1:=r9.1
     have f5:=aj (i7.out l b5)
     have f6:=aj (F5.out l b5)
     have s2:=(kL HP.out d1 b5)
     have s3:Hid ((P.getD ((bQ P i).getD i 0).toNat []).getD l 0=((mV P s l:Nat):Int)):=by show _=_;rw[q7.out,Int.toNat_natCast];exact s2.2
     have G4:mV P s l<n*U:=s2.1
     clear r8 r9 s2 j3 j4
     generalize mV N x l=u at n3 f5 s0
     generalize mV N2 y l=v at n4 f5 s1
     generalize mV P s l=z at f5 f6 s3 G4
     have j5:kr U (z:Int)=.agg #[.int .i64 (u:Int),.int .i64 (v:Int)]:=by have s4:=lY s0 s1;rw[<-f5.out]at s4;unfold kr SH SI;rw[Int.toNat_natCast,s4.1,s4.2]
     obtain⟨kl,s5⟩:=LM U (z:Int) (by rw[Int.toNat_natCast];omega)
     rw[j5]at s5
     have s8:=aj s5
     have e1:=aj j5
     clear s5 j5
     have k1:=World.new_ne wr _ p2
     have k2:=World.new_ne wr _ q2
     have k3:=World.new_ne wr _ d9
     have k4:=World.new_ne wr _ e0
     have k5:=World.new_ne wr _ c3
     have k6:=World.new_ne wr _ d8
     have k7:=World.new_ne wr _ n3
     have k8:=World.new_ne wr _ n4
     go_wp2
     go_region_held_law (λW=>W.cell? ⟨w.heap.size,2,none⟩=some (.slice (some ⟨bn,on,none⟩) n cap)/\W.cell? ⟨w.heap.size+1,2,none⟩=some (.slice (some ⟨A8,A9,none⟩) U c7)/\W.cell? ⟨wq.heap.size,0,none⟩=some (.int .i64 (x:Int))/\W.cell? ⟨wq.heap.size,1,none⟩=some (.int .i64 (y:Int))/\W.cell? ⟨bn,on+x,none⟩=some (.slice (some ⟨b1,o1,none⟩) m G2)/\W.cell? ⟨A8,A9+y,none⟩=some (.slice (some ⟨b3,o3,none⟩) m G3)/\W.cell? ⟨b1,o1+l,none⟩=some (.int .i64 (u:Int))/\W.cell? ⟨b3,o3+l,none⟩=some (.int .i64 (v:Int))) (go_keep) (fail)
     obtain⟨WT,n5⟩: ∃WT,(wr.alloc (.cells #[.int .i64 (u:Int),.int .i64 (v:Int)] 176)).drew=WT:=⟨_,rfl⟩
     have g7:Below wr.heap.size wr WT:=by rw[<-n5];exact(zb.alloc zr _).drew
     have hT:WT.heap[wr.heap.size]? =some (.cells #[.int .i64 (u:Int),.int .i64 (v:Int)] 176 (0,0)):=by rw[<-n5];exact zl _ _
     have J4:WT.cell? ⟨wr.heap.size,0,none⟩=some (.int .i64 (u:Int)):=cell_of_row _ _ 0 _ _ (0,0) hT
     have J5:WT.cell? ⟨wr.heap.size,1,none⟩=some (.int .i64 (v:Int)):=cell_of_row _ _ 1 _ _ (0,0) hT
     have B0:=aj g7
     have HT:=aj hT
     have s9:=aj (g3.out.below g7)
     have B1:=aj (oz d2.out (g7.block _ (qy d2.out)))
     have B2:=aj (g4.out.of_block (g7.block _ g4.out.lt))
     have n6:(jg P i l).length<=4000000:=Nat.le_trans (af5 HP.out b7 l) hn
     have I3:(nZ (kr U) (jg P i l)).length<=4000000:=by rw[BN];exact n6
     have n7:l<(P.getD ((bQ P i).getD i 0).toNat []).length:=by rw[q7.out,Int.toNat_natCast,(HP.out.2.2.2.2.2 s d1).1];exact b5
     rw[n5]
     clear n5 g7 hT p2 q2 d9 e0 c3 d8 n3 n4 k1 k2 k3 k4 k5 k6 k7 k8
     by_cases b9:(z:Int)∈jg P i l
     ·have x9:Hid (jg P i (l+1)=jg P i l):=by show _=_;rw[LG n7,s3.out,qV b9]
      have j6:=ab3 (M:=U) (Gr HP.out b7 l) b9
      rw[<-Wy (Qm HP.out b7 l) b9,e1.out]at j6
      have t1:=aj j6
      have J6:=B2.out.cell (i:=l) b5
      have J7:=B2.out.frozen l
      have B3:=λ(num:Int) h=>@Uh wb wq wr WT P U m i l d5 (x:Int) (y:Int) ((dP P).getD i []) _ num G0.out c4.out f2.out B0.out x9.out h
      have B4:=aj (B3 _ f6.out)
      clear j6 B3 b9 n7
      generalize FP (aR P) (z:Int)=num at t1 B4 f6
      go_wp2_with (at_lookup;refine jM _ rfl _ _ 177 rfl 176 3 vU underlying177 (IQ _) (wb.heap.size+2) _ rfl s9.out _ kl rfl s8.out _ t1.out ?_)
      go_roundw
      case rel=>exact⟨l+1,by omega,by go_num,B4.out⟩
      case measure=>simp[intOf];omega
     ·have f7:jg P i (l+1)=jg P i l++[(z:Int)]:=by rw[LG n7,s3.out,vJ b9]
      have t6:=aj (ab4 (M:=U) (Gr HP.out b7 l) (show 0<=(z:Int)by omega) b9)
      rw[e1.out]at t6
      have t7:((dP P).getD i []).getD l 0=(((jg P i l).length:Nat):Int):=by have h1:=af4 (Gr HP.out b7 l) (show 0<=(z:Int)by omega) b9;have h2:=Wy (x:=(z:Int)) (Qm HP.out b7 (l+1)) (by rw[f7];simp);rw[f6.out,h2,f7,h1]
      have n8:=aj (λw5 w6 o b' b4 h1 h2 h3 h4 h5=>@ab9 wb wq wr WT w5 w6 P U m i l d5 bm A2 (x:Int) (y:Int) ((dP P).getD i []) (jg P i l).length (z:Int) o b' b4 d2.out g4.out A6.out f3.out A7.out g6.out j2.out c4.out f2.out l4.out B0.out h1 h2 f7 rfl h3 h4 h5 t7)
      rw[e1.out]at n8
      have j7:=g4.out.cell (i:=l) b5
      rw[yN (Nat.lt_irrefl _)]at j7
      have G5:=aj j7
      have G6:Hid ((u:Int)=SH U ((z:Int)).toNat):=by have h:=e1.out;unfold kr at h;injection h with h;have h0:=congrArg (λa:Array Value=>a[0]?) h;simp only[List.getElem?_toArray,List.getElem?_cons_zero,Option.some.injEq,Value.int.injEq,true_and]at h0;exact h0.symm
      have G7:Hid ((v:Int)=SI U ((z:Int)).toNat):=by have h:=e1.out;unfold kr at h;injection h with h;have h0:=congrArg (λa:Array Value=>a[1]?) h;simp only[List.getElem?_toArray,List.getElem?_cons_zero,List.getElem?_cons_succ,Option.some.injEq,Value.int.injEq,true_and]at h0;exact h0.symm
      have G8:Hid (wr.heap.size≠wb.heap.size+2):=by have:=g3.out.lt;show _≠_;omega
      have G9:Hid (bm≠wb.heap.size+2):=by have h1:=l4.out;have h2:=c4.out;have h3:=f3.out;show _≠_;omega
      clear b9 f7 t7 j7 n7
      go_wp2_with (first
       |(at_lookup;refine jo _ rfl _ _ 177 rfl 176 3 vU underlying177 (IQ _) (wb.heap.size+2) _ rfl s9.out _ kl rfl s8.out t6.out ?_)
       |(at_mapUpdate;refine jT _ rfl _ _ _ 177 rfl 176 3 vU underlying177 (wb.heap.size+2) _ rfl s9.out (by unfold maxLen;omega) (.agg #[.int .i64 (u:Int),.int .i64 (v:Int)]) (.int .i64 (((jg P i l).length:Nat):Int)) kl rfl rfl s8.out t6.out ?_;intro w5 t8 f8;have H2:=aj t8;have H3:=aj f8;have v6:=(f8.grown.block wr.heap.size (zG HT.out).1 (λe=>G8.out (Option.some.inj e))).trans HT.out;have J8:w5.cell? ⟨wr.heap.size,0,none⟩=some (.int .i64 (u:Int)):=cell_of_row _ _ 0 _ _ (0,0) v6;have J9:w5.cell? ⟨wr.heap.size,1,none⟩=some (.int .i64 (v:Int)):=cell_of_row _ _ 1 _ _ (0,0) v6;have B5:=aj (oz B1.out (f8.grown.block bm (qy B1.out) (λe=>G9.out (Option.some.inj e))));clear t8 f8 v6)
       |(at_builtin;refine AJ U _ rfl _ _ rfl bm (jg P i l).length A2 (jg P i l) rfl (oz B5.out (Below.heap_alloc _ _ _ (qy B5.out))) ⟨w5.heap.size,0,none⟩ (z:Int) (u:Int) (v:Int) G6.out G7.out rfl (Wq _ _ _ _) (by omega) ?_;intro b6 D3 w6 B6 B7 B8;obtain⟨⟨H4,K0⟩,B9⟩:=n8.out w5 w6 _ b6 D3 H2.out H3.out B6 B7 B8;rw[G5.out]at H4;have H5:=aj B9;clear B6 B7 B8 B9))
      go_roundw
      case rel=>exact⟨l+1,by omega,by go_num,H5.out⟩
      case measure=>simp[intOf];omega
    ·have x8: ¬((l:Int)<(m:Int)):=by omega
     obtain rfl:m=l:=by omega
     obtain⟨vN,vals,H6,C0,v7,e8⟩:=acd HO.out (qy d2.out) g4.out f3.out A7.out g6.out j2.out c4.out f2.out l4.out l9.out C7 F6.out
     have c5:=aj e8
     have c9:=aj C0
     have e9:=aj v7
     have H7:Hid (∀x∈[wb.heap.size+2,d5,bm,wq.heap.size],x<wr.heap.size):=λx hx=>by simp only[List.mem_cons,List.not_mem_nil,or_false]at hx;have h1:=c4.out;have h2:=f2.out;have h3:=qy d2.out;have h4:=j2.out;omega
     have f9:Hid (jg P i m=bQ P (i+1)):=by have h:=ab2 b7;rw[q7.out,Int.toNat_natCast,(HP.out.2.2.2.2.2 s d1).1]at h;exact h
     have j8:Hid (wb.heap.size+2<bm):=by have h1:=l4.out;have h2:=c4.out;have h3:=f3.out;show _<_;omega
     have j9:Hid (i+1<=(bQ P (i+1)).length):=Nat.le_trans b7 (oQ P i 1).length_le
     clear e8 C0 v7 d9 e0
     go_wp2_with (at_builtin;refine wpList_append_lies _ rfl _ _ 32 rfl (wb.heap.size+1) 24 j0 (.slice none 0 0) 1 24 underlying32 E7 E8 E9 F0 rfl (by decide) vN i vals rfl (c9.out.alloc _) ⟨wr.heap.size,0,none⟩ 1 1 [.slice (some ⟨wq.heap.size+1,0,none⟩) m m] rfl rfl (fV _ _ _) (λu hu=>by simp at hu;subst hu;rfl) (by omega) (by unfold maxLen;omega) (by omega) (by have:=e9.out;simp;omega) (wr.heap.size+1) (by simp) ?_;intro g' cg w3 n9 g8 v8 D4;obtain⟨⟨D5,D6⟩,x0,x1⟩:=c5.out w3 _ g' cg n9 g8 v8;have x2:=aj x0;have f0:=aj x1;clear n9 g8 v8 x0 x1)
     generalize w3.setCell ⟨wb.heap.size,2,none⟩ (.slice (some ⟨g',0,none⟩) (i+1) cg)=w5 at x2 f0⊢
     have o4:Hid (Below wb.heap.size wb w5):=x2.out.2.1
     have a6:=(f0.out wq.heap.size (.inl (by simp))).trans A6.out
     have I7:=aj a6
     have d9:w5.cell? ⟨wq.heap.size,0,none⟩=some (.int .i64 (x:Int)):=cell_of_row _ _ 0 _ _ (0,0) a6
     have e0:w5.cell? ⟨wq.heap.size,1,none⟩=some (.int .i64 (y:Int)):=cell_of_row _ _ 1 _ _ (0,0) a6
     have C1:Hid (∀x∈[wb.heap.size+2,d5,bm,wq.heap.size],x<w5.heap.size):=λx hx=>by have h:=f0.out x (.inl hx);rw[Array.getElem?_eq_getElem (H7.out x hx)]at h;exact(zG h).1
     clear D5 D6 H6 c5 c9 e9 D4 a6
     obtain⟨vE,C2,C3,x3,e8⟩:=ah9 x2.out C1.out
     obtain⟨be,oe,rfl,o5⟩:=jL (bD HE.out o4.out) x b8
     obtain⟨c6,e2,rfl,g1⟩:=jL (bD l1.out o4.out) y d6
     obtain⟨⟨⟨-,-,-,p3⟩,⟨-,-,-,q3⟩⟩,-⟩:=e7.out w5 o4.out
     have z8:(x:Int)<(n:Int):=by omega
     have G1:(y:Int)<(U:Int):=by omega
     simp only[F4.out]at e8
     have c5:=aj e8
     have c9:=aj C3
     have e9:=aj x3
     have H8:=aj (λW (h:Below wb.heap.size wb W)=>jL (bD HE.out h) x b8)
     have D7:=aj (λW (h:Below wb.heap.size wb W)=>jL (bD l1.out h) y d6)
     clear e8 C3 x3
     have e3:=aj (λW=>E5.out (E.getD x false) (E2.getD y false) W)
     generalize E.getD x false=ex at o5 c5 H8 e3
     generalize E2.getD y false=ey at g1 c5 D7 e3
     generalize xG how ex ey=ev at c5 e3
     have I8:(w5.alloc (.cells #[.bool ev] 4)).cell? ⟨wb.heap.size,3,none⟩=some vE:=(((Below.refl w5.heap.size w5).alloc zr _).cell (p:=⟨wb.heap.size,3,none⟩) (zk w5 _ C2)).trans C2
     have k1:=World.new_ne w5 _ p3
     have k2:=World.new_ne w5 _ q3
     have k3:=World.new_ne w5 _ d9
     have k4:=World.new_ne w5 _ e0
     have k5:=World.new_ne w5 _ o5
     have k6:=World.new_ne w5 _ g1
     go_wp2
     have H9:be<wb.heap.size:=by obtain⟨_,_,e,hc⟩:=jL HE.out x b8;cases e;exact zk wb _ hc
     have D8:c6<wb.heap.size:=by obtain⟨_,_,e,hc⟩:=jL l1.out y d6;cases e;exact zk wb _ hc
     have c0:Hid (∀W:zW,(∀x,x<wb.heap.size\/x=wq.heap.size->W.heap[x]? =w5.heap[x]?)->W.cell? ⟨w.heap.size,3,none⟩=some (.slice (some ⟨be,oe,none⟩) n b4)/\W.cell? ⟨w.heap.size+1,3,none⟩=some (.slice (some ⟨c6,e2,none⟩) U a7)/\W.cell? ⟨wq.heap.size,0,none⟩=some (.int .i64 (x:Int))/\W.cell? ⟨wq.heap.size,1,none⟩=some (.int .i64 (y:Int))/\W.cell? ⟨be,oe+x,none⟩=some (.bool ex)/\W.cell? ⟨c6,e2+y,none⟩=some (.bool ey)):=λW h=>by have hz:=o9.out;exact⟨(World.cell?_of_block (a:=⟨w.heap.size,3,none⟩) (h w.heap.size (.inl (by omega)))).trans p3,(World.cell?_of_block (a:=⟨w.heap.size+1,3,none⟩) (h (w.heap.size+1) (.inl (by omega)))).trans q3,(World.cell?_of_block (a:=⟨wq.heap.size,0,none⟩) (h wq.heap.size (.inr rfl))).trans d9,(World.cell?_of_block (a:=⟨wq.heap.size,1,none⟩) (h wq.heap.size (.inr rfl))).trans e0,(World.cell?_of_block (a:=⟨be,oe+x,none⟩) (h be (.inl H9))).trans o5,(World.cell?_of_block (a:=⟨c6,e2+y,none⟩) (h c6 (.inl D8))).trans g1⟩
     have o6:Hid (∀o x,x<wb.heap.size\/x=wq.heap.size->(w5.drew.alloc o).heap[x]? =w5.heap[x]?):=λo x hx=>by refine Below.heap_alloc w5.drew _ _ ?_;have h1:=o4.out.size;have h2:=C1.out wq.heap.size (by simp);show x<w5.heap.size;omega
     refine wp_region_held_drew (S:=(λW=>W.cell? ⟨w.heap.size,3,none⟩=some (.slice (some ⟨be,oe,none⟩) n b4)/\W.cell? ⟨w.heap.size+1,3,none⟩=some (.slice (some ⟨c6,e2,none⟩) U a7)/\W.cell? ⟨wq.heap.size,0,none⟩=some (.int .i64 (x:Int))/\W.cell? ⟨wq.heap.size,1,none⟩=some (.int .i64 (y:Int))/\W.cell? ⟨be,oe+x,none⟩=some (.bool ex)/\W.cell? ⟨c6,e2+y,none⟩=some (.bool ey))) (by kernel_rfl) ⟨p3,q3,d9,e0,o5,g1⟩ (λa1=>?_)
     refine wpAnyH_take (i:=0) (v:=.pointer (some ⟨wb.heap.size,3,none⟩)) rfl (by kernel_rfl) (by kernel_rfl) (by kernel_rfl) (λ_ _ _ h=>h) (Or.inl ⟨by rfl,λW Z=>?_⟩) a1 ?_
     ·obtain⟨r1,r2,r3,r4,r5,r6⟩:=Z;go_simp
     simp only[List.getElem_toArray,List.getElem_cons_zero,Act.put,List.setIfInBounds_toArray,List.set_cons_zero,List.set_cons_succ]
     refine wpAnyH_take (i:=2) (v:=.int .i64 how) rfl (by kernel_rfl) (by kernel_rfl) (by kernel_rfl) (λ_ _ _ h=>h) (Or.inl ⟨by rfl,λW Z=>?_⟩) a1 ?_
     ·obtain⟨r1,r2,r3,r4,r5,r6⟩:=Z;go_simp
     simp only[List.getElem_toArray,List.getElem_cons_zero,List.getElem_cons_succ,Act.put,List.setIfInBounds_toArray,List.set_cons_zero,List.set_cons_succ]
     refine wpAnyH_take (i:=3) (v:=.pointer (some ⟨w.heap.size,3,none⟩)) rfl (by kernel_rfl) (by kernel_rfl) (by kernel_rfl) (λ_ _ _ h=>h) (Or.inl ⟨by rfl,λW Z=>?_⟩) a1 ?_
     ·obtain⟨r1,r2,r3,r4,r5,r6⟩:=Z;go_simp
     simp only[List.getElem_toArray,List.getElem_cons_zero,List.getElem_cons_succ,Act.put,List.setIfInBounds_toArray,List.set_cons_zero,List.set_cons_succ]
     refine wpAnyH_take (i:=4) (v:=.slice (some ⟨be,oe,none⟩) n b4) rfl (by kernel_rfl) (by kernel_rfl) (by kernel_rfl) (λ_ _ _ h=>h) (Or.inl ⟨by rfl,λW Z=>?_⟩) a1 ?_
     ·obtain⟨r1,r2,r3,r4,r5,r6⟩:=Z;go_simp
     simp only[List.getElem_toArray,List.getElem_cons_zero,List.getElem_cons_succ,Act.put,List.setIfInBounds_toArray,List.set_cons_zero,List.set_cons_succ]
     refine wpAnyH_take (i:=5) (v:=.pointer (some ⟨wq.heap.size,0,none⟩)) rfl (by kernel_rfl) (by kernel_rfl) (by kernel_rfl) (λ_ _ _ h=>h) (Or.inl ⟨by rfl,λW Z=>?_⟩) a1 ?_
     ·obtain⟨r1,r2,r3,r4,r5,r6⟩:=Z;go_simp
     simp only[List.getElem_toArray,List.getElem_cons_zero,List.getElem_cons_succ,Act.put,List.setIfInBounds_toArray,List.set_cons_zero,List.set_cons_succ]
     refine wpAnyH_take (i:=6) (v:=.int .i64 (x:Int)) rfl (by kernel_rfl) (by kernel_rfl) (by kernel_rfl) (λ_ _ _ h=>h) (Or.inl ⟨by rfl,λW Z=>?_⟩) a1 ?_
     ·obtain⟨r1,r2,r3,r4,r5,r6⟩:=Z;go_simp
     simp only[List.getElem_toArray,List.getElem_cons_zero,List.getElem_cons_succ,Act.put,List.setIfInBounds_toArray,List.set_cons_zero,List.set_cons_succ]
     refine wpAnyH_take (i:=7) (v:=.pointer (some ⟨be,oe+x,none⟩)) rfl (by kernel_rfl) (by kernel_rfl) (by kernel_rfl) (λ_ _ _ h=>h) (Or.inl ⟨by rfl,λW Z=>?_⟩) a1 ?_
     ·obtain⟨r1,r2,r3,r4,r5,r6⟩:=Z;go_simp
     simp only[List.getElem_toArray,List.getElem_cons_zero,List.getElem_cons_succ,Act.put,List.setIfInBounds_toArray,List.set_cons_zero,List.set_cons_succ]
     refine wpAnyH_take (i:=8) (v:=.bool ex) rfl (by kernel_rfl) (by kernel_rfl) (by kernel_rfl) (λ_ _ _ h=>h) (Or.inl ⟨by rfl,λW Z=>?_⟩) a1 ?_
     ·obtain⟨r1,r2,r3,r4,r5,r6⟩:=Z;go_simp
     simp only[List.getElem_toArray,List.getElem_cons_zero,List.getElem_cons_succ,Act.put,List.setIfInBounds_toArray,List.set_cons_zero,List.set_cons_succ]
     refine wpAnyH_take (i:=9) (v:=.pointer (some ⟨w.heap.size+1,3,none⟩)) rfl (by kernel_rfl) (by kernel_rfl) (by kernel_rfl) (λ_ _ _ h=>h) (Or.inl ⟨by rfl,λW Z=>?_⟩) a1 ?_
     ·obtain⟨r1,r2,r3,r4,r5,r6⟩:=Z;go_simp
     simp only[List.getElem_toArray,List.getElem_cons_zero,List.getElem_cons_succ,Act.put,List.setIfInBounds_toArray,List.set_cons_zero,List.set_cons_succ]
     refine wpAnyH_take (i:=10) (v:=.slice (some ⟨c6,e2,none⟩) U a7) rfl (by kernel_rfl) (by kernel_rfl) (by kernel_rfl) (λ_ _ _ h=>h) (Or.inl ⟨by rfl,λW Z=>?_⟩) a1 ?_
     ·obtain⟨r1,r2,r3,r4,r5,r6⟩:=Z;go_simp
     simp only[List.getElem_toArray,List.getElem_cons_zero,List.getElem_cons_succ,Act.put,List.setIfInBounds_toArray,List.set_cons_zero,List.set_cons_succ]
     refine wpAnyH_take (i:=11) (v:=.pointer (some ⟨wq.heap.size,1,none⟩)) rfl (by kernel_rfl) (by kernel_rfl) (by kernel_rfl) (λ_ _ _ h=>h) (Or.inl ⟨by rfl,λW Z=>?_⟩) a1 ?_
     ·obtain⟨r1,r2,r3,r4,r5,r6⟩:=Z;go_simp
     simp only[List.getElem_toArray,List.getElem_cons_zero,List.getElem_cons_succ,Act.put,List.setIfInBounds_toArray,List.set_cons_zero,List.set_cons_succ]
     refine wpAnyH_take (i:=12) (v:=.int .i64 (y:Int)) rfl (by kernel_rfl) (by kernel_rfl) (by kernel_rfl) (λ_ _ _ h=>h) (Or.inl ⟨by rfl,λW Z=>?_⟩) a1 ?_
     ·obtain⟨r1,r2,r3,r4,r5,r6⟩:=Z;go_simp
     simp only[List.getElem_toArray,List.getElem_cons_zero,List.getElem_cons_succ,Act.put,List.setIfInBounds_toArray,List.set_cons_zero,List.set_cons_succ]
     refine wpAnyH_take (i:=13) (v:=.pointer (some ⟨c6,e2+y,none⟩)) rfl (by kernel_rfl) (by kernel_rfl) (by kernel_rfl) (λ_ _ _ h=>h) (Or.inl ⟨by rfl,λW Z=>?_⟩) a1 ?_
     ·obtain⟨r1,r2,r3,r4,r5,r6⟩:=Z;go_simp
     simp only[List.getElem_toArray,List.getElem_cons_zero,List.getElem_cons_succ,Act.put,List.setIfInBounds_toArray,List.set_cons_zero,List.set_cons_succ]
     refine wpAnyH_take (i:=14) (v:=.bool ey) rfl (by kernel_rfl) (by kernel_rfl) (by kernel_rfl) (λ_ _ _ h=>h) (Or.inl ⟨by rfl,λW Z=>?_⟩) a1 ?_
     ·obtain⟨r1,r2,r3,r4,r5,r6⟩:=Z;go_simp
     simp only[List.getElem_toArray,List.getElem_cons_zero,List.getElem_cons_succ,Act.put,List.setIfInBounds_toArray,List.set_cons_zero,List.set_cons_succ]
     refine wpAnyH_ready (rs:=[1,15]) (by kernel_rfl) (by simp) (AllReadyH.cons rfl (λK hK=>?_) (AllReadyH.cons rfl (λK hK=>?_) AllReadyH.nil))
     ·go_simp
      refine hK.out _ _ a1 (λ_=>?_)
      clear hK K
      refine wpAnyH_ready (rs:=[15]) (by kernel_rfl) (by simp) (AllReadyH.cons rfl (λK hK=>?_) AllReadyH.nil)
      go_simp
      go_wp2_with (go_at_call 130;refine(e3.out _).mono ?_;rintro e w' ⟨rfl,rfl⟩)
      refine hK.out _ _ a1 (λ_=>?_)
      clear hK K
      refine wpAnyH_ready (rs:=[16]) (by kernel_rfl) (by simp) (AllReadyH.cons rfl (λK hK=>?_) AllReadyH.nil)
      go_simp
      refine hK.out _ _ (c0.out _ (o6.out _)) (λ_=>?_)
      clear hK K
      refine wpAnyH_ready (rs:=[17]) (by kernel_rfl) (by simp) (AllReadyH.cons rfl (λK hK=>?_) AllReadyH.nil)
      refine step_append_lies _ rfl (.tmp 99) (.tmp 114) 33 rfl (wb.heap.size+1) 4 l0 (.bool false) 1 1 underlying33 p6 p7 p8 p9 rfl (by decide) vE i _ (by simp[Act.eval]) (World.ownsRow.alloc (w:=w5.drew) c9.out _) ⟨w5.heap.size,0,none⟩ 1 1 [.bool ev] (by simp[Act.eval]) rfl (oh _ _ _ _ (by simp)) (λu hu=>by simp at hu;subst hu;rfl) (by omega) (by unfold maxLen;omega) (by omega) (by have:=e9.out;simp;omega) (w5.heap.size+1) (by simp) ?_
      intro g5 g9 w6 a8 J a6 e4
      obtain⟨⟨C4,C5⟩,d3,b0⟩:=c5.out w6 _ g5 g9 a8 ⟨J.os,J.tape,J.output,J.size,J.block⟩ a6
      have i1:=aj d3
      have i2:=aj b0
      have d4:=aj (c0.out w6 (λz hz=>by rw[<-b0 z (hz.elim .inr (λe=>.inl (by simp[e])))];exact(Below.heap_setCell _ _ _ _ (by have h1:=c4.out;show z≠wb.heap.size;omega)).symm))
      have i4:=aj (c0.out _ (λz hz=>b0 z (hz.elim .inr (λe=>.inl (by simp[e])))))
      clear d3 b0 a8 J a6 e4
      refine hK.out _ _ d4.out (λ_=>?_)
      clear hK K
      simp only[List.getElem_toArray,List.getElem_cons_zero,List.getElem_cons_succ,Act.put,List.setIfInBounds_toArray,List.set_cons_zero,List.set_cons_succ]
      refine wpAnyH_take (i:=18) (v:=.pointer (some ⟨wb.heap.size,3,none⟩)) rfl (by kernel_rfl) (by kernel_rfl) (by kernel_rfl) (λ_ _ _ h=>h) (Or.inl ⟨by rfl,λW Z=>?_⟩) d4.out ?_
      ·obtain⟨r1,r2,r3,r4,r5,r6⟩:=Z;go_simp
      simp only[List.getElem_toArray,List.getElem_cons_zero,List.getElem_cons_succ,Act.put,List.setIfInBounds_toArray,List.set_cons_zero,List.set_cons_succ]
      refine wpAnyH_ready (rs:=[19]) (by kernel_rfl) (by simp) (AllReadyH.cons rfl (λK hK=>?_) AllReadyH.nil)
      go_simp
      refine hK.out _ _ i4.out (λ_=>?_)
      clear hK K
      refine wpAnyH_done (by kernel_rfl) ?_ _
      go_wp2
      go_roundg (n*U+1-(i+1))
      case rel=>exact⟨i+1,rfl,by go_num,DW d2.out g3.out i1.out ⟨by simp,by simp⟩ (λz hz=>(i2.out z (.inl hz)).trans (f0.out z (.inl hz))) f9.out j8.out j9.out⟩
      case measure=>have h1:=q4.out;omega
     ·go_simp
      go_wp2_with (go_at_call 130;refine(e3.out _).mono ?_;rintro e w' ⟨rfl,rfl⟩)
      refine hK.out _ _ a1 (λ_=>?_)
      clear hK K
      refine wpAnyH_ready (rs:=[1,16]) (by kernel_rfl) (by simp) (AllReadyH.cons rfl (λK hK=>?_) (AllReadyH.cons rfl (λK hK=>?_) AllReadyH.nil))
      ·go_simp
       refine hK.out _ _ a1 (λ_=>?_)
       clear hK K
       refine wpAnyH_ready (rs:=[16]) (by kernel_rfl) (by simp) (AllReadyH.cons rfl (λK hK=>?_) AllReadyH.nil)
       go_simp
       refine hK.out _ _ (c0.out _ (o6.out _)) (λ_=>?_)
       clear hK K
       refine wpAnyH_ready (rs:=[17]) (by kernel_rfl) (by simp) (AllReadyH.cons rfl (λK hK=>?_) AllReadyH.nil)
       refine step_append_lies _ rfl (.tmp 99) (.tmp 114) 33 rfl (wb.heap.size+1) 4 l0 (.bool false) 1 1 underlying33 p6 p7 p8 p9 rfl (by decide) vE i _ (by simp[Act.eval]) (World.ownsRow.alloc (w:=w5.drew) c9.out _) ⟨w5.heap.size,0,none⟩ 1 1 [.bool ev] (by simp[Act.eval]) rfl (oh _ _ _ _ (by simp)) (λu hu=>by simp at hu;subst hu;rfl) (by omega) (by unfold maxLen;omega) (by omega) (by have:=e9.out;simp;omega) (w5.heap.size+1) (by simp) ?_
       intro g5 g9 w6 a8 J a6 e4
       obtain⟨⟨C4,C5⟩,d3,b0⟩:=c5.out w6 _ g5 g9 a8 ⟨J.os,J.tape,J.output,J.size,J.block⟩ a6
       have i1:=aj d3
       have i2:=aj b0
       have d4:=aj (c0.out w6 (λz hz=>by rw[<-b0 z (hz.elim .inr (λe=>.inl (by simp[e])))];exact(Below.heap_setCell _ _ _ _ (by have h1:=c4.out;show z≠wb.heap.size;omega)).symm))
       have i4:=aj (c0.out _ (λz hz=>b0 z (hz.elim .inr (λe=>.inl (by simp[e])))))
       clear d3 b0 a8 J a6 e4
       refine hK.out _ _ d4.out (λ_=>?_)
       clear hK K
       simp only[List.getElem_toArray,List.getElem_cons_zero,List.getElem_cons_succ,Act.put,List.setIfInBounds_toArray,List.set_cons_zero,List.set_cons_succ]
       refine wpAnyH_take (i:=18) (v:=.pointer (some ⟨wb.heap.size,3,none⟩)) rfl (by kernel_rfl) (by kernel_rfl) (by kernel_rfl) (λ_ _ _ h=>h) (Or.inl ⟨by rfl,λW Z=>?_⟩) d4.out ?_
       ·obtain⟨r1,r2,r3,r4,r5,r6⟩:=Z;go_simp
       simp only[List.getElem_toArray,List.getElem_cons_zero,List.getElem_cons_succ,Act.put,List.setIfInBounds_toArray,List.set_cons_zero,List.set_cons_succ]
       refine wpAnyH_ready (rs:=[19]) (by kernel_rfl) (by simp) (AllReadyH.cons rfl (λK hK=>?_) AllReadyH.nil)
       go_simp
       refine hK.out _ _ i4.out (λ_=>?_)
       clear hK K
       refine wpAnyH_done (by kernel_rfl) ?_ _
       go_wp2
       go_roundg (n*U+1-(i+1))
       case rel=>exact⟨i+1,rfl,by go_num,DW d2.out g3.out i1.out ⟨by simp,by simp⟩ (λz hz=>(i2.out z (.inl hz)).trans (f0.out z (.inl hz))) f9.out j8.out j9.out⟩
       case measure=>have h1:=q4.out;omega
      ·go_simp
       refine hK.out _ _ (c0.out _ (o6.out _)) (λ_=>?_)
       clear hK K
       refine wpAnyH_ready (rs:=[1]) (by kernel_rfl) (by simp) (AllReadyH.cons rfl (λK hK=>?_) AllReadyH.nil)
       go_simp
       refine hK.out _ _ (c0.out _ (o6.out _)) (λ_=>?_)
       clear hK K
       refine wpAnyH_ready (rs:=[17]) (by kernel_rfl) (by simp) (AllReadyH.cons rfl (λK hK=>?_) AllReadyH.nil)
       refine step_append_lies _ rfl (.tmp 99) (.tmp 114) 33 rfl (wb.heap.size+1) 4 l0 (.bool false) 1 1 underlying33 p6 p7 p8 p9 rfl (by decide) vE i _ (by simp[Act.eval]) (World.ownsRow.alloc (w:=w5.drew) c9.out _) ⟨w5.heap.size,0,none⟩ 1 1 [.bool ev] (by simp[Act.eval]) rfl (oh _ _ _ _ (by simp)) (λu hu=>by simp at hu;subst hu;rfl) (by omega) (by unfold maxLen;omega) (by omega) (by have:=e9.out;simp;omega) (w5.heap.size+1) (by simp) ?_
       intro g5 g9 w6 a8 J a6 e4
       obtain⟨⟨C4,C5⟩,d3,b0⟩:=c5.out w6 _ g5 g9 a8 ⟨J.os,J.tape,J.output,J.size,J.block⟩ a6
       have i1:=aj d3
       have i2:=aj b0
       have d4:=aj (c0.out w6 (λz hz=>by rw[<-b0 z (hz.elim .inr (λe=>.inl (by simp[e])))];exact(Below.heap_setCell _ _ _ _ (by have h1:=c4.out;show z≠wb.heap.size;omega)).symm))
       have i4:=aj (c0.out _ (λz hz=>b0 z (hz.elim .inr (λe=>.inl (by simp[e])))))
       clear d3 b0 a8 J a6 e4
       refine hK.out _ _ d4.out (λ_=>?_)
       clear hK K
       simp only[List.getElem_toArray,List.getElem_cons_zero,List.getElem_cons_succ,Act.put,List.setIfInBounds_toArray,List.set_cons_zero,List.set_cons_succ]
       refine wpAnyH_take (i:=18) (v:=.pointer (some ⟨wb.heap.size,3,none⟩)) rfl (by kernel_rfl) (by kernel_rfl) (by kernel_rfl) (λ_ _ _ h=>h) (Or.inl ⟨by rfl,λW Z=>?_⟩) d4.out ?_
       ·obtain⟨r1,r2,r3,r4,r5,r6⟩:=Z;go_simp
       simp only[List.getElem_toArray,List.getElem_cons_zero,List.getElem_cons_succ,Act.put,List.setIfInBounds_toArray,List.set_cons_zero,List.set_cons_succ]
       refine wpAnyH_ready (rs:=[19]) (by kernel_rfl) (by simp) (AllReadyH.cons rfl (λK hK=>?_) AllReadyH.nil)
       go_simp
       refine hK.out _ _ i4.out (λ_=>?_)
       clear hK K
       refine wpAnyH_done (by kernel_rfl) ?_ _
       go_wp2
       go_roundg (n*U+1-(i+1))
       case rel=>exact⟨i+1,rfl,by go_num,DW d2.out g3.out i1.out ⟨by simp,by simp⟩ (λz hz=>(i2.out z (.inl hz)).trans (f0.out z (.inl hz))) f9.out j8.out j9.out⟩
       case measure=>have h1:=q4.out;omega
  ·have D1: ¬((i:Int)<((bQ P i).length:Int)):=by omega
   have n6:(bQ P i).length=i:=by omega
   have k0:bQ P i=aR P:=BI HP.out i (by omega) (by omega)
   have x4:(dP P).length=i:=by rw[xS HP.out,<-k0];exact n6
   have x5:(jP P Q).length=i:=by rw[Y0 HP.out,<-k0];exact n6
   have k9:=aj (ab7 HO.out (by unfold maxLen;omega) (dP P) x4 (λ_ _=>rfl) (jP P Q) x5 (λ_ _=>rfl))
   rw[<-x4]at k9
   obtain⟨ax,cx,i5,o7,x6,x7,C6⟩:=k9.out
   have q9:=aj C6
   obtain⟨-,c8⟩:=e7.out wr x7
   have y0:=aj c8
   have I0:=aj (ak y3.out x7)
   obtain⟨⟨K1,K2,K3,K4⟩,-⟩:=aC x6
   obtain⟨⟨o0,o1,o2,o3⟩,of⟩:=aC c8
   clear x6 C6 x7 k9 c8 k0 x4 x5 HO HQ l3
   go_wp2
   obtain⟨⟨D9,n0,E0⟩,E1⟩:=eO (v0:=.int .i64 b) (v1:=.int .i64 t) (v2:=.slice ax (dP P).length cx) (v3:=.slice i5 (dP P).length o7) y0.out rfl
   have E3:dS w ax (dP P).length (dP P) i5 (jP P Q) ((((wr.setCell ⟨w.heap.size+2,0,none⟩ (.int .i64 b)).setCell ⟨w.heap.size+2,1,none⟩ (.int .i64 t)).setCell ⟨w.heap.size+2,2,none⟩ (.slice ax (dP P).length cx)).setCell ⟨w.heap.size+2,3,none⟩ (.slice i5 (dP P).length o7)):=λW' I1=>q9.out W' (λx hx b8=>by have h2:=o9.out;rw[I1 x (by omega) (by rw[n0];exact b8),E0 x (by omega)])
   have hb:=E1 w w.heap.size I0.out (by omega)
   obtain⟨⟨z0,z1,z2,z3⟩,-⟩:=aC D9
   exact bodyPost_ret (v:=.agg #[.int .i64 b,.int .i64 t,.slice ax (dP P).length cx,.slice i5 (dP P).length o7]) (by simp[results,results102,go_sem,z0,z1,z2,z3]) rfl ⟨ax,cx,i5,o7,rfl,E3,hb⟩
theorem jk{b t:Int}{N:zL}{n:Nat}(z:aU b t=0)(hG:aK (aD b t).toNat n N)(J:n<=80):bP b t N n=0:=by have h1:=hG.1;have h2:=hG.2.1;unfold bP;rw[yP z,yN (by omega),yN (by omega),yP (by omega)];exact yU λj U=>by have:=hG.2.2.2.2.2 j (by omega);exact yR this.1 (by rw[h1];exact this.2)
end Go.Proofs.YtceojneljnnooaaGreat
