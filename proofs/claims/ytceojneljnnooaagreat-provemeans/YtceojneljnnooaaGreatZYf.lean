import Derived.Test.YtceojneljnnooaaGreatZPva
import Derived.Laws.EntriesVeiled
open Go.Proofs.Tryz
namespace Go.Proofs.YtceojneljnnooaaGreat
open Go.RowKit
set_option maxHeartbeats 0
set_option maxRecDepth 100000
set_option linter.all false
variable{a J:zO}{W w0 W1:zW}{g:Nat->Bool}{cap n k:Nat}{nums:zI}
def fL(g:Nat->Bool):zB:=[g 0,g 1,g 2,g 3,g 4]
def Kj(s:Nat):Value:=.func (.func 38) #[] #[.pointer (some ⟨s,0,none⟩),.pointer (some ⟨s+1+1,0,none⟩),.pointer (some ⟨s+1+1+1,0,none⟩)]
abbrev z5O:Obj:=.cells #[.bool false,.bool false,.bool false,.bool false,.bool false] 62
theorem wP(w:zW)(o1 o2 z J:Obj):((((w.alloc o1).alloc o2).alloc z).alloc J).heap[w.heap.size]? =some o1/\((((w.alloc o1).alloc o2).alloc z).alloc J).heap[w.heap.size+1]? =some o2/\((((w.alloc o1).alloc o2).alloc z).alloc J).heap[w.heap.size+1+1]? =some z/\((((w.alloc o1).alloc o2).alloc z).alloc J).heap[w.heap.size+1+1+1]? =some J:=by
 have U:(((w.alloc o1).alloc o2).alloc z).heap.size=w.heap.size+1+1+1:=by simp
 refine⟨?_,?_,?_,?_⟩
 ·rw[Below.heap_alloc _ _ _ (by omega),pV]
 ·rw[Below.heap_alloc _ _ _ (by omega),MU]
 ·rw[Below.heap_alloc _ _ _ (by omega),tZ]
 ·rw[<-U,zl]
def Kk(w0:zW)(a:zO)(n cap:Nat)(W:zW)(g:Nat->Bool):Prop:=
 W.heap[w0.heap.size]? =some (.cells #[.slice a n cap] 22 (0,0))/\W.heap[w0.heap.size+1]? =some z5O/\tT W (w0.heap.size+1+1) (fL g)/\W.heap[w0.heap.size+1+1+1]? =some (.cells #[Kj w0.heap.size] 81 (0,0))/\Below w0.heap.size w0 W
def Kp(x:Nat)(W W':zW):Prop:=W.heap.size<=W'.heap.size/\ ∀y,y<W.heap.size->y≠x->W'.heap[y]? =W.heap[y]?
theorem Kp.refl(x:Nat)(W:zW):Kp x W W:=⟨zr,λ_ _ _=>rfl⟩
theorem Kp.trans{x:Nat}{W2:zW}(h:Kp x W W1)(h2:Kp x W1 W2):Kp x W W2:=⟨Nat.le_trans h.1 h2.1,λy z hx=>(h2.2 y (Nat.lt_of_lt_of_le z h.1) hx).trans (h.2 y z hx)⟩
theorem Kp.below{x:Nat}{W2:zW}(h:Kp x W W1)(h2:Below W1.heap.size W1 W2):Kp x W W2:=h.trans ⟨h2.size,λy z _=>h2.block y z⟩
theorem OW(W:zW)(p:Addr)(v:Value):(W.setCell p v).heap.size=W.heap.size:=by simp[World.setCell]
theorem Kp.set{x:Nat}(h:Kp x W W1){B o:Nat}(z:B=x\/W.heap.size<=B)(v:Value):Kp x W (W1.setCell ⟨B,o,none⟩ v):=by refine⟨by rw[OW];exact h.1,λy J hx=>?_⟩;rw[Below.heap_setCell _ _ _ _ (show y≠B by rcases z with rfl|z;exact hx;omega)];exact h.2 y J hx
theorem aeN(g:Nat->Bool):(fL g).length=5:=rfl
theorem OX(g:Nat->Bool)(h:k<5):(fL g).getD k false=g k:=by
 match k,h with
 |0,_=>rfl
 |1,_=>rfl
 |2,_=>rfl
 |3,_=>rfl
 |4,_=>rfl
theorem Kl{h:Nat->Bool}(e: ∀v,v<5->g v=h v):fL g=fL h:=by unfold fL;rw[e 0 (by decide),e 1 (by decide),e 2 (by decide),e 3 (by decide),e 4 (by decide)]
theorem aeO(g:Nat->Bool)(z:k<5)(b:Bool):(fL g).set k b=fL (λv=>if v=k then b else g v):=by
 match k,z with
 |0,_=>rfl
 |1,_=>rfl
 |2,_=>rfl
 |3,_=>rfl
 |4,_=>rfl
theorem Yc(n:Nd):Gd n=fL (λv=>dI n ((v:Nat):Int)):=rfl
theorem Kk.congr{h:Nat->Bool}(hg:Kk w0 a n cap W g)(e: ∀v,v<5->g v=h v):Kk w0 a n cap W h:=by unfold Kk at hg⊢;rw[<-Kl e];exact hg
theorem Sg(h:Kk w0 a n cap W g):w0.heap.size+1+1+1<W.heap.size:=(zG h.2.2.2.1).1
theorem EG{W':zW}(h:Kk w0 a n cap W g)(hb:Below W.heap.size W W'):Kk w0 a n cap W' g:=by have hs:=Sg h;obtain⟨h1,h2,h3,h4,h5⟩:=h;exact⟨(hb.block _ (by omega)).trans h1,(hb.block _ (by omega)).trans h2,(hb.block _ (by omega)).trans h3,(hb.block _ (by omega)).trans h4,ak h5 hb⟩
theorem aaD(h:Kk w0 a n cap W g){B o:Nat}(z:w0.heap.size+1+1+1<B)(v:Value):Kk w0 a n cap (W.setCell ⟨B,o,none⟩ v) g:=by
 obtain⟨h1,h2,h3,h4,h5⟩:=h;refine⟨?_,?_,?_,?_,h5.setCell (show w0.heap.size<=B by omega) _⟩
 ·rw[Below.heap_setCell _ _ _ _ (show w0.heap.size≠B by omega)];exact h1
 ·rw[Below.heap_setCell _ _ _ _ (show w0.heap.size+1≠B by omega)];exact h2
 ·show _=_;rw[Below.heap_setCell _ _ _ _ (show w0.heap.size+1+1≠B by omega)];exact h3
 ·rw[Below.heap_setCell _ _ _ _ (show w0.heap.size+1+1+1≠B by omega)];exact h4
theorem ahw(h:Kk w0 a n cap W g)(z:k<5)(b:Bool):Kk w0 a n cap (W.setCell ⟨w0.heap.size+1+1,k,none⟩ (.bool b)) (λv=>if v=k then b else g v):=by
 obtain⟨h1,h2,h3,h4,h5⟩:=h;refine⟨?_,?_,?_,?_,h5.setCell (show w0.heap.size<=w0.heap.size+1+1 by omega) _⟩
 ·rw[Below.heap_setCell _ _ _ _ (show w0.heap.size≠w0.heap.size+1+1 by omega)];exact h1
 ·rw[Below.heap_setCell _ _ _ _ (show w0.heap.size+1≠w0.heap.size+1+1 by omega)];exact h2
 ·rw[<-aeO g z];exact EF h3 k b
 ·rw[Below.heap_setCell _ _ _ _ (show w0.heap.size+1+1+1≠w0.heap.size+1+1 by omega)];exact h4
def Vz(nd:Nd)(z:Nat->Bool)(v:Nat):Bool:=z v||(decide (nd.op=8\/nd.op=9)&&decide (nd.var=((v:Nat):Int)))
theorem ajn{t:Fm}(J:Nat->Bool)(v:Nat):(t.jd ((v:Nat):Int)&& !J v)=((dI t.node ((v:Nat):Int)&& !J v)||t.kids.any (λc=>c.jd ((v:Nat):Int)&& !Vz t.node J v)):=by
 have Z:t.kids.any (λc=>c.jd ((v:Nat):Int)&& !Vz t.node J v)=(t.kids.any (λc=>c.jd ((v:Nat):Int))&& !Vz t.node J v):=by
  generalize t.kids=l;generalize Vz t.node J v=z;induction l with
  |nil=>rfl
  |cons x r ih=>rw[List.any_cons,List.any_cons,ih];cases x.jd ((v:Nat):Int)<;>cases z<;>simp
 rw[Z,acJ];unfold Vz;by_cases U:(t.node.op=8\/t.node.op=9)/\t.node.var=((v:Nat):Int)
 ·rw[yP U,yT U.1,yT U.2]
  have hu:dI t.node ((v:Nat):Int)=false:=by unfold dI;rw[yN (by omega)];simp;omega
  rw[hu];simp
 ·rw[yN U]
  have:(decide (t.node.op=8\/t.node.op=9)&&decide (t.node.var=((v:Nat):Int)))=false:=by
   rw[Bool.and_eq_false_iff];by_cases q:t.node.op=8\/t.node.op=9
   ·exact .inr (yF (λe=>U ⟨q,e⟩))
   ·exact .inl (yF q)
  rw[this,Bool.or_false];cases dI t.node ((v:Nat):Int)<;>cases J v<;>simp
def aeP(w0:zW)(a:zO)(n cap:Nat)(W:zW)(p:Nat)(g:Nat->Bool)(e:Ending)(W':zW):Prop:=e=.returned (.int .i64 ((p:Nat):Int))/\Kk w0 a n cap W' g/\Kp (w0.heap.size+1+1) W W'
theorem aeQ(a:zO)(n cap:Nat)(ns:List Nd)(w0:zW)(hs:SlF w0 a n ns)(hn:n<=40): ∀(N:Nat) (t:Fm),t.flat.length<=N->t.ok-> ∀(iI post:List Nd) (W:zW) (g z:Nat->Bool),ns=iI++(t.flat++post)->Kk w0 a n cap W g->Calls prog 38 #[.int .i64 (iI.length:Int),.agg #[.bool (z 0),.bool (z 1),.bool (z 2),.bool (z 3),.bool (z 4)],.pointer (some ⟨w0.heap.size,0,none⟩),.pointer (some ⟨w0.heap.size+1+1,0,none⟩),.pointer (some ⟨w0.heap.size+1+1+1,0,none⟩)] W (aeP w0 a n cap W (iI.length+t.flat.length) (λv=>g v||(t.jd ((v:Nat):Int)&& !z v))):=by
 intro N;induction N with
 |zero=>intro t e3;have:=Jc t;omega
 |succ N ih=>
  intro t e3 e4 iI post W g z he J
  obtain⟨c4,e5,c5⟩:=zx e4
  have hL:=hs.1
  have b1:=Ee t
  have f8:iI.length<n:=by rw[<-hL,he,b1];simp<;>omega
  have c6:ns.getD iI.length oL=t.node:=by rw[he,b1];simp[List.getD]
  have i4:=Sg J
  have b2:=(Below.refl W.heap.size W).alloc zr (.cells #[.bool (z 0),.bool (z 1),.bool (z 2),.bool (z 3),.bool (z 4)] 62)
  obtain⟨bb,oo,a',c',ha,x0,x1,x2,x3,x4,x5,x6,c7⟩:=jB (dG hs (ak J.2.2.2.2 b2)) iI.length f8
  subst ha
  rw[c6]at x0 x1 x2 x3 x4 x5 x6 c7
  have c8:=b2.alloc b2.size (lK t.node a' c')
  have e6:=EG J c8
  have f9:(W.alloc (.cells #[.bool (z 0),.bool (z 1),.bool (z 2),.bool (z 3),.bool (z 4)] 62)).cell? ⟨w0.heap.size,0,none⟩=some (.slice (some ⟨bb,oo,none⟩) n cap):=by have h:=(EG J b2).1;simp[World.cell?,h]
  have HX:Hid (((W.alloc (.cells #[.bool (z 0),.bool (z 1),.bool (z 2),.bool (z 3),.bool (z 4)] 62)).alloc (lK t.node a' c')).heap[W.heap.size]? =some (.cells #[.bool (z 0),.bool (z 1),.bool (z 2),.bool (z 3),.bool (z 4)] 62 (0,0))):=aP W _ _
  have c0:Hid (((W.alloc (.cells #[.bool (z 0),.bool (z 1),.bool (z 2),.bool (z 3),.bool (z 4)] 62)).alloc (lK t.node a' c')).heap[W.heap.size+1]? =some (lK t.node a' c')):=aQ W _ _
  have c9:=aj (Vy t.node a' c' ((W.alloc (.cells #[.bool (z 0),.bool (z 1),.bool (z 2),.bool (z 3),.bool (z 4)] 62)).alloc (lK t.node a' c')) (aF c7 (zb.alloc zr _)) c4)
  have e7:=aj ((Kp.refl (w0.heap.size+1+1) W).below c8)
  have e8:=aj e6
  have d0:=aj (λv=>ajn (t:=t) z v)
  have c3:=aj (λW=>Mr t.node.op W)
  have d1:=aj (λW=>CJ t.node.op W)
  rw[<-e5]at d1
  have g1:Hid ((t.node.op=8\/t.node.op=9)->0<=t.node.var/\t.node.var<5):=λh=>(dH c4).1.2.1 (by unfold Jb;omega)
  have e9:Hid (∀(k:Nat),k<t.kids.length-> ∃c,t.kids.take (k+1)=t.kids.take k++[c]/\(gM (t.kids.take (k+1))).length=(gM (t.kids.take k)).length+c.flat.length/\iI.length+1+(gM (t.kids.take k)).length+c.flat.length<=n/\ ∀(W:zW) (g z:Nat->Bool),Kk w0 (some ⟨bb,oo,none⟩) n cap W g->(Calls prog 38 #[.int .i64 ((iI.length+1+(gM (t.kids.take k)).length:Nat):Int),.agg #[.bool (z 0),.bool (z 1),.bool (z 2),.bool (z 3),.bool (z 4)],.pointer (some ⟨w0.heap.size,0,none⟩),.pointer (some ⟨w0.heap.size+1+1,0,none⟩),.pointer (some ⟨w0.heap.size+1+1+1,0,none⟩)] W (aeP w0 (some ⟨bb,oo,none⟩) n cap W (iI.length+1+(gM (t.kids.take k)).length+c.flat.length) (λv=>g v||(c.jd ((v:Nat):Int)&& !z v))))):=λk hk=>by obtain⟨c,hc,h1,h2⟩:=adj hk;have f0:ns=(iI++(t.node::gM (t.kids.take k)))++(c.flat++(gM (t.kids.drop (k+1))++post)):=(by rw[he,b1];have h3:gM t.kids=gM (t.kids.take k)++(c.flat++gM (t.kids.drop (k+1))):=(by rw[<-AO,<-vX,<-h2]);rw[h3];simp);have hlen:(iI++(t.node::gM (t.kids.take k))).length=iI.length+1+(gM (t.kids.take k)).length:=(by simp<;>omega);refine⟨c,h1,by rw[h1,vX,List.length_append];simp[gM],by rw[<-hL,f0,List.length_append,hlen,List.length_append];omega,λW g z hW=>?_⟩;have:=ih c (by have:=aiv hc;omega) (c5 c hc) _ _ W g z f0 hW;rw[hlen]at this;exact this
  have b9:Hid (iI.length+t.flat.length=iI.length+1+(gM (t.kids.take t.kids.length)).length):=by show _=_;rw[b1,List.take_length,List.length_cons];omega
  have f1:Hid (t.kids.take t.kids.length=t.kids):=List.take_length
  have i5:t.kids.length<=2:=by have:=Mj t.node.op;omega
  have i6:(iI.length:Int)<(n:Int):=by omega
  unfold Bu at c9
  clear hs c7 e4 c5 b1 c6 he ih e3 hL c4 e5 J e6 b2 c8
  generalize iI.length+t.flat.length=pe at b9⊢
  generalize iI.length=p at*
  generalize t.jd=FR at d0⊢
  generalize t.kids=ks at*
  generalize t.node=nd at*
  generalize g2:(W.alloc (.cells #[.bool (z 0),.bool (z 1),.bool (z 2),.bool (z 3),.bool (z 4)] 62)).alloc (lK nd a' c')=W2 at HX c0 c9 e7 e8
  obtain⟨⟨z0,z1,z2,z3,z4,z5,z6⟩,-⟩:=bU c0.out
  go_enter func38,ntmps38
  go_wp2_with fail
  clear g2 x0 x1 x2 x3 x4 x5 x6 z0 z1 z2 z3 z4 z5 z6 f9
  refine c9.out.mono ?_
  rintro e w3 ⟨rfl,b3⟩
  have g3:=aj (EG e8.out b3)
  have g4:=aj (e7.out.below b3)
  have g5:Hid (tT w3 W.heap.size (fL z)):=(b3.block _ (zG HX.out).1).trans HX.out
  have g6:=aj ((b3.block _ (zG c0.out).1).trans c0.out)
  clear b3
  go_wp2
  go_loopw[18] (λiv wx=> ∃k:Nat,k<=5/\iv=.int .i64 k/\Kk w0 (some ⟨bb,oo,none⟩) n cap wx (λv=>g v||(decide (v<k)&&dI nd ((v:Nat):Int)&& !z v))/\tT wx W.heap.size (fL z)/\wx.heap[W.heap.size+1]? =some (lK nd a' c')/\Kp (w0.heap.size+1+1) W wx) (λiv _=>5-(intOf iv).toNat)
  case atStart=>exact⟨0,by omega,rfl,g3.out.congr (λv _=>by simp),g5.out,g6.out,g4.out⟩
  case round=>
   obtain⟨k,hk,rfl,J,hB,hN,hK⟩:=hrel
   have HI:=aj J
   have HB:=aj hB
   have HN:=aj hN
   have HK:=aj hK
   by_cases a1:k<5
   ·have a6:(k:Int)<5:=by omega
    have g7:=OV (Gc (Gd nd)) k a1 (.bool (dI nd ((k:Nat):Int))) (by rw[Ki _ k (by rw[Yc];exact a1),Yc,OX _ a1])
    obtain⟨hd,hf⟩:=wM J.2.2.1 (k:=k) a1
    rw[OX _ a1]at hd
    have e0:(g k||(decide (k<k)&&dI nd ((k:Nat):Int)&& !z k))=g k:=by simp
    rw[e0]at hd
    obtain⟨f2,-⟩:=wM hB (k:=k) a1
    rw[OX _ a1]at f2
    have Z:Hid (∀b,b=(g k||(dI nd ((k:Nat):Int)&& !z k))->Kk w0 (some ⟨bb,oo,none⟩) n cap (wr.setCell ⟨w0.heap.size+1+1,k,none⟩ (.bool b)) (λv=>g v||(decide (v<k+1)&&dI nd ((v:Nat):Int)&& !z v))/\tT (wr.setCell ⟨w0.heap.size+1+1,k,none⟩ (.bool b)) W.heap.size (fL z)/\(wr.setCell ⟨w0.heap.size+1+1,k,none⟩ (.bool b)).heap[W.heap.size+1]? =some (lK nd a' c')/\Kp (w0.heap.size+1+1) W (wr.setCell ⟨w0.heap.size+1+1,k,none⟩ (.bool b))):=λb hb=>by
     refine⟨(ahw J a1 b).congr (λv _=>?_),?_,?_,hK.set (.inl rfl) _⟩
     ·by_cases e:v=k
      ·subst e;rw[yP rfl,hb];simp
      ·rw[yN e];have:decide (v<k)=decide (v<k+1):=decide_eq_decide.2 (by omega);rw[this]
     ·show _=_;rw[Below.heap_setCell _ _ _ _ (show W.heap.size≠w0.heap.size+1+1 by omega)];exact hB
     ·rw[Below.heap_setCell _ _ _ _ (show W.heap.size+1≠w0.heap.size+1+1 by omega)];exact hN
    clear J hB hN hK e0
    generalize g k=gk at hd Z
    generalize dI nd ((k:Nat):Int)=U at g7 Z
    generalize z k=bk at f2 Z
    cases gk with
    |true=>
     have b4:=aj (Z.out true (by simp))
     clear Z
     go_wp2
     go_roundw
     case rel=>exact⟨k+1,by omega,by go_num,b4.out⟩
     case measure=>simp[intOf];omega
    |false=>
     cases U with
     |true=>
      have b4:=aj (Z.out (!bk) (by simp))
      clear Z
      go_wp2
      go_roundw
      case rel=>exact⟨k+1,by omega,by go_num,b4.out⟩
      case measure=>simp[intOf];omega
     |false=>
      have b4:=aj (Z.out false (by simp))
      clear Z
      go_wp2
      go_roundw
      case rel=>exact⟨k+1,by omega,by go_num,b4.out⟩
      case measure=>simp[intOf];omega
   ·have a6: ¬(k:Int)<5:=by omega
    obtain rfl:k=5:=by omega
    have f3:Kk w0 (some ⟨bb,oo,none⟩) n cap wr (λv=>g v||(dI nd ((v:Nat):Int)&& !z v)):=J.congr (λv hv=>by rw[yT hv];simp)
    have d2:=aj f3
    clear f3 J
    obtain⟨z0,z1,z2,z3,z4,z5,z6⟩:=(bU hN).1
    clear hB hN hK
    obtain⟨wo,f5⟩: ∃wo:zW,wo=wr:=⟨_,rfl⟩
    rw[<-f5]at HI HB HN HK d2 z0 z1 z2 z3 z4 z5 z6⊢
    clear f5 wr HI
    by_cases h8:nd.op=8\/nd.op=9
    ·obtain⟨g8,g9⟩:=g1.out h8
     rw[yT h8]at c3
     obtain⟨q,hq⟩: ∃q:Nat,nd.var=(q:Int):=⟨nd.var.toNat,by omega⟩
     have f6:q<5:=by omega
     have i2:(q:Int)<5:=by omega
     obtain⟨hd,hf⟩:=wM HB.out (k:=q) f6
     have a7:Kk w0 (some ⟨bb,oo,none⟩) n cap (wo.setCell ⟨W.heap.size,q,none⟩ (.bool true)) (λv=>g v||(dI nd ((v:Nat):Int)&& !z v)):=aaD d2.out (by omega) _
     have a8:tT (wo.setCell ⟨W.heap.size,q,none⟩ (.bool true)) W.heap.size (fL (Vz nd z)):=by
      have h:=EF HB.out q true;rw[aeO _ f6]at h;rw[<-Kl (g:=λv=>if v=q then true else z v)]
      ·exact h
      ·intro v _
       unfold Vz;rw[yT h8,hq];by_cases e:v=q
       ·subst e;simp
       ·have:decide (((q:Nat):Int)=((v:Nat):Int))=false:=yF (by omega);rw[yN e,this];simp
     have b0:Kp (w0.heap.size+1+1) W (wo.setCell ⟨W.heap.size,q,none⟩ (.bool true)):=HK.out.set (.inr zr) _
     have f7:(wo.setCell ⟨W.heap.size,q,none⟩ (.bool true)).cell? ⟨W.heap.size+1,0,none⟩=some (.int .i64 nd.op):=by have h:(wo.setCell ⟨W.heap.size,q,none⟩ (.bool true)).heap[W.heap.size+1]? =some (lK nd a' c'):=(by rw[Below.heap_setCell _ _ _ _ (show W.heap.size+1≠W.heap.size by omega)];exact HN.out);exact(bU h).1.1
     rw[hq]at z1
     have HQ:=aj hq
     clear hq h8 g8 g9
     generalize i1:wo.setCell ⟨W.heap.size,q,none⟩ (.bool true)=W5 at a7 a8 b0 f7
     go_wp2_with (first
      |(go_at_call 14;refine(c3.out _).mono ?_;rintro e w' ⟨rfl,a2⟩;rw[a2];clear a2 w')
      |(go_at_call 28;refine(d1.out _).mono ?_;rintro e w' ⟨rfl,a2⟩;rw[a2];clear a2 w'))
     clear i1 f7 z0 z1 z2 z3 z4 z5 z6 hd hf
     have d3:=aj a7
     have d4:=aj a8
     have d5:=aj b0
     clear a7 a8 b0
     go_loopw[11,48] (λav kv wx=> ∃k:Nat,k<=ks.length/\kv=.int .i64 k/\av=.int .i64 ((p+1+(gM (ks.take k)).length:Nat):Int)/\Kk w0 (some ⟨bb,oo,none⟩) n cap wx (λv=>(g v||(dI nd ((v:Nat):Int)&& !z v))||(ks.take k).any (λc=>c.jd ((v:Nat):Int)&& !Vz nd z v))/\tT wx W.heap.size (fL (Vz nd z))/\Kp (w0.heap.size+1+1) W wx) (λ_ kv _=>ks.length+1-(intOf kv).toNat)
     case atStart=>exact⟨0,by omega,rfl,by simp[gM],d3.out.congr (λv _=>by simp),d4.out,d5.out⟩
     case round=>
      obtain⟨k,hk,rfl,rfl,J,hB,hK⟩:=hrel
      have HI:=aj J
      have HB:=aj hB
      have HK:=aj hK
      by_cases a1:k<ks.length
      ·have a6:(k:Int)<(ks.length:Int):=by omega
       obtain⟨c,h1,h2,h3,h4⟩:=e9.out k a1
       have d6:=aj (h4 wr _ (Vz nd z) J)
       obtain⟨⟨y0,y1,y2,y3,y4⟩,-⟩:=fG hB
       have d7:wr.cell? ⟨w0.heap.size+1+1+1,0,none⟩=some (.func (.func 38) #[] #[.pointer (some ⟨w0.heap.size,0,none⟩),.pointer (some ⟨w0.heap.size+1+1,0,none⟩),.pointer (some ⟨w0.heap.size+1+1+1,0,none⟩)]):=by have:=J.2.2.2.1;simp[World.cell?,this,Kj]
       have d8:=aj h2
       have d9:=aj h1
       have b5:=(zG hB).1
       have e1:=aj b5
       clear h1 h2 h4 J hB hK b5
       generalize(gM (ks.take k)).length=L at*
       generalize c.flat.length=lc at*
       go_wp2_with fail
       clear y0 y1 y2 y3 y4 d7
       refine d6.out.mono ?_
       rintro e w4 ⟨rfl,b6,b7⟩
       have e2:=aj b6
       have b8:=aj b7
       clear b6 b7
       go_wp2
       go_roundw
       case rel=>exact⟨k+1,by omega,by go_num,by rw[d8.out];congr 2;omega,e2.out.congr (λv _=>by rw[d9.out,List.any_append];simp[Bool.or_assoc]),(b8.out.2 _ e1.out (by omega)).trans HB.out,HK.out.trans b8.out⟩
       case measure=>simp[intOf];omega
      ·have a6: ¬(k:Int)<(ks.length:Int):=by omega
       obtain rfl:k=ks.length:=by omega
       clear J hB hK
       rw[<-b9.out]
       go_wp2
       go_ret
       exact⟨rfl,HI.out.congr (λv _=>by rw[f1.out,d0.out v];simp[Bool.or_assoc]),HK.out⟩
    ·rw[yF h8]at c3
     have a7:=d2.out
     have a8:tT wo W.heap.size (fL (Vz nd z)):=by
      rw[<-Kl (g:=z)]
      ·exact HB.out
      ·intro v _;unfold Vz;rw[yF h8];simp
     have b0:=HK.out
     have i7:=aj h8
     clear h8
     go_wp2_with (first
      |(go_at_call 14;refine(c3.out _).mono ?_;rintro e w' ⟨rfl,a2⟩;rw[a2];clear a2 w')
      |(go_at_call 28;refine(d1.out _).mono ?_;rintro e w' ⟨rfl,a2⟩;rw[a2];clear a2 w'))
     clear z0 z1 z2 z3 z4 z5 z6
     have d3:=aj a7
     have d4:=aj a8
     have d5:=aj b0
     clear a7 a8 b0
     go_loopw[11,48] (λav kv wx=> ∃k:Nat,k<=ks.length/\kv=.int .i64 k/\av=.int .i64 ((p+1+(gM (ks.take k)).length:Nat):Int)/\Kk w0 (some ⟨bb,oo,none⟩) n cap wx (λv=>(g v||(dI nd ((v:Nat):Int)&& !z v))||(ks.take k).any (λc=>c.jd ((v:Nat):Int)&& !Vz nd z v))/\tT wx W.heap.size (fL (Vz nd z))/\Kp (w0.heap.size+1+1) W wx) (λ_ kv _=>ks.length+1-(intOf kv).toNat)
     case atStart=>exact⟨0,by omega,rfl,by simp[gM],d3.out.congr (λv _=>by simp),d4.out,d5.out⟩
     case round=>
      obtain⟨k,hk,rfl,rfl,J,hB,hK⟩:=hrel
      have HI:=aj J
      have HB:=aj hB
      have HK:=aj hK
      by_cases a1:k<ks.length
      ·have a6:(k:Int)<(ks.length:Int):=by omega
       obtain⟨c,h1,h2,h3,h4⟩:=e9.out k a1
       have d6:=aj (h4 wr _ (Vz nd z) J)
       obtain⟨⟨y0,y1,y2,y3,y4⟩,-⟩:=fG hB
       have d7:wr.cell? ⟨w0.heap.size+1+1+1,0,none⟩=some (.func (.func 38) #[] #[.pointer (some ⟨w0.heap.size,0,none⟩),.pointer (some ⟨w0.heap.size+1+1,0,none⟩),.pointer (some ⟨w0.heap.size+1+1+1,0,none⟩)]):=by have:=J.2.2.2.1;simp[World.cell?,this,Kj]
       have d8:=aj h2
       have d9:=aj h1
       have b5:=(zG hB).1
       have e1:=aj b5
       clear h1 h2 h4 J hB hK b5
       generalize(gM (ks.take k)).length=L at*
       generalize c.flat.length=lc at*
       go_wp2_with fail
       clear y0 y1 y2 y3 y4 d7
       refine d6.out.mono ?_
       rintro e w4 ⟨rfl,b6,b7⟩
       have e2:=aj b6
       have b8:=aj b7
       clear b6 b7
       go_wp2
       go_roundw
       case rel=>exact⟨k+1,by omega,by go_num,by rw[d8.out];congr 2;omega,e2.out.congr (λv _=>by rw[d9.out,List.any_append];simp[Bool.or_assoc]),(b8.out.2 _ e1.out (by omega)).trans HB.out,HK.out.trans b8.out⟩
       case measure=>simp[intOf];omega
      ·have a6: ¬(k:Int)<(ks.length:Int):=by omega
       obtain rfl:k=ks.length:=by omega
       clear J hB hK
       rw[<-b9.out]
       go_wp2
       go_ret
       exact⟨rfl,HI.out.congr (λv _=>by rw[f1.out,d0.out v];simp[Bool.or_assoc]),HK.out⟩
def aaE(t:Fm):zB:=fL (λv=>t.jd ((v:Nat):Int))
def ahY(w:zW)(t:Fm)(e:Ending)(w':zW):Prop:=e=.returned (.agg (Gc (aaE t)))/\Below w.heap.size w w'
theorem Km(a:zO)(n cap:Nat)(ns:List Nd)(w:zW)(hs:SlF w a n ns)(hn:n<=40)(t:Fm)(a2:t.ok)(he:ns=t.flat):Calls prog 24 #[.slice a n cap] w (ahY w t):=by
 have a7:Hid (∀(W:zW) (g z:Nat->Bool),Kk w a n cap W g->Calls prog 38 #[.int .i64 0,.agg #[.bool (z 0),.bool (z 1),.bool (z 2),.bool (z 3),.bool (z 4)],.pointer (some ⟨w.heap.size,0,none⟩),.pointer (some ⟨w.heap.size+1+1,0,none⟩),.pointer (some ⟨w.heap.size+1+1+1,0,none⟩)] W (aeP w a n cap W (0+t.flat.length) (λv=>g v||(t.jd ((v:Nat):Int)&& !z v)))):=λW g z h=>aeQ a n cap ns w hs hn t.flat.length t zr a2 [] [] W g z (by simp[he]) h;clear hs he a2
 have U:Hid (Kk w a n cap (((((w.alloc (.cells #[.slice a n cap] 22)).alloc z5O).alloc z5O).alloc (.cells #[.nilFunc] 81)).setCell ⟨w.heap.size+1+1+1,0,none⟩ (Kj w.heap.size)) (λ_=>false)):=by
  refine⟨?_,?_,?_,?_,?_⟩
  ·rw[Below.heap_setCell _ _ _ _ (show w.heap.size≠w.heap.size+1+1+1 by omega)];exact(wP w _ _ _ _).1
  ·rw[Below.heap_setCell _ _ _ _ (show w.heap.size+1≠w.heap.size+1+1+1 by omega)];exact(wP w _ _ _ _).2.1
  ·show _=_;rw[Below.heap_setCell _ _ _ _ (show w.heap.size+1+1≠w.heap.size+1+1+1 by omega)];exact(wP w _ _ _ _).2.2.1
  ·have:((((w.alloc (.cells #[.slice a n cap] 22)).alloc z5O).alloc z5O).alloc (.cells #[.nilFunc] 81)).heap[w.heap.size+1+1+1]? =some (.cells #[.nilFunc] 81 (0,0)):=(wP w _ _ _ _).2.2.2;exact jK (k:=0) (v:=Kj w.heap.size) this
  ·exact(((((zb.alloc zr _).alloc (by simp) _).alloc (by simp;omega) _).alloc (by simp;omega) _).setCell (show w.heap.size<=w.heap.size+1+1+1 by omega) _)
 have h4:((((w.alloc (.cells #[.slice a n cap] 22)).alloc z5O).alloc z5O).alloc (.cells #[.nilFunc] 81)).heap[w.heap.size+1+1+1]? =some (.cells #[.nilFunc] 81 (0,0)):=(wP w _ _ _ _).2.2.2;generalize a8:(((w.alloc (.cells #[.slice a n cap] 22)).alloc z5O).alloc z5O).alloc (.cells #[.nilFunc] 81)=W4 at h4 U;have hc:W4.cell? ⟨w.heap.size+1+1+1,0,none⟩=some .nilFunc:=by simp[World.cell?,h4]
 have hf:W4.frozen? ⟨w.heap.size+1+1+1,0,none⟩=false:=by simp[World.frozen?,h4]
 unfold Kj at U;generalize b5:W4.setCell ⟨w.heap.size+1+1+1,0,none⟩ (.func (.func 38) #[] #[.pointer (some ⟨w.heap.size,0,none⟩),.pointer (some ⟨w.heap.size+1+1,0,none⟩),.pointer (some ⟨w.heap.size+1+1+1,0,none⟩)])=W5 at U;have hl:W5.cell? ⟨w.heap.size+1+1+1,0,none⟩=some (.func (.func 38) #[] #[.pointer (some ⟨w.heap.size,0,none⟩),.pointer (some ⟨w.heap.size+1+1,0,none⟩),.pointer (some ⟨w.heap.size+1+1+1,0,none⟩)]):=by have:=U.out.2.2.2.1;simp[World.cell?,this,Kj]
 clear h4;go_enter func24,ntmps24;go_wp2_with fail;clear a8 hc hf hl;refine(a7.out W5 _ (λ_=>false) U.out).mono ?_;rintro e w6 ⟨rfl,a6,-⟩;have J:Kk w a n cap w6 (λv=>t.jd ((v:Nat):Int)):=a6.congr (λv _=>by simp);clear b5 U a6;have Z:=J.2.2.1;have b6:=aj J.2.2.2.2;have h1:=J.2.1;obtain⟨b0,b1,b2,b3,b4,a1⟩:=Yb (aeN (λv=>t.jd ((v:Nat):Int)));have HU:Hid (aaE t=[b0,b1,b2,b3,b4]):=a1;rw[a1]at Z;obtain⟨⟨y0,y1,y2,y3,y4⟩,-⟩:=fG Z;obtain⟨⟨x0,x1,x2,x3,x4⟩,f0,f1,f2,f3,f4⟩:=fG h1;obtain⟨Wf,b8,g3,b7⟩:=tH h1 b6.out (by omega) (.bool b0) (.bool b1) (.bool b2) (.bool b3) (.bool b4);obtain⟨⟨t0,t1,t2,t3,t4⟩,-⟩:=fG g3;clear g3 Z h1 J a1;go_wp2;exact bodyPost_ret (v:=.agg #[.bool b0,.bool b1,.bool b2,.bool b3,.bool b4]) (by simp[results,results24,go_sem,t0,t1,t2,t3,t4]) rfl ⟨by rw[HU.out];rfl,b7⟩
def ajo(ns:List Nd)(z:zI)(c:Int):Prop:=c=(mG ns).2/\(c≠0->z=[])/\ ∀t:Fm,ns=t.flat->t.ok->z=aT t
theorem Si(t:Fm)(h:k<5):(Gc (aaE t))[k]? =some (.bool (t.jd ((k:Nat):Int))):=by unfold aaE;rw[Ki _ _ (by rw[aeN];exact h),OX _ h]
theorem Sj(a:zO)(n cap:Nat)(ns:List Nd)(w:zW)(hs:SlF w a n ns)(FL:zI)(c:Int)(hF:ajo ns FL c):Calls prog 11 #[.slice a n cap] w (ahR w FL c):=by
 obtain⟨l0,d0,d1,d2,d3⟩:=info_parts rX;obtain⟨hc,a1,a2⟩:=hF;have J:=aj (wG a n cap ns w hs);rw[<-hc]at J;by_cases hz:c=0
 ·subst hz
  obtain⟨t,he,a6,c8,-⟩:=Ed hc.symm;have hn:n<=40:=by rw[<-hs.1];exact c8
  have a7:=a2 t he a6;subst a7;have HS:=aj hs;have b7:=aj (λW (h:SlF W a n ns)=>Km a n cap ns W h hn t a6 he);have d4:=aj (aaG t);have d5:=aj (aeR t);have d6:=aj (λk (h:k<=5)=>ahx t h);have H5:=aj (aaF t);have b8:=aj (λk (h:k<5)=>Si t h);rw[show bC 0=.nilIface from rfl]at J;clear hs he a6 hc a1 a2;generalize aT t=FL at H5⊢;go_enter func11,ntmps11;go_wp2_with fail;refine J.out.mono ?_;rintro e w1 ⟨rfl,U⟩;have a8:=aj U;have b9:=aj (b7.out w1 (dG HS.out U));clear U b7 J;go_wp2_with fail;refine b9.out.mono ?_;rintro e w2 ⟨rfl,c0⟩;have d7:=aj (TQ (Qd w) (ak a8.out c0));clear c0 b9;generalize Gc (aaE t)=FA at b8⊢;generalize(mG ns).1=f1;go_wp2;go_loopw[6,19] (λlv kv wx=> ∃k:Nat,k<=5/\kv=.int .i64 k/\Grow w (Gf t k) lv wx) (λ_ kv _=>5-(intOf kv).toNat);case atStart=>exact⟨0,by omega,rfl,d7.out⟩
  case round=>
   obtain⟨k,hk,rfl,c3⟩:=hrel;have Z:=aj c3;have c4:=d5.out k;clear c3;by_cases c5:k<5
   ·have c9:(k:Int)<5:=by omega
    have d8:=OV FA k c5 _ (b8.out k c5);have b0:=aj (d4.out k);generalize t.jd ((k:Nat):Int)=q at d8 b0;cases q with
    |true=>
     have z:=b0.out
     rw[yP rfl]at z
     have b1:=aj z
     clear z
     have b2:=aj Z.out.1
     have d9:=aj Z.out.2.size
     generalize hL:(Gf t k).length=L at b2 c4
     have e0:=aj hL
     clear hL
     go_wp2_with (at_builtin;refine wpList_append_own _ rfl _ _ 24 rfl w.heap.size 3 l0 (.int .i64 0) 1 8 underlying24 d0 d1 d2 d3 rfl (by decide) _ L ((Gf t k).map (Value.int .i64)) rfl (b2.out.alloc _) ⟨wr.heap.size,0,none⟩ 1 1 [.int .i64 (k:Int)] rfl rfl (fV _ _ _) (λu hu=>by simp at hu;subst hu;rfl) (by unfold maxLen;omega) (by omega) (by have:=d9.out;simp;omega) ?_;intro v3 w6 hown b6 _)
     go_roundw
     case rel=>exact⟨k+1,by omega,by go_num,by rw[b1.out];exact Lr Z.out (by rw[e0.out];exact hown) b6⟩
     case measure=>simp[intOf];omega
    |false=>
     have z:=b0.out
     rw[yN (by decide)]at z
     have b1:=aj z
     clear z
     go_wp2
     go_roundw
     case rel=>exact⟨k+1,by omega,by go_num,by rw[b1.out];exact Z.out⟩
     case measure=>simp[intOf];omega
   ·have c9: ¬(k:Int)<5:=by omega
    obtain rfl:k=5:=(by omega);have b3:=Qe Z.out (by unfold maxLen;omega) (d6.out 5 zr);rw[H5.out]at b3;obtain⟨ae,ce,b4,c6,c7⟩:=b3;injection b4 with b4;subst b4;have HE:=aj (⟨c6.1,c7⟩:_/\_);clear c4 c6 c7;go_wp2;go_ret2;exact⟨_,_,rfl,HE.out.1,HE.out.2⟩
 ·have a7:=a1 hz
  subst a7;have b5:bC c=.iface 45 (.int .i64 c):=by unfold bC;rw[yN hz]
  rw[b5]at J;have e1:=aj b5;clear hs hc a1 a2 hz b5;go_enter func11,ntmps11;go_wp2_with fail;refine J.out.mono ?_;rintro e w1 ⟨rfl,U⟩;have a8:=aj U;clear U;go_wp2;go_ret2;exact⟨none,0,by rw[e1.out];rfl,⟨rfl,by decide,(λx hx=>by cases hx),.inl rfl⟩,a8.out⟩
def Fm.bare:Fm->Prop
 |.gH n=>n.op≠8/\n.op≠9
 |.un n f=>(n.op≠8/\n.op≠9)/\f.bare
 |.bin n f g=>(n.op≠8/\n.op≠9)/\f.bare/\g.bare
def M6(s:Nat):Value:=.func (.func 33) #[] #[.pointer (some ⟨s+1+1,0,none⟩),.pointer (some ⟨s,0,none⟩),.pointer (some ⟨s+1+1+1,0,none⟩),.pointer (some ⟨s+1,0,none⟩)]
def JoI(w0:zW)(a:zO)(n cap:Nat)(J:zO)(z:Nat)(W:zW)(p:Nat):Prop:=
 W.heap[w0.heap.size]? =some (.cells #[.slice a n cap] 22 (0,0))/\W.heap[w0.heap.size+1]? =some (.cells #[.slice J n z] 33 (0,0))/\W.heap[w0.heap.size+1+1]? =some (.cells #[.int .i64 ((p:Nat):Int)] 3 (0,0))/\W.heap[w0.heap.size+1+1+1]? =some (.cells #[M6 w0.heap.size] 76 (0,0))/\Below w0.heap.size w0 W
theorem SC{B:Nat}{v:Value}{T:TypeId}(h:W.heap[B]? =some (.cells #[v] T (0,0))):W.cell? ⟨B,0,none⟩=some v/\W.frozen? ⟨B,0,none⟩=false:=⟨by simp[World.cell?,h],by simp[World.frozen?,h]⟩
theorem ahE{z:Nat}{p:Nat}(h:JoI w0 a n cap J z W p)(q:Nat):JoI w0 a n cap J z (W.setCell ⟨w0.heap.size+1+1,0,none⟩ (.int .i64 ((q:Nat):Int))) q:=by
 obtain⟨h1,h2,h3,h4,h5⟩:=h;refine⟨?_,?_,?_,?_,h5.setCell (show w0.heap.size<=w0.heap.size+1+1 by omega) _⟩
 ·rw[Below.heap_setCell _ _ _ _ (show w0.heap.size≠w0.heap.size+1+1 by omega)];exact h1
 ·rw[Below.heap_setCell _ _ _ _ (show w0.heap.size+1≠w0.heap.size+1+1 by omega)];exact h2
 ·exact jK (k:=0) (v:=.int .i64 ((q:Nat):Int)) h3
 ·rw[Below.heap_setCell _ _ _ _ (show w0.heap.size+1+1+1≠w0.heap.size+1+1 by omega)];exact h4
theorem afl{z:Nat}{p:Nat}(h:JoI w0 a n cap J z W p):JoI w0 a n cap J z W.drew p:=⟨h.1,h.2.1,h.2.2.1,h.2.2.2.1,h.2.2.2.2.drew⟩
def ahZ(w0:zW)(a:zO)(n cap:Nat)(J:zO)(z:Nat)(p:Nat)(b:Bool)(e:Ending)(W':zW):Prop:=e=.returned (.bool b)/\JoI w0 a n cap J z W' p
theorem afm(a:zO)(n cap:Nat)(ns:List Nd)(a2:zO)(b1:Nat)(os:List Om)(nums:zI)(w0:zW)(hs:SlF w0 a n ns)(hS:mR w0 a2 n (ns.map (gY os nums)))(hn:n<=40): ∀(N:Nat) (t:Fm),t.flat.length<=N->t.ok->t.bare-> ∀(iI post:List Nd) (W:zW),ns=iI++(t.flat++post)->JoI w0 a n cap a2 b1 W iI.length->Calls prog 33 #[.pointer (some ⟨w0.heap.size+1+1,0,none⟩),.pointer (some ⟨w0.heap.size,0,none⟩),.pointer (some ⟨w0.heap.size+1+1+1,0,none⟩),.pointer (some ⟨w0.heap.size+1,0,none⟩)] W (ahZ w0 a n cap a2 b1 (iI.length+t.flat.length) (t.yh os nums)):=by
 intro N;induction N with
 |zero=>intro t a6;have:=Jc t;omega
 |succ N ih=>
  intro t a6 b6 b9 iI post W he hI
  have hL:=hs.1
  have b2:=Ee t
  have c3:iI.length<n:=by rw[<-hL,he,b2];simp<;>omega
  have a1:ns.getD iI.length oL=t.node:=by rw[he,b2];simp[List.getD]
  have b7:(ns.map (gY os nums)).getD iI.length false=gY os nums t.node:=by rw[<-a1];simp[List.getD,show iI.length<ns.length by omega]
  have z:=ahE hI (iI.length+1)
  obtain⟨c0,f0⟩:=SC hI.2.2.1
  have d8:(iI.length:Int)<(n:Int):=by omega
  generalize d2:W.setCell ⟨w0.heap.size+1+1,0,none⟩ (.int .i64 ((iI.length+1:Nat):Int))=W1 at z
  obtain⟨bb,oo,a',c',ha,x0,-⟩:=jB (dG hs z.2.2.2.2) iI.length c3
  subst ha
  rw[a1]at x0
  obtain⟨d0,-⟩:=SC z.1
  obtain⟨d1,-⟩:=SC z.2.1
  obtain⟨d3,-⟩:=SC z.2.2.2.1
  unfold M6 at d3
  rw[show((iI.length+1:Nat):Int)=(iI.length:Int)+1 by omega]at d2
  have c4:=aj z
  cases t with
  |gH nd=>
   obtain⟨bs,d9,d6,y0⟩:=jL (bD hS z.2.2.2.2) iI.length c3
   subst d6
   rw[b7]at y0
   have a7:=b6.2
   have e5:(nd.op==5)=false:=by simp;intro h;rw[h]at a7;simp[gQ]at a7
   have e6:(nd.op==6)=false:=by simp;intro h;rw[h]at a7;simp[gQ]at a7
   have e7:(nd.op==7)=false:=by simp;intro h;rw[h]at a7;simp[gQ]at a7
   simp only[Fm.node]at x0 y0
   have Z:Hid ((Fm.gH nd).yh os nums=gY os nums nd):=rfl
   have HP:Hid (iI.length+(Fm.gH nd).flat.length=iI.length+1):=rfl
   clear hs hS b6 b9 b2 a1 he ih a6 hL hI z b7 a7
   generalize(Fm.gH nd).yh os nums=T at Z⊢
   generalize iI.length+(Fm.gH nd).flat.length=pe at HP⊢
   generalize gY os nums nd=hv at Z y0
   generalize iI.length=p at*
   go_enter func33,ntmps33
   go_wp2
   go_ret
   exact⟨by rw[Z.out];rfl,by rw[HP.out];exact c4.out⟩
  |un nd f=>
   obtain⟨c5,J,b3⟩:=b6
   obtain⟨c6,b4⟩:=b9
   have h5:nd.op=5:=by
    unfold gQ at J;by_cases q:nd.op=5\/nd.op=8\/nd.op=9
    ·omega
    ·rw[yN q]at J;split at J<;>omega
   have e5:(nd.op==5)=true:=by simp[h5]
   have Z:Hid ((Fm.un nd f).yh os nums= !f.yh os nums):=rfl
   have HP:Hid (iI.length+(Fm.un nd f).flat.length=iI.length+1+f.flat.length):=by show _=_;simp[Fm.flat];omega
   have HC:=aj (ih f (by simp[Fm.flat]at a6;omega) b3 b4 (iI++[nd]) post W1 (by rw[he];simp[Fm.flat]) (by rw[show(iI++[nd]).length=iI.length+1 by simp];exact c4.out))
   rw[show(iI++[nd]).length=iI.length+1 by simp]at HC
   simp only[Fm.node]at x0
   clear hs hS b3 b4 b2 a1 he ih a6 hL hI z b7 J c6 h5 c5
   generalize(Fm.un nd f).yh os nums=T at Z⊢
   generalize iI.length+(Fm.un nd f).flat.length=pe at HP⊢
   generalize f.yh os nums=tv at Z HC
   generalize f.flat.length=fl at HP HC
   generalize iI.length=p at*
   go_enter func33,ntmps33
   go_wp2_with fail
   refine HC.out.mono ?_
   rintro e w2 ⟨rfl,U⟩
   have b5:=aj U
   clear U d2 d0 d1 d3 x0 c0 f0
   go_wp2
   go_ret
   exact⟨by rw[Z.out];rfl,by rw[HP.out];exact b5.out⟩
  |bin nd f g=>
   obtain⟨c5,J,b3,d4⟩:=b6
   obtain⟨c6,b4,d5⟩:=b9
   have c7:nd.op=6\/nd.op=7:=by
    unfold gQ at J;by_cases q:nd.op=5\/nd.op=8\/nd.op=9
    ·rw[yP q]at J;omega
    ·rw[yN q]at J;split at J<;>omega
   have e5:(nd.op==5)=false:=by simp;omega
   have Z:Hid ((Fm.bin nd f g).yh os nums=if nd.op=6 then f.yh os nums&&g.yh os nums else f.yh os nums||g.yh os nums):=rfl
   have HP:Hid (iI.length+(Fm.bin nd f g).flat.length=iI.length+1+f.flat.length+g.flat.length):=by show _=_;simp[Fm.flat];omega
   have HC:=aj (ih f (by simp[Fm.flat]at a6;omega) b3 b4 (iI++[nd]) (g.flat++post) W1.drew (by rw[he];simp[Fm.flat]) (by rw[show(iI++[nd]).length=iI.length+1 by simp];exact afl c4.out))
   rw[show(iI++[nd]).length=iI.length+1 by simp]at HC
   have b0:=aj (λ(W:zW) (h:JoI w0 (some ⟨bb,oo,none⟩) n cap a2 b1 W (iI.length+1+f.flat.length))=>ih g (by simp[Fm.flat]at a6;omega) d4 d5 (iI++(nd::f.flat)) post W (by rw[he];simp[Fm.flat]) (by rw[show(iI++(nd::f.flat)).length=iI.length+1+f.flat.length by simp;omega];exact h))
   rw[show(iI++(nd::f.flat)).length=iI.length+1+f.flat.length by simp;omega]at b0
   have b8:Hid (∀(W:zW) (q:Nat),JoI w0 (some ⟨bb,oo,none⟩) n cap a2 b1 W q->W.cell? ⟨w0.heap.size,0,none⟩=some (.slice (some ⟨bb,oo,none⟩) n cap)/\W.cell? ⟨bb,oo+iI.length*7,none⟩=some (.int .i64 nd.op)/\W.cell? ⟨w0.heap.size+1+1+1,0,none⟩=some (.func (.func 33) #[] #[.pointer (some ⟨w0.heap.size+1+1,0,none⟩),.pointer (some ⟨w0.heap.size,0,none⟩),.pointer (some ⟨w0.heap.size+1+1+1,0,none⟩),.pointer (some ⟨w0.heap.size+1,0,none⟩)])):=λW q h=>by obtain⟨b',o',e0,e1,ea,v0,-⟩:=jB (dG hs h.2.2.2.2) iI.length c3;cases ea;rw[a1]at v0;exact⟨(SC h.1).1,v0,(SC h.2.2.2.1).1⟩
   simp only[Fm.node]at x0
   clear hs hS b3 b4 d4 d5 b2 a1 he ih a6 hL hI z b7 J c6 c5
   generalize(Fm.bin nd f g).yh os nums=T at Z⊢
   generalize iI.length+(Fm.bin nd f g).flat.length=pe at HP⊢
   generalize f.yh os nums=tv at Z HC
   generalize g.yh os nums=tw at Z b0
   generalize f.flat.length=fl at HP HC b0
   generalize g.flat.length=gl at HP b0
   generalize iI.length=p at*
   have d7:(nd.op==6)=true\/((nd.op==6)=false/\(nd.op==7)=true):=by
    rcases c7 with h|h
    ·exact .inl (by simp[h])
    ·exact .inr ⟨by simp[h],by simp[h]⟩
   go_enter func33,ntmps33
   rcases d7 with e6|⟨e6,e7⟩
   ·have c8:Hid (T=(tv&&tw)):=by show _=_;rw[Z.out,yP (by simpa using e6)]
    clear c7 Z
    go_wp2_with fail
    go_region_with (first
     |(go_at_call 33;refine HC.out.mono ?_;rintro e w2 ⟨rfl,U⟩;have b5:=aj U;obtain⟨k0,k1,k3⟩:=b8.out w2 _ U;clear U)
     |(go_at_call 33;refine(b0.out _ b5.out).mono ?_;rintro e w3 ⟨rfl,a8⟩;have c9:=aj a8;obtain⟨l0,l1,l3⟩:=b8.out w3 _ a8;clear a8))
    all_goals
     cases tv
     all_goals
      go_wp2
      go_ret
      exact⟨by rw[c8.out];rfl,by rw[HP.out];exact c9.out⟩
   ·have c8:Hid (T=(tv||tw)):=by show _=_;rw[Z.out,yN (by simpa using e6)]
    clear c7 Z
    go_wp2_with fail
    go_region_with (first
     |(go_at_call 33;refine HC.out.mono ?_;rintro e w2 ⟨rfl,U⟩;have b5:=aj U;obtain⟨k0,k1,k3⟩:=b8.out w2 _ U;clear U)
     |(go_at_call 33;refine(b0.out _ b5.out).mono ?_;rintro e w3 ⟨rfl,a8⟩;have c9:=aj a8;obtain⟨l0,l1,l3⟩:=b8.out w3 _ a8;clear a8))
    all_goals
     cases tv
     all_goals
      go_wp2
      go_ret
      exact⟨by rw[c8.out];rfl,by rw[HP.out];exact c9.out⟩
theorem afn(a:zO)(n cap:Nat)(ns:List Nd)(J:zO)(z:Nat)(os:List Om)(nums:zI)(w:zW)(hs:SlF w a n ns)(hS:mR w J n (ns.map (gY os nums)))(hn:n<=40)(t:Fm)(Z:t.ok)(a1:t.bare)(he:ns=t.flat):Calls prog 18 #[.slice a n cap,.slice J n z] w λe w'=>e=.returned (.bool (t.yh os nums))/\Below w.heap.size w w':=by
 have a6:Hid (∀W,JoI w a n cap J z W 0->Calls prog 33 #[.pointer (some ⟨w.heap.size+1+1,0,none⟩),.pointer (some ⟨w.heap.size,0,none⟩),.pointer (some ⟨w.heap.size+1+1+1,0,none⟩),.pointer (some ⟨w.heap.size+1,0,none⟩)] W (ahZ w a n cap J z (0+t.flat.length) (t.yh os nums))):=λW h=>afm a n cap ns J z os nums w hs hS hn t.flat.length t zr Z a1 [] [] W (by simp[he]) h;clear hs hS Z a1 he;generalize t.yh os nums=T at a6⊢;have h4:((((w.alloc (.cells #[.slice a n cap] 22)).alloc (.cells #[.slice J n z] 33)).alloc (.cells #[.int .i64 0] 3)).alloc (.cells #[.nilFunc] 76)).heap[w.heap.size+1+1+1]? =some (.cells #[.nilFunc] 76 (0,0)):=(wP w _ _ _ _).2.2.2
 have U:Hid (JoI w a n cap J z (((((w.alloc (.cells #[.slice a n cap] 22)).alloc (.cells #[.slice J n z] 33)).alloc (.cells #[.int .i64 0] 3)).alloc (.cells #[.nilFunc] 76)).setCell ⟨w.heap.size+1+1+1,0,none⟩ (M6 w.heap.size)) 0):=by
  refine⟨?_,?_,?_,?_,?_⟩
  ·rw[Below.heap_setCell _ _ _ _ (show w.heap.size≠w.heap.size+1+1+1 by omega)];exact(wP w _ _ _ _).1
  ·rw[Below.heap_setCell _ _ _ _ (show w.heap.size+1≠w.heap.size+1+1+1 by omega)];exact(wP w _ _ _ _).2.1
  ·rw[Below.heap_setCell _ _ _ _ (show w.heap.size+1+1≠w.heap.size+1+1+1 by omega)];exact(wP w _ _ _ _).2.2.1
  ·exact jK (k:=0) (v:=M6 w.heap.size) h4
  ·exact(((((zb.alloc zr _).alloc (by simp) _).alloc (by simp;omega) _).alloc (by simp;omega) _).setCell (show w.heap.size<=w.heap.size+1+1+1 by omega) _)
 generalize a8:(((w.alloc (.cells #[.slice a n cap] 22)).alloc (.cells #[.slice J n z] 33)).alloc (.cells #[.int .i64 0] 3)).alloc (.cells #[.nilFunc] 76)=W4 at h4 U;obtain⟨hc,hf⟩:=SC h4;unfold M6 at U;generalize b0:W4.setCell ⟨w.heap.size+1+1+1,0,none⟩ (.func (.func 33) #[] #[.pointer (some ⟨w.heap.size+1+1,0,none⟩),.pointer (some ⟨w.heap.size,0,none⟩),.pointer (some ⟨w.heap.size+1+1+1,0,none⟩),.pointer (some ⟨w.heap.size+1,0,none⟩)])=W5 at U;have hl:=(SC U.out.2.2.2.1).1;unfold M6 at hl;clear h4;go_enter func18,ntmps18;go_wp2_with fail;clear a8 hc hf hl;refine(a6.out W5 U.out).mono ?_;rintro e w6 ⟨rfl,a7⟩;have b1:=aj a7.2.2.2.2;clear b0 U a7;go_wp2;go_ret;exact⟨rfl,b1.out⟩
def nmC(t:Fm)(nums:zI):Int:=if AP t nums.length=true then 2 else if mH nums=true then 0 else 1
theorem M7{t:Fm}{m:Nat}(z:k<5)(J:t.jd ((k:Nat):Int)=true)(hm:m<=k):AP t m=true:=by
 unfold AP;rw[List.any_eq_true];refine⟨(k:Int),?_,yT (by omega)⟩;unfold aT;rw[List.mem_filter];refine⟨?_,J⟩;match k,z with
 |0,_=>simp
 |1,_=>simp
 |2,_=>simp
 |3,_=>simp
 |4,_=>simp
theorem afo{t:Fm}{m:Nat}(h: ∀k:Nat,k<5->t.jd ((k:Nat):Int)=true->k<m):AP t m=false:=by
 unfold AP;rw[List.any_eq_false];intro v hv;unfold aT at hv;rw[List.mem_filter]at hv;obtain⟨h1,h2⟩:=hv;have h3:0<=v/\v<5:=by simp at h1;omega
 obtain⟨q,rfl⟩: ∃q:Nat,v=(q:Int):=⟨v.toNat,by omega⟩;have:=h q (by omega) h2;simp;omega
theorem afp(z:k<nums.length)(h: ¬(0<=nums.getD k 0/\nums.getD k 0<=1099511627776)):mH nums=false:=by unfold mH;rw[List.all_eq_false];refine⟨nums.getD k 0,by simp[List.getD,z],λJ=>h (of_decide_eq_true J)⟩
theorem aaO(h: ∀k,k<nums.length->0<=nums.getD k 0/\nums.getD k 0<=1099511627776):mH nums=true:=by unfold mH;rw[List.all_eq_true];intro x hx;obtain⟨k,z,rfl⟩:=List.getElem_of_mem hx;have:=h k z;simp only[List.getD,List.getElem?_eq_getElem z,Option.getD_some]at this;exact yT this
theorem KU(a:zO)(n cap:Nat)(ns:List Nd)(a2:zO)(m b9:Nat)(nums:zI)(w:zW)(hs:SlF w a n ns)(h2:Sl w a2 m nums)(hn:n<=40)(t:Fm)(b2:t.ok)(he:ns=t.flat):Calls prog 16 #[.slice a n cap,.slice a2 m b9] w λe w'=>e=.returned (bC (nmC t nums))/\Below w.heap.size w w':=by
 have hL:=h2.1;have c3:=h2.2.1;unfold maxLen at c3;have a1:=aj (Km a n cap ns w hs hn t b2 he);have b3:=aj (λk (h:k<5)=>Si t h);have c4:=aj h2;have a6:Hid (∀k,k<5->t.jd ((k:Nat):Int)=true->m<=k->nmC t nums=2):=λk hk hf hm=>by unfold nmC;rw[yP (M7 hk hf (by omega))]
 have a7:Hid ((∀k:Nat,k<5->t.jd ((k:Nat):Int)=true->k<m)->(∀k,k<m-> ¬(0<=nums.getD k 0/\nums.getD k 0<=1099511627776)->nmC t nums=1)/\((∀k,k<m->0<=nums.getD k 0/\nums.getD k 0<=1099511627776)->nmC t nums=0)):=λh=>by
  have e:AP t nums.length=false:=afo (by rw[hL];exact h);unfold nmC;rw[e,yN (by decide)];refine⟨λk hk hq=>?_,λhq=>?_⟩
  ·rw[afp (by omega) hq,yN (by decide)]
  ·rw[aaO (by rw[hL];exact hq),yP rfl]
 clear hs h2 b2 he hL;generalize nmC t nums=R at a6 a7⊢;unfold ahY at a1;generalize Gc (aaE t)=FA at b3 a1;go_enter func16,ntmps16;go_wp2_with fail;refine a1.out.mono ?_;rintro e w1 ⟨rfl,b4⟩;have Z:=aj b4;clear b4;go_wp2;go_loop[11] (λkv=> ∃k:Nat,k<=5/\kv=.int .i64 k/\ ∀j:Nat,j<k->t.jd ((j:Nat):Int)=true->j<m) (λkv=>5-(intOf kv).toNat);case atStart=>exact⟨0,by omega,rfl,λj hj=>by omega⟩
 case round=>
  obtain⟨k,hk,rfl,hz⟩:=hrel;have HZ:=aj hz;clear hz;by_cases a8:k<5
  ·have c0:(k:Int)<5:=by omega
   have c5:=OV FA k a8 _ (b3.out k a8);have HY:=aj (a6.out k a8)
   have J:Hid ((t.jd ((k:Nat):Int)=true->k<m)-> ∀j:Nat,j<k+1->t.jd ((j:Nat):Int)=true->j<m):=λh j hj hq=>by
    by_cases e:j=k
    ·subst e;exact h hq
    ·exact HZ.out j (by omega) hq
   generalize t.jd ((k:Nat):Int)=q at c5 HY J;cases q with
   |true=>
    by_cases hm:(k:Int)≥(m:Int)
    ·have HR:=aj (HY.out rfl (by omega))
     clear HY J
     go_wp2
     go_ret
     exact⟨by rw[HR.out];rfl,Z.out⟩
    ·have HN:=aj (J.out (λ_=>by omega))
     clear HY J
     go_wp2
     exact⟨⟨k+1,by omega,by go_num,HN.out⟩,by simp[intOf];omega⟩
   |false=>
    have HN:=aj (J.out (λh=>by cases h))
    clear HY J
    go_wp2
    exact⟨⟨k+1,by omega,by go_num,HN.out⟩,by simp[intOf];omega⟩
  ·have c0: ¬(k:Int)<5:=by omega
   obtain rfl:k=5:=(by omega);obtain⟨b5,b6⟩:=a7.out HZ.out;have b7:=aj b5;have b8:=aj b6;clear b5 b6 a7 a6 HZ;go_wp2;go_loop[26] (λjv=> ∃j:Nat,j<=m/\jv=.int .i64 j/\ ∀i,i<j->0<=nums.getD i 0/\nums.getD i 0<=1099511627776) (λjv=>m-(intOf jv).toNat);case atStart=>exact⟨0,by omega,rfl,λj hj=>by omega⟩
   case round=>
    obtain⟨j,hj,rfl,hz⟩:=hrel;have HZ:=aj hz;clear hz;by_cases b0:j<m
    ·have b1:(j:Int)<(m:Int):=by omega
     obtain⟨bo,oo,rfl,hc⟩:=bH (aF c4.out Z.out) j b0;have U:=aj (b7.out j b0)
     have J:Hid (0<=nums.getD j 0/\nums.getD j 0<=1099511627776-> ∀i,i<j+1->0<=nums.getD i 0/\nums.getD i 0<=1099511627776):=λh i hi=>by
      by_cases e:i=j
      ·subst e;exact h
      ·exact HZ.out i (by omega)
     generalize nums.getD j 0=z at hc U J;by_cases q1:z<0
     ·have HR:=aj (U.out (by omega));clear U J;go_wp2;go_ret;exact⟨by rw[HR.out];rfl,Z.out⟩
     ·by_cases q2:z>1099511627776
      ·have HR:=aj (U.out (by omega));clear U J;go_wp2;go_ret;exact⟨by rw[HR.out];rfl,Z.out⟩
      ·have HN:=aj (J.out (by omega));clear U J;go_wp2;exact⟨⟨j+1,by omega,by go_num,HN.out⟩,by simp[intOf];omega⟩
    ·have b1: ¬(j:Int)<(m:Int):=by omega
     obtain rfl:j=m:=(by omega);have HR:=aj (b8.out HZ.out);clear b8 b7 HZ;go_wp2;go_ret;exact⟨by rw[HR.out];rfl,Z.out⟩
end Go.Proofs.YtceojneljnnooaaGreat
