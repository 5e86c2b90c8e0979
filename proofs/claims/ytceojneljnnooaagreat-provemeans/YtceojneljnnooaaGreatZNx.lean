import Derived.Test.YtceojneljnnooaaGreatZNr
import Derived.Deep.AppendLies
import Derived.OneCell
open Go.Proofs.Tryz
namespace Go.Proofs.YtceojneljnnooaaGreat
open Go.RowKit
set_option maxHeartbeats 0
set_option maxRecDepth 100000
set_option linter.all false
variable{N J:zL}{a a':zO}{W w wb W2:zW}{rows:Nat->zI}{E:zB}{n m k B:Nat}{T:TypeId}{b t:Int}{v0 v1 v2 v3 u0 u1 u2 u3:Value}{l:zI}{xs:zV}{es:Nat->Bool}
def gT(w:zW)(a:zO)(len:Nat)(z:zL):Prop:=
 z.length=len/\len<=maxLen/\
 (len=0\/ ∃b o,a=some ⟨b,o,none⟩/\ ∀i,i<len-> ∃a' J,w.cell? ⟨b,o+i,none⟩=some (.slice a' (z.getD i []).length J)/\Sl w a' (z.getD i []).length (z.getD i []))
theorem aG{len:Nat}(h:gT w a len J)(hb:Below w.heap.size w W):gT W a len J:=by
 obtain⟨h1,h2,h3⟩:=h;refine⟨h1,h2,?_⟩;rcases h3 with h3|⟨b,o,rfl,hc⟩
 ·exact Or.inl h3
 ·refine Or.inr ⟨b,o,rfl,λi hi=>?_⟩;obtain⟨a',z,h4,h5⟩:=hc i hi;refine⟨a',z,?_,aF h5 hb⟩;rw[hb.cell (p:=⟨b,o+i,none⟩) (zk w _ h4)];exact h4
theorem gF{len:Nat}(h:gT w a len J)(i:Nat)(hi:i<len):
  ∃b o a' z,a=some ⟨b,o,none⟩/\w.cell? ⟨b,o+i,none⟩=some (.slice a' (J.getD i []).length z)/\Sl w a' (J.getD i []).length (J.getD i []):=by
 rcases h.2.2 with h0|⟨b,o,rfl,hc⟩
 ·omega
 ·obtain⟨a',z,h4,h5⟩:=hc i hi
  exact⟨b,o,a',z,rfl,h4,h5⟩
theorem aX{w':zW}{base:Nat}{e:TypeId}{size:Nat}{v:Value}(h:w.ownsRow base e size v n xs)(hb: ∀k,v.ownBlock=some k->w'.heap[k]? =w.heap[k]?):w'.ownsRow base e size v n xs:=by
 obtain⟨h1,h2⟩:=h;refine⟨h1,?_⟩;rcases h2 with h2|⟨g,cap,cur,rfl,hg,z,r⟩
 ·exact Or.inl h2
 ·exact Or.inr ⟨g,cap,cur,rfl,hg,by rw[hb g rfl];exact z,r⟩
def Tk(a:zO)(len:Nat)(x:Nat):Prop:=0<len/\ ∃ad,a=some ad/\ad.block=x
theorem ng{w':zW}{len:Nat}(h:Sl w a len l)(hb: ∀x,Tk a len x->w'.heap[x]? =w.heap[x]?):Sl w' a len l:=by
 obtain⟨h1,h2,h3,h4⟩:=h;refine⟨h1,h2,h3,?_⟩;rcases h4 with h4|⟨b,o,rfl,hc⟩
 ·exact Or.inl h4
 ·refine Or.inr ⟨b,o,rfl,λi hi=>?_⟩;rw[World.cell?_of_block (w:=w) (hb b ⟨by omega,_,rfl,rfl⟩)];exact hc i hi
theorem pX{len:Nat}(h:Sl w a len l){x:Nat}(hx:Tk a len x):x<w.heap.size:=by obtain⟨h0,ad,rfl,rfl⟩:=hx;obtain⟨b,o,e,hc⟩:=bH h 0 h0;cases e;exact zk w _ hc
theorem dx{c:Int}(h:c≠0):bC c=.iface 45 (.int .i64 c):=by unfold bC;rw[yN h]
theorem dz{c:Int}(h:c=0):bC c=.nilIface:=by unfold bC;rw[yP h]
theorem afI(a:zO)(len cap:Nat)(r:zI)(m n:Nat)(w:zW)(hs:Sl w a len r):
  Calls prog 76 #[.slice a len cap,.int .i64 m,.int .i64 n] w λe w'=>e=.returned (bC (ni m n r))/\w'=w:=by
 have hm:=hs.2.1
 unfold maxLen at hm
 have Z:=hs.1
 by_cases hlen:len=m
 ·have HB:=aj (λk=>@aa7 m n r (Z.trans hlen) k)
  have HG:=aj (@yR m n r (Z.trans hlen))
  subst hlen
  have HS:=aj hs
  clear hs Z
  generalize hR:ni len n r=R at HB HG⊢
  clear hR
  have a2:((len:Int)!=(len:Int))=false:=by simp
  go_enter func76,ntmps76
  go_wp2
  go_loop[16] (λi=> ∃k:Nat,k<=len/\i=.int .i64 k/\ ∀j,j<k->0<=r.getD j 0/\r.getD j 0<(n:Int)) (λi=>len-(intOf i).toNat)
  case atStart=>exact⟨0,by omega,rfl,by omega⟩
  case round=>
   obtain⟨k,hk,rfl,hd⟩:=hrel
   have HD:=aj hd
   clear hd
   by_cases z:k<len
   ·have a1:(k:Int)<(len:Int):=by omega
    obtain⟨bb,o,rfl,a6⟩:=bH HS.out k z
    have J:=aj (HB.out k z)
    have U:Hid (0<=r.getD k 0/\r.getD k 0<(n:Int)-> ∀j,j<k+1->0<=r.getD j 0/\r.getD j 0<(n:Int)):=by
     intro h j hj;by_cases e:j=k
     ·subst e;exact h
     ·exact HD.out j (by omega)
    generalize r.getD k 0=x at a6 J U
    by_cases hx:0<=x/\x<(n:Int)
    ·have a7:=aj (U.out hx)
     obtain⟨a8,b0⟩:=hx
     go_wp2
     go_round
     case rel=>exact⟨k+1,by omega,by go_num,a7.out⟩
     case measure=>simp[intOf];omega
    ·have b1:=aj (J.out hx)
     have b2:x<0\/(¬x<0/\(n:Int)<=x):=by omega
     clear hx
     rcases b2 with hx|⟨a8,b0⟩
     all_goals
      go_wp2
      go_ret
      exact⟨by rw[b1.out];simp[bC],rfl⟩
   ·have a1: ¬((k:Int)<(len:Int)):=by omega
    have b3:=aj (HG.out λj hj=>HD.out j (by omega))
    go_wp2
    go_ret
    exact⟨by rw[b3.out];simp[bC],rfl⟩
 ·have hR:=@Dt m n r (by omega)
  have a2:((len:Int)!=(m:Int))=true:=by simp;omega
  rw[hR]
  go_enter func76,ntmps76
  go_wp2
  go_ret
  exact⟨by simp[bC],rfl⟩
theorem Nc(M b t:Int)(a a':zO)(len cap z a6:Nat)(N:zL)(w:zW)(hs:gT w a len N)(b7:z<=maxLen):
  Calls prog 56 #[.agg #[.int .i64 b,.int .i64 t,.slice a len cap,.slice a' z a6],.int .i64 M] w λe w'=>e=.returned (bC (mD M b t N z))/\Below w.heap.size w w':=by
 have hL:=hs.1
 have hm:=hs.2.1
 unfold maxLen at hm b7
 have Z:=aj (λW=>lU b t W)
 by_cases hM:aU b t=0
 ·have b1:=vG (au b) (dA b (bA hM).2.1).1 t.toNat
  have b2:=(bA hM).2.2.2.2.1
  have b3:=(bA hM).2.2.2.2.2
  rw[<-b3]at b1 b2
  obtain⟨m,a8⟩: ∃m:Nat,aD b t=m:=⟨(aD b t).toNat,by omega⟩
  have J:Hid (mD M b t N z=if len=0 then 4 else if M<(len:Int)then 3 else if z=len then BG m len N else 2):=by show _=_;unfold mD;rw[yP hM,hL,a8,Int.toNat_natCast]
  rw[a8,dz hM]at Z
  clear hM b1 b2 b3 a8
  generalize mD M b t N z=R at J⊢
  by_cases h0:len=0
  ·rw[yP h0]at J
   subst h0
   go_enter func56,ntmps56
   go_wp2_with (go_at_call 19;refine(Z.out _).mono ?_;rintro e w' ⟨rfl,rfl⟩)
   go_ret
   exact⟨by rw[J.out];simp[bC],zb.alloc zr _⟩
  ·rw[yN h0]at J
   have c6:((len:Int)==0)=false:=by simp;omega
   by_cases b4:M<(len:Int)
   ·rw[yP b4]at J
    go_enter func56,ntmps56
    go_wp2_with (go_at_call 19;refine(Z.out _).mono ?_;rintro e w' ⟨rfl,rfl⟩)
    go_ret
    exact⟨by rw[J.out];simp[bC],zb.alloc zr _⟩
   ·rw[yN b4]at J
    by_cases hE:z=len
    ·rw[yP hE]at J
     subst hE
     have b8:((z:Int)!=(z:Int))=false:=by simp
     have HS:=aj (aG hs (zb.alloc zr (.cells #[.int .i64 b,.int .i64 t,.slice a z cap,.slice a' z a6] 35)))
     have HB:Hid (Below w.heap.size w (w.alloc (.cells #[.int .i64 b,.int .i64 t,.slice a z cap,.slice a' z a6] 35))):=zb.alloc zr _
     have b9:=aj (λW a1 l1 c1 r h=>afI a1 l1 c1 r m z W h)
     have c0:=aj (λk=>@aa8 m z N k)
     have b0:=aj (@yU m z N)
     rw[hL]at b0
     have hN:N.length=z:=hL
     clear hs hL
     go_enter func56,ntmps56
     go_wp2_with (go_at_call 19;refine(Z.out _).mono ?_;rintro e w' ⟨rfl,rfl⟩)
     go_loop[43] (λi=> ∃k:Nat,k<=z/\i=.int .i64 k/\ ∀j,j<k->ni m z (N.getD j [])=0) (λi=>z-(intOf i).toNat)
     case atStart=>exact⟨0,by omega,rfl,by omega⟩
     case round=>
      obtain⟨k,hk,rfl,hd⟩:=hrel
      have HD:=aj hd
      clear hd
      by_cases c3:k<z
      ·have b6:(k:Int)<(z:Int):=by omega
       obtain⟨bb,o,a1,c1,rfl,c4,b5⟩:=gF HS.out k c3
       have U:=aj (b9.out _ a1 _ c1 _ b5)
       have a2:=aj (c0.out k (by omega) HD.out)
       have a7:Hid (ni m z (N.getD k [])=0-> ∀j,j<k+1->ni m z (N.getD j [])=0):=by
        intro h j hj;by_cases e:j=k
        ·subst e;exact h
        ·exact HD.out j (by omega)
       clear b5
       generalize ni m z (N.getD k [])=C at U a2 a7
       generalize(N.getD k []).length=rl at c4 U
       by_cases hC:C=0
       ·have c5:=aj (a7.out hC)
        rw[dz hC]at U
        clear a2 a7 hC
        go_wp2_with (go_at_call 76;refine U.out.mono ?_;rintro e w' ⟨rfl,rfl⟩)
        go_round
        case rel=>exact⟨k+1,by omega,by go_num,c5.out⟩
        case measure=>simp[intOf];omega
       ·have HR:=aj (a2.out hC)
        rw[HR.out]at J
        rw[dx hC]at U
        clear a2 a7 HR
        go_wp2_with (go_at_call 76;refine U.out.mono ?_;rintro e w' ⟨rfl,rfl⟩)
        go_ret
        exact⟨by rw[J.out,dx hC];simp,HB.out⟩
      ·have b6: ¬((k:Int)<(z:Int)):=by omega
       have HR:=aj (b0.out λj hj=>HD.out j (by omega))
       rw[HR.out]at J
       go_wp2
       go_ret
       exact⟨by rw[J.out];simp[bC],HB.out⟩
    ·rw[yN hE]at J
     have b8:((z:Int)!=(len:Int))=true:=by simp;omega
     go_enter func56,ntmps56
     go_wp2_with (go_at_call 19;refine(Z.out _).mono ?_;rintro e w' ⟨rfl,rfl⟩)
     go_ret
     exact⟨by rw[J.out];simp[bC],zb.alloc zr _⟩
 ·have J:Hid (mD M b t N z=aU b t):=by show _=_;unfold mD;rw[yN hM]
  rw[J.out]
  rw[dx hM]at Z⊢
  generalize aU b t=c at Z⊢
  go_enter func56,ntmps56
  go_wp2_with (go_at_call 19;refine(Z.out _).mono ?_;rintro e w' ⟨rfl,rfl⟩)
  go_ret
  exact⟨by simp,zb.alloc zr _⟩
theorem Gi(b t:Int)(a a':zO)(len cap z J:Nat)(N:zL)(w:zW)(hs:gT w a len N)(a1:z<=maxLen):
  Calls prog 37 #[.agg #[.int .i64 b,.int .i64 t,.slice a len cap,.slice a' z J]] w λe w'=>e=.returned (bC (bP b t N z))/\Below w.heap.size w w':=by
 have hB:=(Below.refl w.heap.size w).alloc zr (.cells #[.int .i64 b,.int .i64 t,.slice a len cap,.slice a' z J] 35)
 have U:=aj (Nc 80 b t a a' len cap z J N _ (aG hs hB) a1)
 rw[xC]at U
 have HB:=aj hB
 clear hs hB
 generalize bP b t N z=c at U⊢
 go_enter func37,ntmps37
 go_wp2_with fail
 refine U.out.mono ?_
 rintro e w2 ⟨rfl,Z⟩
 have a2:=aj (ak HB.out Z)
 clear Z
 go_wp2
 go_ret
 exact⟨rfl,a2.out⟩
def mR(w:zW)(a:zO)(len:Nat)(E:zB):Prop:=
 E.length=len/\len<=maxLen/\(len=0\/ ∃b o,a=some ⟨b,o,none⟩/\ ∀i,i<len->w.cell? ⟨b,o+i,none⟩=some (.bool (E.getD i false)))
theorem bD{len:Nat}(h:mR w a len E)(hb:Below w.heap.size w W):mR W a len E:=by
 obtain⟨h1,h2,h3⟩:=h;refine⟨h1,h2,?_⟩;rcases h3 with h3|⟨b,o,rfl,hc⟩
 ·exact Or.inl h3
 ·refine Or.inr ⟨b,o,rfl,λi hi=>?_⟩;have:=hc i hi;rw[hb.cell (p:=⟨b,o+i,none⟩) (zk w _ this)];exact this
theorem jL{len:Nat}(h:mR w a len E)(i:Nat)(hi:i<len): ∃b o,a=some ⟨b,o,none⟩/\w.cell? ⟨b,o+i,none⟩=some (.bool (E.getD i false)):=by
 rcases h.2.2 with h0|⟨b,o,rfl,hc⟩
 ·omega
 ·exact⟨b,o,rfl,hc i hi⟩
theorem Hl{w w':zW}{v0 v1 v2 v3:Value}{T:TypeId}(hb:Below (w.alloc (.cells #[v0,v1,v2,v3] T)).heap.size (w.alloc (.cells #[v0,v1,v2,v3] T)) w'):
  w'.cell? ⟨w.heap.size,0,none⟩=some v0/\w'.cell? ⟨w.heap.size,1,none⟩=some v1/\w'.cell? ⟨w.heap.size,2,none⟩=some v2/\w'.cell? ⟨w.heap.size,3,none⟩=some v3:=by
 have z: ∀i,w'.cell? ⟨w.heap.size,i,none⟩=#[v0,v1,v2,v3][i]? :=λi=>by rw[hb.cell (p:=⟨w.heap.size,i,none⟩) (by simp)];exact cell_of_row _ _ i _ T (0,0) (zl w _)
 exact⟨z 0,z 1,z 2,z 3⟩
def abd(W:zW)(B:Nat)(b t:Int)(a:zO)(len cap:Nat)(a':zO)(z J:Nat)(N:zL)(E:zB):Prop:=
 (W.cell? ⟨B,0,none⟩=some (.int .i64 b)/\W.cell? ⟨B,1,none⟩=some (.int .i64 t)/\W.cell? ⟨B,2,none⟩=some (.slice a len cap)/\W.cell? ⟨B,3,none⟩=some (.slice a' z J))/\gT W a len N/\mR W a' z E
theorem Tv{len cap:Nat}{z J:Nat}(h:gT w a len N)(U:mR w a' z E):
  abd (w.alloc (.cells #[.int .i64 b,.int .i64 t,.slice a len cap,.slice a' z J] T)) w.heap.size b t a len cap a' z J N E:=
 ⟨Hl zb,aG h (zb.alloc zr _),bD U (zb.alloc zr _)⟩
def wY(b t:Int)(N:zL)(e:Nat)(l:zI):Int:=if bP b t N e=0 then ql (aD b t).toNat l else bP b t N e
def Po(b t:Int)(N:zL)(e:Nat)(l:zI):Nat:=if wY b t N e l=0 then bR N l else 0
def tK(b t:Int)(N:zL)(E:zB)(l:zI):Bool:=if wY b t N E.length l=0 then E.getD (bR N l) false else false
theorem ajH(b t:Int)(a a':zO)(len cap z b2:Nat)(N:zL)(aw:zO)(Z cw:Nat)(l:zI)(w:zW)(hs:gT w a len N)(d2:z<=maxLen)(hw:Sl w aw Z l):
  Calls prog 22 #[.agg #[.int .i64 b,.int .i64 t,.slice a len cap,.slice a' z b2],.slice aw Z cw] w λe w'=>e=.returned (.tuple #[.int .i64 (Po b t N z l),bC (wY b t N z l)])/\Below w.heap.size w w':=by
 have hL:=hs.1
 have d3:=hw.1
 have d4:=hw.2.1
 unfold maxLen at d4
 have b0:Hid (Below w.heap.size w (w.alloc (.cells #[.int .i64 b,.int .i64 t,.slice a len cap,.slice a' z b2] 35))):=zb.alloc zr _
 have a2:=aj (Gi b t a a' len cap z b2 N _ (aG hs b0.out) d2)
 have HS:=aj hs
 have HW:=aj hw
 clear hs hw
 by_cases hA:bP b t N z=0
 ·obtain⟨hM,hE,hG,d5⟩:=bS hA
  rw[hL]at hG hE
  have hC:wY b t N z l=ql (aD b t).toNat l:=by unfold wY;rw[yP hA]
  have hS:Po b t N z l=if ql (aD b t).toNat l=0 then bR N l else 0:=by unfold Po;rw[hC]
  rw[hC,hS]
  rw[dz hA]at a2
  clear hC hS hA hM d5 hE
  generalize(aD b t).toNat=m at hG⊢
  have HG:=aj hG
  by_cases e4:400<Z
  ·rw[@Tp m l (by omega),yN (by decide)]
   have b5:(400:Int)<(Z:Int):=by omega
   go_enter func22,ntmps22
   go_wp2_with fail
   refine a2.out.mono ?_
   rintro e w2 ⟨rfl,J⟩
   have U:=aj (ak b0.out J)
   clear J
   go_wp2
   go_ret2
   exact⟨by simp[bC],U.out⟩
  ·have b5: ¬(400:Int)<(Z:Int):=by omega
   have b3:=aj (λk=>@Yw m l (by omega) k)
   have a6:=aj (@Tq m l (by omega))
   have c4:=aj (λk=>@yV m len N hG l k)
   have c5:=aj (λk=>@qU N l k)
   have d6:=aj (λs=>@lV m len N hG s)
   have c9:Hid (∀s,s<len->(N.getD s []).length=m):=λs h=>(hG.2.2.2.2.2 s h).1
   have e5:=hG.2.2.2.1
   have e6:=hG.2.2.1
   have b6:Hid (bR N (l.take Z)=bR N l):=by show _=_;rw[List.take_of_length_le (by omega)]
   rw[d3]at b3 a6 c4 c5
   clear hG
   generalize d7:bR N l=RL at b6⊢
   clear d7
   generalize ql m l=c at b3 a6⊢
   have c6:Hid (c=0->Value.tuple #[.int .i64 ((if c=0 then RL else 0:Nat):Int),bC c]=.tuple #[.int .i64 RL,.nilIface]):=λh=>by rw[yP h,dz h]
   have c7:Hid (c=1->Value.tuple #[.int .i64 ((if c=0 then RL else 0:Nat):Int),bC c]=.tuple #[.int .i64 0,.iface 45 (.int .i64 1)]):=λh=>by subst h;rfl
   generalize Value.tuple #[.int .i64 ((if c=0 then RL else 0:Nat):Int),bC c]=R at c6 c7⊢
   go_enter func22,ntmps22
   go_wp2_with fail
   refine a2.out.mono ?_
   rintro e w2 ⟨rfl,J⟩
   have U:=aj (ak b0.out J)
   have b7:=Hl J
   have e8:=b7.2.2.1
   have d8:=aj (aG HS.out U.out)
   have d9:=aj (aF HW.out U.out)
   clear J b7 a2 b0 HS HW
   go_wp2
   go_loop[7,21] (λs i=> ∃k:Nat,k<=Z/\i=.int .i64 k/\s=.int .i64 (bR N (l.take k):Nat)/\ ∀j,j<k->0<=l.getD j 0/\l.getD j 0<(m:Int)) (λ_ i=>Z-(intOf i).toNat)
   case atStart=>exact⟨0,by omega,rfl,by simp[bR],by omega⟩
   case round=>
    obtain⟨k,hk,rfl,rfl,hd⟩:=hrel
    have HD:=aj hd
    clear hd
    by_cases b8:k<Z
    ·have d0:(k:Int)<(Z:Int):=by omega
     have b4:=c4.out k (by omega) HD.out
     have a7:=aj (c5.out k b8)
     obtain⟨bw,ow,rfl,e0⟩:=bH d9.out k b8
     have b9:Hid (0<=l.getD k 0/\l.getD k 0<(m:Int)-> ∀j,j<k+1->0<=l.getD j 0/\l.getD j 0<(m:Int)):=by
      intro h j hj;by_cases e:j=k
      ·subst e;exact h
      ·exact HD.out j (by omega)
     have c0:=aj (b3.out k b8)
     generalize bR N (l.take k)=s at b4 a7⊢
     generalize l.getD k 0=x at e0 b9 c0 a7
     obtain⟨bn,on,a1,c1,rfl,e1,a8⟩:=gF d8.out s b4
     rw[c9.out s b4]at e1 a8
     have e7:(s:Int)<(len:Int):=by omega
     by_cases hx:0<=x/\x<(m:Int)
     ·have e2:=aj (b9.out hx)
      have c3:=aj (d6.out s b4 x hx)
      obtain⟨y,rfl⟩: ∃y:Nat,x=y:=⟨x.toNat,by omega⟩
      have hy:y<m:=by omega
      have e9:(y:Int)<(m:Int):=by omega
      obtain⟨b1,o1,rfl,c8⟩:=bH a8 y hy
      rw[Int.toNat_natCast]at c3
      rw[<-c3.out.2]at c8
      clear a8 c0 b9 hx
      generalize fC N s (y:Int)=s' at c8 a7
      go_wp2
      go_round
      case rel=>exact⟨k+1,by omega,by go_num,by rw[a7.out],e2.out⟩
      case measure=>simp[intOf];omega
     ·have d1:=aj (c0.out hx)
      have e3:x<0\/(¬x<0/\(m:Int)<=x):=by omega
      clear hx a8
      rcases e3 with hx|⟨f0,f1⟩
      all_goals
       go_wp2
       go_ret2
       exact⟨by rw[c7.out d1.out];simp,U.out⟩
    ·have d0: ¬((k:Int)<(Z:Int)):=by omega
     obtain rfl:k=Z:=by omega
     have HC:=aj (a6.out HD.out)
     rw[b6.out]
     go_wp2
     go_ret2
     exact⟨by rw[c6.out HC.out];simp,U.out⟩
 ·have hC:wY b t N z l=bP b t N z:=by unfold wY;rw[yN hA]
  have hS:Po b t N z l=0:=by unfold Po;rw[hC,yN hA]
  rw[hC,hS]
  rw[dx hA]at a2⊢
  clear hC hS
  generalize bP b t N z=c at a2⊢
  go_enter func22,ntmps22
  go_wp2_with fail
  refine a2.out.mono ?_
  rintro e w2 ⟨rfl,J⟩
  have U:=aj (ak b0.out J)
  clear J
  go_wp2
  go_ret2
  exact⟨by simp,U.out⟩
theorem afJ(b t:Int)(a a':zO)(len cap z a2:Nat)(N:zL)(E:zB)(aw:zO)(lw cw:Nat)(l:zI)(w:zW)(hs:gT w a len N)(he:mR w a' z E)(hw:Sl w aw lw l):
  Calls prog 9 #[.agg #[.int .i64 b,.int .i64 t,.slice a len cap,.slice a' z a2],.slice aw lw cw] w λe w'=>e=.returned (.tuple #[.bool (tK b t N E l),bC (wY b t N z l)])/\Below w.heap.size w w':=by
 have a7:=he.1
 have a1:Hid (Below w.heap.size w (w.alloc (.cells #[.int .i64 b,.int .i64 t,.slice a len cap,.slice a' z a2] 35))):=zb.alloc zr _
 have J:=aj (ajH b t a a' len cap z a2 N aw lw cw l _ (aG hs a1.out) he.2.1 (aF hw a1.out))
 have HE:=aj (bD he a1.out)
 by_cases U:wY b t N z l=0
 ·have hS:Po b t N z l=bR N l:=by unfold Po;rw[yP U]
  have hT:tK b t N E l=E.getD (bR N l) false:=by unfold tK;rw[a7,yP U]
  have a8:bR N l<z:=by have hA:bP b t N z=0:=(by apply Classical.byContradiction;intro h;unfold wY at U;rw[yN h]at U;exact h U);unfold wY at U;rw[yP hA]at U;obtain⟨_,hE,hG,_⟩:=bS hA;rw[hE];have:=yV hG l l.length zr (Tn U).2;rwa [List.take_of_length_le zr]at this
  rw[hT,U]
  rw[hS,U]at J
  clear hs he hw U hS hT
  generalize bR N l=s at a8 J⊢
  have b1:(s:Int)<(z:Int):=by omega
  rw[dz rfl]at J⊢
  obtain⟨x,hx⟩: ∃x,E.getD s false=x:=⟨_,rfl⟩
  rw[hx]
  have HX:=aj hx
  clear hx
  go_enter func9,ntmps9
  go_wp2_with fail
  refine J.out.mono ?_
  rintro e w2 ⟨rfl,Z⟩
  have a6:=aj (ak a1.out Z)
  have b2:=(Hl Z).2.2.2
  obtain⟨be,oe,rfl,b0⟩:=jL (bD HE.out Z) s a8
  clear Z J HE a1
  rw[HX.out]at b0
  go_wp2
  go_ret2
  exact⟨by simp,a6.out⟩
 ·have hT:tK b t N E l=false:=by unfold tK;rw[a7,yN U]
  rw[hT]
  rw[dx U]at J⊢
  clear hs he hw U hT HE
  generalize Po b t N z l=s at J
  generalize wY b t N z l=c at J⊢
  go_enter func9,ntmps9
  go_wp2_with fail
  refine J.out.mono ?_
  rintro e w2 ⟨rfl,Z⟩
  have a6:=aj (ak a1.out Z)
  clear Z
  go_wp2
  go_ret2
  exact⟨by simp,a6.out⟩
theorem kL(hG:aK m n N){s j:Nat}(hs:s<n)(z:j<m):mV N s j<n/\(N.getD s []).getD j 0=((mV N s j:Nat):Int):=by have:=(hG.2.2.2.2.2 s hs).2 j z;unfold mV;omega
def CAt(N:zL)(E:zB)(m n k:Nat)(C:zI):Prop:=C.length=n/\ ∀s∈aR N,C.getD s.toNat 0=((gU (bW N E m k) (aH (bW N E m k) (aR N)) s:Nat):Int)
theorem afO(E:zB){C:zI}(z:CAt N E m n k C){s:Int}(hs:s∈aR N)(J:t∈aR N):C.getD s.toNat 0=C.getD t.toNat 0↔bW N E m k s.toNat t.toNat=true:=by rw[z.2 s hs,z.2 t J,<-Nf (iR N E m k) hs J];omega
theorem Py{R:Nat->Nat->Bool}(Z:vK R){mt:zI}{p:Nat}(hp:p<mt.length):
  gU R (aH R mt) (mt.getD p 0)=gU R (aH R (mt.take p)) (mt.getD p 0)/\aH R (mt.take (p+1))=if gU R (aH R (mt.take p)) (mt.getD p 0)<(aH R (mt.take p)).length then aH R (mt.take p)else aH R (mt.take p)++[mt.getD p 0]:=by
 have J:mt.take (p+1)=mt.take p++[mt.getD p 0]:=by rw[List.take_succ_eq_append_getElem hp,aS _ p hp]
 by_cases h: ∃r∈aH R (mt.take p),R (mt.getD p 0).toNat r.toNat=true
 ·have U:=Aq h
  have z:=jf (R:=R) (List.take_prefix p mt)
  refine⟨Dw Z (Nat.lt_of_lt_of_le U z.length_le) (by rw[iq z _ U];exact wS U),?_⟩
  rw[yP U,J,fD]
  unfold iZ
  rw[yP (List.any_eq_true.2 h)]
 ·have he:gU R (aH R (mt.take p)) (mt.getD p 0)=(aH R (mt.take p)).length:=by
   unfold gU;rw[List.findIdx_eq_length];intro r hr;cases e:R (mt.getD p 0).toNat r.toNat with
   |false=>rfl
   |true=>exact absurd ⟨r,hr,e⟩ h
  have e1:aH R (mt.take (p+1))=aH R (mt.take p)++[mt.getD p 0]:=by rw[J,fD];unfold iZ;rw[yN (λe=>h (List.any_eq_true.1 e))]
  refine⟨?_,by rw[yN (by omega),e1]⟩
  have z:=jf (R:=R) (List.take_prefix (p+1) mt)
  rw[e1]at z
  have a1:(aH R (mt.take p)).length<(aH R mt).length:=by have:=z.length_le;simp at this;omega
  have hg:=iq z (aH R (mt.take p)).length (by simp)
  have e2:(aH R (mt.take p)++[mt.getD p 0]).getD (aH R (mt.take p)).length 0=mt.getD p 0:=by simp[List.getD]
  rw[e2]at hg
  rw[he]
  exact Dw Z a1 (by rw[hg];exact Z.refl _)
def jc(R:Nat->Nat->Bool)(mt:zI)(p q:Nat):Int:=if(q:Int)∈mt.take p then((gU R (aH R mt) (q:Int):Nat):Int)else 0
theorem Pz(R:Nat->Nat->Bool)(mt:zI)(q:Nat):jc R mt 0 q=0:=by simp[jc]
theorem PD{R:Nat->Nat->Bool}{mt:zI}{p:Nat}(U:p<mt.length)(h0:0<=mt.getD p 0)(q:Nat):jc R mt (p+1) q=if q=(mt.getD p 0).toNat then((gU R (aH R mt) (mt.getD p 0):Nat):Int)else jc R mt p q:=by
 have z:mt.take (p+1)=mt.take p++[mt.getD p 0]:=by rw[List.take_succ_eq_append_getElem U,aS _ p U]
 unfold jc;rw[z];by_cases e:q=(mt.getD p 0).toNat
 ·have J:(q:Int)=mt.getD p 0:=by omega
  rw[yP e,J,yP (by simp)]
 ·have J: ¬(q:Int)=mt.getD p 0:=by omega
  rw[yN e];have:((q:Int)∈mt.take p++[mt.getD p 0])↔(q:Int)∈mt.take p:=by simp only[List.mem_append,List.mem_singleton];exact⟨λh=>h.resolve_right J,.inl⟩
  simp only[this]
theorem YB(hG:aK m n N)(E:zB)(k:Nat):CAt N E m n k ((List.range n).map (jc (bW N E m k) (aR N) (aR N).length)):=by
 refine⟨by simp,λs hs=>?_⟩;have z:=lX hG hs;have h0:=((iY hG).2 s hs).1;have e:((List.range n).map (jc (bW N E m k) (aR N) (aR N).length)).getD s.toNat 0=jc (bW N E m k) (aR N) (aR N).length s.toNat:=by simp[List.getD,z]
 have es:((s.toNat:Nat):Int)=s:=by omega
 rw[e];unfold jc;rw[List.take_length,es,yP hs]
theorem V5{j:Nat}(h:j<=k){s t:Nat}(hs:bW N E m k s t=true):bW N E m j s t=true:=by
 obtain⟨i,rfl⟩: ∃i,k=j+i:=⟨k-j,by omega⟩;clear h;induction i with
 |zero=>exact hs
 |succ i z=>exact z (qD hs)
theorem Tx(hG:aK m n N)(E:zB)(k:Nat):(aH (bW N E m k) (aR N)).length<=bE N E m:=by
 unfold bE ji;rw[hG.1];by_cases h:k<=n
 ·exact Ng (R':=bW N E m n) (iR N E m k) (λs t hs=>V5 h hs) _
 ·have e:aH (bW N E m k) (aR N)=aH (bW N E m n) (aR N):=by
   refine Hq _ λs hs t J=>?_;rw[Bool.eq_iff_iff];refine⟨λz=>V5 (by omega) z,λz=>?_⟩;exact Ht k ((V4 hG E (lX hG hs) (lX hG J)).1 z)
  rw[e]
  exact zr
theorem Hy{m n:Nat}{N:zL}(hG:aK m n N)(E:zB){k:Nat}(Z:(aH (bW N E m k) (aR N)).length=(aH (bW N E m (k+1)) (aR N)).length):
  BJ N E m (bW N E m (k+1))/\oU (bW N E m (k+1)) (aR N) N=aV N E m/\zX (bW N E m (k+1)) (aR N) E=aY N E m/\(aH (bW N E m (k+1)) (aR N)).length=bE N E m:=by
 have z:=K5 (iR N E m k) (iR N E m (k+1)) (λs t=>qD) (aR N) Z
 have J:BJ N E m (bW N E m (k+1)):=by refine⟨iR _ _ _ _,λs _ t _ h=>(je.1 h).1,λs hs t ht h j U=>?_⟩;have h1:=(je.1 h).2.2 j U;have h2:=z _ (ko hG hs j U).1 _ (ko hG ht j U).1;rw[Int.toNat_natCast,Int.toNat_natCast]at h2;rw[<-h2];exact h1
 have hu:=Nk hG J (λs _ t _ h=>Ht (k+1) h)
 refine⟨J,hu.1,hu.2,?_⟩
 have:=congrArg List.length hu.1
 rwa [mE,aZ]at this
theorem Tz{m n:Nat}{N:zL}(hG:aK m n N)(E:zB){k:Nat}(z:(aH (bW N E m k) (aR N)).length≠(aH (bW N E m (k+1)) (aR N)).length):(aH (bW N E m k) (aR N)).length<(aH (bW N E m (k+1)) (aR N)).length:=by have:=Ng (R':=bW N E m (k+1)) (iR N E m k) (λs t=>qD (N:=N) (E:=E) (m:=m)) (aR N);have:=hG.1;omega
theorem ajI:(prog.info? 24).map (λi=>(i.zero,i.size,i.bytes))=some (some (.slice none 0 0),1,24):=by kernel_rfl
theorem Lj(n:Nat)(z:n<=1000000000000)(w:zW):(Instr.makeSlice 32 (.int .i64 (n:Int)) (.int .i64 (n:Int))).run prog w=.ok (.slice (some ⟨w.heap.size,0,none⟩) n n) (w.alloc (.cells (madeCells #[.slice none 0 0] n) 24)):=
 run_make_row' 32 24 (.slice none 0 0) 24 underlying32 ajI rfl .i64 .i64 n (by omega) (by omega) w
def BS(b:Int)(t:Nat)(w:zI):zL:=(List.range t).map (bT b t w)
theorem kD{c:Int}(h:c≠0):bC c=.iface 45 (.int .i64 c):=by unfold bC;rw[yN h]
theorem cB:bC 0=.nilIface:=rfl
def dU(b t:Int)(l:zI):Bool:=(BS b t.toNat l).all (iF b)
theorem TJ{i:Nat}(h:i<n)(J:iF b (bT b n l i)=false):dU b n l=false:=by
 cases z:dU b n l with
 |false=>rfl
 |true=>
  unfold dU at z
  rw[List.all_eq_true,Int.toNat_natCast]at z
  have:=z (bT b n l i) (by simp only[BS,List.mem_map,List.mem_range];exact⟨i,h,rfl⟩)
  rw[J]at this;cases this
theorem P5(w w':zW)(z:Value)(hb:Below w.heap.size w w'):Pj w [] z (.returned (.tuple #[.slice none 0 0,z])) w':=⟨none,0,rfl,⟨Dr _,λ_ h=>by cases h⟩,hb⟩
theorem abK:(prog.info? 4).map (λi=>(i.zero,i.size,i.bytes))=some (some (.bool false),1,1):=by kernel_rfl
theorem Im(n:Nat)(z:n<=1000000000000)(w:zW):(Instr.makeSlice 33 (.int .i64 (n:Int)) (.int .i64 (n:Int))).run prog w=.ok (.slice (some ⟨w.heap.size,0,none⟩) n n) (w.alloc (.cells (madeCells #[.bool false] n) 4)):=
 run_make_row' 33 4 (.bool false) 1 underlying33 abK rfl .i64 .i64 n (by omega) (by omega) w
theorem abL{S:Nat}{z:zI}(h:W.rowIs S 4 n λp=>.bool (decide ((p:Int)∈z)))(x:Nat):(W.setCell ⟨S,x,none⟩ (.bool true)).rowIs S 4 n λp=>.bool (decide ((p:Int)∈z++[(x:Int)])):=by
 refine(h.set x (.bool true)).congr λp J=>?_;by_cases e:p=x
 ·subst e;simp
 ·rw[yN e]
  have: ¬((p:Int)=(x:Int)):=by omega
  simp[this]
def ajJ(w:zW)(n:Nat)(z o:zI)(v:Value)(W:zW):Prop:=
 (W.rowIs w.heap.size 4 n λp=>.bool (decide ((p:Int)∈z)))/\W.ownsRow w.heap.size 3 1 v o.length (o.map (Value.int .i64))/\Below w.heap.size w W
theorem Qc{w:zW}{n:Nat}:ajJ w n [0] [0] (.slice (some ⟨w.heap.size+1,0,none⟩) 1 1) ((w.alloc (.cells ((madeCells #[.bool false] n).setIfInBounds 0 (.bool true)) 4)).alloc (.cells #[.int .i64 0] 3)):=by
 refine⟨World.rowIs.alloc ⟨_,zl w _,?_,λp J=>?_⟩ _,⟨by simp,Or.inr ⟨w.heap.size+1,1,#[.int .i64 0],rfl,by omega,?_,by simp,by decide,by simp,by simp⟩⟩,(zb.alloc zr _).alloc (by simp) _⟩
 ·obtain⟨c,hb,z,hc⟩:=World.rowIs_made w (.bool false) n 4;rw[zl]at hb;cases hb;simpa using z
 ·obtain⟨c,hb,z,hc⟩:=(World.rowIs_made w (.bool false) n 4)
  rw[zl]at hb;cases hb;rw[Array.getElem?_setIfInBounds];by_cases e:p=0
  ·subst e;simp[z,J]
  ·rw[yN (λh=>e h.symm),hc p J];simp[e]
 ·have:=zl (w.alloc (.cells ((madeCells #[.bool false] n).setIfInBounds 0 (.bool true)) 4)) (.cells #[.int .i64 0] 3);simpa using this
theorem oh(w:zW)(x:Value)(t:TypeId)(H:Nat)(hH:w.heap.size=H): ∀j u,[x][j]? =some u->(w.alloc (.cells #[x] t)).cell? ((⟨H,0,none⟩:Addr).add j)=some u:=by subst hH;exact fV w x t
theorem abM(z:n<=4000000){o:zI}(h:O9 n o): ∀x∈o,(Lit.int .i64 x).wf=true:=λx hx=>Go.WalkArith.wf_i64 (by have:=h.2 x hx;omega)
def sJ(wb:zW)(b t:Int)(rows:Nat->zI)(es:Nat->Bool)(qn qe:Nat)(W:zW):Prop:=
 ∃(vN vE:Value) (vals:zV),W.heap[wb.heap.size]? =some (.cells #[.int .i64 b,.int .i64 t,vN,vE] 35 (0,0))/\
  W.ownsRow (wb.heap.size+1) 24 1 vN qn vals/\W.ownsRow (wb.heap.size+1) 4 1 vE qe ((List.range qe).map λj=>Value.bool (es j))/\
  (∀j,j<qn-> ∃a cap,vals[j]? =some (.slice a (rows j).length cap)/\Dm (wb.heap.size+1) W a (rows j).length (rows j)/\ ∀x,Tk a (rows j).length x->vN.ownBlock≠some x/\vE.ownBlock≠some x)/\
  Below wb.heap.size wb W
theorem EX(wb:zW)(b t:Int)(rows:Nat->zI)(es:Nat->Bool):sJ wb b t rows es 0 0 (wb.alloc (.cells #[.int .i64 b,.int .i64 t,.slice none 0 0,.slice none 0 0] 35)):=
 ⟨.slice none 0 0,.slice none 0 0,[],zl wb _,World.ownsRow_nil _ _ _ _,World.ownsRow_nil _ _ _ _,λj z=>by omega,zb.alloc zr _⟩
theorem EY{qn qe:Nat}(h:sJ wb b t rows es qn qe W)(hb:Below W.heap.size W W2):sJ wb b t rows es qn qe W2:=by obtain⟨vN,vE,vals,h1,h2,h3,h4,h5⟩:=h;have z:=(zG h1).1;refine⟨vN,vE,vals,(hb.block _ z).trans h1,aX h2 (λx hx=>hb.block _ (h2.lt x hx).2),aX h3 (λx hx=>hb.block _ (h3.lt x hx).2),λj U=>?_,ak h5 hb⟩;obtain⟨a,cap,Z,J,e3⟩:=h4 j U;exact⟨a,cap,Z,⟨aF J.1 hb,J.2⟩,e3⟩
theorem ajK:(24:TypeId)≠4:=by decide
theorem Io{base e U:Nat}(Z:e≠U){v v':Value}{n':Nat}{a1:zV}(h:W.ownsRow base e 1 v n xs)(h':W.ownsRow base U 1 v' n' a1){x:Nat}(hx:v.ownBlock=some x)(z:v'.ownBlock=some x):False:=by
 rcases h.2 with⟨rfl,_⟩|⟨g,cap,cur,rfl,_,hg,_⟩
 ·simp[Value.ownBlock]at hx
 ·rcases h'.2 with⟨rfl,_⟩|⟨g',a2,a6,rfl,_,J,_⟩
  ·simp[Value.ownBlock]at z
  ·simp[Value.ownBlock]at hx z;subst hx;subst z;rw[hg]at J;simp at J;exact Z J.2
theorem Nv(h:W.heap[B]? =some (.cells #[v0,v1,v2,v3] T (0,0)))(v:Value):(W.setCell ⟨B,2,none⟩ v).heap[B]? =some (.cells #[v0,v1,v,v3] T (0,0))/\(W.setCell ⟨B,3,none⟩ v).heap[B]? =some (.cells #[v0,v1,v2,v] T (0,0)):=by constructor<;>simp[World.setCell,Array.getElem?_modify,h]
theorem Wm{wb:zW}{b t:Int}{rows:Nat->zI}{es:Nat->Bool}{q qe:Nat}{W W2:zW}{ar:zO}{cr:Nat}(h:sJ wb b t rows es q qe W)(hb:Below W.heap.size W W2)(hs:Dm W.heap.size W2 ar (rows q).length (rows q)):
  ∃(vN:Value) (vals:zV),W2.cell? ⟨wb.heap.size,2,none⟩=some vN/\W2.ownsRow (wb.heap.size+1) 24 1 vN q vals/\wb.heap.size+1<=W2.heap.size/\
   ∀(U:zW) (o:Obj) (Z z:Nat),U.ownsRow (wb.heap.size+1) 24 1 (.slice (some ⟨Z,0,none⟩) (q+1) z) (q+1) (vals++[.slice ar (rows q).length cr])->(W2.alloc o).grownBy U vN.ownBlock->(vN.ownBlock=some Z\/Z=W2.heap.size+1)->
    (U.cell? ⟨wb.heap.size,2,none⟩=some vN/\U.frozen? ⟨wb.heap.size,2,none⟩=false)/\sJ wb b t rows es (q+1) qe (U.setCell ⟨wb.heap.size,2,none⟩ (.slice (some ⟨Z,0,none⟩) (q+1) z)):=by
 have b8:wb.heap.size+1<=W.heap.size:=by obtain⟨_,_,_,h1,_⟩:=h;exact(zG h1).1
 have c5:=hb.size
 have b4:=h
 obtain⟨vN,vE,vals,h1,h2,h3,h4,h5⟩:=EY h hb
 have b9:vals.length=q:=by have:=h2.1;omega
 have b5:=(zG h1).1
 -- the new row's block is none of what is held
 have b6: ∀x,Tk ar (rows q).length x->vN.ownBlock≠some x/\vE.ownBlock≠some x:=by obtain⟨uN,uE,us,g1,g2,g3,_,_⟩:=b4;have e1:=(hb.block _ (zG g1).1).trans g1;rw[h1]at e1;simp at e1;rw[e1.1,e1.2];rintro x ⟨_,ad,e,rfl⟩;have c6:=hs.2 ad e;exact⟨λe'=>by have:=(g2.lt _ e').2;omega,λe'=>by have:=(g3.lt _ e').2;omega⟩
 refine⟨vN,vals,by simp[World.cell?,h1],h2,by omega,λU o Z z hown a8 b1=>?_⟩
 have c7:(W2.alloc o).heap.size=W2.heap.size+1:=by simp
 have a1: ∀x,x<W2.heap.size->vN.ownBlock≠some x->U.heap[x]? =W2.heap[x]? :=λx hx a2=>by rw[a8.block x (by omega) (λe=>a2 e.symm),Below.heap_alloc _ _ _ hx]
 have b2:vN.ownBlock≠some wb.heap.size:=λe=>by have:=(h2.lt _ e).1;omega
 have a7:U.heap[wb.heap.size]? =some (.cells #[.int .i64 b,.int .i64 t,vN,vE] 35 (0,0)):=(a1 _ b5 b2).trans h1
 have b7:Z≠wb.heap.size:=by
  rcases b1 with e|e
  ·intro e';subst e';exact b2 e
  ·omega
 have c0:U.ownsRow (wb.heap.size+1) 4 1 vE qe ((List.range qe).map λj=>Value.bool (es j)):=aX h3 (λx hx=>a1 x (h3.lt x hx).2 (λe=>Io ajK h2 h3 e hx))
 have c3:vE.ownBlock≠some wb.heap.size:=λe=>by have:=(h3.lt _ e).1;omega
 have b0: ∀{a' J l'},Dm (wb.heap.size+1) W2 a' J l'->(∀x,Tk a' J x->vN.ownBlock≠some x/\vE.ownBlock≠some x)->Dm (wb.heap.size+1) (U.setCell ⟨wb.heap.size,2,none⟩ (.slice (some ⟨Z,0,none⟩) (q+1) z)) a' J l'/\ ∀x,Tk a' J x->Value.ownBlock (.slice (some ⟨Z,0,none⟩) (q+1) z)≠some x/\vE.ownBlock≠some x:=by
  intro a' J l' a6 a2;refine⟨⟨ng a6.1 λx hx=>?_,a6.2⟩,λx hx=>⟨λe=>?_,(a2 x hx).2⟩⟩
  ·have b3:=pX a6.1 hx;have c4:x≠wb.heap.size:=(by obtain⟨_,ad,e,rfl⟩:=hx;have:=a6.2 ad e;omega);rw[Below.heap_setCell _ _ _ _ c4,a1 x b3 (a2 x hx).1]
  ·have b3:=pX a6.1 hx
   have e':Z=x:=(by simpa[Value.ownBlock]using e);subst e';rcases b1 with h|h
   ·exact(a2 _ hx).1 h
   ·omega
 refine⟨⟨by simp[World.cell?,a7],by simp[World.frozen?,a7]⟩,.slice (some ⟨Z,0,none⟩) (q+1) z,vE,vals++[.slice ar (rows q).length cr],(Nv a7 _).1,ownsRow_setCell_other hown (by simpa[Value.ownBlock]using b7) _,ownsRow_setCell_other c0 c3 _,λj hj=>?_,?_⟩
 ·by_cases e:j=q
  ·subst e
   have:=b0 (hs.mono b8) b6
   exact⟨ar,cr,by rw[List.getElem?_append_right (by omega),b9];simp,this.1,this.2⟩
  ·obtain⟨a',c',e1,e2,e3⟩:=h4 j (by omega)
   have:=b0 e2 e3
   exact⟨a',c',by rw[List.getElem?_append_left (by omega)];exact e1,this.1,this.2⟩
 ·exact(Below.grown (h5.alloc h5.size o) a8 (by have:=h5.size;omega) (λx hx=>by have:=(h2.lt x hx).1;omega)).setCell zr _
theorem Wn{qn q:Nat}(h:sJ wb b t rows es qn q W2):
  ∃(vE:Value),W2.cell? ⟨wb.heap.size,3,none⟩=some vE/\W2.ownsRow (wb.heap.size+1) 4 1 vE q ((List.range q).map λj=>Value.bool (es j))/\wb.heap.size+1<=W2.heap.size/\
   ∀(z:zW) (o:Obj) (Z J:Nat),z.ownsRow (wb.heap.size+1) 4 1 (.slice (some ⟨Z,0,none⟩) (q+1) J) (q+1) (((List.range q).map λj=>Value.bool (es j))++[.bool (es q)])->(W2.alloc o).grownBy z vE.ownBlock->(vE.ownBlock=some Z\/Z=W2.heap.size+1)->
    (z.cell? ⟨wb.heap.size,3,none⟩=some vE/\z.frozen? ⟨wb.heap.size,3,none⟩=false)/\sJ wb b t rows es qn (q+1) (z.setCell ⟨wb.heap.size,3,none⟩ (.slice (some ⟨Z,0,none⟩) (q+1) J)):=by
 obtain⟨vN,vE,vals,h1,h2,h3,h4,h5⟩:=h
 have b0:=(zG h1).1
 refine⟨vE,by simp[World.cell?,h1],h3,by omega,λz o Z J hown a2 a6=>?_⟩
 have b6:(W2.alloc o).heap.size=W2.heap.size+1:=by simp
 have U: ∀x,x<W2.heap.size->vE.ownBlock≠some x->z.heap[x]? =W2.heap[x]? :=λx hx b2=>by rw[a2.block x (by omega) (λe=>b2 e.symm),Below.heap_alloc _ _ _ hx]
 have a7:vE.ownBlock≠some wb.heap.size:=λe=>by have:=(h3.lt _ e).1;omega
 have b3:vN.ownBlock≠some wb.heap.size:=λe=>by have:=(h2.lt _ e).1;omega
 have a1:z.heap[wb.heap.size]? =some (.cells #[.int .i64 b,.int .i64 t,vN,vE] 35 (0,0)):=(U _ b0 a7).trans h1
 have b1:Z≠wb.heap.size:=by
  rcases a6 with e|e
  ·intro e';subst e';exact a7 e
  ·omega
 have b4:z.ownsRow (wb.heap.size+1) 24 1 vN qn vals:=aX h2 (λx hx=>U x (h2.lt x hx).2 (λe=>Io ajK h2 h3 hx e))
 refine⟨⟨by simp[World.cell?,a1],by simp[World.frozen?,a1]⟩,vN,.slice (some ⟨Z,0,none⟩) (q+1) J,vals,(Nv a1 _).2,ownsRow_setCell_other b4 b3 _,?_,λj hj=>?_,?_⟩
 ·rw[List.range_succ,List.map_append]
  exact ownsRow_setCell_other hown (by simpa[Value.ownBlock]using b1) _
 ·obtain⟨a',c',e1,e2,e3⟩:=h4 j hj
  refine⟨a',c',e1,⟨ng e2.1 λx hx=>?_,e2.2⟩,λx hx=>⟨(e3 x hx).1,λe=>?_⟩⟩
  ·have a8:=pX e2.1 hx
   have b5:x≠wb.heap.size:=by obtain⟨_,ad,e,rfl⟩:=hx;have:=e2.2 ad e;omega
   rw[Below.heap_setCell _ _ _ _ b5,U x a8 (e3 x hx).2]
  ·have a8:=pX e2.1 hx
   have e':Z=x:=by simpa[Value.ownBlock]using e
   subst e'
   rcases a6 with h|h
   ·exact(e3 _ hx).2 h
   ·omega
 ·exact(Below.grown (h5.alloc h5.size o) a2 (by have:=h5.size;omega) (λx hx=>by have:=(h3.lt x hx).1;omega)).setCell zr _
theorem Lp{wb:zW}{b t:Int}{rows:Nat->zI}{es:Nat->Bool}{k:Nat}{W:zW}(h:sJ wb b t rows es k k W)(U:k<=maxLen)(N:zL)(hN:N.length=k)(hr: ∀j,j<k->N.getD j []=rows j)(E:zB)(hE:E.length=k)(he: ∀j,j<k->E.getD j false=es j):
  ∃a c a' c',W.heap[wb.heap.size]? =some (.cells #[.int .i64 b,.int .i64 t,.slice a k c,.slice a' k c'] 35 (0,0))/\Below wb.heap.size wb W/\ ∀W':zW,(∀x,wb.heap.size<x->x<W.heap.size->W'.heap[x]? =W.heap[x]?)->gT W' a k N/\mR W' a' k E:=by
 obtain⟨vN,vE,vals,h1,h2,h3,h4,h5⟩:=h
 have a2: ∃a c,vN=.slice a k c/\ ∀W':zW,(∀x,wb.heap.size<x->x<W.heap.size->W'.heap[x]? =W.heap[x]?)->gT W' a k N:=by
  obtain⟨h0,h1⟩:=h2;rcases h1 with⟨rfl,rfl⟩|⟨g,cap,cur,rfl,hg,J,hc,a6,a7,Z⟩
  ·exact⟨none,0,rfl,λ_ _=>⟨hN,U,Or.inl rfl⟩⟩
  ·refine⟨_,cap,rfl,λW' z=>⟨hN,U,Or.inr ⟨g,0,rfl,λi hi=>?_⟩⟩⟩
   obtain⟨a',a1,e1,e2,_⟩:=h4 i hi;rw[hr i hi];refine⟨a',a1,?_,ng e2.1 λx hx=>z x ?_ (pX e2.1 hx)⟩
   ·rw[cell_of_row W' g (0+i) cur 24 (0,0) ((z g (by omega) (zG J).1).trans J),Nat.zero_add];have h3:(cur.toList.take (k*1))[i]? =vals[i]? :=(by rw[Z]);rw[List.getElem?_take,yP (by omega),Array.getElem?_toList]at h3;rw[h3,e1]
   ·obtain⟨_,ad,e,rfl⟩:=hx;have:=e2.2 ad e;omega
 have a8: ∃a c,vE=.slice a k c/\ ∀W':zW,(∀x,wb.heap.size<x->x<W.heap.size->W'.heap[x]? =W.heap[x]?)->mR W' a k E:=by
  obtain⟨h0,h1⟩:=h3;rcases h1 with⟨rfl,rfl⟩|⟨g,cap,cur,rfl,hg,J,hc,a6,a7,Z⟩
  ·exact⟨none,0,rfl,λ_ _=>⟨hE,U,Or.inl rfl⟩⟩
  ·refine⟨_,cap,rfl,λW' z=>⟨hE,U,Or.inr ⟨g,0,rfl,λi hi=>?_⟩⟩⟩;rw[cell_of_row W' g (0+i) cur 4 (0,0) ((z g (by omega) (zG J).1).trans J),Nat.zero_add];have h3:(cur.toList.take (k*1))[i]? =((List.range k).map λj=>Value.bool (es j))[i]? :=(by rw[Z]);rw[List.getElem?_take,yP (by omega),Array.getElem?_toList]at h3;rw[h3,he i hi];simp[hi]
 obtain⟨a,c,rfl,hs⟩:=a2
 obtain⟨a',c',rfl,b0⟩:=a8
 exact⟨a,c,a',c',h1,h5,λW' z=>⟨hs W' z,b0 W' z⟩⟩
def dS(w:zW)(a:zO)(k:Nat)(N:zL)(a':zO)(E:zB)(W:zW):Prop:= ∀W':zW,(∀x,w.heap.size<=x->x<W.heap.size->W'.heap[x]? =W.heap[x]?)->gT W' a k N/\mR W' a' k E
theorem dS.here(h:dS w a k N a' E W):gT W a k N/\mR W a' k E:=h W (λ_ _ _=>rfl)
theorem dS.below(h:dS w a k N a' E W)(hb:Below W.heap.size W W2):dS w a k N a' E W2:=λW' z=>h W' λx h1 h2=>(z x h1 (Nat.lt_of_lt_of_le h2 hb.size)).trans (hb.block x h2)
theorem Nw(h:W.heap[B]? =some (.cells #[u0,u1,u2,u3] T (0,0))):
  ((((W.setCell ⟨B,0,none⟩ v0).setCell ⟨B,1,none⟩ v1).setCell ⟨B,2,none⟩ v2).setCell ⟨B,3,none⟩ v3).heap[B]? =some (.cells #[v0,v1,v2,v3] T (0,0)):=by
 simp[World.setCell,Array.getElem?_modify,h]
theorem eO(h:W.heap[B]? =some (.cells #[u0,u1,u2,u3] T (0,0))){W':zW}(e:W'=(((W.setCell ⟨B,0,none⟩ v0).setCell ⟨B,1,none⟩ v1).setCell ⟨B,2,none⟩ v2).setCell ⟨B,3,none⟩ v3):
  (W'.heap[B]? =some (.cells #[v0,v1,v2,v3] T (0,0))/\W'.heap.size=W.heap.size/\ ∀x,x≠B->W'.heap[x]? =W.heap[x]?)/\ ∀(w:zW) (k:Nat),Below k w W->k<=B->Below k w W':=by
 subst e
 refine⟨⟨Nw h,by simp[World.setCell],λx hx=>?_⟩,λw k hb z=>(((hb.setCell z _).setCell z _).setCell z _).setCell z _⟩
 rw[Below.heap_setCell _ _ _ _ hx,Below.heap_setCell _ _ _ _ hx,Below.heap_setCell _ _ _ _ hx,Below.heap_setCell _ _ _ _ hx]
theorem eF(h:W.heap[B]? =some (.cells #[u0,u1,u2,u3] T (0,0))){W':zW}(e:W'=(((W.setCell ⟨B,0,none⟩ (.int .i64 0)).setCell ⟨B,1,none⟩ (.int .i64 0)).setCell ⟨B,2,none⟩ (.slice none 0 0)).setCell ⟨B,3,none⟩ (.slice none 0 0)):
  (W'.heap[B]? =some (.cells #[.int .i64 0,.int .i64 0,.slice none 0 0,.slice none 0 0] T (0,0))/\W'.heap.size=W.heap.size/\ ∀x,x≠B->W'.heap[x]? =W.heap[x]?)/\ ∀(w:zW) (k:Nat),Below k w W->k<=B->Below k w W':=eO h e
theorem aC(h:W.heap[B]? =some (.cells #[v0,v1,v2,v3] T (0,0))):
  (W.cell? ⟨B,0,none⟩=some v0/\W.cell? ⟨B,1,none⟩=some v1/\W.cell? ⟨B,2,none⟩=some v2/\W.cell? ⟨B,3,none⟩=some v3)/\ ∀i,W.frozen? ⟨B,i,none⟩=false:=by
 refine⟨⟨?_,?_,?_,?_⟩,λi=>?_⟩<;>simp[World.cell?,World.frozen?,h]
def Vs(wb:zW)(b t:Int)(rows:Nat->zI)(vE:Value)(q:Nat)(W:zW):Prop:=
 ∃(vN:Value) (vals:zV),W.heap[wb.heap.size]? =some (.cells #[.int .i64 b,.int .i64 t,vN,vE] 35 (0,0))/\
  W.ownsRow (wb.heap.size+1) 24 1 vN q vals/\
  (∀j,j<q-> ∃a cap,vals[j]? =some (.slice a (rows j).length cap)/\Dm (wb.heap.size+1) W a (rows j).length (rows j)/\ ∀x,Tk a (rows j).length x->vN.ownBlock≠some x)/\
  Below wb.heap.size wb W
theorem Vt(wb:zW)(b t:Int)(rows:Nat->zI)(vE:Value):Vs wb b t rows vE 0 (wb.alloc (.cells #[.int .i64 b,.int .i64 t,.slice none 0 0,vE] 35)):=
 ⟨.slice none 0 0,[],zl wb _,World.ownsRow_nil _ _ _ _,λj z=>by omega,zb.alloc zr _⟩
theorem Vu{vE:Value}{q:Nat}(h:Vs wb b t rows vE q W)(hb:Below W.heap.size W W2):Vs wb b t rows vE q W2:=by obtain⟨vN,vals,h1,h2,h4,h5⟩:=h;have z:=(zG h1).1;refine⟨vN,vals,(hb.block _ z).trans h1,aX h2 (λx hx=>hb.block _ (h2.lt x hx).2),λj U=>?_,ak h5 hb⟩;obtain⟨a,cap,Z,J,e3⟩:=h4 j U;exact⟨a,cap,Z,⟨aF J.1 hb,J.2⟩,e3⟩
theorem ajm{wb:zW}{b t:Int}{rows:Nat->zI}{vE:Value}{q:Nat}{W W2:zW}{ar:zO}{cr:Nat}(h:Vs wb b t rows vE q W)(hb:Below W.heap.size W W2)(hs:Dm W.heap.size W2 ar (rows q).length (rows q)):
  ∃(vN:Value) (vals:zV),W2.cell? ⟨wb.heap.size,2,none⟩=some vN/\W2.ownsRow (wb.heap.size+1) 24 1 vN q vals/\wb.heap.size+1<=W2.heap.size/\
   ∀(Z:zW) (o:Obj) (U z:Nat),Z.ownsRow (wb.heap.size+1) 24 1 (.slice (some ⟨U,0,none⟩) (q+1) z) (q+1) (vals++[.slice ar (rows q).length cr])->(W2.alloc o).grownBy Z vN.ownBlock->(vN.ownBlock=some U\/U=W2.heap.size+1)->
    (Z.cell? ⟨wb.heap.size,2,none⟩=some vN/\Z.frozen? ⟨wb.heap.size,2,none⟩=false)/\Vs wb b t rows vE (q+1) (Z.setCell ⟨wb.heap.size,2,none⟩ (.slice (some ⟨U,0,none⟩) (q+1) z)):=by
 have b8:wb.heap.size+1<=W.heap.size:=by obtain⟨_,_,h1,_⟩:=h;exact(zG h1).1
 have c3:=hb.size
 have b4:=h
 obtain⟨vN,vals,h1,h2,h4,h5⟩:=Vu h hb
 have b9:vals.length=q:=by have:=h2.1;omega
 have b5:=(zG h1).1
 have b6: ∀x,Tk ar (rows q).length x->vN.ownBlock≠some x:=by obtain⟨uN,us,g1,g2,_,_⟩:=b4;have e1:=(hb.block _ (zG g1).1).trans g1;rw[h1]at e1;simp at e1;rw[e1];rintro x ⟨_,ad,e,rfl⟩;have c4:=hs.2 ad e;exact λe'=>by have:=(g2.lt _ e').2;omega
 refine⟨vN,vals,by simp[World.cell?,h1],h2,by omega,λZ o U z hown a6 b1=>?_⟩
 have c5:(W2.alloc o).heap.size=W2.heap.size+1:=by simp
 have a7: ∀x,x<W2.heap.size->vN.ownBlock≠some x->Z.heap[x]? =W2.heap[x]? :=λx hx a8=>by rw[a6.block x (by omega) (λe=>a8 e.symm),Below.heap_alloc _ _ _ hx]
 have b2:vN.ownBlock≠some wb.heap.size:=λe=>by have:=(h2.lt _ e).1;omega
 have a2:Z.heap[wb.heap.size]? =some (.cells #[.int .i64 b,.int .i64 t,vN,vE] 35 (0,0)):=(a7 _ b5 b2).trans h1
 have b7:U≠wb.heap.size:=by
  rcases b1 with e|e
  ·intro e';subst e';exact b2 e
  ·omega
 have b0: ∀{a' J l'},Dm (wb.heap.size+1) W2 a' J l'->(∀x,Tk a' J x->vN.ownBlock≠some x)->Dm (wb.heap.size+1) (Z.setCell ⟨wb.heap.size,2,none⟩ (.slice (some ⟨U,0,none⟩) (q+1) z)) a' J l'/\ ∀x,Tk a' J x->Value.ownBlock (.slice (some ⟨U,0,none⟩) (q+1) z)≠some x:=by
  intro a' J l' a1 a8;refine⟨⟨ng a1.1 λx hx=>?_,a1.2⟩,λx hx e=>?_⟩
  ·have b3:=pX a1.1 hx;have c0:x≠wb.heap.size:=(by obtain⟨_,ad,e,rfl⟩:=hx;have:=a1.2 ad e;omega);rw[Below.heap_setCell _ _ _ _ c0,a7 x b3 (a8 x hx)]
  ·have b3:=pX a1.1 hx
   have e':U=x:=(by simpa[Value.ownBlock]using e);subst e';rcases b1 with h|h
   ·exact a8 _ hx h
   ·omega
 refine⟨⟨by simp[World.cell?,a2],by simp[World.frozen?,a2]⟩,.slice (some ⟨U,0,none⟩) (q+1) z,vals++[.slice ar (rows q).length cr],(Nv a2 _).1,ownsRow_setCell_other hown (by simpa[Value.ownBlock]using b7) _,λj hj=>?_,?_⟩
 ·by_cases e:j=q
  ·subst e
   have:=b0 (hs.mono b8) b6
   exact⟨ar,cr,by rw[List.getElem?_append_right (by omega),b9];simp,this.1,this.2⟩
  ·obtain⟨a',c',e1,e2,e3⟩:=h4 j (by omega)
   have:=b0 e2 e3
   exact⟨a',c',by rw[List.getElem?_append_left (by omega)];exact e1,this.1,this.2⟩
 ·exact(Below.grown (h5.alloc h5.size o) a6 (by have:=h5.size;omega) (λx hx=>by have:=(h2.lt x hx).1;omega)).setCell zr _
theorem aeC{vE:Value}(h:Vs wb b t rows vE k W)(J:k<=maxLen)(N:zL)(U:N.length=k)(Z: ∀j,j<k->N.getD j []=rows j):
  ∃a c,W.heap[wb.heap.size]? =some (.cells #[.int .i64 b,.int .i64 t,.slice a k c,vE] 35 (0,0))/\Below wb.heap.size wb W/\gT W a k N:=by
 obtain⟨vN,vals,h1,h2,h4,h5⟩:=h
 obtain⟨g0,g1⟩:=h2
 rcases g1 with⟨rfl,rfl⟩|⟨g,cap,cur,rfl,hg,hh,hc,a1,a2,ht⟩
 ·exact⟨none,0,h1,h5,U,J,Or.inl rfl⟩
 ·refine⟨_,cap,h1,h5,U,J,Or.inr ⟨g,0,rfl,λi hi=>?_⟩⟩
  obtain⟨a',z,e1,e2,_⟩:=h4 i hi
  rw[Z i hi]
  refine⟨a',z,?_,e2.1⟩
  rw[cell_of_row W g (0+i) cur 24 (0,0) hh,Nat.zero_add]
  have h3:(cur.toList.take (k*1))[i]? =vals[i]? :=by rw[ht]
  rw[List.getElem?_take,yP (by omega),Array.getElem?_toList]at h3
  rw[h3,e1]
end Go.Proofs.YtceojneljnnooaaGreat
