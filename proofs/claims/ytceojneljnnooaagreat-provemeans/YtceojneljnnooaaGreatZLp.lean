import Derived.Test.YtceojneljnnooaaGreatZNx
import Derived.LaidEql
import Derived.RowKitTokens
import Derived.Stop.Asserts
open Go.Proofs.Tryz
namespace Go.Proofs.YtceojneljnnooaaGreat
open Go.RowKit
set_option maxHeartbeats 0
set_option maxRecDepth 100000
set_option linter.all false
def wV(b:Int)(l:zI):Int:=if aU b l.length=0 then(if gZ b l=true then 0 else 1)else aU b l.length
def BX(b:Int)(l:zI):Int:=if wV b l=0 then fF b l else 0
theorem YO(b:Int)(a:zO)(len cap:Nat)(w:zW)(J:aU b len≠0):
  Calls prog 134 #[.int .i64 b,.slice a len cap] w λe w'=>e=.returned (.tuple #[.int .i64 0,bC (aU b len)])/\w'=w:=by
 have z:=aj (lU b len w)
 rw[kD J]at z⊢
 generalize aU b len=c at z⊢
 generalize aD b len=M at z
 clear J
 go_enter func134,ntmps134
 go_wp2_with (go_at_call 19;refine z.out.mono ?_;rintro e w' ⟨rfl,U⟩;rw[U];clear U w')
 go_ret2
 exact⟨by simp,rfl⟩
theorem afX(b:Int)(a:zO)(len cap:Nat)(l:zI)(w:zW)(hM:aU b len=0)(hs:Sl w a len l):
  Calls prog 134 #[.int .i64 b,.slice a len cap] w λe w'=>e=.returned (.tuple #[.int .i64 (if gZ b l=true then fF b l else 0),bC (if gZ b l=true then 0 else 1)])/\w'=w:=by
 obtain⟨h1,h2,h3,h4,_,_⟩:=bA hM
 have HL:=aj hs.1
 have HS:=aj hs
 have hk:=dA b h2
 obtain⟨a8,a1⟩:=hk
 have z:=aj (lU b len w)
 rw[hM,cB]at z
 generalize aD b len=M at z
 have HK:=aj (λw=>mq b w h1 h2)
 have HT:=aj (lM b l)
 have b8:Hid (∀k,k<=len->gZ b (l.take k)=true->0<=fF b (l.take k)/\fF b (l.take k)<=7776):=by
  intro k hk hd;have b0:(l.take k).length=k:=by rw[List.length_take,hs.1];omega
  have:=BF b h2 (l.take k) k (by rw[b0];omega) (λj hj=>KW hd j (by rw[b0];omega));rw[List.take_take,Nat.min_self]at this;have:=aa5 (au b) a8 a1 k (by omega);omega
 have b1:=aj (GV b l)
 have b2:Hid (∀k,k<len-> ¬(0<=l.getD k 0/\l.getD k 0<au b)->gZ b l=false):=by
  intro k hk hx;have:=aaX b l k (by rw[hs.1];exact hk) hx;unfold ah0 at this;split at this
  ·cases this
  ·rename_i h;simpa using h
 have b3:Hid (gZ b l=true->(Value.tuple #[.int .i64 (if gZ b l=true then fF b l else 0),bC (if gZ b l=true then 0 else 1)])=.tuple #[.int .i64 (fF b l),.nilIface]):=by intro h;rw[yP h,yP h,cB]
 have b4:Hid (gZ b l=false->(Value.tuple #[.int .i64 (if gZ b l=true then fF b l else 0),bC (if gZ b l=true then 0 else 1)])=.tuple #[.int .i64 0,.iface 45 (.int .i64 1)]):=by intro h;rw[yN (by simp[h]),yN (by simp[h]),kD (by decide)]
 generalize Value.tuple #[.int .i64 (if gZ b l=true then fF b l else 0),bC (if gZ b l=true then 0 else 1)]=R at b3 b4⊢
 clear hs hM
 generalize au b=K at a8 a1 HK HT b1 b2
 go_enter func134,ntmps134
 go_wp2_with (go_at_call 19;refine z.out.mono ?_;rintro e w' ⟨rfl,hw⟩;rw[hw];clear hw w')
 clear z
 go_loop[8,23] (λs i=> ∃k:Nat,k<=len/\i=.int .i64 k/\s=.int .i64 (fF b (l.take k))/\gZ b (l.take k)=true) (λ_ i=>len-(intOf i).toNat)
 case atStart=>exact⟨0,Nat.zero_le _,rfl,rfl,rfl⟩
 case round=>
  obtain⟨k,hk,rfl,rfl,hd⟩:=hrel
  have b9:=b8.out k hk hd
  obtain⟨J,U⟩:=b9
  have HD:=aj hd
  clear hd
  by_cases Z:k<len
  ·obtain⟨bb,o,rfl,c0⟩:=bH HS.out k Z
   have b7:(k:Int)<(len:Int):=by omega
   have a2:=aj (HT.out k (by rw[HL.out];exact Z))
   have a6:=aj (b1.out k (by rw[HL.out];exact Z))
   have a7:=aj (b2.out k Z)
   generalize l.getD k 0=x at c0 a2 a6 a7
   generalize fF b (l.take k)=p at J U a2⊢
   by_cases hx:0<=x/\x<K
   ·obtain⟨b5,b6⟩:=hx
    have c4:0<=p*K:=Int.mul_nonneg J (by omega)
    have c5:p*K<=7776*6:=Int.mul_le_mul U a1 (by omega) (by omega)
    go_wp2_with (go_at_call 34;refine(HK.out _).mono ?_;rintro e w' ⟨rfl,rfl⟩)
    go_round
    case rel=>exact⟨k+1,by omega,by go_num,by rw[a2.out],by rw[a6.out,HD.out];simp[b5,b6]⟩
    case measure=>simp[intOf];omega
   ·have HF:=aj (b4.out (a7.out hx))
    have c3:x<0\/(0<=x/\K<=x):=by omega
    clear hx
    rcases c3 with hx|⟨b5,b6⟩
    all_goals
     go_wp2_with (go_at_call 34;refine(HK.out _).mono ?_;rintro e w' ⟨rfl,rfl⟩)
     go_ret2
     exact⟨by rw[HF.out];simp,rfl⟩
  ·have b7: ¬((k:Int)<(len:Int)):=by omega
   obtain rfl:k=len:=by omega
   have HA:Hid (l.take k=l):=List.take_of_length_le (by rw[HL.out];omega)
   rw[HA.out]at HD J U⊢
   have HF:=aj (b3.out HD.out)
   generalize fF b l=p at J U HF⊢
   go_wp2
   go_ret2
   exact⟨by rw[HF.out];simp,rfl⟩
theorem abN(b:Int)(a:zO)(len cap:Nat)(l:zI)(w:zW)(hs:Sl w a len l):
  Calls prog 134 #[.int .i64 b,.slice a len cap] w λe w'=>e=.returned (.tuple #[.int .i64 (BX b l),bC (wV b l)])/\w'=w:=by
 by_cases z:aU b len=0
 ·have:=afX b a len cap l w z hs
  have hc:wV b l=if gZ b l=true then 0 else 1:=by unfold wV;rw[hs.1,yP z]
  have J:BX b l=if gZ b l=true then fF b l else 0:=by unfold BX;rw[hc];split<;>simp
  rw[hc,J]
  exact this
 ·have:=YO b a len cap w z
  have hc:wV b l=aU b len:=by unfold wV;rw[hs.1,yN z]
  have J:BX b l=0:=by unfold BX;rw[hc,yN z]
  rw[hc,J]
  exact this
def Iq(b t l:Int):Int:=if aU b t=0 then(if 0<=l/\l<aD b t then 0 else 1)else aU b t
theorem Ir{b t l:Int}(h:Iq b t l=0):aU b t=0/\0<=l/\l<aD b t:=by
 unfold Iq at h;split at h
 ·split at h
  ·exact⟨by assumption,by omega,by omega⟩
  ·cases h
 ·contradiction
theorem jw{w w':zW}{v0 v1 v2 v3 u0 u1 u2 u3:Value}{T:TypeId}(hb:Below ((w.alloc (.cells #[v0,v1,v2,v3] T)).alloc (.cells #[u0,u1,u2,u3] T)).heap.size ((w.alloc (.cells #[v0,v1,v2,v3] T)).alloc (.cells #[u0,u1,u2,u3] T)) w'):
  (w'.cell? ⟨w.heap.size,0,none⟩=some v0/\w'.cell? ⟨w.heap.size,1,none⟩=some v1/\w'.cell? ⟨w.heap.size,2,none⟩=some v2/\w'.cell? ⟨w.heap.size,3,none⟩=some v3)/\
  (w'.cell? ⟨w.heap.size+1,0,none⟩=some u0/\w'.cell? ⟨w.heap.size+1,1,none⟩=some u1/\w'.cell? ⟨w.heap.size+1,2,none⟩=some u2/\w'.cell? ⟨w.heap.size+1,3,none⟩=some u3):=by
 have h2:=Hl hb
 rw[World.size_alloc]at h2
 exact⟨Hl (ak (zb.alloc zr _) hb),h2⟩
def iG(b t:Int)(N:zL)(k:Nat)(z J:Int)(U:zL)(Z:Nat):Int:=
 if bP b t N k=0 then(if bP z J U Z=0 then(if b=z/\t=J then 0 else 2)else bP z J U Z)else bP b t N k
def Mk(w:zW)(l:zI)(e:Ending)(w':zW):Prop:= ∃g,e=.returned (.slice (some ⟨g,0,none⟩) l.length l.length)/\w.heap.size<=g/\Sl w' (some ⟨g,0,none⟩) l.length l/\Below w.heap.size w w'
def CF(w:zW)(l:zI)(e:Ending)(w':zW):Prop:= ∃g,e=.returned (.tuple #[.slice (some ⟨g,0,none⟩) l.length l.length,.nilIface])/\w.heap.size<=g/\Sl w' (some ⟨g,0,none⟩) l.length l/\Below w.heap.size w w'
theorem adk{b:Int}{n:Nat}{l:Int}{w wr:zW}(h2:b<=6)(z:n<=5)(h:Pm b n l w n wr):Mk w (bM b n l) (.returned (.slice (some ⟨w.heap.size,0,none⟩) n n)) wr:=by
 refine⟨w.heap.size,by rw[bF],zr,?_,h.2⟩;rw[bF];refine ig (bF _ _ _) (by unfold maxLen;omega) (λx hx=>?_) (h.1.congr λi hi=>?_)
 ·simp only[bM,List.mem_map,List.mem_range]at hx;obtain⟨i,_,rfl⟩:=hx;have:=nX b h2 n l i;have:=dA b h2;exact Go.WalkArith.wf_i64 (by omega)
 ·rw[yP (by omega),lT _ _ _ _ hi]
theorem ZB(b:Int)(n:Nat)(l:Int)(w:zW)(h1:1<=b)(h2:b<=6)(hn:n<=5)(hl:0<=l)(b8:l<=100000000):
  Calls prog 131 #[.int .i64 b,.int .i64 n,.int .i64 l] w (Mk w (bM b n l)):=by
 have hk:=dA b h2
 obtain⟨z,b1⟩:=hk
 have HK:=aj (λw=>mq b w h1 h2)
 have b9:=fO n (by omega)
 have HE:=aj (λwr=>@adk b n l w wr h2 hn)
 have a1:=aj (λwr k m=>@KX b n l w wr k m)
 have a2:=aj (aa6 (au b) z l hl)
 have a6:=aj (Tg (au b) z l)
 have b2:(au b==0)=false:=by simp;omega
 have H0:Hid (Pm b n l w 0 (w.alloc (.cells (madeCells #[.int .i64 0] n) 3))):=by refine⟨(World.rowIs_made w (.int .i64 0) n 3).congr λp hp=>?_,zb.alloc zr _⟩;rw[yN (by omega)]
 have a7:Hid (l/pw (au b) 0=l):=by show _=_;simp[pw]
 go_enter func131,ntmps131
 go_wp2
 generalize w.alloc (.cells (madeCells #[.int .i64 0] n) 3)=W at H0⊢
 generalize au b=K at z b1 HK a1 a2 a6 b2 a7
 go_loopw[2,12] (λs i wx=> ∃k:Nat,k<=n/\i=.int .i64 k/\s=.int .i64 (l/pw K k)/\Pm b n l w k wx) (λ_ i _=>n-(intOf i).toNat)
 case atStart=>exact⟨0,by omega,rfl,by rw[a7.out],H0.out⟩
 case round=>
  obtain⟨k,hk,rfl,rfl,ho⟩:=hrel
  have U:=aj ho
  clear ho
  by_cases c0:k<n
  ·have b0:(k:Int)<(n:Int):=by omega
   obtain⟨m,hm⟩: ∃m,n=m+1+k:=⟨n-1-k,by omega⟩
   have HM:=aj hm
   have c3:(n:Int)-1-(k:Int)=(m:Int):=by omega
   have b3:m<n:=by omega
   clear hm
   have a8:=aj (a1.out wr k m U.out HM.out)
   have b4:=a2.out k
   obtain⟨b5,b6⟩:=b4
   have J:=aj (a6.out k)
   have Z:=U.out.1.cell b3
   have c4:=U.out.1.frozen m
   have b7:(m:Int)<(n:Int):=by omega
   generalize(Value.int IntKind.i64 (if n<=m+k then pW b n l m else 0))=c5 at Z
   generalize l/pw K k=q at b5 b6 J a8⊢
   go_wp2_with (go_at_call 34;refine(HK.out _).mono ?_;rintro e w' ⟨rfl,hw⟩;rw[hw];clear hw w')
   go_roundw
   case rel=>exact⟨k+1,by omega,by go_num,by rw[J.out],a8.out⟩
   case measure=>simp[intOf];omega
  ·have b0: ¬((k:Int)<(n:Int)):=by omega
   obtain rfl:k=n:=by omega
   go_wp2
   go_ret
   exact HE.out wr U.out
theorem Jr(b:Int)(n:Nat)(l:Int)(w:zW)(h:Iq b n l=0):
  Calls prog 103 #[.int .i64 b,.int .i64 n,.int .i64 l] w (CF w (bM b n l)):=by
 obtain⟨hM,a1,a2⟩:=Ir h
 obtain⟨h1,h2,h3,h4,h5,h6⟩:=bA hM
 have z:=aj (lU b n w)
 rw[hM,cB]at z
 have U:=aj (ZB b n l w h1 h2 (by omega) a1 (by omega))
 generalize aD b n=M at z a2 h6
 have b0:decide (M<=l)=false:=by simp;omega
 clear h hM h5 h6
 go_enter func103,ntmps103
 go_wp2_with (go_at_call 19;refine z.out.mono ?_;rintro e w' ⟨rfl,hw⟩;rw[hw];clear hw w')
 refine U.out.mono ?_
 rintro e w1 ⟨g1,rfl,a6,J,Z⟩
 rw[bF]at J⊢
 have a7:=aj J
 have a8:=aj Z
 clear J Z U
 go_wp2
 go_ret2
 exact⟨g1,by rw[bF];simp,a6,by rw[bF];exact a7.out,a8.out⟩
end Go.Proofs.YtceojneljnnooaaGreat
