import Derived.Test.YtfiknidoihlkfaaGreatZNx
import Derived.Deep.RegionWith
open Go.Proofs.Tryz
namespace Go.Proofs.YtfiknidoihlkfaaGreat
open Go.RowKit
set_option maxHeartbeats 0
set_option maxRecDepth 100000
set_option linter.all false
variable{nums:zI}{b:Int}
def gF(z p:Nat)(d:zI):Int:=if z<=p+d.length then d.getD (p+d.length-z) 0 else 0
def iw(b:Int)(z:Nat)(rows:zL)(p:Nat):Int:=fF b (rows.map (gF z p))
def nP(b:Int)(z:Nat)(rows:zL):zI:=(List.range z).map (iw b z rows)
theorem jF(b:Int)(z:Nat)(rows:zL):(nP b z rows).length=z:=by simp[nP]
theorem Lh(b:Int)(z:Nat)(rows:zL)(p:Nat)(h:p<z):(nP b z rows).getD p 0=iw b z rows p:=by simp[nP,List.getD,h]
theorem BP(b:Int)(h2:b<=6)(z p:Nat)(d:zI)(J:gZ b d=true):0<=gF z p d/\gF z p d<au b:=by
 have U:=dB b h2;unfold gF;split
 ·by_cases h:p+d.length-z<d.length
  ·exact KV J _ h
  ·have:d.getD (p+d.length-z) 0=0:=by rw[List.getD,List.getElem?_eq_none (by omega)];rfl
   omega
 ·omega
theorem PW(b:Int)(h2:b<=6)(z:Nat)(rows:zL)(hr:rows.length<=5)(U: ∀d∈rows,gZ b d=true)(k:Nat)(Z:k<=rows.length)(p:Nat):0<=iw b z (rows.take k) p/\iw b z (rows.take k) p<7776:=by
 have hK:=dB b h2
 have h:=BA b h2 (rows.map (gF z p)) k (by simpa using Z) (λj hj=>by
  have J:j<rows.length:=by omega
  have:(rows.map (gF z p)).getD j 0=gF z p (rows[j]):=by simp[List.getD,J]
  rw[this];exact BP b h2 z p _ (U _ (List.getElem_mem J)))
 have hb:=aa5 (au b) hK.1 hK.2 k (by omega);unfold iw;rw[List.map_take];omega
theorem TF(b:Int)(z:Nat)(rows:zL)(k:Nat)(J:k<rows.length)(p:Nat):iw b z (rows.take (k+1)) p=iw b z (rows.take k) p*au b+gF z p (rows.getD k []):=by unfold iw;rw[List.take_succ_eq_append_getElem J,List.map_append];simp only[List.map_cons,List.map_nil];rw[Ao];simp[List.getD,J]
def KJ(b:Int)(z:Nat)(rows:zL)(w:zW)(k p:Nat)(wr:zW):Prop:=
 wr.rowIs w.heap.size 3 z (λq=>.int .i64 (if q<p then iw b z (rows.take (k+1)) q else iw b z (rows.take k) q))/\Below w.heap.size w wr
theorem YH{b:Int}{z:Nat}{rows:zL}{w:zW}{k:Nat}{wr:zW}(h:KJ b z rows w k z wr):KJ b z rows w (k+1) 0 wr:=
 ⟨h.1.congr λq J=>by rw[yP J,yN (by omega)],h.2⟩
theorem abE{b:Int}{z:Nat}{rows:zL}{w wr:zW}(h2:b<=6)(J:rows.length<=5)(U: ∀d∈rows,gZ b d=true)(Z:z<=60)(h:KJ b z rows w rows.length 0 wr):
  fH w (nP b z rows) (.returned (.slice (some ⟨w.heap.size,0,none⟩) z z)) wr:=by
 refine⟨some ⟨w.heap.size,0,none⟩,z,by rw[jF],⟨?_,λad e=>by cases e;exact zr⟩,h.2⟩
 rw[jF]
 refine ig (jF _ _ _) (by unfold maxLen;omega) (λx hx=>?_) (h.1.congr λi hi=>?_)
 ·simp only[nP,List.mem_map,List.mem_range]at hx
  obtain⟨i,_,rfl⟩:=hx
  have:=PW b h2 z rows J U rows.length zr i
  rw[List.take_of_length_le zr]at this
  exact Go.WalkArith.wf_i64 (by omega)
 ·rw[yN (by omega),Lh _ _ _ _ hi,List.take_of_length_le zr]
theorem abF{b:Int}{z:Nat}{rows:zL}{w:zW}{k p:Nat}{wr:zW}(h:KJ b z rows w k p wr)(hp:p<z):
  wr.cell? ⟨w.heap.size,p,none⟩=some (.int .i64 (iw b z (rows.take k) p))/\wr.frozen? ⟨w.heap.size,p,none⟩=false/\
  ∀x y W2,W2.heap=(wr.setCell ⟨w.heap.size,p,none⟩ x).heap->Below w.heap.size w W2->
   W2.cell? ⟨w.heap.size,p,none⟩=some x/\W2.frozen? ⟨w.heap.size,p,none⟩=false/\
   (x=.int .i64 (iw b z (rows.take (k+1)) p)->KJ b z rows w k (p+1) W2)/\
   ∀J,J.heap=(W2.setCell ⟨w.heap.size,p,none⟩ y).heap->Below w.heap.size w J->y=.int .i64 (iw b z (rows.take (k+1)) p)->KJ b z rows w k (p+1) J:=by
 have Z: ∀{W:zW} {f:Nat->Value} (v:Value),W.rowIs w.heap.size 3 z f->(∀q,q<z->q≠p->f q=.int .i64 (if q<p then iw b z (rows.take (k+1)) q else iw b z (rows.take k) q))->f p=v->v=.int .i64 (iw b z (rows.take (k+1)) p)->Below w.heap.size w W->KJ b z rows w k (p+1) W:=by
  intro W f v a1 hq a2 hv hb;refine⟨a1.congr λq a6=>?_,hb⟩;by_cases e:q=p
  ·subst e;rw[a2,hv,yP (by omega)]
  ·rw[hq q a6 e]
   by_cases e2:q<p
   ·rw[yP e2,yP (by omega)]
   ·rw[yN e2,yN (by omega)]
 refine⟨?_,h.1.frozen p,λx y W2 a7 a8=>?_⟩
 ·rw[h.1.cell hp,yN (by omega)]
 ·have U:=(h.1.set p x).of_block (w':=W2) (by rw[a7])
  refine⟨by rw[U.cell hp,yP rfl],U.frozen p,λhx=>Z x U (λq _ e=>by rw[yN e]) (yP rfl) hx a8,λJ b0 b1 hy=>?_⟩
  have r3:=(U.set p y).of_block (w':=J) (by rw[b0])
  exact Z y r3 (λq _ e=>by rw[yN e,yN e]) (yP rfl) hy b1
theorem EP{x:Int}(h:0<=x/\x<=1000000000000000):IntKind.i64.wrap x=x:=by rw[IntKind.wrap_i64];omega
theorem abG(b:Int)(a:zO)(len cap z:Nat)(rows:zL)(w:zW)(h1:1<=b)(h2:b<=6)(hr:len<=5)(hl:z<=60)(hd: ∀d∈rows,gZ b d=true)(c0: ∀d∈rows,d.length<=60)(hs:gT w a len rows):
  Calls prog 21 #[.int .i64 b,.slice a len cap,.int .i64 z] w (fH w (nP b z rows)):=by
 have hK:=dB b h2
 obtain⟨e9,c3⟩:=hK
 have HL:=aj hs.1
 have HS:=aj hs
 have f0:=aj c0
 have HK:=aj (λw=>nU b w h1 h2)
 have g7:=fO z (by omega)
 have d9:=aj (λwr=>@abE b z rows w wr h2 (by rw[hs.1];exact hr) hd hl)
 have c4:=aj (PW b h2 z rows (by rw[hs.1];exact hr) hd)
 have c5:=aj (TF b z rows)
 have f1:=aj (λk wr=>@YH b z rows w k wr)
 have e0:=aj (λk p wr=>@abF b z rows w k p wr)
 have c6:=aj (λk (hk:k<len)=>(BP b h2 z · _ (hd (rows.getD k []) (by rw[List.getD,List.getElem?_eq_getElem (by rw[hs.1];exact hk)];exact List.getElem_mem _))))
 have H0:Hid (KJ b z rows w 0 0 (w.alloc (.cells (madeCells #[.int .i64 0] z) 3))):=by refine⟨(World.rowIs_made w (.int .i64 0) z 3).congr λp hp=>?_,zb.alloc zr _⟩;rw[yN (by omega)];rfl
 clear hs hd c0
 generalize au b=K at e9 c3 HK c5 c6
 go_enter func21,ntmps21
 go_wp2
 generalize w.alloc (.cells (madeCells #[.int .i64 0] z) 3)=W at H0⊢
 go_loopw[16] (λi wx=> ∃k:Nat,k<=len/\i=.int .i64 k/\KJ b z rows w k 0 wx) (λi _=>len-(intOf i).toNat)
 case atStart=>exact⟨0,by omega,rfl,H0.out⟩
 case round=>
  obtain⟨k,hk,rfl,c7⟩:=hrel
  have U:=aj c7
  clear c7
  by_cases Z:k<len
  ·have e3:(k:Int)<(len:Int):=by omega
   obtain⟨bb,o,a2,g3,rfl,b1,f2⟩:=fP (aG HS.out U.out.2) k Z
   have e4:=f0.out (rows.getD k []) (by rw[List.getD,List.getElem?_eq_getElem (by rw[HL.out];exact Z)];exact List.getElem_mem _)
   have c8:Hid (∀W,Below w.heap.size w W->Sl W a2 (rows.getD k []).length (rows.getD k [])):=by intro W hW;obtain⟨g8,o',g9,g2,e1,b2,e5⟩:=fP HS.out k Z;cases e1;have:=b1;rw[U.out.2.cell (p:=⟨bb,o+k,none⟩) (zk w _ b2),b2]at this;injection this with this;injection this with e2;subst e2;exact aF e5 hW
   have b3:=aj (c5.out k (by rw[HL.out];exact Z))
   have e6:=aj (c4.out k (by rw[HL.out];omega))
   have g4:=aj (c4.out (k+1) (by rw[HL.out];omega))
   have b4:=aj (c6.out k Z)
   have e7:=aj (λwr=>f1.out k wr)
   have b9:=aj (λp wr=>e0.out k p wr)
   clear f2
   obtain⟨wo,c9⟩: ∃wo:zW,wo=wr:=⟨_,rfl⟩
   rw[<-c9]at b1 U⊢
   clear c9 wr
   generalize rows.getD k []=d at b1 e4 c8 b3 b4
   go_wp2
   go_loopw[21] (λi wx=> ∃p:Nat,p<=z/\i=.int .i64 p/\KJ b z rows w k p wx) (λi _=>z-(intOf i).toNat)
   case atStart=>exact⟨0,by omega,rfl,U.out⟩
   case round=>
    obtain⟨p,hp,rfl,d0⟩:=hrel
    have b5:=aj d0
    clear d0
    by_cases f3:p<z
    ·have e8:(p:Int)<(z:Int):=by omega
     obtain⟨hc,hf,b6⟩:=b9.out p wr b5.out f3
     have a7:=aj b6
     clear b6
     have f5:=e6.out p
     obtain⟨d1,f6⟩:=f5
     have J:=aj (b3.out p)
     have f7:=b4.out p
     obtain⟨d2,d3⟩:=f7
     generalize iw b z (rows.take k) p=v at hc d1 f6 J
     have d4:0<=v*K:=Int.mul_nonneg d1 (by omega)
     have d5:v*K<=7776*6:=Int.mul_le_mul (by omega) c3 (by omega) (by omega)
     go_wp2
     go_region_with (go_at_call 34;refine(HK.out _).mono ?_;rintro e w' ⟨rfl,hw⟩;rw[hw];clear hw w')
     all_goals
      rw[EP (by omega)]
      have a8:Hid (Below w.heap.size w (wr.setCell ⟨w.heap.size,p,none⟩ (.int .i64 (v*K))).drew):=(b5.out.2.setCell zr _).drew
      have b7:=aj (a7.out (.int .i64 (v*K)) (.int .i64 (v*K+gF z p d)) _ (show(wr.setCell ⟨w.heap.size,p,none⟩ (.int .i64 (v*K))).drew.heap=_ from rfl) a8.out)
      generalize(wr.setCell ⟨w.heap.size,p,none⟩ (.int .i64 (v*K))).drew=W2 at a8 b7⊢
      obtain⟨d6,i1,d7,d8⟩:=b7.out
      have b8:=aj d7
      have a1:=aj d8
      clear d7 d8 b7 a7 hc hf
      by_cases b0:z<=p+d.length
      ·obtain⟨m,hm⟩: ∃m:Nat,p+d.length=z+m:=⟨p+d.length-z,by omega⟩
       have i2:(p:Int)-(z:Int)+(d.length:Int)=(m:Int):=by omega
       have f8:m<d.length:=by omega
       have g5:(m:Int)<(d.length:Int):=by omega
       have a6:Hid (gF z p d=d.getD m 0):=by show _=_;unfold gF;rw[yP b0,hm,Nat.add_sub_cancel_left]
       obtain⟨bs,os,rfl,f9⟩:=bH (c8.out W2 a8.out) m f8
       rw[a6.out]at d2 d3 a1 J
       generalize d.getD m 0=x at f9 d2 d3 a1 J
       clear hm b0 a6
       generalize v*K=u at d4 d5 d6 a1 b8 J⊢
       go_wp2
       go_region
       all_goals go_wp2
       all_goals
        go_roundw
        case rel=>
         exact⟨p+1,by omega,by go_num,a1.out (W2.setCell ⟨w.heap.size,p,none⟩ (.int .i64 (u+x))).drew rfl ((a8.out.setCell zr _).drew) (by rw[J.out])⟩
        case measure=>simp[intOf];omega
      ·have g6:(p:Int)-(z:Int)+(d.length:Int)<0:=by omega
       have a6:Hid (gF z p d=0):=by show _=_;unfold gF;rw[yN b0]
       rw[a6.out,Int.add_zero]at J
       have g1:=aj (b8.out (by rw[J.out]))
       clear b0 a6 b8 a1 J
       generalize v*K=u at d4 d5 d6⊢
       go_wp2
       go_roundw
       case rel=>
        exact⟨p+1,by omega,by go_num,g1.out⟩
       case measure=>simp[intOf];omega
    ·have e8: ¬((p:Int)<(z:Int)):=by omega
     obtain rfl:p=z:=by omega
     have HE:=aj (e7.out wr b5.out)
     go_wp2
     go_roundw
     case rel=>exact⟨k+1,by omega,by go_num,HE.out⟩
     case measure=>simp[intOf];omega
  ·have e3: ¬((k:Int)<(len:Int)):=by omega
   obtain rfl:k=len:=by omega
   go_wp2
   go_ret
   exact d9.out wr (by rw[HL.out];exact U.out)
def iK(b:Int)(nums:zI):zL:=nums.map (oO b)
def nQ(rows:zL):Nat:=rows.foldl (λm d=>max m d.length) 0
def nA(b:Int)(nums:zI):zI:=nP b (nQ (iK b nums)) (iK b nums)
def lY(b:Int)(nums:zI):Int:=if aV b nums.length=0 then jl (nums.map (iQ b))else aV b nums.length
theorem kX(b:Int)(nums:zI):(iK b nums).length=nums.length:=by simp[iK]
theorem Lj(b:Int)(nums:zI)(i:Nat)(h:i<nums.length):(iK b nums).getD i []=oO b (nums.getD i 0):=by simp[iK,List.getD,h]
theorem TH(rows:zL)(d:zI):nQ (rows++[d])=max (nQ rows) d.length:=by simp[nQ,List.foldl_append]
theorem wV(b:Int)(nums:zI)(k:Nat)(h:k<nums.length):nQ ((iK b nums).take (k+1))=max (nQ ((iK b nums).take k)) (oO b (nums.getD k 0)).length:=by
 have z:k<(iK b nums).length:=by rw[kX];exact h
 rw[List.take_succ_eq_append_getElem z,TH];congr 2;simp[iK,List.getD,h]
theorem xK(b n:Int):(oO b n).length<=60:=by
 unfold oO;split
 ·exact GX b n
 ·simp
theorem Dy(b n:Int):gZ b (oO b n)=true:=by
 unfold oO;split
 ·rename_i h;exact GY b n h.1.1 h.1.2 h.2.1 h.2.2
 ·rfl
theorem Ic(b:Int)(nums:zI)(k:Nat)(J:k<=nums.length):nQ ((iK b nums).take k)<=60:=by
 induction k with
 |zero=>simp[nQ]
 |succ k z=>
  rw[wV b nums k (by omega)]
  have:=z (by omega)
  have:=xK b (nums.getD k 0)
  omega
def YI(b:Int)(nums:zI)(w:zW)(k:Nat)(wr:zW):Prop:=
 ∃V:Nat->Value,wr.rowIs w.heap.size 24 nums.length V/\(∀j,j<k-> ∃a cap,V j=.slice a (oO b (nums.getD j 0)).length cap/\Dl (w.heap.size+1) wr a (oO b (nums.getD j 0)).length (oO b (nums.getD j 0)))/\Below w.heap.size w wr
theorem YJ{b:Int}{nums:zI}{w wr w2:zW}{k:Nat}{a:zO}{cap:Nat}(h:YI b nums w k wr)(hk:k<nums.length)(hb:Below wr.heap.size wr w2)(hs:Dl wr.heap.size w2 a (oO b (nums.getD k 0)).length (oO b (nums.getD k 0))):
  ∃v,w2.cell? ⟨w.heap.size,k,none⟩=some v/\w2.frozen? ⟨w.heap.size,k,none⟩=false/\YI b nums w (k+1) (w2.setCell ⟨w.heap.size,k,none⟩ (.slice a (oO b (nums.getD k 0)).length cap)):=by
 obtain⟨V,h1,h2,h3⟩:=h
 have r:=h1.of_block (hb.block _ h1.lt)
 have J: ∀{a' z Z},Dl (w.heap.size+1) w2 a' z Z->Dl (w.heap.size+1) (w2.setCell ⟨w.heap.size,k,none⟩ (.slice a (oO b (nums.getD k 0)).length cap)) a' z Z:=λ{a' z Z} U=>⟨mZ U.1 (λx hx=>by obtain⟨_,ad,e,rfl⟩:=hx;have:=U.2 ad e;exact Below.heap_setCell _ _ _ _ (by simp;omega)),U.2⟩
 refine⟨V k,r.cell hk,r.frozen k,λj=>if j=k then .slice a (oO b (nums.getD k 0)).length cap else V j,r.set k _,λj hj=>?_,(ak h3 hb).setCell zr _⟩
 by_cases e:j=k
 ·subst e
  exact⟨a,cap,yP rfl,J (hs.mono h1.lt)⟩
 ·obtain⟨a',a1,e1,e2⟩:=h2 j (by omega)
  exact⟨a',a1,by simp only[yN e];exact e1,J ⟨aF e2.1 hb,e2.2⟩⟩
theorem abH{w wr:zW}(U:nums.length<=5)(h:YI b nums w nums.length wr):gT wr (some ⟨w.heap.size,0,none⟩) nums.length (iK b nums):=by obtain⟨V,h1,h2,h3⟩:=h;refine⟨kX _ _,by unfold maxLen;omega,Or.inr ⟨w.heap.size,0,rfl,λi hi=>?_⟩⟩;obtain⟨a,cap,z,J⟩:=h2 i hi;rw[Lj _ _ _ hi,Nat.zero_add,h1.cell hi];exact⟨a,cap,by rw[z],J.1⟩
def ER(b:Int)(nums:zI)(w:zW)(e:Ending)(w':zW):Prop:=Pf w (if lY b nums=0 then nA b nums else[]) (bC (lY b nums)) e w'
theorem YK(b:Int)(a:zO)(len cap:Nat)(w:zW)(J:aV b len≠0):
  Calls prog 8 #[.int .i64 b,.slice a len cap] w λe w'=>e=.returned (.tuple #[.slice none 0 0,bC (aV b len)])/\w'=w:=by
 have z:=aj (mY b len w)
 rw[kC J]at z⊢
 generalize aV b len=c at z⊢
 generalize aD b len=M at z
 clear J
 go_enter func8,ntmps8
 go_wp2_with (go_at_call 19;refine z.out.mono ?_;rintro e w' ⟨rfl,U⟩;rw[U];clear U w')
 go_ret2
 exact⟨by simp,rfl⟩
theorem afU(b:Int)(a:zO)(len cap:Nat)(nums:zI)(w:zW)(hM:aV b len=0)(hs:Sl w a len nums):
  Calls prog 8 #[.int .i64 b,.slice a len cap] w (ER b nums w):=by
 obtain⟨h1,h2,h3,h4,_,_⟩:=bA hM
 have hn:len<=5:=by omega
 have HL:=aj hs.1
 have HS:=aj hs
 have b0:=aj (mY b len w)
 rw[hM,cu]at b0
 generalize aD b len=M at b0
 have d6:=Li len (by omega)
 have b8:=aj (λwr w2 k a cap=>@YJ b nums w wr w2 k a cap)
 have c7:=aj (wV b nums)
 have c8:=aj (Ic b nums)
 have c9:=aj (xK b)
 have b9:Hid (∀wr,YI b nums w len wr->Calls prog 21 #[.int .i64 b,.slice (some ⟨w.heap.size,0,none⟩) len len,.int .i64 (nQ (iK b nums):Nat)] wr (fH wr (nA b nums))):=by
  intro wr h;have hL:=hs.1;subst hL;refine abG b _ _ _ _ (iK b nums) wr h1 h2 hn ?_ ?_ ?_ (abH hn h)
  ·have:=Ic b nums nums.length zr;rw[List.take_of_length_le (by rw[kX];omega)]at this;exact this
  ·intro d U;simp only[iK,List.mem_map]at U;obtain⟨x,_,rfl⟩:=U;exact Dy b x
  ·intro d U;simp only[iK,List.mem_map]at U;obtain⟨x,_,rfl⟩:=U;exact xK b x
 have H0:Hid (YI b nums w 0 (w.alloc (.cells (madeCells #[.slice none 0 0] len) 24))):=by refine⟨_,by rw[hs.1];exact World.rowIs_made w _ len _,λj hj=>by omega,zb.alloc zr _⟩
 have d0:Hid ((∀j,j<len->iQ b (nums.getD j 0)=0)-> ∀e w',Pf w (nA b nums) .nilIface e w'->ER b nums w e w'):=by
  intro h e w' hg;have:lY b nums=0:=by unfold lY;rw[hs.1,yP hM];refine qQ _ λj hj=>?_;have c0:j<nums.length:=(by simpa using hj);have:=h j (by rw[<-hs.1];exact c0);simpa[List.getD,c0]using this
  unfold ER;rw[this,yP rfl,cu];exact hg
 have d1:Hid (∀k,k<len->(∀j,j<k->iQ b (nums.getD j 0)=0)->iQ b (nums.getD k 0)≠0-> ∀w',Below w.heap.size w w'->ER b nums w (.returned (.tuple #[.slice none 0 0,bC (iQ b (nums.getD k 0))])) w'):=by
  intro k hk h b1 w' hb;have b4:k<nums.length:=by rw[hs.1];exact hk
  have hg: ∀j,j<nums.length->(nums.map (iQ b)).getD j 0=iQ b (nums.getD j 0):=λj hj=>by simp[List.getD,hj]
  have:lY b nums=iQ b (nums.getD k 0):=by unfold lY;rw[hs.1,yP hM,vH (nums.map (iQ b)) k (λj hj=>by rw[hg j (by omega)];exact h j hj) (by simpa using b4) (by rw[hg k b4];exact b1),hg k b4]
  unfold ER;rw[this,yN b1];exact PX _ _ _ hb
 clear hs hM
 go_enter func8,ntmps8
 go_wp2_with (go_at_call 19;refine b0.out.mono ?_;rintro e w' ⟨rfl,hw⟩;rw[hw];clear hw w')
 generalize w.alloc (.cells (madeCells #[.slice none 0 0] len) 24)=W at H0⊢
 clear b0
 go_loopw[9,29] (λs i wx=> ∃k:Nat,k<=len/\i=.int .i64 k/\s=.int .i64 (nQ ((iK b nums).take k):Nat)/\(∀j,j<k->iQ b (nums.getD j 0)=0)/\YI b nums w k wx) (λ_ i _=>len-(intOf i).toNat)
 case atStart=>exact⟨0,by omega,rfl,rfl,by omega,H0.out⟩
 case round=>
  obtain⟨k,hk,rfl,rfl,U,b5⟩:=hrel
  have HD:=aj U
  have c3:=aj b5
  have b2:Hid (Below w.heap.size w wr):=by obtain⟨_,_,_,h⟩:=b5;exact h
  clear U b5
  have b6:=c8.out k (by rw[HL.out];exact hk)
  by_cases b3:k<len
  ·have c5:(k:Int)<(len:Int):=by omega
   obtain⟨bb,o,rfl,b1⟩:=bH (aF HS.out b2.out) k b3
   have a6:=aj (c7.out k (by rw[HL.out];exact b3))
   have a7:=aj (λw2 a cap=>b8.out wr w2 k a cap c3.out (by rw[HL.out];exact b3))
   have d2:=c9.out (nums.getD k 0)
   have z:=aj (d1.out k b3 HD.out)
   have HX:Hid (iQ b (nums.getD k 0)=0-> ∀j,j<k+1->iQ b (nums.getD j 0)=0):=by
    intro h j hj;by_cases e:j=k
    ·subst e;exact h
    ·exact HD.out j (by omega)
   have Z:=aj (ajE b (nums.getD k 0) wr)
   generalize iQ b (nums.getD k 0)=c at z HX Z
   generalize d3:oO b (nums.getD k 0)=dl at a6 a7 d2 Z
   clear d3
   generalize nums.getD k 0=x at b1 Z
   generalize nQ ((iK b nums).take k)=L at b6 a6⊢
   go_wp2_with fail
   refine Z.out.mono ?_
   rintro e w2 ⟨a2,a8,rfl,a1,J⟩
   obtain⟨v,d7,d8,c4⟩:=a7.out w2 a2 a8 J a1
   have d4:=aj c4
   have d5:=aj (ak b2.out J)
   clear c4 J a1 Z a7
   by_cases hc:c=0
   ·replace HX:=aj (HX.out hc)
    subst hc
    rw[cu]
    go_wp2
    go_roundw
    case rel=>exact⟨k+1,by omega,by go_num,by rw[a6.out];congr 1;split<;>omega,HX.out,d4.out⟩
    case measure=>simp[intOf];omega
   ·replace z:=aj (z.out hc)
    rw[kC hc]at z⊢
    clear hc HX
    go_wp2
    go_ret2
    exact z.out _ d5.out
  ·have c5: ¬((k:Int)<(len:Int)):=by omega
   obtain rfl:k=len:=by omega
   have c6:Hid ((iK b nums).take k=iK b nums):=List.take_of_length_le (by rw[kX,HL.out];omega)
   rw[c6.out]at b6⊢
   have b7:=aj (b9.out wr c3.out)
   generalize nQ (iK b nums)=L at b6 b7⊢
   go_wp2_with fail
   refine b7.out.mono ?_
   rintro e w2 ⟨a2,a8,rfl,a1,J⟩
   have HF:=aj (d0.out HD.out _ _ ⟨a2,a8,rfl,a1.mono b2.out.size,ak b2.out J⟩)
   clear a1 J b7
   go_wp2
   go_ret2
   exact HF.out
theorem ah3(b:Int)(a:zO)(len cap:Nat)(nums:zI)(w:zW)(hs:Sl w a len nums):
  Calls prog 8 #[.int .i64 b,.slice a len cap] w (ER b nums w):=by
 by_cases z:aV b len=0
 ·exact afU b a len cap nums w z hs
 ·refine(YK b a len cap w z).mono ?_
  rintro e w' ⟨rfl,rfl⟩
  have hc:lY b nums=aV b len:=by unfold lY;rw[hs.1,yN z]
  unfold ER
  rw[hc,yN z]
  exact PX _ _ _ zb
theorem abI(b:Int)(h2:b<=6)(z:zI)(U: ∀j,j<z.length->0<=z.getD j 0/\z.getD j 0<au b)(j:Nat)(hj:j<=z.length):fF b z/pw (au b) j=fF b (z.take (z.length-j)):=by
 have Z:=dB b h2;induction j with
 |zero=>simp[pw]
 |succ j J=>
  have J:=J (by omega)
  rw[<-Td _ Z.1,J]
  obtain⟨m,hm⟩: ∃m,z.length-j=m+1:=⟨z.length-j-1,by omega⟩
  rw[hm,show z.length-(j+1)=m by omega,lM b z m (by omega)]
  have hx:=U m (by omega)
  rw[Int.add_comm,Int.add_mul_ediv_right _ _ (by omega),Int.ediv_eq_zero_of_lt hx.1 hx.2]
  omega
theorem Ie(b:Int)(h2:b<=6)(z:zI)(J: ∀j,j<z.length->0<=z.getD j 0/\z.getD j 0<au b)(i:Nat)(hi:i<z.length):pW b z.length (fF b z) i=z.getD i 0:=by have U:=dB b h2;unfold pW;rw[abI b h2 z J _ (by omega),show z.length-(z.length-1-i)=i+1 by omega,lM b z i hi];have hx:=J i hi;rw[Int.add_comm,Int.add_mul_emod_self_right,Int.emod_eq_of_lt hx.1 hx.2]
def xL(z:Nat)(d:zI):zI:=List.replicate (z-d.length) 0++d
theorem ET(z:Nat)(d:zI)(h:d.length<=z):(xL z d).length=z:=by simp[xL];omega
theorem PY(z:Nat)(d:zI)(h:d.length<=z)(p:Nat):(xL z d).getD p 0=gF z p d:=by
 unfold xL gF;by_cases e:z<=p+d.length
 ·rw[yP e,List.getD,List.getElem?_append_right (by simp;omega),List.length_replicate,List.getD];congr 2;omega
 ·rw[yN e,List.getD,List.getElem?_append_left (by simp;omega),List.getElem?_replicate,yP (by omega)];rfl
theorem uD(k:Nat)(d:zI):bI (List.replicate k 0++d)=bI d:=by
 induction k with
 |zero=>rfl
 |succ k z=>simp only[List.replicate_succ,List.cons_append];unfold bI at z⊢;simp[z]
theorem PZ(d:zI):iV (0::d)=iV d:=by
 cases d with
 |nil=>rfl
 |cons x r=>simp[iV]
theorem Ll(k:Nat)(d:zI):iV (List.replicate k 0++d)=iV d:=by
 induction k with
 |zero=>rfl
 |succ k z=>simp only[List.replicate_succ,List.cons_append];rw[PZ,z]
theorem TI(b:Int)(z:Nat)(d:zI):iF b (xL z d)=iF b d:=by unfold iF xL;rw[Ll]
theorem abJ(rows:zL): ∀d∈rows,d.length<=nQ rows:=by
 suffices h: ∀(n:Nat) (rows:zL),n<=rows.foldl (λm d=>max m d.length) n/\ ∀d∈rows,d.length<=rows.foldl (λm d=>max m d.length) n from(h 0 rows).2;intro n rows;induction rows generalizing n with
 |nil=>simp
 |cons c r J=>
  simp only[List.foldl_cons]
  have:=J (max n c.length)
  refine⟨by omega,λd z=>?_⟩
  rcases List.mem_cons.1 z with rfl|z
  ·omega
  ·exact this.2 d z
theorem Nq{α:Type}(f:zI->α)(z:α)(rows:zL)(i:Nat)(h:i<rows.length):(rows.map f).getD i z=f (rows.getD i []):=by simp[List.getD,h]
theorem TJ(b:Int)(h2:b<=6)(z:Nat)(rows:zL)(hd: ∀d∈rows,gZ b d=true)(hl: ∀d∈rows,d.length<=z)(i:Nat)(hi:i<rows.length):bR b rows.length (nP b z rows) i=xL z (rows.getD i []):=by
 have J:rows.getD i []∈rows:=by rw[List.getD,List.getElem?_eq_getElem hi];exact List.getElem_mem _
 apply Bu
 ·rw[oJ,jF,ET _ _ (hl _ J)]
 ·intro p U;rw[oJ,jF]at U;rw[GZ _ _ _ _ _ (by rw[jF];exact U),Lh _ _ _ _ U,PY _ _ (hl _ J)];unfold iw;have:=Ie b h2 (rows.map (gF z p)) (λj Z=>by rw[List.length_map]at Z;rw[Nq _ _ _ _ Z];exact BP b h2 z p _ (hd _ (by rw[List.getD,List.getElem?_eq_getElem Z];exact List.getElem_mem _))) i (by simpa using hi);rw[List.length_map]at this;rw[this,Nq _ _ _ _ hi]
theorem P5(h:lY b nums=0):aV b nums.length=0/\ ∀j,j<nums.length->iQ b (nums.getD j 0)=0:=by
 unfold lY at h;split at h
 ·rename_i J;refine⟨J,λj z=>?_⟩;have:=oP _ h j (by simpa using z);simpa[List.getD,z]using this
 ·contradiction
theorem Ar{n:Int}(h:iQ b n=0):((1<=b/\b<=6)/\0<=n/\n<=1099511627776)/\oO b n=zT b n:=by
 unfold iQ at h;split at h
 ·rename_i z;exact⟨z,by unfold oO;rw[yP z]⟩
 ·cases h
theorem FJ(b:Int)(nums:zI):(nA b nums).length<=60:=by unfold nA;rw[jF];have:=Ic b nums nums.length zr;rw[List.take_of_length_le (by rw[kX];omega)]at this;exact this
theorem YL(h2:b<=6)(nums:zI)(p:Nat):0<=iw b (nQ (iK b nums)) (iK b nums) p/\iw b (nQ (iK b nums)) (iK b nums) p<pw (au b) nums.length:=by have:=BA b h2 ((iK b nums).map (gF (nQ (iK b nums)) p)) nums.length (by simp[iK]) (λj z=>by rw[Nq _ _ _ _ (by rw[kX];exact z)];refine BP b h2 _ p _ ?_;rw[Lj _ _ _ z];exact Dy b _);rw[List.take_of_length_le (by simp[iK])]at this;exact this
theorem TK(h:lY b nums=0):VW b nums.length (nA b nums)=0:=by obtain⟨z,U⟩:=P5 h;obtain⟨h1,h2,h3,h4,h5,J⟩:=bA z;unfold VW;rw[yP z,yP (FJ b nums),yP];unfold afD;rw[List.all_eq_true];intro x hx;simp only[nA,nP,List.mem_map,List.mem_range]at hx;obtain⟨p,_,rfl⟩:=hx;rw[J,Int.toNat_natCast];have:=YL h2 nums p;simp[this]
theorem JH(w:zW)(t:TypeId)(l:zI)(hm:l.length<=maxLen)(z: ∀x∈l,(Lit.int .i64 x).wf=true):Sl (w.alloc (.cells (vw l) t)) (some ⟨w.heap.size,0,none⟩) l.length l:=by refine⟨rfl,hm,z,Or.inr ⟨_,_,rfl,λi hi=>?_⟩⟩;rw[cell_of_row _ _ (0+i) _ t (0,0) (zl w _),Nat.zero_add,tZ _ _ hi]
end Go.Proofs.YtfiknidoihlkfaaGreat
