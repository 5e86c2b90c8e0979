import Derived.Test.YtceojneljnnooaaGreatZNx
import Derived.Deep.RegionWith
open Go.Proofs.Tryz
namespace Go.Proofs.YtceojneljnnooaaGreat
open Go.RowKit
set_option maxHeartbeats 0
set_option maxRecDepth 100000
set_option linter.all false
variable{nums:zI}{b:Int}
def gD(z p:Nat)(d:zI):Int:=if z<=p+d.length then d.getD (p+d.length-z) 0 else 0
def iw(b:Int)(z:Nat)(rows:zL)(p:Nat):Int:=fF b (rows.map (gD z p))
def nQ(b:Int)(z:Nat)(rows:zL):zI:=(List.range z).map (iw b z rows)
theorem jG(b:Int)(z:Nat)(rows:zL):(nQ b z rows).length=z:=by simp[nQ]
theorem Li(b:Int)(z:Nat)(rows:zL)(p:Nat)(h:p<z):(nQ b z rows).getD p 0=iw b z rows p:=by simp[nQ,List.getD,h]
theorem BR(b:Int)(h2:b<=6)(z p:Nat)(d:zI)(J:gZ b d=true):0<=gD z p d/\gD z p d<au b:=by
 have U:=dA b h2;unfold gD;split
 ·by_cases h:p+d.length-z<d.length
  ·exact KW J _ h
  ·have:d.getD (p+d.length-z) 0=0:=by rw[List.getD,List.getElem?_eq_none (by omega)];rfl
   omega
 ·omega
theorem PZ(b:Int)(h2:b<=6)(z:Nat)(rows:zL)(hr:rows.length<=5)(U: ∀d∈rows,gZ b d=true)(k:Nat)(Z:k<=rows.length)(p:Nat):0<=iw b z (rows.take k) p/\iw b z (rows.take k) p<7776:=by
 have hK:=dA b h2
 have h:=BF b h2 (rows.map (gD z p)) k (by simpa using Z) (λj hj=>by
  have J:j<rows.length:=by omega
  have:(rows.map (gD z p)).getD j 0=gD z p (rows[j]):=by simp[List.getD,J]
  rw[this];exact BR b h2 z p _ (U _ (List.getElem_mem J)))
 have hb:=aa5 (au b) hK.1 hK.2 k (by omega);unfold iw;rw[List.map_take];omega
theorem TI(b:Int)(z:Nat)(rows:zL)(k:Nat)(J:k<rows.length)(p:Nat):iw b z (rows.take (k+1)) p=iw b z (rows.take k) p*au b+gD z p (rows.getD k []):=by unfold iw;rw[List.take_succ_eq_append_getElem J,List.map_append];simp only[List.map_cons,List.map_nil];rw[Ap];simp[List.getD,J]
def KL(b:Int)(z:Nat)(rows:zL)(w:zW)(k p:Nat)(wr:zW):Prop:=
 wr.rowIs w.heap.size 3 z (λq=>.int .i64 (if q<p then iw b z (rows.take (k+1)) q else iw b z (rows.take k) q))/\Below w.heap.size w wr
theorem YJ{b:Int}{z:Nat}{rows:zL}{w:zW}{k:Nat}{wr:zW}(h:KL b z rows w k z wr):KL b z rows w (k+1) 0 wr:=
 ⟨h.1.congr λq J=>by rw[yP J,yN (by omega)],h.2⟩
theorem abE{b:Int}{z:Nat}{rows:zL}{w wr:zW}(h2:b<=6)(J:rows.length<=5)(U: ∀d∈rows,gZ b d=true)(Z:z<=60)(h:KL b z rows w rows.length 0 wr):
  fH w (nQ b z rows) (.returned (.slice (some ⟨w.heap.size,0,none⟩) z z)) wr:=by
 refine⟨some ⟨w.heap.size,0,none⟩,z,by rw[jG],⟨?_,λad e=>by cases e;exact zr⟩,h.2⟩
 rw[jG]
 refine ig (jG _ _ _) (by unfold maxLen;omega) (λx hx=>?_) (h.1.congr λi hi=>?_)
 ·simp only[nQ,List.mem_map,List.mem_range]at hx
  obtain⟨i,_,rfl⟩:=hx
  have:=PZ b h2 z rows J U rows.length zr i
  rw[List.take_of_length_le zr]at this
  exact Go.WalkArith.wf_i64 (by omega)
 ·rw[yN (by omega),Li _ _ _ _ hi,List.take_of_length_le zr]
theorem abF{b:Int}{z:Nat}{rows:zL}{w:zW}{k p:Nat}{wr:zW}(h:KL b z rows w k p wr)(hp:p<z):
  wr.cell? ⟨w.heap.size,p,none⟩=some (.int .i64 (iw b z (rows.take k) p))/\wr.frozen? ⟨w.heap.size,p,none⟩=false/\
  ∀x y W2,W2.heap=(wr.setCell ⟨w.heap.size,p,none⟩ x).heap->Below w.heap.size w W2->
   W2.cell? ⟨w.heap.size,p,none⟩=some x/\W2.frozen? ⟨w.heap.size,p,none⟩=false/\
   (x=.int .i64 (iw b z (rows.take (k+1)) p)->KL b z rows w k (p+1) W2)/\
   ∀J,J.heap=(W2.setCell ⟨w.heap.size,p,none⟩ y).heap->Below w.heap.size w J->y=.int .i64 (iw b z (rows.take (k+1)) p)->KL b z rows w k (p+1) J:=by
 have Z: ∀{W:zW} {f:Nat->Value} (v:Value),W.rowIs w.heap.size 3 z f->(∀q,q<z->q≠p->f q=.int .i64 (if q<p then iw b z (rows.take (k+1)) q else iw b z (rows.take k) q))->f p=v->v=.int .i64 (iw b z (rows.take (k+1)) p)->Below w.heap.size w W->KL b z rows w k (p+1) W:=by
  intro W f v a1 hq a2 hv hb;refine⟨a1.congr λq a6=>?_,hb⟩;by_cases e:q=p
  ·subst e;rw[a2,hv,yP (by omega)]
  ·rw[hq q a6 e]
   by_cases e2:q<p
   ·rw[yP e2,yP (by omega)]
   ·rw[yN e2,yN (by omega)]
 refine⟨?_,h.1.frozen p,λx y W2 a7 a8=>?_⟩
 ·rw[h.1.cell hp,yN (by omega)]
 ·have U:=(h.1.set p x).of_block (w':=W2) (by rw[a7])
  refine⟨by rw[U.cell hp,yP rfl],U.frozen p,λhx=>Z x U (λq _ e=>by rw[yN e]) (yP rfl) hx a8,λJ b0 b1 hy=>?_⟩
  have r3:=(U.set p y).of_block (w':=J) (by rw[b0])
  exact Z y r3 (λq _ e=>by rw[yN e,yN e]) (yP rfl) hy b1
theorem ER{x:Int}(h:0<=x/\x<=1000000000000000):IntKind.i64.wrap x=x:=by rw[IntKind.wrap_i64];omega
theorem abG(b:Int)(a:zO)(len cap z:Nat)(rows:zL)(w:zW)(h1:1<=b)(h2:b<=6)(hr:len<=5)(hl:z<=60)(hd: ∀d∈rows,gZ b d=true)(c0: ∀d∈rows,d.length<=60)(hs:gT w a len rows):
  Calls prog 21 #[.int .i64 b,.slice a len cap,.int .i64 z] w (fH w (nQ b z rows)):=by
 have hK:=dA b h2
 obtain⟨e9,c3⟩:=hK
 have HL:=aj hs.1
 have HS:=aj hs
 have f0:=aj c0
 have HK:=aj (λw=>mq b w h1 h2)
 have g7:=fO z (by omega)
 have d9:=aj (λwr=>@abE b z rows w wr h2 (by rw[hs.1];exact hr) hd hl)
 have c4:=aj (PZ b h2 z rows (by rw[hs.1];exact hr) hd)
 have c5:=aj (TI b z rows)
 have f1:=aj (λk wr=>@YJ b z rows w k wr)
 have e0:=aj (λk p wr=>@abF b z rows w k p wr)
 have c6:=aj (λk (hk:k<len)=>(BR b h2 z · _ (hd (rows.getD k []) (by rw[List.getD,List.getElem?_eq_getElem (by rw[hs.1];exact hk)];exact List.getElem_mem _))))
 have H0:Hid (KL b z rows w 0 0 (w.alloc (.cells (madeCells #[.int .i64 0] z) 3))):=by refine⟨(World.rowIs_made w (.int .i64 0) z 3).congr λp hp=>?_,zb.alloc zr _⟩;rw[yN (by omega)];rfl
 clear hs hd c0
 generalize au b=K at e9 c3 HK c5 c6
 go_enter func21,ntmps21
 go_wp2
 generalize w.alloc (.cells (madeCells #[.int .i64 0] z) 3)=W at H0⊢
 go_loopw[16] (λi wx=> ∃k:Nat,k<=len/\i=.int .i64 k/\KL b z rows w k 0 wx) (λi _=>len-(intOf i).toNat)
 case atStart=>exact⟨0,by omega,rfl,H0.out⟩
 case round=>
  obtain⟨k,hk,rfl,c7⟩:=hrel
  have U:=aj c7
  clear c7
  by_cases Z:k<len
  ·have e3:(k:Int)<(len:Int):=by omega
   obtain⟨bb,o,a2,g3,rfl,b1,f2⟩:=gF (aG HS.out U.out.2) k Z
   have e4:=f0.out (rows.getD k []) (by rw[List.getD,List.getElem?_eq_getElem (by rw[HL.out];exact Z)];exact List.getElem_mem _)
   have c8:Hid (∀W,Below w.heap.size w W->Sl W a2 (rows.getD k []).length (rows.getD k [])):=by intro W hW;obtain⟨g8,o',g9,g2,e1,b2,e5⟩:=gF HS.out k Z;cases e1;have:=b1;rw[U.out.2.cell (p:=⟨bb,o+k,none⟩) (zk w _ b2),b2]at this;injection this with this;injection this with e2;subst e2;exact aF e5 hW
   have b3:=aj (c5.out k (by rw[HL.out];exact Z))
   have e6:=aj (c4.out k (by rw[HL.out];omega))
   have g4:=aj (c4.out (k+1) (by rw[HL.out];omega))
   have b4:=aj (c6.out k Z)
   have e7:=aj (λwr=>f1.out k wr)
   have b9:=aj (λp wr=>e0.out k p wr)
   clear f2
   obtain⟨wo,c9⟩: ∃wo:zW,wo=wr:=⟨_,rfl⟩
   rw[<-c9]at b1 U⊢
   clear c9 wr
   generalize rows.getD k []=d at b1 e4 c8 b3 b4
   go_wp2
   go_loopw[21] (λi wx=> ∃p:Nat,p<=z/\i=.int .i64 p/\KL b z rows w k p wx) (λi _=>z-(intOf i).toNat)
   case atStart=>exact⟨0,by omega,rfl,U.out⟩
   case round=>
    obtain⟨p,hp,rfl,d0⟩:=hrel
    have b5:=aj d0
    clear d0
    by_cases f3:p<z
    ·have e8:(p:Int)<(z:Int):=by omega
     obtain⟨hc,hf,b6⟩:=b9.out p wr b5.out f3
     have a7:=aj b6
     clear b6
     have f5:=e6.out p
     obtain⟨d1,f6⟩:=f5
     have J:=aj (b3.out p)
     have f7:=b4.out p
     obtain⟨d2,d3⟩:=f7
     generalize iw b z (rows.take k) p=v at hc d1 f6 J
     have d4:0<=v*K:=Int.mul_nonneg d1 (by omega)
     have d5:v*K<=7776*6:=Int.mul_le_mul (by omega) c3 (by omega) (by omega)
     go_wp2
     go_region_with (go_at_call 34;refine(HK.out _).mono ?_;rintro e w' ⟨rfl,hw⟩;rw[hw];clear hw w')
     all_goals
      rw[ER (by omega)]
      have a8:Hid (Below w.heap.size w (wr.setCell ⟨w.heap.size,p,none⟩ (.int .i64 (v*K))).drew):=(b5.out.2.setCell zr _).drew
      have b7:=aj (a7.out (.int .i64 (v*K)) (.int .i64 (v*K+gD z p d)) _ (show(wr.setCell ⟨w.heap.size,p,none⟩ (.int .i64 (v*K))).drew.heap=_ from rfl) a8.out)
      generalize(wr.setCell ⟨w.heap.size,p,none⟩ (.int .i64 (v*K))).drew=W2 at a8 b7⊢
      obtain⟨d6,i1,d7,d8⟩:=b7.out
      have b8:=aj d7
      have a1:=aj d8
      clear d7 d8 b7 a7 hc hf
      by_cases b0:z<=p+d.length
      ·obtain⟨m,hm⟩: ∃m:Nat,p+d.length=z+m:=⟨p+d.length-z,by omega⟩
       have i2:(p:Int)-(z:Int)+(d.length:Int)=(m:Int):=by omega
       have f8:m<d.length:=by omega
       have g5:(m:Int)<(d.length:Int):=by omega
       have a6:Hid (gD z p d=d.getD m 0):=by show _=_;unfold gD;rw[yP b0,hm,Nat.add_sub_cancel_left]
       obtain⟨bs,os,rfl,f9⟩:=bH (c8.out W2 a8.out) m f8
       rw[a6.out]at d2 d3 a1 J
       generalize d.getD m 0=x at f9 d2 d3 a1 J
       clear hm b0 a6
       generalize v*K=u at d4 d5 d6 a1 b8 J⊢
       go_wp2
       go_region
       all_goals go_wp2
       all_goals
        go_roundw
        case rel=>
         exact⟨p+1,by omega,by go_num,a1.out (W2.setCell ⟨w.heap.size,p,none⟩ (.int .i64 (u+x))).drew rfl ((a8.out.setCell zr _).drew) (by rw[J.out])⟩
        case measure=>simp[intOf];omega
      ·have g6:(p:Int)-(z:Int)+(d.length:Int)<0:=by omega
       have a6:Hid (gD z p d=0):=by show _=_;unfold gD;rw[yN b0]
       rw[a6.out,Int.add_zero]at J
       have g1:=aj (b8.out (by rw[J.out]))
       clear b0 a6 b8 a1 J
       generalize v*K=u at d4 d5 d6⊢
       go_wp2
       go_roundw
       case rel=>
        exact⟨p+1,by omega,by go_num,g1.out⟩
       case measure=>simp[intOf];omega
    ·have e8: ¬((p:Int)<(z:Int)):=by omega
     obtain rfl:p=z:=by omega
     have HE:=aj (e7.out wr b5.out)
     go_wp2
     go_roundw
     case rel=>exact⟨k+1,by omega,by go_num,HE.out⟩
     case measure=>simp[intOf];omega
  ·have e3: ¬((k:Int)<(len:Int)):=by omega
   obtain rfl:k=len:=by omega
   go_wp2
   go_ret
   exact d9.out wr (by rw[HL.out];exact U.out)
def iK(b:Int)(nums:zI):zL:=nums.map (oO b)
def nR(rows:zL):Nat:=rows.foldl (λm d=>max m d.length) 0
def nC(b:Int)(nums:zI):zI:=nQ b (nR (iK b nums)) (iK b nums)
def lZ(b:Int)(nums:zI):Int:=if aU b nums.length=0 then jl (nums.map (iQ b))else aU b nums.length
theorem kX(b:Int)(nums:zI):(iK b nums).length=nums.length:=by simp[iK]
theorem Ll(b:Int)(nums:zI)(i:Nat)(h:i<nums.length):(iK b nums).getD i []=oO b (nums.getD i 0):=by simp[iK,List.getD,h]
theorem TK(rows:zL)(d:zI):nR (rows++[d])=max (nR rows) d.length:=by simp[nR,List.foldl_append]
theorem wT(b:Int)(nums:zI)(k:Nat)(h:k<nums.length):nR ((iK b nums).take (k+1))=max (nR ((iK b nums).take k)) (oO b (nums.getD k 0)).length:=by
 have z:k<(iK b nums).length:=by rw[kX];exact h
 rw[List.take_succ_eq_append_getElem z,TK];congr 2;simp[iK,List.getD,h]
theorem xK(b n:Int):(oO b n).length<=60:=by
 unfold oO;split
 ·exact GY b n
 ·simp
theorem Dz(b n:Int):gZ b (oO b n)=true:=by
 unfold oO;split
 ·rename_i h;exact GZ b n h.1.1 h.1.2 h.2.1 h.2.2
 ·rfl
theorem Ie(b:Int)(nums:zI)(k:Nat)(J:k<=nums.length):nR ((iK b nums).take k)<=60:=by
 induction k with
 |zero=>simp[nR]
 |succ k z=>
  rw[wT b nums k (by omega)]
  have:=z (by omega)
  have:=xK b (nums.getD k 0)
  omega
def YK(b:Int)(nums:zI)(w:zW)(k:Nat)(wr:zW):Prop:=
 ∃V:Nat->Value,wr.rowIs w.heap.size 24 nums.length V/\(∀j,j<k-> ∃a cap,V j=.slice a (oO b (nums.getD j 0)).length cap/\Dm (w.heap.size+1) wr a (oO b (nums.getD j 0)).length (oO b (nums.getD j 0)))/\Below w.heap.size w wr
theorem YL{b:Int}{nums:zI}{w wr w2:zW}{k:Nat}{a:zO}{cap:Nat}(h:YK b nums w k wr)(hk:k<nums.length)(hb:Below wr.heap.size wr w2)(hs:Dm wr.heap.size w2 a (oO b (nums.getD k 0)).length (oO b (nums.getD k 0))):
  ∃v,w2.cell? ⟨w.heap.size,k,none⟩=some v/\w2.frozen? ⟨w.heap.size,k,none⟩=false/\YK b nums w (k+1) (w2.setCell ⟨w.heap.size,k,none⟩ (.slice a (oO b (nums.getD k 0)).length cap)):=by
 obtain⟨V,h1,h2,h3⟩:=h
 have r:=h1.of_block (hb.block _ h1.lt)
 have J: ∀{a' z Z},Dm (w.heap.size+1) w2 a' z Z->Dm (w.heap.size+1) (w2.setCell ⟨w.heap.size,k,none⟩ (.slice a (oO b (nums.getD k 0)).length cap)) a' z Z:=λ{a' z Z} U=>⟨ng U.1 (λx hx=>by obtain⟨_,ad,e,rfl⟩:=hx;have:=U.2 ad e;exact Below.heap_setCell _ _ _ _ (by simp;omega)),U.2⟩
 refine⟨V k,r.cell hk,r.frozen k,λj=>if j=k then .slice a (oO b (nums.getD k 0)).length cap else V j,r.set k _,λj hj=>?_,(ak h3 hb).setCell zr _⟩
 by_cases e:j=k
 ·subst e
  exact⟨a,cap,yP rfl,J (hs.mono h1.lt)⟩
 ·obtain⟨a',a1,e1,e2⟩:=h2 j (by omega)
  exact⟨a',a1,by simp only[yN e];exact e1,J ⟨aF e2.1 hb,e2.2⟩⟩
theorem abH{w wr:zW}(U:nums.length<=5)(h:YK b nums w nums.length wr):gT wr (some ⟨w.heap.size,0,none⟩) nums.length (iK b nums):=by obtain⟨V,h1,h2,h3⟩:=h;refine⟨kX _ _,by unfold maxLen;omega,Or.inr ⟨w.heap.size,0,rfl,λi hi=>?_⟩⟩;obtain⟨a,cap,z,J⟩:=h2 i hi;rw[Ll _ _ _ hi,Nat.zero_add,h1.cell hi];exact⟨a,cap,by rw[z],J.1⟩
def ET(b:Int)(nums:zI)(w:zW)(e:Ending)(w':zW):Prop:=Pj w (if lZ b nums=0 then nC b nums else[]) (bC (lZ b nums)) e w'
theorem YM(b:Int)(a:zO)(len cap:Nat)(w:zW)(J:aU b len≠0):
  Calls prog 8 #[.int .i64 b,.slice a len cap] w λe w'=>e=.returned (.tuple #[.slice none 0 0,bC (aU b len)])/\w'=w:=by
 have z:=aj (lU b len w)
 rw[kD J]at z⊢
 generalize aU b len=c at z⊢
 generalize aD b len=M at z
 clear J
 go_enter func8,ntmps8
 go_wp2_with (go_at_call 19;refine z.out.mono ?_;rintro e w' ⟨rfl,U⟩;rw[U];clear U w')
 go_ret2
 exact⟨by simp,rfl⟩
theorem afW(b:Int)(a:zO)(len cap:Nat)(nums:zI)(w:zW)(hM:aU b len=0)(hs:Sl w a len nums):
  Calls prog 8 #[.int .i64 b,.slice a len cap] w (ET b nums w):=by
 obtain⟨h1,h2,h3,h4,_,_⟩:=bA hM
 have hn:len<=5:=by omega
 have HL:=aj hs.1
 have HS:=aj hs
 have b0:=aj (lU b len w)
 rw[hM,cB]at b0
 generalize aD b len=M at b0
 have d6:=Lj len (by omega)
 have b8:=aj (λwr w2 k a cap=>@YL b nums w wr w2 k a cap)
 have c7:=aj (wT b nums)
 have c8:=aj (Ie b nums)
 have c9:=aj (xK b)
 have b9:Hid (∀wr,YK b nums w len wr->Calls prog 21 #[.int .i64 b,.slice (some ⟨w.heap.size,0,none⟩) len len,.int .i64 (nR (iK b nums):Nat)] wr (fH wr (nC b nums))):=by
  intro wr h;have hL:=hs.1;subst hL;refine abG b _ _ _ _ (iK b nums) wr h1 h2 hn ?_ ?_ ?_ (abH hn h)
  ·have:=Ie b nums nums.length zr;rw[List.take_of_length_le (by rw[kX];omega)]at this;exact this
  ·intro d U;simp only[iK,List.mem_map]at U;obtain⟨x,_,rfl⟩:=U;exact Dz b x
  ·intro d U;simp only[iK,List.mem_map]at U;obtain⟨x,_,rfl⟩:=U;exact xK b x
 have H0:Hid (YK b nums w 0 (w.alloc (.cells (madeCells #[.slice none 0 0] len) 24))):=by refine⟨_,by rw[hs.1];exact World.rowIs_made w _ len _,λj hj=>by omega,zb.alloc zr _⟩
 have d0:Hid ((∀j,j<len->iQ b (nums.getD j 0)=0)-> ∀e w',Pj w (nC b nums) .nilIface e w'->ET b nums w e w'):=by
  intro h e w' hg;have:lZ b nums=0:=by unfold lZ;rw[hs.1,yP hM];refine qQ _ λj hj=>?_;have c0:j<nums.length:=(by simpa using hj);have:=h j (by rw[<-hs.1];exact c0);simpa[List.getD,c0]using this
  unfold ET;rw[this,yP rfl,cB];exact hg
 have d1:Hid (∀k,k<len->(∀j,j<k->iQ b (nums.getD j 0)=0)->iQ b (nums.getD k 0)≠0-> ∀w',Below w.heap.size w w'->ET b nums w (.returned (.tuple #[.slice none 0 0,bC (iQ b (nums.getD k 0))])) w'):=by
  intro k hk h b1 w' hb;have b4:k<nums.length:=by rw[hs.1];exact hk
  have hg: ∀j,j<nums.length->(nums.map (iQ b)).getD j 0=iQ b (nums.getD j 0):=λj hj=>by simp[List.getD,hj]
  have:lZ b nums=iQ b (nums.getD k 0):=by unfold lZ;rw[hs.1,yP hM,vH (nums.map (iQ b)) k (λj hj=>by rw[hg j (by omega)];exact h j hj) (by simpa using b4) (by rw[hg k b4];exact b1),hg k b4]
  unfold ET;rw[this,yN b1];exact P5 _ _ _ hb
 clear hs hM
 go_enter func8,ntmps8
 go_wp2_with (go_at_call 19;refine b0.out.mono ?_;rintro e w' ⟨rfl,hw⟩;rw[hw];clear hw w')
 generalize w.alloc (.cells (madeCells #[.slice none 0 0] len) 24)=W at H0⊢
 clear b0
 go_loopw[9,29] (λs i wx=> ∃k:Nat,k<=len/\i=.int .i64 k/\s=.int .i64 (nR ((iK b nums).take k):Nat)/\(∀j,j<k->iQ b (nums.getD j 0)=0)/\YK b nums w k wx) (λ_ i _=>len-(intOf i).toNat)
 case atStart=>exact⟨0,by omega,rfl,rfl,by omega,H0.out⟩
 case round=>
  obtain⟨k,hk,rfl,rfl,U,b5⟩:=hrel
  have HD:=aj U
  have c3:=aj b5
  have b2:Hid (Below w.heap.size w wr):=by obtain⟨_,_,_,h⟩:=b5;exact h
  clear U b5
  have b6:=c8.out k (by rw[HL.out];exact hk)
  by_cases b3:k<len
  ·have c5:(k:Int)<(len:Int):=by omega
   obtain⟨bb,o,rfl,b1⟩:=bH (aF HS.out b2.out) k b3
   have a6:=aj (c7.out k (by rw[HL.out];exact b3))
   have a7:=aj (λw2 a cap=>b8.out wr w2 k a cap c3.out (by rw[HL.out];exact b3))
   have d2:=c9.out (nums.getD k 0)
   have z:=aj (d1.out k b3 HD.out)
   have HX:Hid (iQ b (nums.getD k 0)=0-> ∀j,j<k+1->iQ b (nums.getD j 0)=0):=by
    intro h j hj;by_cases e:j=k
    ·subst e;exact h
    ·exact HD.out j (by omega)
   have Z:=aj (ajG b (nums.getD k 0) wr)
   generalize iQ b (nums.getD k 0)=c at z HX Z
   generalize d3:oO b (nums.getD k 0)=dl at a6 a7 d2 Z
   clear d3
   generalize nums.getD k 0=x at b1 Z
   generalize nR ((iK b nums).take k)=L at b6 a6⊢
   go_wp2_with fail
   refine Z.out.mono ?_
   rintro e w2 ⟨a2,a8,rfl,a1,J⟩
   obtain⟨v,d7,d8,c4⟩:=a7.out w2 a2 a8 J a1
   have d4:=aj c4
   have d5:=aj (ak b2.out J)
   clear c4 J a1 Z a7
   by_cases hc:c=0
   ·replace HX:=aj (HX.out hc)
    subst hc
    rw[cB]
    go_wp2
    go_roundw
    case rel=>exact⟨k+1,by omega,by go_num,by rw[a6.out];congr 1;split<;>omega,HX.out,d4.out⟩
    case measure=>simp[intOf];omega
   ·replace z:=aj (z.out hc)
    rw[kD hc]at z⊢
    clear hc HX
    go_wp2
    go_ret2
    exact z.out _ d5.out
  ·have c5: ¬((k:Int)<(len:Int)):=by omega
   obtain rfl:k=len:=by omega
   have c6:Hid ((iK b nums).take k=iK b nums):=List.take_of_length_le (by rw[kX,HL.out];omega)
   rw[c6.out]at b6⊢
   have b7:=aj (b9.out wr c3.out)
   generalize nR (iK b nums)=L at b6 b7⊢
   go_wp2_with fail
   refine b7.out.mono ?_
   rintro e w2 ⟨a2,a8,rfl,a1,J⟩
   have HF:=aj (d0.out HD.out _ _ ⟨a2,a8,rfl,a1.mono b2.out.size,ak b2.out J⟩)
   clear a1 J b7
   go_wp2
   go_ret2
   exact HF.out
theorem ah5(b:Int)(a:zO)(len cap:Nat)(nums:zI)(w:zW)(hs:Sl w a len nums):
  Calls prog 8 #[.int .i64 b,.slice a len cap] w (ET b nums w):=by
 by_cases z:aU b len=0
 ·exact afW b a len cap nums w z hs
 ·refine(YM b a len cap w z).mono ?_
  rintro e w' ⟨rfl,rfl⟩
  have hc:lZ b nums=aU b len:=by unfold lZ;rw[hs.1,yN z]
  unfold ET
  rw[hc,yN z]
  exact P5 _ _ _ zb
theorem abI(b:Int)(h2:b<=6)(z:zI)(U: ∀j,j<z.length->0<=z.getD j 0/\z.getD j 0<au b)(j:Nat)(hj:j<=z.length):fF b z/pw (au b) j=fF b (z.take (z.length-j)):=by
 have Z:=dA b h2;induction j with
 |zero=>simp[pw]
 |succ j J=>
  have J:=J (by omega)
  rw[<-Tg _ Z.1,J]
  obtain⟨m,hm⟩: ∃m,z.length-j=m+1:=⟨z.length-j-1,by omega⟩
  rw[hm,show z.length-(j+1)=m by omega,lM b z m (by omega)]
  have hx:=U m (by omega)
  rw[Int.add_comm,Int.add_mul_ediv_right _ _ (by omega),Int.ediv_eq_zero_of_lt hx.1 hx.2]
  omega
theorem Ig(b:Int)(h2:b<=6)(z:zI)(J: ∀j,j<z.length->0<=z.getD j 0/\z.getD j 0<au b)(i:Nat)(hi:i<z.length):pW b z.length (fF b z) i=z.getD i 0:=by have U:=dA b h2;unfold pW;rw[abI b h2 z J _ (by omega),show z.length-(z.length-1-i)=i+1 by omega,lM b z i hi];have hx:=J i hi;rw[Int.add_comm,Int.add_mul_emod_self_right,Int.emod_eq_of_lt hx.1 hx.2]
def xL(z:Nat)(d:zI):zI:=List.replicate (z-d.length) 0++d
theorem EU(z:Nat)(d:zI)(h:d.length<=z):(xL z d).length=z:=by simp[xL];omega
theorem P6(z:Nat)(d:zI)(h:d.length<=z)(p:Nat):(xL z d).getD p 0=gD z p d:=by
 unfold xL gD;by_cases e:z<=p+d.length
 ·rw[yP e,List.getD,List.getElem?_append_right (by simp;omega),List.length_replicate,List.getD];congr 2;omega
 ·rw[yN e,List.getD,List.getElem?_append_left (by simp;omega),List.getElem?_replicate,yP (by omega)];rfl
theorem uF(k:Nat)(d:zI):bI (List.replicate k 0++d)=bI d:=by
 induction k with
 |zero=>rfl
 |succ k z=>simp only[List.replicate_succ,List.cons_append];unfold bI at z⊢;simp[z]
theorem P7(d:zI):iV (0::d)=iV d:=by
 cases d with
 |nil=>rfl
 |cons x r=>simp[iV]
theorem Lm(k:Nat)(d:zI):iV (List.replicate k 0++d)=iV d:=by
 induction k with
 |zero=>rfl
 |succ k z=>simp only[List.replicate_succ,List.cons_append];rw[P7,z]
theorem TL(b:Int)(z:Nat)(d:zI):iF b (xL z d)=iF b d:=by unfold iF xL;rw[Lm]
theorem abJ(rows:zL): ∀d∈rows,d.length<=nR rows:=by
 suffices h: ∀(n:Nat) (rows:zL),n<=rows.foldl (λm d=>max m d.length) n/\ ∀d∈rows,d.length<=rows.foldl (λm d=>max m d.length) n from(h 0 rows).2;intro n rows;induction rows generalizing n with
 |nil=>simp
 |cons c r J=>
  simp only[List.foldl_cons]
  have:=J (max n c.length)
  refine⟨by omega,λd z=>?_⟩
  rcases List.mem_cons.1 z with rfl|z
  ·omega
  ·exact this.2 d z
theorem Ns{α:Type}(f:zI->α)(z:α)(rows:zL)(i:Nat)(h:i<rows.length):(rows.map f).getD i z=f (rows.getD i []):=by simp[List.getD,h]
theorem TM(b:Int)(h2:b<=6)(z:Nat)(rows:zL)(hd: ∀d∈rows,gZ b d=true)(hl: ∀d∈rows,d.length<=z)(i:Nat)(hi:i<rows.length):bT b rows.length (nQ b z rows) i=xL z (rows.getD i []):=by
 have J:rows.getD i []∈rows:=by rw[List.getD,List.getElem?_eq_getElem hi];exact List.getElem_mem _
 apply Bw
 ·rw[oJ,jG,EU _ _ (hl _ J)]
 ·intro p U;rw[oJ,jG]at U;rw[He _ _ _ _ _ (by rw[jG];exact U),Li _ _ _ _ U,P6 _ _ (hl _ J)];unfold iw;have:=Ig b h2 (rows.map (gD z p)) (λj Z=>by rw[List.length_map]at Z;rw[Ns _ _ _ _ Z];exact BR b h2 z p _ (hd _ (by rw[List.getD,List.getElem?_eq_getElem Z];exact List.getElem_mem _))) i (by simpa using hi);rw[List.length_map]at this;rw[this,Ns _ _ _ _ hi]
theorem P8(h:lZ b nums=0):aU b nums.length=0/\ ∀j,j<nums.length->iQ b (nums.getD j 0)=0:=by
 unfold lZ at h;split at h
 ·rename_i J;refine⟨J,λj z=>?_⟩;have:=oP _ h j (by simpa using z);simpa[List.getD,z]using this
 ·contradiction
theorem Au{n:Int}(h:iQ b n=0):((1<=b/\b<=6)/\0<=n/\n<=1099511627776)/\oO b n=zU b n:=by
 unfold iQ at h;split at h
 ·rename_i z;exact⟨z,by unfold oO;rw[yP z]⟩
 ·cases h
theorem FJ(b:Int)(nums:zI):(nC b nums).length<=60:=by unfold nC;rw[jG];have:=Ie b nums nums.length zr;rw[List.take_of_length_le (by rw[kX];omega)]at this;exact this
theorem YN(h2:b<=6)(nums:zI)(p:Nat):0<=iw b (nR (iK b nums)) (iK b nums) p/\iw b (nR (iK b nums)) (iK b nums) p<pw (au b) nums.length:=by have:=BF b h2 ((iK b nums).map (gD (nR (iK b nums)) p)) nums.length (by simp[iK]) (λj z=>by rw[Ns _ _ _ _ (by rw[kX];exact z)];refine BR b h2 _ p _ ?_;rw[Ll _ _ _ z];exact Dz b _);rw[List.take_of_length_le (by simp[iK])]at this;exact this
theorem TN(h:lZ b nums=0):VZ b nums.length (nC b nums)=0:=by obtain⟨z,U⟩:=P8 h;obtain⟨h1,h2,h3,h4,h5,J⟩:=bA z;unfold VZ;rw[yP z,yP (FJ b nums),yP];unfold afF;rw[List.all_eq_true];intro x hx;simp only[nC,nQ,List.mem_map,List.mem_range]at hx;obtain⟨p,_,rfl⟩:=hx;rw[J,Int.toNat_natCast];have:=YN h2 nums p;simp[this]
theorem JI(w:zW)(t:TypeId)(l:zI)(hm:l.length<=maxLen)(z: ∀x∈l,(Lit.int .i64 x).wf=true):Sl (w.alloc (.cells (vC l) t)) (some ⟨w.heap.size,0,none⟩) l.length l:=by refine⟨rfl,hm,z,Or.inr ⟨_,_,rfl,λi hi=>?_⟩⟩;rw[cell_of_row _ _ (0+i) _ t (0,0) (zl w _),Nat.zero_add,ug _ _ hi]
end Go.Proofs.YtceojneljnnooaaGreat
