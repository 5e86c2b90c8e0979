import Derived.Test.YtceojneljnnooaaGreatZKm
import Derived.Test.YtceojneljnnooaaGreatZPvg
open Go.Proofs.Tryz
namespace Go.Proofs.YtceojneljnnooaaGreat
open Go.RowKit
set_option maxHeartbeats 0
set_option maxRecDepth 100000
set_option linter.all false
theorem CJ(op:Int)(w:zW):Calls prog 28 #[.int .i64 op] w λe w'=>e=.returned (.int .i64 ((gQ op:Nat):Int))/\w'=w:=by
 by_cases h5:op=5
 ·subst h5;go_enter func28,ntmps28;go_wp2;go_ret;exact⟨rfl,rfl⟩
 by_cases z:op=8
 ·subst z;go_enter func28,ntmps28;go_wp2;go_ret;exact⟨rfl,rfl⟩
 by_cases J:op=9
 ·subst J;go_enter func28,ntmps28;go_wp2;go_ret;exact⟨rfl,rfl⟩
 by_cases U:op=6
 ·subst U;go_enter func28,ntmps28;go_wp2;go_ret;exact⟨rfl,rfl⟩
 by_cases Z:op=7
 ·subst Z;go_enter func28,ntmps28;go_wp2;go_ret;exact⟨rfl,rfl⟩
 have hp:gQ op=0:=by unfold gQ;rw[yN (by omega),yN (by omega)]
 rw[hp];have e5:(op==5)=false:=by simpa using h5
 have e6:(op==6)=false:=by simpa using U
 have e7:(op==7)=false:=by simpa using Z
 have e8:(op==8)=false:=by simpa using z
 have e9:(op==9)=false:=by simpa using J
 clear h5 U Z z J hp;go_enter func28,ntmps28;go_wp2;go_ret;exact⟨rfl,rfl⟩
theorem Mr(op:Int)(w:zW):Calls prog 14 #[.int .i64 op] w λe w'=>e=.returned (.bool (decide (op=8\/op=9)))/\w'=w:=by
 by_cases z:op=8
 ·subst z;go_enter func14,ntmps14;go_wp2;go_ret;exact⟨rfl,rfl⟩
 have Z:(op==8)=false:=by simpa using z
 by_cases J:op=9
 ·subst J;clear Z z;go_enter func14,ntmps14;go_wp2;go_ret;exact⟨rfl,rfl⟩
 have e9:(op==9)=false:=by simpa using J
 have U:=aj (yF (show¬(op=8\/op=9)by omega));generalize decide (op=8\/op=9)=R at U⊢;clear z J;go_enter func14,ntmps14;go_wp2;go_ret;exact⟨by rw[U.out];rfl,rfl⟩
theorem Ms(v:Int)(w:zW):Calls prog 75 #[.int .i64 v] w λe w'=>e=.returned (.bool (decide (0<=v/\v<5)))/\w'=w:=by
 by_cases h0:v≥0
 ·by_cases h5:v<5
  ·have z:=aj (yT (show 0<=v/\v<5 by omega));generalize decide (0<=v/\v<5)=R at z⊢;go_enter func75,ntmps75;go_wp2;go_ret;exact⟨by rw[z.out];rfl,rfl⟩
  ·have z:=aj (yF (show¬(0<=v/\v<5)by omega));generalize decide (0<=v/\v<5)=R at z⊢;go_enter func75,ntmps75;go_wp2;go_ret;exact⟨by rw[z.out];rfl,rfl⟩
 ·have z:=aj (yF (show¬(0<=v/\v<5)by omega));generalize decide (0<=v/\v<5)=R at z⊢;go_enter func75,ntmps75;go_wp2;go_ret;exact⟨by rw[z.out];rfl,rfl⟩
theorem Jw(v:Int)(w:zW):Calls prog 74 #[.int .i64 v] w λe w'=>e=.returned (.bool (decide (0<=v/\v<3)))/\w'=w:=by
 by_cases h0:v≥0
 ·by_cases h5:v<3
  ·have z:=aj (yT (show 0<=v/\v<3 by omega));generalize decide (0<=v/\v<3)=R at z⊢;go_enter func74,ntmps74;go_wp2;go_ret;exact⟨by rw[z.out];rfl,rfl⟩
  ·have z:=aj (yF (show¬(0<=v/\v<3)by omega));generalize decide (0<=v/\v<3)=R at z⊢;go_enter func74,ntmps74;go_wp2;go_ret;exact⟨by rw[z.out];rfl,rfl⟩
 ·have z:=aj (yF (show¬(0<=v/\v<3)by omega));generalize decide (0<=v/\v<3)=R at z⊢;go_enter func74,ntmps74;go_wp2;go_ret;exact⟨by rw[z.out];rfl,rfl⟩
def rO(n:Nd):Prop:=n.var=0/\n.gV=0/\n.wd=0/\n.wd2=0/\n.num=0/\n.cf.length=0
instance (n:Nd):Decidable (rO n):=by unfold rO;exact inferInstance
theorem Ra(n:Nd)(a:zO)(c:Nat)(w:zW):Calls prog 49 #[Bu n a c] w λe w'=>e=.returned (.bool (decide (rO n)))/\Below w.heap.size w w':=by
 have HB:=aj ((Below.refl w.heap.size w).alloc zr (lK n a c));obtain⟨⟨p0,p1,p2,p3,p4,p5,p6⟩,-⟩:=bU (zl w (lK n a c));have HE:Hid (rO n↔n.var=0/\n.gV=0/\n.wd=0/\n.wd2=0/\n.num=0/\n.cf.length=0):=Iff.rfl;unfold Bu;generalize b2:w.alloc (lK n a c)=W1 at HB p0 p1 p2 p3 p4 p5 p6
 have U:Hid (∀b:Bool,(b=true↔(n.var=0/\n.gV=0/\n.wd=0/\n.wd2=0/\n.num=0/\n.cf.length=0))->decide (rO n)=b):=λb h=>by
  cases b with
  |true=>exact yT (HE.out.2 (h.1 rfl))
  |false=>exact yF (λhq=>by have:=h.2 (HE.out.1 hq);cases this)
 clear HE;generalize decide (rO n)=R at U⊢;by_cases z:n.var=0
 ·have a6:(n.var==0)=true:=by simp[z]
  by_cases J:n.gV=0
  ·have a7:(n.gV==0)=true:=by simp[J]
   by_cases a1:n.wd=0
   ·have b1:(n.wd==0)=true:=by simp[a1]
    by_cases Z:n.wd2=0
    ·have a8:(n.wd2==0)=true:=by simp[Z]
     by_cases a2:n.num=0
     ·have b0:(n.num==0)=true:=by simp[a2]
      by_cases hL:n.cf.length=0
      ·have eL:((n.cf.length:Int)==0)=true:=by simp[hL]
       have HR:=aj (U.out true ⟨λ_=>by omega,λ_=>rfl⟩);clear U z J a1 Z a2 hL;go_enter func49,ntmps49;go_wp2;go_ret;exact⟨by rw[HR.out];rfl,HB.out⟩
      ·have eL:((n.cf.length:Int)==0)=false:=by simp[hL]
       have HR:=aj (U.out false ⟨(λh=>by cases h),λh=>by omega⟩);clear U z J a1 Z a2 hL;go_enter func49,ntmps49;go_wp2;go_ret;exact⟨by rw[HR.out];rfl,HB.out⟩
     ·have b0:(n.num==0)=false:=by simp[a2]
      have HR:=aj (U.out false ⟨(λh=>by cases h),λh=>by omega⟩);clear U z J a1 Z a2;go_enter func49,ntmps49;go_wp2;go_ret;exact⟨by rw[HR.out];rfl,HB.out⟩
    ·have a8:(n.wd2==0)=false:=by simp[Z]
     have HR:=aj (U.out false ⟨(λh=>by cases h),λh=>by omega⟩);clear U z J a1 Z;go_enter func49,ntmps49;go_wp2;go_ret;exact⟨by rw[HR.out];rfl,HB.out⟩
   ·have b1:(n.wd==0)=false:=by simp[a1]
    have HR:=aj (U.out false ⟨(λh=>by cases h),λh=>by omega⟩);clear U z J a1;go_enter func49,ntmps49;go_wp2;go_ret;exact⟨by rw[HR.out];rfl,HB.out⟩
  ·have a7:(n.gV==0)=false:=by simp[J]
   have HR:=aj (U.out false ⟨(λh=>by cases h),λh=>by omega⟩);clear U z J;go_enter func49,ntmps49;go_wp2;go_ret;exact⟨by rw[HR.out];rfl,HB.out⟩
 ·have a6:(n.var==0)=false:=by simp[z]
  have HR:=aj (U.out false ⟨(λh=>by cases h),λh=>by omega⟩);clear U z;go_enter func49,ntmps49;go_wp2;go_ret;exact⟨by rw[HR.out];rfl,HB.out⟩
def unN(n:Nd):Nd:=if n.op=1\/n.op=2 then⟨n.op,n.var,n.gV,n.wd,n.wd2,0,[]⟩else if n.op=3 then⟨n.op,0,n.gV,0,n.wd2,0,n.cf⟩else if n.op=4 then⟨n.op,0,0,0,0,n.num,n.cf⟩else if n.op=8\/n.op=9 then⟨n.op,0,n.gV,n.wd,n.wd2,n.num,n.cf⟩else n
def unA(n:Nd)(a:zO):zO:=if n.op=1\/n.op=2 then none else a
def unK(n:Nd)(c:Nat):Nat:=if n.op=1\/n.op=2 then 0 else c
theorem UD(n:Nd)(a:zO)(c:Nat)(w:zW):Calls prog 50 #[Bu n a c] w λe w'=>e=.returned (Bu (unN n) (unA n a) (unK n c))/\Below w.heap.size w w':=by
 obtain⟨op,var,gV,wd,wd2,num,cf⟩:=n;unfold Bu;simp only;by_cases h1:op=1
 ·subst h1;go_enter func50,ntmps50;go_wp2;exact bodyPost_ret (v:=.agg #[.int .i64 1,.int .i64 var,.int .i64 gV,.int .i64 wd,.int .i64 wd2,.int .i64 0,.slice none 0 0]) (by simp[results,results50,go_sem]) rfl ⟨rfl,bG _ _ _⟩
 by_cases h2:op=2
 ·subst h2;go_enter func50,ntmps50;go_wp2;exact bodyPost_ret (v:=.agg #[.int .i64 2,.int .i64 var,.int .i64 gV,.int .i64 wd,.int .i64 wd2,.int .i64 0,.slice none 0 0]) (by simp[results,results50,go_sem]) rfl ⟨rfl,bG _ _ _⟩
 by_cases h3:op=3
 ·subst h3;go_enter func50,ntmps50;go_wp2;exact bodyPost_ret (v:=.agg #[.int .i64 3,.int .i64 0,.int .i64 gV,.int .i64 0,.int .i64 wd2,.int .i64 0,.slice a cf.length c]) (by simp[results,results50,go_sem]) rfl ⟨rfl,bG _ _ _⟩
 by_cases h4:op=4
 ·subst h4;go_enter func50,ntmps50;go_wp2;exact bodyPost_ret (v:=.agg #[.int .i64 4,.int .i64 0,.int .i64 0,.int .i64 0,.int .i64 0,.int .i64 num,.slice a cf.length c]) (by simp[results,results50,go_sem]) rfl ⟨rfl,bG _ _ _⟩
 by_cases z:op=8
 ·subst z;go_enter func50,ntmps50;go_wp2;exact bodyPost_ret (v:=.agg #[.int .i64 8,.int .i64 0,.int .i64 gV,.int .i64 wd,.int .i64 wd2,.int .i64 num,.slice a cf.length c]) (by simp[results,results50,go_sem]) rfl ⟨rfl,bG _ _ _⟩
 by_cases J:op=9
 ·subst J;go_enter func50,ntmps50;go_wp2;exact bodyPost_ret (v:=.agg #[.int .i64 9,.int .i64 0,.int .i64 gV,.int .i64 wd,.int .i64 wd2,.int .i64 num,.slice a cf.length c]) (by simp[results,results50,go_sem]) rfl ⟨rfl,bG _ _ _⟩
 have e1:(op==1)=false:=by simpa using h1
 have e2:(op==2)=false:=by simpa using h2
 have e3:(op==3)=false:=by simpa using h3
 have e4:(op==4)=false:=by simpa using h4
 have e8:(op==8)=false:=by simpa using z
 have e9:(op==9)=false:=by simpa using J
 have hu:unN ⟨op,var,gV,wd,wd2,num,cf⟩=⟨op,var,gV,wd,wd2,num,cf⟩:=by unfold unN;simp only;rw[yN (by omega),yN h3,yN h4,yN (by omega)]
 have U:unA ⟨op,var,gV,wd,wd2,num,cf⟩ a=a:=by unfold unA;simp only;rw[yN (by omega)]
 have Z:unK ⟨op,var,gV,wd,wd2,num,cf⟩ c=c:=by unfold unK;simp only;rw[yN (by omega)]
 rw[hu,U,Z];clear hu U Z h1 h2 h3 h4 z J;go_enter func50,ntmps50;go_wp2;exact bodyPost_ret (v:=.agg #[.int .i64 op,.int .i64 var,.int .i64 gV,.int .i64 wd,.int .i64 wd2,.int .i64 num,.slice a cf.length c]) (by simp[results,results50,go_sem]) rfl ⟨rfl,bG _ _ _⟩
theorem Rb(n:Nd)(a:zO)(c:Nat)(w:zW)(hs:Sl w a n.cf.length n.cf):Calls prog 48 #[Bu n a c] w λe w'=>e=.returned (.bool (decide (Zi n)))/\Below w.heap.size w w':=by
 have HB:=aj ((Below.refl w.heap.size w).alloc zr (lK n a c));obtain⟨⟨p0,p1,p2,p3,p4,p5,p6⟩,-⟩:=bU (zl w (lK n a c));have b7:=aF hs HB.out
 have U:Hid (∀b:Bool,(b=true↔(1<=n.op/\n.op<=9)/\((n.op=3\/n.op=4\/n.op=8\/n.op=9)->0<=n.var/\n.var<5)/\(n.op=4->0<=n.gV/\n.gV<5)/\((n.op=3\/n.op=4)->0<=n.wd/\n.wd<3)/\(n.op=4->0<=n.wd2/\n.wd2<3)/\(n.op=3->0<=n.num/\n.num<=9)/\((n.op=1\/n.op=2)->n.cf.length<=5/\fT n.cf n.cf.length<=12/\ -60<=n.num/\n.num<=60))->decide (Zi n)=b):=λb h=>by
  cases b with
  |true=>exact yT (h.1 rfl)
  |false=>exact yF (λhq=>by have:=h.2 hq;cases this)
 have b0:Hid (n.cf.length<=5->Calls prog 53 #[.slice a n.cf.length c,.int .i64 n.num] (w.alloc (lK n a c)) λe w'=>e=.returned (bC (Q9 n.cf n.num))/\w'=w.alloc (lK n a c)):=λh5=>yE a n.cf.length c n.cf n.num _ b7 h5;have b1:Hid (Q9 n.cf n.num=if fT n.cf n.cf.length<=12/\ -60<=n.num/\n.num<=60 then 0 else 1):=rfl;have b8:=hs.2.1;unfold maxLen at b8;have a2:=aj (λW=>Jw n.wd W);have a7:=aj (λW=>Jw n.wd2 W);have a1:=aj (λW=>Ms n.var W);have a8:=aj (λW=>Ms n.gV W);unfold Bu;generalize b9:w.alloc (lK n a c)=W1 at HB p0 p1 p2 p3 p4 p5 p6 b7 b0;clear hs b7;generalize decide (Zi n)=R at U⊢;obtain⟨op,var,gV,wd,wd2,num,cf⟩:=n;simp only at p0 p1 p2 p3 p4 p5 p6 U b0 b1 b8 a2 a7 a1 a8 b9⊢;generalize fT cf cf.length=sz at U b1;generalize Q9 cf num=ck at b0 b1;by_cases b5:op=1\/op=2
 ·by_cases h5:(cf.length:Int)<=5
  ·have b3:=b1.out
   have HK:=aj (b0.out (by omega));clear b1 b0;by_cases b6:sz<=12/\ -60<=num/\num<=60
   ·rw[yP b6]at b3
    have Z:=aj (U.out true ⟨λ_=>by omega,λ_=>rfl⟩);rw[b3,show bC 0=.nilIface from rfl]at HK;clear U b3 b6;rcases b5 with rfl|rfl
    all_goals
     go_enter func48,ntmps48;go_wp2_with (go_at_call 53;refine HK.out.mono ?_;rintro e w' ⟨rfl,z⟩;rw[z];clear z w');go_ret;exact⟨by rw[Z.out];first|rfl|(rw[yF (show¬num<=9 by omega)];rfl),HB.out⟩
   ·rw[yN b6]at b3
    have Z:=aj (U.out false ⟨(λh=>by cases h),λh=>by omega⟩);rw[b3,show bC 1=.iface 45 (.int .i64 1)from rfl]at HK;clear U b3 b6;rcases b5 with rfl|rfl
    all_goals
     go_enter func48,ntmps48;go_wp2_with (go_at_call 53;refine HK.out.mono ?_;rintro e w' ⟨rfl,z⟩;rw[z];clear z w');go_ret;exact⟨by rw[Z.out];first|rfl|(rw[yF (show¬num<=9 by omega)];rfl),HB.out⟩
  ·have Z:=aj (U.out false ⟨(λh=>by cases h),λh=>by omega⟩)
   clear U b1 b0;rcases b5 with rfl|rfl
   all_goals
    go_enter func48,ntmps48;go_wp2;go_ret;exact⟨by rw[Z.out];first|rfl|(rw[yF (show¬num<=9 by omega)];rfl),HB.out⟩
 clear b1 b0;by_cases h3:op=3
 ·subst h3
  by_cases a6:0<=wd/\wd<3
  ·rw[yT a6]at a2
   by_cases J:0<=var/\var<5
   ·rw[yT J]at a1
    by_cases qa:num≥0
    ·by_cases qb:num<=9
     ·skip
      have Z:=aj (U.out true ⟨λ_=>by omega,λ_=>rfl⟩);clear U a6 J;go_enter func48,ntmps48
      go_wp2_with (first
       |(go_at_call 74;refine(a2.out _).mono ?_;rintro e w' ⟨rfl,z⟩;rw[z];clear z w')
       |(go_at_call 75;refine(a1.out _).mono ?_;rintro e w' ⟨rfl,z⟩;rw[z];clear z w'))
      go_ret;exact⟨by rw[Z.out];first|rfl|(rw[yF (show¬num<=9 by omega)];rfl),HB.out⟩
     ·skip
      have Z:=aj (U.out false ⟨(λh=>by cases h),λh=>by omega⟩);clear U a6 J;go_enter func48,ntmps48
      go_wp2_with (first
       |(go_at_call 74;refine(a2.out _).mono ?_;rintro e w' ⟨rfl,z⟩;rw[z];clear z w')
       |(go_at_call 75;refine(a1.out _).mono ?_;rintro e w' ⟨rfl,z⟩;rw[z];clear z w'))
      go_ret;exact⟨by rw[Z.out];first|rfl|(rw[yF (show¬num<=9 by omega)];rfl),HB.out⟩
    ·skip
     have Z:=aj (U.out false ⟨(λh=>by cases h),λh=>by omega⟩);clear U a6 J;go_enter func48,ntmps48
     go_wp2_with (first
      |(go_at_call 74;refine(a2.out _).mono ?_;rintro e w' ⟨rfl,z⟩;rw[z];clear z w')
      |(go_at_call 75;refine(a1.out _).mono ?_;rintro e w' ⟨rfl,z⟩;rw[z];clear z w'))
     go_ret;exact⟨by rw[Z.out];first|rfl|(rw[yF (show¬num<=9 by omega)];rfl),HB.out⟩
   ·rw[yF J]at a1
    have Z:=aj (U.out false ⟨(λh=>by cases h),λh=>by omega⟩);clear U a6 J;go_enter func48,ntmps48
    go_wp2_with (first
     |(go_at_call 74;refine(a2.out _).mono ?_;rintro e w' ⟨rfl,z⟩;rw[z];clear z w')
     |(go_at_call 75;refine(a1.out _).mono ?_;rintro e w' ⟨rfl,z⟩;rw[z];clear z w'))
    go_ret;exact⟨by rw[Z.out];first|rfl|(rw[yF (show¬num<=9 by omega)];rfl),HB.out⟩
  ·rw[yF a6]at a2
   have Z:=aj (U.out false ⟨(λh=>by cases h),λh=>by omega⟩);clear U a6;go_enter func48,ntmps48
   go_wp2_with (first
    |(go_at_call 74;refine(a2.out _).mono ?_;rintro e w' ⟨rfl,z⟩;rw[z];clear z w')
    |(go_at_call 75;refine(a1.out _).mono ?_;rintro e w' ⟨rfl,z⟩;rw[z];clear z w'))
   go_ret;exact⟨by rw[Z.out];first|rfl|(rw[yF (show¬num<=9 by omega)];rfl),HB.out⟩
 by_cases h4:op=4
 ·subst h4
  by_cases a6:0<=wd/\wd<3
  ·rw[yT a6]at a2
   by_cases J:0<=var/\var<5
   ·rw[yT J]at a1
    by_cases b2:0<=wd2/\wd2<3
    ·rw[yT b2]at a7
     by_cases b4:0<=gV/\gV<5
     ·rw[yT b4]at a8
      have Z:=aj (U.out true ⟨λ_=>by omega,λ_=>rfl⟩);clear U a6 J b2 b4;go_enter func48,ntmps48
      go_wp2_with (first
       |(go_at_call 74;refine(a2.out _).mono ?_;rintro e w' ⟨rfl,z⟩;rw[z];clear z w')
       |(go_at_call 74;refine(a7.out _).mono ?_;rintro e w' ⟨rfl,z⟩;rw[z];clear z w')
       |(go_at_call 75;refine(a1.out _).mono ?_;rintro e w' ⟨rfl,z⟩;rw[z];clear z w')
       |(go_at_call 75;refine(a8.out _).mono ?_;rintro e w' ⟨rfl,z⟩;rw[z];clear z w'))
      go_ret;exact⟨by rw[Z.out];first|rfl|(rw[yF (show¬num<=9 by omega)];rfl),HB.out⟩
     ·rw[yF b4]at a8
      have Z:=aj (U.out false ⟨(λh=>by cases h),λh=>by omega⟩);clear U a6 J b2 b4;go_enter func48,ntmps48
      go_wp2_with (first
       |(go_at_call 74;refine(a2.out _).mono ?_;rintro e w' ⟨rfl,z⟩;rw[z];clear z w')
       |(go_at_call 74;refine(a7.out _).mono ?_;rintro e w' ⟨rfl,z⟩;rw[z];clear z w')
       |(go_at_call 75;refine(a1.out _).mono ?_;rintro e w' ⟨rfl,z⟩;rw[z];clear z w')
       |(go_at_call 75;refine(a8.out _).mono ?_;rintro e w' ⟨rfl,z⟩;rw[z];clear z w'))
      go_ret;exact⟨by rw[Z.out];first|rfl|(rw[yF (show¬num<=9 by omega)];rfl),HB.out⟩
    ·rw[yF b2]at a7
     have Z:=aj (U.out false ⟨(λh=>by cases h),λh=>by omega⟩);clear U a6 J b2;go_enter func48,ntmps48
     go_wp2_with (first
      |(go_at_call 74;refine(a2.out _).mono ?_;rintro e w' ⟨rfl,z⟩;rw[z];clear z w')
      |(go_at_call 74;refine(a7.out _).mono ?_;rintro e w' ⟨rfl,z⟩;rw[z];clear z w')
      |(go_at_call 75;refine(a1.out _).mono ?_;rintro e w' ⟨rfl,z⟩;rw[z];clear z w')
      |(go_at_call 75;refine(a8.out _).mono ?_;rintro e w' ⟨rfl,z⟩;rw[z];clear z w'))
     go_ret;exact⟨by rw[Z.out];first|rfl|(rw[yF (show¬num<=9 by omega)];rfl),HB.out⟩
   ·rw[yF J]at a1
    have Z:=aj (U.out false ⟨(λh=>by cases h),λh=>by omega⟩);clear U a6 J;go_enter func48,ntmps48
    go_wp2_with (first
     |(go_at_call 74;refine(a2.out _).mono ?_;rintro e w' ⟨rfl,z⟩;rw[z];clear z w')
     |(go_at_call 74;refine(a7.out _).mono ?_;rintro e w' ⟨rfl,z⟩;rw[z];clear z w')
     |(go_at_call 75;refine(a1.out _).mono ?_;rintro e w' ⟨rfl,z⟩;rw[z];clear z w')
     |(go_at_call 75;refine(a8.out _).mono ?_;rintro e w' ⟨rfl,z⟩;rw[z];clear z w'))
    go_ret;exact⟨by rw[Z.out];first|rfl|(rw[yF (show¬num<=9 by omega)];rfl),HB.out⟩
  ·rw[yF a6]at a2
   have Z:=aj (U.out false ⟨(λh=>by cases h),λh=>by omega⟩);clear U a6;go_enter func48,ntmps48
   go_wp2_with (first
    |(go_at_call 74;refine(a2.out _).mono ?_;rintro e w' ⟨rfl,z⟩;rw[z];clear z w')
    |(go_at_call 74;refine(a7.out _).mono ?_;rintro e w' ⟨rfl,z⟩;rw[z];clear z w')
    |(go_at_call 75;refine(a1.out _).mono ?_;rintro e w' ⟨rfl,z⟩;rw[z];clear z w')
    |(go_at_call 75;refine(a8.out _).mono ?_;rintro e w' ⟨rfl,z⟩;rw[z];clear z w'))
   go_ret;exact⟨by rw[Z.out];first|rfl|(rw[yF (show¬num<=9 by omega)];rfl),HB.out⟩
 by_cases h8:op=8
 ·subst h8
  by_cases J:0<=var/\var<5
  ·rw[yT J]at a1
   have Z:=aj (U.out true ⟨λ_=>by omega,λ_=>rfl⟩);clear U J;go_enter func48,ntmps48
   go_wp2_with (first
    |(go_at_call 75;refine(a1.out _).mono ?_;rintro e w' ⟨rfl,z⟩;rw[z];clear z w'))
   go_ret;exact⟨by rw[Z.out];first|rfl|(rw[yF (show¬num<=9 by omega)];rfl),HB.out⟩
  ·rw[yF J]at a1
   have Z:=aj (U.out false ⟨(λh=>by cases h),λh=>by omega⟩);clear U J;go_enter func48,ntmps48
   go_wp2_with (first
    |(go_at_call 75;refine(a1.out _).mono ?_;rintro e w' ⟨rfl,z⟩;rw[z];clear z w'))
   go_ret;exact⟨by rw[Z.out];first|rfl|(rw[yF (show¬num<=9 by omega)];rfl),HB.out⟩
 by_cases h9:op=9
 ·subst h9
  by_cases J:0<=var/\var<5
  ·rw[yT J]at a1
   have Z:=aj (U.out true ⟨λ_=>by omega,λ_=>rfl⟩);clear U J;go_enter func48,ntmps48
   go_wp2_with (first
    |(go_at_call 75;refine(a1.out _).mono ?_;rintro e w' ⟨rfl,z⟩;rw[z];clear z w'))
   go_ret;exact⟨by rw[Z.out];first|rfl|(rw[yF (show¬num<=9 by omega)];rfl),HB.out⟩
  ·rw[yF J]at a1
   have Z:=aj (U.out false ⟨(λh=>by cases h),λh=>by omega⟩);clear U J;go_enter func48,ntmps48
   go_wp2_with (first
    |(go_at_call 75;refine(a1.out _).mono ?_;rintro e w' ⟨rfl,z⟩;rw[z];clear z w'))
   go_ret;exact⟨by rw[Z.out];first|rfl|(rw[yF (show¬num<=9 by omega)];rfl),HB.out⟩
 by_cases h5:op=5
 ·subst h5;have Z:=aj (U.out true ⟨λ_=>by omega,λ_=>rfl⟩);clear U;go_enter func48,ntmps48;go_wp2;go_ret;exact⟨by rw[Z.out];first|rfl|(rw[yF (show¬num<=9 by omega)];rfl),HB.out⟩
 by_cases h6:op=6
 ·subst h6;have Z:=aj (U.out true ⟨λ_=>by omega,λ_=>rfl⟩);clear U;go_enter func48,ntmps48;go_wp2;go_ret;exact⟨by rw[Z.out];first|rfl|(rw[yF (show¬num<=9 by omega)];rfl),HB.out⟩
 by_cases h7:op=7
 ·subst h7;have Z:=aj (U.out true ⟨λ_=>by omega,λ_=>rfl⟩);clear U;go_enter func48,ntmps48;go_wp2;go_ret;exact⟨by rw[Z.out];first|rfl|(rw[yF (show¬num<=9 by omega)];rfl),HB.out⟩
 have e3:(op==3)=false:=by simpa using h3
 have e4:(op==4)=false:=by simpa using h4
 have e5:(op==5)=false:=by simpa using h5
 have e6:(op==6)=false:=by simpa using h6
 have e7:(op==7)=false:=by simpa using h7
 have e8:(op==8)=false:=by simpa using h8
 have e9:(op==9)=false:=by simpa using h9
 have e1:(op==1)=false:=by simp;omega
 have e2:(op==2)=false:=by simp;omega
 have Z:=aj (U.out false ⟨(λh=>by cases h),λh=>by omega⟩);clear U b5 h3 h4 h5 h6 h7 h8 h9;go_enter func48,ntmps48;go_wp2;go_ret;exact⟨by rw[Z.out];first|rfl|(rw[yF (show¬num<=9 by omega)];rfl),HB.out⟩
theorem Rf{n:Nd}(U:Zi n):rO (unN n)↔(¬Jb n->n.var=0)/\(n.op≠4->n.gV=0/\n.wd2=0)/\(¬Ec n->n.wd=0)/\(¬Fp n->n.op≠3->n.num=0)/\(¬Fp n->n.cf.length=0):=by
 unfold rO unN Jb Ec Fp;by_cases z:n.op=1\/n.op=2
 ·rw[yP z];simp only[List.length_nil,and_true];constructor<;>intro h<;>omega
 ·rw[yN z]
  by_cases h3:n.op=3
  ·rw[yP h3];simp only[true_and];constructor<;>intro h<;>omega
  ·rw[yN h3]
   by_cases h4:n.op=4
   ·rw[yP h4];simp only[true_and];constructor<;>intro h<;>omega
   ·rw[yN h4]
    by_cases J:n.op=8\/n.op=9
    ·rw[yP J];simp only[true_and];constructor<;>intro h<;>omega
    ·rw[yN J];constructor<;>intro h<;>omega
theorem UE{n:Nd}(h: ¬Zi n):qo n=1:=by unfold qo;rw[yN h]
theorem UF{n:Nd}(h:Zi n)(hb: ¬rO (unN n)):qo n=2:=by unfold qo;rw[yP h,yN];intro hs;exact hb ((Rf h).2 ⟨hs.1,hs.2.1,hs.2.2.1,hs.2.2.2.1,hs.2.2.2.2.1⟩)
theorem ZE{n:Nd}(h:Zi n)(hb:rO (unN n)):qo n=if 0<n.cf.length/\n.cf.getD (n.cf.length-1) 0=0 then 2 else 0:=by
 unfold qo;rw[yP h];obtain⟨h1,h2,h3,h4,h5⟩:=(Rf h).1 hb;by_cases z:0<n.cf.length/\n.cf.getD (n.cf.length-1) 0=0
 ·rw[yP z,yN (λhs=>hs.2.2.2.2.2 z.1 z.2)]
 ·rw[yN z,yP ⟨h1,h2,h3,h4,h5,λh0 J=>z ⟨h0,J⟩⟩]
theorem KM(n:Nd)(a:zO)(c:Nat)(w:zW)(hs:Sl w a n.cf.length n.cf):Calls prog 27 #[Bu n a c] w λe w'=>e=.returned (bC (qo n))/\Below w.heap.size w w':=by
 have HB:=aj ((Below.refl w.heap.size w).alloc zr (lK n a c));have HX:=aj (zl w (lK n a c));have HS:=aj (aF hs HB.out);have b5:=hs.2.1;unfold maxLen at b5;have a1:=aj (Rb n a c _ HS.out);have a8:=aj (λW=>UD n a c W);have b0:=aj (λW=>Ra (unN n) (unA n a) (unK n c) W);have H1:=aj (@UE n);have H2:=aj (@UF n);have H3:=aj (@ZE n);unfold Bu at a1 a8 b0⊢;generalize b1:w.alloc (lK n a c)=W1 at HB HX HS a1;clear hs;have HZ:Hid (∀W,Below W1.heap.size W1 W->_):=λW h=>(bU ((h.block _ (zG HX.out).1).trans HX.out)).1;obtain⟨z0,z1,z2,z3,z4,z5,z6⟩:=(bU HX.out).1;generalize unN n=un at*;generalize qo n=F at H1 H2 H3⊢;go_enter func27,ntmps27;go_wp2_with fail;clear z0 z1 z2 z3 z4 z5 z6;refine a1.out.mono ?_;rintro e w2 ⟨rfl,b2⟩;have a2:=aj b2;clear b2;by_cases hr:Zi n
 ·rw[yT hr]
  have a6:=aj (H2.out hr);have a7:=aj (H3.out hr);clear hr H1 H2 H3 a1;obtain⟨z0,z1,z2,z3,z4,z5,z6⟩:=HZ.out w2 a2.out;clear b1;go_wp2_with (go_at_call 50;refine(a8.out _).mono ?_;rintro e w3 ⟨rfl,b3⟩;clear z0 z1 z2 z3 z4 z5 z6);refine(b0.out _).mono ?_;rintro e w4 ⟨rfl,b4⟩;have U:=aj (ak (ak a2.out b3) b4);clear b3 b4;obtain⟨z0,z1,z2,z3,z4,z5,z6⟩:=HZ.out w4 U.out;by_cases Z:rO un
  ·rw[yT Z]
   have J:=a7.out Z;clear Z a6 a7;by_cases hl:(n.cf.length:Int)>0
   ·obtain⟨bo,oo,rfl,hc⟩:=bH (aF HS.out U.out) (n.cf.length-1) (by omega)
    generalize n.cf.getD (n.cf.length-1) 0=z at hc J;by_cases hz:z=0
    ·rw[yP (by omega)]at J;subst hz;have HF:=aj J;clear J;go_wp2;go_ret;exact⟨by rw[HF.out];rfl,ak HB.out U.out⟩
    ·rw[yN (by omega)]at J;have ez:(z==0)=false:=(by simpa using hz);have HF:=aj J;clear J hz;go_wp2;go_ret;exact⟨by rw[HF.out];rfl,ak HB.out U.out⟩
   ·rw[yN (by omega)]at J;have HF:=aj J;clear J;go_wp2;go_ret;exact⟨by rw[HF.out];rfl,ak HB.out U.out⟩
  ·rw[yF Z];have HF:=aj (a6.out Z);clear Z a6 a7;go_wp2;go_ret;exact⟨by rw[HF.out];rfl,ak HB.out U.out⟩
 ·rw[yF hr];have HF:=aj (H1.out hr);clear hr H1 H2 H3 b1;go_wp2;go_ret;exact⟨by rw[HF.out];rfl,ak HB.out a2.out⟩
theorem wG(a:zO)(n cap:Nat)(ns:List Nd)(w:zW)(hs:SlF w a n ns):Calls prog 13 #[.slice a n cap] w λe w'=>e=.returned (.tuple #[.int .i64 ((mG ns).1:Nat),bC (mG ns).2])/\Below w.heap.size w w':=by
 have hL:=hs.1;have c0:=hs.2.1;unfold maxLen at c0;by_cases h0:n=0
 ·have e:mG ns=(0,4):=by unfold mG;rw[yP (by omega)]
  rw[e];subst h0;clear hs e;go_enter func13,ntmps13;go_wp2;go_ret2;exact⟨rfl,zb⟩
 have d0:((n:Int)==0)=false:=by simp;omega
 by_cases d1:(n:Int)>40
 ·have e:mG ns=(0,3):=by unfold mG;rw[yN (by omega),yP (by omega)]
  rw[e];clear hs e hL;go_enter func13,ntmps13;go_wp2;go_ret2;exact⟨rfl,zb⟩
 have HE:Hid (mG ns=NR (ns.drop 0) 0 1):=by show _=_;unfold mG;rw[yN (by omega),yN (by omega)];rfl
 have HS:=aj hs;have c3:=aj (λop W=>CJ op W);have HN:=aj (λnd a' c' W (h:Sl W a' nd.cf.length nd.cf)=>KM nd a' c' W h);unfold Bu at HN;have c4:=aj (λk (hk:k<n)=>agJ (l:=ns) (k:=k) (by omega));have b8:Hid (ns.drop n=[]):=by show _=_;rw[<-hL];exact List.drop_length
 clear hs hL;generalize mG ns=R at HE⊢;go_enter func13,ntmps13;go_wp2;go_loopw[4,18] (λov iv wx=> ∃k o:Nat,k<=n/\o<=1+2*k/\ov=.int .i64 o/\iv=.int .i64 k/\R=NR (ns.drop k) k o/\Below w.heap.size w wx) (λ_ iv _=>n-(intOf iv).toNat);case atStart=>exact⟨0,1,by omega,by omega,rfl,rfl,HE.out,zb⟩
 case round=>
  obtain⟨k,o,hk,ho,rfl,rfl,hR,hb⟩:=hrel;have HR:=aj hR;have HB:=aj hb;clear hR hb HE;by_cases b1:k<n
  ·have b9:(k:Int)<(n:Int):=by omega
   obtain⟨bb,oo,a',c',rfl,x0,x1,x2,x3,x4,x5,x6,a6⟩:=jB (dG HS.out HB.out) k b1;have HD:=aj (c4.out k b1);generalize ns.getD k oL=nd at x0 x1 x2 x3 x4 x5 x6 a6 HD;have a7:=(Below.refl wr.heap.size wr).alloc zr (lK nd a' c');have b2:=aj (HN.out nd a' c' (wr.alloc (lK nd a' c')) (aF a6 a7));have b3:=aj (ak HB.out a7);have Z:Hid (R=if qo nd=0 then(if o=0 then(k,2)else NR (ns.drop (k+1)) (k+1) (o-1+gQ nd.op))else(k,qo nd)):=(by show _=_;rw[HR.out,HD.out];rfl);have c5:=aj (Mj nd.op);have HX:=aj (zl wr (lK nd a' c'));clear a6 HR HD;generalize c6:wr.alloc (lK nd a' c')=Wa at b2 b3 HX;obtain⟨⟨z0,z1,z2,z3,z4,z5,z6⟩,-⟩:=bU HX.out;go_wp2_with fail;clear c6;refine b2.out.mono ?_;rintro e w1 ⟨rfl,a1⟩;have a8:=aj (ak b3.out a1);have b4:=(bU ((a1.block _ (zG HX.out).1).trans HX.out)).1.1;have c7:=aj b4;clear x0 x1 x2 x3 x4 x5 x6 z0 z1 z2 z3 z4 z5 z6 b4 a7;by_cases hz:qo nd=0
   ·have J:=Z.out
    rw[yP hz]at J;rw[hz,show bC 0=.nilIface from rfl];by_cases a2:o=0
    ·rw[yP a2]at J;have U:=aj J;subst a2;clear hz J Z;go_wp2;go_ret2;exact⟨by rw[U.out];rfl,a8.out⟩
    ·rw[yN a2]at J
     have c9:((o:Int)==0)=false:=(by simp;omega);have U:=aj J;have c8:=c5.out;have d2:1<=o:=(by omega);have x0:=c7.out;have b5:=aj (c3.out nd.op);clear hz a2 J Z a1;generalize gQ nd.op=pn at U c8 b5;go_wp2_with (go_at_call 28;refine(b5.out _).mono ?_;rintro e w' ⟨rfl,b6⟩;rw[b6];clear b6 w');go_roundw;case rel=>exact⟨k+1,o-1+pn,by omega,by omega,by go_num,by go_num,U.out,a8.out⟩
     case measure=>simp[intOf];omega
   ·have J:=Z.out;rw[yN hz]at J;have U:=aj J;have b0:bC (qo nd)=.iface 45 (.int .i64 (qo nd)):=(by unfold bC;rw[yN hz]);rw[b0];clear hz J Z a1;have b7:=aj b0;clear b0;generalize qo nd=z at U b7⊢;go_wp2;go_ret2;exact⟨by rw[U.out];show _=Ending.returned (.tuple #[_,bC z]);rw[b7.out];rfl,a8.out⟩
  ·have b9: ¬(k:Int)<(n:Int):=by omega
   obtain rfl:k=n:=(by omega);have J:=HR.out;rw[b8.out]at J;unfold NR at J;by_cases d3:(o:Int)>0
   ·rw[yP (by omega)]at J;have U:=aj J;clear J HR;go_wp2;go_ret2;exact⟨by rw[U.out];rfl,HB.out⟩
   ·rw[yN (by omega)]at J;have U:=aj J;clear J HR;go_wp2;go_ret2;exact⟨by rw[U.out];rfl,HB.out⟩
def AY(l:zI)(v:Int):Int:=if v∈l then((fq l v:Nat):Int)else -1
theorem aiI{l:zI}{v:Int}{k:Nat}(z:k<l.length)(h:l.getD k 0=v)(U: ∀i,i<k->l.getD i 0≠v):AY l v=(k:Int):=by
 have hm:v∈l:=by rw[<-h,aS _ k z];exact List.getElem_mem z
 unfold AY;rw[yP hm];have h1:=kG hm;have h2:=Ci hm;by_cases e:fq l v=k
 ·rw[e]
 ·exfalso
  by_cases J:fq l v<k
  ·exact U _ J h2
  ·exact QI (vs:=l) (x:=v) (k:=k) (by omega) z h
theorem ado{l:zI}{v:Int}(z: ∀i,i<l.length->l.getD i 0≠v):AY l v= -1:=by unfold AY;rw[yN];intro hm;exact z _ (kG hm) (Ci hm)
theorem wH(a:zO)(n cap:Nat)(l:zI)(v:Int)(w:zW)(hs:Sl w a n l):Calls prog 63 #[.slice a n cap,.int .i64 v] w λe w'=>e=.returned (.int .i64 (AY l v))/\Below w.heap.size w w':=by
 have hL:=hs.1;have a2:=hs.2.1;unfold maxLen at a2;have HS:=aj hs;have HA:=aj (λk (hk:k<n)=>@aiI l v k (by omega));have HN:=aj (λ(h: ∀i,i<n->l.getD i 0≠v)=>@ado l v (by rw[hL];exact h));generalize AY l v=R at HA HN⊢;clear hs hL;go_enter func63,ntmps63;go_wp2;go_loopw[8] (λZ wx=> ∃k:Nat,k<=n/\Z=.int .i64 k/\(∀i,i<k->l.getD i 0≠v)/\Below w.heap.size w wx) (λZ _=>n-(intOf Z).toNat);case atStart=>exact⟨0,by omega,rfl,λi hi=>by omega,zb⟩
 case round=>
  obtain⟨k,hk,rfl,hz,hb⟩:=hrel;have HZ:=aj hz;have J:=aj hb;clear hz hb;by_cases U:k<n
  ·have a1:(k:Int)<(n:Int):=by omega
   obtain⟨bb,oo,rfl,hc⟩:=bH (aF HS.out J.out) k U;by_cases z:v=l.getD k 0
   ·have HR:=aj (HA.out k U z.symm HZ.out);rw[<-z]at hc;have a6:(v==v)=true:=(by simp);clear z;go_wp2;go_ret;exact⟨by rw[HR.out];rfl,J.out⟩
   ·have a7:Hid (∀i,i<k+1->l.getD i 0≠v):=λi hi=>by
     by_cases e:i=k
     ·subst e;exact λh=>z h.symm
     ·exact HZ.out i (by omega)
    generalize l.getD k 0=y at hc z
    have a6:(v==y)=false:=by simpa using z
    clear z
    go_wp2
    go_roundw
    case rel=>exact⟨k+1,by omega,by go_num,a7.out,J.out⟩
    case measure=>simp[intOf];omega
  ·have a1: ¬(k:Int)<(n:Int):=by omega
   obtain rfl:k=n:=(by omega);have HR:=aj (HN.out HZ.out);go_wp2;go_ret;exact⟨by rw[HR.out];rfl,J.out⟩
theorem Ak(a:zO)(n cap:Nat)(l:zI)(v:Int)(w:zW)(hs:Sl w a n l):Calls prog 67 #[.slice a n cap,.int .i64 v] w λe w'=>e=.returned (.bool (decide (v∈l)))/\Below w.heap.size w w':=by
 have J:=aj (wH a n cap l v w hs)
 have U:decide (AY l v≥0)=decide (v∈l):=by
  unfold AY;by_cases h:v∈l
  ·rw[yP h,yT h,yT (by omega)]
  ·rw[yN h,yF h];rfl
 rw[<-U];generalize AY l v=R at J⊢;clear hs U;go_enter func67,ntmps67;go_wp2_with (go_at_call 63;refine J.out.mono ?_;rintro e w5 ⟨rfl,z⟩;have Z:=aj z;clear z);go_ret;exact⟨rfl,Z.out⟩
end Go.Proofs.YtceojneljnnooaaGreat
