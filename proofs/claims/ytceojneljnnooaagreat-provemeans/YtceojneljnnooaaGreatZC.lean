import Derived.Test.YtceojneljnnooaaGreatZFr
open Go.Proofs.Tryz
namespace Go.Proofs.YtceojneljnnooaaGreat
open Go.RowKit
set_option maxHeartbeats 0
set_option maxRecDepth 100000
set_option linter.all false
theorem akx(b:Int):(lD b 0)=(#[.int .i64 0,.int .i64 0,.int .i64 0,.int .i64 0,.int .i64 0,.int .i64 0,.int .i64 0,.int .i64 0,.int .i64 0,.int .i64 0,.int .i64 0,.int .i64 0,.int .i64 0,.int .i64 0,.int .i64 0,.int .i64 0,.int .i64 0,.int .i64 0,.int .i64 0,.int .i64 0,.int .i64 0,.int .i64 0,.int .i64 0,.int .i64 0,.int .i64 0,.int .i64 0,.int .i64 0,.int .i64 0,.int .i64 0,.int .i64 0,.int .i64 0,.int .i64 0,.int .i64 0,.int .i64 0,.int .i64 0,.int .i64 0,.int .i64 0,.int .i64 0,.int .i64 0,.int .i64 0,.int .i64 0,.int .i64 0,.int .i64 0,.int .i64 0,.int .i64 0,.int .i64 0,.int .i64 0,.int .i64 0,.int .i64 0,.int .i64 0,.int .i64 0,.int .i64 0,.int .i64 0,.int .i64 0,.int .i64 0,.int .i64 0,.int .i64 0,.int .i64 0,.int .i64 0,.int .i64 0]:Array Value):=by rw[Yo];rfl
theorem aa0:(prog.info? 77).map (·.size)=some 60:=by kernel_rfl
theorem Ta(b:Int)(w:zW)(h1:1<=b)(h2:b<=6):
  Calls prog 35 #[.int .i64 b] w λe w'=>e=.returned (.agg (lD b 60))/\w'=(w.alloc (.cells (lD b 60) 77)).alloc (.cells (lD b 60) 77):=by
 go_enter func35,ntmps35
 go_wp2
 rw[<-akx b]
 go_loopg[4,5,6] 60 (λg s4 s5 s6 wx=> ∃k:Nat,k+g=60/\s4=.int .i64 (pR b k)/\s5=.int .i64 (ahd b k)/\s6=.int .i64 (59-k)/\wx=(w.alloc (.cells (lD b 0) 77)).alloc (.cells (lD b k) 77))
 case atStart=>exact⟨0,by omega,rfl,rfl,rfl,rfl⟩
 case round=>
  obtain⟨k,a7,rfl,rfl,rfl,rfl⟩:=hrel
  cases gk with
  |zero=>
   obtain rfl:k=60:=by omega
   have H0:=aj (aP w (.cells (lD b 0) 77) (.cells (lD b 60) 77))
   have H1:=aj (aQ w (.cells (lD b 0) 77) (.cells (lD b 60) 77))
   have H2:=aj (aP w (.cells (lD b 60) 77) (.cells (lD b 60) 77))
   have HR:=aj (BD w (lD b 0) (lD b 60) 77 (.cells (lD b 60) 77))
   have J:Hid ((prog.info? 77).map (·.size)=some (lD b 60).size):=by rw[qB];exact aa0
   go_wp2_with (first
    |(refine wR rfl 77 _ rfl _ rfl _ _ _ _ _ H1.out underlying77 J.out ?_)
    |(refine tY rfl 77 _ _ rfl _ _ _ rfl rfl _ H0.out J.out (by rw[qB,qB]) (aaZ b 60) ?_;rw[HR.out]))
   refine bodyPost_ret (v:=.agg (lD b 60)) ?_ rfl ⟨rfl,rfl⟩
   exact KI results35 _ _ _ _ _ _ _ _ rfl H2.out underlying77 J.out
  |succ g=>
   have hk:0<=(59:Int)-(k:Int):=by omega
   have a8:(59:Int)-(k:Int)<60:=by omega
   have U:=vw b h1 h2 k
   obtain⟨⟨Z,a1⟩,b0,b1⟩:=U
   have z:=aj (tX b k)
   have a6:=xB b k (59-k) (by omega)
   have HS:=aj (aaY b k (by omega))
   by_cases hb:b=1
   ·have a2:(b==1)=true:=by simpa using hb
    rw[yP hb]at z
    clear hb
    go_wp2
    all_goals
     go_roundg g
     case measure=>omega
     case rel=>
      refine⟨k+1,by omega,?_,rfl,by go_num,by rw[HS.out]⟩
      rw[z.out];congr 1;omega
   ·have a2:(b==1)=false:=by simpa using hb
    have b2:1<=pR b k*b:=by have:=Int.mul_le_mul Z h1 (by omega) (by omega);omega
    have b3:pR b k*b<=1099511627777*6:=by have:=Int.mul_le_mul a1 h2 (by omega) (by omega);omega
    rw[yN hb]at z
    clear hb
    go_wp2
    all_goals
     go_roundg g
     case measure=>omega
     case rel=>
      refine⟨k+1,by omega,?_,rfl,by go_num,by rw[HS.out]⟩
      rw[z.out];congr 1;omega
theorem afz(x:Int)(hx:0<=x)(U:x<=60): ∃o:Nat,(∀B W,(Instr.sliceAt 77 (.pointer (some ⟨B,0,none⟩)) (some (.int .i64 x)) none none).run prog W=.ok (.slice (some ⟨B,o,none⟩) (60-x.toNat) (60-x.toNat)) W)/\(x<60->o=x.toNat):=by
 have z:prog.arrayLen 77=60:=by kernel_rfl
 refine⟨if 60=x.toNat then 0 else x.toNat,λB W=>?_,λh=>by rw[yN (by omega)]⟩;rw[run_sliceAt_array_l W 77 ⟨B,0,none⟩ (by kernel_rfl) .i64 x hx (by rw[z];omega)];by_cases e:60=x.toNat
 ·rw[yP e]
  have J:x=60:=by omega
  subst J;go_simp
 ·rw[yN e];go_simp
def iF(b:Int)(l:zI):Bool:=b !=1|| !iV l
end Go.Proofs.YtceojneljnnooaaGreat
