import Derived.Test.YtceojneljnnooaaGreatZz
import Derived.Test.YtceojneljnnooaaGreatRows
import Derived.Below
import Derived.BigQuiet
import Derived.Deep.QuietTactic
import Derived.WalkKit
open Go.Proofs.Tryz
namespace Go.Proofs.YtceojneljnnooaaGreat
open Go.RowKit
set_option maxHeartbeats 0
set_option maxRecDepth 100000
set_option linter.all false
def Sl(w:zW)(a:zO)(len:Nat)(l:zI):Prop:=
 l.length=len/\len<=maxLen/\(∀n∈l,(Lit.int .i64 n).wf=true)/\
 (len=0\/ ∃b o,a=some ⟨b,o,none⟩/\ ∀i,i<len->w.cell? ⟨b,o+i,none⟩=some (.int .i64 (l.getD i 0)))
theorem lS(b:Int)(w:zW)(h1:1<=b)(h2:b<=6):
  Calls prog 23 #[.int .i64 b] w λe w'=>e=.returned (.bool true)/\w'=w:=by
 go_enter func23,ntmps23
 go_wp2
 go_ret
 exact⟨by simp,rfl⟩
theorem aj{p:Prop}(h:p):Hid p:=h
theorem yO(b:Int)(w:zW)(h:b<1\/6<b):
  Calls prog 23 #[.int .i64 b] w λe w'=>e=.returned (.bool false)/\w'=w:=by
 rcases h with h|h
 ·go_enter func23,ntmps23
  go_wp2
  go_ret
  exact⟨by simp,rfl⟩
 ·have h1:1<=b:=by omega
  go_enter func23,ntmps23
  go_wp2
  go_ret
  exact⟨by simp;omega,rfl⟩
def au(b:Int):Int:=if b<=2 then 2 else b
theorem mq(b:Int)(w:zW)(h1:1<=b)(h2:b<=6):
  Calls prog 34 #[.int .i64 b] w λe w'=>e=.returned (.int .i64 (au b))/\w'=w:=by
 go_enter func34,ntmps34
 go_wp2
 all_goals
  go_ret
  refine⟨?_,rfl⟩
  simp[au]
  omega
def gZ(b:Int)(l:zI):Bool:=l.all λx=>decide (0<=x/\x<au b)
theorem GV(b:Int)(l:zI)(k:Nat)(h:k<l.length):gZ b (l.take (k+1))=(gZ b (l.take k)&&decide (0<=l.getD k 0/\l.getD k 0<au b)):=by unfold gZ;rw[List.take_succ_eq_append_getElem h,List.all_append];simp[List.getD,h]
def ah0(b:Int)(l:zI):Value:=if gZ b l=true then .nilIface else .iface 45 (.int .i64 1)
theorem aaX(b:Int)(l:zI)(k:Nat)(h:k<l.length)(hx: ¬(0<=l.getD k 0/\l.getD k 0<au b)):ah0 b l=.iface 45 (.int .i64 1):=by unfold ah0;rw[yN];intro z;unfold gZ at z;rw[List.all_eq_true]at z;have:=z (l.getD k 0) (by simp[List.getD,h]);exact hx (by simpa using this)
theorem bH{w:zW}{a:zO}{len:Nat}{l:zI}(hs:Sl w a len l)(k:Nat)(z:k<len):
  ∃b o,a=some ⟨b,o,none⟩/\w.cell? ⟨b,o+k,none⟩=some (.int .i64 (l.getD k 0)):=by
 rcases hs.2.2.2 with h|⟨b,o,h,hc⟩
 ·omega
 ·exact⟨b,o,h,hc k z⟩
def iV:zI->Bool
 |x::y::r=>(x==1&&y==1)||iV (y::r)
 |_=>false
theorem Dq(l:zI):iV l=true↔ ∃k,k+1<l.length/\l.getD k 0=1/\l.getD (k+1) 0=1:=by
 induction l with
 |nil=>simp[iV]
 |cons x r z=>
  cases r with
  |nil=>simp[iV]
  |cons y r=>
   simp only[iV,Bool.or_eq_true,Bool.and_eq_true,beq_iff_eq,z]
   constructor
   ·rintro(⟨h1,h2⟩|⟨k,h1,h2,h3⟩)
    ·exact⟨0,by simp,by simpa using h1,by simpa using h2⟩
    ·exact⟨k+1,by simpa using h1,by simpa using h2,by simpa using h3⟩
   ·rintro⟨k,h1,h2,h3⟩
    cases k with
    |zero=>exact Or.inl ⟨by simpa using h2,by simpa using h3⟩
    |succ k=>exact Or.inr ⟨k,by simpa using h1,by simpa using h2,by simpa using h3⟩
def Yn(b:Int):Nat->Int × Int
 |0=>(1,1)
 |k+1=>(min (if b=1 then(Yn b k).1+(Yn b k).2 else(Yn b k).1*b) 1099511627777,(Yn b k).1)
def pR(b:Int)(k:Nat):Int:=(Yn b k).1
def ahd(b:Int)(k:Nat):Int:=(Yn b k).2
theorem Bz(b:Int):pR b 0=1:=rfl
theorem GX(b:Int):ahd b 0=1:=rfl
theorem BA(b:Int)(k:Nat):ahd b (k+1)=pR b k:=rfl
theorem tX(b:Int)(k:Nat):pR b (k+1)=min (if b=1 then pR b k+ahd b k else pR b k*b) 1099511627777:=rfl
theorem vw(b:Int)(h1:1<=b)(J:b<=6)(k:Nat):(1<=pR b k/\pR b k<=1099511627777)/\(1<=ahd b k/\ahd b k<=1099511627777):=by
 induction k with
 |zero=>simp[Bz,GX]
 |succ k z=>
  obtain⟨⟨h3,h4⟩,h5,U⟩:=z
  rw[BA,tX]
  refine⟨⟨?_,?_⟩,h3,h4⟩
  ·have:1<=if b=1 then pR b k+ahd b k else pR b k*b:=by
    split
    ·omega
    ·have:=Int.mul_le_mul h3 h1 (by omega) (by omega);omega
   omega
  ·exact Int.min_le_right _ _
def lD(b:Int)(k:Nat):Array Value:=((List.range 60).map λj=>Value.int .i64 (if 60<=j+k then pR b (59-j)else 0)).toArray
theorem qB(b:Int)(k:Nat):(lD b k).size=60:=by simp[lD]
theorem xB(b:Int)(k j:Nat)(h:j<60):(lD b k)[j]? =some (.int .i64 (if 60<=j+k then pR b (59-j)else 0)):=by simp[lD,h]
theorem Yo(b:Int):lD b 0=Array.replicate 60 (.int .i64 0):=by
 apply Array.ext_getElem?;intro j;by_cases h:j<60
 ·rw[xB b 0 j h,yN (by omega)];simp[h]
 ·simp[lD,h]
theorem aaY(b:Int)(k:Nat)(h:k<60):(lD b k).setIfInBounds (59-k) (.int .i64 (pR b k))=lD b (k+1):=by
 apply Array.ext_getElem?;intro j;by_cases z:j<60
 ·rw[xB b (k+1) j z,Array.getElem?_setIfInBounds]
  by_cases e:59-k=j
  ·subst e;rw[yP rfl,yP (by rw[qB];omega),yP (by omega)];congr 3;omega
  ·rw[yN e,xB b k j z]
   by_cases h1:60<=j+k
   ·rw[yP h1,yP (by omega)]
   ·rw[yN h1,yN (by omega)]
 ·have h1:(lD b (k+1))[j]? =none:=by rw[Array.getElem?_eq_none];rw[qB];omega
  have h2:((lD b k).setIfInBounds (59-k) (.int .i64 (pR b k)))[j]? =none:=by rw[Array.getElem?_eq_none];simp[qB];omega
  rw[h1,h2]
theorem aaZ(b:Int)(k:Nat):(lD b k).all (·.oneCell')=true:=by simp[lD,Value.oneCell']
def val(b:Int):zI->Int
 |[]=>0
 |x::r=>x*pR b r.length+val b r
end Go.Proofs.YtceojneljnnooaaGreat
