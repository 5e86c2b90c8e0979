import Derived.Test.YtfiknidoihlkfaaGreatZEn
import Derived.Test.YtfiknidoihlkfaaGreatZCi
open Go.Proofs.Tryz
namespace Go.Proofs.YtfiknidoihlkfaaGreat
open Go.RowKit
set_option maxHeartbeats 0
set_option maxRecDepth 100000
set_option linter.all false
def atC(tr:Int)(l:zI):Int:=if l.all (λx=>decide (0<=x/\x<tr))=true then 0 else 1
def mQ(b t:Int)(N:zL)(k:Nat)(tr:Int)(at_:zI):Int:=
 if bT b t N k=0 then(if aV b tr=0 then(if(at_.length:Int)=t then atC tr at_ else 2)else aV b tr)else bT b t N k
def qx(b t:Int)(N:zL)(E:zB)(k:Nat)(tr:Int)(at_:zI):zL:=if mQ b t N k tr at_=0 then aU (og N (iD b tr.toNat at_ (aD b tr).toNat)) E (aD b tr).toNat else[]
def xk(b t:Int)(N:zL)(E:zB)(k:Nat)(tr:Int)(at_:zI):zB:=if mQ b t N k tr at_=0 then aZ (og N (iD b tr.toNat at_ (aD b tr).toNat)) E (aD b tr).toNat else[]
theorem Wp{tr:Int}{l:zI}(i:Nat)(hi:i<l.length)(h: ¬(0<=l.getD i 0/\l.getD i 0<tr)):atC tr l=1:=by unfold atC;rw[yN];intro z;rw[List.all_eq_true]at z;have:=z (l.getD i 0) (by rw[aS _ i hi];exact List.getElem_mem hi);exact h (by simpa using this)
theorem Wq{tr:Int}{l:zI}(h: ∀i,i<l.length->0<=l.getD i 0/\l.getD i 0<tr):atC tr l=0:=by unfold atC;rw[yP];rw[List.all_eq_true];intro x hx;obtain⟨i,hi,rfl⟩:=List.getElem_of_mem hx;have:=h i hi;rw[aS _ i hi]at this;simpa using this
theorem Wt{tr:Int}{l:zI}(h:atC tr l=0)(i:Nat)(hi:i<l.length):0<=l.getD i 0/\l.getD i 0<tr:=by apply Classical.byContradiction;intro z;rw[Wp i hi z]at h;cases h
theorem DF{b t:Int}{N:zL}{k:Nat}{tr:Int}{at_:zI}(h:mQ b t N k tr at_=0):bT b t N k=0/\aV b tr=0/\(at_.length:Int)=t/\atC tr at_=0:=by
 unfold mQ at h;split at h
 ·split at h
  ·split at h
   ·exact⟨by assumption,by assumption,by assumption,h⟩
   ·cases h
  ·rename_i h1 h2;exact absurd h h2
 ·rename_i h1;exact absurd h h1
theorem Qe(b:Int)(h2:b<=6)(tr:Nat)(at_:zI)(l:Int):gZ b (iL b tr at_ l)=true:=by unfold gZ;rw[List.all_eq_true];intro x hx;obtain⟨j,z,rfl⟩:=List.getElem_of_mem hx;have:=Ij b h2 tr at_ l j z;rw[aS _ j z]at this;simpa using this
end Go.Proofs.YtfiknidoihlkfaaGreat
