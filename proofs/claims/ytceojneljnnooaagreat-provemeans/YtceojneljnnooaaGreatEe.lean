import Derived.Test.YtceojneljnnooaaGreatZEn
import Derived.Test.YtceojneljnnooaaGreatZCi
open Go.Proofs.Tryz
namespace Go.Proofs.YtceojneljnnooaaGreat
open Go.RowKit
set_option maxHeartbeats 0
set_option maxRecDepth 100000
set_option linter.all false
def atC(tr:Int)(l:zI):Int:=if l.all (λx=>decide (0<=x/\x<tr))=true then 0 else 1
def mW(b t:Int)(N:zL)(k:Nat)(tr:Int)(at_:zI):Int:=
 if bP b t N k=0 then(if aU b tr=0 then(if(at_.length:Int)=t then atC tr at_ else 2)else aU b tr)else bP b t N k
def qx(b t:Int)(N:zL)(E:zB)(k:Nat)(tr:Int)(at_:zI):zL:=if mW b t N k tr at_=0 then aV (og N (iD b tr.toNat at_ (aD b tr).toNat)) E (aD b tr).toNat else[]
def xg(b t:Int)(N:zL)(E:zB)(k:Nat)(tr:Int)(at_:zI):zB:=if mW b t N k tr at_=0 then aY (og N (iD b tr.toNat at_ (aD b tr).toNat)) E (aD b tr).toNat else[]
theorem Wt{tr:Int}{l:zI}(i:Nat)(hi:i<l.length)(h: ¬(0<=l.getD i 0/\l.getD i 0<tr)):atC tr l=1:=by unfold atC;rw[yN];intro z;rw[List.all_eq_true]at z;have:=z (l.getD i 0) (by rw[aS _ i hi];exact List.getElem_mem hi);exact h (by simpa using this)
theorem Wu{tr:Int}{l:zI}(h: ∀i,i<l.length->0<=l.getD i 0/\l.getD i 0<tr):atC tr l=0:=by unfold atC;rw[yP];rw[List.all_eq_true];intro x hx;obtain⟨i,hi,rfl⟩:=List.getElem_of_mem hx;have:=h i hi;rw[aS _ i hi]at this;simpa using this
theorem Wv{tr:Int}{l:zI}(h:atC tr l=0)(i:Nat)(hi:i<l.length):0<=l.getD i 0/\l.getD i 0<tr:=by apply Classical.byContradiction;intro z;rw[Wt i hi z]at h;cases h
theorem DI{b t:Int}{N:zL}{k:Nat}{tr:Int}{at_:zI}(h:mW b t N k tr at_=0):bP b t N k=0/\aU b tr=0/\(at_.length:Int)=t/\atC tr at_=0:=by
 unfold mW at h;split at h
 ·split at h
  ·split at h
   ·exact⟨by assumption,by assumption,by assumption,h⟩
   ·cases h
  ·rename_i h1 h2;exact absurd h h2
 ·rename_i h1;exact absurd h h1
theorem Qh(b:Int)(h2:b<=6)(tr:Nat)(at_:zI)(l:Int):gZ b (iL b tr at_ l)=true:=by unfold gZ;rw[List.all_eq_true];intro x hx;obtain⟨j,z,rfl⟩:=List.getElem_of_mem hx;have:=Ik b h2 tr at_ l j z;rw[aS _ j z]at this;simpa using this
end Go.Proofs.YtceojneljnnooaaGreat
