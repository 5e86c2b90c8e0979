import Derived.Test.YtfiknidoihlkfaaGreatZA
import Derived.OpenShut
import Derived.ProofKit
open Go.Proofs.Tryz
namespace Go.Proofs.YtfiknidoihlkfaaGreat
open Go.RowKit
set_option maxHeartbeats 0
set_option maxRecDepth 100000
set_option linter.all false
section
open Go.ChangeShapes Go.WideShapes Go.ChangeAt Go.RowKit
def IsRow(w:zW)(a:zO)(len cap:Nat)(zs:zI):Prop:=
 (a=none/\len=0/\cap=0/\zs=[])\/
 ∃x,a=some x/\len<=cap/\cap<=maxLen/\zs.length=cap/\(∀i,i<zs.length->w.cell? (x.add i)=some (.int .i64 (zs.getD i 0)))/\ ∀n∈zs,(Lit.int .i64 n).wf=true
theorem sl_of_row{w:zW}{a:zO}{len cap:Nat}{zs:zI}(h:IsRow w a len cap zs):Sl w a len (zs.take len):=by
 rcases h with⟨rfl,rfl,rfl,rfl⟩|⟨x,rfl,U,hm,Z,hc,z⟩
 ·exact⟨rfl,by decide,by simp,Or.inl rfl⟩
 ·refine⟨by rw[List.length_take];omega,by omega,λn J=>z n (List.mem_of_mem_take J),?_⟩
  by_cases h0:len=0
  ·exact Or.inl h0
  ·refine Or.inr ?_;obtain⟨b,o,rfl,hc'⟩:=ints_at hc (by omega);refine⟨b,o,rfl,λi hi=>?_⟩;rw[hc' i (by omega)];simp[List.getD,hi]
theorem own:ownKnob prog.godebug=none:=by kernel_rfl
theorem laidOut:laidOutB prog=true:=by kernel_rfl
end
section
theorem row_le{w:zW}{a:zO}{len cap:Nat}{zs:zI}(h:IsRow w a len cap zs):len<=cap:=by
 rcases h with⟨-,rfl,rfl,-⟩|⟨x,-,h,-⟩
 ·exact zr
 ·exact h
end
end Go.Proofs.YtfiknidoihlkfaaGreat
