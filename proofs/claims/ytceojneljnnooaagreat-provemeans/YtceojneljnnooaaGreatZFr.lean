import Derived.Test.YtceojneljnnooaaGreatZA
import Derived.OpenShut
import Derived.ProofKit
import Derived.WalkSmall
import Derived.Deep.LoopGhost
import Derived.Deep.WholeRow
open Go.Proofs.Tryz
namespace Go.Proofs.YtceojneljnnooaaGreat
open Go.RowKit
set_option maxHeartbeats 0
set_option maxRecDepth 100000
set_option linter.all false
section
open Go.ChangeShapes Go.WideShapes Go.ChangeAt Go.RowKit
def IsRow(w:zW)(a:zO)(len cap:Nat)(zs:zI):Prop:=
 (a=none/\len=0/\cap=0/\zs=[])\/
 ∃x,a=some x/\len<=cap/\cap<=maxLen/\zs.length=cap/\(∀i,i<zs.length->w.cell? (x.add i)=some (.int .i64 (zs.getD i 0)))/\ ∀n∈zs,(Lit.int .i64 n).wf=true
theorem sl_of_row{w:zW}{a:zO}{len cap:Nat}{zs:zI}(h:IsRow w a len cap zs):Sl w a len (zs.take len):=by
 rcases h with⟨rfl,rfl,rfl,rfl⟩|⟨x,rfl,U,hm,Z,hc,z⟩
 ·exact⟨rfl,by decide,by simp,Or.inl rfl⟩
 ·refine⟨by rw[List.length_take];omega,by omega,λn J=>z n (List.mem_of_mem_take J),?_⟩
  by_cases h0:len=0
  ·exact Or.inl h0
  ·refine Or.inr ?_;obtain⟨b,o,rfl,hc'⟩:=ints_at hc (by omega);refine⟨b,o,rfl,λi hi=>?_⟩;rw[hc' i (by omega)];simp[List.getD,hi]
theorem own:ownKnob prog.godebug=none:=by kernel_rfl
theorem laidOut:laidOutB prog=true:=by kernel_rfl
end
section
theorem row_le{w:zW}{a:zO}{len cap:Nat}{zs:zI}(h:IsRow w a len cap zs):len<=cap:=by
 rcases h with⟨-,rfl,rfl,-⟩|⟨x,-,h,-⟩
 ·exact zr
 ·exact h
theorem Bw{l m:zI}(h:l.length=m.length)(z: ∀j,j<l.length->l.getD j 0=m.getD j 0):l=m:=by apply List.ext_getElem h;intro i h1 h2;have:=z i h1;simpa[List.getD,h1,h2]using this
end
section
variable {P:Program}
theorem wR{ops:Array Oper}{rest:List Oper}{op:Oper}{a:Act}{w:zW}{Q:Exit->Act->zW->Prop}(z:op.guard=none)(ty:TypeId)(x:Operand)(U:op.op=.load ty x)(g:Nat)(hx:a.eval x=.pointer (some ⟨g,0,none⟩))(cs:Array Value)(t:TypeId)(J:Nat × Nat)(n:Nat)(e:TypeId)(hg:w.heap[g]? =some (.cells cs t J))(hu:P.underlying ty=some (.array n e))(hi:(P.info? ty).map (·.size)=some cs.size)(h:wpList P ops Q rest (a.put op.dst (.agg cs)) w):wpList P ops Q (op::rest) a w:=
 wpList_plain z λ_ hK=>by unfold Oper.wp execOp;simp only[U,hx,Instr.loadAt,Instr.sureAddr,Sem.run_bind,Sem.run_pure,Result.andThen_ok,run_loadVar_row w g t ty cs J _ hg hu rfl hi];exact hK _ _ h
theorem tY{ops:Array Oper}{rest:List Oper}{op:Oper}{a:Act}{w:zW}{Q:Exit->Act->zW->Prop}(J:op.guard=none)(ty:TypeId)(x y:Operand)(U:op.op=.store ty x y)(g:Nat)(z cs:Array Value)(hx:a.eval x=.pointer (some ⟨g,0,none⟩))(Z:a.eval y=.agg cs)(t:TypeId)(hg:w.heap[g]? =some (.cells z t (0,0)))(hi:(P.info? ty).map (·.size)=some cs.size)(hs:z.size=cs.size)(h1:cs.all (·.oneCell')=true)(h:wpList P ops Q rest (a.put op.dst undef) (w.setRow g cs)):wpList P ops Q (op::rest) a w:=
 wpList_plain J λ_ hK=>by unfold Oper.wp execOp;simp only[U,hx,Z,Instr.storeAt,Instr.sureAddr,Sem.run_bind,Sem.run_pure,Result.andThen_ok,run_storeVar_row w g t ty z cs hg hi hs h1];exact hK _ _ h
theorem KI{z:Func}{p:Tmp}{ty:TypeId}(h:z.results=#[.cell p ty])(tmps:Array Value)(w:zW)(g:Nat)(cs:Array Value)(t:TypeId)(J:Nat × Nat)(n:Nat)(e:TypeId)(Z:tmps.getD p undef=.pointer (some ⟨g,0,none⟩))(hg:w.heap[g]? =some (.cells cs t J))(hu:P.underlying ty=some (.array n e))(hi:(P.info? ty).map (·.size)=some cs.size):
  (results z tmps).run P w=.ok (.agg cs) w:=by
 have hl:=run_loadVar_row (P:=P) w g t ty cs J _ hg hu rfl hi
 simp only[results,h]
 have U:tmps[p]?.getD undef=.pointer (some ⟨g,0,none⟩):=by simpa using Z
 simp[U,asAddr,hl]
theorem aP(w:zW)(o z:Obj):((w.alloc o).alloc z).heap[w.heap.size]? =some o:=by rw[Below.heap_alloc _ _ _ (by simp),zl]
theorem aQ(w:zW)(o z:Obj):((w.alloc o).alloc z).heap[w.heap.size+1]? =some z:=by have:=zl (w.alloc o) z;simpa using this
theorem BD(w:zW)(c c':Array Value)(t:TypeId)(o:Obj):((w.alloc (.cells c t)).alloc o).setRow w.heap.size c'=(w.alloc (.cells c' t)).alloc o:=by
 have h:=World.setRow_alloc_new w c c' t;rw[<-h];simp only[World.setRow,World.alloc];congr 1;apply Array.ext_getElem?;intro i;simp only[Array.getElem?_modify,Array.getElem?_push,Array.size_modify];by_cases e:w.heap.size=i
 ·subst e;simp
 ·by_cases z:i=w.heap.size+1
  ·subst z;simp
  ·simp[e,z]
theorem tZ(w:zW)(o J z:Obj):(((w.alloc o).alloc J).alloc z).heap[w.heap.size+2]? =some z:=by have:=zl ((w.alloc o).alloc J) z;simpa using this
end
end Go.Proofs.YtceojneljnnooaaGreat
