import Derived.Test.YtceojneljnnooaaGreatZMp
import Derived.Deep.MidRow
open Go.Proofs.Tryz
namespace Go.Proofs.YtceojneljnnooaaGreat
open Go.RowKit
set_option maxHeartbeats 0
set_option maxRecDepth 100000
set_option linter.all false
theorem zh:laidOutB prog=true:=by kernel_rfl
theorem YQ{α β:Type}{f:α->Option β}{l:List α}(h: ∀a∈l,∃b,f a=some b): ∃L,l.mapM f=some L:=by
 induction l with
 |nil=>exact⟨[],rfl⟩
 |cons x l z=>
  obtain⟨b,hb⟩:=h x (by simp)
  obtain⟨L,J⟩:=z (λa U=>h a (by simp[U]))
  exact⟨b::L,by simp[List.mapM_cons,hb,J]⟩
def Iu(v:Value):Prop:= ∃x,v=.int .i64 x/\(Lit.int .i64 x).wf=true
theorem uH(P:Program)(e:TypeId)(d:Nat)(z:P.underlying e=some (.int .i64)){v:Value}(h:Iu v): ∃L,P.keyLits (d+1) e [v]=some L:=by obtain⟨x,rfl,hx⟩:=h;exact⟨[.int .i64 x],by simp[Program.keyLits,z,hx]⟩
theorem Iw(P:Program)(t e:TypeId)(n d:Nat)(U:P.underlying t=some (.array n e))(Z:P.underlying e=some (.int .i64))(z:P.cellsOf t=n)(J:P.cellsOf e=1){cs:zV}(hl:cs.length=n)(h: ∀v∈cs,Iu v): ∃L,P.keyLits (d+2) t cs=some L:=by
 obtain⟨L,hL⟩:=YQ (f:=λi=>P.keyLits (d+1) e ((cs.drop (i*1)).take 1)) (l:=List.range n) (λi hi=>by
  rw[List.mem_range]at hi;rw[Nat.mul_one];obtain⟨v,hv⟩: ∃v,(cs.drop i).take 1=[v]:=⟨cs[i],by rw[List.drop_eq_getElem_cons (by omega),List.take_succ_cons,List.take_zero]⟩;rw[hv];refine uH P e d Z (h v ?_);have:v∈(cs.drop i).take 1:=by rw[hv];simp
  exact List.mem_of_mem_drop (List.mem_of_mem_take this))
 refine⟨L.flatten,?_⟩;unfold Program.keyLits;simp only[U,z,J,hl,if_true];rw[hL];rfl
theorem xO:Maps.Keyed prog 203:=Maps.Keyed.of_law (deep_law_laid zh (m:=4) (by omega) (of_decide_eq_true (by kernel_rfl)) (by kernel_rfl) (by rw[underlying203]))
theorem Gn:prog.types.size=226:=by kernel_rfl
theorem Iy:prog.cellsOf 203=37/\prog.cellsOf 201=36/\prog.cellsOf 3=1:=⟨by kernel_rfl,by kernel_rfl,by kernel_rfl⟩
theorem YR:prog.keyType 203=true:=by kernel_rfl
theorem abO{cs:Array Value}(z:cs.size=37)(h: ∀v∈cs.toList,Iu v): ∃kl,keyOf prog 203 (.agg cs)=some kl:=by
 obtain⟨h1,h2,h3⟩:=Iy;obtain⟨v,hv⟩: ∃v,(cs.toList.drop 0).take 1=[v]:=⟨cs.toList[0]'(by simp[z]),by rw[List.drop_eq_getElem_cons (by simp[z]),List.take_succ_cons,List.take_zero]⟩
 have J:v∈cs.toList:=by
  have:v∈(cs.toList.drop 0).take 1:=by rw[hv];simp
  exact List.mem_of_mem_drop (List.mem_of_mem_take this)
 obtain⟨U,Z⟩:=uH prog 3 (226-1) underlying3 (h v J);obtain⟨L2,a1⟩:=Iw prog 201 3 36 (226-2) underlying201 underlying3 h2 h3 (cs:=(cs.toList.drop 1).take 36) (by simp[z]) (λu hu=>h u (List.mem_of_mem_drop (List.mem_of_mem_take hu)));refine⟨.string (keyBytes (U++L2)),?_⟩;unfold keyOf;simp only[underlying203,YR,Value.formed,h1,z,Gn,Value.cells,BEq.rfl,Bool.and_self,if_true];unfold Program.keyLits;simp only[underlying203,Array.length_toList,z,h1];rw[yP ⟨trivial,by simp⟩];have e1:prog.keyLits 226 3 ((cs.toList.drop 0).take 1)=some U:=by rw[hv];exact Z
 have e2:prog.keyLits 226 201 ((cs.toList.drop 1).take 36)=some L2:=a1;simp only[List.mapM_cons,List.mapM_nil,h2,h3,e1,e2,Option.bind_eq_bind,Option.bind_some,Option.pure_def,Option.map_some,List.flatten_cons,List.flatten_nil,List.append_nil]
theorem YS{N:zL}{C:zI}{m:Nat}(s:Int)(h: ∀q,(Lit.int .i64 (sF N C m s.toNat q)).wf=true): ∃z,keyOf prog 203 (lG N C m s)=some z:=
 abO (by simp) (λv hv=>by simp only[Array.toList_map,List.mem_map]at hv;obtain⟨q,_,rfl⟩:=hv;exact⟨_,rfl,h q⟩)
theorem Iz(x:Int)(w:zW):(Instr.build 203 #[(0,.int .i64 x)]).run prog w=.ok (.agg ((Array.range 37).map λq=>Value.int .i64 (if q=0 then x else 0))) w:=by kernel_rfl
section
variable {P:Program}
theorem pY{ops:Array Oper}{rest:List Oper}{op:Oper}{a:Act}{w:zW}{Q:Exit->Act->zW->Prop}(z:op.guard=none)(ty:TypeId)(x:Operand)(U:op.op=.load ty x)(g:Nat)(hx:a.eval x=.pointer (some ⟨g,0,none⟩))(cs:Array Value)(t:TypeId)(J:Nat × Nat)(d:TypeDesc)(hg:w.heap[g]? =some (.cells cs t J))(hu:P.underlying ty=some d)(Z:(match d with|.struct _|.array _ _=>true|_=>false)=true)(hi:(P.info? ty).map (·.size)=some cs.size)(h:wpList P ops Q rest (a.put op.dst (.agg cs)) w):wpList P ops Q (op::rest) a w:=
 wpList_plain z λ_ hK=>by unfold Oper.wp execOp;simp only[U,hx,Instr.loadAt,Instr.sureAddr,Sem.run_bind,Sem.run_pure,Result.andThen_ok,run_loadVar_row w g t ty cs J d hg hu Z hi];exact hK _ _ h
end
theorem Qf{w:zW}{b:Nat}{t:TypeId}{n:Nat}{f:Nat->Value}(h:w.rowIs b t n f):w.heap[b]? =some (.cells ((Array.range n).map f) t (0,0)):=by
 obtain⟨c,h1,h2,h3⟩:=h;rw[h1];congr 2;apply Array.ext_getElem?;intro i;by_cases hi:i<n
 ·rw[h3 i hi];simp[hi]
 ·rw[Array.getElem?_eq_none (by omega),Array.getElem?_eq_none (by simp;omega)]
end Go.Proofs.YtceojneljnnooaaGreat
