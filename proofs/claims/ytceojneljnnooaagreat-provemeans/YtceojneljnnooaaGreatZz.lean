import Derived.WalkKit
import Derived.Below
namespace Go.Proofs.YtceojneljnnooaaGreat
open Go.RowKit
abbrev zL:=List (List Int)
abbrev zO:=Option Addr
abbrev zI:=List Int
abbrev zB:=List Bool
abbrev zV:=List Value
abbrev zW:=World
theorem zG{α:Type}{xs:Array α}{i:Nat}{b:α}(h:xs[i]? =some b): ∃h:i<xs.size,xs[i]=b:=Array.getElem?_eq_some_iff.1 h
theorem zl(w:World)(o:Obj):(w.alloc o).heap[w.heap.size]? =some o:=by show (w.heap.push o)[w.heap.size]? =some o;simp
theorem zk(w:World)(x:Addr){v:Value}(h:w.cell? x=some v):x.block<w.heap.size:=World.block_lt_of_cell? w x h
theorem zr{n:Nat}:n<=n:=Nat.le_refl n
theorem zb{n:Nat}{w:World}:Below n w w:=Below.refl n w
theorem yT{p:Prop}[i:Decidable p](h:p):decide p=true:=decide_eq_true h
theorem yF{p:Prop}[i:Decidable p](h:¬p):decide p=false:=decide_eq_false h
theorem yP.{u}{c:Prop}{i:Decidable c}(h:c){α:Sort u}{t e:α}:@ite α c i t e=t:=if_pos h
theorem yN.{u}{c:Prop}{i:Decidable c}(h:¬c){α:Sort u}{t e:α}:@ite α c i t e=e:=if_neg h
end Go.Proofs.YtceojneljnnooaaGreat
