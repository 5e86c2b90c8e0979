import Derived.Test.YtceojneljnnooaaGreatZNx
import Derived.Laws.AppendOwnNone
open Go.Proofs.Tryz
namespace Go.Proofs.YtceojneljnnooaaGreat
open Go.RowKit
set_option maxHeartbeats 0
set_option maxRecDepth 100000
set_option linter.all false
variable{Q:Exit->Act->zW->Prop}{ops:Array Oper}{rest:List Oper}{w:zW}{o:Oper}
theorem afY{ad:Addr}{len:Nat}{l:zI}(h:Sl w (some ad) len l): ∀j u,(l.map (Value.int .i64))[j]? =some u->w.cell? (ad.add j)=some u:=by
 intro j u J;have z:j<l.length:=by have:=(List.getElem?_eq_some_iff.1 J).1;simpa using this
 obtain⟨b,o,e,hc⟩:=bH h j (by rw[<-h.1];exact z);cases e;rw[Addr.add_lit,hc];simp[z]at J;simp[List.getD,z,J]
theorem DJ{a:Act}(Z:o.guard=none)(s x:Operand)(ho:o.op=.call {callee:=.builtin .append,args:=#[s,x],argTypes:=#[24,24]})(base:Nat)(v:Value)(xs:zI)(hs:a.eval s=v)(hown:w.ownsRow base 3 1 v xs.length (xs.map (Value.int .i64)))(U:zO)(m c:Nat)(l:zI)(hx:a.eval x=.slice U m c)(J:Sl w U m l)(hn:U=none->c=0)(hb:(xs.length+m)*8<=140737488355328)(hbase:base<=w.heap.size)(h: ∀v' w',w'.ownsRow base 3 1 v' (xs++l).length ((xs++l).map (Value.int .i64))->w.grownBy w' v.ownBlock->wpList prog ops Q rest (a.put o.dst v') w'):wpList prog ops Q (o::rest) a w:=by
 obtain⟨i,hi,hz0,hz1,hz2⟩:=info_parts rX;have hL:=J.1;cases U with
 |none=>
  have hm:m=0:=by
   rcases J.2.2.2 with h0|⟨_,_,e,_⟩
   ·exact h0
   ·cases e
  obtain rfl:=hn rfl
  subst hm
  obtain rfl:l=[]:=List.eq_nil_of_length_eq_zero hL
  refine wpList_append_own_none Z s x 24 ho base 3 i 1 underlying24 hi v xs.length _ hs hown hx (h v w (by rw[List.append_nil];exact hown) ⟨rfl,rfl,rfl,zr,λ_ _ _=>rfl⟩)
 |some ad=>
  refine wpList_append_own _ Z s x 24 ho base 3 i (.int .i64 0) 1 8 underlying24 hi hz0 hz1 hz2 rfl (by decide) v xs.length _ hs hown ad m c (l.map (Value.int .i64)) hx (by simp[hL]) (afY J) (λu hu=>by obtain⟨z,_,rfl⟩:=List.mem_map.1 hu;rfl) (by unfold maxLen;omega) hb hbase (λv' w' h1 h2 _=>h v' w' ?_ h2)
  rw[List.length_append,hL,List.map_append]
  exact h1
theorem oq{a:Act}(J:o.guard=none)(s x:Operand)(Z:o.op=.call {callee:=.builtin .append,args:=#[s,x],argTypes:=#[24,24]})(base:Nat)(v:Value)(xs:zI)(hs:a.eval s=v)(hown:w.ownsRow base 3 1 v xs.length (xs.map (Value.int .i64)))(z:zO)(m c:Nat)(l:zI)(hx:a.eval x=.slice z m c)(U:Sl w z m l)(hn:z=none->c=0)(a1:xs.length<=4000000)(a2:m<=4000000)(hbase:base<=w.heap.size)(h: ∀v' w',w'.ownsRow base 3 1 v' (xs++l).length ((xs++l).map (Value.int .i64))->w.grownBy w' v.ownBlock->wpList prog ops Q rest (a.put o.dst v') w'):wpList prog ops Q (o::rest) a w:=
 DJ J s x Z base v xs hs hown z m c l hx U hn (by omega) hbase h
theorem Es{P:Program}(base:Nat)(t ty e:TypeId)(i:TypeInfo)(size:Nat)(z:P.underlying t=some (.slice e))(hi:P.info? e=some i)(v:Value)(n:Nat)(xs:zV)(hown:w.ownsRow base e size v n xs)(c:Nat):
  (Builtin.append_ #[t,t] ty #[v,.slice none 0 c]).run P w=.ok v w:=by
 rcases hown.2 with⟨rfl,rfl⟩|⟨g,cap,cur,rfl,_,_,J,_⟩
 ·simp[Builtin.append_,run_underlying z,sizeOf,typeInfo,hi,Builtin.lenOf,Builtin.firstCells]
 ·simp[Builtin.append_,run_underlying z,sizeOf,typeInfo,hi,Builtin.lenOf,Builtin.firstCells,J,storeCells]
theorem Ae{P:Program}{a:Act}(z:o.guard=none)(s x:Operand)(t:TypeId)(J:o.op=.call {callee:=.builtin .append,args:=#[s,x],argTypes:=#[t,t]})(base:Nat)(e:TypeId)(i:TypeInfo)(size:Nat)(U:P.underlying t=some (.slice e))(hi:P.info? e=some i)(v:Value)(n:Nat)(xs:zV)(hs:a.eval s=v)(hown:w.ownsRow base e size v n xs)(c:Nat)(hx:a.eval x=.slice none 0 c)(h:wpList P ops Q rest (a.put o.dst v) w):wpList P ops Q (o::rest) a w:=by refine wpList_plain z λK hK=>?_;have hrun:=Es (P:=P) (w:=w) base t o.type e i size U hi v n xs hown c;unfold Oper.wp;simp[execOp,J,resolve,invoke,builtin,hs,hx,hrun,Result.andThen];exact hK _ _ h
end Go.Proofs.YtceojneljnnooaaGreat
