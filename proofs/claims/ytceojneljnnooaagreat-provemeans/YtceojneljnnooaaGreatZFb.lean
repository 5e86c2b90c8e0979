import Derived.Test.YtceojneljnnooaaGreatZEg
import Derived.Test.YtceojneljnnooaaGreatFa
open Go.Proofs.Tryz
namespace Go.Proofs.YtceojneljnnooaaGreat
open Go.RowKit
set_option maxHeartbeats 0
set_option maxRecDepth 100000
set_option linter.all false
section
open Go.ChangeShapes Go.WideShapes Go.ChangeAt Go.RowKit Go.Joins Go.Deep
theorem LX{H:Type}{Z:TypeId × Value->H}{W:zW}{base:Nat}{held:Bool}{U:Nat}{v:Value}{x:DataW H × List MemPlace}(h:DataW.trod Z prog W base (λ_=>true) held U 24 [v]=some x):
  ∃a len cap l,v=.slice a len cap/\Sl W a len l:=by
 rcases open_ints underlying24 underlying3 (by kernel_rfl) h with⟨z,_⟩|⟨x,l,c,zs,z,_,hl,hm,hz,_,J,a1⟩
 ·simp at z
  exact⟨none,0,0,_,z,sl_of_row (cap:=0) (zs:=[]) (.inl ⟨rfl,rfl,rfl,rfl⟩)⟩
 ·simp at z
  exact⟨some x,l,c,zs.take l,z,sl_of_row (.inr ⟨_,rfl,hl,hm,by simpa using hz,J,a1⟩)⟩
end
section
theorem agD{b t:Int}{N:zL}{n:Nat}{tr:Int}{at_:zI}(z:bP b t N n=0)(J:aU b tr=0)(U:(at_.length:Int)=t)(Z: ∀i,i<at_.length->0<=at_.getD i 0/\at_.getD i 0<tr):mW b t N n tr at_=0:=by unfold mW;rw[yP z,yP J,yP U];exact Wu Z
end
end Go.Proofs.YtceojneljnnooaaGreat
