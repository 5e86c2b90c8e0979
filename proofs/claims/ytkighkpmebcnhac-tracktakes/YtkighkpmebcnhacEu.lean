/- The law TrackTakes: its walk. -/
import Derived.Test.YtkighkpmebcnhacEk
import Derived.Test.YtkighkpmebcnhacEs
namespace Go.Proofs.Ytkighkpmebcnhac
open Go.RowKit

theorem spread_says : SpreadSays := fun b t a n cap a' k cap' N E tr aa la ca at_ W h1 h2 h3 => spread_u b t a n cap a' k cap' N E tr aa la ca at_ W h1 h2 h3
theorem fix_says : FixSays := fun b t a n cap a' k cap' N E tk x W h1 h2 => fix_u b t a n cap a' k cap' N E tk x W h1 h2
theorem tracktakes_any (b t : Int) (a : Option Addr) (n cap : Nat) (a' : Option Addr) (k cap' : Nat) (N : List (List Int)) (E : List Bool) (tr : Int) (aa : Option Addr) (la ca : Nat) (at_ : List Int) (aw : Option Addr) (lw cw : Nat) (l : List Int) (x : Int) (w : World) (hs : Sl2 w a n N) (he : SlB w a' k E) (ha : Sl w aa la at_) (hw : Sl w aw lw l) :
    Calls Try.prog 5 #[.agg #[.int .i64 b, .int .i64 t, .slice a n cap, .slice a' k cap'], .int .i64 tr, .slice aa la ca, .slice aw lw cw, .int .i64 x] w fun e w' => e = .returned (.bool true) ∧ Below w.heap.size w w' :=
  tracktakes_of b t a n cap a' k cap' N E tr aa la ca at_ aw lw cw l x w hs he ha hw spread_says fix_says
end Go.Proofs.Ytkighkpmebcnhac
