/- Package digit's contracts, whatever is handed in: one a function. -/
import Derived.Test.YtdfgeihlpkpknabO
import Derived.Test.YtdfgeihlpkpknabU
namespace Go.Proofs.Ytdfgeihlpkpknab
open Go.RowKit

def errV (c : Int) : Value := if c = 0 then .nilIface else .iface 38 (.int .i64 c)
def codeN (b n : Int) : Int := if (1 ≤ b ∧ b ≤ 6) ∧ 0 ≤ n ∧ n ≤ 1099511627776 then 0 else 1
def numL (b n : Int) : List Int := if (1 ≤ b ∧ b ≤ 6) ∧ 0 ≤ n ∧ n ≤ 1099511627776 then dgs b n else []
def codeD (b : Int) (l : List Int) : Int := if 1 ≤ b ∧ b ≤ 6 then (if l.length ≤ 60 then (if digB b l = true then 0 else 1) else 3) else 1
def codeV (b : Int) (l : List Int) : Int := if codeD b l = 0 then (if val b l ≤ 1099511627776 then 0 else 3) else codeD b l
def valU (b : Int) (l : List Int) : Int := if codeV b l = 0 then val b l else 0

def OfU (w : World) (l : List Int) (er : Value) (e : Ending) (w' : World) : Prop := ∃ a cap, e = .returned (.tuple #[.slice a l.length cap, er]) ∧ SlN w.heap.size w' a l.length l ∧ Below w.heap.size w w'
/-- What Less tells: the first one's fault, else the second one's. -/
def codeL (c c' : Int) : Int := if c = 0 then c' else c
def lessL (c c' v v' : Int) : Bool := decide (c = 0) && (decide (c' = 0) && decide (v < v'))
end Go.Proofs.Ytdfgeihlpkpknab
