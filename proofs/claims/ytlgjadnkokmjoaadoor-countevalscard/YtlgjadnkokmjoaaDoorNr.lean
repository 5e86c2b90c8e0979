/- Regions that draw their order, by what holds between their operations: the law. -/
import Derived.Test.YtlgjadnkokmjoaaDoorU
import Derived.Deep.DeepCutAuto
import Derived.Deep.RegionHeldLaw
namespace Go.Proofs.YtlgjadnkokmjoaaDoor
open Go.RowKit

/-- What holds between the operations, whatever their order. -/
theorem wpAny_inv {P : Program} {md : Region.Mode} {ops : Array Oper} {Q : Exit → Act → World → Prop} (I : Nat → Array Bool → Act → World → Prop)
    (h0 : ∀ l a w, I 0 l a w → Region.ready md ops l = [] ∧ Q .normal a w)
    (h1 : ∀ k l a w, I (k + 1) l a w → (Region.ready md ops l = [] → Q .normal a w) ∧ ∀ i ∈ Region.ready md ops l, wpOp P ops Q i (I k (l.setIfInBounds i true)) a w) :
    ∀ (k : Nat) (l : Array Bool) (a : Act) (w : World), I k l a w → wpAny P md ops Q k l a w
  | 0, l, a, w, h => h0 l a w h
  | k + 1, l, a, w, h => ⟨(h1 k l a w h).1, fun i hi => wpOp_mono (fun a' w' h' => wpAny_inv I h0 h1 k _ a' w' h') ((h1 k l a w h).2 i hi)⟩
end Go.Proofs.YtlgjadnkokmjoaaDoor
