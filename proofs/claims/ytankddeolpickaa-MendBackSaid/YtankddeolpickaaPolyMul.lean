/-
  What the reference's calls Mul and Slope of layer 8 answer. No conditions but those typed.
-/
import Derived.Test.YtankddeolpickaaPolyRef2
namespace Go.Proofs.Ytankddeolpickaa
set_option maxRecDepth 100000
open Go.RowKit
set_option linter.unusedSimpArgs false
set_option linter.unusedVariables false

def InRel (f : Nat → UInt8) (hi : Nat) (w : World) (v i : Value) (wr : World) : Prop :=
  ∃ k : Nat, k ≤ hi ∧ i = .int .i64 (k : Int) ∧ v = .int .u8 ((f k).toNat : Int) ∧ Below w.heap.size w wr

end Go.Proofs.Ytankddeolpickaa
