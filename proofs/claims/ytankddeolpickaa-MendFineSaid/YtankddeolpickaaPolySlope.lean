/-
  What the reference's calls Slope and Quo of layer 8 answer. No conditions but those typed.
-/
import Derived.Test.YtankddeolpickaaPolyMul
namespace Go.Proofs.Ytankddeolpickaa
set_option maxRecDepth 100000
open Go.RowKit
set_option linter.unusedSimpArgs false
set_option linter.unusedVariables false

def addN (x : UInt8) : Nat → UInt8
  | 0 => 0
  | n + 1 => xorB (addN x n) x
theorem addN_parity (x : UInt8) : ∀ n, addN x n = if n % 2 = 0 then 0 else x
  | 0 => rfl
  | n + 1 => by
    rw [addN, addN_parity x n]
    by_cases h : n % 2 = 0
    · rw [if_pos h, if_neg (by omega)]
      exact UInt8.zero_xor
    · rw [if_neg h, if_pos (by omega)]
      exact UInt8.xor_self
theorem slope_addN (p : List UInt8) (k : Nat) : co (slopeL p) k = addN (co p (k + 1)) (k + 1) := by
  rw [co_slope, addN_parity]
  by_cases h : k % 2 = 0
  · rw [if_pos h, if_neg (by omega)]
  · rw [if_neg h, if_pos (by omega)]
theorem slope_length (p : List UInt8) (k : Nat) (h : p.length ≤ k + 1) : co (slopeL p) k = 0 := by
  rw [co_slope, co_ge p (k + 1) h]
  split <;> rfl
theorem slope_tab (p : List UInt8) : plainL (tabL (co (slopeL p)) (p.length - 1)) = plainL (slopeL p) := plain_congr fun k => by
  rw [co_tab]
  split
  · rfl
  · rw [slope_length p k (by omega)]

end Go.Proofs.Ytankddeolpickaa
