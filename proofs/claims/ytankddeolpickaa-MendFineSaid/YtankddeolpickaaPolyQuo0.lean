/-
  What the reference's call Quo of layer 8 answers. No conditions but those typed.
-/
import Derived.Test.YtankddeolpickaaPolySlope
namespace Go.Proofs.Ytankddeolpickaa
set_option maxRecDepth 100000
open Go.RowKit
set_option linter.unusedSimpArgs false
set_option linter.unusedVariables false

/-- What a division hands back: both plain. -/
def QuoRes (p q : List UInt8) (w : World) (e : Ending) (w' : World) : Prop :=
  ∃ (a r : List UInt8) (A B : Option Addr) (n m c d : Nat), e = .returned (.tuple #[.slice A n c, .slice B m d]) ∧ Hid (a.length = n) ∧ Hid (r.length = m) ∧ n ≤ c ∧ m ≤ d ∧ Rd vB w' A a ∧ Rd vB w' B r ∧ Below w.heap.size w w' ∧ Hid (IsQuo p q a r ∧ plainL a = a ∧ plainL r = r)
def DivRel (p q : List UInt8) (w : World) (u v : Value) (wr : World) : Prop :=
  ∃ (a l : List UInt8) (A B : Option Addr) (n m c d : Nat), u = .slice B m d ∧ v = .slice A n c ∧ Hid (a.length = n) ∧ Hid (l.length = m) ∧ n ≤ c ∧ m ≤ d ∧ n ≤ 50001 ∧ m ≤ 50000 ∧ Rd vB wr A a ∧ Rd vB wr B l ∧ Below w.heap.size w wr ∧ Hid (Eqv (addL (mulL a q) l) p ∧ plainL a = a ∧ plainL l = l)
theorem plain_mul_nil (q l : List UInt8) : Eqv (addL (mulL [] q) l) l := fun k => by
  rw [mulL, addL]
theorem quo_often_len (a : List UInt8) (n : Nat) (t : UInt8) : (plainL (addL a (shiftL n [t]))).length ≤ max a.length (n + 1) := by
  refine Nat.le_trans (plain_len _) ?_
  rw [addL_length, shift_length]
  exact Nat.le_refl _

theorem scale_one_shift (t : UInt8) (j : Nat) : shiftL j (scaleL t [1]) = shiftL j [t] := by
  rw [scaleL, List.map_cons, List.map_nil, mul_one]
end Go.Proofs.Ytankddeolpickaa
