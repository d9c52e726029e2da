/-
  In how many places two are unlike (plain). No conditions but those typed.
-/
import Derived.Test.YtankddeolpickaaSolMath
namespace Go.Proofs.Ytankddeolpickaa
set_option maxRecDepth 100000
set_option linter.unusedVariables false
set_option linter.unusedSimpArgs false

theorem wt_cons (c : UInt8) (b : List UInt8) : wtL (c :: b) = (if c = 0 then 0 else 1) + wtL b := by
  unfold wtL
  by_cases h : c = 0
  · subst h
    rw [List.filter_cons_of_neg (by simp), if_pos rfl, Nat.zero_add]
  · rw [List.filter_cons_of_pos (by simpa using h), if_neg h, List.length_cons, Nat.add_comm]
theorem dif_nil_left (b : List UInt8) : difL [] b = 0 := by simp [difL, wtL]
theorem dif_cons (x y : UInt8) (a b : List UInt8) : difL (x :: a) (y :: b) = (if addB x y = 0 then 0 else 1) + difL a b := by
  unfold difL
  rw [List.zipWith_cons_cons, wt_cons]
theorem dif_set : ∀ (a b : List UInt8) (q : Nat) (z : UInt8), difL a (b.set q z) ≤ difL a b + 1
  | [], b, q, z => by rw [dif_nil_left]; omega
  | x :: a, [], q, z => by simp [difL, wtL]
  | x :: a, y :: b, 0, z => by
    rw [List.set_cons_zero, dif_cons, dif_cons]
    split <;> split <;> omega
  | x :: a, y :: b, q + 1, z => by
    rw [List.set_cons_succ, dif_cons, dif_cons]
    have := dif_set a b q z
    omega
theorem dif_self (a : List UInt8) : difL a a = 0 := by
  unfold difL
  rw [zip_self, wt_zeros]
end Go.Proofs.Ytankddeolpickaa
