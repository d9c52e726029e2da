/-
  Layer 7: how the program reckons: products by doubling, powers by squaring. Plain.
-/
import Derived.Test.YtankddeolpickaaGfMath
namespace Go.Proofs.Ytankddeolpickaa
set_option maxRecDepth 100000

/-! ### A product by doubling: the bits of the second one below j -/
def lowB (b : UInt8) (j : Nat) : UInt8 := UInt8.ofNat (b.toNat % 2 ^ j)
def dblB (a : UInt8) (j : Nat) : UInt8 := mulB a (powB 2 j)
theorem lowB_zero (b : UInt8) : lowB b 0 = 0 := by
  unfold lowB
  rw [Nat.pow_zero, Nat.mod_one]
  rfl
theorem lowB_eight (b : UInt8) : lowB b 8 = b := by
  have h : b.toNat % 2 ^ 8 = b.toNat := Nat.mod_eq_of_lt b.toNat_lt
  unfold lowB
  rw [h, UInt8.ofNat_toNat]
theorem low_table : ∀ j, j < 8 → ∀ n, n < 256 → UInt8.ofNat (n % 2 ^ (j + 1)) = addB (UInt8.ofNat (n % 2 ^ j)) (if n / 2 ^ j % 2 = 1 then powB 2 j else 0) := by decide +kernel
theorem low_step (b : UInt8) (j : Nat) (hj : j < 8) : lowB b (j + 1) = addB (lowB b j) (if b.toNat / 2 ^ j % 2 = 1 then powB 2 j else 0) :=
  low_table j hj b.toNat b.toNat_lt
theorem dbl_zero (a : UInt8) : dblB a 0 = a := mul_one a
theorem dbl_step (a : UInt8) (j : Nat) : mulB (dblB a j) 2 = dblB a (j + 1) := by
  unfold dblB
  rw [mul_assoc]
  rfl
theorem mul_step (a b : UInt8) (j : Nat) (hj : j < 8) : addB (mulB a (lowB b j)) (if b.toNat / 2 ^ j % 2 = 1 then dblB a j else 0) = mulB a (lowB b (j + 1)) := by
  rw [low_step b j hj, mul_add_right]
  congr 1
  split
  · rfl
  · rw [mul_zero]
theorem mul_start (a b : UInt8) : mulB a (lowB b 0) = 0 := by rw [lowB_zero, mul_zero]
theorem mul_end (a b : UInt8) : mulB a (lowB b 8) = mulB a b := by rw [lowB_eight]
/-- Twice an element. -/
theorem times_table : ∀ n, n < 256 → (mulB (UInt8.ofNat n) 2).toNat = (n * 2 % 256) ^^^ (n / 128 * 45) := by decide +kernel
theorem times_any (a : UInt8) : (mulB a 2).toNat = (a.toNat * 2 % 256) ^^^ (a.toNat / 128 * 45) := by
  have := times_table a.toNat a.toNat_lt
  rwa [UInt8.ofNat_toNat] at this

/-! ### A power by squaring -/
def sqB (a : UInt8) (j : Nat) : UInt8 := powB a (2 ^ j)
theorem sq_zero (a : UInt8) : sqB a 0 = a := by
  unfold sqB
  rw [Nat.pow_zero]
  show mulB 1 a = a
  exact one_mul a
theorem sq_step (a : UInt8) (j : Nat) : mulB (sqB a j) (sqB a j) = sqB a (j + 1) := by
  unfold sqB
  rw [← pow_add, Nat.pow_succ, Nat.mul_two]
theorem pow_start (a : UInt8) (r : Nat) : powB a (r % 2 ^ 0) = 1 := by rw [Nat.pow_zero, Nat.mod_one]; rfl
theorem pow_bit (a : UInt8) (r j : Nat) (h : r / 2 ^ j % 2 = 1) : mulB (powB a (r % 2 ^ j)) (sqB a j) = powB a (r % 2 ^ (j + 1)) := by
  unfold sqB
  rw [← pow_add, Nat.mod_pow_succ, h, Nat.mul_one]
theorem pow_none (a : UInt8) (r j : Nat) (h : ¬ r / 2 ^ j % 2 = 1) : powB a (r % 2 ^ j) = powB a (r % 2 ^ (j + 1)) := by
  have h0 : r / 2 ^ j % 2 = 0 := by omega
  rw [Nat.mod_pow_succ, h0, Nat.mul_zero, Nat.add_zero]
theorem pow_end (a : UInt8) (r : Nat) (h : r < 255) : powB a (r % 2 ^ 8) = powB a r := by rw [Nat.mod_eq_of_lt (by omega)]

/-! ### A logarithm by trying -/
theorem log_not (a : UInt8) (j : Nat) (ha : a ≠ 0) (hj : j < logB a) : powB 2 j ≠ a := by
  intro e
  have hl := log_lt a ha
  have := log_exp j (by omega)
  rw [e] at this
  omega
end Go.Proofs.Ytankddeolpickaa
