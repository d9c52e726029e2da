/-
  Bits held in a number, and one group, as plain functions. No conditions but those typed.
-/
import Derived.Test.YtaknikbnajkccaaStuffMath
namespace Go.Proofs.Ytaknikbnajkccaa
set_option maxRecDepth 100000
set_option linter.unusedVariables false
set_option linter.unusedSimpArgs false

/-! ### Bits held in a number -/
/-- The number of bits, the highest first. -/
def numB (l : List Bool) : Nat := l.foldl (fun v x => 2 * v + x.toNat) 0
theorem numB_snoc (l : List Bool) (x : Bool) : numB (l ++ [x]) = 2 * numB l + x.toNat := by unfold numB; rw [List.foldl_append]; rfl
theorem snoc_ind {p : List Bool → Prop} (h0 : p []) (h1 : ∀ l x, p l → p (l ++ [x])) (l : List Bool) : p l := by
  have : ∀ (n : Nat) (l : List Bool), l.length = n → p l := by
    intro n
    induction n with
    | zero => intro l hl; rw [List.eq_nil_of_length_eq_zero hl]; exact h0
    | succ n ih =>
      intro l hl
      have hne : l ≠ [] := by intro e; subst e; simp at hl
      rw [← List.dropLast_concat_getLast hne]
      exact h1 _ _ (ih _ (by rw [List.length_dropLast, hl]; rfl))
  exact this _ l rfl
theorem numB_append (a b : List Bool) : numB (a ++ b) = numB a * 2 ^ b.length + numB b := by
  refine snoc_ind (p := fun b => numB (a ++ b) = numB a * 2 ^ b.length + numB b) ?_ ?_ b
  · simp [numB]
  · intro l x ih
    rw [← List.append_assoc, numB_snoc, numB_snoc, ih, List.length_append, List.length_singleton, Nat.pow_succ]
    have : numB a * (2 ^ l.length * 2) = 2 * (numB a * 2 ^ l.length) := by rw [← Nat.mul_assoc, Nat.mul_comm]
    omega
theorem numB_lt (l : List Bool) : numB l < 2 ^ l.length := by
  refine snoc_ind (p := fun l => numB l < 2 ^ l.length) (by decide) ?_ l
  intro l x ih
  rw [numB_snoc, List.length_append, List.length_singleton, Nat.pow_succ]
  have : x.toNat < 2 := by cases x <;> decide
  omega
theorem val8_num (l : List Bool) : (val8 l).toNat = numB l % 256 := by
  refine snoc_ind (p := fun l => (val8 l).toNat = numB l % 256) rfl ?_ l
  intro l x ih
  have e : val8 (l ++ [x]) = 2 * val8 l + oneB x := by unfold val8; rw [List.foldl_append]; rfl
  have ex : (oneB x).toNat = x.toNat := by cases x <;> rfl
  have : x.toNat < 2 := by cases x <;> decide
  rw [e, numB_snoc, UInt8.toNat_add, UInt8.toNat_mul, ih, ex]
  have : (2 : UInt8).toNat = 2 := rfl
  rw [this]
  omega
theorem bits_num (c : UInt8) : numB (bits8 c) = c.toNat := by
  have h := val8_num (bits8 c)
  have h2 := numB_lt (bits8 c)
  rw [val_bits] at h
  have : (2 : Nat) ^ (bits8 c).length = 256 := by rw [show (bits8 c).length = 8 from rfl]
  omega
/-- The lowest bits of a number are those: all of P. -/
def Holds (H : Nat) (P : List Bool) : Prop := H % 2 ^ P.length = numB P
theorem two64 : 18446744073709551616 = 2 ^ 64 := (by simp)
theorem Holds.nil (H : Nat) : Holds H [] := by unfold Holds; simp [numB]; omega
theorem Holds.more {H : Nat} {P : List Bool} (h : Holds H P) (R : List Bool) (hl : P.length + R.length ≤ 64) : Holds ((H * 2 ^ R.length + numB R) % 18446744073709551616) (P ++ R) := by
  unfold Holds at h ⊢
  have hp : (2 : Nat) ^ 64 = 2 ^ (P.length + R.length) * 2 ^ (64 - (P.length + R.length)) := by rw [← Nat.pow_add]; congr 1; omega
  rw [show 18446744073709551616 = 2 ^ 64 from two64, List.length_append, hp, Nat.mod_mul_right_mod, numB_append, ← h, Nat.pow_add]
  have hr := numB_lt R
  have e : H * 2 ^ R.length + numB R = (H / 2 ^ P.length) * (2 ^ P.length * 2 ^ R.length) + (H % 2 ^ P.length * 2 ^ R.length + numB R) := by
    conv => lhs; rw [← Nat.div_add_mod H (2 ^ P.length)]
    rw [Nat.add_mul, Nat.mul_comm (2 ^ P.length) (H / _), Nat.mul_assoc]
    omega
  rw [e, Nat.mul_comm (H / _), Nat.mul_add_mod, Nat.mod_eq_of_lt]
  have h1 : H % 2 ^ P.length + 1 ≤ 2 ^ P.length := Nat.mod_lt _ (Nat.two_pow_pos _)
  have h2 := Nat.mul_le_mul_right (2 ^ R.length) h1
  rw [Nat.add_mul, Nat.one_mul] at h2
  omega
theorem Holds.rest {H : Nat} {P : List Bool} (h : Holds H P) (k : Nat) : Holds H (P.drop k) := by
  unfold Holds at h ⊢
  have e : numB P = numB (P.take k) * 2 ^ (P.drop k).length + numB (P.drop k) := by rw [← numB_append, List.take_append_drop]
  have hd : 2 ^ (P.drop k).length ∣ 2 ^ P.length := Nat.pow_dvd_pow 2 (by rw [List.length_drop]; omega)
  rw [← Nat.mod_mod_of_dvd H hd, h, e, Nat.mul_add_mod_self_right, Nat.mod_eq_of_lt (numB_lt _)]
theorem Holds.top {H : Nat} {P : List Bool} (h : Holds H P) (h8 : 8 ≤ P.length) : H / 2 ^ (P.length - 8) % 256 = (val8 (P.take 8)).toNat := by
  unfold Holds at h
  have e : numB P = numB (P.take 8) * 2 ^ (P.drop 8).length + numB (P.drop 8) := by rw [← numB_append, List.take_append_drop]
  have hl : (P.drop 8).length = P.length - 8 := List.length_drop
  have hp : (2 : Nat) ^ P.length = 2 ^ (P.length - 8) * 256 := by rw [show (256 : Nat) = 2 ^ 8 by decide, ← Nat.pow_add]; congr 1; omega
  have ht := numB_lt (P.take 8)
  rw [List.length_take, Nat.min_eq_left h8] at ht
  rw [val8_num, Nat.mod_eq_of_lt (show numB (P.take 8) < 256 from ht), ← Nat.mod_mul_right_div_self, ← hp, h, e, hl, Nat.mul_comm]
  have := numB_lt (P.drop 8)
  rw [hl] at this
  rw [Nat.mul_add_div (Nat.two_pow_pos _), Nat.div_eq_of_lt this]
  rfl
theorem num_ones (n : Nat) : numB (List.replicate n true) + 1 = 2 ^ n := by
  induction n with
  | zero => rfl
  | succ n ih =>
    rw [List.replicate_succ', numB_snoc, Nat.pow_succ]
    show 2 * _ + 1 + 1 = _
    omega
/-- What is left, and ones behind it, as the program's shifts have it. -/
theorem Holds.last {H : Nat} {P : List Bool} (h : Holds H P) (h8 : P.length ≤ 8) : ((H + 1) * 2 ^ (8 - P.length) - 1) % 256 = (val8 (P ++ List.replicate (8 - P.length) true)).toNat := by
  unfold Holds at h
  rw [val8_num, numB_append, List.length_replicate, ← h]
  have h1 := num_ones (8 - P.length)
  have hp : (256 : Nat) = 2 ^ P.length * 2 ^ (8 - P.length) := by rw [← Nat.pow_add, show P.length + (8 - P.length) = 8 by omega]
  have e : (H + 1) * 2 ^ (8 - P.length) - 1 = 256 * (H / 2 ^ P.length) + (H % 2 ^ P.length * 2 ^ (8 - P.length) + numB (List.replicate (8 - P.length) true)) := by
    conv => lhs; rw [← Nat.div_add_mod H (2 ^ P.length)]
    rw [Nat.add_mul, Nat.add_mul, Nat.one_mul, hp, Nat.mul_right_comm]
    omega
  rw [e, Nat.mul_add_mod]

/-! ### One group -/
def gz (y : UInt8) : UInt8 := val8 (g7 (bits8 y) ++ [eighth (bits8 y)])
def gt (y : UInt8) : Nat := taken (bits8 y)
def alikeT (y : UInt8) : Bool := decide (y.toNat / 2 = 0 ∨ y.toNat / 2 = 127)
theorem g_table : ∀ n, n < 256 → (gt (UInt8.ofNat n) = if alikeT (UInt8.ofNat n) then 7 else 8) ∧ (gz (UInt8.ofNat n)).toNat = (if alikeT (UInt8.ofNat n) then (n &&& 254) ||| (1 - n / 128) else n) ∧ rawG (UInt8.ofNat n) = (if alikeT (UInt8.ofNat n) then (bits8 (UInt8.ofNat n)).take 7 else bits8 (UInt8.ofNat n)) := by decide +kernel
theorem g_eq (M : List Bool) (y : UInt8) (h : bits8 y = M.take 8 ++ List.replicate (8 - M.length) true) : gz y = val8 (g7 M ++ [eighth M]) ∧ gt y = taken M := by
  rw [← g8_pad] at h
  have h1 : g7 (bits8 y) = g7 M := by rw [h]; rfl
  have h2 : (bits8 y).getD 7 true = M.getD 7 true := by rw [h]; rfl
  unfold gz gt eighth taken
  rw [h1, h2]
  exact ⟨rfl, rfl⟩
theorem val_take (M : List Bool) (h : 8 ≤ M.length) (y : UInt8) (hy : y.toNat = (val8 (M.take 8)).toNat) : bits8 y = M.take 8 ++ List.replicate (8 - M.length) true := by
  rw [UInt8.toNat_inj.1 hy, bits_val8 _ (by rw [List.length_take]; omega), show 8 - M.length = 0 by omega, List.replicate_zero, List.append_nil]
theorem val_last (M : List Bool) (h : M.length ≤ 8) (y : UInt8) (hy : y.toNat = (val8 (M ++ List.replicate (8 - M.length) true)).toNat) : bits8 y = M.take 8 ++ List.replicate (8 - M.length) true := by
  rw [UInt8.toNat_inj.1 hy, bits_val8 _ (by rw [List.length_append, List.length_replicate]; omega), List.take_of_length_le h]
end Go.Proofs.Ytaknikbnajkccaa
