/-
  The field of 256 elements as plain functions on bytes: products bit by bit, and what is left of them by 301; that they make a field. No conditions but those typed.
-/
import Derived.Test.YtobeaoooaagdkaaWordMath
namespace Go.Proofs.Ytobeaoooaagdkaa
set_option maxRecDepth 100000

/-- The product of two polynomials over two elements, by the first i bits of the second one. -/
def clN (a b : Nat) : Nat → Nat
  | 0 => 0
  | i + 1 => if b / 2 ^ i % 2 = 1 then clN a b i ^^^ a * 2 ^ i else clN a b i
/-- What is left, of the bit k. -/
def stepN (p k : Nat) : Nat := if p / 2 ^ k % 2 = 1 then p ^^^ 301 * 2 ^ (k - 8) else p
def redN (p : Nat) : Nat := stepN (stepN (stepN (stepN (stepN (stepN (stepN p 14) 13) 12) 11) 10) 9) 8
def mulN (a b : Nat) : Nat := redN (clN a b 8)
def mulB (a b : UInt8) : UInt8 := UInt8.ofNat (mulN a.toNat b.toNat)
def addB (a b : UInt8) : UInt8 := a ^^^ b

theorem bit_xor (p q k : Nat) : (p ^^^ q) / 2 ^ k % 2 = 1 ↔ ¬ (p / 2 ^ k % 2 = 1 ↔ q / 2 ^ k % 2 = 1) := by
  have e : ∀ x : Nat, x / 2 ^ k % 2 = 1 ↔ x.testBit k = true := fun x => by
    rw [Nat.testBit_eq_decide_div_mod_eq]
    simp
  rw [e, e, e, Nat.testBit_xor]
  cases p.testBit k <;> cases q.testBit k <;> simp
theorem mul_xor (p q i : Nat) : (p ^^^ q) * 2 ^ i = p * 2 ^ i ^^^ q * 2 ^ i := by
  rw [← Nat.shiftLeft_eq, ← Nat.shiftLeft_eq, ← Nat.shiftLeft_eq, Nat.shiftLeft_xor_distrib]
theorem xor_four (a b c d : Nat) : (a ^^^ b) ^^^ (c ^^^ d) = (a ^^^ c) ^^^ (b ^^^ d) := by ac_rfl
theorem stepN_xor (p q k : Nat) : stepN (p ^^^ q) k = stepN p k ^^^ stepN q k := by
  unfold stepN
  have h := bit_xor p q k
  by_cases hp : p / 2 ^ k % 2 = 1 <;> by_cases hq : q / 2 ^ k % 2 = 1
  · rw [if_neg (by rw [h]; simp [hp, hq]), if_pos hp, if_pos hq, xor_four, Nat.xor_self, Nat.xor_zero]
  · rw [if_pos (by rw [h]; simp [hp, hq]), if_pos hp, if_neg hq]; ac_rfl
  · rw [if_pos (by rw [h]; simp [hp, hq]), if_neg hp, if_pos hq]; ac_rfl
  · rw [if_neg (by rw [h]; simp [hp, hq]), if_neg hp, if_neg hq]
theorem redN_xor (p q : Nat) : redN (p ^^^ q) = redN p ^^^ redN q := by
  unfold redN
  rw [stepN_xor, stepN_xor, stepN_xor, stepN_xor, stepN_xor, stepN_xor, stepN_xor]
theorem clN_xor_left (a a' b : Nat) : ∀ i, clN (a ^^^ a') b i = clN a b i ^^^ clN a' b i
  | 0 => by simp [clN]
  | i + 1 => by
    unfold clN
    rw [clN_xor_left a a' b i, mul_xor]
    split
    · rw [xor_four]
    · rfl
theorem clN_xor_right (a b b' : Nat) : ∀ i, clN a (b ^^^ b') i = clN a b i ^^^ clN a b' i
  | 0 => by simp [clN]
  | i + 1 => by
    unfold clN
    rw [clN_xor_right a b b' i]
    have h := bit_xor b b' i
    by_cases hp : b / 2 ^ i % 2 = 1 <;> by_cases hq : b' / 2 ^ i % 2 = 1
    · rw [if_neg (by rw [h]; simp [hp, hq]), if_pos hp, if_pos hq, xor_four, Nat.xor_self, Nat.xor_zero]
    · rw [if_pos (by rw [h]; simp [hp, hq]), if_pos hp, if_neg hq]; ac_rfl
    · rw [if_pos (by rw [h]; simp [hp, hq]), if_neg hp, if_pos hq]; ac_rfl
    · rw [if_neg (by rw [h]; simp [hp, hq]), if_neg hp, if_neg hq]
theorem ofNat_xor (p q : Nat) : UInt8.ofNat (p ^^^ q) = UInt8.ofNat p ^^^ UInt8.ofNat q := by
  apply UInt8.toNat_inj.1
  rw [UInt8.toNat_xor, UInt8.toNat_ofNat', UInt8.toNat_ofNat', UInt8.toNat_ofNat']
  exact Nat.xor_mod_two_pow
theorem mul_add_left (a a' b : UInt8) : mulB (addB a a') b = addB (mulB a b) (mulB a' b) := by
  unfold mulB mulN addB
  rw [UInt8.toNat_xor, clN_xor_left, redN_xor, ofNat_xor]
theorem mul_add_right (a b b' : UInt8) : mulB a (addB b b') = addB (mulB a b) (mulB a b') := by
  unfold mulB mulN addB
  rw [UInt8.toNat_xor, clN_xor_right, redN_xor, ofNat_xor]

/-! ### What is additive is told by the eight bits -/
theorem all_bytes {p : UInt8 → Prop} (h : ∀ n, n < 256 → p (UInt8.ofNat n)) (x : UInt8) : p x := by
  have := h x.toNat x.toNat_lt
  rwa [UInt8.ofNat_toNat] at this
theorem byte_bits (x : UInt8) : x = (x &&& 1) ^^^ ((x &&& 2) ^^^ ((x &&& 4) ^^^ ((x &&& 8) ^^^ ((x &&& 16) ^^^ ((x &&& 32) ^^^ ((x &&& 64) ^^^ (x &&& 128))))))) := by
  refine all_bytes (p := fun x => x = (x &&& 1) ^^^ ((x &&& 2) ^^^ ((x &&& 4) ^^^ ((x &&& 8) ^^^ ((x &&& 16) ^^^ ((x &&& 32) ^^^ ((x &&& 64) ^^^ (x &&& 128)))))))) ?_ x
  decide +kernel
theorem bit_or (x : UInt8) : ((x &&& 1) = 0 ∨ (x &&& 1) = 1) ∧ ((x &&& 2) = 0 ∨ (x &&& 2) = 2) ∧ ((x &&& 4) = 0 ∨ (x &&& 4) = 4) ∧ ((x &&& 8) = 0 ∨ (x &&& 8) = 8) ∧ ((x &&& 16) = 0 ∨ (x &&& 16) = 16) ∧ ((x &&& 32) = 0 ∨ (x &&& 32) = 32) ∧ ((x &&& 64) = 0 ∨ (x &&& 64) = 64) ∧ ((x &&& 128) = 0 ∨ (x &&& 128) = 128) := by
  refine all_bytes (p := fun x => ((x &&& 1) = 0 ∨ (x &&& 1) = 1) ∧ ((x &&& 2) = 0 ∨ (x &&& 2) = 2) ∧ ((x &&& 4) = 0 ∨ (x &&& 4) = 4) ∧ ((x &&& 8) = 0 ∨ (x &&& 8) = 8) ∧ ((x &&& 16) = 0 ∨ (x &&& 16) = 16) ∧ ((x &&& 32) = 0 ∨ (x &&& 32) = 32) ∧ ((x &&& 64) = 0 ∨ (x &&& 64) = 64) ∧ ((x &&& 128) = 0 ∨ (x &&& 128) = 128)) ?_ x
  decide +kernel
def bitsB : List UInt8 := [1, 2, 4, 8, 16, 32, 64, 128]
theorem add_self (x : UInt8) : addB x x = 0 := UInt8.xor_self
theorem add_zero (x : UInt8) : addB x 0 = x := UInt8.xor_zero
theorem zero_add (x : UInt8) : addB 0 x = x := UInt8.zero_xor
theorem add_comm (x y : UInt8) : addB x y = addB y x := UInt8.xor_comm x y
theorem add_assoc (x y z : UInt8) : addB (addB x y) z = addB x (addB y z) := UInt8.xor_assoc x y z
theorem additive_zero {f : UInt8 → UInt8} (hf : ∀ x y, f (addB x y) = addB (f x) (f y)) : f 0 = 0 := by
  have := hf 0 0
  rw [add_self, add_self] at this
  exact this
theorem additive_eq {f g : UInt8 → UInt8} (hf : ∀ x y, f (addB x y) = addB (f x) (f y)) (hg : ∀ x y, g (addB x y) = addB (g x) (g y)) (h : ∀ b ∈ bitsB, f b = g b) (x : UInt8) : f x = g x := by
  have f0 := additive_zero hf
  have g0 := additive_zero hg
  have one : ∀ (y b : UInt8), b ∈ bitsB → (y = 0 ∨ y = b) → f y = g y := by
    intro y b hb hy
    rcases hy with rfl | rfl
    · rw [f0, g0]
    · exact h _ hb
  obtain ⟨h1, h2, h3, h4, h5, h6, h7, h8⟩ := bit_or x
  have e1 := one _ 1 (by simp [bitsB]) h1
  have e2 := one _ 2 (by simp [bitsB]) h2
  have e3 := one _ 4 (by simp [bitsB]) h3
  have e4 := one _ 8 (by simp [bitsB]) h4
  have e5 := one _ 16 (by simp [bitsB]) h5
  have e6 := one _ 32 (by simp [bitsB]) h6
  have e7 := one _ 64 (by simp [bitsB]) h7
  have e8 := one _ 128 (by simp [bitsB]) h8
  have hx := byte_bits x
  generalize x &&& 1 = x1 at *
  generalize x &&& 2 = x2 at *
  generalize x &&& 4 = x3 at *
  generalize x &&& 8 = x4 at *
  generalize x &&& 16 = x5 at *
  generalize x &&& 32 = x6 at *
  generalize x &&& 64 = x7 at *
  generalize x &&& 128 = x8 at *
  have hx' : x = addB x1 (addB x2 (addB x3 (addB x4 (addB x5 (addB x6 (addB x7 x8)))))) := hx
  rw [hx', hf, hf, hf, hf, hf, hf, hf, hg, hg, hg, hg, hg, hg, hg, e1, e2, e3, e4, e5, e6, e7, e8]

theorem mul_comm (a b : UInt8) : mulB a b = mulB b a := by
  refine additive_eq (f := fun a => mulB a b) (g := fun a => mulB b a) (fun x y => mul_add_left x y b) (fun x y => mul_add_right b x y) (fun u hu => ?_) a
  refine additive_eq (f := fun b => mulB u b) (g := fun b => mulB b u) (fun x y => mul_add_right u x y) (fun x y => mul_add_left x y u) (fun v hv => ?_) b
  have : ∀ u ∈ bitsB, ∀ v ∈ bitsB, mulB u v = mulB v u := by decide +kernel
  exact this u hu v hv
theorem mul_assoc (a b c : UInt8) : mulB (mulB a b) c = mulB a (mulB b c) := by
  refine additive_eq (f := fun a => mulB (mulB a b) c) (g := fun a => mulB a (mulB b c)) (fun x y => by rw [mul_add_left, mul_add_left]) (fun x y => mul_add_left x y _) (fun u hu => ?_) a
  refine additive_eq (f := fun b => mulB (mulB u b) c) (g := fun b => mulB u (mulB b c)) (fun x y => by rw [mul_add_right, mul_add_left]) (fun x y => by rw [mul_add_left, mul_add_right]) (fun v hv => ?_) b
  refine additive_eq (f := fun c => mulB (mulB u v) c) (g := fun c => mulB u (mulB v c)) (fun x y => mul_add_right _ x y) (fun x y => by rw [mul_add_right, mul_add_right]) (fun w hw => ?_) c
  have : ∀ u ∈ bitsB, ∀ v ∈ bitsB, ∀ w ∈ bitsB, mulB (mulB u v) w = mulB u (mulB v w) := by decide +kernel
  exact this u hu v hv w hw
theorem mul_one (a : UInt8) : mulB a 1 = a := by
  refine additive_eq (f := fun a => mulB a 1) (g := fun a => a) (fun x y => mul_add_left x y 1) (fun _ _ => rfl) (fun u hu => ?_) a
  have : ∀ u ∈ bitsB, mulB u 1 = u := by decide +kernel
  exact this u hu
theorem one_mul (a : UInt8) : mulB 1 a = a := by rw [mul_comm, mul_one]
theorem mul_zero (a : UInt8) : mulB a 0 = 0 := additive_zero (f := fun b => mulB a b) (fun x y => mul_add_right a x y)
theorem zero_mul (a : UInt8) : mulB 0 a = 0 := by rw [mul_comm, mul_zero]

/-! ### Powers of 2 -/
def powB (a : UInt8) : Nat → UInt8
  | 0 => 1
  | n + 1 => mulB (powB a n) a
theorem pow_add (a : UInt8) (m : Nat) : ∀ n, powB a (m + n) = mulB (powB a m) (powB a n)
  | 0 => by rw [powB, mul_one]; rfl
  | n + 1 => by rw [← Nat.add_assoc, powB, pow_add a m n, powB, mul_assoc]
theorem pow_mul (a : UInt8) (m : Nat) : ∀ n, powB a (m * n) = powB (powB a m) n
  | 0 => rfl
  | n + 1 => by rw [Nat.mul_succ, pow_add, pow_mul a m n, powB]
theorem pow_one (n : Nat) : powB 1 n = 1 := by
  induction n with
  | zero => rfl
  | succ n ih => rw [powB, ih, mul_one]

/-- The powers of 2 from 0 on. -/
def expL : List UInt8 := [1, 2, 4, 8, 16, 32, 64, 128, 45, 90, 180, 69, 138, 57, 114, 228, 229, 231, 227, 235, 251, 219, 155, 27, 54, 108, 216, 157, 23, 46, 92, 184, 93, 186, 89, 178, 73, 146, 9, 18, 36, 72, 144, 13, 26, 52, 104, 208, 141, 55, 110, 220, 149, 7, 14, 28, 56, 112, 224, 237, 247, 195, 171, 123, 246, 193, 175, 115, 230, 225, 239, 243, 203, 187, 91, 182, 65, 130, 41, 82, 164, 101, 202, 185, 95, 190, 81, 162, 105, 210, 137, 63, 126, 252, 213, 135, 35, 70, 140, 53, 106, 212, 133, 39, 78, 156, 21, 42, 84, 168, 125, 250, 217, 159, 19, 38, 76, 152, 29, 58, 116, 232, 253, 215, 131, 43, 86, 172, 117, 234, 249, 223, 147, 11, 22, 44, 88, 176, 77, 154, 25, 50, 100, 200, 189, 87, 174, 113, 226, 233, 255, 211, 139, 59, 118, 236, 245, 199, 163, 107, 214, 129, 47, 94, 188, 85, 170, 121, 242, 201, 191, 83, 166, 97, 194, 169, 127, 254, 209, 143, 51, 102, 204, 181, 71, 142, 49, 98, 196, 165, 103, 206, 177, 79, 158, 17, 34, 68, 136, 61, 122, 244, 197, 167, 99, 198, 161, 111, 222, 145, 15, 30, 60, 120, 240, 205, 183, 67, 134, 33, 66, 132, 37, 74, 148, 5, 10, 20, 40, 80, 160, 109, 218, 153, 31, 62, 124, 248, 221, 151, 3, 6, 12, 24, 48, 96, 192, 173, 119, 238, 241, 207, 179, 75, 150]
def logL : List Nat := [0, 0, 1, 240, 2, 225, 241, 53, 3, 38, 226, 133, 242, 43, 54, 210, 4, 195, 39, 114, 227, 106, 134, 28, 243, 140, 44, 23, 55, 118, 211, 234, 5, 219, 196, 96, 40, 222, 115, 103, 228, 78, 107, 125, 135, 8, 29, 162, 244, 186, 141, 180, 45, 99, 24, 49, 56, 13, 119, 153, 212, 199, 235, 91, 6, 76, 220, 217, 197, 11, 97, 184, 41, 36, 223, 253, 116, 138, 104, 193, 229, 86, 79, 171, 108, 165, 126, 145, 136, 34, 9, 74, 30, 32, 163, 84, 245, 173, 187, 204, 142, 81, 181, 190, 46, 88, 100, 159, 25, 231, 50, 207, 57, 147, 14, 67, 120, 128, 154, 248, 213, 167, 200, 63, 236, 110, 92, 176, 7, 161, 77, 124, 221, 102, 218, 95, 198, 90, 12, 152, 98, 48, 185, 179, 42, 209, 37, 132, 224, 52, 254, 239, 117, 233, 139, 22, 105, 27, 194, 113, 230, 206, 87, 158, 80, 189, 172, 203, 109, 175, 166, 62, 127, 247, 146, 66, 137, 192, 35, 252, 10, 183, 75, 216, 31, 83, 33, 73, 164, 144, 85, 170, 246, 65, 174, 61, 188, 202, 205, 157, 143, 169, 82, 72, 182, 215, 191, 251, 47, 178, 89, 151, 101, 94, 160, 123, 26, 112, 232, 21, 51, 238, 208, 131, 58, 69, 148, 18, 15, 16, 68, 17, 121, 149, 129, 19, 155, 59, 249, 70, 214, 250, 168, 71, 201, 156, 64, 60, 237, 130, 111, 20, 93, 122, 177, 150]
theorem expL_length : expL.length = 255 := by decide +kernel
theorem expL_step : ∀ i, i < 254 → expL.getD (i + 1) 0 = mulB (expL.getD i 0) 2 := by decide +kernel
theorem exp_at : ∀ i, i < 255 → powB 2 i = expL.getD i 0
  | 0, _ => rfl
  | i + 1, h => by rw [powB, exp_at i (by omega), expL_step i (by omega)]
theorem exp_255 : powB 2 255 = 1 := by
  rw [show (255 : Nat) = 254 + 1 by rfl, powB, exp_at 254 (by omega)]
  decide +kernel
/-- Each element but 0 is a power of 2. -/
def logB (a : UInt8) : Nat := logL.getD a.toNat 0
theorem log_table : ∀ n, n < 256 → (n = 0 ∨ logL.getD n 0 < 255 ∧ expL.getD (logL.getD n 0) 0 = UInt8.ofNat n) := by decide +kernel
theorem exp_table : ∀ i, i < 255 → expL.getD i 0 ≠ 0 ∧ logL.getD (expL.getD i 0).toNat 0 = i := by decide +kernel
theorem log_lt (a : UInt8) (h : a ≠ 0) : logB a < 255 := by
  have := log_table a.toNat a.toNat_lt
  rcases this with h0 | ⟨h1, _⟩
  · exact absurd (UInt8.toNat_inj.1 h0) h
  · exact h1
theorem exp_log (a : UInt8) (h : a ≠ 0) : powB 2 (logB a) = a := by
  have := log_table a.toNat a.toNat_lt
  rcases this with h0 | ⟨h1, h2⟩
  · exact absurd (UInt8.toNat_inj.1 h0) h
  · rw [exp_at _ (log_lt a h)]
    unfold logB
    rw [h2, UInt8.ofNat_toNat]
theorem log_exp (i : Nat) (h : i < 255) : logB (powB 2 i) = i := by
  rw [exp_at i h]
  exact (exp_table i h).2
theorem exp_ne (i : Nat) : powB 2 i ≠ 0 := by
  have e : powB 2 i = powB 2 (i % 255) := by
    conv => lhs; rw [← Nat.div_add_mod i 255]
    rw [pow_add, pow_mul, exp_255, pow_one, one_mul]
  rw [e, exp_at _ (Nat.mod_lt _ (by omega))]
  exact (exp_table _ (Nat.mod_lt _ (by omega))).1
theorem exp_mod (i : Nat) : powB 2 i = powB 2 (i % 255) := by
  conv => lhs; rw [← Nat.div_add_mod i 255]
  rw [pow_add, pow_mul, exp_255, pow_one, one_mul]
theorem mul_ne (a b : UInt8) (ha : a ≠ 0) (hb : b ≠ 0) : mulB a b ≠ 0 := by
  rw [← exp_log a ha, ← exp_log b hb, ← pow_add]
  exact exp_ne _
theorem mul_eq_zero (a b : UInt8) : mulB a b = 0 ↔ a = 0 ∨ b = 0 := by
  constructor
  · intro h
    by_cases ha : a = 0
    · exact .inl ha
    · by_cases hb : b = 0
      · exact .inr hb
      · exact absurd h (mul_ne a b ha hb)
  · rintro (rfl | rfl)
    · exact zero_mul _
    · exact mul_zero _
theorem log_mul (a b : UInt8) (ha : a ≠ 0) (hb : b ≠ 0) : logB (mulB a b) = (logB a + logB b) % 255 := by
  conv => lhs; rw [← exp_log a ha, ← exp_log b hb, ← pow_add, exp_mod]
  exact log_exp _ (Nat.mod_lt _ (by omega))
theorem pow_255 (a : UInt8) (ha : a ≠ 0) : powB a 255 = 1 := by
  rw [← exp_log a ha, ← pow_mul, Nat.mul_comm, pow_mul, exp_255, pow_one]
theorem pow_mod (a : UInt8) (ha : a ≠ 0) (n : Nat) : powB a n = powB a (n % 255) := by
  conv => lhs; rw [← Nat.div_add_mod n 255]
  rw [pow_add, pow_mul, pow_255 a ha, pow_one, one_mul]
/-- The inverse. -/
def invB (a : UInt8) : UInt8 := powB a 254
theorem mul_inv (a : UInt8) (ha : a ≠ 0) : mulB a (invB a) = 1 := by
  have e : mulB (powB a 254) a = powB a 255 := rfl
  rw [invB, mul_comm, e, pow_255 a ha]
theorem inv_ne (a : UInt8) (ha : a ≠ 0) : invB a ≠ 0 := by
  intro h
  have := mul_inv a ha
  rw [h, mul_zero] at this
  exact absurd this (by decide)
theorem mul_cancel (a b c : UInt8) (ha : a ≠ 0) (h : mulB a b = mulB a c) : b = c := by
  have := congrArg (mulB (invB a)) h
  rwa [← mul_assoc, ← mul_assoc, mul_comm (invB a) a, mul_inv a ha, one_mul, one_mul] at this
theorem inv_unique (a b : UInt8) (h : mulB a b = 1) : b = invB a := by
  have ha : a ≠ 0 := by
    rintro rfl
    rw [zero_mul] at h
    exact absurd h (by decide)
  exact mul_cancel a b (invB a) ha (by rw [h, mul_inv a ha])
theorem square_add (a b : UInt8) : mulB (addB a b) (addB a b) = addB (mulB a a) (mulB b b) := by
  rw [mul_add_left, mul_add_right, mul_add_right, mul_comm b a, add_assoc, ← add_assoc (mulB a b) (mulB a b), add_self, zero_add]
end Go.Proofs.Ytobeaoooaagdkaa
