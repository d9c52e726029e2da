/-
  Plain facts on words of 32 bits, bytes and numbers (no program is named here): a word turned to the right, the eight bytes of a number, the number of bytes. No conditions but those typed.
-/
import Derived.Laws.BitsAllLaws
import Derived.Laws.BitsLemmas
import Derived.IntWalk
import Derived.RowKit
import Derived.Below
import Derived.Laws.OwnMore
import Derived.Deep.Draws
import Derived.Deep.AppendLies
import Derived.Laws.BytesArg
import Derived.Laws.Slices
import Derived.Laws.MakeOwn
import Derived.Test.YtankddeolpickaaRows
import Derived.WalkKit
import Derived.WalkSpells
import Derived.LoopTactic
import Derived.Lib.Hide
import Derived.OwnWalk
namespace Go.Proofs.Ytankddeolpickaa
set_option maxRecDepth 100000
open Go.RowKit

/-! ### Words turned -/
def rotR (x : UInt32) (s : Nat) : UInt32 := ⟨x.toBitVec.rotateRight s⟩

theorem rot_bit (x : BitVec 32) (s i : Nat) (hi : i < 32) : (x.rotateRight s).getLsbD i = x.getLsbD ((i + s) % 32) := by
  rw [BitVec.getLsbD_rotateRight]
  have h32 : s % 32 < 32 := Nat.mod_lt _ (by omega)
  by_cases h : i < 32 - s % 32
  · have e : s % 32 + i = (i + s) % 32 := by omega
    simp [h, e]
  · have e : i - (32 - s % 32) = (i + s) % 32 := by omega
    simp [h, e, hi]

theorem rotR_rotR (x : UInt32) (s t : Nat) : rotR (rotR x s) t = rotR x (s + t) := by
  unfold rotR
  congr 1
  apply BitVec.eq_of_getLsbD_eq
  intro i hi
  rw [rot_bit _ _ _ hi, rot_bit _ _ _ (Nat.mod_lt _ (by omega)), rot_bit _ _ _ hi]
  congr 1
  omega

theorem rotR_mod (x : UInt32) (s : Nat) : rotR x (s % 32) = rotR x s := by
  unfold rotR
  rw [BitVec.rotateRight_mod_eq_rotateRight]

theorem rotR_same (x : UInt32) {s t : Nat} (h : s % 32 = t % 32) : rotR x s = rotR x t := by
  rw [← rotR_mod x s, ← rotR_mod x t, h]

theorem rotR_zero (x : UInt32) : rotR x 0 = x := by
  unfold rotR
  have : x.toBitVec.rotateRight 0 = x.toBitVec := by
    apply BitVec.eq_of_getLsbD_eq
    intro i hi
    rw [rot_bit _ _ _ hi]
    congr 1
    omega
  rw [this]

theorem rotR_32 (x : UInt32) : rotR x 32 = x := by
  rw [← rotR_mod]
  exact rotR_zero x

theorem u32_lt (x : UInt32) : x.toNat < 4294967296 := x.toNat_lt

/-- What the library's two shifts and 'or' give, is the word turned. -/
theorem shifts_rot (x : UInt32) (s : Nat) (hs : s < 32) :
    bits .or .u32 ((x.toNat : Int) * 2 ^ s % 4294967296) ((x.toNat : Int) / 2 ^ (32 - s)) = ((rotR x (32 - s)).toNat : Int) := by
  have hx := u32_lt x
  have e1 : (x.toNat : Int) * 2 ^ s % 4294967296 = ((x.toNat * 2 ^ s % 4294967296 : Nat) : Int) := by
    rw [Int.natCast_emod, Int.natCast_mul, Int.natCast_pow]
    rfl
  have e2 : (x.toNat : Int) / 2 ^ (32 - s) = ((x.toNat / 2 ^ (32 - s) : Nat) : Int) := by
    rw [Int.natCast_ediv, Int.natCast_pow]
    rfl
  have hd : x.toNat / 2 ^ (32 - s) < 4294967296 := Nat.lt_of_le_of_lt (Nat.div_le_self _ _) hx
  rw [e1, e2, u32_or_nat _ _ (Nat.mod_lt _ (by omega)) hd]
  congr 1
  have hb : (rotR x (32 - s)).toNat = (x.toBitVec <<< s ||| x.toBitVec >>> (32 - s)).toNat := by
    show (x.toBitVec.rotateRight (32 - s)).toNat = _
    congr 1
    apply BitVec.eq_of_getLsbD_eq
    intro i hi
    rw [rot_bit _ _ _ hi, BitVec.getLsbD_or, BitVec.getLsbD_shiftLeft, BitVec.getLsbD_ushiftRight]
    by_cases h : i < s
    · have e : (i + (32 - s)) % 32 = 32 - s + i := by omega
      simp [hi, h, e]
    · have e : (i + (32 - s)) % 32 = i - s := by omega
      have e' : x.toBitVec.getLsbD (32 - s + i) = false := BitVec.getLsbD_of_ge _ _ (by omega)
      simp [hi, h, e, e']
  rw [hb, BitVec.toNat_or, BitVec.toNat_shiftLeft, BitVec.toNat_ushiftRight, Nat.shiftLeft_eq, Nat.shiftRight_eq_div_pow]
  rfl

/-- The count by which the library turns to the left. -/
theorem and31 (n : Int) : bits .and .u64 (IntKind.u64.wrap (wrap64 (-n))) 31 = (((-n) % 32).toNat : Int) := by
  have hw : IntKind.u64.wrap (wrap64 (-n)) = (((-n) % 18446744073709551616).toNat : Int) := by
    rw [IntKind.wrap_u64]
    unfold wrap64
    omega
  rw [hw, show (31 : Int) = ((31 : Nat) : Int) from rfl, u64_and_nat _ _ (by omega) (by omega)]
  have := Nat.and_two_pow_sub_one_eq_mod ((-n) % 18446744073709551616).toNat 5
  simp only [Nat.reducePow, Nat.reduceSub] at this
  rw [this]
  omega

/-! ### Numbers and their bytes -/
/-- The number of bytes, the highest first. -/
def valN (l : List UInt8) : Nat := l.foldl (fun v c => v * 256 + c.toNat) 0

theorem valN_snoc (l : List UInt8) (c : UInt8) : valN (l ++ [c]) = valN l * 256 + c.toNat := by
  unfold valN
  rw [List.foldl_append]
  rfl
theorem valN_take (l : List UInt8) (k : Nat) (h : k < l.length) : valN (l.take (k + 1)) = valN (l.take k) * 256 + l[k].toNat := by
  rw [List.take_succ_eq_append_getElem h, valN_snoc]

/-- One byte more, as the program's shift and 'or' have it. -/
theorem join_step (a c : Nat) (hc : c < 256) :
    bits .or .u64 (IntKind.u64.wrap ((a : Int) % 18446744073709551616 * 256)) (c : Int) = (((a * 256 + c) % 18446744073709551616 : Nat) : Int) := by
  have e : IntKind.u64.wrap ((a : Int) % 18446744073709551616 * 256) = ((2 ^ 8 * (a % 72057594037927936) : Nat) : Int) := by
    rw [IntKind.wrap_u64]
    omega
  rw [e, u64_or_nat _ _ (by omega) (by omega), ← Nat.two_pow_add_eq_or_of_lt (by omega)]
  congr 1
  omega

theorem valN_lt (l : List UInt8) : valN l < 256 ^ l.length := by
  suffices h : ∀ (l : List UInt8) (v : Nat), l.foldl (fun v c => v * 256 + c.toNat) v < (v + 1) * 256 ^ l.length by
    have := h l 0
    unfold valN
    omega
  intro l
  induction l with
  | nil => intro v; simp
  | cons c l ih =>
    intro v
    have h := ih (v * 256 + c.toNat)
    have hc : c.toNat < 256 := c.toNat_lt
    refine Nat.lt_of_lt_of_le h ?_
    rw [List.length_cons, Nat.pow_succ, Nat.mul_comm (256 ^ l.length) 256, ← Nat.mul_assoc]
    exact Nat.mul_le_mul_right _ (by omega)
theorem valN_lt8 (l : List UInt8) (h : l.length ≤ 8) : valN l < 18446744073709551616 :=
  Nat.lt_of_lt_of_le (valN_lt l) (Nat.pow_le_pow_right (by omega) h)

/-- word.Get's and word.FromLeast's answers: the number, and the code. -/
def getR (l : List UInt8) : Nat × Int := if l.length = 8 then (valN l, 0) else (0, 1)
def fromR (l : List UInt8) : Nat × Int := if 8 < l.length then (0, 4) else if l.head? = some 0 then (0, 3) else (valN l, 0)

/-- The eight bytes of a number, the highest first; its least bytes. -/
def putL (v : Nat) : List UInt8 := (List.range 8).map fun i => UInt8.ofNat (v / 256 ^ (7 - i))
def leastL (v : Nat) : List UInt8 := (putL v).dropWhile (· == 0)

/-- The words whose bytes these are; what is left over doesn't count. The bytes of words. -/
def wordsL : List UInt8 → List UInt32
  | a :: b :: c :: d :: r => UInt32.ofNat (valN [a, b, c, d]) :: wordsL r
  | _ => []
def bytesW (x : UInt32) : List UInt8 := [UInt8.ofNat (x.toNat / 16777216), UInt8.ofNat (x.toNat / 65536), UInt8.ofNat (x.toNat / 256), UInt8.ofNat x.toNat]
def bytesL (l : List UInt32) : List UInt8 := l.flatMap bytesW

theorem wordsL_short (l : List UInt8) (h : l.length < 4) : wordsL l = [] := by
  match l, h with
  | [], _ => rfl
  | [_], _ => rfl
  | [_, _], _ => rfl
  | [_, _, _], _ => rfl
  | _ :: _ :: _ :: _ :: _, h => simp at h; omega

theorem ret_int2 {k k' : IntKind} {a b a' b' : Int} (h : a = b) (h' : a' = b') : Ending.returned (.tuple #[.int k a, .int k' a']) = .returned (.tuple #[.int k b, .int k' b']) := by rw [h, h']
theorem ret_int {k : IntKind} {a b : Int} (h : a = b) : Ending.returned (.int k a) = .returned (.int k b) := by rw [h]


/-- A byte turned by another one (behind a name of its own: 'simp' would take 'toNat' apart). -/
def xorB (x y : UInt8) : UInt8 := x ^^^ y
theorem u8_lt (x : UInt8) : x.toNat < 256 := x.toNat_lt
theorem u8_xor_b (x y : UInt8) : bits .xor .u8 (x.toNat : Int) (y.toNat : Int) = ((xorB x y).toNat : Int) := by
  rw [u8_xor_nat _ _ (u8_lt x) (u8_lt y)]
  simp [xorB]
theorem xorB_ne (x y : UInt8) (h : y ≠ 0) : xorB x y ≠ x := by
  intro e
  apply h
  have := congrArg (fun z => x ^^^ z) e
  simp only [xorB, ← UInt8.xor_assoc, UInt8.xor_self, UInt8.zero_xor] at this
  exact this
end Go.Proofs.Ytankddeolpickaa
/-
  The field of 256 elements as plain functions on bytes: products bit by bit, and what is left of them by 301; that they make a field. No conditions but those typed.
-/
namespace Go.Proofs.Ytankddeolpickaa
set_option maxRecDepth 100000

/-- The product of two polynomials over two elements, by the first i bits of the second one. -/
def clN (a b : Nat) : Nat → Nat
  | 0 => 0
  | i + 1 => if b / 2 ^ i % 2 = 1 then clN a b i ^^^ a * 2 ^ i else clN a b i
/-- What is left, of the bit k. -/
def stepN (p k : Nat) : Nat := if p / 2 ^ k % 2 = 1 then p ^^^ 301 * 2 ^ (k - 8) else p
def redN (p : Nat) : Nat := stepN (stepN (stepN (stepN (stepN (stepN (stepN p 14) 13) 12) 11) 10) 9) 8
def mulN (a b : Nat) : Nat := redN (clN a b 8)
def mulB (a b : UInt8) : UInt8 := UInt8.ofNat (mulN a.toNat b.toNat)
def addB (a b : UInt8) : UInt8 := a ^^^ b

theorem bit_xor (p q k : Nat) : (p ^^^ q) / 2 ^ k % 2 = 1 ↔ ¬ (p / 2 ^ k % 2 = 1 ↔ q / 2 ^ k % 2 = 1) := by
  have e : ∀ x : Nat, x / 2 ^ k % 2 = 1 ↔ x.testBit k = true := fun x => by
    rw [Nat.testBit_eq_decide_div_mod_eq]
    simp
  rw [e, e, e, Nat.testBit_xor]
  cases p.testBit k <;> cases q.testBit k <;> simp
theorem mul_xor (p q i : Nat) : (p ^^^ q) * 2 ^ i = p * 2 ^ i ^^^ q * 2 ^ i := by
  rw [← Nat.shiftLeft_eq, ← Nat.shiftLeft_eq, ← Nat.shiftLeft_eq, Nat.shiftLeft_xor_distrib]
theorem xor_four (a b c d : Nat) : (a ^^^ b) ^^^ (c ^^^ d) = (a ^^^ c) ^^^ (b ^^^ d) := by ac_rfl
theorem stepN_xor (p q k : Nat) : stepN (p ^^^ q) k = stepN p k ^^^ stepN q k := by
  unfold stepN
  have h := bit_xor p q k
  by_cases hp : p / 2 ^ k % 2 = 1 <;> by_cases hq : q / 2 ^ k % 2 = 1
  · rw [if_neg (by rw [h]; simp [hp, hq]), if_pos hp, if_pos hq, xor_four, Nat.xor_self, Nat.xor_zero]
  · rw [if_pos (by rw [h]; simp [hp, hq]), if_pos hp, if_neg hq]; ac_rfl
  · rw [if_pos (by rw [h]; simp [hp, hq]), if_neg hp, if_pos hq]; ac_rfl
  · rw [if_neg (by rw [h]; simp [hp, hq]), if_neg hp, if_neg hq]
theorem redN_xor (p q : Nat) : redN (p ^^^ q) = redN p ^^^ redN q := by
  unfold redN
  rw [stepN_xor, stepN_xor, stepN_xor, stepN_xor, stepN_xor, stepN_xor, stepN_xor]
theorem clN_xor_left (a a' b : Nat) : ∀ i, clN (a ^^^ a') b i = clN a b i ^^^ clN a' b i
  | 0 => by simp [clN]
  | i + 1 => by
    unfold clN
    rw [clN_xor_left a a' b i, mul_xor]
    split
    · rw [xor_four]
    · rfl
theorem clN_xor_right (a b b' : Nat) : ∀ i, clN a (b ^^^ b') i = clN a b i ^^^ clN a b' i
  | 0 => by simp [clN]
  | i + 1 => by
    unfold clN
    rw [clN_xor_right a b b' i]
    have h := bit_xor b b' i
    by_cases hp : b / 2 ^ i % 2 = 1 <;> by_cases hq : b' / 2 ^ i % 2 = 1
    · rw [if_neg (by rw [h]; simp [hp, hq]), if_pos hp, if_pos hq, xor_four, Nat.xor_self, Nat.xor_zero]
    · rw [if_pos (by rw [h]; simp [hp, hq]), if_pos hp, if_neg hq]; ac_rfl
    · rw [if_pos (by rw [h]; simp [hp, hq]), if_neg hp, if_pos hq]; ac_rfl
    · rw [if_neg (by rw [h]; simp [hp, hq]), if_neg hp, if_neg hq]
theorem ofNat_xor (p q : Nat) : UInt8.ofNat (p ^^^ q) = UInt8.ofNat p ^^^ UInt8.ofNat q := by
  apply UInt8.toNat_inj.1
  rw [UInt8.toNat_xor, UInt8.toNat_ofNat', UInt8.toNat_ofNat', UInt8.toNat_ofNat']
  exact Nat.xor_mod_two_pow
theorem mul_add_left (a a' b : UInt8) : mulB (addB a a') b = addB (mulB a b) (mulB a' b) := by
  unfold mulB mulN addB
  rw [UInt8.toNat_xor, clN_xor_left, redN_xor, ofNat_xor]
theorem mul_add_right (a b b' : UInt8) : mulB a (addB b b') = addB (mulB a b) (mulB a b') := by
  unfold mulB mulN addB
  rw [UInt8.toNat_xor, clN_xor_right, redN_xor, ofNat_xor]

/-! ### What is additive is told by the eight bits -/
theorem all_bytes {p : UInt8 → Prop} (h : ∀ n, n < 256 → p (UInt8.ofNat n)) (x : UInt8) : p x := by
  have := h x.toNat x.toNat_lt
  rwa [UInt8.ofNat_toNat] at this
theorem byte_bits (x : UInt8) : x = (x &&& 1) ^^^ ((x &&& 2) ^^^ ((x &&& 4) ^^^ ((x &&& 8) ^^^ ((x &&& 16) ^^^ ((x &&& 32) ^^^ ((x &&& 64) ^^^ (x &&& 128))))))) := by
  refine all_bytes (p := fun x => x = (x &&& 1) ^^^ ((x &&& 2) ^^^ ((x &&& 4) ^^^ ((x &&& 8) ^^^ ((x &&& 16) ^^^ ((x &&& 32) ^^^ ((x &&& 64) ^^^ (x &&& 128)))))))) ?_ x
  decide +kernel
theorem bit_or (x : UInt8) : ((x &&& 1) = 0 ∨ (x &&& 1) = 1) ∧ ((x &&& 2) = 0 ∨ (x &&& 2) = 2) ∧ ((x &&& 4) = 0 ∨ (x &&& 4) = 4) ∧ ((x &&& 8) = 0 ∨ (x &&& 8) = 8) ∧ ((x &&& 16) = 0 ∨ (x &&& 16) = 16) ∧ ((x &&& 32) = 0 ∨ (x &&& 32) = 32) ∧ ((x &&& 64) = 0 ∨ (x &&& 64) = 64) ∧ ((x &&& 128) = 0 ∨ (x &&& 128) = 128) := by
  refine all_bytes (p := fun x => ((x &&& 1) = 0 ∨ (x &&& 1) = 1) ∧ ((x &&& 2) = 0 ∨ (x &&& 2) = 2) ∧ ((x &&& 4) = 0 ∨ (x &&& 4) = 4) ∧ ((x &&& 8) = 0 ∨ (x &&& 8) = 8) ∧ ((x &&& 16) = 0 ∨ (x &&& 16) = 16) ∧ ((x &&& 32) = 0 ∨ (x &&& 32) = 32) ∧ ((x &&& 64) = 0 ∨ (x &&& 64) = 64) ∧ ((x &&& 128) = 0 ∨ (x &&& 128) = 128)) ?_ x
  decide +kernel
def bitsB : List UInt8 := [1, 2, 4, 8, 16, 32, 64, 128]
theorem add_self (x : UInt8) : addB x x = 0 := UInt8.xor_self
theorem add_zero (x : UInt8) : addB x 0 = x := UInt8.xor_zero
theorem zero_add (x : UInt8) : addB 0 x = x := UInt8.zero_xor
theorem add_comm (x y : UInt8) : addB x y = addB y x := UInt8.xor_comm x y
theorem add_assoc (x y z : UInt8) : addB (addB x y) z = addB x (addB y z) := UInt8.xor_assoc x y z
theorem additive_zero {f : UInt8 → UInt8} (hf : ∀ x y, f (addB x y) = addB (f x) (f y)) : f 0 = 0 := by
  have := hf 0 0
  rw [add_self, add_self] at this
  exact this
theorem additive_eq {f g : UInt8 → UInt8} (hf : ∀ x y, f (addB x y) = addB (f x) (f y)) (hg : ∀ x y, g (addB x y) = addB (g x) (g y)) (h : ∀ b ∈ bitsB, f b = g b) (x : UInt8) : f x = g x := by
  have f0 := additive_zero hf
  have g0 := additive_zero hg
  have one : ∀ (y b : UInt8), b ∈ bitsB → (y = 0 ∨ y = b) → f y = g y := by
    intro y b hb hy
    rcases hy with rfl | rfl
    · rw [f0, g0]
    · exact h _ hb
  obtain ⟨h1, h2, h3, h4, h5, h6, h7, h8⟩ := bit_or x
  have e1 := one _ 1 (by simp [bitsB]) h1
  have e2 := one _ 2 (by simp [bitsB]) h2
  have e3 := one _ 4 (by simp [bitsB]) h3
  have e4 := one _ 8 (by simp [bitsB]) h4
  have e5 := one _ 16 (by simp [bitsB]) h5
  have e6 := one _ 32 (by simp [bitsB]) h6
  have e7 := one _ 64 (by simp [bitsB]) h7
  have e8 := one _ 128 (by simp [bitsB]) h8
  have hx := byte_bits x
  generalize x &&& 1 = x1 at *
  generalize x &&& 2 = x2 at *
  generalize x &&& 4 = x3 at *
  generalize x &&& 8 = x4 at *
  generalize x &&& 16 = x5 at *
  generalize x &&& 32 = x6 at *
  generalize x &&& 64 = x7 at *
  generalize x &&& 128 = x8 at *
  have hx' : x = addB x1 (addB x2 (addB x3 (addB x4 (addB x5 (addB x6 (addB x7 x8)))))) := hx
  rw [hx', hf, hf, hf, hf, hf, hf, hf, hg, hg, hg, hg, hg, hg, hg, e1, e2, e3, e4, e5, e6, e7, e8]

theorem mul_comm (a b : UInt8) : mulB a b = mulB b a := by
  refine additive_eq (f := fun a => mulB a b) (g := fun a => mulB b a) (fun x y => mul_add_left x y b) (fun x y => mul_add_right b x y) (fun u hu => ?_) a
  refine additive_eq (f := fun b => mulB u b) (g := fun b => mulB b u) (fun x y => mul_add_right u x y) (fun x y => mul_add_left x y u) (fun v hv => ?_) b
  have : ∀ u ∈ bitsB, ∀ v ∈ bitsB, mulB u v = mulB v u := by decide +kernel
  exact this u hu v hv
theorem mul_assoc (a b c : UInt8) : mulB (mulB a b) c = mulB a (mulB b c) := by
  refine additive_eq (f := fun a => mulB (mulB a b) c) (g := fun a => mulB a (mulB b c)) (fun x y => by rw [mul_add_left, mul_add_left]) (fun x y => mul_add_left x y _) (fun u hu => ?_) a
  refine additive_eq (f := fun b => mulB (mulB u b) c) (g := fun b => mulB u (mulB b c)) (fun x y => by rw [mul_add_right, mul_add_left]) (fun x y => by rw [mul_add_left, mul_add_right]) (fun v hv => ?_) b
  refine additive_eq (f := fun c => mulB (mulB u v) c) (g := fun c => mulB u (mulB v c)) (fun x y => mul_add_right _ x y) (fun x y => by rw [mul_add_right, mul_add_right]) (fun w hw => ?_) c
  have : ∀ u ∈ bitsB, ∀ v ∈ bitsB, ∀ w ∈ bitsB, mulB (mulB u v) w = mulB u (mulB v w) := by decide +kernel
  exact this u hu v hv w hw
theorem mul_one (a : UInt8) : mulB a 1 = a := by
  refine additive_eq (f := fun a => mulB a 1) (g := fun a => a) (fun x y => mul_add_left x y 1) (fun _ _ => rfl) (fun u hu => ?_) a
  have : ∀ u ∈ bitsB, mulB u 1 = u := by decide +kernel
  exact this u hu
theorem one_mul (a : UInt8) : mulB 1 a = a := by rw [mul_comm, mul_one]
theorem mul_zero (a : UInt8) : mulB a 0 = 0 := additive_zero (f := fun b => mulB a b) (fun x y => mul_add_right a x y)
theorem zero_mul (a : UInt8) : mulB 0 a = 0 := by rw [mul_comm, mul_zero]

/-! ### Powers of 2 -/
def powB (a : UInt8) : Nat → UInt8
  | 0 => 1
  | n + 1 => mulB (powB a n) a
theorem pow_add (a : UInt8) (m : Nat) : ∀ n, powB a (m + n) = mulB (powB a m) (powB a n)
  | 0 => by rw [powB, mul_one]; rfl
  | n + 1 => by rw [← Nat.add_assoc, powB, pow_add a m n, powB, mul_assoc]
theorem pow_mul (a : UInt8) (m : Nat) : ∀ n, powB a (m * n) = powB (powB a m) n
  | 0 => rfl
  | n + 1 => by rw [Nat.mul_succ, pow_add, pow_mul a m n, powB]
theorem pow_one (n : Nat) : powB 1 n = 1 := by
  induction n with
  | zero => rfl
  | succ n ih => rw [powB, ih, mul_one]

/-- The powers of 2 from 0 on. -/
def expL : List UInt8 := [1, 2, 4, 8, 16, 32, 64, 128, 45, 90, 180, 69, 138, 57, 114, 228, 229, 231, 227, 235, 251, 219, 155, 27, 54, 108, 216, 157, 23, 46, 92, 184, 93, 186, 89, 178, 73, 146, 9, 18, 36, 72, 144, 13, 26, 52, 104, 208, 141, 55, 110, 220, 149, 7, 14, 28, 56, 112, 224, 237, 247, 195, 171, 123, 246, 193, 175, 115, 230, 225, 239, 243, 203, 187, 91, 182, 65, 130, 41, 82, 164, 101, 202, 185, 95, 190, 81, 162, 105, 210, 137, 63, 126, 252, 213, 135, 35, 70, 140, 53, 106, 212, 133, 39, 78, 156, 21, 42, 84, 168, 125, 250, 217, 159, 19, 38, 76, 152, 29, 58, 116, 232, 253, 215, 131, 43, 86, 172, 117, 234, 249, 223, 147, 11, 22, 44, 88, 176, 77, 154, 25, 50, 100, 200, 189, 87, 174, 113, 226, 233, 255, 211, 139, 59, 118, 236, 245, 199, 163, 107, 214, 129, 47, 94, 188, 85, 170, 121, 242, 201, 191, 83, 166, 97, 194, 169, 127, 254, 209, 143, 51, 102, 204, 181, 71, 142, 49, 98, 196, 165, 103, 206, 177, 79, 158, 17, 34, 68, 136, 61, 122, 244, 197, 167, 99, 198, 161, 111, 222, 145, 15, 30, 60, 120, 240, 205, 183, 67, 134, 33, 66, 132, 37, 74, 148, 5, 10, 20, 40, 80, 160, 109, 218, 153, 31, 62, 124, 248, 221, 151, 3, 6, 12, 24, 48, 96, 192, 173, 119, 238, 241, 207, 179, 75, 150]
def logL : List Nat := [0, 0, 1, 240, 2, 225, 241, 53, 3, 38, 226, 133, 242, 43, 54, 210, 4, 195, 39, 114, 227, 106, 134, 28, 243, 140, 44, 23, 55, 118, 211, 234, 5, 219, 196, 96, 40, 222, 115, 103, 228, 78, 107, 125, 135, 8, 29, 162, 244, 186, 141, 180, 45, 99, 24, 49, 56, 13, 119, 153, 212, 199, 235, 91, 6, 76, 220, 217, 197, 11, 97, 184, 41, 36, 223, 253, 116, 138, 104, 193, 229, 86, 79, 171, 108, 165, 126, 145, 136, 34, 9, 74, 30, 32, 163, 84, 245, 173, 187, 204, 142, 81, 181, 190, 46, 88, 100, 159, 25, 231, 50, 207, 57, 147, 14, 67, 120, 128, 154, 248, 213, 167, 200, 63, 236, 110, 92, 176, 7, 161, 77, 124, 221, 102, 218, 95, 198, 90, 12, 152, 98, 48, 185, 179, 42, 209, 37, 132, 224, 52, 254, 239, 117, 233, 139, 22, 105, 27, 194, 113, 230, 206, 87, 158, 80, 189, 172, 203, 109, 175, 166, 62, 127, 247, 146, 66, 137, 192, 35, 252, 10, 183, 75, 216, 31, 83, 33, 73, 164, 144, 85, 170, 246, 65, 174, 61, 188, 202, 205, 157, 143, 169, 82, 72, 182, 215, 191, 251, 47, 178, 89, 151, 101, 94, 160, 123, 26, 112, 232, 21, 51, 238, 208, 131, 58, 69, 148, 18, 15, 16, 68, 17, 121, 149, 129, 19, 155, 59, 249, 70, 214, 250, 168, 71, 201, 156, 64, 60, 237, 130, 111, 20, 93, 122, 177, 150]
theorem expL_length : expL.length = 255 := by decide +kernel
theorem expL_step : ∀ i, i < 254 → expL.getD (i + 1) 0 = mulB (expL.getD i 0) 2 := by decide +kernel
theorem exp_at : ∀ i, i < 255 → powB 2 i = expL.getD i 0
  | 0, _ => rfl
  | i + 1, h => by rw [powB, exp_at i (by omega), expL_step i (by omega)]
theorem exp_255 : powB 2 255 = 1 := by
  rw [show (255 : Nat) = 254 + 1 by rfl, powB, exp_at 254 (by omega)]
  decide +kernel
/-- Each element but 0 is a power of 2. -/
def logB (a : UInt8) : Nat := logL.getD a.toNat 0
theorem log_table : ∀ n, n < 256 → (n = 0 ∨ logL.getD n 0 < 255 ∧ expL.getD (logL.getD n 0) 0 = UInt8.ofNat n) := by decide +kernel
theorem exp_table : ∀ i, i < 255 → expL.getD i 0 ≠ 0 ∧ logL.getD (expL.getD i 0).toNat 0 = i := by decide +kernel
theorem log_lt (a : UInt8) (h : a ≠ 0) : logB a < 255 := by
  have := log_table a.toNat a.toNat_lt
  rcases this with h0 | ⟨h1, _⟩
  · exact absurd (UInt8.toNat_inj.1 h0) h
  · exact h1
theorem exp_log (a : UInt8) (h : a ≠ 0) : powB 2 (logB a) = a := by
  have := log_table a.toNat a.toNat_lt
  rcases this with h0 | ⟨h1, h2⟩
  · exact absurd (UInt8.toNat_inj.1 h0) h
  · rw [exp_at _ (log_lt a h)]
    unfold logB
    rw [h2, UInt8.ofNat_toNat]
theorem log_exp (i : Nat) (h : i < 255) : logB (powB 2 i) = i := by
  rw [exp_at i h]
  exact (exp_table i h).2
theorem exp_ne (i : Nat) : powB 2 i ≠ 0 := by
  have e : powB 2 i = powB 2 (i % 255) := by
    conv => lhs; rw [← Nat.div_add_mod i 255]
    rw [pow_add, pow_mul, exp_255, pow_one, one_mul]
  rw [e, exp_at _ (Nat.mod_lt _ (by omega))]
  exact (exp_table _ (Nat.mod_lt _ (by omega))).1
theorem exp_mod (i : Nat) : powB 2 i = powB 2 (i % 255) := by
  conv => lhs; rw [← Nat.div_add_mod i 255]
  rw [pow_add, pow_mul, exp_255, pow_one, one_mul]
theorem mul_ne (a b : UInt8) (ha : a ≠ 0) (hb : b ≠ 0) : mulB a b ≠ 0 := by
  rw [← exp_log a ha, ← exp_log b hb, ← pow_add]
  exact exp_ne _
theorem mul_eq_zero (a b : UInt8) : mulB a b = 0 ↔ a = 0 ∨ b = 0 := by
  constructor
  · intro h
    by_cases ha : a = 0
    · exact .inl ha
    · by_cases hb : b = 0
      · exact .inr hb
      · exact absurd h (mul_ne a b ha hb)
  · rintro (rfl | rfl)
    · exact zero_mul _
    · exact mul_zero _
theorem log_mul (a b : UInt8) (ha : a ≠ 0) (hb : b ≠ 0) : logB (mulB a b) = (logB a + logB b) % 255 := by
  conv => lhs; rw [← exp_log a ha, ← exp_log b hb, ← pow_add, exp_mod]
  exact log_exp _ (Nat.mod_lt _ (by omega))
theorem pow_255 (a : UInt8) (ha : a ≠ 0) : powB a 255 = 1 := by
  rw [← exp_log a ha, ← pow_mul, Nat.mul_comm, pow_mul, exp_255, pow_one]
theorem pow_mod (a : UInt8) (ha : a ≠ 0) (n : Nat) : powB a n = powB a (n % 255) := by
  conv => lhs; rw [← Nat.div_add_mod n 255]
  rw [pow_add, pow_mul, pow_255 a ha, pow_one, one_mul]
/-- The inverse. -/
def invB (a : UInt8) : UInt8 := powB a 254
theorem mul_inv (a : UInt8) (ha : a ≠ 0) : mulB a (invB a) = 1 := by
  have e : mulB (powB a 254) a = powB a 255 := rfl
  rw [invB, mul_comm, e, pow_255 a ha]
theorem inv_ne (a : UInt8) (ha : a ≠ 0) : invB a ≠ 0 := by
  intro h
  have := mul_inv a ha
  rw [h, mul_zero] at this
  exact absurd this (by decide)
theorem mul_cancel (a b c : UInt8) (ha : a ≠ 0) (h : mulB a b = mulB a c) : b = c := by
  have := congrArg (mulB (invB a)) h
  rwa [← mul_assoc, ← mul_assoc, mul_comm (invB a) a, mul_inv a ha, one_mul, one_mul] at this
theorem inv_unique (a b : UInt8) (h : mulB a b = 1) : b = invB a := by
  have ha : a ≠ 0 := by
    rintro rfl
    rw [zero_mul] at h
    exact absurd h (by decide)
  exact mul_cancel a b (invB a) ha (by rw [h, mul_inv a ha])
theorem square_add (a b : UInt8) : mulB (addB a b) (addB a b) = addB (mulB a a) (mulB b b) := by
  rw [mul_add_left, mul_add_right, mul_add_right, mul_comm b a, add_assoc, ← add_assoc (mulB a b) (mulB a b), add_self, zero_add]
end Go.Proofs.Ytankddeolpickaa
/-
  Polynomials over the field of 256 elements as plain functions on lists of coefficients: sums, products, values, plain forms, division, slopes; the laws of a ring, up to zeros behind. No conditions but those typed.
-/
namespace Go.Proofs.Ytankddeolpickaa
set_option maxRecDepth 100000
set_option linter.unusedVariables false
set_option linter.unusedSimpArgs false

def co (p : List UInt8) (k : Nat) : UInt8 := p.getD k 0
theorem co_nil (k : Nat) : co [] k = 0 := by simp [co]
theorem co_zero (a : UInt8) (p : List UInt8) : co (a :: p) 0 = a := rfl
theorem co_succ (a : UInt8) (p : List UInt8) (k : Nat) : co (a :: p) (k + 1) = co p k := by simp [co]
theorem co_ge (p : List UInt8) (k : Nat) (h : p.length ≤ k) : co p k = 0 := by simp [co, List.getD_eq_getElem?_getD, List.getElem?_eq_none h]
theorem co_lt (p : List UInt8) (k : Nat) (h : k < p.length) : co p k = p[k] := by simp [co, List.getD_eq_getElem?_getD, List.getElem?_eq_getElem h]

/-- The same polynomial, zeros behind let aside. -/
def Eqv (p q : List UInt8) : Prop := ∀ k, co p k = co q k
theorem Eqv.refl (p : List UInt8) : Eqv p p := fun _ => rfl
theorem Eqv.symm {p q : List UInt8} (h : Eqv p q) : Eqv q p := fun k => (h k).symm
theorem Eqv.trans {p q r : List UInt8} (h : Eqv p q) (g : Eqv q r) : Eqv p r := fun k => (h k).trans (g k)
theorem Eqv.cons {p q : List UInt8} (a : UInt8) (h : Eqv p q) : Eqv (a :: p) (a :: q) := fun k => by
  cases k with
  | zero => rfl
  | succ k => rw [co_succ, co_succ, h k]
theorem Eqv.tail {a b : UInt8} {p q : List UInt8} (h : Eqv (a :: p) (b :: q)) : a = b ∧ Eqv p q := ⟨h 0, fun k => by have := h (k + 1); rwa [co_succ, co_succ] at this⟩
theorem Eqv.nil_cons {b : UInt8} {q : List UInt8} (h : Eqv [] (b :: q)) : b = 0 ∧ Eqv [] q := ⟨by have := h 0; rw [co_nil, co_zero] at this; exact this.symm, fun k => by have := h (k + 1); rwa [co_nil, co_succ, ← co_nil k] at this⟩
theorem zero_cons : Eqv [0] [] := fun k => by cases k <;> simp [co]
theorem cons_nil {p : List UInt8} (h : Eqv p []) : Eqv (0 :: p) [] := fun k => by
  cases k with
  | zero => rw [co_zero, co_nil]
  | succ k => rw [co_succ, h k, co_nil, co_nil]

/-! ### Sums, multiples, products -/
def addL : List UInt8 → List UInt8 → List UInt8
  | [], q => q
  | a :: p, [] => a :: p
  | a :: p, b :: q => addB a b :: addL p q
theorem co_add : ∀ (p q : List UInt8) (k : Nat), co (addL p q) k = addB (co p k) (co q k)
  | [], q, k => by rw [addL, co_nil, zero_add]
  | a :: p, [], k => by rw [addL, co_nil, add_zero]
  | a :: p, b :: q, 0 => rfl
  | a :: p, b :: q, k + 1 => by rw [addL, co_succ, co_succ, co_succ, co_add p q k]
def scaleL (a : UInt8) (p : List UInt8) : List UInt8 := p.map (mulB a)
theorem co_scale (a : UInt8) : ∀ (p : List UInt8) (k : Nat), co (scaleL a p) k = mulB a (co p k)
  | [], k => by rw [scaleL, List.map_nil, co_nil, mul_zero]
  | b :: p, 0 => rfl
  | b :: p, k + 1 => by rw [scaleL, List.map_cons, co_succ, co_succ]; exact co_scale a p k
def mulL : List UInt8 → List UInt8 → List UInt8
  | [], _ => []
  | a :: p, q => addL (scaleL a q) (0 :: mulL p q)
theorem add_congr {p p' q q' : List UInt8} (h : Eqv p p') (g : Eqv q q') : Eqv (addL p q) (addL p' q') := fun k => by rw [co_add, co_add, h k, g k]
theorem addL_comm (p q : List UInt8) : Eqv (addL p q) (addL q p) := fun k => by rw [co_add, co_add, add_comm]
theorem addL_assoc (p q r : List UInt8) : Eqv (addL (addL p q) r) (addL p (addL q r)) := fun k => by rw [co_add, co_add, co_add, co_add, add_assoc]
theorem addL_self (p : List UInt8) : Eqv (addL p p) [] := fun k => by rw [co_add, add_self, co_nil]
theorem addL_nil (p : List UInt8) : Eqv (addL p []) p := fun k => by rw [co_add, co_nil, add_zero]
theorem add_four (a b c d : UInt8) : addB (addB a b) (addB c d) = addB (addB a c) (addB b d) := by
  unfold addB
  ac_rfl
theorem addL_four (p q r s : List UInt8) : Eqv (addL (addL p q) (addL r s)) (addL (addL p r) (addL q s)) := fun k => by simp only [co_add]; exact add_four _ _ _ _
theorem scale_congr (a : UInt8) {p q : List UInt8} (h : Eqv p q) : Eqv (scaleL a p) (scaleL a q) := fun k => by rw [co_scale, co_scale, h k]
theorem scale_add (a : UInt8) (p q : List UInt8) : Eqv (scaleL a (addL p q)) (addL (scaleL a p) (scaleL a q)) := fun k => by simp only [co_scale, co_add, mul_add_right]
theorem scale_scale (a b : UInt8) (p : List UInt8) : Eqv (scaleL a (scaleL b p)) (scaleL (mulB a b) p) := fun k => by simp only [co_scale, mul_assoc]
theorem scale_cons (a b : UInt8) (p : List UInt8) : scaleL a (b :: p) = mulB a b :: scaleL a p := rfl
theorem scale_shift (a : UInt8) (p : List UInt8) : Eqv (scaleL a (0 :: p)) (0 :: scaleL a p) := by
  rw [scale_cons, mul_zero]
  exact Eqv.refl _
theorem scale_zero (p : List UInt8) : Eqv (scaleL 0 p) [] := fun k => by rw [co_scale, zero_mul, co_nil]
theorem scale_one (p : List UInt8) : scaleL 1 p = p := by
  unfold scaleL
  have : (mulB 1) = id := funext one_mul
  rw [this, List.map_id]
theorem shift_add (p q : List UInt8) : Eqv (0 :: addL p q) (addL (0 :: p) (0 :: q)) := fun k => by
  cases k with
  | zero => rfl
  | succ k => simp only [co_succ, co_add]
theorem mulL_nil : ∀ p : List UInt8, Eqv (mulL p []) []
  | [] => Eqv.refl _
  | a :: p => by
    rw [mulL]
    exact (add_congr (Eqv.refl _) (cons_nil (mulL_nil p))).trans (addL_nil _)
theorem mul_congr_right : ∀ (p : List UInt8) {q q' : List UInt8}, Eqv q q' → Eqv (mulL p q) (mulL p q')
  | [], _, _, _ => Eqv.refl _
  | a :: p, _, _, h => add_congr (scale_congr a h) ((mul_congr_right p h).cons 0)
theorem mulL_add_right : ∀ (p q r : List UInt8), Eqv (mulL p (addL q r)) (addL (mulL p q) (mulL p r))
  | [], q, r => Eqv.refl _
  | a :: p, q, r => by
    rw [mulL, mulL, mulL]
    exact (add_congr (scale_add a q r) (((mulL_add_right p q r).cons 0).trans (shift_add _ _))).trans (addL_four _ _ _ _)
theorem mulL_scale_right (b : UInt8) : ∀ (p q : List UInt8), Eqv (mulL p (scaleL b q)) (scaleL b (mulL p q))
  | [], q => Eqv.refl _
  | a :: p, q => by
    rw [mulL, mulL]
    refine (add_congr ?_ ((mulL_scale_right b p q).cons 0)).trans (Eqv.symm ((scale_add b _ _).trans (add_congr (Eqv.refl _) (scale_shift b _))))
    exact fun k => by simp only [co_scale, ← mul_assoc, mul_comm a b]
theorem mulL_shift_right : ∀ (p q : List UInt8), Eqv (mulL p (0 :: q)) (0 :: mulL p q)
  | [], q => zero_cons.symm
  | a :: p, q => by
    rw [mulL, mulL]
    exact (add_congr (scale_shift a q) ((mulL_shift_right p q).cons 0)).trans (shift_add _ _).symm
theorem mulL_one_right (b : UInt8) : ∀ p : List UInt8, Eqv (mulL p [b]) (scaleL b p)
  | [] => Eqv.refl _
  | a :: p => by
    rw [mulL]
    refine (add_congr (Eqv.refl _) ((mulL_one_right b p).cons 0)).trans (fun k => ?_)
    cases k with
    | zero => rw [co_add, co_scale, co_zero, co_zero, co_scale, co_zero, add_zero, mul_comm]
    | succ k => rw [co_add, co_scale, co_succ, co_nil, mul_zero, zero_add, co_succ, scale_cons, co_succ]
theorem cons_split (b : UInt8) (q : List UInt8) : Eqv (b :: q) (addL [b] (0 :: q)) := fun k => by
  cases k with
  | zero => rw [co_add, co_zero, co_zero, co_zero, add_zero]
  | succ k => rw [co_add, co_succ, co_succ, co_succ, co_nil, zero_add]
theorem mulL_cons_right (p : List UInt8) (b : UInt8) (q : List UInt8) : Eqv (mulL p (b :: q)) (addL (scaleL b p) (0 :: mulL p q)) :=
  ((mul_congr_right p (cons_split b q)).trans (mulL_add_right p _ _)).trans (add_congr (mulL_one_right b p) (mulL_shift_right p q))
theorem mulL_comm : ∀ p q : List UInt8, Eqv (mulL p q) (mulL q p)
  | [], q => (mulL_nil q).symm
  | a :: p, q => by
    rw [mulL]
    exact (add_congr (Eqv.refl _) ((mulL_comm p q).cons 0)).trans (mulL_cons_right q a p).symm
theorem mul_congr {p p' q q' : List UInt8} (h : Eqv p p') (g : Eqv q q') : Eqv (mulL p q) (mulL p' q') :=
  (mul_congr_right p g).trans ((mulL_comm p q').trans ((mul_congr_right q' h).trans (mulL_comm q' p')))
theorem mulL_add_left (p q r : List UInt8) : Eqv (mulL (addL p q) r) (addL (mulL p r) (mulL q r)) :=
  (mulL_comm _ _).trans ((mulL_add_right r p q).trans (add_congr (mulL_comm r p) (mulL_comm r q)))
theorem mulL_scale_left (b : UInt8) (p q : List UInt8) : Eqv (mulL (scaleL b p) q) (scaleL b (mulL p q)) :=
  (mulL_comm _ _).trans ((mulL_scale_right b q p).trans (scale_congr b (mulL_comm q p)))
theorem mulL_shift_left (p q : List UInt8) : Eqv (mulL (0 :: p) q) (0 :: mulL p q) :=
  (mulL_comm _ _).trans ((mulL_shift_right q p).trans ((mulL_comm q p).cons 0))
theorem mulL_assoc : ∀ p q r : List UInt8, Eqv (mulL (mulL p q) r) (mulL p (mulL q r))
  | [], q, r => Eqv.refl _
  | a :: p, q, r => by
    rw [mulL, mulL]
    exact (mulL_add_left _ _ _).trans (add_congr (mulL_scale_left a q r) ((mulL_shift_left _ _).trans ((mulL_assoc p q r).cons 0)))

/-! ### Values -/
def evalL : List UInt8 → UInt8 → UInt8
  | [], _ => 0
  | a :: p, x => addB a (mulB x (evalL p x))
theorem eval_nil : ∀ {q : List UInt8}, Eqv [] q → ∀ x, evalL q x = 0
  | [], _, _ => rfl
  | b :: q, h, x => by
    obtain ⟨h0, h1⟩ := h.nil_cons
    rw [evalL, h0, eval_nil h1 x, mul_zero, zero_add]
theorem eval_congr : ∀ {p q : List UInt8}, Eqv p q → ∀ x, evalL p x = evalL q x
  | [], q, h, x => (eval_nil h x).symm
  | a :: p, [], h, x => eval_nil h.symm x
  | a :: p, b :: q, h, x => by
    obtain ⟨h0, h1⟩ := h.tail
    rw [evalL, evalL, h0, eval_congr h1 x]
theorem eval_add : ∀ (p q : List UInt8) (x : UInt8), evalL (addL p q) x = addB (evalL p x) (evalL q x)
  | [], q, x => by rw [addL, evalL, zero_add]
  | a :: p, [], x => by rw [addL, evalL, add_zero]
  | a :: p, b :: q, x => by rw [addL, evalL, evalL, evalL, eval_add p q x, mul_add_right, add_four]
theorem eval_scale (b : UInt8) : ∀ (p : List UInt8) (x : UInt8), evalL (scaleL b p) x = mulB b (evalL p x)
  | [], x => by rw [scaleL, List.map_nil, evalL, mul_zero]
  | a :: p, x => by
    have ih := eval_scale b p x
    rw [scale_cons, evalL, evalL, ih, mul_add_right, ← mul_assoc, ← mul_assoc, mul_comm x b]
theorem eval_mul : ∀ (p q : List UInt8) (x : UInt8), evalL (mulL p q) x = mulB (evalL p x) (evalL q x)
  | [], q, x => by rw [mulL, evalL, zero_mul]
  | a :: p, q, x => by rw [mulL, eval_add, eval_scale, evalL, evalL, zero_add, eval_mul p q x, mul_add_left, mul_assoc]
theorem eval_snoc (a : UInt8) (x : UInt8) : ∀ p : List UInt8, evalL (p ++ [a]) x = addB (evalL p x) (mulB a (powB x p.length))
  | [] => by
    rw [List.nil_append, evalL, evalL, evalL, mul_zero, add_zero, zero_add]
    exact (mul_one a).symm
  | b :: p => by
    have hp : powB x (p.length + 1) = mulB (powB x p.length) x := rfl
    rw [List.cons_append, evalL, evalL, eval_snoc a x p, List.length_cons, hp, mul_add_right, ← add_assoc, mul_comm (powB x p.length) x, ← mul_assoc, ← mul_assoc, mul_comm a x]

/-! ### Plain forms -/
def plainL : List UInt8 → List UInt8
  | [] => []
  | a :: p => if plainL p = [] ∧ a = 0 then [] else a :: plainL p
theorem plain_eqv : ∀ p : List UInt8, Eqv (plainL p) p
  | [] => Eqv.refl _
  | a :: p => by
    rw [plainL]
    split
    · next h =>
      have := plain_eqv p
      rw [h.1] at this
      rw [h.2]
      exact (cons_nil this.symm).symm
    · exact (plain_eqv p).cons a
theorem plain_nil : ∀ {q : List UInt8}, Eqv [] q → plainL q = []
  | [], _ => rfl
  | b :: q, h => by
    obtain ⟨h0, h1⟩ := h.nil_cons
    rw [plainL, if_pos ⟨plain_nil h1, h0⟩]
theorem plain_congr : ∀ {p q : List UInt8}, Eqv p q → plainL p = plainL q
  | [], q, h => (plain_nil h).symm
  | a :: p, [], h => plain_nil h.symm
  | a :: p, b :: q, h => by
    obtain ⟨h0, h1⟩ := h.tail
    rw [plainL, plainL, h0, plain_congr h1]
theorem plain_iff {p q : List UInt8} : plainL p = plainL q ↔ Eqv p q := ⟨fun h => (plain_eqv p).symm.trans (h ▸ plain_eqv q), plain_congr⟩
theorem plain_plain (p : List UInt8) : plainL (plainL p) = plainL p := plain_congr (plain_eqv p)
theorem plain_top : ∀ p : List UInt8, plainL p ≠ [] → co p ((plainL p).length - 1) ≠ 0
  | [], h => absurd rfl h
  | a :: p, h => by
    rw [plainL] at h ⊢
    split
    · next hc => rw [if_pos hc] at h; exact absurd rfl h
    · next hc =>
      by_cases hp : plainL p = []
      · rw [hp]
        exact fun e => hc ⟨hp, e⟩
      · have ih := plain_top p hp
        have hl : 0 < (plainL p).length := List.length_pos_iff.2 hp
        rw [List.length_cons, Nat.add_sub_cancel]
        have e : (plainL p).length = ((plainL p).length - 1) + 1 := by omega
        rw [e, co_succ]
        exact ih
theorem plain_ge (p : List UInt8) (k : Nat) (h : (plainL p).length ≤ k) : co p k = 0 := by rw [← plain_eqv p k, co_ge _ _ h]
theorem plain_le_iff (p : List UInt8) (n : Nat) : (plainL p).length ≤ n ↔ ∀ k, n ≤ k → co p k = 0 := by
  constructor
  · intro h k hk
    exact plain_ge p k (by omega)
  · intro h
    rcases Nat.lt_or_ge n (plainL p).length with hlt | hge
    · exact absurd (h ((plainL p).length - 1) (by omega)) (plain_top p (by intro e; rw [e] at hlt; simp at hlt))
    · exact hge
theorem plain_len (p : List UInt8) : (plainL p).length ≤ p.length := (plain_le_iff p _).2 fun k hk => co_ge p k hk
/-- The plain form is the beginning, up to the last one that isn't 0. -/
theorem plain_take (p : List UInt8) (n : Nat) (hn : n ≤ p.length) (hz : ∀ k, n ≤ k → co p k = 0) (ht : n = 0 ∨ co p (n - 1) ≠ 0) : plainL p = p.take n := by
  have hle := (plain_le_iff p n).2 hz
  have hl : (plainL p).length = n := by
    rcases ht with rfl | ht
    · omega
    · rcases Nat.lt_or_ge (plainL p).length n with h | h
      · exact absurd (plain_ge p (n - 1) (by omega)) ht
      · omega
  apply List.ext_getElem
  · rw [hl, List.length_take]
    omega
  · intro i h1 h2
    have e := plain_eqv p i
    have h3 : i < p.length := by rw [List.length_take] at h2; omega
    rw [co_lt _ _ h1, co_lt _ _ h3] at e
    rw [List.getElem_take]
    exact e
theorem plain_of_top (p : List UInt8) (h : p = [] ∨ co p (p.length - 1) ≠ 0) : plainL p = p := by
  have := plain_take p p.length (Nat.le_refl _) (fun k hk => co_ge p k hk) (by
    rcases h with rfl | h
    · exact .inl rfl
    · exact .inr h)
  rwa [List.take_length] at this

/-! ### Degrees of products -/
theorem addL_length : ∀ p q : List UInt8, (addL p q).length = max p.length q.length
  | [], q => by simp [addL]
  | a :: p, [] => by simp [addL]
  | a :: p, b :: q => by
    have := addL_length p q
    simp only [addL, List.length_cons, this]
    omega
theorem mulL_length : ∀ (p q : List UInt8), p ≠ [] → q ≠ [] → (mulL p q).length = p.length + q.length - 1
  | [], q, h, _ => absurd rfl h
  | [a], q, _, hq => by
    have : 0 < q.length := List.length_pos_iff.2 hq
    simp [mulL, addL_length, scaleL]
    omega
  | a :: b :: p, q, _, hq => by
    have ih := mulL_length (b :: p) q (by simp) hq
    have : 0 < q.length := List.length_pos_iff.2 hq
    rw [mulL, addL_length, scaleL, List.length_map, List.length_cons, ih]
    simp only [List.length_cons]
    omega
theorem mulL_top : ∀ (p q : List UInt8), p ≠ [] → q ≠ [] → co (mulL p q) (p.length + q.length - 2) = mulB (co p (p.length - 1)) (co q (q.length - 1))
  | [], q, h, _ => absurd rfl h
  | [a], q, _, hq => by
    have : 0 < q.length := List.length_pos_iff.2 hq
    rw [mulL, mulL, co_add, co_scale, zero_cons, co_nil, add_zero, List.length_singleton, show 1 + q.length - 2 = q.length - 1 by omega]
    rfl
  | a :: b :: p, q, _, hq => by
    have ih := mulL_top (b :: p) q (by simp) hq
    have : 0 < q.length := List.length_pos_iff.2 hq
    have e : (a :: b :: p).length + q.length - 2 = ((b :: p).length + q.length - 2) + 1 := by simp only [List.length_cons]; omega
    rw [mulL, co_add, co_scale, e, co_succ, ih, co_ge q _ (by simp only [List.length_cons]; omega), mul_zero, zero_add]
    rfl
theorem mul_plain_len (p q : List UInt8) (hp : plainL p ≠ []) (hq : plainL q ≠ []) : (plainL (mulL p q)).length = (plainL p).length + (plainL q).length - 1 := by
  have h1 : 0 < (plainL p).length := List.length_pos_iff.2 hp
  have h2 : 0 < (plainL q).length := List.length_pos_iff.2 hq
  have e : plainL (mulL p q) = plainL (mulL (plainL p) (plainL q)) := plain_congr (mul_congr (plain_eqv p).symm (plain_eqv q).symm)
  have hlen := mulL_length _ _ hp hq
  have htop := mulL_top _ _ hp hq
  have hn : co (mulL (plainL p) (plainL q)) ((plainL p).length + (plainL q).length - 2) ≠ 0 := by
    rw [htop, plain_eqv p, plain_eqv q]
    exact mul_ne _ _ (plain_top p hp) (plain_top q hq)
  rw [e, plain_of_top _ (.inr (by rw [hlen, show (plainL p).length + (plainL q).length - 1 - 1 = (plainL p).length + (plainL q).length - 2 by omega]; exact hn)), hlen]
theorem mul_plain_nil {p q : List UInt8} (h : plainL (mulL p q) = []) : plainL p = [] ∨ plainL q = [] := by
  by_cases hp : plainL p = []
  · exact .inl hp
  · by_cases hq : plainL q = []
    · exact .inr hq
    · have := mul_plain_len p q hp hq
      rw [h] at this
      have h1 : 0 < (plainL p).length := List.length_pos_iff.2 hp
      have h2 : 0 < (plainL q).length := List.length_pos_iff.2 hq
      simp at this
      omega

/-! ### Division -/
/-- So often is q in p, and that is left. -/
def IsQuo (p q a r : List UInt8) : Prop := Eqv (addL (mulL a q) r) p ∧ (plainL r).length < (plainL q).length
theorem plain_add_len (p q : List UInt8) : (plainL (addL p q)).length ≤ max (plainL p).length (plainL q).length :=
  (plain_le_iff _ _).2 fun k hk => by rw [co_add, plain_ge p k (by omega), plain_ge q k (by omega), add_zero]
theorem add_cancel {p q : List UInt8} (h : Eqv (addL p q) []) : Eqv p q := fun k => by
  have := h k
  rw [co_add, co_nil] at this
  have e : addB (addB (co p k) (co q k)) (co q k) = addB 0 (co q k) := by rw [this]
  rwa [add_assoc, add_self, add_zero, zero_add] at e
theorem quo_unique {p q a r b s : List UInt8} (h : IsQuo p q a r) (g : IsQuo p q b s) : Eqv a b ∧ Eqv r s := by
  have hq : plainL q ≠ [] := by
    intro e
    have := h.2
    rw [e] at this
    simp at this
  have e1 : Eqv (addL (addL (mulL a q) r) (addL (mulL b q) s)) [] := (add_congr h.1 g.1).trans (addL_self p)
  have e2 : Eqv (addL (mulL (addL a b) q) (addL r s)) [] := ((add_congr (mulL_add_left a b q) (Eqv.refl _)).trans (addL_four _ _ _ _)).trans e1
  have e3 : Eqv (mulL (addL a b) q) (addL r s) := add_cancel e2
  have hab : plainL (addL a b) = [] := by
    by_cases hn : plainL (addL a b) = []
    · exact hn
    · have h1 := mul_plain_len _ _ hn hq
      rw [plain_congr e3] at h1
      have h2 := plain_add_len r s
      have h3 := h.2
      have h4 := g.2
      have h5 : 0 < (plainL (addL a b)).length := List.length_pos_iff.2 hn
      omega
  have e4 : Eqv (addL a b) [] := (plain_eqv _).symm.trans (by rw [hab]; exact Eqv.refl _)
  refine ⟨add_cancel e4, ?_⟩
  have e5 : Eqv (mulL (addL a b) q) [] := (mul_congr e4 (Eqv.refl q)).trans (Eqv.refl _)
  exact add_cancel (e3.symm.trans e5)

/-! ### Slopes -/
def slopeL : List UInt8 → List UInt8
  | [] => []
  | _ :: p => addL p (0 :: slopeL p)
theorem co_slope : ∀ (p : List UInt8) (k : Nat), co (slopeL p) k = if k % 2 = 0 then co p (k + 1) else 0
  | [], k => by rw [slopeL, co_nil, co_nil]; split <;> rfl
  | a :: p, 0 => by
    rw [slopeL, co_add, co_zero, add_zero, co_succ]
    rfl
  | a :: p, k + 1 => by
    rw [slopeL, co_add, co_succ, co_slope p k, co_succ]
    by_cases h : k % 2 = 0
    · rw [if_pos h, if_neg (by omega), add_self]
    · rw [if_neg h, if_pos (by omega), add_zero]
theorem slope_congr {p q : List UInt8} (h : Eqv p q) : Eqv (slopeL p) (slopeL q) := fun k => by rw [co_slope, co_slope, h (k + 1)]
theorem slope_add (p q : List UInt8) : Eqv (slopeL (addL p q)) (addL (slopeL p) (slopeL q)) := fun k => by
  rw [co_slope, co_add, co_add, co_slope, co_slope]
  split
  · rfl
  · rw [add_zero]
theorem slope_scale (a : UInt8) (p : List UInt8) : Eqv (slopeL (scaleL a p)) (scaleL a (slopeL p)) := fun k => by
  rw [co_slope, co_scale, co_scale, co_slope]
  split
  · rfl
  · rw [mul_zero]
theorem slope_mul : ∀ p q : List UInt8, Eqv (slopeL (mulL p q)) (addL (mulL (slopeL p) q) (mulL p (slopeL q)))
  | [], q => Eqv.refl _
  | a :: p, q => by
    have ih := slope_mul p q
    have l1 : Eqv (slopeL (mulL (a :: p) q)) (addL (scaleL a (slopeL q)) (addL (mulL p q) (0 :: addL (mulL (slopeL p) q) (mulL p (slopeL q))))) := by
      rw [mulL]
      refine (slope_add _ _).trans (add_congr (slope_scale a q) ?_)
      rw [slopeL]
      exact add_congr (Eqv.refl _) (ih.cons 0)
    have l2 : Eqv (mulL (slopeL (a :: p)) q) (addL (mulL p q) (0 :: mulL (slopeL p) q)) := by
      rw [slopeL]
      exact (mulL_add_left _ _ _).trans (add_congr (Eqv.refl _) (mulL_shift_left _ _))
    refine l1.trans (Eqv.trans ?_ (add_congr l2.symm (Eqv.refl _)))
    rw [mulL]
    refine (add_congr (Eqv.refl _) (add_congr (Eqv.refl _) (shift_add _ _))).trans (fun k => ?_)
    simp only [co_add]
    unfold addB
    ac_rfl
end Go.Proofs.Ytankddeolpickaa
/-
  Sums of elements times powers of unlike ones that vanish at as many powers as there are of them, vanish term by term (plain mathematics, for stages 9 and 10). No conditions but those typed.
-/
namespace Go.Proofs.Ytankddeolpickaa
set_option maxRecDepth 100000
set_option linter.unusedVariables false
set_option linter.unusedSimpArgs false

def sumV : List (UInt8 × UInt8) → Nat → UInt8
  | [], _ => 0
  | (e, x) :: t, i => addB (mulB e (powB x i)) (sumV t i)
theorem pow_succ' (x : UInt8) (i : Nat) : powB x (i + 1) = mulB (powB x i) x := rfl
/-- One of them taken off. -/
theorem sumV_off (x : UInt8) : ∀ (t : List (UInt8 × UInt8)) (i : Nat), sumV (t.map fun p => (mulB p.1 (addB p.2 x), p.2)) i = addB (sumV t (i + 1)) (mulB x (sumV t i))
  | [], i => by
    show (0 : UInt8) = addB 0 (mulB x 0)
    rw [mul_zero, add_zero]
  | (e, y) :: t, i => by
    have ih := sumV_off x t i
    show addB (mulB (mulB e (addB y x)) (powB y i)) (sumV (t.map fun p => (mulB p.1 (addB p.2 x), p.2)) i) = addB (addB (mulB e (powB y (i + 1))) (sumV t (i + 1))) (mulB x (addB (mulB e (powB y i)) (sumV t i)))
    have h1 : mulB (mulB e (addB y x)) (powB y i) = addB (mulB e (powB y (i + 1))) (mulB x (mulB e (powB y i))) := by
      rw [mul_add_right, mul_add_left, pow_succ', mul_assoc, mul_comm y (powB y i), mul_comm e x, mul_assoc]
    rw [ih, h1, mul_add_right, add_four]
theorem sumV_zero : ∀ (t : List (UInt8 × UInt8)) (i : Nat), (∀ p ∈ t, p.1 = 0) → sumV t i = 0
  | [], i, _ => rfl
  | (e, x) :: t, i, h => by
    have he : e = 0 := h (e, x) (by simp)
    rw [sumV, he, zero_mul, zero_add, sumV_zero t i (fun p hp => h p (by simp [hp]))]
theorem pow_ne (x : UInt8) (hx : x ≠ 0) : ∀ i, powB x i ≠ 0
  | 0 => by
    show (1 : UInt8) ≠ 0
    decide
  | i + 1 => by
    rw [pow_succ']
    exact mul_ne _ _ (pow_ne x hx i) hx
theorem add_zero_eq {a b : UInt8} (h : addB a b = 0) : a = b := by
  have e : addB (addB a b) b = addB 0 b := by rw [h]
  rwa [add_assoc, add_self, add_zero, zero_add] at e
theorem vander : ∀ (n : Nat) (l : List (UInt8 × UInt8)), l.length = n → (l.map Prod.snd).Nodup → (∀ p ∈ l, p.2 ≠ 0) → (∀ i, 1 ≤ i → i ≤ n → sumV l i = 0) → ∀ p ∈ l, p.1 = 0
  | 0, l, hl, _, _, _ => by
    rw [List.eq_nil_of_length_eq_zero hl]
    intro p hp
    cases hp
  | n + 1, [], hl, _, _, _ => by simp at hl
  | n + 1, (e, x) :: t, hl, hd, hn, hs => by
    have hd' : x ∉ t.map Prod.snd ∧ (t.map Prod.snd).Nodup := by simpa using hd
    have hlt : t.length = n := by simpa using hl
    have hx : x ≠ 0 := hn (e, x) (by simp)
    have key : ∀ i, 1 ≤ i → i ≤ n + 1 → sumV t i = mulB e (powB x i) := fun i h1 h2 => (add_zero_eq (hs i h1 h2)).symm
    have ht : ∀ p ∈ t.map (fun p => (mulB p.1 (addB p.2 x), p.2)), p.1 = 0 := by
      refine vander n _ (by rw [List.length_map]; exact hlt) ?_ ?_ ?_
      · rw [List.map_map]
        exact hd'.2
      · intro p hp
        obtain ⟨q, hq, rfl⟩ := List.mem_map.1 hp
        exact hn q (by simp [hq])
      · intro i h1 h2
        rw [sumV_off, key (i + 1) (by omega) (by omega), key i h1 (by omega), pow_succ']
        have : mulB x (mulB e (powB x i)) = mulB e (mulB (powB x i) x) := by
          rw [mul_comm x, mul_assoc]
        rw [this, add_self]
    have h0 : ∀ p ∈ t, p.1 = 0 := fun p hp => by
      have h1 := ht (mulB p.1 (addB p.2 x), p.2) (List.mem_map.2 ⟨p, hp, rfl⟩)
      rcases (mul_eq_zero _ _).1 h1 with h | h
      · exact h
      · exact absurd (List.mem_map.2 ⟨p, hp, add_zero_eq h⟩) hd'.1
    intro p hp
    rcases List.mem_cons.1 hp with rfl | hp
    · have h1 := hs 1 (by omega) (by omega)
      rw [sumV, sumV_zero t 1 h0, add_zero] at h1
      rcases (mul_eq_zero _ _).1 h1 with h | h
      · exact h
      · exact absurd h (pow_ne x hx 1)
    · exact h0 p hp
end Go.Proofs.Ytankddeolpickaa
/-
  Layer 9 as plain functions: bytes as a polynomial whose last one is the coefficient of 1, signs, what is fine; unlike ones that are fine differ in many places; the generator, and checks by a register. No conditions but those typed.
-/
namespace Go.Proofs.Ytankddeolpickaa
set_option maxRecDepth 100000
set_option linter.unusedVariables false
set_option linter.unusedSimpArgs false

/-- The value of bytes as a polynomial, the last one the coefficient of 1. -/
def valB (b : List UInt8) (r : UInt8) : UInt8 := evalL b.reverse r
theorem val_nil (r : UInt8) : valB [] r = 0 := rfl
theorem val_snoc (b : List UInt8) (c r : UInt8) : valB (b ++ [c]) r = addB c (mulB r (valB b r)) := by
  unfold valB
  rw [List.reverse_append, List.reverse_singleton, List.singleton_append, evalL]
theorem val_cons (c : UInt8) (b : List UInt8) (r : UInt8) : valB (c :: b) r = addB (valB b r) (mulB c (powB r b.length)) := by
  unfold valB
  rw [List.reverse_cons, eval_snoc, List.length_reverse]
theorem val_append (a : List UInt8) (r : UInt8) : ∀ b : List UInt8, valB (b ++ a) r = addB (valB a r) (mulB (valB b r) (powB r a.length))
  | [] => by rw [List.nil_append, val_nil, zero_mul, add_zero]
  | c :: b => by
    rw [List.cons_append, val_cons, val_append a r b, val_cons, mul_add_left, List.length_append, pow_add, ← mul_assoc, add_assoc]
theorem val_xor (r : UInt8) : ∀ a b : List UInt8, a.length = b.length → valB (List.zipWith addB a b) r = addB (valB a r) (valB b r)
  | [], [], _ => (add_zero 0).symm
  | [], _ :: _, h => by simp at h
  | _ :: _, [], h => by simp at h
  | c :: a, d :: b, h => by
    have hl : a.length = b.length := by simpa using h
    rw [List.zipWith_cons_cons, val_cons, val_cons, val_cons, val_xor r a b hl, List.length_zipWith, hl, Nat.min_self, mul_add_left, add_four]
theorem val_scale (c r : UInt8) : ∀ b : List UInt8, valB (b.map (mulB c)) r = mulB c (valB b r)
  | [] => by rw [List.map_nil, val_nil, mul_zero]
  | d :: b => by rw [List.map_cons, val_cons, val_cons, val_scale c r b, List.length_map, mul_add_right, mul_assoc]

/-- Fine, by n checks (how many bytes there may be let aside). -/
def fineP (b : List UInt8) (n : Nat) : Prop := ∀ i, 1 ≤ i → i ≤ n → valB b (powB 2 i) = 0
theorem fineP.less {b : List UInt8} {n m : Nat} (h : fineP b n) (hm : m ≤ n) : fineP b m := fun i h1 h2 => h i h1 (by omega)
theorem fineP.xor {a b : List UInt8} {n : Nat} (ha : fineP a n) (hb : fineP b n) (hl : a.length = b.length) : fineP (List.zipWith addB a b) n := fun i h1 h2 => by
  rw [val_xor _ _ _ hl, ha i h1 h2, hb i h1 h2, add_zero]
theorem fineP.scale {b : List UInt8} {n : Nat} (h : fineP b n) (c : UInt8) : fineP (b.map (mulB c)) n := fun i h1 h2 => by
  rw [val_scale, h i h1 h2, mul_zero]

/-! ### Distance -/
/-- Each byte, and the power of 2 at its place. -/
def pairsL : List UInt8 → List (UInt8 × UInt8)
  | [] => []
  | c :: b => (c, powB 2 b.length) :: pairsL b
theorem val_pairs (i : Nat) : ∀ b : List UInt8, valB b (powB 2 i) = sumV (pairsL b) i
  | [] => rfl
  | c :: b => by
    rw [val_cons, val_pairs i b, pairsL, sumV, add_comm, ← pow_mul, ← pow_mul, Nat.mul_comm]
theorem pairs_locs : ∀ b : List UInt8, (pairsL b).map Prod.snd = ((List.range b.length).map (powB 2)).reverse
  | [] => rfl
  | c :: b => by
    rw [pairsL, List.map_cons, pairs_locs b, List.length_cons, List.range_succ, List.map_append, List.reverse_append]
    rfl
theorem pairs_els : ∀ b : List UInt8, (pairsL b).map Prod.fst = b
  | [] => rfl
  | c :: b => by rw [pairsL, List.map_cons, pairs_els b]
theorem powB_inj {i j : Nat} (hi : i < 255) (hj : j < 255) (h : powB 2 i = powB 2 j) : i = j := by rw [← log_exp i hi, ← log_exp j hj, h]
theorem nodup_map_on {α β : Type} {f : α → β} : ∀ {l : List α}, l.Nodup → (∀ x ∈ l, ∀ y ∈ l, f x = f y → x = y) → (l.map f).Nodup
  | [], _, _ => List.nodup_nil
  | a :: l, h, hf => by
    rw [List.nodup_cons] at h
    rw [List.map_cons, List.nodup_cons]
    refine ⟨fun hm => ?_, nodup_map_on h.2 (fun x hx y hy => hf x (List.mem_cons_of_mem _ hx) y (List.mem_cons_of_mem _ hy))⟩
    obtain ⟨y, hy, e⟩ := List.mem_map.1 hm
    have := hf y (List.mem_cons_of_mem _ hy) a (List.mem_cons_self) e
    exact h.1 (this ▸ hy)
theorem locs_nodup (b : List UInt8) (h : b.length ≤ 255) : ((pairsL b).map Prod.snd).Nodup := by
  rw [pairs_locs]
  refine (List.Perm.nodup_iff (List.reverse_perm _)).2 ?_
  refine nodup_map_on List.nodup_range (fun x hx y hy e => ?_)
  have h1 := List.mem_range.1 hx
  have h2 := List.mem_range.1 hy
  exact powB_inj (by omega) (by omega) e
theorem locs_ne (b : List UInt8) : ∀ p ∈ pairsL b, p.2 ≠ 0 := fun p hp => by
  have : p.2 ∈ (pairsL b).map Prod.snd := List.mem_map_of_mem hp
  rw [pairs_locs, List.mem_reverse] at this
  obtain ⟨k, _, e⟩ := List.mem_map.1 this
  rw [← e]
  exact exp_ne k
theorem sumV_filter (i : Nat) : ∀ l : List (UInt8 × UInt8), sumV (l.filter fun p => p.1 != 0) i = sumV l i
  | [] => rfl
  | (e, x) :: l => by
    have ih := sumV_filter i l
    by_cases h : e = 0
    · subst h
      rw [List.filter_cons_of_neg (by simp), ih, sumV, zero_mul, zero_add]
    · rw [List.filter_cons_of_pos (by simpa using h), sumV, sumV, ih]
/-- How many bytes aren't 0. -/
def wtL (b : List UInt8) : Nat := (b.filter fun c => c != 0).length
theorem pairs_wt : ∀ b : List UInt8, ((pairsL b).filter fun p => p.1 != 0).length = wtL b
  | [] => rfl
  | c :: b => by
    have ih := pairs_wt b
    unfold wtL at *
    by_cases h : c = 0
    · subst h
      rw [pairsL, List.filter_cons_of_neg (by simp), List.filter_cons_of_neg (by simp), ih]
    · rw [pairsL, List.filter_cons_of_pos (by simpa using h), List.filter_cons_of_pos (by simpa using h), List.length_cons, List.length_cons, ih]
/-- What is fine, and not 0 in no more places than there are checks, is 0. -/
theorem fine_zero (b : List UInt8) (n : Nat) (hl : b.length ≤ 255) (hf : fineP b n) (hw : wtL b ≤ n) : ∀ c ∈ b, c = 0 := by
  have hv := vander (wtL b) ((pairsL b).filter fun p => p.1 != 0) (pairs_wt b) ((List.filter_sublist.map Prod.snd).nodup (locs_nodup b hl)) (fun p hp => locs_ne b p (List.mem_filter.1 hp).1)
    (fun i h1 h2 => by rw [sumV_filter, ← val_pairs]; exact hf i h1 (by omega))
  intro c hc
  rw [← pairs_els b] at hc
  obtain ⟨p, hp, e⟩ := List.mem_map.1 hc
  by_cases h : p.1 = 0
  · rw [← e]; exact h
  · exact absurd (hv p (List.mem_filter.2 ⟨hp, by simpa using h⟩)) h
/-- In how many places two differ. -/
def difL (a b : List UInt8) : Nat := wtL (List.zipWith addB a b)
theorem zip_zero : ∀ a b : List UInt8, a.length = b.length → (∀ c ∈ List.zipWith addB a b, c = 0) → a = b
  | [], [], _, _ => rfl
  | [], _ :: _, h, _ => by simp at h
  | _ :: _, [], h, _ => by simp at h
  | c :: a, d :: b, h, hz => by
    rw [List.zipWith_cons_cons] at hz
    have h1 : c = d := add_zero_eq (hz _ List.mem_cons_self)
    have h2 := zip_zero a b (by simpa using h) (fun x hx => hz x (List.mem_cons_of_mem _ hx))
    rw [h1, h2]
theorem fine_unique (a b : List UInt8) (n : Nat) (hl : a.length = b.length) (h255 : a.length ≤ 255) (ha : fineP a n) (hb : fineP b n) (hd : difL a b ≤ n) : a = b :=
  zip_zero a b hl (fine_zero _ n (by rw [List.length_zipWith]; omega) (ha.xor hb hl) hd)
theorem wt_le (b : List UInt8) : wtL b ≤ b.length := List.length_filter_le _ _
theorem wt_append (a b : List UInt8) : wtL (a ++ b) = wtL a + wtL b := by unfold wtL; rw [List.filter_append, List.length_append]
theorem zip_self (a : List UInt8) : List.zipWith addB a a = List.replicate a.length 0 := by
  induction a with
  | nil => rfl
  | cons c a ih => rw [List.zipWith_cons_cons, ih, add_self, List.length_cons, List.replicate_succ]
theorem wt_zeros (n : Nat) : wtL (List.replicate n 0) = 0 := by
  unfold wtL
  rw [List.filter_eq_nil_iff.2 (fun x hx => by rw [(List.mem_replicate.1 hx).2]; simp)]
  rfl
/-- Checks behind the same data differ in no more places than there are. -/
theorem dif_data (d a b : List UInt8) (h : a.length = b.length) : difL (d ++ a) (d ++ b) ≤ a.length := by
  unfold difL
  rw [List.zipWith_append rfl, wt_append, zip_self, wt_zeros, Nat.zero_add]
  refine Nat.le_trans (wt_le _) ?_
  rw [List.length_zipWith]
  omega
/-- Just one way to put checks makes data fine. -/
theorem checks_unique (d a b : List UInt8) (n : Nat) (ha : a.length = n) (hb : b.length = n) (hl : d.length + n ≤ 255) (fa : fineP (d ++ a) n) (fb : fineP (d ++ b) n) : a = b := by
  have := fine_unique (d ++ a) (d ++ b) n (by simp [ha, hb]) (by simp [ha]; omega) fa fb (by rw [← ha]; exact dif_data d a b (by rw [ha, hb]))
  exact List.append_cancel_left this

/-! ### The generator -/
def genL : Nat → List UInt8
  | 0 => [1]
  | n + 1 => plainL (mulL (genL n) [powB 2 (n + 1), 1])
def IsGen (n : Nat) (g : List UInt8) : Prop := g.length = n + 1 ∧ co g n = 1 ∧ ∀ i, 1 ≤ i → i ≤ n → evalL g (powB 2 i) = 0
theorem gen_is : ∀ n, IsGen n (genL n)
  | 0 => ⟨rfl, rfl, fun i h1 h2 => by omega⟩
  | n + 1 => by
    obtain ⟨h1, h2, h3⟩ := gen_is n
    have hg : genL n ≠ [] := by
      intro e
      rw [e] at h1
      simp at h1
    have hlen : (mulL (genL n) [powB 2 (n + 1), 1]).length = n + 2 := by
      rw [mulL_length _ _ hg (by simp), h1]
      simp
    have htop : co (mulL (genL n) [powB 2 (n + 1), 1]) (n + 1) = 1 := by
      have := mulL_top (genL n) [powB 2 (n + 1), 1] hg (by simp)
      rw [h1] at this
      simp only [List.length_cons, List.length_nil] at this
      rw [show n + 1 + (0 + 1 + 1) - 2 = n + 1 by omega, show n + 1 - 1 = n by omega, h2] at this
      rw [this]
      show mulB 1 1 = 1
      exact mul_one 1
    have hp : plainL (mulL (genL n) [powB 2 (n + 1), 1]) = mulL (genL n) [powB 2 (n + 1), 1] := plain_of_top _ (.inr (by
      rw [hlen, show n + 2 - 1 = n + 1 by omega, htop]
      decide))
    have hq : ∀ r, evalL [powB 2 (n + 1), 1] r = addB (powB 2 (n + 1)) r := fun r => by
      simp only [evalL, mul_zero, add_zero, mul_one]
    unfold genL
    rw [hp]
    refine ⟨hlen, htop, fun i hi1 hi2 => ?_⟩
    rw [eval_mul, hq]
    by_cases h : i ≤ n
    · rw [h3 i hi1 h, zero_mul]
    · have : i = n + 1 := by omega
      rw [this, add_self, mul_zero]

/-! ### The register -/
/-- One byte more: the register, of as many bytes as there are checks. -/
def regL (g reg : List UInt8) (top : UInt8) : List UInt8 := List.zipWith addB (0 :: reg.dropLast) ((g.take reg.length).map (mulB top))
theorem reg_length (g reg : List UInt8) (top : UInt8) (h0 : reg ≠ []) (hg : reg.length ≤ g.length) : (regL g reg top).length = reg.length := by
  unfold regL
  have : 0 < reg.length := List.length_pos_iff.2 h0
  rw [List.length_zipWith, List.length_cons, List.length_dropLast, List.length_map, List.length_take]
  omega
theorem eval_zip (r : UInt8) : ∀ a b : List UInt8, a.length = b.length → evalL (List.zipWith addB a b) r = addB (evalL a r) (evalL b r)
  | [], [], _ => (add_zero 0).symm
  | [], _ :: _, h => by simp at h
  | _ :: _, [], h => by simp at h
  | c :: a, d :: b, h => by
    rw [List.zipWith_cons_cons, evalL, evalL, evalL, eval_zip r a b (by simpa using h), mul_add_right, add_four]
theorem eval_split (p : List UInt8) (n : Nat) (r : UInt8) (h : p.length = n + 1) : evalL p r = addB (evalL (p.take n) r) (mulB (co p n) (powB r n)) := by
  have e : p = p.take n ++ [co p n] := by
    conv => lhs; rw [← List.take_append_drop n p]
    congr 1
    have : p.drop n = [p[n]'(by omega)] := by
      rw [List.drop_eq_getElem_cons (by omega), List.drop_of_length_le (by omega)]
    rw [this, co_lt p n (by omega)]
  conv => lhs; rw [e]
  rw [eval_snoc, List.length_take, Nat.min_eq_left (by omega)]
theorem reg_val (n : Nat) (g reg : List UInt8) (d r : UInt8) (hg : IsGen (n + 1) g) (hr : reg.length = n + 1) (h0 : evalL g r = 0) : evalL (regL g reg (addB d (co reg n))) r = addB (mulB r (evalL reg r)) (mulB d (powB r (n + 1))) := by
  obtain ⟨h1, h2, _⟩ := hg
  have e1 := eval_split g (n + 1) r h1
  rw [h2, one_mul, h0] at e1
  have e2 := eval_split reg n r hr
  have hd : reg.dropLast = reg.take n := by rw [List.dropLast_eq_take, hr]; rfl
  unfold regL
  rw [eval_zip r _ _ (by rw [List.length_cons, List.length_dropLast, List.length_map, List.length_take, h1, hr]; omega), evalL, zero_add, hd, hr]
  have e3 : evalL ((g.take (n + 1)).map (mulB (addB d (co reg n)))) r = mulB (addB d (co reg n)) (evalL (g.take (n + 1)) r) := eval_scale _ _ _
  have e4 : evalL (g.take (n + 1)) r = powB r (n + 1) := add_zero_eq e1.symm
  rw [e3, e4, e2, mul_add_right, mul_add_left, show mulB r (mulB (co reg n) (powB r n)) = mulB (co reg n) (powB r (n + 1)) by rw [← mul_assoc, mul_comm r, mul_assoc, mul_comm r]; rfl]
  generalize mulB r (evalL (reg.take n) r) = x
  generalize mulB d (powB r (n + 1)) = y
  generalize mulB (co reg n) (powB r (n + 1)) = z
  rw [add_comm y z, ← add_assoc]
/-- The register behind some data. -/
def runL (g : List UInt8) (n : Nat) (d : List UInt8) : List UInt8 := d.foldl (fun reg c => regL g reg (addB c (co reg (n - 1)))) (List.replicate n 0)
theorem run_snoc (g : List UInt8) (n : Nat) (d : List UInt8) (c : UInt8) : runL g n (d ++ [c]) = regL g (runL g n d) (addB c (co (runL g n d) (n - 1))) := by unfold runL; rw [List.foldl_append]; rfl
theorem snoc_ind {p : List UInt8 → Prop} (h0 : p []) (h1 : ∀ d c, p d → p (d ++ [c])) (d : List UInt8) : p d := by
  rw [← List.reverse_reverse d]
  induction d.reverse with
  | nil => exact h0
  | cons c d ih => rw [List.reverse_cons]; exact h1 _ _ ih
theorem run_length (g : List UInt8) (n : Nat) (hn : 1 ≤ n) (hg : n ≤ g.length) (d : List UInt8) : (runL g n d).length = n := by
  refine snoc_ind (p := fun d => (runL g n d).length = n) ?_ (fun d c ih => ?_) d
  · simp [runL]
  · have h0 : runL g n d ≠ [] := fun e => by rw [e] at ih; simp at ih; omega
    rw [run_snoc, reg_length _ _ _ h0 (by omega), ih]
theorem eval_zeros (n : Nat) (r : UInt8) : evalL (List.replicate n 0) r = 0 := by
  induction n with
  | zero => rfl
  | succ n ih => rw [List.replicate_succ, evalL, ih, mul_zero, add_zero]
theorem run_val (g : List UInt8) (n : Nat) (hn : 1 ≤ n) (hg : IsGen n g) (i : Nat) (h1 : 1 ≤ i) (h2 : i ≤ n) (d : List UInt8) : evalL (runL g n d) (powB 2 i) = mulB (valB d (powB 2 i)) (powB (powB 2 i) n) := by
  refine snoc_ind (p := fun d => evalL (runL g n d) (powB 2 i) = mulB (valB d (powB 2 i)) (powB (powB 2 i) n)) ?_ (fun d c ih => ?_) d
  · rw [val_nil, zero_mul]
    exact eval_zeros n _
  · obtain ⟨m, rfl⟩ : ∃ m, n = m + 1 := ⟨n - 1, by omega⟩
    rw [run_snoc, Nat.add_sub_cancel, reg_val m g _ c _ hg (run_length g _ hn (by rw [hg.1]; omega) d) (hg.2.2 i h1 h2), ih, val_snoc, mul_add_left, add_comm, mul_assoc]
/-- The data, and its checks. -/
def putS (d : List UInt8) (n : Nat) : List UInt8 := d ++ (runL (genL n) n d).reverse
theorem putS_length (d : List UInt8) (n : Nat) (hn : 1 ≤ n) : (putS d n).length = d.length + n := by
  unfold putS
  rw [List.length_append, List.length_reverse, run_length _ n hn (by rw [(gen_is n).1]; omega)]
theorem putS_fine (d : List UInt8) (n : Nat) (hn : 1 ≤ n) : fineP (putS d n) n := fun i h1 h2 => by
  have hl := run_length (genL n) n hn (by rw [(gen_is n).1]; omega) d
  unfold putS
  rw [val_append, List.length_reverse, hl, ← run_val (genL n) n hn (gen_is n) i h1 h2 d]
  unfold valB
  rw [List.reverse_reverse, add_self]
/-- Whatever checks make it fine are these. -/
theorem putS_only (d c : List UInt8) (n : Nat) (hn : 1 ≤ n) (hc : c.length = n) (hl : d.length + n ≤ 255) (hf : fineP (d ++ c) n) : d ++ c = putS d n := by
  unfold putS
  have h1 := run_length (genL n) n hn (by rw [(gen_is n).1]; omega) d
  rw [checks_unique d c (runL (genL n) n d).reverse n hc (by rw [List.length_reverse, h1]) hl hf (putS_fine d n hn)]

/-! ### Signs -/
def signsL (b : List UInt8) (n : Nat) : List UInt8 := (List.range n).map fun i => valB b (powB 2 (i + 1))
theorem signs_length (b : List UInt8) (n : Nat) : (signsL b n).length = n := by simp [signsL]
theorem signs_zero (b : List UInt8) (n : Nat) : (∀ s ∈ signsL b n, s = 0) ↔ fineP b n := by
  unfold signsL fineP
  constructor
  · intro h i h1 h2
    have := h (valB b (powB 2 (i - 1 + 1))) (List.mem_map.2 ⟨i - 1, List.mem_range.2 (by omega), rfl⟩)
    rwa [show i - 1 + 1 = i by omega] at this
  · intro h s hs
    obtain ⟨i, hi, rfl⟩ := List.mem_map.1 hs
    exact h (i + 1) (by omega) (by have := List.mem_range.1 hi; omega)
/-- Why there are no signs. -/
def errS (len : Nat) (n : Int) : Int := if n < 1 ∨ 64 < n then 1 else if (len : Int) < n then 2 else if 255 < len then 4 else 0
def fineS (b : List UInt8) (n : Int) : Bool := decide (errS b.length n = 0) && (signsL b n.toNat).all (· == 0)
theorem fineS_iff (b : List UInt8) (n : Nat) (h1 : 1 ≤ n) (h2 : n ≤ 64) (h3 : n ≤ b.length) (h4 : b.length ≤ 255) : fineS b n = true ↔ fineP b n := by
  unfold fineS errS
  rw [if_neg (by omega), if_neg (by omega), if_neg (by omega), ← signs_zero]
  simp
end Go.Proofs.Ytankddeolpickaa
/-
  Polynomials as they are laid coefficient by coefficient: tables of coefficients, products as sums, shifts, one step of a division. No conditions but those typed.
-/
namespace Go.Proofs.Ytankddeolpickaa
set_option maxRecDepth 100000
set_option linter.unusedVariables false
set_option linter.unusedSimpArgs false

/-- The first n coefficients. -/
def tabL (f : Nat → UInt8) : Nat → List UInt8
  | 0 => []
  | n + 1 => tabL f n ++ [f n]
theorem tab_length (f : Nat → UInt8) : ∀ n, (tabL f n).length = n
  | 0 => rfl
  | n + 1 => by rw [tabL, List.length_append, tab_length f n]; rfl
theorem co_snoc (l : List UInt8) (x : UInt8) (k : Nat) : co (l ++ [x]) k = if k < l.length then co l k else if k = l.length then x else 0 := by
  rcases Nat.lt_trichotomy k l.length with h | h | h
  · rw [if_pos h]
    simp [co, List.getD_eq_getElem?_getD, List.getElem?_append_left h]
  · rw [if_neg (by omega), if_pos h]
    subst h
    simp [co, List.getD_eq_getElem?_getD]
  · rw [if_neg (by omega), if_neg (by omega), co_ge _ _ (by rw [List.length_append]; simp; omega)]
theorem co_tab (f : Nat → UInt8) : ∀ n k, co (tabL f n) k = if k < n then f k else 0
  | 0, k => by rw [tabL, co_nil, if_neg (by omega)]
  | n + 1, k => by
    rw [tabL, co_snoc, tab_length, co_tab f n k]
    rcases Nat.lt_trichotomy k n with h | h | h
    · rw [if_pos h, if_pos (by omega), if_pos (by omega)]
    · subst h
      rw [if_neg (by omega), if_pos rfl, if_pos (by omega)]
    · rw [if_neg (by omega), if_neg (by omega), if_neg (by omega)]
theorem tab_eqv (p : List UInt8) (n : Nat) (h : p.length ≤ n) : Eqv (tabL (co p) n) p := fun k => by
  rw [co_tab]
  split
  · rfl
  · rw [co_ge p k (by omega)]
theorem plain_tab (p : List UInt8) (n : Nat) (h : p.length ≤ n) : plainL (tabL (co p) n) = plainL p := plain_congr (tab_eqv p n h)

/-- A product's coefficient as a sum. -/
def sumL' (p q : List UInt8) (k : Nat) : Nat → UInt8
  | 0 => 0
  | n + 1 => addB (sumL' p q k n) (mulB (co p n) (co q (k - n)))
theorem sum_cons (a : UInt8) (p q : List UInt8) (k : Nat) : ∀ n, sumL' (a :: p) q (k + 1) (n + 1) = addB (mulB a (co q (k + 1))) (sumL' p q k n)
  | 0 => by
    rw [sumL', sumL', sumL', zero_add, add_zero]
    rfl
  | n + 1 => by
    rw [sumL', sum_cons a p q k n, sumL', co_succ, show k + 1 - (n + 1) = k - n by omega, add_assoc]
theorem mul_sum : ∀ (p q : List UInt8) (k : Nat), co (mulL p q) k = sumL' p q k (k + 1)
  | [], q, k => by
    have : ∀ n, sumL' [] q k n = 0 := fun n => by
      induction n with
      | zero => rfl
      | succ n ih => rw [sumL', ih, co_nil, zero_mul, add_zero]
    rw [mulL, co_nil, this]
  | a :: p, q, 0 => by
    rw [mulL, co_add, co_scale, co_zero, add_zero, sumL', sumL', zero_add]
    rfl
  | a :: p, q, k + 1 => by rw [mulL, co_add, co_scale, co_succ, mul_sum p q k, sum_cons]
theorem sum_past (p q : List UInt8) (k : Nat) : ∀ n, p.length ≤ n → sumL' p q k n = sumL' p q k p.length
  | 0, h => by
    have : p.length = 0 := by omega
    rw [this]
  | n + 1, h => by
    by_cases e : p.length = n + 1
    · rw [e]
    · rw [sumL', co_ge p n (by omega), zero_mul, add_zero, sum_past p q k n (by omega)]
theorem mul_sum_min (p q : List UInt8) (k : Nat) : co (mulL p q) k = sumL' p q k (min (k + 1) p.length) := by
  rw [mul_sum]
  rcases Nat.lt_or_ge p.length (k + 1) with h | h
  · rw [Nat.min_eq_right (by omega), sum_past p q k (k + 1) (by omega)]
  · rw [Nat.min_eq_left h]
theorem mulL_length_le (p q : List UInt8) : (mulL p q).length ≤ p.length + q.length := by
  induction p with
  | nil => simp [mulL]
  | cons a p ih =>
    rw [mulL, addL_length, scaleL, List.length_map, List.length_cons, List.length_cons]
    omega

/-- A polynomial times a power of x. -/
def shiftL (n : Nat) (p : List UInt8) : List UInt8 := List.replicate n 0 ++ p
theorem shift_succ (n : Nat) (p : List UInt8) : shiftL (n + 1) p = 0 :: shiftL n p := rfl
theorem shift_length (n : Nat) (p : List UInt8) : (shiftL n p).length = n + p.length := by simp [shiftL]
theorem co_shift : ∀ (n : Nat) (p : List UInt8) (k : Nat), co (shiftL n p) (n + k) = co p k
  | 0, p, k => by
    rw [Nat.zero_add]
    rfl
  | n + 1, p, k => by rw [shift_succ, show n + 1 + k = n + k + 1 by omega, co_succ, co_shift n p k]
theorem mul_shift_one (c : UInt8) (q : List UInt8) : ∀ n, Eqv (mulL (shiftL n [c]) q) (shiftL n (scaleL c q))
  | 0 => by
    show Eqv (addL (scaleL c q) (0 :: mulL [] q)) (scaleL c q)
    exact (add_congr (Eqv.refl _) zero_cons).trans (addL_nil _)
  | n + 1 => by
    rw [shift_succ, shift_succ]
    exact (mulL_shift_left _ _).trans ((mul_shift_one c q n).cons 0)

/-- One step of a division: what is left is shorter, and it still makes p. -/
theorem quo_step {p q a l : List UInt8} {n : Nat} {t : UInt8} (hl : plainL l = l) (hq : plainL q = q) (hqn : q ≠ []) (hn : l.length = n + q.length) (ht : t = mulB (co l (l.length - 1)) (invB (co q (q.length - 1)))) (h : Eqv (addL (mulL a q) l) p) :
    Eqv (addL (mulL (plainL (addL a (shiftL n [t]))) q) (plainL (addL l (shiftL n (scaleL t q))))) p ∧ (plainL (addL l (shiftL n (scaleL t q)))).length < l.length := by
  have hq0 : 0 < q.length := List.length_pos_iff.2 hqn
  have htop : co q (q.length - 1) ≠ 0 := by
    have := plain_top q (by rw [hq]; exact hqn)
    rwa [hq] at this
  refine ⟨?_, ?_⟩
  · have e1 : Eqv (mulL (plainL (addL a (shiftL n [t]))) q) (addL (mulL a q) (shiftL n (scaleL t q))) :=
      (mul_congr (plain_eqv _) (Eqv.refl q)).trans ((mulL_add_left _ _ _).trans (add_congr (Eqv.refl _) (mul_shift_one t q n)))
    refine (add_congr e1 (plain_eqv _)).trans ?_
    refine Eqv.trans (fun k => ?_) h
    simp only [co_add]
    have : ∀ x y z : UInt8, addB (addB x z) (addB y z) = addB x y := fun x y z => by
      have h1 : addB (addB x z) (addB y z) = addB (addB x y) (addB z z) := add_four x z y z
      rw [h1, add_self, add_zero]
    exact this _ _ _
  · have hle : (plainL (addL l (shiftL n (scaleL t q)))).length ≤ l.length - 1 := by
      refine (plain_le_iff _ _).2 fun k hk => ?_
      rw [co_add]
      rcases Nat.lt_or_ge k l.length with h1 | h1
      · have hk' : k = l.length - 1 := by omega
        have hk2 : k = n + (q.length - 1) := by omega
        rw [hk2, co_shift, co_scale, ← hk2, hk', ht, mul_assoc, mul_comm (invB _), mul_inv _ htop, mul_one, add_self]
      · rw [co_ge l k h1, co_ge _ k (by rw [shift_length, scaleL, List.length_map]; omega), add_zero]
    omega
end Go.Proofs.Ytankddeolpickaa
/-
  Words for memory (no program is named here): a slice value that reads as a list, kept while nothing that was there is written; a slice cut; bytes made into a string. No conditions but those typed.
-/
namespace Go.Proofs.Ytankddeolpickaa
set_option maxRecDepth 100000
open Go.RowKit

def vB (c : UInt8) : Value := .int .u8 (c.toNat : Int)
def vW (c : UInt32) : Value := .int .u32 (c.toNat : Int)

/-- The slice value with address A reads, in world w, as the list l. -/
def Rd {α : Type} (f : α → Value) (w : World) (A : Option Addr) (l : List α) : Prop :=
  l ≠ [] → ∃ b o, A = some ⟨b, o, none⟩ ∧ ∀ i (h : i < l.length), w.cell? ⟨b, o + i, none⟩ = some (f l[i])

section
variable {α : Type} {f : α → Value} {w w' : World} {A : Option Addr} {l : List α}
theorem Rd.nil : Rd f w A [] := fun h => absurd rfl h
theorem Rd.keep (h : Rd f w A l) (hb : Below w.heap.size w w') : Rd f w' A l := fun hn => by
  obtain ⟨b, o, e, hc⟩ := h hn
  refine ⟨b, o, e, fun i hi => ?_⟩
  have := hc i hi
  rw [hb.cell (p := ⟨b, o + i, none⟩) (World.block_lt_of_cell? w _ this)]
  exact this
theorem Rd.at (h : Rd f w A l) {k : Nat} (hk : k < l.length) : ∃ b o, A = some ⟨b, o, none⟩ ∧ b < w.heap.size ∧ ∀ i (hi : i < l.length), w.cell? ⟨b, o + i, none⟩ = some (f l[i]) := by
  obtain ⟨b, o, e, hc⟩ := h (by rintro rfl; simp at hk)
  exact ⟨b, o, e, World.block_lt_of_cell? w _ (hc k hk), hc⟩
theorem Rd.new (w : World) (l : List α) (cs : Array Value) (e : TypeId) (h : cs = (l.map f).toArray) : Rd f (w.alloc (.cells cs e)) (some ⟨w.heap.size, 0, none⟩) l := fun _ => by
  refine ⟨w.heap.size, 0, rfl, fun i hi => ?_⟩
  subst h
  rw [cell_of_row _ w.heap.size (0 + i) _ e (0, 0) (heap_alloc_new w _)]
  simp [hi]
theorem Rd.new_at (w : World) (g : Nat) (hg : g = w.heap.size) (l : List α) (cs : Array Value) (e : TypeId) (h : cs = (l.map f).toArray) : Rd f (w.alloc (.cells cs e)) (some ⟨g, 0, none⟩) l := by
  subst hg
  exact Rd.new w l cs e h
theorem Rd.drop (h : Rd f w A l) (k : Nat) (cap : Nat) (hc : l.length ≤ cap) : Rd f w (if cap = k then A else A.map (·.add (k * 1))) (l.drop k) := fun hn => by
  have hk : k < l.length := by
    rcases Nat.lt_or_ge k l.length with h | h
    · exact h
    · exact absurd (List.drop_eq_nil_of_le h) hn
  obtain ⟨b, o, e, hcell⟩ := h (by rintro rfl; simp at hk)
  subst e
  rw [if_neg (by omega)]
  refine ⟨b, o + k, by simp [Addr.add], fun i hi => ?_⟩
  have hi' : k + i < l.length := by simp at hi; omega
  rw [Nat.add_assoc, hcell (k + i) hi']
  simp
theorem Rd.take (h : Rd f w A l) (k : Nat) : Rd f w A (l.take k) := fun hn => by
  obtain ⟨b, o, e, hcell⟩ := h (by rintro rfl; simp at hn)
  refine ⟨b, o, e, fun i hi => ?_⟩
  have hi' : i < l.length := by simp at hi; omega
  rw [hcell i hi']
  simp
theorem Rd.news {b o : Nat} (h : Rd f w (some ⟨b, o, none⟩) l) (j : Nat) (u : Value) (hu : (l.map f)[j]? = some u) : w.cell? ((⟨b, o, none⟩ : Addr).add j) = some u := by
  have hj : j < l.length := by
    rcases Nat.lt_or_ge j l.length with h | h
    · exact h
    · rw [List.getElem?_eq_none (by simpa using h)] at hu
      cases hu
  obtain ⟨b', o', e, hc⟩ := h (by rintro rfl; simp at hj)
  injection e with e
  injection e with e1 e2 _
  subst e1 e2
  have e1 : (⟨b, o, none⟩ : Addr).add j = ⟨b, o + j, none⟩ := by unfold Addr.add; split <;> simp_all
  rw [e1, hc j hj]
  simpa [hj] using hu
theorem Rd.own {base : Nat} {e : TypeId} {n c : Nat} (h : w.ownsRow base e 1 (.slice A n c) n (l.map f)) : Rd f w A l := fun hn => by
  have hl : l.length = n := by simpa using h.1
  have hpos : 0 < n := by
    rcases Nat.eq_zero_or_pos n with h0 | h0
    · exact absurd (List.eq_nil_of_length_eq_zero (by omega)) hn
    · exact h0
  obtain ⟨g, cap, hv, _, hlt⟩ := h.form hpos
  have hA : A = some ⟨g, 0, none⟩ := by injection hv
  subst hA
  refine ⟨g, 0, rfl, fun i hi => ?_⟩
  have := h.cells (g := g) rfl i (f l[i]) (by simp [hi])
  have e1 : (⟨g, 0, none⟩ : Addr).add i = ⟨g, 0 + i, none⟩ := by unfold Addr.add; split <;> simp_all
  rw [← e1]
  exact this
end

/-- 's[k:]': one name for the address that is left. -/
theorem cut_from {P : Program} (t e : TypeId) (ht : P.underlying t = some (.slice e)) (hz : ∀ w, (sizeOf e).run P w = .ok 1 w) (A : Option Addr) (n cap k : Nat) (hk : k ≤ n) (hc : n ≤ cap) :
    ∃ A', (∀ w, (Instr.slice t (.slice A n cap) (some (.int .i64 (k : Int))) none none).run P w = .ok (.slice A' (n - k) (cap - k)) w) ∧
      ∀ {α : Type} (f : α → Value) (w : World) (l : List α), l.length = n → Rd f w A l → Rd f w A' (l.drop k) := by
  have ht' : P.underlying t = some (.slice (P.elem t)) := by simp [Program.elem, ht]
  have he : P.elem t = e := by simp [Program.elem, ht]
  refine ⟨if cap = k then A else A.map (·.add (k * 1)), fun w => ?_, fun f w l hl h => h.drop k cap (by omega)⟩
  rw [run_slice_l w t A n cap ht' .i64 (k : Int) (by omega) (by omega), he, hz]
  simp [Result.andThen, sliced]

theorem run_cut_to {P : Program} (t e : TypeId) (ht : P.underlying t = some (.slice e)) (hz : ∀ w, (sizeOf e).run P w = .ok 1 w) (A : Option Addr) (n cap k : Nat) (hk : k ≤ cap) (w : World) :
    (Instr.slice t (.slice A n cap) none (some (.int .i64 (k : Int))) none).run P w = .ok (.slice A k cap) w := by
  have ht' : P.underlying t = some (.slice (P.elem t)) := by simp [Program.elem, ht]
  have he : P.elem t = e := by simp [Program.elem, ht]
  have e2 : (if cap = 0 then A else A.map (·.add 0)) = A := by
    split
    · rfl
    · cases A <;> simp [Addr.add]
  rw [run_slice_h w t A n cap ht' .i64 (k : Int) (by omega) (by omega), he, hz]
  simp only [Result.andThen, sliced, Nat.zero_mul, Nat.sub_zero, Int.toNat_natCast, e2]
/-- 's[:k]'. -/
theorem cut_to {P : Program} (t e : TypeId) (ht : P.underlying t = some (.slice e)) (hz : ∀ w, (sizeOf e).run P w = .ok 1 w) (A : Option Addr) (n cap k : Nat) (hk : k ≤ cap) :
    ∃ A', (∀ w, (Instr.slice t (.slice A n cap) none (some (.int .i64 (k : Int))) none).run P w = .ok (.slice A' k cap) w) ∧
      ∀ {α : Type} (f : α → Value) (w : World) (l : List α), Rd f w A l → Rd f w A' (l.take k) :=
  ⟨A, fun w => run_cut_to t e ht hz A n cap k hk w, fun _ _ _ h => h.take k⟩

/-- 'string(b)'. -/
theorem run_str {P : Program} (w : World) (src e dst : TypeId) (hs : P.underlying src = some (.slice e)) (he : P.underlying e = some (.int .u8)) (hd : P.underlying dst = some .string)
    (A : Option Addr) (l : List UInt8) (n cap : Nat) (hn : l.length = n) (h : Rd vB w A l) : (convert src dst (.slice A n cap)).run P w = .ok (.string ⟨l.toArray⟩) w := by
  by_cases hl : l = []
  · subst hl
    subst hn
    cases A with
    | none => rw [run_convert_bytes_nil w src e hs he _ _ dst hd]; rfl
    | some a =>
      rw [run_convert_bytes_string w src dst e _ _ cap hs he hd, run_bytesToString w a _ cap [] (by
        have := run_loadCells_list (P := P) w a [] (fun j v hj => by simp at hj)
        simpa using this)]
      rfl
  · obtain ⟨b, o, rfl, hc⟩ := h hl
    rw [run_convert_bytes_arg w src e hs he b o n cap (l.map fun c => (c.toNat : Int)) (by simpa using hn) (fun i hi => by
      have hi' : i < l.length := by omega
      rw [hc i hi']
      simp [vB, List.getD, hi']) dst hd]
    have : strOfNums (l.map fun c => (c.toNat : Int)) = ⟨l.toArray⟩ := by
      unfold strOfNums
      congr 2
      rw [List.map_map]
      conv => rhs; rw [← List.map_id l]
      apply List.map_congr_left
      intro x _
      simp
    rw [this]

/-- 'string(b)', in every later world. -/
theorem run_str_later {P : Program} {w : World} {src e dst : TypeId} (hs : P.underlying src = some (.slice e)) (he : P.underlying e = some (.int .u8)) (hd : P.underlying dst = some .string)
    {A : Option Addr} {l : List UInt8} {cap : Nat} (h : Rd vB w A l) : ∀ W, Below w.heap.size w W → (convert src dst (.slice A l.length cap)).run P W = .ok (.string ⟨l.toArray⟩) W :=
  fun W hb => run_str W src e dst hs he hd A l l.length cap rfl (h.keep hb)

theorem cells_new (w : World) (cs : Array Value) (e : TypeId) (j : Nat) (u : Value) (h : cs.toList[j]? = some u) : (w.alloc (.cells cs e)).cell? ((⟨w.heap.size, 0, none⟩ : Addr).add j) = some u := by
  have e1 : (⟨w.heap.size, 0, none⟩ : Addr).add j = ⟨w.heap.size, j, none⟩ := by unfold Addr.add; split <;> simp_all
  rw [e1, cell_of_row _ w.heap.size j _ e (0, 0) (heap_alloc_new w _)]
  simpa using h

/-! ### What comes in -/
theorem u32_of_wf {a : Int} (h : (Lit.int .u32 a).wf = true) : ∃ x : UInt32, a = (x.toNat : Int) := by
  simp [Lit.wf, IntKind.min, IntKind.max, IntKind.signed, IntKind.bits] at h
  exact ⟨UInt32.ofNat a.toNat, by rw [UInt32.toNat_ofNat']; omega⟩
theorem u64_of_wf {a : Int} (h : (Lit.int .u64 a).wf = true) : ∃ v : Nat, v < 18446744073709551616 ∧ a = (v : Int) := by
  simp [Lit.wf, IntKind.min, IntKind.max, IntKind.signed, IntKind.bits] at h
  exact ⟨a.toNat, by omega, by omega⟩
theorem i64_of_wf {a : Int} (h : (Lit.int .i64 a).wf = true) : -9223372036854775808 ≤ a ∧ a ≤ 9223372036854775807 := by
  simp [Lit.wf, IntKind.min, IntKind.max, IntKind.signed, IntKind.bits] at h
  omega
theorem rd_of_row {α : Type} {f : α → Value} {k : IntKind} {w : World} {a : Option Addr} {len cap : Nat} {zs : List Int} (g : Int → α) (hg : ∀ n, (Lit.int k n).wf = true → f (g n) = .int k n)
    (h : (a = none ∧ len = 0 ∧ cap = 0 ∧ zs = []) ∨ ∃ x, a = some x ∧ len ≤ cap ∧ cap ≤ maxLen ∧ zs.length = cap ∧ (∀ i, i < zs.length → w.cell? (x.add i) = some (.int k (zs.getD i 0))) ∧ ∀ n ∈ zs, (Lit.int k n).wf = true) :
    ∃ l : List α, l.length = len ∧ len ≤ cap ∧ cap ≤ 9223372036854775807 ∧ Rd f w a l := by
  rcases h with ⟨rfl, rfl, rfl, rfl⟩ | ⟨x, rfl, hlc, hm, hz, hc, hwf⟩
  · exact ⟨[], rfl, Nat.le_refl _, by omega, Rd.nil⟩
  · unfold maxLen at hm
    refine ⟨(zs.take len).map g, by rw [List.length_map, List.length_take]; omega, hlc, by omega, fun hn => ?_⟩
    have hlen : 0 < len := by
      rcases Nat.eq_zero_or_pos len with h | h
      · subst h; simp at hn
      · exact h
    obtain ⟨b, o, spot⟩ := x
    have h0 := hc 0 (by omega)
    have hspot : spot = none := by simpa [Addr.add] using World.cell?_spot h0
    subst hspot
    refine ⟨b, o, rfl, fun i hi => ?_⟩
    have hi' : i < zs.length := by simp at hi; omega
    have e1 : (⟨b, o, none⟩ : Addr).add i = ⟨b, o + i, none⟩ := by unfold Addr.add; split <;> simp_all
    rw [← e1, hc i hi']
    have e2 : zs.getD i 0 = zs[i] := by simp [List.getD, hi']
    rw [e2]
    simp only [List.getElem_map, List.getElem_take]
    rw [hg _ (hwf _ (List.getElem_mem hi'))]
theorem bytes_of_row {w : World} {a : Option Addr} {len cap : Nat} {zs : List Int}
    (h : (a = none ∧ len = 0 ∧ cap = 0 ∧ zs = []) ∨ ∃ x, a = some x ∧ len ≤ cap ∧ cap ≤ maxLen ∧ zs.length = cap ∧ (∀ i, i < zs.length → w.cell? (x.add i) = some (.int .u8 (zs.getD i 0))) ∧ ∀ n ∈ zs, (Lit.int .u8 n).wf = true) :
    ∃ l : List UInt8, l.length = len ∧ len ≤ cap ∧ cap ≤ 9223372036854775807 ∧ Rd vB w a l :=
  rd_of_row (fun n => UInt8.ofNat n.toNat) (fun n hn => by
    simp [Lit.wf, IntKind.min, IntKind.max, IntKind.signed, IntKind.bits] at hn
    unfold vB
    rw [UInt8.toNat_ofNat']
    congr 1
    omega) h
theorem words_of_row {w : World} {a : Option Addr} {len cap : Nat} {zs : List Int}
    (h : (a = none ∧ len = 0 ∧ cap = 0 ∧ zs = []) ∨ ∃ x, a = some x ∧ len ≤ cap ∧ cap ≤ maxLen ∧ zs.length = cap ∧ (∀ i, i < zs.length → w.cell? (x.add i) = some (.int .u32 (zs.getD i 0))) ∧ ∀ n ∈ zs, (Lit.int .u32 n).wf = true) :
    ∃ l : List UInt32, l.length = len ∧ len ≤ cap ∧ cap ≤ 9223372036854775807 ∧ Rd vW w a l :=
  rd_of_row (fun n => UInt32.ofNat n.toNat) (fun n hn => by
    simp [Lit.wf, IntKind.min, IntKind.max, IntKind.signed, IntKind.bits] at hn
    unfold vW
    rw [UInt32.toNat_ofNat']
    congr 1
    omega) h

theorem below_drewN {B : Nat} {a w : World} (h : Below B a w) (n : Nat) : Below B a (w.drewN n) := ⟨h.os, h.tape, h.output, h.size, h.block⟩
theorem below_from_drew {B : Nat} {a w : World} (h : Below B a w) : Below B a.drew w := ⟨h.os, h.tape, h.output, h.size, h.block⟩
/-- A call behind other ones; a new block behind them. -/
theorem below_step {a w w' : World} (h : Below a.heap.size a w) (k : Below w.heap.size w w') : Below a.heap.size a w' := h.trans (k.mono h.size)
theorem below_after {a w w' : World} (k : Below w.heap.size w w') (h : Below a.heap.size a w) : Below a.heap.size a w' := below_step h k
theorem below_new {a w : World} (h : Below a.heap.size a w) (o : Obj) : Below a.heap.size a (w.alloc o) := h.alloc h.size o

/-- What a call that hands back a new slice says of it. -/
def RetS {α : Type} (f : α → Value) (w : World) (l : List α) (e : Ending) (w' : World) : Prop :=
  ∃ A cap, e = .returned (.slice A l.length cap) ∧ l.length ≤ cap ∧ Rd f w' A l ∧ Below w.heap.size w w'

/-- .. and owns it: it may be appended to. -/
def RetO {α : Type} (t : TypeId) (f : α → Value) (w : World) (l : List α) (e : Ending) (w' : World) : Prop :=
  ∃ v, e = .returned v ∧ w'.ownsRow w.heap.size t 1 v l.length (l.map f) ∧ Below w.heap.size w w'
theorem RetS.own {α : Type} {f : α → Value} {w w' : World} {l : List α} {base : Nat} {e : TypeId} {v : Value} (h : w'.ownsRow base e 1 v l.length (l.map f)) (hb : Below w.heap.size w w') : RetS f w l (.returned v) w' := by
  rcases h.2 with ⟨rfl, h0⟩ | ⟨g, cap, cur, rfl, _, _, hc, _⟩
  · have hl : l = [] := List.eq_nil_of_length_eq_zero h0
    subst hl
    exact ⟨none, 0, rfl, Nat.le_refl _, Rd.nil, hb⟩
  · exact ⟨_, cap, rfl, hc, Rd.own h, hb⟩

theorem RetO.ret {α : Type} {t : TypeId} {f : α → Value} {w w' : World} {l : List α} {e : Ending} (h : RetO t f w l e w') : RetS f w l e w' := by
  obtain ⟨v, rfl, ho, hb⟩ := h
  exact RetS.own ho hb

end Go.Proofs.Ytankddeolpickaa
/-
  What the reference's calls of layer 7 answer: bits, powers of two, products, powers, inverses, logarithms. No conditions but those typed.
-/
namespace Go.Proofs.Ytankddeolpickaa
set_option maxRecDepth 100000
open Go.RowKit
set_option linter.unusedSimpArgs false
set_option linter.unusedVariables false

theorem refbit_any (n k : Nat) (w : World) (hn : n ≤ 1000000000) (hk : k ≤ 60) :
    Calls Try.prog 55 #[.int .i64 (n : Int), .int .i64 (k : Int)] w fun e w' => e = .returned (.int .i64 ((n / 2 ^ k % 2 : Nat) : Int)) ∧ w = w' := by
  go_enter Try.func55, Try.ntmps55
  go_wp2
  go_loop [0, 5] (fun v i => ∃ j : Nat, j ≤ k ∧ i = .int .i64 (j : Int) ∧ v = .int .i64 ((n / 2 ^ j : Nat) : Int)) (fun _ i => k - (intOf i).toNat)
  case atStart => exact ⟨0, by omega, rfl, by simp⟩
  case round =>
    obtain ⟨j, hj, rfl, rfl⟩ := hrel
    have hle : n / 2 ^ j ≤ n := Nat.div_le_self _ _
    by_cases hlt : j < k
    · have HN : Hid (n / 2 ^ (j + 1) = n / 2 ^ j / 2) := by unfold Hid; rw [Nat.pow_succ, Nat.div_div_eq_div_mul]
      generalize n / 2 ^ j = v at hle HN ⊢
      go_wp2
      go_round
      case rel => exact ⟨j + 1, by omega, by go_num, by rw [HN.out]; go_num⟩
      case measure => simp [intOf]; omega
    · have hjk : j = k := by omega
      subst hjk
      generalize hv : n / 2 ^ j = v at hle
      have HV := Lib.hid hv
      clear hv
      go_wp2
      go_ret
      exact ⟨ret_int (by rw [← HV.out]; simp), rfl⟩
theorem refpower_any (k : Nat) (w : World) (hk : k ≤ 20) :
    Calls Try.prog 56 #[.int .i64 (k : Int)] w fun e w' => e = .returned (.int .i64 ((2 ^ k : Nat) : Int)) ∧ w = w' := by
  go_enter Try.func56, Try.ntmps56
  go_wp2
  go_loop [3, 4] (fun v i => ∃ j : Nat, j ≤ k ∧ i = .int .i64 (j : Int) ∧ v = .int .i64 ((2 ^ j : Nat) : Int)) (fun _ i => k - (intOf i).toNat)
  case atStart => exact ⟨0, by omega, rfl, rfl⟩
  case round =>
    obtain ⟨j, hj, rfl, rfl⟩ := hrel
    have hle : 2 ^ j ≤ 2 ^ 20 := Nat.pow_le_pow_right (by omega) (by omega)
    by_cases hlt : j < k
    · have HN : Hid (2 ^ (j + 1) = 2 ^ j * 2) := Nat.pow_succ 2 j
      generalize 2 ^ j = v at hle HN ⊢
      have hv : (v : Int) ≤ 1048576 := by omega
      clear hle
      go_wp2
      go_round
      case rel => exact ⟨j + 1, by omega, by go_num, by rw [HN.out]; congr 1; omega⟩
      case measure => simp [intOf]; omega
    · have hjk : j = k := by omega
      subst hjk
      generalize hv : 2 ^ j = v at hle
      have HV := Lib.hid hv
      clear hv hle
      go_wp2
      go_ret
      exact ⟨ret_int (by rw [← HV.out]; simp), rfl⟩

theorem i64_xor_nat (a b : Nat) (ha : a < 4611686018427387904) (hb : b < 4611686018427387904) : bits .xor .i64 (a : Int) (b : Int) = ((a ^^^ b : Nat) : Int) := by
  have hx : a ^^^ b < 2 ^ 62 := Nat.xor_lt_two_pow (by omega) (by omega)
  have e : ∀ x : Nat, x < 4611686018427387904 → (BitVec.ofInt 64 (x : Int)).toNat = x := fun x h => by
    rw [BitVec.ofInt_natCast, BitVec.toNat_ofNat]
    exact Nat.mod_eq_of_lt (by omega)
  show IntKind.i64.wrap ((BitVec.ofInt 64 (a : Int) ^^^ BitVec.ofInt 64 (b : Int)).toNat : Int) = _
  rw [BitVec.toNat_xor, e a ha, e b hb, IntKind.wrap_i64]
  omega
theorem clN_lt (a b : Nat) (ha : a < 256) : ∀ i, i ≤ 8 → clN a b i < 65536
  | 0, _ => by simp [clN]
  | i + 1, h => by
    have ih := clN_lt a b ha i (by omega)
    unfold clN
    split
    · have h2 : 2 ^ i ≤ 2 ^ 7 := Nat.pow_le_pow_right (by omega) (by omega)
      have h3 : a * 2 ^ i ≤ 255 * 2 ^ 7 := Nat.mul_le_mul (by omega) h2
      exact Nat.xor_lt_two_pow (n := 16) (by omega) (by omega)
    · exact ih
/-- What is left, behind j bits. -/
def leftN (p : Nat) : Nat → Nat
  | 0 => p
  | j + 1 => stepN (leftN p j) (14 - j)
theorem leftN_seven (p : Nat) : leftN p 7 = redN p := rfl
theorem leftN_lt (p : Nat) (hp : p < 65536) : ∀ j, j ≤ 7 → leftN p j < 65536
  | 0, _ => hp
  | j + 1, h => by
    have ih := leftN_lt p hp j (by omega)
    rw [leftN, stepN]
    split
    · have h2 : 2 ^ (14 - j - 8) ≤ 2 ^ 6 := Nat.pow_le_pow_right (by omega) (by omega)
      exact Nat.xor_lt_two_pow (n := 16) (by omega) (by omega)
    · exact ih

set_option maxRecDepth 100000 in
theorem refmul_any (a b : UInt8) (w : World) :
    Calls Try.prog 52 #[.int .u8 (a.toNat : Int), .int .u8 (b.toNat : Int)] w fun e w' => e = .returned (.int .u8 ((mulB a b).toNat : Int)) ∧ w = w' := by
  obtain ⟨x, hx⟩ : ∃ x, a.toNat = x := ⟨_, rfl⟩
  obtain ⟨y, hy⟩ : ∃ y, b.toNat = y := ⟨_, rfl⟩
  have hx8 : x < 256 := by rw [← hx]; exact a.toNat_lt
  have hy8 : y < 256 := by rw [← hy]; exact b.toNat_lt
  have HE : Hid ((mulB a b).toNat = leftN (clN x y 8) 7 % 256) := by
    unfold Hid mulB mulN
    rw [UInt8.toNat_ofNat', hx, hy, leftN_seven]
  rw [HE.out, hx, hy]
  clear hx hy HE
  have b1 : IntKind.i64.wrap (x : Int) = (x : Int) := by rw [IntKind.wrap_i64]; omega
  have b2 : IntKind.i64.wrap (y : Int) = (y : Int) := by rw [IntKind.wrap_i64]; omega
  go_enter Try.func52, Try.ntmps52
  go_wp2
  go_loop [5, 6] (fun p i => ∃ j : Nat, j ≤ 8 ∧ i = .int .i64 (j : Int) ∧ p = .int .i64 (clN x y j : Int)) (fun _ i => 8 - (intOf i).toNat)
  case atStart => exact ⟨0, by omega, rfl, rfl⟩
  case round =>
    obtain ⟨j, hj, rfl, rfl⟩ := hrel
    have hp := clN_lt x y hx8 j hj
    by_cases hlt : j < 8
    · have i1 : (j : Int) < 8 := by omega
      have i0 : (0 : Int) ≤ (j : Int) := by omega
      have HN : Hid (clN x y (j + 1) = if y / 2 ^ j % 2 = 1 then clN x y j ^^^ x * 2 ^ j else clN x y j) := rfl
      have h2 : 2 ^ j ≤ 2 ^ 7 := Nat.pow_le_pow_right (by omega) (by omega)
      have h3 : x * 2 ^ j ≤ 255 * 2 ^ 7 := Nat.mul_le_mul (by omega) h2
      have hxor := i64_xor_nat (clN x y j) (x * 2 ^ j) (by omega) (by omega)
      have hwm : IntKind.i64.wrap ((x * 2 ^ j : Nat) : Int) = ((x * 2 ^ j : Nat) : Int) := by rw [IntKind.wrap_i64]; omega
      have hmm : (x : Int) * ((2 ^ j : Nat) : Int) = ((x * 2 ^ j : Nat) : Int) := by rw [← Int.natCast_mul]
      by_cases hbit : y / 2 ^ j % 2 = 1
      · rw [if_pos hbit] at HN
        have HB : Hid (((y / 2 ^ j % 2 : Nat) : Int) = 1) := by unfold Hid; omega
        generalize hc : clN x y j = c at HN hxor hp
        have HC := Lib.hid hc
        generalize ht : x * 2 ^ j = t at HN hxor hwm hmm
        have HT := Lib.hid ht
        generalize hr : c ^^^ t = r at HN hxor
        generalize hq : 2 ^ j = q at hmm
        have HQ := Lib.hid hq
        clear hc ht hr hq h2 h3 hbit hp
        go_wp2_with fail
        refine (refbit_any y j _ (by omega) (by omega)).mono ?_
        rintro e w' ⟨rfl, rfl⟩
        rw [HB.out]
        go_wp2_with fail
        refine (refpower_any j _ (by omega)).mono ?_
        rintro e w' ⟨rfl, rfl⟩
        rw [HQ.out]
        go_wp2_with fail
        go_round
        case rel => exact ⟨j + 1, by omega, by go_num, by rw [HN.out]⟩
        case measure => simp [intOf]; omega
      · rw [if_neg hbit] at HN
        have HB : Hid (((y / 2 ^ j % 2 : Nat) : Int) = 0) := by unfold Hid; omega
        generalize hc : clN x y j = c at HN hxor hp
        have HC := Lib.hid hc
        clear hc h2 h3 hbit hp hxor hwm hmm
        go_wp2_with fail
        refine (refbit_any y j _ (by omega) (by omega)).mono ?_
        rintro e w' ⟨rfl, rfl⟩
        rw [HB.out]
        go_wp2_with fail
        go_round
        case rel => exact ⟨j + 1, by omega, by go_num, by rw [HN.out]⟩
        case measure => simp [intOf]; omega
    · have hj8 : j = 8 := by omega
      subst hj8
      generalize hc : clN x y 8 = c at hp
      have HC := Lib.hid hc
      have HL : Hid (∀ j, j ≤ 7 → leftN c j < 65536) := leftN_lt c hp
      clear hc hlt hj b1 b2
      go_wp2
      go_loop [5, 7] (fun p k => ∃ j : Nat, j ≤ 7 ∧ k = .int .i64 (14 - (j : Int)) ∧ p = .int .i64 (leftN c j : Int)) (fun _ k => (intOf k - 7).toNat)
      case atStart => exact ⟨0, by omega, rfl, rfl⟩
      case round =>
        obtain ⟨j, hj, rfl, rfl⟩ := hrel
        have hl := HL.out j hj
        by_cases hlt : j < 7
        · have i1 : (8 : Int) ≤ 14 - (j : Int) := by omega
          obtain ⟨k, hk⟩ : ∃ k : Nat, k = 14 - j := ⟨_, rfl⟩
          have ek : (14 : Int) - (j : Int) = (k : Int) := by omega
          have HK := Lib.hid hk
          have HN : Hid (leftN c (j + 1) = if leftN c j / 2 ^ k % 2 = 1 then leftN c j ^^^ 301 * 2 ^ (k - 8) else leftN c j) := by unfold Hid; rw [hk]; rfl
          have h2 : 2 ^ (k - 8) ≤ 2 ^ 6 := Nat.pow_le_pow_right (by omega) (by omega)
          have hxor := i64_xor_nat (leftN c j) (301 * 2 ^ (k - 8)) (by omega) (by omega)
          have hmm : (301 : Int) * ((2 ^ (k - 8) : Nat) : Int) = ((301 * 2 ^ (k - 8) : Nat) : Int) := by omega
          have hwm : IntKind.i64.wrap ((301 * 2 ^ (k - 8) : Nat) : Int) = ((301 * 2 ^ (k - 8) : Nat) : Int) := by rw [IntKind.wrap_i64]; omega
          have e8 : (k : Int) - 8 = ((k - 8 : Nat) : Int) := by omega
          have e9 : IntKind.i64.wrap ((k - 8 : Nat) : Int) = ((k - 8 : Nat) : Int) := by rw [IntKind.wrap_i64]; omega
          have e10 : (k : Int) - 1 = 14 - ((j : Int) + 1) := by omega
          have k8 : 8 ≤ k := by omega
          have k14 : k ≤ 14 := by omega
          rw [ek] at i1 ⊢
          by_cases hbit : leftN c j / 2 ^ k % 2 = 1
          · rw [if_pos hbit] at HN
            have HB : Hid (((leftN c j / 2 ^ k % 2 : Nat) : Int) = 1) := by unfold Hid; omega
            generalize hc : leftN c j = p at HN hxor hl HB
            generalize ht : 301 * 2 ^ (k - 8) = t at HN hxor hwm hmm
            generalize hr : p ^^^ t = r at HN hxor
            generalize hq : 2 ^ (k - 8) = q at hwm hmm
            have HQ := Lib.hid hq
            generalize hs : k - 8 = s at e8 e9 HQ
            have HS : Hid (s ≤ 20) := by unfold Hid; omega
            clear hc ht hr hq h2 hbit ek hk hs
            go_wp2_with fail
            refine (refbit_any p k _ (by omega) (by omega)).mono ?_
            rintro e w' ⟨rfl, rfl⟩
            rw [HB.out]
            go_wp2_with fail
            refine (refpower_any s _ HS.out).mono ?_
            rintro e w' ⟨rfl, rfl⟩
            rw [HQ.out]
            go_wp2_with fail
            go_round
            case rel => exact ⟨j + 1, by omega, by go_num, by rw [HN.out]⟩
            case measure => simp [intOf]; omega
          · rw [if_neg hbit] at HN
            have HB : Hid (((leftN c j / 2 ^ k % 2 : Nat) : Int) = 0) := by unfold Hid; omega
            generalize hc : leftN c j = p at HN hl HB
            clear hc hxor hmm hwm e8 e9 h2 hbit ek hk
            go_wp2_with fail
            refine (refbit_any p k _ (by omega) (by omega)).mono ?_
            rintro e w' ⟨rfl, rfl⟩
            rw [HB.out]
            go_wp2_with fail
            go_round
            case rel => exact ⟨j + 1, by omega, by go_num, by rw [HN.out]⟩
            case measure => simp [intOf]; omega
        · have hj7 : j = 7 := by omega
          subst hj7
          generalize hc : leftN c 7 = p at hl
          have HP := Lib.hid hc
          have m1 : IntKind.u8.wrap (p : Int) = ((p % 256 : Nat) : Int) := by rw [IntKind.wrap_u8']; omega
          clear hc hlt
          go_wp2
          go_ret
          exact ⟨ret_int (by rw [HC.out, HP.out]), rfl⟩

/-! ### Powers -/
def powZ (a : UInt8) (n : Int) : UInt8 := if a = 0 then (if n = 0 then 1 else 0) else powB a (n % 255).toNat
theorem refpow_core (a : UInt8) (n m : Int) (r : Nat) (w : World) (ha : a ≠ 0) (hm : n.tmod 255 = m) (hr : (r : Int) = if m < 0 then m + 255 else m) (hr2 : r < 255) :
    Calls Try.prog 53 #[.int .u8 (a.toNat : Int), .int .i64 n] w fun e w' => e = .returned (.int .u8 ((powB a r).toNat : Int)) ∧ w = w' := by
  have hne : a.toNat ≠ 0 := fun e => ha (UInt8.toNat_inj.1 e)
  have z1 : ((a.toNat : Int) == 0) = false := beq_eq_false_iff_ne.2 (fun h => hne (by omega))
  have hmb : -255 ≤ m ∧ m < 255 := by
    by_cases h : m < 0
    · rw [if_pos h] at hr; omega
    · rw [if_neg h] at hr; omega
  obtain ⟨l1, l2⟩ := hmb
  have HR2 := Lib.hid hr2
  clear ha hne
  by_cases hneg : m < 0
  · rw [if_pos hneg] at hr
    have hs : m + 255 = (r : Int) := by omega
    have hw1 : IntKind.i64.wrap (r : Int) = (r : Int) := by rw [IntKind.wrap_i64]; omega
    clear hr hr2
    go_enter Try.func53, Try.ntmps53
    go_wp2
    go_loop [5, 6] (fun p i => ∃ j : Nat, j ≤ r ∧ i = .int .i64 (j : Int) ∧ p = .int .u8 ((powB a j).toNat : Int)) (fun _ i => r - (intOf i).toNat)
    case atStart => exact ⟨0, by omega, rfl, rfl⟩
    case round =>
      obtain ⟨j, hj, rfl, rfl⟩ := hrel
      have hr2 := HR2.out
      by_cases hlt : j < r
      · have HN : Hid (powB a (j + 1) = mulB (powB a j) a) := rfl
        generalize powB a j = p at HN ⊢
        go_wp2_with fail
        refine (refmul_any p a _).mono ?_
        rintro e w' ⟨rfl, rfl⟩
        rw [← HN.out]
        generalize hq : powB a (j + 1) = q
        have HQ := Lib.hid hq
        clear hq
        go_wp2_with fail
        go_round
        case rel => exact ⟨j + 1, by omega, by go_num, by rw [HQ.out]⟩
        case measure => simp [intOf]; omega
      · have hjr : j = r := by omega
        subst hjr
        generalize hq : powB a j = q
        have HQ := Lib.hid hq
        clear hq
        go_wp2
        go_ret
        exact ⟨ret_int (by rw [HQ.out]), rfl⟩
  · rw [if_neg hneg] at hr
    subst hr
    have h0 : ¬ (r : Int) < 0 := by omega
    clear hr2 hneg l1
    go_enter Try.func53, Try.ntmps53
    go_wp2
    go_loop [5, 6] (fun p i => ∃ j : Nat, j ≤ r ∧ i = .int .i64 (j : Int) ∧ p = .int .u8 ((powB a j).toNat : Int)) (fun _ i => r - (intOf i).toNat)
    case atStart => exact ⟨0, by omega, rfl, rfl⟩
    case round =>
      obtain ⟨j, hj, rfl, rfl⟩ := hrel
      have hr2 := HR2.out
      by_cases hlt : j < r
      · have HN : Hid (powB a (j + 1) = mulB (powB a j) a) := rfl
        generalize powB a j = p at HN ⊢
        go_wp2_with fail
        refine (refmul_any p a _).mono ?_
        rintro e w' ⟨rfl, rfl⟩
        rw [← HN.out]
        generalize hq : powB a (j + 1) = q
        have HQ := Lib.hid hq
        clear hq
        go_wp2_with fail
        go_round
        case rel => exact ⟨j + 1, by omega, by go_num, by rw [HQ.out]⟩
        case measure => simp [intOf]; omega
      · have hjr : j = r := by omega
        subst hjr
        generalize hq : powB a j = q
        have HQ := Lib.hid hq
        clear hq
        go_wp2
        go_ret
        exact ⟨ret_int (by rw [HQ.out]), rfl⟩
theorem refpow_any (a : UInt8) (n : Int) (w : World) :
    Calls Try.prog 53 #[.int .u8 (a.toNat : Int), .int .i64 n] w fun e w' => e = .returned (.int .u8 ((powZ a n).toNat : Int)) ∧ w = w' := by
  by_cases ha : a = 0
  · subst ha
    by_cases hn : n = 0
    · subst hn
      have HE : Hid (powZ 0 0 = 1) := rfl
      rw [HE.out]
      go_enter Try.func53, Try.ntmps53
      go_wp2
      go_ret
      exact ⟨rfl, rfl⟩
    · have HE : Hid (powZ 0 n = 0) := by unfold Hid powZ; rw [if_pos rfl, if_neg hn]
      rw [HE.out]
      have z : (n == 0) = false := beq_eq_false_iff_ne.2 hn
      go_enter Try.func53, Try.ntmps53
      go_wp2
      go_ret
      exact ⟨rfl, rfl⟩
  · have HE : Hid (powZ a n = powB a (n % 255).toNat) := by unfold Hid powZ; rw [if_neg ha]
    rw [HE.out]
    refine refpow_core a n (n.tmod 255) _ w ha rfl ?_ (by omega)
    rw [Int.tmod_eq_emod]
    split <;> split <;> omega
theorem refexp_any (n : Int) (w : World) :
    Calls Try.prog 47 #[.int .i64 n] w fun e w' => e = .returned (.int .u8 ((powZ 2 n).toNat : Int)) ∧ w = w' := by
  go_enter Try.func47, Try.ntmps47
  go_wp2_with fail
  refine (refpow_any 2 n _).mono ?_
  rintro e w' ⟨rfl, rfl⟩
  go_wp2_with fail
  go_ret
  exact ⟨rfl, rfl⟩

/-! ### Inverses and logarithms, by trying -/
set_option maxRecDepth 100000 in
theorem refinv_any (a : UInt8) (w : World) (ha : a ≠ 0) :
    Calls Try.prog 54 #[.int .u8 (a.toNat : Int)] w fun e w' => e = .returned (.int .u8 ((invB a).toNat : Int)) ∧ w = w' := by
  have hi0 : (invB a).toNat ≠ 0 := fun e => inv_ne a ha (UInt8.toNat_inj.1 e)
  have hi8 : (invB a).toNat < 256 := (invB a).toNat_lt
  obtain ⟨v, hv⟩ : ∃ v, (invB a).toNat = v := ⟨_, rfl⟩
  have HV := Lib.hid hv
  rw [hv] at hi0 hi8
  have HI := Lib.hid hi0
  have HA := Lib.hid ha
  clear hv hi0 ha
  go_enter Try.func54, Try.ntmps54
  go_wp2
  go_loop [3] (fun i => ∃ j : Nat, 1 ≤ j ∧ j ≤ v ∧ i = .int .i64 (j : Int)) (fun i => v - (intOf i).toNat)
  case atStart => exact ⟨1, by omega, by have := HI.out; omega, rfl⟩
  case round =>
    obtain ⟨j, h1, hj, rfl⟩ := hrel
    have i1 : (j : Int) < 256 := by omega
    have hw1 : IntKind.u8.wrap (j : Int) = ((UInt8.ofNat j).toNat : Int) := by rw [IntKind.wrap_u8', UInt8.toNat_ofNat']; omega
    have hx : (UInt8.ofNat j).toNat = j := by rw [UInt8.toNat_ofNat']; omega
    by_cases hlt : j < v
    · have hne : mulB a (UInt8.ofNat j) ≠ 1 := by
        intro h
        have := inv_unique a _ h
        have e := HV.out
        rw [← this, hx] at e
        omega
      have HB : Hid ((((mulB a (UInt8.ofNat j)).toNat : Int) == 1) = false) := beq_eq_false_iff_ne.2 (fun h => hne (UInt8.toNat_inj.1 (by show _ = 1; omega)))
      generalize UInt8.ofNat j = x at hw1 HB
      clear hx hne
      go_wp2_with fail
      refine (refmul_any a x _).mono ?_
      rintro e w' ⟨rfl, rfl⟩
      have hb := HB.out
      generalize (mulB a x).toNat = z at hb
      go_wp2_with fail
      go_round
      case rel => exact ⟨j + 1, by omega, by omega, by go_num⟩
      case measure => simp [intOf]; omega
    · have hjv : j = v := by omega
      have e : UInt8.ofNat j = invB a := by
        apply UInt8.toNat_inj.1
        rw [hx, HV.out]
        exact hjv
      have HB : Hid (((mulB a (UInt8.ofNat j)).toNat : Int) = 1) := by unfold Hid; rw [e, mul_inv a HA.out]; rfl
      have HE := Lib.hid e
      generalize UInt8.ofNat j = x at hw1 HB HE
      clear hx e hlt hjv
      go_wp2_with fail
      refine (refmul_any a x _).mono ?_
      rintro e w' ⟨rfl, rfl⟩
      rw [HB.out]
      go_wp2_with fail
      go_ret
      exact ⟨ret_int (by rw [HE.out]), rfl⟩
theorem powZ_two (j : Nat) (h : j < 255) : powZ 2 (j : Int) = powB 2 j := by
  unfold powZ
  rw [if_neg (by decide)]
  congr 1
  omega
end Go.Proofs.Ytankddeolpickaa
/-
  append of a slice that came in, or that a call handed back, onto a row of the call's own, nil and empty ones with it (no program is named here). No conditions but those typed.
-/
namespace Go.Proofs.Ytankddeolpickaa
set_option maxRecDepth 100000
open Go.RowKit

section
variable {P : Program} (w : World)
theorem run_append_nothing_of (base : Nat) (t ty e : TypeId) (i : TypeInfo) (ht : P.underlying t = some (.slice e)) (hi : P.info? e = some i)
    (v : Value) (n : Nat) (xs : List Value) (hown : w.ownsRow base e 1 v n xs) (c : Nat) : (Builtin.append_ #[t, t] ty #[v, .slice none 0 c]).run P w = .ok v w := by
  rcases hown.2 with ⟨rfl, rfl⟩ | ⟨g, cap, cur, rfl, _, _, hnc, _⟩
  · simp [Builtin.append_, run_underlying ht, sizeOf, typeInfo, hi, Builtin.lenOf, Builtin.firstCells]
  · simp [Builtin.append_, run_underlying ht, sizeOf, typeInfo, hi, Builtin.lenOf, Builtin.firstCells, hnc, storeCells]

theorem run_append_rd {α : Type} {f : α → Value} (base : Nat) (t ty e : TypeId) (i : TypeInfo) (z : Value) (bytes : Nat) (ht : P.underlying t = some (.slice e)) (hi : P.info? e = some i) (hz : i.zero = some z)
    (hsize : i.size = 1) (hby : i.bytes = bytes) (hzs : z.cells.size = 1) (v : Value) (n : Nat) (xs : List Value) (hown : w.ownsRow base e 1 v n xs)
    (A : Option Addr) (l : List α) (c : Nat) (hr : Rd f w A l) (h1 : ∀ x, (f x).oneCell' = true)
    (h63 : n + l.length ≤ maxLen) (hbytes : (n + l.length) * bytes ≤ 140737488355328) (hbase : base ≤ w.heap.size) :
    ∃ v' w', (Builtin.append_ #[t, t] ty #[v, .slice A l.length c]).run P w = .ok v' w' ∧ w'.ownsRow base e 1 v' (n + l.length) (xs ++ l.map f) ∧ w.grownBy w' v.ownBlock := by
  have hone : ∀ u ∈ l.map f, u.oneCell' = true := by
    intro u hu
    simp only [List.mem_map] at hu
    obtain ⟨x, _, rfl⟩ := hu
    exact h1 x
  by_cases hl : l = []
  · subst hl
    cases A with
    | none => exact ⟨v, w, run_append_nothing_of w base t ty e i ht hi v n xs hown c, by simpa using hown, ⟨rfl, rfl, rfl, Nat.le_refl _, fun _ _ _ => rfl⟩⟩
    | some ad =>
      obtain ⟨v', w', hrun, h2, h3, _⟩ := run_append_own (P := P) w base t ty e i z 1 bytes ht hi hz hsize hby hzs (by omega) v n xs hown ad 0 c [] rfl (fun j u h => by simp at h) (fun u h => by simp at h) h63 hbytes hbase
      exact ⟨v', w', hrun, h2, h3⟩
  · obtain ⟨b, o, rfl, _⟩ := hr hl
    obtain ⟨v', w', hrun, h2, h3, _⟩ := run_append_own (P := P) w base t ty e i z 1 bytes ht hi hz hsize hby hzs (by omega) v n xs hown ⟨b, o, none⟩ l.length c (l.map f) (by simp) hr.news hone h63 hbytes hbase
    exact ⟨v', w', hrun, h2, h3⟩

theorem wp_append_rd {α : Type} {f : α → Value} {o : Oper} {a : Act} {K : Act → World → Prop} {Q : Exit → Act → World → Prop} (s x : Operand) (t : TypeId)
    (ho : o.op = .call { callee := .builtin .append, args := #[s, x], argTypes := #[t, t] })
    (base : Nat) (e : TypeId) (i : TypeInfo) (z : Value) (bytes : Nat) (ht : P.underlying t = some (.slice e)) (hi : P.info? e = some i) (hz : i.zero = some z)
    (hsize : i.size = 1) (hby : i.bytes = bytes) (hzs : z.cells.size = 1) (v : Value) (n : Nat) (xs : List Value) (hs : a.eval s = v) (hown : w.ownsRow base e 1 v n xs)
    (A : Option Addr) (l : List α) (c : Nat) (hx : a.eval x = .slice A l.length c) (hr : Rd f w A l) (h1 : ∀ x, (f x).oneCell' = true)
    (h63 : n + l.length ≤ maxLen) (hbytes : (n + l.length) * bytes ≤ 140737488355328) (hbase : base ≤ w.heap.size)
    (h : ∀ v' w', w'.ownsRow base e 1 v' (n + l.length) (xs ++ l.map f) → w.grownBy w' v.ownBlock → K (a.put o.dst v') w') : o.wp P a w K Q := by
  obtain ⟨v', w', hr, h2, h3⟩ := run_append_rd (P := P) w base t o.type e i z bytes ht hi hz hsize hby hzs v n xs hown A l c hr h1 h63 hbytes hbase
  unfold Oper.wp execOp
  simp only [ho, resolve, invoke, builtin, Sem.run_bind, Sem.run_pure, Result.andThen_ok, List.map_toArray, List.map_cons, List.map_nil, hs, hx, hr]
  exact h v' w' h2 h3

theorem wpList_append_rd {α : Type} {f : α → Value} {ops : Array Oper} {rest : List Oper} {o : Oper} {a : Act} {Q : Exit → Act → World → Prop} (hgd : o.guard = none) (s x : Operand) (t : TypeId)
    (ho : o.op = .call { callee := .builtin .append, args := #[s, x], argTypes := #[t, t] })
    (base : Nat) (e : TypeId) (i : TypeInfo) (z : Value) (bytes : Nat) (ht : P.underlying t = some (.slice e)) (hi : P.info? e = some i) (hz : i.zero = some z)
    (hsize : i.size = 1) (hby : i.bytes = bytes) (hzs : z.cells.size = 1) (v : Value) (n : Nat) (xs : List Value) (hs : a.eval s = v) (hown : w.ownsRow base e 1 v n xs)
    (A : Option Addr) (l : List α) (c : Nat) (hx : a.eval x = .slice A l.length c) (hr : Rd f w A l) (h1 : ∀ x, (f x).oneCell' = true)
    (h63 : n + l.length ≤ maxLen) (hbytes : (n + l.length) * bytes ≤ 140737488355328) (hbase : base ≤ w.heap.size)
    (h : ∀ v' w', w'.ownsRow base e 1 v' (n + l.length) (xs ++ l.map f) → w.grownBy w' v.ownBlock → wpList P ops Q rest (a.put o.dst v') w') : wpList P ops Q (o :: rest) a w :=
  wpList_plain hgd fun _ hK => wp_append_rd w s x t ho base e i z bytes ht hi hz hsize hby hzs v n xs hs hown A l c hx hr h1 h63 hbytes hbase fun v' w' h2 h3 => hK _ _ (h v' w' h2 h3)
end

theorem vB_one (c : UInt8) : (vB c).oneCell' = true := rfl
theorem vW_one (c : UInt32) : (vW c).oneCell' = true := rfl

/-- 's[lo:hi]'. -/
theorem Rd.mid {α : Type} {f : α → Value} {w : World} {A : Option Addr} {l : List α} (h : Rd f w A l) (lo hi cap : Nat) (hc : l.length ≤ cap) : Rd f w (if cap = lo then A else A.map (·.add (lo * 1))) ((l.drop lo).take (hi - lo)) := (h.drop lo cap hc).take _

end Go.Proofs.Ytankddeolpickaa
