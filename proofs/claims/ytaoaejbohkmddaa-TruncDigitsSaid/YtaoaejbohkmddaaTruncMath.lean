/-
  Layer 4 as plain functions: at how many places two lists of bytes are unlike; a tag's code; a code's digits. No conditions but those typed.
-/
import Derived.Test.YtaoaejbohkmddaaWordMath
import Derived.Test.YtaoaejbohkmddaaWordNums
namespace Go.Proofs.Ytaoaejbohkmddaa
open Go.RowKit

/-- At how many places two lists are unlike. -/
def unlikeL : List UInt8 → List UInt8 → Nat
  | [], b => b.length
  | _ :: a, [] => a.length + 1
  | x :: a, y :: b => (if x = y then 0 else 1) + unlikeL a b
theorem unlike_nil (a : List UInt8) : unlikeL a [] = a.length := by cases a <;> rfl
theorem unlike_zero : ∀ a b : List UInt8, unlikeL a b = 0 ↔ a = b
  | [], [] => by simp [unlikeL]
  | [], y :: b => by simp [unlikeL]
  | x :: a, [] => by simp [unlikeL]
  | x :: a, y :: b => by
    have ih := unlike_zero a b
    rw [unlikeL]
    by_cases h : x = y
    · simp [h, ih]
    · simp [h]
theorem unlike_symm : ∀ a b : List UInt8, unlikeL a b = unlikeL b a
  | [], [] => rfl
  | [], y :: b => by simp [unlikeL]
  | x :: a, [] => by simp [unlikeL]
  | x :: a, y :: b => by
    have ih := unlike_symm a b
    rw [unlikeL, unlikeL, ih]
    by_cases h : x = y
    · simp [h]
    · simp [h, Ne.symm h]
theorem unlike_le : ∀ a b : List UInt8, unlikeL a b ≤ max a.length b.length
  | [], b => by simp [unlikeL]
  | x :: a, [] => by simp [unlikeL]
  | x :: a, y :: b => by
    have ih := unlike_le a b
    rw [unlikeL, List.length_cons, List.length_cons]
    split <;> omega
theorem unlike_tri : ∀ a b c : List UInt8, unlikeL a c ≤ unlikeL a b + unlikeL b c
  | [], b, c => by
    match b, c with
    | [], c => simp [unlikeL]
    | y :: b, [] => simp [unlikeL]
    | y :: b, z :: c =>
      have ih := unlike_tri [] b c
      simp only [unlikeL, List.length_cons] at ih ⊢
      split <;> omega
  | x :: a, [], c => by
    match c with
    | [] => simp [unlikeL]
    | z :: c =>
      have ih := unlike_le a c
      simp only [unlikeL, List.length_cons] at ih ⊢
      split <;> omega
  | x :: a, y :: b, [] => by
    have ih := unlike_tri a b []
    rw [unlike_nil, unlike_nil] at *
    rw [unlikeL, List.length_cons, List.length_cons]
    split <;> omega
  | x :: a, y :: b, z :: c => by
    have ih := unlike_tri a b c
    rw [unlikeL, unlikeL, unlikeL]
    by_cases h1 : x = y <;> by_cases h2 : y = z <;> by_cases h3 : x = z <;> simp_all <;> omega
theorem unlike_self (a : List UInt8) : unlikeL a a = 0 := (unlike_zero a a).2 rfl
theorem unlike_set : ∀ (a : List UInt8) (i : Nat) (h : i < a.length) (z : UInt8), z ≠ a[i] → unlikeL a (a.set i z) = 1
  | x :: a, 0, _, z, hz => by
    rw [List.set_cons_zero, unlikeL, if_neg (fun e => hz (by rw [← e]; rfl)), unlike_self]
  | x :: a, i + 1, h, z, hz => by
    rw [List.set_cons_succ, unlikeL, if_pos rfl, unlike_set a i (by simpa using h) z (by simpa using hz)]
theorem unlike_take : ∀ (a b : List UInt8) (i : Nat), i < a.length ∨ i < b.length → unlikeL (a.take (i + 1)) (b.take (i + 1)) = unlikeL (a.take i) (b.take i) + (if a[i]? = b[i]? then 0 else 1)
  | [], [], i, h => by simp at h
  | [], y :: b, i, h => by
    have hb : i < (y :: b).length := by simpa using h
    rw [List.take_nil, List.take_nil, unlikeL, unlikeL, List.length_take, List.length_take, List.getElem?_nil, List.getElem?_eq_getElem hb, if_neg (by simp)]
    omega
  | x :: a, [], i, h => by
    have ha : i < (x :: a).length := by simpa using h
    rw [List.take_nil, List.take_nil, unlike_nil, unlike_nil, List.length_take, List.length_take, List.getElem?_nil, List.getElem?_eq_getElem ha, if_neg (by simp)]
    omega
  | x :: a, y :: b, 0, h => by
    simp [unlikeL, List.take]
  | x :: a, y :: b, i + 1, h => by
    have ih := unlike_take a b i (by simpa using h)
    rw [List.take_succ_cons, List.take_succ_cons, List.take_succ_cons, List.take_succ_cons, unlikeL, unlikeL, ih, List.getElem?_cons_succ, List.getElem?_cons_succ]
    omega

/-- Where a tag's code lies. -/
def codeAt (tag : List UInt8) : Nat := (tag.getD (tag.length - 1) 0).toNat % 16
def codeN (tag : List UInt8) : Nat := valN ((tag.drop (codeAt tag)).take 4) % 2147483648
theorem codeAt_lt (tag : List UInt8) : codeAt tag < 16 := Nat.mod_lt _ (by omega)
theorem codeN_lt (tag : List UInt8) : codeN tag < 2147483648 := Nat.mod_lt _ (by omega)

/-- A code's last i digits. -/
def digB (code i : Nat) : UInt8 := UInt8.ofNat (48 + code / 10 ^ i % 10)
def digL (code : Nat) : Nat → List UInt8
  | 0 => []
  | i + 1 => digB code i :: digL code i
theorem digL_length (code : Nat) : ∀ n, (digL code n).length = n
  | 0 => rfl
  | n + 1 => by rw [digL, List.length_cons, digL_length code n]
theorem digB_toNat (code i : Nat) : (digB code i).toNat = 48 + code / 10 ^ i % 10 := by
  rw [digB, UInt8.toNat_ofNat']
  have : code / 10 ^ i % 10 < 10 := Nat.mod_lt _ (by omega)
  omega
theorem digL_drop (code : Nat) : ∀ m n, m ≤ n → (digL code n).drop (n - m) = digL code m
  | m, 0, h => by
    have : m = 0 := by omega
    subst this
    rfl
  | m, n + 1, h => by
    by_cases e : m = n + 1
    · subst e
      simp
    · rw [show n + 1 - m = (n - m) + 1 by omega, digL, List.drop_succ_cons]
      exact digL_drop code m n (by omega)
theorem digL_getElem (code n i : Nat) (h : i < n) : (digL code n)[i]'(by rw [digL_length]; exact h) = digB code (n - 1 - i) := by
  have hd := digL_drop code (n - i) n (by omega)
  have h1 : (digL code n)[i]? = (digL code (n - i))[0]? := by
    rw [← hd, List.getElem?_drop]
    congr 1
    omega
  have h2 : (digL code (n - i))[0]? = some (digB code (n - 1 - i)) := by
    rw [show n - i = (n - 1 - i) + 1 by omega, digL]
    rfl
  rw [h2] at h1
  have h3 : i < (digL code n).length := by rw [digL_length]; exact h
  rw [List.getElem?_eq_getElem h3] at h1
  exact Option.some.inj h1
/-- The number of a code's first i digits of n. -/
def headN (code n i : Nat) : Nat := code / 10 ^ (n - i) % 10 ^ i
theorem headN_next (code n i : Nat) (h : i < n) : headN code n (i + 1) = 10 * headN code n i + code / 10 ^ (n - 1 - i) % 10 := by
  unfold headN
  obtain ⟨k, hk⟩ : ∃ k, k = n - 1 - i := ⟨_, rfl⟩
  rw [show n - (i + 1) = k by omega, show n - i = k + 1 by omega, ← hk, Nat.pow_succ 10 k, ← Nat.div_div_eq_div_mul, Nat.pow_succ 10 i, Nat.mul_comm (10 ^ i) 10, Nat.mod_mul]
  omega
theorem headN_lt (code n i : Nat) : headN code n i < 10 ^ i := Nat.mod_lt _ (Nat.pow_pos (by omega))
end Go.Proofs.Ytaoaejbohkmddaa
