/-
  The walk of the law TruncRight: any tag's code, any code's digits, and at how many places any two tags are unlike, are the document's. No conditions.
-/
import Derived.Test.YtaoaejbohkmddaaTruncAwake
namespace Go.Proofs.Ytaoaejbohkmddaa
open Go.RowKit
set_option linter.unusedSimpArgs false
set_option linter.unusedVariables false

theorem refcode_is (n : Nat) (tag : List UInt8) (z : Nat) (u : Int) (A : Option Addr) (c : Nat) (w : World) (HZ : Hid (codeR tag = (z, u))) (HN : Hid (tag.length = n)) (hr : Rd vB w A tag) (hc : n ≤ c) (hl : n ≤ 9223372036854775807) :
    Calls Try.prog 8 #[.slice A n c] w fun e w' => e = .returned (.tuple #[.int .u32 (z : Int), .int .i64 u]) ∧ w = w' :=
  (refcode_any n tag A c w HN hr hc hl).mono fun _ _ ⟨he, hw⟩ => ⟨by rw [he, HZ.out], hw⟩
/-- Digits, of both, whatever the number. -/
theorem digits_both (code : Nat) (n : Int) (hc : code < 4294967296) : ∃ (S : ByteArray) (u : Int), (S.size : Int) ≤ 9 ∧
    (∀ w, Calls Try.prog 9 #[.int .u32 (code : Int), .int .i64 n] w fun e w' => e = .returned (.tuple #[.string S, .int .i64 u]) ∧ Below w.heap.size w w') ∧
    (∀ w, Calls Try.prog 10 #[.int .u32 (code : Int), .int .i64 n] w fun e w' => e = .returned (.tuple #[.string S, .int .i64 u]) ∧ Below w.heap.size w w') := by
  by_cases h : n < 1 ∨ 9 < n
  · exact ⟨ByteArray.empty, 1, by decide, fun w => digits_bad code n w h, fun w => refdigits_bad code n w h⟩
  · obtain ⟨m, rfl⟩ : ∃ m : Nat, n = (m : Int) := ⟨n.toNat, by omega⟩
    exact ⟨strL (digL code m), 0, by rw [strL_size, digL_length]; omega, fun w => digits_good code m w hc (by omega) (by omega), fun w => refdigits_good code m w hc (by omega) (by omega)⟩

set_option maxRecDepth 100000 in
set_option maxHeartbeats 1000000 in
theorem truncright_core (a b : List UInt8) (A B : Option Addr) (c d code : Nat) (n : Int) (w : World) (ha : Rd vB w A a) (hb : Rd vB w B b) (hac : a.length ≤ c) (hbc : b.length ≤ d) (hal : a.length ≤ 3000) (hbl : b.length ≤ 3000) (hcode : code < 4294967296) :
    Calls Try.prog 3 #[.slice A a.length c, .slice B b.length d, .int .u32 (code : Int), .int .i64 n] w fun e w' => e = .returned (.bool true) ∧ Below w.heap.size w w' := by
  obtain ⟨z, u, hz⟩ : ∃ z u, codeR a = (z, u) := ⟨_, _, rfl⟩
  have HZ := Lib.hid hz
  obtain ⟨S, v, hS, hd1, hd2⟩ := digits_both code n hcode
  have HD1 := Lib.hid hd1
  have HD2 := Lib.hid hd2
  have HS : Hid (sameB a b = decide (unlikeL a b = 0)) := rfl
  clear hz hd1 hd2
  have g1 : decide ((3000 : Int) < (a.length : Int)) = false := by simp; omega
  have g2 : decide ((3000 : Int) < (b.length : Int)) = false := by simp; omega
  go_enter Try.func3, Try.ntmps3
  go_wp2_with fail
  refine (awake4_any _).mono ?_
  rintro e w1 ⟨rfl, hB⟩
  go_wp2_with fail
  clear g1 g2
  refine (code_any _ a z u _ _ _ HZ (Lib.hid rfl) (ha.keep hB) hac (by omega)).mono ?_
  rintro e w2 ⟨rfl, hb2⟩
  replace hB := below_step hB hb2
  clear hb2
  go_wp2_with fail
  refine (refcode_is _ a z u _ _ _ HZ (Lib.hid rfl) (ha.keep hB) hac (by omega)).mono ?_
  rintro e w3 ⟨rfl, rfl⟩
  go_wp2_with fail
  refine (HD1.out _).mono ?_
  rintro e w3 ⟨rfl, hb3⟩
  replace hB := below_step hB hb3
  clear hb3
  go_wp2_with fail
  refine (HD2.out _).mono ?_
  rintro e w4 ⟨rfl, hb4⟩
  replace hB := below_step hB hb4
  clear hb4
  go_wp2_with fail
  refine (refunlike_any a b _ _ _ _ _ (ha.keep hB) (hb.keep hB) (by omega) (by omega)).mono ?_
  rintro e w5 ⟨rfl, hb5⟩
  replace hB := below_step hB hb5
  clear hb5
  have hule := unlike_le a b
  go_wp2_with fail
  refine (unlike_any _ _ a b _ _ _ _ _ (Lib.hid rfl) (Lib.hid rfl) (ha.keep hB) (hb.keep hB) (by omega) (by omega)).mono ?_
  rintro e w6 ⟨rfl, hb6⟩
  replace hB := below_step hB hb6
  clear hb6
  go_wp2_with fail
  refine (same_any _ _ a b _ _ _ _ _ (Lib.hid rfl) (Lib.hid rfl) (ha.keep hB) (hb.keep hB) (by omega) (by omega)).mono ?_
  rintro e w7 ⟨rfl, hb7⟩
  replace hB := below_step hB hb7
  clear hb7
  by_cases h0 : unlikeL a b = 0
  · have e1 : sameB a b = true := by rw [HS.out]; simp [h0]
    rw [h0, e1]
    go_wp2_with fail
    go_ret
    exact ⟨rfl, hB⟩
  · have e1 : sameB a b = false := by rw [HS.out]; simp [h0]
    rw [e1]
    generalize unlikeL a b = k at h0
    have hk : ((k : Int) == 0) = false := by simp; omega
    go_wp2_with fail
    go_ret
    exact ⟨rfl, hB⟩

set_option maxRecDepth 100000 in
theorem truncright_big (n m : Nat) (A B : Option Addr) (c d code : Nat) (k : Int) (w : World) (h : ¬ (n ≤ 3000 ∧ m ≤ 3000)) (hn : n ≤ 9223372036854775807) (hm : m ≤ 9223372036854775807) :
    Calls Try.prog 3 #[.slice A n c, .slice B m d, .int .u32 (code : Int), .int .i64 k] w fun e w' => e = .returned (.bool true) ∧ Below w.heap.size w w' := by
  go_enter Try.func3, Try.ntmps3
  go_wp2_with fail
  refine (awake4_any _).mono ?_
  rintro e w1 ⟨rfl, hB⟩
  by_cases h1 : n ≤ 3000
  · have g1 : decide ((3000 : Int) < (n : Int)) = false := by simp; omega
    have g2 : decide ((3000 : Int) < (m : Int)) = true := by simp; omega
    go_wp2_with fail
    go_ret
    exact ⟨rfl, hB⟩
  · have g1 : decide ((3000 : Int) < (n : Int)) = true := by simp; omega
    go_wp2_with fail
    go_ret
    exact ⟨rfl, hB⟩
end Go.Proofs.Ytaoaejbohkmddaa
