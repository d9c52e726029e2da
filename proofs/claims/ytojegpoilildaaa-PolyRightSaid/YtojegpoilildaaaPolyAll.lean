/-
  The laws of layer 8, at whatever comes in: they answer true, and write nothing that was there. No conditions.
-/
import Derived.Test.YtojegpoilildaaaPolyValues
namespace Go.Proofs.Ytojegpoilildaaa
set_option maxRecDepth 100000
open Go.RowKit
set_option linter.unusedSimpArgs false
set_option linter.unusedVariables false

theorem u8_of_wfP {a : Int} (h : (Lit.int .u8 a).wf = true) : ∃ x : UInt8, a = (x.toNat : Int) := by
  simp [Lit.wf, IntKind.min, IntKind.max, IntKind.signed, IntKind.bits] at h
  exact ⟨UInt8.ofNat a.toNat, by rw [UInt8.toNat_ofNat']; omega⟩

set_option maxRecDepth 100000 in
theorem polyquo_big (n m : Nat) (A B : Option Addr) (c d : Nat) (w : World) (h : ¬ (n ≤ 120 ∧ m ≤ 120)) (hn : n ≤ 9223372036854775807) (hm : m ≤ 9223372036854775807) :
    Calls Try.prog 4 #[.slice A n c, .slice B m d] w fun e w' => e = .returned (.bool true) ∧ Below w.heap.size w w' := by
  go_enter Try.func4, Try.ntmps4
  go_wp2_with fail
  refine (awake8_any _).mono ?_
  rintro e w1 ⟨rfl, hB⟩
  by_cases h1 : n ≤ 120
  · have g1 : decide ((120 : Int) < (n : Int)) = false := decide_eq_false (by omega)
    have g2 : decide ((120 : Int) < (m : Int)) = true := decide_eq_true (by omega)
    have n1 : ¬ 120 < n := by omega
    have n2 : 120 < m := by omega
    clear h
    go_wp2_with fail
    go_ret
    exact ⟨rfl, hB⟩
  · have g1 : decide ((120 : Int) < (n : Int)) = true := decide_eq_true (by omega)
    have n1 : 120 < n := by omega
    clear h
    go_wp2_with fail
    go_ret
    exact ⟨rfl, hB⟩
set_option maxRecDepth 100000 in
theorem polyright_big (n m : Nat) (A B : Option Addr) (c d : Nat) (x : Int) (w : World) (h : ¬ (n ≤ 120 ∧ m ≤ 120)) (hn : n ≤ 9223372036854775807) (hm : m ≤ 9223372036854775807) :
    Calls Try.prog 3 #[.slice A n c, .slice B m d, .int .u8 x] w fun e w' => e = .returned (.bool true) ∧ Below w.heap.size w w' := by
  go_enter Try.func3, Try.ntmps3
  go_wp2_with fail
  refine (awake8_any _).mono ?_
  rintro e w1 ⟨rfl, hB⟩
  by_cases h1 : n ≤ 120
  · have g1 : decide ((120 : Int) < (n : Int)) = false := decide_eq_false (by omega)
    have g2 : decide ((120 : Int) < (m : Int)) = true := decide_eq_true (by omega)
    have n1 : ¬ 120 < n := by omega
    have n2 : 120 < m := by omega
    clear h
    go_wp2_with fail
    go_ret
    exact ⟨rfl, hB⟩
  · have g1 : decide ((120 : Int) < (n : Int)) = true := decide_eq_true (by omega)
    have n1 : 120 < n := by omega
    clear h
    go_wp2_with fail
    go_ret
    exact ⟨rfl, hB⟩
set_option maxRecDepth 100000 in
theorem polyvalues_big (n m : Nat) (A B : Option Addr) (c d : Nat) (x a : Int) (w : World) (h : ¬ (n ≤ 60 ∧ m ≤ 60)) (hn : n ≤ 9223372036854775807) (hm : m ≤ 9223372036854775807) :
    Calls Try.prog 5 #[.slice A n c, .slice B m d, .int .u8 x, .int .u8 a] w fun e w' => e = .returned (.bool true) ∧ Below w.heap.size w w' := by
  go_enter Try.func5, Try.ntmps5
  go_wp2_with fail
  refine (awake8_any _).mono ?_
  rintro e w1 ⟨rfl, hB⟩
  by_cases h1 : n ≤ 60
  · have g1 : decide ((60 : Int) < (n : Int)) = false := decide_eq_false (by omega)
    have g2 : decide ((60 : Int) < (m : Int)) = true := decide_eq_true (by omega)
    have n1 : ¬ 60 < n := by omega
    have n2 : 60 < m := by omega
    clear h
    go_wp2_with fail
    go_ret
    exact ⟨rfl, hB⟩
  · have g1 : decide ((60 : Int) < (n : Int)) = true := decide_eq_true (by omega)
    have n1 : 60 < n := by omega
    clear h
    go_wp2_with fail
    go_ret
    exact ⟨rfl, hB⟩
theorem polyquo_any (a0 : Option Addr) (len0 cap0 : Nat) (z0 : List Int) (a1 : Option Addr) (len1 cap1 : Nat) (z1 : List Int) (w : World)
    (h0 : (a0 = none ∧ len0 = 0 ∧ cap0 = 0 ∧ z0 = []) ∨ ∃ x, a0 = some x ∧ len0 ≤ cap0 ∧ cap0 ≤ maxLen ∧ z0.length = cap0 ∧ (∀ i, i < z0.length → w.cell? (x.add i) = some (.int .u8 (z0.getD i 0))) ∧ ∀ n ∈ z0, (Lit.int .u8 n).wf = true)
    (h1 : (a1 = none ∧ len1 = 0 ∧ cap1 = 0 ∧ z1 = []) ∨ ∃ x, a1 = some x ∧ len1 ≤ cap1 ∧ cap1 ≤ maxLen ∧ z1.length = cap1 ∧ (∀ i, i < z1.length → w.cell? (x.add i) = some (.int .u8 (z1.getD i 0))) ∧ ∀ n ∈ z1, (Lit.int .u8 n).wf = true) :
    Calls Try.prog 4 #[.slice a0 len0 cap0, .slice a1 len1 cap1] w fun e w' => e = .returned (.bool true) ∧ Below w.heap.size w w' := by
  obtain ⟨p, rfl, hpc, hpm, hp⟩ := bytes_of_row h0
  obtain ⟨q, rfl, hqc, hqm, hq⟩ := bytes_of_row h1
  by_cases h : p.length ≤ 120 ∧ q.length ≤ 120
  · exact polyquo_core p q _ _ a0 a1 cap0 cap1 w (Lib.hid rfl) (Lib.hid rfl) hp hq hpc hqc h.1 h.2
  · exact polyquo_big _ _ a0 a1 cap0 cap1 w h (by omega) (by omega)
theorem polyright_any (a0 : Option Addr) (len0 cap0 : Nat) (z0 : List Int) (a1 : Option Addr) (len1 cap1 : Nat) (z1 : List Int) (a2 : Int) (w : World)
    (h0 : (a0 = none ∧ len0 = 0 ∧ cap0 = 0 ∧ z0 = []) ∨ ∃ x, a0 = some x ∧ len0 ≤ cap0 ∧ cap0 ≤ maxLen ∧ z0.length = cap0 ∧ (∀ i, i < z0.length → w.cell? (x.add i) = some (.int .u8 (z0.getD i 0))) ∧ ∀ n ∈ z0, (Lit.int .u8 n).wf = true)
    (h1 : (a1 = none ∧ len1 = 0 ∧ cap1 = 0 ∧ z1 = []) ∨ ∃ x, a1 = some x ∧ len1 ≤ cap1 ∧ cap1 ≤ maxLen ∧ z1.length = cap1 ∧ (∀ i, i < z1.length → w.cell? (x.add i) = some (.int .u8 (z1.getD i 0))) ∧ ∀ n ∈ z1, (Lit.int .u8 n).wf = true)
    (h2 : (Lit.int .u8 a2).wf = true) :
    Calls Try.prog 3 #[.slice a0 len0 cap0, .slice a1 len1 cap1, .int .u8 a2] w fun e w' => e = .returned (.bool true) ∧ Below w.heap.size w w' := by
  obtain ⟨p, rfl, hpc, hpm, hp⟩ := bytes_of_row h0
  obtain ⟨q, rfl, hqc, hqm, hq⟩ := bytes_of_row h1
  obtain ⟨x, rfl⟩ := u8_of_wfP h2
  by_cases h : p.length ≤ 120 ∧ q.length ≤ 120
  · exact polyright_core p q x _ _ a0 a1 cap0 cap1 w (Lib.hid rfl) (Lib.hid rfl) hp hq hpc hqc h.1 h.2
  · exact polyright_big _ _ a0 a1 cap0 cap1 _ w h (by omega) (by omega)
theorem polyvalues_any (a0 : Option Addr) (len0 cap0 : Nat) (z0 : List Int) (a1 : Option Addr) (len1 cap1 : Nat) (z1 : List Int) (a2 a3 : Int) (w : World)
    (h0 : (a0 = none ∧ len0 = 0 ∧ cap0 = 0 ∧ z0 = []) ∨ ∃ x, a0 = some x ∧ len0 ≤ cap0 ∧ cap0 ≤ maxLen ∧ z0.length = cap0 ∧ (∀ i, i < z0.length → w.cell? (x.add i) = some (.int .u8 (z0.getD i 0))) ∧ ∀ n ∈ z0, (Lit.int .u8 n).wf = true)
    (h1 : (a1 = none ∧ len1 = 0 ∧ cap1 = 0 ∧ z1 = []) ∨ ∃ x, a1 = some x ∧ len1 ≤ cap1 ∧ cap1 ≤ maxLen ∧ z1.length = cap1 ∧ (∀ i, i < z1.length → w.cell? (x.add i) = some (.int .u8 (z1.getD i 0))) ∧ ∀ n ∈ z1, (Lit.int .u8 n).wf = true)
    (h2 : (Lit.int .u8 a2).wf = true) (h3 : (Lit.int .u8 a3).wf = true) :
    Calls Try.prog 5 #[.slice a0 len0 cap0, .slice a1 len1 cap1, .int .u8 a2, .int .u8 a3] w fun e w' => e = .returned (.bool true) ∧ Below w.heap.size w w' := by
  obtain ⟨p, rfl, hpc, hpm, hp⟩ := bytes_of_row h0
  obtain ⟨q, rfl, hqc, hqm, hq⟩ := bytes_of_row h1
  obtain ⟨x, rfl⟩ := u8_of_wfP h2
  obtain ⟨a, rfl⟩ := u8_of_wfP h3
  by_cases h : p.length ≤ 60 ∧ q.length ≤ 60
  · exact polyvalues_core p q x a _ _ a0 a1 cap0 cap1 w (Lib.hid rfl) (Lib.hid rfl) hp hq hpc hqc h.1 h.2
  · exact polyvalues_big _ _ a0 a1 cap0 cap1 _ _ w h (by omega) (by omega)
end Go.Proofs.Ytojegpoilildaaa
