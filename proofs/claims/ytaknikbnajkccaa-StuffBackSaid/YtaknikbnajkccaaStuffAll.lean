/-
  The laws of layer 11, at whatever comes in: they answer true, and write nothing that was there. No conditions.
-/
import Derived.Test.YtaknikbnajkccaaStuffBack
namespace Go.Proofs.Ytaknikbnajkccaa
set_option maxRecDepth 100000
open Go.RowKit
set_option linter.unusedSimpArgs false
set_option linter.unusedVariables false

set_option maxRecDepth 100000 in
theorem stuffright_big (n : Nat) (A : Option Addr) (c : Nat) (k : Int) (w : World) (h : ¬ n ≤ 3000) (hn : n ≤ 9223372036854775807) :
    Calls Try.prog 3 #[.slice A n c, .int .i64 k] w fun e w' => e = .returned (.bool true) ∧ Below w.heap.size w w' := by
  go_enter Try.func3, Try.ntmps3
  go_wp2_with fail
  refine (awake11_any _).mono ?_
  rintro e w1 ⟨rfl, hB⟩
  have g1 : decide ((3000 : Int) < (n : Int)) = true := decide_eq_true (by omega)
  have n1 : 3000 < n := by omega
  clear h
  go_wp2_with fail
  go_ret
  exact ⟨rfl, hB⟩
set_option maxRecDepth 100000 in
theorem stuffrows_big (n : Nat) (A : Option Addr) (c : Nat) (w : World) (h : ¬ n ≤ 3000) (hn : n ≤ 9223372036854775807) :
    Calls Try.prog 5 #[.slice A n c] w fun e w' => e = .returned (.bool true) ∧ Below w.heap.size w w' := by
  go_enter Try.func5, Try.ntmps5
  go_wp2_with fail
  refine (awake11_any _).mono ?_
  rintro e w1 ⟨rfl, hB⟩
  have g1 : decide ((3000 : Int) < (n : Int)) = true := decide_eq_true (by omega)
  have n1 : 3000 < n := by omega
  clear h
  go_wp2_with fail
  go_ret
  exact ⟨rfl, hB⟩
set_option maxRecDepth 100000 in
theorem stuffback_big (n m : Nat) (A B : Option Addr) (c d : Nat) (w : World) (h : ¬ (n ≤ 3000 ∧ m ≤ 3000)) (hn : n ≤ 9223372036854775807) (hm : m ≤ 9223372036854775807) :
    Calls Try.prog 4 #[.slice A n c, .slice B m d] w fun e w' => e = .returned (.bool true) ∧ Below w.heap.size w w' := by
  go_enter Try.func4, Try.ntmps4
  go_wp2_with fail
  refine (awake11_any _).mono ?_
  rintro e w1 ⟨rfl, hB⟩
  by_cases h1 : n ≤ 3000
  · have g1 : decide ((3000 : Int) < (n : Int)) = false := decide_eq_false (by omega)
    have g2 : decide ((3000 : Int) < (m : Int)) = true := decide_eq_true (by omega)
    have n1 : ¬ 3000 < n := by omega
    have n2 : 3000 < m := by omega
    clear h
    go_wp2_with fail
    go_ret
    exact ⟨rfl, hB⟩
  · have g1 : decide ((3000 : Int) < (n : Int)) = true := decide_eq_true (by omega)
    have n1 : 3000 < n := by omega
    clear h
    go_wp2_with fail
    go_ret
    exact ⟨rfl, hB⟩
theorem stuffright_any (a0 : Option Addr) (len0 cap0 : Nat) (z0 : List Int) (a1 : Int) (w : World)
    (h0 : (a0 = none ∧ len0 = 0 ∧ cap0 = 0 ∧ z0 = []) ∨ ∃ x, a0 = some x ∧ len0 ≤ cap0 ∧ cap0 ≤ maxLen ∧ z0.length = cap0 ∧ (∀ i, i < z0.length → w.cell? (x.add i) = some (.int .u8 (z0.getD i 0))) ∧ ∀ n ∈ z0, (Lit.int .u8 n).wf = true)
    (h1 : (Lit.int .i64 a1).wf = true) :
    Calls Try.prog 3 #[.slice a0 len0 cap0, .int .i64 a1] w fun e w' => e = .returned (.bool true) ∧ Below w.heap.size w w' := by
  obtain ⟨p, rfl, hpc, hpm, hp⟩ := bytes_of_row h0
  obtain ⟨k1, k2⟩ := i64_of_wf h1
  by_cases h : p.length ≤ 3000
  · exact stuffright_core p _ a1 a0 cap0 w (Lib.hid rfl) hp hpc h k1 k2
  · exact stuffright_big _ a0 cap0 a1 w h (by omega)
theorem stuffback_any (a0 : Option Addr) (len0 cap0 : Nat) (z0 : List Int) (a1 : Option Addr) (len1 cap1 : Nat) (z1 : List Int) (w : World)
    (h0 : (a0 = none ∧ len0 = 0 ∧ cap0 = 0 ∧ z0 = []) ∨ ∃ x, a0 = some x ∧ len0 ≤ cap0 ∧ cap0 ≤ maxLen ∧ z0.length = cap0 ∧ (∀ i, i < z0.length → w.cell? (x.add i) = some (.int .u8 (z0.getD i 0))) ∧ ∀ n ∈ z0, (Lit.int .u8 n).wf = true)
    (h1 : (a1 = none ∧ len1 = 0 ∧ cap1 = 0 ∧ z1 = []) ∨ ∃ x, a1 = some x ∧ len1 ≤ cap1 ∧ cap1 ≤ maxLen ∧ z1.length = cap1 ∧ (∀ i, i < z1.length → w.cell? (x.add i) = some (.int .u8 (z1.getD i 0))) ∧ ∀ n ∈ z1, (Lit.int .u8 n).wf = true) :
    Calls Try.prog 4 #[.slice a0 len0 cap0, .slice a1 len1 cap1] w fun e w' => e = .returned (.bool true) ∧ Below w.heap.size w w' := by
  obtain ⟨p, rfl, hpc, hpm, hp⟩ := bytes_of_row h0
  obtain ⟨q, rfl, hqc, hqm, hq⟩ := bytes_of_row h1
  by_cases h : p.length ≤ 3000 ∧ q.length ≤ 3000
  · exact stuffback_core p q _ _ a0 a1 cap0 cap1 w (Lib.hid rfl) (Lib.hid rfl) hp hq hpc hqc h.1 h.2
  · exact stuffback_big _ _ a0 a1 cap0 cap1 w h (by omega) (by omega)
theorem stuffrows_any (a0 : Option Addr) (len0 cap0 : Nat) (z0 : List Int) (w : World)
    (h0 : (a0 = none ∧ len0 = 0 ∧ cap0 = 0 ∧ z0 = []) ∨ ∃ x, a0 = some x ∧ len0 ≤ cap0 ∧ cap0 ≤ maxLen ∧ z0.length = cap0 ∧ (∀ i, i < z0.length → w.cell? (x.add i) = some (.int .u8 (z0.getD i 0))) ∧ ∀ n ∈ z0, (Lit.int .u8 n).wf = true) :
    Calls Try.prog 5 #[.slice a0 len0 cap0] w fun e w' => e = .returned (.bool true) ∧ Below w.heap.size w w' := by
  obtain ⟨p, rfl, hpc, hpm, hp⟩ := bytes_of_row h0
  by_cases h : p.length ≤ 3000
  · exact stuffrows_core p _ a0 cap0 w (Lib.hid rfl) hp hpc h
  · exact stuffrows_big _ a0 cap0 w h (by omega)
end Go.Proofs.Ytaknikbnajkccaa
