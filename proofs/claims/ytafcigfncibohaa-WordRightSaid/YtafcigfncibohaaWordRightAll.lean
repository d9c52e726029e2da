/-
  The walk of the law WordRight, for whatever comes in: it answers true, and writes nothing that was there.
-/
import Derived.Test.YtafcigfncibohaaWordRight
namespace Go.Proofs.Ytafcigfncibohaa
open Go.RowKit

set_option maxRecDepth 100000 in
theorem right_long (x : UInt32) (n : Int) (n0 n1 : Nat) (A0 A1 : Option Addr) (c0 c1 v : Nat) (w : World) (h : 3000 < n0 ∨ 3000 < n1) (_h0 : n0 ≤ 9223372036854775807) (_h1 : n1 ≤ 9223372036854775807) :
    Calls Try.prog 3 #[.int .u32 (x.toNat : Int), .int .i64 n, .slice A0 n0 c0, .slice A1 n1 c1, .int .u64 (v : Int)] w fun e w' => e = .returned (.bool true) ∧ Below w.heap.size w w' := by
  by_cases h0 : 3000 < n0
  · clear h
    have h0' : (3000 : Int) < (n0 : Int) := by omega
    go_enter Try.func3, Try.ntmps3
    go_wp2_with fail
    refine (awake_any _).mono ?_
    rintro e w1 ⟨rfl, hB1⟩
    go_wp2_with fail
    go_ret
    exact ⟨rfl, hB1⟩
  · have h1 : 3000 < n1 := by omega
    have h1' : (3000 : Int) < (n1 : Int) := by omega
    have h0' : ¬ (3000 : Int) < (n0 : Int) := by omega
    clear h
    go_enter Try.func3, Try.ntmps3
    go_wp2_with fail
    refine (awake_any _).mono ?_
    rintro e w1 ⟨rfl, hB1⟩
    go_wp2_with fail
    go_ret
    exact ⟨rfl, hB1⟩

theorem right_any (a0 a1 : Int) (a2 : Option Addr) (len2 cap2 : Nat) (z2 : List Int) (a3 : Option Addr) (len3 cap3 : Nat) (z3 : List Int) (a4 : Int) (w : World) (h0 : (Lit.int .u32 a0).wf = true)
    (h2 : (a2 = none ∧ len2 = 0 ∧ cap2 = 0 ∧ z2 = []) ∨ ∃ x, a2 = some x ∧ len2 ≤ cap2 ∧ cap2 ≤ maxLen ∧ z2.length = cap2 ∧ (∀ i, i < z2.length → w.cell? (x.add i) = some (.int .u8 (z2.getD i 0))) ∧ ∀ n ∈ z2, (Lit.int .u8 n).wf = true)
    (h3 : (a3 = none ∧ len3 = 0 ∧ cap3 = 0 ∧ z3 = []) ∨ ∃ x, a3 = some x ∧ len3 ≤ cap3 ∧ cap3 ≤ maxLen ∧ z3.length = cap3 ∧ (∀ i, i < z3.length → w.cell? (x.add i) = some (.int .u32 (z3.getD i 0))) ∧ ∀ n ∈ z3, (Lit.int .u32 n).wf = true)
    (h4 : (Lit.int .u64 a4).wf = true) :
    Calls Try.prog 3 #[.int .u32 a0, .int .i64 a1, .slice a2 len2 cap2, .slice a3 len3 cap3, .int .u64 a4] w fun e w' => e = .returned (.bool true) ∧ Below w.heap.size w w' := by
  obtain ⟨x, rfl⟩ := u32_of_wf h0
  obtain ⟨b, rfl, hbc, hbm, hb⟩ := bytes_of_row h2
  obtain ⟨l, rfl, hlc, hlm, hl⟩ := words_of_row h3
  obtain ⟨v, hv, rfl⟩ := u64_of_wf h4
  by_cases hb3 : b.length ≤ 3000
  · by_cases hl3 : l.length ≤ 3000
    · exact right_core x a1 b l a2 a3 cap2 cap3 v w hb hl hbc hb3 hl3 hv
    · exact right_long x a1 b.length l.length a2 a3 cap2 cap3 v w (by omega) (by omega) (by omega)
  · exact right_long x a1 b.length l.length a2 a3 cap2 cap3 v w (by omega) (by omega) (by omega)
end Go.Proofs.Ytafcigfncibohaa
