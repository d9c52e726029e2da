/-
  The walk of the law WordBack, for whatever comes in: it answers true, and writes nothing that was there.
-/
import Derived.Test.YtafcigfncibohaaWordBack
namespace Go.Proofs.Ytafcigfncibohaa
open Go.RowKit

set_option maxRecDepth 100000 in
theorem back_long (n0 n1 : Nat) (A0 A1 : Option Addr) (c0 c1 v v2 : Nat) (w : World) (h : 3000 < n0 ∨ 3000 < n1) (_h0 : n0 ≤ 9223372036854775807) (_h1 : n1 ≤ 9223372036854775807) :
    Calls Try.prog 4 #[.slice A0 n0 c0, .slice A1 n1 c1, .int .u64 (v : Int), .int .u64 (v2 : Int)] w fun e w' => e = .returned (.bool true) ∧ Below w.heap.size w w' := by
  by_cases h0 : 3000 < n0
  · clear h
    have h0' : (3000 : Int) < (n0 : Int) := by omega
    go_enter Try.func4, Try.ntmps4
    go_wp2_with fail
    refine (awake_any _).mono ?_
    rintro e w1 ⟨rfl, hB1⟩
    go_wp2_with fail
    go_ret
    exact ⟨rfl, hB1⟩
  · have h1 : 3000 < n1 := by omega
    have h1' : (3000 : Int) < (n1 : Int) := by omega
    have h0' : ¬ (3000 : Int) < (n0 : Int) := by omega
    clear h
    go_enter Try.func4, Try.ntmps4
    go_wp2_with fail
    refine (awake_any _).mono ?_
    rintro e w1 ⟨rfl, hB1⟩
    go_wp2_with fail
    go_ret
    exact ⟨rfl, hB1⟩

theorem back_any (a0 : Option Addr) (len0 cap0 : Nat) (z0 : List Int) (a1 : Option Addr) (len1 cap1 : Nat) (z1 : List Int) (a2 a3 : Int) (w : World)
    (h0 : (a0 = none ∧ len0 = 0 ∧ cap0 = 0 ∧ z0 = []) ∨ ∃ x, a0 = some x ∧ len0 ≤ cap0 ∧ cap0 ≤ maxLen ∧ z0.length = cap0 ∧ (∀ i, i < z0.length → w.cell? (x.add i) = some (.int .u8 (z0.getD i 0))) ∧ ∀ n ∈ z0, (Lit.int .u8 n).wf = true)
    (h1 : (a1 = none ∧ len1 = 0 ∧ cap1 = 0 ∧ z1 = []) ∨ ∃ x, a1 = some x ∧ len1 ≤ cap1 ∧ cap1 ≤ maxLen ∧ z1.length = cap1 ∧ (∀ i, i < z1.length → w.cell? (x.add i) = some (.int .u32 (z1.getD i 0))) ∧ ∀ n ∈ z1, (Lit.int .u32 n).wf = true)
    (h2 : (Lit.int .u64 a2).wf = true) (h3 : (Lit.int .u64 a3).wf = true) :
    Calls Try.prog 4 #[.slice a0 len0 cap0, .slice a1 len1 cap1, .int .u64 a2, .int .u64 a3] w fun e w' => e = .returned (.bool true) ∧ Below w.heap.size w w' := by
  obtain ⟨b, rfl, hbc, hbm, hb⟩ := bytes_of_row h0
  obtain ⟨l, rfl, hlc, hlm, hl⟩ := words_of_row h1
  obtain ⟨v, hv, rfl⟩ := u64_of_wf h2
  obtain ⟨v2, hv2, rfl⟩ := u64_of_wf h3
  by_cases hb3 : b.length ≤ 3000
  · by_cases hl3 : l.length ≤ 3000
    · exact back_core b l a0 a1 cap0 cap1 v v2 w hb hl hbc hlc hb3 hl3 hv hv2
    · exact back_long b.length l.length a0 a1 cap0 cap1 v v2 w (by omega) (by omega) (by omega)
  · exact back_long b.length l.length a0 a1 cap0 cap1 v v2 w (by omega) (by omega) (by omega)
end Go.Proofs.Ytafcigfncibohaa
