/-
  The laws of layer 4, at whatever comes in: they answer true, and write nothing that was there.
-/
import Derived.Test.YtaoaejbohkmddaaTruncSame
import Derived.Test.YtaoaejbohkmddaaTruncDigits
namespace Go.Proofs.Ytaoaejbohkmddaa
open Go.RowKit
set_option linter.unusedVariables false

theorem u32n_of_wf {a : Int} (h : (Lit.int .u32 a).wf = true) : ∃ v : Nat, v < 4294967296 ∧ a = (v : Int) := by
  simp [Lit.wf, IntKind.min, IntKind.max, IntKind.signed, IntKind.bits] at h
  exact ⟨a.toNat, by omega, by omega⟩
theorem u16n_of_wf {a : Int} (h : (Lit.int .u16 a).wf = true) : ∃ v : Nat, v < 65536 ∧ a = (v : Int) := by
  simp [Lit.wf, IntKind.min, IntKind.max, IntKind.signed, IntKind.bits] at h
  exact ⟨a.toNat, by omega, by omega⟩
theorem u8n_of_wf {a : Int} (h : (Lit.int .u8 a).wf = true) : ∃ v : Nat, v < 256 ∧ a = (v : Int) := by
  simp [Lit.wf, IntKind.min, IntKind.max, IntKind.signed, IntKind.bits] at h
  exact ⟨a.toNat, by omega, by omega⟩
theorem u8_of_wf {a : Int} (h : (Lit.int .u8 a).wf = true) : ∃ x : UInt8, a = (x.toNat : Int) := by
  obtain ⟨v, hv, rfl⟩ := u8n_of_wf h
  exact ⟨UInt8.ofNat v, by rw [UInt8.toNat_ofNat']; omega⟩

set_option maxRecDepth 100000 in
theorem truncsame_big (n m k : Nat) (A B C : Option Addr) (c d e' : Nat) (t y : Int) (w : World) (h : ¬ (n ≤ 3000 ∧ m ≤ 3000 ∧ k ≤ 3000)) (hn : n ≤ 9223372036854775807) (hm : m ≤ 9223372036854775807) (hk : k ≤ 9223372036854775807) :
    Calls Try.prog 4 #[.slice A n c, .slice B m d, .slice C k e', .int .u16 t, .int .u8 y] w fun e w' => e = .returned (.bool true) ∧ Below w.heap.size w w' := by
  go_enter Try.func4, Try.ntmps4
  go_wp2_with fail
  refine (awake4_any _).mono ?_
  rintro e w1 ⟨rfl, hB⟩
  by_cases h1 : n ≤ 3000
  · have g1 : decide ((3000 : Int) < (n : Int)) = false := decide_eq_false (by omega)
    by_cases h2 : m ≤ 3000
    · have g2 : decide ((3000 : Int) < (m : Int)) = false := decide_eq_false (by omega)
      have g3 : decide ((3000 : Int) < (k : Int)) = true := decide_eq_true (by omega)
      go_wp2_with fail
      go_ret
      exact ⟨rfl, hB⟩
    · have g2 : decide ((3000 : Int) < (m : Int)) = true := decide_eq_true (by omega)
      go_wp2_with fail
      go_ret
      exact ⟨rfl, hB⟩
  · have g1 : decide ((3000 : Int) < (n : Int)) = true := decide_eq_true (by omega)
    go_wp2_with fail
    go_ret
    exact ⟨rfl, hB⟩

theorem truncright_any (a0 : Option Addr) (len0 cap0 : Nat) (z0 : List Int) (a1 : Option Addr) (len1 cap1 : Nat) (z1 : List Int) (a2 a3 : Int) (w : World)
    (h0 : (a0 = none ∧ len0 = 0 ∧ cap0 = 0 ∧ z0 = []) ∨ ∃ x, a0 = some x ∧ len0 ≤ cap0 ∧ cap0 ≤ maxLen ∧ z0.length = cap0 ∧ (∀ i, i < z0.length → w.cell? (x.add i) = some (.int .u8 (z0.getD i 0))) ∧ ∀ n ∈ z0, (Lit.int .u8 n).wf = true)
    (h1 : (a1 = none ∧ len1 = 0 ∧ cap1 = 0 ∧ z1 = []) ∨ ∃ x, a1 = some x ∧ len1 ≤ cap1 ∧ cap1 ≤ maxLen ∧ z1.length = cap1 ∧ (∀ i, i < z1.length → w.cell? (x.add i) = some (.int .u8 (z1.getD i 0))) ∧ ∀ n ∈ z1, (Lit.int .u8 n).wf = true)
    (h2 : (Lit.int .u32 a2).wf = true) :
    Calls Try.prog 3 #[.slice a0 len0 cap0, .slice a1 len1 cap1, .int .u32 a2, .int .i64 a3] w fun e w' => e = .returned (.bool true) ∧ Below w.heap.size w w' := by
  obtain ⟨a, rfl, hac, ham, ha⟩ := bytes_of_row h0
  obtain ⟨b, rfl, hbc, hbm, hb⟩ := bytes_of_row h1
  obtain ⟨v, hv, rfl⟩ := u32n_of_wf h2
  by_cases h : a.length ≤ 3000 ∧ b.length ≤ 3000
  · exact truncright_core a b a0 a1 cap0 cap1 v a3 w ha hb hac hbc h.1 h.2 hv
  · exact truncright_big a.length b.length a0 a1 cap0 cap1 v a3 w h (by omega) (by omega)
theorem truncsame_any (a0 : Option Addr) (len0 cap0 : Nat) (z0 : List Int) (a1 : Option Addr) (len1 cap1 : Nat) (z1 : List Int) (a2 : Option Addr) (len2 cap2 : Nat) (z2 : List Int) (a3 a4 : Int) (w : World)
    (h0 : (a0 = none ∧ len0 = 0 ∧ cap0 = 0 ∧ z0 = []) ∨ ∃ x, a0 = some x ∧ len0 ≤ cap0 ∧ cap0 ≤ maxLen ∧ z0.length = cap0 ∧ (∀ i, i < z0.length → w.cell? (x.add i) = some (.int .u8 (z0.getD i 0))) ∧ ∀ n ∈ z0, (Lit.int .u8 n).wf = true)
    (h1 : (a1 = none ∧ len1 = 0 ∧ cap1 = 0 ∧ z1 = []) ∨ ∃ x, a1 = some x ∧ len1 ≤ cap1 ∧ cap1 ≤ maxLen ∧ z1.length = cap1 ∧ (∀ i, i < z1.length → w.cell? (x.add i) = some (.int .u8 (z1.getD i 0))) ∧ ∀ n ∈ z1, (Lit.int .u8 n).wf = true)
    (h2 : (a2 = none ∧ len2 = 0 ∧ cap2 = 0 ∧ z2 = []) ∨ ∃ x, a2 = some x ∧ len2 ≤ cap2 ∧ cap2 ≤ maxLen ∧ z2.length = cap2 ∧ (∀ i, i < z2.length → w.cell? (x.add i) = some (.int .u8 (z2.getD i 0))) ∧ ∀ n ∈ z2, (Lit.int .u8 n).wf = true)
    (h3 : (Lit.int .u16 a3).wf = true) (h4 : (Lit.int .u8 a4).wf = true) :
    Calls Try.prog 4 #[.slice a0 len0 cap0, .slice a1 len1 cap1, .slice a2 len2 cap2, .int .u16 a3, .int .u8 a4] w fun e w' => e = .returned (.bool true) ∧ Below w.heap.size w w' := by
  obtain ⟨a, rfl, hac, ham, ha⟩ := bytes_of_row h0
  obtain ⟨b, rfl, hbc, hbm, hb⟩ := bytes_of_row h1
  obtain ⟨c, rfl, hcc, hcm, hc⟩ := bytes_of_row h2
  obtain ⟨t, ht, rfl⟩ := u16n_of_wf h3
  obtain ⟨y, rfl⟩ := u8_of_wf h4
  by_cases h : a.length ≤ 3000 ∧ b.length ≤ 3000 ∧ c.length ≤ 3000
  · exact truncsame_core a b c a0 a1 a2 cap0 cap1 cap2 t y w ha hb hc h.1 h.2.1 h.2.2 ht
  · exact truncsame_big a.length b.length c.length a0 a1 a2 cap0 cap1 cap2 _ _ w h (by omega) (by omega) (by omega)
theorem truncdigits_any (a0 : Option Addr) (len0 cap0 : Nat) (z0 : List Int) (a1 a2 a3 : Int) (w : World)
    (h0 : (a0 = none ∧ len0 = 0 ∧ cap0 = 0 ∧ z0 = []) ∨ ∃ x, a0 = some x ∧ len0 ≤ cap0 ∧ cap0 ≤ maxLen ∧ z0.length = cap0 ∧ (∀ i, i < z0.length → w.cell? (x.add i) = some (.int .u8 (z0.getD i 0))) ∧ ∀ n ∈ z0, (Lit.int .u8 n).wf = true)
    (h1 : (Lit.int .u32 a1).wf = true) (h2 : (Lit.int .u8 a2).wf = true) (h3 : (Lit.int .u8 a3).wf = true) :
    Calls Try.prog 5 #[.slice a0 len0 cap0, .int .u32 a1, .int .u8 a2, .int .u8 a3] w fun e w' => e = .returned (.bool true) ∧ Below w.heap.size w w' := by
  obtain ⟨a, rfl, hac, ham, ha⟩ := bytes_of_row h0
  obtain ⟨v, hv, rfl⟩ := u32n_of_wf h1
  obtain ⟨m, hm, rfl⟩ := u8n_of_wf h2
  obtain ⟨n, hn, rfl⟩ := u8n_of_wf h3
  by_cases h : a.length ≤ 3000
  · exact truncdigits_core a a0 cap0 v m n w ha hac h hv hm hn
  · exact truncdigits_big a.length a0 cap0 v m n w h (by omega)
end Go.Proofs.Ytaoaejbohkmddaa
