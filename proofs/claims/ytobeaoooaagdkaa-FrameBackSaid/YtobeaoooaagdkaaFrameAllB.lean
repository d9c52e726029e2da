/-
  The law FrameBack, at whatever comes in: it answers true, and writes nothing that was there. No conditions.
-/
import Derived.Test.YtobeaoooaagdkaaFrameBack
import Derived.Test.YtobeaoooaagdkaaFrameOpen
namespace Go.Proofs.Ytobeaoooaagdkaa
set_option maxRecDepth 100000
open Go.RowKit Go.WideShapes
set_option linter.unusedSimpArgs false
set_option linter.unusedVariables false

theorem open_byte8 {H : Type} {enc : TypeId × Value → H} {W : World} {base b1 : Nat} {spare : Nat → Bool} {held : Bool} {r : Reach} {v : Value} {d : DataW H} {p : List MemPlace} (hv : Value.okWide Try.prog W r base 5 v) (ht : DataW.Trod enc Try.prog W b1 spare held 5 v d p) : ∃ y : Nat, v = .int .u8 (y : Int) ∧ y < 256 := by
  obtain ⟨n, rfl⟩ := okWide_int Try.underlying5 hv
  obtain ⟨fuel, hf⟩ := ht
  obtain ⟨y, hy⟩ := opens_byte Try.underlying5 enc W _ _ _ _ _ _ hf
  unfold RByte vB at hy
  simp [Value.cells] at hy
  exact ⟨y.toNat, by rw [hy], y.toNat_lt⟩
set_option maxRecDepth 100000 in
theorem frameback_big (t e c : Nat) (n : Nat) (A : Option Addr) (k : Nat) (t' e' c' : Nat) (n' : Nat) (A' : Option Addr) (k' : Nat) (m : Nat) (B : Option Addr) (d : Nat) (y : Nat) (q : Nat) (C : Option Addr) (f : Nat) (w : World) (h : ¬ (n ≤ 3000 ∧ n' ≤ 3000 ∧ m ≤ 3000 ∧ q ≤ 300)) (hn : n ≤ 9223372036854775807) (hn' : n' ≤ 9223372036854775807) (hm : m ≤ 9223372036854775807) (hq : q ≤ 9223372036854775807) :
    Calls Try.prog 4 #[aggP t e c A n k, aggP t' e' c' A' n' k', .slice B m d, .int .u8 (y : Int), .slice C q f] w fun e₁ w' => e₁ = .returned (.bool true) ∧ Below w.heap.size w w' := by
  obtain ⟨hR0, hB0⟩ := box_pay w 25 (.int .u64 (t : Int)) (.int .u64 (e : Int)) (.int .u64 (c : Int)) (.slice A n k)
  obtain ⟨hR1, hB1⟩ := box_pay (w.alloc (.cells #[.int .u64 (t : Int), .int .u64 (e : Int), .int .u64 (c : Int), .slice A n k] 25)) 25 (.int .u64 (t' : Int)) (.int .u64 (e' : Int)) (.int .u64 (c' : Int)) (.slice A' n' k')
  have hsz : (w.alloc (.cells #[.int .u64 (t : Int), .int .u64 (e : Int), .int .u64 (c : Int), .slice A n k] 25)).heap.size = w.heap.size + 1 := by simp
  rw [hsz] at hR1
  have hT : TwoP w.heap.size (cellsP t e c A n k) (cellsP t' e' c' A' n' k') w ((w.alloc (.cells #[.int .u64 (t : Int), .int .u64 (e : Int), .int .u64 (c : Int), .slice A n k] 25)).alloc (.cells #[.int .u64 (t' : Int), .int .u64 (e' : Int), .int .u64 (c' : Int), .slice A' n' k'] 25)) := ⟨hR0.later hB1, hR1, below_step hB0 hB1⟩
  clear hR0 hB0 hR1 hB1 hsz
  unfold aggP
  go_enter Try.func4, Try.ntmps4
  go_upto_region 1 with fail
  generalize (w.alloc (.cells #[.int .u64 (t : Int), .int .u64 (e : Int), .int .u64 (c : Int), .slice A n k] 25)).alloc (.cells #[.int .u64 (t' : Int), .int .u64 (e' : Int), .int .u64 (c' : Int), .slice A' n' k'] 25) = W0 at hT ⊢
  go_wp2_with fail
  refine (awake12_any _).mono ?_
  rintro e₁ w1 ⟨rfl, hb⟩
  replace hT := hT.later hb
  clear hb
  have c3 : w1.cell? ⟨w.heap.size, 3, none⟩ = some (.slice A n k) := hT.1.cell rfl
  have d3 : w1.cell? ⟨w.heap.size + 1, 3, none⟩ = some (.slice A' n' k') := hT.2.1.cell rfl
  by_cases h0 : n ≤ 3000
  · have g0 : decide ((3000 : Int) < (n : Int)) = false := decide_eq_false (by omega)
    have n0 : ¬ 3000 < n := by omega
    by_cases h1 : n' ≤ 3000
    · have g1 : decide ((3000 : Int) < (n' : Int)) = false := decide_eq_false (by omega)
      have n1 : ¬ 3000 < n' := by omega
      by_cases h2 : m ≤ 3000
      · have g2 : decide ((3000 : Int) < (m : Int)) = false := decide_eq_false (by omega)
        have n2 : ¬ 3000 < m := by omega
        have g3 : decide ((300 : Int) < (q : Int)) = true := decide_eq_true (by omega)
        have n3 : 300 < q := by omega
        clear h
        go_wp2_with fail
        go_ret
        exact ⟨rfl, hT.2.2⟩
      · have g2 : decide ((3000 : Int) < (m : Int)) = true := decide_eq_true (by omega)
        have n2 : 3000 < m := by omega
        clear h
        go_wp2_with fail
        go_ret
        exact ⟨rfl, hT.2.2⟩
    · have g1 : decide ((3000 : Int) < (n' : Int)) = true := decide_eq_true (by omega)
      have n1 : 3000 < n' := by omega
      clear h
      go_wp2_with fail
      go_ret
      exact ⟨rfl, hT.2.2⟩
  · have g0 : decide ((3000 : Int) < (n : Int)) = true := decide_eq_true (by omega)
    have n0 : 3000 < n := by omega
    clear h
    go_wp2_with fail
    go_ret
    exact ⟨rfl, hT.2.2⟩
theorem frameback_any (v0 v1 v2 v3 v4 : Value) (W : World) {H : Type} {enc : TypeId × Value → H} {base : Nat} {d0 d1 d2 d3 d4 : DataW H} {p0 p1 p2 p3 p4 : List MemPlace}
    (hv0 : Value.okWide Try.prog W .any base 25 v0) (ht0 : DataW.Trod enc Try.prog W 0 (fun _ => true) true 25 v0 d0 p0) (hv1 : Value.okWide Try.prog W .any base 25 v1) (ht1 : DataW.Trod enc Try.prog W 0 (fun _ => true) true 25 v1 d1 p1) (hv2 : Value.okWide Try.prog W .any base 23 v2) (ht2 : DataW.Trod enc Try.prog W 0 (fun _ => true) true 23 v2 d2 p2) (hv3 : Value.okWide Try.prog W .any base 5 v3) (ht3 : DataW.Trod enc Try.prog W 0 (fun _ => true) true 5 v3 d3 p3) (hv4 : Value.okWide Try.prog W .any base 23 v4) (ht4 : DataW.Trod enc Try.prog W 0 (fun _ => true) true 23 v4 d4 p4) :
    Calls Try.prog 4 #[v0, v1, v2, v3, v4] W fun e w' => e = .returned (.bool true) ∧ Below W.heap.size W w' := by
  obtain ⟨t, e, c, tag, A, k, rfl, ht, he, hc, hk, hkm, hr⟩ := open_payload hv0 ht0
  obtain ⟨t', e', c', tag', A', k', rfl, ht', he', hc', hk', hkm', hr'⟩ := open_payload hv1 ht1
  obtain ⟨b, B, d, rfl, hd, hdm, hb⟩ := open_bytes hv2 ht2
  obtain ⟨y, rfl, hy⟩ := open_byte8 hv3 ht3
  obtain ⟨l, C, f, rfl, hf, hfm, hl⟩ := open_bytes hv4 ht4
  by_cases h : tag.length ≤ 3000 ∧ tag'.length ≤ 3000 ∧ b.length ≤ 3000 ∧ l.length ≤ 300
  · exact frameback_core t e c tag _ A k t' e' c' tag' _ A' k' b _ B d y l _ C f W ht he hc (Lib.hid rfl) hr hk h.1 ht' he' hc' (Lib.hid rfl) hr' hk' h.2.1 (Lib.hid rfl) hb hd h.2.2.1 (Lib.hid rfl) hl hf h.2.2.2 hy
  · exact frameback_big t e c _ A k t' e' c' _ A' k' _ B d y _ C f W h (by omega) (by omega) (by omega) (by omega)
end Go.Proofs.Ytobeaoooaagdkaa
