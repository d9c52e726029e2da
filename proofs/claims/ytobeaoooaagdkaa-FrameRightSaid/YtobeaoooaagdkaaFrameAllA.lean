/-
  The law FrameRight, at whatever comes in: it answers true, and writes nothing that was there. No conditions.
-/
import Derived.Test.YtobeaoooaagdkaaFrameRight
import Derived.Test.YtobeaoooaagdkaaFrameOpen
namespace Go.Proofs.Ytobeaoooaagdkaa
set_option maxRecDepth 100000
open Go.RowKit Go.WideShapes
set_option linter.unusedSimpArgs false
set_option linter.unusedVariables false

set_option maxRecDepth 100000 in
theorem frameright_big (t e c n m : Nat) (A B : Option Addr) (k d : Nat) (w : World) (h : ¬ (n ≤ 3000 ∧ m ≤ 3000)) (hn : n ≤ 9223372036854775807) (hm : m ≤ 9223372036854775807) :
    Calls Try.prog 3 #[aggP t e c A n k, .slice B m d] w fun e₁ w' => e₁ = .returned (.bool true) ∧ Below w.heap.size w w' := by
  obtain ⟨hRp, hB⟩ := box_pay w 25 (.int .u64 (t : Int)) (.int .u64 (e : Int)) (.int .u64 (c : Int)) (.slice A n k)
  unfold aggP
  go_enter Try.func3, Try.ntmps3
  go_upto_region 1 with fail
  generalize (w.alloc (.cells #[.int .u64 (t : Int), .int .u64 (e : Int), .int .u64 (c : Int), .slice A n k] 25)) = W0 at hRp hB ⊢
  go_wp2_with fail
  refine (awake12_any _).mono ?_
  rintro e₁ w1 ⟨rfl, hb⟩
  replace hRp := hRp.later hb
  replace hB := below_step hB hb
  clear hb
  have cl3 : w1.cell? ⟨w.heap.size, 3, none⟩ = some (.slice A n k) := hRp.cell rfl
  by_cases h1 : n ≤ 3000
  · have g1 : decide ((3000 : Int) < (n : Int)) = false := decide_eq_false (by omega)
    have g2 : decide ((3000 : Int) < (m : Int)) = true := decide_eq_true (by omega)
    have n1 : ¬ 3000 < n := by omega
    have n2 : 3000 < m := by omega
    clear h
    go_wp2_with fail
    go_ret
    exact ⟨rfl, hB⟩
  · have g1 : decide ((3000 : Int) < (n : Int)) = true := decide_eq_true (by omega)
    have n1 : 3000 < n := by omega
    clear h
    go_wp2_with fail
    go_ret
    exact ⟨rfl, hB⟩
theorem frameright_any (v0 v1 : Value) (W : World) {H : Type} {enc : TypeId × Value → H} {base : Nat} {d0 d1 : DataW H} {p0 p1 : List MemPlace}
    (hv0 : Value.okWide Try.prog W .any base 25 v0) (ht0 : DataW.Trod enc Try.prog W 0 (fun _ => true) true 25 v0 d0 p0) (hv1 : Value.okWide Try.prog W .any base 23 v1) (ht1 : DataW.Trod enc Try.prog W 0 (fun _ => true) true 23 v1 d1 p1) :
    Calls Try.prog 3 #[v0, v1] W fun e w' => e = .returned (.bool true) ∧ Below W.heap.size W w' := by
  obtain ⟨t, e, c, tag, A, k, rfl, ht, he, hc, hk, hkm, hr⟩ := open_payload hv0 ht0
  obtain ⟨b, B, d, rfl, hd, hdm, hb⟩ := open_bytes hv1 ht1
  by_cases h : tag.length ≤ 3000 ∧ b.length ≤ 3000
  · exact frameright_core t e c tag _ A k b _ B d W ht he hc (Lib.hid rfl) hr hk h.1 (Lib.hid rfl) hb hd h.2
  · exact frameright_big t e c _ _ A B k d W h (by omega) (by omega)
end Go.Proofs.Ytobeaoooaagdkaa
