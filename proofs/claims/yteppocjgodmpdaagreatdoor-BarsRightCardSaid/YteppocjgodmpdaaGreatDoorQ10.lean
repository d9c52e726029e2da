/-
  What the rows' condition on the package-level variable errors.errorType gives the walks: its one cell, the handle of the type error. Condition: the variable reads as the rows list it.
-/
import Derived.Test.YteppocjgodmpdaaGreatDoorQ9
import Derived.Test.YteppocjgodmpdaaGreatDoorRows
import Derived.LaidLaws
import Derived.LaidHandle
namespace Go.Proofs.YteppocjgodmpdaaGreatDoor
set_option maxRecDepth 100000
open Go.RowKit

theorem etc_global : Tryz.prog.globalNamed "errors.errorType" = some 0 := by kernel_rfl
theorem etc_rtype : (Tryz.prog.cutTypes.find? (·.1 == "internal/reflectlite.rtype")).map (·.2) = some 264 := by kernel_rfl
theorem etc_one : ((List.range Tryz.prog.types.size).filter fun t => Tryz.prog.rowNamed t [101, 114, 114, 111, 114]) = [79] := by kernel_rfl
theorem etc_of_handles {l : List (String × DataW Unit)} {W : World} (h : handlesMet Tryz.prog l W) (hm : ("errors.errorType", Rows.laid_errors_errorType) ∈ l) : EtC W := by
  obtain ⟨name, u, ty, e1, e2, e3, e4, e5⟩ := h _ hm
  have en : name = [101, 114, 114, 111, 114] := (Option.some.inj e1).symm
  subst en
  obtain rfl := Option.some.inj (etc_rtype.symm.trans e2)
  have hmem : ty ∈ (List.range Tryz.prog.types.size).filter fun t => Tryz.prog.rowNamed t [101, 114, 114, 111, 114] := List.mem_filter.2 ⟨List.mem_range.2 e3, e4⟩
  rw [etc_one] at hmem
  obtain rfl := List.mem_singleton.1 hmem
  have hh : typeHandle Tryz.prog 79 = .pointer (some ⟨2, 79, none⟩) := by kernel_rfl
  rw [hh] at e5
  unfold EtC
  simpa using World.var?_cell etc_global e5 0
theorem etc_of_laid {W : World} (h : laidMetH Tryz.prog [("errors.errorType", Rows.laid_errors_errorType)] W) : EtC W := by
  have h' : laidMet Tryz.prog [] W ∧ handlesMet Tryz.prog [("errors.errorType", Rows.laid_errors_errorType)] W := h
  exact etc_of_handles h'.2 (List.mem_singleton.2 rfl)
end Go.Proofs.YteppocjgodmpdaaGreatDoor
/-
  The law BarsRight, at whatever comes in: it answers true, and writes nothing that was there. Condition: errors.errorType holds the handle of the type error (EtC).
-/
namespace Go.Proofs.YteppocjgodmpdaaGreatDoor
set_option maxRecDepth 100000
open Go.RowKit Go.WideShapes
set_option linter.unusedSimpArgs false
set_option linter.unusedVariables false

theorem barsright_big (t e c : Nat) (n : Nat) (A : Option Addr) (k : Nat) (m : Nat) (B : Option Addr) (d : Nat) (w : World) (h : ¬ (n ≤ 300 ∧ (m ≤ 120 ∨ (255 < m ∧ m ≤ 400)))) (hn : n ≤ 9223372036854775807) (hm : m ≤ 9223372036854775807) (hg : EtC w) :
    Calls Tryz.prog 7 #[aggP t e c A n k, .slice B m d] w fun e₁ w' => e₁ = .returned (.bool true) ∧ Below w.heap.size w w' := by
  obtain ⟨hR0, hB0⟩ := box_pay w 77 (.int .u64 (t : Int)) (.int .u64 (e : Int)) (.int .u64 (c : Int)) (.slice A n k)
  unfold aggP
  go_enter Tryz.func7, Tryz.ntmps7
  go_upto_region 1 with fail
  generalize (w.alloc (.cells #[.int .u64 (t : Int), .int .u64 (e : Int), .int .u64 (c : Int), .slice A n k] 77)) = W0 at hR0 hB0 ⊢
  go_wp2_with fail
  refine (awake13_any _ (hg.later hB0)).mono ?_
  rintro e₁ w1 ⟨rfl, hb⟩
  replace hR0 := hR0.later hb
  replace hB0 := below_step hB0 hb
  clear hb
  have c3 : w1.cell? ⟨w.heap.size, 3, none⟩ = some (.slice A n k) := hR0.cell rfl
  by_cases h0 : n ≤ 300
  · have g0 : decide ((300 : Int) < (n : Int)) = false := decide_eq_false (by omega)
    have n0 : ¬ 300 < n := by omega
    have g1 : decide ((120 : Int) < (m : Int)) = true := decide_eq_true (by omega)
    have n1 : 120 < m := by omega
    by_cases h1 : m ≤ 255
    · have g2 : decide ((m : Int) ≤ 255) = true := decide_eq_true (by omega)
      clear h
      go_wp2_with fail
      go_ret
      exact ⟨rfl, hB0⟩
    · have g2 : decide ((m : Int) ≤ 255) = false := decide_eq_false (by omega)
      have g3 : decide ((400 : Int) < (m : Int)) = true := decide_eq_true (by omega)
      have n3 : 400 < m := by omega
      clear h
      go_wp2_with fail
      go_ret
      exact ⟨rfl, hB0⟩
  · have g0 : decide ((300 : Int) < (n : Int)) = true := decide_eq_true (by omega)
    have n0 : 300 < n := by omega
    clear h
    go_wp2_with fail
    go_ret
    exact ⟨rfl, hB0⟩
theorem barsright_any (v0 v1 : Value) (W : World) {H : Type} {enc : TypeId × Value → H} {base : Nat} {d0 d1 : DataW H} {p0 p1 : List MemPlace}
    (hv0 : Value.okWide Tryz.prog W .any base 77 v0) (ht0 : DataW.Trod enc Tryz.prog W 0 (fun _ => true) true 77 v0 d0 p0) (hv1 : Value.okWide Tryz.prog W .any base 22 v1) (ht1 : DataW.Trod enc Tryz.prog W 0 (fun _ => true) true 22 v1 d1 p1) (hg : EtC W) :
    Calls Tryz.prog 7 #[v0, v1] W fun e w' => e = .returned (.bool true) ∧ Below W.heap.size W w' := by
  obtain ⟨t, e, c, tag, A, k, rfl, ht, he, hc, hk, hkm, hr⟩ := open_payload hv0 ht0
  obtain ⟨b, B, d, rfl, hd, hdm, hrb⟩ := open_bytes hv1 ht1
  by_cases h : tag.length ≤ 300 ∧ (b.length ≤ 120 ∨ (255 < b.length ∧ b.length ≤ 400))
  · exact barsright_core t e c tag _ A k b _ B d W ht he hc (Lib.hid rfl) hr hk h.1 (Lib.hid rfl) hrb hd h.2 hg
  · exact barsright_big t e c _ A k _ B d W h (by omega) (by omega) hg
end Go.Proofs.YteppocjgodmpdaaGreatDoor
