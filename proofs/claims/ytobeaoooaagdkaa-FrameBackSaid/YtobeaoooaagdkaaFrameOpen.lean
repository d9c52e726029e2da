/-
  A parameter that is a payload, opened. No conditions.
-/
import Derived.Test.YtobeaoooaagdkaaOpenB
import Derived.Test.YtobeaoooaagdkaaFrameCalls
namespace Go.Proofs.Ytobeaoooaagdkaa
set_option maxRecDepth 100000
open Go.RowKit Go.Deep Go.WideShapes Go.ChangeShapes
set_option linter.unusedSimpArgs false
set_option linter.unusedVariables false

/-- Structs of four fields: each field's cells. -/
def RFour (a0 n0 a1 n1 a2 n2 a3 n3 : Nat) {α β γ δ : Type} (R : World → List Value → α → Prop) (S : World → List Value → β → Prop) (T : World → List Value → γ → Prop) (U : World → List Value → δ → Prop) : World → List Value → α × β × γ × δ → Prop := fun w cs x => cs.length = n0 + n1 + n2 + n3 ∧ R w ((cs.drop a0).take n0) x.1 ∧ S w ((cs.drop a1).take n1) x.2.1 ∧ T w ((cs.drop a2).take n2) x.2.2.1 ∧ U w ((cs.drop a3).take n3) x.2.2.2
theorem opens_four {P : Program} {t : TypeId} {α β γ δ : Type} {R : World → List Value → α → Prop} {S : World → List Value → β → Prop} {T : World → List Value → γ → Prop} {U : World → List Value → δ → Prop} {f0 f1 f2 f3 : Field} {a0 n0 a1 n1 a2 n2 a3 n3 : Nat} (ht : P.underlying t = some (.struct #[f0, f1, f2, f3])) (e0 : f0.offset = a0) (e1 : f1.offset = a1) (e2 : f2.offset = a2) (e3 : f3.offset = a3)
    (c0 : P.cellsOf f0.type = n0) (c1 : P.cellsOf f1.type = n1) (c2 : P.cellsOf f2.type = n2) (c3 : P.cellsOf f3.type = n3) (hn : P.cellsOf t = n0 + n1 + n2 + n3) (h0 : Opens P f0.type R) (h1 : Opens P f1.type S) (h2 : Opens P f2.type T) (h3 : Opens P f3.type U) : Opens P t (RFour a0 n0 a1 n1 a2 n2 a3 n3 R S T U) := fun enc w base spare held fuel cs x h => by
  obtain ⟨xs, n, _, _, hl, hxl, hx⟩ := DataW.trod_struct ht h
  have k0 := hx 0 f0 rfl
  have k1 := hx 1 f1 rfl
  have k2 := hx 2 f2 rfl
  have k3 := hx 3 f3 rfl
  simp only [List.size_toArray, List.length_cons, List.length_nil, Nat.zero_add, Nat.reduceAdd] at hxl
  rw [List.getElem?_eq_getElem (by omega), e0, c0] at k0
  rw [List.getElem?_eq_getElem (by omega), e1, c1] at k1
  rw [List.getElem?_eq_getElem (by omega), e2, c2] at k2
  rw [List.getElem?_eq_getElem (by omega), e3, c3] at k3
  obtain ⟨x0, r0⟩ := h0 enc w base spare held n _ _ k0
  obtain ⟨x1, r1⟩ := h1 enc w base spare held n _ _ k1
  obtain ⟨x2, r2⟩ := h2 enc w base spare held n _ _ k2
  obtain ⟨x3, r3⟩ := h3 enc w base spare held n _ _ k3
  exact ⟨(x0, x1, x2, x3), by omega, r0, r1, r2, r3⟩
theorem opens_payload : Opens Try.prog 25 (RFour 0 1 1 1 2 1 3 1 RNum RNum RNum (RSlice 1 RByte)) := opens_four Try.underlying25 rfl rfl rfl rfl (by kernel_rfl) (by kernel_rfl) (by kernel_rfl) (by kernel_rfl) (by kernel_rfl) (opens_num Try.underlying22) (opens_num Try.underlying22) (opens_num Try.underlying22) opens_bytes
section
variable {H : Type} {enc : TypeId × Value → H} {W : World} {base b1 : Nat} {spare : Nat → Bool} {held : Bool} {r : Reach} {v : Value} {d : DataW H} {p : List MemPlace}
theorem open_payload (hv : Value.okWide Try.prog W r base 25 v) (ht : DataW.Trod enc Try.prog W b1 spare held 25 v d p) : ∃ (t e c : Nat) (l : List UInt8) (A : Option Addr) (cap : Nat), v = aggP t e c A l.length cap ∧ t < 18446744073709551616 ∧ e < 18446744073709551616 ∧ c < 18446744073709551616 ∧ l.length ≤ cap ∧ cap ≤ 9223372036854775807 ∧ Rd vB W A l := by
  obtain ⟨cs, rfl, _⟩ := okWide_struct Try.underlying25 hv
  obtain ⟨fuel, hf⟩ := ht
  obtain ⟨⟨t, e, c, l⟩, hl, h0, h1, h2, h3⟩ := opens_payload enc W _ _ _ _ _ _ hf
  obtain ⟨A, k, e3, h4, h5, h6⟩ := bytes_of_r h3
  obtain ⟨e0, g0⟩ := h0
  obtain ⟨e1, g1⟩ := h1
  obtain ⟨e2, g2⟩ := h2
  refine ⟨t, e, c, l, A, k, ?_, g0, g1, g2, h4, h5, h6⟩
  unfold aggP
  congr 1
  apply Array.toList_inj.1
  simp only [Value.cells] at hl e0 e1 e2 e3
  match hcs : cs.toList, hl with
  | [x0, x1, x2, x3], _ =>
    rw [hcs] at e0 e1 e2 e3
    simp at e0 e1 e2 e3
    rw [e0, e1, e2, e3]
end
end Go.Proofs.Ytobeaoooaagdkaa
