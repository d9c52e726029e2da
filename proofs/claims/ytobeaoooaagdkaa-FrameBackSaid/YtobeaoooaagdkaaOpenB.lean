/-
  A parameter that is a slice of bytes, opened. No conditions.
-/
import Derived.Test.YtobeaoooaagdkaaOpen
import Derived.Test.YtobeaoooaagdkaaRows
namespace Go.Proofs.Ytobeaoooaagdkaa
set_option maxRecDepth 100000
open Go.RowKit Go.WideShapes
set_option linter.unusedSimpArgs false
set_option linter.unusedVariables false

theorem opens_bytes : Opens Try.prog 23 (RSlice 1 RByte) := opens_slice Try.underlying23 (by kernel_rfl) (by omega) (opens_byte Try.underlying5)
section
variable {H : Type} {enc : TypeId × Value → H} {W : World} {base b1 : Nat} {spare : Nat → Bool} {held : Bool} {r : Reach} {v : Value} {d : DataW H} {p : List MemPlace}
theorem open_bytes (hv : Value.okWide Try.prog W r base 23 v) (ht : DataW.Trod enc Try.prog W b1 spare held 23 v d p) : ∃ (l : List UInt8) (A : Option Addr) (cap : Nat), v = .slice A l.length cap ∧ l.length ≤ cap ∧ cap ≤ 9223372036854775807 ∧ Rd vB W A l := by
  obtain ⟨a, len, cap, rfl⟩ := okWide_slice Try.underlying23 hv
  obtain ⟨fuel, hf⟩ := ht
  obtain ⟨l, hl⟩ := opens_bytes enc W _ _ _ _ _ _ hf
  obtain ⟨A, c, e, h1, h2, h3⟩ := bytes_of_r hl
  simp [Value.cells] at e
  obtain ⟨rfl, rfl, rfl⟩ := e
  exact ⟨l, _, _, rfl, h1, h2, h3⟩
end
end Go.Proofs.Ytobeaoooaagdkaa
