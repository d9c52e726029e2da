/-
  What bytes.Equal answers. No conditions but those typed.
-/
import Derived.Test.YtaknikbnajkccaaStr
import Derived.Test.YtaknikbnajkccaaWordWords
namespace Go.Proofs.Ytaknikbnajkccaa
set_option maxRecDepth 100000
open Go.RowKit
set_option linter.unusedSimpArgs false
set_option linter.unusedVariables false

theorem str_beq (a b : List UInt8) : ((strL a).toList == (strL b).toList) = decide (a = b) := by
  unfold strL
  rw [ByteArray.toList_mk, ByteArray.toList_mk]
  by_cases h : a = b <;> simp [h]

theorem equal_any (a b : List UInt8) (n m : Nat) (A B : Option Addr) (c d : Nat) (w : World) (HN : Hid (a.length = n)) (HM : Hid (b.length = m)) (ha : Rd vB w A a) (hb : Rd vB w B b) :
    Calls Try.prog 14 #[.slice A n c, .slice B m d] w fun e w' => e = .returned (.bool (decide (a = b))) ∧ w = w' := by
  have s0 : (convert 22 9 (.slice A n c)).run Try.prog w = .ok (.string (strL a)) w := run_str _ _ _ _ Try.underlying22 Try.underlying5 Try.underlying9 _ a _ _ HN.out ha
  have s1 : (convert 22 9 (.slice B m d)).run Try.prog w = .ok (.string (strL b)) w := run_str _ _ _ _ Try.underlying22 Try.underlying5 Try.underlying9 _ b _ _ HM.out hb
  have b0 := str_beq a b
  obtain ⟨r, hr⟩ : ∃ r, r = decide (a = b) := ⟨_, rfl⟩
  rw [← hr] at b0 ⊢
  generalize strL a = SA at s0 b0
  generalize strL b = SB at s1 b0
  clear hr ha hb
  go_enter Try.func14, Try.ntmps14
  go_wp2_with fail
  go_ret
  exact ⟨rfl, rfl⟩
end Go.Proofs.Ytaknikbnajkccaa
