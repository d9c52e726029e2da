/-
  What the call awake of layer 4's statements answers: true. No conditions.
-/
import Derived.Test.YtaoaejbohkmddaaTruncCalls
import Derived.Test.YtaoaejbohkmddaaNewFr
import Derived.Lib.SmallJoins
import Derived.Lib.SlBytesConst
namespace Go.Proofs.Ytaoaejbohkmddaa
open Go.RowKit
set_option linter.unusedSimpArgs false
set_option linter.unusedVariables false

def exTag : List UInt8 := [31, 134, 152, 105, 14, 2, 202, 22, 97, 133, 80, 239, 127, 25, 218, 142, 148, 91, 85, 90]
theorem ex_code : codeR exTag = (1357872921, 0) := by decide +kernel
theorem ex_digits : strL (digL 1357872921 6) = ⟨#[56, 55, 50, 57, 50, 49]⟩ := by decide +kernel
theorem ex_short : codeR (exTag.take 18) = (0, 2) := by decide +kernel
theorem ex_unlike : unlikeL [97, 98, 99] [97, 120, 99, 100] = 2 := by decide +kernel
theorem ex_same : sameB exTag exTag = true := by decide +kernel
theorem ex_other : sameB exTag (exTag.drop 1) = false := by decide +kernel

set_option maxRecDepth 100000 in
set_option maxHeartbeats 1000000 in
theorem awake4_any (w : World) : Calls Try.prog 6 #[] w fun e w' => e = .returned (.bool true) ∧ Below w.heap.size w w' := by
  have hcv := Lib.run_convert_bytes_const (P := Try.prog) w 22 5 #[.int .u8 31, .int .u8 134, .int .u8 152, .int .u8 105, .int .u8 14, .int .u8 2, .int .u8 202, .int .u8 22, .int .u8 97, .int .u8 133, .int .u8 80, .int .u8 239, .int .u8 127, .int .u8 25, .int .u8 218, .int .u8 142, .int .u8 148, .int .u8 91, .int .u8 85, .int .u8 90] 20 20 Try.underlying22 Try.underlying5
  have hr : Rd vB (w.alloc (.cells #[.int .u8 31, .int .u8 134, .int .u8 152, .int .u8 105, .int .u8 14, .int .u8 2, .int .u8 202, .int .u8 22, .int .u8 97, .int .u8 133, .int .u8 80, .int .u8 239, .int .u8 127, .int .u8 25, .int .u8 218, .int .u8 142, .int .u8 148, .int .u8 91, .int .u8 85, .int .u8 90] 5 (20, 21))) (some ⟨w.heap.size, 0, none⟩) exTag := Rd.new_fr w _ rfl _ _ _ _ rfl
  have hB : Below w.heap.size w (w.alloc (.cells #[.int .u8 31, .int .u8 134, .int .u8 152, .int .u8 105, .int .u8 14, .int .u8 2, .int .u8 202, .int .u8 22, .int .u8 97, .int .u8 133, .int .u8 80, .int .u8 239, .int .u8 127, .int .u8 25, .int .u8 218, .int .u8 142, .int .u8 148, .int .u8 91, .int .u8 85, .int .u8 90] 5 (20, 21))) := below_new (Below.refl _ _) _
  go_enter Try.func6, Try.ntmps6
  go_wp2_with fail
  clear hcv
  refine (code_any 20 exTag 1357872921 0 _ _ _ (Lib.hid ex_code) (Lib.hid rfl) hr (by omega) (by omega)).mono ?_
  rintro e w1 ⟨rfl, hb1⟩
  replace hr := hr.keep hb1
  replace hB := below_step hB hb1
  clear hb1
  go_wp2_with fail
  refine (digits_good 1357872921 6 _ (by omega) (by omega) (by omega)).mono ?_
  rintro e w2 ⟨rfl, hb2⟩
  rw [ex_digits]
  replace hr := hr.keep hb2
  replace hB := below_step hB hb2
  clear hb2
  have h18 := hr.take 18
  go_wp2_with fail
  refine (code_any 18 (exTag.take 18) 0 2 _ _ _ (Lib.hid ex_short) (Lib.hid rfl) h18 (by omega) (by omega)).mono ?_
  rintro e w3 ⟨rfl, hb3⟩
  replace hr := hr.keep hb3
  replace hB := below_step hB hb3
  clear hb3 h18
  have hcv1 := Lib.run_convert_bytes_const (P := Try.prog) w3 22 5 #[.int .u8 97, .int .u8 98, .int .u8 99] 3 3 Try.underlying22 Try.underlying5
  have hcv2 := Joins.run_convert_bytes_const_at (P := Try.prog) (w3.alloc (.cells #[.int .u8 97, .int .u8 98, .int .u8 99] 5 (3, 4))) 22 5 #[.int .u8 97, .int .u8 120, .int .u8 99, .int .u8 100] 4 4 (w3.heap.size + 1) (by simp) Try.underlying22 Try.underlying5
  go_wp2_with fail
  clear hcv1 hcv2
  have hb4 := below_new (below_new (Below.refl _ w3) (.cells #[.int .u8 97, .int .u8 98, .int .u8 99] 5 (3, 4))) (.cells #[.int .u8 97, .int .u8 120, .int .u8 99, .int .u8 100] 5 (4, 5))
  have hr1 : Rd vB ((w3.alloc (.cells #[.int .u8 97, .int .u8 98, .int .u8 99] 5 (3, 4))).alloc (.cells #[.int .u8 97, .int .u8 120, .int .u8 99, .int .u8 100] 5 (4, 5))) (some ⟨w3.heap.size, 0, none⟩) [97, 98, 99] := (Rd.new_fr w3 _ rfl _ _ _ _ rfl).keep (below_new (Below.refl _ _) _)
  have hr2 : Rd vB ((w3.alloc (.cells #[.int .u8 97, .int .u8 98, .int .u8 99] 5 (3, 4))).alloc (.cells #[.int .u8 97, .int .u8 120, .int .u8 99, .int .u8 100] 5 (4, 5))) (some ⟨w3.heap.size + 1, 0, none⟩) [97, 120, 99, 100] := Rd.new_fr _ _ (by simp) _ _ _ _ rfl
  refine (unlike_any 3 4 [97, 98, 99] [97, 120, 99, 100] _ _ _ _ _ (Lib.hid rfl) (Lib.hid rfl) hr1 hr2 (by omega) (by omega)).mono ?_
  rintro e w5 ⟨rfl, hb5⟩
  rw [ex_unlike]
  replace hr := hr.keep (below_step hb4 hb5)
  replace hB := below_step (below_step hB hb4) hb5
  clear hb4 hb5 hr1 hr2
  go_wp2_with fail
  refine (same_any 20 20 exTag exTag _ _ _ _ _ (Lib.hid rfl) (Lib.hid rfl) hr hr (by omega) (by omega)).mono ?_
  rintro e w6 ⟨rfl, hb6⟩
  rw [ex_same]
  replace hr := hr.keep hb6
  replace hB := below_step hB hb6
  clear hb6
  have hr1 : Rd vB w6 (some ⟨w.heap.size, 1, none⟩) (exTag.drop 1) := hr.drop 1 20 (by decide)
  go_wp2_with fail
  refine (same_any 20 19 exTag (exTag.drop 1) _ _ _ _ _ (Lib.hid rfl) (Lib.hid rfl) hr hr1 (by omega) (by omega)).mono ?_
  rintro e w7 ⟨rfl, hb7⟩
  rw [ex_other]
  go_wp2_with fail
  go_ret
  exact ⟨rfl, below_step hB hb7⟩
end Go.Proofs.Ytaoaejbohkmddaa
