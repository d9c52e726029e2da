/-
  What the call awake of layer 11's statements answers: true. No conditions.
-/
import Derived.Test.YtaknikbnajkccaaStuffCalls
namespace Go.Proofs.Ytaknikbnajkccaa
set_option maxRecDepth 100000
open Go.RowKit
set_option linter.unusedSimpArgs false
set_option linter.unusedVariables false

theorem fw_cand : candL [1, 127] = [0] := by decide +kernel
theorem fw_put : putT [0] = [1, 127] := by decide +kernel
theorem fw_ok : putT (candL [1, 127]) = [1, 127] := by rw [fw_cand, fw_put]
theorem fw_no : putT (candL [0]) ≠ [0] := by decide +kernel
theorem fw_ones : putT [255] = [254, 254] := by decide +kernel
theorem fw_most7 : mostN 7 = 8 := rfl
theorem fw_most8 : mostN 8 = 10 := rfl
theorem fone_lit (w : World) (l : List UInt8) (g : Nat) (hg : g = w.heap.size) (cs : Array Value) (h : cs = (l.map vB).toArray) : Rd vB (w.alloc (.cells cs 5)) (some ⟨g, 0, none⟩) l ∧ Below w.heap.size w (w.alloc (.cells cs 5)) := ⟨Rd.new_at w g hg l _ _ h, below_new (Below.refl _ _) _⟩

set_option maxRecDepth 100000 in
set_option maxHeartbeats 2000000 in
theorem awake11_any (w : World) : Calls Try.prog 6 #[] w fun e w' => e = .returned (.bool true) ∧ Below w.heap.size w w' := by
  go_enter Try.func6, Try.ntmps6
  go_wp2_with fail
  obtain ⟨hl0, hb0⟩ := fone_lit w [1, 127] (w.heap.size) rfl #[.int .u8 1, .int .u8 127] rfl
  refine (getF_ok [1, 127] 2 _ _ _ (Lib.hid rfl) hl0 (by omega) (by omega) (Lib.hid fw_ok)).mono ?_
  rintro e w1 ⟨A1, n1, c1, rfl, HN1, hc1, hr1, hb1⟩
  rw [fw_cand] at HN1 hr1
  have en1 : n1 = 1 := HN1.out.symm
  subst en1
  have hB := below_step hb0 hb1
  clear hb0 hb1 hl0
  go_wp2_with fail
  obtain ⟨hl0, hb0⟩ := fone_lit w1 [0] (w1.heap.size) rfl #[.int .u8 0] rfl
  refine (getF_no [0] 1 _ _ _ (Lib.hid rfl) hl0 (by omega) (by omega) (Lib.hid fw_no)).mono ?_
  rintro e w2 ⟨A2, n2, c2, rfl, HN2, hc2, hr2, hb2⟩
  have hb := below_step hb0 hb2
  replace hr1 := hr1.keep hb
  replace hB := below_step hB hb
  clear hb0 hb2 hb hl0 hr2
  go_wp2_with fail
  obtain ⟨hl0, hb0⟩ := fone_lit w2 [0] (w2.heap.size) rfl #[.int .u8 0] rfl
  refine (putF_any [0] 1 _ _ _ (Lib.hid rfl) hl0 (by omega) (by omega)).mono ?_
  rintro e w3 ⟨A3, n3, c3, rfl, HN3, hc3, hr3, hb3⟩
  rw [fw_put] at HN3 hr3
  have en3 : n3 = 2 := HN3.out.symm
  subst en3
  have hb := below_step hb0 hb3
  replace hr1 := hr1.keep hb
  replace hB := below_step hB hb
  clear hb0 hb3 hb hl0
  have hs1 : (convert 22 9 (.slice A3 2 c3)).run Try.prog w3 = .ok (.string ⟨#[1, 127]⟩) w3 := run_str _ _ _ _ Try.underlying22 Try.underlying5 Try.underlying9 _ [1, 127] 2 c3 rfl hr3
  have hs2 : (convert 22 9 (.slice A1 1 c1)).run Try.prog w3 = .ok (.string ⟨#[0]⟩) w3 := run_str _ _ _ _ Try.underlying22 Try.underlying5 Try.underlying9 _ [0] 1 c1 rfl hr1
  go_wp2_with fail
  clear hs1 hs2
  obtain ⟨hl0, hb0⟩ := fone_lit w3 [255] (w3.heap.size) rfl #[.int .u8 255] rfl
  refine (putF_any [255] 1 _ _ _ (Lib.hid rfl) hl0 (by omega) (by omega)).mono ?_
  rintro e w4 ⟨A4, n4, c4, rfl, HN4, hc4, hr4, hb4⟩
  rw [fw_ones] at HN4 hr4
  have en4 : n4 = 2 := HN4.out.symm
  subst en4
  replace hB := below_step (below_step hB hb0) hb4
  clear hb0 hb4 hl0
  have hs1 : (convert 22 9 (.slice A4 2 c4)).run Try.prog w4 = .ok (.string ⟨#[254, 254]⟩) w4 := run_str _ _ _ _ Try.underlying22 Try.underlying5 Try.underlying9 _ [254, 254] 2 c4 rfl hr4
  go_wp2_with fail
  clear hs1
  refine (mostF_any 7 _ (by omega) (by omega)).mono ?_
  rintro e w5 ⟨rfl, hb5⟩
  rw [fw_most7]
  replace hB := below_step hB hb5
  clear hb5
  go_wp2_with fail
  refine (mostF_any 8 _ (by omega) (by omega)).mono ?_
  rintro e w6 ⟨rfl, hb6⟩
  rw [fw_most8]
  replace hB := below_step hB hb6
  clear hb6
  go_wp2_with fail
  go_ret
  exact ⟨rfl, hB⟩
end Go.Proofs.Ytaknikbnajkccaa
