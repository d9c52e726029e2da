/-
  What the call awake of layer 8's statements answers: true. No conditions.
-/
import Derived.Test.YtojegpoilildaaaPolyCalls
namespace Go.Proofs.Ytojegpoilildaaa
set_option maxRecDepth 100000
open Go.RowKit
set_option linter.unusedSimpArgs false
set_option linter.unusedVariables false

theorem pw_q1 : plainL [1, 1] ≠ [] := by decide +kernel
theorem pw_q2 : plainL [0, 0] = [] := by decide +kernel
theorem pw_quo : IsQuo [1, 0, 1] [1, 1] [1, 1] [] ∧ plainL [1, 1] = [1, 1] ∧ plainL [] = [] := ⟨⟨plain_iff.1 (by decide +kernel), by decide +kernel⟩, by decide +kernel, rfl⟩
theorem pw_mul : plainL (mulL [1, 1] [1, 1]) = [1, 0, 1] := by decide +kernel
theorem pw_deg : (plainL [5, 0]).length = 1 := by decide +kernel
theorem pw_eval : evalL [1, 1] 3 = 2 := by decide +kernel
theorem pw_slope : plainL (slopeL [9, 8, 7, 6]) = [8, 0, 6] := by decide +kernel
theorem pw_add : plainL (addL [1, 2] [1, 2, 3]) = [0, 0, 3] := by decide +kernel
theorem pw_plain : plainL [0] = [] := by decide +kernel
theorem pw_times : plainL (scaleL 2 [1, 128]) = [2, 45] := by decide +kernel
theorem one_lit (w : World) (l : List UInt8) (g : Nat) (hg : g = w.heap.size) (cs : Array Value) (h : cs = (l.map vB).toArray) : Rd vB (w.alloc (.cells cs 5)) (some ⟨g, 0, none⟩) l ∧ Below w.heap.size w (w.alloc (.cells cs 5)) := ⟨Rd.new_at w g hg l _ _ h, below_new (Below.refl _ _) _⟩

set_option maxRecDepth 100000 in
set_option maxHeartbeats 2000000 in
theorem awake8_any (w : World) : Calls Try.prog 6 #[] w fun e w' => e = .returned (.bool true) ∧ Below w.heap.size w w' := by
  go_enter Try.func6, Try.ntmps6
  go_wp2_with fail
  obtain ⟨hl0, hb0⟩ := one_lit w [1, 0, 1] (w.heap.size) rfl #[.int .u8 1, .int .u8 0, .int .u8 1] rfl
  obtain ⟨hl1, hb1⟩ := one_lit ((w.alloc (.cells #[.int .u8 1, .int .u8 0, .int .u8 1] 5))) [1, 1] (w.heap.size + 1) (by simp) #[.int .u8 1, .int .u8 1] rfl
  replace hl0 := hl0.keep hb1
  have hbl := below_step hb0 hb1
  clear hb0 hb1
  refine (quoP_good [1, 0, 1] [1, 1] 3 2 _ _ _ _ _ (Lib.hid rfl) (Lib.hid rfl) hl0 hl1 (by omega) (by omega) (by omega) (by omega) (Lib.hid pw_q1)).mono ?_
  rintro e w1 ⟨a, r, A, B, na, nr, c, d, rfl, HNA, HNR, hca, hdr, hra, hrr, hb, HE⟩
  obtain ⟨e1, e2⟩ := quo_same HE.out pw_quo
  subst e1 e2
  have en : na = 2 := HNA.out.symm
  have em : nr = 0 := HNR.out.symm
  subst en em
  have hB := below_step hbl hb
  clear hbl hb hl0 hl1 hrr HE
  go_wp2_with fail
  obtain ⟨hl0, hb0⟩ := one_lit w1 [1] (w1.heap.size) rfl #[.int .u8 1] rfl
  obtain ⟨hl1, hb1⟩ := one_lit ((w1.alloc (.cells #[.int .u8 1] 5))) [0, 0] (w1.heap.size + 1) (by simp) #[.int .u8 0, .int .u8 0] rfl
  replace hl0 := hl0.keep hb1
  have hbl := below_step hb0 hb1
  clear hb0 hb1
  refine (quoP_bad [1] [0, 0] 1 2 _ _ _ _ _ (Lib.hid rfl) (Lib.hid rfl) hl0 hl1 (by omega) (by omega) (by omega) (by omega) (Lib.hid pw_q2)).mono ?_
  rintro e w2 ⟨A2, B2, c2, d2, rfl, hb⟩
  replace hB := below_step (below_step hB hbl) hb
  replace hra := (hra.keep hbl).keep hb
  clear hbl hb hl0 hl1
  have hs1 : (convert 22 9 (.slice A 2 c)).run Try.prog w2 = .ok (.string ⟨#[1, 1]⟩) w2 := run_str _ _ _ _ Try.underlying22 Try.underlying5 Try.underlying9 _ [1, 1] 2 c rfl hra
  go_wp2_with fail
  clear hs1
  obtain ⟨hl0, hb0⟩ := one_lit w2 [1, 1] (w2.heap.size) rfl #[.int .u8 1, .int .u8 1] rfl
  have hbl := hb0
  clear hb0
  refine (mulP_any [1, 1] [1, 1] 2 2 _ _ _ _ _ (Lib.hid rfl) (Lib.hid rfl) (hra.keep hbl) hl0 hca (by omega) (by omega) (by omega)).mono ?_
  rintro e w3 ⟨A3, n3, c3, rfl, HN3, hc3, hr3, hb⟩
  rw [pw_mul] at HN3 hr3
  have en3 : n3 = 3 := HN3.out.symm
  subst en3
  replace hB := below_step (below_step hB hbl) hb
  clear hbl hb hl0
  have hs1 : (convert 22 9 (.slice A3 3 c3)).run Try.prog w3 = .ok (.string ⟨#[1, 0, 1]⟩) w3 := run_str _ _ _ _ Try.underlying22 Try.underlying5 Try.underlying9 _ [1, 0, 1] 3 c3 rfl hr3
  go_wp2_with fail
  clear hs1
  obtain ⟨hl0, hb0⟩ := one_lit w3 [5, 0] (w3.heap.size) rfl #[.int .u8 5, .int .u8 0] rfl
  have hbl := hb0
  clear hb0
  refine (degP_any [5, 0] 2 _ _ _ (Lib.hid rfl) hl0 (by omega) (by omega)).mono ?_
  rintro e w4 ⟨rfl, hb⟩
  rw [pw_deg]
  replace hB := below_step (below_step hB hbl) hb
  clear hbl hb hl0
  go_wp2_with fail
  obtain ⟨hl0, hb0⟩ := one_lit w4 [1, 1] (w4.heap.size) rfl #[.int .u8 1, .int .u8 1] rfl
  have hbl := hb0
  clear hb0
  refine (evalP_any [1, 1] 3 2 _ _ _ (Lib.hid rfl) hl0 (by omega) (by omega)).mono ?_
  rintro e w5 ⟨rfl, hb⟩
  rw [pw_eval]
  replace hB := below_step (below_step hB hbl) hb
  clear hbl hb hl0
  go_wp2_with fail
  obtain ⟨hl0, hb0⟩ := one_lit w5 [9, 8, 7, 6] (w5.heap.size) rfl #[.int .u8 9, .int .u8 8, .int .u8 7, .int .u8 6] rfl
  have hbl := hb0
  clear hb0
  refine (slopeP_any [9, 8, 7, 6] 4 _ _ _ (Lib.hid rfl) hl0 (by omega) (by omega)).mono ?_
  rintro e w6 ⟨A6, n6, c6, rfl, HN6, hc6, hr6, hb⟩
  rw [pw_slope] at HN6 hr6
  have en6 : n6 = 3 := HN6.out.symm
  subst en6
  replace hB := below_step (below_step hB hbl) hb
  clear hbl hb hl0
  have hs1 : (convert 22 9 (.slice A6 3 c6)).run Try.prog w6 = .ok (.string ⟨#[8, 0, 6]⟩) w6 := run_str _ _ _ _ Try.underlying22 Try.underlying5 Try.underlying9 _ [8, 0, 6] 3 c6 rfl hr6
  go_wp2_with fail
  clear hs1
  obtain ⟨hl0, hb0⟩ := one_lit w6 [1, 2] (w6.heap.size) rfl #[.int .u8 1, .int .u8 2] rfl
  obtain ⟨hl1, hb1⟩ := one_lit ((w6.alloc (.cells #[.int .u8 1, .int .u8 2] 5))) [1, 2, 3] (w6.heap.size + 1) (by simp) #[.int .u8 1, .int .u8 2, .int .u8 3] rfl
  replace hl0 := hl0.keep hb1
  have hbl := below_step hb0 hb1
  clear hb0 hb1
  refine (addP_any [1, 2] [1, 2, 3] 2 3 _ _ _ _ _ (Lib.hid rfl) (Lib.hid rfl) hl0 hl1 (by omega) (by omega) (by omega) (by omega)).mono ?_
  rintro e w7 ⟨A7, n7, c7, rfl, HN7, hc7, hr7, hb⟩
  rw [pw_add] at HN7 hr7
  have en7 : n7 = 3 := HN7.out.symm
  subst en7
  replace hB := below_step (below_step hB hbl) hb
  clear hbl hb hl0 hl1
  have hs1 : (convert 22 9 (.slice A7 3 c7)).run Try.prog w7 = .ok (.string ⟨#[0, 0, 3]⟩) w7 := run_str _ _ _ _ Try.underlying22 Try.underlying5 Try.underlying9 _ [0, 0, 3] 3 c7 rfl hr7
  go_wp2_with fail
  clear hs1
  obtain ⟨hl0, hb0⟩ := one_lit w7 [0] (w7.heap.size) rfl #[.int .u8 0] rfl
  have hbl := hb0
  clear hb0
  refine (plainP_any [0] 1 _ _ _ (Lib.hid rfl) hl0 (by omega) (by omega)).mono ?_
  rintro e w8 ⟨A8, n8, c8, rfl, HN8, hc8, hr8, hb⟩
  rw [pw_plain] at HN8
  have en8 : n8 = 0 := HN8.out.symm
  subst en8
  replace hB := below_step (below_step hB hbl) hb
  clear hbl hb hl0
  go_wp2_with fail
  obtain ⟨hl0, hb0⟩ := one_lit w8 [1, 128] (w8.heap.size) rfl #[.int .u8 1, .int .u8 128] rfl
  have hbl := hb0
  clear hb0
  refine (timesP_any 2 [1, 128] 2 _ _ _ (Lib.hid rfl) hl0 (by omega) (by omega)).mono ?_
  rintro e w9 ⟨A9, n9, c9, rfl, HN9, hc9, hr9, hb⟩
  rw [pw_times] at HN9 hr9
  have en9 : n9 = 2 := HN9.out.symm
  subst en9
  replace hB := below_step (below_step hB hbl) hb
  clear hbl hb hl0
  have hs1 : (convert 22 9 (.slice A9 2 c9)).run Try.prog w9 = .ok (.string ⟨#[2, 45]⟩) w9 := run_str _ _ _ _ Try.underlying22 Try.underlying5 Try.underlying9 _ [2, 45] 2 c9 rfl hr9
  go_wp2_with fail
  clear hs1
  go_ret
  exact ⟨rfl, hB⟩
end Go.Proofs.Ytojegpoilildaaa
