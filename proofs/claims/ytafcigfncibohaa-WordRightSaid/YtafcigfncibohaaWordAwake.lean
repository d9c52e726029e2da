/-
  The fixed answers that each statement of layer 1 begins with are as they should be.
-/
import Derived.Test.YtafcigfncibohaaWordWords
namespace Go.Proofs.Ytafcigfncibohaa
open Go.RowKit

theorem from_12 (A : Option Addr) (cap : Nat) (w : World) (hr : Rd vB w A [1, 2]) : Calls Try.prog 16 #[.slice A 2 cap] w fun e w' => e = .returned (.tuple #[.int .u64 258, .int .i64 0]) ∧ w = w' :=
  from_any [1, 2] A cap w hr (by simp)
theorem from_02 (A : Option Addr) (cap : Nat) (w : World) (hr : Rd vB w A [0, 2]) : Calls Try.prog 16 #[.slice A 2 cap] w fun e w' => e = .returned (.tuple #[.int .u64 0, .int .i64 3]) ∧ w = w' :=
  from_any [0, 2] A cap w hr (by simp)
theorem get_258 (A : Option Addr) (cap : Nat) (w : World) (hr : Rd vB w A [0, 0, 0, 0, 0, 0, 1, 2]) : Calls Try.prog 14 #[.slice A 8 cap] w fun e w' => e = .returned (.tuple #[.int .u64 258, .int .i64 0]) ∧ w = w' :=
  get_any [0, 0, 0, 0, 0, 0, 1, 2] A cap w hr (by simp)
theorem rot_1 (w : World) : Calls Try.prog 7 #[.int .u32 1, .int .i64 1] w fun e w' => e = .returned (.int .u32 2147483648) ∧ w = w' := rot_any 1 1 w
theorem rot_m1 (w : World) : Calls Try.prog 7 #[.int .u32 1, .int .i64 (-1)] w fun e w' => e = .returned (.int .u32 2) ∧ w = w' := rot_any 1 (-1) w
theorem least_258 (w : World) : Calls Try.prog 20 #[.int .u64 258] w fun e w' => ∃ A cap, e = .returned (.slice A 2 cap) ∧ Rd vB w' A [1, 2] ∧ Below w.heap.size w w' :=
  (least_any 258 (by omega) w).mono fun _ _ ⟨A, cap, he, _, hr, hb⟩ => ⟨A, cap, he, hr, hb⟩
theorem put_1 (w : World) : Calls Try.prog 18 #[.int .u64 1] w fun e w' => ∃ A cap, e = .returned (.slice A 8 cap) ∧ Below w.heap.size w w' :=
  (put_any 1 (by omega) w).mono fun _ _ ⟨A, cap, he, _, _, hb⟩ => ⟨A, cap, he, hb⟩
theorem words_9 (A : Option Addr) (cap : Nat) (w : World) (hr : Rd vB w A [9, 8, 7, 6, 5]) (hc : 5 ≤ cap) : Calls Try.prog 10 #[.slice A 5 cap] w fun e w' => ∃ A cap, e = .returned (.slice A 1 cap) ∧ Rd vW w' A [151521030] ∧ Below w.heap.size w w' :=
  (words_any [9, 8, 7, 6, 5] A cap w hr hc (by simp)).mono fun _ _ ⟨A, cap, he, _, hr, hb⟩ => ⟨A, cap, he, hr, hb⟩
theorem bytes_9 (A : Option Addr) (cap : Nat) (w : World) (hr : Rd vW w A [151521030]) : Calls Try.prog 12 #[.slice A 1 cap] w fun e w' => ∃ A cap, e = .returned (.slice A 4 cap) ∧ Rd vB w' A [9, 8, 7, 6] ∧ Below w.heap.size w w' :=
  (bytes_any [151521030] A cap w hr (by simp)).mono fun _ _ ⟨A, cap, he, _, hr, hb⟩ => ⟨A, cap, he, hr, hb⟩

theorem awake_any (w : World) : Calls Try.prog 6 #[] w fun e w' => e = .returned (.bool true) ∧ Below w.heap.size w w' := by
  go_enter Try.func6, Try.ntmps6
  go_wp2_with fail
  refine (from_12 _ _ _ (Rd.new_at _ _ (by simp) _ _ _ rfl)).mono ?_
  rintro e w' ⟨rfl, rfl⟩
  go_wp2_with fail
  refine (get_258 _ _ _ (Rd.new_at _ _ (by simp) _ _ _ rfl)).mono ?_
  rintro e w' ⟨rfl, rfl⟩
  go_wp2_with fail
  refine (from_02 _ _ _ (Rd.new_at _ _ (by simp) _ _ _ rfl)).mono ?_
  rintro e w' ⟨rfl, rfl⟩
  go_wp2_with fail
  refine (rot_1 _).mono ?_
  rintro e w' ⟨rfl, rfl⟩
  go_wp2_with fail
  refine (rot_m1 _).mono ?_
  rintro e w' ⟨rfl, rfl⟩
  go_wp2_with fail
  refine (least_258 _).mono ?_
  rintro e w1 ⟨A1, cap1, rfl, hr1, hb1⟩
  have hs1 := run_str w1 23 5 9 Try.underlying23 Try.underlying5 Try.underlying9 A1 [1, 2] 2 cap1 rfl hr1
  have hB1 := below_step (below_new (below_new (below_new (Below.refl _ w) _) _) _) hb1
  clear hb1 hr1
  go_wp2_with fail
  refine (words_9 _ _ _ (Rd.new_at _ _ (by simp) _ _ _ rfl) (by omega)).mono ?_
  rintro e w2 ⟨A2, cap2, rfl, hr2, hb2⟩
  have hB2 := below_step (below_new hB1 _) hb2
  clear hb2 hB1 hs1
  go_wp2_with fail
  refine (bytes_9 _ _ _ hr2).mono ?_
  rintro e w3 ⟨A3, cap3, rfl, hr3, hb3⟩
  have hB3 := below_step hB2 hb3
  have hs3 := run_str w3 23 5 9 Try.underlying23 Try.underlying5 Try.underlying9 A3 [9, 8, 7, 6] 4 cap3 rfl hr3
  clear hb3 hB2 hr3 hr2
  go_wp2_with fail
  refine (put_1 _).mono ?_
  rintro e w4 ⟨A4, cap4, rfl, hb4⟩
  have hB4 := below_step hB3 hb4
  clear hb4 hB3 hs3
  go_wp2_with fail
  go_ret
  exact ⟨rfl, hB4⟩
end Go.Proofs.Ytafcigfncibohaa
