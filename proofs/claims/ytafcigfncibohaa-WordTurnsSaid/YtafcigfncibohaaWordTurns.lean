/-
  The walk of the law WordTurns: it answers true for every word and any two counts, and writes nothing that was there.
-/
import Derived.Test.YtafcigfncibohaaWordAwake
namespace Go.Proofs.Ytafcigfncibohaa
open Go.RowKit

theorem rot_two (x : UInt32) (m n : Int) (w : World) : Calls Try.prog 7 #[.int .u32 ((rotR x (m % 32).toNat).toNat : Int), .int .i64 n] w fun e w' => e = .returned (.int .u32 ((rotR x ((m + n) % 32).toNat).toNat : Int)) ∧ w = w' :=
  (rot_any (rotR x (m % 32).toNat) n w).mono fun _ _ ⟨he, hw⟩ => ⟨by rw [he, rotR_rotR, rotR_same x (show ((m % 32).toNat + (n % 32).toNat) % 32 = ((m + n) % 32).toNat % 32 by omega)], hw⟩
theorem rot_0 (x : UInt32) (w : World) : Calls Try.prog 7 #[.int .u32 (x.toNat : Int), .int .i64 0] w fun e w' => e = .returned (.int .u32 (x.toNat : Int)) ∧ w = w' :=
  (rot_any x 0 w).mono fun _ _ ⟨he, hw⟩ => ⟨by rw [he]; exact ret_int (by rw [show ((0 : Int) % 32).toNat = 0 from rfl, rotR_zero]), hw⟩
theorem rot_32 (x : UInt32) (w : World) : Calls Try.prog 7 #[.int .u32 (x.toNat : Int), .int .i64 32] w fun e w' => e = .returned (.int .u32 (x.toNat : Int)) ∧ w = w' :=
  (rot_any x 32 w).mono fun _ _ ⟨he, hw⟩ => ⟨by rw [he]; exact ret_int (by rw [show ((32 : Int) % 32).toNat = 0 from rfl, rotR_zero]), hw⟩
theorem rot_back (x : UInt32) (n : Int) (w : World) : Calls Try.prog 7 #[.int .u32 ((rotR x (n % 32).toNat).toNat : Int), .int .i64 (-n)] w fun e w' => e = .returned (.int .u32 (x.toNat : Int)) ∧ w = w' :=
  (rot_any (rotR x (n % 32).toNat) (-n) w).mono fun _ _ ⟨he, hw⟩ => ⟨by rw [he, rotR_rotR, rotR_same x (show ((n % 32).toNat + (-n % 32).toNat) % 32 = 0 % 32 by omega), rotR_zero], hw⟩

theorem turns_core (x : UInt32) (m n M N : Int) (w : World) (hm : m.tmod 1000000 = M) (hn : n.tmod 1000000 = N) (m1 : -1000000 < M) (m2 : M < 1000000) (n1 : -1000000 < N) (n2 : N < 1000000)
    (_b1 : -9223372036854775808 ≤ m) (_b2 : m ≤ 9223372036854775807) (_b3 : -9223372036854775808 ≤ n) (_b4 : n ≤ 9223372036854775807) :
    Calls Try.prog 5 #[.int .u32 (x.toNat : Int), .int .i64 m, .int .i64 n] w fun e w' => e = .returned (.bool true) ∧ Below w.heap.size w w' := by
  go_enter Try.func5, Try.ntmps5
  go_wp2_with fail
  refine (awake_any _).mono ?_
  rintro e w1 ⟨rfl, hb1⟩
  go_wp2_with fail
  refine (rot_any _ _ _).mono ?_
  rintro e w' ⟨rfl, rfl⟩
  go_wp2_with fail
  refine (rot_two _ _ _ _).mono ?_
  rintro e w' ⟨rfl, rfl⟩
  go_wp2_with fail
  refine (rot_any _ _ _).mono ?_
  rintro e w' ⟨rfl, rfl⟩
  go_wp2_with fail
  refine (rot_0 _ _).mono ?_
  rintro e w' ⟨rfl, rfl⟩
  go_wp2_with fail
  refine (rot_32 _ _).mono ?_
  rintro e w' ⟨rfl, rfl⟩
  go_wp2_with fail
  refine (rot_any _ _ _).mono ?_
  rintro e w' ⟨rfl, rfl⟩
  go_wp2_with fail
  refine (rot_back _ _ _).mono ?_
  rintro e w' ⟨rfl, rfl⟩
  go_wp2_with fail
  go_ret
  exact ⟨rfl, hb1⟩

theorem turns_any (a m n : Int) (w : World) (ha : (Lit.int .u32 a).wf = true) (hm : (Lit.int .i64 m).wf = true) (hn : (Lit.int .i64 n).wf = true) :
    Calls Try.prog 5 #[.int .u32 a, .int .i64 m, .int .i64 n] w fun e w' => e = .returned (.bool true) ∧ Below w.heap.size w w' := by
  obtain ⟨x, rfl⟩ := u32_of_wf ha
  have h1 := i64_of_wf hm
  have h2 := i64_of_wf hn
  have k1 := Int.tmod_lt_of_pos m (show (0 : Int) < 1000000 by omega)
  have k2 := Int.tmod_lt_of_pos n (show (0 : Int) < 1000000 by omega)
  have k3 := Int.tmod_lt_of_pos (-m) (show (0 : Int) < 1000000 by omega)
  have k4 := Int.tmod_lt_of_pos (-n) (show (0 : Int) < 1000000 by omega)
  rw [Int.neg_tmod] at k3 k4
  exact turns_core x m n _ _ w rfl rfl (by omega) k1 (by omega) k2 h1.1 h1.2 h2.1 h2.2
end Go.Proofs.Ytafcigfncibohaa
