/-
  What the small calls of the program's layer 2 answer: words turned, mixed, chosen; the state at first. No conditions but those typed.
-/
import Derived.Test.YtdokbhcoekffpaaDoorShaLaw
namespace Go.Proofs.YtdokbhcoekffpaaDoor
open Go.RowKit
set_option linter.unusedSimpArgs false

theorem ch_xor (e f g : UInt32) : xorW (andW e f) (andW (notW e) g) = chW e f g := by
  unfold chW xorW andW notW orW
  apply UInt32.toBitVec_inj.1
  apply BitVec.eq_of_getLsbD_eq
  intro i hi
  simp only [UInt32.toBitVec_xor, UInt32.toBitVec_and, UInt32.toBitVec_not, UInt32.toBitVec_or, BitVec.getLsbD_xor, BitVec.getLsbD_and, BitVec.getLsbD_or, BitVec.getLsbD_not, hi, decide_true, Bool.true_and]
  cases e.toBitVec.getLsbD i <;> simp
theorem maj_xor (a b c : UInt32) : xorW (xorW (andW a b) (andW a c)) (andW b c) = majW a b c := by
  unfold majW xorW andW orW
  apply UInt32.toBitVec_inj.1
  apply BitVec.eq_of_getLsbD_eq
  intro i hi
  simp only [UInt32.toBitVec_xor, UInt32.toBitVec_and, UInt32.toBitVec_or, BitVec.getLsbD_xor, BitVec.getLsbD_and, BitVec.getLsbD_or]
  cases a.toBitVec.getLsbD i <;> cases b.toBitVec.getLsbD i <;> simp

theorem not_xor (x : UInt32) : xorW 4294967295 x = notW x := by
  unfold xorW notW
  apply UInt32.toBitVec_inj.1
  apply BitVec.eq_of_getLsbD_eq
  intro i hi
  have h1 : (4294967295 : UInt32).toBitVec = BitVec.allOnes 32 := rfl
  simp only [UInt32.toBitVec_xor, UInt32.toBitVec_not, h1, BitVec.getLsbD_xor, BitVec.getLsbD_not, BitVec.getLsbD_allOnes, hi, decide_true, Bool.true_and, Bool.true_xor]
theorem u32_not_x (x : UInt32) : bits .xor .u32 IntKind.u32.max (x.toNat : Int) = ((notW x).toNat : Int) := by
  have := u32_xor_w 4294967295 x
  rw [not_xor] at this
  exact this

theorem rot_c (x : UInt32) (c : Nat) (hc : c < 32) (w : World) :
    Calls Tryd.prog 47 #[.int .u32 (x.toNat : Int), .int .i64 (c : Int)] w fun e w' => e = .returned (.int .u32 ((rotR x c).toNat : Int)) ∧ w = w' :=
  (rot_any x c w).mono fun _ _ ⟨he, hw⟩ => ⟨by rw [he, show ((c : Int) % 32).toNat = c by omega], hw⟩

section
attribute [local go_sem] u32_xor_w u32_and_w u32_or_w u32_add_w u32_add_m u32_not_w u32_not_ww u32_not_x u32_mod_w u32_wrap_w

theorem turned_any (x : UInt32) (i j k : Nat) (hi : i < 32) (hj : j < 32) (hk : k < 32) (w : World) :
    Calls Tryd.prog 41 #[.int .u32 (x.toNat : Int), .int .i64 (i : Int), .int .i64 (j : Int), .int .i64 (k : Int)] w fun e w' => e = .returned (.int .u32 ((xorW (xorW (rotR x i) (rotR x j)) (rotR x k)).toNat : Int)) ∧ w = w' := by
  go_enter Tryd.func41, Tryd.ntmps41
  go_wp2_with fail
  refine (rot_c x i hi _).mono ?_
  rintro e w' ⟨rfl, rfl⟩
  go_wp2_with fail
  refine (rot_c x j hj _).mono ?_
  rintro e w' ⟨rfl, rfl⟩
  go_wp2_with fail
  refine (rot_c x k hk _).mono ?_
  rintro e w' ⟨rfl, rfl⟩
  go_wp2_with fail
  go_ret
  exact ⟨rfl, rfl⟩

theorem mixed_any (x : UInt32) (i j k : Nat) (hi : i < 32) (hj : j < 32) (hk : k < 32) (w : World) :
    Calls Tryd.prog 46 #[.int .u32 (x.toNat : Int), .int .i64 (i : Int), .int .i64 (j : Int), .int .u64 (k : Int)] w fun e w' => e = .returned (.int .u32 ((xorW (xorW (rotR x i) (rotR x j)) (dn x k)).toNat : Int)) ∧ w = w' := by
  have hd : (x.toNat : Int) / 2 ^ k = ((dn x k).toNat : Int) := by rw [dn_toNat, Int.natCast_ediv, Int.natCast_pow]; rfl
  go_enter Tryd.func46, Tryd.ntmps46
  go_wp2_with fail
  refine (rot_c x i hi _).mono ?_
  rintro e w' ⟨rfl, rfl⟩
  go_wp2_with fail
  refine (rot_c x j hj _).mono ?_
  rintro e w' ⟨rfl, rfl⟩
  go_wp2_with fail
  go_ret
  exact ⟨rfl, rfl⟩

theorem choice_any (x y z : UInt32) (w : World) :
    Calls Tryd.prog 42 #[.int .u32 (x.toNat : Int), .int .u32 (y.toNat : Int), .int .u32 (z.toNat : Int)] w fun e w' => e = .returned (.int .u32 ((chW x y z).toNat : Int)) ∧ w = w' := by
  have H := Lib.hid (ch_xor x y z)
  go_enter Tryd.func42, Tryd.ntmps42
  go_wp2_with fail
  go_ret
  rw [← H.out]
  exact ⟨rfl, rfl⟩

theorem majority_any (x y z : UInt32) (w : World) :
    Calls Tryd.prog 43 #[.int .u32 (x.toNat : Int), .int .u32 (y.toNat : Int), .int .u32 (z.toNat : Int)] w fun e w' => e = .returned (.int .u32 ((majW x y z).toNat : Int)) ∧ w = w' := by
  have H := Lib.hid (maj_xor x y z)
  go_enter Tryd.func43, Tryd.ntmps43
  go_wp2_with fail
  go_ret
  rw [← H.out]
  exact ⟨rfl, rfl⟩
end
end Go.Proofs.YtdokbhcoekffpaaDoor
