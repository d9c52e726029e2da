/-
  What the reference's calls Rot, Value, FromLeast, Put and Bytes answer: the same as the program's, for whatever is given.
-/
import Derived.Test.YtobeaoooaagdkaaWordWords
import Derived.Test.YtobeaoooaagdkaaWordNums
namespace Go.Proofs.Ytobeaoooaagdkaa
set_option maxRecDepth 100000
open Go.RowKit

theorem wordsL_length (l : List UInt8) : 4 * (wordsL l).length ≤ l.length := by
  have := congrArg List.length (bytesL_wordsL l)
  rw [bytesL_length, List.length_take] at this
  omega
theorem rot_one (x : UInt32) : (rotR x 1).toNat = x.toNat / 2 + x.toNat % 2 * 2147483648 := by
  have hx := u32_lt x
  have e : (rotR x 1).toNat = (x.toBitVec >>> 1 ||| x.toBitVec <<< 31).toNat := by
    show (x.toBitVec.rotateRight 1).toNat = _
    rw [BitVec.rotateRight_def]
  rw [e, BitVec.toNat_or, BitVec.toNat_shiftLeft, BitVec.toNat_ushiftRight, Nat.shiftLeft_eq, Nat.shiftRight_eq_div_pow]
  show x.toNat / 2 ^ 1 ||| x.toNat * 2 ^ 31 % 2 ^ 32 = _
  have e2 : x.toNat * 2 ^ 31 % 2 ^ 32 = 2 ^ 31 * (x.toNat % 2) := by omega
  rw [e2, Nat.or_comm, ← Nat.two_pow_add_eq_or_of_lt (by omega)]
  omega
theorem rot_next (x : UInt32) (k : Nat) : rotR x (k + 1) = rotR (rotR x k) 1 := (rotR_rotR x k 1).symm
theorem rot_even (x y : UInt32) (h : x.toNat % 2 = 0) (e : y = rotR x 1) : y.toNat = x.toNat / 2 := by
  rw [e, rot_one]
  omega
theorem rot_odd (x y : UInt32) (h : x.toNat % 2 = 1) (e : y = rotR x 1) : y.toNat = x.toNat / 2 + 2147483648 := by
  rw [e, rot_one]
  omega

def RotRel (x : UInt32) (n : Nat) (u i : Value) : Prop := ∃ k : Nat, k ≤ n ∧ i = .int .i64 k ∧ u = .int .u32 ((rotR x k).toNat : Int)



theorem value_step (a c : Nat) : IntKind.u64.wrap (IntKind.u64.wrap (256 * ((a : Int) % 18446744073709551616)) + (c : Int)) = (((a * 256 + c) % 18446744073709551616 : Nat) : Int) := by
  rw [IntKind.wrap_u64, IntKind.wrap_u64]
  omega
def ValueRel (l : List UInt8) (v i : Value) : Prop := ∃ k : Nat, k ≤ l.length ∧ i = .int .i64 k ∧ v = .int .u64 ((valN (l.take k) % 18446744073709551616 : Nat) : Int)

theorem value_any (l : List UInt8) (A : Option Addr) (cap : Nat) (w : World) (hr : Rd vB w A l) (hl : l.length ≤ 9223372036854775807) :
    Calls Try.prog 21 #[.slice A l.length cap] w fun e w' => e = .returned (.int .u64 ((valN l % 18446744073709551616 : Nat) : Int)) ∧ w = w' := by
  go_enter Try.func21, Try.ntmps21
  go_wp2
  go_loop [3, 4] (fun v i => ValueRel l v i) (fun _ i => l.length - (intOf i).toNat)
  case atStart => exact ⟨0, Nat.zero_le _, rfl, rfl⟩
  case round =>
    obtain ⟨k, hk, rfl, rfl⟩ := hrel
    by_cases hlt : k < l.length
    · obtain ⟨b, o, rfl, hb, hcell⟩ := hr.at hlt
      have hc : w.cell? ⟨b, o + k, none⟩ = some (.int .u8 (l[k].toNat : Int)) := hcell k hlt
      have hb8 : l[k].toNat < 256 := l[k].toNat_lt
      have HT : Hid _ := valN_take l k hlt
      generalize l[k] = c at hc hb8 HT
      clear hcell hr
      go_wp2
      go_round
      case rel =>
        refine ⟨k + 1, by omega, by go_num, ?_⟩
        rw [HT.out, value_step]
      case measure => simp [intOf]; omega
    · have hk' : k = l.length := by omega
      have HK : Hid (l.take k = l) := by rw [hk']; exact List.take_length
      clear hk'
      go_wp2
      go_ret
      exact ⟨ret_int (by rw [HK.out]), rfl⟩


theorem refput_cells (v : Nat) (hv : v < 18446744073709551616) :
    #[Value.int IntKind.u8 ((v : Int) / 256 / 256 / 256 / 256 / 256 / 256 / 256 % 256), Value.int IntKind.u8 ((v : Int) / 256 / 256 / 256 / 256 / 256 / 256 % 256), Value.int IntKind.u8 ((v : Int) / 256 / 256 / 256 / 256 / 256 % 256), Value.int IntKind.u8 ((v : Int) / 256 / 256 / 256 / 256 % 256),
      Value.int IntKind.u8 ((v : Int) / 256 / 256 / 256 % 256), Value.int IntKind.u8 ((v : Int) / 256 / 256 % 256), Value.int IntKind.u8 ((v : Int) / 256 % 256), Value.int IntKind.u8 ((v : Int) % 256)] = ((putL v).map vB).toArray := by
  rw [← put_cells v hv]
  have e7 : (v : Int) / 256 / 256 / 256 / 256 / 256 / 256 / 256 % 256 = (v : Int) / 72057594037927936 := by omega
  have e6 : (v : Int) / 256 / 256 / 256 / 256 / 256 / 256 % 256 = (v : Int) / 281474976710656 % 256 := by omega
  have e5 : (v : Int) / 256 / 256 / 256 / 256 / 256 % 256 = (v : Int) / 1099511627776 % 256 := by omega
  have e4 : (v : Int) / 256 / 256 / 256 / 256 % 256 = (v : Int) / 4294967296 % 256 := by omega
  have e3 : (v : Int) / 256 / 256 / 256 % 256 = (v : Int) / 16777216 % 256 := by omega
  have e2 : (v : Int) / 256 / 256 % 256 = (v : Int) / 65536 % 256 := by omega
  rw [e7, e6, e5, e4, e3, e2]

theorem refput_any (v : Nat) (hv : v < 18446744073709551616) (w : World) :
    Calls Try.prog 23 #[.int .u64 (v : Int)] w (RetS vB w (putL v)) := by
  have hmk : ∀ w, (Instr.makeSlice 23 (.int .i64 8) (.int .i64 8)).run Try.prog w = .ok (.slice (some ⟨w.heap.size, 0, none⟩) 8 8) (w.alloc (.cells #[.int .u8 0, .int .u8 0, .int .u8 0, .int .u8 0, .int .u8 0, .int .u8 0, .int .u8 0, .int .u8 0] 5)) := fun _ => by kernel_rfl
  go_enter Try.func23, Try.ntmps23
  go_wp2
  refine wp_loop_rounds 9 ?_
  iterate 9 (rw [rounds_succ]; go_wp2)
  go_ret
  exact ⟨_, 8, rfl, Nat.le_refl _, Rd.new _ _ _ _ (refput_cells v hv), (Below.refl _ _).alloc (Nat.le_refl _) _⟩


end Go.Proofs.Ytobeaoooaagdkaa
