/-
  What the reference's calls Rot, Value, FromLeast, Put and Bytes answer: the same as the program's, for whatever is given.
-/
import Derived.Test.YtdokbhcoekffpaaDoorWordWords
import Derived.Test.YtdokbhcoekffpaaDoorWordNums
namespace Go.Proofs.YtdokbhcoekffpaaDoor
open Go.RowKit

theorem wordsL_length (l : List UInt8) : 4 * (wordsL l).length ≤ l.length := by
  have := congrArg List.length (bytesL_wordsL l)
  rw [bytesL_length, List.length_take] at this
  omega
theorem rot_one (x : UInt32) : (rotR x 1).toNat = x.toNat / 2 + x.toNat % 2 * 2147483648 := by
  have hx := u32_lt x
  have e : (rotR x 1).toNat = (x.toBitVec >>> 1 ||| x.toBitVec <<< 31).toNat := by
    show (x.toBitVec.rotateRight 1).toNat = _
    rw [BitVec.rotateRight_def]
  rw [e, BitVec.toNat_or, BitVec.toNat_shiftLeft, BitVec.toNat_ushiftRight, Nat.shiftLeft_eq, Nat.shiftRight_eq_div_pow]
  show x.toNat / 2 ^ 1 ||| x.toNat * 2 ^ 31 % 2 ^ 32 = _
  have e2 : x.toNat * 2 ^ 31 % 2 ^ 32 = 2 ^ 31 * (x.toNat % 2) := by omega
  rw [e2, Nat.or_comm, ← Nat.two_pow_add_eq_or_of_lt (by omega)]
  omega
theorem rot_next (x : UInt32) (k : Nat) : rotR x (k + 1) = rotR (rotR x k) 1 := (rotR_rotR x k 1).symm
theorem rot_even (x y : UInt32) (h : x.toNat % 2 = 0) (e : y = rotR x 1) : y.toNat = x.toNat / 2 := by
  rw [e, rot_one]
  omega
theorem rot_odd (x y : UInt32) (h : x.toNat % 2 = 1) (e : y = rotR x 1) : y.toNat = x.toNat / 2 + 2147483648 := by
  rw [e, rot_one]
  omega

def RotRel (x : UInt32) (n : Nat) (u i : Value) : Prop := ∃ k : Nat, k ≤ n ∧ i = .int .i64 k ∧ u = .int .u32 ((rotR x k).toNat : Int)

theorem refrot_core (x : UInt32) (m n : Int) (c : Nat) (w : World) (hm : m.tmod 32 = n) (h1 : -32 < n) (h2 : n < 32) (hc : if n < 0 then (c : Int) = n + 32 else (c : Int) = n) :
    Calls Tryd.prog 32 #[.int .u32 (x.toNat : Int), .int .i64 m] w fun e w' => e = .returned (.int .u32 ((rotR x c).toNat : Int)) ∧ w = w' := by
  by_cases hneg : n < 0
  all_goals
    first | rw [if_pos hneg] at hc | rw [if_neg hneg] at hc
    have hc32 : c < 32 := by omega
    go_enter Tryd.func32, Tryd.ntmps32
    have HC := Lib.hid hc
    clear hc
    go_wp2
    have hcc := HC.out
    rw [← hcc]
    clear hcc
    go_loop [0, 5] (fun u i => RotRel x c u i) (fun _ i => c - (intOf i).toNat)
    case atStart => exact ⟨0, Nat.zero_le _, rfl, by rw [rotR_zero]⟩
    case round =>
      obtain ⟨k, hk, rfl, rfl⟩ := hrel
      by_cases hlt : k < c
      · have HN := Lib.hid (rot_next x k)
        have hy := u32_lt (rotR x k)
        generalize rotR x k = y at HN hy
        by_cases hb : y.toNat % 2 = 1
        · have hb' : ((y.toNat : Int) % 2 == 1) = true := by simp; omega
          have HO := Lib.hid (rot_odd y _ hb HN.out)
          clear hb
          go_wp2
          go_round
          case rel => exact ⟨k + 1, by omega, by go_num, by rw [HO.out]; go_num⟩
          case measure => simp [intOf]; omega
        · have hb' : ((y.toNat : Int) % 2 == 1) = false := by simp; omega
          have HO := Lib.hid (rot_even y _ (by omega) HN.out)
          clear hb
          go_wp2
          go_round
          case rel => exact ⟨k + 1, by omega, by go_num, by rw [HO.out]; go_num⟩
          case measure => simp [intOf]; omega
      · have hkc : k = c := by omega
        subst hkc
        go_wp2
        go_ret
        exact ⟨rfl, rfl⟩

theorem refrot_any (x : UInt32) (m : Int) (w : World) :
    Calls Tryd.prog 32 #[.int .u32 (x.toNat : Int), .int .i64 m] w fun e w' => e = .returned (.int .u32 ((rotR x (m % 32).toNat).toNat : Int)) ∧ w = w' := by
  have k1 := Int.tmod_lt_of_pos m (show (0 : Int) < 32 by omega)
  have k3 := Int.tmod_lt_of_pos (-m) (show (0 : Int) < 32 by omega)
  rw [Int.neg_tmod] at k3
  have k5 : m % 32 = (m.tmod 32) % 32 := by
    have := Int.emod_add_mul_ediv m 32
    have := Int.tmod_add_mul_tdiv m 32
    omega
  refine refrot_core x m _ _ w rfl (by omega) k1 ?_
  split <;> omega

theorem value_step (a c : Nat) : IntKind.u64.wrap (IntKind.u64.wrap (256 * ((a : Int) % 18446744073709551616)) + (c : Int)) = (((a * 256 + c) % 18446744073709551616 : Nat) : Int) := by
  rw [IntKind.wrap_u64, IntKind.wrap_u64]
  omega
def ValueRel (l : List UInt8) (v i : Value) : Prop := ∃ k : Nat, k ≤ l.length ∧ i = .int .i64 k ∧ v = .int .u64 ((valN (l.take k) % 18446744073709551616 : Nat) : Int)



theorem refput_cells (v : Nat) (hv : v < 18446744073709551616) :
    #[Value.int IntKind.u8 ((v : Int) / 256 / 256 / 256 / 256 / 256 / 256 / 256 % 256), Value.int IntKind.u8 ((v : Int) / 256 / 256 / 256 / 256 / 256 / 256 % 256), Value.int IntKind.u8 ((v : Int) / 256 / 256 / 256 / 256 / 256 % 256), Value.int IntKind.u8 ((v : Int) / 256 / 256 / 256 / 256 % 256),
      Value.int IntKind.u8 ((v : Int) / 256 / 256 / 256 % 256), Value.int IntKind.u8 ((v : Int) / 256 / 256 % 256), Value.int IntKind.u8 ((v : Int) / 256 % 256), Value.int IntKind.u8 ((v : Int) % 256)] = ((putL v).map vB).toArray := by
  rw [← put_cells v hv]
  have e7 : (v : Int) / 256 / 256 / 256 / 256 / 256 / 256 / 256 % 256 = (v : Int) / 72057594037927936 := by omega
  have e6 : (v : Int) / 256 / 256 / 256 / 256 / 256 / 256 % 256 = (v : Int) / 281474976710656 % 256 := by omega
  have e5 : (v : Int) / 256 / 256 / 256 / 256 / 256 % 256 = (v : Int) / 1099511627776 % 256 := by omega
  have e4 : (v : Int) / 256 / 256 / 256 / 256 % 256 = (v : Int) / 4294967296 % 256 := by omega
  have e3 : (v : Int) / 256 / 256 / 256 % 256 = (v : Int) / 16777216 % 256 := by omega
  have e2 : (v : Int) / 256 / 256 % 256 = (v : Int) / 65536 % 256 := by omega
  rw [e7, e6, e5, e4, e3, e2]

theorem refput_any (v : Nat) (hv : v < 18446744073709551616) (w : World) :
    Calls Tryd.prog 37 #[.int .u64 (v : Int)] w (RetS vB w (putL v)) := by
  have hmk : ∀ w, (Instr.makeSlice 24 (.int .i64 8) (.int .i64 8)).run Tryd.prog w = .ok (.slice (some ⟨w.heap.size, 0, none⟩) 8 8) (w.alloc (.cells #[.int .u8 0, .int .u8 0, .int .u8 0, .int .u8 0, .int .u8 0, .int .u8 0, .int .u8 0, .int .u8 0] 5)) := fun _ => by kernel_rfl
  go_enter Tryd.func37, Tryd.ntmps37
  go_wp2
  refine wp_loop_rounds 9 ?_
  iterate 9 (rw [rounds_succ]; go_wp2)
  go_ret
  exact ⟨_, 8, rfl, Nat.le_refl _, Rd.new _ _ _ _ (refput_cells v hv), (Below.refl _ _).alloc (Nat.le_refl _) _⟩

theorem refbytes_any (L : List UInt32) (A : Option Addr) (cap : Nat) (w : World) (hr : Rd vW w A L) (hl : L.length ≤ 35184372087808) :
    Calls Tryd.prog 28 #[.slice A L.length cap] w (RetS vB w (bytesL L)) := by
  obtain ⟨i0, hi, hz0, hz1, hz2⟩ := info_parts info_u8
  go_enter Tryd.func28, Tryd.ntmps28
  go_wp2_with fail
  go_loopw [3, 4] (fun v i wr => BytesRel L w v i wr) (fun _ i _ => L.length - (intOf i).toNat)
  case atStart => exact ⟨0, Nat.zero_le _, rfl, World.ownsRow_nil _ _ _ _, Below.refl _ _⟩
  case round =>
    obtain ⟨k, hk, rfl, hown1, hbel1⟩ := hrel
    by_cases hlt : k < L.length
    · obtain ⟨blk, o, rfl, hb, hcell⟩ := hr.at hlt
      have hc0 := hcell k hlt
      have HT := Lib.hid (bytesL_take L k hlt)
      have hc : wr.cell? ⟨blk, o + k, none⟩ = some (.int .u32 (L[k].toNat : Int)) := by rw [hbel1.cell (p := ⟨blk, o + k, none⟩) hb]; exact hc0
      have hx := u32_lt L[k]
      have hn : (bytesL (L.take k)).length ≤ 4 * k := by rw [bytesL_length, List.length_take]; omega
      generalize L[k] = x at hc hx HT
      clear hcell hr hc0
      go_wp2_with (at_builtin; refine wpList_append_own _ rfl _ _ 24 rfl w.heap.size 5 i0 (.int .u8 0) 1 1 Tryd.underlying24 hi hz0 hz1 hz2 rfl (by decide) _ _ _ rfl (hown1.alloc _) ⟨wr.heap.size, 0, none⟩ 4 4 [Value.int .u8 ((x.toNat : Int) / 16777216), Value.int .u8 ((x.toNat : Int) / 65536 % 256), Value.int .u8 ((x.toNat : Int) / 256 % 256), Value.int .u8 ((x.toNat : Int) % 256)] rfl rfl (cells_new _ _ _) (by intro u hu; simp at hu; rcases hu with rfl | rfl | rfl | rfl <;> rfl) (by unfold maxLen; omega) (by omega) (by have := hbel1.size; simp; omega) ?_; intro v' w1 hown' hgrow' _)
      go_roundw
      case rel => exact bytes_round hlt hown1 hbel1 HT hgrow' hown'
      case measure => simp [intOf]; omega
    · have HE : Hid (L.take k = L) := by unfold Hid; exact List.take_of_length_le (by omega)
      go_wp2_with fail
      go_ret
      rw [HE.out] at hown1
      exact RetS.own hown1 hbel1

end Go.Proofs.YtdokbhcoekffpaaDoor
