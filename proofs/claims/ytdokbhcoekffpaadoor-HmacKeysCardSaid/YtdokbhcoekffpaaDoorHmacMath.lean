/-
  HMAC as plain functions on bytes: a key's block, a block each byte of which is turned by one, the tag; a byte turned, as the walk spells it. No conditions but those typed.
-/
import Derived.Test.YtdokbhcoekffpaaDoorShaText
namespace Go.Proofs.YtdokbhcoekffpaaDoor
open Go.RowKit

/-- A byte turned by another one (behind a name of its own: 'simp' would take 'toNat' apart). -/
def xorB (x y : UInt8) : UInt8 := x ^^^ y
theorem u8_lt (x : UInt8) : x.toNat < 256 := x.toNat_lt
theorem u8_xor_b (x y : UInt8) : bits .xor .u8 (x.toNat : Int) (y.toNat : Int) = ((xorB x y).toNat : Int) := by
  rw [u8_xor_nat _ _ (u8_lt x) (u8_lt y)]
  simp [xorB]
def turnL (x : UInt8) (b : List UInt8) : List UInt8 := b.map fun c => xorB c x
theorem turnL_length (x : UInt8) (b : List UInt8) : (turnL x b).length = b.length := by simp [turnL]
theorem turnL_getElem (x : UInt8) (b : List UInt8) (i : Nat) (h : i < b.length) : (turnL x b)[i]'(by rw [turnL_length]; exact h) = xorB b[i] x := by simp [turnL]
theorem turnL_take (x : UInt8) (b : List UInt8) (k : Nat) (h : k < b.length) : turnL x (b.take (k + 1)) = turnL x (b.take k) ++ [xorB b[k] x] := by
  rw [List.take_succ_eq_append_getElem h, turnL, turnL, List.map_append]
  rfl

def fillK (k : List UInt8) : List UInt8 := k ++ List.replicate (64 - k.length) 0
def hblk (key : List UInt8) : List UInt8 := if 64 < key.length then fillK (sumL key) else fillK key
def macL (key msg : List UInt8) : List UInt8 := sumL (turnL 92 (hblk key) ++ sumL (turnL 54 (hblk key) ++ msg))
theorem fillK_length (k : List UInt8) (h : k.length ≤ 64) : (fillK k).length = 64 := by simp [fillK]; omega
theorem hblk_length (key : List UInt8) : (hblk key).length = 64 := by
  unfold hblk
  split
  · exact fillK_length _ (by rw [sumL_length]; omega)
  · exact fillK_length _ (by omega)
theorem hblk_short (key : List UInt8) (h : key.length ≤ 64) : hblk key = fillK key := by rw [hblk, if_neg (by omega)]
theorem hblk_long (key : List UInt8) (h : 64 < key.length) : hblk key = fillK (sumL key) := by rw [hblk, if_pos h]
theorem hblk_whole (key : List UInt8) (h : key.length = 64) : hblk key = key := by rw [hblk_short key (by omega), fillK, h]; simp
theorem hblk_hblk (key : List UInt8) : hblk (hblk key) = hblk key := hblk_whole _ (hblk_length key)
theorem hblk_sum (key : List UInt8) (h : 64 < key.length) : hblk (sumL key) = hblk key := by
  rw [hblk_long key h, hblk_short _ (by rw [sumL_length]; omega)]
theorem hblk_zero (key : List UInt8) (h : key.length < 64) : hblk (key ++ [0]) = hblk key := by
  rw [hblk_short key (by omega), hblk_short _ (by simp; omega), fillK, fillK, List.length_append, List.append_assoc]
  congr 1
  rw [show 64 - key.length = (64 - (key.length + 1)) + 1 by omega, List.replicate_succ]
  rfl
theorem macL_hblk (key msg : List UInt8) : macL (hblk key) msg = macL key msg := by rw [macL, hblk_hblk]; rfl
theorem macL_sum (key msg : List UInt8) (h : 64 < key.length) : macL (sumL key) msg = macL key msg := by rw [macL, hblk_sum key h]; rfl
theorem macL_zero (key msg : List UInt8) (h : key.length < 64) : macL (key ++ [0]) msg = macL key msg := by rw [macL, hblk_zero key h]; rfl
theorem macL_length (key msg : List UInt8) : (macL key msg).length = 32 := sumL_length _
end Go.Proofs.YtdokbhcoekffpaaDoor
