/-
  Plain facts on words of 32 bits, bytes and numbers (no program is named here): a word turned to the right, the eight bytes of a number, the number of bytes. No conditions but those typed.
-/
import Derived.Laws.BitsAllLaws
import Derived.Laws.BitsLemmas
import Derived.IntWalk
import Derived.RowKit
import Derived.Below
import Derived.Laws.OwnMore
import Derived.Deep.Draws
import Derived.Deep.AppendLies
import Derived.Laws.BytesArg
import Derived.Laws.Slices
import Derived.Laws.MakeOwn
import Derived.OwnWalk
import Derived.OrdersHeld
import Derived.Deep.RegionHeld3
import Derived.Deep.MidRow
import Derived.Laws.CopyOwn
import Derived.Lib.SliceRun
import Derived.Laws.ResultCell
import Derived.Test.YtkkfkibjamnpnaaRows
import Derived.WalkKit
import Derived.WalkSpells
import Derived.Lib.Hide
import Derived.LoopTactic
import Derived.LoopN
import Derived.Lib.AppendZeros
import Derived.Maps.AppendAt
namespace Go.Proofs.Ytkkfkibjamnpnaa
set_option maxRecDepth 100000
open Go.RowKit

/-! ### Words turned -/
def rotR (x : UInt32) (s : Nat) : UInt32 := ⟨x.toBitVec.rotateRight s⟩

theorem rot_bit (x : BitVec 32) (s i : Nat) (hi : i < 32) : (x.rotateRight s).getLsbD i = x.getLsbD ((i + s) % 32) := by
  rw [BitVec.getLsbD_rotateRight]
  have h32 : s % 32 < 32 := Nat.mod_lt _ (by omega)
  by_cases h : i < 32 - s % 32
  · have e : s % 32 + i = (i + s) % 32 := by omega
    simp [h, e]
  · have e : i - (32 - s % 32) = (i + s) % 32 := by omega
    simp [h, e, hi]

theorem rotR_rotR (x : UInt32) (s t : Nat) : rotR (rotR x s) t = rotR x (s + t) := by
  unfold rotR
  congr 1
  apply BitVec.eq_of_getLsbD_eq
  intro i hi
  rw [rot_bit _ _ _ hi, rot_bit _ _ _ (Nat.mod_lt _ (by omega)), rot_bit _ _ _ hi]
  congr 1
  omega

theorem rotR_mod (x : UInt32) (s : Nat) : rotR x (s % 32) = rotR x s := by
  unfold rotR
  rw [BitVec.rotateRight_mod_eq_rotateRight]

theorem rotR_same (x : UInt32) {s t : Nat} (h : s % 32 = t % 32) : rotR x s = rotR x t := by
  rw [← rotR_mod x s, ← rotR_mod x t, h]

theorem rotR_zero (x : UInt32) : rotR x 0 = x := by
  unfold rotR
  have : x.toBitVec.rotateRight 0 = x.toBitVec := by
    apply BitVec.eq_of_getLsbD_eq
    intro i hi
    rw [rot_bit _ _ _ hi]
    congr 1
    omega
  rw [this]

theorem rotR_32 (x : UInt32) : rotR x 32 = x := by
  rw [← rotR_mod]
  exact rotR_zero x

theorem u32_lt (x : UInt32) : x.toNat < 4294967296 := x.toNat_lt

/-- What the library's two shifts and 'or' give, is the word turned. -/
theorem shifts_rot (x : UInt32) (s : Nat) (hs : s < 32) :
    bits .or .u32 ((x.toNat : Int) * 2 ^ s % 4294967296) ((x.toNat : Int) / 2 ^ (32 - s)) = ((rotR x (32 - s)).toNat : Int) := by
  have hx := u32_lt x
  have e1 : (x.toNat : Int) * 2 ^ s % 4294967296 = ((x.toNat * 2 ^ s % 4294967296 : Nat) : Int) := by
    rw [Int.natCast_emod, Int.natCast_mul, Int.natCast_pow]
    rfl
  have e2 : (x.toNat : Int) / 2 ^ (32 - s) = ((x.toNat / 2 ^ (32 - s) : Nat) : Int) := by
    rw [Int.natCast_ediv, Int.natCast_pow]
    rfl
  have hd : x.toNat / 2 ^ (32 - s) < 4294967296 := Nat.lt_of_le_of_lt (Nat.div_le_self _ _) hx
  rw [e1, e2, u32_or_nat _ _ (Nat.mod_lt _ (by omega)) hd]
  congr 1
  have hb : (rotR x (32 - s)).toNat = (x.toBitVec <<< s ||| x.toBitVec >>> (32 - s)).toNat := by
    show (x.toBitVec.rotateRight (32 - s)).toNat = _
    congr 1
    apply BitVec.eq_of_getLsbD_eq
    intro i hi
    rw [rot_bit _ _ _ hi, BitVec.getLsbD_or, BitVec.getLsbD_shiftLeft, BitVec.getLsbD_ushiftRight]
    by_cases h : i < s
    · have e : (i + (32 - s)) % 32 = 32 - s + i := by omega
      simp [hi, h, e]
    · have e : (i + (32 - s)) % 32 = i - s := by omega
      have e' : x.toBitVec.getLsbD (32 - s + i) = false := BitVec.getLsbD_of_ge _ _ (by omega)
      simp [hi, h, e, e']
  rw [hb, BitVec.toNat_or, BitVec.toNat_shiftLeft, BitVec.toNat_ushiftRight, Nat.shiftLeft_eq, Nat.shiftRight_eq_div_pow]
  rfl

/-- The count by which the library turns to the left. -/
theorem and31 (n : Int) : bits .and .u64 (IntKind.u64.wrap (wrap64 (-n))) 31 = (((-n) % 32).toNat : Int) := by
  have hw : IntKind.u64.wrap (wrap64 (-n)) = (((-n) % 18446744073709551616).toNat : Int) := by
    rw [IntKind.wrap_u64]
    unfold wrap64
    omega
  rw [hw, show (31 : Int) = ((31 : Nat) : Int) from rfl, u64_and_nat _ _ (by omega) (by omega)]
  have := Nat.and_two_pow_sub_one_eq_mod ((-n) % 18446744073709551616).toNat 5
  simp only [Nat.reducePow, Nat.reduceSub] at this
  rw [this]
  omega

/-! ### Numbers and their bytes -/
/-- The number of bytes, the highest first. -/
def valN (l : List UInt8) : Nat := l.foldl (fun v c => v * 256 + c.toNat) 0

theorem valN_snoc (l : List UInt8) (c : UInt8) : valN (l ++ [c]) = valN l * 256 + c.toNat := by
  unfold valN
  rw [List.foldl_append]
  rfl
theorem valN_take (l : List UInt8) (k : Nat) (h : k < l.length) : valN (l.take (k + 1)) = valN (l.take k) * 256 + l[k].toNat := by
  rw [List.take_succ_eq_append_getElem h, valN_snoc]

/-- One byte more, as the program's shift and 'or' have it. -/
theorem join_step (a c : Nat) (hc : c < 256) :
    bits .or .u64 (IntKind.u64.wrap ((a : Int) % 18446744073709551616 * 256)) (c : Int) = (((a * 256 + c) % 18446744073709551616 : Nat) : Int) := by
  have e : IntKind.u64.wrap ((a : Int) % 18446744073709551616 * 256) = ((2 ^ 8 * (a % 72057594037927936) : Nat) : Int) := by
    rw [IntKind.wrap_u64]
    omega
  rw [e, u64_or_nat _ _ (by omega) (by omega), ← Nat.two_pow_add_eq_or_of_lt (by omega)]
  congr 1
  omega

theorem valN_lt (l : List UInt8) : valN l < 256 ^ l.length := by
  suffices h : ∀ (l : List UInt8) (v : Nat), l.foldl (fun v c => v * 256 + c.toNat) v < (v + 1) * 256 ^ l.length by
    have := h l 0
    unfold valN
    omega
  intro l
  induction l with
  | nil => intro v; simp
  | cons c l ih =>
    intro v
    have h := ih (v * 256 + c.toNat)
    have hc : c.toNat < 256 := c.toNat_lt
    refine Nat.lt_of_lt_of_le h ?_
    rw [List.length_cons, Nat.pow_succ, Nat.mul_comm (256 ^ l.length) 256, ← Nat.mul_assoc]
    exact Nat.mul_le_mul_right _ (by omega)
theorem valN_lt8 (l : List UInt8) (h : l.length ≤ 8) : valN l < 18446744073709551616 :=
  Nat.lt_of_lt_of_le (valN_lt l) (Nat.pow_le_pow_right (by omega) h)

/-- word.Get's and word.FromLeast's answers: the number, and the code. -/
def getR (l : List UInt8) : Nat × Int := if l.length = 8 then (valN l, 0) else (0, 1)
def fromR (l : List UInt8) : Nat × Int := if 8 < l.length then (0, 4) else if l.head? = some 0 then (0, 3) else (valN l, 0)

/-- The eight bytes of a number, the highest first; its least bytes. -/
def putL (v : Nat) : List UInt8 := (List.range 8).map fun i => UInt8.ofNat (v / 256 ^ (7 - i))
def leastL (v : Nat) : List UInt8 := (putL v).dropWhile (· == 0)

/-- The words whose bytes these are; what is left over doesn't count. The bytes of words. -/
def wordsL : List UInt8 → List UInt32
  | a :: b :: c :: d :: r => UInt32.ofNat (valN [a, b, c, d]) :: wordsL r
  | _ => []
def bytesW (x : UInt32) : List UInt8 := [UInt8.ofNat (x.toNat / 16777216), UInt8.ofNat (x.toNat / 65536), UInt8.ofNat (x.toNat / 256), UInt8.ofNat x.toNat]
def bytesL (l : List UInt32) : List UInt8 := l.flatMap bytesW

theorem wordsL_short (l : List UInt8) (h : l.length < 4) : wordsL l = [] := by
  match l, h with
  | [], _ => rfl
  | [_], _ => rfl
  | [_, _], _ => rfl
  | [_, _, _], _ => rfl
  | _ :: _ :: _ :: _ :: _, h => simp at h; omega

theorem ret_int2 {k k' : IntKind} {a b a' b' : Int} (h : a = b) (h' : a' = b') : Ending.returned (.tuple #[.int k a, .int k' a']) = .returned (.tuple #[.int k b, .int k' b']) := by rw [h, h']
theorem ret_int {k : IntKind} {a b : Int} (h : a = b) : Ending.returned (.int k a) = .returned (.int k b) := by rw [h]


/-- A byte turned by another one (behind a name of its own: 'simp' would take 'toNat' apart). -/
def xorB (x y : UInt8) : UInt8 := x ^^^ y
theorem u8_lt (x : UInt8) : x.toNat < 256 := x.toNat_lt
theorem u8_xor_b (x y : UInt8) : bits .xor .u8 (x.toNat : Int) (y.toNat : Int) = ((xorB x y).toNat : Int) := by
  rw [u8_xor_nat _ _ (u8_lt x) (u8_lt y)]
  simp [xorB]
theorem xorB_ne (x y : UInt8) (h : y ≠ 0) : xorB x y ≠ x := by
  intro e
  apply h
  have := congrArg (fun z => x ^^^ z) e
  simp only [xorB, ← UInt8.xor_assoc, UInt8.xor_self, UInt8.zero_xor] at this
  exact this
end Go.Proofs.Ytkkfkibjamnpnaa
/-
  Layer 17 as plain functions: a disk, its steps; behind writes and syncs, and a crash, what an area has is a beginning of all that was written. No conditions but those typed.
-/
namespace Go.Proofs.Ytkkfkibjamnpnaa
set_option maxRecDepth 100000
set_option linter.unusedVariables false
set_option linter.unusedSimpArgs false

/-- An area: its bytes, how many of them are sure. -/
structure AK where
  b : List UInt8
  s : Int
/-- A disk. -/
structure DK where
  a0 : AK
  a1 : AK
  fuse : Int
  keep : Int
  down : Bool
def rightAK (a : AK) : Prop := 0 ≤ a.s ∧ a.s ≤ a.b.length ∧ a.b.length ≤ 1048576
instance (a : AK) : Decidable (rightAK a) := by unfold rightAK; infer_instance
def rightDK (d : DK) : Prop := rightAK d.a0 ∧ rightAK d.a1 ∧ -1 ≤ d.fuse ∧ 0 ≤ d.keep
instance (d : DK) : Decidable (rightDK d) := by unfold rightDK; infer_instance
/-- The power goes: an area is cut to Sure and keep together. -/
def cutN (a : AK) (keep : Int) : Nat := min a.b.length (a.s + keep).toNat
def cutAK (a : AK) (keep : Int) : AK := ⟨a.b.take (cutN a keep), cutN a keep⟩
def loseD (d : DK) (keep : Int) : DK := ⟨cutAK d.a0 keep, cutAK d.a1 keep, -1, d.keep, true⟩
def burn (f : Int) : Int := if 0 < f then f - 1 else f
def setA (d : DK) (k : Nat) (a : AK) : DK := if k = 0 then { d with a0 := a } else { d with a1 := a }
def getA (d : DK) (k : Nat) : AK := if k = 0 then d.a0 else d.a1
/-- A step: its error, if it isn't done at all; else what is done behind its fuse, or where the power goes. -/
def stepD (d : DK) (k : Int) (full : Nat → Bool) (goes done : Nat → AK → AK) : DK × Int :=
  if ¬ (rightDK d ∧ (k = 0 ∨ k = 1)) then (d, 1) else if d.down = true then (d, 14) else if full k.toNat = true then (d, 12)
  else if d.fuse = 0 then (loseD (setA d k.toNat (goes k.toNat (getA d k.toNat))) d.keep, 14)
  else ({ setA d k.toNat (done k.toNat (getA d k.toNat)) with fuse := burn d.fuse }, 0)
def writeD (d : DK) (k : Int) (b : List UInt8) : DK × Int := stepD d k (fun j => decide (1048576 < (getA d j).b.length + b.length)) (fun _ a => ⟨a.b ++ b.take d.keep.toNat, a.s⟩) (fun _ a => ⟨a.b ++ b, a.s⟩)
def syncD (d : DK) (k : Int) : DK × Int := stepD d k (fun _ => false) (fun _ a => a) (fun _ a => ⟨a.b, a.b.length⟩)
def wipeD (d : DK) (k : Int) : DK × Int := stepD d k (fun _ => false) (fun _ a => a) (fun _ _ => ⟨[], 0⟩)
def crashD (d : DK) (keep : Int) : DK × Int := if ¬ (rightDK d ∧ 0 ≤ keep) then (d, 1) else if d.down = true then (d, 14) else (loseD d keep, 0)
def riseD (d : DK) : DK × Int := if ¬ (rightDK d ∧ d.down = true) then (d, 1) else ({ d with down := false }, 0)
def newD : DK := ⟨⟨[], 0⟩, ⟨[], 0⟩, -1, 0, false⟩
theorem cutN_le (a : AK) (keep : Int) : cutN a keep ≤ a.b.length := Nat.min_le_left _ _
theorem cutAK_right {a : AK} {keep : Int} (h : a.b.length ≤ 1048576) : rightAK (cutAK a keep) := by
  unfold cutAK rightAK
  have := cutN_le a keep
  refine ⟨by show (0 : Int) ≤ (cutN a keep : Int); omega, ?_, ?_⟩
  · show (cutN a keep : Int) ≤ ((a.b.take (cutN a keep)).length : Int)
    rw [List.length_take]
    omega
  · show (a.b.take (cutN a keep)).length ≤ 1048576
    rw [List.length_take]
    omega

/-! ### what lasts -/
/-- Behind some steps, the power not gone: all that was written to area 0 is there, so many sure; area 1 is as it was. -/
structure LiveD (d : DK) (all : List UInt8) (sure : Int) (o : AK) : Prop where
  up : d.down = false
  b : d.a0.b = all
  s : d.a0.s = sure
  s0 : 0 ≤ sure
  s1 : sure ≤ all.length
  o : d.a1 = o
  f : -1 ≤ d.fuse
  k : 0 ≤ d.keep
/-- The power gone: a beginning of all that was written, all of what was sure. -/
structure DeadD (d : DK) (all : List UInt8) (sure : Int) (o : AK) : Prop where
  dn : d.down = true
  n : ∃ n : Nat, sure ≤ n ∧ n ≤ all.length ∧ d.a0.b = all.take n ∧ d.a0.s = n
  o : d.a1 = o
  f : d.fuse = -1
  k : 0 ≤ d.keep
theorem LiveD.right {d : DK} {all : List UInt8} {sure : Int} {o : AK} (h : LiveD d all sure o) (hl : all.length ≤ 1048576) (ho : rightAK o) : rightDK d := by
  refine ⟨⟨?_, ?_, ?_⟩, by rw [h.o]; exact ho, h.f, h.k⟩
  · rw [h.s]; exact h.s0
  · rw [h.s, h.b]; exact h.s1
  · rw [h.b]; exact hl
theorem cut_sure {o : AK} (ho : rightAK o) (hs : o.s = o.b.length) {keep : Int} (hk : 0 ≤ keep) : cutAK o keep = o := by
  unfold cutAK cutN
  have : min o.b.length (o.s + keep).toNat = o.b.length := by omega
  rw [this, List.take_length, ← hs]
theorem lose_dead {d e : DK} {all : List UInt8} {sure : Int} {o : AK} (h : LiveD d all sure o) (ho : rightAK o) (hs : o.s = o.b.length) {keep : Int} (hk : 0 ≤ keep) {j : Nat} (hj : sure ≤ j) (hjl : j ≤ all.length) (e0 : e.a0 = ⟨all.take j, sure⟩) (e1 : e.a1 = o) (ek : e.keep = d.keep) : DeadD (loseD e keep) all sure o := by
  have hl : (all.take j).length = j := by rw [List.length_take]; omega
  refine ⟨rfl, ⟨min j (sure + keep).toNat, ?_, ?_, ?_, ?_⟩, ?_, rfl, by show 0 ≤ e.keep; rw [ek]; exact h.k⟩
  · have := h.s0
    omega
  · omega
  · show (cutAK e.a0 keep).b = _
    rw [e0]
    unfold cutAK cutN
    show (all.take j).take (min (all.take j).length (sure + keep).toNat) = _
    rw [hl, List.take_take]
    congr 1
    omega
  · show (cutAK e.a0 keep).s = _
    rw [e0]
    unfold cutAK cutN
    show ((min (all.take j).length (sure + keep).toNat : Nat) : Int) = _
    rw [hl]
  · show cutAK e.a1 keep = o
    rw [e1]
    exact cut_sure ho hs hk
theorem burn_ge {f : Int} (h : -1 ≤ f) : -1 ≤ burn f := by
  unfold burn
  split <;> omega
theorem write_live {d : DK} {all b : List UInt8} {sure : Int} {o : AK} (h : LiveD d all sure o) (ho : rightAK o) (hs : o.s = o.b.length) (hl : all.length + b.length ≤ 1048576) :
    ((writeD d 0 b).2 = 0 ∧ LiveD (writeD d 0 b).1 (all ++ b) sure o) ∨ ((writeD d 0 b).2 = 14 ∧ DeadD (writeD d 0 b).1 (all ++ b) sure o) := by
  have hr := h.right (by omega) ho
  have hb := h.b
  have e0 : d.a0 = ⟨all, sure⟩ := by rw [← h.b, ← h.s]
  unfold writeD stepD
  rw [if_neg (fun hn => hn ⟨hr, .inl rfl⟩), h.up, if_neg Bool.false_ne_true, if_neg (by simp [getA, hb]; omega)]
  by_cases hf : d.fuse = 0
  · rw [if_pos hf]
    right
    refine ⟨rfl, ?_⟩
    have hL : LiveD { d with a0 := ⟨all ++ b, sure⟩ } (all ++ b) sure o := ⟨h.up, rfl, rfl, h.s0, by rw [List.length_append]; have := h.s1; omega, h.o, h.f, h.k⟩
    refine lose_dead (e := setA d 0 ⟨d.a0.b ++ b.take d.keep.toNat, d.a0.s⟩) hL ho hs h.k (j := min (all.length + b.length) (all.length + d.keep.toNat)) ?_ ?_ ?_ h.o rfl
    · have := h.s1; omega
    · rw [List.length_append]; omega
    · show (⟨d.a0.b ++ b.take d.keep.toNat, d.a0.s⟩ : AK) = _
      have e1 : all.take (min (all.length + b.length) (all.length + d.keep.toNat)) = all := List.take_of_length_le (by omega)
      have e2 : b.take (min (all.length + b.length) (all.length + d.keep.toNat) - all.length) = b.take d.keep.toNat := by
        rw [show min (all.length + b.length) (all.length + d.keep.toNat) - all.length = min d.keep.toNat b.length by omega, ← List.take_take, List.take_length]
      rw [h.b, h.s, List.take_append, e1, e2]
  · rw [if_neg hf]
    left
    refine ⟨rfl, ⟨h.up, ?_, h.s, h.s0, by rw [List.length_append]; have := h.s1; omega, h.o, burn_ge h.f, h.k⟩⟩
    show d.a0.b ++ b = _
    rw [h.b]
theorem sync_live {d : DK} {all : List UInt8} {sure : Int} {o : AK} (h : LiveD d all sure o) (ho : rightAK o) (hs : o.s = o.b.length) (hl : all.length ≤ 1048576) :
    ((syncD d 0).2 = 0 ∧ LiveD (syncD d 0).1 all all.length o) ∨ ((syncD d 0).2 = 14 ∧ DeadD (syncD d 0).1 all sure o) := by
  have hr := h.right hl ho
  unfold syncD stepD
  rw [if_neg (fun hn => hn ⟨hr, .inl rfl⟩), h.up, if_neg Bool.false_ne_true, if_neg Bool.false_ne_true]
  by_cases hf : d.fuse = 0
  · rw [if_pos hf]
    right
    refine ⟨rfl, lose_dead h ho hs h.k (j := all.length) h.s1 (Nat.le_refl _) ?_ h.o rfl⟩
    show d.a0 = _
    rw [List.take_length, ← h.b, ← h.s]
  · rw [if_neg hf]
    left
    refine ⟨rfl, ⟨h.up, h.b, ?_, by omega, by omega, h.o, burn_ge h.f, h.k⟩⟩
    show (d.a0.b.length : Int) = _
    rw [h.b]
theorem crash_live {d : DK} {all : List UInt8} {sure keep : Int} {o : AK} (h : LiveD d all sure o) (ho : rightAK o) (hs : o.s = o.b.length) (hl : all.length ≤ 1048576) (hk : 0 ≤ keep) : (crashD d keep).2 = 0 ∧ DeadD (crashD d keep).1 all sure o := by
  have hr := h.right hl ho
  unfold crashD
  rw [if_neg (fun hn => hn ⟨hr, hk⟩), h.up, if_neg Bool.false_ne_true]
  refine ⟨rfl, lose_dead h ho hs hk (j := all.length) h.s1 (Nat.le_refl _) ?_ h.o rfl⟩
  rw [List.take_length, ← h.b, ← h.s]
theorem rise_dead {d : DK} {all : List UInt8} {sure : Int} {o : AK} (h : DeadD d all sure o) (ho : rightAK o) (hs0 : 0 ≤ sure) (hl : all.length ≤ 1048576) : (riseD d).2 = 0 ∧ rightDK (riseD d).1 ∧ (riseD d).1.a1 = o ∧ ∃ n : Nat, sure ≤ n ∧ n ≤ all.length ∧ (riseD d).1.a0.b = all.take n ∧ (riseD d).1.a0.s = n := by
  obtain ⟨n, h1, h2, h3, h4⟩ := h.n
  have hr : rightDK d := ⟨⟨by rw [h4]; omega, by rw [h3, h4, List.length_take]; omega, by rw [h3, List.length_take]; omega⟩, by rw [h.o]; exact ho, by rw [h.f]; omega, h.k⟩
  unfold riseD
  rw [if_neg (fun hn => hn ⟨hr, h.dn⟩)]
  exact ⟨rfl, hr, h.o, n, h1, h2, h3, h4⟩
end Go.Proofs.Ytkkfkibjamnpnaa
/-
  Words for memory (no program is named here): a slice value that reads as a list, kept while nothing that was there is written; a slice cut; bytes made into a string. No conditions but those typed.
-/
namespace Go.Proofs.Ytkkfkibjamnpnaa
set_option maxRecDepth 100000
open Go.RowKit

def vB (c : UInt8) : Value := .int .u8 (c.toNat : Int)
def vW (c : UInt32) : Value := .int .u32 (c.toNat : Int)

/-- The slice value with address A reads, in world w, as the list l. -/
def Rd {α : Type} (f : α → Value) (w : World) (A : Option Addr) (l : List α) : Prop :=
  l ≠ [] → ∃ b o, A = some ⟨b, o, none⟩ ∧ ∀ i (h : i < l.length), w.cell? ⟨b, o + i, none⟩ = some (f l[i])

section
variable {α : Type} {f : α → Value} {w w' : World} {A : Option Addr} {l : List α}
theorem Rd.nil : Rd f w A [] := fun h => absurd rfl h
theorem Rd.keep (h : Rd f w A l) (hb : Below w.heap.size w w') : Rd f w' A l := fun hn => by
  obtain ⟨b, o, e, hc⟩ := h hn
  refine ⟨b, o, e, fun i hi => ?_⟩
  have := hc i hi
  rw [hb.cell (p := ⟨b, o + i, none⟩) (World.block_lt_of_cell? w _ this)]
  exact this
theorem Rd.at (h : Rd f w A l) {k : Nat} (hk : k < l.length) : ∃ b o, A = some ⟨b, o, none⟩ ∧ b < w.heap.size ∧ ∀ i (hi : i < l.length), w.cell? ⟨b, o + i, none⟩ = some (f l[i]) := by
  obtain ⟨b, o, e, hc⟩ := h (by rintro rfl; simp at hk)
  exact ⟨b, o, e, World.block_lt_of_cell? w _ (hc k hk), hc⟩
theorem Rd.new (w : World) (l : List α) (cs : Array Value) (e : TypeId) (h : cs = (l.map f).toArray) : Rd f (w.alloc (.cells cs e)) (some ⟨w.heap.size, 0, none⟩) l := fun _ => by
  refine ⟨w.heap.size, 0, rfl, fun i hi => ?_⟩
  subst h
  rw [cell_of_row _ w.heap.size (0 + i) _ e (0, 0) (heap_alloc_new w _)]
  simp [hi]
theorem Rd.new_at (w : World) (g : Nat) (hg : g = w.heap.size) (l : List α) (cs : Array Value) (e : TypeId) (h : cs = (l.map f).toArray) : Rd f (w.alloc (.cells cs e)) (some ⟨g, 0, none⟩) l := by
  subst hg
  exact Rd.new w l cs e h
theorem Rd.drop (h : Rd f w A l) (k : Nat) (cap : Nat) (hc : l.length ≤ cap) : Rd f w (if cap = k then A else A.map (·.add (k * 1))) (l.drop k) := fun hn => by
  have hk : k < l.length := by
    rcases Nat.lt_or_ge k l.length with h | h
    · exact h
    · exact absurd (List.drop_eq_nil_of_le h) hn
  obtain ⟨b, o, e, hcell⟩ := h (by rintro rfl; simp at hk)
  subst e
  rw [if_neg (by omega)]
  refine ⟨b, o + k, by simp [Addr.add], fun i hi => ?_⟩
  have hi' : k + i < l.length := by simp at hi; omega
  rw [Nat.add_assoc, hcell (k + i) hi']
  simp
theorem Rd.take (h : Rd f w A l) (k : Nat) : Rd f w A (l.take k) := fun hn => by
  obtain ⟨b, o, e, hcell⟩ := h (by rintro rfl; simp at hn)
  refine ⟨b, o, e, fun i hi => ?_⟩
  have hi' : i < l.length := by simp at hi; omega
  rw [hcell i hi']
  simp
theorem Rd.news {b o : Nat} (h : Rd f w (some ⟨b, o, none⟩) l) (j : Nat) (u : Value) (hu : (l.map f)[j]? = some u) : w.cell? ((⟨b, o, none⟩ : Addr).add j) = some u := by
  have hj : j < l.length := by
    rcases Nat.lt_or_ge j l.length with h | h
    · exact h
    · rw [List.getElem?_eq_none (by simpa using h)] at hu
      cases hu
  obtain ⟨b', o', e, hc⟩ := h (by rintro rfl; simp at hj)
  injection e with e
  injection e with e1 e2 _
  subst e1 e2
  have e1 : (⟨b, o, none⟩ : Addr).add j = ⟨b, o + j, none⟩ := by unfold Addr.add; split <;> simp_all
  rw [e1, hc j hj]
  simpa [hj] using hu
theorem Rd.own {base : Nat} {e : TypeId} {n c : Nat} (h : w.ownsRow base e 1 (.slice A n c) n (l.map f)) : Rd f w A l := fun hn => by
  have hl : l.length = n := by simpa using h.1
  have hpos : 0 < n := by
    rcases Nat.eq_zero_or_pos n with h0 | h0
    · exact absurd (List.eq_nil_of_length_eq_zero (by omega)) hn
    · exact h0
  obtain ⟨g, cap, hv, _, hlt⟩ := h.form hpos
  have hA : A = some ⟨g, 0, none⟩ := by injection hv
  subst hA
  refine ⟨g, 0, rfl, fun i hi => ?_⟩
  have := h.cells (g := g) rfl i (f l[i]) (by simp [hi])
  have e1 : (⟨g, 0, none⟩ : Addr).add i = ⟨g, 0 + i, none⟩ := by unfold Addr.add; split <;> simp_all
  rw [← e1]
  exact this
end

/-- 's[k:]': one name for the address that is left. -/
theorem cut_from {P : Program} (t e : TypeId) (ht : P.underlying t = some (.slice e)) (hz : ∀ w, (sizeOf e).run P w = .ok 1 w) (A : Option Addr) (n cap k : Nat) (hk : k ≤ n) (hc : n ≤ cap) :
    ∃ A', (∀ w, (Instr.slice t (.slice A n cap) (some (.int .i64 (k : Int))) none none).run P w = .ok (.slice A' (n - k) (cap - k)) w) ∧
      ∀ {α : Type} (f : α → Value) (w : World) (l : List α), l.length = n → Rd f w A l → Rd f w A' (l.drop k) := by
  have ht' : P.underlying t = some (.slice (P.elem t)) := by simp [Program.elem, ht]
  have he : P.elem t = e := by simp [Program.elem, ht]
  refine ⟨if cap = k then A else A.map (·.add (k * 1)), fun w => ?_, fun f w l hl h => h.drop k cap (by omega)⟩
  rw [run_slice_l w t A n cap ht' .i64 (k : Int) (by omega) (by omega), he, hz]
  simp [Result.andThen, sliced]

theorem run_cut_to {P : Program} (t e : TypeId) (ht : P.underlying t = some (.slice e)) (hz : ∀ w, (sizeOf e).run P w = .ok 1 w) (A : Option Addr) (n cap k : Nat) (hk : k ≤ cap) (w : World) :
    (Instr.slice t (.slice A n cap) none (some (.int .i64 (k : Int))) none).run P w = .ok (.slice A k cap) w := by
  have ht' : P.underlying t = some (.slice (P.elem t)) := by simp [Program.elem, ht]
  have he : P.elem t = e := by simp [Program.elem, ht]
  have e2 : (if cap = 0 then A else A.map (·.add 0)) = A := by
    split
    · rfl
    · cases A <;> simp [Addr.add]
  rw [run_slice_h w t A n cap ht' .i64 (k : Int) (by omega) (by omega), he, hz]
  simp only [Result.andThen, sliced, Nat.zero_mul, Nat.sub_zero, Int.toNat_natCast, e2]
/-- 's[:k]'. -/
theorem cut_to {P : Program} (t e : TypeId) (ht : P.underlying t = some (.slice e)) (hz : ∀ w, (sizeOf e).run P w = .ok 1 w) (A : Option Addr) (n cap k : Nat) (hk : k ≤ cap) :
    ∃ A', (∀ w, (Instr.slice t (.slice A n cap) none (some (.int .i64 (k : Int))) none).run P w = .ok (.slice A' k cap) w) ∧
      ∀ {α : Type} (f : α → Value) (w : World) (l : List α), Rd f w A l → Rd f w A' (l.take k) :=
  ⟨A, fun w => run_cut_to t e ht hz A n cap k hk w, fun _ _ _ h => h.take k⟩

/-- 'string(b)'. -/
theorem run_str {P : Program} (w : World) (src e dst : TypeId) (hs : P.underlying src = some (.slice e)) (he : P.underlying e = some (.int .u8)) (hd : P.underlying dst = some .string)
    (A : Option Addr) (l : List UInt8) (n cap : Nat) (hn : l.length = n) (h : Rd vB w A l) : (convert src dst (.slice A n cap)).run P w = .ok (.string ⟨l.toArray⟩) w := by
  by_cases hl : l = []
  · subst hl
    subst hn
    cases A with
    | none => rw [run_convert_bytes_nil w src e hs he _ _ dst hd]; rfl
    | some a =>
      rw [run_convert_bytes_string w src dst e _ _ cap hs he hd, run_bytesToString w a _ cap [] (by
        have := run_loadCells_list (P := P) w a [] (fun j v hj => by simp at hj)
        simpa using this)]
      rfl
  · obtain ⟨b, o, rfl, hc⟩ := h hl
    rw [run_convert_bytes_arg w src e hs he b o n cap (l.map fun c => (c.toNat : Int)) (by simpa using hn) (fun i hi => by
      have hi' : i < l.length := by omega
      rw [hc i hi']
      simp [vB, List.getD, hi']) dst hd]
    have : strOfNums (l.map fun c => (c.toNat : Int)) = ⟨l.toArray⟩ := by
      unfold strOfNums
      congr 2
      rw [List.map_map]
      conv => rhs; rw [← List.map_id l]
      apply List.map_congr_left
      intro x _
      simp
    rw [this]

/-- 'string(b)', in every later world. -/
theorem run_str_later {P : Program} {w : World} {src e dst : TypeId} (hs : P.underlying src = some (.slice e)) (he : P.underlying e = some (.int .u8)) (hd : P.underlying dst = some .string)
    {A : Option Addr} {l : List UInt8} {cap : Nat} (h : Rd vB w A l) : ∀ W, Below w.heap.size w W → (convert src dst (.slice A l.length cap)).run P W = .ok (.string ⟨l.toArray⟩) W :=
  fun W hb => run_str W src e dst hs he hd A l l.length cap rfl (h.keep hb)

theorem cells_new (w : World) (cs : Array Value) (e : TypeId) (j : Nat) (u : Value) (h : cs.toList[j]? = some u) : (w.alloc (.cells cs e)).cell? ((⟨w.heap.size, 0, none⟩ : Addr).add j) = some u := by
  have e1 : (⟨w.heap.size, 0, none⟩ : Addr).add j = ⟨w.heap.size, j, none⟩ := by unfold Addr.add; split <;> simp_all
  rw [e1, cell_of_row _ w.heap.size j _ e (0, 0) (heap_alloc_new w _)]
  simpa using h

/-! ### What comes in -/
theorem u32_of_wf {a : Int} (h : (Lit.int .u32 a).wf = true) : ∃ x : UInt32, a = (x.toNat : Int) := by
  simp [Lit.wf, IntKind.min, IntKind.max, IntKind.signed, IntKind.bits] at h
  exact ⟨UInt32.ofNat a.toNat, by rw [UInt32.toNat_ofNat']; omega⟩
theorem u64_of_wf {a : Int} (h : (Lit.int .u64 a).wf = true) : ∃ v : Nat, v < 18446744073709551616 ∧ a = (v : Int) := by
  simp [Lit.wf, IntKind.min, IntKind.max, IntKind.signed, IntKind.bits] at h
  exact ⟨a.toNat, by omega, by omega⟩
theorem i64_of_wf {a : Int} (h : (Lit.int .i64 a).wf = true) : -9223372036854775808 ≤ a ∧ a ≤ 9223372036854775807 := by
  simp [Lit.wf, IntKind.min, IntKind.max, IntKind.signed, IntKind.bits] at h
  omega
theorem rd_of_row {α : Type} {f : α → Value} {k : IntKind} {w : World} {a : Option Addr} {len cap : Nat} {zs : List Int} (g : Int → α) (hg : ∀ n, (Lit.int k n).wf = true → f (g n) = .int k n)
    (h : (a = none ∧ len = 0 ∧ cap = 0 ∧ zs = []) ∨ ∃ x, a = some x ∧ len ≤ cap ∧ cap ≤ maxLen ∧ zs.length = cap ∧ (∀ i, i < zs.length → w.cell? (x.add i) = some (.int k (zs.getD i 0))) ∧ ∀ n ∈ zs, (Lit.int k n).wf = true) :
    ∃ l : List α, l.length = len ∧ len ≤ cap ∧ cap ≤ 9223372036854775807 ∧ Rd f w a l := by
  rcases h with ⟨rfl, rfl, rfl, rfl⟩ | ⟨x, rfl, hlc, hm, hz, hc, hwf⟩
  · exact ⟨[], rfl, Nat.le_refl _, by omega, Rd.nil⟩
  · unfold maxLen at hm
    refine ⟨(zs.take len).map g, by rw [List.length_map, List.length_take]; omega, hlc, by omega, fun hn => ?_⟩
    have hlen : 0 < len := by
      rcases Nat.eq_zero_or_pos len with h | h
      · subst h; simp at hn
      · exact h
    obtain ⟨b, o, spot⟩ := x
    have h0 := hc 0 (by omega)
    have hspot : spot = none := by simpa [Addr.add] using World.cell?_spot h0
    subst hspot
    refine ⟨b, o, rfl, fun i hi => ?_⟩
    have hi' : i < zs.length := by simp at hi; omega
    have e1 : (⟨b, o, none⟩ : Addr).add i = ⟨b, o + i, none⟩ := by unfold Addr.add; split <;> simp_all
    rw [← e1, hc i hi']
    have e2 : zs.getD i 0 = zs[i] := by simp [List.getD, hi']
    rw [e2]
    simp only [List.getElem_map, List.getElem_take]
    rw [hg _ (hwf _ (List.getElem_mem hi'))]
theorem bytes_of_row {w : World} {a : Option Addr} {len cap : Nat} {zs : List Int}
    (h : (a = none ∧ len = 0 ∧ cap = 0 ∧ zs = []) ∨ ∃ x, a = some x ∧ len ≤ cap ∧ cap ≤ maxLen ∧ zs.length = cap ∧ (∀ i, i < zs.length → w.cell? (x.add i) = some (.int .u8 (zs.getD i 0))) ∧ ∀ n ∈ zs, (Lit.int .u8 n).wf = true) :
    ∃ l : List UInt8, l.length = len ∧ len ≤ cap ∧ cap ≤ 9223372036854775807 ∧ Rd vB w a l :=
  rd_of_row (fun n => UInt8.ofNat n.toNat) (fun n hn => by
    simp [Lit.wf, IntKind.min, IntKind.max, IntKind.signed, IntKind.bits] at hn
    unfold vB
    rw [UInt8.toNat_ofNat']
    congr 1
    omega) h
theorem words_of_row {w : World} {a : Option Addr} {len cap : Nat} {zs : List Int}
    (h : (a = none ∧ len = 0 ∧ cap = 0 ∧ zs = []) ∨ ∃ x, a = some x ∧ len ≤ cap ∧ cap ≤ maxLen ∧ zs.length = cap ∧ (∀ i, i < zs.length → w.cell? (x.add i) = some (.int .u32 (zs.getD i 0))) ∧ ∀ n ∈ zs, (Lit.int .u32 n).wf = true) :
    ∃ l : List UInt32, l.length = len ∧ len ≤ cap ∧ cap ≤ 9223372036854775807 ∧ Rd vW w a l :=
  rd_of_row (fun n => UInt32.ofNat n.toNat) (fun n hn => by
    simp [Lit.wf, IntKind.min, IntKind.max, IntKind.signed, IntKind.bits] at hn
    unfold vW
    rw [UInt32.toNat_ofNat']
    congr 1
    omega) h

theorem below_drewN {B : Nat} {a w : World} (h : Below B a w) (n : Nat) : Below B a (w.drewN n) := ⟨h.os, h.tape, h.output, h.size, h.block⟩
theorem below_from_drew {B : Nat} {a w : World} (h : Below B a w) : Below B a.drew w := ⟨h.os, h.tape, h.output, h.size, h.block⟩
/-- A call behind other ones; a new block behind them. -/
theorem below_step {a w w' : World} (h : Below a.heap.size a w) (k : Below w.heap.size w w') : Below a.heap.size a w' := h.trans (k.mono h.size)
theorem below_after {a w w' : World} (k : Below w.heap.size w w') (h : Below a.heap.size a w) : Below a.heap.size a w' := below_step h k
theorem below_new {a w : World} (h : Below a.heap.size a w) (o : Obj) : Below a.heap.size a (w.alloc o) := h.alloc h.size o

/-- What a call that hands back a new slice says of it. -/
def RetS {α : Type} (f : α → Value) (w : World) (l : List α) (e : Ending) (w' : World) : Prop :=
  ∃ A cap, e = .returned (.slice A l.length cap) ∧ l.length ≤ cap ∧ Rd f w' A l ∧ Below w.heap.size w w'

/-- .. and owns it: it may be appended to. -/
def RetO {α : Type} (t : TypeId) (f : α → Value) (w : World) (l : List α) (e : Ending) (w' : World) : Prop :=
  ∃ v, e = .returned v ∧ w'.ownsRow w.heap.size t 1 v l.length (l.map f) ∧ Below w.heap.size w w'
theorem RetS.own {α : Type} {f : α → Value} {w w' : World} {l : List α} {base : Nat} {e : TypeId} {v : Value} (h : w'.ownsRow base e 1 v l.length (l.map f)) (hb : Below w.heap.size w w') : RetS f w l (.returned v) w' := by
  rcases h.2 with ⟨rfl, h0⟩ | ⟨g, cap, cur, rfl, _, _, hc, _⟩
  · have hl : l = [] := List.eq_nil_of_length_eq_zero h0
    subst hl
    exact ⟨none, 0, rfl, Nat.le_refl _, Rd.nil, hb⟩
  · exact ⟨_, cap, rfl, hc, Rd.own h, hb⟩

theorem RetO.ret {α : Type} {t : TypeId} {f : α → Value} {w w' : World} {l : List α} {e : Ending} (h : RetO t f w l e w') : RetS f w l e w' := by
  obtain ⟨v, rfl, ho, hb⟩ := h
  exact RetS.own ho hb

end Go.Proofs.Ytkkfkibjamnpnaa
/-
  append of a slice that came in, or that a call handed back, onto a row of the call's own, nil and empty ones with it (no program is named here). No conditions but those typed.
-/
namespace Go.Proofs.Ytkkfkibjamnpnaa
set_option maxRecDepth 100000
open Go.RowKit

section
variable {P : Program} (w : World)
theorem run_append_nothing_of (base : Nat) (t ty e : TypeId) (i : TypeInfo) (ht : P.underlying t = some (.slice e)) (hi : P.info? e = some i)
    (v : Value) (n : Nat) (xs : List Value) (hown : w.ownsRow base e 1 v n xs) (c : Nat) : (Builtin.append_ #[t, t] ty #[v, .slice none 0 c]).run P w = .ok v w := by
  rcases hown.2 with ⟨rfl, rfl⟩ | ⟨g, cap, cur, rfl, _, _, hnc, _⟩
  · simp [Builtin.append_, run_underlying ht, sizeOf, typeInfo, hi, Builtin.lenOf, Builtin.firstCells]
  · simp [Builtin.append_, run_underlying ht, sizeOf, typeInfo, hi, Builtin.lenOf, Builtin.firstCells, hnc, storeCells]

theorem run_append_rd {α : Type} {f : α → Value} (base : Nat) (t ty e : TypeId) (i : TypeInfo) (z : Value) (bytes : Nat) (ht : P.underlying t = some (.slice e)) (hi : P.info? e = some i) (hz : i.zero = some z)
    (hsize : i.size = 1) (hby : i.bytes = bytes) (hzs : z.cells.size = 1) (v : Value) (n : Nat) (xs : List Value) (hown : w.ownsRow base e 1 v n xs)
    (A : Option Addr) (l : List α) (c : Nat) (hr : Rd f w A l) (h1 : ∀ x, (f x).oneCell' = true)
    (h63 : n + l.length ≤ maxLen) (hbytes : (n + l.length) * bytes ≤ 140737488355328) (hbase : base ≤ w.heap.size) :
    ∃ v' w', (Builtin.append_ #[t, t] ty #[v, .slice A l.length c]).run P w = .ok v' w' ∧ w'.ownsRow base e 1 v' (n + l.length) (xs ++ l.map f) ∧ w.grownBy w' v.ownBlock := by
  have hone : ∀ u ∈ l.map f, u.oneCell' = true := by
    intro u hu
    simp only [List.mem_map] at hu
    obtain ⟨x, _, rfl⟩ := hu
    exact h1 x
  by_cases hl : l = []
  · subst hl
    cases A with
    | none => exact ⟨v, w, run_append_nothing_of w base t ty e i ht hi v n xs hown c, by simpa using hown, ⟨rfl, rfl, rfl, Nat.le_refl _, fun _ _ _ => rfl⟩⟩
    | some ad =>
      obtain ⟨v', w', hrun, h2, h3, _⟩ := run_append_own (P := P) w base t ty e i z 1 bytes ht hi hz hsize hby hzs (by omega) v n xs hown ad 0 c [] rfl (fun j u h => by simp at h) (fun u h => by simp at h) h63 hbytes hbase
      exact ⟨v', w', hrun, h2, h3⟩
  · obtain ⟨b, o, rfl, _⟩ := hr hl
    obtain ⟨v', w', hrun, h2, h3, _⟩ := run_append_own (P := P) w base t ty e i z 1 bytes ht hi hz hsize hby hzs (by omega) v n xs hown ⟨b, o, none⟩ l.length c (l.map f) (by simp) hr.news hone h63 hbytes hbase
    exact ⟨v', w', hrun, h2, h3⟩

theorem wp_append_rd {α : Type} {f : α → Value} {o : Oper} {a : Act} {K : Act → World → Prop} {Q : Exit → Act → World → Prop} (s x : Operand) (t : TypeId)
    (ho : o.op = .call { callee := .builtin .append, args := #[s, x], argTypes := #[t, t] })
    (base : Nat) (e : TypeId) (i : TypeInfo) (z : Value) (bytes : Nat) (ht : P.underlying t = some (.slice e)) (hi : P.info? e = some i) (hz : i.zero = some z)
    (hsize : i.size = 1) (hby : i.bytes = bytes) (hzs : z.cells.size = 1) (v : Value) (n : Nat) (xs : List Value) (hs : a.eval s = v) (hown : w.ownsRow base e 1 v n xs)
    (A : Option Addr) (l : List α) (c : Nat) (hx : a.eval x = .slice A l.length c) (hr : Rd f w A l) (h1 : ∀ x, (f x).oneCell' = true)
    (h63 : n + l.length ≤ maxLen) (hbytes : (n + l.length) * bytes ≤ 140737488355328) (hbase : base ≤ w.heap.size)
    (h : ∀ v' w', w'.ownsRow base e 1 v' (n + l.length) (xs ++ l.map f) → w.grownBy w' v.ownBlock → K (a.put o.dst v') w') : o.wp P a w K Q := by
  obtain ⟨v', w', hr, h2, h3⟩ := run_append_rd (P := P) w base t o.type e i z bytes ht hi hz hsize hby hzs v n xs hown A l c hr h1 h63 hbytes hbase
  unfold Oper.wp execOp
  simp only [ho, resolve, invoke, builtin, Sem.run_bind, Sem.run_pure, Result.andThen_ok, List.map_toArray, List.map_cons, List.map_nil, hs, hx, hr]
  exact h v' w' h2 h3

theorem wpList_append_rd {α : Type} {f : α → Value} {ops : Array Oper} {rest : List Oper} {o : Oper} {a : Act} {Q : Exit → Act → World → Prop} (hgd : o.guard = none) (s x : Operand) (t : TypeId)
    (ho : o.op = .call { callee := .builtin .append, args := #[s, x], argTypes := #[t, t] })
    (base : Nat) (e : TypeId) (i : TypeInfo) (z : Value) (bytes : Nat) (ht : P.underlying t = some (.slice e)) (hi : P.info? e = some i) (hz : i.zero = some z)
    (hsize : i.size = 1) (hby : i.bytes = bytes) (hzs : z.cells.size = 1) (v : Value) (n : Nat) (xs : List Value) (hs : a.eval s = v) (hown : w.ownsRow base e 1 v n xs)
    (A : Option Addr) (l : List α) (c : Nat) (hx : a.eval x = .slice A l.length c) (hr : Rd f w A l) (h1 : ∀ x, (f x).oneCell' = true)
    (h63 : n + l.length ≤ maxLen) (hbytes : (n + l.length) * bytes ≤ 140737488355328) (hbase : base ≤ w.heap.size)
    (h : ∀ v' w', w'.ownsRow base e 1 v' (n + l.length) (xs ++ l.map f) → w.grownBy w' v.ownBlock → wpList P ops Q rest (a.put o.dst v') w') : wpList P ops Q (o :: rest) a w :=
  wpList_plain hgd fun _ hK => wp_append_rd w s x t ho base e i z bytes ht hi hz hsize hby hzs v n xs hs hown A l c hx hr h1 h63 hbytes hbase fun v' w' h2 h3 => hK _ _ (h v' w' h2 h3)
end

theorem own_base {w : World} {base b' : Nat} {e : TypeId} {v : Value} {n : Nat} {xs : List Value} (h : w.ownsRow base e 1 v n xs) (hb : b' ≤ base) : w.ownsRow b' e 1 v n xs :=
  ⟨h.1, h.2.imp id fun ⟨g, cap, cur, h1, h2, h3⟩ => ⟨g, cap, cur, h1, Nat.le_trans hb h2, h3⟩⟩
theorem vB_one (c : UInt8) : (vB c).oneCell' = true := rfl
theorem vW_one (c : UInt32) : (vW c).oneCell' = true := rfl

/-- 's[lo:hi]'. -/
theorem Rd.mid {α : Type} {f : α → Value} {w : World} {A : Option Addr} {l : List α} (h : Rd f w A l) (lo hi cap : Nat) (hc : l.length ≤ cap) : Rd f w (if cap = lo then A else A.map (·.add (lo * 1))) ((l.drop lo).take (hi - lo)) := (h.drop lo cap hc).take _

end Go.Proofs.Ytkkfkibjamnpnaa
/-
  A region that draws its order, whose operations read, or make memory and write nothing that was there: one plan serves every order (no program is named here). Conditions: the plan is one that the region's edges allow (a Bool, reckoned), each operation that reads yields one value in every later world, and an operation that makes memory comes up alone.
-/
namespace Go.Proofs.Ytkkfkibjamnpnaa
set_option maxRecDepth 100000
open Go.RowKit

section
variable {P : Program} {ops : Array Oper} {Q : Exit → Act → World → Prop}

theorem held_weaken {md : Region.Mode} {S T : World → Prop} (h : ∀ w, T w → S w) : ∀ (fuel : Nat) (listed : Array Bool) (a : Act) (w : World), wpAnyH P md ops Q T fuel listed a w → wpAnyH P md ops Q S fuel listed a w
  | 0, _, _, _, k => k
  | fuel + 1, _, _, _, k => ⟨k.1, fun i hi => wpOp_mono (fun a' w' k' => ⟨h _ k'.1, held_weaken h fuel _ a' w' k'.2⟩) (k.2 i hi)⟩

/-- A plan: the operations' numbers, and of each whether it makes memory (it must then be the only one that may come up); a fork: two that make memory may come up, each with a plan of its own behind it. -/
inductive Plan where
  | nil
  | step (i : Nat) (g : Bool) (rest : Plan)
  | fork (i : Nat) (p : Plan) (j : Nat) (q : Plan)
def Plan.size : Plan → Nat
  | .nil => 0
  | .step _ _ rest => rest.size + 1
  | .fork _ p _ _ => p.size + 1
def planOK (ops : Array Oper) : Plan → Array Bool → Bool
  | .nil, listed => (Region.ready .any ops listed).isEmpty
  | .step i g rest, listed => (if g then Region.ready .any ops listed == [i] else Region.free .any ops listed i && (Region.ready .any ops listed).contains i) && planOK ops rest (listed.setIfInBounds i true)
  | .fork i p j q, listed => Region.ready .any ops listed == [i, j] && (q.size == p.size && (planOK ops p (listed.setIfInBounds i true) && planOK ops q (listed.setIfInBounds j true)))

/-- S: what the operations that read lean on; each operation that makes memory must show it anew, and may give more of it. -/
def wpPlan (P : Program) (ops : Array Oper) (Q : Exit → Act → World → Prop) : Plan → (World → Prop) → Act → World → Prop
  | .nil, _, a, w => Q .normal a w
  | .step i g rest, S, a, w => ∃ o, ops[i]? = some o ∧
      ((Region.wanted o (yielded ops a.tmps) = false ∧ wpPlan P ops Q rest S (a.put o.dst undef) w) ∨
       (Region.wanted o (yielded ops a.tmps) = true ∧ g = false ∧ ∃ v, (∀ W, S W → (execOp a.eval o).run P W = .ok (.value v) W) ∧ wpPlan P ops Q rest S (a.put o.dst v) w) ∨
       (Region.wanted o (yielded ops a.tmps) = true ∧ g = true ∧ o.wp P a w (fun a' w' => ∃ T : World → Prop, (∀ W, T W → S W) ∧ T w' ∧ wpPlan P ops Q rest T a' w') Q))
  | .fork i p j q, S, a, w =>
      wpOp P ops Q i (fun a' w' => ∃ T : World → Prop, (∀ W, T W → S W) ∧ T w' ∧ wpPlan P ops Q p T a' w') a w ∧
      wpOp P ops Q j (fun a' w' => ∃ T : World → Prop, (∀ W, T W → S W) ∧ T w' ∧ wpPlan P ops Q q T a' w') a w

theorem wpPlan_held (hs : Region.noSelect ops = true) (hQ : ∀ c a w d v, Q (.panic c) (Act.put a d v) w → Q (.panic c) a w) :
    ∀ (plan : Plan) (S : World → Prop) (listed : Array Bool) (a : Act) (w : World), S w → planOK ops plan listed = true → wpPlan P ops Q plan S a w → wpAnyH P .any ops Q S plan.size listed a w
  | .nil, _, listed, a, w, _, hp, h => wpAnyH_done (by simpa [planOK] using hp) h _
  | .step i g rest, S, listed, a, w, hS, hp, h => by
    obtain ⟨o, ho, h⟩ := h
    simp only [planOK, Bool.and_eq_true] at hp
    obtain ⟨hp1, hp2⟩ := hp
    have take : ∀ v, g = false → YieldsIf P ops S o v a → wpPlan P ops Q rest S (a.put o.dst v) w → wpAnyH P .any ops Q S (rest.size + 1) listed a w := by
      intro v hg hy hr
      subst hg
      simp only [Bool.false_eq_true, if_false, Bool.and_eq_true] at hp1
      exact wpAnyH_take ho hs hp1.1 hp1.2 (fun c a w h => hQ c a w _ _ h) hy hS (wpPlan_held hs hQ rest S _ _ w hS hp2 hr)
    have alone : g = true → wpOp P ops Q i (fun a' w' => ∃ T : World → Prop, (∀ W, T W → S W) ∧ T w' ∧ wpPlan P ops Q rest T a' w') a w → wpAnyH P .any ops Q S (rest.size + 1) listed a w := by
      intro hg hop
      subst hg
      simp only [if_true] at hp1
      refine wpAnyH_all (rs := [i]) (eq_of_beq hp1) (by simp) (fun j hj => ?_)
      simp only [List.mem_singleton] at hj
      subst hj
      refine wpOp_mono (fun a' w' k => ?_) hop
      obtain ⟨T, hT, hTw, k⟩ := k
      exact ⟨hT _ hTw, held_weaken hT _ _ _ _ (wpPlan_held hs hQ rest T _ a' w' hTw hp2 k)⟩
    rcases h with ⟨hw, hr⟩ | ⟨hw, hg, v, hv, hr⟩ | ⟨hw, hg, hop⟩
    · cases g with
      | false => exact take undef rfl (.inr ⟨hw, rfl⟩) hr
      | true =>
        refine alone rfl ?_
        unfold wpOp
        simp only [ho, hw, Bool.false_eq_true, if_false]
        exact ⟨S, fun _ h => h, hS, hr⟩
    · exact take v hg (.inl ⟨hw, hv⟩) hr
    · refine alone hg ?_
      unfold wpOp
      simp only [ho, hw, if_true]
      exact .inl hop
  | .fork i p j q, S, listed, a, w, hS, hp, h => by
    simp only [planOK, Bool.and_eq_true] at hp
    obtain ⟨hp1, hp2, hp3, hp4⟩ := hp
    refine wpAnyH_all (rs := [i, j]) (eq_of_beq hp1) (by simp) (fun k hk => ?_)
    simp only [List.mem_cons, List.not_mem_nil, or_false] at hk
    rcases hk with rfl | rfl
    · refine wpOp_mono (fun a' w' k => ?_) h.1
      obtain ⟨T, hT, hTw, k⟩ := k
      exact ⟨hT _ hTw, held_weaken hT _ _ _ _ (wpPlan_held hs hQ p T _ a' w' hTw hp3 k)⟩
    · refine wpOp_mono (fun a' w' k => ?_) h.2
      obtain ⟨T, hT, hTw, k⟩ := k
      have := wpPlan_held hs hQ q T _ a' w' hTw hp4 k
      rw [eq_of_beq hp2] at this
      exact ⟨hT _ hTw, held_weaken hT _ _ _ _ this⟩

/-- The beginning, at a condition of one's own. -/
theorem wp_region_plan_of (S : World → Prop) (plan : Plan) {id : Nat} {a : Act} {w : World} (hS : S w.drew) (hm : P.follows .mixedOrders = true) (hs : Region.noSelect ops = true) (hlen : plan.size = ops.size) (hp : planOK ops plan (Array.replicate ops.size false) = true)
    (h : wpPlan P ops (NoPanic Q) plan S a w.drew) : (Code.region id ops true).wp P Q a w := by
  refine wp_region_noPanic (wp_region_held_drew (S := S) hm hS (fun _ => ?_))
  have := wpPlan_held hs (fun _ _ _ _ _ h => h) plan S _ a w.drew hS hp h
  rw [hlen] at this
  exact this
/-- The beginning, at all that is there. -/
theorem wp_region_plan (plan : Plan) {id : Nat} {a : Act} {w : World} (hm : P.follows .mixedOrders = true) (hs : Region.noSelect ops = true) (hlen : plan.size = ops.size) (hp : planOK ops plan (Array.replicate ops.size false) = true)
    (h : wpPlan P ops (NoPanic Q) plan (fun W => Below w.drew.heap.size w.drew W) a w.drew) : (Code.region id ops true).wp P Q a w := wp_region_plan_of _ plan (Below.refl _ _) hm hs hlen hp h
/-- The beginning, at what lies below block number B. -/
theorem wp_region_plan_at (B : Nat) (plan : Plan) {id : Nat} {a : Act} {w : World} (hm : P.follows .mixedOrders = true) (hs : Region.noSelect ops = true) (hlen : plan.size = ops.size) (hp : planOK ops plan (Array.replicate ops.size false) = true)
    (h : wpPlan P ops (NoPanic Q) plan (fun W => Below B w.drew W) a w.drew) : (Code.region id ops true).wp P Q a w := wp_region_plan_of _ plan (Below.refl _ _) hm hs hlen hp h

theorem plan_skip {i : Nat} {g : Bool} {rest : Plan} {S : World → Prop} {o : Oper} {a : Act} {w : World} (ho : ops[i]? = some o) (hw : Region.wanted o (yielded ops a.tmps) = false)
    (h : wpPlan P ops Q rest S (a.put o.dst undef) w) : wpPlan P ops Q (.step i g rest) S a w := ⟨o, ho, .inl ⟨hw, h⟩⟩
theorem plan_read {i : Nat} {rest : Plan} {S : World → Prop} {o : Oper} {a : Act} {w : World} {v : Value} (ho : ops[i]? = some o) (hw : Region.wanted o (yielded ops a.tmps) = true)
    (hv : ∀ W, S W → (execOp a.eval o).run P W = .ok (.value v) W) (h : wpPlan P ops Q rest S (a.put o.dst v) w) : wpPlan P ops Q (.step i false rest) S a w := ⟨o, ho, .inr (.inl ⟨hw, rfl, v, hv, h⟩)⟩
/-- Behind it all that is there counts. -/
theorem plan_make {i : Nat} {rest : Plan} {o : Oper} {a : Act} {w : World} (ho : ops[i]? = some o) (hw : Region.wanted o (yielded ops a.tmps) = true)
    (h : ∀ K : Act → World → Prop, Shut (∀ a' w', Below w.heap.size w w' → wpPlan P ops Q rest (fun W => Below w'.heap.size w' W) a' w' → K a' w') → o.wp P a w K Q) : wpPlan P ops Q (.step i true rest) (fun W => Below w.heap.size w W) a w :=
  ⟨o, ho, .inr (.inr ⟨hw, rfl, h _ (fun _ _ hb hr => ⟨_, fun _ hW => below_step hb hW, Below.refl _ _, hr⟩)⟩)⟩
/-- B stays. -/
theorem plan_make_at {i : Nat} {rest : Plan} {B : Nat} {o : Oper} {a : Act} {w : World} (ho : ops[i]? = some o) (hw : Region.wanted o (yielded ops a.tmps) = true)
    (h : ∀ K : Act → World → Prop, Shut (∀ a' w', Below B w w' → wpPlan P ops Q rest (fun W => Below B w' W) a' w' → K a' w') → o.wp P a w K Q) : wpPlan P ops Q (.step i true rest) (fun W => Below B w W) a w :=
  ⟨o, ho, .inr (.inr ⟨hw, rfl, h _ (fun _ _ hb hr => ⟨_, fun _ hW => hb.trans hW, Below.refl _ _, hr⟩)⟩)⟩
/-- S stays. -/
theorem plan_make_of {i : Nat} {rest : Plan} {S : World → Prop} {o : Oper} {a : Act} {w : World} (ho : ops[i]? = some o) (hw : Region.wanted o (yielded ops a.tmps) = true)
    (h : ∀ K : Act → World → Prop, Shut (∀ a' w', S w' → wpPlan P ops Q rest S a' w' → K a' w') → o.wp P a w K Q) : wpPlan P ops Q (.step i true rest) S a w :=
  ⟨o, ho, .inr (.inr ⟨hw, rfl, h _ (fun _ _ hb hr => ⟨S, fun _ hW => hW, hb, hr⟩)⟩)⟩
/-- Two that make memory may come up: each goes by itself, S stays. -/
theorem plan_fork {i j : Nat} {p q : Plan} {S : World → Prop} {o u : Oper} {a : Act} {w : World} (ho : ops[i]? = some o) (hu : ops[j]? = some u) (hw : Region.wanted o (yielded ops a.tmps) = true) (hx : Region.wanted u (yielded ops a.tmps) = true)
    (h : ∀ K : Act → World → Prop, Shut (∀ a' w', S w' → wpPlan P ops Q p S a' w' → K a' w') → o.wp P a w K Q) (k : ∀ K : Act → World → Prop, Shut (∀ a' w', S w' → wpPlan P ops Q q S a' w' → K a' w') → u.wp P a w K Q) : wpPlan P ops Q (.fork i p j q) S a w := by
  constructor
  · unfold wpOp
    simp only [ho, hw, if_true]
    exact .inl (h _ (fun _ _ hb hr => ⟨S, fun _ hW => hW, hb, hr⟩))
  · unfold wpOp
    simp only [hu, hx, if_true]
    exact .inl (k _ (fun _ _ hb hr => ⟨S, fun _ hW => hW, hb, hr⟩))
theorem plan_done {S : World → Prop} {a : Act} {w : World} (h : Q .normal a w) : wpPlan P ops (NoPanic Q) .nil S a w := h
end

/-! ### append onto a row of the call's own: what the row held is still there, where it was -/
section
variable {P : Program} (w : World)
theorem run_append_keep (base : Nat) (t ty e : TypeId) (i : TypeInfo) (z : Value) (bytes : Nat) (ht : P.underlying t = some (.slice e)) (hi : P.info? e = some i) (hz : i.zero = some z)
    (hsize : i.size = 1) (hby : i.bytes = bytes) (hzs : z.cells.size = 1) (v : Value) (n : Nat) (xs : List Value) (hown : w.ownsRow base e 1 v n xs)
    (a : Addr) (m c : Nat) (news : List Value) (hl : news.length = m * 1) (hnews : ∀ j u, news[j]? = some u → w.cell? (a.add j) = some u) (h1 : ∀ u ∈ news, u.oneCell' = true)
    (h63 : n + m ≤ maxLen) (hbytes : (n + m) * bytes ≤ 140737488355328) (hbase : base ≤ w.heap.size) :
    ∃ v' w', (Builtin.append_ #[t, t] ty #[v, .slice (some a) m c]).run P w = .ok v' w' ∧ w'.ownsRow base e 1 v' (n + m) (xs ++ news) ∧ w.grownBy w' v.ownBlock ∧
      ∀ g, v.ownBlock = some g → ∀ j u, xs[j]? = some u → w'.cell? ⟨g, j, none⟩ = some u := by
  obtain ⟨v', w', hrun, hown', hgrow, _⟩ := run_append_own (P := P) w base t ty e i z 1 bytes ht hi hz hsize hby hzs (by omega) v n xs hown a m c news hl hnews h1 h63 hbytes hbase
  refine ⟨v', w', hrun, hown', hgrow, fun g hg j u hu => ?_⟩
  have hj : j < xs.length := by
    rcases Nat.lt_or_ge j xs.length with h | h
    · exact h
    · rw [List.getElem?_eq_none h] at hu; cases hu
  have hadd : (⟨g, 0, none⟩ : Addr).add j = ⟨g, j, none⟩ := by unfold Addr.add; split <;> simp_all
  rcases hown.2 with ⟨rfl, _⟩ | ⟨g', cap, cur, rfl, hbg, hgg, hnc, hcm, hcs, htake⟩
  · simp [Value.ownBlock] at hg
  · simp [Value.ownBlock] at hg
    subst hg
    have hold := hown.cells (g := g') rfl j u hu
    rw [hadd] at hold
    have hsmall : n + m ≤ 9223372036854775807 := by simp only [maxLen] at h63; omega
    by_cases hroom : n + m ≤ cap
    · have hr := run_append_room (P := P) w t ty e i ht hi g' n cap cur hgg a m c news (by rw [hsize]; exact hl) hnews h1 hroom (by rw [hsize, hl, hcs]; omega)
      rw [hrun] at hr
      injection hr with hv _
      subst hv
      have := hown'.cells (g := g') rfl j u (by rw [List.getElem?_append_left hj]; exact hu)
      rwa [hadd] at this
    · subst hby
      have holds : ∀ j u, xs[j]? = some u → w.cell? ((⟨g', 0, none⟩ : Addr).add j) = some u := hown.cells (g := g') rfl
      have hr := run_append_grow (P := P) w t ty e i z ht hi hz ⟨g', 0, none⟩ n cap xs (by rw [hsize]; exact hown.1) holds a m c news (by rw [hsize]; exact hl) hnews (by omega) (by omega) (growslice_fits (by omega) hbytes)
      rw [hrun] at hr
      injection hr with _ hw
      subst hw
      rw [World.cell?_alloc_lt w.drew _ ⟨g', j, none⟩ (World.block_lt_of_cell? w _ hold)]
      exact hold

theorem wp_append_keep {o : Oper} {a : Act} {K : Act → World → Prop} {Q : Exit → Act → World → Prop} (s x : Operand) (t : TypeId)
    (ho : o.op = .call { callee := .builtin .append, args := #[s, x], argTypes := #[t, t] })
    (base : Nat) (e : TypeId) (i : TypeInfo) (z : Value) (bytes : Nat) (ht : P.underlying t = some (.slice e)) (hi : P.info? e = some i) (hz : i.zero = some z)
    (hsize : i.size = 1) (hby : i.bytes = bytes) (hzs : z.cells.size = 1) (v : Value) (n : Nat) (xs : List Value) (hs : a.eval s = v) (hown : w.ownsRow base e 1 v n xs)
    (ad : Addr) (m c : Nat) (news : List Value) (hx : a.eval x = .slice (some ad) m c) (hl : news.length = m * 1) (hnews : ∀ j u, news[j]? = some u → w.cell? (ad.add j) = some u) (h1 : ∀ u ∈ news, u.oneCell' = true)
    (h63 : n + m ≤ maxLen) (hbytes : (n + m) * bytes ≤ 140737488355328) (hbase : base ≤ w.heap.size)
    (h : ∀ v' w', w'.ownsRow base e 1 v' (n + m) (xs ++ news) → w.grownBy w' v.ownBlock → (∀ g, v.ownBlock = some g → ∀ j u, xs[j]? = some u → w'.cell? ⟨g, j, none⟩ = some u) → K (a.put o.dst v') w') : o.wp P a w K Q := by
  obtain ⟨v', w', hr, h2, h3, h4⟩ := run_append_keep (P := P) w base t o.type e i z bytes ht hi hz hsize hby hzs v n xs hown ad m c news hl hnews h1 h63 hbytes hbase
  unfold Oper.wp execOp
  simp only [ho, resolve, invoke, builtin, Sem.run_bind, Sem.run_pure, Result.andThen_ok, List.map_toArray, List.map_cons, List.map_nil, hs, hx, hr]
  exact h v' w' h2 h3 h4
end

end Go.Proofs.Ytkkfkibjamnpnaa
/-
  A block of memory known whole: its cells read, one of them set, all of them set, a slice copied into it; a world given a name (no program is named here). No conditions but those typed.
-/
namespace Go.Proofs.Ytkkfkibjamnpnaa
set_option maxRecDepth 100000
open Go.RowKit

/-- A name for a world, and what is known of it. -/
theorem at_world {Q : World → Prop} {v : World} (F : World → Prop) (hF : F v) (h : ∀ W, F W → Q W) : Q v := h v hF

/-- Block g holds just these cells. -/
def Row (w : World) (g : Nat) (t : TypeId) (l : List Value) : Prop := w.heap[g]? = some (.cells l.toArray t (0, 0))

section
variable {w w' : World} {g : Nat} {t : TypeId} {l : List Value}
theorem Row.lt (h : Row w g t l) : g < w.heap.size := (Array.getElem?_eq_some_iff.1 h).1
theorem Row.cell? (h : Row w g t l) (i : Nat) : w.cell? ⟨g, i, none⟩ = l[i]? := by
  rw [cell_of_row w g i _ t (0, 0) h]
  simp
theorem Row.cell (h : Row w g t l) {i : Nat} {v : Value} (hi : l[i]? = some v) : w.cell? ⟨g, i, none⟩ = some v := (h.cell? i).trans hi
theorem Row.keep {B : Nat} (h : Row w g t l) (hb : Below B w w') (hg : g < B) : Row w' g t l := (hb.block g hg).trans h
theorem Row.later (h : Row w g t l) (hb : Below w.heap.size w w') : Row w' g t l := h.keep hb h.lt
theorem Row.drew (h : Row w g t l) : Row w.drew g t l := h
theorem Row.drewN (h : Row w g t l) (n : Nat) : Row (w.drewN n) g t l := h
theorem Row.alloc (h : Row w g t l) (o : Obj) : Row (w.alloc o) g t l := (Below.heap_alloc w o g h.lt).trans h
theorem Row.new (w : World) (t : TypeId) (l : List Value) (cs : Array Value) (h : cs = l.toArray) : Row (w.alloc (.cells cs t)) w.heap.size t l := by subst h; exact heap_alloc_new w _
theorem Row.new_at (w : World) (g : Nat) (hg : g = w.heap.size) (t : TypeId) (l : List Value) (cs : Array Value) (h : cs = l.toArray) : Row (w.alloc (.cells cs t)) g t l := by subst hg; exact Row.new w t l cs h
theorem Row.range (h : Row w g t l) : w.rangeAt g 0 l := fun j v hv => by rw [Nat.zero_add]; exact h.cell hv
theorem Row.frozen (h : Row w g t l) (i : Nat) : w.frozen? ⟨g, i, none⟩ = false := by
  have h' : w.heap[g]? = some (.cells l.toArray t (0, 0)) := h
  simp [World.frozen?, h']
theorem Row.setRow (h : Row w g t l) (m : List Value) : Row (w.setRow g m.toArray) g t m := setRow_heap w g _ _ t _ h
theorem Row.setRow_at (h : Row w g t l) (m : List Value) (cs : Array Value) (e : cs = m.toArray) : Row (w.setRow g cs) g t m := by subst e; exact h.setRow m
theorem Row.setRow_other (h : Row w g t l) {k : Nat} (hk : g ≠ k) (cs : Array Value) : Row (w.setRow k cs) g t l := (Go.setRow_other w k g cs hk).trans h
theorem Row.setCell (h : Row w g t l) (i : Nat) (v : Value) : Row (w.setCell ⟨g, i, none⟩ v) g t (l.set i v) := by
  have h' : w.heap[g]? = some (.cells l.toArray t (0, 0)) := h
  have hlt : g < w.heap.size := h.lt
  have hv : w.heap[g] = .cells l.toArray t (0, 0) := (Array.getElem?_eq_some_iff.1 h').2
  unfold Row World.setCell
  rw [Array.getElem?_eq_getElem (by simpa using hlt), Array.getElem_modify]
  simp [hv]
theorem Row.setCell_other (h : Row w g t l) {p : Addr} (hk : g ≠ p.block) (v : Value) : Row (w.setCell p v) g t l := (Below.heap_setCell w p v g hk).trans h
theorem Row.rd {α : Type} {f : α → Value} {L : List α} (h : Row w g t (L.map f)) : Rd f w (some ⟨g, 0, none⟩) L := fun _ => ⟨g, 0, rfl, fun i hi => by rw [Nat.zero_add]; exact h.cell (by simp [hi])⟩
theorem Row.rd_at {α : Type} {f : α → Value} {M : List Value} {L : List α} {o : Nat} (h : Row w g t M) (hl : (M.drop o).take L.length = L.map f) : Rd f w (some ⟨g, o, none⟩) L := fun _ => ⟨g, o, rfl, fun i hi => h.cell (by
  have := congrArg (·[i]?) hl
  simpa [List.getElem?_take, List.getElem?_drop, hi] using this)⟩

variable {P : Program}
/-- The whole, read. -/
theorem Row.load (h : Row w g t l) (ty : TypeId) (d : TypeDesc) (hu : P.underlying ty = some d) (hd : d.isRow = true) (hi : (P.info? ty).map (·.size) = some l.length) :
    (Instr.loadAt ty (.pointer (some ⟨g, 0, none⟩))).run P w = .ok (.agg l.toArray) w := run_loadAt_mid w g 0 ty l d h.range hu hd hi
theorem Row.loadVar (h : Row w g t l) (ty : TypeId) (d : TypeDesc) (hu : P.underlying ty = some d) (hd : d.isRow = true) (hi : (P.info? ty).map (·.size) = some l.length) :
    (Go.loadVar ty ⟨g, 0, none⟩).run P w = .ok (.agg l.toArray) w := run_loadVar_mid w g 0 ty l d h.range hu hd hi
/-- A part, read. -/
theorem Row.loadMid (h : Row w g t l) (ty : TypeId) (o : Nat) (m : List Value) (hm : (l.drop o).take m.length = m) (d : TypeDesc) (hu : P.underlying ty = some d) (hd : d.isRow = true) (hi : (P.info? ty).map (·.size) = some m.length) :
    (Instr.loadAt ty (.pointer (some ⟨g, o, none⟩))).run P w = .ok (.agg m.toArray) w := run_loadAt_mid w g o ty m d (fun j v hv => by
      have hj : j < m.length := (List.getElem?_eq_some_iff.1 hv).1
      have := congrArg (·[j]?) hm
      simp only [List.getElem?_take, List.getElem?_drop, hj, if_true] at this
      exact h.cell (this.trans hv)) hu hd hi
/-- The whole, set. -/
theorem Row.store (h : Row w g t l) (ty : TypeId) (m : List Value) (hi : (P.info? ty).map (·.size) = some m.length) (hl : l.length = m.length) (h1 : ∀ v ∈ m, v.oneCell' = true) :
    (Instr.storeAt ty (.pointer (some ⟨g, 0, none⟩)) (.agg m.toArray)).run P w = .ok () (w.setRow g m.toArray) := by
  simp only [Instr.storeAt, Instr.sureAddr, Sem.run_bind, Sem.run_pure, Result.andThen_ok]
  exact run_storeVar_row w g t ty l.toArray m.toArray h (by simpa using hi) (by simpa using hl) (all_oneCell_toArray h1)
end

section
variable {P : Program} {op : Oper} {a : Act} {w : World} {K : Act → World → Prop} {Q : Exit → Act → World → Prop} {ops : Array Oper} {rest : List Oper} {g : Nat} {t : TypeId} {l : List Value}
theorem Row.wp_store (ty : TypeId) (x y : Operand) (ho : op.op = .store ty x y) (hx : a.eval x = .pointer (some ⟨g, 0, none⟩)) (m : List Value) (hy : a.eval y = .agg m.toArray) (h : Row w g t l)
    (hi : (P.info? ty).map (·.size) = some m.length) (hl : l.length = m.length) (h1 : ∀ v ∈ m, v.oneCell' = true) (k : K (a.put op.dst undef) (w.setRow g m.toArray)) : op.wp P a w K Q := by
  unfold Oper.wp execOp
  have := h.store (P := P) ty m hi hl h1
  simp only [Instr.storeAt, Instr.sureAddr, Sem.run_bind, Sem.run_pure, Result.andThen_ok] at this
  simp only [ho, hx, hy, Instr.storeAt, Instr.sureAddr, Sem.run_bind, Sem.run_pure, Result.andThen_ok, this]
  exact k
theorem wpList_store_row (hgd : op.guard = none) (ty : TypeId) (x y : Operand) (ho : op.op = .store ty x y) (g : Nat) (hx : a.eval x = .pointer (some ⟨g, 0, none⟩)) (m : List Value) (hy : a.eval y = .agg m.toArray) (t : TypeId) (l : List Value) (h : Row w g t l)
    (hi : (P.info? ty).map (·.size) = some m.length) (hl : l.length = m.length) (h1 : ∀ v ∈ m, v.oneCell' = true) (k : wpList P ops Q rest (a.put op.dst undef) (w.setRow g m.toArray)) : wpList P ops Q (op :: rest) a w :=
  wpList_plain hgd fun _ hK => h.wp_store ty x y ho hx m hy hi hl h1 (hK _ _ k)
/-- A part of a block known whole, read. -/
theorem wpList_load_part (hgd : op.guard = none) (ty : TypeId) (x : Operand) (ho : op.op = .load ty x) (g o : Nat) (hx : a.eval x = .pointer (some ⟨g, o, none⟩)) (t : TypeId) (l : List Value) (h : Row w g t l) (m : List Value) (hm : (l.drop o).take m.length = m)
    (d : TypeDesc) (hu : P.underlying ty = some d) (hd : d.isRow = true) (hi : (P.info? ty).map (·.size) = some m.length) (k : wpList P ops Q rest (a.put op.dst (.agg m.toArray)) w) : wpList P ops Q (op :: rest) a w :=
  wpList_load_mid hgd ty x ho g o hx m d (fun j v hv => by
      have hj : j < m.length := (List.getElem?_eq_some_iff.1 hv).1
      have := congrArg (·[j]?) hm
      simp only [List.getElem?_take, List.getElem?_drop, hj, if_true] at this
      exact h.cell (this.trans hv)) hu hd hi k
end

theorem Row.setCells {g : Nat} {t : TypeId} : ∀ (m : List Value) (o : Nat) {w : World} {l : List Value}, Row w g t l → o + m.length ≤ l.length → Row (w.setCells g o m) g t (l.take o ++ m ++ l.drop (o + m.length))
  | [], o, w, l, h, _ => by simpa [World.setCells] using h
  | v :: m, o, w, l, h, hl => by
    simp only [List.length_cons] at hl
    have k := Row.setCells m (o + 1) (h.setCell o v) (by simp; omega)
    have e : (l.set o v).take (o + 1) ++ m ++ (l.set o v).drop (o + 1 + m.length) = l.take o ++ v :: m ++ l.drop (o + (v :: m).length) := by
      have ho : o < l.length := by omega
      rw [List.drop_set_of_lt (by omega), List.take_succ_eq_append_getElem (by simpa using ho), List.getElem_set_self, List.take_set_of_le (Nat.le_refl _)]
      simp [Nat.add_assoc, Nat.add_comm 1]
    rw [← e]
    exact k
theorem Row.setCells_other {g b : Nat} {t : TypeId} (hk : g ≠ b) : ∀ (m : List Value) (o : Nat) {w : World} {l : List Value}, Row w g t l → Row (w.setCells b o m) g t l
  | [], _, _, _, h => h
  | v :: m, o, _, _, h => Row.setCells_other hk m (o + 1) (h.setCell_other (p := ⟨b, o, none⟩) hk v)
theorem below_setCells {B b : Nat} (hb : B ≤ b) : ∀ (m : List Value) (o : Nat) {a w : World}, Below B a w → Below B a (w.setCells b o m)
  | [], _, _, _, h => h
  | v :: m, o, _, _, h => below_setCells hb m (o + 1) (h.setCell (p := ⟨b, o, none⟩) hb v)

/-- Two results, the first of them a whole block. -/
theorem results_row_tmp {P : Program} {fn : Func} {p u : Tmp} {ty : TypeId} (h : fn.results = #[.cell p ty, .tmp u]) (tmps : Array Value) (w : World) (g : Nat) (t : TypeId) (l : List Value) (d : TypeDesc) (hp : tmps.getD p undef = .pointer (some ⟨g, 0, none⟩)) (hg : Row w g t l)
    (hu : P.underlying ty = some d) (hd : d.isRow = true) (hi : (P.info? ty).map (·.size) = some l.length) : (results fn tmps).run P w = .ok (.tuple #[.agg l.toArray, tmps.getD u undef]) w := by
  rw [results_cell_tmp h, hp]
  simp only [asAddr, Sem.run_pure, Result.andThen_ok, hg.loadVar (P := P) ty d hu hd hi]

theorem Rd.setRow {α : Type} {f : α → Value} {w : World} {A : Option Addr} {L : List α} (h : Rd f w A L) {g : Nat} (cs : Array Value) (hg : ∀ a, A = some a → a.block ≠ g) : Rd f (w.setRow g cs) A L := fun hn => by
  obtain ⟨b, o, rfl, hc⟩ := h hn
  exact ⟨b, o, rfl, fun i hi => (cell_setRow_other w g cs ⟨b, o + i, none⟩ (hg ⟨b, o, none⟩ rfl)).trans (hc i hi)⟩
theorem map_one {α : Type} {f : α → Value} (hf : ∀ x, (f x).oneCell' = true) (L : List α) : ∀ v ∈ L.map f, v.oneCell' = true := fun v hv => by
  obtain ⟨x, _, rfl⟩ := List.mem_map.1 hv
  exact hf x

/-- 'copy(d, s)': the slice d lies in a block known whole, and has room for all of s. -/
theorem wp_copy_row {P : Program} {α : Type} {f : α → Value} {o : Oper} {a : Act} {w : World} {K : Act → World → Prop} {Q : Exit → Act → World → Prop} (d s : Operand) (dT sT : TypeId)
    (ho : o.op = .call { callee := .builtin .copy, args := #[d, s], argTypes := #[dT, sT] }) (elem : TypeId) (hu : P.underlying dT = some (.slice elem)) (hsz : (P.info? elem).map (·.size) = some 1)
    (g off dLen dCap : Nat) (A : Option Addr) (L : List α) (sCap : Nat) (hd : a.eval d = .slice (some ⟨g, off, none⟩) dLen dCap) (hs : a.eval s = .slice A L.length sCap)
    (cur : List Value) (t : TypeId) (hg : Row w g t cur) (hr : Rd f w A L) (hf : ∀ x, (f x).oneCell' = true) (hle : L.length ≤ dLen) (hfit : off + L.length ≤ cur.length)
    (h : K (a.put o.dst (.int .i64 (L.length : Int))) (w.setRow g (cur.take off ++ L.map f ++ cur.drop (off + L.length)).toArray)) : o.wp P a w K Q := by
  by_cases hn : L = []
  · subst hn
    have hrun := run_copy_none (P := P) w dT sT o.type elem (some ⟨g, off, none⟩) A dLen dCap 0 sCap hu hsz (by simp)
    unfold Oper.wp
    simp only [execOp, ho, resolve, invoke, builtin, hd, hs, Sem.run_bind, Sem.run_pure, Result.andThen_ok, List.map_toArray, List.map_cons, List.map_nil, List.length_nil, hrun]
    have e : w.setRow g (cur.take off ++ ([] : List α).map f ++ cur.drop (off + ([] : List α).length)).toArray = w := by
      simp only [List.map_nil, List.append_nil, List.length_nil, Nat.add_zero, List.take_append_drop]
      exact setRow_self w g _ t _ hg
    rw [e] at h
    exact h
  · obtain ⟨b, oo, rfl, hc⟩ := hr hn
    have hrun := run_copy_row (P := P) w dT sT o.type elem g off dLen dCap ⟨b, oo, none⟩ L.length sCap cur.toArray t (L.map f) hu hsz hg (by rw [List.length_map]; exact (Nat.min_eq_left hle).symm) (fun j v hv => by
      have hj : j < L.length := by simpa using (List.getElem?_eq_some_iff.1 hv).1
      have e1 : (⟨b, oo, none⟩ : Addr).add j = ⟨b, oo + j, none⟩ := by unfold Addr.add; split <;> simp_all
      rw [e1, hc j hj, ← hv]
      simp [hj]) (by simpa using hfit) (map_one hf L)
    unfold Oper.wp
    simp only [execOp, ho, resolve, invoke, builtin, hd, hs, Sem.run_bind, Sem.run_pure, Result.andThen_ok, List.map_toArray, List.map_cons, List.map_nil, hrun]
    have e2 : ((cur.toArray.toList.take off ++ L.map f ++ cur.toArray.toList.drop (off + (L.map f).length)).toArray) = (cur.take off ++ L.map f ++ cur.drop (off + L.length)).toArray := by simp
    have e3 : goInt ((L.map f).length : Nat) = .int .i64 (L.length : Int) := by simp [goInt]
    rw [e2, e3]
    exact h
theorem wpList_copy_row {P : Program} {α : Type} {f : α → Value} {ops : Array Oper} {rest : List Oper} {o : Oper} {a : Act} {w : World} {Q : Exit → Act → World → Prop} (hgd : o.guard = none) (d s : Operand) (dT sT : TypeId)
    (ho : o.op = .call { callee := .builtin .copy, args := #[d, s], argTypes := #[dT, sT] }) (elem : TypeId) (hu : P.underlying dT = some (.slice elem)) (hsz : (P.info? elem).map (·.size) = some 1)
    (g off dLen dCap : Nat) (A : Option Addr) (L : List α) (sCap : Nat) (hd : a.eval d = .slice (some ⟨g, off, none⟩) dLen dCap) (hs : a.eval s = .slice A L.length sCap)
    (cur : List Value) (t : TypeId) (hg : Row w g t cur) (hr : Rd f w A L) (hf : ∀ x, (f x).oneCell' = true) (hle : L.length ≤ dLen) (hfit : off + L.length ≤ cur.length)
    (h : wpList P ops Q rest (a.put o.dst (.int .i64 (L.length : Int))) (w.setRow g (cur.take off ++ L.map f ++ cur.drop (off + L.length)).toArray)) : wpList P ops Q (o :: rest) a w :=
  wpList_plain hgd fun _ hK => wp_copy_row d s dT sT ho elem hu hsz g off dLen dCap A L sCap hd hs cur t hg hr hf hle hfit (hK _ _ h)

end Go.Proofs.Ytkkfkibjamnpnaa
/-
  What the calls word.Rot and math/bits.RotateLeft32 answer: the word turned (every word, every count that an int may be).
-/
namespace Go.Proofs.Ytkkfkibjamnpnaa
set_option maxRecDepth 100000
open Go.RowKit


end Go.Proofs.Ytkkfkibjamnpnaa
/-
  What the call word.join answers: the number of the bytes, modulo 2^64.
-/
namespace Go.Proofs.Ytkkfkibjamnpnaa
set_option maxRecDepth 100000
open Go.RowKit


end Go.Proofs.Ytkkfkibjamnpnaa
/-
  What the calls word.Get and word.FromLeast answer, for any bytes.
-/
namespace Go.Proofs.Ytkkfkibjamnpnaa
set_option maxRecDepth 100000
open Go.RowKit



end Go.Proofs.Ytkkfkibjamnpnaa
/-
  What the calls word.Put and word.Least answer, for any number.
-/
namespace Go.Proofs.Ytkkfkibjamnpnaa
set_option maxRecDepth 100000
open Go.RowKit

theorem vB_ofNat (n : Nat) : vB (UInt8.ofNat n) = .int .u8 ((n % 256 : Nat) : Int) := by
  unfold vB
  rw [UInt8.toNat_ofNat']
theorem put_cells (v : Nat) (hv : v < 18446744073709551616) :
    #[Value.int IntKind.u8 ((v : Int) / 72057594037927936), Value.int IntKind.u8 ((v : Int) / 281474976710656 % 256), Value.int IntKind.u8 ((v : Int) / 1099511627776 % 256), Value.int IntKind.u8 ((v : Int) / 4294967296 % 256),
      Value.int IntKind.u8 ((v : Int) / 16777216 % 256), Value.int IntKind.u8 ((v : Int) / 65536 % 256), Value.int IntKind.u8 ((v : Int) / 256 % 256), Value.int IntKind.u8 ((v : Int) % 256)] = ((putL v).map vB).toArray := by
  have e : (putL v).map vB = [vB (UInt8.ofNat (v / 72057594037927936)), vB (UInt8.ofNat (v / 281474976710656)), vB (UInt8.ofNat (v / 1099511627776)), vB (UInt8.ofNat (v / 4294967296)),
      vB (UInt8.ofNat (v / 16777216)), vB (UInt8.ofNat (v / 65536)), vB (UInt8.ofNat (v / 256)), vB (UInt8.ofNat (v / 1))] := rfl
  rw [e]
  simp only [vB_ofNat]
  have e0 : ((v : Int) / 72057594037927936) = ((v / 72057594037927936 % 256 : Nat) : Int) := by omega
  rw [e0]
  simp
theorem putL_length (v : Nat) : (putL v).length = 8 := rfl


def LeastRel (L : List UInt8) (w : World) (s : Value) : Prop := ∃ (M : List UInt8) (A : Option Addr) (cap : Nat), s = .slice A M.length cap ∧ M.length ≤ cap ∧ M.length ≤ 8 ∧ Rd vB w A M ∧ L.dropWhile (· == 0) = M.dropWhile (· == 0)
def sliceLen : Value → Nat | .slice _ n _ => n | _ => 0

theorem size_uint8 (w : World) : (sizeOf 5).run Try.prog w = .ok 1 w := by kernel_rfl


end Go.Proofs.Ytkkfkibjamnpnaa
/-
  What the calls word.Words and word.Bytes answer, for any bytes and words of up to 2^45 each.
-/
namespace Go.Proofs.Ytkkfkibjamnpnaa
set_option maxRecDepth 100000
open Go.RowKit

theorem info_u32 : (Try.prog.info? 66).map (fun i => (i.zero, i.size, i.bytes)) = some (some (.int .u32 0), 1, 4) := by kernel_rfl
theorem info_u8 : (Try.prog.info? 5).map (fun i => (i.zero, i.size, i.bytes)) = some (some (.int .u8 0), 1, 1) := by kernel_rfl

def WordsRel (L : List UInt8) (w : World) (s v : Value) (wr : World) : Prop :=
  ∃ (M : List UInt8) (D : List UInt32) (A : Option Addr) (cap : Nat), s = .slice A M.length cap ∧ M.length ≤ cap ∧ Rd vB w A M ∧
    wr.ownsRow w.heap.size 66 1 v D.length (D.map vW) ∧ Below w.heap.size w wr ∧ wordsL L = D ++ wordsL M ∧ 4 * D.length + M.length ≤ L.length

theorem words_round {L M : List UInt8} {D : List UInt32} {w wr w1 : World} {A : Option Addr} {cap V : Nat} {u v : Value} {o : Obj} (hM : M.length + 4 ≤ cap) (hL : 4 * D.length + M.length + 4 ≤ L.length) (hr : Rd vB w A M)
    (ho : wr.ownsRow w.heap.size 66 1 u D.length (D.map vW)) (hb : Below w.heap.size w wr) (HV : Hid (Value.int .u32 (V : Int) = vW (UInt32.ofNat V))) (HW : Hid (wordsL L = (D ++ [UInt32.ofNat V]) ++ wordsL M))
    (ho' : w1.ownsRow w.heap.size 66 1 v (D.length + 1) (D.map vW ++ [.int .u32 (V : Int)])) (hg : (wr.alloc o).grownBy w1 u.ownBlock) : WordsRel L w (.slice A M.length (cap - 4)) v w1 :=
  ⟨M, D ++ [UInt32.ofNat V], A, cap - 4, rfl, by omega, hr, by rw [HV.out] at ho'; simpa using ho',
    (hb.alloc hb.size o).grown hg (by have := hb.size; simp; omega) (fun k hk => (ho.lt k hk).1), HW.out, by simp; omega⟩


def BytesRel (L : List UInt32) (w : World) (v i : Value) (wr : World) : Prop :=
  ∃ k : Nat, k ≤ L.length ∧ i = .int .i64 k ∧ wr.ownsRow w.heap.size 5 1 v (bytesL (L.take k)).length ((bytesL (L.take k)).map vB) ∧ Below w.heap.size w wr

theorem bytesL_length (l : List UInt32) : (bytesL l).length = 4 * l.length := by
  unfold bytesL
  induction l with
  | nil => rfl
  | cons a l ih => rw [List.flatMap_cons, List.length_append, ih, List.length_cons]; show 4 + _ = _; omega
theorem bytesL_take (l : List UInt32) (k : Nat) (h : k < l.length) : bytesL (l.take (k + 1)) = bytesL (l.take k) ++ bytesW l[k] := by
  unfold bytesL
  rw [List.take_succ_eq_append_getElem h, List.flatMap_append]
  simp

theorem bytesW_cells (x : UInt32) : [Value.int .u8 ((x.toNat : Int) / 16777216), Value.int .u8 ((x.toNat : Int) / 65536 % 256), Value.int .u8 ((x.toNat : Int) / 256 % 256), Value.int .u8 ((x.toNat : Int) % 256)] = (bytesW x).map vB := by
  have hx := u32_lt x
  unfold bytesW
  simp only [List.map_cons, List.map_nil, vB_ofNat]
  have e0 : ((x.toNat : Int) / 16777216) = ((x.toNat / 16777216 % 256 : Nat) : Int) := by omega
  rw [e0]
  simp
theorem bytes_round {L : List UInt32} {w wr w1 : World} {k : Nat} {x : UInt32} {u v : Value} {o : Obj} (hk : k < L.length) (ho : wr.ownsRow w.heap.size 5 1 u (bytesL (L.take k)).length ((bytesL (L.take k)).map vB))
    (hb : Below w.heap.size w wr) (HT : Hid (bytesL (L.take (k + 1)) = bytesL (L.take k) ++ bytesW x)) (hg : (wr.alloc o).grownBy w1 u.ownBlock)
    (ho' : w1.ownsRow w.heap.size 5 1 v ((bytesL (L.take k)).length + 4) ((bytesL (L.take k)).map vB ++ [Value.int .u8 ((x.toNat : Int) / 16777216), Value.int .u8 ((x.toNat : Int) / 65536 % 256), Value.int .u8 ((x.toNat : Int) / 256 % 256), Value.int .u8 ((x.toNat : Int) % 256)])) :
    BytesRel L w v (.int .i64 ((k : Int) + 1)) w1 :=
  ⟨k + 1, by omega, by go_num, by rw [HT.out]; rw [bytesW_cells, ← List.map_append] at ho'; simpa [bytesW] using ho',
    (hb.alloc hb.size o).grown hg (by have := hb.size; simp; omega) (fun k hk => (ho.lt k hk).1)⟩


end Go.Proofs.Ytkkfkibjamnpnaa
/-
  What bytes.Clone, slices.Clone, slices.Grow (of nil) and slices.Concat answer at lists of bytes: new memory that reads as the bytes did. Conditions: bounds on lengths, as typed.
-/
namespace Go.Proofs.Ytkkfkibjamnpnaa
set_option maxRecDepth 100000
open Go.RowKit
set_option linter.unusedSimpArgs false

/-- What a call that hands back a slice in new memory says of it. -/
def RetN {α : Type} (f : α → Value) (w : World) (l : List α) (e : Ending) (w' : World) : Prop :=
  ∃ A cap, e = .returned (.slice A l.length cap) ∧ l.length ≤ cap ∧ Rd f w' A l ∧ (∀ a, A = some a → w.heap.size ≤ a.block) ∧ Below w.heap.size w w'
theorem RetN.own {α : Type} {f : α → Value} {w w' : World} {l : List α} {e : TypeId} {v : Value} (h : w'.ownsRow w.heap.size e 1 v l.length (l.map f)) (hb : Below w.heap.size w w') : RetN f w l (.returned v) w' := by
  rcases h.2 with ⟨rfl, h0⟩ | ⟨g, cap, cur, rfl, hg, _, hc, _⟩
  · have hl : l = [] := List.eq_nil_of_length_eq_zero h0
    subst hl
    exact ⟨none, 0, rfl, Nat.le_refl _, Rd.nil, (fun a h => by cases h), hb⟩
  · exact ⟨_, cap, rfl, hc, Rd.own h, (fun a ha => by injection ha with ha; subst ha; exact hg), hb⟩
theorem RetN.ret {α : Type} {f : α → Value} {w w' : World} {l : List α} {e : Ending} (h : RetN f w l e w') : RetS f w l e w' := by
  obtain ⟨A, cap, h1, h2, h3, _, h5⟩ := h
  exact ⟨A, cap, h1, h2, h3, h5⟩

theorem clone_own (b : List UInt8) (A : Option Addr) (c : Nat) (w : World) (hr : Rd vB w A b) (hl : b.length ≤ 70368744177664) : Calls Try.prog 34 #[.slice A b.length c] w (RetO 5 vB w b) := by
  obtain ⟨i0, hi, hz0, hz1, hz2⟩ := info_parts info_u8
  cases A with
  | none =>
    have hb : b = [] := by
      by_cases h : b = []
      · exact h
      · obtain ⟨_, _, e, _⟩ := hr h
        cases e
    subst hb
    have hnil : ∀ W, (binOp .eql 22 (.slice none 0 c) (.slice none 0 0)).run Try.prog W = .ok (.bool true) W := fun W => Lib.run_eql_slice_nil W _ _ none 0 c 0 0 Try.underlying22
    go_enter Try.func34, Try.ntmps34
    go_wp2_with fail
    go_ret
    exact ⟨_, rfl, World.ownsRow_nil _ _ _ _, Below.refl _ _⟩
  | some a =>
    have hnil : ∀ W, (binOp .eql 22 (.slice (some a) b.length c) (.slice none 0 0)).run Try.prog W = .ok (.bool false) W := fun W => Lib.run_eql_slice_nil W _ _ (some a) b.length c 0 0 Try.underlying22
    have hown0 : (w.alloc (.cells #[] 5)).ownsRow w.heap.size 5 1 (.slice (some ⟨w.heap.size, 0, none⟩) 0 0) 0 [] := World.ownsRow_made w #[] 0 (Nat.le_refl _) (by unfold maxLen; omega) rfl
    have hr0 : Rd vB (w.alloc (.cells #[] 5)) (some a) b := hr.keep (below_new (Below.refl _ _) _)
    go_enter Try.func34, Try.ntmps34
    go_wp2_with (at_builtin; refine wpList_append_rd _ rfl (.tmp 5) (.tmp 6) 22 rfl w.heap.size 5 i0 (.int .u8 0) 1 Try.underlying22 hi hz0 hz1 hz2 rfl _ _ _ rfl hown0 (some a) b c rfl hr0 vB_one (by unfold maxLen; omega) (by omega) (by simp) ?_; intro v1 w1 hown1 hgrow1)
    go_ret
    rw [Nat.zero_add, List.nil_append] at hown1
    exact ⟨_, rfl, hown1, (below_new (Below.refl _ w) _).grown hgrow1 (by simp) (fun k hk => (hown0.lt k hk).1)⟩
theorem clone_b (b : List UInt8) (A : Option Addr) (c : Nat) (w : World) (hr : Rd vB w A b) (hl : b.length ≤ 70368744177664) : Calls Try.prog 34 #[.slice A b.length c] w (RetN vB w b) :=
  (clone_own b A c w hr hl).mono fun e w' ⟨v, he, ho, hb⟩ => by subst he; exact RetN.own ho hb



/-- A part of what is put together: its memory, its room, its bytes. -/
structure Part where
  A : Option Addr
  cap : Nat
  l : List UInt8
def vPart (p : Part) : Value := .slice p.A p.l.length p.cap
def flatL (ps : List Part) : List UInt8 := ps.flatMap (·.l)
theorem flatL_take (ps : List Part) (k : Nat) (h : k < ps.length) : flatL (ps.take (k + 1)) = flatL (ps.take k) ++ ps[k].l := by
  unfold flatL
  rw [List.take_succ_eq_append_getElem h, List.flatMap_append]
  simp
theorem flatL_le (ps : List Part) (k : Nat) : (flatL (ps.take k)).length ≤ (flatL ps).length := by
  conv => rhs; rw [← List.take_append_drop k ps]
  unfold flatL
  rw [List.flatMap_append, List.length_append]
  omega



end Go.Proofs.Ytkkfkibjamnpnaa
/-
  Rows of the call's own: their form, what is left of them behind other steps, two that stay apart, one known whole; one step more for plans (no program is named here). No conditions but those typed.
-/
namespace Go.Proofs.Ytkkfkibjamnpnaa
set_option maxRecDepth 100000
open Go.RowKit
set_option linter.unusedSimpArgs false
set_option linter.unusedVariables false

theorem ownsRow_same {w w' : World} {base : Nat} {e : TypeId} {v : Value} {n : Nat} {xs : List Value} (h : w.ownsRow base e 1 v n xs) (hh : ∀ b, base ≤ b → b < w.heap.size → w'.heap[b]? = w.heap[b]?) : w'.ownsRow base e 1 v n xs := by
  refine ⟨h.1, ?_⟩
  rcases h.2 with h0 | ⟨g, cap, cur, hv, hg, hc, r⟩
  · exact .inl h0
  · exact .inr ⟨g, cap, cur, hv, hg, (hh g hg (Array.getElem?_eq_some_iff.1 hc).1).trans hc, r⟩
theorem ownsRow_later {w w' : World} {base : Nat} {e : TypeId} {v : Value} {n : Nat} {xs : List Value} (h : w.ownsRow base e 1 v n xs) (hb : Below w.heap.size w w') : w'.ownsRow base e 1 v n xs := ownsRow_same h (fun b _ hb' => hb.block b hb')
theorem Rd.grown {α : Type} {f : α → Value} {w w' : World} {row : Option Nat} {A : Option Addr} {L : List α} (h : Rd f w A L) (hg : w.grownBy w' row) (hA : ∀ a, A = some a → row ≠ some a.block) : Rd f w' A L := fun hn => by
  obtain ⟨b, o, rfl, hc⟩ := h hn
  refine ⟨b, o, rfl, fun i hi => ?_⟩
  obtain ⟨_, _, _, _, h5⟩ := hg
  have hk := hc i hi
  have hlt : b < w.heap.size := World.block_lt_of_cell? w _ hk
  exact (World.cell?_of_block (w := w) (a := ⟨b, o + i, none⟩) (h5 b hlt (fun e => hA ⟨b, o, none⟩ rfl e.symm))).trans hk
theorem own_slice {α : Type} {f : α → Value} {w : World} {base : Nat} {e : TypeId} {v : Value} {l : List α} (h : w.ownsRow base e 1 v l.length (l.map f)) : ∃ A cap, v = .slice A l.length cap ∧ l.length ≤ cap ∧ Rd f w A l := by
  rcases h.2 with ⟨rfl, h0⟩ | ⟨g, cap, cur, rfl, _, _, hc, _⟩
  · have hl : l = [] := List.eq_nil_of_length_eq_zero h0
    subst hl
    exact ⟨none, 0, rfl, Nat.le_refl _, Rd.nil⟩
  · exact ⟨_, cap, rfl, hc, Rd.own h⟩

theorem Row.range_part {w : World} {g : Nat} {t : TypeId} {l : List Value} (h : Row w g t l) (o : Nat) (m : List Value) (hm : (l.drop o).take m.length = m) : w.rangeAt g o m := fun j v hv => by
  have hj : j < m.length := (List.getElem?_eq_some_iff.1 hv).1
  have := congrArg (·[j]?) hm
  simp only [List.getElem?_take, List.getElem?_drop, hj, if_true] at this
  exact h.cell (this.trans hv)

theorem own_form {w : World} {base : Nat} {e : TypeId} {v : Value} {n : Nat} {xs : List Value} (h : w.ownsRow base e 1 v n xs) : ∃ A cap, v = .slice A n cap ∧ n ≤ cap := by
  rcases h.2 with ⟨rfl, rfl⟩ | ⟨g, cap, cur, rfl, _, _, hc, _⟩
  · exact ⟨none, 0, rfl, Nat.le_refl _⟩
  · exact ⟨_, cap, rfl, hc⟩

theorem apart_symm {u v : Value} (h : u.ownBlock = none ∨ u.ownBlock ≠ v.ownBlock) : v.ownBlock = none ∨ v.ownBlock ≠ u.ownBlock := by
  rcases h with h | h
  · by_cases hv : v.ownBlock = none
    · exact .inl hv
    · exact .inr (by rw [h]; exact hv)
  · exact .inr (Ne.symm h)
/-- Apart, behind the growth of the second one. -/
theorem apart_grown {w : World} {base : Nat} {e : TypeId} {u v v' : Value} {n : Nat} {xs : List Value} (h : u.ownBlock = none ∨ u.ownBlock ≠ v.ownBlock) (ho : w.ownsRow base e 1 u n xs) (hat : v'.ownBlock = v.ownBlock ∨ v'.ownBlock = some w.heap.size) : u.ownBlock = none ∨ u.ownBlock ≠ v'.ownBlock := by
  rcases hat with hat | hat
  · rw [hat]; exact h
  · right
    rw [hat]
    intro hu
    have := (ho.lt _ hu).2
    omega
section
variable {P : Program} {ops : Array Oper} {Q : Exit → Act → World → Prop}
/-- One that makes memory; behind it a condition of one's own, which may speak of the new world. -/
theorem plan_make_to {i : Nat} {rest : Plan} {S : World → Prop} {o : Oper} {a : Act} {w : World} (ho : ops[i]? = some o) (hw : Region.wanted o (yielded ops a.tmps) = true)
    (h : ∀ K : Act → World → Prop, Shut (∀ (T : World → Prop) a' w', (∀ W, T W → S W) → T w' → wpPlan P ops Q rest T a' w' → K a' w') → o.wp P a w K Q) : wpPlan P ops Q (.step i true rest) S a w :=
  ⟨o, ho, .inr (.inr ⟨hw, rfl, h _ (fun T _ _ hT hb hr => ⟨T, hT, hb, hr⟩)⟩)⟩
end

/-- A row of the call's own, one place of it set. -/
theorem own_set {α : Type} {f : α → Value} {w : World} {base : Nat} {e : TypeId} {v : Value} {l : List α} {q : Nat} (h : w.ownsRow base e 1 v l.length (l.map f)) (hq : q < l.length) :
    ∃ g cap, v = .slice (some ⟨g, 0, none⟩) l.length cap ∧ base ≤ g ∧ g < w.heap.size ∧ l.length ≤ cap ∧ w.cell? ⟨g, q, none⟩ = some (f l[q]) ∧ w.frozen? ⟨g, q, none⟩ = false ∧ ∀ z : α, Rd f (w.setCell ⟨g, q, none⟩ (f z)) (some ⟨g, 0, none⟩) (l.set q z) := by
  rcases h.2 with ⟨rfl, h0⟩ | ⟨g, cap, cur, rfl, hg, hgg, hc, hm, hs, ht⟩
  · omega
  · have hR : Row w g e cur.toList := hgg
    rw [Nat.mul_one] at ht
    have hcell : w.cell? ⟨g, q, none⟩ = some (f l[q]) := by
      rw [hR.cell? q]
      have := congrArg (·[q]?) ht
      simpa [List.getElem?_take, hq] using this
    refine ⟨g, cap, rfl, hg, hR.lt, hc, hcell, hR.frozen _, fun z => ?_⟩
    refine Row.rd_at (hR.setCell q (f z)) ?_
    rw [List.drop_zero, List.length_set, List.take_set, ht, List.map_set]
end Go.Proofs.Ytkkfkibjamnpnaa
/-
  append of what reads as a list onto a row of the call's own: the row's block behind it is the one it was, or a new one; blocks known whole stay (no program is named here). No conditions but those typed.
-/
namespace Go.Proofs.Ytkkfkibjamnpnaa
set_option maxRecDepth 100000
open Go.RowKit

theorem Row.grown {w w' : World} {g : Nat} {t : TypeId} {l : List Value} {row : Option Nat} (h : Row w g t l) (hg : w.grownBy w' row) (hn : row ≠ some g) : Row w' g t l :=
  (hg.block g h.lt (fun e => hn e.symm)).trans h
/-- Apart from a block that was there. -/
theorem apart_of {w : World} {v v' : Value} {g : Nat} (h : v.ownBlock ≠ some g) (hg : g < w.heap.size) (hat : v'.ownBlock = v.ownBlock ∨ v'.ownBlock = some w.heap.size) : v'.ownBlock ≠ some g := by
  rcases hat with e | e
  · rw [e]; exact h
  · rw [e]
    intro h
    injection h with h
    omega
section
variable {P : Program} (w : World)
theorem run_append_apart {α : Type} {f : α → Value} (base : Nat) (t ty e : TypeId) (i : TypeInfo) (z : Value) (bytes : Nat) (ht : P.underlying t = some (.slice e)) (hi : P.info? e = some i) (hz : i.zero = some z)
    (hsize : i.size = 1) (hby : i.bytes = bytes) (hzs : z.cells.size = 1) (v : Value) (n : Nat) (xs : List Value) (hown : w.ownsRow base e 1 v n xs)
    (A : Option Addr) (l : List α) (c : Nat) (hr : Rd f w A l) (h1 : ∀ x, (f x).oneCell' = true)
    (h63 : n + l.length ≤ maxLen) (hbytes : (n + l.length) * bytes ≤ 140737488355328) (hbase : base ≤ w.heap.size) :
    ∃ v' w', (Builtin.append_ #[t, t] ty #[v, .slice A l.length c]).run P w = .ok v' w' ∧ w'.ownsRow base e 1 v' (n + l.length) (xs ++ l.map f) ∧ w.grownBy w' v.ownBlock ∧ (v'.ownBlock = v.ownBlock ∨ v'.ownBlock = some w.heap.size) := by
  have hone : ∀ u ∈ l.map f, u.oneCell' = true := by
    intro u hu
    simp only [List.mem_map] at hu
    obtain ⟨x, _, rfl⟩ := hu
    exact h1 x
  by_cases hl : l = []
  · subst hl
    cases A with
    | none => exact ⟨v, w, run_append_nothing_of w base t ty e i ht hi v n xs hown c, by simpa using hown, ⟨rfl, rfl, rfl, Nat.le_refl _, fun _ _ _ => rfl⟩, .inl rfl⟩
    | some ad =>
      obtain ⟨v', w', hrun, h2, h3, _, h4⟩ := run_append_own_at (P := P) w base t ty e i z 1 bytes ht hi hz hsize hby hzs (by omega) v n xs hown ad 0 c [] rfl (fun j u h => by simp at h) (fun u h => by simp at h) h63 hbytes hbase
      exact ⟨v', w', hrun, h2, h3, h4⟩
  · obtain ⟨b, o, rfl, _⟩ := hr hl
    obtain ⟨v', w', hrun, h2, h3, _, h4⟩ := run_append_own_at (P := P) w base t ty e i z 1 bytes ht hi hz hsize hby hzs (by omega) v n xs hown ⟨b, o, none⟩ l.length c (l.map f) (by simp) hr.news hone h63 hbytes hbase
    exact ⟨v', w', hrun, h2, h3, h4⟩

theorem wp_append_apart {α : Type} {f : α → Value} {o : Oper} {a : Act} {K : Act → World → Prop} {Q : Exit → Act → World → Prop} (s x : Operand) (t : TypeId)
    (ho : o.op = .call { callee := .builtin .append, args := #[s, x], argTypes := #[t, t] })
    (base : Nat) (e : TypeId) (i : TypeInfo) (z : Value) (bytes : Nat) (ht : P.underlying t = some (.slice e)) (hi : P.info? e = some i) (hz : i.zero = some z)
    (hsize : i.size = 1) (hby : i.bytes = bytes) (hzs : z.cells.size = 1) (v : Value) (n : Nat) (xs : List Value) (hs : a.eval s = v) (hown : w.ownsRow base e 1 v n xs)
    (A : Option Addr) (l : List α) (c : Nat) (hx : a.eval x = .slice A l.length c) (hr : Rd f w A l) (h1 : ∀ x, (f x).oneCell' = true)
    (h63 : n + l.length ≤ maxLen) (hbytes : (n + l.length) * bytes ≤ 140737488355328) (hbase : base ≤ w.heap.size)
    (h : ∀ v' w', w'.ownsRow base e 1 v' (n + l.length) (xs ++ l.map f) → w.grownBy w' v.ownBlock → (v'.ownBlock = v.ownBlock ∨ v'.ownBlock = some w.heap.size) → K (a.put o.dst v') w') : o.wp P a w K Q := by
  obtain ⟨v', w', hr, h2, h3, h4⟩ := run_append_apart (P := P) w base t o.type e i z bytes ht hi hz hsize hby hzs v n xs hown A l c hr h1 h63 hbytes hbase
  unfold Oper.wp execOp
  simp only [ho, resolve, invoke, builtin, Sem.run_bind, Sem.run_pure, Result.andThen_ok, List.map_toArray, List.map_cons, List.map_nil, hs, hx, hr]
  exact h v' w' h2 h3 h4

theorem wpList_append_apart {α : Type} {f : α → Value} {ops : Array Oper} {rest : List Oper} {o : Oper} {a : Act} {Q : Exit → Act → World → Prop} (hgd : o.guard = none) (s x : Operand) (t : TypeId)
    (ho : o.op = .call { callee := .builtin .append, args := #[s, x], argTypes := #[t, t] })
    (base : Nat) (e : TypeId) (i : TypeInfo) (z : Value) (bytes : Nat) (ht : P.underlying t = some (.slice e)) (hi : P.info? e = some i) (hz : i.zero = some z)
    (hsize : i.size = 1) (hby : i.bytes = bytes) (hzs : z.cells.size = 1) (v : Value) (n : Nat) (xs : List Value) (hs : a.eval s = v) (hown : w.ownsRow base e 1 v n xs)
    (A : Option Addr) (l : List α) (c : Nat) (hx : a.eval x = .slice A l.length c) (hr : Rd f w A l) (h1 : ∀ x, (f x).oneCell' = true)
    (h63 : n + l.length ≤ maxLen) (hbytes : (n + l.length) * bytes ≤ 140737488355328) (hbase : base ≤ w.heap.size)
    (h : ∀ v' w', w'.ownsRow base e 1 v' (n + l.length) (xs ++ l.map f) → w.grownBy w' v.ownBlock → (v'.ownBlock = v.ownBlock ∨ v'.ownBlock = some w.heap.size) → wpList P ops Q rest (a.put o.dst v') w') : wpList P ops Q (o :: rest) a w :=
  wpList_plain hgd fun _ hK => wp_append_apart w s x t ho base e i z bytes ht hi hz hsize hby hzs v n xs hs hown A l c hx hr h1 h63 hbytes hbase fun v' w' h2 h3 h4 => hK _ _ (h v' w' h2 h3 h4)
end
end Go.Proofs.Ytkkfkibjamnpnaa
/-
  The field of 256 elements as plain functions on bytes: products bit by bit, and what is left of them by 301; that they make a field. No conditions but those typed.
-/
namespace Go.Proofs.Ytkkfkibjamnpnaa
set_option maxRecDepth 100000

/-- The product of two polynomials over two elements, by the first i bits of the second one. -/
def clN (a b : Nat) : Nat → Nat
  | 0 => 0
  | i + 1 => if b / 2 ^ i % 2 = 1 then clN a b i ^^^ a * 2 ^ i else clN a b i
/-- What is left, of the bit k. -/
def stepN (p k : Nat) : Nat := if p / 2 ^ k % 2 = 1 then p ^^^ 301 * 2 ^ (k - 8) else p
def redN (p : Nat) : Nat := stepN (stepN (stepN (stepN (stepN (stepN (stepN p 14) 13) 12) 11) 10) 9) 8
def mulN (a b : Nat) : Nat := redN (clN a b 8)
def mulB (a b : UInt8) : UInt8 := UInt8.ofNat (mulN a.toNat b.toNat)
def addB (a b : UInt8) : UInt8 := a ^^^ b

theorem bit_xor (p q k : Nat) : (p ^^^ q) / 2 ^ k % 2 = 1 ↔ ¬ (p / 2 ^ k % 2 = 1 ↔ q / 2 ^ k % 2 = 1) := by
  have e : ∀ x : Nat, x / 2 ^ k % 2 = 1 ↔ x.testBit k = true := fun x => by
    rw [Nat.testBit_eq_decide_div_mod_eq]
    simp
  rw [e, e, e, Nat.testBit_xor]
  cases p.testBit k <;> cases q.testBit k <;> simp
theorem mul_xor (p q i : Nat) : (p ^^^ q) * 2 ^ i = p * 2 ^ i ^^^ q * 2 ^ i := by
  rw [← Nat.shiftLeft_eq, ← Nat.shiftLeft_eq, ← Nat.shiftLeft_eq, Nat.shiftLeft_xor_distrib]
theorem xor_four (a b c d : Nat) : (a ^^^ b) ^^^ (c ^^^ d) = (a ^^^ c) ^^^ (b ^^^ d) := by ac_rfl
theorem stepN_xor (p q k : Nat) : stepN (p ^^^ q) k = stepN p k ^^^ stepN q k := by
  unfold stepN
  have h := bit_xor p q k
  by_cases hp : p / 2 ^ k % 2 = 1 <;> by_cases hq : q / 2 ^ k % 2 = 1
  · rw [if_neg (by rw [h]; simp [hp, hq]), if_pos hp, if_pos hq, xor_four, Nat.xor_self, Nat.xor_zero]
  · rw [if_pos (by rw [h]; simp [hp, hq]), if_pos hp, if_neg hq]; ac_rfl
  · rw [if_pos (by rw [h]; simp [hp, hq]), if_neg hp, if_pos hq]; ac_rfl
  · rw [if_neg (by rw [h]; simp [hp, hq]), if_neg hp, if_neg hq]
theorem redN_xor (p q : Nat) : redN (p ^^^ q) = redN p ^^^ redN q := by
  unfold redN
  rw [stepN_xor, stepN_xor, stepN_xor, stepN_xor, stepN_xor, stepN_xor, stepN_xor]
theorem clN_xor_left (a a' b : Nat) : ∀ i, clN (a ^^^ a') b i = clN a b i ^^^ clN a' b i
  | 0 => by simp [clN]
  | i + 1 => by
    unfold clN
    rw [clN_xor_left a a' b i, mul_xor]
    split
    · rw [xor_four]
    · rfl
theorem clN_xor_right (a b b' : Nat) : ∀ i, clN a (b ^^^ b') i = clN a b i ^^^ clN a b' i
  | 0 => by simp [clN]
  | i + 1 => by
    unfold clN
    rw [clN_xor_right a b b' i]
    have h := bit_xor b b' i
    by_cases hp : b / 2 ^ i % 2 = 1 <;> by_cases hq : b' / 2 ^ i % 2 = 1
    · rw [if_neg (by rw [h]; simp [hp, hq]), if_pos hp, if_pos hq, xor_four, Nat.xor_self, Nat.xor_zero]
    · rw [if_pos (by rw [h]; simp [hp, hq]), if_pos hp, if_neg hq]; ac_rfl
    · rw [if_pos (by rw [h]; simp [hp, hq]), if_neg hp, if_pos hq]; ac_rfl
    · rw [if_neg (by rw [h]; simp [hp, hq]), if_neg hp, if_neg hq]
theorem ofNat_xor (p q : Nat) : UInt8.ofNat (p ^^^ q) = UInt8.ofNat p ^^^ UInt8.ofNat q := by
  apply UInt8.toNat_inj.1
  rw [UInt8.toNat_xor, UInt8.toNat_ofNat', UInt8.toNat_ofNat', UInt8.toNat_ofNat']
  exact Nat.xor_mod_two_pow
theorem mul_add_left (a a' b : UInt8) : mulB (addB a a') b = addB (mulB a b) (mulB a' b) := by
  unfold mulB mulN addB
  rw [UInt8.toNat_xor, clN_xor_left, redN_xor, ofNat_xor]
theorem mul_add_right (a b b' : UInt8) : mulB a (addB b b') = addB (mulB a b) (mulB a b') := by
  unfold mulB mulN addB
  rw [UInt8.toNat_xor, clN_xor_right, redN_xor, ofNat_xor]

/-! ### What is additive is told by the eight bits -/
theorem all_bytes {p : UInt8 → Prop} (h : ∀ n, n < 256 → p (UInt8.ofNat n)) (x : UInt8) : p x := by
  have := h x.toNat x.toNat_lt
  rwa [UInt8.ofNat_toNat] at this
theorem byte_bits (x : UInt8) : x = (x &&& 1) ^^^ ((x &&& 2) ^^^ ((x &&& 4) ^^^ ((x &&& 8) ^^^ ((x &&& 16) ^^^ ((x &&& 32) ^^^ ((x &&& 64) ^^^ (x &&& 128))))))) := by
  refine all_bytes (p := fun x => x = (x &&& 1) ^^^ ((x &&& 2) ^^^ ((x &&& 4) ^^^ ((x &&& 8) ^^^ ((x &&& 16) ^^^ ((x &&& 32) ^^^ ((x &&& 64) ^^^ (x &&& 128)))))))) ?_ x
  decide +kernel
theorem bit_or (x : UInt8) : ((x &&& 1) = 0 ∨ (x &&& 1) = 1) ∧ ((x &&& 2) = 0 ∨ (x &&& 2) = 2) ∧ ((x &&& 4) = 0 ∨ (x &&& 4) = 4) ∧ ((x &&& 8) = 0 ∨ (x &&& 8) = 8) ∧ ((x &&& 16) = 0 ∨ (x &&& 16) = 16) ∧ ((x &&& 32) = 0 ∨ (x &&& 32) = 32) ∧ ((x &&& 64) = 0 ∨ (x &&& 64) = 64) ∧ ((x &&& 128) = 0 ∨ (x &&& 128) = 128) := by
  refine all_bytes (p := fun x => ((x &&& 1) = 0 ∨ (x &&& 1) = 1) ∧ ((x &&& 2) = 0 ∨ (x &&& 2) = 2) ∧ ((x &&& 4) = 0 ∨ (x &&& 4) = 4) ∧ ((x &&& 8) = 0 ∨ (x &&& 8) = 8) ∧ ((x &&& 16) = 0 ∨ (x &&& 16) = 16) ∧ ((x &&& 32) = 0 ∨ (x &&& 32) = 32) ∧ ((x &&& 64) = 0 ∨ (x &&& 64) = 64) ∧ ((x &&& 128) = 0 ∨ (x &&& 128) = 128)) ?_ x
  decide +kernel
def bitsB : List UInt8 := [1, 2, 4, 8, 16, 32, 64, 128]
theorem add_self (x : UInt8) : addB x x = 0 := UInt8.xor_self
theorem add_zero (x : UInt8) : addB x 0 = x := UInt8.xor_zero
theorem zero_add (x : UInt8) : addB 0 x = x := UInt8.zero_xor
theorem add_comm (x y : UInt8) : addB x y = addB y x := UInt8.xor_comm x y
theorem add_assoc (x y z : UInt8) : addB (addB x y) z = addB x (addB y z) := UInt8.xor_assoc x y z
theorem additive_zero {f : UInt8 → UInt8} (hf : ∀ x y, f (addB x y) = addB (f x) (f y)) : f 0 = 0 := by
  have := hf 0 0
  rw [add_self, add_self] at this
  exact this
theorem additive_eq {f g : UInt8 → UInt8} (hf : ∀ x y, f (addB x y) = addB (f x) (f y)) (hg : ∀ x y, g (addB x y) = addB (g x) (g y)) (h : ∀ b ∈ bitsB, f b = g b) (x : UInt8) : f x = g x := by
  have f0 := additive_zero hf
  have g0 := additive_zero hg
  have one : ∀ (y b : UInt8), b ∈ bitsB → (y = 0 ∨ y = b) → f y = g y := by
    intro y b hb hy
    rcases hy with rfl | rfl
    · rw [f0, g0]
    · exact h _ hb
  obtain ⟨h1, h2, h3, h4, h5, h6, h7, h8⟩ := bit_or x
  have e1 := one _ 1 (by simp [bitsB]) h1
  have e2 := one _ 2 (by simp [bitsB]) h2
  have e3 := one _ 4 (by simp [bitsB]) h3
  have e4 := one _ 8 (by simp [bitsB]) h4
  have e5 := one _ 16 (by simp [bitsB]) h5
  have e6 := one _ 32 (by simp [bitsB]) h6
  have e7 := one _ 64 (by simp [bitsB]) h7
  have e8 := one _ 128 (by simp [bitsB]) h8
  have hx := byte_bits x
  generalize x &&& 1 = x1 at *
  generalize x &&& 2 = x2 at *
  generalize x &&& 4 = x3 at *
  generalize x &&& 8 = x4 at *
  generalize x &&& 16 = x5 at *
  generalize x &&& 32 = x6 at *
  generalize x &&& 64 = x7 at *
  generalize x &&& 128 = x8 at *
  have hx' : x = addB x1 (addB x2 (addB x3 (addB x4 (addB x5 (addB x6 (addB x7 x8)))))) := hx
  rw [hx', hf, hf, hf, hf, hf, hf, hf, hg, hg, hg, hg, hg, hg, hg, e1, e2, e3, e4, e5, e6, e7, e8]

theorem mul_comm (a b : UInt8) : mulB a b = mulB b a := by
  refine additive_eq (f := fun a => mulB a b) (g := fun a => mulB b a) (fun x y => mul_add_left x y b) (fun x y => mul_add_right b x y) (fun u hu => ?_) a
  refine additive_eq (f := fun b => mulB u b) (g := fun b => mulB b u) (fun x y => mul_add_right u x y) (fun x y => mul_add_left x y u) (fun v hv => ?_) b
  have : ∀ u ∈ bitsB, ∀ v ∈ bitsB, mulB u v = mulB v u := by decide +kernel
  exact this u hu v hv
theorem mul_assoc (a b c : UInt8) : mulB (mulB a b) c = mulB a (mulB b c) := by
  refine additive_eq (f := fun a => mulB (mulB a b) c) (g := fun a => mulB a (mulB b c)) (fun x y => by rw [mul_add_left, mul_add_left]) (fun x y => mul_add_left x y _) (fun u hu => ?_) a
  refine additive_eq (f := fun b => mulB (mulB u b) c) (g := fun b => mulB u (mulB b c)) (fun x y => by rw [mul_add_right, mul_add_left]) (fun x y => by rw [mul_add_left, mul_add_right]) (fun v hv => ?_) b
  refine additive_eq (f := fun c => mulB (mulB u v) c) (g := fun c => mulB u (mulB v c)) (fun x y => mul_add_right _ x y) (fun x y => by rw [mul_add_right, mul_add_right]) (fun w hw => ?_) c
  have : ∀ u ∈ bitsB, ∀ v ∈ bitsB, ∀ w ∈ bitsB, mulB (mulB u v) w = mulB u (mulB v w) := by decide +kernel
  exact this u hu v hv w hw
theorem mul_one (a : UInt8) : mulB a 1 = a := by
  refine additive_eq (f := fun a => mulB a 1) (g := fun a => a) (fun x y => mul_add_left x y 1) (fun _ _ => rfl) (fun u hu => ?_) a
  have : ∀ u ∈ bitsB, mulB u 1 = u := by decide +kernel
  exact this u hu
theorem one_mul (a : UInt8) : mulB 1 a = a := by rw [mul_comm, mul_one]
theorem mul_zero (a : UInt8) : mulB a 0 = 0 := additive_zero (f := fun b => mulB a b) (fun x y => mul_add_right a x y)
theorem zero_mul (a : UInt8) : mulB 0 a = 0 := by rw [mul_comm, mul_zero]

/-! ### Powers of 2 -/
def powB (a : UInt8) : Nat → UInt8
  | 0 => 1
  | n + 1 => mulB (powB a n) a
theorem pow_add (a : UInt8) (m : Nat) : ∀ n, powB a (m + n) = mulB (powB a m) (powB a n)
  | 0 => by rw [powB, mul_one]; rfl
  | n + 1 => by rw [← Nat.add_assoc, powB, pow_add a m n, powB, mul_assoc]
theorem pow_mul (a : UInt8) (m : Nat) : ∀ n, powB a (m * n) = powB (powB a m) n
  | 0 => rfl
  | n + 1 => by rw [Nat.mul_succ, pow_add, pow_mul a m n, powB]
theorem pow_one (n : Nat) : powB 1 n = 1 := by
  induction n with
  | zero => rfl
  | succ n ih => rw [powB, ih, mul_one]

/-- The powers of 2 from 0 on. -/
def expL : List UInt8 := [1, 2, 4, 8, 16, 32, 64, 128, 45, 90, 180, 69, 138, 57, 114, 228, 229, 231, 227, 235, 251, 219, 155, 27, 54, 108, 216, 157, 23, 46, 92, 184, 93, 186, 89, 178, 73, 146, 9, 18, 36, 72, 144, 13, 26, 52, 104, 208, 141, 55, 110, 220, 149, 7, 14, 28, 56, 112, 224, 237, 247, 195, 171, 123, 246, 193, 175, 115, 230, 225, 239, 243, 203, 187, 91, 182, 65, 130, 41, 82, 164, 101, 202, 185, 95, 190, 81, 162, 105, 210, 137, 63, 126, 252, 213, 135, 35, 70, 140, 53, 106, 212, 133, 39, 78, 156, 21, 42, 84, 168, 125, 250, 217, 159, 19, 38, 76, 152, 29, 58, 116, 232, 253, 215, 131, 43, 86, 172, 117, 234, 249, 223, 147, 11, 22, 44, 88, 176, 77, 154, 25, 50, 100, 200, 189, 87, 174, 113, 226, 233, 255, 211, 139, 59, 118, 236, 245, 199, 163, 107, 214, 129, 47, 94, 188, 85, 170, 121, 242, 201, 191, 83, 166, 97, 194, 169, 127, 254, 209, 143, 51, 102, 204, 181, 71, 142, 49, 98, 196, 165, 103, 206, 177, 79, 158, 17, 34, 68, 136, 61, 122, 244, 197, 167, 99, 198, 161, 111, 222, 145, 15, 30, 60, 120, 240, 205, 183, 67, 134, 33, 66, 132, 37, 74, 148, 5, 10, 20, 40, 80, 160, 109, 218, 153, 31, 62, 124, 248, 221, 151, 3, 6, 12, 24, 48, 96, 192, 173, 119, 238, 241, 207, 179, 75, 150]
def logL : List Nat := [0, 0, 1, 240, 2, 225, 241, 53, 3, 38, 226, 133, 242, 43, 54, 210, 4, 195, 39, 114, 227, 106, 134, 28, 243, 140, 44, 23, 55, 118, 211, 234, 5, 219, 196, 96, 40, 222, 115, 103, 228, 78, 107, 125, 135, 8, 29, 162, 244, 186, 141, 180, 45, 99, 24, 49, 56, 13, 119, 153, 212, 199, 235, 91, 6, 76, 220, 217, 197, 11, 97, 184, 41, 36, 223, 253, 116, 138, 104, 193, 229, 86, 79, 171, 108, 165, 126, 145, 136, 34, 9, 74, 30, 32, 163, 84, 245, 173, 187, 204, 142, 81, 181, 190, 46, 88, 100, 159, 25, 231, 50, 207, 57, 147, 14, 67, 120, 128, 154, 248, 213, 167, 200, 63, 236, 110, 92, 176, 7, 161, 77, 124, 221, 102, 218, 95, 198, 90, 12, 152, 98, 48, 185, 179, 42, 209, 37, 132, 224, 52, 254, 239, 117, 233, 139, 22, 105, 27, 194, 113, 230, 206, 87, 158, 80, 189, 172, 203, 109, 175, 166, 62, 127, 247, 146, 66, 137, 192, 35, 252, 10, 183, 75, 216, 31, 83, 33, 73, 164, 144, 85, 170, 246, 65, 174, 61, 188, 202, 205, 157, 143, 169, 82, 72, 182, 215, 191, 251, 47, 178, 89, 151, 101, 94, 160, 123, 26, 112, 232, 21, 51, 238, 208, 131, 58, 69, 148, 18, 15, 16, 68, 17, 121, 149, 129, 19, 155, 59, 249, 70, 214, 250, 168, 71, 201, 156, 64, 60, 237, 130, 111, 20, 93, 122, 177, 150]
theorem expL_length : expL.length = 255 := by decide +kernel
theorem expL_step : ∀ i, i < 254 → expL.getD (i + 1) 0 = mulB (expL.getD i 0) 2 := by decide +kernel
theorem exp_at : ∀ i, i < 255 → powB 2 i = expL.getD i 0
  | 0, _ => rfl
  | i + 1, h => by rw [powB, exp_at i (by omega), expL_step i (by omega)]
theorem exp_255 : powB 2 255 = 1 := by
  rw [show (255 : Nat) = 254 + 1 by rfl, powB, exp_at 254 (by omega)]
  decide +kernel
/-- Each element but 0 is a power of 2. -/
def logB (a : UInt8) : Nat := logL.getD a.toNat 0
theorem log_table : ∀ n, n < 256 → (n = 0 ∨ logL.getD n 0 < 255 ∧ expL.getD (logL.getD n 0) 0 = UInt8.ofNat n) := by decide +kernel
theorem exp_table : ∀ i, i < 255 → expL.getD i 0 ≠ 0 ∧ logL.getD (expL.getD i 0).toNat 0 = i := by decide +kernel
theorem log_lt (a : UInt8) (h : a ≠ 0) : logB a < 255 := by
  have := log_table a.toNat a.toNat_lt
  rcases this with h0 | ⟨h1, _⟩
  · exact absurd (UInt8.toNat_inj.1 h0) h
  · exact h1
theorem exp_log (a : UInt8) (h : a ≠ 0) : powB 2 (logB a) = a := by
  have := log_table a.toNat a.toNat_lt
  rcases this with h0 | ⟨h1, h2⟩
  · exact absurd (UInt8.toNat_inj.1 h0) h
  · rw [exp_at _ (log_lt a h)]
    unfold logB
    rw [h2, UInt8.ofNat_toNat]
theorem log_exp (i : Nat) (h : i < 255) : logB (powB 2 i) = i := by
  rw [exp_at i h]
  exact (exp_table i h).2
theorem exp_ne (i : Nat) : powB 2 i ≠ 0 := by
  have e : powB 2 i = powB 2 (i % 255) := by
    conv => lhs; rw [← Nat.div_add_mod i 255]
    rw [pow_add, pow_mul, exp_255, pow_one, one_mul]
  rw [e, exp_at _ (Nat.mod_lt _ (by omega))]
  exact (exp_table _ (Nat.mod_lt _ (by omega))).1
theorem exp_mod (i : Nat) : powB 2 i = powB 2 (i % 255) := by
  conv => lhs; rw [← Nat.div_add_mod i 255]
  rw [pow_add, pow_mul, exp_255, pow_one, one_mul]
theorem mul_ne (a b : UInt8) (ha : a ≠ 0) (hb : b ≠ 0) : mulB a b ≠ 0 := by
  rw [← exp_log a ha, ← exp_log b hb, ← pow_add]
  exact exp_ne _
theorem mul_eq_zero (a b : UInt8) : mulB a b = 0 ↔ a = 0 ∨ b = 0 := by
  constructor
  · intro h
    by_cases ha : a = 0
    · exact .inl ha
    · by_cases hb : b = 0
      · exact .inr hb
      · exact absurd h (mul_ne a b ha hb)
  · rintro (rfl | rfl)
    · exact zero_mul _
    · exact mul_zero _
theorem log_mul (a b : UInt8) (ha : a ≠ 0) (hb : b ≠ 0) : logB (mulB a b) = (logB a + logB b) % 255 := by
  conv => lhs; rw [← exp_log a ha, ← exp_log b hb, ← pow_add, exp_mod]
  exact log_exp _ (Nat.mod_lt _ (by omega))
theorem pow_255 (a : UInt8) (ha : a ≠ 0) : powB a 255 = 1 := by
  rw [← exp_log a ha, ← pow_mul, Nat.mul_comm, pow_mul, exp_255, pow_one]
theorem pow_mod (a : UInt8) (ha : a ≠ 0) (n : Nat) : powB a n = powB a (n % 255) := by
  conv => lhs; rw [← Nat.div_add_mod n 255]
  rw [pow_add, pow_mul, pow_255 a ha, pow_one, one_mul]
/-- The inverse. -/
def invB (a : UInt8) : UInt8 := powB a 254
theorem mul_inv (a : UInt8) (ha : a ≠ 0) : mulB a (invB a) = 1 := by
  have e : mulB (powB a 254) a = powB a 255 := rfl
  rw [invB, mul_comm, e, pow_255 a ha]
theorem inv_ne (a : UInt8) (ha : a ≠ 0) : invB a ≠ 0 := by
  intro h
  have := mul_inv a ha
  rw [h, mul_zero] at this
  exact absurd this (by decide)
theorem mul_cancel (a b c : UInt8) (ha : a ≠ 0) (h : mulB a b = mulB a c) : b = c := by
  have := congrArg (mulB (invB a)) h
  rwa [← mul_assoc, ← mul_assoc, mul_comm (invB a) a, mul_inv a ha, one_mul, one_mul] at this
theorem inv_unique (a b : UInt8) (h : mulB a b = 1) : b = invB a := by
  have ha : a ≠ 0 := by
    rintro rfl
    rw [zero_mul] at h
    exact absurd h (by decide)
  exact mul_cancel a b (invB a) ha (by rw [h, mul_inv a ha])
theorem square_add (a b : UInt8) : mulB (addB a b) (addB a b) = addB (mulB a a) (mulB b b) := by
  rw [mul_add_left, mul_add_right, mul_add_right, mul_comm b a, add_assoc, ← add_assoc (mulB a b) (mulB a b), add_self, zero_add]
end Go.Proofs.Ytkkfkibjamnpnaa
