/-
  Plain facts on words of 32 bits, bytes and numbers (no program is named here): a word turned to the right, the eight bytes of a number, the number of bytes. No conditions but those typed.
-/
import Derived.Laws.BitsAllLaws
import Derived.Laws.BitsLemmas
import Derived.IntWalk
import Derived.RowKit
import Derived.Below
import Derived.Laws.OwnMore
import Derived.Deep.Draws
import Derived.Deep.AppendLies
import Derived.Laws.BytesArg
import Derived.Laws.Slices
import Derived.Laws.MakeOwn
import Derived.Test.YteppocjgodmpdaaRows
import Derived.WalkKit
import Derived.WalkSpells
import Derived.Lib.Hide
import Derived.LoopTactic
import Derived.LoopN
import Derived.OwnWalk
import Derived.OrdersHeld
import Derived.Deep.RegionHeld3
import Derived.Deep.MidRow
import Derived.Laws.CopyOwn
import Derived.Lib.SliceRun
import Derived.Laws.ResultCell
import Derived.Laws.Concat
import Derived.Laws.Strings
import Derived.Test.YteppocjgodmpdaaChecked
namespace Go.Proofs.Yteppocjgodmpdaa
set_option maxRecDepth 100000
open Go.RowKit

/-! ### Words turned -/
def rotR (x : UInt32) (s : Nat) : UInt32 := ⟨x.toBitVec.rotateRight s⟩

theorem rot_bit (x : BitVec 32) (s i : Nat) (hi : i < 32) : (x.rotateRight s).getLsbD i = x.getLsbD ((i + s) % 32) := by
  rw [BitVec.getLsbD_rotateRight]
  have h32 : s % 32 < 32 := Nat.mod_lt _ (by omega)
  by_cases h : i < 32 - s % 32
  · have e : s % 32 + i = (i + s) % 32 := by omega
    simp [h, e]
  · have e : i - (32 - s % 32) = (i + s) % 32 := by omega
    simp [h, e, hi]

theorem rotR_rotR (x : UInt32) (s t : Nat) : rotR (rotR x s) t = rotR x (s + t) := by
  unfold rotR
  congr 1
  apply BitVec.eq_of_getLsbD_eq
  intro i hi
  rw [rot_bit _ _ _ hi, rot_bit _ _ _ (Nat.mod_lt _ (by omega)), rot_bit _ _ _ hi]
  congr 1
  omega

theorem rotR_mod (x : UInt32) (s : Nat) : rotR x (s % 32) = rotR x s := by
  unfold rotR
  rw [BitVec.rotateRight_mod_eq_rotateRight]

theorem rotR_same (x : UInt32) {s t : Nat} (h : s % 32 = t % 32) : rotR x s = rotR x t := by
  rw [← rotR_mod x s, ← rotR_mod x t, h]

theorem rotR_zero (x : UInt32) : rotR x 0 = x := by
  unfold rotR
  have : x.toBitVec.rotateRight 0 = x.toBitVec := by
    apply BitVec.eq_of_getLsbD_eq
    intro i hi
    rw [rot_bit _ _ _ hi]
    congr 1
    omega
  rw [this]

theorem rotR_32 (x : UInt32) : rotR x 32 = x := by
  rw [← rotR_mod]
  exact rotR_zero x

theorem u32_lt (x : UInt32) : x.toNat < 4294967296 := x.toNat_lt

/-- What the library's two shifts and 'or' give, is the word turned. -/
theorem shifts_rot (x : UInt32) (s : Nat) (hs : s < 32) :
    bits .or .u32 ((x.toNat : Int) * 2 ^ s % 4294967296) ((x.toNat : Int) / 2 ^ (32 - s)) = ((rotR x (32 - s)).toNat : Int) := by
  have hx := u32_lt x
  have e1 : (x.toNat : Int) * 2 ^ s % 4294967296 = ((x.toNat * 2 ^ s % 4294967296 : Nat) : Int) := by
    rw [Int.natCast_emod, Int.natCast_mul, Int.natCast_pow]
    rfl
  have e2 : (x.toNat : Int) / 2 ^ (32 - s) = ((x.toNat / 2 ^ (32 - s) : Nat) : Int) := by
    rw [Int.natCast_ediv, Int.natCast_pow]
    rfl
  have hd : x.toNat / 2 ^ (32 - s) < 4294967296 := Nat.lt_of_le_of_lt (Nat.div_le_self _ _) hx
  rw [e1, e2, u32_or_nat _ _ (Nat.mod_lt _ (by omega)) hd]
  congr 1
  have hb : (rotR x (32 - s)).toNat = (x.toBitVec <<< s ||| x.toBitVec >>> (32 - s)).toNat := by
    show (x.toBitVec.rotateRight (32 - s)).toNat = _
    congr 1
    apply BitVec.eq_of_getLsbD_eq
    intro i hi
    rw [rot_bit _ _ _ hi, BitVec.getLsbD_or, BitVec.getLsbD_shiftLeft, BitVec.getLsbD_ushiftRight]
    by_cases h : i < s
    · have e : (i + (32 - s)) % 32 = 32 - s + i := by omega
      simp [hi, h, e]
    · have e : (i + (32 - s)) % 32 = i - s := by omega
      have e' : x.toBitVec.getLsbD (32 - s + i) = false := BitVec.getLsbD_of_ge _ _ (by omega)
      simp [hi, h, e, e']
  rw [hb, BitVec.toNat_or, BitVec.toNat_shiftLeft, BitVec.toNat_ushiftRight, Nat.shiftLeft_eq, Nat.shiftRight_eq_div_pow]
  rfl

/-- The count by which the library turns to the left. -/
theorem and31 (n : Int) : bits .and .u64 (IntKind.u64.wrap (wrap64 (-n))) 31 = (((-n) % 32).toNat : Int) := by
  have hw : IntKind.u64.wrap (wrap64 (-n)) = (((-n) % 18446744073709551616).toNat : Int) := by
    rw [IntKind.wrap_u64]
    unfold wrap64
    omega
  rw [hw, show (31 : Int) = ((31 : Nat) : Int) from rfl, u64_and_nat _ _ (by omega) (by omega)]
  have := Nat.and_two_pow_sub_one_eq_mod ((-n) % 18446744073709551616).toNat 5
  simp only [Nat.reducePow, Nat.reduceSub] at this
  rw [this]
  omega

/-! ### Numbers and their bytes -/
/-- The number of bytes, the highest first. -/
def valN (l : List UInt8) : Nat := l.foldl (fun v c => v * 256 + c.toNat) 0

theorem valN_snoc (l : List UInt8) (c : UInt8) : valN (l ++ [c]) = valN l * 256 + c.toNat := by
  unfold valN
  rw [List.foldl_append]
  rfl
theorem valN_take (l : List UInt8) (k : Nat) (h : k < l.length) : valN (l.take (k + 1)) = valN (l.take k) * 256 + l[k].toNat := by
  rw [List.take_succ_eq_append_getElem h, valN_snoc]

/-- One byte more, as the program's shift and 'or' have it. -/
theorem join_step (a c : Nat) (hc : c < 256) :
    bits .or .u64 (IntKind.u64.wrap ((a : Int) % 18446744073709551616 * 256)) (c : Int) = (((a * 256 + c) % 18446744073709551616 : Nat) : Int) := by
  have e : IntKind.u64.wrap ((a : Int) % 18446744073709551616 * 256) = ((2 ^ 8 * (a % 72057594037927936) : Nat) : Int) := by
    rw [IntKind.wrap_u64]
    omega
  rw [e, u64_or_nat _ _ (by omega) (by omega), ← Nat.two_pow_add_eq_or_of_lt (by omega)]
  congr 1
  omega

theorem valN_lt (l : List UInt8) : valN l < 256 ^ l.length := by
  suffices h : ∀ (l : List UInt8) (v : Nat), l.foldl (fun v c => v * 256 + c.toNat) v < (v + 1) * 256 ^ l.length by
    have := h l 0
    unfold valN
    omega
  intro l
  induction l with
  | nil => intro v; simp
  | cons c l ih =>
    intro v
    have h := ih (v * 256 + c.toNat)
    have hc : c.toNat < 256 := c.toNat_lt
    refine Nat.lt_of_lt_of_le h ?_
    rw [List.length_cons, Nat.pow_succ, Nat.mul_comm (256 ^ l.length) 256, ← Nat.mul_assoc]
    exact Nat.mul_le_mul_right _ (by omega)
theorem valN_lt8 (l : List UInt8) (h : l.length ≤ 8) : valN l < 18446744073709551616 :=
  Nat.lt_of_lt_of_le (valN_lt l) (Nat.pow_le_pow_right (by omega) h)

/-- word.Get's and word.FromLeast's answers: the number, and the code. -/
def getR (l : List UInt8) : Nat × Int := if l.length = 8 then (valN l, 0) else (0, 1)
def fromR (l : List UInt8) : Nat × Int := if 8 < l.length then (0, 4) else if l.head? = some 0 then (0, 3) else (valN l, 0)

/-- The eight bytes of a number, the highest first; its least bytes. -/
def putL (v : Nat) : List UInt8 := (List.range 8).map fun i => UInt8.ofNat (v / 256 ^ (7 - i))
def leastL (v : Nat) : List UInt8 := (putL v).dropWhile (· == 0)

/-- The words whose bytes these are; what is left over doesn't count. The bytes of words. -/
def wordsL : List UInt8 → List UInt32
  | a :: b :: c :: d :: r => UInt32.ofNat (valN [a, b, c, d]) :: wordsL r
  | _ => []
def bytesW (x : UInt32) : List UInt8 := [UInt8.ofNat (x.toNat / 16777216), UInt8.ofNat (x.toNat / 65536), UInt8.ofNat (x.toNat / 256), UInt8.ofNat x.toNat]
def bytesL (l : List UInt32) : List UInt8 := l.flatMap bytesW

theorem wordsL_short (l : List UInt8) (h : l.length < 4) : wordsL l = [] := by
  match l, h with
  | [], _ => rfl
  | [_], _ => rfl
  | [_, _], _ => rfl
  | [_, _, _], _ => rfl
  | _ :: _ :: _ :: _ :: _, h => simp at h; omega

theorem ret_int2 {k k' : IntKind} {a b a' b' : Int} (h : a = b) (h' : a' = b') : Ending.returned (.tuple #[.int k a, .int k' a']) = .returned (.tuple #[.int k b, .int k' b']) := by rw [h, h']
theorem ret_int {k : IntKind} {a b : Int} (h : a = b) : Ending.returned (.int k a) = .returned (.int k b) := by rw [h]


/-- A byte turned by another one (behind a name of its own: 'simp' would take 'toNat' apart). -/
def xorB (x y : UInt8) : UInt8 := x ^^^ y
theorem u8_lt (x : UInt8) : x.toNat < 256 := x.toNat_lt
theorem u8_xor_b (x y : UInt8) : bits .xor .u8 (x.toNat : Int) (y.toNat : Int) = ((xorB x y).toNat : Int) := by
  rw [u8_xor_nat _ _ (u8_lt x) (u8_lt y)]
  simp [xorB]
theorem xorB_ne (x y : UInt8) (h : y ≠ 0) : xorB x y ≠ x := by
  intro e
  apply h
  have := congrArg (fun z => x ^^^ z) e
  simp only [xorB, ← UInt8.xor_assoc, UInt8.xor_self, UInt8.zero_xor] at this
  exact this
end Go.Proofs.Yteppocjgodmpdaa
/-
  Plain facts on numbers and their bytes, words and their bytes: each is read as it was, and has no other bytes. No program is named here.
-/
namespace Go.Proofs.Yteppocjgodmpdaa
set_option maxRecDepth 100000

/-- The n last bytes of a number, the highest first. -/
def dig : Nat → Nat → List UInt8
  | 0, _ => []
  | n + 1, v => dig n (v / 256) ++ [UInt8.ofNat v]

theorem putL_dig (v : Nat) : putL v = dig 8 v := by
  simp [putL, dig, List.range, List.range.loop, Nat.div_div_eq_div_mul]
theorem dig_length (n v : Nat) : (dig n v).length = n := by
  induction n generalizing v with
  | zero => rfl
  | succ n ih => simp [dig, ih]
theorem valN_dig (n v : Nat) : valN (dig n v) = v % 256 ^ n := by
  induction n generalizing v with
  | zero => simp [dig, valN, Nat.mod_one]
  | succ n ih =>
    rw [dig, valN_snoc, ih, UInt8.toNat_ofNat', show 256 ^ (n + 1) = 256 * 256 ^ n by rw [Nat.pow_succ, Nat.mul_comm], Nat.mod_mul]
    omega
theorem dig_valN (l : List UInt8) (n : Nat) (h : l.length = n) : dig n (valN l) = l := by
  induction n generalizing l with
  | zero => rw [List.eq_nil_of_length_eq_zero h]; rfl
  | succ n ih =>
    rcases List.eq_nil_or_concat l with rfl | ⟨l', c, rfl⟩
    · simp at h
    · simp only [List.concat_eq_append] at h ⊢
      have hc : c.toNat < 256 := c.toNat_lt
      rw [valN_snoc, dig, show (valN l' * 256 + c.toNat) / 256 = valN l' by omega, ih l' (by simpa using h)]
      congr 2
      apply UInt8.toNat_inj.1
      rw [UInt8.toNat_ofNat']
      omega
theorem valN_zeros (k : Nat) (l : List UInt8) : valN (List.replicate k 0 ++ l) = valN l := by
  induction k with
  | zero => simp
  | succ k ih =>
    rw [← ih]
    simp [valN, List.replicate_succ]
theorem valN_dropWhile (l : List UInt8) : valN (l.dropWhile (· == 0)) = valN l := by
  induction l with
  | nil => rfl
  | cons a l ih =>
    rw [List.dropWhile_cons]
    split
    · rename_i h
      have h0 : a = 0 := by simpa using h
      subst h0
      rw [ih]
      simp [valN]
    · rfl
theorem valN_putL (v : Nat) (hv : v < 18446744073709551616) : valN (putL v) = v := by
  rw [putL_dig, valN_dig]
  exact Nat.mod_eq_of_lt hv
theorem valN_leastL (v : Nat) (hv : v < 18446744073709551616) : valN (leastL v) = v := by
  rw [leastL, valN_dropWhile, valN_putL v hv]
theorem leastL_length (v : Nat) : (leastL v).length ≤ 8 := by
  have h : (putL v).length = 8 := rfl
  have := (List.dropWhile_sublist (fun x : UInt8 => x == 0) (l := putL v)).length_le
  unfold leastL
  omega
theorem head_dropWhile (l : List UInt8) : (l.dropWhile (· == 0)).head? ≠ some 0 := by
  induction l with
  | nil => simp
  | cons a l ih =>
    rw [List.dropWhile_cons]
    split
    · exact ih
    · rename_i h
      simpa using h
theorem getR_putL (v : Nat) (hv : v < 18446744073709551616) : getR (putL v) = (v, 0) := by
  unfold getR
  rw [if_pos (show (putL v).length = 8 from rfl), valN_putL v hv]
theorem fromR_leastL (v : Nat) (hv : v < 18446744073709551616) : fromR (leastL v) = (v, 0) := by
  unfold fromR
  have := leastL_length v
  rw [if_neg (by omega), if_neg (show ¬ (leastL v).head? = some 0 from head_dropWhile _), valN_leastL v hv]
theorem leastL_valN (l : List UInt8) (h8 : l.length ≤ 8) (h0 : l.head? ≠ some 0) : leastL (valN l) = l := by
  unfold leastL
  have e : putL (valN l) = List.replicate (8 - l.length) 0 ++ l := by
    rw [putL_dig, ← valN_zeros (8 - l.length) l]
    exact dig_valN _ 8 (by simp; omega)
  rw [e]
  clear e
  generalize 8 - l.length = k
  induction k with
  | zero =>
    cases l with
    | nil => rfl
    | cons a l =>
      simp only [List.replicate_zero, List.nil_append]
      rw [List.dropWhile_cons, if_neg (by simpa using h0)]
  | succ k ih =>
    rw [List.replicate_succ, List.cons_append, List.dropWhile_cons, if_pos (by rfl)]
    exact ih
theorem fromR_bad (l : List UInt8) (h : (fromR l).2 ≠ 0) : (fromR l).1 = 0 := by
  unfold fromR at h ⊢
  split
  · rfl
  · split
    · rfl
    · rename_i h1 h2
      rw [if_neg h1, if_neg h2] at h
      exact absurd rfl h
theorem fromR_good (l : List UInt8) (h : (fromR l).2 = 0) : leastL (fromR l).1 = l ∧ (fromR l).1 < 18446744073709551616 := by
  unfold fromR at h ⊢
  by_cases h1 : 8 < l.length
  · rw [if_pos h1] at h
    cases h
  · by_cases h2 : l.head? = some 0
    · rw [if_neg h1, if_pos h2] at h
      cases h
    · rw [if_neg h1, if_neg h2]
      exact ⟨leastL_valN l (by omega) h2, valN_lt8 l (by omega)⟩
theorem leastL_inj (v w : Nat) (hv : v < 18446744073709551616) (hw : w < 18446744073709551616) : leastL v = leastL w ↔ v = w :=
  ⟨fun h => by rw [← valN_leastL v hv, h, valN_leastL w hw], fun h => by rw [h]⟩
theorem valN_cons (a : UInt8) (l : List UInt8) : valN (a :: l) = a.toNat * 256 ^ l.length + valN l := by
  have h : ∀ (l : List UInt8) (v : Nat), l.foldl (fun v c => v * 256 + c.toNat) v = v * 256 ^ l.length + valN l := by
    intro l
    induction l with
    | nil => intro v; simp [valN]
    | cons c l ih =>
      intro v
      have e : valN (c :: l) = (0 * 256 + c.toNat) * 256 ^ l.length + valN l := ih _
      rw [List.foldl_cons, ih, e, List.length_cons, Nat.pow_succ, Nat.zero_mul, Nat.zero_add, Nat.add_mul, Nat.mul_assoc, Nat.mul_comm 256, Nat.add_assoc]
  have := h l a.toNat
  simpa [valN] using this
theorem leastL_mono (v w : Nat) (hv : v < 18446744073709551616) (hw : w < 18446744073709551616) (h : v ≤ w) : (leastL v).length ≤ (leastL w).length := by
  rcases Nat.lt_or_ge (leastL w).length (leastL v).length with hlt | hge
  · exfalso
    have h1 := valN_lt (leastL w)
    rw [valN_leastL w hw] at h1
    have h2 := valN_leastL v hv
    have h3 := head_dropWhile (putL v)
    change (leastL v).head? ≠ some 0 at h3
    match hm : leastL v, hlt, h2, h3 with
    | [], hlt, _, _ => simp at hlt
    | a :: l, hlt, h2, h3 =>
      have ha : a.toNat ≠ 0 := fun e => h3 (by simp [UInt8.toNat_inj.1 (show a.toNat = (0 : UInt8).toNat from e)])
      rw [valN_cons] at h2
      have h4 : 256 ^ (leastL w).length ≤ 256 ^ l.length := Nat.pow_le_pow_right (by omega) (by simp at hlt; omega)
      have h5 : 256 ^ l.length ≤ a.toNat * 256 ^ l.length := Nat.le_mul_of_pos_left _ (by omega)
      omega
  · exact hge
theorem valN_bytesW (x : UInt32) : valN (bytesW x) = x.toNat := by
  have hx := u32_lt x
  simp only [bytesW, valN, List.foldl_cons, List.foldl_nil, UInt8.toNat_ofNat']
  omega
theorem wordsL_bytesL (l : List UInt32) : wordsL (bytesL l) = l := by
  induction l with
  | nil => rfl
  | cons x l ih =>
    have e : bytesL (x :: l) = bytesW x ++ bytesL l := by simp [bytesL]
    rw [e]
    show UInt32.ofNat (valN (bytesW x)) :: wordsL (bytesL l) = _
    rw [ih, valN_bytesW]
    congr 1
    apply UInt32.toNat_inj.1
    rw [UInt32.toNat_ofNat', Nat.mod_eq_of_lt (u32_lt x)]
theorem bytesW_valN (a b c d : UInt8) : bytesW (UInt32.ofNat (valN [a, b, c, d])) = [a, b, c, d] := by
  have ha : a.toNat < 256 := a.toNat_lt
  have hb : b.toNat < 256 := b.toNat_lt
  have hc : c.toNat < 256 := c.toNat_lt
  have hd : d.toNat < 256 := d.toNat_lt
  have hv : valN [a, b, c, d] = ((a.toNat * 256 + b.toNat) * 256 + c.toNat) * 256 + d.toNat := by simp [valN]
  have ht : (UInt32.ofNat (valN [a, b, c, d])).toNat = ((a.toNat * 256 + b.toNat) * 256 + c.toNat) * 256 + d.toNat := by rw [UInt32.toNat_ofNat', hv]; omega
  unfold bytesW
  rw [ht]
  congr 1
  · apply UInt8.toNat_inj.1; rw [UInt8.toNat_ofNat']; omega
  congr 1
  · apply UInt8.toNat_inj.1; rw [UInt8.toNat_ofNat']; omega
  congr 1
  · apply UInt8.toNat_inj.1; rw [UInt8.toNat_ofNat']; omega
  congr 1
  · apply UInt8.toNat_inj.1; rw [UInt8.toNat_ofNat']; omega
theorem bytesL_wordsL : ∀ (l : List UInt8), bytesL (wordsL l) = l.take (l.length / 4 * 4)
  | [] => rfl
  | [_] => by rw [wordsL_short _ (by simp)]; simp [bytesL]
  | [_, _] => by rw [wordsL_short _ (by simp)]; simp [bytesL]
  | [_, _, _] => by rw [wordsL_short _ (by simp)]; simp [bytesL]
  | a :: b :: c :: d :: l => by
    have e : bytesL (wordsL (a :: b :: c :: d :: l)) = bytesW (UInt32.ofNat (valN [a, b, c, d])) ++ bytesL (wordsL l) := by simp [wordsL, bytesL]
    rw [e, bytesW_valN, bytesL_wordsL l]
    have e2 : (a :: b :: c :: d :: l).length / 4 * 4 = l.length / 4 * 4 + 4 := by simp; omega
    rw [e2]
    simp [List.take_succ_cons]

end Go.Proofs.Yteppocjgodmpdaa
/-
  Layer 12 as plain functions: a payload's bytes, and what any bytes are; read back; cut, and with more behind. No conditions but those typed.
-/
namespace Go.Proofs.Yteppocjgodmpdaa
set_option maxRecDepth 100000
set_option linter.unusedVariables false
set_option linter.unusedSimpArgs false

/-! ### Numbers -/
def numF (x : Nat) : List UInt8 := UInt8.ofNat (leastL x).length :: leastL x
/-- Why not (0: fine), the number, and what is left. -/
def readN : List UInt8 → Int × Nat × List UInt8
  | [] => (2, 0, [])
  | n :: r => if 8 < n.toNat then (4, 0, []) else if r.length < n.toNat then (2, 0, []) else if 0 < n.toNat ∧ r.head? = some 0 then (3, 0, []) else (0, valN (r.take n.toNat), r.drop n.toNat)
theorem readN_cons (n : UInt8) (r : List UInt8) : readN (n :: r) = if 8 < n.toNat then (4, 0, []) else if r.length < n.toNat then (2, 0, []) else if 0 < n.toNat ∧ r.head? = some 0 then (3, 0, []) else (0, valN (r.take n.toNat), r.drop n.toNat) := rfl
theorem least_count (x : Nat) : (UInt8.ofNat (leastL x).length).toNat = (leastL x).length := by
  have := leastL_length x
  rw [UInt8.toNat_ofNat']
  omega
theorem least_head (x : Nat) : (leastL x).head? ≠ some 0 := head_dropWhile (putL x)
theorem head_append (a r : List UInt8) (h : 0 < a.length) : (a ++ r).head? = a.head? := by
  cases a with
  | nil => simp at h
  | cons c a => rfl
theorem readN_num (x : Nat) (r : List UInt8) (hx : x < 18446744073709551616) : readN (numF x ++ r) = (0, x, r) := by
  unfold numF
  rw [List.cons_append, readN_cons, least_count]
  have h8 := leastL_length x
  rw [if_neg (by omega), if_neg (by rw [List.length_append]; omega)]
  rw [if_neg (by
    rintro ⟨h1, h2⟩
    rw [head_append _ _ h1] at h2
    exact least_head x h2)]
  rw [List.take_left, List.drop_left, valN_leastL x hx]
theorem readN_good (b r : List UInt8) (x : Nat) (h : readN b = (0, x, r)) : b = numF x ++ r ∧ x < 18446744073709551616 := by
  cases b with
  | nil => simp [readN] at h
  | cons n s =>
    rw [readN_cons] at h
    split at h
    · simp at h
    · rename_i h8
      split at h
      · simp at h
      · rename_i hl
        split at h
        · simp at h
        · rename_i h0
          simp only [Prod.mk.injEq, true_and] at h
          obtain ⟨e1, e2⟩ := h
          have htl : (s.take n.toNat).length = n.toNat := by rw [List.length_take]; omega
          have hhd : (s.take n.toNat).head? ≠ some 0 := by
            intro hh
            apply h0
            rcases Nat.eq_zero_or_pos n.toNat with hz | hp
            · rw [hz, List.take_zero] at hh
              simp at hh
            · refine ⟨hp, ?_⟩
              rw [← hh, List.head?_take, if_neg (by omega)]
          have hle := leastL_valN (s.take n.toNat) (by omega) hhd
          have hv := valN_lt8 (s.take n.toNat) (by omega)
          rw [e1] at hle hv
          refine ⟨?_, hv⟩
          unfold numF
          rw [hle, htl, UInt8.ofNat_toNat, ← e2, List.cons_append, List.take_append_drop]
/-- Cut within a number: too short. -/
theorem readN_cut (x : Nat) (hx : x < 18446744073709551616) (k : Nat) (hk : k < (numF x).length) : (readN ((numF x).take k)).1 = 2 := by
  cases k with
  | zero => rfl
  | succ k =>
    unfold numF at hk ⊢
    rw [List.length_cons] at hk
    rw [List.take_succ_cons, readN_cons, least_count]
    have := leastL_length x
    rw [if_neg (by omega), if_pos (by rw [List.length_take]; omega)]
theorem readN_left (x : Nat) (r : List UInt8) (hx : x < 18446744073709551616) (k : Nat) (hk : (numF x).length ≤ k) : readN ((numF x ++ r).take k) = (0, x, r.take (k - (numF x).length)) := by
  rw [List.take_append, List.take_of_length_le hk, readN_num x _ hx]
theorem readN_short (x : Nat) (r : List UInt8) (hx : x < 18446744073709551616) (k : Nat) (hk : k < (numF x).length) : (readN ((numF x ++ r).take k)).1 = 2 := by
  rw [List.take_append_of_le_length (by omega)]
  exact readN_cut x hx k hk

/-! ### Payloads -/
def writeF (t e c : Nat) (tag : List UInt8) : List UInt8 := 87 :: (numF t ++ (numF e ++ (numF c ++ tag)))
def readT (t e c : Nat) (r : List UInt8) : Int × Nat × Nat × Nat × List UInt8 := if r.length < 8 then (2, 0, 0, 0, []) else if 8 < r.length then (4, 0, 0, 0, []) else (0, t, e, c, r)
def readC (t e : Nat) (b : List UInt8) : Int × Nat × Nat × Nat × List UInt8 := if (readN b).1 = 0 then readT t e (readN b).2.1 (readN b).2.2 else ((readN b).1, 0, 0, 0, [])
def readE (t : Nat) (b : List UInt8) : Int × Nat × Nat × Nat × List UInt8 := if (readN b).1 = 0 then readC t (readN b).2.1 (readN b).2.2 else ((readN b).1, 0, 0, 0, [])
def readB (b : List UInt8) : Int × Nat × Nat × Nat × List UInt8 := if (readN b).1 = 0 then readE (readN b).2.1 (readN b).2.2 else ((readN b).1, 0, 0, 0, [])
def readF : List UInt8 → Int × Nat × Nat × Nat × List UInt8
  | [] => (2, 0, 0, 0, [])
  | x :: r => if x ≠ 87 then (3, 0, 0, 0, []) else readB r
theorem readF_cons (x : UInt8) (r : List UInt8) : readF (x :: r) = if x ≠ 87 then (3, 0, 0, 0, []) else readB r := rfl
section
variable {t e c : Nat} {tag : List UInt8} (ht : t < 18446744073709551616) (he : e < 18446744073709551616) (hc : c < 18446744073709551616)
include ht he hc
theorem read_write_of (r : List UInt8) : readF (87 :: (numF t ++ (numF e ++ (numF c ++ r)))) = readT t e c r := by
  rw [readF_cons, if_neg (by simp)]
  unfold readB
  rw [readN_num t _ ht, if_pos rfl]
  unfold readE
  dsimp only
  rw [readN_num e _ he, if_pos rfl]
  unfold readC
  dsimp only
  rw [readN_num c _ hc, if_pos rfl]
theorem read_write (h8 : tag.length = 8) : readF (writeF t e c tag) = (0, t, e, c, tag) := by
  unfold writeF
  rw [read_write_of ht he hc]
  unfold readT
  rw [if_neg (by omega), if_neg (by omega)]
theorem read_more (more : List UInt8) (h8 : tag.length = 8) (hm : 0 < more.length) : (readF (writeF t e c tag ++ more)).1 = 4 := by
  have e1 : writeF t e c tag ++ more = 87 :: (numF t ++ (numF e ++ (numF c ++ (tag ++ more)))) := by
    unfold writeF
    simp only [List.cons_append, List.append_assoc]
  rw [e1, read_write_of ht he hc]
  unfold readT
  rw [if_neg (by rw [List.length_append]; omega), if_pos (by rw [List.length_append]; omega)]
theorem read_cut (k : Nat) (h8 : tag.length = 8) (hk : k < (writeF t e c tag).length) : (readF ((writeF t e c tag).take k)).1 = 2 := by
  cases k with
  | zero => rfl
  | succ k =>
    unfold writeF at hk ⊢
    rw [List.length_cons] at hk
    rw [List.take_succ_cons, readF_cons, if_neg (by simp)]
    unfold readB
    by_cases h1 : k < (numF t).length
    · have := readN_short t (numF e ++ (numF c ++ tag)) ht k h1
      rw [if_neg (by rw [this]; decide)]
      exact this
    · rw [readN_left t _ ht k (by omega), if_pos rfl]
      unfold readE
      dsimp only
      generalize hk1 : k - (numF t).length = k1
      by_cases h2 : k1 < (numF e).length
      · have := readN_short e (numF c ++ tag) he k1 h2
        rw [if_neg (by rw [this]; decide)]
        exact this
      · rw [readN_left e _ he k1 (by omega), if_pos rfl]
        unfold readC
        dsimp only
        generalize hk2 : k1 - (numF e).length = k2
        by_cases h3 : k2 < (numF c).length
        · have := readN_short c tag hc k2 h3
          rw [if_neg (by rw [this]; decide)]
          exact this
        · rw [readN_left c _ hc k2 (by omega), if_pos rfl]
          unfold readT
          dsimp only
          simp only [List.length_append] at hk
          rw [if_pos (by rw [List.length_take]; omega)]
end
theorem read_good (b : List UInt8) (t e c : Nat) (tag : List UInt8) (h : readF b = (0, t, e, c, tag)) : b = writeF t e c tag ∧ tag.length = 8 ∧ t < 18446744073709551616 ∧ e < 18446744073709551616 ∧ c < 18446744073709551616 := by
  cases b with
  | nil => simp [readF] at h
  | cons x r =>
    rw [readF_cons] at h
    split at h
    · simp at h
    · rename_i hx
      have ex : x = 87 := Classical.byContradiction hx
      unfold readB at h
      split at h
      · rename_i h1
        obtain ⟨b1, l1⟩ := readN_good r (readN r).2.2 (readN r).2.1 (by rw [← h1])
        generalize (readN r).2.1 = t1 at h b1 l1
        generalize (readN r).2.2 = r1 at h b1
        unfold readE at h
        split at h
        · rename_i h2
          obtain ⟨b2, l2⟩ := readN_good r1 (readN r1).2.2 (readN r1).2.1 (by rw [← h2])
          generalize (readN r1).2.1 = e1 at h b2 l2
          generalize (readN r1).2.2 = r2 at h b2
          unfold readC at h
          split at h
          · rename_i h3
            obtain ⟨b3, l3⟩ := readN_good r2 (readN r2).2.2 (readN r2).2.1 (by rw [← h3])
            generalize (readN r2).2.1 = c1 at h b3 l3
            generalize (readN r2).2.2 = r3 at h b3
            unfold readT at h
            split at h
            · simp at h
            · split at h
              · simp at h
              · simp only [Prod.mk.injEq, true_and] at h
                obtain ⟨rfl, rfl, rfl, rfl⟩ := h
                refine ⟨?_, by omega, l1, l2, l3⟩
                unfold writeF
                rw [ex, b1, b2, b3]
          · rename_i h3
            simp only [Prod.mk.injEq] at h
            exact absurd h.1 h3
        · rename_i h2
          simp only [Prod.mk.injEq] at h
          exact absurd h.1 h2
      · rename_i h1
        simp only [Prod.mk.injEq] at h
        exact absurd h.1 h1
theorem write_inj {t e c t' e' c' : Nat} {tag tag' : List UInt8} (ht : t < 18446744073709551616) (he : e < 18446744073709551616) (hc : c < 18446744073709551616) (ht' : t' < 18446744073709551616) (he' : e' < 18446744073709551616) (hc' : c' < 18446744073709551616) (h8 : tag.length = 8) (h8' : tag'.length = 8) :
    writeF t e c tag = writeF t' e' c' tag' ↔ t = t' ∧ e = e' ∧ c = c' ∧ tag = tag' := by
  constructor
  · intro h
    have h1 := read_write ht he hc h8
    rw [h, read_write ht' he' hc' h8'] at h1
    simp only [Prod.mk.injEq, true_and] at h1
    obtain ⟨rfl, rfl, rfl, rfl⟩ := h1
    exact ⟨rfl, rfl, rfl, rfl⟩
  · rintro ⟨rfl, rfl, rfl, rfl⟩
    rfl
theorem num_length (x : Nat) : 1 ≤ (numF x).length ∧ (numF x).length ≤ 9 := by
  have := leastL_length x
  unfold numF
  rw [List.length_cons]
  omega
theorem write_length (t e c : Nat) (tag : List UInt8) (h8 : tag.length = 8) : 12 ≤ (writeF t e c tag).length ∧ (writeF t e c tag).length ≤ 36 := by
  have h1 := num_length t
  have h2 := num_length e
  have h3 := num_length c
  unfold writeF
  rw [List.length_cons, List.length_append, List.length_append, List.length_append]
  omega
/-- What a tag is of. -/
def msgF (t e c : Nat) : List UInt8 := 67 :: (putL t ++ (putL e ++ putL c))
theorem putL_len (v : Nat) : (putL v).length = 8 := rfl
theorem putL_injF {v w : Nat} (hv : v < 18446744073709551616) (hw : w < 18446744073709551616) (h : putL v = putL w) : v = w := by rw [← valN_putL v hv, h, valN_putL w hw]
theorem msg_inj {t e c t' e' c' : Nat} (ht : t < 18446744073709551616) (he : e < 18446744073709551616) (hc : c < 18446744073709551616) (ht' : t' < 18446744073709551616) (he' : e' < 18446744073709551616) (hc' : c' < 18446744073709551616) : msgF t e c = msgF t' e' c' ↔ t = t' ∧ e = e' ∧ c = c' := by
  constructor
  · intro h
    unfold msgF at h
    injection h with _ h
    obtain ⟨h1, h2⟩ := List.append_inj h rfl
    obtain ⟨h3, h4⟩ := List.append_inj h2 rfl
    exact ⟨putL_injF ht ht' h1, putL_injF he he' h3, putL_injF hc hc' h4⟩
  · rintro ⟨rfl, rfl, rfl⟩
    rfl
end Go.Proofs.Yteppocjgodmpdaa
/-
  Words for memory (no program is named here): a slice value that reads as a list, kept while nothing that was there is written; a slice cut; bytes made into a string. No conditions but those typed.
-/
namespace Go.Proofs.Yteppocjgodmpdaa
set_option maxRecDepth 100000
open Go.RowKit

def vB (c : UInt8) : Value := .int .u8 (c.toNat : Int)
def vW (c : UInt32) : Value := .int .u32 (c.toNat : Int)

/-- The slice value with address A reads, in world w, as the list l. -/
def Rd {α : Type} (f : α → Value) (w : World) (A : Option Addr) (l : List α) : Prop :=
  l ≠ [] → ∃ b o, A = some ⟨b, o, none⟩ ∧ ∀ i (h : i < l.length), w.cell? ⟨b, o + i, none⟩ = some (f l[i])

section
variable {α : Type} {f : α → Value} {w w' : World} {A : Option Addr} {l : List α}
theorem Rd.nil : Rd f w A [] := fun h => absurd rfl h
theorem Rd.keep (h : Rd f w A l) (hb : Below w.heap.size w w') : Rd f w' A l := fun hn => by
  obtain ⟨b, o, e, hc⟩ := h hn
  refine ⟨b, o, e, fun i hi => ?_⟩
  have := hc i hi
  rw [hb.cell (p := ⟨b, o + i, none⟩) (World.block_lt_of_cell? w _ this)]
  exact this
theorem Rd.at (h : Rd f w A l) {k : Nat} (hk : k < l.length) : ∃ b o, A = some ⟨b, o, none⟩ ∧ b < w.heap.size ∧ ∀ i (hi : i < l.length), w.cell? ⟨b, o + i, none⟩ = some (f l[i]) := by
  obtain ⟨b, o, e, hc⟩ := h (by rintro rfl; simp at hk)
  exact ⟨b, o, e, World.block_lt_of_cell? w _ (hc k hk), hc⟩
theorem Rd.new (w : World) (l : List α) (cs : Array Value) (e : TypeId) (h : cs = (l.map f).toArray) : Rd f (w.alloc (.cells cs e)) (some ⟨w.heap.size, 0, none⟩) l := fun _ => by
  refine ⟨w.heap.size, 0, rfl, fun i hi => ?_⟩
  subst h
  rw [cell_of_row _ w.heap.size (0 + i) _ e (0, 0) (heap_alloc_new w _)]
  simp [hi]
theorem Rd.new_at (w : World) (g : Nat) (hg : g = w.heap.size) (l : List α) (cs : Array Value) (e : TypeId) (h : cs = (l.map f).toArray) : Rd f (w.alloc (.cells cs e)) (some ⟨g, 0, none⟩) l := by
  subst hg
  exact Rd.new w l cs e h
theorem Rd.drop (h : Rd f w A l) (k : Nat) (cap : Nat) (hc : l.length ≤ cap) : Rd f w (if cap = k then A else A.map (·.add (k * 1))) (l.drop k) := fun hn => by
  have hk : k < l.length := by
    rcases Nat.lt_or_ge k l.length with h | h
    · exact h
    · exact absurd (List.drop_eq_nil_of_le h) hn
  obtain ⟨b, o, e, hcell⟩ := h (by rintro rfl; simp at hk)
  subst e
  rw [if_neg (by omega)]
  refine ⟨b, o + k, by simp [Addr.add], fun i hi => ?_⟩
  have hi' : k + i < l.length := by simp at hi; omega
  rw [Nat.add_assoc, hcell (k + i) hi']
  simp
theorem Rd.take (h : Rd f w A l) (k : Nat) : Rd f w A (l.take k) := fun hn => by
  obtain ⟨b, o, e, hcell⟩ := h (by rintro rfl; simp at hn)
  refine ⟨b, o, e, fun i hi => ?_⟩
  have hi' : i < l.length := by simp at hi; omega
  rw [hcell i hi']
  simp
theorem Rd.news {b o : Nat} (h : Rd f w (some ⟨b, o, none⟩) l) (j : Nat) (u : Value) (hu : (l.map f)[j]? = some u) : w.cell? ((⟨b, o, none⟩ : Addr).add j) = some u := by
  have hj : j < l.length := by
    rcases Nat.lt_or_ge j l.length with h | h
    · exact h
    · rw [List.getElem?_eq_none (by simpa using h)] at hu
      cases hu
  obtain ⟨b', o', e, hc⟩ := h (by rintro rfl; simp at hj)
  injection e with e
  injection e with e1 e2 _
  subst e1 e2
  have e1 : (⟨b, o, none⟩ : Addr).add j = ⟨b, o + j, none⟩ := by unfold Addr.add; split <;> simp_all
  rw [e1, hc j hj]
  simpa [hj] using hu
theorem Rd.own {base : Nat} {e : TypeId} {n c : Nat} (h : w.ownsRow base e 1 (.slice A n c) n (l.map f)) : Rd f w A l := fun hn => by
  have hl : l.length = n := by simpa using h.1
  have hpos : 0 < n := by
    rcases Nat.eq_zero_or_pos n with h0 | h0
    · exact absurd (List.eq_nil_of_length_eq_zero (by omega)) hn
    · exact h0
  obtain ⟨g, cap, hv, _, hlt⟩ := h.form hpos
  have hA : A = some ⟨g, 0, none⟩ := by injection hv
  subst hA
  refine ⟨g, 0, rfl, fun i hi => ?_⟩
  have := h.cells (g := g) rfl i (f l[i]) (by simp [hi])
  have e1 : (⟨g, 0, none⟩ : Addr).add i = ⟨g, 0 + i, none⟩ := by unfold Addr.add; split <;> simp_all
  rw [← e1]
  exact this
end

/-- 's[k:]': one name for the address that is left. -/
theorem cut_from {P : Program} (t e : TypeId) (ht : P.underlying t = some (.slice e)) (hz : ∀ w, (sizeOf e).run P w = .ok 1 w) (A : Option Addr) (n cap k : Nat) (hk : k ≤ n) (hc : n ≤ cap) :
    ∃ A', (∀ w, (Instr.slice t (.slice A n cap) (some (.int .i64 (k : Int))) none none).run P w = .ok (.slice A' (n - k) (cap - k)) w) ∧
      ∀ {α : Type} (f : α → Value) (w : World) (l : List α), l.length = n → Rd f w A l → Rd f w A' (l.drop k) := by
  have ht' : P.underlying t = some (.slice (P.elem t)) := by simp [Program.elem, ht]
  have he : P.elem t = e := by simp [Program.elem, ht]
  refine ⟨if cap = k then A else A.map (·.add (k * 1)), fun w => ?_, fun f w l hl h => h.drop k cap (by omega)⟩
  rw [run_slice_l w t A n cap ht' .i64 (k : Int) (by omega) (by omega), he, hz]
  simp [Result.andThen, sliced]

theorem run_cut_to {P : Program} (t e : TypeId) (ht : P.underlying t = some (.slice e)) (hz : ∀ w, (sizeOf e).run P w = .ok 1 w) (A : Option Addr) (n cap k : Nat) (hk : k ≤ cap) (w : World) :
    (Instr.slice t (.slice A n cap) none (some (.int .i64 (k : Int))) none).run P w = .ok (.slice A k cap) w := by
  have ht' : P.underlying t = some (.slice (P.elem t)) := by simp [Program.elem, ht]
  have he : P.elem t = e := by simp [Program.elem, ht]
  have e2 : (if cap = 0 then A else A.map (·.add 0)) = A := by
    split
    · rfl
    · cases A <;> simp [Addr.add]
  rw [run_slice_h w t A n cap ht' .i64 (k : Int) (by omega) (by omega), he, hz]
  simp only [Result.andThen, sliced, Nat.zero_mul, Nat.sub_zero, Int.toNat_natCast, e2]
/-- 's[:k]'. -/
theorem cut_to {P : Program} (t e : TypeId) (ht : P.underlying t = some (.slice e)) (hz : ∀ w, (sizeOf e).run P w = .ok 1 w) (A : Option Addr) (n cap k : Nat) (hk : k ≤ cap) :
    ∃ A', (∀ w, (Instr.slice t (.slice A n cap) none (some (.int .i64 (k : Int))) none).run P w = .ok (.slice A' k cap) w) ∧
      ∀ {α : Type} (f : α → Value) (w : World) (l : List α), Rd f w A l → Rd f w A' (l.take k) :=
  ⟨A, fun w => run_cut_to t e ht hz A n cap k hk w, fun _ _ _ h => h.take k⟩

/-- 'string(b)'. -/
theorem run_str {P : Program} (w : World) (src e dst : TypeId) (hs : P.underlying src = some (.slice e)) (he : P.underlying e = some (.int .u8)) (hd : P.underlying dst = some .string)
    (A : Option Addr) (l : List UInt8) (n cap : Nat) (hn : l.length = n) (h : Rd vB w A l) : (convert src dst (.slice A n cap)).run P w = .ok (.string ⟨l.toArray⟩) w := by
  by_cases hl : l = []
  · subst hl
    subst hn
    cases A with
    | none => rw [run_convert_bytes_nil w src e hs he _ _ dst hd]; rfl
    | some a =>
      rw [run_convert_bytes_string w src dst e _ _ cap hs he hd, run_bytesToString w a _ cap [] (by
        have := run_loadCells_list (P := P) w a [] (fun j v hj => by simp at hj)
        simpa using this)]
      rfl
  · obtain ⟨b, o, rfl, hc⟩ := h hl
    rw [run_convert_bytes_arg w src e hs he b o n cap (l.map fun c => (c.toNat : Int)) (by simpa using hn) (fun i hi => by
      have hi' : i < l.length := by omega
      rw [hc i hi']
      simp [vB, List.getD, hi']) dst hd]
    have : strOfNums (l.map fun c => (c.toNat : Int)) = ⟨l.toArray⟩ := by
      unfold strOfNums
      congr 2
      rw [List.map_map]
      conv => rhs; rw [← List.map_id l]
      apply List.map_congr_left
      intro x _
      simp
    rw [this]

/-- 'string(b)', in every later world. -/
theorem run_str_later {P : Program} {w : World} {src e dst : TypeId} (hs : P.underlying src = some (.slice e)) (he : P.underlying e = some (.int .u8)) (hd : P.underlying dst = some .string)
    {A : Option Addr} {l : List UInt8} {cap : Nat} (h : Rd vB w A l) : ∀ W, Below w.heap.size w W → (convert src dst (.slice A l.length cap)).run P W = .ok (.string ⟨l.toArray⟩) W :=
  fun W hb => run_str W src e dst hs he hd A l l.length cap rfl (h.keep hb)

theorem cells_new (w : World) (cs : Array Value) (e : TypeId) (j : Nat) (u : Value) (h : cs.toList[j]? = some u) : (w.alloc (.cells cs e)).cell? ((⟨w.heap.size, 0, none⟩ : Addr).add j) = some u := by
  have e1 : (⟨w.heap.size, 0, none⟩ : Addr).add j = ⟨w.heap.size, j, none⟩ := by unfold Addr.add; split <;> simp_all
  rw [e1, cell_of_row _ w.heap.size j _ e (0, 0) (heap_alloc_new w _)]
  simpa using h

/-! ### What comes in -/
theorem u32_of_wf {a : Int} (h : (Lit.int .u32 a).wf = true) : ∃ x : UInt32, a = (x.toNat : Int) := by
  simp [Lit.wf, IntKind.min, IntKind.max, IntKind.signed, IntKind.bits] at h
  exact ⟨UInt32.ofNat a.toNat, by rw [UInt32.toNat_ofNat']; omega⟩
theorem u64_of_wf {a : Int} (h : (Lit.int .u64 a).wf = true) : ∃ v : Nat, v < 18446744073709551616 ∧ a = (v : Int) := by
  simp [Lit.wf, IntKind.min, IntKind.max, IntKind.signed, IntKind.bits] at h
  exact ⟨a.toNat, by omega, by omega⟩
theorem i64_of_wf {a : Int} (h : (Lit.int .i64 a).wf = true) : -9223372036854775808 ≤ a ∧ a ≤ 9223372036854775807 := by
  simp [Lit.wf, IntKind.min, IntKind.max, IntKind.signed, IntKind.bits] at h
  omega
theorem rd_of_row {α : Type} {f : α → Value} {k : IntKind} {w : World} {a : Option Addr} {len cap : Nat} {zs : List Int} (g : Int → α) (hg : ∀ n, (Lit.int k n).wf = true → f (g n) = .int k n)
    (h : (a = none ∧ len = 0 ∧ cap = 0 ∧ zs = []) ∨ ∃ x, a = some x ∧ len ≤ cap ∧ cap ≤ maxLen ∧ zs.length = cap ∧ (∀ i, i < zs.length → w.cell? (x.add i) = some (.int k (zs.getD i 0))) ∧ ∀ n ∈ zs, (Lit.int k n).wf = true) :
    ∃ l : List α, l.length = len ∧ len ≤ cap ∧ cap ≤ 9223372036854775807 ∧ Rd f w a l := by
  rcases h with ⟨rfl, rfl, rfl, rfl⟩ | ⟨x, rfl, hlc, hm, hz, hc, hwf⟩
  · exact ⟨[], rfl, Nat.le_refl _, by omega, Rd.nil⟩
  · unfold maxLen at hm
    refine ⟨(zs.take len).map g, by rw [List.length_map, List.length_take]; omega, hlc, by omega, fun hn => ?_⟩
    have hlen : 0 < len := by
      rcases Nat.eq_zero_or_pos len with h | h
      · subst h; simp at hn
      · exact h
    obtain ⟨b, o, spot⟩ := x
    have h0 := hc 0 (by omega)
    have hspot : spot = none := by simpa [Addr.add] using World.cell?_spot h0
    subst hspot
    refine ⟨b, o, rfl, fun i hi => ?_⟩
    have hi' : i < zs.length := by simp at hi; omega
    have e1 : (⟨b, o, none⟩ : Addr).add i = ⟨b, o + i, none⟩ := by unfold Addr.add; split <;> simp_all
    rw [← e1, hc i hi']
    have e2 : zs.getD i 0 = zs[i] := by simp [List.getD, hi']
    rw [e2]
    simp only [List.getElem_map, List.getElem_take]
    rw [hg _ (hwf _ (List.getElem_mem hi'))]
theorem bytes_of_row {w : World} {a : Option Addr} {len cap : Nat} {zs : List Int}
    (h : (a = none ∧ len = 0 ∧ cap = 0 ∧ zs = []) ∨ ∃ x, a = some x ∧ len ≤ cap ∧ cap ≤ maxLen ∧ zs.length = cap ∧ (∀ i, i < zs.length → w.cell? (x.add i) = some (.int .u8 (zs.getD i 0))) ∧ ∀ n ∈ zs, (Lit.int .u8 n).wf = true) :
    ∃ l : List UInt8, l.length = len ∧ len ≤ cap ∧ cap ≤ 9223372036854775807 ∧ Rd vB w a l :=
  rd_of_row (fun n => UInt8.ofNat n.toNat) (fun n hn => by
    simp [Lit.wf, IntKind.min, IntKind.max, IntKind.signed, IntKind.bits] at hn
    unfold vB
    rw [UInt8.toNat_ofNat']
    congr 1
    omega) h
theorem words_of_row {w : World} {a : Option Addr} {len cap : Nat} {zs : List Int}
    (h : (a = none ∧ len = 0 ∧ cap = 0 ∧ zs = []) ∨ ∃ x, a = some x ∧ len ≤ cap ∧ cap ≤ maxLen ∧ zs.length = cap ∧ (∀ i, i < zs.length → w.cell? (x.add i) = some (.int .u32 (zs.getD i 0))) ∧ ∀ n ∈ zs, (Lit.int .u32 n).wf = true) :
    ∃ l : List UInt32, l.length = len ∧ len ≤ cap ∧ cap ≤ 9223372036854775807 ∧ Rd vW w a l :=
  rd_of_row (fun n => UInt32.ofNat n.toNat) (fun n hn => by
    simp [Lit.wf, IntKind.min, IntKind.max, IntKind.signed, IntKind.bits] at hn
    unfold vW
    rw [UInt32.toNat_ofNat']
    congr 1
    omega) h

theorem below_drewN {B : Nat} {a w : World} (h : Below B a w) (n : Nat) : Below B a (w.drewN n) := ⟨h.os, h.tape, h.output, h.size, h.block⟩
theorem below_from_drew {B : Nat} {a w : World} (h : Below B a w) : Below B a.drew w := ⟨h.os, h.tape, h.output, h.size, h.block⟩
/-- A call behind other ones; a new block behind them. -/
theorem below_step {a w w' : World} (h : Below a.heap.size a w) (k : Below w.heap.size w w') : Below a.heap.size a w' := h.trans (k.mono h.size)
theorem below_after {a w w' : World} (k : Below w.heap.size w w') (h : Below a.heap.size a w) : Below a.heap.size a w' := below_step h k
theorem below_new {a w : World} (h : Below a.heap.size a w) (o : Obj) : Below a.heap.size a (w.alloc o) := h.alloc h.size o

/-- What a call that hands back a new slice says of it. -/
def RetS {α : Type} (f : α → Value) (w : World) (l : List α) (e : Ending) (w' : World) : Prop :=
  ∃ A cap, e = .returned (.slice A l.length cap) ∧ l.length ≤ cap ∧ Rd f w' A l ∧ Below w.heap.size w w'

/-- .. and owns it: it may be appended to. -/
def RetO {α : Type} (t : TypeId) (f : α → Value) (w : World) (l : List α) (e : Ending) (w' : World) : Prop :=
  ∃ v, e = .returned v ∧ w'.ownsRow w.heap.size t 1 v l.length (l.map f) ∧ Below w.heap.size w w'
theorem RetS.own {α : Type} {f : α → Value} {w w' : World} {l : List α} {base : Nat} {e : TypeId} {v : Value} (h : w'.ownsRow base e 1 v l.length (l.map f)) (hb : Below w.heap.size w w') : RetS f w l (.returned v) w' := by
  rcases h.2 with ⟨rfl, h0⟩ | ⟨g, cap, cur, rfl, _, _, hc, _⟩
  · have hl : l = [] := List.eq_nil_of_length_eq_zero h0
    subst hl
    exact ⟨none, 0, rfl, Nat.le_refl _, Rd.nil, hb⟩
  · exact ⟨_, cap, rfl, hc, Rd.own h, hb⟩

theorem RetO.ret {α : Type} {t : TypeId} {f : α → Value} {w w' : World} {l : List α} {e : Ending} (h : RetO t f w l e w') : RetS f w l e w' := by
  obtain ⟨v, rfl, ho, hb⟩ := h
  exact RetS.own ho hb

end Go.Proofs.Yteppocjgodmpdaa
/-
  What the calls word.Rot and math/bits.RotateLeft32 answer: the word turned (every word, every count that an int may be).
-/
namespace Go.Proofs.Yteppocjgodmpdaa
set_option maxRecDepth 100000
open Go.RowKit


end Go.Proofs.Yteppocjgodmpdaa
/-
  What the call word.join answers: the number of the bytes, modulo 2^64.
-/
namespace Go.Proofs.Yteppocjgodmpdaa
set_option maxRecDepth 100000
open Go.RowKit

theorem join_any (l : List UInt8) (A : Option Addr) (cap : Nat) (w : World) (hr : Rd vB w A l) (hl : l.length ≤ 9223372036854775807) :
    Calls Try.prog 27 #[.slice A l.length cap] w fun e w' => e = .returned (.int .u64 ((valN l % 18446744073709551616 : Nat) : Int)) ∧ w = w' := by
  go_enter Try.func27, Try.ntmps27
  go_wp2
  go_loop [3, 8] (fun v i => ∃ k : Nat, k ≤ l.length ∧ i = .int .i64 k ∧ v = .int .u64 ((valN (l.take k) % 18446744073709551616 : Nat) : Int)) (fun _ i => l.length - (intOf i).toNat)
  case atStart => exact ⟨0, Nat.zero_le _, rfl, rfl⟩
  case round =>
    obtain ⟨k, hk, rfl, rfl⟩ := hrel
    by_cases hlt : k < l.length
    · obtain ⟨b, o, rfl, hb, hcell⟩ := hr.at hlt
      have hc := hcell k hlt
      unfold vB at hc
      have hb8 : l[k].toNat < 256 := l[k].toNat_lt
      have HS : Hid _ := join_step (valN (l.take k)) l[k].toNat hb8
      have HT : Hid _ := valN_take l k hlt
      generalize l[k] = c at hc hb8 HS HT
      clear hcell hr
      go_wp2
      go_round
      case rel => exact ⟨k + 1, by omega, by go_num, by rw [HT.out, HS.out]⟩
      case measure => simp [intOf]; omega
    · have hk' : k = l.length := by omega
      have HK : Hid (l.take k = l) := by rw [hk']; exact List.take_length
      clear hk'
      go_wp2
      go_ret
      exact ⟨ret_int (by rw [HK.out]), rfl⟩

end Go.Proofs.Yteppocjgodmpdaa
/-
  What the calls word.Get and word.FromLeast answer, for any bytes.
-/
namespace Go.Proofs.Yteppocjgodmpdaa
set_option maxRecDepth 100000
open Go.RowKit


theorem from_any (l : List UInt8) (A : Option Addr) (cap : Nat) (w : World) (hr : Rd vB w A l) (hl : l.length ≤ 9223372036854775807) :
    Calls Try.prog 26 #[.slice A l.length cap] w fun e w' => e = .returned (.tuple #[.int .u64 ((fromR l).1 : Int), .int .i64 (fromR l).2]) ∧ w = w' := by
  by_cases h8 : 8 < l.length
  · have H : Hid (fromR l = (0, 4)) := by unfold Hid fromR; rw [if_pos h8]
    go_enter Try.func26, Try.ntmps26
    go_wp2_with fail
    go_ret2
    exact ⟨ret_int2 (by rw [H.out]; rfl) (by rw [H.out]), rfl⟩
  · have hv := valN_lt8 l (by omega)
    by_cases h0 : l = []
    · subst h0
      have H : Hid (fromR [] = (0, 0)) := rfl
      have hr' : Rd vB w A [] := hr
      go_enter Try.func26, Try.ntmps26
      go_wp2_with (go_at_call 27; refine (join_any [] _ _ _ hr' (by simp)).mono ?_; rintro e w' ⟨rfl, rfl⟩)
      go_ret2
      exact ⟨ret_int2 rfl rfl, rfl⟩
    · have hpos : 0 < l.length := by
        rcases Nat.eq_zero_or_pos l.length with h | h
        · exact absurd (List.eq_nil_of_length_eq_zero h) h0
        · exact h
      obtain ⟨b, o, rfl, hb, hcell⟩ := hr.at hpos
      have hc := hcell 0 hpos
      have hh : l.head? = some l[0] := by rw [List.head?_eq_getElem?]; exact List.getElem?_eq_getElem hpos
      unfold vB at hc
      rw [Nat.add_zero] at hc
      by_cases hz : l[0] = 0
      · have H : Hid (fromR l = (0, 3)) := by unfold Hid fromR; rw [if_neg h8, hh, hz, if_pos rfl]
        have hc' : w.cell? ⟨b, o, none⟩ = some (.int .u8 0) := by rw [hc, hz]; rfl
        clear hc hcell hz hh hr
        go_enter Try.func26, Try.ntmps26
        go_wp2_with fail
        go_ret2
        exact ⟨ret_int2 (by rw [H.out]; rfl) (by rw [H.out]), rfl⟩
      · have H : Hid (fromR l = (valN l, 0)) := by unfold Hid fromR; rw [if_neg h8, hh, if_neg (by simpa using hz)]
        have hne : ((l[0].toNat : Int) == 0) = false := by
          have : l[0].toNat ≠ 0 := fun h => hz (UInt8.toNat_inj.1 h)
          simp
          omega
        generalize l[0] = c at hc hne
        clear hcell hz hh
        go_enter Try.func26, Try.ntmps26
        go_wp2_with (go_at_call 27; refine (join_any l _ _ _ hr hl).mono ?_; rintro e w' ⟨rfl, rfl⟩)
        go_ret2
        exact ⟨ret_int2 (by rw [H.out]; show (valN l : Int) % _ = (valN l : Int); omega) (by rw [H.out]), rfl⟩

end Go.Proofs.Yteppocjgodmpdaa
/-
  What the calls word.Put and word.Least answer, for any number.
-/
namespace Go.Proofs.Yteppocjgodmpdaa
set_option maxRecDepth 100000
open Go.RowKit

theorem vB_ofNat (n : Nat) : vB (UInt8.ofNat n) = .int .u8 ((n % 256 : Nat) : Int) := by
  unfold vB
  rw [UInt8.toNat_ofNat']
theorem put_cells (v : Nat) (hv : v < 18446744073709551616) :
    #[Value.int IntKind.u8 ((v : Int) / 72057594037927936), Value.int IntKind.u8 ((v : Int) / 281474976710656 % 256), Value.int IntKind.u8 ((v : Int) / 1099511627776 % 256), Value.int IntKind.u8 ((v : Int) / 4294967296 % 256),
      Value.int IntKind.u8 ((v : Int) / 16777216 % 256), Value.int IntKind.u8 ((v : Int) / 65536 % 256), Value.int IntKind.u8 ((v : Int) / 256 % 256), Value.int IntKind.u8 ((v : Int) % 256)] = ((putL v).map vB).toArray := by
  have e : (putL v).map vB = [vB (UInt8.ofNat (v / 72057594037927936)), vB (UInt8.ofNat (v / 281474976710656)), vB (UInt8.ofNat (v / 1099511627776)), vB (UInt8.ofNat (v / 4294967296)),
      vB (UInt8.ofNat (v / 16777216)), vB (UInt8.ofNat (v / 65536)), vB (UInt8.ofNat (v / 256)), vB (UInt8.ofNat (v / 1))] := rfl
  rw [e]
  simp only [vB_ofNat]
  have e0 : ((v : Int) / 72057594037927936) = ((v / 72057594037927936 % 256 : Nat) : Int) := by omega
  rw [e0]
  simp
theorem putL_length (v : Nat) : (putL v).length = 8 := rfl

theorem put_any (v : Nat) (hv : v < 18446744073709551616) (w : World) :
    Calls Try.prog 22 #[.int .u64 (v : Int)] w (RetS vB w (putL v)) := by
  have hmk : ∀ w, (Instr.makeSlice 23 (.int .i64 8) (.int .i64 8)).run Try.prog w = .ok (.slice (some ⟨w.heap.size, 0, none⟩) 8 8) (w.alloc (.cells #[.int .u8 0, .int .u8 0, .int .u8 0, .int .u8 0, .int .u8 0, .int .u8 0, .int .u8 0, .int .u8 0] 5)) := fun _ => by kernel_rfl
  go_enter Try.func22, Try.ntmps22
  go_wp2
  refine wp_loop_rounds 9 ?_
  iterate 9 (rw [rounds_succ]; go_wp2)
  go_ret
  exact ⟨_, 8, rfl, Nat.le_refl _, Rd.new _ _ _ _ (put_cells v hv), (Below.refl _ _).alloc (Nat.le_refl _) _⟩

def LeastRel (L : List UInt8) (w : World) (s : Value) : Prop := ∃ (M : List UInt8) (A : Option Addr) (cap : Nat), s = .slice A M.length cap ∧ M.length ≤ cap ∧ M.length ≤ 8 ∧ Rd vB w A M ∧ L.dropWhile (· == 0) = M.dropWhile (· == 0)
def sliceLen : Value → Nat | .slice _ n _ => n | _ => 0

theorem size_uint8 (w : World) : (sizeOf 5).run Try.prog w = .ok 1 w := by kernel_rfl

theorem least_any (v : Nat) (hv : v < 18446744073709551616) (w : World) :
    Calls Try.prog 14 #[.int .u64 (v : Int)] w (RetS vB w (leastL v)) := by
  have H8 : Hid (∀ L, L = putL v → L.length = 8) := by rintro L rfl; rfl
  have HL : Hid (∀ L, L = putL v → leastL v = L.dropWhile (· == 0)) := by rintro L rfl; rfl
  go_enter Try.func14, Try.ntmps14
  go_wp2_with (go_at_call 22; refine (put_any v hv _).mono ?_; rintro e w1 ⟨A, cap, rfl, hcap, hrd, hbel⟩)
  obtain ⟨L, e⟩ : ∃ L, L = putL v := ⟨_, rfl⟩
  have h8 := H8.out L e
  have HL' := Lib.hid (HL.out L e)
  rw [← e] at hcap hrd ⊢
  clear HL H8 e
  go_loop [3] (fun s => LeastRel L w1 s) (fun s => sliceLen s)
  case atStart => exact ⟨L, A, cap, rfl, hcap, by omega, hrd, rfl⟩
  case round =>
    obtain ⟨M, A1, cap1, rfl, hcap1, hm8, hrd1, hdw⟩ := hrel
    have HD := Lib.hid hdw
    clear hdw h8 hrd hcap
    cases M with
    | nil =>
      go_wp2
      go_ret
      exact ⟨A1, cap1, by rw [HL'.out, HD.out]; rfl, by rw [HL'.out, HD.out]; simp, by rw [HL'.out, HD.out]; exact Rd.nil, hbel⟩
    | cons c M =>
      obtain ⟨b, o, rfl, hb, hcell⟩ := hrd1.at (k := 0) (by simp)
      have hc := hcell 0 (by simp)
      simp only [List.getElem_cons_zero, Nat.add_zero, vB] at hc
      by_cases hz : c = 0
      · subst hz
        have hc' : w1.cell? ⟨b, o, none⟩ = some (.int .u8 0) := hc
        have hrd2 : Rd vB w1 (if cap1 = 1 then some ⟨b, o, none⟩ else some ⟨b, o + 1, none⟩) M := by
          have := hrd1.drop 1 cap1 hcap1
          simpa [Addr.add] using this
        have hM : M.length + 1 ≤ cap1 := by simpa using hcap1
        have hM8 : M.length + 1 ≤ 8 := by simpa using hm8
        have HD' : Hid (L.dropWhile (· == 0) = M.dropWhile (· == 0)) := by
          unfold Hid
          rw [HD.out, List.dropWhile_cons, if_pos (by rfl)]
        clear hc hcell hrd1 hcap1 hm8
        go_wp2
        go_round
        case rel => exact ⟨M, _, cap1 - 1, rfl, by omega, by omega, hrd2, HD'.out⟩
        case measure => simp [sliceLen]
      · have hne : ((c.toNat : Int) == 0) = false := by
          have : c.toNat ≠ 0 := fun h => hz (UInt8.toNat_inj.1 h)
          simp
          omega
        have HF : Hid (L.dropWhile (· == 0) = c :: M) := by
          unfold Hid
          rw [HD.out, List.dropWhile_cons, if_neg (by simpa using hz)]
        clear hz hcell
        go_wp2
        go_ret
        exact ⟨_, cap1, by rw [HL'.out, HF.out]; rfl, by rw [HL'.out, HF.out]; exact hcap1, by rw [HL'.out, HF.out]; exact hrd1, hbel⟩

end Go.Proofs.Yteppocjgodmpdaa
/-
  What the calls word.Words and word.Bytes answer, for any bytes and words of up to 2^45 each.
-/
namespace Go.Proofs.Yteppocjgodmpdaa
set_option maxRecDepth 100000
open Go.RowKit

theorem info_u32 : (Try.prog.info? 63).map (fun i => (i.zero, i.size, i.bytes)) = some (some (.int .u32 0), 1, 4) := by kernel_rfl
theorem info_u8 : (Try.prog.info? 5).map (fun i => (i.zero, i.size, i.bytes)) = some (some (.int .u8 0), 1, 1) := by kernel_rfl

def WordsRel (L : List UInt8) (w : World) (s v : Value) (wr : World) : Prop :=
  ∃ (M : List UInt8) (D : List UInt32) (A : Option Addr) (cap : Nat), s = .slice A M.length cap ∧ M.length ≤ cap ∧ Rd vB w A M ∧
    wr.ownsRow w.heap.size 63 1 v D.length (D.map vW) ∧ Below w.heap.size w wr ∧ wordsL L = D ++ wordsL M ∧ 4 * D.length + M.length ≤ L.length

theorem words_round {L M : List UInt8} {D : List UInt32} {w wr w1 : World} {A : Option Addr} {cap V : Nat} {u v : Value} {o : Obj} (hM : M.length + 4 ≤ cap) (hL : 4 * D.length + M.length + 4 ≤ L.length) (hr : Rd vB w A M)
    (ho : wr.ownsRow w.heap.size 63 1 u D.length (D.map vW)) (hb : Below w.heap.size w wr) (HV : Hid (Value.int .u32 (V : Int) = vW (UInt32.ofNat V))) (HW : Hid (wordsL L = (D ++ [UInt32.ofNat V]) ++ wordsL M))
    (ho' : w1.ownsRow w.heap.size 63 1 v (D.length + 1) (D.map vW ++ [.int .u32 (V : Int)])) (hg : (wr.alloc o).grownBy w1 u.ownBlock) : WordsRel L w (.slice A M.length (cap - 4)) v w1 :=
  ⟨M, D ++ [UInt32.ofNat V], A, cap - 4, rfl, by omega, hr, by rw [HV.out] at ho'; simpa using ho',
    (hb.alloc hb.size o).grown hg (by have := hb.size; simp; omega) (fun k hk => (ho.lt k hk).1), HW.out, by simp; omega⟩


def BytesRel (L : List UInt32) (w : World) (v i : Value) (wr : World) : Prop :=
  ∃ k : Nat, k ≤ L.length ∧ i = .int .i64 k ∧ wr.ownsRow w.heap.size 5 1 v (bytesL (L.take k)).length ((bytesL (L.take k)).map vB) ∧ Below w.heap.size w wr

theorem bytesL_length (l : List UInt32) : (bytesL l).length = 4 * l.length := by
  unfold bytesL
  induction l with
  | nil => rfl
  | cons a l ih => rw [List.flatMap_cons, List.length_append, ih, List.length_cons]; show 4 + _ = _; omega
theorem bytesL_take (l : List UInt32) (k : Nat) (h : k < l.length) : bytesL (l.take (k + 1)) = bytesL (l.take k) ++ bytesW l[k] := by
  unfold bytesL
  rw [List.take_succ_eq_append_getElem h, List.flatMap_append]
  simp

theorem bytesW_cells (x : UInt32) : [Value.int .u8 ((x.toNat : Int) / 16777216), Value.int .u8 ((x.toNat : Int) / 65536 % 256), Value.int .u8 ((x.toNat : Int) / 256 % 256), Value.int .u8 ((x.toNat : Int) % 256)] = (bytesW x).map vB := by
  have hx := u32_lt x
  unfold bytesW
  simp only [List.map_cons, List.map_nil, vB_ofNat]
  have e0 : ((x.toNat : Int) / 16777216) = ((x.toNat / 16777216 % 256 : Nat) : Int) := by omega
  rw [e0]
  simp
theorem bytes_round {L : List UInt32} {w wr w1 : World} {k : Nat} {x : UInt32} {u v : Value} {o : Obj} (hk : k < L.length) (ho : wr.ownsRow w.heap.size 5 1 u (bytesL (L.take k)).length ((bytesL (L.take k)).map vB))
    (hb : Below w.heap.size w wr) (HT : Hid (bytesL (L.take (k + 1)) = bytesL (L.take k) ++ bytesW x)) (hg : (wr.alloc o).grownBy w1 u.ownBlock)
    (ho' : w1.ownsRow w.heap.size 5 1 v ((bytesL (L.take k)).length + 4) ((bytesL (L.take k)).map vB ++ [Value.int .u8 ((x.toNat : Int) / 16777216), Value.int .u8 ((x.toNat : Int) / 65536 % 256), Value.int .u8 ((x.toNat : Int) / 256 % 256), Value.int .u8 ((x.toNat : Int) % 256)])) :
    BytesRel L w v (.int .i64 ((k : Int) + 1)) w1 :=
  ⟨k + 1, by omega, by go_num, by rw [HT.out]; rw [bytesW_cells, ← List.map_append] at ho'; simpa [bytesW] using ho',
    (hb.alloc hb.size o).grown hg (by have := hb.size; simp; omega) (fun k hk => (ho.lt k hk).1)⟩


end Go.Proofs.Yteppocjgodmpdaa
/-
  What the reference's calls Rot, Value, FromLeast, Put and Bytes answer: the same as the program's, for whatever is given.
-/
namespace Go.Proofs.Yteppocjgodmpdaa
set_option maxRecDepth 100000
open Go.RowKit

theorem wordsL_length (l : List UInt8) : 4 * (wordsL l).length ≤ l.length := by
  have := congrArg List.length (bytesL_wordsL l)
  rw [bytesL_length, List.length_take] at this
  omega
theorem rot_one (x : UInt32) : (rotR x 1).toNat = x.toNat / 2 + x.toNat % 2 * 2147483648 := by
  have hx := u32_lt x
  have e : (rotR x 1).toNat = (x.toBitVec >>> 1 ||| x.toBitVec <<< 31).toNat := by
    show (x.toBitVec.rotateRight 1).toNat = _
    rw [BitVec.rotateRight_def]
  rw [e, BitVec.toNat_or, BitVec.toNat_shiftLeft, BitVec.toNat_ushiftRight, Nat.shiftLeft_eq, Nat.shiftRight_eq_div_pow]
  show x.toNat / 2 ^ 1 ||| x.toNat * 2 ^ 31 % 2 ^ 32 = _
  have e2 : x.toNat * 2 ^ 31 % 2 ^ 32 = 2 ^ 31 * (x.toNat % 2) := by omega
  rw [e2, Nat.or_comm, ← Nat.two_pow_add_eq_or_of_lt (by omega)]
  omega
theorem rot_next (x : UInt32) (k : Nat) : rotR x (k + 1) = rotR (rotR x k) 1 := (rotR_rotR x k 1).symm
theorem rot_even (x y : UInt32) (h : x.toNat % 2 = 0) (e : y = rotR x 1) : y.toNat = x.toNat / 2 := by
  rw [e, rot_one]
  omega
theorem rot_odd (x y : UInt32) (h : x.toNat % 2 = 1) (e : y = rotR x 1) : y.toNat = x.toNat / 2 + 2147483648 := by
  rw [e, rot_one]
  omega

def RotRel (x : UInt32) (n : Nat) (u i : Value) : Prop := ∃ k : Nat, k ≤ n ∧ i = .int .i64 k ∧ u = .int .u32 ((rotR x k).toNat : Int)



theorem value_step (a c : Nat) : IntKind.u64.wrap (IntKind.u64.wrap (256 * ((a : Int) % 18446744073709551616)) + (c : Int)) = (((a * 256 + c) % 18446744073709551616 : Nat) : Int) := by
  rw [IntKind.wrap_u64, IntKind.wrap_u64]
  omega
def ValueRel (l : List UInt8) (v i : Value) : Prop := ∃ k : Nat, k ≤ l.length ∧ i = .int .i64 k ∧ v = .int .u64 ((valN (l.take k) % 18446744073709551616 : Nat) : Int)

theorem value_any (l : List UInt8) (A : Option Addr) (cap : Nat) (w : World) (hr : Rd vB w A l) (hl : l.length ≤ 9223372036854775807) :
    Calls Try.prog 21 #[.slice A l.length cap] w fun e w' => e = .returned (.int .u64 ((valN l % 18446744073709551616 : Nat) : Int)) ∧ w = w' := by
  go_enter Try.func21, Try.ntmps21
  go_wp2
  go_loop [3, 4] (fun v i => ValueRel l v i) (fun _ i => l.length - (intOf i).toNat)
  case atStart => exact ⟨0, Nat.zero_le _, rfl, rfl⟩
  case round =>
    obtain ⟨k, hk, rfl, rfl⟩ := hrel
    by_cases hlt : k < l.length
    · obtain ⟨b, o, rfl, hb, hcell⟩ := hr.at hlt
      have hc : w.cell? ⟨b, o + k, none⟩ = some (.int .u8 (l[k].toNat : Int)) := hcell k hlt
      have hb8 : l[k].toNat < 256 := l[k].toNat_lt
      have HT : Hid _ := valN_take l k hlt
      generalize l[k] = c at hc hb8 HT
      clear hcell hr
      go_wp2
      go_round
      case rel =>
        refine ⟨k + 1, by omega, by go_num, ?_⟩
        rw [HT.out, value_step]
      case measure => simp [intOf]; omega
    · have hk' : k = l.length := by omega
      have HK : Hid (l.take k = l) := by rw [hk']; exact List.take_length
      clear hk'
      go_wp2
      go_ret
      exact ⟨ret_int (by rw [HK.out]), rfl⟩


theorem refput_cells (v : Nat) (hv : v < 18446744073709551616) :
    #[Value.int IntKind.u8 ((v : Int) / 256 / 256 / 256 / 256 / 256 / 256 / 256 % 256), Value.int IntKind.u8 ((v : Int) / 256 / 256 / 256 / 256 / 256 / 256 % 256), Value.int IntKind.u8 ((v : Int) / 256 / 256 / 256 / 256 / 256 % 256), Value.int IntKind.u8 ((v : Int) / 256 / 256 / 256 / 256 % 256),
      Value.int IntKind.u8 ((v : Int) / 256 / 256 / 256 % 256), Value.int IntKind.u8 ((v : Int) / 256 / 256 % 256), Value.int IntKind.u8 ((v : Int) / 256 % 256), Value.int IntKind.u8 ((v : Int) % 256)] = ((putL v).map vB).toArray := by
  rw [← put_cells v hv]
  have e7 : (v : Int) / 256 / 256 / 256 / 256 / 256 / 256 / 256 % 256 = (v : Int) / 72057594037927936 := by omega
  have e6 : (v : Int) / 256 / 256 / 256 / 256 / 256 / 256 % 256 = (v : Int) / 281474976710656 % 256 := by omega
  have e5 : (v : Int) / 256 / 256 / 256 / 256 / 256 % 256 = (v : Int) / 1099511627776 % 256 := by omega
  have e4 : (v : Int) / 256 / 256 / 256 / 256 % 256 = (v : Int) / 4294967296 % 256 := by omega
  have e3 : (v : Int) / 256 / 256 / 256 % 256 = (v : Int) / 16777216 % 256 := by omega
  have e2 : (v : Int) / 256 / 256 % 256 = (v : Int) / 65536 % 256 := by omega
  rw [e7, e6, e5, e4, e3, e2]

theorem refput_any (v : Nat) (hv : v < 18446744073709551616) (w : World) :
    Calls Try.prog 23 #[.int .u64 (v : Int)] w (RetS vB w (putL v)) := by
  have hmk : ∀ w, (Instr.makeSlice 23 (.int .i64 8) (.int .i64 8)).run Try.prog w = .ok (.slice (some ⟨w.heap.size, 0, none⟩) 8 8) (w.alloc (.cells #[.int .u8 0, .int .u8 0, .int .u8 0, .int .u8 0, .int .u8 0, .int .u8 0, .int .u8 0, .int .u8 0] 5)) := fun _ => by kernel_rfl
  go_enter Try.func23, Try.ntmps23
  go_wp2
  refine wp_loop_rounds 9 ?_
  iterate 9 (rw [rounds_succ]; go_wp2)
  go_ret
  exact ⟨_, 8, rfl, Nat.le_refl _, Rd.new _ _ _ _ (refput_cells v hv), (Below.refl _ _).alloc (Nat.le_refl _) _⟩


end Go.Proofs.Yteppocjgodmpdaa
/-
  append of a slice that came in, or that a call handed back, onto a row of the call's own, nil and empty ones with it (no program is named here). No conditions but those typed.
-/
namespace Go.Proofs.Yteppocjgodmpdaa
set_option maxRecDepth 100000
open Go.RowKit

section
variable {P : Program} (w : World)
theorem run_append_nothing_of (base : Nat) (t ty e : TypeId) (i : TypeInfo) (ht : P.underlying t = some (.slice e)) (hi : P.info? e = some i)
    (v : Value) (n : Nat) (xs : List Value) (hown : w.ownsRow base e 1 v n xs) (c : Nat) : (Builtin.append_ #[t, t] ty #[v, .slice none 0 c]).run P w = .ok v w := by
  rcases hown.2 with ⟨rfl, rfl⟩ | ⟨g, cap, cur, rfl, _, _, hnc, _⟩
  · simp [Builtin.append_, run_underlying ht, sizeOf, typeInfo, hi, Builtin.lenOf, Builtin.firstCells]
  · simp [Builtin.append_, run_underlying ht, sizeOf, typeInfo, hi, Builtin.lenOf, Builtin.firstCells, hnc, storeCells]

theorem run_append_rd {α : Type} {f : α → Value} (base : Nat) (t ty e : TypeId) (i : TypeInfo) (z : Value) (bytes : Nat) (ht : P.underlying t = some (.slice e)) (hi : P.info? e = some i) (hz : i.zero = some z)
    (hsize : i.size = 1) (hby : i.bytes = bytes) (hzs : z.cells.size = 1) (v : Value) (n : Nat) (xs : List Value) (hown : w.ownsRow base e 1 v n xs)
    (A : Option Addr) (l : List α) (c : Nat) (hr : Rd f w A l) (h1 : ∀ x, (f x).oneCell' = true)
    (h63 : n + l.length ≤ maxLen) (hbytes : (n + l.length) * bytes ≤ 140737488355328) (hbase : base ≤ w.heap.size) :
    ∃ v' w', (Builtin.append_ #[t, t] ty #[v, .slice A l.length c]).run P w = .ok v' w' ∧ w'.ownsRow base e 1 v' (n + l.length) (xs ++ l.map f) ∧ w.grownBy w' v.ownBlock := by
  have hone : ∀ u ∈ l.map f, u.oneCell' = true := by
    intro u hu
    simp only [List.mem_map] at hu
    obtain ⟨x, _, rfl⟩ := hu
    exact h1 x
  by_cases hl : l = []
  · subst hl
    cases A with
    | none => exact ⟨v, w, run_append_nothing_of w base t ty e i ht hi v n xs hown c, by simpa using hown, ⟨rfl, rfl, rfl, Nat.le_refl _, fun _ _ _ => rfl⟩⟩
    | some ad =>
      obtain ⟨v', w', hrun, h2, h3, _⟩ := run_append_own (P := P) w base t ty e i z 1 bytes ht hi hz hsize hby hzs (by omega) v n xs hown ad 0 c [] rfl (fun j u h => by simp at h) (fun u h => by simp at h) h63 hbytes hbase
      exact ⟨v', w', hrun, h2, h3⟩
  · obtain ⟨b, o, rfl, _⟩ := hr hl
    obtain ⟨v', w', hrun, h2, h3, _⟩ := run_append_own (P := P) w base t ty e i z 1 bytes ht hi hz hsize hby hzs (by omega) v n xs hown ⟨b, o, none⟩ l.length c (l.map f) (by simp) hr.news hone h63 hbytes hbase
    exact ⟨v', w', hrun, h2, h3⟩

theorem wp_append_rd {α : Type} {f : α → Value} {o : Oper} {a : Act} {K : Act → World → Prop} {Q : Exit → Act → World → Prop} (s x : Operand) (t : TypeId)
    (ho : o.op = .call { callee := .builtin .append, args := #[s, x], argTypes := #[t, t] })
    (base : Nat) (e : TypeId) (i : TypeInfo) (z : Value) (bytes : Nat) (ht : P.underlying t = some (.slice e)) (hi : P.info? e = some i) (hz : i.zero = some z)
    (hsize : i.size = 1) (hby : i.bytes = bytes) (hzs : z.cells.size = 1) (v : Value) (n : Nat) (xs : List Value) (hs : a.eval s = v) (hown : w.ownsRow base e 1 v n xs)
    (A : Option Addr) (l : List α) (c : Nat) (hx : a.eval x = .slice A l.length c) (hr : Rd f w A l) (h1 : ∀ x, (f x).oneCell' = true)
    (h63 : n + l.length ≤ maxLen) (hbytes : (n + l.length) * bytes ≤ 140737488355328) (hbase : base ≤ w.heap.size)
    (h : ∀ v' w', w'.ownsRow base e 1 v' (n + l.length) (xs ++ l.map f) → w.grownBy w' v.ownBlock → K (a.put o.dst v') w') : o.wp P a w K Q := by
  obtain ⟨v', w', hr, h2, h3⟩ := run_append_rd (P := P) w base t o.type e i z bytes ht hi hz hsize hby hzs v n xs hown A l c hr h1 h63 hbytes hbase
  unfold Oper.wp execOp
  simp only [ho, resolve, invoke, builtin, Sem.run_bind, Sem.run_pure, Result.andThen_ok, List.map_toArray, List.map_cons, List.map_nil, hs, hx, hr]
  exact h v' w' h2 h3

theorem wpList_append_rd {α : Type} {f : α → Value} {ops : Array Oper} {rest : List Oper} {o : Oper} {a : Act} {Q : Exit → Act → World → Prop} (hgd : o.guard = none) (s x : Operand) (t : TypeId)
    (ho : o.op = .call { callee := .builtin .append, args := #[s, x], argTypes := #[t, t] })
    (base : Nat) (e : TypeId) (i : TypeInfo) (z : Value) (bytes : Nat) (ht : P.underlying t = some (.slice e)) (hi : P.info? e = some i) (hz : i.zero = some z)
    (hsize : i.size = 1) (hby : i.bytes = bytes) (hzs : z.cells.size = 1) (v : Value) (n : Nat) (xs : List Value) (hs : a.eval s = v) (hown : w.ownsRow base e 1 v n xs)
    (A : Option Addr) (l : List α) (c : Nat) (hx : a.eval x = .slice A l.length c) (hr : Rd f w A l) (h1 : ∀ x, (f x).oneCell' = true)
    (h63 : n + l.length ≤ maxLen) (hbytes : (n + l.length) * bytes ≤ 140737488355328) (hbase : base ≤ w.heap.size)
    (h : ∀ v' w', w'.ownsRow base e 1 v' (n + l.length) (xs ++ l.map f) → w.grownBy w' v.ownBlock → wpList P ops Q rest (a.put o.dst v') w') : wpList P ops Q (o :: rest) a w :=
  wpList_plain hgd fun _ hK => wp_append_rd w s x t ho base e i z bytes ht hi hz hsize hby hzs v n xs hs hown A l c hx hr h1 h63 hbytes hbase fun v' w' h2 h3 => hK _ _ (h v' w' h2 h3)
end

theorem own_base {w : World} {base b' : Nat} {e : TypeId} {v : Value} {n : Nat} {xs : List Value} (h : w.ownsRow base e 1 v n xs) (hb : b' ≤ base) : w.ownsRow b' e 1 v n xs :=
  ⟨h.1, h.2.imp id fun ⟨g, cap, cur, h1, h2, h3⟩ => ⟨g, cap, cur, h1, Nat.le_trans hb h2, h3⟩⟩
theorem vB_one (c : UInt8) : (vB c).oneCell' = true := rfl
theorem vW_one (c : UInt32) : (vW c).oneCell' = true := rfl

/-- 's[lo:hi]'. -/
theorem Rd.mid {α : Type} {f : α → Value} {w : World} {A : Option Addr} {l : List α} (h : Rd f w A l) (lo hi cap : Nat) (hc : l.length ≤ cap) : Rd f w (if cap = lo then A else A.map (·.add (lo * 1))) ((l.drop lo).take (hi - lo)) := (h.drop lo cap hc).take _

end Go.Proofs.Yteppocjgodmpdaa
/-
  What the reference's call Least answers, for any number: the same as the program's.
-/
namespace Go.Proofs.Yteppocjgodmpdaa
set_option maxRecDepth 100000
open Go.RowKit

def RefLeastRel (L : List UInt8) (w : World) (s : Value) : Prop := ∃ (M : List UInt8) (b o cap : Nat), s = .slice (some ⟨b, o, none⟩) M.length cap ∧ M.length ≤ cap ∧ M.length ≤ 8 ∧ Rd vB w (some ⟨b, o, none⟩) M ∧ L.dropWhile (· == 0) = M.dropWhile (· == 0)

theorem refput_some (v : Nat) (hv : v < 18446744073709551616) (w : World) :
    Calls Try.prog 23 #[.int .u64 (v : Int)] w fun e w' => ∃ b o cap, e = .returned (.slice (some ⟨b, o, none⟩) (putL v).length cap) ∧ (putL v).length ≤ cap ∧ Rd vB w' (some ⟨b, o, none⟩) (putL v) ∧ Below w.heap.size w w' :=
  (refput_any v hv w).mono fun _ _ ⟨A, cap, he, hc, hr, hb⟩ => by
    obtain ⟨b, o, rfl, hcell⟩ := hr (by simp [putL])
    exact ⟨b, o, cap, he, hc, hr, hb⟩

/-- In memory of the call's own. -/
theorem refleast_own (v : Nat) (hv : v < 18446744073709551616) (w : World) :
    Calls Try.prog 15 #[.int .u64 (v : Int)] w (RetO 5 vB w (leastL v)) := by
  obtain ⟨i0, hi, hz0, hz1, hz2⟩ := info_parts info_u8
  have H8 : Hid (∀ L, L = putL v → L.length = 8) := by rintro L rfl; rfl
  have HL : Hid (∀ L, L = putL v → leastL v = L.dropWhile (· == 0)) := by rintro L rfl; rfl
  go_enter Try.func15, Try.ntmps15
  go_wp2_with (go_at_call 23; refine (refput_some v hv _).mono ?_; rintro e w1 ⟨b0, o0, cap, rfl, hcap, hrd, hbel⟩)
  obtain ⟨L, e⟩ : ∃ L, L = putL v := ⟨_, rfl⟩
  have h8 := H8.out L e
  have HL' := Lib.hid (HL.out L e)
  rw [← e] at hcap hrd ⊢
  clear HL H8 e
  go_loop [3] (fun s => RefLeastRel L w1 s) (fun s => sliceLen s)
  case atStart => exact ⟨L, b0, o0, cap, rfl, hcap, by omega, hrd, rfl⟩
  case round =>
    obtain ⟨M, b, o, cap1, rfl, hcap1, hm8, hrd1, hdw⟩ := hrel
    have HD := Lib.hid hdw
    clear hdw h8 hrd hcap
    cases M with
    | nil =>
      have HF : Hid (leastL v = []) := by unfold Hid; rw [HL'.out, HD.out]; rfl
      go_wp2_with fail
      go_ret
      rw [HF.out]
      have hown0 : (w1.alloc (.cells #[] 5)).ownsRow w1.heap.size 5 1 (.slice (some ⟨w1.heap.size, 0, none⟩) 0 0) 0 [] := World.ownsRow_made w1 #[] 0 (Nat.le_refl _) (by unfold maxLen; omega) rfl
      exact ⟨_, rfl, own_base hown0 hbel.size, below_new hbel _⟩
    | cons c M =>
      have hc := hrd1 (by simp)
      obtain ⟨b', o', e', hcell⟩ := hc
      injection e' with e'
      injection e' with e1 e2 _
      subst e1 e2
      have hc := hcell 0 (by simp)
      simp only [List.getElem_cons_zero, Nat.add_zero, vB] at hc
      by_cases hz : c = 0
      · subst hz
        have hc' : w1.cell? ⟨b, o, none⟩ = some (.int .u8 0) := hc
        have hrd2 : Rd vB w1 (if cap1 = 1 then some ⟨b, o, none⟩ else some ⟨b, o + 1, none⟩) M := by
          have := hrd1.drop 1 cap1 hcap1
          simpa [Addr.add] using this
        have hM : M.length + 1 ≤ cap1 := by simpa using hcap1
        have hM8 : M.length + 1 ≤ 8 := by simpa using hm8
        have HD' : Hid (L.dropWhile (· == 0) = M.dropWhile (· == 0)) := by
          unfold Hid
          rw [HD.out, List.dropWhile_cons, if_pos (by rfl)]
        clear hc hcell hrd1 hcap1 hm8
        by_cases h1 : cap1 = 1
        · subst h1
          obtain rfl : M = [] := List.eq_nil_of_length_eq_zero (by omega)
          go_wp2_with fail
          go_round
          case rel => exact ⟨[], _, _, 0, rfl, by simp, by simp, Rd.nil, HD'.out⟩
          case measure => simp [sliceLen]
        · rw [if_neg h1] at hrd2
          go_wp2_with fail
          go_round
          case rel => exact ⟨M, _, _, cap1 - 1, rfl, by omega, by omega, hrd2, HD'.out⟩
          case measure => simp [sliceLen]
      · have hne : ((c.toNat : Int) == 0) = false := by
          have : c.toNat ≠ 0 := fun h => hz (UInt8.toNat_inj.1 h)
          simp
          omega
        have HF : Hid (leastL v = c :: M) := by
          unfold Hid
          rw [HL'.out, HD.out, List.dropWhile_cons, if_neg (by simpa using hz)]
        clear hz hcell
        have hM8 : M.length + 1 ≤ 8 := by simpa using hm8
        have hr2 : Rd vB (w1.alloc (.cells #[] 5)) (some ⟨b, o, none⟩) (c :: M) := hrd1.keep (below_new (Below.refl _ _) _)
        have hnews := hr2.news
        have hone : ∀ u ∈ (c :: M).map vB, u.oneCell' = true := by
          intro u hu
          simp only [List.mem_map] at hu
          obtain ⟨x, _, rfl⟩ := hu
          rfl
        have hown0 : (w1.alloc (.cells #[] 5)).ownsRow w1.heap.size 5 1 (.slice (some ⟨w1.heap.size, 0, none⟩) 0 0) 0 [] := World.ownsRow_made w1 #[] 0 (Nat.le_refl _) (by unfold maxLen; omega) rfl
        have HN := Lib.hid hnews
        have HO := Lib.hid hone
        clear hnews hone hrd1 hr2 hm8
        go_wp2_with (at_builtin; refine wpList_append_own _ rfl _ _ 23 rfl w1.heap.size 5 i0 (.int .u8 0) 1 1 Try.underlying23 hi hz0 hz1 hz2 rfl (by decide) _ _ _ rfl hown0 ⟨b, o, none⟩ (M.length + 1) cap1 ((c :: M).map vB) rfl (by simp) HN.out HO.out (by unfold maxLen; omega) (by omega) (by simp) ?_; intro v' w2 hown' hgrow' _)
        go_ret
        rw [HF.out]
        refine ⟨_, rfl, own_base (base := w1.heap.size) (by simpa using hown') hbel.size, below_step hbel ?_⟩
        exact (below_new (Below.refl _ _) _).grown hgrow' (by simp) (fun g hk => (hown0.lt g hk).1)

theorem refleast_any (v : Nat) (hv : v < 18446744073709551616) (w : World) :
    Calls Try.prog 15 #[.int .u64 (v : Int)] w (RetS vB w (leastL v)) := (refleast_own v hv w).mono fun _ _ h => h.ret
end Go.Proofs.Yteppocjgodmpdaa
/-
  A region that draws its order, whose operations read, or make memory and write nothing that was there: one plan serves every order (no program is named here). Conditions: the plan is one that the region's edges allow (a Bool, reckoned), each operation that reads yields one value in every later world, and an operation that makes memory comes up alone.
-/
namespace Go.Proofs.Yteppocjgodmpdaa
set_option maxRecDepth 100000
open Go.RowKit

section
variable {P : Program} {ops : Array Oper} {Q : Exit → Act → World → Prop}

theorem held_weaken {md : Region.Mode} {S T : World → Prop} (h : ∀ w, T w → S w) : ∀ (fuel : Nat) (listed : Array Bool) (a : Act) (w : World), wpAnyH P md ops Q T fuel listed a w → wpAnyH P md ops Q S fuel listed a w
  | 0, _, _, _, k => k
  | fuel + 1, _, _, _, k => ⟨k.1, fun i hi => wpOp_mono (fun a' w' k' => ⟨h _ k'.1, held_weaken h fuel _ a' w' k'.2⟩) (k.2 i hi)⟩

/-- A plan: the operations' numbers, and of each whether it makes memory (it must then be the only one that may come up); a fork: two that make memory may come up, each with a plan of its own behind it. -/
inductive Plan where
  | nil
  | step (i : Nat) (g : Bool) (rest : Plan)
  | fork (i : Nat) (p : Plan) (j : Nat) (q : Plan)
def Plan.size : Plan → Nat
  | .nil => 0
  | .step _ _ rest => rest.size + 1
  | .fork _ p _ _ => p.size + 1
def planOK (ops : Array Oper) : Plan → Array Bool → Bool
  | .nil, listed => (Region.ready .any ops listed).isEmpty
  | .step i g rest, listed => (if g then Region.ready .any ops listed == [i] else Region.free .any ops listed i && (Region.ready .any ops listed).contains i) && planOK ops rest (listed.setIfInBounds i true)
  | .fork i p j q, listed => Region.ready .any ops listed == [i, j] && (q.size == p.size && (planOK ops p (listed.setIfInBounds i true) && planOK ops q (listed.setIfInBounds j true)))

/-- S: what the operations that read lean on; each operation that makes memory must show it anew, and may give more of it. -/
def wpPlan (P : Program) (ops : Array Oper) (Q : Exit → Act → World → Prop) : Plan → (World → Prop) → Act → World → Prop
  | .nil, _, a, w => Q .normal a w
  | .step i g rest, S, a, w => ∃ o, ops[i]? = some o ∧
      ((Region.wanted o (yielded ops a.tmps) = false ∧ wpPlan P ops Q rest S (a.put o.dst undef) w) ∨
       (Region.wanted o (yielded ops a.tmps) = true ∧ g = false ∧ ∃ v, (∀ W, S W → (execOp a.eval o).run P W = .ok (.value v) W) ∧ wpPlan P ops Q rest S (a.put o.dst v) w) ∨
       (Region.wanted o (yielded ops a.tmps) = true ∧ g = true ∧ o.wp P a w (fun a' w' => ∃ T : World → Prop, (∀ W, T W → S W) ∧ T w' ∧ wpPlan P ops Q rest T a' w') Q))
  | .fork i p j q, S, a, w =>
      wpOp P ops Q i (fun a' w' => ∃ T : World → Prop, (∀ W, T W → S W) ∧ T w' ∧ wpPlan P ops Q p T a' w') a w ∧
      wpOp P ops Q j (fun a' w' => ∃ T : World → Prop, (∀ W, T W → S W) ∧ T w' ∧ wpPlan P ops Q q T a' w') a w

theorem wpPlan_held (hs : Region.noSelect ops = true) (hQ : ∀ c a w d v, Q (.panic c) (Act.put a d v) w → Q (.panic c) a w) :
    ∀ (plan : Plan) (S : World → Prop) (listed : Array Bool) (a : Act) (w : World), S w → planOK ops plan listed = true → wpPlan P ops Q plan S a w → wpAnyH P .any ops Q S plan.size listed a w
  | .nil, _, listed, a, w, _, hp, h => wpAnyH_done (by simpa [planOK] using hp) h _
  | .step i g rest, S, listed, a, w, hS, hp, h => by
    obtain ⟨o, ho, h⟩ := h
    simp only [planOK, Bool.and_eq_true] at hp
    obtain ⟨hp1, hp2⟩ := hp
    have take : ∀ v, g = false → YieldsIf P ops S o v a → wpPlan P ops Q rest S (a.put o.dst v) w → wpAnyH P .any ops Q S (rest.size + 1) listed a w := by
      intro v hg hy hr
      subst hg
      simp only [Bool.false_eq_true, if_false, Bool.and_eq_true] at hp1
      exact wpAnyH_take ho hs hp1.1 hp1.2 (fun c a w h => hQ c a w _ _ h) hy hS (wpPlan_held hs hQ rest S _ _ w hS hp2 hr)
    have alone : g = true → wpOp P ops Q i (fun a' w' => ∃ T : World → Prop, (∀ W, T W → S W) ∧ T w' ∧ wpPlan P ops Q rest T a' w') a w → wpAnyH P .any ops Q S (rest.size + 1) listed a w := by
      intro hg hop
      subst hg
      simp only [if_true] at hp1
      refine wpAnyH_all (rs := [i]) (eq_of_beq hp1) (by simp) (fun j hj => ?_)
      simp only [List.mem_singleton] at hj
      subst hj
      refine wpOp_mono (fun a' w' k => ?_) hop
      obtain ⟨T, hT, hTw, k⟩ := k
      exact ⟨hT _ hTw, held_weaken hT _ _ _ _ (wpPlan_held hs hQ rest T _ a' w' hTw hp2 k)⟩
    rcases h with ⟨hw, hr⟩ | ⟨hw, hg, v, hv, hr⟩ | ⟨hw, hg, hop⟩
    · cases g with
      | false => exact take undef rfl (.inr ⟨hw, rfl⟩) hr
      | true =>
        refine alone rfl ?_
        unfold wpOp
        simp only [ho, hw, Bool.false_eq_true, if_false]
        exact ⟨S, fun _ h => h, hS, hr⟩
    · exact take v hg (.inl ⟨hw, hv⟩) hr
    · refine alone hg ?_
      unfold wpOp
      simp only [ho, hw, if_true]
      exact .inl hop
  | .fork i p j q, S, listed, a, w, hS, hp, h => by
    simp only [planOK, Bool.and_eq_true] at hp
    obtain ⟨hp1, hp2, hp3, hp4⟩ := hp
    refine wpAnyH_all (rs := [i, j]) (eq_of_beq hp1) (by simp) (fun k hk => ?_)
    simp only [List.mem_cons, List.not_mem_nil, or_false] at hk
    rcases hk with rfl | rfl
    · refine wpOp_mono (fun a' w' k => ?_) h.1
      obtain ⟨T, hT, hTw, k⟩ := k
      exact ⟨hT _ hTw, held_weaken hT _ _ _ _ (wpPlan_held hs hQ p T _ a' w' hTw hp3 k)⟩
    · refine wpOp_mono (fun a' w' k => ?_) h.2
      obtain ⟨T, hT, hTw, k⟩ := k
      have := wpPlan_held hs hQ q T _ a' w' hTw hp4 k
      rw [eq_of_beq hp2] at this
      exact ⟨hT _ hTw, held_weaken hT _ _ _ _ this⟩

/-- The beginning, at a condition of one's own. -/
theorem wp_region_plan_of (S : World → Prop) (plan : Plan) {id : Nat} {a : Act} {w : World} (hS : S w.drew) (hm : P.follows .mixedOrders = true) (hs : Region.noSelect ops = true) (hlen : plan.size = ops.size) (hp : planOK ops plan (Array.replicate ops.size false) = true)
    (h : wpPlan P ops (NoPanic Q) plan S a w.drew) : (Code.region id ops true).wp P Q a w := by
  refine wp_region_noPanic (wp_region_held_drew (S := S) hm hS (fun _ => ?_))
  have := wpPlan_held hs (fun _ _ _ _ _ h => h) plan S _ a w.drew hS hp h
  rw [hlen] at this
  exact this
/-- The beginning, at all that is there. -/
theorem wp_region_plan (plan : Plan) {id : Nat} {a : Act} {w : World} (hm : P.follows .mixedOrders = true) (hs : Region.noSelect ops = true) (hlen : plan.size = ops.size) (hp : planOK ops plan (Array.replicate ops.size false) = true)
    (h : wpPlan P ops (NoPanic Q) plan (fun W => Below w.drew.heap.size w.drew W) a w.drew) : (Code.region id ops true).wp P Q a w := wp_region_plan_of _ plan (Below.refl _ _) hm hs hlen hp h
/-- The beginning, at what lies below block number B. -/
theorem wp_region_plan_at (B : Nat) (plan : Plan) {id : Nat} {a : Act} {w : World} (hm : P.follows .mixedOrders = true) (hs : Region.noSelect ops = true) (hlen : plan.size = ops.size) (hp : planOK ops plan (Array.replicate ops.size false) = true)
    (h : wpPlan P ops (NoPanic Q) plan (fun W => Below B w.drew W) a w.drew) : (Code.region id ops true).wp P Q a w := wp_region_plan_of _ plan (Below.refl _ _) hm hs hlen hp h

theorem plan_skip {i : Nat} {g : Bool} {rest : Plan} {S : World → Prop} {o : Oper} {a : Act} {w : World} (ho : ops[i]? = some o) (hw : Region.wanted o (yielded ops a.tmps) = false)
    (h : wpPlan P ops Q rest S (a.put o.dst undef) w) : wpPlan P ops Q (.step i g rest) S a w := ⟨o, ho, .inl ⟨hw, h⟩⟩
theorem plan_read {i : Nat} {rest : Plan} {S : World → Prop} {o : Oper} {a : Act} {w : World} {v : Value} (ho : ops[i]? = some o) (hw : Region.wanted o (yielded ops a.tmps) = true)
    (hv : ∀ W, S W → (execOp a.eval o).run P W = .ok (.value v) W) (h : wpPlan P ops Q rest S (a.put o.dst v) w) : wpPlan P ops Q (.step i false rest) S a w := ⟨o, ho, .inr (.inl ⟨hw, rfl, v, hv, h⟩)⟩
/-- Behind it all that is there counts. -/
theorem plan_make {i : Nat} {rest : Plan} {o : Oper} {a : Act} {w : World} (ho : ops[i]? = some o) (hw : Region.wanted o (yielded ops a.tmps) = true)
    (h : ∀ K : Act → World → Prop, Shut (∀ a' w', Below w.heap.size w w' → wpPlan P ops Q rest (fun W => Below w'.heap.size w' W) a' w' → K a' w') → o.wp P a w K Q) : wpPlan P ops Q (.step i true rest) (fun W => Below w.heap.size w W) a w :=
  ⟨o, ho, .inr (.inr ⟨hw, rfl, h _ (fun _ _ hb hr => ⟨_, fun _ hW => below_step hb hW, Below.refl _ _, hr⟩)⟩)⟩
/-- B stays. -/
theorem plan_make_at {i : Nat} {rest : Plan} {B : Nat} {o : Oper} {a : Act} {w : World} (ho : ops[i]? = some o) (hw : Region.wanted o (yielded ops a.tmps) = true)
    (h : ∀ K : Act → World → Prop, Shut (∀ a' w', Below B w w' → wpPlan P ops Q rest (fun W => Below B w' W) a' w' → K a' w') → o.wp P a w K Q) : wpPlan P ops Q (.step i true rest) (fun W => Below B w W) a w :=
  ⟨o, ho, .inr (.inr ⟨hw, rfl, h _ (fun _ _ hb hr => ⟨_, fun _ hW => hb.trans hW, Below.refl _ _, hr⟩)⟩)⟩
/-- S stays. -/
theorem plan_make_of {i : Nat} {rest : Plan} {S : World → Prop} {o : Oper} {a : Act} {w : World} (ho : ops[i]? = some o) (hw : Region.wanted o (yielded ops a.tmps) = true)
    (h : ∀ K : Act → World → Prop, Shut (∀ a' w', S w' → wpPlan P ops Q rest S a' w' → K a' w') → o.wp P a w K Q) : wpPlan P ops Q (.step i true rest) S a w :=
  ⟨o, ho, .inr (.inr ⟨hw, rfl, h _ (fun _ _ hb hr => ⟨S, fun _ hW => hW, hb, hr⟩)⟩)⟩
/-- Two that make memory may come up: each goes by itself, S stays. -/
theorem plan_fork {i j : Nat} {p q : Plan} {S : World → Prop} {o u : Oper} {a : Act} {w : World} (ho : ops[i]? = some o) (hu : ops[j]? = some u) (hw : Region.wanted o (yielded ops a.tmps) = true) (hx : Region.wanted u (yielded ops a.tmps) = true)
    (h : ∀ K : Act → World → Prop, Shut (∀ a' w', S w' → wpPlan P ops Q p S a' w' → K a' w') → o.wp P a w K Q) (k : ∀ K : Act → World → Prop, Shut (∀ a' w', S w' → wpPlan P ops Q q S a' w' → K a' w') → u.wp P a w K Q) : wpPlan P ops Q (.fork i p j q) S a w := by
  constructor
  · unfold wpOp
    simp only [ho, hw, if_true]
    exact .inl (h _ (fun _ _ hb hr => ⟨S, fun _ hW => hW, hb, hr⟩))
  · unfold wpOp
    simp only [hu, hx, if_true]
    exact .inl (k _ (fun _ _ hb hr => ⟨S, fun _ hW => hW, hb, hr⟩))
theorem plan_done {S : World → Prop} {a : Act} {w : World} (h : Q .normal a w) : wpPlan P ops (NoPanic Q) .nil S a w := h
end

/-! ### append onto a row of the call's own: what the row held is still there, where it was -/
section
variable {P : Program} (w : World)
theorem run_append_keep (base : Nat) (t ty e : TypeId) (i : TypeInfo) (z : Value) (bytes : Nat) (ht : P.underlying t = some (.slice e)) (hi : P.info? e = some i) (hz : i.zero = some z)
    (hsize : i.size = 1) (hby : i.bytes = bytes) (hzs : z.cells.size = 1) (v : Value) (n : Nat) (xs : List Value) (hown : w.ownsRow base e 1 v n xs)
    (a : Addr) (m c : Nat) (news : List Value) (hl : news.length = m * 1) (hnews : ∀ j u, news[j]? = some u → w.cell? (a.add j) = some u) (h1 : ∀ u ∈ news, u.oneCell' = true)
    (h63 : n + m ≤ maxLen) (hbytes : (n + m) * bytes ≤ 140737488355328) (hbase : base ≤ w.heap.size) :
    ∃ v' w', (Builtin.append_ #[t, t] ty #[v, .slice (some a) m c]).run P w = .ok v' w' ∧ w'.ownsRow base e 1 v' (n + m) (xs ++ news) ∧ w.grownBy w' v.ownBlock ∧
      ∀ g, v.ownBlock = some g → ∀ j u, xs[j]? = some u → w'.cell? ⟨g, j, none⟩ = some u := by
  obtain ⟨v', w', hrun, hown', hgrow, _⟩ := run_append_own (P := P) w base t ty e i z 1 bytes ht hi hz hsize hby hzs (by omega) v n xs hown a m c news hl hnews h1 h63 hbytes hbase
  refine ⟨v', w', hrun, hown', hgrow, fun g hg j u hu => ?_⟩
  have hj : j < xs.length := by
    rcases Nat.lt_or_ge j xs.length with h | h
    · exact h
    · rw [List.getElem?_eq_none h] at hu; cases hu
  have hadd : (⟨g, 0, none⟩ : Addr).add j = ⟨g, j, none⟩ := by unfold Addr.add; split <;> simp_all
  rcases hown.2 with ⟨rfl, _⟩ | ⟨g', cap, cur, rfl, hbg, hgg, hnc, hcm, hcs, htake⟩
  · simp [Value.ownBlock] at hg
  · simp [Value.ownBlock] at hg
    subst hg
    have hold := hown.cells (g := g') rfl j u hu
    rw [hadd] at hold
    have hsmall : n + m ≤ 9223372036854775807 := by simp only [maxLen] at h63; omega
    by_cases hroom : n + m ≤ cap
    · have hr := run_append_room (P := P) w t ty e i ht hi g' n cap cur hgg a m c news (by rw [hsize]; exact hl) hnews h1 hroom (by rw [hsize, hl, hcs]; omega)
      rw [hrun] at hr
      injection hr with hv _
      subst hv
      have := hown'.cells (g := g') rfl j u (by rw [List.getElem?_append_left hj]; exact hu)
      rwa [hadd] at this
    · subst hby
      have holds : ∀ j u, xs[j]? = some u → w.cell? ((⟨g', 0, none⟩ : Addr).add j) = some u := hown.cells (g := g') rfl
      have hr := run_append_grow (P := P) w t ty e i z ht hi hz ⟨g', 0, none⟩ n cap xs (by rw [hsize]; exact hown.1) holds a m c news (by rw [hsize]; exact hl) hnews (by omega) (by omega) (growslice_fits (by omega) hbytes)
      rw [hrun] at hr
      injection hr with _ hw
      subst hw
      rw [World.cell?_alloc_lt w.drew _ ⟨g', j, none⟩ (World.block_lt_of_cell? w _ hold)]
      exact hold

theorem wp_append_keep {o : Oper} {a : Act} {K : Act → World → Prop} {Q : Exit → Act → World → Prop} (s x : Operand) (t : TypeId)
    (ho : o.op = .call { callee := .builtin .append, args := #[s, x], argTypes := #[t, t] })
    (base : Nat) (e : TypeId) (i : TypeInfo) (z : Value) (bytes : Nat) (ht : P.underlying t = some (.slice e)) (hi : P.info? e = some i) (hz : i.zero = some z)
    (hsize : i.size = 1) (hby : i.bytes = bytes) (hzs : z.cells.size = 1) (v : Value) (n : Nat) (xs : List Value) (hs : a.eval s = v) (hown : w.ownsRow base e 1 v n xs)
    (ad : Addr) (m c : Nat) (news : List Value) (hx : a.eval x = .slice (some ad) m c) (hl : news.length = m * 1) (hnews : ∀ j u, news[j]? = some u → w.cell? (ad.add j) = some u) (h1 : ∀ u ∈ news, u.oneCell' = true)
    (h63 : n + m ≤ maxLen) (hbytes : (n + m) * bytes ≤ 140737488355328) (hbase : base ≤ w.heap.size)
    (h : ∀ v' w', w'.ownsRow base e 1 v' (n + m) (xs ++ news) → w.grownBy w' v.ownBlock → (∀ g, v.ownBlock = some g → ∀ j u, xs[j]? = some u → w'.cell? ⟨g, j, none⟩ = some u) → K (a.put o.dst v') w') : o.wp P a w K Q := by
  obtain ⟨v', w', hr, h2, h3, h4⟩ := run_append_keep (P := P) w base t o.type e i z bytes ht hi hz hsize hby hzs v n xs hown ad m c news hl hnews h1 h63 hbytes hbase
  unfold Oper.wp execOp
  simp only [ho, resolve, invoke, builtin, Sem.run_bind, Sem.run_pure, Result.andThen_ok, List.map_toArray, List.map_cons, List.map_nil, hs, hx, hr]
  exact h v' w' h2 h3 h4
end

end Go.Proofs.Yteppocjgodmpdaa
/-
  A block of memory known whole: its cells read, one of them set, all of them set, a slice copied into it; a world given a name (no program is named here). No conditions but those typed.
-/
namespace Go.Proofs.Yteppocjgodmpdaa
set_option maxRecDepth 100000
open Go.RowKit

/-- A name for a world, and what is known of it. -/
theorem at_world {Q : World → Prop} {v : World} (F : World → Prop) (hF : F v) (h : ∀ W, F W → Q W) : Q v := h v hF

/-- Block g holds just these cells. -/
def Row (w : World) (g : Nat) (t : TypeId) (l : List Value) : Prop := w.heap[g]? = some (.cells l.toArray t (0, 0))

section
variable {w w' : World} {g : Nat} {t : TypeId} {l : List Value}
theorem Row.lt (h : Row w g t l) : g < w.heap.size := (Array.getElem?_eq_some_iff.1 h).1
theorem Row.cell? (h : Row w g t l) (i : Nat) : w.cell? ⟨g, i, none⟩ = l[i]? := by
  rw [cell_of_row w g i _ t (0, 0) h]
  simp
theorem Row.cell (h : Row w g t l) {i : Nat} {v : Value} (hi : l[i]? = some v) : w.cell? ⟨g, i, none⟩ = some v := (h.cell? i).trans hi
theorem Row.keep {B : Nat} (h : Row w g t l) (hb : Below B w w') (hg : g < B) : Row w' g t l := (hb.block g hg).trans h
theorem Row.later (h : Row w g t l) (hb : Below w.heap.size w w') : Row w' g t l := h.keep hb h.lt
theorem Row.drew (h : Row w g t l) : Row w.drew g t l := h
theorem Row.drewN (h : Row w g t l) (n : Nat) : Row (w.drewN n) g t l := h
theorem Row.alloc (h : Row w g t l) (o : Obj) : Row (w.alloc o) g t l := (Below.heap_alloc w o g h.lt).trans h
theorem Row.new (w : World) (t : TypeId) (l : List Value) (cs : Array Value) (h : cs = l.toArray) : Row (w.alloc (.cells cs t)) w.heap.size t l := by subst h; exact heap_alloc_new w _
theorem Row.new_at (w : World) (g : Nat) (hg : g = w.heap.size) (t : TypeId) (l : List Value) (cs : Array Value) (h : cs = l.toArray) : Row (w.alloc (.cells cs t)) g t l := by subst hg; exact Row.new w t l cs h
theorem Row.range (h : Row w g t l) : w.rangeAt g 0 l := fun j v hv => by rw [Nat.zero_add]; exact h.cell hv
theorem Row.frozen (h : Row w g t l) (i : Nat) : w.frozen? ⟨g, i, none⟩ = false := by
  have h' : w.heap[g]? = some (.cells l.toArray t (0, 0)) := h
  simp [World.frozen?, h']
theorem Row.setRow (h : Row w g t l) (m : List Value) : Row (w.setRow g m.toArray) g t m := setRow_heap w g _ _ t _ h
theorem Row.setRow_at (h : Row w g t l) (m : List Value) (cs : Array Value) (e : cs = m.toArray) : Row (w.setRow g cs) g t m := by subst e; exact h.setRow m
theorem Row.setRow_other (h : Row w g t l) {k : Nat} (hk : g ≠ k) (cs : Array Value) : Row (w.setRow k cs) g t l := (Go.setRow_other w k g cs hk).trans h
theorem Row.setCell (h : Row w g t l) (i : Nat) (v : Value) : Row (w.setCell ⟨g, i, none⟩ v) g t (l.set i v) := by
  have h' : w.heap[g]? = some (.cells l.toArray t (0, 0)) := h
  have hlt : g < w.heap.size := h.lt
  have hv : w.heap[g] = .cells l.toArray t (0, 0) := (Array.getElem?_eq_some_iff.1 h').2
  unfold Row World.setCell
  rw [Array.getElem?_eq_getElem (by simpa using hlt), Array.getElem_modify]
  simp [hv]
theorem Row.setCell_other (h : Row w g t l) {p : Addr} (hk : g ≠ p.block) (v : Value) : Row (w.setCell p v) g t l := (Below.heap_setCell w p v g hk).trans h
theorem Row.rd {α : Type} {f : α → Value} {L : List α} (h : Row w g t (L.map f)) : Rd f w (some ⟨g, 0, none⟩) L := fun _ => ⟨g, 0, rfl, fun i hi => by rw [Nat.zero_add]; exact h.cell (by simp [hi])⟩
theorem Row.rd_at {α : Type} {f : α → Value} {M : List Value} {L : List α} {o : Nat} (h : Row w g t M) (hl : (M.drop o).take L.length = L.map f) : Rd f w (some ⟨g, o, none⟩) L := fun _ => ⟨g, o, rfl, fun i hi => h.cell (by
  have := congrArg (·[i]?) hl
  simpa [List.getElem?_take, List.getElem?_drop, hi] using this)⟩

variable {P : Program}
/-- The whole, read. -/
theorem Row.load (h : Row w g t l) (ty : TypeId) (d : TypeDesc) (hu : P.underlying ty = some d) (hd : d.isRow = true) (hi : (P.info? ty).map (·.size) = some l.length) :
    (Instr.loadAt ty (.pointer (some ⟨g, 0, none⟩))).run P w = .ok (.agg l.toArray) w := run_loadAt_mid w g 0 ty l d h.range hu hd hi
theorem Row.loadVar (h : Row w g t l) (ty : TypeId) (d : TypeDesc) (hu : P.underlying ty = some d) (hd : d.isRow = true) (hi : (P.info? ty).map (·.size) = some l.length) :
    (Go.loadVar ty ⟨g, 0, none⟩).run P w = .ok (.agg l.toArray) w := run_loadVar_mid w g 0 ty l d h.range hu hd hi
/-- A part, read. -/
theorem Row.loadMid (h : Row w g t l) (ty : TypeId) (o : Nat) (m : List Value) (hm : (l.drop o).take m.length = m) (d : TypeDesc) (hu : P.underlying ty = some d) (hd : d.isRow = true) (hi : (P.info? ty).map (·.size) = some m.length) :
    (Instr.loadAt ty (.pointer (some ⟨g, o, none⟩))).run P w = .ok (.agg m.toArray) w := run_loadAt_mid w g o ty m d (fun j v hv => by
      have hj : j < m.length := (List.getElem?_eq_some_iff.1 hv).1
      have := congrArg (·[j]?) hm
      simp only [List.getElem?_take, List.getElem?_drop, hj, if_true] at this
      exact h.cell (this.trans hv)) hu hd hi
/-- The whole, set. -/
theorem Row.store (h : Row w g t l) (ty : TypeId) (m : List Value) (hi : (P.info? ty).map (·.size) = some m.length) (hl : l.length = m.length) (h1 : ∀ v ∈ m, v.oneCell' = true) :
    (Instr.storeAt ty (.pointer (some ⟨g, 0, none⟩)) (.agg m.toArray)).run P w = .ok () (w.setRow g m.toArray) := by
  simp only [Instr.storeAt, Instr.sureAddr, Sem.run_bind, Sem.run_pure, Result.andThen_ok]
  exact run_storeVar_row w g t ty l.toArray m.toArray h (by simpa using hi) (by simpa using hl) (all_oneCell_toArray h1)
end

section
variable {P : Program} {op : Oper} {a : Act} {w : World} {K : Act → World → Prop} {Q : Exit → Act → World → Prop} {ops : Array Oper} {rest : List Oper} {g : Nat} {t : TypeId} {l : List Value}
theorem Row.wp_store (ty : TypeId) (x y : Operand) (ho : op.op = .store ty x y) (hx : a.eval x = .pointer (some ⟨g, 0, none⟩)) (m : List Value) (hy : a.eval y = .agg m.toArray) (h : Row w g t l)
    (hi : (P.info? ty).map (·.size) = some m.length) (hl : l.length = m.length) (h1 : ∀ v ∈ m, v.oneCell' = true) (k : K (a.put op.dst undef) (w.setRow g m.toArray)) : op.wp P a w K Q := by
  unfold Oper.wp execOp
  have := h.store (P := P) ty m hi hl h1
  simp only [Instr.storeAt, Instr.sureAddr, Sem.run_bind, Sem.run_pure, Result.andThen_ok] at this
  simp only [ho, hx, hy, Instr.storeAt, Instr.sureAddr, Sem.run_bind, Sem.run_pure, Result.andThen_ok, this]
  exact k
theorem wpList_store_row (hgd : op.guard = none) (ty : TypeId) (x y : Operand) (ho : op.op = .store ty x y) (g : Nat) (hx : a.eval x = .pointer (some ⟨g, 0, none⟩)) (m : List Value) (hy : a.eval y = .agg m.toArray) (t : TypeId) (l : List Value) (h : Row w g t l)
    (hi : (P.info? ty).map (·.size) = some m.length) (hl : l.length = m.length) (h1 : ∀ v ∈ m, v.oneCell' = true) (k : wpList P ops Q rest (a.put op.dst undef) (w.setRow g m.toArray)) : wpList P ops Q (op :: rest) a w :=
  wpList_plain hgd fun _ hK => h.wp_store ty x y ho hx m hy hi hl h1 (hK _ _ k)
/-- A part of a block known whole, read. -/
theorem wpList_load_part (hgd : op.guard = none) (ty : TypeId) (x : Operand) (ho : op.op = .load ty x) (g o : Nat) (hx : a.eval x = .pointer (some ⟨g, o, none⟩)) (t : TypeId) (l : List Value) (h : Row w g t l) (m : List Value) (hm : (l.drop o).take m.length = m)
    (d : TypeDesc) (hu : P.underlying ty = some d) (hd : d.isRow = true) (hi : (P.info? ty).map (·.size) = some m.length) (k : wpList P ops Q rest (a.put op.dst (.agg m.toArray)) w) : wpList P ops Q (op :: rest) a w :=
  wpList_load_mid hgd ty x ho g o hx m d (fun j v hv => by
      have hj : j < m.length := (List.getElem?_eq_some_iff.1 hv).1
      have := congrArg (·[j]?) hm
      simp only [List.getElem?_take, List.getElem?_drop, hj, if_true] at this
      exact h.cell (this.trans hv)) hu hd hi k
end

theorem Row.setCells {g : Nat} {t : TypeId} : ∀ (m : List Value) (o : Nat) {w : World} {l : List Value}, Row w g t l → o + m.length ≤ l.length → Row (w.setCells g o m) g t (l.take o ++ m ++ l.drop (o + m.length))
  | [], o, w, l, h, _ => by simpa [World.setCells] using h
  | v :: m, o, w, l, h, hl => by
    simp only [List.length_cons] at hl
    have k := Row.setCells m (o + 1) (h.setCell o v) (by simp; omega)
    have e : (l.set o v).take (o + 1) ++ m ++ (l.set o v).drop (o + 1 + m.length) = l.take o ++ v :: m ++ l.drop (o + (v :: m).length) := by
      have ho : o < l.length := by omega
      rw [List.drop_set_of_lt (by omega), List.take_succ_eq_append_getElem (by simpa using ho), List.getElem_set_self, List.take_set_of_le (Nat.le_refl _)]
      simp [Nat.add_assoc, Nat.add_comm 1]
    rw [← e]
    exact k
theorem Row.setCells_other {g b : Nat} {t : TypeId} (hk : g ≠ b) : ∀ (m : List Value) (o : Nat) {w : World} {l : List Value}, Row w g t l → Row (w.setCells b o m) g t l
  | [], _, _, _, h => h
  | v :: m, o, _, _, h => Row.setCells_other hk m (o + 1) (h.setCell_other (p := ⟨b, o, none⟩) hk v)
theorem below_setCells {B b : Nat} (hb : B ≤ b) : ∀ (m : List Value) (o : Nat) {a w : World}, Below B a w → Below B a (w.setCells b o m)
  | [], _, _, _, h => h
  | v :: m, o, _, _, h => below_setCells hb m (o + 1) (h.setCell (p := ⟨b, o, none⟩) hb v)

/-- Two results, the first of them a whole block. -/
theorem results_row_tmp {P : Program} {fn : Func} {p u : Tmp} {ty : TypeId} (h : fn.results = #[.cell p ty, .tmp u]) (tmps : Array Value) (w : World) (g : Nat) (t : TypeId) (l : List Value) (d : TypeDesc) (hp : tmps.getD p undef = .pointer (some ⟨g, 0, none⟩)) (hg : Row w g t l)
    (hu : P.underlying ty = some d) (hd : d.isRow = true) (hi : (P.info? ty).map (·.size) = some l.length) : (results fn tmps).run P w = .ok (.tuple #[.agg l.toArray, tmps.getD u undef]) w := by
  rw [results_cell_tmp h, hp]
  simp only [asAddr, Sem.run_pure, Result.andThen_ok, hg.loadVar (P := P) ty d hu hd hi]

theorem Rd.setRow {α : Type} {f : α → Value} {w : World} {A : Option Addr} {L : List α} (h : Rd f w A L) {g : Nat} (cs : Array Value) (hg : ∀ a, A = some a → a.block ≠ g) : Rd f (w.setRow g cs) A L := fun hn => by
  obtain ⟨b, o, rfl, hc⟩ := h hn
  exact ⟨b, o, rfl, fun i hi => (cell_setRow_other w g cs ⟨b, o + i, none⟩ (hg ⟨b, o, none⟩ rfl)).trans (hc i hi)⟩
theorem map_one {α : Type} {f : α → Value} (hf : ∀ x, (f x).oneCell' = true) (L : List α) : ∀ v ∈ L.map f, v.oneCell' = true := fun v hv => by
  obtain ⟨x, _, rfl⟩ := List.mem_map.1 hv
  exact hf x

/-- 'copy(d, s)': the slice d lies in a block known whole, and has room for all of s. -/
theorem wp_copy_row {P : Program} {α : Type} {f : α → Value} {o : Oper} {a : Act} {w : World} {K : Act → World → Prop} {Q : Exit → Act → World → Prop} (d s : Operand) (dT sT : TypeId)
    (ho : o.op = .call { callee := .builtin .copy, args := #[d, s], argTypes := #[dT, sT] }) (elem : TypeId) (hu : P.underlying dT = some (.slice elem)) (hsz : (P.info? elem).map (·.size) = some 1)
    (g off dLen dCap : Nat) (A : Option Addr) (L : List α) (sCap : Nat) (hd : a.eval d = .slice (some ⟨g, off, none⟩) dLen dCap) (hs : a.eval s = .slice A L.length sCap)
    (cur : List Value) (t : TypeId) (hg : Row w g t cur) (hr : Rd f w A L) (hf : ∀ x, (f x).oneCell' = true) (hle : L.length ≤ dLen) (hfit : off + L.length ≤ cur.length)
    (h : K (a.put o.dst (.int .i64 (L.length : Int))) (w.setRow g (cur.take off ++ L.map f ++ cur.drop (off + L.length)).toArray)) : o.wp P a w K Q := by
  by_cases hn : L = []
  · subst hn
    have hrun := run_copy_none (P := P) w dT sT o.type elem (some ⟨g, off, none⟩) A dLen dCap 0 sCap hu hsz (by simp)
    unfold Oper.wp
    simp only [execOp, ho, resolve, invoke, builtin, hd, hs, Sem.run_bind, Sem.run_pure, Result.andThen_ok, List.map_toArray, List.map_cons, List.map_nil, List.length_nil, hrun]
    have e : w.setRow g (cur.take off ++ ([] : List α).map f ++ cur.drop (off + ([] : List α).length)).toArray = w := by
      simp only [List.map_nil, List.append_nil, List.length_nil, Nat.add_zero, List.take_append_drop]
      exact setRow_self w g _ t _ hg
    rw [e] at h
    exact h
  · obtain ⟨b, oo, rfl, hc⟩ := hr hn
    have hrun := run_copy_row (P := P) w dT sT o.type elem g off dLen dCap ⟨b, oo, none⟩ L.length sCap cur.toArray t (L.map f) hu hsz hg (by rw [List.length_map]; exact (Nat.min_eq_left hle).symm) (fun j v hv => by
      have hj : j < L.length := by simpa using (List.getElem?_eq_some_iff.1 hv).1
      have e1 : (⟨b, oo, none⟩ : Addr).add j = ⟨b, oo + j, none⟩ := by unfold Addr.add; split <;> simp_all
      rw [e1, hc j hj, ← hv]
      simp [hj]) (by simpa using hfit) (map_one hf L)
    unfold Oper.wp
    simp only [execOp, ho, resolve, invoke, builtin, hd, hs, Sem.run_bind, Sem.run_pure, Result.andThen_ok, List.map_toArray, List.map_cons, List.map_nil, hrun]
    have e2 : ((cur.toArray.toList.take off ++ L.map f ++ cur.toArray.toList.drop (off + (L.map f).length)).toArray) = (cur.take off ++ L.map f ++ cur.drop (off + L.length)).toArray := by simp
    have e3 : goInt ((L.map f).length : Nat) = .int .i64 (L.length : Int) := by simp [goInt]
    rw [e2, e3]
    exact h
theorem wpList_copy_row {P : Program} {α : Type} {f : α → Value} {ops : Array Oper} {rest : List Oper} {o : Oper} {a : Act} {w : World} {Q : Exit → Act → World → Prop} (hgd : o.guard = none) (d s : Operand) (dT sT : TypeId)
    (ho : o.op = .call { callee := .builtin .copy, args := #[d, s], argTypes := #[dT, sT] }) (elem : TypeId) (hu : P.underlying dT = some (.slice elem)) (hsz : (P.info? elem).map (·.size) = some 1)
    (g off dLen dCap : Nat) (A : Option Addr) (L : List α) (sCap : Nat) (hd : a.eval d = .slice (some ⟨g, off, none⟩) dLen dCap) (hs : a.eval s = .slice A L.length sCap)
    (cur : List Value) (t : TypeId) (hg : Row w g t cur) (hr : Rd f w A L) (hf : ∀ x, (f x).oneCell' = true) (hle : L.length ≤ dLen) (hfit : off + L.length ≤ cur.length)
    (h : wpList P ops Q rest (a.put o.dst (.int .i64 (L.length : Int))) (w.setRow g (cur.take off ++ L.map f ++ cur.drop (off + L.length)).toArray)) : wpList P ops Q (o :: rest) a w :=
  wpList_plain hgd fun _ hK => wp_copy_row d s dT sT ho elem hu hsz g off dLen dCap A L sCap hd hs cur t hg hr hf hle hfit (hK _ _ h)

end Go.Proofs.Yteppocjgodmpdaa
/-
  Rows of the call's own: their form, what is left of them behind other steps, two that stay apart, one known whole; one step more for plans (no program is named here). No conditions but those typed.
-/
namespace Go.Proofs.Yteppocjgodmpdaa
set_option maxRecDepth 100000
open Go.RowKit
set_option linter.unusedSimpArgs false
set_option linter.unusedVariables false

theorem ownsRow_same {w w' : World} {base : Nat} {e : TypeId} {v : Value} {n : Nat} {xs : List Value} (h : w.ownsRow base e 1 v n xs) (hh : ∀ b, base ≤ b → b < w.heap.size → w'.heap[b]? = w.heap[b]?) : w'.ownsRow base e 1 v n xs := by
  refine ⟨h.1, ?_⟩
  rcases h.2 with h0 | ⟨g, cap, cur, hv, hg, hc, r⟩
  · exact .inl h0
  · exact .inr ⟨g, cap, cur, hv, hg, (hh g hg (Array.getElem?_eq_some_iff.1 hc).1).trans hc, r⟩
theorem ownsRow_later {w w' : World} {base : Nat} {e : TypeId} {v : Value} {n : Nat} {xs : List Value} (h : w.ownsRow base e 1 v n xs) (hb : Below w.heap.size w w') : w'.ownsRow base e 1 v n xs := ownsRow_same h (fun b _ hb' => hb.block b hb')
theorem Rd.grown {α : Type} {f : α → Value} {w w' : World} {row : Option Nat} {A : Option Addr} {L : List α} (h : Rd f w A L) (hg : w.grownBy w' row) (hA : ∀ a, A = some a → row ≠ some a.block) : Rd f w' A L := fun hn => by
  obtain ⟨b, o, rfl, hc⟩ := h hn
  refine ⟨b, o, rfl, fun i hi => ?_⟩
  obtain ⟨_, _, _, _, h5⟩ := hg
  have hk := hc i hi
  have hlt : b < w.heap.size := World.block_lt_of_cell? w _ hk
  exact (World.cell?_of_block (w := w) (a := ⟨b, o + i, none⟩) (h5 b hlt (fun e => hA ⟨b, o, none⟩ rfl e.symm))).trans hk
theorem own_slice {α : Type} {f : α → Value} {w : World} {base : Nat} {e : TypeId} {v : Value} {l : List α} (h : w.ownsRow base e 1 v l.length (l.map f)) : ∃ A cap, v = .slice A l.length cap ∧ l.length ≤ cap ∧ Rd f w A l := by
  rcases h.2 with ⟨rfl, h0⟩ | ⟨g, cap, cur, rfl, _, _, hc, _⟩
  · have hl : l = [] := List.eq_nil_of_length_eq_zero h0
    subst hl
    exact ⟨none, 0, rfl, Nat.le_refl _, Rd.nil⟩
  · exact ⟨_, cap, rfl, hc, Rd.own h⟩

theorem Row.range_part {w : World} {g : Nat} {t : TypeId} {l : List Value} (h : Row w g t l) (o : Nat) (m : List Value) (hm : (l.drop o).take m.length = m) : w.rangeAt g o m := fun j v hv => by
  have hj : j < m.length := (List.getElem?_eq_some_iff.1 hv).1
  have := congrArg (·[j]?) hm
  simp only [List.getElem?_take, List.getElem?_drop, hj, if_true] at this
  exact h.cell (this.trans hv)

theorem own_form {w : World} {base : Nat} {e : TypeId} {v : Value} {n : Nat} {xs : List Value} (h : w.ownsRow base e 1 v n xs) : ∃ A cap, v = .slice A n cap ∧ n ≤ cap := by
  rcases h.2 with ⟨rfl, rfl⟩ | ⟨g, cap, cur, rfl, _, _, hc, _⟩
  · exact ⟨none, 0, rfl, Nat.le_refl _⟩
  · exact ⟨_, cap, rfl, hc⟩

theorem apart_symm {u v : Value} (h : u.ownBlock = none ∨ u.ownBlock ≠ v.ownBlock) : v.ownBlock = none ∨ v.ownBlock ≠ u.ownBlock := by
  rcases h with h | h
  · by_cases hv : v.ownBlock = none
    · exact .inl hv
    · exact .inr (by rw [h]; exact hv)
  · exact .inr (Ne.symm h)
/-- Apart, behind the growth of the second one. -/
theorem apart_grown {w : World} {base : Nat} {e : TypeId} {u v v' : Value} {n : Nat} {xs : List Value} (h : u.ownBlock = none ∨ u.ownBlock ≠ v.ownBlock) (ho : w.ownsRow base e 1 u n xs) (hat : v'.ownBlock = v.ownBlock ∨ v'.ownBlock = some w.heap.size) : u.ownBlock = none ∨ u.ownBlock ≠ v'.ownBlock := by
  rcases hat with hat | hat
  · rw [hat]; exact h
  · right
    rw [hat]
    intro hu
    have := (ho.lt _ hu).2
    omega
section
variable {P : Program} {ops : Array Oper} {Q : Exit → Act → World → Prop}
/-- One that makes memory; behind it a condition of one's own, which may speak of the new world. -/
theorem plan_make_to {i : Nat} {rest : Plan} {S : World → Prop} {o : Oper} {a : Act} {w : World} (ho : ops[i]? = some o) (hw : Region.wanted o (yielded ops a.tmps) = true)
    (h : ∀ K : Act → World → Prop, Shut (∀ (T : World → Prop) a' w', (∀ W, T W → S W) → T w' → wpPlan P ops Q rest T a' w' → K a' w') → o.wp P a w K Q) : wpPlan P ops Q (.step i true rest) S a w :=
  ⟨o, ho, .inr (.inr ⟨hw, rfl, h _ (fun T _ _ hT hb hr => ⟨T, hT, hb, hr⟩)⟩)⟩
end

/-- A row of the call's own, one place of it set. -/
theorem own_set {α : Type} {f : α → Value} {w : World} {base : Nat} {e : TypeId} {v : Value} {l : List α} {q : Nat} (h : w.ownsRow base e 1 v l.length (l.map f)) (hq : q < l.length) :
    ∃ g cap, v = .slice (some ⟨g, 0, none⟩) l.length cap ∧ base ≤ g ∧ g < w.heap.size ∧ l.length ≤ cap ∧ w.cell? ⟨g, q, none⟩ = some (f l[q]) ∧ w.frozen? ⟨g, q, none⟩ = false ∧ ∀ z : α, Rd f (w.setCell ⟨g, q, none⟩ (f z)) (some ⟨g, 0, none⟩) (l.set q z) := by
  rcases h.2 with ⟨rfl, h0⟩ | ⟨g, cap, cur, rfl, hg, hgg, hc, hm, hs, ht⟩
  · omega
  · have hR : Row w g e cur.toList := hgg
    rw [Nat.mul_one] at ht
    have hcell : w.cell? ⟨g, q, none⟩ = some (f l[q]) := by
      rw [hR.cell? q]
      have := congrArg (·[q]?) ht
      simpa [List.getElem?_take, hq] using this
    refine ⟨g, cap, rfl, hg, hR.lt, hc, hcell, hR.frozen _, fun z => ?_⟩
    refine Row.rd_at (hR.setCell q (f z)) ?_
    rw [List.drop_zero, List.length_set, List.take_set, ht, List.map_set]
end Go.Proofs.Yteppocjgodmpdaa
/-
  A string as a list of bytes: its length, one byte of it, the end of it, two held together (no program is named here). No conditions but those typed.
-/
namespace Go.Proofs.Yteppocjgodmpdaa
set_option maxRecDepth 100000
open Go.RowKit
set_option linter.unusedSimpArgs false

def strL (l : List UInt8) : ByteArray := ⟨l.toArray⟩
theorem strL_size (l : List UInt8) : (strL l).size = l.length := by simp [strL, ByteArray.size]
theorem strL_toList (l : List UInt8) : (strL l).toList = l := by unfold strL; exact ByteArray.toList_mk l
theorem strL_append (a b : List UInt8) : strL a ++ strL b = strL (a ++ b) := by
  unfold strL
  apply ByteArray.ext
  rw [ByteArray.data_append]
  simp
theorem strL_inj {a b : List UInt8} (h : strL a = strL b) : a = b := by
  have := congrArg ByteArray.toList h
  rwa [strL_toList, strL_toList] at this
theorem strL_drop (l : List UInt8) (k : Nat) : (strL l).extract k (strL l).size = strL (l.drop k) := by
  apply ByteArray.ext
  rw [ByteArray.data_extract, strL_size]
  simp [strL]
  exact List.take_of_length_le (by simp)
theorem run_index_strL {P : Program} (t : TypeId) (l : List UInt8) (i : Nat) (h : i < l.length) (ht : P.underlying t = some .string) (w : World) :
    (Instr.index t (.string (strL l)) (.int .i64 (i : Int))).run P w = .ok (.int .u8 (l[i].toNat : Int)) w := by
  rw [run_index_string w t (strL l) .i64 (i : Int) ht, dif_pos (by rw [strL_size]; omega)]
  simp [strL, ByteArray.getElem_eq_getElem_data]
theorem run_slice_strL {P : Program} (t : TypeId) (l : List UInt8) (k : Nat) (h : k ≤ l.length) (ht : P.underlying t = some .string) (w : World) :
    (Instr.slice t (.string (strL l)) (some (.int .i64 (k : Int))) none none).run P w = .ok (.string (strL (l.drop k))) w := by
  rw [run_slice_string_l w t (strL l) ht .i64 (k : Int) (by omega) (by rw [strL_size]; omega), Int.toNat_natCast, strL_drop]
end Go.Proofs.Yteppocjgodmpdaa
/-
  Structs of three numbers and a slice of bytes (payloads, activations): as cells, as a value, in a block of their own; calls that hand back a list of bytes. No conditions but those typed.
-/
namespace Go.Proofs.Yteppocjgodmpdaa
set_option maxRecDepth 100000
open Go.RowKit
set_option linter.unusedSimpArgs false
set_option linter.unusedVariables false

/-- A payload as its cells. -/
def cellsP (t e c : Nat) (A : Option Addr) (n k : Nat) : List Value := [.int .u64 (t : Int), .int .u64 (e : Int), .int .u64 (c : Int), .slice A n k]
def aggP (t e c : Nat) (A : Option Addr) (n k : Nat) : Value := .agg #[.int .u64 (t : Int), .int .u64 (e : Int), .int .u64 (c : Int), .slice A n k]
theorem box_pay (w : World) (ty : TypeId) (a b c d : Value) : Row (w.alloc (.cells #[a, b, c, d] ty)) w.heap.size ty [a, b, c, d] ∧ Below w.heap.size w (w.alloc (.cells #[a, b, c, d] ty)) := ⟨Row.new w ty _ _ rfl, below_new (Below.refl _ _) _⟩
def sameF (t e c : Nat) (g : List UInt8) (t' e' c' : Nat) (g' : List UInt8) : Bool := decide (t = t' ∧ e = e' ∧ c = c' ∧ g = g')
/-- A call that hands back a list of bytes. -/
def RetZ (w : World) (l : List UInt8) (e : Ending) (w' : World) : Prop := ∃ A n c, e = .returned (.slice A n c) ∧ Hid (l.length = n) ∧ n ≤ c ∧ Rd vB w' A l ∧ Below w.heap.size w w'
theorem RetZ.own {w w' : World} {l : List UInt8} {base : Nat} {e : TypeId} {v : Value} {n : Nat} (hn : l.length = n) (h : w'.ownsRow base e 1 v n (l.map vB)) (hb : Below w.heap.size w w') : RetZ w l (.returned v) w' := by
  subst hn
  obtain ⟨A, c, rfl, hc, hr⟩ := own_slice h
  exact ⟨A, l.length, c, rfl, rfl, hc, hr, hb⟩

theorem own_lit (w : World) (e : TypeId) (l : List Value) (cs : Array Value) (h : cs = l.toArray) (hm : l.length ≤ maxLen) : (w.alloc (.cells cs e)).ownsRow w.heap.size e 1 (.slice (some ⟨w.heap.size, 0, none⟩) l.length l.length) l.length l :=
  ⟨by simp, .inr ⟨w.heap.size, l.length, cs, rfl, Nat.le_refl _, heap_alloc_new w _, Nat.le_refl _, hm, by subst h; simp, by subst h; simp⟩⟩
theorem one_four (a b c d : Value) (ha : a.oneCell' = true) (hb : b.oneCell' = true) (hc : c.oneCell' = true) (hd : d.oneCell' = true) : ∀ v ∈ [a, b, c, d], v.oneCell' = true := fun v hv => by
  simp at hv
  rcases hv with rfl | rfl | rfl | rfl <;> assumption
theorem strBz (n : Nat) {w : World} {A : Option Addr} {l : List UInt8} {c : Nat} (H : Hid (l.length = n)) (h : Rd vB w A l) : ∀ W, Below w.heap.size w W → (convert 23 9 (.slice A n c)).run Try.prog W = .ok (.string (strL l)) W :=
  fun W hW => run_str W _ _ _ Try.underlying23 Try.underlying5 Try.underlying9 A l n c H.out (h.keep hW)
theorem str_sameB (a b : List UInt8) (S : Bool) (h : (a = b) ↔ S = true) : ((strL a).toList == (strL b).toList) = S := by
  rw [strL_toList, strL_toList, Bool.eq_iff_iff, beq_iff_eq]
  exact h
theorem same_selfP (t e c : Nat) (g : List UInt8) : sameF t e c g t e c g = true := by unfold sameF; simp
end Go.Proofs.Yteppocjgodmpdaa
