/-
  Plain facts on words of 32 bits, bytes and numbers (no program is named here): a word turned to the right, the eight bytes of a number, the number of bytes. No conditions but those typed.
-/
import Derived.Laws.BitsAllLaws
import Derived.Laws.BitsLemmas
import Derived.IntWalk
import Derived.RowKit
import Derived.Below
import Derived.Laws.OwnMore
import Derived.Deep.Draws
import Derived.Deep.AppendLies
import Derived.Laws.BytesArg
import Derived.Laws.Slices
import Derived.Laws.MakeOwn
import Derived.OwnWalk
namespace Go.Proofs.YtmljhkdojopljaaGreatDoor
set_option maxRecDepth 100000
open Go.RowKit

/-! ### Words turned -/
def rotR (x : UInt32) (s : Nat) : UInt32 := ⟨x.toBitVec.rotateRight s⟩

theorem rot_bit (x : BitVec 32) (s i : Nat) (hi : i < 32) : (x.rotateRight s).getLsbD i = x.getLsbD ((i + s) % 32) := by
  rw [BitVec.getLsbD_rotateRight]
  have h32 : s % 32 < 32 := Nat.mod_lt _ (by omega)
  by_cases h : i < 32 - s % 32
  · have e : s % 32 + i = (i + s) % 32 := by omega
    simp [h, e]
  · have e : i - (32 - s % 32) = (i + s) % 32 := by omega
    simp [h, e, hi]

theorem rotR_rotR (x : UInt32) (s t : Nat) : rotR (rotR x s) t = rotR x (s + t) := by
  unfold rotR
  congr 1
  apply BitVec.eq_of_getLsbD_eq
  intro i hi
  rw [rot_bit _ _ _ hi, rot_bit _ _ _ (Nat.mod_lt _ (by omega)), rot_bit _ _ _ hi]
  congr 1
  omega

theorem rotR_mod (x : UInt32) (s : Nat) : rotR x (s % 32) = rotR x s := by
  unfold rotR
  rw [BitVec.rotateRight_mod_eq_rotateRight]

theorem rotR_same (x : UInt32) {s t : Nat} (h : s % 32 = t % 32) : rotR x s = rotR x t := by
  rw [← rotR_mod x s, ← rotR_mod x t, h]

theorem rotR_zero (x : UInt32) : rotR x 0 = x := by
  unfold rotR
  have : x.toBitVec.rotateRight 0 = x.toBitVec := by
    apply BitVec.eq_of_getLsbD_eq
    intro i hi
    rw [rot_bit _ _ _ hi]
    congr 1
    omega
  rw [this]

theorem rotR_32 (x : UInt32) : rotR x 32 = x := by
  rw [← rotR_mod]
  exact rotR_zero x

theorem u32_lt (x : UInt32) : x.toNat < 4294967296 := x.toNat_lt

/-- What the library's two shifts and 'or' give, is the word turned. -/
theorem shifts_rot (x : UInt32) (s : Nat) (hs : s < 32) :
    bits .or .u32 ((x.toNat : Int) * 2 ^ s % 4294967296) ((x.toNat : Int) / 2 ^ (32 - s)) = ((rotR x (32 - s)).toNat : Int) := by
  have hx := u32_lt x
  have e1 : (x.toNat : Int) * 2 ^ s % 4294967296 = ((x.toNat * 2 ^ s % 4294967296 : Nat) : Int) := by
    rw [Int.natCast_emod, Int.natCast_mul, Int.natCast_pow]
    rfl
  have e2 : (x.toNat : Int) / 2 ^ (32 - s) = ((x.toNat / 2 ^ (32 - s) : Nat) : Int) := by
    rw [Int.natCast_ediv, Int.natCast_pow]
    rfl
  have hd : x.toNat / 2 ^ (32 - s) < 4294967296 := Nat.lt_of_le_of_lt (Nat.div_le_self _ _) hx
  rw [e1, e2, u32_or_nat _ _ (Nat.mod_lt _ (by omega)) hd]
  congr 1
  have hb : (rotR x (32 - s)).toNat = (x.toBitVec <<< s ||| x.toBitVec >>> (32 - s)).toNat := by
    show (x.toBitVec.rotateRight (32 - s)).toNat = _
    congr 1
    apply BitVec.eq_of_getLsbD_eq
    intro i hi
    rw [rot_bit _ _ _ hi, BitVec.getLsbD_or, BitVec.getLsbD_shiftLeft, BitVec.getLsbD_ushiftRight]
    by_cases h : i < s
    · have e : (i + (32 - s)) % 32 = 32 - s + i := by omega
      simp [hi, h, e]
    · have e : (i + (32 - s)) % 32 = i - s := by omega
      have e' : x.toBitVec.getLsbD (32 - s + i) = false := BitVec.getLsbD_of_ge _ _ (by omega)
      simp [hi, h, e, e']
  rw [hb, BitVec.toNat_or, BitVec.toNat_shiftLeft, BitVec.toNat_ushiftRight, Nat.shiftLeft_eq, Nat.shiftRight_eq_div_pow]
  rfl

/-- The count by which the library turns to the left. -/
theorem and31 (n : Int) : bits .and .u64 (IntKind.u64.wrap (wrap64 (-n))) 31 = (((-n) % 32).toNat : Int) := by
  have hw : IntKind.u64.wrap (wrap64 (-n)) = (((-n) % 18446744073709551616).toNat : Int) := by
    rw [IntKind.wrap_u64]
    unfold wrap64
    omega
  rw [hw, show (31 : Int) = ((31 : Nat) : Int) from rfl, u64_and_nat _ _ (by omega) (by omega)]
  have := Nat.and_two_pow_sub_one_eq_mod ((-n) % 18446744073709551616).toNat 5
  simp only [Nat.reducePow, Nat.reduceSub] at this
  rw [this]
  omega

/-! ### Numbers and their bytes -/
/-- The number of bytes, the highest first. -/
def valN (l : List UInt8) : Nat := l.foldl (fun v c => v * 256 + c.toNat) 0

theorem valN_snoc (l : List UInt8) (c : UInt8) : valN (l ++ [c]) = valN l * 256 + c.toNat := by
  unfold valN
  rw [List.foldl_append]
  rfl
theorem valN_take (l : List UInt8) (k : Nat) (h : k < l.length) : valN (l.take (k + 1)) = valN (l.take k) * 256 + l[k].toNat := by
  rw [List.take_succ_eq_append_getElem h, valN_snoc]

/-- One byte more, as the program's shift and 'or' have it. -/
theorem join_step (a c : Nat) (hc : c < 256) :
    bits .or .u64 (IntKind.u64.wrap ((a : Int) % 18446744073709551616 * 256)) (c : Int) = (((a * 256 + c) % 18446744073709551616 : Nat) : Int) := by
  have e : IntKind.u64.wrap ((a : Int) % 18446744073709551616 * 256) = ((2 ^ 8 * (a % 72057594037927936) : Nat) : Int) := by
    rw [IntKind.wrap_u64]
    omega
  rw [e, u64_or_nat _ _ (by omega) (by omega), ← Nat.two_pow_add_eq_or_of_lt (by omega)]
  congr 1
  omega

theorem valN_lt (l : List UInt8) : valN l < 256 ^ l.length := by
  suffices h : ∀ (l : List UInt8) (v : Nat), l.foldl (fun v c => v * 256 + c.toNat) v < (v + 1) * 256 ^ l.length by
    have := h l 0
    unfold valN
    omega
  intro l
  induction l with
  | nil => intro v; simp
  | cons c l ih =>
    intro v
    have h := ih (v * 256 + c.toNat)
    have hc : c.toNat < 256 := c.toNat_lt
    refine Nat.lt_of_lt_of_le h ?_
    rw [List.length_cons, Nat.pow_succ, Nat.mul_comm (256 ^ l.length) 256, ← Nat.mul_assoc]
    exact Nat.mul_le_mul_right _ (by omega)
theorem valN_lt8 (l : List UInt8) (h : l.length ≤ 8) : valN l < 18446744073709551616 :=
  Nat.lt_of_lt_of_le (valN_lt l) (Nat.pow_le_pow_right (by omega) h)

/-- word.Get's and word.FromLeast's answers: the number, and the code. -/
def getR (l : List UInt8) : Nat × Int := if l.length = 8 then (valN l, 0) else (0, 1)
def fromR (l : List UInt8) : Nat × Int := if 8 < l.length then (0, 4) else if l.head? = some 0 then (0, 3) else (valN l, 0)

/-- The eight bytes of a number, the highest first; its least bytes. -/
def putL (v : Nat) : List UInt8 := (List.range 8).map fun i => UInt8.ofNat (v / 256 ^ (7 - i))
def leastL (v : Nat) : List UInt8 := (putL v).dropWhile (· == 0)

/-- The words whose bytes these are; what is left over doesn't count. The bytes of words. -/
def wordsL : List UInt8 → List UInt32
  | a :: b :: c :: d :: r => UInt32.ofNat (valN [a, b, c, d]) :: wordsL r
  | _ => []
def bytesW (x : UInt32) : List UInt8 := [UInt8.ofNat (x.toNat / 16777216), UInt8.ofNat (x.toNat / 65536), UInt8.ofNat (x.toNat / 256), UInt8.ofNat x.toNat]
def bytesL (l : List UInt32) : List UInt8 := l.flatMap bytesW

theorem wordsL_short (l : List UInt8) (h : l.length < 4) : wordsL l = [] := by
  match l, h with
  | [], _ => rfl
  | [_], _ => rfl
  | [_, _], _ => rfl
  | [_, _, _], _ => rfl
  | _ :: _ :: _ :: _ :: _, h => simp at h; omega

theorem ret_int2 {k k' : IntKind} {a b a' b' : Int} (h : a = b) (h' : a' = b') : Ending.returned (.tuple #[.int k a, .int k' a']) = .returned (.tuple #[.int k b, .int k' b']) := by rw [h, h']
theorem ret_int {k : IntKind} {a b : Int} (h : a = b) : Ending.returned (.int k a) = .returned (.int k b) := by rw [h]


/-- A byte turned by another one (behind a name of its own: 'simp' would take 'toNat' apart). -/
def xorB (x y : UInt8) : UInt8 := x ^^^ y
theorem u8_lt (x : UInt8) : x.toNat < 256 := x.toNat_lt
theorem u8_xor_b (x y : UInt8) : bits .xor .u8 (x.toNat : Int) (y.toNat : Int) = ((xorB x y).toNat : Int) := by
  rw [u8_xor_nat _ _ (u8_lt x) (u8_lt y)]
  simp [xorB]
theorem xorB_ne (x y : UInt8) (h : y ≠ 0) : xorB x y ≠ x := by
  intro e
  apply h
  have := congrArg (fun z => x ^^^ z) e
  simp only [xorB, ← UInt8.xor_assoc, UInt8.xor_self, UInt8.zero_xor] at this
  exact this
end Go.Proofs.YtmljhkdojopljaaGreatDoor
/-
  Plain facts on numbers and their bytes, words and their bytes: each is read as it was, and has no other bytes. No program is named here.
-/
namespace Go.Proofs.YtmljhkdojopljaaGreatDoor
set_option maxRecDepth 100000

/-- The n last bytes of a number, the highest first. -/
def dig : Nat → Nat → List UInt8
  | 0, _ => []
  | n + 1, v => dig n (v / 256) ++ [UInt8.ofNat v]

theorem putL_dig (v : Nat) : putL v = dig 8 v := by
  simp [putL, dig, List.range, List.range.loop, Nat.div_div_eq_div_mul]
theorem dig_length (n v : Nat) : (dig n v).length = n := by
  induction n generalizing v with
  | zero => rfl
  | succ n ih => simp [dig, ih]
theorem valN_dig (n v : Nat) : valN (dig n v) = v % 256 ^ n := by
  induction n generalizing v with
  | zero => simp [dig, valN, Nat.mod_one]
  | succ n ih =>
    rw [dig, valN_snoc, ih, UInt8.toNat_ofNat', show 256 ^ (n + 1) = 256 * 256 ^ n by rw [Nat.pow_succ, Nat.mul_comm], Nat.mod_mul]
    omega
theorem dig_valN (l : List UInt8) (n : Nat) (h : l.length = n) : dig n (valN l) = l := by
  induction n generalizing l with
  | zero => rw [List.eq_nil_of_length_eq_zero h]; rfl
  | succ n ih =>
    rcases List.eq_nil_or_concat l with rfl | ⟨l', c, rfl⟩
    · simp at h
    · simp only [List.concat_eq_append] at h ⊢
      have hc : c.toNat < 256 := c.toNat_lt
      rw [valN_snoc, dig, show (valN l' * 256 + c.toNat) / 256 = valN l' by omega, ih l' (by simpa using h)]
      congr 2
      apply UInt8.toNat_inj.1
      rw [UInt8.toNat_ofNat']
      omega
theorem valN_zeros (k : Nat) (l : List UInt8) : valN (List.replicate k 0 ++ l) = valN l := by
  induction k with
  | zero => simp
  | succ k ih =>
    rw [← ih]
    simp [valN, List.replicate_succ]
theorem valN_dropWhile (l : List UInt8) : valN (l.dropWhile (· == 0)) = valN l := by
  induction l with
  | nil => rfl
  | cons a l ih =>
    rw [List.dropWhile_cons]
    split
    · rename_i h
      have h0 : a = 0 := by simpa using h
      subst h0
      rw [ih]
      simp [valN]
    · rfl
theorem valN_putL (v : Nat) (hv : v < 18446744073709551616) : valN (putL v) = v := by
  rw [putL_dig, valN_dig]
  exact Nat.mod_eq_of_lt hv
theorem valN_leastL (v : Nat) (hv : v < 18446744073709551616) : valN (leastL v) = v := by
  rw [leastL, valN_dropWhile, valN_putL v hv]
theorem leastL_length (v : Nat) : (leastL v).length ≤ 8 := by
  have h : (putL v).length = 8 := rfl
  have := (List.dropWhile_sublist (fun x : UInt8 => x == 0) (l := putL v)).length_le
  unfold leastL
  omega
theorem head_dropWhile (l : List UInt8) : (l.dropWhile (· == 0)).head? ≠ some 0 := by
  induction l with
  | nil => simp
  | cons a l ih =>
    rw [List.dropWhile_cons]
    split
    · exact ih
    · rename_i h
      simpa using h
theorem getR_putL (v : Nat) (hv : v < 18446744073709551616) : getR (putL v) = (v, 0) := by
  unfold getR
  rw [if_pos (show (putL v).length = 8 from rfl), valN_putL v hv]
theorem fromR_leastL (v : Nat) (hv : v < 18446744073709551616) : fromR (leastL v) = (v, 0) := by
  unfold fromR
  have := leastL_length v
  rw [if_neg (by omega), if_neg (show ¬ (leastL v).head? = some 0 from head_dropWhile _), valN_leastL v hv]
theorem leastL_valN (l : List UInt8) (h8 : l.length ≤ 8) (h0 : l.head? ≠ some 0) : leastL (valN l) = l := by
  unfold leastL
  have e : putL (valN l) = List.replicate (8 - l.length) 0 ++ l := by
    rw [putL_dig, ← valN_zeros (8 - l.length) l]
    exact dig_valN _ 8 (by simp; omega)
  rw [e]
  clear e
  generalize 8 - l.length = k
  induction k with
  | zero =>
    cases l with
    | nil => rfl
    | cons a l =>
      simp only [List.replicate_zero, List.nil_append]
      rw [List.dropWhile_cons, if_neg (by simpa using h0)]
  | succ k ih =>
    rw [List.replicate_succ, List.cons_append, List.dropWhile_cons, if_pos (by rfl)]
    exact ih
theorem fromR_bad (l : List UInt8) (h : (fromR l).2 ≠ 0) : (fromR l).1 = 0 := by
  unfold fromR at h ⊢
  split
  · rfl
  · split
    · rfl
    · rename_i h1 h2
      rw [if_neg h1, if_neg h2] at h
      exact absurd rfl h
theorem fromR_good (l : List UInt8) (h : (fromR l).2 = 0) : leastL (fromR l).1 = l ∧ (fromR l).1 < 18446744073709551616 := by
  unfold fromR at h ⊢
  by_cases h1 : 8 < l.length
  · rw [if_pos h1] at h
    cases h
  · by_cases h2 : l.head? = some 0
    · rw [if_neg h1, if_pos h2] at h
      cases h
    · rw [if_neg h1, if_neg h2]
      exact ⟨leastL_valN l (by omega) h2, valN_lt8 l (by omega)⟩
theorem leastL_inj (v w : Nat) (hv : v < 18446744073709551616) (hw : w < 18446744073709551616) : leastL v = leastL w ↔ v = w :=
  ⟨fun h => by rw [← valN_leastL v hv, h, valN_leastL w hw], fun h => by rw [h]⟩
theorem valN_cons (a : UInt8) (l : List UInt8) : valN (a :: l) = a.toNat * 256 ^ l.length + valN l := by
  have h : ∀ (l : List UInt8) (v : Nat), l.foldl (fun v c => v * 256 + c.toNat) v = v * 256 ^ l.length + valN l := by
    intro l
    induction l with
    | nil => intro v; simp [valN]
    | cons c l ih =>
      intro v
      have e : valN (c :: l) = (0 * 256 + c.toNat) * 256 ^ l.length + valN l := ih _
      rw [List.foldl_cons, ih, e, List.length_cons, Nat.pow_succ, Nat.zero_mul, Nat.zero_add, Nat.add_mul, Nat.mul_assoc, Nat.mul_comm 256, Nat.add_assoc]
  have := h l a.toNat
  simpa [valN] using this
theorem leastL_mono (v w : Nat) (hv : v < 18446744073709551616) (hw : w < 18446744073709551616) (h : v ≤ w) : (leastL v).length ≤ (leastL w).length := by
  rcases Nat.lt_or_ge (leastL w).length (leastL v).length with hlt | hge
  · exfalso
    have h1 := valN_lt (leastL w)
    rw [valN_leastL w hw] at h1
    have h2 := valN_leastL v hv
    have h3 := head_dropWhile (putL v)
    change (leastL v).head? ≠ some 0 at h3
    match hm : leastL v, hlt, h2, h3 with
    | [], hlt, _, _ => simp at hlt
    | a :: l, hlt, h2, h3 =>
      have ha : a.toNat ≠ 0 := fun e => h3 (by simp [UInt8.toNat_inj.1 (show a.toNat = (0 : UInt8).toNat from e)])
      rw [valN_cons] at h2
      have h4 : 256 ^ (leastL w).length ≤ 256 ^ l.length := Nat.pow_le_pow_right (by omega) (by simp at hlt; omega)
      have h5 : 256 ^ l.length ≤ a.toNat * 256 ^ l.length := Nat.le_mul_of_pos_left _ (by omega)
      omega
  · exact hge
theorem valN_bytesW (x : UInt32) : valN (bytesW x) = x.toNat := by
  have hx := u32_lt x
  simp only [bytesW, valN, List.foldl_cons, List.foldl_nil, UInt8.toNat_ofNat']
  omega
theorem wordsL_bytesL (l : List UInt32) : wordsL (bytesL l) = l := by
  induction l with
  | nil => rfl
  | cons x l ih =>
    have e : bytesL (x :: l) = bytesW x ++ bytesL l := by simp [bytesL]
    rw [e]
    show UInt32.ofNat (valN (bytesW x)) :: wordsL (bytesL l) = _
    rw [ih, valN_bytesW]
    congr 1
    apply UInt32.toNat_inj.1
    rw [UInt32.toNat_ofNat', Nat.mod_eq_of_lt (u32_lt x)]
theorem bytesW_valN (a b c d : UInt8) : bytesW (UInt32.ofNat (valN [a, b, c, d])) = [a, b, c, d] := by
  have ha : a.toNat < 256 := a.toNat_lt
  have hb : b.toNat < 256 := b.toNat_lt
  have hc : c.toNat < 256 := c.toNat_lt
  have hd : d.toNat < 256 := d.toNat_lt
  have hv : valN [a, b, c, d] = ((a.toNat * 256 + b.toNat) * 256 + c.toNat) * 256 + d.toNat := by simp [valN]
  have ht : (UInt32.ofNat (valN [a, b, c, d])).toNat = ((a.toNat * 256 + b.toNat) * 256 + c.toNat) * 256 + d.toNat := by rw [UInt32.toNat_ofNat', hv]; omega
  unfold bytesW
  rw [ht]
  congr 1
  · apply UInt8.toNat_inj.1; rw [UInt8.toNat_ofNat']; omega
  congr 1
  · apply UInt8.toNat_inj.1; rw [UInt8.toNat_ofNat']; omega
  congr 1
  · apply UInt8.toNat_inj.1; rw [UInt8.toNat_ofNat']; omega
  congr 1
  · apply UInt8.toNat_inj.1; rw [UInt8.toNat_ofNat']; omega
theorem bytesL_wordsL : ∀ (l : List UInt8), bytesL (wordsL l) = l.take (l.length / 4 * 4)
  | [] => rfl
  | [_] => by rw [wordsL_short _ (by simp)]; simp [bytesL]
  | [_, _] => by rw [wordsL_short _ (by simp)]; simp [bytesL]
  | [_, _, _] => by rw [wordsL_short _ (by simp)]; simp [bytesL]
  | a :: b :: c :: d :: l => by
    have e : bytesL (wordsL (a :: b :: c :: d :: l)) = bytesW (UInt32.ofNat (valN [a, b, c, d])) ++ bytesL (wordsL l) := by simp [wordsL, bytesL]
    rw [e, bytesW_valN, bytesL_wordsL l]
    have e2 : (a :: b :: c :: d :: l).length / 4 * 4 = l.length / 4 * 4 + 4 := by simp; omega
    rw [e2]
    simp [List.take_succ_cons]

end Go.Proofs.YtmljhkdojopljaaGreatDoor
/-
  Layer 15 as plain functions: lists of what was revoked, in order; what is put, the bytes, the list of any bytes. No conditions but those typed.
-/
namespace Go.Proofs.YtmljhkdojopljaaGreatDoor
set_option maxRecDepth 100000
set_option linter.unusedVariables false
set_option linter.unusedSimpArgs false

abbrev Gn := Nat × Nat
def ltG (a b : Gn) : Bool := decide (a.1 < b.1 ∨ (a.1 = b.1 ∧ a.2 < b.2))
def sortG : List Gn → Bool
  | a :: b :: l => ltG a b && sortG (b :: l)
  | _ => true
def rightG (l : List Gn) : Bool := sortG l && decide (l.length ≤ 64)
def hasG (l : List Gn) (g : Gn) : Bool := decide (g ∈ l)
def insG : List Gn → Gn → List Gn
  | [], g => [g]
  | a :: l, g => if ltG a g then a :: insG l g else g :: a :: l
def putG (l : List Gn) (g : Gn) : List Gn × Int := if rightG l = false then ([], 1) else if g ∈ l then (l, 0) else if l.length = 64 then ([], 12) else (insG l g, 0)
theorem ltG_iff {a b : Gn} : ltG a b = true ↔ a.1 < b.1 ∨ (a.1 = b.1 ∧ a.2 < b.2) := by unfold ltG; exact decide_eq_true_iff
theorem ltG_irr (a : Gn) : ltG a a = false := by
  unfold ltG
  rw [decide_eq_false_iff_not]
  omega
theorem ltG_trans {a b c : Gn} (h : ltG a b = true) (k : ltG b c = true) : ltG a c = true := by
  rw [ltG_iff] at *
  omega
theorem ltG_tri {a b : Gn} (h : ltG a b = false) (hn : a ≠ b) : ltG b a = true := by
  rw [ltG_iff]
  unfold ltG at h
  rw [decide_eq_false_iff_not] at h
  obtain ⟨a1, a2⟩ := a
  obtain ⟨b1, b2⟩ := b
  dsimp only at *
  by_cases h1 : a1 = b1
  · subst h1
    by_cases h2 : a2 = b2
    · subst h2
      exact absurd rfl hn
    · omega
  · omega
theorem sort_pair : ∀ l : List Gn, sortG l = true ↔ l.Pairwise (fun a b => ltG a b = true)
  | [] => by simp [sortG]
  | [a] => by simp [sortG]
  | a :: b :: l => by
    have ih := sort_pair (b :: l)
    unfold sortG
    rw [Bool.and_eq_true, ih]
    constructor
    · rintro ⟨h1, h2⟩
      refine List.pairwise_cons.2 ⟨fun x hx => ?_, h2⟩
      rcases List.mem_cons.1 hx with rfl | hx
      · exact h1
      · exact ltG_trans h1 ((List.pairwise_cons.1 h2).1 x hx)
    · intro h
      obtain ⟨h1, h2⟩ := List.pairwise_cons.1 h
      exact ⟨h1 b (List.mem_cons_self ..), h2⟩
abbrev Srt (l : List Gn) : Prop := l.Pairwise (fun a b => ltG a b = true)
theorem ins_mem (l : List Gn) (g x : Gn) : x ∈ insG l g ↔ x ∈ l ∨ x = g := by
  induction l with
  | nil => simp [insG]
  | cons a l ih =>
    unfold insG
    split
    · rw [List.mem_cons, ih, List.mem_cons]
      constructor
      · rintro (h | h | h)
        · exact .inl (.inl h)
        · exact .inl (.inr h)
        · exact .inr h
      · rintro ((h | h) | h)
        · exact .inl h
        · exact .inr (.inl h)
        · exact .inr (.inr h)
    · rw [List.mem_cons, or_comm]
theorem ins_length (l : List Gn) (g : Gn) : (insG l g).length = l.length + 1 := by
  induction l with
  | nil => rfl
  | cons a l ih =>
    unfold insG
    split
    · rw [List.length_cons, ih, List.length_cons]
    · rfl
theorem ins_sort {l : List Gn} {g : Gn} (h : Srt l) (hg : g ∉ l) : Srt (insG l g) := by
  induction l with
  | nil => exact List.pairwise_singleton _ _
  | cons a l ih =>
    obtain ⟨h1, h2⟩ := List.pairwise_cons.1 h
    unfold insG
    split
    · rename_i ha
      refine List.pairwise_cons.2 ⟨fun x hx => ?_, ih h2 (fun hm => hg (List.mem_cons_of_mem _ hm))⟩
      rcases (ins_mem l g x).1 hx with hx | rfl
      · exact h1 x hx
      · exact ha
    · rename_i ha
      have hga : ltG g a = true := ltG_tri (Bool.eq_false_iff.2 ha) (fun e => hg (by rw [← e]; exact List.mem_cons_self ..))
      refine List.pairwise_cons.2 ⟨fun x hx => ?_, h⟩
      rcases List.mem_cons.1 hx with rfl | hx
      · exact hga
      · exact ltG_trans hga (h1 x hx)
/-- Lists in order are told by what is there. -/
theorem sort_ext : ∀ {l m : List Gn}, Srt l → Srt m → (∀ x, x ∈ l ↔ x ∈ m) → l = m
  | [], [], _, _, _ => rfl
  | [], b :: m, _, _, h => absurd ((h b).2 (List.mem_cons_self ..)) (by simp)
  | a :: l, [], _, _, h => absurd ((h a).1 (List.mem_cons_self ..)) (by simp)
  | a :: l, b :: m, hl, hm, h => by
    obtain ⟨h1, h2⟩ := List.pairwise_cons.1 hl
    obtain ⟨k1, k2⟩ := List.pairwise_cons.1 hm
    have e : a = b := by
      rcases List.mem_cons.1 ((h a).1 (List.mem_cons_self ..)) with e | e
      · exact e
      · rcases List.mem_cons.1 ((h b).2 (List.mem_cons_self ..)) with e' | e'
        · exact e'.symm
        · have := ltG_trans (h1 b e') (k1 a e)
          rw [ltG_irr] at this
          cases this
    subst e
    have na : ∀ {n : List Gn}, (∀ x ∈ n, ltG a x = true) → a ∉ n := fun hn hmem => by
      have := hn a hmem
      rw [ltG_irr] at this
      cases this
    rw [sort_ext h2 k2 (fun x => ⟨fun hx => ?_, fun hx => ?_⟩)]
    · rcases List.mem_cons.1 ((h x).1 (List.mem_cons_of_mem _ hx)) with rfl | hx'
      · exact absurd hx (na h1)
      · exact hx'
    · rcases List.mem_cons.1 ((h x).2 (List.mem_cons_of_mem _ hx)) with rfl | hx'
      · exact absurd hx (na k1)
      · exact hx'
theorem right_parts {l : List Gn} : rightG l = true ↔ Srt l ∧ l.length ≤ 64 := by
  unfold rightG
  rw [Bool.and_eq_true, sort_pair, decide_eq_true_iff]
/-- What put hands back. -/
theorem put_cases (l : List Gn) (g : Gn) : (rightG l = false ∧ putG l g = ([], 1)) ∨ (rightG l = true ∧ g ∈ l ∧ putG l g = (l, 0)) ∨ (rightG l = true ∧ g ∉ l ∧ l.length = 64 ∧ putG l g = ([], 12)) ∨ (rightG l = true ∧ g ∉ l ∧ l.length < 64 ∧ putG l g = (insG l g, 0)) := by
  unfold putG
  cases hr : rightG l with
  | false => left; exact ⟨rfl, rfl⟩
  | true =>
    right
    have hl := (right_parts.1 hr).2
    rw [if_neg (by decide)]
    by_cases hm : g ∈ l
    · left
      exact ⟨rfl, hm, by rw [if_pos hm]⟩
    · right
      rw [if_neg hm]
      by_cases h64 : l.length = 64
      · left
        exact ⟨rfl, hm, h64, by rw [if_pos h64]⟩
      · right
        exact ⟨rfl, hm, by omega, by rw [if_neg h64]⟩
/-- What was put: in order, and just that is there, and what was. -/
theorem put_ok {l m : List Gn} {g : Gn} (h : putG l g = (m, 0)) : rightG l = true ∧ rightG m = true ∧ ∀ x, x ∈ m ↔ x ∈ l ∨ x = g := by
  rcases put_cases l g with ⟨_, e⟩ | ⟨hr, hm, e⟩ | ⟨_, _, _, e⟩ | ⟨hr, hm, hl, e⟩
  · rw [e] at h; cases h
  · rw [e] at h
    injection h with h _
    subst h
    refine ⟨hr, hr, fun x => ⟨.inl, ?_⟩⟩
    rintro (h | rfl)
    · exact h
    · exact hm
  · rw [e] at h; cases h
  · rw [e] at h
    injection h with h _
    subst h
    obtain ⟨hs, _⟩ := right_parts.1 hr
    exact ⟨hr, right_parts.2 ⟨ins_sort hs hm, by rw [ins_length]; omega⟩, ins_mem l g⟩
theorem put_again {l m : List Gn} {g : Gn} (h : putG l g = (m, 0)) : putG m g = (m, 0) := by
  obtain ⟨_, hr, hx⟩ := put_ok h
  unfold putG
  rw [hr, if_neg (by decide), if_pos ((hx g).2 (.inr rfl))]
/-- Two that are put may be put in either order. -/
theorem put_either {l m a b : List Gn} {g h : Gn} (h1 : putG l g = (m, 0)) (h2 : putG m h = (a, 0)) (h3 : putG l h = (b, 0)) : putG b g = (a, 0) := by
  obtain ⟨rl, rm, x1⟩ := put_ok h1
  obtain ⟨_, ra, x2⟩ := put_ok h2
  obtain ⟨_, rb, x3⟩ := put_ok h3
  have key : ∀ c, putG b g = (c, 0) → c = a := fun c hc => by
    obtain ⟨_, rc, x4⟩ := put_ok hc
    refine sort_ext (right_parts.1 rc).1 (right_parts.1 ra).1 (fun x => ?_)
    rw [x4, x3, x2, x1]
    constructor
    · rintro ((h | h) | h)
      · exact .inl (.inl h)
      · exact .inr h
      · exact .inl (.inr h)
    · rintro ((h | h) | h)
      · exact .inl (.inl h)
      · exact .inr h
      · exact .inl (.inr h)
  rcases put_cases b g with ⟨e, _⟩ | ⟨_, _, e⟩ | ⟨_, hg, hl, e⟩ | ⟨_, _, _, e⟩
  · rw [rb] at e; cases e
  · rw [e, key b e]
  · exfalso
    -- b has 64, and g isn't there: then a would have 65
    have sub : ∀ x, x ∈ insG b g ↔ x ∈ a := fun x => by
      rw [ins_mem, x3, x2, x1]
      constructor
      · rintro ((h | h) | h)
        · exact .inl (.inl h)
        · exact .inr h
        · exact .inl (.inr h)
      · rintro ((h | h) | h)
        · exact .inl (.inl h)
        · exact .inr h
        · exact .inl (.inr h)
    have := sort_ext (ins_sort (right_parts.1 rb).1 hg) (right_parts.1 ra).1 sub
    have hl2 := congrArg List.length this
    rw [ins_length, hl] at hl2
    have := (right_parts.1 ra).2
    omega
  · rw [e, key _ e]
theorem put_bad {l : List Gn} {g : Gn} {m : List Gn} {k : Int} (h : putG l g = (m, k)) (hk : k ≠ 0) : m = [] ∧ ((k = 1 ∧ rightG l = false) ∨ (k = 12 ∧ rightG l = true ∧ l.length = 64 ∧ g ∉ l)) := by
  rcases put_cases l g with ⟨hr, e⟩ | ⟨_, _, e⟩ | ⟨hr, hm, hl, e⟩ | ⟨_, _, _, e⟩
  · rw [e] at h
    injection h with h1 h2
    exact ⟨h1.symm, .inl ⟨h2.symm, hr⟩⟩
  · rw [e] at h
    injection h with _ h2
    exact absurd h2.symm hk
  · rw [e] at h
    injection h with h1 h2
    exact ⟨h1.symm, .inr ⟨h2.symm, hr, hl, hm⟩⟩
  · rw [e] at h
    injection h with _ h2
    exact absurd h2.symm hk

/-! ### Bytes, and read -/
def flatG (l : List Gn) : List UInt8 := l.flatMap (fun g => putL g.1 ++ putL g.2)
def bytesG (l : List Gn) : List UInt8 := UInt8.ofNat l.length :: flatG l
def takeG : Nat → List UInt8 → List Gn
  | 0, _ => []
  | n + 1, b => (valN (b.take 8), valN ((b.drop 8).take 8)) :: takeG n (b.drop 16)
def cntG (b : List UInt8) : Nat := (b.getD 0 0).toNat
def readG (b : List UInt8) : List Gn × Nat × Int :=
  if b.length = 0 then ([], 0, 2) else if 64 < cntG b then ([], 0, 3) else if b.length < 1 + 16 * cntG b then ([], 0, 2)
  else if rightG (takeG (cntG b) (b.drop 1)) = true then (takeG (cntG b) (b.drop 1), 1 + 16 * cntG b, 0) else ([], 0, 3)
def fitG (l : List Gn) : Prop := ∀ g ∈ l, g.1 < 18446744073709551616 ∧ g.2 < 18446744073709551616
theorem flat_length (l : List Gn) : (flatG l).length = 16 * l.length := by
  induction l with
  | nil => rfl
  | cons a l ih =>
    unfold flatG at *
    rw [List.flatMap_cons, List.length_append, ih, List.length_append, putL_dig, putL_dig, dig_length, dig_length, List.length_cons]
    omega
theorem bytes_length (l : List Gn) : (bytesG l).length = 1 + 16 * l.length := by
  unfold bytesG
  rw [List.length_cons, flat_length]
  omega
theorem take_flat : ∀ (l : List Gn) (r : List UInt8), fitG l → takeG l.length (flatG l ++ r) = l
  | [], _, _ => rfl
  | a :: l, r, h => by
    have l8 : ∀ v, (putL v).length = 8 := fun v => by rw [putL_dig, dig_length]
    have ha := h a (List.mem_cons_self ..)
    have e : flatG (a :: l) ++ r = putL a.1 ++ (putL a.2 ++ (flatG l ++ r)) := by
      unfold flatG
      rw [List.flatMap_cons]
      simp only [List.append_assoc]
    have d8 : (flatG (a :: l) ++ r).drop 8 = putL a.2 ++ (flatG l ++ r) := by rw [e]; exact List.drop_left' (l8 _)
    have d16 : (flatG (a :: l) ++ r).drop 16 = flatG l ++ r := by
      have : (flatG (a :: l) ++ r).drop 16 = ((flatG (a :: l) ++ r).drop 8).drop 8 := by rw [List.drop_drop]
      rw [this, d8]
      exact List.drop_left' (l8 _)
    have t8 : (flatG (a :: l) ++ r).take 8 = putL a.1 := by rw [e]; exact List.take_left' (l8 _)
    show (valN ((flatG (a :: l) ++ r).take 8), valN (((flatG (a :: l) ++ r).drop 8).take 8)) :: takeG l.length ((flatG (a :: l) ++ r).drop 16) = a :: l
    rw [d16, d8, t8, List.take_left' (l8 _), valN_putL _ ha.1, valN_putL _ ha.2, take_flat l r (fun g hg => h g (List.mem_cons_of_mem _ hg))]
theorem flat_take : ∀ (n : Nat) (b : List UInt8), 16 * n ≤ b.length → flatG (takeG n b) = b.take (16 * n) ∧ (takeG n b).length = n ∧ fitG (takeG n b)
  | 0, b, _ => ⟨by simp [takeG, flatG], rfl, fun g hg => by cases hg⟩
  | n + 1, b, h => by
    obtain ⟨i1, i2, i3⟩ := flat_take n (b.drop 16) (by rw [List.length_drop]; omega)
    have l1 : (b.take 8).length = 8 := by rw [List.length_take]; omega
    have l2 : ((b.drop 8).take 8).length = 8 := by rw [List.length_take, List.length_drop]; omega
    refine ⟨?_, ?_, ?_⟩
    · have e : flatG (takeG (n + 1) b) = putL (valN (b.take 8)) ++ putL (valN ((b.drop 8).take 8)) ++ flatG (takeG n (b.drop 16)) := by
        show ((valN (b.take 8), valN ((b.drop 8).take 8)) :: takeG n (b.drop 16)).flatMap (fun g => putL g.1 ++ putL g.2) = _
        rw [List.flatMap_cons]
        rfl
      rw [e, i1, putL_dig, putL_dig, dig_valN _ 8 l1, dig_valN _ 8 l2]
      have e1 : b.take (16 * (n + 1)) = b.take 8 ++ ((b.drop 8).take 8 ++ (b.drop 16).take (16 * n)) := by
        rw [show 16 * (n + 1) = 8 + (8 + 16 * n) by omega, List.take_add, List.take_add, List.drop_drop]
      rw [e1, List.append_assoc]
    · unfold takeG
      rw [List.length_cons, i2]
    · intro g hg
      unfold takeG at hg
      rcases List.mem_cons.1 hg with rfl | hg
      · have h1 := valN_lt8 (b.take 8) (by omega)
        have h2 := valN_lt8 ((b.drop 8).take 8) (by omega)
        exact ⟨h1, h2⟩
      · exact i3 g hg
theorem cnt_bytes (l : List Gn) (r : List UInt8) (h : l.length ≤ 64) : cntG (bytesG l ++ r) = l.length := by
  unfold cntG bytesG
  show (UInt8.ofNat l.length).toNat = _
  rw [UInt8.toNat_ofNat']
  omega
/-- A list is read from its bytes as it was, whatever is behind. -/
theorem readG_bytes {l : List Gn} (r : List UInt8) (h : rightG l = true) (hf : fitG l) : readG (bytesG l ++ r) = (l, 1 + 16 * l.length, 0) := by
  have hl := (right_parts.1 h).2
  have hc := cnt_bytes l r hl
  have hlen : (bytesG l ++ r).length = 1 + 16 * l.length + r.length := by rw [List.length_append, bytes_length]
  have hd : (bytesG l ++ r).drop 1 = flatG l ++ r := rfl
  unfold readG
  rw [hc, hlen, hd, take_flat l r hf, if_neg (by omega), if_neg (by omega), if_neg (by omega), if_pos h]
/-- Cut it is too short. -/
theorem readG_cut {l : List Gn} (k : Nat) (h : rightG l = true) (hk : k < (bytesG l).length) : readG ((bytesG l).take k) = ([], 0, 2) := by
  have hl := (right_parts.1 h).2
  rw [bytes_length] at hk
  have hlen : ((bytesG l).take k).length = k := by rw [List.length_take, bytes_length]; omega
  unfold readG
  rw [hlen]
  by_cases h0 : k = 0
  · rw [if_pos h0]
  · have hc : cntG ((bytesG l).take k) = l.length := by
      have := cnt_bytes l [] hl
      rw [List.append_nil] at this
      rw [← this]
      unfold cntG
      rw [List.getD_eq_getElem?_getD, List.getElem?_take, if_pos (by omega), ← List.getD_eq_getElem?_getD]
    rw [hc, if_neg h0, if_neg (by omega), if_pos (by omega)]
/-- What is read: right, and of just these bytes. -/
theorem readG_good {b : List UInt8} {l : List Gn} {n : Nat} (h : readG b = (l, n, 0)) : rightG l = true ∧ n = 1 + 16 * l.length ∧ n ≤ b.length ∧ bytesG l = b.take n ∧ fitG l := by
  unfold readG at h
  split at h
  · simp at h
  · rename_i h0
    split at h
    · simp at h
    · rename_i h1
      split at h
      · simp at h
      · rename_i h2
        split at h
        · rename_i h3
          obtain ⟨i1, i2, i3⟩ := flat_take (cntG b) (b.drop 1) (by rw [List.length_drop]; omega)
          injection h with e1 h
          injection h with e2 _
          subst e1
          subst e2
          refine ⟨h3, by rw [i2], by omega, ?_, i3⟩
          unfold bytesG
          rw [i1, i2]
          cases b with
          | nil => simp at h0
          | cons x b =>
            have e : cntG (x :: b) = x.toNat := rfl
            rw [e, UInt8.ofNat_toNat, show 1 + 16 * x.toNat = 16 * x.toNat + 1 by omega, List.take_succ_cons]
            rfl
        · simp at h
theorem readG_bad {b : List UInt8} {l : List Gn} {n : Nat} {k : Int} (h : readG b = (l, n, k)) (hk : k ≠ 0) : l = [] ∧ n = 0 := by
  unfold readG at h
  split at h
  · simp at h; exact ⟨h.1, h.2.1.symm⟩
  · split at h
    · simp at h; exact ⟨h.1, h.2.1.symm⟩
    · split at h
      · simp at h; exact ⟨h.1, h.2.1.symm⟩
      · split at h
        · injection h with _ h
          injection h with _ h
          exact absurd h.symm hk
        · simp at h; exact ⟨h.1, h.2.1.symm⟩
end Go.Proofs.YtmljhkdojopljaaGreatDoor
/-
  Layer 16 as plain functions: bundles, their bytes, and which bundle any bytes begin with. No conditions but those typed.
-/
namespace Go.Proofs.YtmljhkdojopljaaGreatDoor
set_option maxRecDepth 100000
set_option linter.unusedVariables false
set_option linter.unusedSimpArgs false

/-- An entry: its ticket, its epoch, its seed. -/
abbrev En := Nat × Nat × List UInt8
def seedOK (x : En) : Prop := 1 ≤ x.2.2.length ∧ x.2.2.length ≤ 32
instance (x : En) : Decidable (seedOK x) := by unfold seedOK; infer_instance
def okE : List En → Bool
  | [] => true
  | [a] => decide (seedOK a)
  | a :: b :: l => decide (seedOK a) && (decide (a.1 < b.1) && okE (b :: l))
def rightB (es : List En) (gs : List Gn) : Bool := decide (es.length ≤ 64) && (rightG gs && okE es)
def oneE (x : En) : List UInt8 := putL x.1 ++ (putL x.2.1 ++ (UInt8.ofNat x.2.2.length :: x.2.2))
def flatE (es : List En) : List UInt8 := es.flatMap oneE
def bytesB (v : Nat) (es : List En) (gs : List Gn) : List UInt8 := 66 :: (putL v ++ (UInt8.ofNat es.length :: (flatE es ++ bytesG gs)))
def fitE (es : List En) : Prop := ∀ x ∈ es, x.1 < 18446744073709551616 ∧ x.2.1 < 18446744073709551616
def entE (b : List UInt8) : En := (valN (b.take 8), valN ((b.drop 8).take 8), (b.drop 17).take (b.getD 16 0).toNat)
def readEs : Nat → List UInt8 → List En × List UInt8 × Int
  | 0, b => ([], b, 0)
  | n + 1, b =>
    if b.length < 17 then ([], [], 2) else if (b.getD 16 0).toNat = 0 ∨ 32 < (b.getD 16 0).toNat then ([], [], 3) else if b.length < 17 + (b.getD 16 0).toNat then ([], [], 2)
    else if (readEs n (b.drop (17 + (b.getD 16 0).toNat))).2.2 = 0 then (entE b :: (readEs n (b.drop (17 + (b.getD 16 0).toNat))).1, (readEs n (b.drop (17 + (b.getD 16 0).toNat))).2.1, 0) else ([], [], (readEs n (b.drop (17 + (b.getD 16 0).toNat))).2.2)
abbrev ResB := Nat × List En × List Gn × Nat × Int
def badB (k : Int) : ResB := (0, [], [], 0, k)
def readBun (b : List UInt8) : ResB :=
  if b.length = 0 then badB 2 else if b.getD 0 0 ≠ 66 then badB 3 else if b.length < 10 then badB 2 else if 64 < (b.getD 9 0).toNat then badB 3
  else if (readEs (b.getD 9 0).toNat (b.drop 10)).2.2 ≠ 0 then badB (readEs (b.getD 9 0).toNat (b.drop 10)).2.2
  else if (readG (readEs (b.getD 9 0).toNat (b.drop 10)).2.1).2.2 ≠ 0 then badB (readG (readEs (b.getD 9 0).toNat (b.drop 10)).2.1).2.2
  else if rightB (readEs (b.getD 9 0).toNat (b.drop 10)).1 (readG (readEs (b.getD 9 0).toNat (b.drop 10)).2.1).1 = true then
    (valN ((b.drop 1).take 8), (readEs (b.getD 9 0).toNat (b.drop 10)).1, (readG (readEs (b.getD 9 0).toNat (b.drop 10)).2.1).1, b.length - (readEs (b.getD 9 0).toNat (b.drop 10)).2.1.length + (readG (readEs (b.getD 9 0).toNat (b.drop 10)).2.1).2.1, 0)
  else badB 3
theorem putL_l8 (v : Nat) : (putL v).length = 8 := by rw [putL_dig, dig_length]
theorem oneE_length (x : En) : (oneE x).length = 17 + x.2.2.length := by
  unfold oneE
  rw [List.length_append, List.length_append, List.length_cons, putL_l8, putL_l8]
  omega
theorem okE_all : ∀ {es : List En}, okE es = true → ∀ x ∈ es, seedOK x
  | [], _, x, hx => by cases hx
  | [a], h, x, hx => by
    rw [List.mem_singleton.1 hx]
    unfold okE at h
    exact of_decide_eq_true h
  | a :: b :: l, h, x, hx => by
    unfold okE at h
    simp only [Bool.and_eq_true, decide_eq_true_eq] at h
    rcases List.mem_cons.1 hx with rfl | hx
    · exact h.1
    · exact okE_all h.2.2 x hx
theorem right_b {es : List En} {gs : List Gn} : rightB es gs = true ↔ es.length ≤ 64 ∧ rightG gs = true ∧ okE es = true := by
  unfold rightB
  rw [Bool.and_eq_true, Bool.and_eq_true, decide_eq_true_iff]
theorem one_parts (x : En) (r : List UInt8) (h : seedOK x) (h1 : x.1 < 18446744073709551616) (h2 : x.2.1 < 18446744073709551616) : ((oneE x ++ r).getD 16 0).toNat = x.2.2.length ∧ entE (oneE x ++ r) = x ∧ (oneE x ++ r).drop (17 + x.2.2.length) = r := by
  have e : oneE x ++ r = putL x.1 ++ (putL x.2.1 ++ (UInt8.ofNat x.2.2.length :: (x.2.2 ++ r))) := by
    unfold oneE
    simp only [List.append_assoc, List.cons_append]
  have d8 : (oneE x ++ r).drop 8 = putL x.2.1 ++ (UInt8.ofNat x.2.2.length :: (x.2.2 ++ r)) := by rw [e]; exact List.drop_left' (putL_l8 _)
  have d16 : (oneE x ++ r).drop 16 = UInt8.ofNat x.2.2.length :: (x.2.2 ++ r) := by
    have : (oneE x ++ r).drop 16 = ((oneE x ++ r).drop 8).drop 8 := by rw [List.drop_drop]
    rw [this, d8]
    exact List.drop_left' (putL_l8 _)
  have d17 : (oneE x ++ r).drop 17 = x.2.2 ++ r := by
    have : (oneE x ++ r).drop 17 = ((oneE x ++ r).drop 16).drop 1 := by rw [List.drop_drop]
    rw [this, d16]
    rfl
  have g16 : ((oneE x ++ r).getD 16 0).toNat = x.2.2.length := by
    have : (oneE x ++ r).getD 16 0 = ((oneE x ++ r).drop 16).getD 0 0 := by
      rw [List.getD_eq_getElem?_getD, List.getD_eq_getElem?_getD, List.getElem?_drop]
    rw [this, d16]
    show (UInt8.ofNat x.2.2.length).toNat = _
    rw [UInt8.toNat_ofNat']
    have := h.2
    omega
  refine ⟨g16, ?_, ?_⟩
  · unfold entE
    rw [g16, d8, d17, e, List.take_left' (putL_l8 _), List.take_left' (putL_l8 _), List.take_left' rfl, valN_putL _ h1, valN_putL _ h2]
  · rw [← List.drop_drop, d17]
    exact List.drop_left' rfl
theorem flatE_cons (a : En) (l : List En) : flatE (a :: l) = oneE a ++ flatE l := List.flatMap_cons ..
theorem readEs_flat : ∀ (es : List En) (r : List UInt8), (∀ x ∈ es, seedOK x) → fitE es → readEs es.length (flatE es ++ r) = (es, r, 0)
  | [], _, _, _ => rfl
  | a :: l, r, hs, hf => by
    have ha := hs a (List.mem_cons_self ..)
    obtain ⟨f1, f2⟩ := hf a (List.mem_cons_self ..)
    have ih := readEs_flat l r (fun x hx => hs x (List.mem_cons_of_mem _ hx)) (fun x hx => hf x (List.mem_cons_of_mem _ hx))
    have e : flatE (a :: l) ++ r = oneE a ++ (flatE l ++ r) := by rw [flatE_cons, List.append_assoc]
    obtain ⟨p1, p2, p3⟩ := one_parts a (flatE l ++ r) ha f1 f2
    have hl : (oneE a ++ (flatE l ++ r)).length = 17 + a.2.2.length + (flatE l ++ r).length := by rw [List.length_append, oneE_length]
    obtain ⟨s1, s2⟩ := ha
    rw [e]
    show readEs (l.length + 1) _ = _
    unfold readEs
    rw [p1, p3, ih, hl, if_neg (by omega), if_neg (by omega), if_neg (by omega), if_pos rfl, p2]
theorem readEs_good : ∀ (n : Nat) (b : List UInt8) (es : List En) (r : List UInt8), readEs n b = (es, r, 0) → b = flatE es ++ r ∧ es.length = n ∧ fitE es
  | 0, b, es, r, h => by
    unfold readEs at h
    injection h with h1 h2
    injection h2 with h2 _
    subst h1
    subst h2
    exact ⟨rfl, rfl, fun x hx => by cases hx⟩
  | n + 1, b, es, r, h => by
    unfold readEs at h
    split at h
    · simp at h
    · rename_i h17
      split at h
      · simp at h
      · rename_i hm
        split at h
        · simp at h
        · rename_i hl
          split at h
          · rename_i h0
            obtain ⟨q1, q2, q3, hq⟩ : ∃ q1 q2 q3, readEs n (b.drop (17 + (b.getD 16 0).toNat)) = (q1, q2, q3) := ⟨_, _, _, rfl⟩
            rw [hq] at h h0
            dsimp only at h h0
            subst h0
            obtain ⟨i1, i2, i3⟩ := readEs_good n _ _ _ hq
            injection h with e1 h
            injection h with e2 _
            subst e1
            subst e2
            have hlt : (b.getD 16 0).toNat < 256 := UInt8.toNat_lt _
            have l1 : (b.take 8).length = 8 := by rw [List.length_take]; omega
            have l2 : ((b.drop 8).take 8).length = 8 := by rw [List.length_take, List.length_drop]; omega
            have l3 : ((b.drop 17).take (b.getD 16 0).toNat).length = (b.getD 16 0).toNat := by rw [List.length_take, List.length_drop]; omega
            refine ⟨?_, by rw [List.length_cons, i2], fun x hx => ?_⟩
            · have eo : oneE (entE b) = b.take (17 + (b.getD 16 0).toNat) := by
                unfold oneE entE
                dsimp only
                rw [putL_dig, putL_dig, dig_valN _ 8 l1, dig_valN _ 8 l2, l3, UInt8.ofNat_toNat, show 17 + (b.getD 16 0).toNat = 8 + (8 + (1 + (b.getD 16 0).toNat)) by omega, List.take_add, List.take_add, List.drop_drop]
                congr 2
                have e16 : b.drop (8 + 8) = b.getD 16 0 :: b.drop 17 := by
                  rw [List.drop_eq_getElem_cons (by omega), List.getD_eq_getElem?_getD, List.getElem?_eq_getElem (by omega)]
                  rfl
                rw [e16, show 1 + (b.getD 16 0).toNat = (b.getD 16 0).toNat + 1 by omega, List.take_succ_cons]
              rw [flatE_cons, eo, List.append_assoc, ← i1, List.take_append_drop]
            · rcases List.mem_cons.1 hx with rfl | hx
              · exact ⟨valN_lt8 _ (by omega), valN_lt8 _ (by omega)⟩
              · exact i3 x hx
          · rename_i h0
            injection h with _ h
            injection h with _ h
            exact absurd h h0
theorem bytesB_length (v : Nat) (es : List En) (gs : List Gn) : (bytesB v es gs).length = 10 + (flatE es).length + (bytesG gs).length := by
  unfold bytesB
  rw [List.length_cons, List.length_append, List.length_cons, List.length_append, putL_l8]
  omega
theorem bun_parts (v : Nat) (es : List En) (gs : List Gn) (r : List UInt8) (h : es.length ≤ 64) : (bytesB v es gs ++ r).getD 0 0 = 66 ∧ ((bytesB v es gs ++ r).getD 9 0).toNat = es.length ∧ ((bytesB v es gs ++ r).drop 1).take 8 = putL v ∧ (bytesB v es gs ++ r).drop 10 = flatE es ++ (bytesG gs ++ r) := by
  have e1 : (bytesB v es gs ++ r).drop 1 = putL v ++ (UInt8.ofNat es.length :: (flatE es ++ (bytesG gs ++ r))) := by
    unfold bytesB
    simp only [List.cons_append, List.append_assoc, List.drop_succ_cons, List.drop_zero]
  have e9 : (bytesB v es gs ++ r).drop 9 = UInt8.ofNat es.length :: (flatE es ++ (bytesG gs ++ r)) := by
    have : (bytesB v es gs ++ r).drop 9 = ((bytesB v es gs ++ r).drop 1).drop 8 := by rw [List.drop_drop]
    rw [this, e1]
    exact List.drop_left' (putL_l8 _)
  refine ⟨rfl, ?_, ?_, ?_⟩
  · have : (bytesB v es gs ++ r).getD 9 0 = ((bytesB v es gs ++ r).drop 9).getD 0 0 := by
      rw [List.getD_eq_getElem?_getD, List.getD_eq_getElem?_getD, List.getElem?_drop]
    rw [this, e9]
    show (UInt8.ofNat es.length).toNat = _
    rw [UInt8.toNat_ofNat']
    omega
  · rw [e1]
    exact List.take_left' (putL_l8 _)
  · have : (bytesB v es gs ++ r).drop 10 = ((bytesB v es gs ++ r).drop 9).drop 1 := by rw [List.drop_drop]
    rw [this, e9]
    rfl
/-- A bundle is read from its bytes as it was, whatever is behind. -/
theorem bun_read {v : Nat} {es : List En} {gs : List Gn} (r : List UInt8) (h : rightB es gs = true) (hv : v < 18446744073709551616) (hf : fitE es) (hg : fitG gs) : readBun (bytesB v es gs ++ r) = (v, es, gs, (bytesB v es gs).length, 0) := by
  obtain ⟨h1, h2, h3⟩ := right_b.1 h
  obtain ⟨p0, p9, p1, p10⟩ := bun_parts v es gs r h1
  have hb := bytes_length gs
  have hlen : (bytesB v es gs ++ r).length = 10 + (flatE es).length + (bytesG gs).length + r.length := by rw [List.length_append, bytesB_length]
  have hE := readEs_flat es (bytesG gs ++ r) (okE_all h3) hf
  have hG := readG_bytes r h2 hg
  unfold readBun
  rw [p9, p10, hE]
  dsimp only
  rw [hG]
  dsimp only
  rw [if_neg (by omega), p0, if_neg (by simp), if_neg (by omega), if_neg (by omega), if_neg (by simp), if_neg (by simp), if_pos h, p1, valN_putL v hv, hlen, List.length_append, bytesB_length, hb]
  congr 4
  omega
/-- What is read: right, and of just these bytes. -/
theorem bun_good {b : List UInt8} {v n : Nat} {es : List En} {gs : List Gn} (h : readBun b = (v, es, gs, n, 0)) : rightB es gs = true ∧ n ≤ b.length ∧ bytesB v es gs = b.take n ∧ v < 18446744073709551616 ∧ fitE es ∧ fitG gs := by
  unfold readBun at h
  split at h
  · simp [badB] at h
  · rename_i h0
    split at h
    · simp [badB] at h
    · rename_i h66
      split at h
      · simp [badB] at h
      · rename_i h10
        split at h
        · simp [badB] at h
        · rename_i h64
          obtain ⟨q1, q2, q3, hq⟩ : ∃ q1 q2 q3, readEs (b.getD 9 0).toNat (b.drop 10) = (q1, q2, q3) := ⟨_, _, _, rfl⟩
          rw [hq] at h
          dsimp only at h
          split at h
          · rename_i hk
            unfold badB at h
            simp only [Prod.mk.injEq] at h
            exact absurd h.2.2.2.2 hk
          · rename_i hk
            obtain rfl : q3 = 0 := Classical.byContradiction hk
            obtain ⟨g1, g2, g3, hg⟩ : ∃ g1 g2 g3, readG q2 = (g1, g2, g3) := ⟨_, _, _, rfl⟩
            rw [hg] at h
            dsimp only at h
            split at h
            · rename_i hk2
              unfold badB at h
              simp only [Prod.mk.injEq] at h
              exact absurd h.2.2.2.2 hk2
            · rename_i hk2
              obtain rfl : g3 = 0 := Classical.byContradiction hk2
              split at h
              · rename_i hr
                simp only [Prod.mk.injEq, and_true] at h
                obtain ⟨rfl, rfl, rfl, rfl⟩ := h
                obtain ⟨i1, i2, i3⟩ := readEs_good _ _ _ _ hq
                obtain ⟨k1, k2, k3, k4, k5⟩ := readG_good hg
                have hlen := congrArg List.length i1
                rw [List.length_drop, List.length_append] at hlen
                have hn : b.length - q2.length + g2 = 10 + (flatE q1).length + (bytesG g1).length := by rw [bytes_length]; omega
                refine ⟨hr, by omega, ?_, valN_lt8 _ (by rw [List.length_take]; omega), i3, k5⟩
                have l1 : ((b.drop 1).take 8).length = 8 := by rw [List.length_take, List.length_drop]; omega
                have h66' : b.getD 0 0 = 66 := Classical.byContradiction h66
                rw [hn]
                unfold bytesB
                rw [putL_dig, dig_valN _ 8 l1, i2, UInt8.ofNat_toNat]
                have c0 : b = b.getD 0 0 :: b.drop 1 := by
                  cases b with
                  | nil => simp at h0
                  | cons x b => rfl
                have c9 : b.drop 9 = b.getD 9 0 :: b.drop 10 := by
                  rw [List.drop_eq_getElem_cons (by omega), List.getD_eq_getElem?_getD, List.getElem?_eq_getElem (by omega)]
                  rfl
                have c1 : b.drop 1 = (b.drop 1).take 8 ++ (b.getD 9 0 :: b.drop 10) := by
                  have := (List.take_append_drop 8 (b.drop 1)).symm
                  rw [List.drop_drop, c9] at this
                  exact this
                have ct : (b.drop 10).take ((flatE q1).length + (bytesG g1).length) = flatE q1 ++ bytesG g1 := by
                  rw [bytes_length, ← k2, i1, List.take_add, List.take_left' rfl, List.drop_left' rfl, k4]
                have : b.take (10 + (flatE q1).length + (bytesG g1).length) = 66 :: ((b.drop 1).take 8 ++ (b.getD 9 0 :: (b.drop 10).take ((flatE q1).length + (bytesG g1).length))) := by
                  conv => lhs; rw [c0, h66', c1]
                  generalize (b.drop 1).take 8 = x1 at l1 ⊢
                  generalize (flatE q1).length = y1
                  generalize (bytesG g1).length = y2
                  rw [show 10 + y1 + y2 = (8 + (1 + (y1 + y2))) + 1 by omega, List.take_succ_cons, List.take_add, List.take_left' l1, List.drop_left' l1, show 1 + (y1 + y2) = (y1 + y2) + 1 by omega, List.take_succ_cons]
                rw [this, ct]
              · simp [badB] at h
theorem bun_bad {b : List UInt8} {v n : Nat} {es : List En} {gs : List Gn} {k : Int} (h : readBun b = (v, es, gs, n, k)) (hk : k ≠ 0) : v = 0 ∧ es = [] ∧ gs = [] ∧ n = 0 := by
  have key : ∀ j : Int, badB j = (v, es, gs, n, k) → v = 0 ∧ es = [] ∧ gs = [] ∧ n = 0 := fun j e => by
    unfold badB at e
    simp only [Prod.mk.injEq] at e
    exact ⟨e.1.symm, e.2.1.symm, e.2.2.1.symm, e.2.2.2.1.symm⟩
  unfold readBun at h
  split at h
  · exact key _ h
  · split at h
    · exact key _ h
    · split at h
      · exact key _ h
      · split at h
        · exact key _ h
        · split at h
          · exact key _ h
          · split at h
            · exact key _ h
            · split at h
              · simp only [Prod.mk.injEq] at h
                exact absurd h.2.2.2.2.symm hk
              · exact key _ h
theorem bun_zero (b : List UInt8) (h : b.length = 0) : readBun b = badB 2 := by unfold readBun; rw [if_pos h]
theorem bun_mark (b : List UInt8) (h : b.length ≠ 0) (h1 : b.getD 0 0 ≠ 66) : readBun b = badB 3 := by unfold readBun; rw [if_neg h, if_pos h1]
theorem bun_short (b : List UInt8) (h : b.length ≠ 0) (h1 : b.getD 0 0 = 66) (h2 : b.length < 10) : readBun b = badB 2 := by unfold readBun; rw [if_neg h, if_neg (not_not_intro h1), if_pos h2]
theorem bun_many (b : List UInt8) (h1 : b.getD 0 0 = 66) (h2 : ¬ b.length < 10) (h3 : 64 < (b.getD 9 0).toNat) : readBun b = badB 3 := by unfold readBun; rw [if_neg (by omega), if_neg (not_not_intro h1), if_neg h2, if_pos h3]
theorem bun_body (b : List UInt8) (h1 : b.getD 0 0 = 66) (h2 : ¬ b.length < 10) (h3 : ¬ 64 < (b.getD 9 0).toNat) (E : List En × List UInt8 × Int) (hE : readEs (b.getD 9 0).toNat (b.drop 10) = E) : readBun b =
    if E.2.2 ≠ 0 then badB E.2.2 else if (readG E.2.1).2.2 ≠ 0 then badB (readG E.2.1).2.2 else if rightB E.1 (readG E.2.1).1 = true then (valN ((b.drop 1).take 8), E.1, (readG E.2.1).1, b.length - E.2.1.length + (readG E.2.1).2.1, 0) else badB 3 := by
  unfold readBun
  rw [hE, if_neg (by omega), if_neg (not_not_intro h1), if_neg h2, if_neg h3]
end Go.Proofs.YtmljhkdojopljaaGreatDoor
/-
  Layer 12 as plain functions: a payload's bytes, and what any bytes are; read back; cut, and with more behind. No conditions but those typed.
-/
namespace Go.Proofs.YtmljhkdojopljaaGreatDoor
set_option maxRecDepth 100000
set_option linter.unusedVariables false
set_option linter.unusedSimpArgs false

/-! ### Numbers -/
def numF (x : Nat) : List UInt8 := UInt8.ofNat (leastL x).length :: leastL x
/-- Why not (0: fine), the number, and what is left. -/
def readN : List UInt8 → Int × Nat × List UInt8
  | [] => (2, 0, [])
  | n :: r => if 8 < n.toNat then (4, 0, []) else if r.length < n.toNat then (2, 0, []) else if 0 < n.toNat ∧ r.head? = some 0 then (3, 0, []) else (0, valN (r.take n.toNat), r.drop n.toNat)
theorem readN_cons (n : UInt8) (r : List UInt8) : readN (n :: r) = if 8 < n.toNat then (4, 0, []) else if r.length < n.toNat then (2, 0, []) else if 0 < n.toNat ∧ r.head? = some 0 then (3, 0, []) else (0, valN (r.take n.toNat), r.drop n.toNat) := rfl
theorem least_count (x : Nat) : (UInt8.ofNat (leastL x).length).toNat = (leastL x).length := by
  have := leastL_length x
  rw [UInt8.toNat_ofNat']
  omega
theorem least_head (x : Nat) : (leastL x).head? ≠ some 0 := head_dropWhile (putL x)
theorem head_append (a r : List UInt8) (h : 0 < a.length) : (a ++ r).head? = a.head? := by
  cases a with
  | nil => simp at h
  | cons c a => rfl
theorem readN_num (x : Nat) (r : List UInt8) (hx : x < 18446744073709551616) : readN (numF x ++ r) = (0, x, r) := by
  unfold numF
  rw [List.cons_append, readN_cons, least_count]
  have h8 := leastL_length x
  rw [if_neg (by omega), if_neg (by rw [List.length_append]; omega)]
  rw [if_neg (by
    rintro ⟨h1, h2⟩
    rw [head_append _ _ h1] at h2
    exact least_head x h2)]
  rw [List.take_left, List.drop_left, valN_leastL x hx]
theorem readN_good (b r : List UInt8) (x : Nat) (h : readN b = (0, x, r)) : b = numF x ++ r ∧ x < 18446744073709551616 := by
  cases b with
  | nil => simp [readN] at h
  | cons n s =>
    rw [readN_cons] at h
    split at h
    · simp at h
    · rename_i h8
      split at h
      · simp at h
      · rename_i hl
        split at h
        · simp at h
        · rename_i h0
          simp only [Prod.mk.injEq, true_and] at h
          obtain ⟨e1, e2⟩ := h
          have htl : (s.take n.toNat).length = n.toNat := by rw [List.length_take]; omega
          have hhd : (s.take n.toNat).head? ≠ some 0 := by
            intro hh
            apply h0
            rcases Nat.eq_zero_or_pos n.toNat with hz | hp
            · rw [hz, List.take_zero] at hh
              simp at hh
            · refine ⟨hp, ?_⟩
              rw [← hh, List.head?_take, if_neg (by omega)]
          have hle := leastL_valN (s.take n.toNat) (by omega) hhd
          have hv := valN_lt8 (s.take n.toNat) (by omega)
          rw [e1] at hle hv
          refine ⟨?_, hv⟩
          unfold numF
          rw [hle, htl, UInt8.ofNat_toNat, ← e2, List.cons_append, List.take_append_drop]
/-- Cut within a number: too short. -/
theorem readN_cut (x : Nat) (hx : x < 18446744073709551616) (k : Nat) (hk : k < (numF x).length) : (readN ((numF x).take k)).1 = 2 := by
  cases k with
  | zero => rfl
  | succ k =>
    unfold numF at hk ⊢
    rw [List.length_cons] at hk
    rw [List.take_succ_cons, readN_cons, least_count]
    have := leastL_length x
    rw [if_neg (by omega), if_pos (by rw [List.length_take]; omega)]
theorem readN_left (x : Nat) (r : List UInt8) (hx : x < 18446744073709551616) (k : Nat) (hk : (numF x).length ≤ k) : readN ((numF x ++ r).take k) = (0, x, r.take (k - (numF x).length)) := by
  rw [List.take_append, List.take_of_length_le hk, readN_num x _ hx]
theorem readN_short (x : Nat) (r : List UInt8) (hx : x < 18446744073709551616) (k : Nat) (hk : k < (numF x).length) : (readN ((numF x ++ r).take k)).1 = 2 := by
  rw [List.take_append_of_le_length (by omega)]
  exact readN_cut x hx k hk

/-! ### Payloads -/
def writeF (t e c : Nat) (tag : List UInt8) : List UInt8 := 87 :: (numF t ++ (numF e ++ (numF c ++ tag)))
def readT (t e c : Nat) (r : List UInt8) : Int × Nat × Nat × Nat × List UInt8 := if r.length < 8 then (2, 0, 0, 0, []) else if 8 < r.length then (4, 0, 0, 0, []) else (0, t, e, c, r)
def readC (t e : Nat) (b : List UInt8) : Int × Nat × Nat × Nat × List UInt8 := if (readN b).1 = 0 then readT t e (readN b).2.1 (readN b).2.2 else ((readN b).1, 0, 0, 0, [])
def readE (t : Nat) (b : List UInt8) : Int × Nat × Nat × Nat × List UInt8 := if (readN b).1 = 0 then readC t (readN b).2.1 (readN b).2.2 else ((readN b).1, 0, 0, 0, [])
def readB (b : List UInt8) : Int × Nat × Nat × Nat × List UInt8 := if (readN b).1 = 0 then readE (readN b).2.1 (readN b).2.2 else ((readN b).1, 0, 0, 0, [])
def readF : List UInt8 → Int × Nat × Nat × Nat × List UInt8
  | [] => (2, 0, 0, 0, [])
  | x :: r => if x ≠ 87 then (3, 0, 0, 0, []) else readB r
theorem readF_cons (x : UInt8) (r : List UInt8) : readF (x :: r) = if x ≠ 87 then (3, 0, 0, 0, []) else readB r := rfl
section
variable {t e c : Nat} {tag : List UInt8} (ht : t < 18446744073709551616) (he : e < 18446744073709551616) (hc : c < 18446744073709551616)
include ht he hc
theorem read_write_of (r : List UInt8) : readF (87 :: (numF t ++ (numF e ++ (numF c ++ r)))) = readT t e c r := by
  rw [readF_cons, if_neg (by simp)]
  unfold readB
  rw [readN_num t _ ht, if_pos rfl]
  unfold readE
  dsimp only
  rw [readN_num e _ he, if_pos rfl]
  unfold readC
  dsimp only
  rw [readN_num c _ hc, if_pos rfl]
theorem read_write (h8 : tag.length = 8) : readF (writeF t e c tag) = (0, t, e, c, tag) := by
  unfold writeF
  rw [read_write_of ht he hc]
  unfold readT
  rw [if_neg (by omega), if_neg (by omega)]
theorem read_more (more : List UInt8) (h8 : tag.length = 8) (hm : 0 < more.length) : (readF (writeF t e c tag ++ more)).1 = 4 := by
  have e1 : writeF t e c tag ++ more = 87 :: (numF t ++ (numF e ++ (numF c ++ (tag ++ more)))) := by
    unfold writeF
    simp only [List.cons_append, List.append_assoc]
  rw [e1, read_write_of ht he hc]
  unfold readT
  rw [if_neg (by rw [List.length_append]; omega), if_pos (by rw [List.length_append]; omega)]
theorem read_cut (k : Nat) (h8 : tag.length = 8) (hk : k < (writeF t e c tag).length) : (readF ((writeF t e c tag).take k)).1 = 2 := by
  cases k with
  | zero => rfl
  | succ k =>
    unfold writeF at hk ⊢
    rw [List.length_cons] at hk
    rw [List.take_succ_cons, readF_cons, if_neg (by simp)]
    unfold readB
    by_cases h1 : k < (numF t).length
    · have := readN_short t (numF e ++ (numF c ++ tag)) ht k h1
      rw [if_neg (by rw [this]; decide)]
      exact this
    · rw [readN_left t _ ht k (by omega), if_pos rfl]
      unfold readE
      dsimp only
      generalize hk1 : k - (numF t).length = k1
      by_cases h2 : k1 < (numF e).length
      · have := readN_short e (numF c ++ tag) he k1 h2
        rw [if_neg (by rw [this]; decide)]
        exact this
      · rw [readN_left e _ he k1 (by omega), if_pos rfl]
        unfold readC
        dsimp only
        generalize hk2 : k1 - (numF e).length = k2
        by_cases h3 : k2 < (numF c).length
        · have := readN_short c tag hc k2 h3
          rw [if_neg (by rw [this]; decide)]
          exact this
        · rw [readN_left c _ hc k2 (by omega), if_pos rfl]
          unfold readT
          dsimp only
          simp only [List.length_append] at hk
          rw [if_pos (by rw [List.length_take]; omega)]
end
theorem read_good (b : List UInt8) (t e c : Nat) (tag : List UInt8) (h : readF b = (0, t, e, c, tag)) : b = writeF t e c tag ∧ tag.length = 8 ∧ t < 18446744073709551616 ∧ e < 18446744073709551616 ∧ c < 18446744073709551616 := by
  cases b with
  | nil => simp [readF] at h
  | cons x r =>
    rw [readF_cons] at h
    split at h
    · simp at h
    · rename_i hx
      have ex : x = 87 := Classical.byContradiction hx
      unfold readB at h
      split at h
      · rename_i h1
        obtain ⟨b1, l1⟩ := readN_good r (readN r).2.2 (readN r).2.1 (by rw [← h1])
        generalize (readN r).2.1 = t1 at h b1 l1
        generalize (readN r).2.2 = r1 at h b1
        unfold readE at h
        split at h
        · rename_i h2
          obtain ⟨b2, l2⟩ := readN_good r1 (readN r1).2.2 (readN r1).2.1 (by rw [← h2])
          generalize (readN r1).2.1 = e1 at h b2 l2
          generalize (readN r1).2.2 = r2 at h b2
          unfold readC at h
          split at h
          · rename_i h3
            obtain ⟨b3, l3⟩ := readN_good r2 (readN r2).2.2 (readN r2).2.1 (by rw [← h3])
            generalize (readN r2).2.1 = c1 at h b3 l3
            generalize (readN r2).2.2 = r3 at h b3
            unfold readT at h
            split at h
            · simp at h
            · split at h
              · simp at h
              · simp only [Prod.mk.injEq, true_and] at h
                obtain ⟨rfl, rfl, rfl, rfl⟩ := h
                refine ⟨?_, by omega, l1, l2, l3⟩
                unfold writeF
                rw [ex, b1, b2, b3]
          · rename_i h3
            simp only [Prod.mk.injEq] at h
            exact absurd h.1 h3
        · rename_i h2
          simp only [Prod.mk.injEq] at h
          exact absurd h.1 h2
      · rename_i h1
        simp only [Prod.mk.injEq] at h
        exact absurd h.1 h1
theorem write_inj {t e c t' e' c' : Nat} {tag tag' : List UInt8} (ht : t < 18446744073709551616) (he : e < 18446744073709551616) (hc : c < 18446744073709551616) (ht' : t' < 18446744073709551616) (he' : e' < 18446744073709551616) (hc' : c' < 18446744073709551616) (h8 : tag.length = 8) (h8' : tag'.length = 8) :
    writeF t e c tag = writeF t' e' c' tag' ↔ t = t' ∧ e = e' ∧ c = c' ∧ tag = tag' := by
  constructor
  · intro h
    have h1 := read_write ht he hc h8
    rw [h, read_write ht' he' hc' h8'] at h1
    simp only [Prod.mk.injEq, true_and] at h1
    obtain ⟨rfl, rfl, rfl, rfl⟩ := h1
    exact ⟨rfl, rfl, rfl, rfl⟩
  · rintro ⟨rfl, rfl, rfl, rfl⟩
    rfl
theorem num_length (x : Nat) : 1 ≤ (numF x).length ∧ (numF x).length ≤ 9 := by
  have := leastL_length x
  unfold numF
  rw [List.length_cons]
  omega
theorem write_length (t e c : Nat) (tag : List UInt8) (h8 : tag.length = 8) : 12 ≤ (writeF t e c tag).length ∧ (writeF t e c tag).length ≤ 36 := by
  have h1 := num_length t
  have h2 := num_length e
  have h3 := num_length c
  unfold writeF
  rw [List.length_cons, List.length_append, List.length_append, List.length_append]
  omega
/-- What a tag is of. -/
def msgF (t e c : Nat) : List UInt8 := 67 :: (putL t ++ (putL e ++ putL c))
theorem putL_len (v : Nat) : (putL v).length = 8 := rfl
theorem putL_injF {v w : Nat} (hv : v < 18446744073709551616) (hw : w < 18446744073709551616) (h : putL v = putL w) : v = w := by rw [← valN_putL v hv, h, valN_putL w hw]
theorem msg_inj {t e c t' e' c' : Nat} (ht : t < 18446744073709551616) (he : e < 18446744073709551616) (hc : c < 18446744073709551616) (ht' : t' < 18446744073709551616) (he' : e' < 18446744073709551616) (hc' : c' < 18446744073709551616) : msgF t e c = msgF t' e' c' ↔ t = t' ∧ e = e' ∧ c = c' := by
  constructor
  · intro h
    unfold msgF at h
    injection h with _ h
    obtain ⟨h1, h2⟩ := List.append_inj h rfl
    obtain ⟨h3, h4⟩ := List.append_inj h2 rfl
    exact ⟨putL_injF ht ht' h1, putL_injF he he' h3, putL_injF hc hc' h4⟩
  · rintro ⟨rfl, rfl, rfl⟩
    rfl
end Go.Proofs.YtmljhkdojopljaaGreatDoor
/-
  The field of 256 elements as plain functions on bytes: products bit by bit, and what is left of them by 301; that they make a field. No conditions but those typed.
-/
namespace Go.Proofs.YtmljhkdojopljaaGreatDoor
set_option maxRecDepth 100000

/-- The product of two polynomials over two elements, by the first i bits of the second one. -/
def clN (a b : Nat) : Nat → Nat
  | 0 => 0
  | i + 1 => if b / 2 ^ i % 2 = 1 then clN a b i ^^^ a * 2 ^ i else clN a b i
/-- What is left, of the bit k. -/
def stepN (p k : Nat) : Nat := if p / 2 ^ k % 2 = 1 then p ^^^ 301 * 2 ^ (k - 8) else p
def redN (p : Nat) : Nat := stepN (stepN (stepN (stepN (stepN (stepN (stepN p 14) 13) 12) 11) 10) 9) 8
def mulN (a b : Nat) : Nat := redN (clN a b 8)
def mulB (a b : UInt8) : UInt8 := UInt8.ofNat (mulN a.toNat b.toNat)
def addB (a b : UInt8) : UInt8 := a ^^^ b

theorem bit_xor (p q k : Nat) : (p ^^^ q) / 2 ^ k % 2 = 1 ↔ ¬ (p / 2 ^ k % 2 = 1 ↔ q / 2 ^ k % 2 = 1) := by
  have e : ∀ x : Nat, x / 2 ^ k % 2 = 1 ↔ x.testBit k = true := fun x => by
    rw [Nat.testBit_eq_decide_div_mod_eq]
    simp
  rw [e, e, e, Nat.testBit_xor]
  cases p.testBit k <;> cases q.testBit k <;> simp
theorem mul_xor (p q i : Nat) : (p ^^^ q) * 2 ^ i = p * 2 ^ i ^^^ q * 2 ^ i := by
  rw [← Nat.shiftLeft_eq, ← Nat.shiftLeft_eq, ← Nat.shiftLeft_eq, Nat.shiftLeft_xor_distrib]
theorem xor_four (a b c d : Nat) : (a ^^^ b) ^^^ (c ^^^ d) = (a ^^^ c) ^^^ (b ^^^ d) := by ac_rfl
theorem stepN_xor (p q k : Nat) : stepN (p ^^^ q) k = stepN p k ^^^ stepN q k := by
  unfold stepN
  have h := bit_xor p q k
  by_cases hp : p / 2 ^ k % 2 = 1 <;> by_cases hq : q / 2 ^ k % 2 = 1
  · rw [if_neg (by rw [h]; simp [hp, hq]), if_pos hp, if_pos hq, xor_four, Nat.xor_self, Nat.xor_zero]
  · rw [if_pos (by rw [h]; simp [hp, hq]), if_pos hp, if_neg hq]; ac_rfl
  · rw [if_pos (by rw [h]; simp [hp, hq]), if_neg hp, if_pos hq]; ac_rfl
  · rw [if_neg (by rw [h]; simp [hp, hq]), if_neg hp, if_neg hq]
theorem redN_xor (p q : Nat) : redN (p ^^^ q) = redN p ^^^ redN q := by
  unfold redN
  rw [stepN_xor, stepN_xor, stepN_xor, stepN_xor, stepN_xor, stepN_xor, stepN_xor]
theorem clN_xor_left (a a' b : Nat) : ∀ i, clN (a ^^^ a') b i = clN a b i ^^^ clN a' b i
  | 0 => by simp [clN]
  | i + 1 => by
    unfold clN
    rw [clN_xor_left a a' b i, mul_xor]
    split
    · rw [xor_four]
    · rfl
theorem clN_xor_right (a b b' : Nat) : ∀ i, clN a (b ^^^ b') i = clN a b i ^^^ clN a b' i
  | 0 => by simp [clN]
  | i + 1 => by
    unfold clN
    rw [clN_xor_right a b b' i]
    have h := bit_xor b b' i
    by_cases hp : b / 2 ^ i % 2 = 1 <;> by_cases hq : b' / 2 ^ i % 2 = 1
    · rw [if_neg (by rw [h]; simp [hp, hq]), if_pos hp, if_pos hq, xor_four, Nat.xor_self, Nat.xor_zero]
    · rw [if_pos (by rw [h]; simp [hp, hq]), if_pos hp, if_neg hq]; ac_rfl
    · rw [if_pos (by rw [h]; simp [hp, hq]), if_neg hp, if_pos hq]; ac_rfl
    · rw [if_neg (by rw [h]; simp [hp, hq]), if_neg hp, if_neg hq]
theorem ofNat_xor (p q : Nat) : UInt8.ofNat (p ^^^ q) = UInt8.ofNat p ^^^ UInt8.ofNat q := by
  apply UInt8.toNat_inj.1
  rw [UInt8.toNat_xor, UInt8.toNat_ofNat', UInt8.toNat_ofNat', UInt8.toNat_ofNat']
  exact Nat.xor_mod_two_pow
theorem mul_add_left (a a' b : UInt8) : mulB (addB a a') b = addB (mulB a b) (mulB a' b) := by
  unfold mulB mulN addB
  rw [UInt8.toNat_xor, clN_xor_left, redN_xor, ofNat_xor]
theorem mul_add_right (a b b' : UInt8) : mulB a (addB b b') = addB (mulB a b) (mulB a b') := by
  unfold mulB mulN addB
  rw [UInt8.toNat_xor, clN_xor_right, redN_xor, ofNat_xor]

/-! ### What is additive is told by the eight bits -/
theorem all_bytes {p : UInt8 → Prop} (h : ∀ n, n < 256 → p (UInt8.ofNat n)) (x : UInt8) : p x := by
  have := h x.toNat x.toNat_lt
  rwa [UInt8.ofNat_toNat] at this
theorem byte_bits (x : UInt8) : x = (x &&& 1) ^^^ ((x &&& 2) ^^^ ((x &&& 4) ^^^ ((x &&& 8) ^^^ ((x &&& 16) ^^^ ((x &&& 32) ^^^ ((x &&& 64) ^^^ (x &&& 128))))))) := by
  refine all_bytes (p := fun x => x = (x &&& 1) ^^^ ((x &&& 2) ^^^ ((x &&& 4) ^^^ ((x &&& 8) ^^^ ((x &&& 16) ^^^ ((x &&& 32) ^^^ ((x &&& 64) ^^^ (x &&& 128)))))))) ?_ x
  decide +kernel
theorem bit_or (x : UInt8) : ((x &&& 1) = 0 ∨ (x &&& 1) = 1) ∧ ((x &&& 2) = 0 ∨ (x &&& 2) = 2) ∧ ((x &&& 4) = 0 ∨ (x &&& 4) = 4) ∧ ((x &&& 8) = 0 ∨ (x &&& 8) = 8) ∧ ((x &&& 16) = 0 ∨ (x &&& 16) = 16) ∧ ((x &&& 32) = 0 ∨ (x &&& 32) = 32) ∧ ((x &&& 64) = 0 ∨ (x &&& 64) = 64) ∧ ((x &&& 128) = 0 ∨ (x &&& 128) = 128) := by
  refine all_bytes (p := fun x => ((x &&& 1) = 0 ∨ (x &&& 1) = 1) ∧ ((x &&& 2) = 0 ∨ (x &&& 2) = 2) ∧ ((x &&& 4) = 0 ∨ (x &&& 4) = 4) ∧ ((x &&& 8) = 0 ∨ (x &&& 8) = 8) ∧ ((x &&& 16) = 0 ∨ (x &&& 16) = 16) ∧ ((x &&& 32) = 0 ∨ (x &&& 32) = 32) ∧ ((x &&& 64) = 0 ∨ (x &&& 64) = 64) ∧ ((x &&& 128) = 0 ∨ (x &&& 128) = 128)) ?_ x
  decide +kernel
def bitsB : List UInt8 := [1, 2, 4, 8, 16, 32, 64, 128]
theorem add_self (x : UInt8) : addB x x = 0 := UInt8.xor_self
theorem add_zero (x : UInt8) : addB x 0 = x := UInt8.xor_zero
theorem zero_add (x : UInt8) : addB 0 x = x := UInt8.zero_xor
theorem add_comm (x y : UInt8) : addB x y = addB y x := UInt8.xor_comm x y
theorem add_assoc (x y z : UInt8) : addB (addB x y) z = addB x (addB y z) := UInt8.xor_assoc x y z
theorem additive_zero {f : UInt8 → UInt8} (hf : ∀ x y, f (addB x y) = addB (f x) (f y)) : f 0 = 0 := by
  have := hf 0 0
  rw [add_self, add_self] at this
  exact this
theorem additive_eq {f g : UInt8 → UInt8} (hf : ∀ x y, f (addB x y) = addB (f x) (f y)) (hg : ∀ x y, g (addB x y) = addB (g x) (g y)) (h : ∀ b ∈ bitsB, f b = g b) (x : UInt8) : f x = g x := by
  have f0 := additive_zero hf
  have g0 := additive_zero hg
  have one : ∀ (y b : UInt8), b ∈ bitsB → (y = 0 ∨ y = b) → f y = g y := by
    intro y b hb hy
    rcases hy with rfl | rfl
    · rw [f0, g0]
    · exact h _ hb
  obtain ⟨h1, h2, h3, h4, h5, h6, h7, h8⟩ := bit_or x
  have e1 := one _ 1 (by simp [bitsB]) h1
  have e2 := one _ 2 (by simp [bitsB]) h2
  have e3 := one _ 4 (by simp [bitsB]) h3
  have e4 := one _ 8 (by simp [bitsB]) h4
  have e5 := one _ 16 (by simp [bitsB]) h5
  have e6 := one _ 32 (by simp [bitsB]) h6
  have e7 := one _ 64 (by simp [bitsB]) h7
  have e8 := one _ 128 (by simp [bitsB]) h8
  have hx := byte_bits x
  generalize x &&& 1 = x1 at *
  generalize x &&& 2 = x2 at *
  generalize x &&& 4 = x3 at *
  generalize x &&& 8 = x4 at *
  generalize x &&& 16 = x5 at *
  generalize x &&& 32 = x6 at *
  generalize x &&& 64 = x7 at *
  generalize x &&& 128 = x8 at *
  have hx' : x = addB x1 (addB x2 (addB x3 (addB x4 (addB x5 (addB x6 (addB x7 x8)))))) := hx
  rw [hx', hf, hf, hf, hf, hf, hf, hf, hg, hg, hg, hg, hg, hg, hg, e1, e2, e3, e4, e5, e6, e7, e8]

theorem mul_comm (a b : UInt8) : mulB a b = mulB b a := by
  refine additive_eq (f := fun a => mulB a b) (g := fun a => mulB b a) (fun x y => mul_add_left x y b) (fun x y => mul_add_right b x y) (fun u hu => ?_) a
  refine additive_eq (f := fun b => mulB u b) (g := fun b => mulB b u) (fun x y => mul_add_right u x y) (fun x y => mul_add_left x y u) (fun v hv => ?_) b
  have : ∀ u ∈ bitsB, ∀ v ∈ bitsB, mulB u v = mulB v u := by decide +kernel
  exact this u hu v hv
theorem mul_assoc (a b c : UInt8) : mulB (mulB a b) c = mulB a (mulB b c) := by
  refine additive_eq (f := fun a => mulB (mulB a b) c) (g := fun a => mulB a (mulB b c)) (fun x y => by rw [mul_add_left, mul_add_left]) (fun x y => mul_add_left x y _) (fun u hu => ?_) a
  refine additive_eq (f := fun b => mulB (mulB u b) c) (g := fun b => mulB u (mulB b c)) (fun x y => by rw [mul_add_right, mul_add_left]) (fun x y => by rw [mul_add_left, mul_add_right]) (fun v hv => ?_) b
  refine additive_eq (f := fun c => mulB (mulB u v) c) (g := fun c => mulB u (mulB v c)) (fun x y => mul_add_right _ x y) (fun x y => by rw [mul_add_right, mul_add_right]) (fun w hw => ?_) c
  have : ∀ u ∈ bitsB, ∀ v ∈ bitsB, ∀ w ∈ bitsB, mulB (mulB u v) w = mulB u (mulB v w) := by decide +kernel
  exact this u hu v hv w hw
theorem mul_one (a : UInt8) : mulB a 1 = a := by
  refine additive_eq (f := fun a => mulB a 1) (g := fun a => a) (fun x y => mul_add_left x y 1) (fun _ _ => rfl) (fun u hu => ?_) a
  have : ∀ u ∈ bitsB, mulB u 1 = u := by decide +kernel
  exact this u hu
theorem one_mul (a : UInt8) : mulB 1 a = a := by rw [mul_comm, mul_one]
theorem mul_zero (a : UInt8) : mulB a 0 = 0 := additive_zero (f := fun b => mulB a b) (fun x y => mul_add_right a x y)
theorem zero_mul (a : UInt8) : mulB 0 a = 0 := by rw [mul_comm, mul_zero]

/-! ### Powers of 2 -/
def powB (a : UInt8) : Nat → UInt8
  | 0 => 1
  | n + 1 => mulB (powB a n) a
theorem pow_add (a : UInt8) (m : Nat) : ∀ n, powB a (m + n) = mulB (powB a m) (powB a n)
  | 0 => by rw [powB, mul_one]; rfl
  | n + 1 => by rw [← Nat.add_assoc, powB, pow_add a m n, powB, mul_assoc]
theorem pow_mul (a : UInt8) (m : Nat) : ∀ n, powB a (m * n) = powB (powB a m) n
  | 0 => rfl
  | n + 1 => by rw [Nat.mul_succ, pow_add, pow_mul a m n, powB]
theorem pow_one (n : Nat) : powB 1 n = 1 := by
  induction n with
  | zero => rfl
  | succ n ih => rw [powB, ih, mul_one]

/-- The powers of 2 from 0 on. -/
def expL : List UInt8 := [1, 2, 4, 8, 16, 32, 64, 128, 45, 90, 180, 69, 138, 57, 114, 228, 229, 231, 227, 235, 251, 219, 155, 27, 54, 108, 216, 157, 23, 46, 92, 184, 93, 186, 89, 178, 73, 146, 9, 18, 36, 72, 144, 13, 26, 52, 104, 208, 141, 55, 110, 220, 149, 7, 14, 28, 56, 112, 224, 237, 247, 195, 171, 123, 246, 193, 175, 115, 230, 225, 239, 243, 203, 187, 91, 182, 65, 130, 41, 82, 164, 101, 202, 185, 95, 190, 81, 162, 105, 210, 137, 63, 126, 252, 213, 135, 35, 70, 140, 53, 106, 212, 133, 39, 78, 156, 21, 42, 84, 168, 125, 250, 217, 159, 19, 38, 76, 152, 29, 58, 116, 232, 253, 215, 131, 43, 86, 172, 117, 234, 249, 223, 147, 11, 22, 44, 88, 176, 77, 154, 25, 50, 100, 200, 189, 87, 174, 113, 226, 233, 255, 211, 139, 59, 118, 236, 245, 199, 163, 107, 214, 129, 47, 94, 188, 85, 170, 121, 242, 201, 191, 83, 166, 97, 194, 169, 127, 254, 209, 143, 51, 102, 204, 181, 71, 142, 49, 98, 196, 165, 103, 206, 177, 79, 158, 17, 34, 68, 136, 61, 122, 244, 197, 167, 99, 198, 161, 111, 222, 145, 15, 30, 60, 120, 240, 205, 183, 67, 134, 33, 66, 132, 37, 74, 148, 5, 10, 20, 40, 80, 160, 109, 218, 153, 31, 62, 124, 248, 221, 151, 3, 6, 12, 24, 48, 96, 192, 173, 119, 238, 241, 207, 179, 75, 150]
def logL : List Nat := [0, 0, 1, 240, 2, 225, 241, 53, 3, 38, 226, 133, 242, 43, 54, 210, 4, 195, 39, 114, 227, 106, 134, 28, 243, 140, 44, 23, 55, 118, 211, 234, 5, 219, 196, 96, 40, 222, 115, 103, 228, 78, 107, 125, 135, 8, 29, 162, 244, 186, 141, 180, 45, 99, 24, 49, 56, 13, 119, 153, 212, 199, 235, 91, 6, 76, 220, 217, 197, 11, 97, 184, 41, 36, 223, 253, 116, 138, 104, 193, 229, 86, 79, 171, 108, 165, 126, 145, 136, 34, 9, 74, 30, 32, 163, 84, 245, 173, 187, 204, 142, 81, 181, 190, 46, 88, 100, 159, 25, 231, 50, 207, 57, 147, 14, 67, 120, 128, 154, 248, 213, 167, 200, 63, 236, 110, 92, 176, 7, 161, 77, 124, 221, 102, 218, 95, 198, 90, 12, 152, 98, 48, 185, 179, 42, 209, 37, 132, 224, 52, 254, 239, 117, 233, 139, 22, 105, 27, 194, 113, 230, 206, 87, 158, 80, 189, 172, 203, 109, 175, 166, 62, 127, 247, 146, 66, 137, 192, 35, 252, 10, 183, 75, 216, 31, 83, 33, 73, 164, 144, 85, 170, 246, 65, 174, 61, 188, 202, 205, 157, 143, 169, 82, 72, 182, 215, 191, 251, 47, 178, 89, 151, 101, 94, 160, 123, 26, 112, 232, 21, 51, 238, 208, 131, 58, 69, 148, 18, 15, 16, 68, 17, 121, 149, 129, 19, 155, 59, 249, 70, 214, 250, 168, 71, 201, 156, 64, 60, 237, 130, 111, 20, 93, 122, 177, 150]
theorem expL_length : expL.length = 255 := by decide +kernel
theorem expL_step : ∀ i, i < 254 → expL.getD (i + 1) 0 = mulB (expL.getD i 0) 2 := by decide +kernel
theorem exp_at : ∀ i, i < 255 → powB 2 i = expL.getD i 0
  | 0, _ => rfl
  | i + 1, h => by rw [powB, exp_at i (by omega), expL_step i (by omega)]
theorem exp_255 : powB 2 255 = 1 := by
  rw [show (255 : Nat) = 254 + 1 by rfl, powB, exp_at 254 (by omega)]
  decide +kernel
/-- Each element but 0 is a power of 2. -/
def logB (a : UInt8) : Nat := logL.getD a.toNat 0
theorem log_table : ∀ n, n < 256 → (n = 0 ∨ logL.getD n 0 < 255 ∧ expL.getD (logL.getD n 0) 0 = UInt8.ofNat n) := by decide +kernel
theorem exp_table : ∀ i, i < 255 → expL.getD i 0 ≠ 0 ∧ logL.getD (expL.getD i 0).toNat 0 = i := by decide +kernel
theorem log_lt (a : UInt8) (h : a ≠ 0) : logB a < 255 := by
  have := log_table a.toNat a.toNat_lt
  rcases this with h0 | ⟨h1, _⟩
  · exact absurd (UInt8.toNat_inj.1 h0) h
  · exact h1
theorem exp_log (a : UInt8) (h : a ≠ 0) : powB 2 (logB a) = a := by
  have := log_table a.toNat a.toNat_lt
  rcases this with h0 | ⟨h1, h2⟩
  · exact absurd (UInt8.toNat_inj.1 h0) h
  · rw [exp_at _ (log_lt a h)]
    unfold logB
    rw [h2, UInt8.ofNat_toNat]
theorem log_exp (i : Nat) (h : i < 255) : logB (powB 2 i) = i := by
  rw [exp_at i h]
  exact (exp_table i h).2
theorem exp_ne (i : Nat) : powB 2 i ≠ 0 := by
  have e : powB 2 i = powB 2 (i % 255) := by
    conv => lhs; rw [← Nat.div_add_mod i 255]
    rw [pow_add, pow_mul, exp_255, pow_one, one_mul]
  rw [e, exp_at _ (Nat.mod_lt _ (by omega))]
  exact (exp_table _ (Nat.mod_lt _ (by omega))).1
theorem exp_mod (i : Nat) : powB 2 i = powB 2 (i % 255) := by
  conv => lhs; rw [← Nat.div_add_mod i 255]
  rw [pow_add, pow_mul, exp_255, pow_one, one_mul]
theorem mul_ne (a b : UInt8) (ha : a ≠ 0) (hb : b ≠ 0) : mulB a b ≠ 0 := by
  rw [← exp_log a ha, ← exp_log b hb, ← pow_add]
  exact exp_ne _
theorem mul_eq_zero (a b : UInt8) : mulB a b = 0 ↔ a = 0 ∨ b = 0 := by
  constructor
  · intro h
    by_cases ha : a = 0
    · exact .inl ha
    · by_cases hb : b = 0
      · exact .inr hb
      · exact absurd h (mul_ne a b ha hb)
  · rintro (rfl | rfl)
    · exact zero_mul _
    · exact mul_zero _
theorem log_mul (a b : UInt8) (ha : a ≠ 0) (hb : b ≠ 0) : logB (mulB a b) = (logB a + logB b) % 255 := by
  conv => lhs; rw [← exp_log a ha, ← exp_log b hb, ← pow_add, exp_mod]
  exact log_exp _ (Nat.mod_lt _ (by omega))
theorem pow_255 (a : UInt8) (ha : a ≠ 0) : powB a 255 = 1 := by
  rw [← exp_log a ha, ← pow_mul, Nat.mul_comm, pow_mul, exp_255, pow_one]
theorem pow_mod (a : UInt8) (ha : a ≠ 0) (n : Nat) : powB a n = powB a (n % 255) := by
  conv => lhs; rw [← Nat.div_add_mod n 255]
  rw [pow_add, pow_mul, pow_255 a ha, pow_one, one_mul]
/-- The inverse. -/
def invB (a : UInt8) : UInt8 := powB a 254
theorem mul_inv (a : UInt8) (ha : a ≠ 0) : mulB a (invB a) = 1 := by
  have e : mulB (powB a 254) a = powB a 255 := rfl
  rw [invB, mul_comm, e, pow_255 a ha]
theorem inv_ne (a : UInt8) (ha : a ≠ 0) : invB a ≠ 0 := by
  intro h
  have := mul_inv a ha
  rw [h, mul_zero] at this
  exact absurd this (by decide)
theorem mul_cancel (a b c : UInt8) (ha : a ≠ 0) (h : mulB a b = mulB a c) : b = c := by
  have := congrArg (mulB (invB a)) h
  rwa [← mul_assoc, ← mul_assoc, mul_comm (invB a) a, mul_inv a ha, one_mul, one_mul] at this
theorem inv_unique (a b : UInt8) (h : mulB a b = 1) : b = invB a := by
  have ha : a ≠ 0 := by
    rintro rfl
    rw [zero_mul] at h
    exact absurd h (by decide)
  exact mul_cancel a b (invB a) ha (by rw [h, mul_inv a ha])
theorem square_add (a b : UInt8) : mulB (addB a b) (addB a b) = addB (mulB a a) (mulB b b) := by
  rw [mul_add_left, mul_add_right, mul_add_right, mul_comm b a, add_assoc, ← add_assoc (mulB a b) (mulB a b), add_self, zero_add]
end Go.Proofs.YtmljhkdojopljaaGreatDoor
/-
  Polynomials over the field of 256 elements as plain functions on lists of coefficients: sums, products, values, plain forms, division, slopes; the laws of a ring, up to zeros behind. No conditions but those typed.
-/
namespace Go.Proofs.YtmljhkdojopljaaGreatDoor
set_option maxRecDepth 100000
set_option linter.unusedVariables false
set_option linter.unusedSimpArgs false

def co (p : List UInt8) (k : Nat) : UInt8 := p.getD k 0
theorem co_nil (k : Nat) : co [] k = 0 := by simp [co]
theorem co_zero (a : UInt8) (p : List UInt8) : co (a :: p) 0 = a := rfl
theorem co_succ (a : UInt8) (p : List UInt8) (k : Nat) : co (a :: p) (k + 1) = co p k := by simp [co]
theorem co_ge (p : List UInt8) (k : Nat) (h : p.length ≤ k) : co p k = 0 := by simp [co, List.getD_eq_getElem?_getD, List.getElem?_eq_none h]
theorem co_lt (p : List UInt8) (k : Nat) (h : k < p.length) : co p k = p[k] := by simp [co, List.getD_eq_getElem?_getD, List.getElem?_eq_getElem h]

/-- The same polynomial, zeros behind let aside. -/
def Eqv (p q : List UInt8) : Prop := ∀ k, co p k = co q k
theorem Eqv.refl (p : List UInt8) : Eqv p p := fun _ => rfl
theorem Eqv.symm {p q : List UInt8} (h : Eqv p q) : Eqv q p := fun k => (h k).symm
theorem Eqv.trans {p q r : List UInt8} (h : Eqv p q) (g : Eqv q r) : Eqv p r := fun k => (h k).trans (g k)
theorem Eqv.cons {p q : List UInt8} (a : UInt8) (h : Eqv p q) : Eqv (a :: p) (a :: q) := fun k => by
  cases k with
  | zero => rfl
  | succ k => rw [co_succ, co_succ, h k]
theorem Eqv.tail {a b : UInt8} {p q : List UInt8} (h : Eqv (a :: p) (b :: q)) : a = b ∧ Eqv p q := ⟨h 0, fun k => by have := h (k + 1); rwa [co_succ, co_succ] at this⟩
theorem Eqv.nil_cons {b : UInt8} {q : List UInt8} (h : Eqv [] (b :: q)) : b = 0 ∧ Eqv [] q := ⟨by have := h 0; rw [co_nil, co_zero] at this; exact this.symm, fun k => by have := h (k + 1); rwa [co_nil, co_succ, ← co_nil k] at this⟩
theorem zero_cons : Eqv [0] [] := fun k => by cases k <;> simp [co]
theorem cons_nil {p : List UInt8} (h : Eqv p []) : Eqv (0 :: p) [] := fun k => by
  cases k with
  | zero => rw [co_zero, co_nil]
  | succ k => rw [co_succ, h k, co_nil, co_nil]

/-! ### Sums, multiples, products -/
def addL : List UInt8 → List UInt8 → List UInt8
  | [], q => q
  | a :: p, [] => a :: p
  | a :: p, b :: q => addB a b :: addL p q
theorem co_add : ∀ (p q : List UInt8) (k : Nat), co (addL p q) k = addB (co p k) (co q k)
  | [], q, k => by rw [addL, co_nil, zero_add]
  | a :: p, [], k => by rw [addL, co_nil, add_zero]
  | a :: p, b :: q, 0 => rfl
  | a :: p, b :: q, k + 1 => by rw [addL, co_succ, co_succ, co_succ, co_add p q k]
def scaleL (a : UInt8) (p : List UInt8) : List UInt8 := p.map (mulB a)
theorem co_scale (a : UInt8) : ∀ (p : List UInt8) (k : Nat), co (scaleL a p) k = mulB a (co p k)
  | [], k => by rw [scaleL, List.map_nil, co_nil, mul_zero]
  | b :: p, 0 => rfl
  | b :: p, k + 1 => by rw [scaleL, List.map_cons, co_succ, co_succ]; exact co_scale a p k
def mulL : List UInt8 → List UInt8 → List UInt8
  | [], _ => []
  | a :: p, q => addL (scaleL a q) (0 :: mulL p q)
theorem add_congr {p p' q q' : List UInt8} (h : Eqv p p') (g : Eqv q q') : Eqv (addL p q) (addL p' q') := fun k => by rw [co_add, co_add, h k, g k]
theorem addL_comm (p q : List UInt8) : Eqv (addL p q) (addL q p) := fun k => by rw [co_add, co_add, add_comm]
theorem addL_assoc (p q r : List UInt8) : Eqv (addL (addL p q) r) (addL p (addL q r)) := fun k => by rw [co_add, co_add, co_add, co_add, add_assoc]
theorem addL_self (p : List UInt8) : Eqv (addL p p) [] := fun k => by rw [co_add, add_self, co_nil]
theorem addL_nil (p : List UInt8) : Eqv (addL p []) p := fun k => by rw [co_add, co_nil, add_zero]
theorem add_four (a b c d : UInt8) : addB (addB a b) (addB c d) = addB (addB a c) (addB b d) := by
  unfold addB
  ac_rfl
theorem addL_four (p q r s : List UInt8) : Eqv (addL (addL p q) (addL r s)) (addL (addL p r) (addL q s)) := fun k => by simp only [co_add]; exact add_four _ _ _ _
theorem scale_congr (a : UInt8) {p q : List UInt8} (h : Eqv p q) : Eqv (scaleL a p) (scaleL a q) := fun k => by rw [co_scale, co_scale, h k]
theorem scale_add (a : UInt8) (p q : List UInt8) : Eqv (scaleL a (addL p q)) (addL (scaleL a p) (scaleL a q)) := fun k => by simp only [co_scale, co_add, mul_add_right]
theorem scale_scale (a b : UInt8) (p : List UInt8) : Eqv (scaleL a (scaleL b p)) (scaleL (mulB a b) p) := fun k => by simp only [co_scale, mul_assoc]
theorem scale_cons (a b : UInt8) (p : List UInt8) : scaleL a (b :: p) = mulB a b :: scaleL a p := rfl
theorem scale_shift (a : UInt8) (p : List UInt8) : Eqv (scaleL a (0 :: p)) (0 :: scaleL a p) := by
  rw [scale_cons, mul_zero]
  exact Eqv.refl _
theorem scale_zero (p : List UInt8) : Eqv (scaleL 0 p) [] := fun k => by rw [co_scale, zero_mul, co_nil]
theorem scale_one (p : List UInt8) : scaleL 1 p = p := by
  unfold scaleL
  have : (mulB 1) = id := funext one_mul
  rw [this, List.map_id]
theorem shift_add (p q : List UInt8) : Eqv (0 :: addL p q) (addL (0 :: p) (0 :: q)) := fun k => by
  cases k with
  | zero => rfl
  | succ k => simp only [co_succ, co_add]
theorem mulL_nil : ∀ p : List UInt8, Eqv (mulL p []) []
  | [] => Eqv.refl _
  | a :: p => by
    rw [mulL]
    exact (add_congr (Eqv.refl _) (cons_nil (mulL_nil p))).trans (addL_nil _)
theorem mul_congr_right : ∀ (p : List UInt8) {q q' : List UInt8}, Eqv q q' → Eqv (mulL p q) (mulL p q')
  | [], _, _, _ => Eqv.refl _
  | a :: p, _, _, h => add_congr (scale_congr a h) ((mul_congr_right p h).cons 0)
theorem mulL_add_right : ∀ (p q r : List UInt8), Eqv (mulL p (addL q r)) (addL (mulL p q) (mulL p r))
  | [], q, r => Eqv.refl _
  | a :: p, q, r => by
    rw [mulL, mulL, mulL]
    exact (add_congr (scale_add a q r) (((mulL_add_right p q r).cons 0).trans (shift_add _ _))).trans (addL_four _ _ _ _)
theorem mulL_scale_right (b : UInt8) : ∀ (p q : List UInt8), Eqv (mulL p (scaleL b q)) (scaleL b (mulL p q))
  | [], q => Eqv.refl _
  | a :: p, q => by
    rw [mulL, mulL]
    refine (add_congr ?_ ((mulL_scale_right b p q).cons 0)).trans (Eqv.symm ((scale_add b _ _).trans (add_congr (Eqv.refl _) (scale_shift b _))))
    exact fun k => by simp only [co_scale, ← mul_assoc, mul_comm a b]
theorem mulL_shift_right : ∀ (p q : List UInt8), Eqv (mulL p (0 :: q)) (0 :: mulL p q)
  | [], q => zero_cons.symm
  | a :: p, q => by
    rw [mulL, mulL]
    exact (add_congr (scale_shift a q) ((mulL_shift_right p q).cons 0)).trans (shift_add _ _).symm
theorem mulL_one_right (b : UInt8) : ∀ p : List UInt8, Eqv (mulL p [b]) (scaleL b p)
  | [] => Eqv.refl _
  | a :: p => by
    rw [mulL]
    refine (add_congr (Eqv.refl _) ((mulL_one_right b p).cons 0)).trans (fun k => ?_)
    cases k with
    | zero => rw [co_add, co_scale, co_zero, co_zero, co_scale, co_zero, add_zero, mul_comm]
    | succ k => rw [co_add, co_scale, co_succ, co_nil, mul_zero, zero_add, co_succ, scale_cons, co_succ]
theorem cons_split (b : UInt8) (q : List UInt8) : Eqv (b :: q) (addL [b] (0 :: q)) := fun k => by
  cases k with
  | zero => rw [co_add, co_zero, co_zero, co_zero, add_zero]
  | succ k => rw [co_add, co_succ, co_succ, co_succ, co_nil, zero_add]
theorem mulL_cons_right (p : List UInt8) (b : UInt8) (q : List UInt8) : Eqv (mulL p (b :: q)) (addL (scaleL b p) (0 :: mulL p q)) :=
  ((mul_congr_right p (cons_split b q)).trans (mulL_add_right p _ _)).trans (add_congr (mulL_one_right b p) (mulL_shift_right p q))
theorem mulL_comm : ∀ p q : List UInt8, Eqv (mulL p q) (mulL q p)
  | [], q => (mulL_nil q).symm
  | a :: p, q => by
    rw [mulL]
    exact (add_congr (Eqv.refl _) ((mulL_comm p q).cons 0)).trans (mulL_cons_right q a p).symm
theorem mul_congr {p p' q q' : List UInt8} (h : Eqv p p') (g : Eqv q q') : Eqv (mulL p q) (mulL p' q') :=
  (mul_congr_right p g).trans ((mulL_comm p q').trans ((mul_congr_right q' h).trans (mulL_comm q' p')))
theorem mulL_add_left (p q r : List UInt8) : Eqv (mulL (addL p q) r) (addL (mulL p r) (mulL q r)) :=
  (mulL_comm _ _).trans ((mulL_add_right r p q).trans (add_congr (mulL_comm r p) (mulL_comm r q)))
theorem mulL_scale_left (b : UInt8) (p q : List UInt8) : Eqv (mulL (scaleL b p) q) (scaleL b (mulL p q)) :=
  (mulL_comm _ _).trans ((mulL_scale_right b q p).trans (scale_congr b (mulL_comm q p)))
theorem mulL_shift_left (p q : List UInt8) : Eqv (mulL (0 :: p) q) (0 :: mulL p q) :=
  (mulL_comm _ _).trans ((mulL_shift_right q p).trans ((mulL_comm q p).cons 0))
theorem mulL_assoc : ∀ p q r : List UInt8, Eqv (mulL (mulL p q) r) (mulL p (mulL q r))
  | [], q, r => Eqv.refl _
  | a :: p, q, r => by
    rw [mulL, mulL]
    exact (mulL_add_left _ _ _).trans (add_congr (mulL_scale_left a q r) ((mulL_shift_left _ _).trans ((mulL_assoc p q r).cons 0)))

/-! ### Values -/
def evalL : List UInt8 → UInt8 → UInt8
  | [], _ => 0
  | a :: p, x => addB a (mulB x (evalL p x))
theorem eval_nil : ∀ {q : List UInt8}, Eqv [] q → ∀ x, evalL q x = 0
  | [], _, _ => rfl
  | b :: q, h, x => by
    obtain ⟨h0, h1⟩ := h.nil_cons
    rw [evalL, h0, eval_nil h1 x, mul_zero, zero_add]
theorem eval_congr : ∀ {p q : List UInt8}, Eqv p q → ∀ x, evalL p x = evalL q x
  | [], q, h, x => (eval_nil h x).symm
  | a :: p, [], h, x => eval_nil h.symm x
  | a :: p, b :: q, h, x => by
    obtain ⟨h0, h1⟩ := h.tail
    rw [evalL, evalL, h0, eval_congr h1 x]
theorem eval_add : ∀ (p q : List UInt8) (x : UInt8), evalL (addL p q) x = addB (evalL p x) (evalL q x)
  | [], q, x => by rw [addL, evalL, zero_add]
  | a :: p, [], x => by rw [addL, evalL, add_zero]
  | a :: p, b :: q, x => by rw [addL, evalL, evalL, evalL, eval_add p q x, mul_add_right, add_four]
theorem eval_scale (b : UInt8) : ∀ (p : List UInt8) (x : UInt8), evalL (scaleL b p) x = mulB b (evalL p x)
  | [], x => by rw [scaleL, List.map_nil, evalL, mul_zero]
  | a :: p, x => by
    have ih := eval_scale b p x
    rw [scale_cons, evalL, evalL, ih, mul_add_right, ← mul_assoc, ← mul_assoc, mul_comm x b]
theorem eval_mul : ∀ (p q : List UInt8) (x : UInt8), evalL (mulL p q) x = mulB (evalL p x) (evalL q x)
  | [], q, x => by rw [mulL, evalL, zero_mul]
  | a :: p, q, x => by rw [mulL, eval_add, eval_scale, evalL, evalL, zero_add, eval_mul p q x, mul_add_left, mul_assoc]
theorem eval_snoc (a : UInt8) (x : UInt8) : ∀ p : List UInt8, evalL (p ++ [a]) x = addB (evalL p x) (mulB a (powB x p.length))
  | [] => by
    rw [List.nil_append, evalL, evalL, evalL, mul_zero, add_zero, zero_add]
    exact (mul_one a).symm
  | b :: p => by
    have hp : powB x (p.length + 1) = mulB (powB x p.length) x := rfl
    rw [List.cons_append, evalL, evalL, eval_snoc a x p, List.length_cons, hp, mul_add_right, ← add_assoc, mul_comm (powB x p.length) x, ← mul_assoc, ← mul_assoc, mul_comm a x]

/-! ### Plain forms -/
def plainL : List UInt8 → List UInt8
  | [] => []
  | a :: p => if plainL p = [] ∧ a = 0 then [] else a :: plainL p
theorem plain_eqv : ∀ p : List UInt8, Eqv (plainL p) p
  | [] => Eqv.refl _
  | a :: p => by
    rw [plainL]
    split
    · next h =>
      have := plain_eqv p
      rw [h.1] at this
      rw [h.2]
      exact (cons_nil this.symm).symm
    · exact (plain_eqv p).cons a
theorem plain_nil : ∀ {q : List UInt8}, Eqv [] q → plainL q = []
  | [], _ => rfl
  | b :: q, h => by
    obtain ⟨h0, h1⟩ := h.nil_cons
    rw [plainL, if_pos ⟨plain_nil h1, h0⟩]
theorem plain_congr : ∀ {p q : List UInt8}, Eqv p q → plainL p = plainL q
  | [], q, h => (plain_nil h).symm
  | a :: p, [], h => plain_nil h.symm
  | a :: p, b :: q, h => by
    obtain ⟨h0, h1⟩ := h.tail
    rw [plainL, plainL, h0, plain_congr h1]
theorem plain_iff {p q : List UInt8} : plainL p = plainL q ↔ Eqv p q := ⟨fun h => (plain_eqv p).symm.trans (h ▸ plain_eqv q), plain_congr⟩
theorem plain_plain (p : List UInt8) : plainL (plainL p) = plainL p := plain_congr (plain_eqv p)
theorem plain_top : ∀ p : List UInt8, plainL p ≠ [] → co p ((plainL p).length - 1) ≠ 0
  | [], h => absurd rfl h
  | a :: p, h => by
    rw [plainL] at h ⊢
    split
    · next hc => rw [if_pos hc] at h; exact absurd rfl h
    · next hc =>
      by_cases hp : plainL p = []
      · rw [hp]
        exact fun e => hc ⟨hp, e⟩
      · have ih := plain_top p hp
        have hl : 0 < (plainL p).length := List.length_pos_iff.2 hp
        rw [List.length_cons, Nat.add_sub_cancel]
        have e : (plainL p).length = ((plainL p).length - 1) + 1 := by omega
        rw [e, co_succ]
        exact ih
theorem plain_ge (p : List UInt8) (k : Nat) (h : (plainL p).length ≤ k) : co p k = 0 := by rw [← plain_eqv p k, co_ge _ _ h]
theorem plain_le_iff (p : List UInt8) (n : Nat) : (plainL p).length ≤ n ↔ ∀ k, n ≤ k → co p k = 0 := by
  constructor
  · intro h k hk
    exact plain_ge p k (by omega)
  · intro h
    rcases Nat.lt_or_ge n (plainL p).length with hlt | hge
    · exact absurd (h ((plainL p).length - 1) (by omega)) (plain_top p (by intro e; rw [e] at hlt; simp at hlt))
    · exact hge
theorem plain_len (p : List UInt8) : (plainL p).length ≤ p.length := (plain_le_iff p _).2 fun k hk => co_ge p k hk
/-- The plain form is the beginning, up to the last one that isn't 0. -/
theorem plain_take (p : List UInt8) (n : Nat) (hn : n ≤ p.length) (hz : ∀ k, n ≤ k → co p k = 0) (ht : n = 0 ∨ co p (n - 1) ≠ 0) : plainL p = p.take n := by
  have hle := (plain_le_iff p n).2 hz
  have hl : (plainL p).length = n := by
    rcases ht with rfl | ht
    · omega
    · rcases Nat.lt_or_ge (plainL p).length n with h | h
      · exact absurd (plain_ge p (n - 1) (by omega)) ht
      · omega
  apply List.ext_getElem
  · rw [hl, List.length_take]
    omega
  · intro i h1 h2
    have e := plain_eqv p i
    have h3 : i < p.length := by rw [List.length_take] at h2; omega
    rw [co_lt _ _ h1, co_lt _ _ h3] at e
    rw [List.getElem_take]
    exact e
theorem plain_of_top (p : List UInt8) (h : p = [] ∨ co p (p.length - 1) ≠ 0) : plainL p = p := by
  have := plain_take p p.length (Nat.le_refl _) (fun k hk => co_ge p k hk) (by
    rcases h with rfl | h
    · exact .inl rfl
    · exact .inr h)
  rwa [List.take_length] at this

/-! ### Degrees of products -/
theorem addL_length : ∀ p q : List UInt8, (addL p q).length = max p.length q.length
  | [], q => by simp [addL]
  | a :: p, [] => by simp [addL]
  | a :: p, b :: q => by
    have := addL_length p q
    simp only [addL, List.length_cons, this]
    omega
theorem mulL_length : ∀ (p q : List UInt8), p ≠ [] → q ≠ [] → (mulL p q).length = p.length + q.length - 1
  | [], q, h, _ => absurd rfl h
  | [a], q, _, hq => by
    have : 0 < q.length := List.length_pos_iff.2 hq
    simp [mulL, addL_length, scaleL]
    omega
  | a :: b :: p, q, _, hq => by
    have ih := mulL_length (b :: p) q (by simp) hq
    have : 0 < q.length := List.length_pos_iff.2 hq
    rw [mulL, addL_length, scaleL, List.length_map, List.length_cons, ih]
    simp only [List.length_cons]
    omega
theorem mulL_top : ∀ (p q : List UInt8), p ≠ [] → q ≠ [] → co (mulL p q) (p.length + q.length - 2) = mulB (co p (p.length - 1)) (co q (q.length - 1))
  | [], q, h, _ => absurd rfl h
  | [a], q, _, hq => by
    have : 0 < q.length := List.length_pos_iff.2 hq
    rw [mulL, mulL, co_add, co_scale, zero_cons, co_nil, add_zero, List.length_singleton, show 1 + q.length - 2 = q.length - 1 by omega]
    rfl
  | a :: b :: p, q, _, hq => by
    have ih := mulL_top (b :: p) q (by simp) hq
    have : 0 < q.length := List.length_pos_iff.2 hq
    have e : (a :: b :: p).length + q.length - 2 = ((b :: p).length + q.length - 2) + 1 := by simp only [List.length_cons]; omega
    rw [mulL, co_add, co_scale, e, co_succ, ih, co_ge q _ (by simp only [List.length_cons]; omega), mul_zero, zero_add]
    rfl
theorem mul_plain_len (p q : List UInt8) (hp : plainL p ≠ []) (hq : plainL q ≠ []) : (plainL (mulL p q)).length = (plainL p).length + (plainL q).length - 1 := by
  have h1 : 0 < (plainL p).length := List.length_pos_iff.2 hp
  have h2 : 0 < (plainL q).length := List.length_pos_iff.2 hq
  have e : plainL (mulL p q) = plainL (mulL (plainL p) (plainL q)) := plain_congr (mul_congr (plain_eqv p).symm (plain_eqv q).symm)
  have hlen := mulL_length _ _ hp hq
  have htop := mulL_top _ _ hp hq
  have hn : co (mulL (plainL p) (plainL q)) ((plainL p).length + (plainL q).length - 2) ≠ 0 := by
    rw [htop, plain_eqv p, plain_eqv q]
    exact mul_ne _ _ (plain_top p hp) (plain_top q hq)
  rw [e, plain_of_top _ (.inr (by rw [hlen, show (plainL p).length + (plainL q).length - 1 - 1 = (plainL p).length + (plainL q).length - 2 by omega]; exact hn)), hlen]
theorem mul_plain_nil {p q : List UInt8} (h : plainL (mulL p q) = []) : plainL p = [] ∨ plainL q = [] := by
  by_cases hp : plainL p = []
  · exact .inl hp
  · by_cases hq : plainL q = []
    · exact .inr hq
    · have := mul_plain_len p q hp hq
      rw [h] at this
      have h1 : 0 < (plainL p).length := List.length_pos_iff.2 hp
      have h2 : 0 < (plainL q).length := List.length_pos_iff.2 hq
      simp at this
      omega

/-! ### Division -/
/-- So often is q in p, and that is left. -/
def IsQuo (p q a r : List UInt8) : Prop := Eqv (addL (mulL a q) r) p ∧ (plainL r).length < (plainL q).length
theorem plain_add_len (p q : List UInt8) : (plainL (addL p q)).length ≤ max (plainL p).length (plainL q).length :=
  (plain_le_iff _ _).2 fun k hk => by rw [co_add, plain_ge p k (by omega), plain_ge q k (by omega), add_zero]
theorem add_cancel {p q : List UInt8} (h : Eqv (addL p q) []) : Eqv p q := fun k => by
  have := h k
  rw [co_add, co_nil] at this
  have e : addB (addB (co p k) (co q k)) (co q k) = addB 0 (co q k) := by rw [this]
  rwa [add_assoc, add_self, add_zero, zero_add] at e
theorem quo_unique {p q a r b s : List UInt8} (h : IsQuo p q a r) (g : IsQuo p q b s) : Eqv a b ∧ Eqv r s := by
  have hq : plainL q ≠ [] := by
    intro e
    have := h.2
    rw [e] at this
    simp at this
  have e1 : Eqv (addL (addL (mulL a q) r) (addL (mulL b q) s)) [] := (add_congr h.1 g.1).trans (addL_self p)
  have e2 : Eqv (addL (mulL (addL a b) q) (addL r s)) [] := ((add_congr (mulL_add_left a b q) (Eqv.refl _)).trans (addL_four _ _ _ _)).trans e1
  have e3 : Eqv (mulL (addL a b) q) (addL r s) := add_cancel e2
  have hab : plainL (addL a b) = [] := by
    by_cases hn : plainL (addL a b) = []
    · exact hn
    · have h1 := mul_plain_len _ _ hn hq
      rw [plain_congr e3] at h1
      have h2 := plain_add_len r s
      have h3 := h.2
      have h4 := g.2
      have h5 : 0 < (plainL (addL a b)).length := List.length_pos_iff.2 hn
      omega
  have e4 : Eqv (addL a b) [] := (plain_eqv _).symm.trans (by rw [hab]; exact Eqv.refl _)
  refine ⟨add_cancel e4, ?_⟩
  have e5 : Eqv (mulL (addL a b) q) [] := (mul_congr e4 (Eqv.refl q)).trans (Eqv.refl _)
  exact add_cancel (e3.symm.trans e5)

/-! ### Slopes -/
def slopeL : List UInt8 → List UInt8
  | [] => []
  | _ :: p => addL p (0 :: slopeL p)
theorem co_slope : ∀ (p : List UInt8) (k : Nat), co (slopeL p) k = if k % 2 = 0 then co p (k + 1) else 0
  | [], k => by rw [slopeL, co_nil, co_nil]; split <;> rfl
  | a :: p, 0 => by
    rw [slopeL, co_add, co_zero, add_zero, co_succ]
    rfl
  | a :: p, k + 1 => by
    rw [slopeL, co_add, co_succ, co_slope p k, co_succ]
    by_cases h : k % 2 = 0
    · rw [if_pos h, if_neg (by omega), add_self]
    · rw [if_neg h, if_pos (by omega), add_zero]
theorem slope_congr {p q : List UInt8} (h : Eqv p q) : Eqv (slopeL p) (slopeL q) := fun k => by rw [co_slope, co_slope, h (k + 1)]
theorem slope_add (p q : List UInt8) : Eqv (slopeL (addL p q)) (addL (slopeL p) (slopeL q)) := fun k => by
  rw [co_slope, co_add, co_add, co_slope, co_slope]
  split
  · rfl
  · rw [add_zero]
theorem slope_scale (a : UInt8) (p : List UInt8) : Eqv (slopeL (scaleL a p)) (scaleL a (slopeL p)) := fun k => by
  rw [co_slope, co_scale, co_scale, co_slope]
  split
  · rfl
  · rw [mul_zero]
theorem slope_mul : ∀ p q : List UInt8, Eqv (slopeL (mulL p q)) (addL (mulL (slopeL p) q) (mulL p (slopeL q)))
  | [], q => Eqv.refl _
  | a :: p, q => by
    have ih := slope_mul p q
    have l1 : Eqv (slopeL (mulL (a :: p) q)) (addL (scaleL a (slopeL q)) (addL (mulL p q) (0 :: addL (mulL (slopeL p) q) (mulL p (slopeL q))))) := by
      rw [mulL]
      refine (slope_add _ _).trans (add_congr (slope_scale a q) ?_)
      rw [slopeL]
      exact add_congr (Eqv.refl _) (ih.cons 0)
    have l2 : Eqv (mulL (slopeL (a :: p)) q) (addL (mulL p q) (0 :: mulL (slopeL p) q)) := by
      rw [slopeL]
      exact (mulL_add_left _ _ _).trans (add_congr (Eqv.refl _) (mulL_shift_left _ _))
    refine l1.trans (Eqv.trans ?_ (add_congr l2.symm (Eqv.refl _)))
    rw [mulL]
    refine (add_congr (Eqv.refl _) (add_congr (Eqv.refl _) (shift_add _ _))).trans (fun k => ?_)
    simp only [co_add]
    unfold addB
    ac_rfl
end Go.Proofs.YtmljhkdojopljaaGreatDoor
/-
  Words for memory (no program is named here): a slice value that reads as a list, kept while nothing that was there is written; a slice cut; bytes made into a string. No conditions but those typed.
-/
namespace Go.Proofs.YtmljhkdojopljaaGreatDoor
set_option maxRecDepth 100000
open Go.RowKit

def vB (c : UInt8) : Value := .int .u8 (c.toNat : Int)
def vW (c : UInt32) : Value := .int .u32 (c.toNat : Int)

/-- The slice value with address A reads, in world w, as the list l. -/
def Rd {α : Type} (f : α → Value) (w : World) (A : Option Addr) (l : List α) : Prop :=
  l ≠ [] → ∃ b o, A = some ⟨b, o, none⟩ ∧ ∀ i (h : i < l.length), w.cell? ⟨b, o + i, none⟩ = some (f l[i])

section
variable {α : Type} {f : α → Value} {w w' : World} {A : Option Addr} {l : List α}
theorem Rd.nil : Rd f w A [] := fun h => absurd rfl h
theorem Rd.keep (h : Rd f w A l) (hb : Below w.heap.size w w') : Rd f w' A l := fun hn => by
  obtain ⟨b, o, e, hc⟩ := h hn
  refine ⟨b, o, e, fun i hi => ?_⟩
  have := hc i hi
  rw [hb.cell (p := ⟨b, o + i, none⟩) (World.block_lt_of_cell? w _ this)]
  exact this
theorem Rd.at (h : Rd f w A l) {k : Nat} (hk : k < l.length) : ∃ b o, A = some ⟨b, o, none⟩ ∧ b < w.heap.size ∧ ∀ i (hi : i < l.length), w.cell? ⟨b, o + i, none⟩ = some (f l[i]) := by
  obtain ⟨b, o, e, hc⟩ := h (by rintro rfl; simp at hk)
  exact ⟨b, o, e, World.block_lt_of_cell? w _ (hc k hk), hc⟩
theorem Rd.new (w : World) (l : List α) (cs : Array Value) (e : TypeId) (h : cs = (l.map f).toArray) : Rd f (w.alloc (.cells cs e)) (some ⟨w.heap.size, 0, none⟩) l := fun _ => by
  refine ⟨w.heap.size, 0, rfl, fun i hi => ?_⟩
  subst h
  rw [cell_of_row _ w.heap.size (0 + i) _ e (0, 0) (heap_alloc_new w _)]
  simp [hi]
theorem Rd.new_at (w : World) (g : Nat) (hg : g = w.heap.size) (l : List α) (cs : Array Value) (e : TypeId) (h : cs = (l.map f).toArray) : Rd f (w.alloc (.cells cs e)) (some ⟨g, 0, none⟩) l := by
  subst hg
  exact Rd.new w l cs e h
theorem Rd.drop (h : Rd f w A l) (k : Nat) (cap : Nat) (hc : l.length ≤ cap) : Rd f w (if cap = k then A else A.map (·.add (k * 1))) (l.drop k) := fun hn => by
  have hk : k < l.length := by
    rcases Nat.lt_or_ge k l.length with h | h
    · exact h
    · exact absurd (List.drop_eq_nil_of_le h) hn
  obtain ⟨b, o, e, hcell⟩ := h (by rintro rfl; simp at hk)
  subst e
  rw [if_neg (by omega)]
  refine ⟨b, o + k, by simp [Addr.add], fun i hi => ?_⟩
  have hi' : k + i < l.length := by simp at hi; omega
  rw [Nat.add_assoc, hcell (k + i) hi']
  simp
theorem Rd.take (h : Rd f w A l) (k : Nat) : Rd f w A (l.take k) := fun hn => by
  obtain ⟨b, o, e, hcell⟩ := h (by rintro rfl; simp at hn)
  refine ⟨b, o, e, fun i hi => ?_⟩
  have hi' : i < l.length := by simp at hi; omega
  rw [hcell i hi']
  simp
theorem Rd.news {b o : Nat} (h : Rd f w (some ⟨b, o, none⟩) l) (j : Nat) (u : Value) (hu : (l.map f)[j]? = some u) : w.cell? ((⟨b, o, none⟩ : Addr).add j) = some u := by
  have hj : j < l.length := by
    rcases Nat.lt_or_ge j l.length with h | h
    · exact h
    · rw [List.getElem?_eq_none (by simpa using h)] at hu
      cases hu
  obtain ⟨b', o', e, hc⟩ := h (by rintro rfl; simp at hj)
  injection e with e
  injection e with e1 e2 _
  subst e1 e2
  have e1 : (⟨b, o, none⟩ : Addr).add j = ⟨b, o + j, none⟩ := by unfold Addr.add; split <;> simp_all
  rw [e1, hc j hj]
  simpa [hj] using hu
theorem Rd.own {base : Nat} {e : TypeId} {n c : Nat} (h : w.ownsRow base e 1 (.slice A n c) n (l.map f)) : Rd f w A l := fun hn => by
  have hl : l.length = n := by simpa using h.1
  have hpos : 0 < n := by
    rcases Nat.eq_zero_or_pos n with h0 | h0
    · exact absurd (List.eq_nil_of_length_eq_zero (by omega)) hn
    · exact h0
  obtain ⟨g, cap, hv, _, hlt⟩ := h.form hpos
  have hA : A = some ⟨g, 0, none⟩ := by injection hv
  subst hA
  refine ⟨g, 0, rfl, fun i hi => ?_⟩
  have := h.cells (g := g) rfl i (f l[i]) (by simp [hi])
  have e1 : (⟨g, 0, none⟩ : Addr).add i = ⟨g, 0 + i, none⟩ := by unfold Addr.add; split <;> simp_all
  rw [← e1]
  exact this
end

/-- 's[k:]': one name for the address that is left. -/
theorem cut_from {P : Program} (t e : TypeId) (ht : P.underlying t = some (.slice e)) (hz : ∀ w, (sizeOf e).run P w = .ok 1 w) (A : Option Addr) (n cap k : Nat) (hk : k ≤ n) (hc : n ≤ cap) :
    ∃ A', (∀ w, (Instr.slice t (.slice A n cap) (some (.int .i64 (k : Int))) none none).run P w = .ok (.slice A' (n - k) (cap - k)) w) ∧
      ∀ {α : Type} (f : α → Value) (w : World) (l : List α), l.length = n → Rd f w A l → Rd f w A' (l.drop k) := by
  have ht' : P.underlying t = some (.slice (P.elem t)) := by simp [Program.elem, ht]
  have he : P.elem t = e := by simp [Program.elem, ht]
  refine ⟨if cap = k then A else A.map (·.add (k * 1)), fun w => ?_, fun f w l hl h => h.drop k cap (by omega)⟩
  rw [run_slice_l w t A n cap ht' .i64 (k : Int) (by omega) (by omega), he, hz]
  simp [Result.andThen, sliced]

theorem run_cut_to {P : Program} (t e : TypeId) (ht : P.underlying t = some (.slice e)) (hz : ∀ w, (sizeOf e).run P w = .ok 1 w) (A : Option Addr) (n cap k : Nat) (hk : k ≤ cap) (w : World) :
    (Instr.slice t (.slice A n cap) none (some (.int .i64 (k : Int))) none).run P w = .ok (.slice A k cap) w := by
  have ht' : P.underlying t = some (.slice (P.elem t)) := by simp [Program.elem, ht]
  have he : P.elem t = e := by simp [Program.elem, ht]
  have e2 : (if cap = 0 then A else A.map (·.add 0)) = A := by
    split
    · rfl
    · cases A <;> simp [Addr.add]
  rw [run_slice_h w t A n cap ht' .i64 (k : Int) (by omega) (by omega), he, hz]
  simp only [Result.andThen, sliced, Nat.zero_mul, Nat.sub_zero, Int.toNat_natCast, e2]
/-- 's[:k]'. -/
theorem cut_to {P : Program} (t e : TypeId) (ht : P.underlying t = some (.slice e)) (hz : ∀ w, (sizeOf e).run P w = .ok 1 w) (A : Option Addr) (n cap k : Nat) (hk : k ≤ cap) :
    ∃ A', (∀ w, (Instr.slice t (.slice A n cap) none (some (.int .i64 (k : Int))) none).run P w = .ok (.slice A' k cap) w) ∧
      ∀ {α : Type} (f : α → Value) (w : World) (l : List α), Rd f w A l → Rd f w A' (l.take k) :=
  ⟨A, fun w => run_cut_to t e ht hz A n cap k hk w, fun _ _ _ h => h.take k⟩

/-- 'string(b)'. -/
theorem run_str {P : Program} (w : World) (src e dst : TypeId) (hs : P.underlying src = some (.slice e)) (he : P.underlying e = some (.int .u8)) (hd : P.underlying dst = some .string)
    (A : Option Addr) (l : List UInt8) (n cap : Nat) (hn : l.length = n) (h : Rd vB w A l) : (convert src dst (.slice A n cap)).run P w = .ok (.string ⟨l.toArray⟩) w := by
  by_cases hl : l = []
  · subst hl
    subst hn
    cases A with
    | none => rw [run_convert_bytes_nil w src e hs he _ _ dst hd]; rfl
    | some a =>
      rw [run_convert_bytes_string w src dst e _ _ cap hs he hd, run_bytesToString w a _ cap [] (by
        have := run_loadCells_list (P := P) w a [] (fun j v hj => by simp at hj)
        simpa using this)]
      rfl
  · obtain ⟨b, o, rfl, hc⟩ := h hl
    rw [run_convert_bytes_arg w src e hs he b o n cap (l.map fun c => (c.toNat : Int)) (by simpa using hn) (fun i hi => by
      have hi' : i < l.length := by omega
      rw [hc i hi']
      simp [vB, List.getD, hi']) dst hd]
    have : strOfNums (l.map fun c => (c.toNat : Int)) = ⟨l.toArray⟩ := by
      unfold strOfNums
      congr 2
      rw [List.map_map]
      conv => rhs; rw [← List.map_id l]
      apply List.map_congr_left
      intro x _
      simp
    rw [this]

/-- 'string(b)', in every later world. -/
theorem run_str_later {P : Program} {w : World} {src e dst : TypeId} (hs : P.underlying src = some (.slice e)) (he : P.underlying e = some (.int .u8)) (hd : P.underlying dst = some .string)
    {A : Option Addr} {l : List UInt8} {cap : Nat} (h : Rd vB w A l) : ∀ W, Below w.heap.size w W → (convert src dst (.slice A l.length cap)).run P W = .ok (.string ⟨l.toArray⟩) W :=
  fun W hb => run_str W src e dst hs he hd A l l.length cap rfl (h.keep hb)

theorem cells_new (w : World) (cs : Array Value) (e : TypeId) (j : Nat) (u : Value) (h : cs.toList[j]? = some u) : (w.alloc (.cells cs e)).cell? ((⟨w.heap.size, 0, none⟩ : Addr).add j) = some u := by
  have e1 : (⟨w.heap.size, 0, none⟩ : Addr).add j = ⟨w.heap.size, j, none⟩ := by unfold Addr.add; split <;> simp_all
  rw [e1, cell_of_row _ w.heap.size j _ e (0, 0) (heap_alloc_new w _)]
  simpa using h

/-! ### What comes in -/
theorem u32_of_wf {a : Int} (h : (Lit.int .u32 a).wf = true) : ∃ x : UInt32, a = (x.toNat : Int) := by
  simp [Lit.wf, IntKind.min, IntKind.max, IntKind.signed, IntKind.bits] at h
  exact ⟨UInt32.ofNat a.toNat, by rw [UInt32.toNat_ofNat']; omega⟩
theorem u64_of_wf {a : Int} (h : (Lit.int .u64 a).wf = true) : ∃ v : Nat, v < 18446744073709551616 ∧ a = (v : Int) := by
  simp [Lit.wf, IntKind.min, IntKind.max, IntKind.signed, IntKind.bits] at h
  exact ⟨a.toNat, by omega, by omega⟩
theorem i64_of_wf {a : Int} (h : (Lit.int .i64 a).wf = true) : -9223372036854775808 ≤ a ∧ a ≤ 9223372036854775807 := by
  simp [Lit.wf, IntKind.min, IntKind.max, IntKind.signed, IntKind.bits] at h
  omega
theorem rd_of_row {α : Type} {f : α → Value} {k : IntKind} {w : World} {a : Option Addr} {len cap : Nat} {zs : List Int} (g : Int → α) (hg : ∀ n, (Lit.int k n).wf = true → f (g n) = .int k n)
    (h : (a = none ∧ len = 0 ∧ cap = 0 ∧ zs = []) ∨ ∃ x, a = some x ∧ len ≤ cap ∧ cap ≤ maxLen ∧ zs.length = cap ∧ (∀ i, i < zs.length → w.cell? (x.add i) = some (.int k (zs.getD i 0))) ∧ ∀ n ∈ zs, (Lit.int k n).wf = true) :
    ∃ l : List α, l.length = len ∧ len ≤ cap ∧ cap ≤ 9223372036854775807 ∧ Rd f w a l := by
  rcases h with ⟨rfl, rfl, rfl, rfl⟩ | ⟨x, rfl, hlc, hm, hz, hc, hwf⟩
  · exact ⟨[], rfl, Nat.le_refl _, by omega, Rd.nil⟩
  · unfold maxLen at hm
    refine ⟨(zs.take len).map g, by rw [List.length_map, List.length_take]; omega, hlc, by omega, fun hn => ?_⟩
    have hlen : 0 < len := by
      rcases Nat.eq_zero_or_pos len with h | h
      · subst h; simp at hn
      · exact h
    obtain ⟨b, o, spot⟩ := x
    have h0 := hc 0 (by omega)
    have hspot : spot = none := by simpa [Addr.add] using World.cell?_spot h0
    subst hspot
    refine ⟨b, o, rfl, fun i hi => ?_⟩
    have hi' : i < zs.length := by simp at hi; omega
    have e1 : (⟨b, o, none⟩ : Addr).add i = ⟨b, o + i, none⟩ := by unfold Addr.add; split <;> simp_all
    rw [← e1, hc i hi']
    have e2 : zs.getD i 0 = zs[i] := by simp [List.getD, hi']
    rw [e2]
    simp only [List.getElem_map, List.getElem_take]
    rw [hg _ (hwf _ (List.getElem_mem hi'))]
theorem bytes_of_row {w : World} {a : Option Addr} {len cap : Nat} {zs : List Int}
    (h : (a = none ∧ len = 0 ∧ cap = 0 ∧ zs = []) ∨ ∃ x, a = some x ∧ len ≤ cap ∧ cap ≤ maxLen ∧ zs.length = cap ∧ (∀ i, i < zs.length → w.cell? (x.add i) = some (.int .u8 (zs.getD i 0))) ∧ ∀ n ∈ zs, (Lit.int .u8 n).wf = true) :
    ∃ l : List UInt8, l.length = len ∧ len ≤ cap ∧ cap ≤ 9223372036854775807 ∧ Rd vB w a l :=
  rd_of_row (fun n => UInt8.ofNat n.toNat) (fun n hn => by
    simp [Lit.wf, IntKind.min, IntKind.max, IntKind.signed, IntKind.bits] at hn
    unfold vB
    rw [UInt8.toNat_ofNat']
    congr 1
    omega) h
theorem words_of_row {w : World} {a : Option Addr} {len cap : Nat} {zs : List Int}
    (h : (a = none ∧ len = 0 ∧ cap = 0 ∧ zs = []) ∨ ∃ x, a = some x ∧ len ≤ cap ∧ cap ≤ maxLen ∧ zs.length = cap ∧ (∀ i, i < zs.length → w.cell? (x.add i) = some (.int .u32 (zs.getD i 0))) ∧ ∀ n ∈ zs, (Lit.int .u32 n).wf = true) :
    ∃ l : List UInt32, l.length = len ∧ len ≤ cap ∧ cap ≤ 9223372036854775807 ∧ Rd vW w a l :=
  rd_of_row (fun n => UInt32.ofNat n.toNat) (fun n hn => by
    simp [Lit.wf, IntKind.min, IntKind.max, IntKind.signed, IntKind.bits] at hn
    unfold vW
    rw [UInt32.toNat_ofNat']
    congr 1
    omega) h

theorem below_drewN {B : Nat} {a w : World} (h : Below B a w) (n : Nat) : Below B a (w.drewN n) := ⟨h.os, h.tape, h.output, h.size, h.block⟩
theorem below_from_drew {B : Nat} {a w : World} (h : Below B a w) : Below B a.drew w := ⟨h.os, h.tape, h.output, h.size, h.block⟩
/-- A call behind other ones; a new block behind them. -/
theorem below_step {a w w' : World} (h : Below a.heap.size a w) (k : Below w.heap.size w w') : Below a.heap.size a w' := h.trans (k.mono h.size)
theorem below_after {a w w' : World} (k : Below w.heap.size w w') (h : Below a.heap.size a w) : Below a.heap.size a w' := below_step h k
theorem below_new {a w : World} (h : Below a.heap.size a w) (o : Obj) : Below a.heap.size a (w.alloc o) := h.alloc h.size o

/-- What a call that hands back a new slice says of it. -/
def RetS {α : Type} (f : α → Value) (w : World) (l : List α) (e : Ending) (w' : World) : Prop :=
  ∃ A cap, e = .returned (.slice A l.length cap) ∧ l.length ≤ cap ∧ Rd f w' A l ∧ Below w.heap.size w w'

/-- .. and owns it: it may be appended to. -/
def RetO {α : Type} (t : TypeId) (f : α → Value) (w : World) (l : List α) (e : Ending) (w' : World) : Prop :=
  ∃ v, e = .returned v ∧ w'.ownsRow w.heap.size t 1 v l.length (l.map f) ∧ Below w.heap.size w w'
theorem RetS.own {α : Type} {f : α → Value} {w w' : World} {l : List α} {base : Nat} {e : TypeId} {v : Value} (h : w'.ownsRow base e 1 v l.length (l.map f)) (hb : Below w.heap.size w w') : RetS f w l (.returned v) w' := by
  rcases h.2 with ⟨rfl, h0⟩ | ⟨g, cap, cur, rfl, _, _, hc, _⟩
  · have hl : l = [] := List.eq_nil_of_length_eq_zero h0
    subst hl
    exact ⟨none, 0, rfl, Nat.le_refl _, Rd.nil, hb⟩
  · exact ⟨_, cap, rfl, hc, Rd.own h, hb⟩

theorem RetO.ret {α : Type} {t : TypeId} {f : α → Value} {w w' : World} {l : List α} {e : Ending} (h : RetO t f w l e w') : RetS f w l e w' := by
  obtain ⟨v, rfl, ho, hb⟩ := h
  exact RetS.own ho hb

end Go.Proofs.YtmljhkdojopljaaGreatDoor
/-
  append of a slice that came in, or that a call handed back, onto a row of the call's own, nil and empty ones with it (no program is named here). No conditions but those typed.
-/
namespace Go.Proofs.YtmljhkdojopljaaGreatDoor
set_option maxRecDepth 100000
open Go.RowKit

section
variable {P : Program} (w : World)
theorem run_append_nothing_of (base : Nat) (t ty e : TypeId) (i : TypeInfo) (ht : P.underlying t = some (.slice e)) (hi : P.info? e = some i)
    (v : Value) (n : Nat) (xs : List Value) (hown : w.ownsRow base e 1 v n xs) (c : Nat) : (Builtin.append_ #[t, t] ty #[v, .slice none 0 c]).run P w = .ok v w := by
  rcases hown.2 with ⟨rfl, rfl⟩ | ⟨g, cap, cur, rfl, _, _, hnc, _⟩
  · simp [Builtin.append_, run_underlying ht, sizeOf, typeInfo, hi, Builtin.lenOf, Builtin.firstCells]
  · simp [Builtin.append_, run_underlying ht, sizeOf, typeInfo, hi, Builtin.lenOf, Builtin.firstCells, hnc, storeCells]

theorem run_append_rd {α : Type} {f : α → Value} (base : Nat) (t ty e : TypeId) (i : TypeInfo) (z : Value) (bytes : Nat) (ht : P.underlying t = some (.slice e)) (hi : P.info? e = some i) (hz : i.zero = some z)
    (hsize : i.size = 1) (hby : i.bytes = bytes) (hzs : z.cells.size = 1) (v : Value) (n : Nat) (xs : List Value) (hown : w.ownsRow base e 1 v n xs)
    (A : Option Addr) (l : List α) (c : Nat) (hr : Rd f w A l) (h1 : ∀ x, (f x).oneCell' = true)
    (h63 : n + l.length ≤ maxLen) (hbytes : (n + l.length) * bytes ≤ 140737488355328) (hbase : base ≤ w.heap.size) :
    ∃ v' w', (Builtin.append_ #[t, t] ty #[v, .slice A l.length c]).run P w = .ok v' w' ∧ w'.ownsRow base e 1 v' (n + l.length) (xs ++ l.map f) ∧ w.grownBy w' v.ownBlock := by
  have hone : ∀ u ∈ l.map f, u.oneCell' = true := by
    intro u hu
    simp only [List.mem_map] at hu
    obtain ⟨x, _, rfl⟩ := hu
    exact h1 x
  by_cases hl : l = []
  · subst hl
    cases A with
    | none => exact ⟨v, w, run_append_nothing_of w base t ty e i ht hi v n xs hown c, by simpa using hown, ⟨rfl, rfl, rfl, Nat.le_refl _, fun _ _ _ => rfl⟩⟩
    | some ad =>
      obtain ⟨v', w', hrun, h2, h3, _⟩ := run_append_own (P := P) w base t ty e i z 1 bytes ht hi hz hsize hby hzs (by omega) v n xs hown ad 0 c [] rfl (fun j u h => by simp at h) (fun u h => by simp at h) h63 hbytes hbase
      exact ⟨v', w', hrun, h2, h3⟩
  · obtain ⟨b, o, rfl, _⟩ := hr hl
    obtain ⟨v', w', hrun, h2, h3, _⟩ := run_append_own (P := P) w base t ty e i z 1 bytes ht hi hz hsize hby hzs (by omega) v n xs hown ⟨b, o, none⟩ l.length c (l.map f) (by simp) hr.news hone h63 hbytes hbase
    exact ⟨v', w', hrun, h2, h3⟩

theorem wp_append_rd {α : Type} {f : α → Value} {o : Oper} {a : Act} {K : Act → World → Prop} {Q : Exit → Act → World → Prop} (s x : Operand) (t : TypeId)
    (ho : o.op = .call { callee := .builtin .append, args := #[s, x], argTypes := #[t, t] })
    (base : Nat) (e : TypeId) (i : TypeInfo) (z : Value) (bytes : Nat) (ht : P.underlying t = some (.slice e)) (hi : P.info? e = some i) (hz : i.zero = some z)
    (hsize : i.size = 1) (hby : i.bytes = bytes) (hzs : z.cells.size = 1) (v : Value) (n : Nat) (xs : List Value) (hs : a.eval s = v) (hown : w.ownsRow base e 1 v n xs)
    (A : Option Addr) (l : List α) (c : Nat) (hx : a.eval x = .slice A l.length c) (hr : Rd f w A l) (h1 : ∀ x, (f x).oneCell' = true)
    (h63 : n + l.length ≤ maxLen) (hbytes : (n + l.length) * bytes ≤ 140737488355328) (hbase : base ≤ w.heap.size)
    (h : ∀ v' w', w'.ownsRow base e 1 v' (n + l.length) (xs ++ l.map f) → w.grownBy w' v.ownBlock → K (a.put o.dst v') w') : o.wp P a w K Q := by
  obtain ⟨v', w', hr, h2, h3⟩ := run_append_rd (P := P) w base t o.type e i z bytes ht hi hz hsize hby hzs v n xs hown A l c hr h1 h63 hbytes hbase
  unfold Oper.wp execOp
  simp only [ho, resolve, invoke, builtin, Sem.run_bind, Sem.run_pure, Result.andThen_ok, List.map_toArray, List.map_cons, List.map_nil, hs, hx, hr]
  exact h v' w' h2 h3

theorem wpList_append_rd {α : Type} {f : α → Value} {ops : Array Oper} {rest : List Oper} {o : Oper} {a : Act} {Q : Exit → Act → World → Prop} (hgd : o.guard = none) (s x : Operand) (t : TypeId)
    (ho : o.op = .call { callee := .builtin .append, args := #[s, x], argTypes := #[t, t] })
    (base : Nat) (e : TypeId) (i : TypeInfo) (z : Value) (bytes : Nat) (ht : P.underlying t = some (.slice e)) (hi : P.info? e = some i) (hz : i.zero = some z)
    (hsize : i.size = 1) (hby : i.bytes = bytes) (hzs : z.cells.size = 1) (v : Value) (n : Nat) (xs : List Value) (hs : a.eval s = v) (hown : w.ownsRow base e 1 v n xs)
    (A : Option Addr) (l : List α) (c : Nat) (hx : a.eval x = .slice A l.length c) (hr : Rd f w A l) (h1 : ∀ x, (f x).oneCell' = true)
    (h63 : n + l.length ≤ maxLen) (hbytes : (n + l.length) * bytes ≤ 140737488355328) (hbase : base ≤ w.heap.size)
    (h : ∀ v' w', w'.ownsRow base e 1 v' (n + l.length) (xs ++ l.map f) → w.grownBy w' v.ownBlock → wpList P ops Q rest (a.put o.dst v') w') : wpList P ops Q (o :: rest) a w :=
  wpList_plain hgd fun _ hK => wp_append_rd w s x t ho base e i z bytes ht hi hz hsize hby hzs v n xs hs hown A l c hx hr h1 h63 hbytes hbase fun v' w' h2 h3 => hK _ _ (h v' w' h2 h3)
end

theorem own_base {w : World} {base b' : Nat} {e : TypeId} {v : Value} {n : Nat} {xs : List Value} (h : w.ownsRow base e 1 v n xs) (hb : b' ≤ base) : w.ownsRow b' e 1 v n xs :=
  ⟨h.1, h.2.imp id fun ⟨g, cap, cur, h1, h2, h3⟩ => ⟨g, cap, cur, h1, Nat.le_trans hb h2, h3⟩⟩
theorem vB_one (c : UInt8) : (vB c).oneCell' = true := rfl
theorem vW_one (c : UInt32) : (vW c).oneCell' = true := rfl

/-- 's[lo:hi]'. -/
theorem Rd.mid {α : Type} {f : α → Value} {w : World} {A : Option Addr} {l : List α} (h : Rd f w A l) (lo hi cap : Nat) (hc : l.length ≤ cap) : Rd f w (if cap = lo then A else A.map (·.add (lo * 1))) ((l.drop lo).take (hi - lo)) := (h.drop lo cap hc).take _

end Go.Proofs.YtmljhkdojopljaaGreatDoor
