/-
  Plain facts on numbers and their bytes, words and their bytes: each is read as it was, and has no other bytes. No program is named here.
-/
import Derived.Test.YtobeaoooaagdkaaWordMath
namespace Go.Proofs.Ytobeaoooaagdkaa
set_option maxRecDepth 100000

/-- The n last bytes of a number, the highest first. -/
def dig : Nat → Nat → List UInt8
  | 0, _ => []
  | n + 1, v => dig n (v / 256) ++ [UInt8.ofNat v]

theorem putL_dig (v : Nat) : putL v = dig 8 v := by
  simp [putL, dig, List.range, List.range.loop, Nat.div_div_eq_div_mul]
theorem dig_length (n v : Nat) : (dig n v).length = n := by
  induction n generalizing v with
  | zero => rfl
  | succ n ih => simp [dig, ih]
theorem valN_dig (n v : Nat) : valN (dig n v) = v % 256 ^ n := by
  induction n generalizing v with
  | zero => simp [dig, valN, Nat.mod_one]
  | succ n ih =>
    rw [dig, valN_snoc, ih, UInt8.toNat_ofNat', show 256 ^ (n + 1) = 256 * 256 ^ n by rw [Nat.pow_succ, Nat.mul_comm], Nat.mod_mul]
    omega
theorem dig_valN (l : List UInt8) (n : Nat) (h : l.length = n) : dig n (valN l) = l := by
  induction n generalizing l with
  | zero => rw [List.eq_nil_of_length_eq_zero h]; rfl
  | succ n ih =>
    rcases List.eq_nil_or_concat l with rfl | ⟨l', c, rfl⟩
    · simp at h
    · simp only [List.concat_eq_append] at h ⊢
      have hc : c.toNat < 256 := c.toNat_lt
      rw [valN_snoc, dig, show (valN l' * 256 + c.toNat) / 256 = valN l' by omega, ih l' (by simpa using h)]
      congr 2
      apply UInt8.toNat_inj.1
      rw [UInt8.toNat_ofNat']
      omega
theorem valN_zeros (k : Nat) (l : List UInt8) : valN (List.replicate k 0 ++ l) = valN l := by
  induction k with
  | zero => simp
  | succ k ih =>
    rw [← ih]
    simp [valN, List.replicate_succ]
theorem valN_dropWhile (l : List UInt8) : valN (l.dropWhile (· == 0)) = valN l := by
  induction l with
  | nil => rfl
  | cons a l ih =>
    rw [List.dropWhile_cons]
    split
    · rename_i h
      have h0 : a = 0 := by simpa using h
      subst h0
      rw [ih]
      simp [valN]
    · rfl
theorem valN_putL (v : Nat) (hv : v < 18446744073709551616) : valN (putL v) = v := by
  rw [putL_dig, valN_dig]
  exact Nat.mod_eq_of_lt hv
theorem valN_leastL (v : Nat) (hv : v < 18446744073709551616) : valN (leastL v) = v := by
  rw [leastL, valN_dropWhile, valN_putL v hv]
theorem leastL_length (v : Nat) : (leastL v).length ≤ 8 := by
  have h : (putL v).length = 8 := rfl
  have := (List.dropWhile_sublist (fun x : UInt8 => x == 0) (l := putL v)).length_le
  unfold leastL
  omega
theorem head_dropWhile (l : List UInt8) : (l.dropWhile (· == 0)).head? ≠ some 0 := by
  induction l with
  | nil => simp
  | cons a l ih =>
    rw [List.dropWhile_cons]
    split
    · exact ih
    · rename_i h
      simpa using h
theorem getR_putL (v : Nat) (hv : v < 18446744073709551616) : getR (putL v) = (v, 0) := by
  unfold getR
  rw [if_pos (show (putL v).length = 8 from rfl), valN_putL v hv]
theorem fromR_leastL (v : Nat) (hv : v < 18446744073709551616) : fromR (leastL v) = (v, 0) := by
  unfold fromR
  have := leastL_length v
  rw [if_neg (by omega), if_neg (show ¬ (leastL v).head? = some 0 from head_dropWhile _), valN_leastL v hv]
theorem leastL_valN (l : List UInt8) (h8 : l.length ≤ 8) (h0 : l.head? ≠ some 0) : leastL (valN l) = l := by
  unfold leastL
  have e : putL (valN l) = List.replicate (8 - l.length) 0 ++ l := by
    rw [putL_dig, ← valN_zeros (8 - l.length) l]
    exact dig_valN _ 8 (by simp; omega)
  rw [e]
  clear e
  generalize 8 - l.length = k
  induction k with
  | zero =>
    cases l with
    | nil => rfl
    | cons a l =>
      simp only [List.replicate_zero, List.nil_append]
      rw [List.dropWhile_cons, if_neg (by simpa using h0)]
  | succ k ih =>
    rw [List.replicate_succ, List.cons_append, List.dropWhile_cons, if_pos (by rfl)]
    exact ih
theorem fromR_bad (l : List UInt8) (h : (fromR l).2 ≠ 0) : (fromR l).1 = 0 := by
  unfold fromR at h ⊢
  split
  · rfl
  · split
    · rfl
    · rename_i h1 h2
      rw [if_neg h1, if_neg h2] at h
      exact absurd rfl h
theorem fromR_good (l : List UInt8) (h : (fromR l).2 = 0) : leastL (fromR l).1 = l ∧ (fromR l).1 < 18446744073709551616 := by
  unfold fromR at h ⊢
  by_cases h1 : 8 < l.length
  · rw [if_pos h1] at h
    cases h
  · by_cases h2 : l.head? = some 0
    · rw [if_neg h1, if_pos h2] at h
      cases h
    · rw [if_neg h1, if_neg h2]
      exact ⟨leastL_valN l (by omega) h2, valN_lt8 l (by omega)⟩
theorem leastL_inj (v w : Nat) (hv : v < 18446744073709551616) (hw : w < 18446744073709551616) : leastL v = leastL w ↔ v = w :=
  ⟨fun h => by rw [← valN_leastL v hv, h, valN_leastL w hw], fun h => by rw [h]⟩
theorem valN_cons (a : UInt8) (l : List UInt8) : valN (a :: l) = a.toNat * 256 ^ l.length + valN l := by
  have h : ∀ (l : List UInt8) (v : Nat), l.foldl (fun v c => v * 256 + c.toNat) v = v * 256 ^ l.length + valN l := by
    intro l
    induction l with
    | nil => intro v; simp [valN]
    | cons c l ih =>
      intro v
      have e : valN (c :: l) = (0 * 256 + c.toNat) * 256 ^ l.length + valN l := ih _
      rw [List.foldl_cons, ih, e, List.length_cons, Nat.pow_succ, Nat.zero_mul, Nat.zero_add, Nat.add_mul, Nat.mul_assoc, Nat.mul_comm 256, Nat.add_assoc]
  have := h l a.toNat
  simpa [valN] using this
theorem leastL_mono (v w : Nat) (hv : v < 18446744073709551616) (hw : w < 18446744073709551616) (h : v ≤ w) : (leastL v).length ≤ (leastL w).length := by
  rcases Nat.lt_or_ge (leastL w).length (leastL v).length with hlt | hge
  · exfalso
    have h1 := valN_lt (leastL w)
    rw [valN_leastL w hw] at h1
    have h2 := valN_leastL v hv
    have h3 := head_dropWhile (putL v)
    change (leastL v).head? ≠ some 0 at h3
    match hm : leastL v, hlt, h2, h3 with
    | [], hlt, _, _ => simp at hlt
    | a :: l, hlt, h2, h3 =>
      have ha : a.toNat ≠ 0 := fun e => h3 (by simp [UInt8.toNat_inj.1 (show a.toNat = (0 : UInt8).toNat from e)])
      rw [valN_cons] at h2
      have h4 : 256 ^ (leastL w).length ≤ 256 ^ l.length := Nat.pow_le_pow_right (by omega) (by simp at hlt; omega)
      have h5 : 256 ^ l.length ≤ a.toNat * 256 ^ l.length := Nat.le_mul_of_pos_left _ (by omega)
      omega
  · exact hge
theorem valN_bytesW (x : UInt32) : valN (bytesW x) = x.toNat := by
  have hx := u32_lt x
  simp only [bytesW, valN, List.foldl_cons, List.foldl_nil, UInt8.toNat_ofNat']
  omega
theorem wordsL_bytesL (l : List UInt32) : wordsL (bytesL l) = l := by
  induction l with
  | nil => rfl
  | cons x l ih =>
    have e : bytesL (x :: l) = bytesW x ++ bytesL l := by simp [bytesL]
    rw [e]
    show UInt32.ofNat (valN (bytesW x)) :: wordsL (bytesL l) = _
    rw [ih, valN_bytesW]
    congr 1
    apply UInt32.toNat_inj.1
    rw [UInt32.toNat_ofNat', Nat.mod_eq_of_lt (u32_lt x)]
theorem bytesW_valN (a b c d : UInt8) : bytesW (UInt32.ofNat (valN [a, b, c, d])) = [a, b, c, d] := by
  have ha : a.toNat < 256 := a.toNat_lt
  have hb : b.toNat < 256 := b.toNat_lt
  have hc : c.toNat < 256 := c.toNat_lt
  have hd : d.toNat < 256 := d.toNat_lt
  have hv : valN [a, b, c, d] = ((a.toNat * 256 + b.toNat) * 256 + c.toNat) * 256 + d.toNat := by simp [valN]
  have ht : (UInt32.ofNat (valN [a, b, c, d])).toNat = ((a.toNat * 256 + b.toNat) * 256 + c.toNat) * 256 + d.toNat := by rw [UInt32.toNat_ofNat', hv]; omega
  unfold bytesW
  rw [ht]
  congr 1
  · apply UInt8.toNat_inj.1; rw [UInt8.toNat_ofNat']; omega
  congr 1
  · apply UInt8.toNat_inj.1; rw [UInt8.toNat_ofNat']; omega
  congr 1
  · apply UInt8.toNat_inj.1; rw [UInt8.toNat_ofNat']; omega
  congr 1
  · apply UInt8.toNat_inj.1; rw [UInt8.toNat_ofNat']; omega
theorem bytesL_wordsL : ∀ (l : List UInt8), bytesL (wordsL l) = l.take (l.length / 4 * 4)
  | [] => rfl
  | [_] => by rw [wordsL_short _ (by simp)]; simp [bytesL]
  | [_, _] => by rw [wordsL_short _ (by simp)]; simp [bytesL]
  | [_, _, _] => by rw [wordsL_short _ (by simp)]; simp [bytesL]
  | a :: b :: c :: d :: l => by
    have e : bytesL (wordsL (a :: b :: c :: d :: l)) = bytesW (UInt32.ofNat (valN [a, b, c, d])) ++ bytesL (wordsL l) := by simp [wordsL, bytesL]
    rw [e, bytesW_valN, bytesL_wordsL l]
    have e2 : (a :: b :: c :: d :: l).length / 4 * 4 = l.length / 4 * 4 + 4 := by simp; omega
    rw [e2]
    simp [List.take_succ_cons]

end Go.Proofs.Ytobeaoooaagdkaa
