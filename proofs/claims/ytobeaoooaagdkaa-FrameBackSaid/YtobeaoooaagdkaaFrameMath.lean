/-
  Layer 12 as plain functions: a payload's bytes, and what any bytes are; read back; cut, and with more behind. No conditions but those typed.
-/
import Derived.Test.YtobeaoooaagdkaaWordNums
namespace Go.Proofs.Ytobeaoooaagdkaa
set_option maxRecDepth 100000
set_option linter.unusedVariables false
set_option linter.unusedSimpArgs false

/-! ### Numbers -/
def numF (x : Nat) : List UInt8 := UInt8.ofNat (leastL x).length :: leastL x
/-- Why not (0: fine), the number, and what is left. -/
def readN : List UInt8 → Int × Nat × List UInt8
  | [] => (2, 0, [])
  | n :: r => if 8 < n.toNat then (4, 0, []) else if r.length < n.toNat then (2, 0, []) else if 0 < n.toNat ∧ r.head? = some 0 then (3, 0, []) else (0, valN (r.take n.toNat), r.drop n.toNat)
theorem readN_cons (n : UInt8) (r : List UInt8) : readN (n :: r) = if 8 < n.toNat then (4, 0, []) else if r.length < n.toNat then (2, 0, []) else if 0 < n.toNat ∧ r.head? = some 0 then (3, 0, []) else (0, valN (r.take n.toNat), r.drop n.toNat) := rfl
theorem least_count (x : Nat) : (UInt8.ofNat (leastL x).length).toNat = (leastL x).length := by
  have := leastL_length x
  rw [UInt8.toNat_ofNat']
  omega
theorem least_head (x : Nat) : (leastL x).head? ≠ some 0 := head_dropWhile (putL x)
theorem head_append (a r : List UInt8) (h : 0 < a.length) : (a ++ r).head? = a.head? := by
  cases a with
  | nil => simp at h
  | cons c a => rfl
theorem readN_num (x : Nat) (r : List UInt8) (hx : x < 18446744073709551616) : readN (numF x ++ r) = (0, x, r) := by
  unfold numF
  rw [List.cons_append, readN_cons, least_count]
  have h8 := leastL_length x
  rw [if_neg (by omega), if_neg (by rw [List.length_append]; omega)]
  rw [if_neg (by
    rintro ⟨h1, h2⟩
    rw [head_append _ _ h1] at h2
    exact least_head x h2)]
  rw [List.take_left, List.drop_left, valN_leastL x hx]
theorem readN_good (b r : List UInt8) (x : Nat) (h : readN b = (0, x, r)) : b = numF x ++ r ∧ x < 18446744073709551616 := by
  cases b with
  | nil => simp [readN] at h
  | cons n s =>
    rw [readN_cons] at h
    split at h
    · simp at h
    · rename_i h8
      split at h
      · simp at h
      · rename_i hl
        split at h
        · simp at h
        · rename_i h0
          simp only [Prod.mk.injEq, true_and] at h
          obtain ⟨e1, e2⟩ := h
          have htl : (s.take n.toNat).length = n.toNat := by rw [List.length_take]; omega
          have hhd : (s.take n.toNat).head? ≠ some 0 := by
            intro hh
            apply h0
            rcases Nat.eq_zero_or_pos n.toNat with hz | hp
            · rw [hz, List.take_zero] at hh
              simp at hh
            · refine ⟨hp, ?_⟩
              rw [← hh, List.head?_take, if_neg (by omega)]
          have hle := leastL_valN (s.take n.toNat) (by omega) hhd
          have hv := valN_lt8 (s.take n.toNat) (by omega)
          rw [e1] at hle hv
          refine ⟨?_, hv⟩
          unfold numF
          rw [hle, htl, UInt8.ofNat_toNat, ← e2, List.cons_append, List.take_append_drop]
/-- Cut within a number: too short. -/
theorem readN_cut (x : Nat) (hx : x < 18446744073709551616) (k : Nat) (hk : k < (numF x).length) : (readN ((numF x).take k)).1 = 2 := by
  cases k with
  | zero => rfl
  | succ k =>
    unfold numF at hk ⊢
    rw [List.length_cons] at hk
    rw [List.take_succ_cons, readN_cons, least_count]
    have := leastL_length x
    rw [if_neg (by omega), if_pos (by rw [List.length_take]; omega)]
theorem readN_left (x : Nat) (r : List UInt8) (hx : x < 18446744073709551616) (k : Nat) (hk : (numF x).length ≤ k) : readN ((numF x ++ r).take k) = (0, x, r.take (k - (numF x).length)) := by
  rw [List.take_append, List.take_of_length_le hk, readN_num x _ hx]
theorem readN_short (x : Nat) (r : List UInt8) (hx : x < 18446744073709551616) (k : Nat) (hk : k < (numF x).length) : (readN ((numF x ++ r).take k)).1 = 2 := by
  rw [List.take_append_of_le_length (by omega)]
  exact readN_cut x hx k hk

/-! ### Payloads -/
def writeF (t e c : Nat) (tag : List UInt8) : List UInt8 := 87 :: (numF t ++ (numF e ++ (numF c ++ tag)))
def readT (t e c : Nat) (r : List UInt8) : Int × Nat × Nat × Nat × List UInt8 := if r.length < 8 then (2, 0, 0, 0, []) else if 8 < r.length then (4, 0, 0, 0, []) else (0, t, e, c, r)
def readC (t e : Nat) (b : List UInt8) : Int × Nat × Nat × Nat × List UInt8 := if (readN b).1 = 0 then readT t e (readN b).2.1 (readN b).2.2 else ((readN b).1, 0, 0, 0, [])
def readE (t : Nat) (b : List UInt8) : Int × Nat × Nat × Nat × List UInt8 := if (readN b).1 = 0 then readC t (readN b).2.1 (readN b).2.2 else ((readN b).1, 0, 0, 0, [])
def readB (b : List UInt8) : Int × Nat × Nat × Nat × List UInt8 := if (readN b).1 = 0 then readE (readN b).2.1 (readN b).2.2 else ((readN b).1, 0, 0, 0, [])
def readF : List UInt8 → Int × Nat × Nat × Nat × List UInt8
  | [] => (2, 0, 0, 0, [])
  | x :: r => if x ≠ 87 then (3, 0, 0, 0, []) else readB r
theorem readF_cons (x : UInt8) (r : List UInt8) : readF (x :: r) = if x ≠ 87 then (3, 0, 0, 0, []) else readB r := rfl
section
variable {t e c : Nat} {tag : List UInt8} (ht : t < 18446744073709551616) (he : e < 18446744073709551616) (hc : c < 18446744073709551616)
include ht he hc
theorem read_write_of (r : List UInt8) : readF (87 :: (numF t ++ (numF e ++ (numF c ++ r)))) = readT t e c r := by
  rw [readF_cons, if_neg (by simp)]
  unfold readB
  rw [readN_num t _ ht, if_pos rfl]
  unfold readE
  dsimp only
  rw [readN_num e _ he, if_pos rfl]
  unfold readC
  dsimp only
  rw [readN_num c _ hc, if_pos rfl]
theorem read_write (h8 : tag.length = 8) : readF (writeF t e c tag) = (0, t, e, c, tag) := by
  unfold writeF
  rw [read_write_of ht he hc]
  unfold readT
  rw [if_neg (by omega), if_neg (by omega)]
theorem read_more (more : List UInt8) (h8 : tag.length = 8) (hm : 0 < more.length) : (readF (writeF t e c tag ++ more)).1 = 4 := by
  have e1 : writeF t e c tag ++ more = 87 :: (numF t ++ (numF e ++ (numF c ++ (tag ++ more)))) := by
    unfold writeF
    simp only [List.cons_append, List.append_assoc]
  rw [e1, read_write_of ht he hc]
  unfold readT
  rw [if_neg (by rw [List.length_append]; omega), if_pos (by rw [List.length_append]; omega)]
theorem read_cut (k : Nat) (h8 : tag.length = 8) (hk : k < (writeF t e c tag).length) : (readF ((writeF t e c tag).take k)).1 = 2 := by
  cases k with
  | zero => rfl
  | succ k =>
    unfold writeF at hk ⊢
    rw [List.length_cons] at hk
    rw [List.take_succ_cons, readF_cons, if_neg (by simp)]
    unfold readB
    by_cases h1 : k < (numF t).length
    · have := readN_short t (numF e ++ (numF c ++ tag)) ht k h1
      rw [if_neg (by rw [this]; decide)]
      exact this
    · rw [readN_left t _ ht k (by omega), if_pos rfl]
      unfold readE
      dsimp only
      generalize hk1 : k - (numF t).length = k1
      by_cases h2 : k1 < (numF e).length
      · have := readN_short e (numF c ++ tag) he k1 h2
        rw [if_neg (by rw [this]; decide)]
        exact this
      · rw [readN_left e _ he k1 (by omega), if_pos rfl]
        unfold readC
        dsimp only
        generalize hk2 : k1 - (numF e).length = k2
        by_cases h3 : k2 < (numF c).length
        · have := readN_short c tag hc k2 h3
          rw [if_neg (by rw [this]; decide)]
          exact this
        · rw [readN_left c _ hc k2 (by omega), if_pos rfl]
          unfold readT
          dsimp only
          simp only [List.length_append] at hk
          rw [if_pos (by rw [List.length_take]; omega)]
end
theorem read_good (b : List UInt8) (t e c : Nat) (tag : List UInt8) (h : readF b = (0, t, e, c, tag)) : b = writeF t e c tag ∧ tag.length = 8 ∧ t < 18446744073709551616 ∧ e < 18446744073709551616 ∧ c < 18446744073709551616 := by
  cases b with
  | nil => simp [readF] at h
  | cons x r =>
    rw [readF_cons] at h
    split at h
    · simp at h
    · rename_i hx
      have ex : x = 87 := Classical.byContradiction hx
      unfold readB at h
      split at h
      · rename_i h1
        obtain ⟨b1, l1⟩ := readN_good r (readN r).2.2 (readN r).2.1 (by rw [← h1])
        generalize (readN r).2.1 = t1 at h b1 l1
        generalize (readN r).2.2 = r1 at h b1
        unfold readE at h
        split at h
        · rename_i h2
          obtain ⟨b2, l2⟩ := readN_good r1 (readN r1).2.2 (readN r1).2.1 (by rw [← h2])
          generalize (readN r1).2.1 = e1 at h b2 l2
          generalize (readN r1).2.2 = r2 at h b2
          unfold readC at h
          split at h
          · rename_i h3
            obtain ⟨b3, l3⟩ := readN_good r2 (readN r2).2.2 (readN r2).2.1 (by rw [← h3])
            generalize (readN r2).2.1 = c1 at h b3 l3
            generalize (readN r2).2.2 = r3 at h b3
            unfold readT at h
            split at h
            · simp at h
            · split at h
              · simp at h
              · simp only [Prod.mk.injEq, true_and] at h
                obtain ⟨rfl, rfl, rfl, rfl⟩ := h
                refine ⟨?_, by omega, l1, l2, l3⟩
                unfold writeF
                rw [ex, b1, b2, b3]
          · rename_i h3
            simp only [Prod.mk.injEq] at h
            exact absurd h.1 h3
        · rename_i h2
          simp only [Prod.mk.injEq] at h
          exact absurd h.1 h2
      · rename_i h1
        simp only [Prod.mk.injEq] at h
        exact absurd h.1 h1
theorem write_inj {t e c t' e' c' : Nat} {tag tag' : List UInt8} (ht : t < 18446744073709551616) (he : e < 18446744073709551616) (hc : c < 18446744073709551616) (ht' : t' < 18446744073709551616) (he' : e' < 18446744073709551616) (hc' : c' < 18446744073709551616) (h8 : tag.length = 8) (h8' : tag'.length = 8) :
    writeF t e c tag = writeF t' e' c' tag' ↔ t = t' ∧ e = e' ∧ c = c' ∧ tag = tag' := by
  constructor
  · intro h
    have h1 := read_write ht he hc h8
    rw [h, read_write ht' he' hc' h8'] at h1
    simp only [Prod.mk.injEq, true_and] at h1
    obtain ⟨rfl, rfl, rfl, rfl⟩ := h1
    exact ⟨rfl, rfl, rfl, rfl⟩
  · rintro ⟨rfl, rfl, rfl, rfl⟩
    rfl
theorem num_length (x : Nat) : 1 ≤ (numF x).length ∧ (numF x).length ≤ 9 := by
  have := leastL_length x
  unfold numF
  rw [List.length_cons]
  omega
theorem write_length (t e c : Nat) (tag : List UInt8) (h8 : tag.length = 8) : 12 ≤ (writeF t e c tag).length ∧ (writeF t e c tag).length ≤ 36 := by
  have h1 := num_length t
  have h2 := num_length e
  have h3 := num_length c
  unfold writeF
  rw [List.length_cons, List.length_append, List.length_append, List.length_append]
  omega
/-- What a tag is of. -/
def msgF (t e c : Nat) : List UInt8 := 67 :: (putL t ++ (putL e ++ putL c))
theorem putL_len (v : Nat) : (putL v).length = 8 := rfl
theorem putL_inj {v w : Nat} (hv : v < 18446744073709551616) (hw : w < 18446744073709551616) (h : putL v = putL w) : v = w := by rw [← valN_putL v hv, h, valN_putL w hw]
theorem msg_inj {t e c t' e' c' : Nat} (ht : t < 18446744073709551616) (he : e < 18446744073709551616) (hc : c < 18446744073709551616) (ht' : t' < 18446744073709551616) (he' : e' < 18446744073709551616) (hc' : c' < 18446744073709551616) : msgF t e c = msgF t' e' c' ↔ t = t' ∧ e = e' ∧ c = c' := by
  constructor
  · intro h
    unfold msgF at h
    injection h with _ h
    obtain ⟨h1, h2⟩ := List.append_inj h rfl
    obtain ⟨h3, h4⟩ := List.append_inj h2 rfl
    exact ⟨putL_inj ht ht' h1, putL_inj he he' h3, putL_inj hc hc' h4⟩
  · rintro ⟨rfl, rfl, rfl⟩
    rfl
end Go.Proofs.Ytobeaoooaagdkaa
