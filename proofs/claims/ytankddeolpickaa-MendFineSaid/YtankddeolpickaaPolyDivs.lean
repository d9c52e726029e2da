/-
  Division as the program does it: a coefficient of what is left after the other, from the last one on. No conditions but those typed.
-/
import Derived.Test.YtankddeolpickaaPolyAdd
namespace Go.Proofs.Ytankddeolpickaa
set_option maxRecDepth 100000
set_option linter.unusedSimpArgs false
set_option linter.unusedVariables false

/-- One round: at place k. -/
def divS (Q : List UInt8) (inv : UInt8) (last : Nat) (s : List UInt8 × List UInt8) (k : Nat) : List UInt8 × List UInt8 :=
  (s.1.set k (mulB (co s.2 (k + last)) inv), atL s.2 k (scaleL (mulB (co s.2 (k + last)) inv) Q))
def divF (Q : List UInt8) (inv : UInt8) (last : Nat) (s : List UInt8 × List UInt8) (ks : List Nat) : List UInt8 × List UInt8 := ks.foldl (divS Q inv last) s
theorem divF_snoc (Q : List UInt8) (inv : UInt8) (last : Nat) (s : List UInt8 × List UInt8) (ks : List Nat) (k : Nat) : divF Q inv last s (ks ++ [k]) = divS Q inv last (divF Q inv last s ks) k := by
  unfold divF
  rw [List.foldl_append]
  rfl
theorem divF_length (Q : List UInt8) (inv : UInt8) (last K n : Nat) (hQ : Q.length = last + 1) (hK : K = 0 ∨ n = K + last) : ∀ (ks : List Nat) (s : List UInt8 × List UInt8), s.1.length = K → s.2.length = n → (∀ k ∈ ks, k < K) → (divF Q inv last s ks).1.length = K ∧ (divF Q inv last s ks).2.length = n
  | [], s, h1, h2, _ => ⟨h1, h2⟩
  | k :: ks, s, h1, h2, hk => by
    have hkK : k < K := hk k (by simp)
    refine divF_length Q inv last K n hQ hK ks (divS Q inv last s k) ?_ ?_ (fun j hj => hk j (List.mem_cons_of_mem _ hj))
    · unfold divS
      rw [List.length_set]
      exact h1
    · unfold divS
      rw [at_length _ _ _ (by unfold scaleL; rw [List.length_map, hQ, h2]; omega), h2]

theorem set_eqv (a : List UInt8) (k : Nat) (t : UInt8) (hk : k < a.length) (h0 : co a k = 0) : Eqv (a.set k t) (addL a (shiftL k [t])) := fun j => by
  rw [co_set _ _ _ _ hk, co_add]
  split
  · next e =>
    subst e
    have := co_shift j [t] 0
    rw [Nat.add_zero] at this
    rw [h0, this, zero_add]
    rfl
  · next e =>
    rcases Nat.lt_or_ge j k with h | h
    · rw [co_shift_low k [t] j h, add_zero]
    · rw [co_ge (shiftL k [t]) j (by rw [shift_length]; simp; omega), add_zero]
theorem div_keeps {Q P a l : List UInt8} {k : Nat} {t : UInt8} (hk : k < a.length) (h0 : co a k = 0) (h : Eqv (addL (mulL a Q) l) P) : Eqv (addL (mulL (a.set k t) Q) (atL l k (scaleL t Q))) P := by
  have e1 : Eqv (mulL (a.set k t) Q) (addL (mulL a Q) (shiftL k (scaleL t Q))) :=
    (mul_congr (set_eqv a k t hk h0) (Eqv.refl Q)).trans ((mulL_add_left _ _ _).trans (add_congr (Eqv.refl _) (mul_shift_one t Q k)))
  refine (add_congr e1 (Eqv.refl _)).trans (Eqv.trans (fun j => ?_) h)
  unfold atL
  simp only [co_add]
  have : ∀ x y z : UInt8, addB (addB x z) (addB y z) = addB x y := fun x y z => by
    have h1 : addB (addB x z) (addB y z) = addB (addB x y) (addB z z) := add_four x z y z
    rw [h1, add_self, add_zero]
  exact this _ _ _

/-- The division, as far as j rounds have come. -/
theorem div_inv {Q P : List UInt8} {inv : UInt8} {last K : Nat} (hQ : Q.length = last + 1) (hq : mulB (co Q last) inv = 1) (hP : K = 0 ∨ P.length = K + last) : ∀ j : Nat, j ≤ K →
    let s := divF Q inv last (List.replicate K 0, P) (backN K j)
    s.1.length = K ∧ s.2.length = P.length ∧ Eqv (addL (mulL s.1 Q) s.2) P ∧ (∀ i, i + j < K → co s.1 i = 0) ∧ (0 < K → ∀ i, K - j + last ≤ i → co s.2 i = 0) ∧ (0 < j → co s.1 (K - 1) = mulB (co P (K - 1 + last)) inv) := by
  intro j
  induction j with
  | zero =>
    intro _
    refine ⟨List.length_replicate, rfl, ?_, fun i _ => co_pad [] K i, fun h0 i hi => co_ge P i (by rcases hP with h | h <;> omega), fun h => absurd h (Nat.not_lt_zero _)⟩
    have hz : Eqv (List.replicate K (0 : UInt8)) [] := fun i => by rw [co_nil]; exact co_pad [] K i
    have h2 : Eqv (mulL (List.replicate K 0) Q) [] := (mul_congr hz (Eqv.refl Q)).trans (Eqv.refl _)
    exact (add_congr h2 (Eqv.refl P)).trans (Eqv.refl _)
  | succ j ih =>
    intro hj
    have hPn : P.length = K + last := by rcases hP with h | h <;> omega
    obtain ⟨i1, i2, i3, i4, i5, i6⟩ := ih (by omega)
    rw [back_succ, divF_snoc]
    generalize divF Q inv last (List.replicate K 0, P) (backN K j) = s at i1 i2 i3 i4 i5 i6
    obtain ⟨k, hk⟩ : ∃ k, K - 1 - j = k := ⟨_, rfl⟩
    rw [hk]
    unfold divS
    dsimp only
    have hkl : k < s.1.length := by omega
    have hk0 : co s.1 k = 0 := i4 k (by omega)
    refine ⟨by rw [List.length_set]; exact i1, ?_, div_keeps hkl hk0 i3, ?_, ?_, ?_⟩
    · rw [at_length _ _ _ (by unfold scaleL; rw [List.length_map, hQ, i2]; omega), i2]
    · intro i hi
      rw [co_set _ _ _ _ hkl, if_neg (by omega)]
      exact i4 i (by omega)
    · intro hK i hi
      rw [co_at, if_neg (by omega), co_scale]
      by_cases hil : i = k + last
      · subst hil
        rw [Nat.add_sub_cancel_left, mul_assoc, mul_comm inv, hq, mul_one, add_self]
      · rw [i5 hK i (by omega), co_ge Q (i - k) (by omega), mul_zero, add_zero]
    · intro _
      rw [co_set _ _ _ _ hkl]
      split
      · next e =>
        by_cases hj0 : j = 0
        · subst hj0
          have h2 : co s.2 (k + last) = co P (K - 1 + last) := by
            have h3 := i3 (k + last)
            rw [co_add] at h3
            have h4 : Eqv (mulL s.1 Q) [] := by
              have hz : Eqv s.1 [] := fun i => by
                rw [co_nil]
                rcases Nat.lt_or_ge i K with h | h
                · exact i4 i (by omega)
                · exact co_ge _ _ (by omega)
              exact (mul_congr hz (Eqv.refl Q)).trans (Eqv.refl _)
            rw [h4, co_nil, zero_add] at h3
            rw [h3, ← e]
          rw [h2]
        · omega
      · next e => exact i6 (by omega)

/-- What the program's rounds come to. -/
theorem div_done {p Q : List UInt8} {inv : UInt8} {last K : Nat} (hQ : Q.length = last + 1) (hq : mulB (co Q last) inv = 1) (hinv : inv ≠ 0) (hK : K = (plainL p).length - last) {q : List UInt8} (hQq : plainL q = Q) :
    let s := divF Q inv last (List.replicate K 0, plainL p) (backN K K)
    s.1.length = K ∧ s.2.length = (plainL p).length ∧ IsQuo p q s.1 (plainL s.2) ∧ plainL s.1 = s.1 ∧ plainL (plainL s.2) = plainL s.2 := by
  obtain ⟨i1, i2, i3, _, i5, i6⟩ := div_inv (P := plainL p) hQ hq (by omega) K (Nat.le_refl _)
  dsimp only
  generalize divF Q inv last (List.replicate K 0, plainL p) (backN K K) = s at i1 i2 i3 i5 i6
  have hlen : (plainL q).length = last + 1 := by rw [hQq]; exact hQ
  refine ⟨i1, i2, ⟨?_, ?_⟩, ?_, plain_plain _⟩
  · refine (add_congr (mul_congr (Eqv.refl _) ?_) (plain_eqv _)).trans (i3.trans (plain_eqv p))
    rw [← hQq]
    exact (plain_eqv q).symm
  · rw [plain_plain, hlen]
    have : (plainL s.2).length ≤ last := (plain_le_iff _ _).2 fun i hi => by
      by_cases h0 : K = 0
      · exact co_ge _ _ (by omega)
      · exact i5 (by omega) i (by omega)
    omega
  · by_cases h0 : K = 0
    · rw [List.eq_nil_of_length_eq_zero (i1.trans h0)]
      rfl
    · refine plain_of_top _ (.inr ?_)
      rw [i1, i6 (by omega)]
      refine mul_ne _ _ ?_ hinv
      have h1 : K - 1 + last = (plainL p).length - 1 := by omega
      rw [h1, plain_eqv p]
      exact plain_top p (by intro e; rw [e] at hK; simp at hK; omega)
end Go.Proofs.Ytankddeolpickaa
