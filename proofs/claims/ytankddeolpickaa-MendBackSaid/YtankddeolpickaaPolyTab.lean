/-
  Polynomials as they are laid coefficient by coefficient: tables of coefficients, products as sums, shifts, one step of a division. No conditions but those typed.
-/
import Derived.Test.YtankddeolpickaaPolyMath
namespace Go.Proofs.Ytankddeolpickaa
set_option maxRecDepth 100000
set_option linter.unusedVariables false
set_option linter.unusedSimpArgs false

/-- The first n coefficients. -/
def tabL (f : Nat → UInt8) : Nat → List UInt8
  | 0 => []
  | n + 1 => tabL f n ++ [f n]
theorem tab_length (f : Nat → UInt8) : ∀ n, (tabL f n).length = n
  | 0 => rfl
  | n + 1 => by rw [tabL, List.length_append, tab_length f n]; rfl
theorem co_snoc (l : List UInt8) (x : UInt8) (k : Nat) : co (l ++ [x]) k = if k < l.length then co l k else if k = l.length then x else 0 := by
  rcases Nat.lt_trichotomy k l.length with h | h | h
  · rw [if_pos h]
    simp [co, List.getD_eq_getElem?_getD, List.getElem?_append_left h]
  · rw [if_neg (by omega), if_pos h]
    subst h
    simp [co, List.getD_eq_getElem?_getD]
  · rw [if_neg (by omega), if_neg (by omega), co_ge _ _ (by rw [List.length_append]; simp; omega)]
theorem co_tab (f : Nat → UInt8) : ∀ n k, co (tabL f n) k = if k < n then f k else 0
  | 0, k => by rw [tabL, co_nil, if_neg (by omega)]
  | n + 1, k => by
    rw [tabL, co_snoc, tab_length, co_tab f n k]
    rcases Nat.lt_trichotomy k n with h | h | h
    · rw [if_pos h, if_pos (by omega), if_pos (by omega)]
    · subst h
      rw [if_neg (by omega), if_pos rfl, if_pos (by omega)]
    · rw [if_neg (by omega), if_neg (by omega), if_neg (by omega)]
theorem tab_eqv (p : List UInt8) (n : Nat) (h : p.length ≤ n) : Eqv (tabL (co p) n) p := fun k => by
  rw [co_tab]
  split
  · rfl
  · rw [co_ge p k (by omega)]
theorem plain_tab (p : List UInt8) (n : Nat) (h : p.length ≤ n) : plainL (tabL (co p) n) = plainL p := plain_congr (tab_eqv p n h)

/-- A product's coefficient as a sum. -/
def sumL' (p q : List UInt8) (k : Nat) : Nat → UInt8
  | 0 => 0
  | n + 1 => addB (sumL' p q k n) (mulB (co p n) (co q (k - n)))
theorem sum_cons (a : UInt8) (p q : List UInt8) (k : Nat) : ∀ n, sumL' (a :: p) q (k + 1) (n + 1) = addB (mulB a (co q (k + 1))) (sumL' p q k n)
  | 0 => by
    rw [sumL', sumL', sumL', zero_add, add_zero]
    rfl
  | n + 1 => by
    rw [sumL', sum_cons a p q k n, sumL', co_succ, show k + 1 - (n + 1) = k - n by omega, add_assoc]
theorem mul_sum : ∀ (p q : List UInt8) (k : Nat), co (mulL p q) k = sumL' p q k (k + 1)
  | [], q, k => by
    have : ∀ n, sumL' [] q k n = 0 := fun n => by
      induction n with
      | zero => rfl
      | succ n ih => rw [sumL', ih, co_nil, zero_mul, add_zero]
    rw [mulL, co_nil, this]
  | a :: p, q, 0 => by
    rw [mulL, co_add, co_scale, co_zero, add_zero, sumL', sumL', zero_add]
    rfl
  | a :: p, q, k + 1 => by rw [mulL, co_add, co_scale, co_succ, mul_sum p q k, sum_cons]
theorem sum_past (p q : List UInt8) (k : Nat) : ∀ n, p.length ≤ n → sumL' p q k n = sumL' p q k p.length
  | 0, h => by
    have : p.length = 0 := by omega
    rw [this]
  | n + 1, h => by
    by_cases e : p.length = n + 1
    · rw [e]
    · rw [sumL', co_ge p n (by omega), zero_mul, add_zero, sum_past p q k n (by omega)]
theorem mul_sum_min (p q : List UInt8) (k : Nat) : co (mulL p q) k = sumL' p q k (min (k + 1) p.length) := by
  rw [mul_sum]
  rcases Nat.lt_or_ge p.length (k + 1) with h | h
  · rw [Nat.min_eq_right (by omega), sum_past p q k (k + 1) (by omega)]
  · rw [Nat.min_eq_left h]
theorem mulL_length_le (p q : List UInt8) : (mulL p q).length ≤ p.length + q.length := by
  induction p with
  | nil => simp [mulL]
  | cons a p ih =>
    rw [mulL, addL_length, scaleL, List.length_map, List.length_cons, List.length_cons]
    omega

/-- A polynomial times a power of x. -/
def shiftL (n : Nat) (p : List UInt8) : List UInt8 := List.replicate n 0 ++ p
theorem shift_succ (n : Nat) (p : List UInt8) : shiftL (n + 1) p = 0 :: shiftL n p := rfl
theorem shift_length (n : Nat) (p : List UInt8) : (shiftL n p).length = n + p.length := by simp [shiftL]
theorem co_shift : ∀ (n : Nat) (p : List UInt8) (k : Nat), co (shiftL n p) (n + k) = co p k
  | 0, p, k => by
    rw [Nat.zero_add]
    rfl
  | n + 1, p, k => by rw [shift_succ, show n + 1 + k = n + k + 1 by omega, co_succ, co_shift n p k]
theorem mul_shift_one (c : UInt8) (q : List UInt8) : ∀ n, Eqv (mulL (shiftL n [c]) q) (shiftL n (scaleL c q))
  | 0 => by
    show Eqv (addL (scaleL c q) (0 :: mulL [] q)) (scaleL c q)
    exact (add_congr (Eqv.refl _) zero_cons).trans (addL_nil _)
  | n + 1 => by
    rw [shift_succ, shift_succ]
    exact (mulL_shift_left _ _).trans ((mul_shift_one c q n).cons 0)

/-- One step of a division: what is left is shorter, and it still makes p. -/
theorem quo_step {p q a l : List UInt8} {n : Nat} {t : UInt8} (hl : plainL l = l) (hq : plainL q = q) (hqn : q ≠ []) (hn : l.length = n + q.length) (ht : t = mulB (co l (l.length - 1)) (invB (co q (q.length - 1)))) (h : Eqv (addL (mulL a q) l) p) :
    Eqv (addL (mulL (plainL (addL a (shiftL n [t]))) q) (plainL (addL l (shiftL n (scaleL t q))))) p ∧ (plainL (addL l (shiftL n (scaleL t q)))).length < l.length := by
  have hq0 : 0 < q.length := List.length_pos_iff.2 hqn
  have htop : co q (q.length - 1) ≠ 0 := by
    have := plain_top q (by rw [hq]; exact hqn)
    rwa [hq] at this
  refine ⟨?_, ?_⟩
  · have e1 : Eqv (mulL (plainL (addL a (shiftL n [t]))) q) (addL (mulL a q) (shiftL n (scaleL t q))) :=
      (mul_congr (plain_eqv _) (Eqv.refl q)).trans ((mulL_add_left _ _ _).trans (add_congr (Eqv.refl _) (mul_shift_one t q n)))
    refine (add_congr e1 (plain_eqv _)).trans ?_
    refine Eqv.trans (fun k => ?_) h
    simp only [co_add]
    have : ∀ x y z : UInt8, addB (addB x z) (addB y z) = addB x y := fun x y z => by
      have h1 : addB (addB x z) (addB y z) = addB (addB x y) (addB z z) := add_four x z y z
      rw [h1, add_self, add_zero]
    exact this _ _ _
  · have hle : (plainL (addL l (shiftL n (scaleL t q)))).length ≤ l.length - 1 := by
      refine (plain_le_iff _ _).2 fun k hk => ?_
      rw [co_add]
      rcases Nat.lt_or_ge k l.length with h1 | h1
      · have hk' : k = l.length - 1 := by omega
        have hk2 : k = n + (q.length - 1) := by omega
        rw [hk2, co_shift, co_scale, ← hk2, hk', ht, mul_assoc, mul_comm (invB _), mul_inv _ htop, mul_one, add_self]
      · rw [co_ge l k h1, co_ge _ k (by rw [shift_length, scaleL, List.length_map]; omega), add_zero]
    omega
end Go.Proofs.Ytankddeolpickaa
