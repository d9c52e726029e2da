/-
  Layer 10 as plain mathematics: what bytes are mended to is told by Euclid's way to a finder, and Forney's values at its roots. No conditions but those typed.
-/
import Derived.Test.YtankddeolpickaaSolMath
import Derived.Test.YtankddeolpickaaPolyAdd
import Derived.Test.YtankddeolpickaaDif
namespace Go.Proofs.Ytankddeolpickaa
set_option maxRecDepth 100000
set_option linter.unusedVariables false
set_option linter.unusedSimpArgs false

/-! ### Mended -/
/-- These are fine, and near enough. -/
def Near (b : List UInt8) (n : Nat) (a : List UInt8) : Prop := a.length = b.length ∧ fineP a n ∧ difL b a ≤ n / 2
theorem dif_comm (a b : List UInt8) : difL a b = difL b a := by
  unfold difL
  rw [List.zipWith_comm]
  congr 1
  congr 1
  funext x y
  exact add_comm _ _
theorem dif_tri : ∀ a b c : List UInt8, a.length = b.length → b.length = c.length → difL a c ≤ difL a b + difL b c
  | [], [], [], _, _ => by simp [difL, wtL]
  | [], _ :: _, _, h, _ => by simp at h
  | [], [], _ :: _, _, h => by simp at h
  | _ :: _, [], _, h, _ => by simp at h
  | _ :: _, _ :: _, [], _, h => by simp at h
  | x :: a, y :: b, z :: c, h, g => by
    have ih := dif_tri a b c (by simpa using h) (by simpa using g)
    rw [dif_cons, dif_cons, dif_cons]
    by_cases h1 : addB x y = 0
    · by_cases h2 : addB y z = 0
      · have e1 := add_zero_eq h1
        have e2 := add_zero_eq h2
        rw [if_pos (by rw [e1, e2, add_self])]
        omega
      · rw [if_pos h1, if_neg h2]
        split <;> omega
    · rw [if_neg h1]
      split <;> split <;> omega
theorem dif_zero {a b : List UInt8} (hl : a.length = b.length) (h : difL a b = 0) : a = b := by
  refine zip_zero a b hl (fun c hc => ?_)
  unfold difL wtL at h
  have := List.eq_nil_of_length_eq_zero h
  rw [List.filter_eq_nil_iff] at this
  simpa using this c hc
theorem near_unique {b a c : List UInt8} {n : Nat} (hl : b.length ≤ 255) (h : Near b n a) (g : Near b n c) : a = c := by
  obtain ⟨h1, h2, h3⟩ := h
  obtain ⟨g1, g2, g3⟩ := g
  refine fine_unique a c n (by omega) (by omega) h2 g2 ?_
  have := dif_tri a b c h1 (by omega)
  rw [dif_comm a b] at this
  omega
theorem near_self {b : List UInt8} {n : Nat} (h : fineP b n) : Near b n b := ⟨rfl, h, by rw [dif_self]; omega⟩

/-! ### Products, so far as some power -/
/-- Alike below a power. -/
def Low (n : Nat) (p q : List UInt8) : Prop := ∀ k, k < n → co p k = co q k
theorem Low.trans {n : Nat} {p q r : List UInt8} (h : Low n p q) (g : Low n q r) : Low n p r := fun k hk => (h k hk).trans (g k hk)
theorem Low.symm {n : Nat} {p q : List UInt8} (h : Low n p q) : Low n q p := fun k hk => (h k hk).symm
theorem Eqv.low {p q : List UInt8} (h : Eqv p q) (n : Nat) : Low n p q := fun k _ => h k
theorem Low.add {n : Nat} {p q p' q' : List UInt8} (h : Low n p p') (g : Low n q q') : Low n (addL p q) (addL p' q') := fun k hk => by rw [co_add, co_add, h k hk, g k hk]
theorem Low.cons {n : Nat} (a : UInt8) {p q : List UInt8} (h : Low n p q) : Low n (a :: p) (a :: q) := fun k hk => by
  cases k with
  | zero => rfl
  | succ k => rw [co_succ, co_succ, h k (by omega)]
theorem Low.scale {n : Nat} (a : UInt8) {p q : List UInt8} (h : Low n p q) : Low n (scaleL a p) (scaleL a q) := fun k hk => by rw [co_scale, co_scale, h k hk]
theorem Low.mul {n : Nat} {q q' : List UInt8} (h : Low n q q') : ∀ p : List UInt8, Low n (mulL p q) (mulL p q')
  | [] => fun _ _ => rfl
  | a :: p => (h.scale a).add ((h.mul p).cons 0)
/-- How many coefficients. -/
def pl (p : List UInt8) : Nat := (plainL p).length
theorem pl_le_iff (p : List UInt8) (n : Nat) : pl p ≤ n ↔ ∀ k, n ≤ k → co p k = 0 := plain_le_iff p n
theorem pl_congr {p q : List UInt8} (h : Eqv p q) : pl p = pl q := by unfold pl; rw [plain_congr h]
theorem pl_len (p : List UInt8) : pl p ≤ p.length := plain_len p
theorem pl_zero {p : List UInt8} (h : pl p = 0) : Eqv p [] := fun k => by rw [co_nil]; exact (pl_le_iff p 0).1 (by omega) k (Nat.zero_le _)
theorem pl_add (p q : List UInt8) : pl (addL p q) ≤ max (pl p) (pl q) := plain_add_len p q
theorem pl_mul (p q : List UInt8) : pl (mulL p q) ≤ pl p + pl q - 1 := by
  by_cases hp : plainL p = []
  · have : Eqv (mulL p q) [] := (mul_congr (pl_zero (p := p) (by unfold pl; rw [hp]; rfl)) (Eqv.refl q)).trans (Eqv.refl _)
    rw [pl_congr this]
    exact Nat.zero_le _
  · by_cases hq : plainL q = []
    · have : Eqv (mulL p q) [] := (mul_congr (Eqv.refl p) (pl_zero (p := q) (by unfold pl; rw [hq]; rfl))).trans (mulL_nil p)
      rw [pl_congr this]
      exact Nat.zero_le _
    · exact Nat.le_of_eq (mul_plain_len p q hp hq)
theorem pl_mul_eq (p q : List UInt8) (hp : 0 < pl p) (hq : 0 < pl q) : pl (mulL p q) = pl p + pl q - 1 := mul_plain_len p q (List.length_pos_iff.1 hp) (List.length_pos_iff.1 hq)

/-! ### Roots -/
/-- Divided by 'r + x'. -/
def synL (r : UInt8) : List UInt8 → List UInt8
  | [] => []
  | [_] => []
  | _ :: d :: p => evalL (d :: p) r :: synL r (d :: p)
theorem syn_is (r : UInt8) : ∀ p : List UInt8, p ≠ [] → (synL r p).length + 1 = p.length ∧ ∀ x, evalL p x = addB (mulB (addB r x) (evalL (synL r p) x)) (evalL p r)
  | [], h => absurd rfl h
  | [c], _ => ⟨rfl, fun x => by simp only [synL, evalL, mul_zero, add_zero, zero_add]⟩
  | c :: d :: p, _ => by
    obtain ⟨h1, h2⟩ := syn_is r (d :: p) (by simp)
    refine ⟨by simp only [synL, List.length_cons] at h1 ⊢; omega, fun x => ?_⟩
    have e := h2 x
    have hs : synL r (c :: d :: p) = evalL (d :: p) r :: synL r (d :: p) := rfl
    rw [hs]
    generalize synL r (d :: p) = q at e
    generalize d :: p = dp at e
    rw [evalL, evalL, evalL, e]
    generalize evalL dp r = v
    generalize evalL q x = y
    simp only [mul_add_right, mul_add_left]
    have e1 : mulB x (mulB r y) = mulB r (mulB x y) := by rw [← mul_assoc, mul_comm x r, mul_assoc]
    rw [e1]
    generalize mulB r (mulB x y) = A
    generalize mulB x (mulB x y) = B
    generalize mulB x v = C
    generalize mulB r v = D
    unfold addB
    have h : C ^^^ (D ^^^ (A ^^^ (B ^^^ (c ^^^ D)))) = c ^^^ (A ^^^ (B ^^^ C)) ^^^ (D ^^^ D) := by ac_rfl
    rw [UInt8.xor_self, UInt8.xor_zero] at h
    calc c ^^^ (A ^^^ B ^^^ C) = c ^^^ (A ^^^ (B ^^^ C)) := by ac_rfl
      _ = C ^^^ (D ^^^ (A ^^^ (B ^^^ (c ^^^ D)))) := h.symm
      _ = _ := by ac_rfl
theorem eval_all_zero : ∀ (R : List UInt8) (p : List UInt8), R.Nodup → p.length ≤ R.length → (∀ r ∈ R, evalL p r = 0) → ∀ x, evalL p x = 0
  | _, [], _, _, _, x => rfl
  | [], c :: p, _, h, _, _ => by simp at h
  | r :: R, c :: p, hd, hl, h, x => by
    obtain ⟨h1, h2⟩ := syn_is r (c :: p) (by simp)
    have hr := h r List.mem_cons_self
    rw [List.nodup_cons] at hd
    have hq : ∀ s ∈ R, evalL (synL r (c :: p)) s = 0 := fun s hs => by
      have e := h2 s
      rw [hr, add_zero, h s (List.mem_cons_of_mem _ hs)] at e
      rcases (mul_eq_zero _ _).1 e.symm with g | g
      · exact absurd (add_zero_eq g ▸ hs) hd.1
      · exact g
    rw [h2 x, hr, add_zero, eval_all_zero R _ hd.2 (by simp only [List.length_cons] at hl h1; omega) hq x, mul_zero]
theorem eqv_all_zero : ∀ (R : List UInt8) (p : List UInt8), R.Nodup → p.length ≤ R.length → (∀ r ∈ R, evalL p r = 0) → ∀ k, co p k = 0
  | _, [], _, _, _, k => co_nil k
  | [], c :: p, _, h, _, _ => by simp at h
  | r :: R, c :: p, hd, hl, h, k => by
    have hr := h r List.mem_cons_self
    have hd' := List.nodup_cons.1 hd
    obtain ⟨h1, h2⟩ := syn_is r (c :: p) (by simp)
    have hq : ∀ s ∈ R, evalL (synL r (c :: p)) s = 0 := fun s hs => by
      have e := h2 s
      rw [hr, add_zero, h s (List.mem_cons_of_mem _ hs)] at e
      rcases (mul_eq_zero _ _).1 e.symm with g | g
      · exact absurd (add_zero_eq g ▸ hs) hd'.1
      · exact g
    have hs := eqv_all_zero R _ hd'.2 (by simp only [List.length_cons] at hl h1; omega) hq
    -- the coefficients of what is divided are told by those of the quotient
    have key : ∀ (p : List UInt8), evalL p r = 0 → (∀ j, co (synL r p) j = 0) → ∀ j, co p j = 0 := by
      intro p
      induction p with
      | nil => intro _ _ j; exact co_nil j
      | cons a p ih =>
        intro he hz j
        match p, ih, he, hz with
        | [], _, he, _ =>
          rw [evalL, evalL, mul_zero, add_zero] at he
          rw [he]
          rw [zero_cons j, co_nil]
        | d :: p, ih, he, hz =>
          have h0 : evalL (d :: p) r = 0 := hz 0
          have hz' : ∀ j, co (synL r (d :: p)) j = 0 := fun j => by
            have := hz (j + 1)
            rwa [synL, co_succ] at this
          rw [evalL, h0, mul_zero, add_zero] at he
          cases j with
          | zero => rw [co_zero]; exact he
          | succ j => rw [co_succ]; exact ih h0 hz' j
    exact key _ hr hs k
/-- No more roots than coefficients but one, or it is nothing. -/
theorem roots_zero (R : List UInt8) (p : List UInt8) (hd : R.Nodup) (hl : pl p ≤ R.length) (h : ∀ r ∈ R, evalL p r = 0) : Eqv p [] := fun k => by
  rw [← plain_eqv p k, co_nil]
  exact eqv_all_zero R (plainL p) hd hl (fun r hr => by rw [eval_congr (plain_eqv p) r]; exact h r hr) k

/-! ### Euclid's way -/
def xN (n : Nat) : List UInt8 := List.replicate n 0 ++ [1]
theorem xN_eval (n : Nat) (r : UInt8) : evalL (xN n) r = powB r n := by
  unfold xN
  rw [eval_snoc, eval_zeros, zero_add, one_mul, List.length_replicate]
theorem xN_low (n : Nat) : Low n (xN n) [] := fun k hk => by
  unfold xN co
  rw [List.getD_eq_getElem?_getD, List.getElem?_append_left (by simpa using hk), List.getElem?_replicate, if_pos hk]
  rfl
theorem xN_length (n : Nat) : (xN n).length = n + 1 := by simp [xN]
theorem xN_pl (n : Nat) : pl (xN n) = n + 1 := by
  unfold pl
  rw [plain_of_top (xN n) (.inr ?_), xN_length]
  rw [xN_length, Nat.add_sub_cancel]
  unfold xN co
  rw [List.getD_eq_getElem?_getD, List.getElem?_append_right (by simp), List.length_replicate, Nat.sub_self]
  decide
/-- What is kept on the way. -/
structure Euc (n : Nat) (S ahead left fa f : List UInt8) : Prop where
  key : Low n (mulL f S) left
  keyA : Low n (mulL fa S) ahead
  det : Eqv (addL (mulL f ahead) (mulL fa left)) (xN n)
  deg : pl f + pl ahead ≤ n + 2
  degA : pl fa + pl ahead ≤ n + 2
  less : pl left < pl ahead
  big : n - n / 2 < pl ahead
theorem euc_start (n : Nat) (S : List UInt8) (hS : S.length = n) : Euc n S (xN n) S [] [1] where
  key := fun k _ => by rw [mulL_comm [1] S k, mulL_one_right 1 S k, scale_one]
  keyA := fun k hk => by rw [xN_low n k hk]; rfl
  det := fun k => by
    rw [co_add, mulL_comm [1] _ k, mulL_one_right 1 _ k, scale_one]
    show addB _ (co [] k) = _
    rw [co_nil, add_zero]
  deg := by rw [xN_pl]; exact Nat.le_of_eq (by show (plainL [1]).length + _ = _; rw [show plainL [1] = [1] by decide]; simp; omega)
  degA := by rw [xN_pl]; show (plainL []).length + _ ≤ _; rw [show plainL [] = [] by rfl]; simp
  less := by rw [xN_pl]; have := pl_len S; omega
  big := by rw [xN_pl]; omega
theorem Euc.step {n : Nat} {S ahead left fa f a r f' : List UInt8} (h : Euc n S ahead left fa f) (hq : IsQuo ahead left a r) (hl : n - n / 2 < pl left) (hf : Eqv f' (addL fa (mulL a f))) : Euc n S left r f f' := by
  have hr : pl r < pl left := hq.2
  have h1 := h.less
  have h2 := h.deg
  have h3 := h.degA
  -- what is left is what is ahead, and so often what was left
  have er : Eqv r (addL ahead (mulL a left)) := fun k => by
    have := hq.1 k
    rw [co_add] at this
    rw [co_add, ← this, add_comm (co (mulL a left) k), add_assoc, add_self, add_zero]
  have ea : pl a + pl left ≤ pl ahead + 1 := by
    by_cases h0 : pl a = 0
    · omega
    · have e1 : pl (mulL a left) = pl a + pl left - 1 := pl_mul_eq a left (by omega) (by omega)
      have e2 : Eqv (mulL a left) (addL ahead r) := fun k => by
        have := hq.1 k
        rw [co_add] at this
        rw [co_add, ← this, add_assoc, add_self, add_zero]
      have e3 := pl_add ahead r
      rw [pl_congr e2] at e1
      omega
  constructor
  · refine Low.trans ((mul_congr hf (Eqv.refl S)).low n) (Low.trans ((mulL_add_left fa (mulL a f) S).low n) (Low.trans ?_ (er.symm.low n)))
    refine h.keyA.add (Low.trans ((mulL_assoc a f S).low n) (h.key.mul a))
  · exact h.key
  · -- the determinant
    intro k
    have e1 : co (mulL f' left) k = addB (co (mulL fa left) k) (co (mulL (mulL a f) left) k) := by
      rw [mul_congr hf (Eqv.refl left) k, mulL_add_left fa (mulL a f) left k, co_add]
    have e2 : co (mulL f r) k = addB (co (mulL f ahead) k) (co (mulL f (mulL a left)) k) := by
      rw [mul_congr (Eqv.refl f) er k, mulL_add_right f ahead (mulL a left) k, co_add]
    have e3 : co (mulL f (mulL a left)) k = co (mulL (mulL a f) left) k := by
      rw [← mulL_assoc f a left k]
      exact mul_congr (mulL_comm f a) (Eqv.refl left) k
    have e4 := h.det k
    rw [co_add] at e4
    rw [co_add, e1, e2, e3, ← e4]
    generalize co (mulL (mulL a f) left) k = u
    generalize co (mulL f ahead) k = x
    generalize co (mulL fa left) k = y
    rw [add_comm x u, ← add_assoc, add_assoc y u u, add_self, add_zero, add_comm]
  · have e1 : pl f' ≤ max (pl fa) (pl a + pl f - 1) := by
      rw [pl_congr hf]
      exact Nat.le_trans (pl_add _ _) (by have := pl_mul a f; omega)
    omega
  · omega
  · exact hr
  · exact hl
/-- There is always more to it than nothing. -/
theorem Euc.notzero {n : Nat} {S ahead left fa f : List UInt8} (h : Euc n S ahead left fa f) (r : UInt8) (hr : r ≠ 0) (h1 : evalL f r = 0) (h2 : evalL left r = 0) : False := by
  have e := eval_congr h.det r
  rw [eval_add, eval_mul, eval_mul, h1, h2, zero_mul, mul_zero, add_zero, xN_eval] at e
  exact pow_ne r hr n e.symm

/-! ### The finder of some places, and what their values are -/
def sigL : List (UInt8 × UInt8) → List UInt8
  | [] => [1]
  | (_, x) :: t => mulL [1, x] (sigL t)
def omL : List (UInt8 × UInt8) → List UInt8
  | [] => []
  | (e, x) :: t => addL (scaleL (mulB e x) (sigL t)) (mulL [1, x] (omL t))
def sumsL (E : List (UInt8 × UInt8)) (n : Nat) : List UInt8 := (List.range n).map fun i => sumV E (i + 1)
theorem co_range (f : Nat → UInt8) (n k : Nat) (h : k < n) : co ((List.range n).map f) k = f k := by
  rw [co_lt _ k (by simpa using h)]
  simp
theorem co_lin (x : UInt8) (p : List UInt8) (k : Nat) : co (mulL [1, x] p) k = addB (co p k) (if k = 0 then 0 else mulB x (co p (k - 1))) := by
  have e : Eqv (mulL [1, x] p) (addL p (0 :: scaleL x p)) := fun j => by
    rw [mulL, co_add, co_add, co_scale, one_mul]
    congr 1
    cases j with
    | zero => rfl
    | succ j =>
      rw [co_succ, co_succ, mulL_comm [x] p j, mulL_one_right x p j]
  rw [e k, co_add]
  cases k with
  | zero => rfl
  | succ k => rw [co_succ, co_scale, if_neg (by omega), Nat.add_sub_cancel]
theorem sig_pl : ∀ E : List (UInt8 × UInt8), pl (sigL E) ≤ E.length + 1
  | [] => by show (plainL [1]).length ≤ 1; decide
  | (e, x) :: t => by
    have h1 := sig_pl t
    have h2 := pl_mul [1, x] (sigL t)
    have h3 := pl_len [1, x]
    simp only [List.length_cons, List.length_nil] at h3 ⊢
    show pl (mulL [1, x] (sigL t)) ≤ _
    omega
theorem om_pl : ∀ E : List (UInt8 × UInt8), pl (omL E) ≤ E.length
  | [] => Nat.le_refl 0
  | (e, x) :: t => by
    have h1 := om_pl t
    have h2 := pl_mul [1, x] (omL t)
    have h3 := pl_len [1, x]
    have h4 := sig_pl t
    have h5 := pl_add (scaleL (mulB e x) (sigL t)) (mulL [1, x] (omL t))
    have h6 : pl (scaleL (mulB e x) (sigL t)) ≤ pl (sigL t) := (pl_le_iff _ _).2 fun k hk => by rw [co_scale, (pl_le_iff _ _).1 (Nat.le_refl _) k hk, mul_zero]
    simp only [List.length_cons, List.length_nil] at h3 ⊢
    show pl (addL (scaleL (mulB e x) (sigL t)) (mulL [1, x] (omL t))) ≤ _
    omega
/-- The finder times the signs is the values' polynomial, below as many powers as there are signs. -/
theorem key_eq (n : Nat) : ∀ E : List (UInt8 × UInt8), Low n (mulL (sigL E) (sumsL E n)) (omL E)
  | [] => fun k hk => by
    rw [sigL, mulL_comm [1] _ k, mulL_one_right 1 _ k, scale_one, omL, co_nil]
    unfold sumsL
    rw [co_range _ _ _ hk]
    rfl
  | (e, x) :: t => by
    have ih := key_eq n t
    -- the sums of one more
    have hs : Low n (sumsL ((e, x) :: t) n) (addL (scaleL e ((List.range n).map fun i => powB x (i + 1))) (sumsL t n)) := fun k hk => by
      unfold sumsL
      rw [co_range _ _ _ hk, co_add, co_scale, co_range _ _ _ hk, co_range _ _ _ hk]
      rfl
    have hg : Low n (mulL [1, x] (scaleL e ((List.range n).map fun i => powB x (i + 1)))) [mulB e x] := fun k hk => by
      rw [co_lin, co_scale, co_range _ _ _ hk]
      cases k with
      | zero =>
        rw [if_pos rfl, add_zero, co_zero]
        show mulB e (mulB 1 x) = _
        rw [one_mul]
      | succ k =>
        rw [if_neg (by omega), Nat.add_sub_cancel, co_scale, co_range _ _ _ (by omega), co_succ, co_nil]
        have e1 : mulB x (mulB e (powB x (k + 1))) = mulB e (powB x (k + 1 + 1)) := by
          rw [pow_succ' x (k + 1), ← mul_assoc, mul_comm x e, mul_assoc, mul_comm x]
        rw [e1, add_self]
    show Low n (mulL (mulL [1, x] (sigL t)) _) (addL (scaleL (mulB e x) (sigL t)) (mulL [1, x] (omL t)))
    refine Low.trans ((hs.mul _)) (Low.trans ((mulL_add_right _ _ _).low n) (Low.add ?_ ?_))
    · -- [1, x] * sigma * G
      refine Low.trans ((mul_congr (mulL_comm [1, x] (sigL t)) (Eqv.refl _)).low n) (Low.trans ((mulL_assoc _ _ _).low n) (Low.trans (hg.mul _) ?_))
      exact (mulL_one_right (mulB e x) (sigL t)).low n
    · exact Low.trans ((mulL_assoc _ _ _).low n) (ih.mul _)
/-- At a power whose inverse is no place the finder isn't 0; at a place it is, and the values' polynomial is as often its slope as the value there. -/
theorem sig_ne (r : UInt8) : ∀ E : List (UInt8 × UInt8), (∀ p ∈ E, mulB p.2 r ≠ 1) → evalL (sigL E) r ≠ 0
  | [], _ => by
    show addB 1 (mulB r 0) ≠ 0
    rw [mul_zero, add_zero]
    decide
  | (e, x) :: t, h => by
    show evalL (mulL [1, x] (sigL t)) r ≠ 0
    rw [eval_mul]
    refine mul_ne _ _ ?_ (sig_ne r t (fun p hp => h p (List.mem_cons_of_mem _ hp)))
    intro e0
    simp only [evalL, mul_zero, add_zero] at e0
    exact h (e, x) List.mem_cons_self (by rw [mul_comm, ← add_zero_eq e0])
theorem lin_eval (x r : UInt8) : evalL [1, x] r = addB 1 (mulB r x) := by simp only [evalL, mul_zero, add_zero]
theorem lin_slope (x r : UInt8) : evalL (slopeL [1, x]) r = x := by
  have e : Eqv (slopeL [1, x]) [x] := fun k => by
    rw [co_slope]
    cases k with
    | zero => rfl
    | succ k =>
      rw [co_succ, co_succ, co_nil]
      split <;> rfl
  rw [eval_congr e]
  simp only [evalL, mul_zero, add_zero]
theorem at_place (Y X r : UInt8) (hX : X ≠ 0) (hr : mulB X r = 1) : ∀ E : List (UInt8 × UInt8), (E.map Prod.snd).Nodup → (Y, X) ∈ E →
    evalL (sigL E) r = 0 ∧ evalL (omL E) r = mulB Y (evalL (slopeL (sigL E)) r) ∧ evalL (slopeL (sigL E)) r ≠ 0
  | [], _, h => by cases h
  | (e, x) :: t, hd, hm => by
    rw [List.map_cons, List.nodup_cons] at hd
    have hsl : evalL (slopeL (sigL ((e, x) :: t))) r = addB (mulB x (evalL (sigL t) r)) (mulB (addB 1 (mulB r x)) (evalL (slopeL (sigL t)) r)) := by
      show evalL (slopeL (mulL [1, x] (sigL t))) r = _
      rw [eval_congr (slope_mul [1, x] (sigL t)) r, eval_add, eval_mul, eval_mul, lin_slope, lin_eval]
    have hom : evalL (omL ((e, x) :: t)) r = addB (mulB (mulB e x) (evalL (sigL t) r)) (mulB (addB 1 (mulB r x)) (evalL (omL t) r)) := by
      show evalL (addL (scaleL (mulB e x) (sigL t)) (mulL [1, x] (omL t))) r = _
      rw [eval_add, eval_scale, eval_mul, lin_eval]
    have hsg : evalL (sigL ((e, x) :: t)) r = mulB (addB 1 (mulB r x)) (evalL (sigL t) r) := by
      show evalL (mulL [1, x] (sigL t)) r = _
      rw [eval_mul, lin_eval]
    rcases List.mem_cons.1 hm with h | h
    · obtain ⟨rfl, rfl⟩ : Y = e ∧ X = x := by simpa using h
      have e0 : addB 1 (mulB r X) = 0 := by rw [mul_comm r X, hr, add_self]
      have hne : evalL (sigL t) r ≠ 0 := sig_ne r t (fun p hp e1 => hd.1 (List.mem_map.2 ⟨p, hp, by
        have : mulB r p.2 = mulB r X := by rw [mul_comm r, mul_comm r, e1, hr]
        refine mul_cancel r _ _ (fun h0 => ?_) this
        rw [h0, mul_zero] at hr
        exact absurd hr (by decide)⟩))
      rw [hsl, hom, hsg, e0, zero_mul, zero_mul, zero_mul, add_zero, add_zero]
      exact ⟨rfl, mul_assoc _ _ _, mul_ne _ _ hX hne⟩
    · obtain ⟨h1, h2, h3⟩ := at_place Y X r hX hr t hd.2 h
      have hne : addB 1 (mulB r x) ≠ 0 := fun e0 => by
        have e1 := add_zero_eq e0
        have : mulB r x = mulB r X := by rw [← e1, mul_comm r X, hr]
        have ex : x = X := mul_cancel r _ _ (fun h0 => by rw [h0, mul_zero] at hr; exact absurd hr (by decide)) this
        exact hd.1 (List.mem_map.2 ⟨(Y, X), h, ex.symm⟩)
      rw [hsl, hom, hsg, h1, h2, mul_zero, mul_zero, mul_zero, zero_add, zero_add]
      refine ⟨rfl, ?_, mul_ne _ _ hne h3⟩
      rw [← mul_assoc, ← mul_assoc, mul_comm Y]

/-! ### What a place is amiss by -/
/-- 2 to the power of so many less than nothing. -/
def rootB (p : Nat) : UInt8 := invB (powB 2 p)
theorem root_mul (p : Nat) : mulB (powB 2 p) (rootB p) = 1 := mul_inv _ (exp_ne p)
theorem root_ne (p : Nat) : rootB p ≠ 0 := inv_ne _ (exp_ne p)
theorem root_inj {i j : Nat} (hi : i < 255) (hj : j < 255) (h : rootB i = rootB j) : i = j := by
  refine powB_inj hi hj ?_
  refine mul_cancel (rootB i) _ _ (root_ne i) ?_
  rw [mul_comm, root_mul, h, mul_comm, root_mul]
def amB (f left : List UInt8) (p : Nat) : UInt8 :=
  if evalL f (rootB p) = 0 then (if evalL (slopeL f) (rootB p) = 0 then 0 else mulB (evalL left (rootB p)) (invB (evalL (slopeL f) (rootB p)))) else 0
/-- The bytes' own, the first one that of the greatest power. -/
def amL (f left : List UInt8) (len : Nat) : List UInt8 := (List.range len).map fun k => amB f left (len - 1 - k)
theorem am_length (f left : List UInt8) (len : Nat) : (amL f left len).length = len := by simp [amL]
theorem co_am (f left : List UInt8) (len k : Nat) (h : k < len) : co (amL f left len) k = amB f left (len - 1 - k) := co_range _ _ _ h
theorem wt_range (g : Nat → UInt8) (n : Nat) : wtL ((List.range n).map g) = ((List.range n).filter fun k => g k != 0).length := by
  unfold wtL
  rw [List.filter_map, List.length_map]
  rfl
theorem am_few (f left : List UInt8) (len d : Nat) (hl : len ≤ 255) (hf : pl f ≤ d + 1) : wtL (amL f left len) ≤ d := by
  refine Nat.le_of_not_lt fun h => ?_
  unfold amL at h
  rw [wt_range] at h
  have hz : ∀ k ∈ ((List.range len).filter fun k => amB f left (len - 1 - k) != 0).map (fun k => rootB (len - 1 - k)), evalL f k = 0 := fun x hx => by
    obtain ⟨k, hk, rfl⟩ := List.mem_map.1 hx
    have := (List.mem_filter.1 hk).2
    unfold amB at this
    by_cases h0 : evalL f (rootB (len - 1 - k)) = 0
    · exact h0
    · rw [if_neg h0] at this
      simp at this
  have hnd : (((List.range len).filter fun k => amB f left (len - 1 - k) != 0).map (fun k => rootB (len - 1 - k))).Nodup := by
    refine nodup_map_on (List.filter_sublist.nodup List.nodup_range) (fun x hx y hy e => ?_)
    have h1 := List.mem_range.1 (List.mem_filter.1 hx).1
    have h2 := List.mem_range.1 (List.mem_filter.1 hy).1
    have := root_inj (by omega) (by omega) e
    omega
  have e := roots_zero _ f hnd (by rw [List.length_map]; omega) hz
  have e2 : ∀ x, evalL (slopeL f) x = 0 := fun x => by
    rw [eval_congr (slope_congr e) x]
    rfl
  have e3 : ((List.range len).filter fun k => amB f left (len - 1 - k) != 0) = [] := List.filter_eq_nil_iff.2 fun k _ => by
    unfold amB
    rw [e2, if_pos rfl]
    split <;> simp
  rw [e3] at h
  simp at h

/-! ### Just what was spoilt -/
theorem co_val_pairs : ∀ (e : List UInt8) (k : Nat), k < e.length → (co e k, powB 2 (e.length - 1 - k)) ∈ pairsL e
  | [], k, h => by simp at h
  | c :: e, 0, _ => by
    rw [pairsL, co_zero, List.length_cons, Nat.sub_zero, Nat.add_sub_cancel]
    exact List.mem_cons_self
  | c :: e, k + 1, h => by
    have h' : k < e.length := by simpa using h
    rw [pairsL, co_succ, List.length_cons, show e.length + 1 - 1 - (k + 1) = e.length - 1 - k by omega]
    exact List.mem_cons_of_mem _ (co_val_pairs e k h')
theorem pairs_at : ∀ (e : List UInt8) (p : UInt8 × UInt8), p ∈ pairsL e → ∃ k, k < e.length ∧ p = (co e k, powB 2 (e.length - 1 - k))
  | [], p, h => by cases h
  | c :: e, p, h => by
    rw [pairsL] at h
    rcases List.mem_cons.1 h with rfl | h
    · exact ⟨0, by simp, by rw [co_zero, List.length_cons, Nat.sub_zero, Nat.add_sub_cancel]⟩
    · obtain ⟨k, hk, rfl⟩ := pairs_at e p h
      exact ⟨k + 1, by simpa using hk, by rw [co_succ, List.length_cons, show e.length + 1 - 1 - (k + 1) = e.length - 1 - k by omega]⟩
def errE (e : List UInt8) : List (UInt8 × UInt8) := (pairsL e).filter fun p => p.1 != 0
theorem signs_err (b a : List UInt8) (n : Nat) (hl : a.length = b.length) (hf : fineP a n) : signsL b n = sumsL (errE (List.zipWith addB b a)) n := by
  unfold signsL sumsL errE
  refine List.map_congr_left fun i hi => ?_
  have hi' := List.mem_range.1 hi
  rw [sumV_filter, ← val_pairs, val_xor _ _ _ hl.symm, hf (i + 1) (by omega) (by omega), add_zero]
/-- What is found is just what was spoilt. -/
theorem am_right {b a : List UInt8} {n : Nat} (h255 : b.length ≤ 255) (hn : Near b n a) {ahead left fa f : List UInt8} (h : Euc n (signsL b n) ahead left fa f) (hd : pl left ≤ n - n / 2) : amL f left b.length = List.zipWith addB b a := by
  obtain ⟨hl, hfine, hdif⟩ := hn
  have hel : (List.zipWith addB b a).length = b.length := by rw [List.length_zipWith]; omega
  have hS := signs_err b a n hl hfine
  have hw : (errE (List.zipWith addB b a)).length ≤ n / 2 := by
    have := pairs_wt (List.zipWith addB b a)
    unfold errE
    rw [this]
    exact hdif
  have hnd : ((errE (List.zipWith addB b a)).map Prod.snd).Nodup := (List.filter_sublist.map Prod.snd).nodup (locs_nodup _ (by omega))
  generalize hee : List.zipWith addB b a = e at hel hS hw hnd
  have hf := h.deg
  have hb := h.big
  have hE1 := sig_pl (errE e)
  have hE2 := om_pl (errE e)
  -- the two are alike, one against the other
  have cross : Eqv (mulL (sigL (errE e)) left) (mulL f (omL (errE e))) := fun k => by
    by_cases hk : k < n
    · have h1 : Low n (mulL (sigL (errE e)) left) (mulL (sigL (errE e)) (mulL f (signsL b n))) := (h.key.symm).mul _
      have h2 : Low n (mulL f (mulL (sigL (errE e)) (signsL b n))) (mulL f (omL (errE e))) := by rw [hS]; exact (key_eq n (errE e)).mul f
      rw [h1 k hk, ← h2 k hk, ← mulL_assoc _ _ _ k, ← mulL_assoc _ _ _ k]
      exact mul_congr (mulL_comm _ _) (Eqv.refl _) k
    · have h1 := pl_mul (sigL (errE e)) left
      have h2 := pl_mul f (omL (errE e))
      rw [(pl_le_iff _ (pl (mulL (sigL (errE e)) left))).1 (Nat.le_refl _) k (by omega), (pl_le_iff _ (pl (mulL f (omL (errE e))))).1 (Nat.le_refl _) k (by omega)]
  have ev : ∀ r, mulB (evalL (sigL (errE e)) r) (evalL left r) = mulB (evalL f r) (evalL (omL (errE e)) r) := fun r => by
    rw [← eval_mul, ← eval_mul]
    exact eval_congr cross r
  have es : ∀ r, addB (mulB (evalL (slopeL (sigL (errE e))) r) (evalL left r)) (mulB (evalL (sigL (errE e)) r) (evalL (slopeL left) r)) = addB (mulB (evalL (slopeL f) r) (evalL (omL (errE e)) r)) (mulB (evalL f r) (evalL (slopeL (omL (errE e))) r)) := fun r => by
    rw [← eval_mul, ← eval_mul, ← eval_mul, ← eval_mul, ← eval_add, ← eval_add, ← eval_congr (slope_mul _ _) r, ← eval_congr (slope_mul _ _) r]
    exact eval_congr (slope_congr cross) r
  refine co_ext (by rw [am_length, hel]) (fun k hk => ?_)
  rw [am_length] at hk
  rw [co_am _ _ _ _ hk]
  have hke : k < e.length := by omega
  obtain ⟨p, hp⟩ : ∃ p, p = b.length - 1 - k := ⟨_, rfl⟩
  rw [← hp]
  have hr := root_ne p
  have hm := root_mul p
  by_cases hc : co e k = 0
  · rw [hc]
    have hsig : evalL (sigL (errE e)) (rootB p) ≠ 0 := by
      refine sig_ne _ _ (fun q hq e1 => ?_)
      obtain ⟨hq1, hq2⟩ := List.mem_filter.1 hq
      obtain ⟨j, hj, rfl⟩ := pairs_at e q hq1
      have e2 : powB 2 (e.length - 1 - j) = powB 2 p := mul_cancel (rootB p) _ _ hr (by rw [mul_comm, e1, mul_comm, hm])
      have := powB_inj (by omega) (by omega) e2
      have ej : j = k := by omega
      rw [ej] at hq2
      simp [hc] at hq2
    unfold amB
    by_cases h0 : evalL f (rootB p) = 0
    · have := ev (rootB p)
      rw [h0, zero_mul] at this
      rcases (mul_eq_zero _ _).1 this with g | g
      · exact absurd g hsig
      · exact absurd (h.notzero _ hr h0 g) id
    · rw [if_neg h0]
  · have hmem : (co e k, powB 2 p) ∈ errE e := by
      refine List.mem_filter.2 ⟨?_, by simpa using hc⟩
      have := co_val_pairs e k hke
      rwa [show e.length - 1 - k = p by omega] at this
    obtain ⟨s1, s2, s3⟩ := at_place _ _ _ (exp_ne p) hm (errE e) hnd hmem
    have hv := ev (rootB p)
    rw [s1, zero_mul, s2] at hv
    have hf0 : evalL f (rootB p) = 0 := by
      rcases (mul_eq_zero _ _).1 hv.symm with g | g
      · exact g
      · exact absurd g (mul_ne _ _ hc s3)
    have hs := es (rootB p)
    rw [s1, hf0, zero_mul, zero_mul, add_zero, add_zero, s2] at hs
    have hleft : evalL left (rootB p) = mulB (co e k) (evalL (slopeL f) (rootB p)) := by
      refine mul_cancel (evalL (slopeL (sigL (errE e))) (rootB p)) _ _ s3 ?_
      rw [hs, ← mul_assoc, mul_comm (evalL (slopeL f) (rootB p)) (co e k), mul_comm (evalL (slopeL (sigL (errE e))) (rootB p)) (mulB _ _)]
    have hsf : evalL (slopeL f) (rootB p) ≠ 0 := fun h0 => h.notzero _ hr hf0 (by rw [hleft, h0, mul_zero])
    unfold amB
    rw [if_pos hf0, if_neg hsf, hleft, mul_assoc, mul_inv _ hsf, mul_one]
/-- What any finder on the way mends. -/
theorem mended_right {b : List UInt8} {n : Nat} (h255 : b.length ≤ 255) {ahead left fa f : List UInt8} (h : Euc n (signsL b n) ahead left fa f) (hd : pl left ≤ n - n / 2) :
    ∃ m, m = List.zipWith addB b (amL f left b.length) ∧ m.length = b.length ∧ difL b m = wtL (amL f left b.length) ∧ (fineP m n → Near b n m) ∧ (∀ a, Near b n a → a = m) := by
  have hal := am_length f left b.length
  have hx : ∀ (x y : List UInt8), x.length = y.length → List.zipWith addB x (List.zipWith addB x y) = y := by
    intro x
    induction x with
    | nil =>
      intro y hy
      have : y = [] := List.eq_nil_of_length_eq_zero (by simpa using hy.symm)
      rw [this]
      rfl
    | cons c x ih =>
      intro y hy
      match y, hy with
      | d :: y, hy =>
        rw [List.zipWith_cons_cons, List.zipWith_cons_cons, ih y (by simpa using hy), ← add_assoc, add_self, zero_add]
  have hdif : difL b (List.zipWith addB b (amL f left b.length)) = wtL (amL f left b.length) := by
    unfold difL
    rw [hx _ _ hal.symm]
  have hlen : (List.zipWith addB b (amL f left b.length)).length = b.length := by rw [List.length_zipWith, hal]; omega
  have hf := h.deg
  have hb := h.big
  refine ⟨_, rfl, hlen, hdif, fun hfine => ⟨hlen, hfine, ?_⟩, fun a ha => ?_⟩
  · rw [hdif]
    exact am_few f left b.length (n / 2) h255 (by omega)
  · rw [am_right h255 ha h hd, hx b a ha.1.symm]

/-! ### The answer -/
open Classical in
noncomputable def mendS (b : List UInt8) (n : Int) : List UInt8 × Nat × Int :=
  if errS b.length n = 0 then (if h : ∃ a, Near b n.toNat a then (h.choose, difL b h.choose, 0) else ([], 0, 6)) else ([], 0, errS b.length n)
theorem mendS_bad {b : List UInt8} {n : Int} (h : errS b.length n ≠ 0) : mendS b n = ([], 0, errS b.length n) := by
  unfold mendS
  rw [if_neg h]
theorem mendS_near {b a : List UInt8} {n : Nat} (h : errS b.length n = 0) (hl : b.length ≤ 255) (ha : Near b n a) : mendS b n = (a, difL b a, 0) := by
  unfold mendS
  have he : ∃ a, Near b ((n : Int)).toNat a := ⟨a, by rw [Int.toNat_natCast]; exact ha⟩
  rw [if_pos h, dif_pos he]
  have hc : Near b n he.choose := he.choose_spec
  rw [near_unique hl hc ha]
theorem mendS_many {b : List UInt8} {n : Nat} (h : errS b.length n = 0) (ha : ∀ a, ¬ Near b n a) : mendS b n = ([], 0, 6) := by
  unfold mendS
  rw [if_pos h, dif_neg (fun ⟨a, h2⟩ => ha a (by rw [Int.toNat_natCast] at h2; exact h2))]
theorem wt_take (l : List UInt8) (j : Nat) (h : j < l.length) : wtL (l.take (j + 1)) = wtL (l.take j) + (if co l j = 0 then 0 else 1) := by
  have e : l.take (j + 1) = l.take j ++ [co l j] := by
    rw [co_lt l j h, List.take_append_getElem h]
  rw [e, wt_append]
  congr 1
  rw [wt_cons]
  show _ + 0 = _
  rw [Nat.add_zero]
end Go.Proofs.Ytankddeolpickaa
