/-
  Layer 10 as plain mathematics: what bytes are mended to is told by Euclid's way to a finder, and Forney's values at its roots. No conditions but those typed.
-/
import Derived.Test.YteppocjgodmpdaaGreatDoorQ3
import Derived.Laws.Concat
import Derived.Laws.Strings
import Derived.Test.YteppocjgodmpdaaGreatDoorChecked
import Derived.Deep.DeepCutAuto
import Derived.Maps.AppendAt
import Derived.Lib.AppendZeros
namespace Go.Proofs.YteppocjgodmpdaaGreatDoor
set_option maxRecDepth 100000
set_option linter.unusedVariables false
set_option linter.unusedSimpArgs false

/-! ### Mended -/
/-- These are fine, and near enough. -/
def Near (b : List UInt8) (n : Nat) (a : List UInt8) : Prop := a.length = b.length ∧ fineP a n ∧ difL b a ≤ n / 2
theorem dif_comm (a b : List UInt8) : difL a b = difL b a := by
  unfold difL
  rw [List.zipWith_comm]
  congr 1
  congr 1
  funext x y
  exact add_comm _ _
theorem dif_tri : ∀ a b c : List UInt8, a.length = b.length → b.length = c.length → difL a c ≤ difL a b + difL b c
  | [], [], [], _, _ => by simp [difL, wtL]
  | [], _ :: _, _, h, _ => by simp at h
  | [], [], _ :: _, _, h => by simp at h
  | _ :: _, [], _, h, _ => by simp at h
  | _ :: _, _ :: _, [], _, h => by simp at h
  | x :: a, y :: b, z :: c, h, g => by
    have ih := dif_tri a b c (by simpa using h) (by simpa using g)
    rw [dif_cons, dif_cons, dif_cons]
    by_cases h1 : addB x y = 0
    · by_cases h2 : addB y z = 0
      · have e1 := add_zero_eq h1
        have e2 := add_zero_eq h2
        rw [if_pos (by rw [e1, e2, add_self])]
        omega
      · rw [if_pos h1, if_neg h2]
        split <;> omega
    · rw [if_neg h1]
      split <;> split <;> omega
theorem dif_zero {a b : List UInt8} (hl : a.length = b.length) (h : difL a b = 0) : a = b := by
  refine zip_zero a b hl (fun c hc => ?_)
  unfold difL wtL at h
  have := List.eq_nil_of_length_eq_zero h
  rw [List.filter_eq_nil_iff] at this
  simpa using this c hc
theorem near_unique {b a c : List UInt8} {n : Nat} (hl : b.length ≤ 255) (h : Near b n a) (g : Near b n c) : a = c := by
  obtain ⟨h1, h2, h3⟩ := h
  obtain ⟨g1, g2, g3⟩ := g
  refine fine_unique a c n (by omega) (by omega) h2 g2 ?_
  have := dif_tri a b c h1 (by omega)
  rw [dif_comm a b] at this
  omega
theorem near_self {b : List UInt8} {n : Nat} (h : fineP b n) : Near b n b := ⟨rfl, h, by rw [dif_self]; omega⟩

/-! ### Products, so far as some power -/
/-- Alike below a power. -/
def Low (n : Nat) (p q : List UInt8) : Prop := ∀ k, k < n → co p k = co q k
theorem Low.trans {n : Nat} {p q r : List UInt8} (h : Low n p q) (g : Low n q r) : Low n p r := fun k hk => (h k hk).trans (g k hk)
theorem Low.symm {n : Nat} {p q : List UInt8} (h : Low n p q) : Low n q p := fun k hk => (h k hk).symm
theorem Eqv.low {p q : List UInt8} (h : Eqv p q) (n : Nat) : Low n p q := fun k _ => h k
theorem Low.add {n : Nat} {p q p' q' : List UInt8} (h : Low n p p') (g : Low n q q') : Low n (addL p q) (addL p' q') := fun k hk => by rw [co_add, co_add, h k hk, g k hk]
theorem Low.cons {n : Nat} (a : UInt8) {p q : List UInt8} (h : Low n p q) : Low n (a :: p) (a :: q) := fun k hk => by
  cases k with
  | zero => rfl
  | succ k => rw [co_succ, co_succ, h k (by omega)]
theorem Low.scale {n : Nat} (a : UInt8) {p q : List UInt8} (h : Low n p q) : Low n (scaleL a p) (scaleL a q) := fun k hk => by rw [co_scale, co_scale, h k hk]
theorem Low.mul {n : Nat} {q q' : List UInt8} (h : Low n q q') : ∀ p : List UInt8, Low n (mulL p q) (mulL p q')
  | [] => fun _ _ => rfl
  | a :: p => (h.scale a).add ((h.mul p).cons 0)
/-- How many coefficients. -/
def pl (p : List UInt8) : Nat := (plainL p).length
theorem pl_le_iff (p : List UInt8) (n : Nat) : pl p ≤ n ↔ ∀ k, n ≤ k → co p k = 0 := plain_le_iff p n
theorem pl_congr {p q : List UInt8} (h : Eqv p q) : pl p = pl q := by unfold pl; rw [plain_congr h]
theorem pl_len (p : List UInt8) : pl p ≤ p.length := plain_len p
theorem pl_zero {p : List UInt8} (h : pl p = 0) : Eqv p [] := fun k => by rw [co_nil]; exact (pl_le_iff p 0).1 (by omega) k (Nat.zero_le _)
theorem pl_add (p q : List UInt8) : pl (addL p q) ≤ max (pl p) (pl q) := plain_add_len p q
theorem pl_mul (p q : List UInt8) : pl (mulL p q) ≤ pl p + pl q - 1 := by
  by_cases hp : plainL p = []
  · have : Eqv (mulL p q) [] := (mul_congr (pl_zero (p := p) (by unfold pl; rw [hp]; rfl)) (Eqv.refl q)).trans (Eqv.refl _)
    rw [pl_congr this]
    exact Nat.zero_le _
  · by_cases hq : plainL q = []
    · have : Eqv (mulL p q) [] := (mul_congr (Eqv.refl p) (pl_zero (p := q) (by unfold pl; rw [hq]; rfl))).trans (mulL_nil p)
      rw [pl_congr this]
      exact Nat.zero_le _
    · exact Nat.le_of_eq (mul_plain_len p q hp hq)
theorem pl_mul_eq (p q : List UInt8) (hp : 0 < pl p) (hq : 0 < pl q) : pl (mulL p q) = pl p + pl q - 1 := mul_plain_len p q (List.length_pos_iff.1 hp) (List.length_pos_iff.1 hq)

/-! ### Roots -/
/-- Divided by 'r + x'. -/
def synL (r : UInt8) : List UInt8 → List UInt8
  | [] => []
  | [_] => []
  | _ :: d :: p => evalL (d :: p) r :: synL r (d :: p)
theorem syn_is (r : UInt8) : ∀ p : List UInt8, p ≠ [] → (synL r p).length + 1 = p.length ∧ ∀ x, evalL p x = addB (mulB (addB r x) (evalL (synL r p) x)) (evalL p r)
  | [], h => absurd rfl h
  | [c], _ => ⟨rfl, fun x => by simp only [synL, evalL, mul_zero, add_zero, zero_add]⟩
  | c :: d :: p, _ => by
    obtain ⟨h1, h2⟩ := syn_is r (d :: p) (by simp)
    refine ⟨by simp only [synL, List.length_cons] at h1 ⊢; omega, fun x => ?_⟩
    have e := h2 x
    have hs : synL r (c :: d :: p) = evalL (d :: p) r :: synL r (d :: p) := rfl
    rw [hs]
    generalize synL r (d :: p) = q at e
    generalize d :: p = dp at e
    rw [evalL, evalL, evalL, e]
    generalize evalL dp r = v
    generalize evalL q x = y
    simp only [mul_add_right, mul_add_left]
    have e1 : mulB x (mulB r y) = mulB r (mulB x y) := by rw [← mul_assoc, mul_comm x r, mul_assoc]
    rw [e1]
    generalize mulB r (mulB x y) = A
    generalize mulB x (mulB x y) = B
    generalize mulB x v = C
    generalize mulB r v = D
    unfold addB
    have h : C ^^^ (D ^^^ (A ^^^ (B ^^^ (c ^^^ D)))) = c ^^^ (A ^^^ (B ^^^ C)) ^^^ (D ^^^ D) := by ac_rfl
    rw [UInt8.xor_self, UInt8.xor_zero] at h
    calc c ^^^ (A ^^^ B ^^^ C) = c ^^^ (A ^^^ (B ^^^ C)) := by ac_rfl
      _ = C ^^^ (D ^^^ (A ^^^ (B ^^^ (c ^^^ D)))) := h.symm
      _ = _ := by ac_rfl
theorem eval_all_zero : ∀ (R : List UInt8) (p : List UInt8), R.Nodup → p.length ≤ R.length → (∀ r ∈ R, evalL p r = 0) → ∀ x, evalL p x = 0
  | _, [], _, _, _, x => rfl
  | [], c :: p, _, h, _, _ => by simp at h
  | r :: R, c :: p, hd, hl, h, x => by
    obtain ⟨h1, h2⟩ := syn_is r (c :: p) (by simp)
    have hr := h r List.mem_cons_self
    rw [List.nodup_cons] at hd
    have hq : ∀ s ∈ R, evalL (synL r (c :: p)) s = 0 := fun s hs => by
      have e := h2 s
      rw [hr, add_zero, h s (List.mem_cons_of_mem _ hs)] at e
      rcases (mul_eq_zero _ _).1 e.symm with g | g
      · exact absurd (add_zero_eq g ▸ hs) hd.1
      · exact g
    rw [h2 x, hr, add_zero, eval_all_zero R _ hd.2 (by simp only [List.length_cons] at hl h1; omega) hq x, mul_zero]
theorem eqv_all_zero : ∀ (R : List UInt8) (p : List UInt8), R.Nodup → p.length ≤ R.length → (∀ r ∈ R, evalL p r = 0) → ∀ k, co p k = 0
  | _, [], _, _, _, k => co_nil k
  | [], c :: p, _, h, _, _ => by simp at h
  | r :: R, c :: p, hd, hl, h, k => by
    have hr := h r List.mem_cons_self
    have hd' := List.nodup_cons.1 hd
    obtain ⟨h1, h2⟩ := syn_is r (c :: p) (by simp)
    have hq : ∀ s ∈ R, evalL (synL r (c :: p)) s = 0 := fun s hs => by
      have e := h2 s
      rw [hr, add_zero, h s (List.mem_cons_of_mem _ hs)] at e
      rcases (mul_eq_zero _ _).1 e.symm with g | g
      · exact absurd (add_zero_eq g ▸ hs) hd'.1
      · exact g
    have hs := eqv_all_zero R _ hd'.2 (by simp only [List.length_cons] at hl h1; omega) hq
    -- the coefficients of what is divided are told by those of the quotient
    have key : ∀ (p : List UInt8), evalL p r = 0 → (∀ j, co (synL r p) j = 0) → ∀ j, co p j = 0 := by
      intro p
      induction p with
      | nil => intro _ _ j; exact co_nil j
      | cons a p ih =>
        intro he hz j
        match p, ih, he, hz with
        | [], _, he, _ =>
          rw [evalL, evalL, mul_zero, add_zero] at he
          rw [he]
          rw [zero_cons j, co_nil]
        | d :: p, ih, he, hz =>
          have h0 : evalL (d :: p) r = 0 := hz 0
          have hz' : ∀ j, co (synL r (d :: p)) j = 0 := fun j => by
            have := hz (j + 1)
            rwa [synL, co_succ] at this
          rw [evalL, h0, mul_zero, add_zero] at he
          cases j with
          | zero => rw [co_zero]; exact he
          | succ j => rw [co_succ]; exact ih h0 hz' j
    exact key _ hr hs k
/-- No more roots than coefficients but one, or it is nothing. -/
theorem roots_zero (R : List UInt8) (p : List UInt8) (hd : R.Nodup) (hl : pl p ≤ R.length) (h : ∀ r ∈ R, evalL p r = 0) : Eqv p [] := fun k => by
  rw [← plain_eqv p k, co_nil]
  exact eqv_all_zero R (plainL p) hd hl (fun r hr => by rw [eval_congr (plain_eqv p) r]; exact h r hr) k

/-! ### Euclid's way -/
def xN (n : Nat) : List UInt8 := List.replicate n 0 ++ [1]
theorem xN_eval (n : Nat) (r : UInt8) : evalL (xN n) r = powB r n := by
  unfold xN
  rw [eval_snoc, eval_zeros, zero_add, one_mul, List.length_replicate]
theorem xN_low (n : Nat) : Low n (xN n) [] := fun k hk => by
  unfold xN co
  rw [List.getD_eq_getElem?_getD, List.getElem?_append_left (by simpa using hk), List.getElem?_replicate, if_pos hk]
  rfl
theorem xN_length (n : Nat) : (xN n).length = n + 1 := by simp [xN]
theorem xN_pl (n : Nat) : pl (xN n) = n + 1 := by
  unfold pl
  rw [plain_of_top (xN n) (.inr ?_), xN_length]
  rw [xN_length, Nat.add_sub_cancel]
  unfold xN co
  rw [List.getD_eq_getElem?_getD, List.getElem?_append_right (by simp), List.length_replicate, Nat.sub_self]
  decide
/-- What is kept on the way. -/
structure Euc (n : Nat) (S ahead left fa f : List UInt8) : Prop where
  key : Low n (mulL f S) left
  keyA : Low n (mulL fa S) ahead
  det : Eqv (addL (mulL f ahead) (mulL fa left)) (xN n)
  deg : pl f + pl ahead ≤ n + 2
  degA : pl fa + pl ahead ≤ n + 2
  less : pl left < pl ahead
  big : n - n / 2 < pl ahead
theorem euc_start (n : Nat) (S : List UInt8) (hS : S.length = n) : Euc n S (xN n) S [] [1] where
  key := fun k _ => by rw [mulL_comm [1] S k, mulL_one_right 1 S k, scale_one]
  keyA := fun k hk => by rw [xN_low n k hk]; rfl
  det := fun k => by
    rw [co_add, mulL_comm [1] _ k, mulL_one_right 1 _ k, scale_one]
    show addB _ (co [] k) = _
    rw [co_nil, add_zero]
  deg := by rw [xN_pl]; exact Nat.le_of_eq (by show (plainL [1]).length + _ = _; rw [show plainL [1] = [1] by decide]; simp; omega)
  degA := by rw [xN_pl]; show (plainL []).length + _ ≤ _; rw [show plainL [] = [] by rfl]; simp
  less := by rw [xN_pl]; have := pl_len S; omega
  big := by rw [xN_pl]; omega
theorem Euc.step {n : Nat} {S ahead left fa f a r f' : List UInt8} (h : Euc n S ahead left fa f) (hq : IsQuo ahead left a r) (hl : n - n / 2 < pl left) (hf : Eqv f' (addL fa (mulL a f))) : Euc n S left r f f' := by
  have hr : pl r < pl left := hq.2
  have h1 := h.less
  have h2 := h.deg
  have h3 := h.degA
  -- what is left is what is ahead, and so often what was left
  have er : Eqv r (addL ahead (mulL a left)) := fun k => by
    have := hq.1 k
    rw [co_add] at this
    rw [co_add, ← this, add_comm (co (mulL a left) k), add_assoc, add_self, add_zero]
  have ea : pl a + pl left ≤ pl ahead + 1 := by
    by_cases h0 : pl a = 0
    · omega
    · have e1 : pl (mulL a left) = pl a + pl left - 1 := pl_mul_eq a left (by omega) (by omega)
      have e2 : Eqv (mulL a left) (addL ahead r) := fun k => by
        have := hq.1 k
        rw [co_add] at this
        rw [co_add, ← this, add_assoc, add_self, add_zero]
      have e3 := pl_add ahead r
      rw [pl_congr e2] at e1
      omega
  constructor
  · refine Low.trans ((mul_congr hf (Eqv.refl S)).low n) (Low.trans ((mulL_add_left fa (mulL a f) S).low n) (Low.trans ?_ (er.symm.low n)))
    refine h.keyA.add (Low.trans ((mulL_assoc a f S).low n) (h.key.mul a))
  · exact h.key
  · -- the determinant
    intro k
    have e1 : co (mulL f' left) k = addB (co (mulL fa left) k) (co (mulL (mulL a f) left) k) := by
      rw [mul_congr hf (Eqv.refl left) k, mulL_add_left fa (mulL a f) left k, co_add]
    have e2 : co (mulL f r) k = addB (co (mulL f ahead) k) (co (mulL f (mulL a left)) k) := by
      rw [mul_congr (Eqv.refl f) er k, mulL_add_right f ahead (mulL a left) k, co_add]
    have e3 : co (mulL f (mulL a left)) k = co (mulL (mulL a f) left) k := by
      rw [← mulL_assoc f a left k]
      exact mul_congr (mulL_comm f a) (Eqv.refl left) k
    have e4 := h.det k
    rw [co_add] at e4
    rw [co_add, e1, e2, e3, ← e4]
    generalize co (mulL (mulL a f) left) k = u
    generalize co (mulL f ahead) k = x
    generalize co (mulL fa left) k = y
    rw [add_comm x u, ← add_assoc, add_assoc y u u, add_self, add_zero, add_comm]
  · have e1 : pl f' ≤ max (pl fa) (pl a + pl f - 1) := by
      rw [pl_congr hf]
      exact Nat.le_trans (pl_add _ _) (by have := pl_mul a f; omega)
    omega
  · omega
  · exact hr
  · exact hl
/-- There is always more to it than nothing. -/
theorem Euc.notzero {n : Nat} {S ahead left fa f : List UInt8} (h : Euc n S ahead left fa f) (r : UInt8) (hr : r ≠ 0) (h1 : evalL f r = 0) (h2 : evalL left r = 0) : False := by
  have e := eval_congr h.det r
  rw [eval_add, eval_mul, eval_mul, h1, h2, zero_mul, mul_zero, add_zero, xN_eval] at e
  exact pow_ne r hr n e.symm

/-! ### The finder of some places, and what their values are -/
def sigL : List (UInt8 × UInt8) → List UInt8
  | [] => [1]
  | (_, x) :: t => mulL [1, x] (sigL t)
def omL : List (UInt8 × UInt8) → List UInt8
  | [] => []
  | (e, x) :: t => addL (scaleL (mulB e x) (sigL t)) (mulL [1, x] (omL t))
def sumsL (E : List (UInt8 × UInt8)) (n : Nat) : List UInt8 := (List.range n).map fun i => sumV E (i + 1)
theorem co_range (f : Nat → UInt8) (n k : Nat) (h : k < n) : co ((List.range n).map f) k = f k := by
  rw [co_lt _ k (by simpa using h)]
  simp
theorem co_lin (x : UInt8) (p : List UInt8) (k : Nat) : co (mulL [1, x] p) k = addB (co p k) (if k = 0 then 0 else mulB x (co p (k - 1))) := by
  have e : Eqv (mulL [1, x] p) (addL p (0 :: scaleL x p)) := fun j => by
    rw [mulL, co_add, co_add, co_scale, one_mul]
    congr 1
    cases j with
    | zero => rfl
    | succ j =>
      rw [co_succ, co_succ, mulL_comm [x] p j, mulL_one_right x p j]
  rw [e k, co_add]
  cases k with
  | zero => rfl
  | succ k => rw [co_succ, co_scale, if_neg (by omega), Nat.add_sub_cancel]
theorem sig_pl : ∀ E : List (UInt8 × UInt8), pl (sigL E) ≤ E.length + 1
  | [] => by show (plainL [1]).length ≤ 1; decide
  | (e, x) :: t => by
    have h1 := sig_pl t
    have h2 := pl_mul [1, x] (sigL t)
    have h3 := pl_len [1, x]
    simp only [List.length_cons, List.length_nil] at h3 ⊢
    show pl (mulL [1, x] (sigL t)) ≤ _
    omega
theorem om_pl : ∀ E : List (UInt8 × UInt8), pl (omL E) ≤ E.length
  | [] => Nat.le_refl 0
  | (e, x) :: t => by
    have h1 := om_pl t
    have h2 := pl_mul [1, x] (omL t)
    have h3 := pl_len [1, x]
    have h4 := sig_pl t
    have h5 := pl_add (scaleL (mulB e x) (sigL t)) (mulL [1, x] (omL t))
    have h6 : pl (scaleL (mulB e x) (sigL t)) ≤ pl (sigL t) := (pl_le_iff _ _).2 fun k hk => by rw [co_scale, (pl_le_iff _ _).1 (Nat.le_refl _) k hk, mul_zero]
    simp only [List.length_cons, List.length_nil] at h3 ⊢
    show pl (addL (scaleL (mulB e x) (sigL t)) (mulL [1, x] (omL t))) ≤ _
    omega
/-- The finder times the signs is the values' polynomial, below as many powers as there are signs. -/
theorem key_eq (n : Nat) : ∀ E : List (UInt8 × UInt8), Low n (mulL (sigL E) (sumsL E n)) (omL E)
  | [] => fun k hk => by
    rw [sigL, mulL_comm [1] _ k, mulL_one_right 1 _ k, scale_one, omL, co_nil]
    unfold sumsL
    rw [co_range _ _ _ hk]
    rfl
  | (e, x) :: t => by
    have ih := key_eq n t
    -- the sums of one more
    have hs : Low n (sumsL ((e, x) :: t) n) (addL (scaleL e ((List.range n).map fun i => powB x (i + 1))) (sumsL t n)) := fun k hk => by
      unfold sumsL
      rw [co_range _ _ _ hk, co_add, co_scale, co_range _ _ _ hk, co_range _ _ _ hk]
      rfl
    have hg : Low n (mulL [1, x] (scaleL e ((List.range n).map fun i => powB x (i + 1)))) [mulB e x] := fun k hk => by
      rw [co_lin, co_scale, co_range _ _ _ hk]
      cases k with
      | zero =>
        rw [if_pos rfl, add_zero, co_zero]
        show mulB e (mulB 1 x) = _
        rw [one_mul]
      | succ k =>
        rw [if_neg (by omega), Nat.add_sub_cancel, co_scale, co_range _ _ _ (by omega), co_succ, co_nil]
        have e1 : mulB x (mulB e (powB x (k + 1))) = mulB e (powB x (k + 1 + 1)) := by
          rw [pow_succ' x (k + 1), ← mul_assoc, mul_comm x e, mul_assoc, mul_comm x]
        rw [e1, add_self]
    show Low n (mulL (mulL [1, x] (sigL t)) _) (addL (scaleL (mulB e x) (sigL t)) (mulL [1, x] (omL t)))
    refine Low.trans ((hs.mul _)) (Low.trans ((mulL_add_right _ _ _).low n) (Low.add ?_ ?_))
    · -- [1, x] * sigma * G
      refine Low.trans ((mul_congr (mulL_comm [1, x] (sigL t)) (Eqv.refl _)).low n) (Low.trans ((mulL_assoc _ _ _).low n) (Low.trans (hg.mul _) ?_))
      exact (mulL_one_right (mulB e x) (sigL t)).low n
    · exact Low.trans ((mulL_assoc _ _ _).low n) (ih.mul _)
/-- At a power whose inverse is no place the finder isn't 0; at a place it is, and the values' polynomial is as often its slope as the value there. -/
theorem sig_ne (r : UInt8) : ∀ E : List (UInt8 × UInt8), (∀ p ∈ E, mulB p.2 r ≠ 1) → evalL (sigL E) r ≠ 0
  | [], _ => by
    show addB 1 (mulB r 0) ≠ 0
    rw [mul_zero, add_zero]
    decide
  | (e, x) :: t, h => by
    show evalL (mulL [1, x] (sigL t)) r ≠ 0
    rw [eval_mul]
    refine mul_ne _ _ ?_ (sig_ne r t (fun p hp => h p (List.mem_cons_of_mem _ hp)))
    intro e0
    simp only [evalL, mul_zero, add_zero] at e0
    exact h (e, x) List.mem_cons_self (by rw [mul_comm, ← add_zero_eq e0])
theorem lin_eval (x r : UInt8) : evalL [1, x] r = addB 1 (mulB r x) := by simp only [evalL, mul_zero, add_zero]
theorem lin_slope (x r : UInt8) : evalL (slopeL [1, x]) r = x := by
  have e : Eqv (slopeL [1, x]) [x] := fun k => by
    rw [co_slope]
    cases k with
    | zero => rfl
    | succ k =>
      rw [co_succ, co_succ, co_nil]
      split <;> rfl
  rw [eval_congr e]
  simp only [evalL, mul_zero, add_zero]
theorem at_place (Y X r : UInt8) (hX : X ≠ 0) (hr : mulB X r = 1) : ∀ E : List (UInt8 × UInt8), (E.map Prod.snd).Nodup → (Y, X) ∈ E →
    evalL (sigL E) r = 0 ∧ evalL (omL E) r = mulB Y (evalL (slopeL (sigL E)) r) ∧ evalL (slopeL (sigL E)) r ≠ 0
  | [], _, h => by cases h
  | (e, x) :: t, hd, hm => by
    rw [List.map_cons, List.nodup_cons] at hd
    have hsl : evalL (slopeL (sigL ((e, x) :: t))) r = addB (mulB x (evalL (sigL t) r)) (mulB (addB 1 (mulB r x)) (evalL (slopeL (sigL t)) r)) := by
      show evalL (slopeL (mulL [1, x] (sigL t))) r = _
      rw [eval_congr (slope_mul [1, x] (sigL t)) r, eval_add, eval_mul, eval_mul, lin_slope, lin_eval]
    have hom : evalL (omL ((e, x) :: t)) r = addB (mulB (mulB e x) (evalL (sigL t) r)) (mulB (addB 1 (mulB r x)) (evalL (omL t) r)) := by
      show evalL (addL (scaleL (mulB e x) (sigL t)) (mulL [1, x] (omL t))) r = _
      rw [eval_add, eval_scale, eval_mul, lin_eval]
    have hsg : evalL (sigL ((e, x) :: t)) r = mulB (addB 1 (mulB r x)) (evalL (sigL t) r) := by
      show evalL (mulL [1, x] (sigL t)) r = _
      rw [eval_mul, lin_eval]
    rcases List.mem_cons.1 hm with h | h
    · obtain ⟨rfl, rfl⟩ : Y = e ∧ X = x := by simpa using h
      have e0 : addB 1 (mulB r X) = 0 := by rw [mul_comm r X, hr, add_self]
      have hne : evalL (sigL t) r ≠ 0 := sig_ne r t (fun p hp e1 => hd.1 (List.mem_map.2 ⟨p, hp, by
        have : mulB r p.2 = mulB r X := by rw [mul_comm r, mul_comm r, e1, hr]
        refine mul_cancel r _ _ (fun h0 => ?_) this
        rw [h0, mul_zero] at hr
        exact absurd hr (by decide)⟩))
      rw [hsl, hom, hsg, e0, zero_mul, zero_mul, zero_mul, add_zero, add_zero]
      exact ⟨rfl, mul_assoc _ _ _, mul_ne _ _ hX hne⟩
    · obtain ⟨h1, h2, h3⟩ := at_place Y X r hX hr t hd.2 h
      have hne : addB 1 (mulB r x) ≠ 0 := fun e0 => by
        have e1 := add_zero_eq e0
        have : mulB r x = mulB r X := by rw [← e1, mul_comm r X, hr]
        have ex : x = X := mul_cancel r _ _ (fun h0 => by rw [h0, mul_zero] at hr; exact absurd hr (by decide)) this
        exact hd.1 (List.mem_map.2 ⟨(Y, X), h, ex.symm⟩)
      rw [hsl, hom, hsg, h1, h2, mul_zero, mul_zero, mul_zero, zero_add, zero_add]
      refine ⟨rfl, ?_, mul_ne _ _ hne h3⟩
      rw [← mul_assoc, ← mul_assoc, mul_comm Y]

/-! ### What a place is amiss by -/
/-- 2 to the power of so many less than nothing. -/
def rootB (p : Nat) : UInt8 := invB (powB 2 p)
theorem root_mul (p : Nat) : mulB (powB 2 p) (rootB p) = 1 := mul_inv _ (exp_ne p)
theorem root_ne (p : Nat) : rootB p ≠ 0 := inv_ne _ (exp_ne p)
theorem root_inj {i j : Nat} (hi : i < 255) (hj : j < 255) (h : rootB i = rootB j) : i = j := by
  refine powB_inj hi hj ?_
  refine mul_cancel (rootB i) _ _ (root_ne i) ?_
  rw [mul_comm, root_mul, h, mul_comm, root_mul]
def amB (f left : List UInt8) (p : Nat) : UInt8 :=
  if evalL f (rootB p) = 0 then (if evalL (slopeL f) (rootB p) = 0 then 0 else mulB (evalL left (rootB p)) (invB (evalL (slopeL f) (rootB p)))) else 0
/-- The bytes' own, the first one that of the greatest power. -/
def amL (f left : List UInt8) (len : Nat) : List UInt8 := (List.range len).map fun k => amB f left (len - 1 - k)
theorem am_length (f left : List UInt8) (len : Nat) : (amL f left len).length = len := by simp [amL]
theorem co_am (f left : List UInt8) (len k : Nat) (h : k < len) : co (amL f left len) k = amB f left (len - 1 - k) := co_range _ _ _ h
theorem wt_range (g : Nat → UInt8) (n : Nat) : wtL ((List.range n).map g) = ((List.range n).filter fun k => g k != 0).length := by
  unfold wtL
  rw [List.filter_map, List.length_map]
  rfl
theorem am_few (f left : List UInt8) (len d : Nat) (hl : len ≤ 255) (hf : pl f ≤ d + 1) : wtL (amL f left len) ≤ d := by
  refine Nat.le_of_not_lt fun h => ?_
  unfold amL at h
  rw [wt_range] at h
  have hz : ∀ k ∈ ((List.range len).filter fun k => amB f left (len - 1 - k) != 0).map (fun k => rootB (len - 1 - k)), evalL f k = 0 := fun x hx => by
    obtain ⟨k, hk, rfl⟩ := List.mem_map.1 hx
    have := (List.mem_filter.1 hk).2
    unfold amB at this
    by_cases h0 : evalL f (rootB (len - 1 - k)) = 0
    · exact h0
    · rw [if_neg h0] at this
      simp at this
  have hnd : (((List.range len).filter fun k => amB f left (len - 1 - k) != 0).map (fun k => rootB (len - 1 - k))).Nodup := by
    refine nodup_map_on (List.filter_sublist.nodup List.nodup_range) (fun x hx y hy e => ?_)
    have h1 := List.mem_range.1 (List.mem_filter.1 hx).1
    have h2 := List.mem_range.1 (List.mem_filter.1 hy).1
    have := root_inj (by omega) (by omega) e
    omega
  have e := roots_zero _ f hnd (by rw [List.length_map]; omega) hz
  have e2 : ∀ x, evalL (slopeL f) x = 0 := fun x => by
    rw [eval_congr (slope_congr e) x]
    rfl
  have e3 : ((List.range len).filter fun k => amB f left (len - 1 - k) != 0) = [] := List.filter_eq_nil_iff.2 fun k _ => by
    unfold amB
    rw [e2, if_pos rfl]
    split <;> simp
  rw [e3] at h
  simp at h

/-! ### Just what was spoilt -/
theorem co_val_pairs : ∀ (e : List UInt8) (k : Nat), k < e.length → (co e k, powB 2 (e.length - 1 - k)) ∈ pairsL e
  | [], k, h => by simp at h
  | c :: e, 0, _ => by
    rw [pairsL, co_zero, List.length_cons, Nat.sub_zero, Nat.add_sub_cancel]
    exact List.mem_cons_self
  | c :: e, k + 1, h => by
    have h' : k < e.length := by simpa using h
    rw [pairsL, co_succ, List.length_cons, show e.length + 1 - 1 - (k + 1) = e.length - 1 - k by omega]
    exact List.mem_cons_of_mem _ (co_val_pairs e k h')
theorem pairs_at : ∀ (e : List UInt8) (p : UInt8 × UInt8), p ∈ pairsL e → ∃ k, k < e.length ∧ p = (co e k, powB 2 (e.length - 1 - k))
  | [], p, h => by cases h
  | c :: e, p, h => by
    rw [pairsL] at h
    rcases List.mem_cons.1 h with rfl | h
    · exact ⟨0, by simp, by rw [co_zero, List.length_cons, Nat.sub_zero, Nat.add_sub_cancel]⟩
    · obtain ⟨k, hk, rfl⟩ := pairs_at e p h
      exact ⟨k + 1, by simpa using hk, by rw [co_succ, List.length_cons, show e.length + 1 - 1 - (k + 1) = e.length - 1 - k by omega]⟩
def errE (e : List UInt8) : List (UInt8 × UInt8) := (pairsL e).filter fun p => p.1 != 0
theorem signs_err (b a : List UInt8) (n : Nat) (hl : a.length = b.length) (hf : fineP a n) : signsL b n = sumsL (errE (List.zipWith addB b a)) n := by
  unfold signsL sumsL errE
  refine List.map_congr_left fun i hi => ?_
  have hi' := List.mem_range.1 hi
  rw [sumV_filter, ← val_pairs, val_xor _ _ _ hl.symm, hf (i + 1) (by omega) (by omega), add_zero]
/-- What is found is just what was spoilt. -/
theorem am_right {b a : List UInt8} {n : Nat} (h255 : b.length ≤ 255) (hn : Near b n a) {ahead left fa f : List UInt8} (h : Euc n (signsL b n) ahead left fa f) (hd : pl left ≤ n - n / 2) : amL f left b.length = List.zipWith addB b a := by
  obtain ⟨hl, hfine, hdif⟩ := hn
  have hel : (List.zipWith addB b a).length = b.length := by rw [List.length_zipWith]; omega
  have hS := signs_err b a n hl hfine
  have hw : (errE (List.zipWith addB b a)).length ≤ n / 2 := by
    have := pairs_wt (List.zipWith addB b a)
    unfold errE
    rw [this]
    exact hdif
  have hnd : ((errE (List.zipWith addB b a)).map Prod.snd).Nodup := (List.filter_sublist.map Prod.snd).nodup (locs_nodup _ (by omega))
  generalize hee : List.zipWith addB b a = e at hel hS hw hnd
  have hf := h.deg
  have hb := h.big
  have hE1 := sig_pl (errE e)
  have hE2 := om_pl (errE e)
  -- the two are alike, one against the other
  have cross : Eqv (mulL (sigL (errE e)) left) (mulL f (omL (errE e))) := fun k => by
    by_cases hk : k < n
    · have h1 : Low n (mulL (sigL (errE e)) left) (mulL (sigL (errE e)) (mulL f (signsL b n))) := (h.key.symm).mul _
      have h2 : Low n (mulL f (mulL (sigL (errE e)) (signsL b n))) (mulL f (omL (errE e))) := by rw [hS]; exact (key_eq n (errE e)).mul f
      rw [h1 k hk, ← h2 k hk, ← mulL_assoc _ _ _ k, ← mulL_assoc _ _ _ k]
      exact mul_congr (mulL_comm _ _) (Eqv.refl _) k
    · have h1 := pl_mul (sigL (errE e)) left
      have h2 := pl_mul f (omL (errE e))
      rw [(pl_le_iff _ (pl (mulL (sigL (errE e)) left))).1 (Nat.le_refl _) k (by omega), (pl_le_iff _ (pl (mulL f (omL (errE e))))).1 (Nat.le_refl _) k (by omega)]
  have ev : ∀ r, mulB (evalL (sigL (errE e)) r) (evalL left r) = mulB (evalL f r) (evalL (omL (errE e)) r) := fun r => by
    rw [← eval_mul, ← eval_mul]
    exact eval_congr cross r
  have es : ∀ r, addB (mulB (evalL (slopeL (sigL (errE e))) r) (evalL left r)) (mulB (evalL (sigL (errE e)) r) (evalL (slopeL left) r)) = addB (mulB (evalL (slopeL f) r) (evalL (omL (errE e)) r)) (mulB (evalL f r) (evalL (slopeL (omL (errE e))) r)) := fun r => by
    rw [← eval_mul, ← eval_mul, ← eval_mul, ← eval_mul, ← eval_add, ← eval_add, ← eval_congr (slope_mul _ _) r, ← eval_congr (slope_mul _ _) r]
    exact eval_congr (slope_congr cross) r
  refine co_ext (by rw [am_length, hel]) (fun k hk => ?_)
  rw [am_length] at hk
  rw [co_am _ _ _ _ hk]
  have hke : k < e.length := by omega
  obtain ⟨p, hp⟩ : ∃ p, p = b.length - 1 - k := ⟨_, rfl⟩
  rw [← hp]
  have hr := root_ne p
  have hm := root_mul p
  by_cases hc : co e k = 0
  · rw [hc]
    have hsig : evalL (sigL (errE e)) (rootB p) ≠ 0 := by
      refine sig_ne _ _ (fun q hq e1 => ?_)
      obtain ⟨hq1, hq2⟩ := List.mem_filter.1 hq
      obtain ⟨j, hj, rfl⟩ := pairs_at e q hq1
      have e2 : powB 2 (e.length - 1 - j) = powB 2 p := mul_cancel (rootB p) _ _ hr (by rw [mul_comm, e1, mul_comm, hm])
      have := powB_inj (by omega) (by omega) e2
      have ej : j = k := by omega
      rw [ej] at hq2
      simp [hc] at hq2
    unfold amB
    by_cases h0 : evalL f (rootB p) = 0
    · have := ev (rootB p)
      rw [h0, zero_mul] at this
      rcases (mul_eq_zero _ _).1 this with g | g
      · exact absurd g hsig
      · exact absurd (h.notzero _ hr h0 g) id
    · rw [if_neg h0]
  · have hmem : (co e k, powB 2 p) ∈ errE e := by
      refine List.mem_filter.2 ⟨?_, by simpa using hc⟩
      have := co_val_pairs e k hke
      rwa [show e.length - 1 - k = p by omega] at this
    obtain ⟨s1, s2, s3⟩ := at_place _ _ _ (exp_ne p) hm (errE e) hnd hmem
    have hv := ev (rootB p)
    rw [s1, zero_mul, s2] at hv
    have hf0 : evalL f (rootB p) = 0 := by
      rcases (mul_eq_zero _ _).1 hv.symm with g | g
      · exact g
      · exact absurd g (mul_ne _ _ hc s3)
    have hs := es (rootB p)
    rw [s1, hf0, zero_mul, zero_mul, add_zero, add_zero, s2] at hs
    have hleft : evalL left (rootB p) = mulB (co e k) (evalL (slopeL f) (rootB p)) := by
      refine mul_cancel (evalL (slopeL (sigL (errE e))) (rootB p)) _ _ s3 ?_
      rw [hs, ← mul_assoc, mul_comm (evalL (slopeL f) (rootB p)) (co e k), mul_comm (evalL (slopeL (sigL (errE e))) (rootB p)) (mulB _ _)]
    have hsf : evalL (slopeL f) (rootB p) ≠ 0 := fun h0 => h.notzero _ hr hf0 (by rw [hleft, h0, mul_zero])
    unfold amB
    rw [if_pos hf0, if_neg hsf, hleft, mul_assoc, mul_inv _ hsf, mul_one]
/-- What any finder on the way mends. -/
theorem mended_right {b : List UInt8} {n : Nat} (h255 : b.length ≤ 255) {ahead left fa f : List UInt8} (h : Euc n (signsL b n) ahead left fa f) (hd : pl left ≤ n - n / 2) :
    ∃ m, m = List.zipWith addB b (amL f left b.length) ∧ m.length = b.length ∧ difL b m = wtL (amL f left b.length) ∧ (fineP m n → Near b n m) ∧ (∀ a, Near b n a → a = m) := by
  have hal := am_length f left b.length
  have hx : ∀ (x y : List UInt8), x.length = y.length → List.zipWith addB x (List.zipWith addB x y) = y := by
    intro x
    induction x with
    | nil =>
      intro y hy
      have : y = [] := List.eq_nil_of_length_eq_zero (by simpa using hy.symm)
      rw [this]
      rfl
    | cons c x ih =>
      intro y hy
      match y, hy with
      | d :: y, hy =>
        rw [List.zipWith_cons_cons, List.zipWith_cons_cons, ih y (by simpa using hy), ← add_assoc, add_self, zero_add]
  have hdif : difL b (List.zipWith addB b (amL f left b.length)) = wtL (amL f left b.length) := by
    unfold difL
    rw [hx _ _ hal.symm]
  have hlen : (List.zipWith addB b (amL f left b.length)).length = b.length := by rw [List.length_zipWith, hal]; omega
  have hf := h.deg
  have hb := h.big
  refine ⟨_, rfl, hlen, hdif, fun hfine => ⟨hlen, hfine, ?_⟩, fun a ha => ?_⟩
  · rw [hdif]
    exact am_few f left b.length (n / 2) h255 (by omega)
  · rw [am_right h255 ha h hd, hx b a ha.1.symm]

/-! ### The answer -/
open Classical in
noncomputable def mendS (b : List UInt8) (n : Int) : List UInt8 × Nat × Int :=
  if errS b.length n = 0 then (if h : ∃ a, Near b n.toNat a then (h.choose, difL b h.choose, 0) else ([], 0, 6)) else ([], 0, errS b.length n)
theorem mendS_bad {b : List UInt8} {n : Int} (h : errS b.length n ≠ 0) : mendS b n = ([], 0, errS b.length n) := by
  unfold mendS
  rw [if_neg h]
theorem mendS_near {b a : List UInt8} {n : Nat} (h : errS b.length n = 0) (hl : b.length ≤ 255) (ha : Near b n a) : mendS b n = (a, difL b a, 0) := by
  unfold mendS
  have he : ∃ a, Near b ((n : Int)).toNat a := ⟨a, by rw [Int.toNat_natCast]; exact ha⟩
  rw [if_pos h, dif_pos he]
  have hc : Near b n he.choose := he.choose_spec
  rw [near_unique hl hc ha]
theorem mendS_many {b : List UInt8} {n : Nat} (h : errS b.length n = 0) (ha : ∀ a, ¬ Near b n a) : mendS b n = ([], 0, 6) := by
  unfold mendS
  rw [if_pos h, dif_neg (fun ⟨a, h2⟩ => ha a (by rw [Int.toNat_natCast] at h2; exact h2))]
theorem wt_take (l : List UInt8) (j : Nat) (h : j < l.length) : wtL (l.take (j + 1)) = wtL (l.take j) + (if co l j = 0 then 0 else 1) := by
  have e : l.take (j + 1) = l.take j ++ [co l j] := by
    rw [co_lt l j h, List.take_append_getElem h]
  rw [e, wt_append]
  congr 1
  rw [wt_cons]
  show _ + 0 = _
  rw [Nat.add_zero]
end Go.Proofs.YteppocjgodmpdaaGreatDoor
/-
  What the reference's calls Gen, Turned, Error, Signs and Fine of layer 9 answer. No conditions but those typed.
-/
namespace Go.Proofs.YteppocjgodmpdaaGreatDoor
set_option maxRecDepth 100000
open Go.RowKit
set_option linter.unusedSimpArgs false
set_option linter.unusedVariables false

/-! ### Gen -/
def GenRel (n : Nat) (w : World) (g i : Value) (wr : World) : Prop :=
  ∃ (j : Nat) (A : Option Addr) (k c : Nat), j ≤ n ∧ i = .int .i64 ((j : Int) + 1) ∧ g = .slice A k c ∧ Hid ((genL j).length = k) ∧ k ≤ c ∧ Rd vB wr A (genL j) ∧ Below w.heap.size w wr
theorem refexp_at (V : Int) (k : Nat) (w : World) (hV : V = (k : Int)) (hk : k < 255) :
    Calls Tryz.prog 197 #[.int .i64 V] w fun e w' => e = .returned (.int .u8 ((powB 2 k).toNat : Int)) ∧ w = w' := by
  subst hV
  rw [← powZ_two k hk]
  exact refexp_any (k : Int) w
set_option maxHeartbeats 2000000 in
theorem refgen_any (n : Nat) (w : World) (hn : n ≤ 64) :
    Calls Tryz.prog 127 #[.int .i64 (n : Int)] w (RetQ w (genL n)) := by
  go_enter Tryz.func127, Tryz.ntmps127
  go_wp2_with fail
  go_loopw [3, 4] (fun g i wr => GenRel n w g i wr) (fun _ i _ => n + 1 - (intOf i).toNat)
  case atStart => exact ⟨0, some ⟨w.heap.size, 0, none⟩, 1, 1, Nat.zero_le _, rfl, rfl, rfl, Nat.le_refl _, Rd.new w [1] _ _ rfl, below_new (Below.refl _ _) _⟩
  case round =>
    obtain ⟨j, A, k, c, hj, rfl, rfl, HK, hc, hr, hb⟩ := hrel
    by_cases h : j < n
    · have j1 : (j : Int) + 1 ≤ (n : Int) := by omega
      have HKJ : Hid (k ≤ 100) := by unfold Hid; rw [← HK.out, (gen_is j).1]; omega
      go_wp2_with fail
      refine (refexp_at _ (j + 1) _ (by omega) (by omega)).mono ?_
      rintro e w1 ⟨rfl, rfl⟩
      obtain ⟨x, hx⟩ : ∃ x, powB 2 (j + 1) = x := ⟨_, rfl⟩
      rw [hx]
      have hg : genL (j + 1) = plainL (mulL (genL j) [x, 1]) := by rw [← hx]; rfl
      obtain ⟨p', hp'⟩ : ∃ p', genL (j + 1) = p' := ⟨_, rfl⟩
      rw [hp'] at hg
      have HG := Lib.hid hg
      have HP' := Lib.hid hp'
      clear hx hg hp'
      generalize genL j = p at HK hr HG
      go_wp2_with fail
      have hl : Rd vB (wr.alloc (.cells #[.int .u8 (x.toNat : Int), .int .u8 1] 5)) (some ⟨wr.heap.size, 0, none⟩) [x, 1] := Rd.new wr [x, 1] _ _ rfl
      refine (refmulP_any p [x, 1] k 2 A _ c _ _ HK (Lib.hid rfl) (hr.keep (below_new (Below.refl _ _) _)) hl (by have := HKJ.out; omega) (by omega)).mono ?_
      rintro e w2 ⟨A2, n2, c2, rfl, HN2, hc2, hr2, hb2⟩
      rw [← HG.out] at HN2 hr2
      have hB := below_step (below_new hb _) hb2
      clear hb hb2 hl hr HK HG
      go_wp2_with fail
      go_roundw
      case rel => exact ⟨j + 1, A2, n2, c2, h, by go_num, rfl, by rw [HP'.out]; exact HN2, hc2, by rw [HP'.out]; exact hr2, hB⟩
      case measure => simp [intOf] <;> omega
    · have j1 : ¬ (j : Int) + 1 ≤ (n : Int) := by omega
      have ej : j = n := by omega
      subst ej
      go_wp2_with fail
      go_ret
      exact ⟨A, k, c, rfl, HK, hc, hr, hb⟩

/-! ### Turned -/
def TurRel (b : List UInt8) (w : World) (v i : Value) (wr : World) : Prop :=
  ∃ k : Nat, k ≤ b.length ∧ i = .int .i64 ((b.length : Int) - 1 - (k : Int)) ∧ wr.ownsRow w.heap.size 5 1 v k ((b.reverse.take k).map vB) ∧ Below w.heap.size w wr
theorem rev_take (b : List UInt8) (k : Nat) (h : k < b.length) : b.reverse.take (k + 1) = b.reverse.take k ++ [b[b.length - 1 - k]'(by omega)] := by
  rw [List.take_succ_eq_append_getElem (by rw [List.length_reverse]; exact h), List.getElem_reverse]
set_option maxHeartbeats 2000000 in
theorem refturned_any (b : List UInt8) (n : Nat) (A : Option Addr) (c : Nat) (w : World) (HN : Hid (b.length = n)) (hr : Rd vB w A b) (hn : n ≤ 1000000) :
    Calls Tryz.prog 129 #[.slice A n c] w (RetQ w b.reverse) := by
  obtain ⟨i0, hi, hz0, hz1, hz2⟩ := info_parts info_u8
  have e1 := HN.out
  subst e1
  go_enter Tryz.func129, Tryz.ntmps129
  go_wp2_with fail
  go_loopw [3, 4] (fun v i wr => TurRel b w v i wr) (fun _ i _ => (intOf i + 1).toNat)
  case atStart => exact ⟨0, Nat.zero_le _, by go_num, World.ownsRow_nil _ _ _ _, Below.refl _ _⟩
  case round =>
    obtain ⟨k, hk, rfl, hown, hbel⟩ := hrel
    by_cases h : k < b.length
    · obtain ⟨m, hm⟩ : ∃ m, m = b.length - 1 - k := ⟨_, rfl⟩
      have hml : m < b.length := by omega
      obtain ⟨g, o, rfl, hb, hcell⟩ := hr.at hml
      have hc0 : wr.cell? ⟨g, o + m, none⟩ = some (.int .u8 (b[m].toNat : Int)) := (hbel.cell (p := ⟨g, o + m, none⟩) hb).trans (hcell m hml)
      have HE := Lib.hid (rev_take b k h)
      have hidx : (b.length : Int) - 1 - (k : Int) = (m : Int) := by omega
      obtain ⟨y, hy⟩ : ∃ y, b[m] = y := ⟨_, rfl⟩
      have hy2 : b[b.length - 1 - k]'(by omega) = y := by subst hm; exact hy
      rw [hy2] at HE
      rw [hy] at hc0
      rw [hidx]
      have i0' : (0 : Int) ≤ (m : Int) := by omega
      have i1 : (m : Int) < (b.length : Int) := by omega
      have hle := hbel.size
      have HM := Lib.hid hm
      clear hcell hy hy2 hm hidx
      go_wp2_with (at_builtin; refine wpList_append_own _ rfl _ _ 22 rfl w.heap.size 5 i0 (.int .u8 0) 1 1 Tryz.underlying22 hi hz0 hz1 hz2 rfl (by decide) _ _ _ rfl (hown.alloc _) ⟨wr.heap.size, 0, none⟩ 1 1 [.int .u8 (y.toNat : Int)] rfl rfl (cell_one_new _ _ _) (by intro u hu; simp at hu; subst hu; rfl) (by unfold maxLen; omega) (by omega) (by simp; omega) ?_; intro v' w1 hown' hgrow' _)
      have hB1 : Below w.heap.size w w1 := (hbel.alloc hbel.size _).grown hgrow' (by simp; omega) (fun g hk => (hown.lt g hk).1)
      have HR : Hid (TurRel b w v' (.int .i64 ((m : Int) - 1)) w1) := ⟨k + 1, h, by have := HM.out; rw [show (m : Int) - 1 = (b.length : Int) - 1 - ((k + 1 : Nat) : Int) by omega], by rw [HE.out, List.map_append]; exact hown', hB1⟩
      clear hown' hgrow' hown hbel hB1
      go_wp2_with fail
      go_roundw
      case rel => exact HR.out
      case measure => simp [intOf] <;> omega
    · have ek : k = b.length := by omega
      subst ek
      have j1 : ¬ (0 : Int) ≤ (b.length : Int) - 1 - (b.length : Int) := by omega
      rw [List.take_of_length_le (by rw [List.length_reverse]; exact Nat.le_refl _)] at hown
      go_wp2_with fail
      go_ret
      exact RetQ.own (by rw [List.length_reverse]) hown hbel

/-! ### Error -/
theorem referror_any (n : Nat) (k : Int) (A : Option Addr) (c : Nat) (w : World) (hn : n ≤ 1000000) :
    Calls Tryz.prog 143 #[.slice A n c, .int .i64 k] w fun e w' => e = .returned (.int .i64 (errS n k)) ∧ w = w' := by
  have HE : Hid (errS n k = if k < 1 ∨ 64 < k then 1 else if (n : Int) < k then 2 else if 255 < n then 4 else 0) := rfl
  rw [HE.out]
  by_cases h1 : k < 1
  · rw [if_pos (.inl h1)]
    go_enter Tryz.func143, Tryz.ntmps143
    go_wp2_with fail
    go_ret
    exact ⟨rfl, rfl⟩
  · by_cases h2 : 64 < k
    · rw [if_pos (.inr h2)]
      go_enter Tryz.func143, Tryz.ntmps143
      go_wp2_with fail
      go_ret
      exact ⟨rfl, rfl⟩
    · rw [if_neg (by omega)]
      by_cases h3 : (n : Int) < k
      · rw [if_pos h3]
        go_enter Tryz.func143, Tryz.ntmps143
        go_wp2_with fail
        go_ret
        exact ⟨rfl, rfl⟩
      · rw [if_neg h3]
        by_cases h4 : 255 < n
        · rw [if_pos h4]
          have h4' : (255 : Int) < (n : Int) := by omega
          go_enter Tryz.func143, Tryz.ntmps143
          go_wp2_with fail
          go_ret
          exact ⟨rfl, rfl⟩
        · rw [if_neg h4]
          have h4' : ¬ (255 : Int) < (n : Int) := by omega
          go_enter Tryz.func143, Tryz.ntmps143
          go_wp2_with fail
          go_ret
          exact ⟨rfl, rfl⟩
end Go.Proofs.YteppocjgodmpdaaGreatDoor
/-
  What the reference's calls Signs and Fine of layer 9 answer. No conditions but those typed.
-/
namespace Go.Proofs.YteppocjgodmpdaaGreatDoor
set_option maxRecDepth 100000
open Go.RowKit
set_option linter.unusedSimpArgs false
set_option linter.unusedVariables false

def sigF (b : List UInt8) (i : Nat) : UInt8 := valB b (powB 2 (i + 1))
theorem range_snoc {α : Type} (f : Nat → α) (n : Nat) : (List.range (n + 1)).map f = (List.range n).map f ++ [f n] := by rw [List.range_succ, List.map_append]; rfl
theorem tab_range (f : Nat → UInt8) : ∀ n, tabL f n = (List.range n).map f
  | 0 => rfl
  | n + 1 => by rw [tabL, tab_range f n, range_snoc]
theorem signs_tab (b : List UInt8) (n : Nat) : tabL (sigF b) n = signsL b n := tab_range _ n

set_option maxHeartbeats 2000000 in
theorem refsigns_any (b : List UInt8) (len n : Nat) (A : Option Addr) (c : Nat) (w : World) (HN : Hid (b.length = len)) (hr : Rd vB w A b) (hl : len ≤ 100000) (hn : n ≤ 64) :
    Calls Tryz.prog 209 #[.slice A len c, .int .i64 (n : Int)] w (RetQ w (signsL b n)) := by
  obtain ⟨i0, hi, hz0, hz1, hz2⟩ := info_parts info_u8
  have HL : Hid (tabL (sigF b) n = signsL b n) := signs_tab b n
  go_enter Tryz.func209, Tryz.ntmps209
  go_wp2_with fail
  go_loopw [5, 6] (fun v i wr => TabRel (sigF b) 1 n w v i wr) (fun _ i _ => n + 1 - (intOf i).toNat)
  case atStart => exact ⟨0, Nat.zero_le _, rfl, World.ownsRow_nil _ _ _ _, Below.refl _ _⟩
  case round =>
    obtain ⟨k, hk, rfl, hown, hbel⟩ := hrel
    by_cases h : k < n
    · have j1 : ((k + 1 : Nat) : Int) ≤ (n : Int) := by omega
      have HX : Hid (sigF b k = evalL b.reverse (powB 2 (k + 1))) := rfl
      go_wp2_with fail
      refine (refturned_any b len A c _ HN (hr.keep hbel) (by omega)).mono ?_
      rintro e w1 ⟨A1, n1, c1, rfl, HN1, hc1, hr1, hb1⟩
      have e1 : n1 = len := by rw [← HN1.out, List.length_reverse, HN.out]
      subst e1
      go_wp2_with fail
      refine (refexp_at _ (k + 1) _ rfl (by omega)).mono ?_
      rintro e w2 ⟨rfl, rfl⟩
      generalize powB 2 (k + 1) = x at HX ⊢
      go_wp2_with fail
      refine (refeval_any b.reverse x n1 A1 c1 _ HN1 hr1 (by omega)).mono ?_
      rintro e w2 ⟨rfl, rfl⟩
      generalize evalL b.reverse x = y at HX ⊢
      have hown2 := ownsRow_later hown hb1
      have hbw := below_step hbel hb1
      have hle := hbw.size
      clear hown hbel hb1 hr1
      go_wp2_with (at_builtin; refine wpList_append_own _ rfl _ _ 22 rfl w.heap.size 5 i0 (.int .u8 0) 1 1 Tryz.underlying22 hi hz0 hz1 hz2 rfl (by decide) _ _ _ rfl (hown2.alloc _) ⟨w1.heap.size, 0, none⟩ 1 1 [.int .u8 (y.toNat : Int)] rfl rfl (cell_one_new _ _ _) (by intro u hu; simp at hu; subst hu; rfl) (by unfold maxLen; omega) (by omega) (by simp; omega) ?_; intro v' w3 hown' hgrow' _)
      have HR : Hid (TabRel (sigF b) 1 n w v' (.int .i64 (((k + 1 : Nat) : Int) + 1)) w3) := tab_round (lo := 1) h hown2 hbw HX.out hgrow' hown'
      clear hown' hgrow' hown2 hbw
      go_wp2_with fail
      go_roundw
      case rel => exact HR.out
      case measure => simp [intOf] <;> omega
    · have j1 : ¬ ((k + 1 : Nat) : Int) ≤ (n : Int) := by omega
      have ek : k = n := by omega
      subst ek
      rw [HL.out] at hown
      go_wp2_with fail
      go_ret
      exact RetQ.own (signs_length b k) hown hbel

/-! ### Fine -/
theorem all_false_at (l : List UInt8) (k : Nat) (h : k < l.length) (hx : l[k] ≠ 0) : l.all (· == 0) = false := by
  rw [List.all_eq_false]
  exact ⟨l[k], List.getElem_mem h, by simpa using hx⟩
theorem all_true_of (l : List UInt8) (h : ∀ i (hi : i < l.length), l[i] = 0) : l.all (· == 0) = true := by
  rw [List.all_eq_true]
  intro x hx
  obtain ⟨i, hi, e⟩ := List.getElem_of_mem hx
  rw [← e, h i hi]
  rfl
def FinRel (l : List UInt8) (i : Value) : Prop := ∃ j : Nat, j ≤ l.length ∧ i = .int .i64 (j : Int) ∧ ∀ q (hq : q < l.length), q < j → l[q] = 0
theorem errS_cases (n : Nat) (k : Int) : errS n k = 0 → ∃ m : Nat, k = (m : Int) ∧ 1 ≤ m ∧ m ≤ 64 ∧ m ≤ n ∧ n ≤ 255 := by
  unfold errS
  intro h
  split at h
  · omega
  · split at h
    · omega
    · split at h
      · omega
      · exact ⟨k.toNat, by omega, by omega, by omega, by omega, by omega⟩
set_option maxHeartbeats 2000000 in
theorem reffine_any (b : List UInt8) (len : Nat) (k : Int) (A : Option Addr) (c : Nat) (w : World) (HN : Hid (b.length = len)) (hr : Rd vB w A b) (hl : len ≤ 100000) :
    Calls Tryz.prog 144 #[.slice A len c, .int .i64 k] w fun e w' => e = .returned (.bool (fineS b k)) ∧ Below w.heap.size w w' := by
  by_cases h0 : errS len k = 0
  · obtain ⟨m, rfl, h1, h2, h3, h4⟩ := errS_cases len k h0
    have HF : Hid (fineS b (m : Int) = (signsL b m).all (· == 0)) := by
      unfold Hid fineS
      rw [HN.out, h0]
      rfl
    have H0 := Lib.hid h0
    rw [HF.out]
    clear h0 h1 h3
    go_enter Tryz.func144, Tryz.ntmps144
    go_wp2_with fail
    refine (referror_any len (m : Int) A c _ (by omega)).mono ?_
    rintro e w1 ⟨rfl, rfl⟩
    rw [H0.out]
    go_wp2_with fail
    refine (refsigns_any b len m A c _ HN hr (by omega) h2).mono ?_
    rintro e w1 ⟨A1, n1, c1, rfl, HN1, hc1, hr1, hb1⟩
    have e1 : n1 = m := by rw [← HN1.out, signs_length]
    subst e1
    generalize hs : signsL b n1 = l at HN1 hr1
    have HS := Lib.hid hs
    clear hs
    have e2 := HN1.out
    subst e2
    go_wp2_with fail
    go_loopw [6] (fun i wr => FinRel l i ∧ w1 = wr) (fun i _ => l.length - (intOf i).toNat)
    case atStart => exact ⟨⟨0, Nat.zero_le _, rfl, fun q _ h => absurd h (by omega)⟩, rfl⟩
    case round =>
      obtain ⟨⟨j, hj, rfl, hz⟩, rfl⟩ := hrel
      have HZ := Lib.hid hz
      clear hz
      have i0 : (0 : Int) ≤ (j : Int) := by omega
      by_cases h : j < l.length
      · obtain ⟨g, o, rfl, hb, hcell⟩ := hr1.at h
        have hc0 := hcell j h
        unfold vB at hc0
        have j1 : (j : Int) < (l.length : Int) := by omega
        by_cases hx : l[j] = 0
        · rw [hx] at hc0
          have hc0' : w1.cell? ⟨g, o + j, none⟩ = some (.int .u8 0) := hc0
          have HR : Hid (FinRel l (.int .i64 ((j : Int) + 1))) := ⟨j + 1, h, by go_num, fun q hq hq2 => by
            rcases Nat.lt_or_ge q j with e | e
            · exact HZ.out q hq e
            · have : q = j := by omega
              subst this
              exact hx⟩
          clear hcell hc0 hx
          go_wp2_with fail
          go_roundw
          case rel => exact ⟨HR.out, trivial⟩
          case measure => simp [intOf] <;> omega
        · have HA := Lib.hid (all_false_at l j h hx)
          have hne : ((l[j].toNat : Int) == 0) = false := by
            have : l[j].toNat ≠ 0 := fun e => hx (UInt8.toNat_inj.1 e)
            simp
            omega
          generalize l[j] = x at hc0 hne
          clear hcell hx
          go_wp2_with fail
          go_ret
          exact ⟨by rw [HS.out, HA.out]; rfl, hb1⟩
      · have j1 : ¬ (j : Int) < (l.length : Int) := by omega
        have HA := Lib.hid (all_true_of l (fun i hi => HZ.out i hi (by omega)))
        go_wp2_with fail
        go_ret
        exact ⟨by rw [HS.out, HA.out]; rfl, hb1⟩
  · have HF : Hid (fineS b k = false) := by
      unfold Hid fineS
      rw [HN.out, decide_eq_false h0]
      rfl
    rw [HF.out]
    have hne : (errS len k == 0) = false := beq_eq_false_iff_ne.2 h0
    have HE := Lib.hid hne
    clear h0 hne
    go_enter Tryz.func144, Tryz.ntmps144
    go_wp2_with fail
    refine (referror_any len k A c _ (by omega)).mono ?_
    rintro e w1 ⟨rfl, rfl⟩
    have hne := HE.out
    generalize errS len k = z at hne
    go_wp2_with fail
    go_ret
    exact ⟨rfl, Below.refl _ _⟩
end Go.Proofs.YteppocjgodmpdaaGreatDoor
/-
  Layer 13 as plain functions: a payload's barcode, what any bytes are read as; spoilt, and read back. No conditions but those typed.
-/
namespace Go.Proofs.YteppocjgodmpdaaGreatDoor
set_option maxRecDepth 100000
set_option linter.unusedVariables false
set_option linter.unusedSimpArgs false

/-- What is ahead of the checks. -/
def dataL (m : List UInt8) : List UInt8 := m.take (m.length - 10)
/-- A payload's barcode. -/
def barL (t e c : Nat) (tag : List UInt8) : List UInt8 := putS (putSt (writeF t e c tag)) 10
/-- What stuffed bytes with their mended places are read as. -/
def gotL (d : List UInt8) (n : Nat) : (Int × Nat × Nat × Nat × List UInt8) × Nat × Int :=
  if putSt (candL d) = d then (if (readF (candL d)).1 = 0 then (readF (candL d), n, 0) else (readF (candL d), 0, 3)) else ((3, 0, 0, 0, []), 0, 2)
/-- What bytes are read as: the code and the payload, in how many places they were mended, and the step. -/
noncomputable def barsL (b : List UInt8) : (Int × Nat × Nat × Nat × List UInt8) × Nat × Int :=
  if (mendS b 10).2.2 = 0 then gotL (dataL (mendS b 10).1) (mendS b 10).2.1 else (((mendS b 10).2.2, 0, 0, 0, []), 0, 1)

/-! ### Codes -/
theorem errS_pos (len : Nat) (n : Int) : 0 ≤ errS len n ∧ errS len n ≤ 4 := by
  unfold errS
  split
  · omega
  · split
    · omega
    · split <;> omega
theorem mendS_code (b : List UInt8) (n : Int) : 0 ≤ (mendS b n).2.2 ∧ (mendS b n).2.2 ≤ 6 := by
  have h := errS_pos b.length n
  unfold mendS
  split
  · split
    · constructor <;> simp
    · constructor <;> simp
  · dsimp only
    omega
theorem readN_code (b : List UInt8) : 0 ≤ (readN b).1 ∧ (readN b).1 ≤ 4 := by
  cases b with
  | nil => exact ⟨by decide, by decide⟩
  | cons n r =>
    rw [readN_cons]
    split
    · constructor <;> simp
    · split
      · constructor <;> simp
      · split
        · constructor <;> simp
        · constructor <;> simp
theorem readF_code (b : List UInt8) : 0 ≤ (readF b).1 ∧ (readF b).1 ≤ 4 := by
  cases b with
  | nil => exact ⟨by decide, by decide⟩
  | cons x r =>
    rw [readF_cons]
    split
    · constructor <;> simp
    · unfold readB
      split
      · unfold readE
        split
        · unfold readC
          split
          · unfold readT
            split
            · constructor <;> simp
            · split
              · constructor <;> simp
              · constructor <;> simp
          · exact readN_code _
        · exact readN_code _
      · exact readN_code _
theorem readF_bad (b : List UInt8) (h : (readF b).1 ≠ 0) : readF b = ((readF b).1, 0, 0, 0, []) := by
  cases b with
  | nil => rfl
  | cons x r =>
    rw [readF_cons] at h ⊢
    split
    · rfl
    · rename_i hx
      rw [if_neg hx] at h
      unfold readB at h ⊢
      split
      · rename_i h1
        rw [if_pos h1] at h
        unfold readE at h ⊢
        split
        · rename_i h2
          rw [if_pos h2] at h
          unfold readC at h ⊢
          split
          · rename_i h3
            rw [if_pos h3] at h
            unfold readT at h ⊢
            split
            · rfl
            · rename_i h4
              rw [if_neg h4] at h
              split
              · rfl
              · rename_i h5
                rw [if_neg h5] at h
                exact absurd rfl h
          · rfl
        · rfl
      · rfl

/-! ### Barcodes -/
section
variable {t e c : Nat} {tag : List UInt8}
theorem stuffed_length (h8 : tag.length = 8) : 12 ≤ (putSt (writeF t e c tag)).length ∧ (putSt (writeF t e c tag)).length ≤ 42 := by
  have h1 := write_length t e c tag h8
  have h2 := put_length (writeF t e c tag)
  omega
theorem bar_length (h8 : tag.length = 8) : 22 ≤ (barL t e c tag).length ∧ (barL t e c tag).length ≤ 52 := by
  have := stuffed_length (t := t) (e := e) (c := c) h8
  unfold barL
  rw [putS_length _ _ (by decide)]
  omega
theorem bar_fine : fineP (barL t e c tag) 10 := putS_fine _ _ (by decide)
theorem bar_data : dataL (barL t e c tag) = putSt (writeF t e c tag) := by
  have h := putS_length (putSt (writeF t e c tag)) 10 (by decide)
  unfold dataL barL
  rw [h, Nat.add_sub_cancel]
  unfold putS
  rw [List.take_left]
variable (ht : t < 18446744073709551616) (he : e < 18446744073709551616) (hc : c < 18446744073709551616)
include ht he hc
theorem got_bar (h8 : tag.length = 8) (n : Nat) : gotL (putSt (writeF t e c tag)) n = ((0, t, e, c, tag), n, 0) := by
  unfold gotL
  rw [cand_put, if_pos rfl, read_write ht he hc h8, if_pos rfl]
/-- Spoilt in a few places, it is read as it was. -/
theorem bars_near (h8 : tag.length = 8) (x : List UInt8) (hx : x.length = (barL t e c tag).length) (hd : difL x (barL t e c tag) ≤ 5) : barsL x = ((0, t, e, c, tag), difL x (barL t e c tag), 0) := by
  have hl := bar_length (t := t) (e := e) (c := c) h8
  have h0 : errS x.length ((10 : Nat) : Int) = 0 := by
    unfold errS
    rw [if_neg (by omega), if_neg (by omega), if_neg (by omega)]
  have hm := mendS_near h0 (by omega) (⟨hx.symm, bar_fine, by omega⟩ : Near x 10 (barL t e c tag))
  have hm' : mendS x 10 = (barL t e c tag, difL x (barL t e c tag), 0) := hm
  unfold barsL
  rw [hm', if_pos rfl]
  dsimp only
  rw [bar_data, got_bar ht he hc h8]
end
theorem bar_inj {t e c t' e' c' : Nat} {tag tag' : List UInt8} (ht : t < 18446744073709551616) (he : e < 18446744073709551616) (hc : c < 18446744073709551616) (ht' : t' < 18446744073709551616) (he' : e' < 18446744073709551616) (hc' : c' < 18446744073709551616) (h8 : tag.length = 8) (h8' : tag'.length = 8) :
    barL t e c tag = barL t' e' c' tag' ↔ t = t' ∧ e = e' ∧ c = c' ∧ tag = tag' := by
  constructor
  · intro h
    have h1 := congrArg dataL h
    rw [bar_data, bar_data] at h1
    exact (write_inj ht he hc ht' he' hc' h8 h8').1 (put_inj h1)
  · rintro ⟨rfl, rfl, rfl, rfl⟩
    rfl
/-- What bytes are read as: a payload, whose barcode they are near to; or a fault. -/
theorem bars_cases (b : List UInt8) :
    (∃ t e c tag n, barsL b = ((0, t, e, c, tag), n, 0) ∧ tag.length = 8 ∧ t < 18446744073709551616 ∧ e < 18446744073709551616 ∧ c < 18446744073709551616 ∧ (barL t e c tag).length = b.length ∧ difL b (barL t e c tag) = n ∧ n ≤ 5) ∨
    ∃ k s : Int, barsL b = ((k, 0, 0, 0, []), 0, s) ∧ 0 < k ∧ k ≤ 6 ∧ 1 ≤ s ∧ s ≤ 3 := by
  by_cases h0 : (mendS b 10).2.2 = 0
  · have he : errS b.length 10 = 0 := by
      refine Classical.byContradiction fun h => ?_
      rw [mendS_bad h] at h0
      exact h h0
    obtain ⟨m, e1, h1, h2, h3, h4⟩ := errS_cases b.length 10 he
    obtain rfl : m = 10 := by omega
    by_cases ha : ∃ a, Near b 10 a
    · obtain ⟨a, ha⟩ := ha
      have hm := mendS_near (n := 10) he h4 ha
      have hm' : mendS b 10 = (a, difL b a, 0) := hm
      have hb : barsL b = gotL (dataL a) (difL b a) := by
        unfold barsL
        rw [hm', if_pos rfl]
      rw [hb]
      unfold gotL
      by_cases hp : putSt (candL (dataL a)) = dataL a
      · rw [if_pos hp]
        by_cases hf : (readF (candL (dataL a))).1 = 0
        · rw [if_pos hf]
          left
          obtain ⟨k, t, e, c, tag, hF⟩ : ∃ k t e c tag, readF (candL (dataL a)) = (k, t, e, c, tag) := ⟨_, _, _, _, _, rfl⟩
          rw [hF] at hf
          have hk : k = 0 := hf
          subst hk
          obtain ⟨hw, h8, ht, he', hc⟩ := read_good _ t e c tag hF
          have hbar : barL t e c tag = a := by
            unfold barL
            rw [← hw, hp]
            have hs : a = dataL a ++ a.drop (a.length - 10) := by unfold dataL; rw [List.take_append_drop]
            have hal := ha.1
            have hdl : (dataL a).length = a.length - 10 := by unfold dataL; rw [List.length_take]; omega
            have := putS_only (dataL a) (a.drop (a.length - 10)) 10 (by decide) (by rw [List.length_drop]; omega) (by omega) (by rw [← hs]; exact ha.2.1)
            rw [← this, ← hs]
          refine ⟨t, e, c, tag, difL b a, by rw [hF], h8, ht, he', hc, by rw [hbar]; exact ha.1, by rw [hbar], ?_⟩
          have := ha.2.2
          omega
        · rw [if_neg hf, readF_bad _ hf]
          have := readF_code (candL (dataL a))
          exact .inr ⟨_, _, rfl, by omega, by omega, by decide, by decide⟩
      · rw [if_neg hp]
        exact .inr ⟨_, _, rfl, by decide, by decide, by decide, by decide⟩
    · have hm := mendS_many (n := 10) he (fun a h => ha ⟨a, h⟩)
      have hm' : mendS b 10 = ([], 0, 6) := hm
      rw [hm'] at h0
      exact absurd h0 (by decide)
  · have := mendS_code b 10
    unfold barsL
    rw [if_neg h0]
    exact .inr ⟨_, _, rfl, by omega, by omega, by decide, by decide⟩
/-- What is mended has its checks. -/
theorem mend_length (b : List UInt8) (h : (mendS b 10).2.2 = 0) : 10 ≤ (mendS b 10).1.length ∧ (mendS b 10).1.length = b.length ∧ b.length ≤ 255 := by
  have he : errS b.length 10 = 0 := by
    refine Classical.byContradiction fun h' => ?_
    rw [mendS_bad h'] at h
    exact h' h
  obtain ⟨m, e1, h1, h2, h3, h4⟩ := errS_cases b.length 10 he
  obtain rfl : m = 10 := by omega
  by_cases ha : ∃ a, Near b 10 a
  · obtain ⟨a, ha⟩ := ha
    have hm := mendS_near (n := 10) he h4 ha
    have hm' : mendS b 10 = (a, difL b a, 0) := hm
    rw [hm']
    have := ha.1
    exact ⟨by show 10 ≤ a.length; omega, ha.1, h4⟩
  · have hm := mendS_many (n := 10) he (fun a h => ha ⟨a, h⟩)
    have hm' : mendS b 10 = ([], 0, 6) := hm
    rw [hm'] at h
    exact absurd h (by decide)
end Go.Proofs.YteppocjgodmpdaaGreatDoor
/-
  What the reference's calls Rot, Value, FromLeast, Put and Bytes answer: the same as the program's, for whatever is given.
-/
namespace Go.Proofs.YteppocjgodmpdaaGreatDoor
set_option maxRecDepth 100000
open Go.RowKit

theorem wordsL_length (l : List UInt8) : 4 * (wordsL l).length ≤ l.length := by
  have := congrArg List.length (bytesL_wordsL l)
  rw [bytesL_length, List.length_take] at this
  omega
theorem rot_one (x : UInt32) : (rotR x 1).toNat = x.toNat / 2 + x.toNat % 2 * 2147483648 := by
  have hx := u32_lt x
  have e : (rotR x 1).toNat = (x.toBitVec >>> 1 ||| x.toBitVec <<< 31).toNat := by
    show (x.toBitVec.rotateRight 1).toNat = _
    rw [BitVec.rotateRight_def]
  rw [e, BitVec.toNat_or, BitVec.toNat_shiftLeft, BitVec.toNat_ushiftRight, Nat.shiftLeft_eq, Nat.shiftRight_eq_div_pow]
  show x.toNat / 2 ^ 1 ||| x.toNat * 2 ^ 31 % 2 ^ 32 = _
  have e2 : x.toNat * 2 ^ 31 % 2 ^ 32 = 2 ^ 31 * (x.toNat % 2) := by omega
  rw [e2, Nat.or_comm, ← Nat.two_pow_add_eq_or_of_lt (by omega)]
  omega
theorem rot_next (x : UInt32) (k : Nat) : rotR x (k + 1) = rotR (rotR x k) 1 := (rotR_rotR x k 1).symm
theorem rot_even (x y : UInt32) (h : x.toNat % 2 = 0) (e : y = rotR x 1) : y.toNat = x.toNat / 2 := by
  rw [e, rot_one]
  omega
theorem rot_odd (x y : UInt32) (h : x.toNat % 2 = 1) (e : y = rotR x 1) : y.toNat = x.toNat / 2 + 2147483648 := by
  rw [e, rot_one]
  omega

def RotRel (x : UInt32) (n : Nat) (u i : Value) : Prop := ∃ k : Nat, k ≤ n ∧ i = .int .i64 k ∧ u = .int .u32 ((rotR x k).toNat : Int)

theorem refrot_core (x : UInt32) (m n : Int) (c : Nat) (w : World) (hm : m.tmod 32 = n) (h1 : -32 < n) (h2 : n < 32) (hc : if n < 0 then (c : Int) = n + 32 else (c : Int) = n) :
    Calls Tryz.prog 274 #[.int .u32 (x.toNat : Int), .int .i64 m] w fun e w' => e = .returned (.int .u32 ((rotR x c).toNat : Int)) ∧ w = w' := by
  by_cases hneg : n < 0
  all_goals
    first | rw [if_pos hneg] at hc | rw [if_neg hneg] at hc
    have hc32 : c < 32 := by omega
    go_enter Tryz.func274, Tryz.ntmps274
    have HC := Lib.hid hc
    clear hc
    go_wp2
    have hcc := HC.out
    rw [← hcc]
    clear hcc
    go_loop [0, 5] (fun u i => RotRel x c u i) (fun _ i => c - (intOf i).toNat)
    case atStart => exact ⟨0, Nat.zero_le _, rfl, by rw [rotR_zero]⟩
    case round =>
      obtain ⟨k, hk, rfl, rfl⟩ := hrel
      by_cases hlt : k < c
      · have HN := Lib.hid (rot_next x k)
        have hy := u32_lt (rotR x k)
        generalize rotR x k = y at HN hy
        by_cases hb : y.toNat % 2 = 1
        · have hb' : ((y.toNat : Int) % 2 == 1) = true := by simp; omega
          have HO := Lib.hid (rot_odd y _ hb HN.out)
          clear hb
          go_wp2
          go_round
          case rel => exact ⟨k + 1, by omega, by go_num, by rw [HO.out]; go_num⟩
          case measure => simp [intOf]; omega
        · have hb' : ((y.toNat : Int) % 2 == 1) = false := by simp; omega
          have HO := Lib.hid (rot_even y _ (by omega) HN.out)
          clear hb
          go_wp2
          go_round
          case rel => exact ⟨k + 1, by omega, by go_num, by rw [HO.out]; go_num⟩
          case measure => simp [intOf]; omega
      · have hkc : k = c := by omega
        subst hkc
        go_wp2
        go_ret
        exact ⟨rfl, rfl⟩

theorem refrot_any (x : UInt32) (m : Int) (w : World) :
    Calls Tryz.prog 274 #[.int .u32 (x.toNat : Int), .int .i64 m] w fun e w' => e = .returned (.int .u32 ((rotR x (m % 32).toNat).toNat : Int)) ∧ w = w' := by
  have k1 := Int.tmod_lt_of_pos m (show (0 : Int) < 32 by omega)
  have k3 := Int.tmod_lt_of_pos (-m) (show (0 : Int) < 32 by omega)
  rw [Int.neg_tmod] at k3
  have k5 : m % 32 = (m.tmod 32) % 32 := by
    have := Int.emod_add_mul_ediv m 32
    have := Int.tmod_add_mul_tdiv m 32
    omega
  refine refrot_core x m _ _ w rfl (by omega) k1 ?_
  split <;> omega

theorem value_step (a c : Nat) : IntKind.u64.wrap (IntKind.u64.wrap (256 * ((a : Int) % 18446744073709551616)) + (c : Int)) = (((a * 256 + c) % 18446744073709551616 : Nat) : Int) := by
  rw [IntKind.wrap_u64, IntKind.wrap_u64]
  omega
def ValueRel (l : List UInt8) (v i : Value) : Prop := ∃ k : Nat, k ≤ l.length ∧ i = .int .i64 k ∧ v = .int .u64 ((valN (l.take k) % 18446744073709551616 : Nat) : Int)

theorem value_any (l : List UInt8) (A : Option Addr) (cap : Nat) (w : World) (hr : Rd vB w A l) (hl : l.length ≤ 9223372036854775807) :
    Calls Tryz.prog 146 #[.slice A l.length cap] w fun e w' => e = .returned (.int .u64 ((valN l % 18446744073709551616 : Nat) : Int)) ∧ w = w' := by
  go_enter Tryz.func146, Tryz.ntmps146
  go_wp2
  go_loop [3, 4] (fun v i => ValueRel l v i) (fun _ i => l.length - (intOf i).toNat)
  case atStart => exact ⟨0, Nat.zero_le _, rfl, rfl⟩
  case round =>
    obtain ⟨k, hk, rfl, rfl⟩ := hrel
    by_cases hlt : k < l.length
    · obtain ⟨b, o, rfl, hb, hcell⟩ := hr.at hlt
      have hc : w.cell? ⟨b, o + k, none⟩ = some (.int .u8 (l[k].toNat : Int)) := hcell k hlt
      have hb8 : l[k].toNat < 256 := l[k].toNat_lt
      have HT : Hid _ := valN_take l k hlt
      generalize l[k] = c at hc hb8 HT
      clear hcell hr
      go_wp2
      go_round
      case rel =>
        refine ⟨k + 1, by omega, by go_num, ?_⟩
        rw [HT.out, value_step]
      case measure => simp [intOf]; omega
    · have hk' : k = l.length := by omega
      have HK : Hid (l.take k = l) := by rw [hk']; exact List.take_length
      clear hk'
      go_wp2
      go_ret
      exact ⟨ret_int (by rw [HK.out]), rfl⟩


theorem refput_cells (v : Nat) (hv : v < 18446744073709551616) :
    #[Value.int IntKind.u8 ((v : Int) / 256 / 256 / 256 / 256 / 256 / 256 / 256 % 256), Value.int IntKind.u8 ((v : Int) / 256 / 256 / 256 / 256 / 256 / 256 % 256), Value.int IntKind.u8 ((v : Int) / 256 / 256 / 256 / 256 / 256 % 256), Value.int IntKind.u8 ((v : Int) / 256 / 256 / 256 / 256 % 256),
      Value.int IntKind.u8 ((v : Int) / 256 / 256 / 256 % 256), Value.int IntKind.u8 ((v : Int) / 256 / 256 % 256), Value.int IntKind.u8 ((v : Int) / 256 % 256), Value.int IntKind.u8 ((v : Int) % 256)] = ((putL v).map vB).toArray := by
  rw [← put_cells v hv]
  have e7 : (v : Int) / 256 / 256 / 256 / 256 / 256 / 256 / 256 % 256 = (v : Int) / 72057594037927936 := by omega
  have e6 : (v : Int) / 256 / 256 / 256 / 256 / 256 / 256 % 256 = (v : Int) / 281474976710656 % 256 := by omega
  have e5 : (v : Int) / 256 / 256 / 256 / 256 / 256 % 256 = (v : Int) / 1099511627776 % 256 := by omega
  have e4 : (v : Int) / 256 / 256 / 256 / 256 % 256 = (v : Int) / 4294967296 % 256 := by omega
  have e3 : (v : Int) / 256 / 256 / 256 % 256 = (v : Int) / 16777216 % 256 := by omega
  have e2 : (v : Int) / 256 / 256 % 256 = (v : Int) / 65536 % 256 := by omega
  rw [e7, e6, e5, e4, e3, e2]

theorem refput_any (v : Nat) (hv : v < 18446744073709551616) (w : World) :
    Calls Tryz.prog 181 #[.int .u64 (v : Int)] w (RetS vB w (putL v)) := by
  have hmk : ∀ w, (Instr.makeSlice 22 (.int .i64 8) (.int .i64 8)).run Tryz.prog w = .ok (.slice (some ⟨w.heap.size, 0, none⟩) 8 8) (w.alloc (.cells #[.int .u8 0, .int .u8 0, .int .u8 0, .int .u8 0, .int .u8 0, .int .u8 0, .int .u8 0, .int .u8 0] 5)) := fun _ => by kernel_rfl
  go_enter Tryz.func181, Tryz.ntmps181
  go_wp2
  refine wp_loop_rounds 9 ?_
  iterate 9 (rw [rounds_succ]; go_wp2)
  go_ret
  exact ⟨_, 8, rfl, Nat.le_refl _, Rd.new _ _ _ _ (refput_cells v hv), (Below.refl _ _).alloc (Nat.le_refl _) _⟩

theorem refbytes_any (L : List UInt32) (A : Option Addr) (cap : Nat) (w : World) (hr : Rd vW w A L) (hl : L.length ≤ 35184372087808) :
    Calls Tryz.prog 251 #[.slice A L.length cap] w (RetS vB w (bytesL L)) := by
  obtain ⟨i0, hi, hz0, hz1, hz2⟩ := info_parts info_u8
  go_enter Tryz.func251, Tryz.ntmps251
  go_wp2_with fail
  go_loopw [3, 4] (fun v i wr => BytesRel L w v i wr) (fun _ i _ => L.length - (intOf i).toNat)
  case atStart => exact ⟨0, Nat.zero_le _, rfl, World.ownsRow_nil _ _ _ _, Below.refl _ _⟩
  case round =>
    obtain ⟨k, hk, rfl, hown1, hbel1⟩ := hrel
    by_cases hlt : k < L.length
    · obtain ⟨blk, o, rfl, hb, hcell⟩ := hr.at hlt
      have hc0 := hcell k hlt
      have HT := Lib.hid (bytesL_take L k hlt)
      have hc : wr.cell? ⟨blk, o + k, none⟩ = some (.int .u32 (L[k].toNat : Int)) := by rw [hbel1.cell (p := ⟨blk, o + k, none⟩) hb]; exact hc0
      have hx := u32_lt L[k]
      have hn : (bytesL (L.take k)).length ≤ 4 * k := by rw [bytesL_length, List.length_take]; omega
      generalize L[k] = x at hc hx HT
      clear hcell hr hc0
      go_wp2_with (at_builtin; refine wpList_append_own _ rfl _ _ 22 rfl w.heap.size 5 i0 (.int .u8 0) 1 1 Tryz.underlying22 hi hz0 hz1 hz2 rfl (by decide) _ _ _ rfl (hown1.alloc _) ⟨wr.heap.size, 0, none⟩ 4 4 [Value.int .u8 ((x.toNat : Int) / 16777216), Value.int .u8 ((x.toNat : Int) / 65536 % 256), Value.int .u8 ((x.toNat : Int) / 256 % 256), Value.int .u8 ((x.toNat : Int) % 256)] rfl rfl (cells_new _ _ _) (by intro u hu; simp at hu; rcases hu with rfl | rfl | rfl | rfl <;> rfl) (by unfold maxLen; omega) (by omega) (by have := hbel1.size; simp; omega) ?_; intro v' w1 hown' hgrow' _)
      go_roundw
      case rel => exact bytes_round hlt hown1 hbel1 HT hgrow' hown'
      case measure => simp [intOf]; omega
    · have HE : Hid (L.take k = L) := by unfold Hid; exact List.take_of_length_le (by omega)
      go_wp2_with fail
      go_ret
      rw [HE.out] at hown1
      exact RetS.own hown1 hbel1

end Go.Proofs.YteppocjgodmpdaaGreatDoor
/-
  What the reference's call Least answers, for any number: the same as the program's.
-/
namespace Go.Proofs.YteppocjgodmpdaaGreatDoor
set_option maxRecDepth 100000
open Go.RowKit

def RefLeastRel (L : List UInt8) (w : World) (s : Value) : Prop := ∃ (M : List UInt8) (b o cap : Nat), s = .slice (some ⟨b, o, none⟩) M.length cap ∧ M.length ≤ cap ∧ M.length ≤ 8 ∧ Rd vB w (some ⟨b, o, none⟩) M ∧ L.dropWhile (· == 0) = M.dropWhile (· == 0)

theorem refput_some (v : Nat) (hv : v < 18446744073709551616) (w : World) :
    Calls Tryz.prog 181 #[.int .u64 (v : Int)] w fun e w' => ∃ b o cap, e = .returned (.slice (some ⟨b, o, none⟩) (putL v).length cap) ∧ (putL v).length ≤ cap ∧ Rd vB w' (some ⟨b, o, none⟩) (putL v) ∧ Below w.heap.size w w' :=
  (refput_any v hv w).mono fun _ _ ⟨A, cap, he, hc, hr, hb⟩ => by
    obtain ⟨b, o, rfl, hcell⟩ := hr (by simp [putL])
    exact ⟨b, o, cap, he, hc, hr, hb⟩

/-- In memory of the call's own. -/
theorem refleast_own (v : Nat) (hv : v < 18446744073709551616) (w : World) :
    Calls Tryz.prog 132 #[.int .u64 (v : Int)] w (RetO 5 vB w (leastL v)) := by
  obtain ⟨i0, hi, hz0, hz1, hz2⟩ := info_parts info_u8
  have H8 : Hid (∀ L, L = putL v → L.length = 8) := by rintro L rfl; rfl
  have HL : Hid (∀ L, L = putL v → leastL v = L.dropWhile (· == 0)) := by rintro L rfl; rfl
  go_enter Tryz.func132, Tryz.ntmps132
  go_wp2_with (go_at_call 181; refine (refput_some v hv _).mono ?_; rintro e w1 ⟨b0, o0, cap, rfl, hcap, hrd, hbel⟩)
  obtain ⟨L, e⟩ : ∃ L, L = putL v := ⟨_, rfl⟩
  have h8 := H8.out L e
  have HL' := Lib.hid (HL.out L e)
  rw [← e] at hcap hrd ⊢
  clear HL H8 e
  go_loop [3] (fun s => RefLeastRel L w1 s) (fun s => sliceLen s)
  case atStart => exact ⟨L, b0, o0, cap, rfl, hcap, by omega, hrd, rfl⟩
  case round =>
    obtain ⟨M, b, o, cap1, rfl, hcap1, hm8, hrd1, hdw⟩ := hrel
    have HD := Lib.hid hdw
    clear hdw h8 hrd hcap
    cases M with
    | nil =>
      have HF : Hid (leastL v = []) := by unfold Hid; rw [HL'.out, HD.out]; rfl
      go_wp2_with fail
      go_ret
      rw [HF.out]
      have hown0 : (w1.alloc (.cells #[] 5)).ownsRow w1.heap.size 5 1 (.slice (some ⟨w1.heap.size, 0, none⟩) 0 0) 0 [] := World.ownsRow_made w1 #[] 0 (Nat.le_refl _) (by unfold maxLen; omega) rfl
      exact ⟨_, rfl, own_base hown0 hbel.size, below_new hbel _⟩
    | cons c M =>
      have hc := hrd1 (by simp)
      obtain ⟨b', o', e', hcell⟩ := hc
      injection e' with e'
      injection e' with e1 e2 _
      subst e1 e2
      have hc := hcell 0 (by simp)
      simp only [List.getElem_cons_zero, Nat.add_zero, vB] at hc
      by_cases hz : c = 0
      · subst hz
        have hc' : w1.cell? ⟨b, o, none⟩ = some (.int .u8 0) := hc
        have hrd2 : Rd vB w1 (if cap1 = 1 then some ⟨b, o, none⟩ else some ⟨b, o + 1, none⟩) M := by
          have := hrd1.drop 1 cap1 hcap1
          simpa [Addr.add] using this
        have hM : M.length + 1 ≤ cap1 := by simpa using hcap1
        have hM8 : M.length + 1 ≤ 8 := by simpa using hm8
        have HD' : Hid (L.dropWhile (· == 0) = M.dropWhile (· == 0)) := by
          unfold Hid
          rw [HD.out, List.dropWhile_cons, if_pos (by rfl)]
        clear hc hcell hrd1 hcap1 hm8
        by_cases h1 : cap1 = 1
        · subst h1
          obtain rfl : M = [] := List.eq_nil_of_length_eq_zero (by omega)
          go_wp2_with fail
          go_round
          case rel => exact ⟨[], _, _, 0, rfl, by simp, by simp, Rd.nil, HD'.out⟩
          case measure => simp [sliceLen]
        · rw [if_neg h1] at hrd2
          go_wp2_with fail
          go_round
          case rel => exact ⟨M, _, _, cap1 - 1, rfl, by omega, by omega, hrd2, HD'.out⟩
          case measure => simp [sliceLen]
      · have hne : ((c.toNat : Int) == 0) = false := by
          have : c.toNat ≠ 0 := fun h => hz (UInt8.toNat_inj.1 h)
          simp
          omega
        have HF : Hid (leastL v = c :: M) := by
          unfold Hid
          rw [HL'.out, HD.out, List.dropWhile_cons, if_neg (by simpa using hz)]
        clear hz hcell
        have hM8 : M.length + 1 ≤ 8 := by simpa using hm8
        have hr2 : Rd vB (w1.alloc (.cells #[] 5)) (some ⟨b, o, none⟩) (c :: M) := hrd1.keep (below_new (Below.refl _ _) _)
        have hnews := hr2.news
        have hone : ∀ u ∈ (c :: M).map vB, u.oneCell' = true := by
          intro u hu
          simp only [List.mem_map] at hu
          obtain ⟨x, _, rfl⟩ := hu
          rfl
        have hown0 : (w1.alloc (.cells #[] 5)).ownsRow w1.heap.size 5 1 (.slice (some ⟨w1.heap.size, 0, none⟩) 0 0) 0 [] := World.ownsRow_made w1 #[] 0 (Nat.le_refl _) (by unfold maxLen; omega) rfl
        have HN := Lib.hid hnews
        have HO := Lib.hid hone
        clear hnews hone hrd1 hr2 hm8
        go_wp2_with (at_builtin; refine wpList_append_own _ rfl _ _ 22 rfl w1.heap.size 5 i0 (.int .u8 0) 1 1 Tryz.underlying22 hi hz0 hz1 hz2 rfl (by decide) _ _ _ rfl hown0 ⟨b, o, none⟩ (M.length + 1) cap1 ((c :: M).map vB) rfl (by simp) HN.out HO.out (by unfold maxLen; omega) (by omega) (by simp) ?_; intro v' w2 hown' hgrow' _)
        go_ret
        rw [HF.out]
        refine ⟨_, rfl, own_base (base := w1.heap.size) (by simpa using hown') hbel.size, below_step hbel ?_⟩
        exact (below_new (Below.refl _ _) _).grown hgrow' (by simp) (fun g hk => (hown0.lt g hk).1)

theorem refleast_any (v : Nat) (hv : v < 18446744073709551616) (w : World) :
    Calls Tryz.prog 132 #[.int .u64 (v : Int)] w (RetS vB w (leastL v)) := (refleast_own v hv w).mono fun _ _ h => h.ret
end Go.Proofs.YteppocjgodmpdaaGreatDoor
/-
  A string as a list of bytes: its length, one byte of it, the end of it, two held together (no program is named here). No conditions but those typed.
-/
namespace Go.Proofs.YteppocjgodmpdaaGreatDoor
set_option maxRecDepth 100000
open Go.RowKit
set_option linter.unusedSimpArgs false

def strL (l : List UInt8) : ByteArray := ⟨l.toArray⟩
theorem strL_size (l : List UInt8) : (strL l).size = l.length := by simp [strL, ByteArray.size]
theorem strL_toList (l : List UInt8) : (strL l).toList = l := by unfold strL; exact ByteArray.toList_mk l
theorem strL_append (a b : List UInt8) : strL a ++ strL b = strL (a ++ b) := by
  unfold strL
  apply ByteArray.ext
  rw [ByteArray.data_append]
  simp
theorem strL_inj {a b : List UInt8} (h : strL a = strL b) : a = b := by
  have := congrArg ByteArray.toList h
  rwa [strL_toList, strL_toList] at this
theorem strL_drop (l : List UInt8) (k : Nat) : (strL l).extract k (strL l).size = strL (l.drop k) := by
  apply ByteArray.ext
  rw [ByteArray.data_extract, strL_size]
  simp [strL]
  exact List.take_of_length_le (by simp)
theorem run_index_strL {P : Program} (t : TypeId) (l : List UInt8) (i : Nat) (h : i < l.length) (ht : P.underlying t = some .string) (w : World) :
    (Instr.index t (.string (strL l)) (.int .i64 (i : Int))).run P w = .ok (.int .u8 (l[i].toNat : Int)) w := by
  rw [run_index_string w t (strL l) .i64 (i : Int) ht, dif_pos (by rw [strL_size]; omega)]
  simp [strL, ByteArray.getElem_eq_getElem_data]
theorem run_slice_strL {P : Program} (t : TypeId) (l : List UInt8) (k : Nat) (h : k ≤ l.length) (ht : P.underlying t = some .string) (w : World) :
    (Instr.slice t (.string (strL l)) (some (.int .i64 (k : Int))) none none).run P w = .ok (.string (strL (l.drop k))) w := by
  rw [run_slice_string_l w t (strL l) ht .i64 (k : Int) (by omega) (by rw [strL_size]; omega), Int.toNat_natCast, strL_drop]
end Go.Proofs.YteppocjgodmpdaaGreatDoor
/-
  Structs of three numbers and a slice of bytes (payloads, activations): as cells, as a value, in a block of their own; calls that hand back a list of bytes. No conditions but those typed.
-/
namespace Go.Proofs.YteppocjgodmpdaaGreatDoor
set_option maxRecDepth 100000
open Go.RowKit
set_option linter.unusedSimpArgs false
set_option linter.unusedVariables false

/-- A payload as its cells. -/
def cellsP (t e c : Nat) (A : Option Addr) (n k : Nat) : List Value := [.int .u64 (t : Int), .int .u64 (e : Int), .int .u64 (c : Int), .slice A n k]
def aggP (t e c : Nat) (A : Option Addr) (n k : Nat) : Value := .agg #[.int .u64 (t : Int), .int .u64 (e : Int), .int .u64 (c : Int), .slice A n k]
theorem box_pay (w : World) (ty : TypeId) (a b c d : Value) : Row (w.alloc (.cells #[a, b, c, d] ty)) w.heap.size ty [a, b, c, d] ∧ Below w.heap.size w (w.alloc (.cells #[a, b, c, d] ty)) := ⟨Row.new w ty _ _ rfl, below_new (Below.refl _ _) _⟩
def sameF (t e c : Nat) (g : List UInt8) (t' e' c' : Nat) (g' : List UInt8) : Bool := decide (t = t' ∧ e = e' ∧ c = c' ∧ g = g')
/-- A call that hands back a list of bytes. -/
def RetZ (w : World) (l : List UInt8) (e : Ending) (w' : World) : Prop := ∃ A n c, e = .returned (.slice A n c) ∧ Hid (l.length = n) ∧ n ≤ c ∧ Rd vB w' A l ∧ Below w.heap.size w w'
theorem RetZ.own {w w' : World} {l : List UInt8} {base : Nat} {e : TypeId} {v : Value} {n : Nat} (hn : l.length = n) (h : w'.ownsRow base e 1 v n (l.map vB)) (hb : Below w.heap.size w w') : RetZ w l (.returned v) w' := by
  subst hn
  obtain ⟨A, c, rfl, hc, hr⟩ := own_slice h
  exact ⟨A, l.length, c, rfl, rfl, hc, hr, hb⟩

theorem own_lit (w : World) (e : TypeId) (l : List Value) (cs : Array Value) (h : cs = l.toArray) (hm : l.length ≤ maxLen) : (w.alloc (.cells cs e)).ownsRow w.heap.size e 1 (.slice (some ⟨w.heap.size, 0, none⟩) l.length l.length) l.length l :=
  ⟨by simp, .inr ⟨w.heap.size, l.length, cs, rfl, Nat.le_refl _, heap_alloc_new w _, Nat.le_refl _, hm, by subst h; simp, by subst h; simp⟩⟩
theorem one_four (a b c d : Value) (ha : a.oneCell' = true) (hb : b.oneCell' = true) (hc : c.oneCell' = true) (hd : d.oneCell' = true) : ∀ v ∈ [a, b, c, d], v.oneCell' = true := fun v hv => by
  simp at hv
  rcases hv with rfl | rfl | rfl | rfl <;> assumption
theorem strBz (n : Nat) {w : World} {A : Option Addr} {l : List UInt8} {c : Nat} (H : Hid (l.length = n)) (h : Rd vB w A l) : ∀ W, Below w.heap.size w W → (convert 22 9 (.slice A n c)).run Tryz.prog W = .ok (.string (strL l)) W :=
  fun W hW => run_str W _ _ _ Tryz.underlying22 Tryz.underlying5 Tryz.underlying9 A l n c H.out (h.keep hW)
theorem str_sameB (a b : List UInt8) (S : Bool) (h : (a = b) ↔ S = true) : ((strL a).toList == (strL b).toList) = S := by
  rw [strL_toList, strL_toList, Bool.eq_iff_iff, beq_iff_eq]
  exact h
theorem same_selfP (t e c : Nat) (g : List UInt8) : sameF t e c g t e c g = true := by unfold sameF; simp
end Go.Proofs.YteppocjgodmpdaaGreatDoor
/-
  What the reference's calls Same, Msg and Write of layer 12 answer. No conditions but those typed.
-/
namespace Go.Proofs.YteppocjgodmpdaaGreatDoor
set_option maxRecDepth 100000
open Go.RowKit
set_option linter.unusedSimpArgs false
set_option linter.unusedVariables false

set_option maxRecDepth 100000 in
set_option maxHeartbeats 1000000 in
theorem refsame_pay (t e c t' e' c' : Nat) (g g' : List UInt8) (n n' : Nat) (A A' : Option Addr) (k k' : Nat) (w : World) (HN : Hid (g.length = n)) (HN' : Hid (g'.length = n')) (hr : Rd vB w A g) (hr' : Rd vB w A' g') :
    Calls Tryz.prog 36 #[aggP t e c A n k, aggP t' e' c' A' n' k'] w fun e₁ w' => e₁ = .returned (.bool (sameF t e c g t' e' c' g')) ∧ Below w.heap.size w w' := by
  obtain ⟨hR0, hB0⟩ := box_pay w 77 (.int .u64 (t : Int)) (.int .u64 (e : Int)) (.int .u64 (c : Int)) (.slice A n k)
  obtain ⟨hR1, hB1⟩ := box_pay (w.alloc (.cells #[.int .u64 (t : Int), .int .u64 (e : Int), .int .u64 (c : Int), .slice A n k] 77)) 77 (.int .u64 (t' : Int)) (.int .u64 (e' : Int)) (.int .u64 (c' : Int)) (.slice A' n' k')
  replace hR0 := hR0.later hB1
  have hsz : (w.alloc (.cells #[.int .u64 (t : Int), .int .u64 (e : Int), .int .u64 (c : Int), .slice A n k] 77)).heap.size = w.heap.size + 1 := by simp
  rw [hsz] at hR1
  have hB := below_step hB0 hB1
  replace hr := hr.keep hB
  replace hr' := hr'.keep hB
  obtain ⟨E, hE⟩ : ∃ E, sameF t e c g t' e' c' g' = E := ⟨_, rfl⟩
  rw [hE]
  unfold aggP
  go_enter Tryz.func36, Tryz.ntmps36
  go_upto_region 1 with fail
  generalize (w.alloc (.cells #[.int .u64 (t : Int), .int .u64 (e : Int), .int .u64 (c : Int), .slice A n k] 77)).alloc (.cells #[.int .u64 (t' : Int), .int .u64 (e' : Int), .int .u64 (c' : Int), .slice A' n' k'] 77) = W at hR0 hR1 hB hr hr' ⊢
  have c0 : W.cell? ⟨w.heap.size, 0, none⟩ = some (.int .u64 (t : Int)) := hR0.cell rfl
  have c1 : W.cell? ⟨w.heap.size, 1, none⟩ = some (.int .u64 (e : Int)) := hR0.cell rfl
  have c2 : W.cell? ⟨w.heap.size, 2, none⟩ = some (.int .u64 (c : Int)) := hR0.cell rfl
  have c3 : W.cell? ⟨w.heap.size, 3, none⟩ = some (.slice A n k) := hR0.cell rfl
  have d0 : W.cell? ⟨w.heap.size + 1, 0, none⟩ = some (.int .u64 (t' : Int)) := hR1.cell rfl
  have d1 : W.cell? ⟨w.heap.size + 1, 1, none⟩ = some (.int .u64 (e' : Int)) := hR1.cell rfl
  have d2 : W.cell? ⟨w.heap.size + 1, 2, none⟩ = some (.int .u64 (c' : Int)) := hR1.cell rfl
  have d3 : W.cell? ⟨w.heap.size + 1, 3, none⟩ = some (.slice A' n' k') := hR1.cell rfl
  clear hR0 hR1 hB0 hB1 hsz
  by_cases h0 : t = t'
  · subst h0
    by_cases h1 : e = e'
    · subst h1
      by_cases h2 : c = c'
      · subst h2
        have hs1 : (convert 22 9 (.slice A n k)).run Tryz.prog W = .ok (.string (strL g)) W := run_str W _ _ _ Tryz.underlying22 Tryz.underlying5 Tryz.underlying9 A g n k HN.out hr
        have hs2 : (convert 22 9 (.slice A' n' k')).run Tryz.prog W = .ok (.string (strL g')) W := run_str W _ _ _ Tryz.underlying22 Tryz.underlying5 Tryz.underlying9 A' g' n' k' HN'.out hr'
        have hst : ((strL g).toList == (strL g').toList) = E := by
          rw [strL_toList, strL_toList, ← hE]
          unfold sameF
          rw [Bool.eq_iff_iff, beq_iff_eq, decide_eq_true_iff]
          simp
        clear hE
        go_wp2_with fail
        go_ret
        exact ⟨rfl, hB⟩
      · have eE : E = false := by rw [← hE]; unfold sameF; exact decide_eq_false (fun h => h2 h.2.2.1)
        have hne : ((c : Int) == (c' : Int)) = false := beq_eq_false_iff_ne.2 (by omega)
        clear hE
        subst eE
        go_wp2_with fail
        go_ret
        exact ⟨rfl, hB⟩
    · have eE : E = false := by rw [← hE]; unfold sameF; exact decide_eq_false (fun h => h1 h.2.1)
      have hne : ((e : Int) == (e' : Int)) = false := beq_eq_false_iff_ne.2 (by omega)
      clear hE
      subst eE
      go_wp2_with fail
      go_ret
      exact ⟨rfl, hB⟩
  · have eE : E = false := by rw [← hE]; unfold sameF; exact decide_eq_false (fun h => h0 h.1)
    have hne : ((t : Int) == (t' : Int)) = false := beq_eq_false_iff_ne.2 (by omega)
    clear hE
    subst eE
    go_wp2_with fail
    go_ret
    exact ⟨rfl, hB⟩

/-! ### Msg -/
theorem refputF_at (v : Nat) (hv : v < 18446744073709551616) (w : World) : Calls Tryz.prog 181 #[.int .u64 (v : Int)] w fun e w' => ∃ A c, e = .returned (.slice A 8 c) ∧ 8 ≤ c ∧ Rd vB w' A (putL v) ∧ Below w.heap.size w w' :=
  (refput_any v hv w).mono fun e w' ⟨A, c, h1, h2, h3, h4⟩ => ⟨A, c, h1, h2, h3, h4⟩
end Go.Proofs.YteppocjgodmpdaaGreatDoor
/-
  append of what reads as a list onto a row of the call's own: the row's block behind it is the one it was, or a new one; blocks known whole stay (no program is named here). No conditions but those typed.
-/
namespace Go.Proofs.YteppocjgodmpdaaGreatDoor
set_option maxRecDepth 100000
open Go.RowKit

theorem Row.grown {w w' : World} {g : Nat} {t : TypeId} {l : List Value} {row : Option Nat} (h : Row w g t l) (hg : w.grownBy w' row) (hn : row ≠ some g) : Row w' g t l :=
  (hg.block g h.lt (fun e => hn e.symm)).trans h
/-- Apart from a block that was there. -/
theorem apart_of {w : World} {v v' : Value} {g : Nat} (h : v.ownBlock ≠ some g) (hg : g < w.heap.size) (hat : v'.ownBlock = v.ownBlock ∨ v'.ownBlock = some w.heap.size) : v'.ownBlock ≠ some g := by
  rcases hat with e | e
  · rw [e]; exact h
  · rw [e]
    intro h
    injection h with h
    omega
section
variable {P : Program} (w : World)
theorem run_append_apart {α : Type} {f : α → Value} (base : Nat) (t ty e : TypeId) (i : TypeInfo) (z : Value) (bytes : Nat) (ht : P.underlying t = some (.slice e)) (hi : P.info? e = some i) (hz : i.zero = some z)
    (hsize : i.size = 1) (hby : i.bytes = bytes) (hzs : z.cells.size = 1) (v : Value) (n : Nat) (xs : List Value) (hown : w.ownsRow base e 1 v n xs)
    (A : Option Addr) (l : List α) (c : Nat) (hr : Rd f w A l) (h1 : ∀ x, (f x).oneCell' = true)
    (h63 : n + l.length ≤ maxLen) (hbytes : (n + l.length) * bytes ≤ 140737488355328) (hbase : base ≤ w.heap.size) :
    ∃ v' w', (Builtin.append_ #[t, t] ty #[v, .slice A l.length c]).run P w = .ok v' w' ∧ w'.ownsRow base e 1 v' (n + l.length) (xs ++ l.map f) ∧ w.grownBy w' v.ownBlock ∧ (v'.ownBlock = v.ownBlock ∨ v'.ownBlock = some w.heap.size) := by
  have hone : ∀ u ∈ l.map f, u.oneCell' = true := by
    intro u hu
    simp only [List.mem_map] at hu
    obtain ⟨x, _, rfl⟩ := hu
    exact h1 x
  by_cases hl : l = []
  · subst hl
    cases A with
    | none => exact ⟨v, w, run_append_nothing_of w base t ty e i ht hi v n xs hown c, by simpa using hown, ⟨rfl, rfl, rfl, Nat.le_refl _, fun _ _ _ => rfl⟩, .inl rfl⟩
    | some ad =>
      obtain ⟨v', w', hrun, h2, h3, _, h4⟩ := run_append_own_at (P := P) w base t ty e i z 1 bytes ht hi hz hsize hby hzs (by omega) v n xs hown ad 0 c [] rfl (fun j u h => by simp at h) (fun u h => by simp at h) h63 hbytes hbase
      exact ⟨v', w', hrun, h2, h3, h4⟩
  · obtain ⟨b, o, rfl, _⟩ := hr hl
    obtain ⟨v', w', hrun, h2, h3, _, h4⟩ := run_append_own_at (P := P) w base t ty e i z 1 bytes ht hi hz hsize hby hzs (by omega) v n xs hown ⟨b, o, none⟩ l.length c (l.map f) (by simp) hr.news hone h63 hbytes hbase
    exact ⟨v', w', hrun, h2, h3, h4⟩

theorem wp_append_apart {α : Type} {f : α → Value} {o : Oper} {a : Act} {K : Act → World → Prop} {Q : Exit → Act → World → Prop} (s x : Operand) (t : TypeId)
    (ho : o.op = .call { callee := .builtin .append, args := #[s, x], argTypes := #[t, t] })
    (base : Nat) (e : TypeId) (i : TypeInfo) (z : Value) (bytes : Nat) (ht : P.underlying t = some (.slice e)) (hi : P.info? e = some i) (hz : i.zero = some z)
    (hsize : i.size = 1) (hby : i.bytes = bytes) (hzs : z.cells.size = 1) (v : Value) (n : Nat) (xs : List Value) (hs : a.eval s = v) (hown : w.ownsRow base e 1 v n xs)
    (A : Option Addr) (l : List α) (c : Nat) (hx : a.eval x = .slice A l.length c) (hr : Rd f w A l) (h1 : ∀ x, (f x).oneCell' = true)
    (h63 : n + l.length ≤ maxLen) (hbytes : (n + l.length) * bytes ≤ 140737488355328) (hbase : base ≤ w.heap.size)
    (h : ∀ v' w', w'.ownsRow base e 1 v' (n + l.length) (xs ++ l.map f) → w.grownBy w' v.ownBlock → (v'.ownBlock = v.ownBlock ∨ v'.ownBlock = some w.heap.size) → K (a.put o.dst v') w') : o.wp P a w K Q := by
  obtain ⟨v', w', hr, h2, h3, h4⟩ := run_append_apart (P := P) w base t o.type e i z bytes ht hi hz hsize hby hzs v n xs hown A l c hr h1 h63 hbytes hbase
  unfold Oper.wp execOp
  simp only [ho, resolve, invoke, builtin, Sem.run_bind, Sem.run_pure, Result.andThen_ok, List.map_toArray, List.map_cons, List.map_nil, hs, hx, hr]
  exact h v' w' h2 h3 h4

theorem wpList_append_apart {α : Type} {f : α → Value} {ops : Array Oper} {rest : List Oper} {o : Oper} {a : Act} {Q : Exit → Act → World → Prop} (hgd : o.guard = none) (s x : Operand) (t : TypeId)
    (ho : o.op = .call { callee := .builtin .append, args := #[s, x], argTypes := #[t, t] })
    (base : Nat) (e : TypeId) (i : TypeInfo) (z : Value) (bytes : Nat) (ht : P.underlying t = some (.slice e)) (hi : P.info? e = some i) (hz : i.zero = some z)
    (hsize : i.size = 1) (hby : i.bytes = bytes) (hzs : z.cells.size = 1) (v : Value) (n : Nat) (xs : List Value) (hs : a.eval s = v) (hown : w.ownsRow base e 1 v n xs)
    (A : Option Addr) (l : List α) (c : Nat) (hx : a.eval x = .slice A l.length c) (hr : Rd f w A l) (h1 : ∀ x, (f x).oneCell' = true)
    (h63 : n + l.length ≤ maxLen) (hbytes : (n + l.length) * bytes ≤ 140737488355328) (hbase : base ≤ w.heap.size)
    (h : ∀ v' w', w'.ownsRow base e 1 v' (n + l.length) (xs ++ l.map f) → w.grownBy w' v.ownBlock → (v'.ownBlock = v.ownBlock ∨ v'.ownBlock = some w.heap.size) → wpList P ops Q rest (a.put o.dst v') w') : wpList P ops Q (o :: rest) a w :=
  wpList_plain hgd fun _ hK => wp_append_apart w s x t ho base e i z bytes ht hi hz hsize hby hzs v n xs hs hown A l c hx hr h1 h63 hbytes hbase fun v' w' h2 h3 h4 => hK _ _ (h v' w' h2 h3 h4)
end
end Go.Proofs.YteppocjgodmpdaaGreatDoor
/-
  What the reference's call Write of layer 12 answers. No conditions but those typed.
-/
namespace Go.Proofs.YteppocjgodmpdaaGreatDoor
set_option maxRecDepth 100000
open Go.RowKit
set_option linter.unusedSimpArgs false
set_option linter.unusedVariables false

def preF (N : List Nat) (i : Nat) : List UInt8 := 87 :: (N.take i).flatMap numF
theorem pre_next (N : List Nat) (i : Nat) (h : i < N.length) : preF N (i + 1) = preF N i ++ numF N[i] := by
  unfold preF
  rw [List.take_succ_eq_append_getElem h, List.flatMap_append, List.cons_append]
  simp
theorem pre_length (N : List Nat) (i : Nat) : (preF N i).length ≤ 1 + 9 * i := by
  induction i with
  | zero => simp [preF]
  | succ i ih =>
    rcases Nat.lt_or_ge i N.length with h | h
    · rw [pre_next N i h, List.length_append]
      have := (num_length N[i]).2
      omega
    · have e : preF N (i + 1) = preF N i := by unfold preF; rw [List.take_of_length_le (by omega), List.take_of_length_le h]
      rw [e]
      omega
theorem pre_write (t e c : Nat) (tag : List UInt8) : preF [t, e, c] 3 ++ tag = writeF t e c tag := by simp [preF, writeF]
def uV (x : Nat) : Value := .int .u64 (x : Int)
def WrR (N : List Nat) (cp : List Value) (w : World) (v iv : Value) (wr : World) : Prop :=
  ∃ i : Nat, i ≤ 3 ∧ iv = .int .i64 (i : Int) ∧ wr.ownsRow (w.heap.size + 1) 5 1 v (preF N i).length ((preF N i).map vB) ∧ v.ownBlock ≠ some (w.heap.size + 2) ∧ Row wr w.heap.size 77 cp ∧ Row wr (w.heap.size + 2) 28 (N.map uV) ∧ Below w.heap.size w wr

set_option maxRecDepth 100000 in
set_option maxHeartbeats 2000000 in
theorem refwriteF_any (t e c : Nat) (tag : List UInt8) (n : Nat) (A : Option Addr) (k : Nat) (w : World) (ht : t < 18446744073709551616) (he : e < 18446744073709551616) (hc : c < 18446744073709551616) (HN : Hid (tag.length = n)) (hr : Rd vB w A tag) (hn : n ≤ 100000) :
    Calls Tryz.prog 74 #[aggP t e c A n k] w (RetZ w (writeF t e c tag)) := by
  obtain ⟨i0, hi, hz0, hz1, hz2⟩ := info_parts info_u8
  obtain ⟨hR0, hB0⟩ := box_pay w 77 (.int .u64 (t : Int)) (.int .u64 (e : Int)) (.int .u64 (c : Int)) (.slice A n k)
  have hsz : (w.alloc (.cells #[.int .u64 (t : Int), .int .u64 (e : Int), .int .u64 (c : Int), .slice A n k] 77)).heap.size = w.heap.size + 1 := by simp
  have HALL : Hid (∀ x ∈ [t, e, c], x < 18446744073709551616) := fun x hx => by
    simp at hx
    rcases hx with rfl | rfl | rfl <;> assumption
  unfold aggP
  go_enter Tryz.func74, Tryz.ntmps74
  go_upto_region 1 with fail
  generalize (w.alloc (.cells #[.int .u64 (t : Int), .int .u64 (e : Int), .int .u64 (c : Int), .slice A n k] 77)) = W0 at hR0 hB0 hsz ⊢
  have hown0 := own_lit W0 5 ([(87 : UInt8)].map vB) #[.int .u8 87] rfl (by unfold maxLen; simp)
  have hbn := below_new (Below.refl W0.heap.size W0) (.cells #[.int .u8 87] 5)
  have hs1 : (W0.alloc (.cells #[.int .u8 87] 5)).heap.size = w.heap.size + 2 := by simp; omega
  rw [hsz] at hown0
  replace hR0 := hR0.later hbn
  replace hB0 := below_step hB0 hbn
  go_upto_region 2 with fail
  generalize W0.alloc (.cells #[.int .u8 87] 5) = W1 at hown0 hR0 hB0 hs1 ⊢
  have c0 : W1.cell? ⟨w.heap.size, 0, none⟩ = some (.int .u64 (t : Int)) := hR0.cell rfl
  have c1 : W1.cell? ⟨w.heap.size, 1, none⟩ = some (.int .u64 (e : Int)) := hR0.cell rfl
  have c2 : W1.cell? ⟨w.heap.size, 2, none⟩ = some (.int .u64 (c : Int)) := hR0.cell rfl
  have hR2 : Row (W1.alloc (.cells #[.int .u64 (t : Int), .int .u64 (e : Int), .int .u64 (c : Int)] 28)) (w.heap.size + 2) 28 ([t, e, c].map uV) := Row.new_at _ _ hs1.symm _ _ _ rfl
  have hbn2 := below_new (Below.refl W1.heap.size W1) (.cells #[.int .u64 (t : Int), .int .u64 (e : Int), .int .u64 (c : Int)] 28)
  replace hown0 := ownsRow_later hown0 hbn2
  replace hR0 := hR0.later hbn2
  replace hB0 := below_step hB0 hbn2
  clear hbn hbn2
  go_upto_region 3 with fail
  generalize W1.alloc (.cells #[.int .u64 (t : Int), .int .u64 (e : Int), .int .u64 (c : Int)] 28) = W2 at hown0 hR0 hR2 hB0 ⊢
  have HPW : Hid (preF [t, e, c] 3 ++ tag = writeF t e c tag) := pre_write t e c tag
  clear c0 c1 c2 hs1 hsz ht he hc
  have hN3 : [t, e, c].length = 3 := rfl
  generalize [t, e, c] = N at hR2 HALL HPW hN3
  go_wp2_with fail
  go_loopw [3, 5] (fun v iv wr => WrR N [.int .u64 (t : Int), .int .u64 (e : Int), .int .u64 (c : Int), .slice A n k] w v iv wr) (fun _ i _ => 3 - (intOf i).toNat)
  case atStart => exact ⟨0, by omega, rfl, hown0, by simp [Value.ownBlock], hR0, hR2, hB0⟩
  case round =>
    clear hown0 hR0 hR2 hB0
    obtain ⟨i, hi3, rfl, hown, hap, hRp, hRn, hbel⟩ := hrel
    have hpl := pre_length N i
    by_cases h : i < 3
    · have hiN : i < N.length := by omega
      have HPN := Lib.hid (pre_next N i hiN)
      have hx := HALL.out N[i] (List.getElem_mem hiN)
      have hcell : wr.cell? ⟨w.heap.size + 2, i, none⟩ = some (.int .u64 (N[i] : Int)) := hRn.cell (by simp [hiN, uV])
      have i1 : (i : Int) < 3 := by omega
      have i0' : (0 : Int) ≤ (i : Int) := by omega
      generalize N[i] = x at hx hcell HPN
      have HX := Lib.hid hx
      generalize preF N i = P at hown hpl HPN
      clear hx
      go_wp2_with fail
      refine (refleast_own x HX.out _).mono ?_
      rintro ee w1 ⟨vx, rfl, hownx, hb1⟩
      obtain ⟨A1, c1, rfl, hc1, hr1⟩ := own_slice hownx
      have hA1 : ∀ a, A1 = some a → wr.heap.size ≤ a.block := fun a ha => (hownx.lt a.block (by rw [ha]; rfl)).1
      have hvb : ∀ b, Value.ownBlock u3 = some b → b < wr.heap.size := fun b hb => (hown.lt b hb).2
      clear hownx
      have hll := leastL_length x
      have HNM : Hid (numF x = UInt8.ofNat (leastL x).length :: leastL x) := rfl
      generalize leastL x = L at hc1 hr1 hll HNM
      obtain ⟨m, hm⟩ : ∃ m, L.length = m := ⟨_, rfl⟩
      have hy : (UInt8.ofNat m).toNat = m := by rw [UInt8.toNat_ofNat']; omega
      have HM := Lib.hid hm
      rw [hm] at hc1 hll HNM ⊢
      generalize UInt8.ofNat m = y at hy HNM
      have hyi : IntKind.u8.wrap (m : Int) = (y.toNat : Int) := by rw [IntKind.wrap_u8', hy]; omega
      have hyj : (m : Int) % 256 = (y.toNat : Int) := by rw [hy]; omega
      have hown1 := ownsRow_later hown hb1
      have hRp1 := hRp.later hb1
      have hRn1 := hRn.later hb1
      have hB1 := below_step hbel hb1
      have hsz1 := hB1.size
      have hgl := hRn.lt
      have hs11 := hb1.size
      have hry : Rd vB (w1.alloc (.cells #[.int .u8 (y.toNat : Int)] 5)) (some ⟨w1.heap.size, 0, none⟩) [y] := Rd.new w1 [y] _ _ rfl
      have hbn := below_new (Below.refl w1.heap.size w1) (.cells #[.int .u8 (y.toNat : Int)] 5)
      have hbs := hbn.size
      replace hown1 := ownsRow_later hown1 hbn
      replace hRp1 := hRp1.later hbn
      replace hRn1 := hRn1.later hbn
      replace hr1 := hr1.keep hbn
      replace hB1 := below_step hB1 hbn
      clear hown hRp hRn hbel hb1 hbn hm hy hcell
      go_upto_region 8 with (at_builtin; refine wpList_append_apart _ rfl (.tmp 24) (.tmp 28) 22 rfl (w.heap.size + 1) 5 i0 (.int .u8 0) 1 Tryz.underlying22 hi hz0 hz1 hz2 rfl _ _ _ rfl hown1 _ ([y]) 1 rfl hry vB_one (by show P.length + 1 ≤ maxLen; unfold maxLen; omega) (by show (P.length + 1) * 1 ≤ _; omega) (by omega) ?_; intro v3 w3 hown3 hgrow3 hat3)
      have hap3 := apart_of hap (by omega) hat3
      have hB3 : Below w.heap.size w w3 := hB1.grown hgrow3 (by omega) (fun k hk => by have := (hown1.lt k hk).1; omega)
      have hRp3 := hRp1.grown hgrow3 (fun e => by have := (hown1.lt _ e).1; omega)
      have hRn3 := hRn1.grown hgrow3 hap
      have hr3 := hr1.grown hgrow3 (fun a ha e => by have h1 := hA1 a ha; have h2 := hvb _ e; omega)
      have hA1v : ∀ a, A1 = some a → Value.ownBlock v3 ≠ some a.block ∨ True := fun _ _ => .inr trivial
      clear hown1 hgrow3 hRp1 hRn1 hr1 hB1 hA1v
      have e1 : P.length + [y].length = (P ++ [y]).length := by rw [List.length_append]
      have e2 : P.map vB ++ [y].map vB = (P ++ [y]).map vB := by rw [List.map_append]
      rw [e1, e2] at hown3
      have hP1 : (P ++ [y]).length ≤ 100 := by rw [List.length_append]; simp; omega
      have HPP : Hid (preF N (i + 1) = (P ++ [y]) ++ L) := by unfold Hid; rw [HPN.out, HNM.out]; simp
      generalize P ++ [y] = P1 at hown3 hP1 HPP
      have hgl3 := hRn3.lt
      clear e1 e2 hap
      go_wp2_with (at_builtin; refine wpList_append_apart _ rfl (.tmp 30) (.tmp 31) 22 rfl (w.heap.size + 1) 5 i0 (.int .u8 0) 1 Tryz.underlying22 hi hz0 hz1 hz2 rfl _ _ _ rfl hown3 A1 L c1 (by rw [HM.out]; rfl) hr3 vB_one (by rw [HM.out]; unfold maxLen; omega) (by rw [HM.out]; omega) (by omega) ?_; intro v4 w4 hown4 hgrow4 hat4)
      have hB4 : Below w.heap.size w w4 := hB3.grown hgrow4 hB3.size (fun k hk => by have := (hown3.lt k hk).1; omega)
      have HREL : Hid (WrR N [.int .u64 (t : Int), .int .u64 (e : Int), .int .u64 (c : Int), .slice A n k] w v4 (.int .i64 ((i : Int) + 1)) w4) :=
        ⟨i + 1, by omega, by go_num, by rw [HPP.out, List.length_append, List.map_append]; exact hown4, apart_of hap3 hgl3 hat4, hRp3.grown hgrow4 (fun e => by have := (hown3.lt _ e).1; omega), hRn3.grown hgrow4 hap3, hB4⟩
      clear hown4 hgrow4 hown3 hB4 hB3 hRp3 hRn3
      go_wp2_with fail
      go_roundw
      case rel => exact HREL.out
      case measure => simp [intOf] <;> omega
    · have ei : i = 3 := by omega
      subst ei
      have hcell : wr.cell? ⟨w.heap.size, 3, none⟩ = some (.slice A n k) := hRp.cell rfl
      have hrt := hr.keep hbel
      have hs := hRn.lt
      have i1 : ¬ (3 : Int) < 3 := by omega
      generalize preF N 3 = P at hown hpl HPW
      go_wp2_with (at_builtin; refine wpList_append_apart _ rfl (.tmp 33) (.tmp 35) 22 rfl (w.heap.size + 1) 5 i0 (.int .u8 0) 1 Tryz.underlying22 hi hz0 hz1 hz2 rfl _ _ _ rfl hown A tag k (by rw [HN.out]; rfl) hrt vB_one (by rw [HN.out]; unfold maxLen; omega) (by rw [HN.out]; omega) (by omega) ?_; intro v4 w4 hown4 hgrow4 hat4)
      go_ret
      have hB4 : Below w.heap.size w w4 := hbel.grown hgrow4 hbel.size (fun k hk => by have := (hown.lt k hk).1; omega)
      rw [← HPW.out]
      rw [← List.map_append] at hown4
      exact RetZ.own (by rw [List.length_append]) hown4 hB4
end Go.Proofs.YteppocjgodmpdaaGreatDoor
/-
  What bytes.Clone, slices.Clone, slices.Grow (of nil) and slices.Concat answer at lists of bytes: new memory that reads as the bytes did. Conditions: bounds on lengths, as typed.
-/
namespace Go.Proofs.YteppocjgodmpdaaGreatDoor
set_option maxRecDepth 100000
open Go.RowKit
set_option linter.unusedSimpArgs false

/-- What a call that hands back a slice in new memory says of it. -/
def RetN {α : Type} (f : α → Value) (w : World) (l : List α) (e : Ending) (w' : World) : Prop :=
  ∃ A cap, e = .returned (.slice A l.length cap) ∧ l.length ≤ cap ∧ Rd f w' A l ∧ (∀ a, A = some a → w.heap.size ≤ a.block) ∧ Below w.heap.size w w'
theorem RetN.own {α : Type} {f : α → Value} {w w' : World} {l : List α} {e : TypeId} {v : Value} (h : w'.ownsRow w.heap.size e 1 v l.length (l.map f)) (hb : Below w.heap.size w w') : RetN f w l (.returned v) w' := by
  rcases h.2 with ⟨rfl, h0⟩ | ⟨g, cap, cur, rfl, hg, _, hc, _⟩
  · have hl : l = [] := List.eq_nil_of_length_eq_zero h0
    subst hl
    exact ⟨none, 0, rfl, Nat.le_refl _, Rd.nil, (fun a h => by cases h), hb⟩
  · exact ⟨_, cap, rfl, hc, Rd.own h, (fun a ha => by injection ha with ha; subst ha; exact hg), hb⟩
theorem RetN.ret {α : Type} {f : α → Value} {w w' : World} {l : List α} {e : Ending} (h : RetN f w l e w') : RetS f w l e w' := by
  obtain ⟨A, cap, h1, h2, h3, _, h5⟩ := h
  exact ⟨A, cap, h1, h2, h3, h5⟩

theorem clone_own (b : List UInt8) (A : Option Addr) (c : Nat) (w : World) (hr : Rd vB w A b) (hl : b.length ≤ 70368744177664) : Calls Tryz.prog 112 #[.slice A b.length c] w (RetO 5 vB w b) := by
  obtain ⟨i0, hi, hz0, hz1, hz2⟩ := info_parts info_u8
  cases A with
  | none =>
    have hb : b = [] := by
      by_cases h : b = []
      · exact h
      · obtain ⟨_, _, e, _⟩ := hr h
        cases e
    subst hb
    have hnil : ∀ W, (binOp .eql 22 (.slice none 0 c) (.slice none 0 0)).run Tryz.prog W = .ok (.bool true) W := fun W => Lib.run_eql_slice_nil W _ _ none 0 c 0 0 Tryz.underlying22
    go_enter Tryz.func112, Tryz.ntmps112
    go_wp2_with fail
    go_ret
    exact ⟨_, rfl, World.ownsRow_nil _ _ _ _, Below.refl _ _⟩
  | some a =>
    have hnil : ∀ W, (binOp .eql 22 (.slice (some a) b.length c) (.slice none 0 0)).run Tryz.prog W = .ok (.bool false) W := fun W => Lib.run_eql_slice_nil W _ _ (some a) b.length c 0 0 Tryz.underlying22
    have hown0 : (w.alloc (.cells #[] 5)).ownsRow w.heap.size 5 1 (.slice (some ⟨w.heap.size, 0, none⟩) 0 0) 0 [] := World.ownsRow_made w #[] 0 (Nat.le_refl _) (by unfold maxLen; omega) rfl
    have hr0 : Rd vB (w.alloc (.cells #[] 5)) (some a) b := hr.keep (below_new (Below.refl _ _) _)
    go_enter Tryz.func112, Tryz.ntmps112
    go_wp2_with (at_builtin; refine wpList_append_rd _ rfl (.tmp 5) (.tmp 6) 22 rfl w.heap.size 5 i0 (.int .u8 0) 1 Tryz.underlying22 hi hz0 hz1 hz2 rfl _ _ _ rfl hown0 (some a) b c rfl hr0 vB_one (by unfold maxLen; omega) (by omega) (by simp) ?_; intro v1 w1 hown1 hgrow1)
    go_ret
    rw [Nat.zero_add, List.nil_append] at hown1
    exact ⟨_, rfl, hown1, (below_new (Below.refl _ w) _).grown hgrow1 (by simp) (fun k hk => (hown0.lt k hk).1)⟩
theorem clone_b (b : List UInt8) (A : Option Addr) (c : Nat) (w : World) (hr : Rd vB w A b) (hl : b.length ≤ 70368744177664) : Calls Tryz.prog 112 #[.slice A b.length c] w (RetN vB w b) :=
  (clone_own b A c w hr hl).mono fun e w' ⟨v, he, ho, hb⟩ => by subst he; exact RetN.own ho hb


theorem grow_nil (n : Nat) (w : World) (hn : n ≤ 140737488355328) : Calls Tryz.prog 257 #[.slice none 0 0, .int .i64 (n : Int)] w (RetO 5 vB w []) := by
  obtain ⟨i0, hi, hz0, hz1, hz2⟩ := info_parts info_u8
  by_cases h0 : n = 0
  · subst h0
    go_enter Tryz.func257, Tryz.ntmps257
    go_wp2_with fail
    go_ret
    exact ⟨_, rfl, World.ownsRow_nil _ _ _ _, Below.refl _ _⟩
  · have hp : (0 : Int) < (n : Int) := by omega
    have happ := Lib.run_append_nil_zeros (P := Tryz.prog) w 22 3 22 5 i0 (.int .u8 0) .i64 .i64 Tryz.underlying22 Tryz.underlying3 hi hz0 n (by omega) (by omega) (by omega) (by rw [hz2]; omega)
    have hge := grownCap_ge w n 0 5
    have hle := grownCap_le_maxLen w n 0 5 (by unfold maxLen; omega)
    generalize grownCap w n 0 5 = cap2 at happ hge hle
    have hZs : (Builtin.zeroCells (Value.int .u8 0).cells n ++ Builtin.zeroCells (Value.int .u8 0).cells (cap2 - n)).size = cap2 := by simp [size_zeroCells, Value.cells]; omega
    generalize (Builtin.zeroCells (Value.int .u8 0).cells n ++ Builtin.zeroCells (Value.int .u8 0).cells (cap2 - n)) = Z at happ hZs
    have HO : Hid ((w.drew.alloc (.cells Z 5)).ownsRow w.heap.size 5 1 (.slice (some ⟨w.heap.size, 0, none⟩) 0 cap2) 0 []) := World.ownsRow_made w.drew Z cap2 (Nat.le_refl _) hle (by rw [hZs, Nat.mul_one])
    have HB : Hid (Below w.heap.size w (w.drew.alloc (.cells Z 5))) := (Below.refl _ w).drew.alloc (Nat.le_refl _) _
    unfold maxLen at hle
    clear hZs hge
    go_enter Tryz.func257, Tryz.ntmps257
    go_wp2_with (at_builtin; refine Lib.wpList_append_run _ rfl (.tmp 20) (.tmp 21) _ _ rfl _ _ rfl rfl _ _ happ ?_)
    go_ret
    exact ⟨_, rfl, HO.out, HB.out⟩

/-- A part of what is put together: its memory, its room, its bytes. -/
structure Part where
  A : Option Addr
  cap : Nat
  l : List UInt8
def vPart (p : Part) : Value := .slice p.A p.l.length p.cap
def flatL (ps : List Part) : List UInt8 := ps.flatMap (·.l)
theorem flatL_take (ps : List Part) (k : Nat) (h : k < ps.length) : flatL (ps.take (k + 1)) = flatL (ps.take k) ++ ps[k].l := by
  unfold flatL
  rw [List.take_succ_eq_append_getElem h, List.flatMap_append]
  simp
theorem flatL_le (ps : List Part) (k : Nat) : (flatL (ps.take k)).length ≤ (flatL ps).length := by
  conv => rhs; rw [← List.take_append_drop k ps]
  unfold flatL
  rw [List.flatMap_append, List.length_append]
  omega

def ConcatRel (ps : List Part) (w : World) (v i : Value) (wr : World) : Prop :=
  ∃ k : Nat, k ≤ ps.length ∧ i = .int .i64 (k : Int) ∧ wr.ownsRow w.heap.size 5 1 v (flatL (ps.take k)).length ((flatL (ps.take k)).map vB) ∧ Below w.heap.size w wr
theorem concat_round {ps : List Part} {w wr w1 : World} {k : Nat} {u v : Value} {l : List UInt8} (hk : k < ps.length) (HF : Hid (flatL (ps.take (k + 1)) = flatL (ps.take k) ++ l)) (ho : wr.ownsRow w.heap.size 5 1 u (flatL (ps.take k)).length ((flatL (ps.take k)).map vB)) (hb : Below w.heap.size w wr)
    (ho' : w1.ownsRow w.heap.size 5 1 v ((flatL (ps.take k)).length + l.length) ((flatL (ps.take k)).map vB ++ l.map vB)) (hg : wr.grownBy w1 u.ownBlock) : ConcatRel ps w v (.int .i64 ((k : Int) + 1)) w1 :=
  ⟨k + 1, by omega, by go_num, by rw [HF.out, List.length_append, List.map_append]; exact ho', hb.grown hg hb.size (fun x hx => (ho.lt x hx).1)⟩

theorem concat_own (ps : List Part) (A : Option Addr) (c : Nat) (w : World) (hr : Rd vPart w A ps) (hn : ps.length ≤ 9223372036854775807) (hp : ∀ p ∈ ps, Rd vB w p.A p.l) (hl : (flatL ps).length ≤ 70368744177664) :
    Calls Tryz.prog 228 #[.slice A ps.length c] w (RetO 5 vB w (flatL ps)) := by
  obtain ⟨i0, hi, hz0, hz1, hz2⟩ := info_parts info_u8
  have HP := Lib.hid hp
  clear hp
  go_enter Tryz.func228, Tryz.ntmps228
  go_wp2_with fail
  go_loop [3, 11] (fun v i => ∃ k : Nat, k ≤ ps.length ∧ i = .int .i64 k ∧ v = .int .i64 ((flatL (ps.take k)).length : Int)) (fun _ i => ps.length - (intOf i).toNat)
  case atStart => exact ⟨0, Nat.zero_le _, rfl, rfl⟩
  case round =>
    obtain ⟨k, hk, rfl, rfl⟩ := hrel
    have hle := flatL_le ps k
    by_cases hlt : k < ps.length
    · obtain ⟨blk, o, rfl, hb, hcell⟩ := hr.at hlt
      have hc0 := hcell k hlt
      have HF := Lib.hid (congrArg List.length (flatL_take ps k hlt))
      have hle2 := flatL_le ps (k + 1)
      rw [HF.out, List.length_append] at hle2
      rw [List.length_append] at HF
      generalize ps[k] = p at hc0 HF hle2
      unfold vPart at hc0
      clear hcell hr
      have i1 : (0 : Int) ≤ (k : Int) := by omega
      have i2 : (k : Int) < (ps.length : Int) := by omega
      go_wp2_with fail
      go_round
      case rel => exact ⟨k + 1, by omega, by go_num, by rw [HF.out]; go_num⟩
      case measure => simp [intOf]; omega
    · have hkk : k = ps.length := by omega
      subst hkk
      have HT : Hid (flatL (ps.take ps.length) = flatL ps) := by unfold Hid; rw [List.take_length]
      rw [HT.out] at hle ⊢
      generalize hN : (flatL ps).length = N at hl hle
      have HN := Lib.hid hN
      clear hN
      go_wp2_with fail
      refine (grow_nil N _ (by omega)).mono ?_
      rintro e w1 ⟨v1, rfl, hown1, hb1⟩
      go_wp2_with fail
      go_loopw [6, 27] (fun v i wr => ConcatRel ps w v i wr) (fun _ i _ => ps.length - (intOf i).toNat)
      case atStart => exact ⟨0, Nat.zero_le _, rfl, hown1, hb1⟩
      case round =>
        clear hown1 hb1
        obtain ⟨k, hk, rfl, hown, hbel⟩ := hrel
        by_cases hlt : k < ps.length
        · obtain ⟨blk, o, rfl, hb, hcell⟩ := hr.at hlt
          have hc0 : wr.cell? ⟨blk, o + k, none⟩ = some (vPart ps[k]) := (hbel.cell (p := ⟨blk, o + k, none⟩) hb).trans (hcell k hlt)
          have HF := Lib.hid (flatL_take ps k hlt)
          have hpk := (HP.out ps[k] (List.getElem_mem hlt)).keep hbel
          have hle2 := flatL_le ps (k + 1)
          rw [HF.out, List.length_append, HN.out] at hle2
          generalize ps[k] = p at hc0 HF hle2 hpk
          unfold vPart at hc0
          clear hcell hr
          have i1 : (0 : Int) ≤ (k : Int) := by omega
          have i2 : (k : Int) < (ps.length : Int) := by omega
          go_wp2_with (at_builtin; refine wpList_append_rd _ rfl (.tmp 31) (.tmp 32) 22 rfl w.heap.size 5 i0 (.int .u8 0) 1 Tryz.underlying22 hi hz0 hz1 hz2 rfl _ _ _ rfl hown p.A p.l p.cap rfl hpk vB_one (by unfold maxLen; omega) (by omega) hbel.size ?_; intro v2 w2 hown2 hgrow2)
          go_roundw
          case rel => exact concat_round hlt HF hown hbel hown2 hgrow2
          case measure => simp [intOf]; omega
        · have hkk : k = ps.length := by omega
          subst hkk
          rw [HT.out] at hown
          go_wp2_with fail
          go_ret
          exact ⟨_, rfl, hown, hbel⟩
theorem concat_any (ps : List Part) (A : Option Addr) (c : Nat) (w : World) (hr : Rd vPart w A ps) (hn : ps.length ≤ 9223372036854775807) (hp : ∀ p ∈ ps, Rd vB w p.A p.l) (hl : (flatL ps).length ≤ 70368744177664) :
    Calls Tryz.prog 228 #[.slice A ps.length c] w (RetN vB w (flatL ps)) :=
  (concat_own ps A c w hr hn hp hl).mono fun e w' ⟨v, he, ho, hb⟩ => by subst he; exact RetN.own ho hb
theorem concat_two_own (r b T : List UInt8) (A B : Option Addr) (c d g k : Nat) (w : World) (HT : Hid (T = r ++ b)) (hp : Rd vPart w (some ⟨g, 0, none⟩) [⟨A, c, r⟩, ⟨B, d, b⟩]) (hr : Rd vB w A r) (hb : Rd vB w B b) (hl : T.length ≤ 70368744177664) :
    Calls Tryz.prog 228 #[.slice (some ⟨g, 0, none⟩) 2 k] w (RetO 5 vB w T) := by
  have e : flatL [⟨A, c, r⟩, ⟨B, d, b⟩] = T := by rw [HT.out]; simp [flatL]
  have := concat_own [⟨A, c, r⟩, ⟨B, d, b⟩] (some ⟨g, 0, none⟩) k w hp (by simp) (fun p hp => by
    simp only [List.mem_cons, List.not_mem_nil, or_false] at hp
    rcases hp with rfl | rfl
    · exact hr
    · exact hb) (by rw [e]; exact hl)
  rw [e] at this
  exact this
theorem concat_two (r b T : List UInt8) (A B : Option Addr) (c d g k : Nat) (w : World) (HT : Hid (T = r ++ b)) (hp : Rd vPart w (some ⟨g, 0, none⟩) [⟨A, c, r⟩, ⟨B, d, b⟩]) (hr : Rd vB w A r) (hb : Rd vB w B b) (hl : T.length ≤ 70368744177664) :
    Calls Tryz.prog 228 #[.slice (some ⟨g, 0, none⟩) 2 k] w (RetN vB w T) := by
  have e : flatL [⟨A, c, r⟩, ⟨B, d, b⟩] = T := by rw [HT.out]; simp [flatL]
  have := concat_any [⟨A, c, r⟩, ⟨B, d, b⟩] (some ⟨g, 0, none⟩) k w hp (by simp) (fun p hp => by
    simp only [List.mem_cons, List.not_mem_nil, or_false] at hp
    rcases hp with rfl | rfl
    · exact hr
    · exact hb) (by rw [e]; exact hl)
  rw [e] at this
  exact this

end Go.Proofs.YteppocjgodmpdaaGreatDoor
/-
  What word.Put answers, in memory of its own; an array of three numbers, at a place; calls that hand back a list of bytes and an error. No conditions but those typed.
-/
namespace Go.Proofs.YteppocjgodmpdaaGreatDoor
set_option maxRecDepth 100000
open Go.RowKit
set_option linter.unusedSimpArgs false
set_option linter.unusedVariables false

/-- A call that hands back a list of bytes and an error. -/
def RetV (w : World) (l : List UInt8) (k : Int) (e : Ending) (w' : World) : Prop := ∃ A n c, e = .returned (.tuple #[.slice A n c, .int .i64 k]) ∧ Hid (l.length = n) ∧ n ≤ c ∧ Rd vB w' A l ∧ Below w.heap.size w w'

theorem put_new (v : Nat) (hv : v < 18446744073709551616) (w : World) :
    Calls Tryz.prog 166 #[.int .u64 (v : Int)] w (RetN vB w (putL v)) := by
  have hmk : ∀ w, (Instr.makeSlice 22 (.int .i64 8) (.int .i64 8)).run Tryz.prog w = .ok (.slice (some ⟨w.heap.size, 0, none⟩) 8 8) (w.alloc (.cells #[.int .u8 0, .int .u8 0, .int .u8 0, .int .u8 0, .int .u8 0, .int .u8 0, .int .u8 0, .int .u8 0] 5)) := fun _ => by kernel_rfl
  go_enter Tryz.func166, Tryz.ntmps166
  go_wp2
  refine wp_loop_rounds 9 ?_
  iterate 9 (rw [rounds_succ]; go_wp2)
  go_ret
  exact ⟨_, 8, rfl, Nat.le_refl _, Rd.new _ _ _ _ (put_cells v hv), (fun a ha => by injection ha with ha; subst ha; exact Nat.le_refl _), (Below.refl _ _).alloc (Nat.le_refl _) _⟩
theorem index_three (N : List Nat) (a b c : Nat) (hN : N = [a, b, c]) (i : Nat) (h : i < N.length) (W : World) : (Instr.index 189 (.agg #[.int .u64 (a : Int), .int .u64 (b : Int), .int .u64 (c : Int)]) (.int .i64 (i : Int))).run Tryz.prog W = .ok (.int .u64 (N[i] : Int)) W := by
  subst hN
  have hi : i = 0 ∨ i = 1 ∨ i = 2 := by simp at h; omega
  rcases hi with rfl | rfl | rfl
  · exact ((by kernel_rfl : (Instr.index 189 (.agg #[.int .u64 (a : Int), .int .u64 (b : Int), .int .u64 (c : Int)]) (.int .i64 0)).run Tryz.prog W = .ok (.int .u64 (a : Int)) W))
  · exact ((by kernel_rfl : (Instr.index 189 (.agg #[.int .u64 (a : Int), .int .u64 (b : Int), .int .u64 (c : Int)]) (.int .i64 1)).run Tryz.prog W = .ok (.int .u64 (b : Int)) W))
  · exact ((by kernel_rfl : (Instr.index 189 (.agg #[.int .u64 (a : Int), .int .u64 (b : Int), .int .u64 (c : Int)]) (.int .i64 2)).run Tryz.prog W = .ok (.int .u64 (c : Int)) W))
theorem put_at (v : Nat) (hv : v < 18446744073709551616) (w : World) : Calls Tryz.prog 166 #[.int .u64 (v : Int)] w fun e w' => ∃ A c, e = .returned (.slice A 8 c) ∧ 8 ≤ c ∧ Rd vB w' A (putL v) ∧ Below w.heap.size w w' :=
  (put_new v hv w).mono fun e w' ⟨A, c, h1, h2, h3, _, h4⟩ => ⟨A, c, h1, h2, h3, h4⟩
theorem cut_mid (A : Option Addr) (n cap lo m : Nat) (h : lo + m ≤ cap) (W : World) : (Instr.slice 22 (.slice A n cap) (some (.int .i64 (lo : Int))) (some (.int .i64 ((lo : Int) + (m : Int)))) none).run Tryz.prog W = .ok (.slice (if cap = lo then A else A.map (·.add (lo * 1))) m (cap - lo)) W := by
  have he : Tryz.prog.elem 22 = 5 := by simp [Program.elem, Tryz.underlying22]
  rw [run_slice_lh W 22 A n cap (by rw [he]; exact Tryz.underlying22) .i64 .i64 (lo : Int) ((lo : Int) + (m : Int)) (by omega) (by omega) (by omega), he, size_uint8]
  simp only [Result.andThen, sliced, Int.toNat_natCast]
  rw [show ((lo : Int) + (m : Int)).toNat - lo = m by omega]
end Go.Proofs.YteppocjgodmpdaaGreatDoor
