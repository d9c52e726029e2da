/-
  Polynomials over the field of 256 elements as plain functions on lists of coefficients: sums, products, values, plain forms, division, slopes; the laws of a ring, up to zeros behind. No conditions but those typed.
-/
import Derived.Test.YtobeaoooaagdkaaGfMath
namespace Go.Proofs.Ytobeaoooaagdkaa
set_option maxRecDepth 100000
set_option linter.unusedVariables false
set_option linter.unusedSimpArgs false

def co (p : List UInt8) (k : Nat) : UInt8 := p.getD k 0
theorem co_nil (k : Nat) : co [] k = 0 := by simp [co]
theorem co_zero (a : UInt8) (p : List UInt8) : co (a :: p) 0 = a := rfl
theorem co_succ (a : UInt8) (p : List UInt8) (k : Nat) : co (a :: p) (k + 1) = co p k := by simp [co]
theorem co_ge (p : List UInt8) (k : Nat) (h : p.length ≤ k) : co p k = 0 := by simp [co, List.getD_eq_getElem?_getD, List.getElem?_eq_none h]
theorem co_lt (p : List UInt8) (k : Nat) (h : k < p.length) : co p k = p[k] := by simp [co, List.getD_eq_getElem?_getD, List.getElem?_eq_getElem h]

/-- The same polynomial, zeros behind let aside. -/
def Eqv (p q : List UInt8) : Prop := ∀ k, co p k = co q k
theorem Eqv.refl (p : List UInt8) : Eqv p p := fun _ => rfl
theorem Eqv.symm {p q : List UInt8} (h : Eqv p q) : Eqv q p := fun k => (h k).symm
theorem Eqv.trans {p q r : List UInt8} (h : Eqv p q) (g : Eqv q r) : Eqv p r := fun k => (h k).trans (g k)
theorem Eqv.cons {p q : List UInt8} (a : UInt8) (h : Eqv p q) : Eqv (a :: p) (a :: q) := fun k => by
  cases k with
  | zero => rfl
  | succ k => rw [co_succ, co_succ, h k]
theorem Eqv.tail {a b : UInt8} {p q : List UInt8} (h : Eqv (a :: p) (b :: q)) : a = b ∧ Eqv p q := ⟨h 0, fun k => by have := h (k + 1); rwa [co_succ, co_succ] at this⟩
theorem Eqv.nil_cons {b : UInt8} {q : List UInt8} (h : Eqv [] (b :: q)) : b = 0 ∧ Eqv [] q := ⟨by have := h 0; rw [co_nil, co_zero] at this; exact this.symm, fun k => by have := h (k + 1); rwa [co_nil, co_succ, ← co_nil k] at this⟩
theorem zero_cons : Eqv [0] [] := fun k => by cases k <;> simp [co]
theorem cons_nil {p : List UInt8} (h : Eqv p []) : Eqv (0 :: p) [] := fun k => by
  cases k with
  | zero => rw [co_zero, co_nil]
  | succ k => rw [co_succ, h k, co_nil, co_nil]

/-! ### Sums, multiples, products -/
def addL : List UInt8 → List UInt8 → List UInt8
  | [], q => q
  | a :: p, [] => a :: p
  | a :: p, b :: q => addB a b :: addL p q
theorem co_add : ∀ (p q : List UInt8) (k : Nat), co (addL p q) k = addB (co p k) (co q k)
  | [], q, k => by rw [addL, co_nil, zero_add]
  | a :: p, [], k => by rw [addL, co_nil, add_zero]
  | a :: p, b :: q, 0 => rfl
  | a :: p, b :: q, k + 1 => by rw [addL, co_succ, co_succ, co_succ, co_add p q k]
def scaleL (a : UInt8) (p : List UInt8) : List UInt8 := p.map (mulB a)
theorem co_scale (a : UInt8) : ∀ (p : List UInt8) (k : Nat), co (scaleL a p) k = mulB a (co p k)
  | [], k => by rw [scaleL, List.map_nil, co_nil, mul_zero]
  | b :: p, 0 => rfl
  | b :: p, k + 1 => by rw [scaleL, List.map_cons, co_succ, co_succ]; exact co_scale a p k
def mulL : List UInt8 → List UInt8 → List UInt8
  | [], _ => []
  | a :: p, q => addL (scaleL a q) (0 :: mulL p q)
theorem add_congr {p p' q q' : List UInt8} (h : Eqv p p') (g : Eqv q q') : Eqv (addL p q) (addL p' q') := fun k => by rw [co_add, co_add, h k, g k]
theorem addL_comm (p q : List UInt8) : Eqv (addL p q) (addL q p) := fun k => by rw [co_add, co_add, add_comm]
theorem addL_assoc (p q r : List UInt8) : Eqv (addL (addL p q) r) (addL p (addL q r)) := fun k => by rw [co_add, co_add, co_add, co_add, add_assoc]
theorem addL_self (p : List UInt8) : Eqv (addL p p) [] := fun k => by rw [co_add, add_self, co_nil]
theorem addL_nil (p : List UInt8) : Eqv (addL p []) p := fun k => by rw [co_add, co_nil, add_zero]
theorem add_four (a b c d : UInt8) : addB (addB a b) (addB c d) = addB (addB a c) (addB b d) := by
  unfold addB
  ac_rfl
theorem addL_four (p q r s : List UInt8) : Eqv (addL (addL p q) (addL r s)) (addL (addL p r) (addL q s)) := fun k => by simp only [co_add]; exact add_four _ _ _ _
theorem scale_congr (a : UInt8) {p q : List UInt8} (h : Eqv p q) : Eqv (scaleL a p) (scaleL a q) := fun k => by rw [co_scale, co_scale, h k]
theorem scale_add (a : UInt8) (p q : List UInt8) : Eqv (scaleL a (addL p q)) (addL (scaleL a p) (scaleL a q)) := fun k => by simp only [co_scale, co_add, mul_add_right]
theorem scale_scale (a b : UInt8) (p : List UInt8) : Eqv (scaleL a (scaleL b p)) (scaleL (mulB a b) p) := fun k => by simp only [co_scale, mul_assoc]
theorem scale_cons (a b : UInt8) (p : List UInt8) : scaleL a (b :: p) = mulB a b :: scaleL a p := rfl
theorem scale_shift (a : UInt8) (p : List UInt8) : Eqv (scaleL a (0 :: p)) (0 :: scaleL a p) := by
  rw [scale_cons, mul_zero]
  exact Eqv.refl _
theorem scale_zero (p : List UInt8) : Eqv (scaleL 0 p) [] := fun k => by rw [co_scale, zero_mul, co_nil]
theorem scale_one (p : List UInt8) : scaleL 1 p = p := by
  unfold scaleL
  have : (mulB 1) = id := funext one_mul
  rw [this, List.map_id]
theorem shift_add (p q : List UInt8) : Eqv (0 :: addL p q) (addL (0 :: p) (0 :: q)) := fun k => by
  cases k with
  | zero => rfl
  | succ k => simp only [co_succ, co_add]
theorem mulL_nil : ∀ p : List UInt8, Eqv (mulL p []) []
  | [] => Eqv.refl _
  | a :: p => by
    rw [mulL]
    exact (add_congr (Eqv.refl _) (cons_nil (mulL_nil p))).trans (addL_nil _)
theorem mul_congr_right : ∀ (p : List UInt8) {q q' : List UInt8}, Eqv q q' → Eqv (mulL p q) (mulL p q')
  | [], _, _, _ => Eqv.refl _
  | a :: p, _, _, h => add_congr (scale_congr a h) ((mul_congr_right p h).cons 0)
theorem mulL_add_right : ∀ (p q r : List UInt8), Eqv (mulL p (addL q r)) (addL (mulL p q) (mulL p r))
  | [], q, r => Eqv.refl _
  | a :: p, q, r => by
    rw [mulL, mulL, mulL]
    exact (add_congr (scale_add a q r) (((mulL_add_right p q r).cons 0).trans (shift_add _ _))).trans (addL_four _ _ _ _)
theorem mulL_scale_right (b : UInt8) : ∀ (p q : List UInt8), Eqv (mulL p (scaleL b q)) (scaleL b (mulL p q))
  | [], q => Eqv.refl _
  | a :: p, q => by
    rw [mulL, mulL]
    refine (add_congr ?_ ((mulL_scale_right b p q).cons 0)).trans (Eqv.symm ((scale_add b _ _).trans (add_congr (Eqv.refl _) (scale_shift b _))))
    exact fun k => by simp only [co_scale, ← mul_assoc, mul_comm a b]
theorem mulL_shift_right : ∀ (p q : List UInt8), Eqv (mulL p (0 :: q)) (0 :: mulL p q)
  | [], q => zero_cons.symm
  | a :: p, q => by
    rw [mulL, mulL]
    exact (add_congr (scale_shift a q) ((mulL_shift_right p q).cons 0)).trans (shift_add _ _).symm
theorem mulL_one_right (b : UInt8) : ∀ p : List UInt8, Eqv (mulL p [b]) (scaleL b p)
  | [] => Eqv.refl _
  | a :: p => by
    rw [mulL]
    refine (add_congr (Eqv.refl _) ((mulL_one_right b p).cons 0)).trans (fun k => ?_)
    cases k with
    | zero => rw [co_add, co_scale, co_zero, co_zero, co_scale, co_zero, add_zero, mul_comm]
    | succ k => rw [co_add, co_scale, co_succ, co_nil, mul_zero, zero_add, co_succ, scale_cons, co_succ]
theorem cons_split (b : UInt8) (q : List UInt8) : Eqv (b :: q) (addL [b] (0 :: q)) := fun k => by
  cases k with
  | zero => rw [co_add, co_zero, co_zero, co_zero, add_zero]
  | succ k => rw [co_add, co_succ, co_succ, co_succ, co_nil, zero_add]
theorem mulL_cons_right (p : List UInt8) (b : UInt8) (q : List UInt8) : Eqv (mulL p (b :: q)) (addL (scaleL b p) (0 :: mulL p q)) :=
  ((mul_congr_right p (cons_split b q)).trans (mulL_add_right p _ _)).trans (add_congr (mulL_one_right b p) (mulL_shift_right p q))
theorem mulL_comm : ∀ p q : List UInt8, Eqv (mulL p q) (mulL q p)
  | [], q => (mulL_nil q).symm
  | a :: p, q => by
    rw [mulL]
    exact (add_congr (Eqv.refl _) ((mulL_comm p q).cons 0)).trans (mulL_cons_right q a p).symm
theorem mul_congr {p p' q q' : List UInt8} (h : Eqv p p') (g : Eqv q q') : Eqv (mulL p q) (mulL p' q') :=
  (mul_congr_right p g).trans ((mulL_comm p q').trans ((mul_congr_right q' h).trans (mulL_comm q' p')))
theorem mulL_add_left (p q r : List UInt8) : Eqv (mulL (addL p q) r) (addL (mulL p r) (mulL q r)) :=
  (mulL_comm _ _).trans ((mulL_add_right r p q).trans (add_congr (mulL_comm r p) (mulL_comm r q)))
theorem mulL_scale_left (b : UInt8) (p q : List UInt8) : Eqv (mulL (scaleL b p) q) (scaleL b (mulL p q)) :=
  (mulL_comm _ _).trans ((mulL_scale_right b q p).trans (scale_congr b (mulL_comm q p)))
theorem mulL_shift_left (p q : List UInt8) : Eqv (mulL (0 :: p) q) (0 :: mulL p q) :=
  (mulL_comm _ _).trans ((mulL_shift_right q p).trans ((mulL_comm q p).cons 0))
theorem mulL_assoc : ∀ p q r : List UInt8, Eqv (mulL (mulL p q) r) (mulL p (mulL q r))
  | [], q, r => Eqv.refl _
  | a :: p, q, r => by
    rw [mulL, mulL]
    exact (mulL_add_left _ _ _).trans (add_congr (mulL_scale_left a q r) ((mulL_shift_left _ _).trans ((mulL_assoc p q r).cons 0)))

/-! ### Values -/
def evalL : List UInt8 → UInt8 → UInt8
  | [], _ => 0
  | a :: p, x => addB a (mulB x (evalL p x))
theorem eval_nil : ∀ {q : List UInt8}, Eqv [] q → ∀ x, evalL q x = 0
  | [], _, _ => rfl
  | b :: q, h, x => by
    obtain ⟨h0, h1⟩ := h.nil_cons
    rw [evalL, h0, eval_nil h1 x, mul_zero, zero_add]
theorem eval_congr : ∀ {p q : List UInt8}, Eqv p q → ∀ x, evalL p x = evalL q x
  | [], q, h, x => (eval_nil h x).symm
  | a :: p, [], h, x => eval_nil h.symm x
  | a :: p, b :: q, h, x => by
    obtain ⟨h0, h1⟩ := h.tail
    rw [evalL, evalL, h0, eval_congr h1 x]
theorem eval_add : ∀ (p q : List UInt8) (x : UInt8), evalL (addL p q) x = addB (evalL p x) (evalL q x)
  | [], q, x => by rw [addL, evalL, zero_add]
  | a :: p, [], x => by rw [addL, evalL, add_zero]
  | a :: p, b :: q, x => by rw [addL, evalL, evalL, evalL, eval_add p q x, mul_add_right, add_four]
theorem eval_scale (b : UInt8) : ∀ (p : List UInt8) (x : UInt8), evalL (scaleL b p) x = mulB b (evalL p x)
  | [], x => by rw [scaleL, List.map_nil, evalL, mul_zero]
  | a :: p, x => by
    have ih := eval_scale b p x
    rw [scale_cons, evalL, evalL, ih, mul_add_right, ← mul_assoc, ← mul_assoc, mul_comm x b]
theorem eval_mul : ∀ (p q : List UInt8) (x : UInt8), evalL (mulL p q) x = mulB (evalL p x) (evalL q x)
  | [], q, x => by rw [mulL, evalL, zero_mul]
  | a :: p, q, x => by rw [mulL, eval_add, eval_scale, evalL, evalL, zero_add, eval_mul p q x, mul_add_left, mul_assoc]
theorem eval_snoc (a : UInt8) (x : UInt8) : ∀ p : List UInt8, evalL (p ++ [a]) x = addB (evalL p x) (mulB a (powB x p.length))
  | [] => by
    rw [List.nil_append, evalL, evalL, evalL, mul_zero, add_zero, zero_add]
    exact (mul_one a).symm
  | b :: p => by
    have hp : powB x (p.length + 1) = mulB (powB x p.length) x := rfl
    rw [List.cons_append, evalL, evalL, eval_snoc a x p, List.length_cons, hp, mul_add_right, ← add_assoc, mul_comm (powB x p.length) x, ← mul_assoc, ← mul_assoc, mul_comm a x]

/-! ### Plain forms -/
def plainL : List UInt8 → List UInt8
  | [] => []
  | a :: p => if plainL p = [] ∧ a = 0 then [] else a :: plainL p
theorem plain_eqv : ∀ p : List UInt8, Eqv (plainL p) p
  | [] => Eqv.refl _
  | a :: p => by
    rw [plainL]
    split
    · next h =>
      have := plain_eqv p
      rw [h.1] at this
      rw [h.2]
      exact (cons_nil this.symm).symm
    · exact (plain_eqv p).cons a
theorem plain_nil : ∀ {q : List UInt8}, Eqv [] q → plainL q = []
  | [], _ => rfl
  | b :: q, h => by
    obtain ⟨h0, h1⟩ := h.nil_cons
    rw [plainL, if_pos ⟨plain_nil h1, h0⟩]
theorem plain_congr : ∀ {p q : List UInt8}, Eqv p q → plainL p = plainL q
  | [], q, h => (plain_nil h).symm
  | a :: p, [], h => plain_nil h.symm
  | a :: p, b :: q, h => by
    obtain ⟨h0, h1⟩ := h.tail
    rw [plainL, plainL, h0, plain_congr h1]
theorem plain_iff {p q : List UInt8} : plainL p = plainL q ↔ Eqv p q := ⟨fun h => (plain_eqv p).symm.trans (h ▸ plain_eqv q), plain_congr⟩
theorem plain_plain (p : List UInt8) : plainL (plainL p) = plainL p := plain_congr (plain_eqv p)
theorem plain_top : ∀ p : List UInt8, plainL p ≠ [] → co p ((plainL p).length - 1) ≠ 0
  | [], h => absurd rfl h
  | a :: p, h => by
    rw [plainL] at h ⊢
    split
    · next hc => rw [if_pos hc] at h; exact absurd rfl h
    · next hc =>
      by_cases hp : plainL p = []
      · rw [hp]
        exact fun e => hc ⟨hp, e⟩
      · have ih := plain_top p hp
        have hl : 0 < (plainL p).length := List.length_pos_iff.2 hp
        rw [List.length_cons, Nat.add_sub_cancel]
        have e : (plainL p).length = ((plainL p).length - 1) + 1 := by omega
        rw [e, co_succ]
        exact ih
theorem plain_ge (p : List UInt8) (k : Nat) (h : (plainL p).length ≤ k) : co p k = 0 := by rw [← plain_eqv p k, co_ge _ _ h]
theorem plain_le_iff (p : List UInt8) (n : Nat) : (plainL p).length ≤ n ↔ ∀ k, n ≤ k → co p k = 0 := by
  constructor
  · intro h k hk
    exact plain_ge p k (by omega)
  · intro h
    rcases Nat.lt_or_ge n (plainL p).length with hlt | hge
    · exact absurd (h ((plainL p).length - 1) (by omega)) (plain_top p (by intro e; rw [e] at hlt; simp at hlt))
    · exact hge
theorem plain_len (p : List UInt8) : (plainL p).length ≤ p.length := (plain_le_iff p _).2 fun k hk => co_ge p k hk
/-- The plain form is the beginning, up to the last one that isn't 0. -/
theorem plain_take (p : List UInt8) (n : Nat) (hn : n ≤ p.length) (hz : ∀ k, n ≤ k → co p k = 0) (ht : n = 0 ∨ co p (n - 1) ≠ 0) : plainL p = p.take n := by
  have hle := (plain_le_iff p n).2 hz
  have hl : (plainL p).length = n := by
    rcases ht with rfl | ht
    · omega
    · rcases Nat.lt_or_ge (plainL p).length n with h | h
      · exact absurd (plain_ge p (n - 1) (by omega)) ht
      · omega
  apply List.ext_getElem
  · rw [hl, List.length_take]
    omega
  · intro i h1 h2
    have e := plain_eqv p i
    have h3 : i < p.length := by rw [List.length_take] at h2; omega
    rw [co_lt _ _ h1, co_lt _ _ h3] at e
    rw [List.getElem_take]
    exact e
theorem plain_of_top (p : List UInt8) (h : p = [] ∨ co p (p.length - 1) ≠ 0) : plainL p = p := by
  have := plain_take p p.length (Nat.le_refl _) (fun k hk => co_ge p k hk) (by
    rcases h with rfl | h
    · exact .inl rfl
    · exact .inr h)
  rwa [List.take_length] at this

/-! ### Degrees of products -/
theorem addL_length : ∀ p q : List UInt8, (addL p q).length = max p.length q.length
  | [], q => by simp [addL]
  | a :: p, [] => by simp [addL]
  | a :: p, b :: q => by
    have := addL_length p q
    simp only [addL, List.length_cons, this]
    omega
theorem mulL_length : ∀ (p q : List UInt8), p ≠ [] → q ≠ [] → (mulL p q).length = p.length + q.length - 1
  | [], q, h, _ => absurd rfl h
  | [a], q, _, hq => by
    have : 0 < q.length := List.length_pos_iff.2 hq
    simp [mulL, addL_length, scaleL]
    omega
  | a :: b :: p, q, _, hq => by
    have ih := mulL_length (b :: p) q (by simp) hq
    have : 0 < q.length := List.length_pos_iff.2 hq
    rw [mulL, addL_length, scaleL, List.length_map, List.length_cons, ih]
    simp only [List.length_cons]
    omega
theorem mulL_top : ∀ (p q : List UInt8), p ≠ [] → q ≠ [] → co (mulL p q) (p.length + q.length - 2) = mulB (co p (p.length - 1)) (co q (q.length - 1))
  | [], q, h, _ => absurd rfl h
  | [a], q, _, hq => by
    have : 0 < q.length := List.length_pos_iff.2 hq
    rw [mulL, mulL, co_add, co_scale, zero_cons, co_nil, add_zero, List.length_singleton, show 1 + q.length - 2 = q.length - 1 by omega]
    rfl
  | a :: b :: p, q, _, hq => by
    have ih := mulL_top (b :: p) q (by simp) hq
    have : 0 < q.length := List.length_pos_iff.2 hq
    have e : (a :: b :: p).length + q.length - 2 = ((b :: p).length + q.length - 2) + 1 := by simp only [List.length_cons]; omega
    rw [mulL, co_add, co_scale, e, co_succ, ih, co_ge q _ (by simp only [List.length_cons]; omega), mul_zero, zero_add]
    rfl
theorem mul_plain_len (p q : List UInt8) (hp : plainL p ≠ []) (hq : plainL q ≠ []) : (plainL (mulL p q)).length = (plainL p).length + (plainL q).length - 1 := by
  have h1 : 0 < (plainL p).length := List.length_pos_iff.2 hp
  have h2 : 0 < (plainL q).length := List.length_pos_iff.2 hq
  have e : plainL (mulL p q) = plainL (mulL (plainL p) (plainL q)) := plain_congr (mul_congr (plain_eqv p).symm (plain_eqv q).symm)
  have hlen := mulL_length _ _ hp hq
  have htop := mulL_top _ _ hp hq
  have hn : co (mulL (plainL p) (plainL q)) ((plainL p).length + (plainL q).length - 2) ≠ 0 := by
    rw [htop, plain_eqv p, plain_eqv q]
    exact mul_ne _ _ (plain_top p hp) (plain_top q hq)
  rw [e, plain_of_top _ (.inr (by rw [hlen, show (plainL p).length + (plainL q).length - 1 - 1 = (plainL p).length + (plainL q).length - 2 by omega]; exact hn)), hlen]
theorem mul_plain_nil {p q : List UInt8} (h : plainL (mulL p q) = []) : plainL p = [] ∨ plainL q = [] := by
  by_cases hp : plainL p = []
  · exact .inl hp
  · by_cases hq : plainL q = []
    · exact .inr hq
    · have := mul_plain_len p q hp hq
      rw [h] at this
      have h1 : 0 < (plainL p).length := List.length_pos_iff.2 hp
      have h2 : 0 < (plainL q).length := List.length_pos_iff.2 hq
      simp at this
      omega

/-! ### Division -/
/-- So often is q in p, and that is left. -/
def IsQuo (p q a r : List UInt8) : Prop := Eqv (addL (mulL a q) r) p ∧ (plainL r).length < (plainL q).length
theorem plain_add_len (p q : List UInt8) : (plainL (addL p q)).length ≤ max (plainL p).length (plainL q).length :=
  (plain_le_iff _ _).2 fun k hk => by rw [co_add, plain_ge p k (by omega), plain_ge q k (by omega), add_zero]
theorem add_cancel {p q : List UInt8} (h : Eqv (addL p q) []) : Eqv p q := fun k => by
  have := h k
  rw [co_add, co_nil] at this
  have e : addB (addB (co p k) (co q k)) (co q k) = addB 0 (co q k) := by rw [this]
  rwa [add_assoc, add_self, add_zero, zero_add] at e
theorem quo_unique {p q a r b s : List UInt8} (h : IsQuo p q a r) (g : IsQuo p q b s) : Eqv a b ∧ Eqv r s := by
  have hq : plainL q ≠ [] := by
    intro e
    have := h.2
    rw [e] at this
    simp at this
  have e1 : Eqv (addL (addL (mulL a q) r) (addL (mulL b q) s)) [] := (add_congr h.1 g.1).trans (addL_self p)
  have e2 : Eqv (addL (mulL (addL a b) q) (addL r s)) [] := ((add_congr (mulL_add_left a b q) (Eqv.refl _)).trans (addL_four _ _ _ _)).trans e1
  have e3 : Eqv (mulL (addL a b) q) (addL r s) := add_cancel e2
  have hab : plainL (addL a b) = [] := by
    by_cases hn : plainL (addL a b) = []
    · exact hn
    · have h1 := mul_plain_len _ _ hn hq
      rw [plain_congr e3] at h1
      have h2 := plain_add_len r s
      have h3 := h.2
      have h4 := g.2
      have h5 : 0 < (plainL (addL a b)).length := List.length_pos_iff.2 hn
      omega
  have e4 : Eqv (addL a b) [] := (plain_eqv _).symm.trans (by rw [hab]; exact Eqv.refl _)
  refine ⟨add_cancel e4, ?_⟩
  have e5 : Eqv (mulL (addL a b) q) [] := (mul_congr e4 (Eqv.refl q)).trans (Eqv.refl _)
  exact add_cancel (e3.symm.trans e5)

/-! ### Slopes -/
def slopeL : List UInt8 → List UInt8
  | [] => []
  | _ :: p => addL p (0 :: slopeL p)
theorem co_slope : ∀ (p : List UInt8) (k : Nat), co (slopeL p) k = if k % 2 = 0 then co p (k + 1) else 0
  | [], k => by rw [slopeL, co_nil, co_nil]; split <;> rfl
  | a :: p, 0 => by
    rw [slopeL, co_add, co_zero, add_zero, co_succ]
    rfl
  | a :: p, k + 1 => by
    rw [slopeL, co_add, co_succ, co_slope p k, co_succ]
    by_cases h : k % 2 = 0
    · rw [if_pos h, if_neg (by omega), add_self]
    · rw [if_neg h, if_pos (by omega), add_zero]
theorem slope_congr {p q : List UInt8} (h : Eqv p q) : Eqv (slopeL p) (slopeL q) := fun k => by rw [co_slope, co_slope, h (k + 1)]
theorem slope_add (p q : List UInt8) : Eqv (slopeL (addL p q)) (addL (slopeL p) (slopeL q)) := fun k => by
  rw [co_slope, co_add, co_add, co_slope, co_slope]
  split
  · rfl
  · rw [add_zero]
theorem slope_scale (a : UInt8) (p : List UInt8) : Eqv (slopeL (scaleL a p)) (scaleL a (slopeL p)) := fun k => by
  rw [co_slope, co_scale, co_scale, co_slope]
  split
  · rfl
  · rw [mul_zero]
theorem slope_mul : ∀ p q : List UInt8, Eqv (slopeL (mulL p q)) (addL (mulL (slopeL p) q) (mulL p (slopeL q)))
  | [], q => Eqv.refl _
  | a :: p, q => by
    have ih := slope_mul p q
    have l1 : Eqv (slopeL (mulL (a :: p) q)) (addL (scaleL a (slopeL q)) (addL (mulL p q) (0 :: addL (mulL (slopeL p) q) (mulL p (slopeL q))))) := by
      rw [mulL]
      refine (slope_add _ _).trans (add_congr (slope_scale a q) ?_)
      rw [slopeL]
      exact add_congr (Eqv.refl _) (ih.cons 0)
    have l2 : Eqv (mulL (slopeL (a :: p)) q) (addL (mulL p q) (0 :: mulL (slopeL p) q)) := by
      rw [slopeL]
      exact (mulL_add_left _ _ _).trans (add_congr (Eqv.refl _) (mulL_shift_left _ _))
    refine l1.trans (Eqv.trans ?_ (add_congr l2.symm (Eqv.refl _)))
    rw [mulL]
    refine (add_congr (Eqv.refl _) (add_congr (Eqv.refl _) (shift_add _ _))).trans (fun k => ?_)
    simp only [co_add]
    unfold addB
    ac_rfl
end Go.Proofs.Ytobeaoooaagdkaa
