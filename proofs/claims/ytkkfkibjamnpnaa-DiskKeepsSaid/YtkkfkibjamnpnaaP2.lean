/-
  Polynomials over the field of 256 elements as plain functions on lists of coefficients: sums, products, values, plain forms, division, slopes; the laws of a ring, up to zeros behind. No conditions but those typed.
-/
import Derived.Test.YtkkfkibjamnpnaaP1
import Derived.RangeFuncBox
import Derived.Laws.Concat
import Derived.Laws.Strings
import Derived.Test.YtkkfkibjamnpnaaChecked
import Derived.LoopN
import Derived.Deep.DeepCutAuto
namespace Go.Proofs.Ytkkfkibjamnpnaa
set_option maxRecDepth 100000
set_option linter.unusedVariables false
set_option linter.unusedSimpArgs false

def co (p : List UInt8) (k : Nat) : UInt8 := p.getD k 0
theorem co_nil (k : Nat) : co [] k = 0 := by simp [co]
theorem co_zero (a : UInt8) (p : List UInt8) : co (a :: p) 0 = a := rfl
theorem co_succ (a : UInt8) (p : List UInt8) (k : Nat) : co (a :: p) (k + 1) = co p k := by simp [co]
theorem co_ge (p : List UInt8) (k : Nat) (h : p.length ≤ k) : co p k = 0 := by simp [co, List.getD_eq_getElem?_getD, List.getElem?_eq_none h]
theorem co_lt (p : List UInt8) (k : Nat) (h : k < p.length) : co p k = p[k] := by simp [co, List.getD_eq_getElem?_getD, List.getElem?_eq_getElem h]

/-- The same polynomial, zeros behind let aside. -/
def Eqv (p q : List UInt8) : Prop := ∀ k, co p k = co q k
theorem Eqv.refl (p : List UInt8) : Eqv p p := fun _ => rfl
theorem Eqv.symm {p q : List UInt8} (h : Eqv p q) : Eqv q p := fun k => (h k).symm
theorem Eqv.trans {p q r : List UInt8} (h : Eqv p q) (g : Eqv q r) : Eqv p r := fun k => (h k).trans (g k)
theorem Eqv.cons {p q : List UInt8} (a : UInt8) (h : Eqv p q) : Eqv (a :: p) (a :: q) := fun k => by
  cases k with
  | zero => rfl
  | succ k => rw [co_succ, co_succ, h k]
theorem Eqv.tail {a b : UInt8} {p q : List UInt8} (h : Eqv (a :: p) (b :: q)) : a = b ∧ Eqv p q := ⟨h 0, fun k => by have := h (k + 1); rwa [co_succ, co_succ] at this⟩
theorem Eqv.nil_cons {b : UInt8} {q : List UInt8} (h : Eqv [] (b :: q)) : b = 0 ∧ Eqv [] q := ⟨by have := h 0; rw [co_nil, co_zero] at this; exact this.symm, fun k => by have := h (k + 1); rwa [co_nil, co_succ, ← co_nil k] at this⟩
theorem zero_cons : Eqv [0] [] := fun k => by cases k <;> simp [co]
theorem cons_nil {p : List UInt8} (h : Eqv p []) : Eqv (0 :: p) [] := fun k => by
  cases k with
  | zero => rw [co_zero, co_nil]
  | succ k => rw [co_succ, h k, co_nil, co_nil]

/-! ### Sums, multiples, products -/
def addL : List UInt8 → List UInt8 → List UInt8
  | [], q => q
  | a :: p, [] => a :: p
  | a :: p, b :: q => addB a b :: addL p q
theorem co_add : ∀ (p q : List UInt8) (k : Nat), co (addL p q) k = addB (co p k) (co q k)
  | [], q, k => by rw [addL, co_nil, zero_add]
  | a :: p, [], k => by rw [addL, co_nil, add_zero]
  | a :: p, b :: q, 0 => rfl
  | a :: p, b :: q, k + 1 => by rw [addL, co_succ, co_succ, co_succ, co_add p q k]
def scaleL (a : UInt8) (p : List UInt8) : List UInt8 := p.map (mulB a)
theorem co_scale (a : UInt8) : ∀ (p : List UInt8) (k : Nat), co (scaleL a p) k = mulB a (co p k)
  | [], k => by rw [scaleL, List.map_nil, co_nil, mul_zero]
  | b :: p, 0 => rfl
  | b :: p, k + 1 => by rw [scaleL, List.map_cons, co_succ, co_succ]; exact co_scale a p k
def mulL : List UInt8 → List UInt8 → List UInt8
  | [], _ => []
  | a :: p, q => addL (scaleL a q) (0 :: mulL p q)
theorem add_congr {p p' q q' : List UInt8} (h : Eqv p p') (g : Eqv q q') : Eqv (addL p q) (addL p' q') := fun k => by rw [co_add, co_add, h k, g k]
theorem addL_comm (p q : List UInt8) : Eqv (addL p q) (addL q p) := fun k => by rw [co_add, co_add, add_comm]
theorem addL_assoc (p q r : List UInt8) : Eqv (addL (addL p q) r) (addL p (addL q r)) := fun k => by rw [co_add, co_add, co_add, co_add, add_assoc]
theorem addL_self (p : List UInt8) : Eqv (addL p p) [] := fun k => by rw [co_add, add_self, co_nil]
theorem addL_nil (p : List UInt8) : Eqv (addL p []) p := fun k => by rw [co_add, co_nil, add_zero]
theorem add_four (a b c d : UInt8) : addB (addB a b) (addB c d) = addB (addB a c) (addB b d) := by
  unfold addB
  ac_rfl
theorem addL_four (p q r s : List UInt8) : Eqv (addL (addL p q) (addL r s)) (addL (addL p r) (addL q s)) := fun k => by simp only [co_add]; exact add_four _ _ _ _
theorem scale_congr (a : UInt8) {p q : List UInt8} (h : Eqv p q) : Eqv (scaleL a p) (scaleL a q) := fun k => by rw [co_scale, co_scale, h k]
theorem scale_add (a : UInt8) (p q : List UInt8) : Eqv (scaleL a (addL p q)) (addL (scaleL a p) (scaleL a q)) := fun k => by simp only [co_scale, co_add, mul_add_right]
theorem scale_scale (a b : UInt8) (p : List UInt8) : Eqv (scaleL a (scaleL b p)) (scaleL (mulB a b) p) := fun k => by simp only [co_scale, mul_assoc]
theorem scale_cons (a b : UInt8) (p : List UInt8) : scaleL a (b :: p) = mulB a b :: scaleL a p := rfl
theorem scale_shift (a : UInt8) (p : List UInt8) : Eqv (scaleL a (0 :: p)) (0 :: scaleL a p) := by
  rw [scale_cons, mul_zero]
  exact Eqv.refl _
theorem scale_zero (p : List UInt8) : Eqv (scaleL 0 p) [] := fun k => by rw [co_scale, zero_mul, co_nil]
theorem scale_one (p : List UInt8) : scaleL 1 p = p := by
  unfold scaleL
  have : (mulB 1) = id := funext one_mul
  rw [this, List.map_id]
theorem shift_add (p q : List UInt8) : Eqv (0 :: addL p q) (addL (0 :: p) (0 :: q)) := fun k => by
  cases k with
  | zero => rfl
  | succ k => simp only [co_succ, co_add]
theorem mulL_nil : ∀ p : List UInt8, Eqv (mulL p []) []
  | [] => Eqv.refl _
  | a :: p => by
    rw [mulL]
    exact (add_congr (Eqv.refl _) (cons_nil (mulL_nil p))).trans (addL_nil _)
theorem mul_congr_right : ∀ (p : List UInt8) {q q' : List UInt8}, Eqv q q' → Eqv (mulL p q) (mulL p q')
  | [], _, _, _ => Eqv.refl _
  | a :: p, _, _, h => add_congr (scale_congr a h) ((mul_congr_right p h).cons 0)
theorem mulL_add_right : ∀ (p q r : List UInt8), Eqv (mulL p (addL q r)) (addL (mulL p q) (mulL p r))
  | [], q, r => Eqv.refl _
  | a :: p, q, r => by
    rw [mulL, mulL, mulL]
    exact (add_congr (scale_add a q r) (((mulL_add_right p q r).cons 0).trans (shift_add _ _))).trans (addL_four _ _ _ _)
theorem mulL_scale_right (b : UInt8) : ∀ (p q : List UInt8), Eqv (mulL p (scaleL b q)) (scaleL b (mulL p q))
  | [], q => Eqv.refl _
  | a :: p, q => by
    rw [mulL, mulL]
    refine (add_congr ?_ ((mulL_scale_right b p q).cons 0)).trans (Eqv.symm ((scale_add b _ _).trans (add_congr (Eqv.refl _) (scale_shift b _))))
    exact fun k => by simp only [co_scale, ← mul_assoc, mul_comm a b]
theorem mulL_shift_right : ∀ (p q : List UInt8), Eqv (mulL p (0 :: q)) (0 :: mulL p q)
  | [], q => zero_cons.symm
  | a :: p, q => by
    rw [mulL, mulL]
    exact (add_congr (scale_shift a q) ((mulL_shift_right p q).cons 0)).trans (shift_add _ _).symm
theorem mulL_one_right (b : UInt8) : ∀ p : List UInt8, Eqv (mulL p [b]) (scaleL b p)
  | [] => Eqv.refl _
  | a :: p => by
    rw [mulL]
    refine (add_congr (Eqv.refl _) ((mulL_one_right b p).cons 0)).trans (fun k => ?_)
    cases k with
    | zero => rw [co_add, co_scale, co_zero, co_zero, co_scale, co_zero, add_zero, mul_comm]
    | succ k => rw [co_add, co_scale, co_succ, co_nil, mul_zero, zero_add, co_succ, scale_cons, co_succ]
theorem cons_split (b : UInt8) (q : List UInt8) : Eqv (b :: q) (addL [b] (0 :: q)) := fun k => by
  cases k with
  | zero => rw [co_add, co_zero, co_zero, co_zero, add_zero]
  | succ k => rw [co_add, co_succ, co_succ, co_succ, co_nil, zero_add]
theorem mulL_cons_right (p : List UInt8) (b : UInt8) (q : List UInt8) : Eqv (mulL p (b :: q)) (addL (scaleL b p) (0 :: mulL p q)) :=
  ((mul_congr_right p (cons_split b q)).trans (mulL_add_right p _ _)).trans (add_congr (mulL_one_right b p) (mulL_shift_right p q))
theorem mulL_comm : ∀ p q : List UInt8, Eqv (mulL p q) (mulL q p)
  | [], q => (mulL_nil q).symm
  | a :: p, q => by
    rw [mulL]
    exact (add_congr (Eqv.refl _) ((mulL_comm p q).cons 0)).trans (mulL_cons_right q a p).symm
theorem mul_congr {p p' q q' : List UInt8} (h : Eqv p p') (g : Eqv q q') : Eqv (mulL p q) (mulL p' q') :=
  (mul_congr_right p g).trans ((mulL_comm p q').trans ((mul_congr_right q' h).trans (mulL_comm q' p')))
theorem mulL_add_left (p q r : List UInt8) : Eqv (mulL (addL p q) r) (addL (mulL p r) (mulL q r)) :=
  (mulL_comm _ _).trans ((mulL_add_right r p q).trans (add_congr (mulL_comm r p) (mulL_comm r q)))
theorem mulL_scale_left (b : UInt8) (p q : List UInt8) : Eqv (mulL (scaleL b p) q) (scaleL b (mulL p q)) :=
  (mulL_comm _ _).trans ((mulL_scale_right b q p).trans (scale_congr b (mulL_comm q p)))
theorem mulL_shift_left (p q : List UInt8) : Eqv (mulL (0 :: p) q) (0 :: mulL p q) :=
  (mulL_comm _ _).trans ((mulL_shift_right q p).trans ((mulL_comm q p).cons 0))
theorem mulL_assoc : ∀ p q r : List UInt8, Eqv (mulL (mulL p q) r) (mulL p (mulL q r))
  | [], q, r => Eqv.refl _
  | a :: p, q, r => by
    rw [mulL, mulL]
    exact (mulL_add_left _ _ _).trans (add_congr (mulL_scale_left a q r) ((mulL_shift_left _ _).trans ((mulL_assoc p q r).cons 0)))

/-! ### Values -/
def evalL : List UInt8 → UInt8 → UInt8
  | [], _ => 0
  | a :: p, x => addB a (mulB x (evalL p x))
theorem eval_nil : ∀ {q : List UInt8}, Eqv [] q → ∀ x, evalL q x = 0
  | [], _, _ => rfl
  | b :: q, h, x => by
    obtain ⟨h0, h1⟩ := h.nil_cons
    rw [evalL, h0, eval_nil h1 x, mul_zero, zero_add]
theorem eval_congr : ∀ {p q : List UInt8}, Eqv p q → ∀ x, evalL p x = evalL q x
  | [], q, h, x => (eval_nil h x).symm
  | a :: p, [], h, x => eval_nil h.symm x
  | a :: p, b :: q, h, x => by
    obtain ⟨h0, h1⟩ := h.tail
    rw [evalL, evalL, h0, eval_congr h1 x]
theorem eval_add : ∀ (p q : List UInt8) (x : UInt8), evalL (addL p q) x = addB (evalL p x) (evalL q x)
  | [], q, x => by rw [addL, evalL, zero_add]
  | a :: p, [], x => by rw [addL, evalL, add_zero]
  | a :: p, b :: q, x => by rw [addL, evalL, evalL, evalL, eval_add p q x, mul_add_right, add_four]
theorem eval_scale (b : UInt8) : ∀ (p : List UInt8) (x : UInt8), evalL (scaleL b p) x = mulB b (evalL p x)
  | [], x => by rw [scaleL, List.map_nil, evalL, mul_zero]
  | a :: p, x => by
    have ih := eval_scale b p x
    rw [scale_cons, evalL, evalL, ih, mul_add_right, ← mul_assoc, ← mul_assoc, mul_comm x b]
theorem eval_mul : ∀ (p q : List UInt8) (x : UInt8), evalL (mulL p q) x = mulB (evalL p x) (evalL q x)
  | [], q, x => by rw [mulL, evalL, zero_mul]
  | a :: p, q, x => by rw [mulL, eval_add, eval_scale, evalL, evalL, zero_add, eval_mul p q x, mul_add_left, mul_assoc]
theorem eval_snoc (a : UInt8) (x : UInt8) : ∀ p : List UInt8, evalL (p ++ [a]) x = addB (evalL p x) (mulB a (powB x p.length))
  | [] => by
    rw [List.nil_append, evalL, evalL, evalL, mul_zero, add_zero, zero_add]
    exact (mul_one a).symm
  | b :: p => by
    have hp : powB x (p.length + 1) = mulB (powB x p.length) x := rfl
    rw [List.cons_append, evalL, evalL, eval_snoc a x p, List.length_cons, hp, mul_add_right, ← add_assoc, mul_comm (powB x p.length) x, ← mul_assoc, ← mul_assoc, mul_comm a x]

/-! ### Plain forms -/
def plainL : List UInt8 → List UInt8
  | [] => []
  | a :: p => if plainL p = [] ∧ a = 0 then [] else a :: plainL p
theorem plain_eqv : ∀ p : List UInt8, Eqv (plainL p) p
  | [] => Eqv.refl _
  | a :: p => by
    rw [plainL]
    split
    · next h =>
      have := plain_eqv p
      rw [h.1] at this
      rw [h.2]
      exact (cons_nil this.symm).symm
    · exact (plain_eqv p).cons a
theorem plain_nil : ∀ {q : List UInt8}, Eqv [] q → plainL q = []
  | [], _ => rfl
  | b :: q, h => by
    obtain ⟨h0, h1⟩ := h.nil_cons
    rw [plainL, if_pos ⟨plain_nil h1, h0⟩]
theorem plain_congr : ∀ {p q : List UInt8}, Eqv p q → plainL p = plainL q
  | [], q, h => (plain_nil h).symm
  | a :: p, [], h => plain_nil h.symm
  | a :: p, b :: q, h => by
    obtain ⟨h0, h1⟩ := h.tail
    rw [plainL, plainL, h0, plain_congr h1]
theorem plain_iff {p q : List UInt8} : plainL p = plainL q ↔ Eqv p q := ⟨fun h => (plain_eqv p).symm.trans (h ▸ plain_eqv q), plain_congr⟩
theorem plain_plain (p : List UInt8) : plainL (plainL p) = plainL p := plain_congr (plain_eqv p)
theorem plain_top : ∀ p : List UInt8, plainL p ≠ [] → co p ((plainL p).length - 1) ≠ 0
  | [], h => absurd rfl h
  | a :: p, h => by
    rw [plainL] at h ⊢
    split
    · next hc => rw [if_pos hc] at h; exact absurd rfl h
    · next hc =>
      by_cases hp : plainL p = []
      · rw [hp]
        exact fun e => hc ⟨hp, e⟩
      · have ih := plain_top p hp
        have hl : 0 < (plainL p).length := List.length_pos_iff.2 hp
        rw [List.length_cons, Nat.add_sub_cancel]
        have e : (plainL p).length = ((plainL p).length - 1) + 1 := by omega
        rw [e, co_succ]
        exact ih
theorem plain_ge (p : List UInt8) (k : Nat) (h : (plainL p).length ≤ k) : co p k = 0 := by rw [← plain_eqv p k, co_ge _ _ h]
theorem plain_le_iff (p : List UInt8) (n : Nat) : (plainL p).length ≤ n ↔ ∀ k, n ≤ k → co p k = 0 := by
  constructor
  · intro h k hk
    exact plain_ge p k (by omega)
  · intro h
    rcases Nat.lt_or_ge n (plainL p).length with hlt | hge
    · exact absurd (h ((plainL p).length - 1) (by omega)) (plain_top p (by intro e; rw [e] at hlt; simp at hlt))
    · exact hge
theorem plain_len (p : List UInt8) : (plainL p).length ≤ p.length := (plain_le_iff p _).2 fun k hk => co_ge p k hk
/-- The plain form is the beginning, up to the last one that isn't 0. -/
theorem plain_take (p : List UInt8) (n : Nat) (hn : n ≤ p.length) (hz : ∀ k, n ≤ k → co p k = 0) (ht : n = 0 ∨ co p (n - 1) ≠ 0) : plainL p = p.take n := by
  have hle := (plain_le_iff p n).2 hz
  have hl : (plainL p).length = n := by
    rcases ht with rfl | ht
    · omega
    · rcases Nat.lt_or_ge (plainL p).length n with h | h
      · exact absurd (plain_ge p (n - 1) (by omega)) ht
      · omega
  apply List.ext_getElem
  · rw [hl, List.length_take]
    omega
  · intro i h1 h2
    have e := plain_eqv p i
    have h3 : i < p.length := by rw [List.length_take] at h2; omega
    rw [co_lt _ _ h1, co_lt _ _ h3] at e
    rw [List.getElem_take]
    exact e
theorem plain_of_top (p : List UInt8) (h : p = [] ∨ co p (p.length - 1) ≠ 0) : plainL p = p := by
  have := plain_take p p.length (Nat.le_refl _) (fun k hk => co_ge p k hk) (by
    rcases h with rfl | h
    · exact .inl rfl
    · exact .inr h)
  rwa [List.take_length] at this

/-! ### Degrees of products -/
theorem addL_length : ∀ p q : List UInt8, (addL p q).length = max p.length q.length
  | [], q => by simp [addL]
  | a :: p, [] => by simp [addL]
  | a :: p, b :: q => by
    have := addL_length p q
    simp only [addL, List.length_cons, this]
    omega
theorem mulL_length : ∀ (p q : List UInt8), p ≠ [] → q ≠ [] → (mulL p q).length = p.length + q.length - 1
  | [], q, h, _ => absurd rfl h
  | [a], q, _, hq => by
    have : 0 < q.length := List.length_pos_iff.2 hq
    simp [mulL, addL_length, scaleL]
    omega
  | a :: b :: p, q, _, hq => by
    have ih := mulL_length (b :: p) q (by simp) hq
    have : 0 < q.length := List.length_pos_iff.2 hq
    rw [mulL, addL_length, scaleL, List.length_map, List.length_cons, ih]
    simp only [List.length_cons]
    omega
theorem mulL_top : ∀ (p q : List UInt8), p ≠ [] → q ≠ [] → co (mulL p q) (p.length + q.length - 2) = mulB (co p (p.length - 1)) (co q (q.length - 1))
  | [], q, h, _ => absurd rfl h
  | [a], q, _, hq => by
    have : 0 < q.length := List.length_pos_iff.2 hq
    rw [mulL, mulL, co_add, co_scale, zero_cons, co_nil, add_zero, List.length_singleton, show 1 + q.length - 2 = q.length - 1 by omega]
    rfl
  | a :: b :: p, q, _, hq => by
    have ih := mulL_top (b :: p) q (by simp) hq
    have : 0 < q.length := List.length_pos_iff.2 hq
    have e : (a :: b :: p).length + q.length - 2 = ((b :: p).length + q.length - 2) + 1 := by simp only [List.length_cons]; omega
    rw [mulL, co_add, co_scale, e, co_succ, ih, co_ge q _ (by simp only [List.length_cons]; omega), mul_zero, zero_add]
    rfl
theorem mul_plain_len (p q : List UInt8) (hp : plainL p ≠ []) (hq : plainL q ≠ []) : (plainL (mulL p q)).length = (plainL p).length + (plainL q).length - 1 := by
  have h1 : 0 < (plainL p).length := List.length_pos_iff.2 hp
  have h2 : 0 < (plainL q).length := List.length_pos_iff.2 hq
  have e : plainL (mulL p q) = plainL (mulL (plainL p) (plainL q)) := plain_congr (mul_congr (plain_eqv p).symm (plain_eqv q).symm)
  have hlen := mulL_length _ _ hp hq
  have htop := mulL_top _ _ hp hq
  have hn : co (mulL (plainL p) (plainL q)) ((plainL p).length + (plainL q).length - 2) ≠ 0 := by
    rw [htop, plain_eqv p, plain_eqv q]
    exact mul_ne _ _ (plain_top p hp) (plain_top q hq)
  rw [e, plain_of_top _ (.inr (by rw [hlen, show (plainL p).length + (plainL q).length - 1 - 1 = (plainL p).length + (plainL q).length - 2 by omega]; exact hn)), hlen]
theorem mul_plain_nil {p q : List UInt8} (h : plainL (mulL p q) = []) : plainL p = [] ∨ plainL q = [] := by
  by_cases hp : plainL p = []
  · exact .inl hp
  · by_cases hq : plainL q = []
    · exact .inr hq
    · have := mul_plain_len p q hp hq
      rw [h] at this
      have h1 : 0 < (plainL p).length := List.length_pos_iff.2 hp
      have h2 : 0 < (plainL q).length := List.length_pos_iff.2 hq
      simp at this
      omega

/-! ### Division -/
/-- So often is q in p, and that is left. -/
def IsQuo (p q a r : List UInt8) : Prop := Eqv (addL (mulL a q) r) p ∧ (plainL r).length < (plainL q).length
theorem plain_add_len (p q : List UInt8) : (plainL (addL p q)).length ≤ max (plainL p).length (plainL q).length :=
  (plain_le_iff _ _).2 fun k hk => by rw [co_add, plain_ge p k (by omega), plain_ge q k (by omega), add_zero]
theorem add_cancel {p q : List UInt8} (h : Eqv (addL p q) []) : Eqv p q := fun k => by
  have := h k
  rw [co_add, co_nil] at this
  have e : addB (addB (co p k) (co q k)) (co q k) = addB 0 (co q k) := by rw [this]
  rwa [add_assoc, add_self, add_zero, zero_add] at e
theorem quo_unique {p q a r b s : List UInt8} (h : IsQuo p q a r) (g : IsQuo p q b s) : Eqv a b ∧ Eqv r s := by
  have hq : plainL q ≠ [] := by
    intro e
    have := h.2
    rw [e] at this
    simp at this
  have e1 : Eqv (addL (addL (mulL a q) r) (addL (mulL b q) s)) [] := (add_congr h.1 g.1).trans (addL_self p)
  have e2 : Eqv (addL (mulL (addL a b) q) (addL r s)) [] := ((add_congr (mulL_add_left a b q) (Eqv.refl _)).trans (addL_four _ _ _ _)).trans e1
  have e3 : Eqv (mulL (addL a b) q) (addL r s) := add_cancel e2
  have hab : plainL (addL a b) = [] := by
    by_cases hn : plainL (addL a b) = []
    · exact hn
    · have h1 := mul_plain_len _ _ hn hq
      rw [plain_congr e3] at h1
      have h2 := plain_add_len r s
      have h3 := h.2
      have h4 := g.2
      have h5 : 0 < (plainL (addL a b)).length := List.length_pos_iff.2 hn
      omega
  have e4 : Eqv (addL a b) [] := (plain_eqv _).symm.trans (by rw [hab]; exact Eqv.refl _)
  refine ⟨add_cancel e4, ?_⟩
  have e5 : Eqv (mulL (addL a b) q) [] := (mul_congr e4 (Eqv.refl q)).trans (Eqv.refl _)
  exact add_cancel (e3.symm.trans e5)

/-! ### Slopes -/
def slopeL : List UInt8 → List UInt8
  | [] => []
  | _ :: p => addL p (0 :: slopeL p)
theorem co_slope : ∀ (p : List UInt8) (k : Nat), co (slopeL p) k = if k % 2 = 0 then co p (k + 1) else 0
  | [], k => by rw [slopeL, co_nil, co_nil]; split <;> rfl
  | a :: p, 0 => by
    rw [slopeL, co_add, co_zero, add_zero, co_succ]
    rfl
  | a :: p, k + 1 => by
    rw [slopeL, co_add, co_succ, co_slope p k, co_succ]
    by_cases h : k % 2 = 0
    · rw [if_pos h, if_neg (by omega), add_self]
    · rw [if_neg h, if_pos (by omega), add_zero]
theorem slope_congr {p q : List UInt8} (h : Eqv p q) : Eqv (slopeL p) (slopeL q) := fun k => by rw [co_slope, co_slope, h (k + 1)]
theorem slope_add (p q : List UInt8) : Eqv (slopeL (addL p q)) (addL (slopeL p) (slopeL q)) := fun k => by
  rw [co_slope, co_add, co_add, co_slope, co_slope]
  split
  · rfl
  · rw [add_zero]
theorem slope_scale (a : UInt8) (p : List UInt8) : Eqv (slopeL (scaleL a p)) (scaleL a (slopeL p)) := fun k => by
  rw [co_slope, co_scale, co_scale, co_slope]
  split
  · rfl
  · rw [mul_zero]
theorem slope_mul : ∀ p q : List UInt8, Eqv (slopeL (mulL p q)) (addL (mulL (slopeL p) q) (mulL p (slopeL q)))
  | [], q => Eqv.refl _
  | a :: p, q => by
    have ih := slope_mul p q
    have l1 : Eqv (slopeL (mulL (a :: p) q)) (addL (scaleL a (slopeL q)) (addL (mulL p q) (0 :: addL (mulL (slopeL p) q) (mulL p (slopeL q))))) := by
      rw [mulL]
      refine (slope_add _ _).trans (add_congr (slope_scale a q) ?_)
      rw [slopeL]
      exact add_congr (Eqv.refl _) (ih.cons 0)
    have l2 : Eqv (mulL (slopeL (a :: p)) q) (addL (mulL p q) (0 :: mulL (slopeL p) q)) := by
      rw [slopeL]
      exact (mulL_add_left _ _ _).trans (add_congr (Eqv.refl _) (mulL_shift_left _ _))
    refine l1.trans (Eqv.trans ?_ (add_congr l2.symm (Eqv.refl _)))
    rw [mulL]
    refine (add_congr (Eqv.refl _) (add_congr (Eqv.refl _) (shift_add _ _))).trans (fun k => ?_)
    simp only [co_add]
    unfold addB
    ac_rfl
end Go.Proofs.Ytkkfkibjamnpnaa
/-
  A block whose first cells are bytes, and worlds in which all but one block lies as it lay (no program is named here). No conditions but those typed.
-/
namespace Go.Proofs.Ytkkfkibjamnpnaa
set_option maxRecDepth 100000
open Go.RowKit
set_option linter.unusedSimpArgs false
set_option linter.unusedVariables false

/-! ### A block whose first cells are bytes -/
def Cel (w : World) (g : Nat) (e : TypeId) (l : List UInt8) : Prop := ∃ L, Row w g e L ∧ L.take l.length = l.map vB
section
variable {w w' : World} {g : Nat} {e : TypeId} {l : List UInt8}
theorem Cel.lt (h : Cel w g e l) : g < w.heap.size := by
  obtain ⟨L, h1, _⟩ := h
  exact h1.lt
theorem Cel.get (h : Cel w g e l) (i : Nat) (hi : i < l.length) : w.cell? ⟨g, i, none⟩ = some (.int .u8 ((co l i).toNat : Int)) := by
  obtain ⟨L, h1, h2⟩ := h
  rw [h1.cell? i, co_lt l i hi]
  have := congrArg (·[i]?) h2
  simp only [List.getElem?_take, hi, if_true, List.getElem?_map, List.getElem?_eq_getElem hi] at this
  exact this
theorem Cel.frozen (h : Cel w g e l) (i : Nat) : w.frozen? ⟨g, i, none⟩ = false := by
  obtain ⟨L, h1, _⟩ := h
  exact h1.frozen i
theorem Cel.set (h : Cel w g e l) (i : Nat) (z : UInt8) : Cel (w.setCell ⟨g, i, none⟩ (.int .u8 (z.toNat : Int))) g e (l.set i z) := by
  obtain ⟨L, h1, h2⟩ := h
  refine ⟨_, h1.setCell i (.int .u8 (z.toNat : Int)), ?_⟩
  rw [List.length_set, List.take_set, h2, List.map_set]
  rfl
theorem Cel.later (h : Cel w g e l) (hb : Below w.heap.size w w') : Cel w' g e l := by
  obtain ⟨L, h1, h2⟩ := h
  exact ⟨L, h1.later hb, h2⟩
theorem Cel.drew (h : Cel w g e l) : Cel w.drew g e l := h
theorem Cel.rd (h : Cel w g e l) : Rd vB w (some ⟨g, 0, none⟩) l := fun hn => ⟨g, 0, rfl, fun i hi => by rw [Nat.zero_add, h.get i hi, co_lt l i hi]; rfl⟩
theorem cel_of_own {base cap n : Nat} {A : Option Addr} (h : w.ownsRow base e 1 (.slice A n cap) n (l.map vB)) (hl : l.length = n) (hn : 0 < n) : ∃ g, A = some ⟨g, 0, none⟩ ∧ base ≤ g ∧ Cel w g e l := by
  rcases h.2 with ⟨_, h0⟩ | ⟨g, cap', cur, hv, hg, hgg, hc, hm, hs, ht⟩
  · omega
  · have hR : Row w g e cur.toList := hgg
    injection hv with e1 e2 e3
    rw [Nat.mul_one] at ht
    exact ⟨g, e1, hg, cur.toList, hR, by rw [hl]; exact ht⟩
end


/-- .. and the block has cap cells. -/
def CelN (w : World) (g : Nat) (e : TypeId) (cap : Nat) (l : List UInt8) : Prop := ∃ L, Row w g e L ∧ L.length = cap ∧ L.take l.length = l.map vB
theorem CelN.cel {w : World} {g : Nat} {e : TypeId} {cap : Nat} {l : List UInt8} (h : CelN w g e cap l) : Cel w g e l := by
  obtain ⟨L, h1, _, h2⟩ := h
  exact ⟨L, h1, h2⟩
theorem Cel.some_cap {w : World} {g : Nat} {e : TypeId} {l : List UInt8} (h : Cel w g e l) : ∃ cap, CelN w g e cap l := by
  obtain ⟨L, h1, h2⟩ := h
  exact ⟨L.length, L, h1, rfl, h2⟩
theorem CelN.drew {w : World} {g : Nat} {e : TypeId} {cap : Nat} {l : List UInt8} (h : CelN w g e cap l) : CelN w.drew g e cap l := h
theorem CelN.set {w : World} {g : Nat} {e : TypeId} {cap : Nat} {l : List UInt8} (h : CelN w g e cap l) (i : Nat) (z : UInt8) : CelN (w.setCell ⟨g, i, none⟩ (.int .u8 (z.toNat : Int))) g e cap (l.set i z) := by
  obtain ⟨L, h1, h3, h2⟩ := h
  refine ⟨_, h1.setCell i (.int .u8 (z.toNat : Int)), by rw [List.length_set]; exact h3, ?_⟩
  rw [List.length_set, List.take_set, h2, List.map_set]
  rfl
theorem celN_some {w : World} {e : TypeId} {l : List UInt8} {base cap n g : Nat} (h : w.ownsRow base e 1 (.slice (some ⟨g, 0, none⟩) n cap) n (l.map vB)) (hl : l.length = n) : CelN w g e cap l ∧ base ≤ g ∧ n ≤ cap ∧ cap ≤ maxLen := by
  rcases h.2 with ⟨e0, _⟩ | ⟨g', cap', cur, hv, hg, hgg, hc, hm, hs, ht⟩
  · cases e0
  · have hR : Row w g' e cur.toList := hgg
    injection hv with e1 e2 e3
    injection e1 with e1
    injection e1 with e1
    subst e1 e3
    rw [Nat.mul_one] at ht
    exact ⟨⟨cur.toList, hR, by rw [Array.length_toList, hs, Nat.mul_one], by rw [hl]; exact ht⟩, hg, hc, hm⟩
theorem CelN.own {w : World} {e : TypeId} {l : List UInt8} {g cap base : Nat} (h : CelN w g e cap l) (hb : base ≤ g) (hl : l.length ≤ cap) (hm : cap ≤ maxLen) : w.ownsRow base e 1 (.slice (some ⟨g, 0, none⟩) l.length cap) l.length (l.map vB) := by
  obtain ⟨L, h1, h3, h2⟩ := h
  exact ⟨by rw [List.length_map, Nat.mul_one], .inr ⟨g, cap, L.toArray, rfl, hb, h1, hl, hm, by rw [List.size_toArray, h3, Nat.mul_one], by rw [Nat.mul_one]; exact h2⟩⟩

/-! ### All but one block lies as it lay -/
structure Only (g : Nat) (w w' : World) : Prop where
  below : Below g w w'
  other : ∀ b, b ≠ g → b < w.heap.size → w'.heap[b]? = w.heap[b]?
theorem Only.refl (g : Nat) (w : World) : Only g w w := ⟨Below.refl _ _, fun _ _ _ => rfl⟩
theorem Only.trans {g : Nat} {a b c : World} (h : Only g a b) (k : Only g b c) : Only g a c :=
  ⟨h.below.trans k.below, fun x hx hl => (k.other x hx (Nat.lt_of_lt_of_le hl h.below.size)).trans (h.other x hx hl)⟩
theorem Only.drew {g : Nat} {a w : World} (h : Only g a w) : Only g a w.drew := ⟨h.below.drew, h.other⟩
theorem Only.setCell {g : Nat} {a w : World} (h : Only g a w) (i : Nat) (v : Value) : Only g a (w.setCell ⟨g, i, none⟩ v) :=
  ⟨h.below.setCell (p := ⟨g, i, none⟩) (Nat.le_refl _) v, fun b hb hl => (Below.heap_setCell w ⟨g, i, none⟩ v b hb).trans (h.other b hb hl)⟩
theorem Only.later {g : Nat} {w w' : World} (h : Below w.heap.size w w') (hg : g ≤ w.heap.size) : Only g w w' := ⟨h.mono hg, fun b _ hl => h.block b hl⟩
theorem Only.fresh {g : Nat} {w w' : World} (h : Only g w w') (hg : w.heap.size ≤ g) : Below w.heap.size w w' := h.below.mono hg
theorem Rd.only {α : Type} {f : α → Value} {g : Nat} {w w' : World} {A : Option Addr} {l : List α} (h : Rd f w A l) (k : Only g w w') (hA : l ≠ [] → ∀ a, A = some a → a.block ≠ g) : Rd f w' A l := fun hn => by
  obtain ⟨b, o, rfl, hc⟩ := h hn
  refine ⟨b, o, rfl, fun i hi => ?_⟩
  have h1 := hc i hi
  exact (World.cell?_of_block (w := w) (a := ⟨b, o + i, none⟩) (k.other b (hA hn _ rfl) (World.block_lt_of_cell? w _ h1))).trans h1
theorem Rd.off {α : Type} {f : α → Value} {w : World} {A : Option Addr} {l : List α} (h : Rd f w A l) : l ≠ [] → ∀ a, A = some a → a.block < w.heap.size := fun hn a ha => by
  obtain ⟨b, o, e1, hcell⟩ := h hn
  rw [ha] at e1
  injection e1 with e1
  subst e1
  exact World.block_lt_of_cell? w _ (hcell 0 (List.length_pos_iff.2 hn))
theorem Rd.apart {α : Type} {f : α → Value} {w : World} {A : Option Addr} {l : List α} (h : Rd f w A l) {g : Nat} (hg : w.heap.size ≤ g) : l ≠ [] → ∀ a, A = some a → a.block ≠ g := fun hn a ha => by
  have := h.off hn a ha
  omega
theorem Cel.only {g q : Nat} {w w' : World} {e : TypeId} {l : List UInt8} (h : Cel w q e l) (k : Only g w w') (hq : q ≠ g) : Cel w' q e l := by
  have hlt := h.lt
  obtain ⟨L, h1, h2⟩ := h
  exact ⟨L, (k.other q hq hlt).trans h1, h2⟩
theorem Boxed.only {g q : Nat} {w w' : World} {t : TypeId} {v : Value} (h : Boxed w q t v) (k : Only g w w') (hq : q ≠ g) : Boxed w' q t v := (k.other q hq h.lt).trans h
theorem Only.keeps {g : Nat} {w w' : World} {e : TypeId} {l : List UInt8} (h : Only g w w') (hc : Cel w g e l) (B : Nat) : KeepsFrom B w w' := by
  obtain ⟨L, h1, _⟩ := hc
  refine ⟨h.below.size, fun k o _ hk ho => ?_⟩
  by_cases e : k = g
  · subst e
    have h1' : w.heap[k]? = some (.cells L.toArray _ (0, 0)) := h1
    rw [h1'] at hk
    injection hk with hk
    subst hk
    cases ho
  · exact (h.other k e (Array.getElem?_eq_some_iff.1 hk).1).trans hk
/-- A slice of bytes that lies in a block of the call's own from its first cell on. -/
theorem cel_new {w : World} {e : TypeId} {n : Nat} : Cel (w.alloc (.cells (List.replicate n (Value.int .u8 0)).toArray e)) w.heap.size e (List.replicate n 0) :=
  ⟨_, Row.new w e _ _ rfl, by rw [List.length_replicate, List.take_of_length_le (by rw [List.length_replicate]; exact Nat.le_refl _), List.map_replicate]; rfl⟩
theorem Cel.rd_from {w : World} {g : Nat} {e : TypeId} {l : List UInt8} (h : Cel w g e l) (o n : Nat) (hn : o + n ≤ l.length) : Rd vB w (some ⟨g, o, none⟩) ((l.drop o).take n) := fun _ => ⟨g, o, rfl, fun i hi => by
  rw [List.length_take, List.length_drop] at hi
  have hj : o + i < l.length := by omega
  rw [h.get (o + i) hj, co_lt l (o + i) hj, List.getElem_take, List.getElem_drop]
  rfl⟩

theorem cel_some {w : World} {e : TypeId} {l : List UInt8} {base cap n g : Nat} (h : w.ownsRow base e 1 (.slice (some ⟨g, 0, none⟩) n cap) n (l.map vB)) (hl : l.length = n) : Cel w g e l ∧ base ≤ g ∧ n ≤ cap := by
  rcases h.2 with ⟨e0, _⟩ | ⟨g', cap', cur, hv, hg, hgg, hc, hm, hs, ht⟩
  · cases e0
  · have hR : Row w g' e cur.toList := hgg
    injection hv with e1 e2 e3
    injection e1 with e1
    injection e1 with e1
    subst e1
    rw [Nat.mul_one] at ht
    exact ⟨⟨cur.toList, hR, by rw [hl]; exact ht⟩, hg, by omega⟩
theorem zeros_map (n : Nat) : (List.replicate n (Value.int .u8 0)) = (List.replicate n (0 : UInt8)).map vB := by
  rw [List.map_replicate]
  rfl
/-- The cells that a copy leaves. -/
theorem cel_splice {l : List UInt8} {L : List Value} (hL : L.take l.length = l.map vB) (off : Nat) (S : List UInt8) (h : off + S.length ≤ l.length) :
    (L.take off ++ S.map vB ++ L.drop (off + S.length)).take (l.take off ++ S ++ l.drop (off + S.length)).length = (l.take off ++ S ++ l.drop (off + S.length)).map vB := by
  have hlen : l.length ≤ L.length := by
    have := congrArg List.length hL
    rw [List.length_take, List.length_map] at this
    omega
  have h1 : L.take off = (l.take off).map vB := by
    rw [List.map_take, ← hL, List.take_take, Nat.min_eq_left (by omega)]
  have h2 : (L.drop (off + S.length)).take (l.length - (off + S.length)) = (l.drop (off + S.length)).map vB := by
    rw [List.map_drop, ← hL, List.drop_take]
  have h3 : (L.take off ++ S.map vB).length = off + S.length := by rw [List.length_append, List.length_take, List.length_map]; omega
  have h4 : (l.take off ++ S ++ l.drop (off + S.length)).length = l.length := by
    rw [List.length_append, List.length_append, List.length_take, List.length_drop]
    omega
  rw [h4, List.take_append, h3, List.take_of_length_le (by omega), h2, h1, List.map_append, List.map_append]
theorem Only.setRow {g : Nat} {a w : World} (h : Only g a w) (cs : Array Value) : Only g a (w.setRow g cs) :=
  ⟨below_setRow h.below (Nat.le_refl _) cs, fun b hb hl => (Go.setRow_other w g b cs hb).trans (h.other b hb hl)⟩
/-- 'copy(d, s)' into a block whose first cells are bytes. -/
theorem wpList_copy_cel {P : Program} {ops : Array Oper} {rest : List Oper} {o : Oper} {a : Act} {w : World} {Q : Exit → Act → World → Prop} (hgd : o.guard = none) (d s : Operand) (dT sT : TypeId)
    (ho : o.op = .call { callee := .builtin .copy, args := #[d, s], argTypes := #[dT, sT] }) (elem : TypeId) (hu : P.underlying dT = some (.slice elem)) (hsz : (P.info? elem).map (·.size) = some 1)
    (g off dLen dCap : Nat) (A : Option Addr) (S : List UInt8) (sCap : Nat) (hd : a.eval d = .slice (some ⟨g, off, none⟩) dLen dCap) (hs : a.eval s = .slice A S.length sCap)
    (l : List UInt8) (t : TypeId) (hg : Cel w g t l) (hr : Rd vB w A S) (hle : S.length ≤ dLen) (hfit : off + S.length ≤ l.length)
    (h : ∀ w', Cel w' g t (l.take off ++ S ++ l.drop (off + S.length)) → Only g w w' → wpList P ops Q rest (a.put o.dst (.int .i64 (S.length : Int))) w') : wpList P ops Q (o :: rest) a w := by
  obtain ⟨L, h1, h2⟩ := hg
  have hlen : l.length ≤ L.length := by
    have := congrArg List.length h2
    rw [List.length_take, List.length_map] at this
    omega
  refine wpList_copy_row hgd d s dT sT ho elem hu hsz g off dLen dCap A S sCap hd hs L t h1 hr (fun _ => rfl) hle (by omega) ?_
  exact h _ ⟨_, h1.setRow _, cel_splice h2 off S hfit⟩ ((Only.refl g w).setRow _)
end Go.Proofs.Ytkkfkibjamnpnaa
/-
  A string as a list of bytes: its length, one byte of it, the end of it, two held together (no program is named here). No conditions but those typed.
-/
namespace Go.Proofs.Ytkkfkibjamnpnaa
set_option maxRecDepth 100000
open Go.RowKit
set_option linter.unusedSimpArgs false

def strL (l : List UInt8) : ByteArray := ⟨l.toArray⟩
theorem strL_size (l : List UInt8) : (strL l).size = l.length := by simp [strL, ByteArray.size]
theorem strL_toList (l : List UInt8) : (strL l).toList = l := by unfold strL; exact ByteArray.toList_mk l
theorem strL_append (a b : List UInt8) : strL a ++ strL b = strL (a ++ b) := by
  unfold strL
  apply ByteArray.ext
  rw [ByteArray.data_append]
  simp
theorem strL_inj {a b : List UInt8} (h : strL a = strL b) : a = b := by
  have := congrArg ByteArray.toList h
  rwa [strL_toList, strL_toList] at this
theorem strL_drop (l : List UInt8) (k : Nat) : (strL l).extract k (strL l).size = strL (l.drop k) := by
  apply ByteArray.ext
  rw [ByteArray.data_extract, strL_size]
  simp [strL]
  exact List.take_of_length_le (by simp)
theorem run_index_strL {P : Program} (t : TypeId) (l : List UInt8) (i : Nat) (h : i < l.length) (ht : P.underlying t = some .string) (w : World) :
    (Instr.index t (.string (strL l)) (.int .i64 (i : Int))).run P w = .ok (.int .u8 (l[i].toNat : Int)) w := by
  rw [run_index_string w t (strL l) .i64 (i : Int) ht, dif_pos (by rw [strL_size]; omega)]
  simp [strL, ByteArray.getElem_eq_getElem_data]
theorem run_slice_strL {P : Program} (t : TypeId) (l : List UInt8) (k : Nat) (h : k ≤ l.length) (ht : P.underlying t = some .string) (w : World) :
    (Instr.slice t (.string (strL l)) (some (.int .i64 (k : Int))) none none).run P w = .ok (.string (strL (l.drop k))) w := by
  rw [run_slice_string_l w t (strL l) ht .i64 (k : Int) (by omega) (by rw [strL_size]; omega), Int.toNat_natCast, strL_drop]
end Go.Proofs.Ytkkfkibjamnpnaa
/-
  Structs of three numbers and a slice of bytes (payloads, activations): as cells, as a value, in a block of their own; calls that hand back a list of bytes. No conditions but those typed.
-/
namespace Go.Proofs.Ytkkfkibjamnpnaa
set_option maxRecDepth 100000
open Go.RowKit
set_option linter.unusedSimpArgs false
set_option linter.unusedVariables false

/-- A payload as its cells. -/
def cellsP (t e c : Nat) (A : Option Addr) (n k : Nat) : List Value := [.int .u64 (t : Int), .int .u64 (e : Int), .int .u64 (c : Int), .slice A n k]
def aggP (t e c : Nat) (A : Option Addr) (n k : Nat) : Value := .agg #[.int .u64 (t : Int), .int .u64 (e : Int), .int .u64 (c : Int), .slice A n k]
theorem box_pay (w : World) (ty : TypeId) (a b c d : Value) : Row (w.alloc (.cells #[a, b, c, d] ty)) w.heap.size ty [a, b, c, d] ∧ Below w.heap.size w (w.alloc (.cells #[a, b, c, d] ty)) := ⟨Row.new w ty _ _ rfl, below_new (Below.refl _ _) _⟩
def sameF (t e c : Nat) (g : List UInt8) (t' e' c' : Nat) (g' : List UInt8) : Bool := decide (t = t' ∧ e = e' ∧ c = c' ∧ g = g')
/-- A call that hands back a list of bytes. -/
def RetZ (w : World) (l : List UInt8) (e : Ending) (w' : World) : Prop := ∃ A n c, e = .returned (.slice A n c) ∧ Hid (l.length = n) ∧ n ≤ c ∧ Rd vB w' A l ∧ Below w.heap.size w w'
theorem RetZ.own {w w' : World} {l : List UInt8} {base : Nat} {e : TypeId} {v : Value} {n : Nat} (hn : l.length = n) (h : w'.ownsRow base e 1 v n (l.map vB)) (hb : Below w.heap.size w w') : RetZ w l (.returned v) w' := by
  subst hn
  obtain ⟨A, c, rfl, hc, hr⟩ := own_slice h
  exact ⟨A, l.length, c, rfl, rfl, hc, hr, hb⟩

theorem own_lit (w : World) (e : TypeId) (l : List Value) (cs : Array Value) (h : cs = l.toArray) (hm : l.length ≤ maxLen) : (w.alloc (.cells cs e)).ownsRow w.heap.size e 1 (.slice (some ⟨w.heap.size, 0, none⟩) l.length l.length) l.length l :=
  ⟨by simp, .inr ⟨w.heap.size, l.length, cs, rfl, Nat.le_refl _, heap_alloc_new w _, Nat.le_refl _, hm, by subst h; simp, by subst h; simp⟩⟩
theorem one_four (a b c d : Value) (ha : a.oneCell' = true) (hb : b.oneCell' = true) (hc : c.oneCell' = true) (hd : d.oneCell' = true) : ∀ v ∈ [a, b, c, d], v.oneCell' = true := fun v hv => by
  simp at hv
  rcases hv with rfl | rfl | rfl | rfl <;> assumption
theorem strBz (n : Nat) {w : World} {A : Option Addr} {l : List UInt8} {c : Nat} (H : Hid (l.length = n)) (h : Rd vB w A l) : ∀ W, Below w.heap.size w W → (convert 22 9 (.slice A n c)).run Try.prog W = .ok (.string (strL l)) W :=
  fun W hW => run_str W _ _ _ Try.underlying22 Try.underlying5 Try.underlying9 A l n c H.out (h.keep hW)
theorem str_sameB (a b : List UInt8) (S : Bool) (h : (a = b) ↔ S = true) : ((strL a).toList == (strL b).toList) = S := by
  rw [strL_toList, strL_toList, Bool.eq_iff_iff, beq_iff_eq]
  exact h
theorem same_selfP (t e c : Nat) (g : List UInt8) : sameF t e c g t e c g = true := by unfold sameF; simp
end Go.Proofs.Ytkkfkibjamnpnaa
/-
  Disks in memory: their cells, their value, what their bytes read as; what the calls of layer 17 hand back. No conditions but those typed.
-/
namespace Go.Proofs.Ytkkfkibjamnpnaa
set_option maxRecDepth 100000
open Go.RowKit
set_option linter.unusedSimpArgs false
set_option linter.unusedVariables false

/-- Where a disk's bytes lie, how many they are, how much room there is. -/
structure WD where
  A0 : Option Addr
  n0 : Nat
  c0 : Nat
  A1 : Option Addr
  n1 : Nat
  c1 : Nat
def cellsD (x : WD) (D : DK) : List Value := [.slice x.A0 x.n0 x.c0, .int .i64 D.a0.s, .slice x.A1 x.n1 x.c1, .int .i64 D.a1.s, .int .i64 D.fuse, .int .i64 D.keep, .bool D.down]
def aggD (x : WD) (D : DK) : Value := .agg #[.slice x.A0 x.n0 x.c0, .int .i64 D.a0.s, .slice x.A1 x.n1 x.c1, .int .i64 D.a1.s, .int .i64 D.fuse, .int .i64 D.keep, .bool D.down]
structure InD (w : World) (x : WD) (D : DK) : Prop where
  l0 : D.a0.b.length = x.n0
  h0 : x.n0 ≤ x.c0
  r0 : Rd vB w x.A0 D.a0.b
  l1 : D.a1.b.length = x.n1
  h1 : x.n1 ≤ x.c1
  r1 : Rd vB w x.A1 D.a1.b
theorem InD.keep {w w' : World} {x : WD} {D : DK} (h : InD w x D) (hb : Below w.heap.size w w') : InD w' x D := ⟨h.l0, h.h0, h.r0.keep hb, h.l1, h.h1, h.r1.keep hb⟩
def FreshD (B : Nat) (x : WD) : Prop := (∀ a, x.A0 = some a → B ≤ a.block) ∧ ∀ a, x.A1 = some a → B ≤ a.block
theorem FreshD.mono {B C : Nat} {x : WD} (h : FreshD C x) (hc : B ≤ C) : FreshD B x := ⟨fun a ha => Nat.le_trans hc (h.1 a ha), fun a ha => Nat.le_trans hc (h.2 a ha)⟩
theorem slice_not_byte (A : Option Addr) (n c : Nat) (x : UInt8) : Value.slice A n c ≠ vB x := fun h => by unfold vB at h; cases h
theorem bool_not_byte (b : Bool) (x : UInt8) : Value.bool b ≠ vB x := fun h => by unfold vB at h; cases h
theorem int_not_byte (n : Int) (x : UInt8) : Value.int .i64 n ≠ vB x := fun h => by unfold vB at h; injection h with h; cases h
/-- Bytes stay where a block turns whose cells are no bytes. -/
theorem Rd.no_byte {w w' : World} {A : Option Addr} {L : List UInt8} (h : Rd vB w A L) {g : Nat} {t : TypeId} {l : List Value} (hR : Row w g t l) (hl : ∀ v ∈ l, ∀ x, v ≠ vB x) (k : Only g w w') : Rd vB w' A L :=
  h.only k (fun hn a ha => by
    obtain ⟨b, o, e, hc⟩ := h hn
    rw [ha] at e
    injection e with e
    subst e
    intro hb
    have hb' : b = g := hb
    subst hb'
    have h1 := hc 0 (List.length_pos_iff.2 hn)
    rw [hR.cell? (o + 0)] at h1
    exact hl _ (List.mem_of_getElem? h1) _ rfl)
theorem cellsD_no (x : WD) (D : DK) : ∀ v ∈ cellsD x D, ∀ y, v ≠ vB y := fun v hv y => by
  simp [cellsD] at hv
  rcases hv with rfl | rfl | rfl | rfl | rfl | rfl | rfl
  · exact slice_not_byte _ _ _ y
  · exact int_not_byte _ y
  · exact slice_not_byte _ _ _ y
  · exact int_not_byte _ y
  · exact int_not_byte _ y
  · exact int_not_byte _ y
  · exact bool_not_byte _ y
theorem InD.no_byte {w w' : World} {x : WD} {D : DK} (h : InD w x D) {g : Nat} {t : TypeId} {l : List Value} (hR : Row w g t l) (hl : ∀ v ∈ l, ∀ x, v ≠ vB x) (k : Only g w w') : InD w' x D := ⟨h.l0, h.h0, h.r0.no_byte hR hl k, h.l1, h.h1, h.r1.no_byte hR hl k⟩

def cellsA (A : Option Addr) (n c : Nat) (s : Int) : List Value := [.slice A n c, .int .i64 s]
def aggA (A : Option Addr) (n c : Nat) (s : Int) : Value := .agg #[.slice A n c, .int .i64 s]
theorem cellsA_no (A : Option Addr) (n c : Nat) (s : Int) : ∀ v ∈ cellsA A n c s, ∀ y, v ≠ vB y := fun v hv y => by
  simp [cellsA] at hv
  rcases hv with rfl | rfl
  · exact slice_not_byte _ _ _ y
  · exact int_not_byte _ y
/-- What a call of layer 17 hands back. -/
def RetD (w : World) (D : DK) (er : Int) (e : Ending) (w' : World) : Prop := ∃ x, e = .returned (.tuple #[aggD x D, .int .i64 er]) ∧ InD w' x D ∧ FreshD w.heap.size x ∧ Below w.heap.size w w'
/-- .. of the reference: nothing is said of where. -/
def RetF (w : World) (D : DK) (er : Int) (e : Ending) (w' : World) : Prop := ∃ x, e = .returned (.tuple #[aggD x D, .int .i64 er]) ∧ InD w' x D ∧ Below w.heap.size w w'
/-- A disk alone. -/
def Ret1 (w : World) (D : DK) (e : Ending) (w' : World) : Prop := ∃ x, e = .returned (aggD x D) ∧ InD w' x D ∧ Below w.heap.size w w'
theorem size_disk : (Try.prog.info? 27).map (·.size) = some 7 := by kernel_rfl
theorem size_area : (Try.prog.info? 24).map (·.size) = some 2 := by kernel_rfl
theorem one_disk (x : WD) (D : DK) : ∀ v ∈ cellsD x D, v.oneCell' = true := fun v hv => by
  simp [cellsD] at hv
  rcases hv with rfl | rfl | rfl | rfl | rfl | rfl | rfl <;> rfl
theorem one_area (A : Option Addr) (n c : Nat) (s : Int) : ∀ v ∈ cellsA A n c s, v.oneCell' = true := fun v hv => by
  simp [cellsA] at hv
  rcases hv with rfl | rfl <;> rfl
/-- A box of its own. -/
theorem box_of (w : World) (ty : TypeId) (l : List Value) (cs : Array Value) (h : cs = l.toArray) : Row (w.alloc (.cells cs ty)) w.heap.size ty l ∧ Below w.heap.size w (w.alloc (.cells cs ty)) := ⟨Row.new w ty _ _ h, below_new (Below.refl _ _) _⟩
/-- One of two areas. -/
theorem index_area0 (a b c d : Value) (W : World) : (Instr.index 25 (.agg #[a, b, c, d]) (.int .i64 0)).run Try.prog W = .ok (.agg #[a, b]) W := by kernel_rfl
theorem index_area1 (a b c d : Value) (W : World) : (Instr.index 25 (.agg #[a, b, c, d]) (.int .i64 1)).run Try.prog W = .ok (.agg #[c, d]) W := by kernel_rfl
end Go.Proofs.Ytkkfkibjamnpnaa
/-
  What the program's call Right of layer 17 answers. No conditions but those typed.
-/
namespace Go.Proofs.Ytkkfkibjamnpnaa
set_option maxRecDepth 100000
open Go.RowKit
set_option linter.unusedSimpArgs false
set_option linter.unusedVariables false

set_option maxHeartbeats 2000000 in
theorem right17_any (x : WD) (D : DK) (w : World) (h : InD w x D) : Calls Try.prog 19 #[aggD x D] w fun e w' => e = .returned (.bool (decide (rightDK D))) ∧ Below w.heap.size w w' := by
  obtain ⟨A0, n0, c0, A1, n1, c1⟩ := x
  obtain ⟨⟨b0, s0⟩, ⟨b1, s1⟩, f, k, d⟩ := D
  obtain ⟨l0, h0, r0, l1, h1, r1⟩ := h
  dsimp only at l0 h0 l1 h1
  unfold aggD
  dsimp only
  have HR : Hid (decide (rightDK ⟨⟨b0, s0⟩, ⟨b1, s1⟩, f, k, d⟩) = true ↔ (0 ≤ s0 ∧ s0 ≤ n0 ∧ n0 ≤ 1048576) ∧ (0 ≤ s1 ∧ s1 ≤ n1 ∧ n1 ≤ 1048576) ∧ -1 ≤ f ∧ 0 ≤ k) := by
    unfold Hid
    rw [decide_eq_true_iff]
    unfold rightDK rightAK
    dsimp only
    rw [l0, l1]
  generalize decide (rightDK ⟨⟨b0, s0⟩, ⟨b1, s1⟩, f, k, d⟩) = R at HR ⊢
  clear l0 l1 r0 r1 h0 h1
  obtain ⟨hR0, hB0⟩ := box_of w 27 [.slice A0 n0 c0, .int .i64 s0, .slice A1 n1 c1, .int .i64 s1, .int .i64 f, .int .i64 k, .bool d] _ rfl
  go_enter Try.func19, Try.ntmps19
  go_upto_region 1 with fail
  generalize w.alloc (.cells [Value.slice A0 n0 c0, .int .i64 s0, .slice A1 n1 c1, .int .i64 s1, .int .i64 f, .int .i64 k, .bool d].toArray 27) = W at hR0 hB0 ⊢
  have e0 : W.cell? ⟨w.heap.size, 0, none⟩ = some (.slice A0 n0 c0) := hR0.cell rfl
  have e1 : W.cell? ⟨w.heap.size, 1, none⟩ = some (.int .i64 s0) := hR0.cell rfl
  have e2 : W.cell? ⟨w.heap.size, 2, none⟩ = some (.slice A1 n1 c1) := hR0.cell rfl
  have e3 : W.cell? ⟨w.heap.size, 3, none⟩ = some (.int .i64 s1) := hR0.cell rfl
  go_wp2_with fail
  refine wp_loop_rounds 3 ?_
  rw [rounds_succ]
  obtain ⟨hR1, hB1⟩ := box_of W 24 [.slice none 0 0, .int .i64 0] _ rfl
  have ix0 := index_area0 (.slice A0 n0 c0) (.int .i64 s0) (.slice A1 n1 c1) (.int .i64 s1)
  have ix1 := index_area1 (.slice A0 n0 c0) (.int .i64 s0) (.slice A1 n1 c1) (.int .i64 s1)
  go_upto_region 4 with (refine wpList_store_row rfl 24 (.tmp 4) (.tmp 9) rfl W.heap.size rfl [.slice A0 n0 c0, .int .i64 s0] rfl _ _ hR1 (by exact size_area) rfl (one_area A0 n0 c0 s0) ?_)
  have hR2 := hR1.setRow [.slice A0 n0 c0, .int .i64 s0]
  have hne : w.heap.size ≠ W.heap.size := by have := hR0.lt; omega
  replace hR0 := hR0.later hB1
  replace hR0 := hR0.setRow_other hne #[.slice A0 n0 c0, .int .i64 s0]
  replace hB0 := below_setRow (below_step hB0 hB1) (show w.heap.size ≤ W.heap.size by have := hB0.size; omega) #[.slice A0 n0 c0, .int .i64 s0]
  clear hR1 hB1 e0 e1 e2 e3
  generalize (W.alloc (.cells #[Value.slice none 0 0, .int .i64 0] 24)).setRow W.heap.size #[.slice A0 n0 c0, .int .i64 s0] = W2 at hR0 hR2 hB0 ⊢
  have e0 : W2.cell? ⟨W.heap.size, 0, none⟩ = some (.slice A0 n0 c0) := hR2.cell rfl
  have e1 : W2.cell? ⟨W.heap.size, 1, none⟩ = some (.int .i64 s0) := hR2.cell rfl
  by_cases p0 : 0 ≤ s0 ∧ s0 ≤ (n0 : Int) ∧ n0 ≤ 1048576
  · obtain ⟨q0, q1, q2⟩ := p0
    have q3 : (n0 : Int) ≤ 1048576 := by omega
    have HR2 : Hid (R = true ↔ (0 ≤ s1 ∧ s1 ≤ (n1 : Int) ∧ n1 ≤ 1048576) ∧ -1 ≤ f ∧ 0 ≤ k) := by
      unfold Hid
      rw [HR.out]
      exact ⟨fun h => h.2, fun h => ⟨⟨q0, q1, q2⟩, h⟩⟩
    go_wp2_with fail
    rw [rounds_succ]
    clear e0 e1 hR2 HR q0 q1 q2 q3
    obtain ⟨hR1, hB1⟩ := box_of W2 24 [.slice none 0 0, .int .i64 0] _ rfl
    go_upto_region 4 with (refine wpList_store_row rfl 24 (.tmp 4) (.tmp 9) rfl W2.heap.size rfl [.slice A1 n1 c1, .int .i64 s1] rfl _ _ hR1 (by exact size_area) rfl (one_area A1 n1 c1 s1) ?_)
    have hR2 := hR1.setRow [.slice A1 n1 c1, .int .i64 s1]
    have hne2 : w.heap.size ≠ W2.heap.size := by have := hR0.lt; omega
    replace hR0 := (hR0.later hB1).setRow_other hne2 #[.slice A1 n1 c1, .int .i64 s1]
    replace hB0 := below_setRow (below_step hB0 hB1) (show w.heap.size ≤ W2.heap.size by have := hB0.size; omega) #[.slice A1 n1 c1, .int .i64 s1]
    clear hR1 hB1
    generalize (W2.alloc (.cells #[Value.slice none 0 0, .int .i64 0] 24)).setRow W2.heap.size #[.slice A1 n1 c1, .int .i64 s1] = W3 at hR0 hR2 hB0 ⊢
    have e0 : W3.cell? ⟨W2.heap.size, 0, none⟩ = some (.slice A1 n1 c1) := hR2.cell rfl
    have e1 : W3.cell? ⟨W2.heap.size, 1, none⟩ = some (.int .i64 s1) := hR2.cell rfl
    have e4 : W3.cell? ⟨w.heap.size, 4, none⟩ = some (.int .i64 f) := hR0.cell rfl
    have e5 : W3.cell? ⟨w.heap.size, 5, none⟩ = some (.int .i64 k) := hR0.cell rfl
    by_cases p1 : 0 ≤ s1 ∧ s1 ≤ (n1 : Int) ∧ n1 ≤ 1048576
    · obtain ⟨q0, q1, q2⟩ := p1
      have q3 : (n1 : Int) ≤ 1048576 := by omega
      have HR3 : Hid (R = decide (-1 ≤ f ∧ 0 ≤ k)) := by
        unfold Hid
        rw [Bool.eq_iff_iff, HR2.out, decide_eq_true_iff]
        exact ⟨fun h => h.2, fun h => ⟨⟨q0, q1, q2⟩, h⟩⟩
      clear HR2
      by_cases pf : -1 ≤ f
      · have HR4 : Hid (R = decide (0 ≤ k)) := by unfold Hid; rw [HR3.out]; simp [pf]
        go_wp2_with fail
        rw [rounds_succ]
        go_wp2_with fail
        go_ret
        exact ⟨by rw [HR4.out]; rfl, hB0⟩
      · have HR4 : Hid (R = false) := by unfold Hid; rw [HR3.out]; simp [pf]
        go_wp2_with fail
        rw [rounds_succ]
        go_wp2_with fail
        go_ret
        exact ⟨by rw [HR4.out]; rfl, hB0⟩
    · have HR4 : Hid (R = false) := by
        unfold Hid
        rw [Bool.eq_false_iff]
        intro h
        exact p1 (HR2.out.1 h).1
      by_cases q0 : s1 < 0
      · clear p1 HR2
        go_wp2_with fail
        go_ret
        exact ⟨by rw [HR4.out]; rfl, hB0⟩
      · by_cases q1 : (n1 : Int) < s1
        · clear p1 HR2
          go_wp2_with fail
          go_ret
          exact ⟨by rw [HR4.out]; rfl, hB0⟩
        · have q3 : (1048576 : Int) < (n1 : Int) := by omega
          have q4 : s1 ≤ (n1 : Int) := by omega
          have q5 : 0 ≤ s1 := by omega
          clear p1 HR2
          go_wp2_with fail
          go_ret
          exact ⟨by rw [HR4.out]; rfl, hB0⟩
  · have HR4 : Hid (R = false) := by
      unfold Hid
      rw [Bool.eq_false_iff]
      intro h
      exact p0 (HR.out.1 h).1
    by_cases q0 : s0 < 0
    · clear p0 HR
      go_wp2_with fail
      go_ret
      exact ⟨by rw [HR4.out]; rfl, hB0⟩
    · by_cases q1 : (n0 : Int) < s0
      · clear p0 HR
        go_wp2_with fail
        go_ret
        exact ⟨by rw [HR4.out]; rfl, hB0⟩
      · have q3 : (1048576 : Int) < (n0 : Int) := by omega
        have q4 : s0 ≤ (n0 : Int) := by omega
        have q5 : 0 ≤ s0 := by omega
        clear p0 HR
        go_wp2_with fail
        go_ret
        exact ⟨by rw [HR4.out]; rfl, hB0⟩
end Go.Proofs.Ytkkfkibjamnpnaa
/-
  What own.Disk answers: a disk in new memory, its areas apart; the small calls of layer 17: sure, nothing, behind, New, and the closures of Write, Sync and Wipe. No conditions but those typed.
-/
namespace Go.Proofs.Ytkkfkibjamnpnaa
set_option maxRecDepth 100000
open Go.RowKit
set_option linter.unusedSimpArgs false
set_option linter.unusedVariables false

/-- bytes.Clone at a length behind a letter: memory of its own. -/
theorem cloneD_any (n : Nat) (b : List UInt8) (A : Option Addr) (c : Nat) (w : World) (HN : Hid (b.length = n)) (hr : Rd vB w A b) (hl : n ≤ 70368744177664) :
    Calls Try.prog 34 #[.slice A n c] w fun e w' => ∃ A' c', e = .returned (.slice A' n c') ∧ n ≤ c' ∧ w'.ownsRow w.heap.size 5 1 (.slice A' n c') n (b.map vB) ∧ Below w.heap.size w w' := by
  have e := HN.out
  subst e
  refine (clone_own b A c w hr hl).mono ?_
  rintro e w' ⟨v, rfl, ho, hb⟩
  obtain ⟨A', c', rfl, hc⟩ := own_form ho
  exact ⟨A', c', rfl, hc, ho, hb⟩
theorem own_apart {w : World} {B : Nat} {e : TypeId} {u v : Value} {n m : Nat} {xs ys : List Value} {w0 : World} {base : Nat} (h : w0.ownsRow base e 1 u n xs) (k : w.ownsRow w0.heap.size e 1 v m ys) : u.ownBlock = none ∨ u.ownBlock ≠ v.ownBlock := by
  by_cases hu : u.ownBlock = none
  · exact .inl hu
  · right
    intro he
    obtain ⟨g, hg⟩ := Option.ne_none_iff_exists'.1 hu
    have h1 := (h.lt g hg).2
    have h2 := (k.lt g (by rw [← he, hg])).1
    omega
theorem ownsRow_mono {w : World} {B C : Nat} {e : TypeId} {v : Value} {n : Nat} {xs : List Value} (h : w.ownsRow C e 1 v n xs) (hc : B ≤ C) : w.ownsRow B e 1 v n xs := by
  refine ⟨h.1, ?_⟩
  rcases h.2 with h0 | ⟨g, cap, cur, hv, hg, r⟩
  · exact .inl h0
  · exact .inr ⟨g, cap, cur, hv, Nat.le_trans hc hg, r⟩

/-- What own.Disk hands back. -/
def RetOwn (w : World) (D : DK) (e : Ending) (w' : World) : Prop :=
  ∃ x : WD, e = .returned (aggD x D) ∧ Hid (D.a0.b.length = x.n0) ∧ x.n0 ≤ x.c0 ∧ Hid (D.a1.b.length = x.n1) ∧ x.n1 ≤ x.c1 ∧ w'.ownsRow w.heap.size 5 1 (.slice x.A0 x.n0 x.c0) x.n0 (D.a0.b.map vB) ∧ w'.ownsRow w.heap.size 5 1 (.slice x.A1 x.n1 x.c1) x.n1 (D.a1.b.map vB) ∧
    ((Value.slice x.A0 x.n0 x.c0).ownBlock = none ∨ (Value.slice x.A0 x.n0 x.c0).ownBlock ≠ (Value.slice x.A1 x.n1 x.c1).ownBlock) ∧ Below w.heap.size w w'

set_option maxHeartbeats 2000000 in
theorem own17_any (x : WD) (D : DK) (w : World) (h : InD w x D) (hn0 : x.n0 ≤ 70368744177664) (hn1 : x.n1 ≤ 70368744177664) : Calls Try.prog 32 #[aggD x D] w (RetOwn w D) := by
  obtain ⟨A0, n0, c0, A1, n1, c1⟩ := x
  obtain ⟨⟨b0, s0⟩, ⟨b1, s1⟩, f, k, d⟩ := D
  obtain ⟨l0, h0, r0, l1, h1, r1⟩ := h
  dsimp only at l0 h0 l1 h1 r0 r1 hn0 hn1
  have L0 := Lib.hid l0
  have L1 := Lib.hid l1
  clear l0 l1
  unfold aggD
  dsimp only
  obtain ⟨hR0, hB0⟩ := box_of w 27 [.slice A0 n0 c0, .int .i64 s0, .slice A1 n1 c1, .int .i64 s1, .int .i64 f, .int .i64 k, .bool d] _ rfl
  obtain ⟨hRz, hBz⟩ := box_of (w.alloc (.cells #[.slice A0 n0 c0, .int .i64 s0, .slice A1 n1 c1, .int .i64 s1, .int .i64 f, .int .i64 k, .bool d] 27)) 27 [.slice none 0 0, .int .i64 0, .slice none 0 0, .int .i64 0, .int .i64 0, .int .i64 0, .bool false] _ rfl
  have hz : (w.alloc (.cells #[.slice A0 n0 c0, .int .i64 s0, .slice A1 n1 c1, .int .i64 s1, .int .i64 f, .int .i64 k, .bool d] 27)).heap.size = w.heap.size + 1 := by simp
  rw [hz] at hRz
  replace hR0 := hR0.later hBz
  replace hB0 := below_step hB0 hBz
  clear hBz hz
  go_enter Try.func32, Try.ntmps32
  go_upto_region 1 with fail
  generalize (w.alloc (.cells #[.slice A0 n0 c0, .int .i64 s0, .slice A1 n1 c1, .int .i64 s1, .int .i64 f, .int .i64 k, .bool d] 27)).alloc (.cells #[.slice none 0 0, .int .i64 0, .slice none 0 0, .int .i64 0, .int .i64 0, .int .i64 0, .bool false] 27) = W at hR0 hRz hB0 ⊢
  replace r0 := r0.keep hB0
  replace r1 := r1.keep hB0
  have e0 : W.cell? ⟨w.heap.size, 0, none⟩ = some (.slice A0 n0 c0) := hR0.cell rfl
  have e1 : W.cell? ⟨w.heap.size, 1, none⟩ = some (.int .i64 s0) := hR0.cell rfl
  have e2 : W.cell? ⟨w.heap.size, 2, none⟩ = some (.slice A1 n1 c1) := hR0.cell rfl
  have e3 : W.cell? ⟨w.heap.size, 3, none⟩ = some (.int .i64 s1) := hR0.cell rfl
  have hs0 := hB0.size
  have hgz := hRz.lt
  go_wp2_with fail
  clear e0 e1 e2 e3
  refine wp_loop_rounds 3 ?_
  rw [rounds_succ]
  obtain ⟨hR1, hB1⟩ := box_of W 24 [.slice none 0 0, .int .i64 0] _ rfl
  have ix0 := index_area0 (.slice A0 n0 c0) (.int .i64 s0) (.slice A1 n1 c1) (.int .i64 s1)
  have ix1 := index_area1 (.slice A0 n0 c0) (.int .i64 s0) (.slice A1 n1 c1) (.int .i64 s1)
  go_upto_region 4 with (refine wpList_store_row rfl 24 (.tmp 4) (.tmp 10) rfl W.heap.size rfl [.slice A0 n0 c0, .int .i64 s0] rfl _ _ hR1 (by exact size_area) rfl (one_area A0 n0 c0 s0) ?_)
  have hR2 := hR1.setRow [.slice A0 n0 c0, .int .i64 s0]
  have hB2 : Below W.heap.size W ((W.alloc (.cells #[Value.slice none 0 0, .int .i64 0] 24)).setRow W.heap.size #[.slice A0 n0 c0, .int .i64 s0]) := below_setRow hB1 (Nat.le_refl _) _
  clear hR1 hB1
  generalize (W.alloc (.cells #[Value.slice none 0 0, .int .i64 0] 24)).setRow W.heap.size #[.slice A0 n0 c0, .int .i64 s0] = W2 at hR2 hB2 ⊢
  have e0 : W2.cell? ⟨W.heap.size, 0, none⟩ = some (.slice A0 n0 c0) := hR2.cell rfl
  replace r0 := r0.keep hB2
  replace r1 := r1.keep hB2
  replace hR0 := hR0.later hB2
  replace hRz := hRz.later hB2
  replace hB0 := below_step hB0 hB2
  have hs2 := hB2.size
  clear hR2 hB2
  go_wp2_with fail
  refine (cloneD_any n0 b0 A0 c0 _ L0 r0 hn0).mono ?_
  rintro e w1 ⟨B0, d0, rfl, hd0, ho0, hb1⟩
  replace r1 := r1.keep hb1
  replace hR0 := hR0.later hb1
  replace hRz := hRz.later hb1
  replace hB0 := below_step hB0 hb1
  have hs1 := hb1.size
  have f0 := hR0.frozen 0
  have g0 : w1.cell? ⟨w.heap.size, 0, none⟩ = some (.slice A0 n0 c0) := hR0.cell rfl
  clear hb1 e0
  have hR0' : Row (w1.setCell ⟨w.heap.size, 0, none⟩ (.slice B0 n0 d0)) w.heap.size 27 [.slice B0 n0 d0, .int .i64 s0, .slice A1 n1 c1, .int .i64 s1, .int .i64 f, .int .i64 k, .bool d] := hR0.setCell 0 _
  have hO : Only w.heap.size w1 (w1.setCell ⟨w.heap.size, 0, none⟩ (.slice B0 n0 d0)) := (Only.refl _ w1).setCell 0 _
  have r1' := r1.no_byte hR0 (cellsD_no ⟨A0, n0, c0, A1, n1, c1⟩ ⟨⟨b0, s0⟩, ⟨b1, s1⟩, f, k, d⟩) hO
  have hRz' := hRz.setCell_other (p := ⟨w.heap.size, 0, none⟩) (by show w.heap.size + 1 ≠ w.heap.size; omega) (.slice B0 n0 d0)
  have ho0' := ownsRow_same (w' := w1.setCell ⟨w.heap.size, 0, none⟩ (.slice B0 n0 d0)) ho0 (fun b hb _ => Below.heap_setCell w1 ⟨w.heap.size, 0, none⟩ _ b (by show b ≠ w.heap.size; omega))
  have hB0' : Below w.heap.size w (w1.setCell ⟨w.heap.size, 0, none⟩ (.slice B0 n0 d0)) := hB0.setCell (p := ⟨w.heap.size, 0, none⟩) (Nat.le_refl _) _
  go_wp2_with fail
  rw [rounds_succ]
  clear r1 hRz ho0 hB0 hR0 f0 g0 hO ix0
  have hsz : w1.heap.size ≤ (w1.setCell ⟨w.heap.size, 0, none⟩ (.slice B0 n0 d0)).heap.size := by simp
  generalize w1.setCell ⟨w.heap.size, 0, none⟩ (.slice B0 n0 d0) = W at hR0' r1' hRz' ho0' hB0' hsz ⊢
  have hgz := hRz'.lt
  obtain ⟨hR1, hB1⟩ := box_of W 24 [.slice none 0 0, .int .i64 0] _ rfl
  go_upto_region 4 with (refine wpList_store_row rfl 24 (.tmp 4) (.tmp 10) rfl W.heap.size rfl [.slice A1 n1 c1, .int .i64 s1] rfl _ _ hR1 (by exact size_area) rfl (one_area A1 n1 c1 s1) ?_)
  have hR2 := hR1.setRow [.slice A1 n1 c1, .int .i64 s1]
  have hB2 : Below W.heap.size W ((W.alloc (.cells #[Value.slice none 0 0, .int .i64 0] 24)).setRow W.heap.size #[.slice A1 n1 c1, .int .i64 s1]) := below_setRow hB1 (Nat.le_refl _) _
  clear hR1 hB1
  generalize (W.alloc (.cells #[Value.slice none 0 0, .int .i64 0] 24)).setRow W.heap.size #[.slice A1 n1 c1, .int .i64 s1] = W4 at hR2 hB2 ⊢
  have e0 : W4.cell? ⟨W.heap.size, 0, none⟩ = some (.slice A1 n1 c1) := hR2.cell rfl
  replace r1' := r1'.keep hB2
  replace hR0' := hR0'.later hB2
  replace hRz' := hRz'.later hB2
  replace ho0' := ownsRow_later ho0' hB2
  replace hB0' := below_step hB0' hB2
  have hs4 := hB2.size
  clear hR2 hB2
  go_wp2_with fail
  refine (cloneD_any n1 b1 A1 c1 _ L1 r1' hn1).mono ?_
  rintro e w3 ⟨B1, d1, rfl, hd1, ho1, hb1⟩
  have hap := own_apart (B := 0) ho0' ho1
  replace hR0' := hR0'.later hb1
  replace hRz' := hRz'.later hb1
  replace ho0' := ownsRow_later ho0' hb1
  replace hB0' := below_step hB0' hb1
  have hs1 := hb1.size
  have f0 := hR0'.frozen 2
  have g0 : w3.cell? ⟨w.heap.size, 2, none⟩ = some (.slice A1 n1 c1) := hR0'.cell rfl
  clear hb1 e0 r1'
  have hR0 : Row (w3.setCell ⟨w.heap.size, 2, none⟩ (.slice B1 n1 d1)) w.heap.size 27 [.slice B0 n0 d0, .int .i64 s0, .slice B1 n1 d1, .int .i64 s1, .int .i64 f, .int .i64 k, .bool d] := hR0'.setCell 2 _
  have hRz := hRz'.setCell_other (p := ⟨w.heap.size, 2, none⟩) (by show w.heap.size + 1 ≠ w.heap.size; omega) (.slice B1 n1 d1)
  have hX0 := ownsRow_same (w' := w3.setCell ⟨w.heap.size, 2, none⟩ (.slice B1 n1 d1)) ho0' (fun b hb _ => Below.heap_setCell w3 ⟨w.heap.size, 2, none⟩ _ b (by show b ≠ w.heap.size; omega))
  have hX1 := ownsRow_same (w' := w3.setCell ⟨w.heap.size, 2, none⟩ (.slice B1 n1 d1)) ho1 (fun b hb _ => Below.heap_setCell w3 ⟨w.heap.size, 2, none⟩ _ b (by show b ≠ w.heap.size; omega))
  have hB0 : Below w.heap.size w (w3.setCell ⟨w.heap.size, 2, none⟩ (.slice B1 n1 d1)) := hB0'.setCell (p := ⟨w.heap.size, 2, none⟩) (Nat.le_refl _) _
  go_wp2_with fail
  rw [rounds_succ]
  clear hRz' ho0' hB0' hR0' f0 g0 ix1
  generalize w3.setCell ⟨w.heap.size, 2, none⟩ (.slice B1 n1 d1) = W5 at hR0 hRz hX0 hX1 hB0 ⊢
  go_wp2_with (first
    | (refine wpList_load_part rfl 27 (.tmp 1) rfl w.heap.size 0 rfl _ _ hR0 [.slice B0 n0 d0, .int .i64 s0, .slice B1 n1 d1, .int .i64 s1, .int .i64 f, .int .i64 k, .bool d] (by rfl) _ Try.underlying27 rfl (by exact size_disk) ?_)
    | (refine wpList_store_row rfl 27 (.tmp 2) (.tmp 19) rfl (w.heap.size + 1) rfl [.slice B0 n0 d0, .int .i64 s0, .slice B1 n1 d1, .int .i64 s1, .int .i64 f, .int .i64 k, .bool d] rfl _ _ hRz (by exact size_disk) rfl (one_disk ⟨B0, n0, d0, B1, n1, d1⟩ ⟨⟨b0, s0⟩, ⟨b1, s1⟩, f, k, d⟩) ?_))
  refine bodyPost_ret (results_cell_row (p := 2) (ty := 27) (by rfl) _ _ (w.heap.size + 1) 27 _ (0, 0) _ (by rfl) (by exact hRz.setRow _) Try.underlying27 (by rfl) (by exact size_disk)) (by rfl) ?_
  have hbs := below_setRow (Below.refl (w.heap.size + 1) W5) (Nat.le_refl _) [.slice B0 n0 d0, .int .i64 s0, .slice B1 n1 d1, .int .i64 s1, .int .i64 f, .int .i64 k, .bool d].toArray
  have hY0 := ownsRow_mono (ownsRow_same (w' := W5.setRow (w.heap.size + 1) [.slice B0 n0 d0, .int .i64 s0, .slice B1 n1 d1, .int .i64 s1, .int .i64 f, .int .i64 k, .bool d].toArray) hX0 (fun b hb _ => Go.setRow_other W5 _ b _ (by omega))) (show w.heap.size ≤ W2.heap.size by omega)
  have hY1 := ownsRow_mono (ownsRow_same (w' := W5.setRow (w.heap.size + 1) [.slice B0 n0 d0, .int .i64 s0, .slice B1 n1 d1, .int .i64 s1, .int .i64 f, .int .i64 k, .bool d].toArray) hX1 (fun b hb _ => Go.setRow_other W5 _ b _ (by omega))) (show w.heap.size ≤ W4.heap.size by omega)
  exact ⟨⟨B0, n0, d0, B1, n1, d1⟩, rfl, L0, hd0, L1, hd1, hY0, hY1, hap, below_setRow hB0 (by omega) _⟩
end Go.Proofs.Ytkkfkibjamnpnaa
/-
  The small calls of layer 17 (landed code): sure, nothing, behind, and the closures of Write, Sync and Wipe: what becomes of an area. No conditions but those typed.
-/
namespace Go.Proofs.Ytkkfkibjamnpnaa
set_option maxRecDepth 100000
open Go.RowKit
set_option linter.unusedSimpArgs false
set_option linter.unusedVariables false

theorem own_parts {w : World} {B : Nat} {A : Option Addr} {n c : Nat} {b : List UInt8} (h : w.ownsRow B 5 1 (.slice A n c) n (b.map vB)) : n ≤ c ∧ Rd vB w A b ∧ ∀ a, A = some a → B ≤ a.block := by
  refine ⟨?_, Rd.own h, ?_⟩
  · rcases h.2 with ⟨e, h0⟩ | ⟨g, cap, cur, e, _, _, hc, _⟩
    · omega
    · injection e with _ _ e
      omega
  · rcases h.2 with ⟨e, h0⟩ | ⟨g, cap, cur, e, hg, _⟩
    · injection e with e
      subst e
      intro a ha
      cases ha
    · injection e with e
      subst e
      intro a ha
      injection ha with ha
      subst ha
      exact hg
theorem ownsRow_but {w w' : World} {base : Nat} {e : TypeId} {v : Value} {n : Nat} {xs : List Value} (h : w.ownsRow base e 1 v n xs) {g : Nat} (hg : v.ownBlock ≠ some g) (hh : ∀ b, b ≠ g → b < w.heap.size → w'.heap[b]? = w.heap[b]?) : w'.ownsRow base e 1 v n xs := by
  refine ⟨h.1, ?_⟩
  rcases h.2 with h0 | ⟨g', cap, cur, rfl, hb, hc, r⟩
  · exact .inl h0
  · refine .inr ⟨g', cap, cur, rfl, hb, (hh g' (fun e => hg ?_) (Array.getElem?_eq_some_iff.1 hc).1).trans hc, r⟩
    subst e
    rfl
theorem grown_of_below {w w' : World} (h : Below w.heap.size w w') (row : Option Nat) : w.grownBy w' row := ⟨h.os, h.tape, h.output, h.size, fun k hk _ => h.block k hk⟩
/-- What a step on an area hands back: at most the area's own block turns. -/
def RetA (B : Nat) (w : World) (row : Option Nat) (X : AK) (e : Ending) (w' : World) : Prop :=
  ∃ A n c, e = .returned (aggA A n c X.s) ∧ Hid (X.b.length = n) ∧ n ≤ c ∧ Rd vB w' A X.b ∧ (∀ a, A = some a → B ≤ a.block) ∧ w.grownBy w' row

theorem sure17_any (A : Option Addr) (n c : Nat) (w : World) : Calls Try.prog 29 #[.slice A n c] w fun e w' => e = .returned (aggA A n c (n : Int)) ∧ Below w.heap.size w w' := by
  obtain ⟨hR, hB⟩ := box_of w 24 [.slice none 0 0, .int .i64 0] _ rfl
  go_enter Try.func29, Try.ntmps29
  go_upto_region 1 with fail
  generalize w.alloc (.cells [Value.slice none 0 0, .int .i64 0].toArray 24) = W at hR hB ⊢
  go_wp2_with (refine wpList_store_row rfl 24 (.tmp 2) (.tmp 6) rfl w.heap.size rfl [.slice A n c, .int .i64 (n : Int)] rfl _ _ hR (by exact size_area) rfl (one_area A n c n) ?_)
  refine bodyPost_ret (results_cell_row (p := 2) (ty := 24) (by rfl) _ _ w.heap.size 24 _ (0, 0) _ (by rfl) (by exact hR.setRow _) Try.underlying24 (by rfl) (by exact size_area)) (by rfl) ?_
  exact ⟨rfl, below_setRow hB (Nat.le_refl _) _⟩
theorem two_boxes (w : World) (ty tz : TypeId) (l m : List Value) (cs ds : Array Value) (h : cs = l.toArray) (k : ds = m.toArray) : Row ((w.alloc (.cells cs ty)).alloc (.cells ds tz)) w.heap.size ty l ∧ Row ((w.alloc (.cells cs ty)).alloc (.cells ds tz)) (w.heap.size + 1) tz m ∧ Below w.heap.size w ((w.alloc (.cells cs ty)).alloc (.cells ds tz)) := by
  obtain ⟨h1, h2⟩ := box_of w ty l cs h
  obtain ⟨h3, h4⟩ := box_of (w.alloc (.cells cs ty)) tz m ds k
  have hz : (w.alloc (.cells cs ty)).heap.size = w.heap.size + 1 := by simp
  rw [hz] at h3
  exact ⟨h1.later h4, h3, below_step h2 h4⟩
theorem nothing17_any (A : Option Addr) (n c : Nat) (s : Int) (w : World) : Calls Try.prog 30 #[aggA A n c s] w fun e w' => e = .returned (aggA A n c s) ∧ Below w.heap.size w w' := by
  obtain ⟨hR0, hR, hB⟩ := two_boxes w 24 24 [.slice A n c, .int .i64 s] [.slice none 0 0, .int .i64 0] _ _ rfl rfl
  unfold aggA
  go_enter Try.func30, Try.ntmps30
  go_upto_region 1 with fail
  generalize (w.alloc (.cells [Value.slice A n c, .int .i64 s].toArray 24)).alloc (.cells [Value.slice none 0 0, .int .i64 0].toArray 24) = W at hR0 hR hB ⊢
  go_wp2_with (first
    | (refine wpList_load_part rfl 24 (.tmp 1) rfl w.heap.size 0 rfl _ _ hR0 [.slice A n c, .int .i64 s] (by rfl) _ Try.underlying24 rfl (by exact size_area) ?_)
    | (refine wpList_store_row rfl 24 (.tmp 2) (.tmp 3) rfl (w.heap.size + 1) rfl [.slice A n c, .int .i64 s] rfl _ _ hR (by exact size_area) rfl (one_area A n c s) ?_))
  refine bodyPost_ret (results_cell_row (p := 2) (ty := 24) (by rfl) _ _ (w.heap.size + 1) 24 _ (0, 0) _ (by rfl) (by exact hR.setRow _) Try.underlying24 (by rfl) (by exact size_area)) (by rfl) ?_
  exact ⟨rfl, below_setRow hB (by omega) _⟩
theorem wiped17_any (A : Option Addr) (n c : Nat) (s : Int) (w : World) : Calls Try.prog 31 #[aggA A n c s] w fun e w' => e = .returned (aggA none 0 0 0) ∧ Below w.heap.size w w' := by
  obtain ⟨hR0, hR, hB⟩ := two_boxes w 24 24 [.slice A n c, .int .i64 s] [.slice none 0 0, .int .i64 0] _ _ rfl rfl
  unfold aggA
  go_enter Try.func31, Try.ntmps31
  go_upto_region 1 with fail
  generalize (w.alloc (.cells [Value.slice A n c, .int .i64 s].toArray 24)).alloc (.cells [Value.slice none 0 0, .int .i64 0].toArray 24) = W at hR0 hR hB ⊢
  go_wp2_with (refine wpList_store_row rfl 24 (.tmp 2) (.tmp 3) rfl (w.heap.size + 1) rfl [.slice none 0 0, .int .i64 0] rfl _ _ hR (by exact size_area) rfl (one_area none 0 0 0) ?_)
  refine bodyPost_ret (results_cell_row (p := 2) (ty := 24) (by rfl) _ _ (w.heap.size + 1) 24 _ (0, 0) _ (by rfl) (by exact hR.setRow _) Try.underlying24 (by rfl) (by exact size_area)) (by rfl) ?_
  exact ⟨rfl, below_setRow hB (by omega) _⟩
theorem synced17_any (A : Option Addr) (n c : Nat) (s : Int) (w : World) : Calls Try.prog 28 #[aggA A n c s] w fun e w' => e = .returned (aggA A n c (n : Int)) ∧ Below w.heap.size w w' := by
  obtain ⟨hR0, hR, hB⟩ := two_boxes w 24 24 [.slice A n c, .int .i64 s] [.slice none 0 0, .int .i64 0] _ _ rfl rfl
  unfold aggA
  go_enter Try.func28, Try.ntmps28
  go_upto_region 1 with fail
  generalize (w.alloc (.cells [Value.slice A n c, .int .i64 s].toArray 24)).alloc (.cells [Value.slice none 0 0, .int .i64 0].toArray 24) = W at hR0 hR hB ⊢
  have e0 : W.cell? ⟨w.heap.size, 0, none⟩ = some (.slice A n c) := hR0.cell rfl
  go_wp2_with fail
  refine (sure17_any A n c _).mono ?_
  rintro e w1 ⟨rfl, hb⟩
  unfold aggA
  replace hR := hR.later hb
  replace hB := below_step hB hb
  clear hb
  go_wp2_with (refine wpList_store_row rfl 24 (.tmp 2) (.tmp 5) rfl (w.heap.size + 1) rfl [.slice A n c, .int .i64 (n : Int)] rfl _ _ hR (by exact size_area) rfl (one_area A n c n) ?_)
  refine bodyPost_ret (results_cell_row (p := 2) (ty := 24) (by rfl) _ _ (w.heap.size + 1) 24 _ (0, 0) _ (by rfl) (by exact hR.setRow _) Try.underlying24 (by rfl) (by exact size_area)) (by rfl) ?_
  exact ⟨rfl, below_setRow hB (by omega) _⟩

/-! ### bytes behind an area's -/
def areaS (g : Nat) (a b : Value) (W : World) : Prop := W.cell? ⟨g, 0, none⟩ = some a ∧ W.cell? ⟨g, 1, none⟩ = some b
set_option maxHeartbeats 1000000 in
theorem behind17_any (B : Nat) (b l : List UInt8) (A C : Option Addr) (n c m d : Nat) (s : Int) (w : World) (HB : Hid (b.length = n)) (HL : Hid (l.length = m)) (ho : w.ownsRow B 5 1 (.slice A n c) n (b.map vB)) (hr : Rd vB w C l) (hle : n + m ≤ 1048576) (hBw : B ≤ w.heap.size) :
    Calls Try.prog 24 #[aggA A n c s, .slice C m d] w (RetA B w (Value.slice A n c).ownBlock ⟨b ++ l, s⟩) := by
  obtain ⟨i0, hi, hz0, hz1, hz2⟩ := info_parts info_u8
  obtain ⟨hR0, hR, hB⟩ := two_boxes w 24 24 [.slice A n c, .int .i64 s] [.slice none 0 0, .int .i64 0] _ _ rfl rfl
  have hne : ∀ g, (Value.slice A n c).ownBlock = some g → g < w.heap.size := fun g hg => (ho.lt g hg).2
  unfold aggA
  go_enter Try.func24, Try.ntmps24
  go_upto_region 1 with fail
  generalize (w.alloc (.cells [Value.slice A n c, .int .i64 s].toArray 24)).alloc (.cells [Value.slice none 0 0, .int .i64 0].toArray 24) = W at hR0 hR hB ⊢
  have ho1 := ownsRow_later ho hB
  have hr1 := hr.keep hB
  have hsz := hB.size
  have e1 := HL.out
  subst e1
  refine wp_region_plan_of (areaS w.heap.size (.slice A n c) (.int .i64 s)) (.step 0 false (.step 1 false (.step 2 false (.step 4 false (.step 5 false (.step 3 true (.step 6 false (.step 7 true (.nil))))))))) ⟨hR0.drew.cell rfl, hR0.drew.cell rfl⟩ (by kernel_rfl) (by kernel_rfl) (by rfl) (by kernel_rfl) ?_
  iterate 5 (refine plan_read rfl (by rfl) (v := ?_) ?_ ?_; rotate_left 1; (intro W hW; (try dsimp only at hW); obtain ⟨hW0, hW1⟩ := hW; go_simp <;> with_reducible rfl); simp only [List.getElem_toArray, List.getElem_cons_zero, List.getElem_cons_succ, Act.put, List.setIfInBounds_toArray, List.set_cons_zero, List.set_cons_succ])
  refine plan_make_of rfl (by rfl) (fun K hK => ?_)
  refine wp_append_apart _ (.tmp 6) (.tmp 7) 22 rfl B 5 i0 (.int .u8 0) 1 Try.underlying22 hi hz0 hz1 hz2 rfl (.slice A n c) n _ rfl (ho1 : W.drew.ownsRow B 5 1 _ n _) C l d rfl (hr1 : Rd vB W.drew C l) vB_one (by unfold maxLen; omega) (by omega) (by simp; omega) ?_
  intro v1 w1 hown1 hgrow1 hat
  have hR0' := hR0.drew.grown hgrow1 (fun e => by have := hne _ e; omega)
  have hR' := hR.drew.grown hgrow1 (fun e => by have := hne _ e; omega)
  have hlt0 := hR0.lt
  have hlt1 := hR.lt
  refine hK.out _ _ ⟨hR0'.cell rfl, hR0'.cell rfl⟩ ?_
  clear hK K
  obtain ⟨A2, c2, rfl, hc2⟩ := own_form hown1
  iterate 1 (refine plan_read rfl (by rfl) (v := ?_) ?_ ?_; rotate_left 1; (intro W hW; (try dsimp only at hW); obtain ⟨hW0, hW1⟩ := hW; go_simp <;> with_reducible rfl); simp only [List.getElem_toArray, List.getElem_cons_zero, List.getElem_cons_succ, Act.put, List.setIfInBounds_toArray, List.set_cons_zero, List.set_cons_succ])
  refine plan_make_of rfl (by rfl) (fun K hK => ?_)
  refine hR'.wp_store 24 (.tmp 4) (.tmp 11) rfl rfl [.slice A2 (n + l.length) c2, .int .i64 s] rfl (by exact size_area) rfl (one_area A2 _ c2 s) ?_
  refine hK.out _ _ ⟨(hR0'.setRow_other (by omega) _).cell rfl, (hR0'.setRow_other (by omega) _).cell rfl⟩ ?_
  clear hK K
  refine plan_done ?_
  go_wp2_with fail
  refine bodyPost_ret (results_cell_row (p := 4) (ty := 24) (by rfl) _ _ (w.heap.size + 1) 24 _ (0, 0) _ (by rfl) (by exact hR'.setRow _) Try.underlying24 (by rfl) (by exact size_area)) (by rfl) ?_
  have hg2 : w.grownBy (w1.setRow (w.heap.size + 1) [.slice A2 (n + l.length) c2, .int .i64 s].toArray) (Value.slice A n c).ownBlock := by
    have g1 : w.grownBy W.drew (Value.slice A n c).ownBlock := grown_of_below hB.drew _
    have g2 := g1.trans hgrow1
    exact ⟨g2.os, g2.tape, g2.output, by have := g2.size; simpa using this, fun k hk hn => (Go.setRow_other w1 _ k _ (by omega)).trans (g2.block k hk hn)⟩
  have hown2 := ownsRow_but (w' := w1.setRow (w.heap.size + 1) [.slice A2 (n + l.length) c2, .int .i64 s].toArray) hown1 (g := w.heap.size + 1) (fun e => by
    rcases hat with h | h
    · rw [h] at e
      have := hne _ e
      omega
    · rw [h] at e
      injection e with e
      simp at e
      omega) (fun b hb _ => Go.setRow_other w1 _ b _ hb)
  obtain ⟨_, h5, h6⟩ := own_parts (b := b ++ l) (by rw [List.map_append]; exact hown2)
  exact ⟨A2, n + l.length, c2, rfl, by unfold Hid; rw [List.length_append, HB.out], hc2, h5, h6, hg2⟩

/-! ### the closures of Write -/
set_option maxHeartbeats 1000000 in
theorem wrote17_any (B : Nat) (b l : List UInt8) (A C : Option Addr) (n c m d : Nat) (s : Int) (g1 : Nat) (w : World) (HB : Hid (b.length = n)) (HL : Hid (l.length = m)) (ho : w.ownsRow B 5 1 (.slice A n c) n (b.map vB)) (hr : Rd vB w C l) (hle : n + m ≤ 1048576) (hBw : B ≤ w.heap.size) (c1 : w.cell? ⟨g1, 0, none⟩ = some (.slice C m d)) :
    Calls Try.prog 23 #[aggA A n c s, .pointer (some ⟨g1, 0, none⟩)] w (RetA B w (Value.slice A n c).ownBlock ⟨b ++ l, s⟩) := by
  obtain ⟨hR0, hR, hB⟩ := two_boxes w 24 24 [.slice A n c, .int .i64 s] [.slice none 0 0, .int .i64 0] _ _ rfl rfl
  have hg1 := World.block_lt_of_cell? w _ c1
  unfold aggA
  go_enter Try.func23, Try.ntmps23
  go_upto_region 1 with fail
  generalize (w.alloc (.cells [Value.slice A n c, .int .i64 s].toArray 24)).alloc (.cells [Value.slice none 0 0, .int .i64 0].toArray 24) = W at hR0 hR hB ⊢
  have d1 : W.cell? ⟨g1, 0, none⟩ = some (.slice C m d) := (hB.cell (p := ⟨g1, 0, none⟩) hg1).trans c1
  have hsz := hB.size
  have hlt1 := hR.lt
  have HO := Lib.hid (ownsRow_later ho hB)
  have HR := Lib.hid (hr.keep hB)
  go_wp2_with (refine wpList_load_part rfl 24 (.tmp 2) rfl w.heap.size 0 rfl _ _ hR0 [.slice A n c, .int .i64 s] (by rfl) _ Try.underlying24 rfl (by exact size_area) ?_)
  refine (behind17_any B b l A C n c m d s _ HB HL HO.out HR.out hle (by omega)).mono ?_
  rintro e w1 ⟨A2, n2, c2, rfl, h2, h3, h4, h5, h6⟩
  have hne : ∀ g, (Value.slice A n c).ownBlock = some g → g < w.heap.size := fun g hg => (ho.lt g hg).2
  have hR1 := hR.grown h6 (fun e => by have := hne _ e; omega)
  unfold aggA
  dsimp only at h2 h4 ⊢
  go_wp2_with (refine wpList_store_row rfl 24 (.tmp 3) (.tmp 6) rfl (w.heap.size + 1) rfl [.slice A2 n2 c2, .int .i64 s] rfl _ _ hR1 (by exact size_area) rfl (one_area A2 n2 c2 s) ?_)
  refine bodyPost_ret (results_cell_row (p := 3) (ty := 24) (by rfl) _ _ (w.heap.size + 1) 24 _ (0, 0) _ (by rfl) (by exact hR1.setRow _) Try.underlying24 (by rfl) (by exact size_area)) (by rfl) ?_
  have g1 := (grown_of_below hB (Value.slice A n c).ownBlock).trans h6
  exact ⟨A2, n2, c2, rfl, h2, h3, h4.no_byte hR1 (cellsA_no none 0 0 0) ((Only.refl _ w1).setRow _), h5, ⟨g1.os, g1.tape, g1.output, by have := g1.size; simpa using this, fun k hk hn => (Go.setRow_other w1 _ k _ (by omega)).trans (g1.block k hk hn)⟩⟩

def partS (g g1 g2 : Nat) (a b x k : Value) (W : World) : Prop := (W.cell? ⟨g, 0, none⟩ = some a ∧ W.cell? ⟨g, 1, none⟩ = some b) ∧ W.cell? ⟨g1, 0, none⟩ = some x ∧ W.cell? ⟨g2, 5, none⟩ = some k
set_option maxHeartbeats 2000000 in
theorem partly17_any (B : Nat) (b l : List UInt8) (A C : Option Addr) (n c m d : Nat) (s : Int) (kp : Nat) (g1 g2 : Nat) (w : World) (HB : Hid (b.length = n)) (HL : Hid (l.length = m)) (hmd : m ≤ d) (ho : w.ownsRow B 5 1 (.slice A n c) n (b.map vB)) (hr : Rd vB w C l) (hle : n + m ≤ 1048576) (hBw : B ≤ w.heap.size) (hb1 : g1 < B) (hb2 : g2 < B) (c1 : w.cell? ⟨g1, 0, none⟩ = some (.slice C m d)) (c2 : w.cell? ⟨g2, 5, none⟩ = some (.int .i64 (kp : Int))) :
    Calls Try.prog 25 #[aggA A n c s, .pointer (some ⟨g1, 0, none⟩), .pointer (some ⟨g2, 0, none⟩)] w (RetA B w (Value.slice A n c).ownBlock ⟨b ++ l.take kp, s⟩) := by
  obtain ⟨hR0, hR, hB⟩ := two_boxes w 24 24 [.slice A n c, .int .i64 s] [.slice none 0 0, .int .i64 0] _ _ rfl rfl
  have hg1 := World.block_lt_of_cell? w _ c1
  have hg2 := World.block_lt_of_cell? w _ c2
  obtain ⟨q, hq, hqm, HT⟩ : ∃ q, q = min kp m ∧ q ≤ m ∧ Hid ((l.take kp) = l.take q) := by
    refine ⟨min kp m, rfl, Nat.min_le_right _ _, ?_⟩
    unfold Hid
    rw [← HL.out, ← List.take_take, List.take_length]
  have HQ : Hid ((l.take q).length = q) := by unfold Hid; rw [List.length_take, HL.out]; omega
  have hm1 : (if (m : Int) < (kp : Int) then (m : Int) else (kp : Int)) = (q : Int) := by split <;> omega
  have hm2 : (if m < kp then (m : Int) else (kp : Int)) = (q : Int) := by split <;> omega
  have hcut : ∀ W, (Instr.slice 22 (.slice C m d) none (some (.int .i64 (q : Int))) none).run Try.prog W = .ok (.slice C q d) W := fun W => run_cut_to 22 5 Try.underlying22 size_uint8 C m d q (by omega) W
  clear hq
  unfold aggA
  go_enter Try.func25, Try.ntmps25
  go_upto_region 1 with fail
  generalize (w.alloc (.cells [Value.slice A n c, .int .i64 s].toArray 24)).alloc (.cells [Value.slice none 0 0, .int .i64 0].toArray 24) = W at hR0 hR hB ⊢
  have d1 : W.cell? ⟨g1, 0, none⟩ = some (.slice C m d) := (hB.cell (p := ⟨g1, 0, none⟩) hg1).trans c1
  have d2 : W.cell? ⟨g2, 5, none⟩ = some (.int .i64 (kp : Int)) := (hB.cell (p := ⟨g2, 5, none⟩) hg2).trans c2
  have hsz := hB.size
  have hlt1 := hR.lt
  have HO := Lib.hid (ownsRow_later ho hB.drew)
  have HR := Lib.hid ((hr.take q).keep hB.drew)
  refine wp_region_plan_of (partS w.heap.size g1 g2 (.slice A n c) (.int .i64 s) (.slice C m d) (.int .i64 (kp : Int))) (.step 0 false (.step 1 false (.step 2 false (.step 3 false (.step 4 false (.step 5 false (.step 6 false (.step 7 false (.step 8 true (.step 9 true (.nil))))))))))) ⟨⟨hR0.drew.cell rfl, hR0.drew.cell rfl⟩, d1, d2⟩ (by kernel_rfl) (by kernel_rfl) (by rfl) (by kernel_rfl) ?_
  iterate 8 (refine plan_read rfl (by rfl) (v := ?_) ?_ ?_; rotate_left 1; (intro W hW; (try dsimp only at hW); obtain ⟨hW0, hW1⟩ := hW; go_simp <;> with_reducible rfl); simp only [List.getElem_toArray, List.getElem_cons_zero, List.getElem_cons_succ, Act.put, List.setIfInBounds_toArray, List.set_cons_zero, List.set_cons_succ])
  refine plan_make_of rfl (by rfl) (fun K hK => ?_)
  go_simp
  refine (behind17_any B b (l.take q) A C n c q d s _ HB HQ HO.out HR.out (by omega) (by simp; omega)).mono ?_
  rintro e w1 ⟨A2, n2, c2, rfl, h2, h3, h4, h5, h6⟩
  have hne : ∀ g, (Value.slice A n c).ownBlock = some g → g < w.heap.size := fun g hg => (ho.lt g hg).2
  have hR1 := hR.drew.grown h6 (fun e => by have := hne _ e; omega)
  have hR0' := hR0.drew.grown h6 (fun e => by have := hne _ e; omega)
  have hnb : ∀ g, (Value.slice A n c).ownBlock = some g → B ≤ g := fun g hg => (ho.lt g hg).1
  have k1 : w1.cell? ⟨g1, 0, none⟩ = some (.slice C m d) := h6.cell (a := ⟨g1, 0, none⟩) d1 (fun e => by have := hnb g1 e.symm; omega)
  have k2 : w1.cell? ⟨g2, 5, none⟩ = some (.int .i64 (kp : Int)) := h6.cell (a := ⟨g2, 5, none⟩) d2 (fun e => by have := hnb g2 e.symm; omega)
  have hlt0 := hR0.lt
  refine hK.out _ _ ⟨⟨hR0'.cell rfl, hR0'.cell rfl⟩, k1, k2⟩ ?_
  clear hK K
  dsimp only at h2 h4 ⊢
  refine plan_make_of rfl (by rfl) (fun K hK => ?_)
  refine hR1.wp_store 24 (.tmp 4) (.tmp 13) rfl rfl [.slice A2 n2 c2, .int .i64 s] rfl (by exact size_area) rfl (one_area A2 _ c2 s) ?_
  refine hK.out _ _ ⟨⟨(hR0'.setRow_other (by omega) _).cell rfl, (hR0'.setRow_other (by omega) _).cell rfl⟩, (cell_setRow_other w1 _ _ ⟨g1, 0, none⟩ (by show g1 ≠ w.heap.size + 1; omega)).trans k1, (cell_setRow_other w1 _ _ ⟨g2, 5, none⟩ (by show g2 ≠ w.heap.size + 1; omega)).trans k2⟩ ?_
  clear hK K
  refine plan_done ?_
  go_wp2_with fail
  refine bodyPost_ret (results_cell_row (p := 4) (ty := 24) (by rfl) _ _ (w.heap.size + 1) 24 _ (0, 0) _ (by rfl) (by exact hR1.setRow _) Try.underlying24 (by rfl) (by exact size_area)) (by rfl) ?_
  have g1 : w.grownBy w1 (Value.slice A n c).ownBlock := (grown_of_below hB.drew (Value.slice A n c).ownBlock).trans h6
  exact ⟨A2, n2, c2, rfl, by rw [HT.out]; exact h2, h3, by rw [HT.out]; exact h4.no_byte hR1 (cellsA_no none 0 0 0) ((Only.refl _ w1).setRow _), h5, ⟨g1.os, g1.tape, g1.output, by have := g1.size; simpa using this, fun k hk hn => (Go.setRow_other w1 _ k _ (by omega)).trans (g1.block k hk hn)⟩⟩

/-! ### New -/
theorem new17_any (w : World) : Calls Try.prog 21 #[] w fun e w' => e = .returned (aggD ⟨none, 0, 0, none, 0, 0⟩ newD) ∧ Below w.heap.size w w' := by
  obtain ⟨hR, hB⟩ := box_of w 27 [.slice none 0 0, .int .i64 0, .slice none 0 0, .int .i64 0, .int .i64 0, .int .i64 0, .bool false] _ rfl
  go_enter Try.func21, Try.ntmps21
  go_upto_region 1 with fail
  generalize w.alloc (.cells [Value.slice none 0 0, .int .i64 0, .slice none 0 0, .int .i64 0, .int .i64 0, .int .i64 0, .bool false].toArray 27) = W at hR hB ⊢
  go_wp2_with (refine wpList_store_row rfl 27 (.tmp 0) (.tmp 1) rfl w.heap.size rfl [.slice none 0 0, .int .i64 0, .slice none 0 0, .int .i64 0, .int .i64 (-1), .int .i64 0, .bool false] rfl _ _ hR (by exact size_disk) rfl (one_disk ⟨none, 0, 0, none, 0, 0⟩ newD) ?_)
  refine bodyPost_ret (results_cell_row (p := 0) (ty := 27) (by rfl) _ _ w.heap.size 27 _ (0, 0) _ (by rfl) (by exact hR.setRow _) Try.underlying27 (by rfl) (by exact size_disk)) (by rfl) ?_
  exact ⟨rfl, below_setRow hB (Nat.le_refl _) _⟩
theorem newD_in (w : World) : InD w ⟨none, 0, 0, none, 0, 0⟩ newD := ⟨rfl, Nat.le_refl _, Rd.nil, rfl, Nat.le_refl _, Rd.nil⟩
end Go.Proofs.Ytkkfkibjamnpnaa
/-
  What dark answers: a disk whose power went (landed code). No conditions but those typed.
-/
namespace Go.Proofs.Ytkkfkibjamnpnaa
set_option maxRecDepth 100000
open Go.RowKit
set_option linter.unusedSimpArgs false
set_option linter.unusedVariables false

/-- How much of an area is left. -/
theorem cut_parts {n : Nat} {s keep : Int} (b : List UInt8) (hb : b.length = n) (h0 : 0 ≤ s) (h1 : s ≤ n) (h2 : 0 ≤ keep) : ∃ u q e kp : Nat, s = (u : Int) ∧ keep = (kp : Int) ∧ e = u + q ∧ e ≤ n ∧ u ≤ n ∧ cutN ⟨b, s⟩ keep = e ∧ (if (n : Int) - (u : Int) < (kp : Int) then (n : Int) - (u : Int) else (kp : Int)) = (q : Int) := by
  refine ⟨s.toNat, min (n - s.toNat) keep.toNat, s.toNat + min (n - s.toNat) keep.toNat, keep.toNat, by omega, by omega, rfl, by omega, by omega, ?_, ?_⟩
  · unfold cutN
    dsimp only
    omega
  · split <;> omega
theorem cut_run (A : Option Addr) (n c u q e : Nat) (he : e = u + q) (hc : e ≤ c) (W : World) : (Instr.slice 22 (.slice A n c) none (some (.int .i64 ((u : Int) + (q : Int)))) none).run Try.prog W = .ok (.slice A e c) W := by
  have := run_cut_to 22 5 Try.underlying22 size_uint8 A n c e hc W
  rw [show (u : Int) + (q : Int) = (e : Int) by omega]
  exact this
theorem there_of {w : World} {g : Nat} {t : TypeId} {l : List Value} (h : Row w g t l) (o k : Nat) (hk : o + k ≤ l.length) : w.there g o k := fun j hj => by
  refine ⟨?_, h.frozen _⟩
  rw [h.cell? (o + j), List.getElem?_eq_getElem (by omega)]
  rfl

theorem Only.setCells {g : Nat} : ∀ (m : List Value) (o : Nat) {a w : World}, Only g a w → Only g a (w.setCells g o m)
  | [], _, _, _, h => h
  | v :: m, o, _, _, h => Only.setCells m (o + 1) (h.setCell o v)
theorem disk_no (A0 : Option Addr) (n0 c0 : Nat) (s0 : Int) (A1 : Option Addr) (n1 c1 : Nat) (s1 f k : Int) (d : Bool) : ∀ v ∈ [Value.slice A0 n0 c0, .int .i64 s0, .slice A1 n1 c1, .int .i64 s1, .int .i64 f, .int .i64 k, .bool d], ∀ y, v ≠ vB y := cellsD_no ⟨A0, n0, c0, A1, n1, c1⟩ ⟨⟨[], s0⟩, ⟨[], s1⟩, f, k, d⟩
theorem disk_one (A0 : Option Addr) (n0 c0 : Nat) (s0 : Int) (A1 : Option Addr) (n1 c1 : Nat) (s1 f k : Int) (d : Bool) : ∀ v ∈ [Value.slice A0 n0 c0, .int .i64 s0, .slice A1 n1 c1, .int .i64 s1, .int .i64 f, .int .i64 k, .bool d], v.oneCell' = true := one_disk ⟨A0, n0, c0, A1, n1, c1⟩ ⟨⟨[], s0⟩, ⟨[], s1⟩, f, k, d⟩

set_option maxHeartbeats 2000000 in
theorem dark17_any (x : WD) (D : DK) (keep : Int) (w : World) (h : InD w x D) (hr0 : rightAK D.a0) (hr1 : rightAK D.a1) (hk : 0 ≤ keep) (hk2 : keep ≤ 9223372036854775807) :
    Calls Try.prog 33 #[aggD x D, .int .i64 keep] w fun e w' => ∃ m0 m1, e = .returned (aggD ⟨x.A0, m0, x.c0, x.A1, m1, x.c1⟩ (loseD D keep)) ∧ InD w' ⟨x.A0, m0, x.c0, x.A1, m1, x.c1⟩ (loseD D keep) ∧ Below w.heap.size w w' := by
  obtain ⟨A0, n0, c0, A1, n1, c1⟩ := x
  obtain ⟨⟨b0, s0⟩, ⟨b1, s1⟩, f, kk, d⟩ := D
  obtain ⟨l0, h0, r0, l1, h1, r1⟩ := h
  obtain ⟨a0, a1, a2⟩ := hr0
  obtain ⟨a3, a4, a5⟩ := hr1
  dsimp only at l0 h0 l1 h1 r0 r1 a0 a1 a2 a3 a4 a5
  rw [l0] at a1 a2
  rw [l1] at a4 a5
  obtain ⟨u0, q0, e0, kp, rfl, rfl, E0, m0, v0, hc0, i0⟩ := cut_parts b0 l0 a0 a1 hk
  obtain ⟨u1, q1, e1, kp', rfl, ek, E1, m1, v1, hc1, i1⟩ := cut_parts b1 l1 a3 a4 hk
  have ek' : kp' = kp := by omega
  subst ek'
  clear ek
  have x0 := cut_run A0 n0 c0 u0 q0 e0 E0 (by omega)
  have x1 := cut_run A1 n1 c1 u1 q1 e1 E1 (by omega)
  have L0 := Lib.hid l0
  have L1 := Lib.hid l1
  have HC0 := Lib.hid hc0
  have HC1 := Lib.hid hc1
  have HE0 := Lib.hid E0
  have HE1 := Lib.hid E1
  have y0 : (u0 : Int) + (q0 : Int) ≤ (n0 : Int) := by omega
  have y1 : (u1 : Int) + (q1 : Int) ≤ (n1 : Int) := by omega
  have z0 : (n0 : Int) ≤ 1048576 := by omega
  have z1 : (n1 : Int) ≤ 1048576 := by omega
  have hlose : Hid (loseD ⟨⟨b0, (u0 : Int)⟩, ⟨b1, (u1 : Int)⟩, f, kk, d⟩ (kp' : Int) = ⟨⟨b0.take e0, (e0 : Int)⟩, ⟨b1.take e1, (e1 : Int)⟩, -1, kk, true⟩) := by
    unfold Hid loseD cutAK
    dsimp only
    rw [hc0, hc1]
  rw [hlose.out]
  clear hlose l0 l1 hc0 hc1 E0 E1
  unfold aggD
  dsimp only
  obtain ⟨hR0, hRz, hB0⟩ := two_boxes w 27 27 [.slice A0 n0 c0, .int .i64 (u0 : Int), .slice A1 n1 c1, .int .i64 (u1 : Int), .int .i64 f, .int .i64 kk, .bool d] [.slice none 0 0, .int .i64 0, .slice none 0 0, .int .i64 0, .int .i64 0, .int .i64 0, .bool false] _ _ rfl rfl
  go_enter Try.func33, Try.ntmps33
  go_upto_region 1 with fail
  generalize (w.alloc (.cells [Value.slice A0 n0 c0, .int .i64 (u0 : Int), .slice A1 n1 c1, .int .i64 (u1 : Int), .int .i64 f, .int .i64 kk, .bool d].toArray 27)).alloc (.cells [Value.slice none 0 0, .int .i64 0, .slice none 0 0, .int .i64 0, .int .i64 0, .int .i64 0, .bool false].toArray 27) = W at hR0 hRz hB0 ⊢
  replace r0 := r0.keep hB0
  replace r1 := r1.keep hB0
  have t0 : W.cell? ⟨w.heap.size, 0, none⟩ = some (.slice A0 n0 c0) := hR0.cell rfl
  have t1 : W.cell? ⟨w.heap.size, 1, none⟩ = some (.int .i64 (u0 : Int)) := hR0.cell rfl
  have t2 : W.cell? ⟨w.heap.size, 2, none⟩ = some (.slice A1 n1 c1) := hR0.cell rfl
  have t3 : W.cell? ⟨w.heap.size, 3, none⟩ = some (.int .i64 (u1 : Int)) := hR0.cell rfl
  have hs0 := hB0.size
  have hgz := hRz.lt
  go_wp2_with fail
  clear t0 t1 t2 t3
  refine wp_loop_rounds 3 ?_
  rw [rounds_succ]
  obtain ⟨hR1, hB1⟩ := box_of W 24 [.slice none 0 0, .int .i64 0] _ rfl
  have ix0 := index_area0 (.slice A0 n0 c0) (.int .i64 (u0 : Int)) (.slice A1 n1 c1) (.int .i64 (u1 : Int))
  have ix1 := index_area1 (.slice A0 n0 c0) (.int .i64 (u0 : Int)) (.slice A1 n1 c1) (.int .i64 (u1 : Int))
  go_upto_region 4 with (refine wpList_store_row rfl 24 (.tmp 6) (.tmp 12) rfl W.heap.size rfl [.slice A0 n0 c0, .int .i64 (u0 : Int)] rfl _ _ hR1 (by exact size_area) rfl (one_area A0 n0 c0 u0) ?_)
  have hR2 := hR1.setRow [.slice A0 n0 c0, .int .i64 (u0 : Int)]
  have hB2 : Below W.heap.size W ((W.alloc (.cells #[Value.slice none 0 0, .int .i64 0] 24)).setRow W.heap.size #[.slice A0 n0 c0, .int .i64 (u0 : Int)]) := below_setRow hB1 (Nat.le_refl _) _
  clear hR1 hB1
  generalize (W.alloc (.cells #[Value.slice none 0 0, .int .i64 0] 24)).setRow W.heap.size #[.slice A0 n0 c0, .int .i64 (u0 : Int)] = W2 at hR2 hB2 ⊢
  have t0 : W2.cell? ⟨W.heap.size, 0, none⟩ = some (.slice A0 n0 c0) := hR2.cell rfl
  have t1 : W2.cell? ⟨W.heap.size, 1, none⟩ = some (.int .i64 (u0 : Int)) := hR2.cell rfl
  replace r0 := r0.keep hB2
  replace r1 := r1.keep hB2
  replace hR0 := hR0.later hB2
  replace hRz := hRz.later hB2
  replace hB0 := below_step hB0 hB2
  have hs2 := hB2.size
  clear hR2 hB2
  go_wp2_with fail
  refine (sure17_any A0 e0 c0 _).mono ?_
  rintro e w1 ⟨rfl, hb1⟩
  unfold aggA
  replace r0 := r0.keep hb1
  replace r1 := r1.keep hb1
  replace hR0 := hR0.later hb1
  replace hRz := hRz.later hb1
  replace hB0 := below_step hB0 hb1
  have hs1 := hb1.size
  clear hb1 t0 t1
  have hth := there_of hR0 0 2 (by simp)
  have hR0' : Row (w1.setCells w.heap.size 0 [.slice A0 e0 c0, .int .i64 (e0 : Int)]) w.heap.size 27 [.slice A0 e0 c0, .int .i64 (e0 : Int), .slice A1 n1 c1, .int .i64 (u1 : Int), .int .i64 f, .int .i64 kk, .bool d] := hR0.setCells _ 0 (by simp)
  have hO : Only w.heap.size w1 (w1.setCells w.heap.size 0 [.slice A0 e0 c0, .int .i64 (e0 : Int)]) := Only.setCells _ 0 (Only.refl _ w1)
  have r0' := r0.no_byte hR0 (disk_no A0 n0 c0 u0 A1 n1 c1 u1 f kk d) hO
  have r1' := r1.no_byte hR0 (disk_no A0 n0 c0 u0 A1 n1 c1 u1 f kk d) hO
  have hRz' := Row.setCells_other (show w.heap.size + 1 ≠ w.heap.size by omega) [.slice A0 e0 c0, .int .i64 (e0 : Int)] 0 hRz
  have hB0' : Below w.heap.size w (w1.setCells w.heap.size 0 [.slice A0 e0 c0, .int .i64 (e0 : Int)]) := below_setCells (Nat.le_refl _) _ 0 hB0
  have hsz : w1.heap.size ≤ (w1.setCells w.heap.size 0 [.slice A0 e0 c0, .int .i64 (e0 : Int)]).heap.size := hO.below.size
  clear r0 r1 hR0 hRz hB0 hO
  go_wp2_with (refine wpList_store_mid rfl 24 (.tmp 30) (.tmp 28) rfl w.heap.size 0 #[.slice A0 e0 c0, .int .i64 (e0 : Int)] rfl rfl hth (by exact size_area) (by exact all_oneCell_toArray (one_area A0 e0 c0 e0)) ?_)
  rw [rounds_succ]
  clear hth ix0
  generalize w1.setCells w.heap.size 0 [.slice A0 e0 c0, .int .i64 (e0 : Int)] = W at hR0' r0' r1' hRz' hB0' hsz ⊢
  have hgz := hRz'.lt
  obtain ⟨hR1, hB1⟩ := box_of W 24 [.slice none 0 0, .int .i64 0] _ rfl
  go_upto_region 4 with (refine wpList_store_row rfl 24 (.tmp 6) (.tmp 12) rfl W.heap.size rfl [.slice A1 n1 c1, .int .i64 (u1 : Int)] rfl _ _ hR1 (by exact size_area) rfl (one_area A1 n1 c1 u1) ?_)
  have hR2 := hR1.setRow [.slice A1 n1 c1, .int .i64 (u1 : Int)]
  have hB2 : Below W.heap.size W ((W.alloc (.cells #[Value.slice none 0 0, .int .i64 0] 24)).setRow W.heap.size #[.slice A1 n1 c1, .int .i64 (u1 : Int)]) := below_setRow hB1 (Nat.le_refl _) _
  clear hR1 hB1
  generalize (W.alloc (.cells #[Value.slice none 0 0, .int .i64 0] 24)).setRow W.heap.size #[.slice A1 n1 c1, .int .i64 (u1 : Int)] = W4 at hR2 hB2 ⊢
  have t0 : W4.cell? ⟨W.heap.size, 0, none⟩ = some (.slice A1 n1 c1) := hR2.cell rfl
  have t1 : W4.cell? ⟨W.heap.size, 1, none⟩ = some (.int .i64 (u1 : Int)) := hR2.cell rfl
  replace r0' := r0'.keep hB2
  replace r1' := r1'.keep hB2
  replace hR0' := hR0'.later hB2
  replace hRz' := hRz'.later hB2
  replace hB0' := below_step hB0' hB2
  have hs4 := hB2.size
  clear hR2 hB2
  go_wp2_with fail
  refine (sure17_any A1 e1 c1 _).mono ?_
  rintro e w3 ⟨rfl, hb1⟩
  unfold aggA
  replace r0' := r0'.keep hb1
  replace r1' := r1'.keep hb1
  replace hR0' := hR0'.later hb1
  replace hRz' := hRz'.later hb1
  replace hB0' := below_step hB0' hb1
  have hs3 := hb1.size
  clear hb1 t0 t1
  have hth := there_of hR0' 2 2 (by simp)
  have hR0 : Row (w3.setCells w.heap.size 2 [.slice A1 e1 c1, .int .i64 (e1 : Int)]) w.heap.size 27 [.slice A0 e0 c0, .int .i64 (e0 : Int), .slice A1 e1 c1, .int .i64 (e1 : Int), .int .i64 f, .int .i64 kk, .bool d] := hR0'.setCells _ 2 (by simp)
  have hO : Only w.heap.size w3 (w3.setCells w.heap.size 2 [.slice A1 e1 c1, .int .i64 (e1 : Int)]) := Only.setCells _ 2 (Only.refl _ w3)
  have r0 := r0'.no_byte hR0' (disk_no A0 e0 c0 e0 A1 n1 c1 u1 f kk d) hO
  have r1 := r1'.no_byte hR0' (disk_no A0 e0 c0 e0 A1 n1 c1 u1 f kk d) hO
  have hRz := Row.setCells_other (show w.heap.size + 1 ≠ w.heap.size by omega) [.slice A1 e1 c1, .int .i64 (e1 : Int)] 2 hRz'
  have hB0 : Below w.heap.size w (w3.setCells w.heap.size 2 [.slice A1 e1 c1, .int .i64 (e1 : Int)]) := below_setCells (Nat.le_refl _) _ 2 hB0'
  clear r0' r1' hR0' hRz' hB0' hO
  go_wp2_with (refine wpList_store_mid rfl 24 (.tmp 30) (.tmp 28) rfl w.heap.size 2 #[.slice A1 e1 c1, .int .i64 (e1 : Int)] rfl rfl hth (by exact size_area) (by exact all_oneCell_toArray (one_area A1 e1 c1 e1)) ?_)
  rw [rounds_succ]
  clear hth ix1
  generalize w3.setCells w.heap.size 2 [.slice A1 e1 c1, .int .i64 (e1 : Int)] = W at hR0 r0 r1 hRz hB0 ⊢
  have f4 := hR0.frozen 4
  have g4 : W.cell? ⟨w.heap.size, 4, none⟩ = some (.int .i64 f) := hR0.cell rfl
  have hR0' : Row (W.setCell ⟨w.heap.size, 4, none⟩ (.int .i64 (-1))) w.heap.size 27 [.slice A0 e0 c0, .int .i64 (e0 : Int), .slice A1 e1 c1, .int .i64 (e1 : Int), .int .i64 (-1), .int .i64 kk, .bool d] := hR0.setCell 4 _
  have f6 := hR0'.frozen 6
  have g6 : (W.setCell ⟨w.heap.size, 4, none⟩ (.int .i64 (-1))).cell? ⟨w.heap.size, 6, none⟩ = some (.bool d) := hR0'.cell rfl
  have hR6 : Row ((W.setCell ⟨w.heap.size, 4, none⟩ (.int .i64 (-1))).setCell ⟨w.heap.size, 6, none⟩ (.bool true)) w.heap.size 27 [.slice A0 e0 c0, .int .i64 (e0 : Int), .slice A1 e1 c1, .int .i64 (e1 : Int), .int .i64 (-1), .int .i64 kk, .bool true] := hR0'.setCell 6 _
  have hO : Only w.heap.size W ((W.setCell ⟨w.heap.size, 4, none⟩ (.int .i64 (-1))).setCell ⟨w.heap.size, 6, none⟩ (.bool true)) := ((Only.refl _ W).setCell 4 _).setCell 6 _
  go_upto_region 7 with fail
  have r0' := r0.no_byte hR0 (disk_no A0 e0 c0 e0 A1 e1 c1 e1 f kk d) hO
  have r1' := r1.no_byte hR0 (disk_no A0 e0 c0 e0 A1 e1 c1 e1 f kk d) hO
  have hRz' := (hRz.setCell_other (p := ⟨w.heap.size, 4, none⟩) (by show w.heap.size + 1 ≠ w.heap.size; omega) (.int .i64 (-1))).setCell_other (p := ⟨w.heap.size, 6, none⟩) (by show w.heap.size + 1 ≠ w.heap.size; omega) (.bool true)
  have hB0' := hB0.trans hO.below
  clear hR0 r0 r1 hRz hB0 hO hR0' f4 g4 f6 g6
  generalize (W.setCell ⟨w.heap.size, 4, none⟩ (.int .i64 (-1))).setCell ⟨w.heap.size, 6, none⟩ (.bool true) = W6 at hR6 r0' r1' hRz' hB0' ⊢
  go_wp2_with (first
    | (refine wpList_load_part rfl 27 (.tmp 2) rfl w.heap.size 0 rfl _ _ hR6 [.slice A0 e0 c0, .int .i64 (e0 : Int), .slice A1 e1 c1, .int .i64 (e1 : Int), .int .i64 (-1), .int .i64 kk, .bool true] (by rfl) _ Try.underlying27 rfl (by exact size_disk) ?_)
    | (refine wpList_store_row rfl 27 (.tmp 4) (.tmp 34) rfl (w.heap.size + 1) rfl [.slice A0 e0 c0, .int .i64 (e0 : Int), .slice A1 e1 c1, .int .i64 (e1 : Int), .int .i64 (-1), .int .i64 kk, .bool true] rfl _ _ hRz' (by exact size_disk) rfl (disk_one A0 e0 c0 e0 A1 e1 c1 e1 (-1) kk true) ?_))
  refine bodyPost_ret (results_cell_row (p := 4) (ty := 27) (by rfl) _ _ (w.heap.size + 1) 27 _ (0, 0) _ (by rfl) (by exact hRz'.setRow _) Try.underlying27 (by rfl) (by exact size_disk)) (by rfl) ?_
  have hO := (Only.refl (w.heap.size + 1) W6).setRow [.slice A0 e0 c0, .int .i64 (e0 : Int), .slice A1 e1 c1, .int .i64 (e1 : Int), .int .i64 (-1), .int .i64 kk, .bool true].toArray
  have r0 := r0'.no_byte hRz' (disk_no none 0 0 0 none 0 0 0 0 0 false) hO
  have r1 := r1'.no_byte hRz' (disk_no none 0 0 0 none 0 0 0 0 0 false) hO
  exact ⟨e0, e1, rfl, ⟨by show (b0.take e0).length = e0; rw [List.length_take, L0.out]; omega, by show e0 ≤ c0; omega, r0.take e0, by show (b1.take e1).length = e1; rw [List.length_take, L1.out]; omega, by show e1 ≤ c1; omega, r1.take e1⟩, below_setRow hB0' (by omega) _⟩
end Go.Proofs.Ytkkfkibjamnpnaa
