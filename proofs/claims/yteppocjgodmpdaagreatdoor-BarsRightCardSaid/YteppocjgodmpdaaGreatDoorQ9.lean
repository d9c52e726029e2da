/-
  Peterson's equations as plain mathematics: at as many places as were spoilt they have just one answer, whose roots are the places; and the values there have just one, too. No conditions but those typed.
-/
import Derived.Test.YteppocjgodmpdaaGreatDoorQ8
import Derived.BigQuiet
import Derived.ProofKit
import Derived.OpenShut
import Derived.Deep.Slices
import Derived.Deep.Strs
import Derived.Test.YteppocjgodmpdaaGreatDoorRows
namespace Go.Proofs.YteppocjgodmpdaaGreatDoor
set_option maxRecDepth 100000
set_option linter.unusedVariables false
set_option linter.unusedSimpArgs false

/-! ### Values as sums -/
theorem eval_sumN (x : UInt8) : ∀ p : List UInt8, evalL p x = sumN p.length (fun m => mulB (co p m) (powB x m))
  | [] => rfl
  | a :: p => by
    rw [evalL, List.length_cons, sumN_left, eval_sumN x p, ← sumN_mul]
    congr 1
    · show a = mulB a 1
      rw [mul_one]
    · refine sumN_congr _ fun c _ => ?_
      rw [co_succ, pow_succ', mul_comm (powB x c) x, ← mul_assoc, ← mul_assoc, mul_comm x]
theorem sumV_append (i : Nat) : ∀ s t : List (UInt8 × UInt8), sumV (s ++ t) i = addB (sumV s i) (sumV t i)
  | [], t => (zero_add _).symm
  | (e, x) :: s, t => by rw [List.cons_append, sumV, sumV, sumV_append i s t, add_assoc]
theorem sumV_range (g X : Nat → UInt8) (i : Nat) : ∀ n, sumV ((List.range n).map fun c => (g c, X c)) i = sumN n (fun c => mulB (g c) (powB (X c) i))
  | 0 => rfl
  | n + 1 => by
    rw [List.range_succ, List.map_append, sumV_append, sumV_range g X i n, sumN]
    congr 1
    show addB (mulB (g n) (powB (X n) i)) 0 = _
    rw [add_zero]
theorem eval_rev (r X : UInt8) (h : mulB r X = 1) : ∀ p : List UInt8, p ≠ [] → evalL p.reverse r = mulB (powB r (p.length - 1)) (evalL p X)
  | [], h0 => absurd rfl h0
  | [a], _ => by
    show addB a (mulB r 0) = mulB 1 (addB a (mulB X 0))
    rw [mul_zero, mul_zero, add_zero, one_mul]
  | a :: b :: p, _ => by
    have ih := eval_rev r X h (b :: p) (by simp)
    have e1 : evalL (a :: b :: p) X = addB a (mulB X (evalL (b :: p) X)) := rfl
    rw [List.reverse_cons, eval_snoc, ih, List.length_reverse, e1]
    generalize evalL (b :: p) X = v
    simp only [List.length_cons, Nat.add_sub_cancel]
    rw [mul_add_right, add_comm, mul_comm a]
    congr 1
    rw [← mul_assoc, pow_succ', mul_assoc (powB r p.length) r X, h, mul_one]

/-! ### The places that were spoilt -/
def spoL (e : List UInt8) (k : Nat) : UInt8 := co e (e.length - 1 - k)
def placesL (e : List UInt8) : List Nat := (List.range e.length).filter fun k => spoL e k != 0
def pairsE (e : List UInt8) : List (UInt8 × UInt8) := (placesL e).map fun k => (spoL e k, powB 2 k)
theorem spo_reverse (e : List UInt8) : (List.range e.length).map (spoL e) = e.reverse := by
  refine co_ext (by simp) (fun k hk => ?_)
  have hk' : k < e.length := by simpa using hk
  rw [co_range _ _ _ hk', co_lt _ k (by simpa using hk'), List.getElem_reverse]
  unfold spoL
  rw [co_lt]
theorem places_length (e : List UInt8) : (placesL e).length = wtL e := by
  have h := wt_range (spoL e) e.length
  rw [spo_reverse] at h
  unfold placesL
  rw [← h]
  unfold wtL
  rw [List.filter_reverse, List.length_reverse]
theorem pairsE_length (e : List UInt8) : (pairsE e).length = wtL e := by unfold pairsE; rw [List.length_map, places_length]
theorem pairsE_sum (e : List UInt8) (i : Nat) : sumV (pairsE e) i = valB e (powB 2 i) := by
  have h1 : pairsE e = ((List.range e.length).map fun k => (spoL e k, powB 2 k)).filter fun p => p.1 != 0 := by
    unfold pairsE placesL
    rw [List.filter_map]
    rfl
  rw [h1, sumV_filter, sumV_range]
  unfold valB
  rw [eval_sumN, List.length_reverse]
  refine sumN_congr _ fun c hc => ?_
  rw [← spo_reverse, co_range _ _ _ hc, ← pow_mul, ← pow_mul, Nat.mul_comm]
theorem places_lt {e : List UInt8} {k : Nat} (h : k ∈ placesL e) : k < e.length ∧ spoL e k ≠ 0 := by
  obtain ⟨h1, h2⟩ := List.mem_filter.1 h
  exact ⟨List.mem_range.1 h1, by simpa using h2⟩
theorem places_nodup (e : List UInt8) : (placesL e).Nodup := List.filter_sublist.nodup List.nodup_range
theorem pairsE_nodup {e : List UInt8} (h : e.length ≤ 255) : ((pairsE e).map Prod.snd).Nodup := by
  unfold pairsE
  rw [List.map_map]
  refine nodup_map_on (places_nodup e) (fun x hx y hy he => ?_)
  exact powB_inj (by have := (places_lt hx).1; omega) (by have := (places_lt hy).1; omega) he
theorem pairsE_ne {e : List UInt8} : ∀ p ∈ pairsE e, p.1 ≠ 0 ∧ p.2 ≠ 0 := fun p hp => by
  obtain ⟨k, hk, rfl⟩ := List.mem_map.1 hp
  exact ⟨(places_lt hk).2, exp_ne k⟩

/-! ### The first equations -/
/-- A row of them, out of the signs. -/
def locR (s : List UInt8) (v i : Nat) : List UInt8 := ((List.range v).map fun c => co s (i + v - 1 - c)) ++ [co s (i + v)]
theorem loc_length (s : List UInt8) (v i : Nat) : (locR s v i).length = v + 1 := by simp [locR]
theorem co_loc (s : List UInt8) (v i c : Nat) (h : c < v) : co (locR s v i) c = co s (i + v - 1 - c) := by
  unfold locR co
  rw [List.getD_eq_getElem?_getD, List.getElem?_append_left (by simpa using h)]
  simp [h]
theorem co_loc_last (s : List UInt8) (v i : Nat) : co (locR s v i) v = co s (i + v) := by
  unfold locR co
  rw [List.getD_eq_getElem?_getD, List.getElem?_append_right (by simp)]
  simp
/-- What answers such equations, as a polynomial, the answer's last one its greatest power's. -/
def ansL (v : Nat) (y : Nat → UInt8) : List UInt8 := ((List.range v).map fun m => y (v - 1 - m)) ++ [y v]
theorem ans_length (v : Nat) (y : Nat → UInt8) : (ansL v y).length = v + 1 := by simp [ansL]
theorem co_ans (v : Nat) (y : Nat → UInt8) (m : Nat) (h : m < v) : co (ansL v y) m = y (v - 1 - m) := by
  unfold ansL co
  rw [List.getD_eq_getElem?_getD, List.getElem?_append_left (by simpa using h)]
  simp [h]
theorem co_ans_last (v : Nat) (y : Nat → UInt8) : co (ansL v y) v = y v := by
  unfold ansL co
  rw [List.getD_eq_getElem?_getD, List.getElem?_append_right (by simp)]
  simp
theorem ans_eval (v : Nat) (y : Nat → UInt8) (X : UInt8) : evalL (ansL v y) X = addB (sumN v fun c => mulB (y c) (powB X (v - 1 - c))) (mulB (y v) (powB X v)) := by
  rw [eval_sumN, ans_length, sumN, co_ans_last]
  congr 1
  rw [← sumN_rev]
  refine sumN_congr _ fun c hc => ?_
  rw [co_ans _ _ _ (by omega), show v - 1 - (v - 1 - c) = c by omega]
theorem loc_row (s : List UInt8) (v i : Nat) (y : Nat → UInt8) : ∀ E : List (UInt8 × UInt8), (∀ m, m < i + v + 1 → co s m = sumV E (m + 1)) →
    rowOf v (locR s v i) y = sumV (E.map fun p => (mulB p.1 (evalL (ansL v y) p.2), p.2)) (i + 1) := by
  intro E hs
  have h0 : rowOf v (locR s v i) y = addB (sumN v fun c => mulB (sumV E (i + v - c)) (y c)) (mulB (sumV E (i + v + 1)) (y v)) := by
    unfold rowOf
    rw [sumN, co_loc_last, hs (i + v) (by omega)]
    congr 1
    refine sumN_congr _ fun c hc => ?_
    rw [co_loc _ _ _ _ hc, hs (i + v - 1 - c) (by omega), show i + v - 1 - c + 1 = i + v - c by omega]
  rw [h0]
  clear h0 hs
  induction E with
  | nil =>
    show addB (sumN v fun c => mulB 0 (y c)) (mulB 0 (y v)) = 0
    rw [sumN_zero v (fun c _ => zero_mul _), zero_mul, add_zero]
  | cons p t ih =>
    obtain ⟨e, X⟩ := p
    show _ = addB (mulB (mulB e (evalL (ansL v y) X)) (powB X (i + 1))) (sumV (t.map fun p => (mulB p.1 (evalL (ansL v y) p.2), p.2)) (i + 1))
    rw [← ih, ans_eval]
    have h1 : (sumN v fun c => mulB (sumV ((e, X) :: t) (i + v - c)) (y c)) = addB (mulB (mulB e (powB X (i + 1))) (sumN v fun c => mulB (y c) (powB X (v - 1 - c)))) (sumN v fun c => mulB (sumV t (i + v - c)) (y c)) := by
      rw [← sumN_mul, ← sumN_add]
      refine sumN_congr _ fun c hc => ?_
      rw [sumV, mul_add_left]
      congr 1
      rw [show i + v - c = (i + 1) + (v - 1 - c) by omega, pow_add, mul_assoc, mul_assoc, mul_assoc]
      congr 2
      rw [mul_comm]
    have h2 : mulB (sumV ((e, X) :: t) (i + v + 1)) (y v) = addB (mulB (mulB e (powB X (i + 1))) (mulB (y v) (powB X v))) (mulB (sumV t (i + v + 1)) (y v)) := by
      rw [sumV, mul_add_left]
      congr 1
      rw [show i + v + 1 = (i + 1) + v by omega, pow_add, mul_assoc, mul_assoc, mul_assoc]
      congr 2
      rw [mul_comm]
    rw [h1, h2, add_four, ← mul_add_right]
    congr 1
    rw [mul_assoc, mul_assoc]
    congr 1
    exact mul_comm _ _
/-- Just one answer. -/
theorem loc_unique {s : List UInt8} {v : Nat} {y : Nat → UInt8} {E : List (UInt8 × UInt8)} (hE : E.length = v) (hd : (E.map Prod.snd).Nodup) (hne : ∀ p ∈ E, p.1 ≠ 0 ∧ p.2 ≠ 0) (hs : ∀ m, m < 2 * v → co s m = sumV E (m + 1))
    (hk : Ker v (locR s v) y) (hy : y v = 0) : ∀ c, c < v → y c = 0 := by
  have h0 := vander v (E.map fun p => (mulB p.1 (evalL (ansL v y) p.2), p.2)) (by rw [List.length_map]; exact hE) (by rw [List.map_map]; exact hd) (fun p hp => by
    obtain ⟨q, hq, rfl⟩ := List.mem_map.1 hp
    exact (hne q hq).2) (fun i h1 h2 => by
    have := hk (i - 1) (by omega)
    rw [loc_row s v (i - 1) y E (fun m hm => hs m (by omega)), show i - 1 + 1 = i by omega] at this
    exact this)
  have hr : ∀ r ∈ E.map Prod.snd, evalL (ansL v y) r = 0 := fun r hr => by
    obtain ⟨p, hp, rfl⟩ := List.mem_map.1 hr
    have := h0 _ (List.mem_map.2 ⟨p, hp, rfl⟩)
    rcases (mul_eq_zero _ _).1 this with g | g
    · exact absurd g (hne p hp).1
    · exact g
  have hz := roots_zero (E.map Prod.snd) (ansL v y) hd (by
    rw [List.length_map, hE]
    refine (pl_le_iff _ _).2 fun k hk => ?_
    by_cases e : k = v
    · rw [e, co_ans_last, hy]
    · exact co_ge _ _ (by rw [ans_length]; omega)) hr
  intro c hc
  have := hz (v - 1 - c)
  rw [co_ans _ _ _ (by omega), show v - 1 - (v - 1 - c) = c by omega, co_nil] at this
  exact this
/-- The polynomial whose roots are the places. -/
def monL : List (UInt8 × UInt8) → List UInt8
  | [] => [1]
  | (_, x) :: t => mulL [x, 1] (monL t)
theorem mon_is : ∀ E : List (UInt8 × UInt8), (monL E).length = E.length + 1 ∧ co (monL E) E.length = 1
  | [] => ⟨rfl, rfl⟩
  | (e, x) :: t => by
    obtain ⟨h1, h2⟩ := mon_is t
    have hne : monL t ≠ [] := fun e => by rw [e] at h1; simp at h1
    have hlen : (mulL [x, 1] (monL t)).length = t.length + 2 := by rw [mulL_length _ _ (by simp) hne, h1]; simp; omega
    refine ⟨hlen, ?_⟩
    have := mulL_top [x, 1] (monL t) (by simp) hne
    rw [h1] at this
    simp only [List.length_cons, List.length_nil] at this
    rw [show 0 + 1 + 1 + (t.length + 1) - 2 = t.length + 1 by omega, show t.length + 1 - 1 = t.length by omega, h2] at this
    show co (mulL [x, 1] (monL t)) (t.length + 1) = 1
    rw [this]
    exact mul_one 1
theorem mon_eval (r : UInt8) : ∀ E : List (UInt8 × UInt8), evalL (monL E) r = 0 ↔ r ∈ E.map Prod.snd
  | [] => by
    show addB 1 (mulB r 0) = 0 ↔ _
    rw [mul_zero, add_zero]
    simp
  | (e, x) :: t => by
    show evalL (mulL [x, 1] (monL t)) r = 0 ↔ _
    rw [eval_mul, mul_eq_zero, mon_eval r t, List.map_cons, List.mem_cons]
    have : evalL [x, 1] r = 0 ↔ r = x := by
      simp only [evalL, mul_zero, add_zero, mul_one]
      constructor
      · intro h
        exact (add_zero_eq h).symm
      · intro h
        rw [h, add_self]
    rw [this]
def monY (E : List (UInt8 × UInt8)) (c : Nat) : UInt8 := if c < E.length then co (monL E) (E.length - 1 - c) else 1
theorem mon_ans (E : List (UInt8 × UInt8)) : ansL E.length (monY E) = monL E := by
  obtain ⟨h1, h2⟩ := mon_is E
  refine co_ext (by rw [ans_length, h1]) (fun k hk => ?_)
  rw [ans_length] at hk
  by_cases e : k = E.length
  · rw [e, co_ans_last, h2]
    exact if_neg (Nat.lt_irrefl _)
  · rw [co_ans _ _ _ (by omega)]
    unfold monY
    rw [if_pos (by omega), show E.length - 1 - (E.length - 1 - k) = k by omega]
theorem mon_ker {s : List UInt8} {E : List (UInt8 × UInt8)} (hs : ∀ m, m < 2 * E.length → co s m = sumV E (m + 1)) : Ker E.length (locR s E.length) (monY E) := fun i hi => by
  rw [loc_row s E.length i (monY E) E (fun m hm => hs m (by omega)), mon_ans]
  refine sumV_zero _ _ fun p hp => ?_
  obtain ⟨q, hq, rfl⟩ := List.mem_map.1 hp
  show mulB q.1 (evalL (monL E) q.2) = 0
  rw [(mon_eval q.2 E).2 (List.mem_map.2 ⟨q, hq, rfl⟩), mul_zero]
/-- So what solves them is this polynomial, turned. -/
theorem loc_solved {s : List UInt8} {E : List (UInt8 × UInt8)} {ok : Bool} {x : List UInt8} (hd : (E.map Prod.snd).Nodup) (hne : ∀ p ∈ E, p.1 ≠ 0 ∧ p.2 ≠ 0) (hs : ∀ m, m < 2 * E.length → co s m = sumV E (m + 1))
    (h : Solved E.length (locR s E.length) ok x) : ok = true ∧ 1 :: x = (monL E).reverse := by
  cases ok with
  | false =>
    obtain ⟨y, i, hi, h1, h2, h3⟩ := h.2 rfl
    have := loc_unique rfl hd hne hs h3 h2 i hi
    rw [h1] at this
    cases this
  | true =>
    obtain ⟨h1, h2⟩ := h.1 rfl
    refine ⟨rfl, ?_⟩
    obtain ⟨m1, m2⟩ := mon_is E
    refine co_ext (by rw [List.length_cons, h1, List.length_reverse, m1]) (fun k hk => ?_)
    rw [List.length_cons, h1] at hk
    have hrev : co (monL E).reverse k = co (monL E) (E.length - k) := by
      rw [co_lt _ k (by rw [List.length_reverse, m1]; exact hk), List.getElem_reverse, co_lt _ _ (by omega)]
      congr 1
      omega
    rw [hrev]
    cases k with
    | zero => rw [co_zero, Nat.sub_zero, m2]
    | succ k =>
      rw [co_succ, h2 (monY E) (mon_ker hs) (if_neg (Nat.lt_irrefl _)) k (by omega)]
      unfold monY
      rw [if_pos (by omega), show E.length - 1 - k = E.length - (k + 1) by omega]

/-! ### Roots -/
def rootsL (p : List UInt8) (n : Nat) : List Nat := (List.range n).filter fun k => evalL p (rootB k) == 0
theorem mon_roots {e : List UInt8} (h : e.length ≤ 255) : rootsL (monL (pairsE e)).reverse e.length = placesL e := by
  unfold rootsL placesL
  refine List.filter_congr fun k hk => ?_
  have hk' := List.mem_range.1 hk
  obtain ⟨m1, _⟩ := mon_is (pairsE e)
  have hne : monL (pairsE e) ≠ [] := fun e0 => by rw [e0] at m1; simp at m1
  rw [eval_rev (rootB k) (powB 2 k) (by rw [mul_comm, root_mul]) _ hne, Bool.eq_iff_iff, beq_iff_eq, bne_iff_ne, mul_eq_zero, mon_eval]
  constructor
  · rintro (g | g)
    · exact absurd g (pow_ne _ (root_ne k) _)
    · obtain ⟨p, hp, e1⟩ := List.mem_map.1 g
      obtain ⟨j, hj, rfl⟩ := List.mem_map.1 hp
      have := places_lt hj
      have : j = k := powB_inj (by omega) (by omega) e1
      subst this
      exact (places_lt hj).2
  · intro g
    refine .inr (List.mem_map.2 ⟨(spoL e k, powB 2 k), List.mem_map.2 ⟨k, List.mem_filter.2 ⟨hk, by simpa using g⟩, rfl⟩, rfl⟩)

/-! ### The second equations -/
def valR (s : List UInt8) (a : List Nat) (i : Nat) : List UInt8 := (a.map fun k => powB 2 ((i + 1) * k)) ++ [co s i]
theorem val_length (s : List UInt8) (a : List Nat) (i : Nat) : (valR s a i).length = a.length + 1 := by simp [valR]
theorem val_row (s : List UInt8) (a : List Nat) (i : Nat) (y : Nat → UInt8) : rowOf a.length (valR s a i) y = addB (sumV ((List.range a.length).map fun c => (y c, powB 2 (a.getD c 0))) (i + 1)) (mulB (co s i) (y a.length)) := by
  unfold rowOf
  rw [sumN, sumV_range]
  congr 1
  · refine sumN_congr _ fun c hc => ?_
    have : co (valR s a i) c = powB 2 ((i + 1) * a.getD c 0) := by
      unfold valR co
      rw [List.getD_eq_getElem?_getD, List.getElem?_append_left (by simpa using hc)]
      simp [List.getD_eq_getElem?_getD, hc]
    rw [this, mul_comm, Nat.mul_comm, pow_mul]
  · congr 1
    unfold valR co
    rw [List.getD_eq_getElem?_getD, List.getElem?_append_right (by simp)]
    simp
theorem range_getD {α : Type} (a : List Nat) (f : Nat → α) : (List.range a.length).map (fun c => f (a.getD c 0)) = a.map f := by
  refine List.ext_getElem (by simp) (fun i h1 h2 => ?_)
  simp at h1
  simp [List.getD_eq_getElem?_getD, h1]
theorem val_solved {s : List UInt8} {e : List UInt8} {ok : Bool} {x : List UInt8} (h255 : e.length ≤ 255) (hs : ∀ m, m < (placesL e).length → co s m = sumV (pairsE e) (m + 1))
    (h : Solved (placesL e).length (valR s (placesL e)) ok x) : ok = true ∧ x.length = (placesL e).length ∧ ∀ j, j < (placesL e).length → co x j = spoL e ((placesL e).getD j 0) := by
  have hpair : pairsE e = (List.range (placesL e).length).map fun c => (spoL e ((placesL e).getD c 0), powB 2 ((placesL e).getD c 0)) := (range_getD (placesL e) fun k => (spoL e k, powB 2 k)).symm
  have hloc : (List.range (placesL e).length).map (fun c => powB 2 ((placesL e).getD c 0)) = (pairsE e).map Prod.snd := by
    rw [range_getD (placesL e) fun k => powB 2 k]
    unfold pairsE
    rw [List.map_map]
    rfl
  cases ok with
  | false =>
    obtain ⟨y, i, hi, h1, h2, h3⟩ := h.2 rfl
    have h0 := vander (placesL e).length ((List.range (placesL e).length).map fun c => (y c, powB 2 ((placesL e).getD c 0))) (by simp) (by
      rw [List.map_map]
      have : (List.range (placesL e).length).map (Prod.snd ∘ fun c => (y c, powB 2 ((placesL e).getD c 0))) = (pairsE e).map Prod.snd := hloc
      rw [this]
      exact pairsE_nodup h255) (fun p hp => by
      obtain ⟨c, _, rfl⟩ := List.mem_map.1 hp
      exact exp_ne _) (fun j j1 j2 => by
      have := h3 (j - 1) (by omega)
      rw [val_row, h2, mul_zero, add_zero, show j - 1 + 1 = j by omega] at this
      exact this)
    have := h0 _ (List.mem_map.2 ⟨i, List.mem_range.2 hi, rfl⟩)
    rw [show (y i, powB 2 ((placesL e).getD i 0)).1 = y i from rfl, h1] at this
    cases this
  | true =>
    obtain ⟨h1, h2⟩ := h.1 rfl
    refine ⟨rfl, h1, fun j hj => ?_⟩
    have hk : Ker (placesL e).length (valR s (placesL e)) (fun c => if c < (placesL e).length then spoL e ((placesL e).getD c 0) else 1) := fun i hi => by
      rw [val_row, if_neg (Nat.lt_irrefl _), mul_one, hs i hi, hpair]
      have : ((List.range (placesL e).length).map fun c => ((if c < (placesL e).length then spoL e ((placesL e).getD c 0) else 1), powB 2 ((placesL e).getD c 0))) = (List.range (placesL e).length).map fun c => (spoL e ((placesL e).getD c 0), powB 2 ((placesL e).getD c 0)) :=
        List.map_congr_left fun c hc => by rw [if_pos (List.mem_range.1 hc)]
      rw [this, add_self]
    have := h2 _ hk (if_neg (Nat.lt_irrefl _)) j hj
    rw [this]
    exact if_pos hj

/-! ### What is turned -/
/-- The places, each turned by its value. -/
def outL (b : List UInt8) (a : List Nat) (x : List UInt8) : Nat → List UInt8
  | 0 => b
  | i + 1 => (outL b a x i).set (b.length - 1 - a.getD i 0) (addB (co (outL b a x i) (b.length - 1 - a.getD i 0)) (co x i))
theorem out_length (b : List UInt8) (a : List Nat) (x : List UInt8) : ∀ i, (outL b a x i).length = b.length
  | 0 => rfl
  | i + 1 => by rw [outL, List.length_set, out_length b a x i]
theorem co_out {b e x : List UInt8} (hl : e.length = b.length) (hx : ∀ j, j < (placesL e).length → co x j = spoL e ((placesL e).getD j 0)) : ∀ i, i ≤ (placesL e).length → ∀ q, q < b.length →
    co (outL b (placesL e) x i) q = if b.length - 1 - q ∈ (placesL e).take i then addB (co b q) (co e q) else co b q
  | 0, _, q, hq => by rw [List.take_zero, if_neg (by simp)]; rfl
  | i + 1, hi, q, hq => by
    have hi' : i < (placesL e).length := by omega
    have ih := co_out hl hx i (by omega)
    have hget : (placesL e).getD i 0 = (placesL e)[i] := by simp [List.getD_eq_getElem?_getD, hi']
    have hmem : (placesL e)[i] ∈ placesL e := List.getElem_mem hi'
    have hlt := (places_lt hmem).1
    rw [outL, hx i hi', hget]
    have htake : (placesL e).take (i + 1) = (placesL e).take i ++ [(placesL e)[i]] := List.take_succ_eq_append_getElem hi'
    have hfresh : (placesL e)[i] ∉ (placesL e).take i := by
      have hnd := places_nodup e
      rw [← List.take_append_drop (i + 1) (placesL e), htake] at hnd
      have h1 := (List.nodup_append.1 hnd).1
      intro hin
      exact (List.nodup_append.1 h1).2.2 _ hin _ (List.mem_singleton.2 rfl) rfl
    rw [co_set _ _ _ _ (by rw [out_length]; omega), htake]
    generalize hk : (placesL e)[i] = k at hlt hmem hfresh htake ⊢
    by_cases e1 : q = b.length - 1 - k
    · have e2 : b.length - 1 - q = k := by omega
      rw [if_pos e1, ← e1, ih q hq, e2, if_neg hfresh, if_pos (by simp)]
      congr 1
      unfold spoL
      rw [hl, ← e1]
    · rw [if_neg e1, ih q hq]
      have e2 : b.length - 1 - q ≠ k := by omega
      by_cases e3 : b.length - 1 - q ∈ (placesL e).take i
      · rw [if_pos e3, if_pos (List.mem_append_left _ e3)]
      · rw [if_neg e3, if_neg (fun h => by
          rcases List.mem_append.1 h with h | h
          · exact e3 h
          · exact e2 (List.mem_singleton.1 h))]
theorem out_right {b a x : List UInt8} (hl : a.length = b.length) (hx : ∀ j, j < (placesL (List.zipWith addB b a)).length → co x j = spoL (List.zipWith addB b a) ((placesL (List.zipWith addB b a)).getD j 0)) :
    outL b (placesL (List.zipWith addB b a)) x (placesL (List.zipWith addB b a)).length = a := by
  have hel : (List.zipWith addB b a).length = b.length := by rw [List.length_zipWith]; omega
  refine co_ext (by rw [out_length, hl]) (fun q hq => ?_)
  rw [out_length] at hq
  rw [co_out hel hx _ (Nat.le_refl _) q hq, List.take_length]
  have hz : co (List.zipWith addB b a) q = addB (co b q) (co a q) := co_zip _ _ _ hq (by omega)
  have hs : spoL (List.zipWith addB b a) (b.length - 1 - q) = co (List.zipWith addB b a) q := by
    unfold spoL
    rw [hel, show b.length - 1 - (b.length - 1 - q) = q by omega]
  by_cases h : b.length - 1 - q ∈ placesL (List.zipWith addB b a)
  · rw [if_pos h, hz, ← add_assoc, add_self, zero_add]
  · rw [if_neg h]
    have : co (List.zipWith addB b a) q = 0 := by
      by_cases h0 : co (List.zipWith addB b a) q = 0
      · exact h0
      · exact absurd (List.mem_filter.2 ⟨List.mem_range.2 (by omega), by rw [hs]; simpa using h0⟩) h
    rw [hz] at this
    exact add_zero_eq this
/-- At as many places as were spoilt, the whole way leads to what was. -/
theorem signs_pairs {b a : List UInt8} {n : Nat} (hl : a.length = b.length) (hf : fineP a n) (m : Nat) (hm : m < n) : co (signsL b n) m = sumV (pairsE (List.zipWith addB b a)) (m + 1) := by
  rw [pairsE_sum, val_xor _ _ _ hl.symm, hf (m + 1) (by omega) (by omega), add_zero]
  unfold signsL
  rw [co_range _ _ _ hm]
end Go.Proofs.YteppocjgodmpdaaGreatDoor
/-
  What the reference's calls Roots and Locator of layer 10 answer. No conditions but those typed.
-/
namespace Go.Proofs.YteppocjgodmpdaaGreatDoor
set_option maxRecDepth 100000
open Go.RowKit
set_option linter.unusedSimpArgs false
set_option linter.unusedVariables false

def vN (k : Nat) : Value := .int .i64 (k : Int)
theorem vN_one (k : Nat) : (vN k).oneCell' = true := rfl
theorem info_intM : (Tryz.prog.info? 3).map (fun i => (i.zero, i.size, i.bytes)) = some (some (.int .i64 0), 1, 8) := by kernel_rfl
theorem info_sliM : (Tryz.prog.info? 22).map (fun i => (i.zero, i.size, i.bytes)) = some (some (.slice none 0 0), 1, 24) := by kernel_rfl
/-- A call that hands back a list of numbers. -/
def RetI (w : World) (l : List Nat) (e : Ending) (w' : World) : Prop := ∃ A n c, e = .returned (.slice A n c) ∧ Hid (l.length = n) ∧ n ≤ c ∧ Rd vN w' A l ∧ Below w.heap.size w w'
theorem powZ_less (k : Nat) (hk : k < 255) : powZ 2 (255 - (k : Int)) = rootB k := by
  unfold powZ
  rw [if_neg (by decide)]
  refine inv_unique _ _ ?_
  rw [← pow_add]
  by_cases h : k = 0
  · subst h
    rfl
  · have : ((255 - (k : Int)) % 255).toNat = 255 - k := by omega
    rw [this, show k + (255 - k) = 255 by omega, exp_255]
theorem roots_snoc (p : List UInt8) (k : Nat) : rootsL p (k + 1) = rootsL p k ++ (if evalL p (rootB k) = 0 then [k] else []) := by
  unfold rootsL
  rw [List.range_succ, List.filter_append]
  congr 1
  by_cases h : evalL p (rootB k) = 0
  · rw [if_pos h, List.filter_cons_of_pos (by simpa using h), List.filter_nil]
  · rw [if_neg h, List.filter_cons_of_neg (by simpa using h), List.filter_nil]
theorem roots_le (p : List UInt8) (k : Nat) : (rootsL p k).length ≤ k := by
  unfold rootsL
  exact Nat.le_trans (List.length_filter_le _ _) (by simp)
def RooR (p : List UInt8) (hi : Nat) (w : World) (v iv : Value) (wr : World) : Prop :=
  ∃ k : Nat, k ≤ hi ∧ iv = .int .i64 (k : Int) ∧ wr.ownsRow w.heap.size 3 1 v (rootsL p k).length ((rootsL p k).map vN) ∧ Below w.heap.size w wr
set_option maxHeartbeats 2000000 in
theorem refroots_any (p : List UInt8) (n len : Nat) (A : Option Addr) (c : Nat) (w : World) (HN : Hid (p.length = n)) (hr : Rd vB w A p) (hn : n ≤ 1000) (hl : len ≤ 255) :
    Calls Tryz.prog 211 #[.slice A n c, .int .i64 (len : Int)] w (RetI w (rootsL p len)) := by
  obtain ⟨i0, hi, hz0, hz1, hz2⟩ := info_parts info_intM
  go_enter Tryz.func211, Tryz.ntmps211
  go_wp2_with fail
  go_loopw [5, 6] (fun v iv wr => RooR p len w v iv wr) (fun _ iv _ => len - (intOf iv).toNat)
  case atStart => exact ⟨0, Nat.zero_le _, rfl, World.ownsRow_nil _ _ _ _, Below.refl _ _⟩
  case round =>
    obtain ⟨k, hk, rfl, hown, hb⟩ := hrel
    by_cases hkl : k < len
    · have k1 : (k : Int) < (len : Int) := by omega
      have k2 : (0 : Int) ≤ (k : Int) := by omega
      have hsn := roots_snoc p k
      have hle := roots_le p k
      have hx := fun W => refexp_any (255 - (k : Int)) W
      rw [powZ_less k (by omega)] at hx
      have hev := fun W (hW : Below w.heap.size w W) => refeval_any p (rootB k) n A c W HN (hr.keep hW) (by omega)
      generalize rootB k = r at hx hev hsn
      obtain ⟨y, hy⟩ : ∃ y, evalL p r = y := ⟨_, rfl⟩
      rw [hy] at hev hsn
      have HX := Lib.hid hx
      have HEV := Lib.hid hev
      have HSN := Lib.hid hsn
      have HNXT : Hid (∀ v' w1, w1.ownsRow w.heap.size 3 1 v' (rootsL p (k + 1)).length ((rootsL p (k + 1)).map vN) → Below w.heap.size w w1 → RooR p len w v' (.int .i64 ((k : Int) + 1)) w1) := fun v' w1 h1 h2 => ⟨k + 1, hkl, by go_num, h1, h2⟩
      generalize rootsL p (k + 1) = L1 at HSN HNXT
      generalize rootsL p k = L0 at hown HSN hle
      clear hx hev hsn hy
      go_wp2_with fail
      refine (HX.out _).mono ?_
      rintro e w1 ⟨rfl, rfl⟩
      go_wp2_with fail
      refine (HEV.out _ hb).mono ?_
      rintro e w1 ⟨rfl, rfl⟩
      by_cases h0 : y = 0
      · have HL : Hid (L1 = L0 ++ [k]) := by unfold Hid; rw [HSN.out, if_pos h0]
        subst h0
        have hbs := hb.size
        clear HX HEV HSN
        go_wp2_with (at_builtin; refine wpList_append_own _ rfl _ _ 286 rfl w.heap.size 3 i0 (.int .i64 0) 1 8 Tryz.underlying286 hi hz0 hz1 hz2 rfl (by decide) _ _ _ rfl (hown.alloc _) ⟨wr.heap.size, 0, none⟩ 1 1 [.int .i64 (k : Int)] rfl rfl (cell_one_new _ _ _) (by intro u hu; simp at hu; subst hu; rfl) (by unfold maxLen; omega) (by omega) (by simp; omega) ?_; intro v' w3 hown' hgrow' _)
        have HR : Hid (RooR p len w v' (.int .i64 ((k : Int) + 1)) w3) := HNXT.out v' w3 (by
          rw [HL.out, List.map_append, List.length_append]
          exact hown') ((hb.alloc hb.size _).grown hgrow' (by simp; omega) (fun g hk => (hown.lt g hk).1))
        clear hown' hgrow' hown hb HNXT
        go_wp2_with fail
        go_roundw
        case rel => exact HR.out
        case measure => simp [intOf] <;> omega
      · have HL : Hid (L1 = L0) := by unfold Hid; rw [HSN.out, if_neg h0, List.append_nil]
        have hn1 := toNat_bne h0
        have hn2 := toNat_ne h0
        have HR := Lib.hid (fun v' h => HNXT.out v' wr h hb)
        rw [HL.out] at HR
        clear HX HEV HSN h0 HNXT
        go_wp2_with fail
        go_roundw
        case rel => exact HR.out _ hown
        case measure => simp [intOf] <;> omega
    · have ek : k = len := by omega
      subst ek
      have k1 : ¬ (k : Int) < (k : Int) := by omega
      have hln := hown.1
      obtain ⟨A1, c1, rfl, hc1⟩ := own_form hown
      have hrd := Rd.own hown
      clear hown
      go_wp2_with fail
      go_ret
      exact ⟨A1, _, c1, rfl, Lib.hid rfl, hc1, hrd, hb⟩

/-! ### Locator -/
def LocR (s : List UInt8) (v : Nat) (w : World) (rv iv : Value) (wr : World) : Prop :=
  ∃ (i : Nat) (G : List (Nat × Nat)), i ≤ v ∧ iv = .int .i64 (i : Int) ∧ Hid (G.length = i) ∧ MatI wr w.heap.size v rv G (locR s v) ∧ Below w.heap.size w wr
theorem locR_tab (s : List UInt8) (v i : Nat) : locR s v i = tabL (fun c => co s (i + v - 1 - c)) v ++ [co s (i + v)] := by rw [tab_range]; rfl
set_option maxRecDepth 100000 in
set_option maxHeartbeats 4000000 in
theorem reflocator_any (s : List UInt8) (ns v : Nat) (A : Option Addr) (c : Nat) (w : World) (HN : Hid (s.length = ns)) (hr : Rd vB w A s) (hv : 0 < v) (hv2 : 2 * v ≤ ns) (hns : ns ≤ 64) :
    Calls Tryz.prog 210 #[.slice A ns c, .int .i64 (v : Int)] w (RetSo w.heap.size v (locR s v) w) := by
  obtain ⟨i0, hi, hz0, hz1, hz2⟩ := info_parts info_u8
  obtain ⟨s0, si, sz0, sz1, sz2⟩ := info_parts info_sliM
  obtain ⟨bs, os, rfl, hbs, hcs⟩ := hr.at (show 0 < s.length by rw [HN.out]; omega)
  have HCS : Hid (∀ m, m < ns → w.cell? ⟨bs, os + m, none⟩ = some (.int .u8 ((co s m).toNat : Int))) := fun m hm => by
    have hm' : m < s.length := by rw [HN.out]; exact hm
    rw [co_lt s m hm']
    exact hcs m hm'
  clear hcs hr
  go_enter Tryz.func210, Tryz.ntmps210
  go_wp2_with fail
  go_loopw [6, 7] (fun rv iv wr => LocR s v w rv iv wr) (fun _ iv _ => v - (intOf iv).toNat)
  case atStart => exact ⟨0, [], Nat.zero_le _, rfl, Lib.hid rfl, MatI.none _ _ _ _, Below.refl _ _⟩
  case round =>
    obtain ⟨i, G, hi1, rfl, HG, hM, hB⟩ := hrel
    obtain ⟨w1, hw1⟩ : ∃ w1, w1 = wr := ⟨_, rfl⟩
    subst hw1
    by_cases hiv : i < v
    · have i1 : (i : Int) < (v : Int) := by omega
      have i2 : (0 : Int) ≤ (i : Int) := by omega
      obtain ⟨f, hf⟩ : ∃ f, f = (fun c => co s (i + v - 1 - c)) := ⟨_, rfl⟩
      have HF : Hid (∀ c, c < v → f c = co s (i + v - 1 - c)) := fun c _ => by rw [hf]
      have HT : Hid (locR s v i = tabL f v ++ [co s (i + v)]) := by unfold Hid; rw [locR_tab, hf]
      clear hf
      go_wp2_with fail
      go_loopw [8, 9] (fun u cv wx => TabZ f v w1 u cv wx) (fun _ cv _ => v - (intOf cv).toNat)
      case atStart => exact ⟨0, Nat.zero_le _, rfl, World.ownsRow_nil _ _ _ _, Below.refl _ _⟩
      case round =>
        obtain ⟨k, hk, rfl, hown, hbel⟩ := hrel
        by_cases hkv : k < v
        · have k1 : (k : Int) < (v : Int) := by omega
          have k2 : (0 : Int) ≤ (k : Int) := by omega
          obtain ⟨q, hq⟩ : ∃ q, q = i + v - 1 - k := ⟨_, rfl⟩
          have q1 : (i : Int) + (v : Int) - 1 - (k : Int) = (q : Int) := by omega
          have q2 : (0 : Int) ≤ (q : Int) := by omega
          have q3 : (q : Int) < (ns : Int) := by omega
          have hcl : wr.cell? ⟨bs, os + q, none⟩ = some (.int .u8 ((co s q).toNat : Int)) := ((below_step hB hbel).cell (p := ⟨bs, os + q, none⟩) hbs).trans (HCS.out q (by omega))
          have HX : Hid (f k = co s q) := by rw [hq]; exact HF.out k hkv
          generalize co s q = y at hcl HX
          have hle := hbel.size
          clear hM HT HF HCS hq
          go_wp2_with (at_builtin; refine wpList_append_own _ rfl _ _ 22 rfl w1.heap.size 5 i0 (.int .u8 0) 1 1 Tryz.underlying22 hi hz0 hz1 hz2 rfl (by decide) _ _ _ rfl (hown.alloc _) ⟨wr.heap.size, 0, none⟩ 1 1 [.int .u8 (y.toNat : Int)] rfl rfl (cell_one_new _ _ _) (by intro u hu; simp at hu; subst hu; rfl) (by unfold maxLen; omega) (by omega) (by simp; omega) ?_; intro v' w3 hown' hgrow' _)
          have HR : Hid (TabZ f v w1 v' (.int .i64 ((k : Int) + 1)) w3) := tabz_round hkv hown hbel HX.out hgrow' hown'
          clear hown' hgrow' hown hbel
          go_wp2_with fail
          go_roundw
          case rel => exact HR.out
          case measure => simp [intOf] <;> omega
        · have ek : k = v := by omega
          subst ek
          have k1 : ¬ (k : Int) < (k : Int) := by omega
          obtain ⟨q, hq⟩ : ∃ q, q = i + k := ⟨_, rfl⟩
          have q1 : (i : Int) + (k : Int) = (q : Int) := by omega
          have q2 : (0 : Int) ≤ (q : Int) := by omega
          have q3 : (q : Int) < (ns : Int) := by omega
          have hcl : wr.cell? ⟨bs, os + q, none⟩ = some (.int .u8 ((co s q).toNat : Int)) := ((below_step hB hbel).cell (p := ⟨bs, os + q, none⟩) hbs).trans (HCS.out q (by omega))
          have HT2 : Hid (locR s k i = tabL f k ++ [co s q]) := by rw [hq]; exact HT.out
          generalize co s q = y at hcl HT2
          have hle := hbel.size
          have hBs := hB.size
          have hM2 := hM.later hbel
          clear HT HF hq
          have hGl : G.length ≤ 64 := by have := HG.out; omega
          have hll : (locR s k i).length = k + 1 := loc_length s k i
          clear HCS
          go_upto_region 4 with (first
            | (at_builtin; refine wpList_append_own _ rfl (.tmp 33) (.tmp 40) 22 rfl w1.heap.size 5 i0 (.int .u8 0) 1 1 Tryz.underlying22 hi hz0 hz1 hz2 rfl (by decide) _ _ _ rfl (hown.alloc _) ⟨wr.heap.size, 0, none⟩ 1 1 [.int .u8 (y.toNat : Int)] rfl rfl (cell_one_new _ _ _) (by intro u hu; simp at hu; subst hu; rfl) (by unfold maxLen; omega) (by omega) (by simp; omega) ?_; intro v' w3 hown' hgrow' _; (have hown2 : w3.ownsRow w1.heap.size 5 1 v' (k + 1) ((locR s k i).map vB) := by rw [HT2.out, List.map_append]; exact hown'); obtain ⟨A', c', rfl, hc'⟩ := own_form hown2; obtain ⟨g', rfl, hg', hcel'⟩ := cel_of_own hown2 hll (by omega); (have hb13 : Below w1.heap.size w1 w3 := (hbel.alloc hle _).grown hgrow' (by simp; omega) (fun g hk => (hown.lt g hk).1)); have hM4 := (hM.later hb13).later (below_new (Below.refl _ w3) (.cells #[.slice (some ⟨g', 0, none⟩) (k + 1) c'] 22)); have hz13 := hb13.size)
            | (at_builtin; refine wpList_append_own_at _ rfl (.tmp 32) (.tmp 42) 149 rfl w.heap.size 22 s0 (.slice none 0 0) 1 24 Tryz.underlying149 si sz0 sz1 sz2 rfl (by decide) _ G.length _ rfl hM4.own ⟨w3.heap.size, 0, none⟩ 1 1 [.slice (some ⟨g', 0, none⟩) (k + 1) c'] rfl rfl (cell_one_new _ _ _) (by intro u hu; simp at hu; subst hu; rfl) (by unfold maxLen; omega) (by omega) (by simp; omega) ?_; intro v5 w5 hown5 hgrow5 _ hv5))
          have hG := HG.out
          have hbn := below_new hb13 (.cells #[.slice (some ⟨g', 0, none⟩) (k + 1) c'] 22)
          have hMn := hM.more hbn hg' hBs hc' (by rw [hG]; exact hcel'.later (below_new (Below.refl _ w3) _)) hown5 hgrow5 hv5
          have HR : Hid (LocR s k w v5 (.int .i64 ((i : Int) + 1)) w5) := ⟨i + 1, G ++ [(g', c')], hiv, by go_num, by unfold Hid; rw [List.length_append, hG]; rfl, hMn, (below_step hB hbn).grown hgrow5 (by simp; omega) (fun g hk => (hM4.own.lt g hk).1)⟩
          clear hbn hMn hG hown5 hgrow5 hv5 hM4 hb13 hown2 hown' hgrow' hcel' hM hB hbel hown hM2
          go_wp2_with fail
          go_roundw
          case rel => exact HR.out
          case measure => simp [intOf] <;> omega
    · have ei : i = v := by omega
      subst ei
      have i1 : ¬ (i : Int) < (i : Int) := by omega
      obtain ⟨R, c0, rfl, hc0, hMat⟩ := hM.mat HG.out hv (fun j _ => loc_length s i j)
      go_wp2_with fail
      refine (refsolve_any w.heap.size R i c0 _ _ (locR s i) _ hv (by omega) hMat hB.size hc0).mono ?_
      rintro e w9 ⟨A9, m9, c9, ok, x, rfl, HX, hc9, hr9, hb9, HSo⟩
      have hB9 := hB.trans hb9
      clear hMat hM hB hb9
      go_wp2_with fail
      go_ret2
      exact ⟨A9, m9, c9, ok, x, rfl, HX.out, hc9, hr9, hB9, HSo.out⟩
end Go.Proofs.YteppocjgodmpdaaGreatDoor
/-
  What the reference's call Values of layer 10 answers. No conditions but those typed.
-/
namespace Go.Proofs.YteppocjgodmpdaaGreatDoor
set_option maxRecDepth 100000
open Go.RowKit
set_option linter.unusedSimpArgs false
set_option linter.unusedVariables false

theorem powZ_any (m : Nat) : powZ 2 (m : Int) = powB 2 m := by
  unfold powZ
  rw [if_neg (by decide), exp_mod m]
  congr 1
def ValR (s : List UInt8) (a : List Nat) (v : Nat) (w : World) (rv iv : Value) (wr : World) : Prop :=
  ∃ (i : Nat) (G : List (Nat × Nat)), i ≤ v ∧ iv = .int .i64 (i : Int) ∧ Hid (G.length = i) ∧ MatI wr w.heap.size v rv G (valR s a) ∧ Below w.heap.size w wr
theorem valR_tab (s : List UInt8) (a : List Nat) (i : Nat) : valR s a i = tabL (fun c => powB 2 ((i + 1) * a.getD c 0)) a.length ++ [co s i] := by
  rw [tab_range, range_getD a fun k => powB 2 ((i + 1) * k)]
  rfl
set_option maxRecDepth 100000 in
set_option maxHeartbeats 4000000 in
theorem refvalues_any (s : List UInt8) (a : List Nat) (ns v : Nat) (A B : Option Addr) (c d : Nat) (w : World) (HN : Hid (s.length = ns)) (HV : Hid (a.length = v)) (hr : Rd vB w A s) (hra : Rd vN w B a) (hv : 0 < v) (hv2 : v ≤ ns) (hns : ns ≤ 64) (ha : Hid (∀ k ∈ a, k < 255)) :
    Calls Tryz.prog 212 #[.slice A ns c, .slice B v d] w (RetSo w.heap.size v (valR s a) w) := by
  obtain ⟨i0, hi, hz0, hz1, hz2⟩ := info_parts info_u8
  obtain ⟨s0, si, sz0, sz1, sz2⟩ := info_parts info_sliM
  obtain ⟨bs, os, rfl, hbs, hcs⟩ := hr.at (show 0 < s.length by rw [HN.out]; omega)
  have HCS : Hid (∀ m, m < ns → w.cell? ⟨bs, os + m, none⟩ = some (.int .u8 ((co s m).toNat : Int))) := fun m hm => by
    have hm' : m < s.length := by rw [HN.out]; exact hm
    rw [co_lt s m hm']
    exact hcs m hm'
  obtain ⟨bt, ot, rfl, hbt, hct⟩ := hra.at (show 0 < a.length by rw [HV.out]; omega)
  have HCT : Hid (∀ m, m < v → w.cell? ⟨bt, ot + m, none⟩ = some (.int .i64 ((a.getD m 0 : Nat) : Int)) ∧ a.getD m 0 < 255) := fun m hm => by
    have hm' : m < a.length := by rw [HV.out]; exact hm
    have e : a.getD m 0 = a[m] := by simp [List.getD_eq_getElem?_getD, hm']
    rw [e]
    exact ⟨hct m hm', ha.out _ (List.getElem_mem hm')⟩
  clear hcs hr hct hra
  go_enter Tryz.func212, Tryz.ntmps212
  go_wp2_with fail
  go_loopw [6, 7] (fun rv iv wr => ValR s a v w rv iv wr) (fun _ iv _ => v - (intOf iv).toNat)
  case atStart => exact ⟨0, [], Nat.zero_le _, rfl, Lib.hid rfl, MatI.none _ _ _ _, Below.refl _ _⟩
  case round =>
    obtain ⟨i, G, hi1, rfl, HG, hM, hB⟩ := hrel
    obtain ⟨w1, hw1⟩ : ∃ w1, w1 = wr := ⟨_, rfl⟩
    subst hw1
    by_cases hiv : i < v
    · have i1 : (i : Int) < (v : Int) := by omega
      have i2 : (0 : Int) ≤ (i : Int) := by omega
      obtain ⟨f, hf⟩ : ∃ f, f = (fun c => powB 2 ((i + 1) * a.getD c 0)) := ⟨_, rfl⟩
      have HF : Hid (∀ c, c < v → f c = powB 2 ((i + 1) * a.getD c 0)) := fun c _ => by rw [hf]
      have HT : Hid (valR s a i = tabL f v ++ [co s i]) := by unfold Hid; rw [valR_tab, hf, HV.out]
      clear hf
      go_wp2_with fail
      go_loopw [8, 9] (fun u cv wx => TabZ f v w1 u cv wx) (fun _ cv _ => v - (intOf cv).toNat)
      case atStart => exact ⟨0, Nat.zero_le _, rfl, World.ownsRow_nil _ _ _ _, Below.refl _ _⟩
      case round =>
        obtain ⟨k, hk, rfl, hown, hbel⟩ := hrel
        by_cases hkv : k < v
        · have k1 : (k : Int) < (v : Int) := by omega
          have k2 : (0 : Int) ≤ (k : Int) := by omega
          obtain ⟨hca, hlt⟩ := HCT.out k hkv
          have HX := HF.out k hkv
          obtain ⟨ak, hak⟩ : ∃ ak, a.getD k 0 = ak := ⟨_, rfl⟩
          rw [hak] at hca hlt HX
          obtain ⟨m, hm⟩ : ∃ m, m = (i + 1) * ak := ⟨_, rfl⟩
          rw [← hm] at HX
          have hmi : ((i : Int) + 1) * (ak : Int) = (m : Int) := by rw [hm]; push_cast; rfl
          have hm4 : m ≤ 64 * 255 := by rw [hm]; exact Nat.mul_le_mul (by omega) (by omega)
          have hwm : IntKind.i64.wrap (m : Int) = (m : Int) := by rw [IntKind.wrap_i64]; omega
          have hcl : wr.cell? ⟨bt, ot + k, none⟩ = some (.int .i64 (ak : Int)) := ((below_step hB hbel).cell (p := ⟨bt, ot + k, none⟩) hbt).trans hca
          have hx := fun W => refexp_any (m : Int) W
          rw [powZ_any] at hx
          generalize powB 2 m = y at HX hx
          have HXX := Lib.hid HX
          have HEX := Lib.hid hx
          have hle := hbel.size
          clear hM HT HF HCS HCT hak hm hca HX hx
          go_wp2_with fail
          refine (HEX.out _).mono ?_
          rintro e w2 ⟨rfl, rfl⟩
          go_wp2_with (at_builtin; refine wpList_append_own _ rfl _ _ 22 rfl w1.heap.size 5 i0 (.int .u8 0) 1 1 Tryz.underlying22 hi hz0 hz1 hz2 rfl (by decide) _ _ _ rfl (hown.alloc _) ⟨wr.heap.size, 0, none⟩ 1 1 [.int .u8 (y.toNat : Int)] rfl rfl (cell_one_new _ _ _) (by intro u hu; simp at hu; subst hu; rfl) (by unfold maxLen; omega) (by omega) (by simp; omega) ?_; intro v' w3 hown' hgrow' _)
          have HR : Hid (TabZ f v w1 v' (.int .i64 ((k : Int) + 1)) w3) := tabz_round hkv hown hbel HXX.out hgrow' hown'
          clear hown' hgrow' hown hbel
          go_wp2_with fail
          go_roundw
          case rel => exact HR.out
          case measure => simp [intOf] <;> omega
        · have ek : k = v := by omega
          subst ek
          have k1 : ¬ (k : Int) < (k : Int) := by omega
          have q3 : (i : Int) < (ns : Int) := by omega
          have hcl : wr.cell? ⟨bs, os + i, none⟩ = some (.int .u8 ((co s i).toNat : Int)) := ((below_step hB hbel).cell (p := ⟨bs, os + i, none⟩) hbs).trans (HCS.out i (by omega))
          have HT2 : Hid (valR s a i = tabL f k ++ [co s i]) := HT.out
          generalize co s i = y at hcl HT2
          have hle := hbel.size
          have hBs := hB.size
          have hM2 := hM.later hbel
          clear HT HF HCT
          have hGl : G.length ≤ 64 := by have := HG.out; omega
          have hll : (valR s a i).length = k + 1 := by rw [val_length, HV.out]
          clear HCS
          go_upto_region 4 with (first
            | (at_builtin; refine wpList_append_own _ rfl (.tmp 34) (.tmp 39) 22 rfl w1.heap.size 5 i0 (.int .u8 0) 1 1 Tryz.underlying22 hi hz0 hz1 hz2 rfl (by decide) _ _ _ rfl (hown.alloc _) ⟨wr.heap.size, 0, none⟩ 1 1 [.int .u8 (y.toNat : Int)] rfl rfl (cell_one_new _ _ _) (by intro u hu; simp at hu; subst hu; rfl) (by unfold maxLen; omega) (by omega) (by simp; omega) ?_; intro v' w3 hown' hgrow' _; (have hown2 : w3.ownsRow w1.heap.size 5 1 v' (k + 1) ((valR s a i).map vB) := by rw [HT2.out, List.map_append]; exact hown'); obtain ⟨A', c', rfl, hc'⟩ := own_form hown2; obtain ⟨g', rfl, hg', hcel'⟩ := cel_of_own hown2 hll (by omega); (have hb13 : Below w1.heap.size w1 w3 := (hbel.alloc hle _).grown hgrow' (by simp; omega) (fun g hk => (hown.lt g hk).1)); have hM4 := (hM.later hb13).later (below_new (Below.refl _ w3) (.cells #[.slice (some ⟨g', 0, none⟩) (k + 1) c'] 22)); have hz13 := hb13.size)
            | (at_builtin; refine wpList_append_own_at _ rfl (.tmp 33) (.tmp 41) 149 rfl w.heap.size 22 s0 (.slice none 0 0) 1 24 Tryz.underlying149 si sz0 sz1 sz2 rfl (by decide) _ G.length _ rfl hM4.own ⟨w3.heap.size, 0, none⟩ 1 1 [.slice (some ⟨g', 0, none⟩) (k + 1) c'] rfl rfl (cell_one_new _ _ _) (by intro u hu; simp at hu; subst hu; rfl) (by unfold maxLen; omega) (by omega) (by simp; omega) ?_; intro v5 w5 hown5 hgrow5 _ hv5))
          have hG := HG.out
          have hbn := below_new hb13 (.cells #[.slice (some ⟨g', 0, none⟩) (k + 1) c'] 22)
          have hMn := hM.more hbn hg' hBs hc' (by rw [hG]; exact hcel'.later (below_new (Below.refl _ w3) _)) hown5 hgrow5 hv5
          have HR : Hid (ValR s a k w v5 (.int .i64 ((i : Int) + 1)) w5) := ⟨i + 1, G ++ [(g', c')], hiv, by go_num, by unfold Hid; rw [List.length_append, hG]; rfl, hMn, (below_step hB hbn).grown hgrow5 (by simp; omega) (fun g hk => (hM4.own.lt g hk).1)⟩
          clear hbn hMn hG hown5 hgrow5 hv5 hM4 hb13 hown2 hown' hgrow' hcel' hM hB hbel hown hM2
          go_wp2_with fail
          go_roundw
          case rel => exact HR.out
          case measure => simp [intOf] <;> omega
    · have ei : i = v := by omega
      subst ei
      have i1 : ¬ (i : Int) < (i : Int) := by omega
      obtain ⟨R, c0, rfl, hc0, hMat⟩ := hM.mat HG.out hv (fun j _ => by rw [val_length, HV.out])
      go_wp2_with fail
      refine (refsolve_any w.heap.size R i c0 _ _ (valR s a) _ hv (by omega) hMat hB.size hc0).mono ?_
      rintro e w9 ⟨A9, m9, c9, ok, x, rfl, HX, hc9, hr9, hb9, HSo⟩
      have hB9 := hB.trans hb9
      clear hMat hM hB hb9
      go_wp2_with fail
      go_ret2
      exact ⟨A9, m9, c9, ok, x, rfl, HX.out, hc9, hr9, hB9, HSo.out⟩
end Go.Proofs.YteppocjgodmpdaaGreatDoor
/-
  What the reference's call Try of layer 10 answers: what is fine, if anything; and at as many places as were spoilt, what was. No conditions but those typed.
-/
namespace Go.Proofs.YteppocjgodmpdaaGreatDoor
set_option maxRecDepth 100000
open Go.RowKit
set_option linter.unusedSimpArgs false
set_option linter.unusedVariables false

theorem try_one {b a : List UInt8} {n v : Nat} (h255 : b.length ≤ 255) (hn : Near b n a) (hd : difL b a = v) (hv2 : 2 * v ≤ n) {ok : Bool} {l : List UInt8} (h : Solved v (locR (signsL b n) v) ok l) :
    ok = true ∧ rootsL (1 :: l) b.length = placesL (List.zipWith addB b a) ∧ (placesL (List.zipWith addB b a)).length = v := by
  have hel : (List.zipWith addB b a).length = b.length := by rw [List.length_zipWith, hn.1, Nat.min_self]
  have hE : (pairsE (List.zipWith addB b a)).length = v := by rw [pairsE_length]; exact hd
  subst hE
  obtain ⟨h1, h2⟩ := loc_solved (pairsE_nodup (by omega)) pairsE_ne (fun m hm => signs_pairs hn.1 hn.2.1 m (by omega)) h
  refine ⟨h1, ?_, ?_⟩
  · rw [h2, ← hel]
    exact mon_roots (by omega)
  · rw [places_length, pairsE_length]
theorem try_two {b a : List UInt8} {n v : Nat} (h255 : b.length ≤ 255) (hn : Near b n a) (hv2 : 2 * v ≤ n) (hv0 : 0 < v) (hp : (placesL (List.zipWith addB b a)).length = v) {ok : Bool} {x : List UInt8} (h : Solved v (valR (signsL b n) (placesL (List.zipWith addB b a))) ok x) :
    ok = true ∧ outL b (placesL (List.zipWith addB b a)) x v = a := by
  have hel : (List.zipWith addB b a).length = b.length := by rw [List.length_zipWith, hn.1, Nat.min_self]
  subst hp
  obtain ⟨h1, _, h3⟩ := val_solved (by omega) (fun m hm => signs_pairs hn.1 hn.2.1 m (by omega)) h
  exact ⟨h1, out_right hn.1 h3⟩
theorem roots_lt {p : List UInt8} {n k : Nat} (h : k ∈ rootsL p n) : k < n := List.mem_range.1 (List.mem_filter.1 h).1

def RetTry (b : List UInt8) (n v : Nat) (w : World) (e : Ending) (w' : World) : Prop :=
  ∃ (A : Option Addr) (m c : Nat) (ok : Bool) (x : List UInt8), e = .returned (.tuple #[.slice A m c, .bool ok]) ∧ Hid (x.length = m) ∧ m ≤ c ∧ Rd vB w' A x ∧ Below w.heap.size w w' ∧ Hid ((ok = true → x.length = b.length ∧ fineP x n) ∧ ∀ a, Near b n a → difL b a = v → ok = true ∧ x = a)
def TryR (b : List UInt8) (at_ : List Nat) (x : List UInt8) (v g : Nat) (w : World) (iv : Value) (wr : World) : Prop :=
  ∃ i : Nat, i ≤ v ∧ iv = .int .i64 (i : Int) ∧ Cel wr g 5 (outL b at_ x i) ∧ Below w.heap.size w wr
set_option maxRecDepth 100000 in
set_option maxHeartbeats 4000000 in
theorem reftry_any (b : List UInt8) (len n v : Nat) (A : Option Addr) (c : Nat) (w : World) (HN : Hid (b.length = len)) (hr : Rd vB w A b) (h1 : 1 ≤ n) (h2 : n ≤ 64) (h3 : n ≤ len) (h4 : len ≤ 255) (hv : 0 < v) (hv2 : 2 * v ≤ n) :
    Calls Tryz.prog 145 #[.slice A len c, .int .i64 (n : Int), .int .i64 (v : Int)] w (RetTry b n v w) := by
  obtain ⟨i0, hi, hz0, hz1, hz2⟩ := info_parts info_u8
  have e0 := HN.out
  subst e0
  have HONE : Hid (∀ a ok l, Near b n a → difL b a = v → Solved v (locR (signsL b n) v) ok l → ok = true ∧ rootsL (1 :: l) b.length = placesL (List.zipWith addB b a) ∧ (placesL (List.zipWith addB b a)).length = v) := fun a ok l ha hd hs => try_one h4 ha hd hv2 hs
  have HTWO : Hid (∀ a ok x, Near b n a → (placesL (List.zipWith addB b a)).length = v → Solved v (valR (signsL b n) (placesL (List.zipWith addB b a))) ok x → ok = true ∧ outL b (placesL (List.zipWith addB b a)) x v = a) := fun a ok x ha hp hs => try_two h4 ha hv2 hv hp hs
  have HFI : Hid (∀ x : List UInt8, x.length = b.length → (fineS x (n : Int) = true ↔ fineP x n)) := fun x hx => fineS_iff x n h1 h2 (by omega) (by omega)
  have HSL := Lib.hid (signs_length b n)
  go_enter Tryz.func145, Tryz.ntmps145
  go_wp2_with fail
  refine (refsigns_any b b.length n A c w (Lib.hid rfl) hr (by omega) h2).mono ?_
  rintro e w1 ⟨A1, n1, c1, rfl, HN1, hc1, hr1, hb1⟩
  have en1 : n1 = n := by rw [← HN1.out, HSL.out]
  subst en1
  generalize signsL b n1 = S at HONE HTWO HSL HN1 hr1
  replace hr := hr.keep hb1
  have hB := hb1
  go_wp2_with fail
  refine (reflocator_any S n1 v A1 c1 w1 HN1 hr1 hv hv2 h2).mono ?_
  rintro e w2 ⟨A2, m2, c2, ok2, l, rfl, HL, hc2, hr2, hb2, HS2⟩
  replace hr := hr.keep hb2
  replace hr1 := hr1.keep hb2
  replace hB := below_step hB hb2
  clear hb1 hb2
  cases ok2 with
  | false =>
    have HRES : Hid (∀ a, Near b n1 a → difL b a = v → false = true ∧ ([] : List UInt8) = a) := fun a ha hd => by
      have := (HONE.out a false l ha hd HS2.out).1
      cases this
    clear HONE HTWO HFI HS2
    go_wp2_with fail
    go_ret2
    exact ⟨none, 0, 0, false, [], rfl, Lib.hid rfl, Nat.le_refl _, Rd.nil, hB, (fun e => by cases e), HRES.out⟩
  | true =>
    have hl0 : l.length = v := (HS2.out.1 rfl).1
    have eL := HL.out
    subst eL
    subst hl0
    have hown0 : (w2.alloc (.cells #[.int .u8 1] 5)).ownsRow w2.heap.size 5 1 (.slice (some ⟨w2.heap.size, 0, none⟩) 1 1) 1 [.int .u8 1] := ⟨rfl, .inr ⟨w2.heap.size, 1, #[.int .u8 1], rfl, Nat.le_refl _, heap_alloc_new w2 _, Nat.le_refl _, by unfold maxLen; omega, rfl, rfl⟩⟩
    have hB0 := below_new (Below.refl _ w2) (.cells #[.int .u8 1] 5)
    have hr20 := hr2.keep hB0
    go_wp2_with (at_builtin; refine wpList_append_rd _ rfl (.tmp 26) (.tmp 27) 22 rfl w2.heap.size 5 i0 (.int .u8 0) 1 Tryz.underlying22 hi hz0 hz1 hz2 rfl _ _ _ rfl hown0 A2 l c2 rfl hr20 vB_one (by unfold maxLen; omega) (by omega) (by simp) ?_; intro v3 w3 hown3 hgrow3; (have hown4 : w3.ownsRow w2.heap.size 5 1 v3 (1 + l.length) ((1 :: l).map vB) := hown3); obtain ⟨A3, c3, rfl, hc3⟩ := own_form hown4)
    have hb3 : Below w2.heap.size w2 w3 := hB0.grown hgrow3 (by simp) (fun k hk => by have h : some w2.heap.size = some k := hk; injection h with h; omega)
    have hr3 := Rd.own hown4
    replace hr := hr.keep hb3
    replace hr1 := hr1.keep hb3
    replace hB := below_step hB hb3
    have hpl : 1 + l.length ≤ 100 := by omega
    have HPL : Hid ((1 :: l).length = 1 + l.length) := by unfold Hid; rw [List.length_cons, Nat.add_comm]
    clear hown0 hB0 hr20 hown3 hgrow3 hown4 hb3 hr2
    refine (refroots_any (1 :: l) (1 + l.length) b.length A3 c3 w3 HPL hr3 (by omega) h4).mono ?_
    rintro e w4 ⟨A4, n4, c4, rfl, HN4, hc4, hr4, hb4⟩
    replace hr := hr.keep hb4
    replace hr1 := hr1.keep hb4
    replace hB := below_step hB hb4
    have HRL : Hid (∀ k ∈ rootsL (1 :: l) b.length, k < b.length) := fun k hk => roots_lt hk
    have HON2 : Hid (∀ a, Near b n1 a → difL b a = l.length → rootsL (1 :: l) b.length = placesL (List.zipWith addB b a) ∧ (placesL (List.zipWith addB b a)).length = l.length) := fun a ha hd => (HONE.out a true l ha hd HS2.out).2
    generalize rootsL (1 :: l) b.length = at_ at HN4 hr4 HRL HON2
    clear hb4 hr3 HPL HONE HS2 hpl
    by_cases hav : n4 = l.length
    · subst hav
      have hav2 : ((l.length : Int) != (l.length : Int)) = false := by simp
      go_wp2_with fail
      refine (refvalues_any S at_ n1 l.length A1 A4 c1 c4 w4 HN1 HN4 hr1 hr4 hv (by omega) h2 (fun k hk => by have := HRL.out k hk; omega)).mono ?_
      rintro e w5 ⟨A5, m5, c5, ok5, x, rfl, HX5, hc5, hr5, hb5, HS5⟩
      replace hr := hr.keep hb5
      replace hr4 := hr4.keep hb5
      replace hB := below_step hB hb5
      clear hb5 hr1
      cases ok5 with
      | false =>
        have HRES : Hid (∀ a, Near b n1 a → difL b a = l.length → false = true ∧ ([] : List UInt8) = a) := fun a ha hd => by
          obtain ⟨e1, e2⟩ := HON2.out a ha hd
          have := (HTWO.out a false x ha e2 (by rw [← e1]; exact HS5.out)).1
          cases this
        clear HTWO HFI HS5 HON2
        go_wp2_with fail
        go_ret2
        exact ⟨none, 0, 0, false, [], rfl, Lib.hid rfl, Nat.le_refl _, Rd.nil, hB, (fun e => by cases e), HRES.out⟩
      | true =>
        have hx0 : x.length = l.length := (HS5.out.1 rfl).1
        have em5 : m5 = l.length := by rw [← HX5.out]; exact hx0
        subst em5
        have HTW2 : Hid (∀ a, Near b n1 a → difL b a = l.length → outL b at_ x l.length = a) := fun a ha hd => by
          obtain ⟨e1, e2⟩ := HON2.out a ha hd
          rw [e1]
          exact (HTWO.out a true x ha e2 (by rw [← e1]; exact HS5.out)).2
        have HXL := Lib.hid hx0
        clear hx0 HTWO HON2 HS5
        have hown0 : (w5.alloc (.cells #[] 5)).ownsRow w5.heap.size 5 1 (.slice (some ⟨w5.heap.size, 0, none⟩) 0 0) 0 [] := World.ownsRow_made w5 #[] 0 (Nat.le_refl _) (by unfold maxLen; omega) rfl
        have hB0 := below_new (Below.refl _ w5) (.cells #[] 5)
        have hr0 := hr.keep hB0
        go_wp2_with (at_builtin; refine wpList_append_rd _ rfl (.tmp 44) (.tmp 45) 22 rfl w5.heap.size 5 i0 (.int .u8 0) 1 Tryz.underlying22 hi hz0 hz1 hz2 rfl _ _ _ rfl hown0 A b c rfl hr0 vB_one (by unfold maxLen; omega) (by omega) (by simp) ?_; intro v6 w6 hown6 hgrow6)
        rw [Nat.zero_add, List.nil_append] at hown6
        have hb6 : Below w5.heap.size w5 w6 := hB0.grown hgrow6 (by simp) (fun k hk => (hown0.lt k hk).1)
        obtain ⟨A6, c6, rfl, hc6⟩ := own_form hown6
        obtain ⟨g6, rfl, hg6, hcel6⟩ := cel_of_own hown6 rfl (by omega)
        clear hown0 hB0 hr0 hown6 hgrow6
        have HST : Hid (TryR b at_ x l.length g6 w5 (.int .i64 0) w6) := ⟨0, Nat.zero_le _, rfl, hcel6, hb6⟩
        clear hcel6 hb6
        go_wp2_with fail
        go_loopw [14] (fun iv wx => TryR b at_ x l.length g6 w5 iv wx) (fun iv _ => l.length - (intOf iv).toNat)
        case atStart => exact HST.out
        case round =>
          clear HST
          obtain ⟨i, hi1, rfl, hcel, hbx⟩ := hrel
          have HOL := Lib.hid (out_length b at_ x i)
          by_cases hil : i < l.length
          · have j1 : (i : Int) < (l.length : Int) := by omega
            have j0 : (0 : Int) ≤ (i : Int) := by omega
            have hia : i < at_.length := by rw [HN4.out]; exact hil
            have hix : i < x.length := by rw [HXL.out]; exact hil
            obtain ⟨ba, oa, rfl, hba, hca⟩ := hr4.at hia
            obtain ⟨bx, ox, rfl, hbx5, hcx⟩ := hr5.at hix
            have hc1 : wr.cell? ⟨ba, oa + i, none⟩ = some (.int .i64 ((at_[i] : Nat) : Int)) := (hbx.cell (p := ⟨ba, oa + i, none⟩) hba).trans (hca i hia)
            have hc2 : wr.cell? ⟨bx, ox + i, none⟩ = some (.int .u8 (x[i].toNat : Int)) := (hbx.cell (p := ⟨bx, ox + i, none⟩) hbx5).trans (hcx i hix)
            have hka := HRL.out at_[i] (List.getElem_mem hia)
            have HSTEP : Hid (outL b at_ x (i + 1) = (outL b at_ x i).set (b.length - 1 - at_[i]) (addB (co (outL b at_ x i) (b.length - 1 - at_[i])) x[i])) := by
              unfold Hid
              rw [outL, ← co_lt x i hix]
              simp [List.getD_eq_getElem?_getD, hia]
            generalize at_[i] = k at hc1 hka HSTEP
            generalize x[i] = z at hc2 HSTEP
            obtain ⟨q, hq⟩ : ∃ q, q = b.length - 1 - k := ⟨_, rfl⟩
            rw [← hq] at HSTEP
            have q1 : (b.length : Int) - 1 - (k : Int) = (q : Int) := by omega
            have q2 : (0 : Int) ≤ (q : Int) := by omega
            have hw1 : IntKind.i64.wrap ((b.length : Int) - 1) = (b.length : Int) - 1 := by rw [IntKind.wrap_i64]; omega
            have hw3 : IntKind.i64.wrap (q : Int) = (q : Int) := by rw [IntKind.wrap_i64]; omega
            have q3 : (q : Int) < (b.length : Int) := by omega
            have hqT : q < (outL b at_ x i).length := by rw [HOL.out]; omega
            have HNX : Hid (∀ W, Cel W g6 5 (outL b at_ x (i + 1)) → Below w5.heap.size w5 W → TryR b at_ x l.length g6 w5 (.int .i64 ((i : Int) + 1)) W) := fun W t1 t2 => ⟨i + 1, hil, by go_num, t1, t2⟩
            generalize outL b at_ x (i + 1) = T1 at HSTEP HNX
            generalize outL b at_ x i = T at hcel hqT HSTEP HOL
            have hcq := hcel.get q hqT
            have hfq := hcel.frozen q
            have hxq := u8_xor_b (co T q) z
            have exz : xorB (co T q) z = addB (co T q) z := rfl
            rw [exz] at hxq
            have hcs := hcel.drew.set q (addB (co T q) z)
            rw [← HSTEP.out] at hcs
            generalize addB (co T q) z = u at hxq hcs
            have HREL := Lib.hid (HNX.out _ hcs (hbx.drew.setCell (p := ⟨g6, q, none⟩) hg6 _))
            generalize co T q = y at hcq hxq
            clear hcs HNX HSTEP HOL hcel hbx hca hcx hq exz HRL HFI HTW2 hr hr4 hr5
            go_upto_region 15 with fail
            refine wp_region_still_tail 26 (by kernel_rfl) (by kernel_rfl) ?_
            simp only [List.take_succ_cons, List.take_zero, List.drop_succ_cons, List.drop_zero]
            iterate 26 still_step
            refine wpStill_nil ?_
            change wpList _ _ _ _ _ wr.drew
            go_wp2_with fail
            go_roundw
            case rel => exact HREL.out
            case measure => simp [intOf] <;> omega
          · have ei : i = l.length := by omega
            subst ei
            have j1 : ¬ (l.length : Int) < (l.length : Int) := by omega
            generalize outL b at_ x l.length = T at hcel HOL HTW2
            have hrT := hcel.rd
            have hBx := below_step hB hbx
            have hfin := reffine_any T b.length (n1 : Int) (some ⟨g6, 0, none⟩) c6 wr HOL hrT (by omega)
            obtain ⟨F, hF⟩ : ∃ F, fineS T (n1 : Int) = F := ⟨_, rfl⟩
            have hiff := HFI.out T HOL.out
            have hfa : ∀ a, Near b n1 a → difL b a = l.length → F = true ∧ T = a := fun a ha hd => by
              have e1 := HTW2.out a ha hd
              refine ⟨?_, e1⟩
              rw [← hF, hiff, e1]
              exact ha.2.1
            rw [hF] at hfin hiff
            have HFIN := Lib.hid hfin
            have HRES : Hid ((F = true → T.length = b.length ∧ fineP T n1) ∧ ∀ a, Near b n1 a → difL b a = l.length → F = true ∧ T = a) := ⟨fun e => ⟨HOL.out, hiff.1 e⟩, hfa⟩
            clear hfin hiff hfa hF hcel hbx HRL HFI HTW2 hr hr4 hr5 hB
            go_wp2_with fail
            refine HFIN.out.mono ?_
            rintro e w7 ⟨rfl, hb7⟩
            have hB7 := below_step hBx hb7
            have hr7 := hrT.keep hb7
            go_wp2_with fail
            go_ret2
            exact ⟨_, b.length, c6, F, T, rfl, HOL.out, hc6, hr7, hB7, HRES.out⟩
    · have HRES : Hid (∀ a, Near b n1 a → difL b a = l.length → false = true ∧ ([] : List UInt8) = a) := fun a ha hd => by
        obtain ⟨e1, e2⟩ := HON2.out a ha hd
        rw [← e1, HN4.out] at e2
        exact absurd e2 hav
      have hav2 : ((n4 : Int) != (l.length : Int)) = true := bne_iff_ne.2 (by omega)
      clear HTWO HFI HON2 HRL
      go_wp2_with fail
      go_ret2
      exact ⟨none, 0, 0, false, [], rfl, Lib.hid rfl, Nat.le_refl _, Rd.nil, hB, (fun e => by cases e), HRES.out⟩
end Go.Proofs.YteppocjgodmpdaaGreatDoor
/-
  Counting in how many places two are unlike, place by place. No conditions but those typed.
-/
namespace Go.Proofs.YteppocjgodmpdaaGreatDoor
set_option maxRecDepth 100000
open Go.RowKit
set_option linter.unusedSimpArgs false
set_option linter.unusedVariables false

theorem dif_take (a b : List UInt8) (hl : a.length = b.length) (j : Nat) (h : j < a.length) : difL (a.take (j + 1)) (b.take (j + 1)) = difL (a.take j) (b.take j) + (if co a j = co b j then 0 else 1) := by
  unfold difL
  rw [← List.take_zipWith, ← List.take_zipWith, wt_take _ _ (by rw [List.length_zipWith]; omega), co_zip _ _ _ h (by omega)]
  congr 1
  by_cases e : co a j = co b j
  · rw [if_pos e, if_pos (by rw [e, add_self])]
  · rw [if_neg e, if_neg (fun h0 => e (add_zero_eq h0))]
def CntR (a b : List UInt8) (wb : World) (pv kv : Value) (wr : World) : Prop :=
  ∃ j : Nat, j ≤ a.length ∧ kv = .int .i64 (j : Int) ∧ pv = .int .i64 ((difL (a.take j) (b.take j) : Nat) : Int) ∧ Below wb.heap.size wb wr
theorem cnt_round {X y : List UInt8} {q : Nat} (HY : y.length = X.length) (h255 : X.length ≤ 255) (hq : q < X.length) {wb wr : World} {gs os gy : Nat} (hgs : gs < wb.heap.size)
    (hcs : ∀ i (hi : i < X.length), wb.cell? ⟨gs, os + i, none⟩ = some (vB X[i])) (hry : Rd vB wb (some ⟨gy, 0, none⟩) y) (hb : Below wb.heap.size wb wr) :
    wr.cell? ⟨gs, os + q, none⟩ = some (.int .u8 (X[q].toNat : Int)) ∧ wr.cell? ⟨gy, q, none⟩ = some (.int .u8 ((y[q]'(by rw [HY]; exact hq)).toNat : Int)) ∧
    ((X[q] = y[q]'(by rw [HY]; exact hq) → difL (X.take (q + 1)) (y.take (q + 1)) = difL (X.take q) (y.take q)) ∧
      (X[q] ≠ y[q]'(by rw [HY]; exact hq) → ((difL (X.take q) (y.take q) : Nat) : Int) + 1 = ((difL (X.take (q + 1)) (y.take (q + 1)) : Nat) : Int)) ∧
      difL (X.take (q + 1)) (y.take (q + 1)) ≤ 255 ∧
      ∀ nq, CntR X y wb (.int .i64 ((difL (X.take (q + 1)) (y.take (q + 1)) : Nat) : Int)) (.int .i64 ((q : Int) + 1)) (wr.drewN nq)) := by
  have hqy : q < y.length := by rw [HY]; exact hq
  obtain ⟨gb, ob, e, hgb, hcb⟩ := hry.at (k := q) hqy
  have e1 : gb = gy := by injection e with e; injection e with e _; exact e.symm
  have e2 : ob = 0 := by injection e with e; injection e with _ e; exact e.symm
  subst e1
  subst e2
  have hdt := dif_take X y HY.symm q hq
  rw [co_lt X q hq, co_lt y q hqy] at hdt
  refine ⟨(hb.cell (p := ⟨gs, os + q, none⟩) hgs).trans (hcs q hq), ?_, fun e => ?_, fun e => ?_, ?_, fun nq => ⟨q + 1, hq, by go_num, rfl, below_drewN hb nq⟩⟩
  · have := (hb.cell (p := ⟨gb, 0 + q, none⟩) hgb).trans (hcb q hqy)
    rw [Nat.zero_add] at this
    exact this
  · rw [hdt, if_pos e, Nat.add_zero]
  · rw [hdt, if_neg e]
    omega
  · have := wt_le (List.zipWith addB (X.take (q + 1)) (y.take (q + 1)))
    rw [List.length_zipWith, List.length_take] at this
    unfold difL
    omega
end Go.Proofs.YteppocjgodmpdaaGreatDoor
/-
  What the reference's call Mend of layer 10 answers. No conditions but those typed.
-/
namespace Go.Proofs.YteppocjgodmpdaaGreatDoor
set_option maxRecDepth 100000
open Go.RowKit
set_option linter.unusedSimpArgs false
set_option linter.unusedVariables false

theorem cnt_round2 {X y : List UInt8} {q : Nat} (HY : y.length = X.length) (h255 : X.length ≤ 255) (hq : q < X.length) {wb wr : World} {gs os gb ob : Nat} (hgs : gs < wb.heap.size) (hgb : gb < wb.heap.size)
    (hcs : ∀ i (hi : i < X.length), wb.cell? ⟨gs, os + i, none⟩ = some (vB X[i])) (hcb : ∀ i (hi : i < y.length), wb.cell? ⟨gb, ob + i, none⟩ = some (vB y[i])) (hb : Below wb.heap.size wb wr) :
    wr.cell? ⟨gs, os + q, none⟩ = some (.int .u8 (X[q].toNat : Int)) ∧ wr.cell? ⟨gb, ob + q, none⟩ = some (.int .u8 ((y[q]'(by rw [HY]; exact hq)).toNat : Int)) ∧
    ((X[q] = y[q]'(by rw [HY]; exact hq) → difL (X.take (q + 1)) (y.take (q + 1)) = difL (X.take q) (y.take q)) ∧
      (X[q] ≠ y[q]'(by rw [HY]; exact hq) → ((difL (X.take q) (y.take q) : Nat) : Int) + 1 = ((difL (X.take (q + 1)) (y.take (q + 1)) : Nat) : Int)) ∧
      difL (X.take (q + 1)) (y.take (q + 1)) ≤ 255 ∧
      ∀ nq, CntR X y wb (.int .i64 ((difL (X.take (q + 1)) (y.take (q + 1)) : Nat) : Int)) (.int .i64 ((q : Int) + 1)) (wr.drewN nq)) := by
  have hqy : q < y.length := by rw [HY]; exact hq
  have hdt := dif_take X y HY.symm q hq
  rw [co_lt X q hq, co_lt y q hqy] at hdt
  refine ⟨(hb.cell (p := ⟨gs, os + q, none⟩) hgs).trans (hcs q hq), (hb.cell (p := ⟨gb, ob + q, none⟩) hgb).trans (hcb q hqy), fun e => ?_, fun e => ?_, ?_, fun nq => ⟨q + 1, hq, by go_num, rfl, below_drewN hb nq⟩⟩
  · rw [hdt, if_pos e, Nat.add_zero]
  · rw [hdt, if_neg e]
    omega
  · have := wt_le (List.zipWith addB (X.take (q + 1)) (y.take (q + 1)))
    rw [List.length_zipWith, List.length_take] at this
    unfold difL
    omega
/-- A call that hands back bytes, how many places, and an error's number. -/
def RetM2 (w : World) (s : List UInt8 × Nat × Int) (e : Ending) (w' : World) : Prop := ∃ A n c, e = .returned (.tuple #[.slice A n c, .int .i64 (s.2.1 : Int), .int .i64 s.2.2]) ∧ Hid (s.1.length = n) ∧ n ≤ c ∧ Rd vB w' A s.1 ∧ Below w.heap.size w w'
def MenR (b : List UInt8) (n M : Nat) (w : World) (kv : Value) (wr : World) : Prop :=
  ∃ v : Nat, v ≤ M ∧ kv = .int .i64 (v : Int) ∧ Hid (∀ a, Near b n a → difL b a ≤ v) ∧ Below w.heap.size w wr
set_option maxRecDepth 100000 in
set_option maxHeartbeats 4000000 in
theorem refmend_ok (b : List UInt8) (len n : Nat) (A : Option Addr) (c : Nat) (w : World) (HN : Hid (b.length = len)) (hr : Rd vB w A b) (h1 : 1 ≤ n) (h2 : n ≤ 64) (h3 : n ≤ len) (h4 : len ≤ 255) :
    Calls Tryz.prog 78 #[.slice A len c, .int .i64 (n : Int)] w (RetM2 w (mendS b n)) := by
  obtain ⟨i0, hi, hz0, hz1, hz2⟩ := info_parts info_u8
  have e0 := HN.out
  subst e0
  have hE : errS b.length n = 0 := by unfold errS; rw [if_neg (by omega), if_neg (by omega), if_neg (by omega)]
  have HE := Lib.hid (fun W => referror_any b.length (n : Int) A c W (by omega))
  rw [hE] at HE
  have HNear : Hid (∀ a, Near b n a → mendS b n = (a, difL b a, 0)) := fun a ha => mendS_near hE h4 ha
  have HMany : Hid ((∀ a, ¬ Near b n a) → mendS b n = ([], 0, 6)) := fun ha => mendS_many hE ha
  have HFB := Lib.hid (fineS_iff b n h1 h2 h3 h4)
  generalize mendS b n = R at HNear HMany ⊢
  clear hE
  obtain ⟨F, hF⟩ : ∃ F, fineS b (n : Int) = F := ⟨_, rfl⟩
  have HFI := Lib.hid (fun W (hW : Rd vB W A b) => reffine_any b b.length (n : Int) A c W (Lib.hid rfl) hW (by omega))
  rw [hF] at HFI HFB
  clear hF
  go_enter Tryz.func78, Tryz.ntmps78
  go_wp2_with fail
  refine (HE.out _).mono ?_
  rintro e w1 ⟨rfl, rfl⟩
  clear HE
  go_wp2_with fail
  refine (HFI.out _ hr).mono ?_
  rintro e w1 ⟨rfl, hb1⟩
  replace hr := hr.keep hb1
  have hB := hb1
  clear hb1 HFI
  cases F with
  | true =>
    have HRR : Hid (R = (b, 0, 0)) := by
      have := HNear.out b (near_self (HFB.out.1 rfl))
      rw [dif_self] at this
      exact this
    clear HNear HMany HFB
    have hown0 : (w1.alloc (.cells #[] 5)).ownsRow w1.heap.size 5 1 (.slice (some ⟨w1.heap.size, 0, none⟩) 0 0) 0 [] := World.ownsRow_made w1 #[] 0 (Nat.le_refl _) (by unfold maxLen; omega) rfl
    have hB0 := below_new (Below.refl _ w1) (.cells #[] 5)
    have hr0 := hr.keep hB0
    go_wp2_with (at_builtin; refine wpList_append_rd _ rfl (.tmp 22) (.tmp 23) 22 rfl w1.heap.size 5 i0 (.int .u8 0) 1 Tryz.underlying22 hi hz0 hz1 hz2 rfl _ _ _ rfl hown0 A b c rfl hr0 vB_one (by unfold maxLen; omega) (by omega) (by simp) ?_; intro v6 w6 hown6 hgrow6; (have hown7 : w6.ownsRow w1.heap.size 5 1 v6 b.length (b.map vB) := by rw [Nat.zero_add, List.nil_append] at hown6; exact hown6); obtain ⟨A6, c6, rfl, hc6⟩ := own_form hown7)
    have hb6 : Below w1.heap.size w1 w6 := hB0.grown hgrow6 (by simp) (fun k hk => (hown0.lt k hk).1)
    have hr6 := Rd.own hown7
    have hB6 := below_step hB hb6
    go_ret3
    rw [HRR.out]
    exact ⟨A6, b.length, c6, rfl, Lib.hid rfl, hc6, hr6, hB6⟩
  | false =>
    have hm2 : (n : Int).tdiv 2 = ((n / 2 : Nat) : Int) := by rw [Int.tdiv_eq_ediv_of_nonneg (by omega)]; omega
    have hm3 : IntKind.i64.wrap ((n / 2 : Nat) : Int) = ((n / 2 : Nat) : Int) := by rw [IntKind.wrap_i64]; omega
    obtain ⟨M, hM⟩ : ∃ M, n / 2 = M := ⟨_, rfl⟩
    rw [hM] at hm2 hm3
    have HMM := Lib.hid hM
    have hMn : 2 * M ≤ n := by omega
    have hM32 : M ≤ 32 := by omega
    clear hM
    go_wp2_with fail
    go_loopw [8] (fun kv wr => MenR b n M w1 kv wr) (fun kv _ => (intOf kv).toNat)
    case atStart => exact ⟨M, Nat.le_refl _, rfl, fun a ha => by rw [← HMM.out]; exact ha.2.2, Below.refl _ _⟩
    case round =>
      obtain ⟨v, hv, rfl, HV, hbr⟩ := hrel
      replace hr := hr.keep hbr
      by_cases hv0 : 0 < v
      · have v1 : (0 : Int) < (v : Int) := by omega
        obtain ⟨wa, hwa⟩ : ∃ wa, wa = wr := ⟨_, rfl⟩
        subst hwa
        go_wp2_with fail
        refine (reftry_any b b.length n v A c wa (Lib.hid rfl) hr h1 h2 h3 h4 hv0 (by omega)).mono ?_
        rintro e w3 ⟨A3, m3, c3, ok, x, rfl, HX, hc3, hr3, hb3, HT⟩
        replace hr := hr.keep hb3
        have hb13 := below_step hbr hb3
        clear hbr hb3
        have hvw : IntKind.i64.wrap ((v : Int) - 1) = (v : Int) - 1 := by rw [IntKind.wrap_i64]; omega
        cases ok with
        | false =>
          have HREL : Hid (MenR b n M w1 (.int .i64 ((v : Int) - 1)) w3) := ⟨v - 1, by omega, by rw [show (v : Int) - 1 = ((v - 1 : Nat) : Int) by omega], fun a ha => by
            have h5 := HV.out a ha
            by_cases e : difL b a = v
            · have := (HT.out.2 a ha e).1
              cases this
            · omega, hb13⟩
          clear HV HT hr3 HNear HMany HFB
          go_wp2_with fail
          go_roundw
          case rel => exact HREL.out
          case measure => simp [intOf] <;> omega
        | true =>
          obtain ⟨hxl, hxf⟩ := HT.out.1 rfl
          have em3 : m3 = b.length := by rw [← HX.out]; exact hxl
          subst em3
          go_wp2_with fail
          go_loopw [11, 12] (fun p kv wx => CntR b x w3 p kv wx) (fun _ kv _ => b.length - (intOf kv).toNat)
          case atStart => exact ⟨0, Nat.zero_le _, rfl, rfl, Below.refl _ _⟩
          case round =>
            obtain ⟨q, hq, rfl, rfl, hbq⟩ := hrel
            by_cases hql : q < b.length
            · have k1 : (q : Int) < (b.length : Int) := by omega
              have k0 : (0 : Int) ≤ (q : Int) := by omega
              obtain ⟨gs, os, rfl, hgs, hcs⟩ := hr.at hql
              obtain ⟨gb, ob, rfl, hgb, hcb⟩ := hr3.at (k := q) (by rw [hxl]; exact hql)
              obtain ⟨hc1, hc2', HR⟩ := cnt_round2 hxl (by omega) hql hgs hgb hcs hcb hbq
              generalize b[q] = y at hc1 HR
              generalize x[q]'(by rw [hxl]; exact hql) = z at hc2' HR
              generalize difL (b.take (q + 1)) (x.take (q + 1)) = P1 at HR
              generalize difL (b.take q) (x.take q) = P0 at HR ⊢
              have HRR := Lib.hid HR
              clear HR hcs hcb hgs hgb hbq HV HT HNear HMany HFB hr hr3
              by_cases exy : y = z
              · subst exy
                have hP := HRR.out.1 rfl
                subst hP
                have HR3 := Lib.hid HRR.out.2.2.2
                clear HRR
                go_upto_region 15 with fail
                go_quiet (fail)
                go_wp2_with fail
                go_roundw
                case rel => exact HR3.out _
                case measure => simp [intOf] <;> omega
              · have hne : ((y.toNat : Int) != (z.toNat : Int)) = true := bne_iff_ne.2 (fun e => exy (UInt8.toNat_inj.1 (by omega)))
                have hP := HRR.out.2.1 exy
                have hP1 := HRR.out.2.2.1
                have HR3 := Lib.hid HRR.out.2.2.2
                clear HRR
                go_upto_region 15 with fail
                go_quiet (fail)
                go_wp2_with fail
                go_roundw
                case rel => exact HR3.out _
                case measure => simp [intOf] <;> omega
            · have eq : q = b.length := by omega
              subst eq
              have k1 : ¬ (b.length : Int) < (b.length : Int) := by omega
              have hDD : difL (b.take b.length) (x.take b.length) = difL b x := by rw [List.take_length, ← hxl, List.take_length]
              rw [hDD]
              have hD255 : difL b x ≤ 255 := by
                have := wt_le (List.zipWith addB b x)
                rw [List.length_zipWith] at this
                unfold difL
                omega
              obtain ⟨D, hD⟩ : ∃ D, difL b x = D := ⟨_, rfl⟩
              rw [hD] at hD255 ⊢
              have HD := Lib.hid hD
              have hr3' := hr3.keep hbq
              have hbz := below_step hb13 hbq
              clear hbq hDD hD hr hr3 hb13
              by_cases hDM : D ≤ M
              · have d1 : (D : Int) ≤ (M : Int) := by omega
                have HRR : Hid (R = (x, D, 0)) := by
                  have := HNear.out x ⟨hxl, hxf, by rw [HD.out, HMM.out]; exact hDM⟩
                  rw [HD.out] at this
                  exact this
                have hBz := below_step hB hbz
                clear HNear HMany HFB HV HT HD hbz hB
                go_wp2_with fail
                go_ret3
                rw [HRR.out]
                exact ⟨A3, b.length, c3, rfl, HX.out, hc3, hr3', hBz⟩
              · have d1 : ¬ (D : Int) ≤ (M : Int) := by omega
                have HREL : Hid (MenR b n M w1 (.int .i64 ((v : Int) - 1)) wr) := ⟨v - 1, by omega, by rw [show (v : Int) - 1 = ((v - 1 : Nat) : Int) by omega], fun a ha => by
                  have h5 := HV.out a ha
                  by_cases e : difL b a = v
                  · have h6 := (HT.out.2 a ha e).2
                    have h7 := HD.out
                    rw [h6] at h7
                    omega
                  · omega, hbz⟩
                clear HNear HMany HFB HV HT HD hbz hB
                go_wp2_with fail
                go_roundw
                case rel => exact HREL.out
                case measure => simp [intOf] <;> omega
      · have ev : v = 0 := by omega
        subst ev
        have HRR : Hid (R = ([], 0, 6)) := HMany.out fun a ha => by
          have h5 := HV.out a ha
          have h6 := dif_zero ha.1.symm (by omega)
          have h7 := HFB.out.2 (h6 ▸ ha.2.1)
          cases h7
        have hBz := below_step hB hbr
        clear HNear HMany HFB HV hbr hB
        go_wp2_with fail
        go_ret3
        rw [HRR.out]
        exact ⟨none, 0, 0, rfl, Lib.hid rfl, Nat.le_refl _, Rd.nil, hBz⟩
theorem refmend_no (b : List UInt8) (len : Nat) (n : Int) (A : Option Addr) (c : Nat) (w : World) (HN : Hid (b.length = len)) (hr : Rd vB w A b) (hl : len ≤ 100000) (h : errS len n ≠ 0) :
    Calls Tryz.prog 78 #[.slice A len c, .int .i64 n] w (RetM2 w (mendS b n)) := by
  have HE := Lib.hid (fun W => referror_any len n A c W (by omega))
  have HRR : Hid (mendS b n = ([], 0, errS len n)) := by
    have := mendS_bad (b := b) (n := n) (by rw [HN.out]; exact h)
    rw [HN.out] at this
    exact this
  generalize errS len n = k at HE HRR h
  have hk : (k != 0) = true := bne_iff_ne.2 h
  clear h
  go_enter Tryz.func78, Tryz.ntmps78
  go_wp2_with fail
  refine (HE.out _).mono ?_
  rintro e w1 ⟨rfl, rfl⟩
  go_wp2_with fail
  go_ret3
  rw [HRR.out]
  exact ⟨none, 0, 0, rfl, Lib.hid rfl, Nat.le_refl _, Rd.nil, Below.refl _ _⟩
theorem refmend_any (b : List UInt8) (len : Nat) (n : Int) (A : Option Addr) (c : Nat) (w : World) (HN : Hid (b.length = len)) (hr : Rd vB w A b) (hl : len ≤ 100000) :
    Calls Tryz.prog 78 #[.slice A len c, .int .i64 n] w (RetM2 w (mendS b n)) := by
  by_cases h : errS len n = 0
  · obtain ⟨m, rfl, h1, h2, h3, h4⟩ := errS_cases len n h
    exact refmend_ok b len m A c w HN hr h1 h2 h3 h4
  · exact refmend_no b len n A c w HN hr hl h
end Go.Proofs.YteppocjgodmpdaaGreatDoor
/-
  What the reference's calls of layer 13 answer (Make, Read). No conditions but those typed.
-/
namespace Go.Proofs.YteppocjgodmpdaaGreatDoor
set_option maxRecDepth 100000
open Go.RowKit
set_option linter.unusedSimpArgs false
set_option linter.unusedVariables false

set_option maxHeartbeats 4000000 in
theorem refmakeB_any (t e c : Nat) (tag : List UInt8) (A : Option Addr) (k : Nat) (w : World) (ht : t < 18446744073709551616) (he : e < 18446744073709551616) (hc : c < 18446744073709551616) (HN : Hid (tag.length = 8)) (hr : Rd vB w A tag) :
    Calls Tryz.prog 33 #[aggP t e c A 8 k] w (RetZ w (barL t e c tag)) := by
  obtain ⟨hR0, hB0⟩ := box_pay w 77 (.int .u64 (t : Int)) (.int .u64 (e : Int)) (.int .u64 (c : Int)) (.slice A 8 k)
  unfold aggP
  go_enter Tryz.func33, Tryz.ntmps33
  go_upto_region 1 with fail
  generalize (w.alloc (.cells #[.int .u64 (t : Int), .int .u64 (e : Int), .int .u64 (c : Int), .slice A 8 k] 77)) = W0 at hR0 hB0 ⊢
  replace hr := hr.keep hB0
  go_wp2_with (refine wpList_load_part rfl 77 (.tmp 1) rfl w.heap.size 0 rfl _ _ hR0 (cellsP t e c A 8 k) (by rfl) _ Tryz.underlying77 rfl (by exact size_pay') ?_)
  refine (refwriteF_any t e c tag 8 A k _ ht he hc HN hr (by omega)).mono ?_
  rintro e₁ w1 ⟨A1, n1, c1, rfl, HN1, hc1, hr1, hb⟩
  have HL := Lib.hid (stuffed_length (t := t) (e := e) (c := c) HN.out)
  have HW := Lib.hid (write_length t e c tag HN.out)
  replace hB0 := below_step hB0 hb
  clear hb hR0 hr ht he hc
  go_wp2_with fail
  refine (refputSt_any (writeF t e c tag) n1 A1 c1 _ HN1 hr1 (by have := HW.out; have := HN1.out; omega)).mono ?_
  rintro e₁ w3 ⟨A3, n3, c3, rfl, HN3, hc3, hr3, hb⟩
  replace hB0 := below_step hB0 hb
  clear hb hr1
  go_wp2_with fail
  refine (refputS_any (putSt (writeF t e c tag)) n3 10 A3 c3 _ HN3 hr3 (by omega) (by omega) (by have := HL.out; have := HN3.out; omega)).mono ?_
  rintro e₁ w4 ⟨A4, n4, c4, rfl, HN4, hc4, hr4, hb⟩
  replace hB0 := below_step hB0 hb
  clear hb hr3
  go_wp2_with fail
  go_ret
  exact ⟨A4, n4, c4, rfl, HN4, hc4, hr4, hB0⟩

theorem results_cell_tmp3 {fn : Func} {p u v x : Tmp} {ty : TypeId} (h : fn.results = #[.cell p ty, .tmp u, .tmp v, .tmp x]) (tmps : Array Value) (P : Program) (w : World) :
    (results fn tmps).run P w = ((asAddr (tmps.getD p undef)).run P w).andThen fun a w₁ => ((loadVar ty a).run P w₁).andThen fun y w₂ => .ok (.tuple #[y, tmps.getD u undef, tmps.getD v undef, tmps.getD x undef]) w₂ := by
  simp only [results, h]
  simp [Sem.run_bind, Result.andThen]
theorem results_row_tmp3 {P : Program} {fn : Func} {p u v x : Tmp} {ty : TypeId} (h : fn.results = #[.cell p ty, .tmp u, .tmp v, .tmp x]) (tmps : Array Value) (w : World) (g : Nat) (t : TypeId) (l : List Value) (d : TypeDesc) (hp : tmps.getD p undef = .pointer (some ⟨g, 0, none⟩)) (hg : Row w g t l)
    (hu : P.underlying ty = some d) (hd : d.isRow = true) (hi : (P.info? ty).map (·.size) = some l.length) : (results fn tmps).run P w = .ok (.tuple #[.agg l.toArray, tmps.getD u undef, tmps.getD v undef, tmps.getD x undef]) w := by
  rw [results_cell_tmp3 h, hp]
  simp only [asAddr, Sem.run_pure, Result.andThen_ok, hg.loadVar (P := P) ty d hu hd hi]
/-- The reference hands back the payload, the places, the step and the code. -/
def RetRB (w : World) (X : (Int × Nat × Nat × Nat × List UInt8) × Nat × Int) (e : Ending) (w' : World) : Prop :=
  ∃ A n k, e = .returned (.tuple #[aggP X.1.2.1 X.1.2.2.1 X.1.2.2.2.1 A n k, .int .i64 (X.2.1 : Int), .int .i64 X.2.2, .int .i64 X.1.1]) ∧ Hid (X.1.2.2.2.2.length = n) ∧ n ≤ k ∧ Rd vB w' A X.1.2.2.2.2 ∧ Below w.heap.size w w'
theorem retrb_no {w w' : World} {X : (Int × Nat × Nat × Nat × List UInt8) × Nat × Int} {s k : Int} (hX : Hid (X = ((k, 0, 0, 0, []), 0, s))) (hb : Below w.heap.size w w') : RetRB w X (.returned (.tuple #[aggP 0 0 0 none 0 0, .int .i64 0, .int .i64 s, .int .i64 k])) w' := by
  rw [hX.out]
  exact ⟨none, 0, 0, rfl, Lib.hid rfl, Nat.le_refl _, Rd.nil, hb⟩
set_option maxHeartbeats 8000000 in
theorem refreadB_any (b : List UInt8) (len : Nat) (A : Option Addr) (c : Nat) (w : World) (HN : Hid (b.length = len)) (hr : Rd vB w A b) (hc : len ≤ c) (hl : len ≤ 10000) :
    Calls Tryz.prog 35 #[.slice A len c] w (RetRB w (barsL b)) := by
  obtain ⟨X, hX⟩ : ∃ X, barsL b = X := ⟨_, rfl⟩
  rw [hX]
  replace hX := Lib.hid hX
  obtain ⟨hR0, hB0⟩ := box_pay w 77 (.int .u64 0) (.int .u64 0) (.int .u64 0) (.slice none 0 0)
  go_enter Tryz.func35, Tryz.ntmps35
  go_upto_region 1 with fail
  generalize (w.alloc (.cells #[.int .u64 0, .int .u64 0, .int .u64 0, .slice none 0 0] 77)) = W0 at hR0 hB0 ⊢
  replace hr := hr.keep hB0
  go_wp2_with fail
  refine (refmend_any b len 10 A c W0 HN hr (by omega)).mono ?_
  obtain ⟨m, pl, k, hS⟩ : ∃ m pl k, mendS b 10 = (m, pl, k) := ⟨_, _, _, rfl⟩
  rw [hS]
  rintro e₁ w1 ⟨A1, n1, c1, rfl, HN1, hc1, hr1, hb⟩
  dsimp only at HN1 hr1 ⊢
  have HS := Lib.hid hS
  have HM := Lib.hid (mend_length b)
  clear hS
  replace hR0 := hR0.later hb
  replace hB0 := below_step hB0 hb
  clear hb hr
  go_upto_region 2 with fail
  by_cases hk : k = 0
  · subst hk
    obtain ⟨hm1, hm2, hm3⟩ : 10 ≤ n1 ∧ n1 = len ∧ len ≤ 255 := by
      have := HM.out (by rw [HS.out])
      rw [HS.out, HN.out] at this
      dsimp only at this
      rw [HN1.out] at this
      exact this
    obtain ⟨n2, rfl⟩ : ∃ n2, n1 = n2 + 10 := ⟨n1 - 10, by omega⟩
    have HX : Hid (X = gotL (dataL m) pl) := by
      unfold Hid
      rw [← hX.out]
      unfold barsL
      rw [HS.out, if_pos rfl]
    have HD : Hid ((dataL m).length = n2) := by
      unfold Hid dataL
      rw [List.length_take, HN1.out]
      omega
    have h2 : n2 ≤ 245 := by omega
    replace hr1 := data_rd hr1
    clear hX HM HS hm1 hm2 hm3 HN1
    generalize dataL m = d at HX HD hr1
    go_wp2_with fail
    refine (refgetT_any d n2 A1 c1 _ HD hr1 (by omega) (by omega)).mono ?_
    by_cases hq : putSt (candL d) = d
    · have HG : Hid (X = if (readF (candL d)).1 = 0 then (readF (candL d), pl, 0) else (readF (candL d), 0, 3)) := by
        unfold Hid
        rw [HX.out]
        unfold gotL
        rw [if_pos hq]
      have HL : Hid ((candL d).length ≤ n2) := by
        have := (put_length (candL d)).1
        rw [hq, HD.out] at this
        exact this
      rw [if_pos hq, decide_eq_true hq]
      rintro e₁ w3 ⟨A3, n3, c3, rfl, HN3, hc3, hr3, hb⟩
      replace hR0 := hR0.later hb
      replace hB0 := below_step hB0 hb
      clear hb hr1 HX
      have h3 : n3 ≤ 245 := by have := HL.out; rw [HN3.out] at this; omega
      generalize candL d = q at HG HL HN3 hr3
      clear hq HD HL
      go_wp2_with fail
      refine (refreadF_any q n3 A3 c3 _ HN3 hr3 hc3 (by omega)).mono ?_
      obtain ⟨k5, t, e, c', tag, hF⟩ : ∃ k t e c tag, readF q = (k, t, e, c, tag) := ⟨_, _, _, _, _, rfl⟩
      have hbad : k5 ≠ 0 → (t = 0 ∧ e = 0 ∧ c' = 0 ∧ tag = []) := fun h => by
        have := readF_bad q (by rw [hF]; exact h)
        rw [hF] at this
        simpa using this
      rw [hF] at HG ⊢
      rintro e₁ w5 ⟨A5, n5, c5, rfl, HN5, hc5, hr5, hb⟩
      dsimp only at HN5 hr5 HG ⊢
      replace hR0 := hR0.later hb
      replace hB0 := below_step hB0 hb
      clear hb hr3 hF HN3
      have hRn : Row (w5.alloc (.cells #[.int .u64 0, .int .u64 0, .int .u64 0, .slice none 0 0] 77)) w5.heap.size 77 [.int .u64 0, .int .u64 0, .int .u64 0, .slice none 0 0] := Row.new w5 _ _ _ rfl
      go_upto_region 8 with (refine wpList_store_row rfl 77 (.tmp 11) (.tmp 37) rfl w5.heap.size rfl [.int .u64 (t : Int), .int .u64 (e : Int), .int .u64 (c' : Int), .slice A5 n5 c5] rfl _ _ hRn (by exact size_pay') rfl (one_four _ _ _ _ rfl rfl rfl rfl) ?_)
      have hRp := hRn.setRow [.int .u64 (t : Int), .int .u64 (e : Int), .int .u64 (c' : Int), .slice A5 n5 c5]
      have hb2 : Below w5.heap.size w5 ((w5.alloc (.cells #[.int .u64 0, .int .u64 0, .int .u64 0, .slice none 0 0] 77)).setRow w5.heap.size [.int .u64 (t : Int), .int .u64 (e : Int), .int .u64 (c' : Int), .slice A5 n5 c5].toArray) := below_setRow (below_new (Below.refl _ _) _) (Nat.le_refl _) _
      replace hr5 := hr5.keep hb2
      replace hR0 := hR0.later hb2
      replace hB0 := below_step hB0 hb2
      generalize (w5.alloc (.cells #[.int .u64 0, .int .u64 0, .int .u64 0, .slice none 0 0] 77)).setRow w5.heap.size [.int .u64 (t : Int), .int .u64 (e : Int), .int .u64 (c' : Int), .slice A5 n5 c5].toArray = W6 at hr5 hR0 hB0 hRp ⊢
      generalize w5.heap.size = gp at hRp ⊢
      clear hRn hb2
      by_cases hk5 : k5 = 0
      · subst hk5
        rw [if_pos rfl] at HG
        have hap := pay_apart hR0 hr5
        go_wp2_with (first
          | (refine wpList_load_part rfl 77 (.tmp 11) rfl gp 0 rfl _ _ hRp [.int .u64 (t : Int), .int .u64 (e : Int), .int .u64 (c' : Int), .slice A5 n5 c5] (by rfl) _ Tryz.underlying77 rfl (by exact size_pay') ?_)
          | (refine wpList_store_row rfl 77 (.tmp 2) (.tmp 43) rfl w.heap.size rfl [.int .u64 (t : Int), .int .u64 (e : Int), .int .u64 (c' : Int), .slice A5 n5 c5] rfl _ _ hR0 (by exact size_pay') rfl (one_four _ _ _ _ rfl rfl rfl rfl) ?_))
        refine bodyPost_ret (results_row_tmp3 (p := 2) (u := 3) (v := 4) (x := 5) (ty := 77) (by rfl) _ _ w.heap.size 77 _ _ (by rfl) (by exact hR0.setRow _) Tryz.underlying77 (by rfl) (by exact size_pay')) (by rfl) ?_
        rw [HG.out]
        exact ⟨A5, n5, c5, rfl, HN5, hc5, hr5.only ((Only.refl w.heap.size _).setRow _) hap, below_setRow hB0 (Nat.le_refl _) _⟩
      · obtain ⟨rfl, rfl, rfl, rfl⟩ := hbad hk5
        rw [if_neg hk5] at HG
        have h50 : (k5 == 0) = false := beq_eq_false_iff_ne.2 hk5
        have h51 : (k5 != 0) = true := by rw [bne, h50]; rfl
        go_upto_region 9 with fail
        go_wp2_with (refine wpList_store_row rfl 77 (.tmp 2) (.tmp 41) rfl w.heap.size rfl [.int .u64 0, .int .u64 0, .int .u64 0, .slice none 0 0] rfl _ _ hR0 (by exact size_pay') rfl (one_four _ _ _ _ rfl rfl rfl rfl) ?_)
        refine bodyPost_ret (results_row_tmp3 (p := 2) (u := 3) (v := 4) (x := 5) (ty := 77) (by rfl) _ _ w.heap.size 77 _ _ (by rfl) (by exact hR0.setRow _) Tryz.underlying77 (by rfl) (by exact size_pay')) (by rfl) ?_
        exact retrb_no HG (below_setRow hB0 (Nat.le_refl _) _)
    · have HG : Hid (X = ((3, 0, 0, 0, []), 0, 2)) := by
        unfold Hid
        rw [HX.out]
        unfold gotL
        rw [if_neg hq]
      rw [if_neg hq, decide_eq_false hq]
      rintro e₁ w3 ⟨A3, n3, c3, rfl, HN3, hc3, hr3, hb⟩
      replace hR0 := hR0.later hb
      replace hB0 := below_step hB0 hb
      clear hb hr1 HX
      go_upto_region 6 with fail
      go_wp2_with (refine wpList_store_row rfl 77 (.tmp 2) (.tmp 33) rfl w.heap.size rfl [.int .u64 0, .int .u64 0, .int .u64 0, .slice none 0 0] rfl _ _ hR0 (by exact size_pay') rfl (one_four _ _ _ _ rfl rfl rfl rfl) ?_)
      refine bodyPost_ret (results_row_tmp3 (p := 2) (u := 3) (v := 4) (x := 5) (ty := 77) (by rfl) _ _ w.heap.size 77 _ _ (by rfl) (by exact hR0.setRow _) Tryz.underlying77 (by rfl) (by exact size_pay')) (by rfl) ?_
      exact retrb_no HG (below_setRow hB0 (Nat.le_refl _) _)
  · have HX : Hid (X = ((k, 0, 0, 0, []), 0, 1)) := by
      unfold Hid
      rw [← hX.out]
      unfold barsL
      rw [HS.out, if_neg hk]
    have h50 : (k == 0) = false := beq_eq_false_iff_ne.2 hk
    have h51 : (k != 0) = true := by rw [bne, h50]; rfl
    clear hX HM HS
    go_upto_region 3 with fail
    go_wp2_with (refine wpList_store_row rfl 77 (.tmp 2) (.tmp 20) rfl w.heap.size rfl [.int .u64 0, .int .u64 0, .int .u64 0, .slice none 0 0] rfl _ _ hR0 (by exact size_pay') rfl (one_four _ _ _ _ rfl rfl rfl rfl) ?_)
    refine bodyPost_ret (results_row_tmp3 (p := 2) (u := 3) (v := 4) (x := 5) (ty := 77) (by rfl) _ _ w.heap.size 77 _ _ (by rfl) (by exact hR0.setRow _) Tryz.underlying77 (by rfl) (by exact size_pay')) (by rfl) ?_
    exact retrb_no HX (below_setRow hB0 (Nat.le_refl _) _)
end Go.Proofs.YteppocjgodmpdaaGreatDoor
/-
  The walk of the law BarsRight: payloads' barcodes, and what any bytes are read as, are the document's. Condition: errors.errorType holds the handle of the type error (EtC).
-/
namespace Go.Proofs.YteppocjgodmpdaaGreatDoor
set_option maxRecDepth 100000
open Go.RowKit
set_option linter.unusedSimpArgs false
set_option linter.unusedVariables false

def MakE (n : Nat) (t e c : Nat) (tag X : List UInt8) (s k : Int) : Prop := (n = 8 ∧ X = barL t e c tag ∧ s = 0 ∧ k = 0) ∨ (n ≠ 8 ∧ X = [] ∧ s = 3 ∧ k = 1)
theorem makeE_any (t e c : Nat) (tag : List UInt8) (n : Nat) (A : Option Addr) (k : Nat) (w : World) (ht : t < 18446744073709551616) (he : e < 18446744073709551616) (hc : c < 18446744073709551616) (HN : Hid (tag.length = n)) (hr : Rd vB w A tag) (hk : n ≤ k) (hn : n ≤ 100000) (hg : EtC w) :
    Calls Tryz.prog 31 #[aggP t e c A n k] w fun e₁ w' => ∃ X ev A' m c' s q, e₁ = .returned (.tuple #[.slice A' m c', ev]) ∧ Hid (X.length = m) ∧ m ≤ c' ∧ Rd vB w' A' X ∧ Below w.heap.size w w' ∧ ErrV w' ev s q ∧ Hid (q = 0 → s = 0) ∧ Hid (MakE n t e c tag X s q) := by
  by_cases h8 : n = 8
  · subst h8
    refine (makeB_ok t e c tag A k w ht he hc HN hr hk hg).mono ?_
    rintro e₁ w' ⟨A', m, c', h1, h2, h3, h4, h5⟩
    exact ⟨_, _, A', m, c', 0, 0, h1, h2, h3, h4, h5, .inl ⟨rfl, rfl⟩, fun _ => rfl, .inl ⟨rfl, rfl, rfl, rfl⟩⟩
  · refine (makeB_no t e c tag n A k w ht he hc HN hr hk hn h8 hg).mono ?_
    rintro e₁ w' ⟨g, h1, h2, h3⟩
    exact ⟨[], _, none, 0, 0, 3, 1, h1, Lib.hid rfl, Nat.le_refl _, Rd.nil, h3, .inr ⟨by omega, g, rfl, h2⟩, (fun h => absurd h (by omega)), .inr ⟨h8, rfl, rfl, rfl⟩⟩
set_option maxRecDepth 100000 in
set_option maxHeartbeats 8000000 in
theorem barsright_core (t e c : Nat) (tag : List UInt8) (n : Nat) (A : Option Addr) (k : Nat) (b : List UInt8) (m : Nat) (B : Option Addr) (d : Nat) (w : World)
    (ht : t < 18446744073709551616) (he : e < 18446744073709551616) (hc : c < 18446744073709551616) (HN : Hid (tag.length = n)) (hrt : Rd vB w A tag) (hk : n ≤ k) (hn : n ≤ 300)
    (HM : Hid (b.length = m)) (hrb : Rd vB w B b) (hd : m ≤ d) (hm : m ≤ 120 ∨ (255 < m ∧ m ≤ 400)) (hg : EtC w) :
    Calls Tryz.prog 7 #[aggP t e c A n k, .slice B m d] w fun e₁ w' => e₁ = .returned (.bool true) ∧ Below w.heap.size w w' := by
  have hT0 := box_pay w 77 (.int .u64 (t : Int)) (.int .u64 (e : Int)) (.int .u64 (c : Int)) (.slice A n k)
  obtain ⟨hR0, hB0⟩ := hT0
  unfold aggP
  go_enter Tryz.func7, Tryz.ntmps7
  go_upto_region 1 with fail
  generalize (w.alloc (.cells #[.int .u64 (t : Int), .int .u64 (e : Int), .int .u64 (c : Int), .slice A n k] 77)) = W0 at hR0 hB0 ⊢
  have HT := Lib.hid (And.intro ht (And.intro he hc))
  clear ht he hc
  replace hrt := hrt.keep hB0
  replace hrb := hrb.keep hB0
  replace hg := hg.later hB0
  go_wp2_with fail
  refine (awake13_any _ hg).mono ?_
  rintro e₁ w1 ⟨rfl, hb⟩
  replace hrt := hrt.keep hb
  replace hrb := hrb.keep hb
  replace hg := hg.later hb
  replace hR0 := hR0.later hb
  replace hB0 := below_step hB0 hb
  clear hb
  have c3 : w1.cell? ⟨w.heap.size, 3, none⟩ = some (.slice A n k) := hR0.cell rfl
  go_upto_region 3 with fail
  go_cut [36] (fun v wx => v = .bool false ∧ w1 = wx)
  case first =>
    have g1 : decide ((300 : Int) < (n : Int)) = false := decide_eq_false (by omega)
    have n1 : ¬ 300 < n := by omega
    have g4 : decide ((400 : Int) < (m : Int)) = false := decide_eq_false (by omega)
    have n4 : ¬ 400 < m := by omega
    rcases hm with hm | ⟨hm, hm'⟩
    · have g2 : decide ((120 : Int) < (m : Int)) = false := decide_eq_false (by omega)
      have n2 : ¬ 120 < m := by omega
      go_wp2_with fail
      go_meet
      case rel => exact ⟨rfl, rfl⟩
    · have g2 : decide ((120 : Int) < (m : Int)) = true := decide_eq_true (by omega)
      have n2 : 120 < m := by omega
      have g3 : decide ((m : Int) ≤ 255) = false := decide_eq_false (by omega)
      have n3 : ¬ m ≤ 255 := by omega
      go_wp2_with fail
      go_meet
      case rel => exact ⟨rfl, rfl⟩
  case rest =>
  obtain ⟨rfl, rfl⟩ := hcut
  have hm4 : m ≤ 400 := by omega
  clear hm c3
  go_upto_region 5 with fail
  go_wp2_with (refine wpList_load_part rfl 77 (.tmp 2) rfl w.heap.size 0 rfl _ _ hR0 (cellsP t e c A n k) (by rfl) _ Tryz.underlying77 rfl (by exact size_pay') ?_)
  refine (makeE_any t e c tag n A k _ HT.out.1 HT.out.2.1 HT.out.2.2 HN hrt hk (by omega) hg).mono ?_
  rintro e₁ w2 ⟨X, ev, A2, m2, c2, s2, q2, rfl, HX, hc2, hrx, hb, hE, H0, HME⟩
  replace hrt := hrt.keep hb
  replace hrb := hrb.keep hb
  replace hg := hg.later hb
  replace hR0 := hR0.later hb
  replace hB0 := below_step hB0 hb
  clear hb
  go_upto_region 6 with fail
  go_wp2_with fail
  refine (told_err ev s2 q2 _ hg hE H0).mono ?_
  rintro e₁ w3 ⟨rfl, hb⟩
  replace hrt := hrt.keep hb
  replace hrb := hrb.keep hb
  replace hrx := hrx.keep hb
  replace hg := hg.later hb
  replace hR0 := hR0.later hb
  replace hB0 := below_step hB0 hb
  clear hb hE H0
  have c3 : w3.cell? ⟨w.heap.size, 3, none⟩ = some (.slice A n k) := hR0.cell rfl
  go_upto_if 50 with fail
  clear c3
  go_cut [] (fun wx => Below w3.heap.size w3 wx)
  case first =>
    rcases HME.out with ⟨h8, hXe, rfl, rfl⟩ | ⟨h8, hXe, rfl, rfl⟩
    · subst h8
      have HXE := Lib.hid hXe
      have cp0 : ∀ W, Below w3.heap.size w3 W → W.cell? ⟨w.heap.size, 0, none⟩ = some (.int .u64 (t : Int)) := fun W hW => (hR0.later hW).cell rfl
      have cp1 : ∀ W, Below w3.heap.size w3 W → W.cell? ⟨w.heap.size, 1, none⟩ = some (.int .u64 (e : Int)) := fun W hW => (hR0.later hW).cell rfl
      have cp2 : ∀ W, Below w3.heap.size w3 W → W.cell? ⟨w.heap.size, 2, none⟩ = some (.int .u64 (c : Int)) := fun W hW => (hR0.later hW).cell rfl
      have cp3 : ∀ W, Below w3.heap.size w3 W → W.cell? ⟨w.heap.size, 3, none⟩ = some (.slice A 8 k) := fun W hW => (hR0.later hW).cell rfl
      have hs1 := strBz (c := c2) m2 HX hrx
      have HRT := Lib.hid hrt
      have HRX := Lib.hid hrx
      clear hrx hrt hR0 hrb hg hXe HME
      go_upto_region 8 with fail
      have hBase := (Below.refl w3.heap.size w3).drew
      refine wp_region_plan (.step 0 false (.step 1 false (.step 2 false (.step 3 false (.step 4 false (.step 5 false (.step 6 false (.step 7 false (.step 8 false (.step 9 false (.step 10 true (.step 11 false (.step 12 false (.step 13 false (.nil))))))))))))))) (by kernel_rfl) (by kernel_rfl) (by rfl) (by kernel_rfl) ?_
      iterate 10 (refine plan_read rfl (by rfl) (v := ?_) ?_ ?_; rotate_left 1; (intro W hW; have hW0 := below_step hBase hW; (try dsimp only at hW); go_simp <;> with_reducible rfl); simp only [List.getElem_toArray, List.getElem_cons_zero, List.getElem_cons_succ, Act.put, List.setIfInBounds_toArray, List.set_cons_zero, List.set_cons_succ])
      (refine plan_make rfl (by rfl) (fun K hK => ?_); go_simp; (refine (refmakeB_any t e c tag A k _ HT.out.1 HT.out.2.1 HT.out.2.2 HN (HRT.out.keep hBase)).mono ?_; rw [← HXE.out]; rintro e₁ w7 ⟨A7, n7, c7, rfl, HN7, hc7, hr7, hbx⟩); refine hK.out _ _ hbx ?_; clear hK K; replace hBase := below_step hBase hbx)
      have en7 : n7 = m2 := HN7.out.symm.trans HX.out
      subst en7
      have hs2 := strBz (c := c7) n7 HN7 hr7
      generalize strL X = SX at hs1 hs2
      clear HN7 hr7 hc7 HXE HRX HRT HX
      iterate 3 (refine plan_read rfl (by rfl) (v := ?_) ?_ ?_; rotate_left 1; (intro W hW; have hW0 := below_step hBase hW; (try dsimp only at hW); go_simp <;> with_reducible rfl); simp only [List.getElem_toArray, List.getElem_cons_zero, List.getElem_cons_succ, Act.put, List.setIfInBounds_toArray, List.set_cons_zero, List.set_cons_succ])
      refine plan_done ?_
      go_wp2_with fail
      go_meet
      case rel => exact hBase
    · subst hXe
      have em2 : m2 = 0 := HX.out.symm
      subst em2
      have h80 : ((n : Int) == 8) = false := beq_eq_false_iff_ne.2 (by omega)
      clear hrx hrt hR0 hrb hg HME
      go_wp2_with fail
      go_meet
      case rel => exact Below.refl _ _
  case rest =>
  replace hrb := hrb.keep hcut
  replace hg := hg.later hcut
  replace hB0 := below_step hB0 hcut
  clear hcut hrx hrt hR0 HX HME
  obtain ⟨kd, t2, e2, c2, tg, pl, st, hF⟩ : ∃ kd t2 e2 c2 tg pl st, barsL b = ((kd, t2, e2, c2, tg), pl, st) := ⟨_, _, _, _, _, _, _, rfl⟩
  have H0 : Hid (kd = 0 → st = 0) := fun h => by
    rcases bars_cases b with ⟨t3, e3, c3, tg3, n3, h1, _⟩ | ⟨k3, s3, h1, h2, _⟩
    · rw [h1] at hF
      injection hF with _ hF
      injection hF with _ hF
      exact hF.symm
    · rw [h1] at hF
      injection hF with hF _
      injection hF with hF _
      omega
  have HF := Lib.hid hF
  clear hF
  go_upto_region 12 with fail
  go_wp2_with fail
  refine (readB_any b m B d _ HM hrb hd (by omega) hg).mono ?_
  rw [HF.out]
  rintro e₁ w5 ⟨A5, n5, k5, ev5, rfl, HN5, hk5, hr5, hb, hE⟩
  dsimp only at HN5 hr5 hE ⊢
  replace hrb := hrb.keep hb
  replace hg := hg.later hb
  replace hB0 := below_step hB0 hb
  clear hb
  have hRn : Row (w5.alloc (.cells #[.int .u64 0, .int .u64 0, .int .u64 0, .slice none 0 0] 77)) w5.heap.size 77 [.int .u64 0, .int .u64 0, .int .u64 0, .slice none 0 0] := Row.new w5 _ _ _ rfl
  go_upto_region 13 with (refine wpList_store_row rfl 77 (.tmp 9) (.tmp 79) rfl w5.heap.size rfl [.int .u64 (t2 : Int), .int .u64 (e2 : Int), .int .u64 (c2 : Int), .slice A5 n5 k5] rfl _ _ hRn (by exact size_pay') rfl (one_four _ _ _ _ rfl rfl rfl rfl) ?_)
  have hRp := hRn.setRow [.int .u64 (t2 : Int), .int .u64 (e2 : Int), .int .u64 (c2 : Int), .slice A5 n5 k5]
  have hb2 : Below w5.heap.size w5 ((w5.alloc (.cells #[.int .u64 0, .int .u64 0, .int .u64 0, .slice none 0 0] 77)).setRow w5.heap.size [.int .u64 (t2 : Int), .int .u64 (e2 : Int), .int .u64 (c2 : Int), .slice A5 n5 k5].toArray) := below_setRow (below_new (Below.refl _ _) _) (Nat.le_refl _) _
  replace hrb := hrb.keep hb2
  replace hr5 := hr5.keep hb2
  replace hg := hg.later hb2
  replace hE := hE.later hb2
  replace hB0 := below_step hB0 hb2
  generalize (w5.alloc (.cells #[.int .u64 0, .int .u64 0, .int .u64 0, .slice none 0 0] 77)).setRow w5.heap.size [.int .u64 (t2 : Int), .int .u64 (e2 : Int), .int .u64 (c2 : Int), .slice A5 n5 k5].toArray = w6 at hrb hr5 hg hE hRp hB0 ⊢
  clear hRn hb2
  generalize w5.heap.size = gp at hRp ⊢
  go_wp2_with fail
  refine (refreadB_any b m B d _ HM hrb hd (by omega)).mono ?_
  rw [HF.out]
  rintro e₁ w7 ⟨A7, n7, k7, rfl, HN7, hk7, hr7, hb⟩
  dsimp only at HN7 hr7 ⊢
  replace hr5 := hr5.keep hb
  replace hg := hg.later hb
  replace hE := hE.later hb
  replace hRp := hRp.later hb
  replace hB0 := below_step hB0 hb
  clear hb hrb HF
  have hRn : Row (w7.alloc (.cells #[.int .u64 0, .int .u64 0, .int .u64 0, .slice none 0 0] 77)) w7.heap.size 77 [.int .u64 0, .int .u64 0, .int .u64 0, .slice none 0 0] := Row.new w7 _ _ _ rfl
  go_upto_region 14 with (refine wpList_store_row rfl 77 (.tmp 12) (.tmp 85) rfl w7.heap.size rfl [.int .u64 (t2 : Int), .int .u64 (e2 : Int), .int .u64 (c2 : Int), .slice A7 n7 k7] rfl _ _ hRn (by exact size_pay') rfl (one_four _ _ _ _ rfl rfl rfl rfl) ?_)
  have hRq := hRn.setRow [.int .u64 (t2 : Int), .int .u64 (e2 : Int), .int .u64 (c2 : Int), .slice A7 n7 k7]
  have hb2 : Below w7.heap.size w7 ((w7.alloc (.cells #[.int .u64 0, .int .u64 0, .int .u64 0, .slice none 0 0] 77)).setRow w7.heap.size [.int .u64 (t2 : Int), .int .u64 (e2 : Int), .int .u64 (c2 : Int), .slice A7 n7 k7].toArray) := below_setRow (below_new (Below.refl _ _) _) (Nat.le_refl _) _
  replace hr5 := hr5.keep hb2
  replace hr7 := hr7.keep hb2
  replace hg := hg.later hb2
  replace hE := hE.later hb2
  replace hRp := hRp.later hb2
  replace hB0 := below_step hB0 hb2
  generalize (w7.alloc (.cells #[.int .u64 0, .int .u64 0, .int .u64 0, .slice none 0 0] 77)).setRow w7.heap.size [.int .u64 (t2 : Int), .int .u64 (e2 : Int), .int .u64 (c2 : Int), .slice A7 n7 k7].toArray = w8 at hr5 hr7 hg hE hRp hRq hB0 ⊢
  clear hRn hb2
  generalize w7.heap.size = gq at hRq ⊢
  go_wp2_with fail
  refine (told_err ev5 st kd _ hg hE H0).mono ?_
  rintro e₁ w9 ⟨rfl, hb⟩
  replace hr5 := hr5.keep hb
  replace hr7 := hr7.keep hb
  replace hRp := hRp.later hb
  replace hRq := hRq.later hb
  replace hB0 := below_step hB0 hb
  clear hb hE H0 hg
  have cp0 : w9.cell? ⟨gp, 0, none⟩ = some (.int .u64 (t2 : Int)) := hRp.cell rfl
  have cp1 : w9.cell? ⟨gp, 1, none⟩ = some (.int .u64 (e2 : Int)) := hRp.cell rfl
  have cp2 : w9.cell? ⟨gp, 2, none⟩ = some (.int .u64 (c2 : Int)) := hRp.cell rfl
  have cp3 : w9.cell? ⟨gp, 3, none⟩ = some (.slice A5 n5 k5) := hRp.cell rfl
  have cq0 : w9.cell? ⟨gq, 0, none⟩ = some (.int .u64 (t2 : Int)) := hRq.cell rfl
  have cq1 : w9.cell? ⟨gq, 1, none⟩ = some (.int .u64 (e2 : Int)) := hRq.cell rfl
  have cq2 : w9.cell? ⟨gq, 2, none⟩ = some (.int .u64 (c2 : Int)) := hRq.cell rfl
  have cq3 : w9.cell? ⟨gq, 3, none⟩ = some (.slice A7 n7 k7) := hRq.cell rfl
  go_wp2_with fail
  refine (refsame_pay t2 e2 c2 t2 e2 c2 tg tg n5 n7 A5 A7 k5 k7 _ HN5 HN7 hr5 hr7).mono ?_
  rintro e₁ w10 ⟨rfl, hb⟩
  rw [same_selfP]
  replace hB0 := below_step hB0 hb
  clear hb cp0 cp1 cp2 cp3 cq0 cq1 cq2 cq3
  go_wp2_with fail
  go_ret
  exact ⟨rfl, hB0⟩
end Go.Proofs.YteppocjgodmpdaaGreatDoor
/-
  What comes in, opened by its type's shape (no program is named here): numbers, slices of whatever, arrays, structs. No conditions but those typed.
-/
namespace Go.Proofs.YteppocjgodmpdaaGreatDoor
set_option maxRecDepth 100000
open Go.RowKit Go.Deep Go.WideShapes Go.ChangeShapes

/-- Cells of type t that can be read as data are a reading R of something. -/
def Opens (P : Program) (t : TypeId) {α : Type} (R : World → List Value → α → Prop) : Prop :=
  ∀ {H : Type} (enc : TypeId × Value → H) (w : World) (base : Nat) (spare : Nat → Bool) (held : Bool) (fuel : Nat) (cs : List Value) (x : DataW H × List MemPlace), DataW.trod enc P w base spare held fuel t cs = some x → ∃ a : α, R w cs a

def RByte : World → List Value → UInt8 → Prop := fun _ cs c => cs = [vB c]
def RWord : World → List Value → UInt32 → Prop := fun _ cs c => cs = [vW c]
def RNum : World → List Value → Nat → Prop := fun _ cs v => cs = [.int .u64 (v : Int)] ∧ v < 18446744073709551616
def RInt : World → List Value → Int → Prop := fun _ cs n => cs = [.int .i64 n] ∧ -9223372036854775808 ≤ n ∧ n ≤ 9223372036854775807
def RBool : World → List Value → Bool → Prop := fun _ cs b => cs = [.bool b]

section
variable {P : Program} {t e : TypeId}
theorem opens_byte (ht : P.underlying t = some (.int .u8)) : Opens P t RByte := fun enc w base spare held fuel cs x h => by
  obtain ⟨n, rfl, _, hw⟩ := DataW.trod_int ht h
  simp [Lit.wf, IntKind.min, IntKind.max, IntKind.signed, IntKind.bits] at hw
  refine ⟨UInt8.ofNat n.toNat, ?_⟩
  unfold RByte vB
  rw [UInt8.toNat_ofNat']
  congr 2
  omega
theorem opens_word (ht : P.underlying t = some (.int .u32)) : Opens P t RWord := fun enc w base spare held fuel cs x h => by
  obtain ⟨n, rfl, _, hw⟩ := DataW.trod_int ht h
  simp [Lit.wf, IntKind.min, IntKind.max, IntKind.signed, IntKind.bits] at hw
  refine ⟨UInt32.ofNat n.toNat, ?_⟩
  unfold RWord vW
  rw [UInt32.toNat_ofNat']
  congr 2
  omega
theorem opens_num (ht : P.underlying t = some (.int .u64)) : Opens P t RNum := fun enc w base spare held fuel cs x h => by
  obtain ⟨n, rfl, _, hw⟩ := DataW.trod_int ht h
  obtain ⟨v, hv, rfl⟩ := u64_of_wf hw
  exact ⟨v, rfl, hv⟩
theorem opens_int (ht : P.underlying t = some (.int .i64)) : Opens P t RInt := fun enc w base spare held fuel cs x h => by
  obtain ⟨n, rfl, _, hw⟩ := DataW.trod_int ht h
  exact ⟨n, rfl, i64_of_wf hw⟩

/-- A slice: its elements, of m cells each, lie one behind the other. -/
def RSlice (m : Nat) {α : Type} (R : World → List Value → α → Prop) : World → List Value → List α → Prop := fun w cs l =>
  ∃ (A : Option Addr) (cap : Nat), cs = [.slice A l.length cap] ∧ l.length ≤ cap ∧ cap ≤ 9223372036854775807 ∧
    (l ≠ [] → ∃ b o, A = some ⟨b, o, none⟩ ∧ ∀ i (h : i < l.length), ∃ ecs : List Value, ecs.length = m ∧ (∀ j (hj : j < ecs.length), w.cell? ⟨b, o + i * m + j, none⟩ = some ecs[j]) ∧ R w ecs l[i])

theorem cells_at {w : World} {base : Nat} {a : Addr} {n : Nat} {cs : List Value} (h : w.cells? base a n = some cs) : cs.length = n ∧ ∀ j (hj : j < cs.length), w.cell? (a.add j) = some cs[j] := by
  obtain ⟨_, hl, hc⟩ := World.cells?_some h
  refine ⟨hl, fun j hj => ?_⟩
  have := hc j (by omega)
  rw [this]
  exact List.getElem?_eq_getElem hj

theorem choose_list {α : Type} (n : Nat) (p : Nat → α → Prop) (h : ∀ i, i < n → ∃ a, p i a) : ∃ l : List α, l.length = n ∧ ∀ i (hi : i < l.length), p i l[i] := by
  induction n with
  | zero => exact ⟨[], rfl, fun i hi => by simp at hi⟩
  | succ n ih =>
    obtain ⟨l, hl, hp⟩ := ih (fun i hi => h i (by omega))
    obtain ⟨a, ha⟩ := h n (by omega)
    refine ⟨l ++ [a], by simp [hl], fun i hi => ?_⟩
    by_cases hin : i < l.length
    · rw [List.getElem_append_left hin]; exact hp i hin
    · have : i = n := by simp at hi; omega
      subst this
      rw [List.getElem_append_right (by omega)]
      simpa [hl] using ha

theorem opens_slice {α : Type} {R : World → List Value → α → Prop} {m : Nat} (ht : P.underlying t = some (.slice e)) (hc : P.cellsOf e = m) (hm : 0 < m) (he : Opens P e R) : Opens P t (RSlice m R) := fun enc w base spare held fuel cs x h => by
  rcases open_slice ht h with ⟨rfl, _⟩ | ⟨a, len, cap, mm, n, D, Pl, rfl, hb, hl, hcap, hmm, rfl, hx⟩
  · exact ⟨[], none, 0, rfl, Nat.le_refl _, by omega, fun h => absurd rfl h⟩
  · have hlm : len ≤ mm := by rw [hmm]; split <;> omega
    unfold maxLen at hcap
    obtain ⟨l, hll, hp⟩ := choose_list len (fun i (y : α) => ∃ ecs : List Value, ecs.length = m ∧ (∀ j (hj : j < ecs.length), w.cell? ((a.add (i * m)).add j) = some ecs[j]) ∧ R w ecs y) (fun i hi => by
      obtain ⟨ecs, h1, h2⟩ := hx i (by omega)
      rw [hc] at h1
      obtain ⟨h3, h4⟩ := cells_at h1
      obtain ⟨y, hy⟩ := he enc w base spare held n ecs _ h2
      exact ⟨y, ecs, h3, h4, hy⟩)
    refine ⟨l, some a, cap, by rw [hll], by omega, by omega, fun hn => ?_⟩
    have h0 : 0 < l.length := by
      rcases Nat.eq_zero_or_pos l.length with h | h
      · exact absurd (List.eq_nil_of_length_eq_zero h) hn
      · exact h
    obtain ⟨b, o, spot⟩ := a
    obtain ⟨ecs, h3, h4, _⟩ := hp 0 h0
    have hc0 := h4 0 (by omega)
    have hspot : spot = none := by simpa [Addr.add] using World.cell?_spot hc0
    subst hspot
    have hadd : ∀ i j, ((⟨b, o, none⟩ : Addr).add i).add j = ⟨b, o + i + j, none⟩ := fun i j => by unfold Addr.add; split <;> split <;> simp_all
    refine ⟨b, o, rfl, fun i hi => ?_⟩
    obtain ⟨ecs, h3, h4, h5⟩ := hp i hi
    exact ⟨ecs, h3, fun j hj => by rw [← hadd]; exact h4 j hj, h5⟩

/-- An array: its elements' cells one behind the other (elements of one cell). -/
def RArr (n : Nat) {α : Type} (R : World → List Value → α → Prop) : World → List Value → List α → Prop := fun w cs l => l.length = n ∧ cs.length = n ∧ ∀ i (h : i < l.length), R w ((cs.drop i).take 1) l[i]
theorem opens_arr {α : Type} {R : World → List Value → α → Prop} {n : Nat} (ht : P.underlying t = some (.array n e)) (hc : P.cellsOf e = 1) (hn : P.cellsOf t = n) (he : Opens P e R) : Opens P t (RArr n R) := fun enc w base spare held fuel cs x h => by
  obtain ⟨xs, m, _, _, hl, hxl, hx⟩ := DataW.trod_array ht h
  obtain ⟨l, hll, hp⟩ := choose_list n (fun i (y : α) => R w ((cs.drop i).take 1) y) (fun i hi => by
    have := hx i hi
    rw [hc, Nat.mul_one, List.getElem?_eq_getElem (by omega)] at this
    exact he enc w base spare held m _ _ this)
  exact ⟨l, hll, by omega, hp⟩

/-- Structs of two to four fields: each field's cells. -/
def RTwo (a0 n0 a1 n1 : Nat) {α β : Type} (R : World → List Value → α → Prop) (S : World → List Value → β → Prop) : World → List Value → α × β → Prop := fun w cs x => cs.length = n0 + n1 ∧ R w ((cs.drop a0).take n0) x.1 ∧ S w ((cs.drop a1).take n1) x.2
def RThree (a0 n0 a1 n1 a2 n2 : Nat) {α β γ : Type} (R : World → List Value → α → Prop) (S : World → List Value → β → Prop) (T : World → List Value → γ → Prop) : World → List Value → α × β × γ → Prop := fun w cs x => cs.length = n0 + n1 + n2 ∧ R w ((cs.drop a0).take n0) x.1 ∧ S w ((cs.drop a1).take n1) x.2.1 ∧ T w ((cs.drop a2).take n2) x.2.2
theorem opens_two {α β : Type} {R : World → List Value → α → Prop} {S : World → List Value → β → Prop} {f0 f1 : Field} {a0 n0 a1 n1 : Nat} (ht : P.underlying t = some (.struct #[f0, f1])) (e0 : f0.offset = a0) (e1 : f1.offset = a1) (c0 : P.cellsOf f0.type = n0) (c1 : P.cellsOf f1.type = n1) (hn : P.cellsOf t = n0 + n1)
    (h0 : Opens P f0.type R) (h1 : Opens P f1.type S) : Opens P t (RTwo a0 n0 a1 n1 R S) := fun enc w base spare held fuel cs x h => by
  obtain ⟨xs, n, _, _, hl, hxl, hx⟩ := DataW.trod_struct ht h
  have k0 := hx 0 f0 rfl
  have k1 := hx 1 f1 rfl
  simp only [List.size_toArray, List.length_cons, List.length_nil, Nat.zero_add, Nat.reduceAdd] at hxl
  rw [List.getElem?_eq_getElem (by omega), e0, c0] at k0
  rw [List.getElem?_eq_getElem (by omega), e1, c1] at k1
  obtain ⟨x0, r0⟩ := h0 enc w base spare held n _ _ k0
  obtain ⟨x1, r1⟩ := h1 enc w base spare held n _ _ k1
  exact ⟨(x0, x1), by omega, r0, r1⟩
theorem opens_three {α β γ : Type} {R : World → List Value → α → Prop} {S : World → List Value → β → Prop} {T : World → List Value → γ → Prop} {f0 f1 f2 : Field} {a0 n0 a1 n1 a2 n2 : Nat} (ht : P.underlying t = some (.struct #[f0, f1, f2])) (e0 : f0.offset = a0) (e1 : f1.offset = a1) (e2 : f2.offset = a2)
    (c0 : P.cellsOf f0.type = n0) (c1 : P.cellsOf f1.type = n1) (c2 : P.cellsOf f2.type = n2) (hn : P.cellsOf t = n0 + n1 + n2) (h0 : Opens P f0.type R) (h1 : Opens P f1.type S) (h2 : Opens P f2.type T) : Opens P t (RThree a0 n0 a1 n1 a2 n2 R S T) := fun enc w base spare held fuel cs x h => by
  obtain ⟨xs, n, _, _, hl, hxl, hx⟩ := DataW.trod_struct ht h
  have k0 := hx 0 f0 rfl
  have k1 := hx 1 f1 rfl
  have k2 := hx 2 f2 rfl
  simp only [List.size_toArray, List.length_cons, List.length_nil, Nat.zero_add, Nat.reduceAdd] at hxl
  rw [List.getElem?_eq_getElem (by omega), e0, c0] at k0
  rw [List.getElem?_eq_getElem (by omega), e1, c1] at k1
  rw [List.getElem?_eq_getElem (by omega), e2, c2] at k2
  obtain ⟨x0, r0⟩ := h0 enc w base spare held n _ _ k0
  obtain ⟨x1, r1⟩ := h1 enc w base spare held n _ _ k1
  obtain ⟨x2, r2⟩ := h2 enc w base spare held n _ _ k2
  exact ⟨(x0, x1, x2), by omega, r0, r1, r2⟩
end

/-! ### Back to the words that the walks go by -/
theorem rd_of_rslice {α : Type} {f : α → Value} {R : World → List Value → α → Prop} {w : World} {cs : List Value} {l : List α} (hR : ∀ ecs x, R w ecs x → ecs = [f x]) (h : RSlice 1 R w cs l) : ∃ A cap, cs = [.slice A l.length cap] ∧ l.length ≤ cap ∧ cap ≤ 9223372036854775807 ∧ Rd f w A l := by
  obtain ⟨A, cap, e, h1, h2, h3⟩ := h
  refine ⟨A, cap, e, h1, h2, fun hn => ?_⟩
  obtain ⟨b, o, rfl, hc⟩ := h3 hn
  refine ⟨b, o, rfl, fun i hi => ?_⟩
  obtain ⟨ecs, _, h5, h6⟩ := hc i hi
  have := hR _ _ h6
  subst this
  have := h5 0 (by simp)
  simpa using this
theorem bytes_of_r {w : World} {cs : List Value} {l : List UInt8} (h : RSlice 1 RByte w cs l) : ∃ A cap, cs = [.slice A l.length cap] ∧ l.length ≤ cap ∧ cap ≤ 9223372036854775807 ∧ Rd vB w A l := rd_of_rslice (fun _ _ h => h) h
theorem words_of_r {w : World} {cs : List Value} {l : List UInt32} (h : RSlice 1 RWord w cs l) : ∃ A cap, cs = [.slice A l.length cap] ∧ l.length ≤ cap ∧ cap ≤ 9223372036854775807 ∧ Rd vW w A l := rd_of_rslice (fun _ _ h => h) h
theorem arr_words {n : Nat} {w : World} {cs : List Value} {l : List UInt32} (h : RArr n RWord w cs l) : cs = l.map vW ∧ l.length = n := by
  obtain ⟨h1, h2, h3⟩ := h
  refine ⟨?_, h1⟩
  apply List.ext_getElem
  · simp; omega
  · intro i hi hi'
    have := h3 i (by omega)
    unfold RWord at this
    have h4 := congrArg (fun l => l[0]?) this
    simp only [List.getElem?_take, List.getElem?_drop, Nat.add_zero, List.getElem?_eq_getElem hi, Nat.zero_lt_one, if_true, List.getElem?_cons_zero, Option.some.injEq] at h4
    rw [h4]
    simp

/-! ### A value and its cells -/
theorem okWide_arr {P : Program} {w : World} {r : Reach} {base n : Nat} {t e : TypeId} {v : Value} (ht : P.underlying t = some (.array n e)) (h : Value.okWide P w r base t v) : ∃ cs, v = .agg cs ∧ cs.size = P.cellsOf t := by
  simp only [Value.okWide, ht] at h
  obtain ⟨cs, h1, h2, _⟩ := h
  exact ⟨cs, h1, h2⟩

end Go.Proofs.YteppocjgodmpdaaGreatDoor
/-
  A parameter that is a slice of bytes, opened. No conditions.
-/
namespace Go.Proofs.YteppocjgodmpdaaGreatDoor
set_option maxRecDepth 100000
open Go.RowKit Go.WideShapes
set_option linter.unusedSimpArgs false
set_option linter.unusedVariables false

theorem opens_bytes : Opens Tryz.prog 22 (RSlice 1 RByte) := opens_slice Tryz.underlying22 (by kernel_rfl) (by omega) (opens_byte Tryz.underlying5)
section
variable {H : Type} {enc : TypeId × Value → H} {W : World} {base b1 : Nat} {spare : Nat → Bool} {held : Bool} {r : Reach} {v : Value} {d : DataW H} {p : List MemPlace}
theorem open_bytes (hv : Value.okWide Tryz.prog W r base 22 v) (ht : DataW.Trod enc Tryz.prog W b1 spare held 22 v d p) : ∃ (l : List UInt8) (A : Option Addr) (cap : Nat), v = .slice A l.length cap ∧ l.length ≤ cap ∧ cap ≤ 9223372036854775807 ∧ Rd vB W A l := by
  obtain ⟨a, len, cap, rfl⟩ := okWide_slice Tryz.underlying22 hv
  obtain ⟨fuel, hf⟩ := ht
  obtain ⟨l, hl⟩ := opens_bytes enc W _ _ _ _ _ _ hf
  obtain ⟨A, c, e, h1, h2, h3⟩ := bytes_of_r hl
  simp [Value.cells] at e
  obtain ⟨rfl, rfl, rfl⟩ := e
  exact ⟨l, _, _, rfl, h1, h2, h3⟩
end
end Go.Proofs.YteppocjgodmpdaaGreatDoor
/-
  Structs of four fields, opened. No conditions.
-/
namespace Go.Proofs.YteppocjgodmpdaaGreatDoor
set_option maxRecDepth 100000
open Go.RowKit Go.Deep Go.WideShapes Go.ChangeShapes
set_option linter.unusedSimpArgs false
set_option linter.unusedVariables false

/-- Structs of four fields: each field's cells. -/
def RFour (a0 n0 a1 n1 a2 n2 a3 n3 : Nat) {α β γ δ : Type} (R : World → List Value → α → Prop) (S : World → List Value → β → Prop) (T : World → List Value → γ → Prop) (U : World → List Value → δ → Prop) : World → List Value → α × β × γ × δ → Prop := fun w cs x => cs.length = n0 + n1 + n2 + n3 ∧ R w ((cs.drop a0).take n0) x.1 ∧ S w ((cs.drop a1).take n1) x.2.1 ∧ T w ((cs.drop a2).take n2) x.2.2.1 ∧ U w ((cs.drop a3).take n3) x.2.2.2
theorem opens_four {P : Program} {t : TypeId} {α β γ δ : Type} {R : World → List Value → α → Prop} {S : World → List Value → β → Prop} {T : World → List Value → γ → Prop} {U : World → List Value → δ → Prop} {f0 f1 f2 f3 : Field} {a0 n0 a1 n1 a2 n2 a3 n3 : Nat} (ht : P.underlying t = some (.struct #[f0, f1, f2, f3])) (e0 : f0.offset = a0) (e1 : f1.offset = a1) (e2 : f2.offset = a2) (e3 : f3.offset = a3)
    (c0 : P.cellsOf f0.type = n0) (c1 : P.cellsOf f1.type = n1) (c2 : P.cellsOf f2.type = n2) (c3 : P.cellsOf f3.type = n3) (hn : P.cellsOf t = n0 + n1 + n2 + n3) (h0 : Opens P f0.type R) (h1 : Opens P f1.type S) (h2 : Opens P f2.type T) (h3 : Opens P f3.type U) : Opens P t (RFour a0 n0 a1 n1 a2 n2 a3 n3 R S T U) := fun enc w base spare held fuel cs x h => by
  obtain ⟨xs, n, _, _, hl, hxl, hx⟩ := DataW.trod_struct ht h
  have k0 := hx 0 f0 rfl
  have k1 := hx 1 f1 rfl
  have k2 := hx 2 f2 rfl
  have k3 := hx 3 f3 rfl
  simp only [List.size_toArray, List.length_cons, List.length_nil, Nat.zero_add, Nat.reduceAdd] at hxl
  rw [List.getElem?_eq_getElem (by omega), e0, c0] at k0
  rw [List.getElem?_eq_getElem (by omega), e1, c1] at k1
  rw [List.getElem?_eq_getElem (by omega), e2, c2] at k2
  rw [List.getElem?_eq_getElem (by omega), e3, c3] at k3
  obtain ⟨x0, r0⟩ := h0 enc w base spare held n _ _ k0
  obtain ⟨x1, r1⟩ := h1 enc w base spare held n _ _ k1
  obtain ⟨x2, r2⟩ := h2 enc w base spare held n _ _ k2
  obtain ⟨x3, r3⟩ := h3 enc w base spare held n _ _ k3
  exact ⟨(x0, x1, x2, x3), by omega, r0, r1, r2, r3⟩
end Go.Proofs.YteppocjgodmpdaaGreatDoor
/-
  A parameter that is a payload, opened. No conditions.
-/
namespace Go.Proofs.YteppocjgodmpdaaGreatDoor
set_option maxRecDepth 100000
open Go.RowKit Go.Deep Go.WideShapes Go.ChangeShapes
set_option linter.unusedSimpArgs false
set_option linter.unusedVariables false

theorem opens_payload : Opens Tryz.prog 77 (RFour 0 1 1 1 2 1 3 1 RNum RNum RNum (RSlice 1 RByte)) := opens_four Tryz.underlying77 rfl rfl rfl rfl (by kernel_rfl) (by kernel_rfl) (by kernel_rfl) (by kernel_rfl) (by kernel_rfl) (opens_num Tryz.underlying28) (opens_num Tryz.underlying28) (opens_num Tryz.underlying28) opens_bytes
section
variable {H : Type} {enc : TypeId × Value → H} {W : World} {base b1 : Nat} {spare : Nat → Bool} {held : Bool} {r : Reach} {v : Value} {d : DataW H} {p : List MemPlace}
theorem open_payload (hv : Value.okWide Tryz.prog W r base 77 v) (ht : DataW.Trod enc Tryz.prog W b1 spare held 77 v d p) : ∃ (t e c : Nat) (l : List UInt8) (A : Option Addr) (cap : Nat), v = aggP t e c A l.length cap ∧ t < 18446744073709551616 ∧ e < 18446744073709551616 ∧ c < 18446744073709551616 ∧ l.length ≤ cap ∧ cap ≤ 9223372036854775807 ∧ Rd vB W A l := by
  obtain ⟨cs, rfl, _⟩ := okWide_struct Tryz.underlying77 hv
  obtain ⟨fuel, hf⟩ := ht
  obtain ⟨⟨t, e, c, l⟩, hl, h0, h1, h2, h3⟩ := opens_payload enc W _ _ _ _ _ _ hf
  obtain ⟨A, k, e3, h4, h5, h6⟩ := bytes_of_r h3
  obtain ⟨e0, g0⟩ := h0
  obtain ⟨e1, g1⟩ := h1
  obtain ⟨e2, g2⟩ := h2
  refine ⟨t, e, c, l, A, k, ?_, g0, g1, g2, h4, h5, h6⟩
  unfold aggP
  congr 1
  apply Array.toList_inj.1
  simp only [Value.cells] at hl e0 e1 e2 e3
  match hcs : cs.toList, hl with
  | [x0, x1, x2, x3], _ =>
    rw [hcs] at e0 e1 e2 e3
    simp at e0 e1 e2 e3
    rw [e0, e1, e2, e3]
end
end Go.Proofs.YteppocjgodmpdaaGreatDoor
