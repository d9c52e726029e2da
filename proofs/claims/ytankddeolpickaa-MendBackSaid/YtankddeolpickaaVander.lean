/-
  Sums of elements times powers of unlike ones that vanish at as many powers as there are of them, vanish term by term (plain mathematics, for stages 9 and 10). No conditions but those typed.
-/
import Derived.Test.YtankddeolpickaaPolyMath
namespace Go.Proofs.Ytankddeolpickaa
set_option maxRecDepth 100000
set_option linter.unusedVariables false
set_option linter.unusedSimpArgs false

def sumV : List (UInt8 × UInt8) → Nat → UInt8
  | [], _ => 0
  | (e, x) :: t, i => addB (mulB e (powB x i)) (sumV t i)
theorem pow_succ' (x : UInt8) (i : Nat) : powB x (i + 1) = mulB (powB x i) x := rfl
/-- One of them taken off. -/
theorem sumV_off (x : UInt8) : ∀ (t : List (UInt8 × UInt8)) (i : Nat), sumV (t.map fun p => (mulB p.1 (addB p.2 x), p.2)) i = addB (sumV t (i + 1)) (mulB x (sumV t i))
  | [], i => by
    show (0 : UInt8) = addB 0 (mulB x 0)
    rw [mul_zero, add_zero]
  | (e, y) :: t, i => by
    have ih := sumV_off x t i
    show addB (mulB (mulB e (addB y x)) (powB y i)) (sumV (t.map fun p => (mulB p.1 (addB p.2 x), p.2)) i) = addB (addB (mulB e (powB y (i + 1))) (sumV t (i + 1))) (mulB x (addB (mulB e (powB y i)) (sumV t i)))
    have h1 : mulB (mulB e (addB y x)) (powB y i) = addB (mulB e (powB y (i + 1))) (mulB x (mulB e (powB y i))) := by
      rw [mul_add_right, mul_add_left, pow_succ', mul_assoc, mul_comm y (powB y i), mul_comm e x, mul_assoc]
    rw [ih, h1, mul_add_right, add_four]
theorem sumV_zero : ∀ (t : List (UInt8 × UInt8)) (i : Nat), (∀ p ∈ t, p.1 = 0) → sumV t i = 0
  | [], i, _ => rfl
  | (e, x) :: t, i, h => by
    have he : e = 0 := h (e, x) (by simp)
    rw [sumV, he, zero_mul, zero_add, sumV_zero t i (fun p hp => h p (by simp [hp]))]
theorem pow_ne (x : UInt8) (hx : x ≠ 0) : ∀ i, powB x i ≠ 0
  | 0 => by
    show (1 : UInt8) ≠ 0
    decide
  | i + 1 => by
    rw [pow_succ']
    exact mul_ne _ _ (pow_ne x hx i) hx
theorem add_zero_eq {a b : UInt8} (h : addB a b = 0) : a = b := by
  have e : addB (addB a b) b = addB 0 b := by rw [h]
  rwa [add_assoc, add_self, add_zero, zero_add] at e
theorem vander : ∀ (n : Nat) (l : List (UInt8 × UInt8)), l.length = n → (l.map Prod.snd).Nodup → (∀ p ∈ l, p.2 ≠ 0) → (∀ i, 1 ≤ i → i ≤ n → sumV l i = 0) → ∀ p ∈ l, p.1 = 0
  | 0, l, hl, _, _, _ => by
    rw [List.eq_nil_of_length_eq_zero hl]
    intro p hp
    cases hp
  | n + 1, [], hl, _, _, _ => by simp at hl
  | n + 1, (e, x) :: t, hl, hd, hn, hs => by
    have hd' : x ∉ t.map Prod.snd ∧ (t.map Prod.snd).Nodup := by simpa using hd
    have hlt : t.length = n := by simpa using hl
    have hx : x ≠ 0 := hn (e, x) (by simp)
    have key : ∀ i, 1 ≤ i → i ≤ n + 1 → sumV t i = mulB e (powB x i) := fun i h1 h2 => (add_zero_eq (hs i h1 h2)).symm
    have ht : ∀ p ∈ t.map (fun p => (mulB p.1 (addB p.2 x), p.2)), p.1 = 0 := by
      refine vander n _ (by rw [List.length_map]; exact hlt) ?_ ?_ ?_
      · rw [List.map_map]
        exact hd'.2
      · intro p hp
        obtain ⟨q, hq, rfl⟩ := List.mem_map.1 hp
        exact hn q (by simp [hq])
      · intro i h1 h2
        rw [sumV_off, key (i + 1) (by omega) (by omega), key i h1 (by omega), pow_succ']
        have : mulB x (mulB e (powB x i)) = mulB e (mulB (powB x i) x) := by
          rw [mul_comm x, mul_assoc]
        rw [this, add_self]
    have h0 : ∀ p ∈ t, p.1 = 0 := fun p hp => by
      have h1 := ht (mulB p.1 (addB p.2 x), p.2) (List.mem_map.2 ⟨p, hp, rfl⟩)
      rcases (mul_eq_zero _ _).1 h1 with h | h
      · exact h
      · exact absurd (List.mem_map.2 ⟨p, hp, add_zero_eq h⟩) hd'.1
    intro p hp
    rcases List.mem_cons.1 hp with rfl | hp
    · have h1 := hs 1 (by omega) (by omega)
      rw [sumV, sumV_zero t 1 h0, add_zero] at h1
      rcases (mul_eq_zero _ _).1 h1 with h | h
      · exact h
      · exact absurd h (pow_ne x hx 1)
    · exact h0 p hp
end Go.Proofs.Ytankddeolpickaa
