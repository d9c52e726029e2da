/-
  Polynomials as they are laid coefficient by coefficient: tables of coefficients, products as sums, shifts, one step of a division. No conditions but those typed.
-/
import Derived.Test.YteppocjgodmpdaaGreatDoorQ2
import Derived.Test.YteppocjgodmpdaaGreatDoorRows
import Derived.WalkKit
import Derived.WalkSpells
import Derived.LoopTactic
import Derived.Lib.Hide
import Derived.Deep.DeepCutAuto
import Derived.StillTailTactics
namespace Go.Proofs.YteppocjgodmpdaaGreatDoor
set_option maxRecDepth 100000
set_option linter.unusedVariables false
set_option linter.unusedSimpArgs false

/-- The first n coefficients. -/
def tabL (f : Nat → UInt8) : Nat → List UInt8
  | 0 => []
  | n + 1 => tabL f n ++ [f n]
theorem tab_length (f : Nat → UInt8) : ∀ n, (tabL f n).length = n
  | 0 => rfl
  | n + 1 => by rw [tabL, List.length_append, tab_length f n]; rfl
theorem co_snoc (l : List UInt8) (x : UInt8) (k : Nat) : co (l ++ [x]) k = if k < l.length then co l k else if k = l.length then x else 0 := by
  rcases Nat.lt_trichotomy k l.length with h | h | h
  · rw [if_pos h]
    simp [co, List.getD_eq_getElem?_getD, List.getElem?_append_left h]
  · rw [if_neg (by omega), if_pos h]
    subst h
    simp [co, List.getD_eq_getElem?_getD]
  · rw [if_neg (by omega), if_neg (by omega), co_ge _ _ (by rw [List.length_append]; simp; omega)]
theorem co_tab (f : Nat → UInt8) : ∀ n k, co (tabL f n) k = if k < n then f k else 0
  | 0, k => by rw [tabL, co_nil, if_neg (by omega)]
  | n + 1, k => by
    rw [tabL, co_snoc, tab_length, co_tab f n k]
    rcases Nat.lt_trichotomy k n with h | h | h
    · rw [if_pos h, if_pos (by omega), if_pos (by omega)]
    · subst h
      rw [if_neg (by omega), if_pos rfl, if_pos (by omega)]
    · rw [if_neg (by omega), if_neg (by omega), if_neg (by omega)]
theorem tab_eqv (p : List UInt8) (n : Nat) (h : p.length ≤ n) : Eqv (tabL (co p) n) p := fun k => by
  rw [co_tab]
  split
  · rfl
  · rw [co_ge p k (by omega)]
theorem plain_tab (p : List UInt8) (n : Nat) (h : p.length ≤ n) : plainL (tabL (co p) n) = plainL p := plain_congr (tab_eqv p n h)

/-- A product's coefficient as a sum. -/
def sumL' (p q : List UInt8) (k : Nat) : Nat → UInt8
  | 0 => 0
  | n + 1 => addB (sumL' p q k n) (mulB (co p n) (co q (k - n)))
theorem sum_cons (a : UInt8) (p q : List UInt8) (k : Nat) : ∀ n, sumL' (a :: p) q (k + 1) (n + 1) = addB (mulB a (co q (k + 1))) (sumL' p q k n)
  | 0 => by
    rw [sumL', sumL', sumL', zero_add, add_zero]
    rfl
  | n + 1 => by
    rw [sumL', sum_cons a p q k n, sumL', co_succ, show k + 1 - (n + 1) = k - n by omega, add_assoc]
theorem mul_sum : ∀ (p q : List UInt8) (k : Nat), co (mulL p q) k = sumL' p q k (k + 1)
  | [], q, k => by
    have : ∀ n, sumL' [] q k n = 0 := fun n => by
      induction n with
      | zero => rfl
      | succ n ih => rw [sumL', ih, co_nil, zero_mul, add_zero]
    rw [mulL, co_nil, this]
  | a :: p, q, 0 => by
    rw [mulL, co_add, co_scale, co_zero, add_zero, sumL', sumL', zero_add]
    rfl
  | a :: p, q, k + 1 => by rw [mulL, co_add, co_scale, co_succ, mul_sum p q k, sum_cons]
theorem sum_past (p q : List UInt8) (k : Nat) : ∀ n, p.length ≤ n → sumL' p q k n = sumL' p q k p.length
  | 0, h => by
    have : p.length = 0 := by omega
    rw [this]
  | n + 1, h => by
    by_cases e : p.length = n + 1
    · rw [e]
    · rw [sumL', co_ge p n (by omega), zero_mul, add_zero, sum_past p q k n (by omega)]
theorem mul_sum_min (p q : List UInt8) (k : Nat) : co (mulL p q) k = sumL' p q k (min (k + 1) p.length) := by
  rw [mul_sum]
  rcases Nat.lt_or_ge p.length (k + 1) with h | h
  · rw [Nat.min_eq_right (by omega), sum_past p q k (k + 1) (by omega)]
  · rw [Nat.min_eq_left h]
theorem mulL_length_le (p q : List UInt8) : (mulL p q).length ≤ p.length + q.length := by
  induction p with
  | nil => simp [mulL]
  | cons a p ih =>
    rw [mulL, addL_length, scaleL, List.length_map, List.length_cons, List.length_cons]
    omega

/-- A polynomial times a power of x. -/
def shiftL (n : Nat) (p : List UInt8) : List UInt8 := List.replicate n 0 ++ p
theorem shift_succ (n : Nat) (p : List UInt8) : shiftL (n + 1) p = 0 :: shiftL n p := rfl
theorem shift_length (n : Nat) (p : List UInt8) : (shiftL n p).length = n + p.length := by simp [shiftL]
theorem co_shift : ∀ (n : Nat) (p : List UInt8) (k : Nat), co (shiftL n p) (n + k) = co p k
  | 0, p, k => by
    rw [Nat.zero_add]
    rfl
  | n + 1, p, k => by rw [shift_succ, show n + 1 + k = n + k + 1 by omega, co_succ, co_shift n p k]
theorem mul_shift_one (c : UInt8) (q : List UInt8) : ∀ n, Eqv (mulL (shiftL n [c]) q) (shiftL n (scaleL c q))
  | 0 => by
    show Eqv (addL (scaleL c q) (0 :: mulL [] q)) (scaleL c q)
    exact (add_congr (Eqv.refl _) zero_cons).trans (addL_nil _)
  | n + 1 => by
    rw [shift_succ, shift_succ]
    exact (mulL_shift_left _ _).trans ((mul_shift_one c q n).cons 0)

/-- One step of a division: what is left is shorter, and it still makes p. -/
theorem quo_step {p q a l : List UInt8} {n : Nat} {t : UInt8} (hl : plainL l = l) (hq : plainL q = q) (hqn : q ≠ []) (hn : l.length = n + q.length) (ht : t = mulB (co l (l.length - 1)) (invB (co q (q.length - 1)))) (h : Eqv (addL (mulL a q) l) p) :
    Eqv (addL (mulL (plainL (addL a (shiftL n [t]))) q) (plainL (addL l (shiftL n (scaleL t q))))) p ∧ (plainL (addL l (shiftL n (scaleL t q)))).length < l.length := by
  have hq0 : 0 < q.length := List.length_pos_iff.2 hqn
  have htop : co q (q.length - 1) ≠ 0 := by
    have := plain_top q (by rw [hq]; exact hqn)
    rwa [hq] at this
  refine ⟨?_, ?_⟩
  · have e1 : Eqv (mulL (plainL (addL a (shiftL n [t]))) q) (addL (mulL a q) (shiftL n (scaleL t q))) :=
      (mul_congr (plain_eqv _) (Eqv.refl q)).trans ((mulL_add_left _ _ _).trans (add_congr (Eqv.refl _) (mul_shift_one t q n)))
    refine (add_congr e1 (plain_eqv _)).trans ?_
    refine Eqv.trans (fun k => ?_) h
    simp only [co_add]
    have : ∀ x y z : UInt8, addB (addB x z) (addB y z) = addB x y := fun x y z => by
      have h1 : addB (addB x z) (addB y z) = addB (addB x y) (addB z z) := add_four x z y z
      rw [h1, add_self, add_zero]
    exact this _ _ _
  · have hle : (plainL (addL l (shiftL n (scaleL t q)))).length ≤ l.length - 1 := by
      refine (plain_le_iff _ _).2 fun k hk => ?_
      rw [co_add]
      rcases Nat.lt_or_ge k l.length with h1 | h1
      · have hk' : k = l.length - 1 := by omega
        have hk2 : k = n + (q.length - 1) := by omega
        rw [hk2, co_shift, co_scale, ← hk2, hk', ht, mul_assoc, mul_comm (invB _), mul_inv _ htop, mul_one, add_self]
      · rw [co_ge l k h1, co_ge _ k (by rw [shift_length, scaleL, List.length_map]; omega), add_zero]
    omega
end Go.Proofs.YteppocjgodmpdaaGreatDoor
/-
  What the reference's calls of layer 7 answer: bits, powers of two, products, powers, inverses, logarithms. No conditions but those typed.
-/
namespace Go.Proofs.YteppocjgodmpdaaGreatDoor
set_option maxRecDepth 100000
open Go.RowKit
set_option linter.unusedSimpArgs false
set_option linter.unusedVariables false

theorem refbit_any (n k : Nat) (w : World) (hn : n ≤ 1000000000) (hk : k ≤ 60) :
    Calls Tryz.prog 198 #[.int .i64 (n : Int), .int .i64 (k : Int)] w fun e w' => e = .returned (.int .i64 ((n / 2 ^ k % 2 : Nat) : Int)) ∧ w = w' := by
  go_enter Tryz.func198, Tryz.ntmps198
  go_wp2
  go_loop [0, 5] (fun v i => ∃ j : Nat, j ≤ k ∧ i = .int .i64 (j : Int) ∧ v = .int .i64 ((n / 2 ^ j : Nat) : Int)) (fun _ i => k - (intOf i).toNat)
  case atStart => exact ⟨0, by omega, rfl, by simp⟩
  case round =>
    obtain ⟨j, hj, rfl, rfl⟩ := hrel
    have hle : n / 2 ^ j ≤ n := Nat.div_le_self _ _
    by_cases hlt : j < k
    · have HN : Hid (n / 2 ^ (j + 1) = n / 2 ^ j / 2) := by unfold Hid; rw [Nat.pow_succ, Nat.div_div_eq_div_mul]
      generalize n / 2 ^ j = v at hle HN ⊢
      go_wp2
      go_round
      case rel => exact ⟨j + 1, by omega, by go_num, by rw [HN.out]; go_num⟩
      case measure => simp [intOf]; omega
    · have hjk : j = k := by omega
      subst hjk
      generalize hv : n / 2 ^ j = v at hle
      have HV := Lib.hid hv
      clear hv
      go_wp2
      go_ret
      exact ⟨ret_int (by rw [← HV.out]; simp), rfl⟩
theorem refpower_any (k : Nat) (w : World) (hk : k ≤ 20) :
    Calls Tryz.prog 199 #[.int .i64 (k : Int)] w fun e w' => e = .returned (.int .i64 ((2 ^ k : Nat) : Int)) ∧ w = w' := by
  go_enter Tryz.func199, Tryz.ntmps199
  go_wp2
  go_loop [3, 4] (fun v i => ∃ j : Nat, j ≤ k ∧ i = .int .i64 (j : Int) ∧ v = .int .i64 ((2 ^ j : Nat) : Int)) (fun _ i => k - (intOf i).toNat)
  case atStart => exact ⟨0, by omega, rfl, rfl⟩
  case round =>
    obtain ⟨j, hj, rfl, rfl⟩ := hrel
    have hle : 2 ^ j ≤ 2 ^ 20 := Nat.pow_le_pow_right (by omega) (by omega)
    by_cases hlt : j < k
    · have HN : Hid (2 ^ (j + 1) = 2 ^ j * 2) := Nat.pow_succ 2 j
      generalize 2 ^ j = v at hle HN ⊢
      have hv : (v : Int) ≤ 1048576 := by omega
      clear hle
      go_wp2
      go_round
      case rel => exact ⟨j + 1, by omega, by go_num, by rw [HN.out]; congr 1; omega⟩
      case measure => simp [intOf]; omega
    · have hjk : j = k := by omega
      subst hjk
      generalize hv : 2 ^ j = v at hle
      have HV := Lib.hid hv
      clear hv hle
      go_wp2
      go_ret
      exact ⟨ret_int (by rw [← HV.out]; simp), rfl⟩

theorem i64_xor_nat (a b : Nat) (ha : a < 4611686018427387904) (hb : b < 4611686018427387904) : bits .xor .i64 (a : Int) (b : Int) = ((a ^^^ b : Nat) : Int) := by
  have hx : a ^^^ b < 2 ^ 62 := Nat.xor_lt_two_pow (by omega) (by omega)
  have e : ∀ x : Nat, x < 4611686018427387904 → (BitVec.ofInt 64 (x : Int)).toNat = x := fun x h => by
    rw [BitVec.ofInt_natCast, BitVec.toNat_ofNat]
    exact Nat.mod_eq_of_lt (by omega)
  show IntKind.i64.wrap ((BitVec.ofInt 64 (a : Int) ^^^ BitVec.ofInt 64 (b : Int)).toNat : Int) = _
  rw [BitVec.toNat_xor, e a ha, e b hb, IntKind.wrap_i64]
  omega
theorem clN_lt (a b : Nat) (ha : a < 256) : ∀ i, i ≤ 8 → clN a b i < 65536
  | 0, _ => by simp [clN]
  | i + 1, h => by
    have ih := clN_lt a b ha i (by omega)
    unfold clN
    split
    · have h2 : 2 ^ i ≤ 2 ^ 7 := Nat.pow_le_pow_right (by omega) (by omega)
      have h3 : a * 2 ^ i ≤ 255 * 2 ^ 7 := Nat.mul_le_mul (by omega) h2
      exact Nat.xor_lt_two_pow (n := 16) (by omega) (by omega)
    · exact ih
/-- What is left, behind j bits. -/
def leftN (p : Nat) : Nat → Nat
  | 0 => p
  | j + 1 => stepN (leftN p j) (14 - j)
theorem leftN_seven (p : Nat) : leftN p 7 = redN p := rfl
theorem leftN_lt (p : Nat) (hp : p < 65536) : ∀ j, j ≤ 7 → leftN p j < 65536
  | 0, _ => hp
  | j + 1, h => by
    have ih := leftN_lt p hp j (by omega)
    rw [leftN, stepN]
    split
    · have h2 : 2 ^ (14 - j - 8) ≤ 2 ^ 6 := Nat.pow_le_pow_right (by omega) (by omega)
      exact Nat.xor_lt_two_pow (n := 16) (by omega) (by omega)
    · exact ih

set_option maxRecDepth 100000 in
theorem refmul_any (a b : UInt8) (w : World) :
    Calls Tryz.prog 128 #[.int .u8 (a.toNat : Int), .int .u8 (b.toNat : Int)] w fun e w' => e = .returned (.int .u8 ((mulB a b).toNat : Int)) ∧ w = w' := by
  obtain ⟨x, hx⟩ : ∃ x, a.toNat = x := ⟨_, rfl⟩
  obtain ⟨y, hy⟩ : ∃ y, b.toNat = y := ⟨_, rfl⟩
  have hx8 : x < 256 := by rw [← hx]; exact a.toNat_lt
  have hy8 : y < 256 := by rw [← hy]; exact b.toNat_lt
  have HE : Hid ((mulB a b).toNat = leftN (clN x y 8) 7 % 256) := by
    unfold Hid mulB mulN
    rw [UInt8.toNat_ofNat', hx, hy, leftN_seven]
  rw [HE.out, hx, hy]
  clear hx hy HE
  have b1 : IntKind.i64.wrap (x : Int) = (x : Int) := by rw [IntKind.wrap_i64]; omega
  have b2 : IntKind.i64.wrap (y : Int) = (y : Int) := by rw [IntKind.wrap_i64]; omega
  go_enter Tryz.func128, Tryz.ntmps128
  go_wp2
  go_loop [5, 6] (fun p i => ∃ j : Nat, j ≤ 8 ∧ i = .int .i64 (j : Int) ∧ p = .int .i64 (clN x y j : Int)) (fun _ i => 8 - (intOf i).toNat)
  case atStart => exact ⟨0, by omega, rfl, rfl⟩
  case round =>
    obtain ⟨j, hj, rfl, rfl⟩ := hrel
    have hp := clN_lt x y hx8 j hj
    by_cases hlt : j < 8
    · have i1 : (j : Int) < 8 := by omega
      have i0 : (0 : Int) ≤ (j : Int) := by omega
      have HN : Hid (clN x y (j + 1) = if y / 2 ^ j % 2 = 1 then clN x y j ^^^ x * 2 ^ j else clN x y j) := rfl
      have h2 : 2 ^ j ≤ 2 ^ 7 := Nat.pow_le_pow_right (by omega) (by omega)
      have h3 : x * 2 ^ j ≤ 255 * 2 ^ 7 := Nat.mul_le_mul (by omega) h2
      have hxor := i64_xor_nat (clN x y j) (x * 2 ^ j) (by omega) (by omega)
      have hwm : IntKind.i64.wrap ((x * 2 ^ j : Nat) : Int) = ((x * 2 ^ j : Nat) : Int) := by rw [IntKind.wrap_i64]; omega
      have hmm : (x : Int) * ((2 ^ j : Nat) : Int) = ((x * 2 ^ j : Nat) : Int) := by rw [← Int.natCast_mul]
      by_cases hbit : y / 2 ^ j % 2 = 1
      · rw [if_pos hbit] at HN
        have HB : Hid (((y / 2 ^ j % 2 : Nat) : Int) = 1) := by unfold Hid; omega
        generalize hc : clN x y j = c at HN hxor hp
        have HC := Lib.hid hc
        generalize ht : x * 2 ^ j = t at HN hxor hwm hmm
        have HT := Lib.hid ht
        generalize hr : c ^^^ t = r at HN hxor
        generalize hq : 2 ^ j = q at hmm
        have HQ := Lib.hid hq
        clear hc ht hr hq h2 h3 hbit hp
        go_wp2_with fail
        refine (refbit_any y j _ (by omega) (by omega)).mono ?_
        rintro e w' ⟨rfl, rfl⟩
        rw [HB.out]
        go_wp2_with fail
        refine (refpower_any j _ (by omega)).mono ?_
        rintro e w' ⟨rfl, rfl⟩
        rw [HQ.out]
        go_wp2_with fail
        go_round
        case rel => exact ⟨j + 1, by omega, by go_num, by rw [HN.out]⟩
        case measure => simp [intOf]; omega
      · rw [if_neg hbit] at HN
        have HB : Hid (((y / 2 ^ j % 2 : Nat) : Int) = 0) := by unfold Hid; omega
        generalize hc : clN x y j = c at HN hxor hp
        have HC := Lib.hid hc
        clear hc h2 h3 hbit hp hxor hwm hmm
        go_wp2_with fail
        refine (refbit_any y j _ (by omega) (by omega)).mono ?_
        rintro e w' ⟨rfl, rfl⟩
        rw [HB.out]
        go_wp2_with fail
        go_round
        case rel => exact ⟨j + 1, by omega, by go_num, by rw [HN.out]⟩
        case measure => simp [intOf]; omega
    · have hj8 : j = 8 := by omega
      subst hj8
      generalize hc : clN x y 8 = c at hp
      have HC := Lib.hid hc
      have HL : Hid (∀ j, j ≤ 7 → leftN c j < 65536) := leftN_lt c hp
      clear hc hlt hj b1 b2
      go_wp2
      go_loop [5, 7] (fun p k => ∃ j : Nat, j ≤ 7 ∧ k = .int .i64 (14 - (j : Int)) ∧ p = .int .i64 (leftN c j : Int)) (fun _ k => (intOf k - 7).toNat)
      case atStart => exact ⟨0, by omega, rfl, rfl⟩
      case round =>
        obtain ⟨j, hj, rfl, rfl⟩ := hrel
        have hl := HL.out j hj
        by_cases hlt : j < 7
        · have i1 : (8 : Int) ≤ 14 - (j : Int) := by omega
          obtain ⟨k, hk⟩ : ∃ k : Nat, k = 14 - j := ⟨_, rfl⟩
          have ek : (14 : Int) - (j : Int) = (k : Int) := by omega
          have HK := Lib.hid hk
          have HN : Hid (leftN c (j + 1) = if leftN c j / 2 ^ k % 2 = 1 then leftN c j ^^^ 301 * 2 ^ (k - 8) else leftN c j) := by unfold Hid; rw [hk]; rfl
          have h2 : 2 ^ (k - 8) ≤ 2 ^ 6 := Nat.pow_le_pow_right (by omega) (by omega)
          have hxor := i64_xor_nat (leftN c j) (301 * 2 ^ (k - 8)) (by omega) (by omega)
          have hmm : (301 : Int) * ((2 ^ (k - 8) : Nat) : Int) = ((301 * 2 ^ (k - 8) : Nat) : Int) := by omega
          have hwm : IntKind.i64.wrap ((301 * 2 ^ (k - 8) : Nat) : Int) = ((301 * 2 ^ (k - 8) : Nat) : Int) := by rw [IntKind.wrap_i64]; omega
          have e8 : (k : Int) - 8 = ((k - 8 : Nat) : Int) := by omega
          have e9 : IntKind.i64.wrap ((k - 8 : Nat) : Int) = ((k - 8 : Nat) : Int) := by rw [IntKind.wrap_i64]; omega
          have e10 : (k : Int) - 1 = 14 - ((j : Int) + 1) := by omega
          have k8 : 8 ≤ k := by omega
          have k14 : k ≤ 14 := by omega
          rw [ek] at i1 ⊢
          by_cases hbit : leftN c j / 2 ^ k % 2 = 1
          · rw [if_pos hbit] at HN
            have HB : Hid (((leftN c j / 2 ^ k % 2 : Nat) : Int) = 1) := by unfold Hid; omega
            generalize hc : leftN c j = p at HN hxor hl HB
            generalize ht : 301 * 2 ^ (k - 8) = t at HN hxor hwm hmm
            generalize hr : p ^^^ t = r at HN hxor
            generalize hq : 2 ^ (k - 8) = q at hwm hmm
            have HQ := Lib.hid hq
            generalize hs : k - 8 = s at e8 e9 HQ
            have HS : Hid (s ≤ 20) := by unfold Hid; omega
            clear hc ht hr hq h2 hbit ek hk hs
            go_wp2_with fail
            refine (refbit_any p k _ (by omega) (by omega)).mono ?_
            rintro e w' ⟨rfl, rfl⟩
            rw [HB.out]
            go_wp2_with fail
            refine (refpower_any s _ HS.out).mono ?_
            rintro e w' ⟨rfl, rfl⟩
            rw [HQ.out]
            go_wp2_with fail
            go_round
            case rel => exact ⟨j + 1, by omega, by go_num, by rw [HN.out]⟩
            case measure => simp [intOf]; omega
          · rw [if_neg hbit] at HN
            have HB : Hid (((leftN c j / 2 ^ k % 2 : Nat) : Int) = 0) := by unfold Hid; omega
            generalize hc : leftN c j = p at HN hl HB
            clear hc hxor hmm hwm e8 e9 h2 hbit ek hk
            go_wp2_with fail
            refine (refbit_any p k _ (by omega) (by omega)).mono ?_
            rintro e w' ⟨rfl, rfl⟩
            rw [HB.out]
            go_wp2_with fail
            go_round
            case rel => exact ⟨j + 1, by omega, by go_num, by rw [HN.out]⟩
            case measure => simp [intOf]; omega
        · have hj7 : j = 7 := by omega
          subst hj7
          generalize hc : leftN c 7 = p at hl
          have HP := Lib.hid hc
          have m1 : IntKind.u8.wrap (p : Int) = ((p % 256 : Nat) : Int) := by rw [IntKind.wrap_u8']; omega
          clear hc hlt
          go_wp2
          go_ret
          exact ⟨ret_int (by rw [HC.out, HP.out]), rfl⟩

/-! ### Powers -/
def powZ (a : UInt8) (n : Int) : UInt8 := if a = 0 then (if n = 0 then 1 else 0) else powB a (n % 255).toNat
theorem refpow_core (a : UInt8) (n m : Int) (r : Nat) (w : World) (ha : a ≠ 0) (hm : n.tmod 255 = m) (hr : (r : Int) = if m < 0 then m + 255 else m) (hr2 : r < 255) :
    Calls Tryz.prog 243 #[.int .u8 (a.toNat : Int), .int .i64 n] w fun e w' => e = .returned (.int .u8 ((powB a r).toNat : Int)) ∧ w = w' := by
  have hne : a.toNat ≠ 0 := fun e => ha (UInt8.toNat_inj.1 e)
  have z1 : ((a.toNat : Int) == 0) = false := beq_eq_false_iff_ne.2 (fun h => hne (by omega))
  have hmb : -255 ≤ m ∧ m < 255 := by
    by_cases h : m < 0
    · rw [if_pos h] at hr; omega
    · rw [if_neg h] at hr; omega
  obtain ⟨l1, l2⟩ := hmb
  have HR2 := Lib.hid hr2
  clear ha hne
  by_cases hneg : m < 0
  · rw [if_pos hneg] at hr
    have hs : m + 255 = (r : Int) := by omega
    have hw1 : IntKind.i64.wrap (r : Int) = (r : Int) := by rw [IntKind.wrap_i64]; omega
    clear hr hr2
    go_enter Tryz.func243, Tryz.ntmps243
    go_wp2
    go_loop [5, 6] (fun p i => ∃ j : Nat, j ≤ r ∧ i = .int .i64 (j : Int) ∧ p = .int .u8 ((powB a j).toNat : Int)) (fun _ i => r - (intOf i).toNat)
    case atStart => exact ⟨0, by omega, rfl, rfl⟩
    case round =>
      obtain ⟨j, hj, rfl, rfl⟩ := hrel
      have hr2 := HR2.out
      by_cases hlt : j < r
      · have HN : Hid (powB a (j + 1) = mulB (powB a j) a) := rfl
        generalize powB a j = p at HN ⊢
        go_wp2_with fail
        refine (refmul_any p a _).mono ?_
        rintro e w' ⟨rfl, rfl⟩
        rw [← HN.out]
        generalize hq : powB a (j + 1) = q
        have HQ := Lib.hid hq
        clear hq
        go_wp2_with fail
        go_round
        case rel => exact ⟨j + 1, by omega, by go_num, by rw [HQ.out]⟩
        case measure => simp [intOf]; omega
      · have hjr : j = r := by omega
        subst hjr
        generalize hq : powB a j = q
        have HQ := Lib.hid hq
        clear hq
        go_wp2
        go_ret
        exact ⟨ret_int (by rw [HQ.out]), rfl⟩
  · rw [if_neg hneg] at hr
    subst hr
    have h0 : ¬ (r : Int) < 0 := by omega
    clear hr2 hneg l1
    go_enter Tryz.func243, Tryz.ntmps243
    go_wp2
    go_loop [5, 6] (fun p i => ∃ j : Nat, j ≤ r ∧ i = .int .i64 (j : Int) ∧ p = .int .u8 ((powB a j).toNat : Int)) (fun _ i => r - (intOf i).toNat)
    case atStart => exact ⟨0, by omega, rfl, rfl⟩
    case round =>
      obtain ⟨j, hj, rfl, rfl⟩ := hrel
      have hr2 := HR2.out
      by_cases hlt : j < r
      · have HN : Hid (powB a (j + 1) = mulB (powB a j) a) := rfl
        generalize powB a j = p at HN ⊢
        go_wp2_with fail
        refine (refmul_any p a _).mono ?_
        rintro e w' ⟨rfl, rfl⟩
        rw [← HN.out]
        generalize hq : powB a (j + 1) = q
        have HQ := Lib.hid hq
        clear hq
        go_wp2_with fail
        go_round
        case rel => exact ⟨j + 1, by omega, by go_num, by rw [HQ.out]⟩
        case measure => simp [intOf]; omega
      · have hjr : j = r := by omega
        subst hjr
        generalize hq : powB a j = q
        have HQ := Lib.hid hq
        clear hq
        go_wp2
        go_ret
        exact ⟨ret_int (by rw [HQ.out]), rfl⟩
theorem refpow_any (a : UInt8) (n : Int) (w : World) :
    Calls Tryz.prog 243 #[.int .u8 (a.toNat : Int), .int .i64 n] w fun e w' => e = .returned (.int .u8 ((powZ a n).toNat : Int)) ∧ w = w' := by
  by_cases ha : a = 0
  · subst ha
    by_cases hn : n = 0
    · subst hn
      have HE : Hid (powZ 0 0 = 1) := rfl
      rw [HE.out]
      go_enter Tryz.func243, Tryz.ntmps243
      go_wp2
      go_ret
      exact ⟨rfl, rfl⟩
    · have HE : Hid (powZ 0 n = 0) := by unfold Hid powZ; rw [if_pos rfl, if_neg hn]
      rw [HE.out]
      have z : (n == 0) = false := beq_eq_false_iff_ne.2 hn
      go_enter Tryz.func243, Tryz.ntmps243
      go_wp2
      go_ret
      exact ⟨rfl, rfl⟩
  · have HE : Hid (powZ a n = powB a (n % 255).toNat) := by unfold Hid powZ; rw [if_neg ha]
    rw [HE.out]
    refine refpow_core a n (n.tmod 255) _ w ha rfl ?_ (by omega)
    rw [Int.tmod_eq_emod]
    split <;> split <;> omega
theorem refexp_any (n : Int) (w : World) :
    Calls Tryz.prog 197 #[.int .i64 n] w fun e w' => e = .returned (.int .u8 ((powZ 2 n).toNat : Int)) ∧ w = w' := by
  go_enter Tryz.func197, Tryz.ntmps197
  go_wp2_with fail
  refine (refpow_any 2 n _).mono ?_
  rintro e w' ⟨rfl, rfl⟩
  go_wp2_with fail
  go_ret
  exact ⟨rfl, rfl⟩

/-! ### Inverses and logarithms, by trying -/
set_option maxRecDepth 100000 in
theorem refinv_any (a : UInt8) (w : World) (ha : a ≠ 0) :
    Calls Tryz.prog 262 #[.int .u8 (a.toNat : Int)] w fun e w' => e = .returned (.int .u8 ((invB a).toNat : Int)) ∧ w = w' := by
  have hi0 : (invB a).toNat ≠ 0 := fun e => inv_ne a ha (UInt8.toNat_inj.1 e)
  have hi8 : (invB a).toNat < 256 := (invB a).toNat_lt
  obtain ⟨v, hv⟩ : ∃ v, (invB a).toNat = v := ⟨_, rfl⟩
  have HV := Lib.hid hv
  rw [hv] at hi0 hi8
  have HI := Lib.hid hi0
  have HA := Lib.hid ha
  clear hv hi0 ha
  go_enter Tryz.func262, Tryz.ntmps262
  go_wp2
  go_loop [3] (fun i => ∃ j : Nat, 1 ≤ j ∧ j ≤ v ∧ i = .int .i64 (j : Int)) (fun i => v - (intOf i).toNat)
  case atStart => exact ⟨1, by omega, by have := HI.out; omega, rfl⟩
  case round =>
    obtain ⟨j, h1, hj, rfl⟩ := hrel
    have i1 : (j : Int) < 256 := by omega
    have hw1 : IntKind.u8.wrap (j : Int) = ((UInt8.ofNat j).toNat : Int) := by rw [IntKind.wrap_u8', UInt8.toNat_ofNat']; omega
    have hx : (UInt8.ofNat j).toNat = j := by rw [UInt8.toNat_ofNat']; omega
    by_cases hlt : j < v
    · have hne : mulB a (UInt8.ofNat j) ≠ 1 := by
        intro h
        have := inv_unique a _ h
        have e := HV.out
        rw [← this, hx] at e
        omega
      have HB : Hid ((((mulB a (UInt8.ofNat j)).toNat : Int) == 1) = false) := beq_eq_false_iff_ne.2 (fun h => hne (UInt8.toNat_inj.1 (by show _ = 1; omega)))
      generalize UInt8.ofNat j = x at hw1 HB
      clear hx hne
      go_wp2_with fail
      refine (refmul_any a x _).mono ?_
      rintro e w' ⟨rfl, rfl⟩
      have hb := HB.out
      generalize (mulB a x).toNat = z at hb
      go_wp2_with fail
      go_round
      case rel => exact ⟨j + 1, by omega, by omega, by go_num⟩
      case measure => simp [intOf]; omega
    · have hjv : j = v := by omega
      have e : UInt8.ofNat j = invB a := by
        apply UInt8.toNat_inj.1
        rw [hx, HV.out]
        exact hjv
      have HB : Hid (((mulB a (UInt8.ofNat j)).toNat : Int) = 1) := by unfold Hid; rw [e, mul_inv a HA.out]; rfl
      have HE := Lib.hid e
      generalize UInt8.ofNat j = x at hw1 HB HE
      clear hx e hlt hjv
      go_wp2_with fail
      refine (refmul_any a x _).mono ?_
      rintro e w' ⟨rfl, rfl⟩
      rw [HB.out]
      go_wp2_with fail
      go_ret
      exact ⟨ret_int (by rw [HE.out]), rfl⟩
theorem powZ_two (j : Nat) (h : j < 255) : powZ 2 (j : Int) = powB 2 j := by
  unfold powZ
  rw [if_neg (by decide)]
  congr 1
  omega
end Go.Proofs.YteppocjgodmpdaaGreatDoor
/-
  What the reference's calls of layer 8 answer: At, Plain, Add, Eval, shift, Times. No conditions but those typed.
-/
namespace Go.Proofs.YteppocjgodmpdaaGreatDoor
set_option maxRecDepth 100000
open Go.RowKit
set_option linter.unusedSimpArgs false
set_option linter.unusedVariables false

/-- A call that hands back a list of bytes. -/
def RetQ (w : World) (l : List UInt8) (e : Ending) (w' : World) : Prop := ∃ A n c, e = .returned (.slice A n c) ∧ Hid (l.length = n) ∧ n ≤ c ∧ Rd vB w' A l ∧ Below w.heap.size w w'
theorem RetQ.own {w w' : World} {l : List UInt8} {base : Nat} {e : TypeId} {v : Value} {n : Nat} (hn : l.length = n) (h : w'.ownsRow base e 1 v n (l.map vB)) (hb : Below w.heap.size w w') : RetQ w l (.returned v) w' := by
  subst hn
  obtain ⟨A, c, rfl, hc, hr⟩ := own_slice h
  exact ⟨A, l.length, c, rfl, rfl, hc, hr, hb⟩

theorem refat_any (p : List UInt8) (k n : Nat) (A : Option Addr) (c : Nat) (w : World) (HN : Hid (p.length = n)) (hr : Rd vB w A p) :
    Calls Tryz.prog 241 #[.slice A n c, .int .i64 (k : Int)] w fun e w' => e = .returned (.int .u8 ((co p k).toNat : Int)) ∧ w = w' := by
  have e1 := HN.out
  subst e1
  have i0 : ¬ (k : Int) < 0 := by omega
  have i1 : (0 : Int) ≤ (k : Int) := by omega
  by_cases h : k < p.length
  · obtain ⟨b, o, rfl, hb, hcell⟩ := hr.at h
    have hc := hcell k h
    have HC := Lib.hid (co_lt p k h)
    unfold vB at hc
    have j0 : ¬ (p.length : Int) ≤ (k : Int) := by omega
    have j2 : (k : Int) < (p.length : Int) := by omega
    have j1 : ¬ p.length ≤ k := by omega
    rw [HC.out]
    generalize p[k] = x at hc
    clear hcell HC hr
    go_enter Tryz.func241, Tryz.ntmps241
    go_wp2_with fail
    go_ret
    exact ⟨rfl, rfl⟩
  · have j0 : (p.length : Int) ≤ (k : Int) := by omega
    have j1 : p.length ≤ k := by omega
    rw [co_ge p k j1]
    go_enter Tryz.func241, Tryz.ntmps241
    go_wp2_with fail
    go_ret
    exact ⟨rfl, rfl⟩

/-! ### Plain -/
set_option maxHeartbeats 1000000 in
theorem refplain_any (p : List UInt8) (n : Nat) (A : Option Addr) (c : Nat) (w : World) (HN : Hid (p.length = n)) (hr : Rd vB w A p) (hc : n ≤ c) (hn : n ≤ 1000000) :
    Calls Tryz.prog 242 #[.slice A n c] w (RetQ w (plainL p)) := by
  obtain ⟨i0, hi, hz0, hz1, hz2⟩ := info_parts info_u8
  go_enter Tryz.func242, Tryz.ntmps242
  go_wp2_with fail
  go_loopw [3] (fun i wr => ∃ k : Nat, k ≤ n ∧ i = .int .i64 (k : Int) ∧ (∀ j, k ≤ j → co p j = 0) ∧ w = wr) (fun i _ => (intOf i).toNat)
  case atStart => exact ⟨n, Nat.le_refl _, rfl, fun j hj => co_ge p j (by rw [HN.out]; exact hj), rfl⟩
  case round =>
    obtain ⟨k, hk, rfl, hz, rfl⟩ := hrel
    have HZ := Lib.hid hz
    clear hz
    have done : ∀ (hfin : k = 0 ∨ co p (k - 1) ≠ 0), plainL p = p.take k := fun hfin => plain_take p k (by rw [HN.out]; exact hk) HZ.out hfin
    have HD := Lib.hid done
    clear done
    have htk : Rd vB (w.alloc (.cells #[] 5)) A (p.take k) := (hr.take k).keep (below_new (Below.refl _ _) _)
    have hlk : (p.take k).length = k := by rw [List.length_take, HN.out]; omega
    have HLK := Lib.hid hlk
    clear hlk
    have hown0 : (w.alloc (.cells #[] 5)).ownsRow w.heap.size 5 1 (.slice (some ⟨w.heap.size, 0, none⟩) 0 0) 0 [] := World.ownsRow_made w #[] 0 (Nat.le_refl _) (by unfold maxLen; omega) rfl
    have hB0 := below_new (Below.refl _ w) (.cells #[] 5)
    have hcut := run_cut_to 22 5 Tryz.underlying22 size_uint8 A n c k (by omega) (w.alloc (.cells #[] 5))
    by_cases h0 : k = 0
    · subst h0
      have HP := Lib.hid (HD.out (.inl rfl))
      have hcut0 : (Instr.slice 22 (.slice A n c) none (some (.int .i64 0)) none).run Tryz.prog (w.alloc (.cells #[] 5)) = .ok (.slice A 0 c) (w.alloc (.cells #[] 5)) := hcut
      clear HD HZ hcut
      go_wp2_with (at_builtin; refine wpList_append_rd _ rfl (.tmp 18) (.tmp 21) 22 rfl w.heap.size 5 i0 (.int .u8 0) 1 Tryz.underlying22 hi hz0 hz1 hz2 rfl _ _ _ rfl hown0 A (p.take 0) c (by rw [HLK.out]; rfl) htk vB_one (by rw [HLK.out]; unfold maxLen; omega) (by rw [HLK.out]; omega) (by simp) ?_; intro v1 w1 hown1 hgrow1)
      go_ret
      rw [HP.out]
      rw [Nat.zero_add, List.nil_append] at hown1
      exact RetQ.own rfl hown1 (hB0.grown hgrow1 (by simp) (fun k hk => (hown0.lt k hk).1))
    · obtain ⟨m, rfl⟩ : ∃ m, k = m + 1 := ⟨k - 1, by omega⟩
      have hm : m < p.length := by rw [HN.out]; omega
      obtain ⟨b, o, rfl, hb, hcell⟩ := hr.at hm
      have hc0 := hcell m hm
      have HC := Lib.hid (co_lt p m hm)
      unfold vB at hc0
      have i1 : (0 : Int) < (m : Int) + 1 := by omega
      have i2 : (0 : Int) ≤ (m : Int) := by omega
      have i3 : (m : Int) < (n : Int) := by omega
      by_cases hx : p[m] = 0
      · have hz' : Hid (∀ j, m ≤ j → co p j = 0) := fun j hj => by
          rcases Nat.eq_or_lt_of_le hj with e | e
          · rw [← e, HC.out, hx]
          · exact HZ.out j e
        rw [hx] at hc0
        have hc1 : w.cell? ⟨b, o + m, none⟩ = some (.int .u8 0) := hc0
        clear HD HZ hcell HC hc0 hx htk hown0 hcut hB0
        go_wp2_with fail
        go_roundw
        case rel => exact ⟨m, by omega, by go_num, hz'.out, by simp⟩
        case measure => simp [intOf] <;> omega
      · have HP := Lib.hid (HD.out (.inr (by rw [Nat.add_sub_cancel, HC.out]; exact hx)))
        have hne : ((p[m].toNat : Int) == 0) = false := by
          have : p[m].toNat ≠ 0 := fun e => hx (UInt8.toNat_inj.1 e)
          simp
          omega
        generalize p[m] = x at hc0 hne
        clear HD HZ hcell HC hx
        go_wp2_with (at_builtin; refine wpList_append_rd _ rfl (.tmp 18) (.tmp 21) 22 rfl w.heap.size 5 i0 (.int .u8 0) 1 Tryz.underlying22 hi hz0 hz1 hz2 rfl _ _ _ rfl hown0 _ (p.take (m + 1)) c (by rw [HLK.out]; rfl) htk vB_one (by rw [HLK.out]; unfold maxLen; omega) (by rw [HLK.out]; omega) (by simp) ?_; intro v1 w1 hown1 hgrow1)
        go_ret
        rw [HP.out]
        rw [Nat.zero_add, List.nil_append] at hown1
        exact RetQ.own rfl hown1 (hB0.grown hgrow1 (by simp) (fun k hk => (hown0.lt k hk).1))

/-! ### Add -/
def TabRel (f : Nat → UInt8) (lo hi : Nat) (w : World) (v i : Value) (wr : World) : Prop :=
  ∃ k : Nat, k ≤ hi ∧ i = .int .i64 ((k + lo : Nat) : Int) ∧ wr.ownsRow w.heap.size 5 1 v k ((tabL f k).map vB) ∧ Below w.heap.size w wr
theorem tab_round {f : Nat → UInt8} {lo hi k : Nat} {w wr w1 : World} {u v : Value} {o : Obj} {x : UInt8} (hk : k < hi) (ho : wr.ownsRow w.heap.size 5 1 u k ((tabL f k).map vB)) (hb : Below w.heap.size w wr) (hx : f k = x)
    (hg : (wr.alloc o).grownBy w1 u.ownBlock) (ho' : w1.ownsRow w.heap.size 5 1 v (k + 1) ((tabL f k).map vB ++ [Value.int .u8 (x.toNat : Int)])) : TabRel f lo hi w v (.int .i64 ((k + 1 + lo : Nat) : Int)) w1 :=
  ⟨k + 1, hk, rfl, by subst hx; rw [tabL, List.map_append]; exact ho', (hb.alloc hb.size o).grown hg (by have := hb.size; simp; omega) (fun g hk => (ho.lt g hk).1)⟩

end Go.Proofs.YteppocjgodmpdaaGreatDoor
/-
  What the reference's calls Eval, shift and Times of layer 8 answer. No conditions but those typed.
-/
namespace Go.Proofs.YteppocjgodmpdaaGreatDoor
set_option maxRecDepth 100000
open Go.RowKit
set_option linter.unusedSimpArgs false
set_option linter.unusedVariables false

/-! ### Eval -/
def EvRel (p : List UInt8) (x : UInt8) (w : World) (v t i : Value) (wr : World) : Prop :=
  ∃ k : Nat, k ≤ p.length ∧ i = .int .i64 (k : Int) ∧ v = .int .u8 ((evalL (p.take k) x).toNat : Int) ∧ t = .int .u8 ((powB x k).toNat : Int) ∧ w = wr
theorem eval_take (p : List UInt8) (x : UInt8) (k : Nat) (h : k < p.length) : evalL (p.take (k + 1)) x = xorB (evalL (p.take k) x) (mulB p[k] (powB x k)) := by
  rw [List.take_succ_eq_append_getElem h, eval_snoc, List.length_take, Nat.min_eq_left (by omega)]
  rfl
theorem refeval_any (p : List UInt8) (x : UInt8) (n : Nat) (A : Option Addr) (c : Nat) (w : World) (HN : Hid (p.length = n)) (hr : Rd vB w A p) (hn : n ≤ 1000000) :
    Calls Tryz.prog 245 #[.slice A n c, .int .u8 (x.toNat : Int)] w fun e w' => e = .returned (.int .u8 ((evalL p x).toNat : Int)) ∧ w = w' := by
  have e1 := HN.out
  subst e1
  go_enter Tryz.func245, Tryz.ntmps245
  go_wp2_with fail
  go_loopw [5, 6, 7] (fun v t i wr => EvRel p x w v t i wr) (fun _ _ i _ => p.length - (intOf i).toNat)
  case atStart => exact ⟨0, Nat.zero_le _, rfl, rfl, rfl, rfl⟩
  case round =>
    obtain ⟨k, hk, rfl, rfl, rfl, rfl⟩ := hrel
    by_cases h : k < p.length
    · obtain ⟨b, o, rfl, hb, hcell⟩ := hr.at h
      have hc0 := hcell k h
      unfold vB at hc0
      have HE := Lib.hid (eval_take p x k h)
      have HP : Hid (powB x (k + 1) = mulB (powB x k) x) := rfl
      obtain ⟨y, hy⟩ : ∃ y, p[k] = y := ⟨_, rfl⟩
      rw [hy] at hc0 HE
      obtain ⟨V, hV⟩ : ∃ V, evalL (p.take k) x = V := ⟨_, rfl⟩
      obtain ⟨T, hT⟩ : ∃ T, powB x k = T := ⟨_, rfl⟩
      rw [hV, hT] at HE ⊢
      rw [hT] at HP
      have hxr := u8_xor_b V (mulB y T)
      have HR : Hid (EvRel p x w (.int .u8 ((xorB V (mulB y T)).toNat : Int)) (.int .u8 ((mulB T x).toNat : Int)) (.int .i64 ((k : Int) + 1)) w) := ⟨k + 1, h, by go_num, by rw [HE.out], by rw [HP.out], rfl⟩
      have i0 : (0 : Int) ≤ (k : Int) := by omega
      have i1 : (k : Int) < (p.length : Int) := by omega
      have hm1 : ∀ w, Calls Tryz.prog 128 #[.int .u8 (y.toNat : Int), .int .u8 (T.toNat : Int)] w fun e w' => e = .returned (.int .u8 ((mulB y T).toNat : Int)) ∧ w = w' := fun w => refmul_any y T w
      have hm2 : ∀ w, Calls Tryz.prog 128 #[.int .u8 (T.toNat : Int), .int .u8 (x.toNat : Int)] w fun e w' => e = .returned (.int .u8 ((mulB T x).toNat : Int)) ∧ w = w' := fun w => refmul_any T x w
      have HM1 := Lib.hid hm1
      have HM2 := Lib.hid hm2
      generalize mulB y T = M at hxr HR HM1
      generalize mulB T x = M2 at HR HM2
      generalize xorB V M = X at hxr HR
      clear hm1 hm2 hcell hV hT hy HE HP
      go_wp2_with fail
      refine (HM1.out _).mono ?_
      rintro e w' ⟨rfl, rfl⟩
      go_wp2_with fail
      refine (HM2.out _).mono ?_
      rintro e w' ⟨rfl, rfl⟩
      go_wp2_with fail
      go_roundw
      case rel => exact HR.out
      case measure => simp [intOf]; omega
    · have j1 : ¬ (k : Int) < (p.length : Int) := by omega
      have HT : Hid (evalL (p.take k) x = evalL p x) := by unfold Hid; rw [List.take_of_length_le (by omega)]
      go_wp2_with fail
      go_ret
      exact ⟨by rw [← HT.out]; rfl, rfl⟩

/-! ### shift -/
def ShiRel (a : UInt8) (j : Nat) (p : List UInt8) (w : World) (v i : Value) (wr : World) : Prop :=
  ∃ k : Nat, k ≤ p.length ∧ i = .int .i64 (k : Int) ∧ wr.ownsRow w.heap.size 5 1 v (j + k) ((shiftL j (scaleL a (p.take k))).map vB) ∧ Below w.heap.size w wr
theorem shi_take (a : UInt8) (j : Nat) (p : List UInt8) (k : Nat) (h : k < p.length) : shiftL j (scaleL a (p.take (k + 1))) = shiftL j (scaleL a (p.take k)) ++ [mulB p[k] a] := by
  rw [List.take_succ_eq_append_getElem h, scaleL, scaleL, List.map_append, shiftL, shiftL, List.append_assoc, mul_comm p[k] a]
  rfl
theorem shi_zero (j : Nat) : (List.replicate j (Value.int .u8 0)) = (shiftL j ([] : List UInt8)).map vB := by
  rw [shiftL, List.append_nil, List.map_replicate]
  rfl
end Go.Proofs.YteppocjgodmpdaaGreatDoor
/-
  What the reference's calls Mul and Slope of layer 8 answer. No conditions but those typed.
-/
namespace Go.Proofs.YteppocjgodmpdaaGreatDoor
set_option maxRecDepth 100000
open Go.RowKit
set_option linter.unusedSimpArgs false
set_option linter.unusedVariables false

theorem refat_ati (V : Int) (p : List UInt8) (k n : Nat) (x : UInt8) (hV : V = (k : Int)) (hx : co p k = x) (A : Option Addr) (c : Nat) (w : World) (HN : Hid (p.length = n)) (hr : Rd vB w A p) :
    Calls Tryz.prog 241 #[.slice A n c, .int .i64 V] w fun e w' => e = .returned (.int .u8 (x.toNat : Int)) ∧ w = w' := by
  subst hV hx
  exact refat_any p k n A c w HN hr
def InRel (f : Nat → UInt8) (hi : Nat) (w : World) (v i : Value) (wr : World) : Prop :=
  ∃ k : Nat, k ≤ hi ∧ i = .int .i64 (k : Int) ∧ v = .int .u8 ((f k).toNat : Int) ∧ Below w.heap.size w wr

set_option maxHeartbeats 2000000 in
theorem refmulP_any (p q : List UInt8) (n m : Nat) (A B : Option Addr) (c d : Nat) (w : World) (HN : Hid (p.length = n)) (HM : Hid (q.length = m)) (hp : Rd vB w A p) (hq : Rd vB w B q) (hn : n ≤ 100000) (hm : m ≤ 100000) :
    Calls Tryz.prog 196 #[.slice A n c, .slice B m d] w (RetQ w (plainL (mulL p q))) := by
  obtain ⟨i0, hi, hz0, hz1, hz2⟩ := info_parts info_u8
  have HF : Hid (∀ k, co (mulL p q) k = sumL' p q k (min (k + 1) n)) := fun k => by rw [← HN.out]; exact mul_sum_min p q k
  have HL : Hid (plainL (tabL (co (mulL p q)) (n + m)) = plainL (mulL p q)) := plain_tab _ _ (by rw [← HN.out, ← HM.out]; exact mulL_length_le p q)
  generalize mulL p q = R at HF HL ⊢
  go_enter Tryz.func196, Tryz.ntmps196
  go_wp2_with fail
  go_loopw [5, 6] (fun v i wr => TabRel (co R) 0 (n + m) w v i wr) (fun _ i _ => n + m - (intOf i).toNat)
  case atStart => exact ⟨0, Nat.zero_le _, rfl, World.ownsRow_nil _ _ _ _, Below.refl _ _⟩
  case round =>
    obtain ⟨k, hk, rfl, hown1, hbel1⟩ := hrel
    simp only [Nat.add_zero] at *
    have hle := hbel1.size
    by_cases h : k < n + m
    · have HX := Lib.hid (HF.out k)
      have j1 : (k : Int) < (n : Int) + (m : Int) := by omega
      have hk0 : (0 : Int) ≤ (k : Int) := by omega
      go_wp2_with fail
      go_loopw [7, 8] (fun v i wx => InRel (sumL' p q k) (min (k + 1) n) wr v i wx) (fun _ i _ => n - (intOf i).toNat)
      case atStart => exact ⟨0, Nat.zero_le _, rfl, rfl, Below.refl _ _⟩
      case round =>
        obtain ⟨i, hik, rfl, rfl, hB⟩ := hrel
        have hbw := below_step hbel1 hB
        have i0' : (0 : Int) ≤ (i : Int) := by omega
        by_cases hlt : i < min (k + 1) n
        · have g1 : (i : Int) ≤ (k : Int) := by omega
          have g2 : (i : Int) < (n : Int) := by omega
          have hip : i < p.length := by rw [HN.out]; omega
          obtain ⟨b, o, rfl, hb, hcell⟩ := hp.at hip
          have hco := co_lt p i hip
          have hc0 : ∀ W, Below wr.heap.size wr W → W.cell? ⟨b, o + i, none⟩ = some (.int .u8 (p[i].toNat : Int)) := fun W hW => ((below_step hbw hW).cell (p := ⟨b, o + i, none⟩) hb).trans (hcell i hip)
          obtain ⟨y, hy⟩ : ∃ y, p[i] = y := ⟨_, rfl⟩
          rw [hy] at hc0 hco
          obtain ⟨z, hz⟩ : ∃ z, co q (k - i) = z := ⟨_, rfl⟩
          obtain ⟨V, hV⟩ : ∃ V, sumL' p q k i = V := ⟨_, rfl⟩
          have HS : Hid (sumL' p q k (i + 1) = xorB V (mulB y z)) := by
            unfold Hid
            rw [sumL', hV, hco, hz]
            rfl
          rw [hV]
          have hAt : ∀ W, Below wr.heap.size wr W → ∀ V', V' = ((k - i : Nat) : Int) → Calls Tryz.prog 241 #[.slice B m d, .int .i64 V'] W fun e w'' => e = .returned (.int .u8 (z.toNat : Int)) ∧ W = w'' := fun W hW V' hV' => refat_ati V' q (k - i) m z hV' hz B d W HM (hq.keep (below_step hbw hW))
          have HAt := Lib.hid hAt
          have hM : ∀ W, Calls Tryz.prog 128 #[.int .u8 (y.toNat : Int), .int .u8 (z.toNat : Int)] W fun e w'' => e = .returned (.int .u8 ((mulB y z).toNat : Int)) ∧ W = w'' := fun W => refmul_any y z W
          have HMu := Lib.hid hM
          have hxr := u8_xor_b V (mulB y z)
          generalize mulB y z = M at HS HMu hxr
          generalize xorB V M = X at HS hxr
          have HR : Hid (∀ W, Below wr.heap.size wr W → InRel (sumL' p q k) (min (k + 1) n) _ (.int .u8 (X.toNat : Int)) (.int .i64 ((i : Int) + 1)) W) := fun W hW => ⟨i + 1, hlt, by go_num, by rw [HS.out], below_step hB hW⟩
          have hBase : Below wr.heap.size wr wr.drew := (Below.refl _ _).drew
          have hwk : IntKind.i64.wrap ((k : Int) - (i : Int)) = (k : Int) - (i : Int) := by rw [IntKind.wrap_i64]; omega
          have hki : (k : Int) - (i : Int) = ((k - i : Nat) : Int) := by omega
          have HKI := Lib.hid hki
          clear hki
          clear hAt hM hcell hy hz hV hco HS hown1 hbel1 HX hB hbw hlt hip
          go_wp2_with fail
          refine wp_region_plan (.step 0 false (.step 1 false (.step 2 false (.step 3 false (.step 4 false (.step 5 false (.step 6 false (.step 7 false (.step 8 false (.step 9 true (.step 10 true (.step 11 false (.step 12 false (.nil)))))))))))))) (by kernel_rfl) (by kernel_rfl) (by rfl) (by kernel_rfl) ?_
          iterate 9 (refine plan_read rfl (by rfl) (v := ?_) ?_ ?_; rotate_left 1; (intro W hW; have hW0 := below_step hBase hW; (try dsimp only at hW); go_simp <;> with_reducible rfl); simp only [List.getElem_toArray, List.getElem_cons_zero, List.getElem_cons_succ, Act.put, List.setIfInBounds_toArray, List.set_cons_zero, List.set_cons_succ])
          (refine plan_make rfl (by rfl) (fun K hK => ?_); go_simp; (refine (HAt.out _ hBase _ (by exact HKI.out)).mono ?_; rintro e w2 ⟨rfl, rfl⟩; have hbx := Below.refl wr.drew.heap.size wr.drew); refine hK.out _ _ hbx ?_; clear hK K; replace hBase := below_step hBase hbx)
          (refine plan_make rfl (by rfl) (fun K hK => ?_); go_simp; (refine (HMu.out _).mono ?_; rintro e w2 ⟨rfl, rfl⟩; have hbx := Below.refl wr.drew.heap.size wr.drew); refine hK.out _ _ hbx ?_; clear hK K; replace hBase := below_step hBase hbx)
          iterate 2 (refine plan_read rfl (by rfl) (v := ?_) ?_ ?_; rotate_left 1; (intro W hW; have hW0 := below_step hBase hW; (try dsimp only at hW); go_simp <;> with_reducible rfl); simp only [List.getElem_toArray, List.getElem_cons_zero, List.getElem_cons_succ, Act.put, List.setIfInBounds_toArray, List.set_cons_zero, List.set_cons_succ])
          refine plan_done ?_
          clear hc0
          go_wp2_with fail
          go_roundw
          case rel => exact HR.out _ hBase
          case measure => simp [intOf]; omega
        · have hie : i = min (k + 1) n := by omega
          rw [← hie] at HX
          obtain ⟨X, hX⟩ : ∃ X, sumL' p q k i = X := ⟨_, rfl⟩
          rw [hX] at HX ⊢
          have hown2 := ownsRow_later hown1 hB
          have hle2 := hbw.size
          have HR : Hid (∀ (v' : Value) (w1 : World), (wr.alloc (.cells #[.int .u8 (X.toNat : Int)] 5)).grownBy w1 (Value.ownBlock v') → True) := fun _ _ _ => trivial
          clear HR hX hown1
          by_cases g1 : i ≤ k
          · have g1' : (i : Int) ≤ (k : Int) := by omega
            have g2 : ¬ (i : Int) < (n : Int) := by omega
            clear hie hik
            go_wp2_with (at_builtin; refine wpList_append_own _ rfl _ _ 22 rfl w.heap.size 5 i0 (.int .u8 0) 1 1 Tryz.underlying22 hi hz0 hz1 hz2 rfl (by decide) _ _ _ rfl (hown2.alloc _) ⟨wr.heap.size, 0, none⟩ 1 1 [.int .u8 (X.toNat : Int)] rfl rfl (cell_one_new _ _ _) (by intro u hu; simp at hu; subst hu; rfl) (by unfold maxLen; omega) (by omega) (by simp; omega) ?_; intro v' w1 hown' hgrow' _)
            go_roundw
            case rel => exact tab_round (lo := 0) h hown2 hbw HX.out hgrow' hown'
            case measure => simp [intOf]; omega
          · have g1' : ¬ (i : Int) ≤ (k : Int) := by omega
            clear hie hik
            go_wp2_with (at_builtin; refine wpList_append_own _ rfl _ _ 22 rfl w.heap.size 5 i0 (.int .u8 0) 1 1 Tryz.underlying22 hi hz0 hz1 hz2 rfl (by decide) _ _ _ rfl (hown2.alloc _) ⟨wr.heap.size, 0, none⟩ 1 1 [.int .u8 (X.toNat : Int)] rfl rfl (cell_one_new _ _ _) (by intro u hu; simp at hu; subst hu; rfl) (by unfold maxLen; omega) (by omega) (by simp; omega) ?_; intro v' w1 hown' hgrow' _)
            go_roundw
            case rel => exact tab_round (lo := 0) h hown2 hbw HX.out hgrow' hown'
            case measure => simp [intOf]; omega
    · have hkm : k = n + m := by omega
      have j1 : ¬ (k : Int) < (n : Int) + (m : Int) := by omega
      obtain ⟨l, hl⟩ : ∃ l, l = tabL (co R) k := ⟨_, rfl⟩
      have HLen : Hid (l.length = k) := by unfold Hid; rw [hl]; exact tab_length _ _
      have HPl : Hid (plainL l = plainL R) := by unfold Hid; rw [hl, hkm]; exact HL.out
      rw [← hl] at hown1
      have hk2 : k ≤ 200000 := by omega
      clear hkm
      have hown2 := hown1
      rw [← HLen.out] at hown2
      obtain ⟨A1, c1, hv1, hc1, hr1⟩ := own_slice hown2
      rw [HLen.out] at hc1 hv1
      subst hv1
      clear hown1 hown2 hl
      go_wp2_with fail
      refine (refplain_any l k A1 c1 _ HLen hr1 hc1 (by omega)).mono ?_
      rintro e w1 ⟨A2, n2, c2, rfl, HN2, hc2, hr2, hb2⟩
      rw [HPl.out] at HN2 hr2
      go_wp2_with fail
      go_ret
      exact ⟨A2, n2, c2, rfl, HN2, hc2, hr2, below_step hbel1 hb2⟩
end Go.Proofs.YteppocjgodmpdaaGreatDoor
/-
  What the reference's calls Slope and Quo of layer 8 answer. No conditions but those typed.
-/
namespace Go.Proofs.YteppocjgodmpdaaGreatDoor
set_option maxRecDepth 100000
open Go.RowKit
set_option linter.unusedSimpArgs false
set_option linter.unusedVariables false

def addN (x : UInt8) : Nat → UInt8
  | 0 => 0
  | n + 1 => xorB (addN x n) x
theorem addN_parity (x : UInt8) : ∀ n, addN x n = if n % 2 = 0 then 0 else x
  | 0 => rfl
  | n + 1 => by
    rw [addN, addN_parity x n]
    by_cases h : n % 2 = 0
    · rw [if_pos h, if_neg (by omega)]
      exact UInt8.zero_xor
    · rw [if_neg h, if_pos (by omega)]
      exact UInt8.xor_self
theorem slope_addN (p : List UInt8) (k : Nat) : co (slopeL p) k = addN (co p (k + 1)) (k + 1) := by
  rw [co_slope, addN_parity]
  by_cases h : k % 2 = 0
  · rw [if_pos h, if_neg (by omega)]
  · rw [if_neg h, if_pos (by omega)]
theorem slope_length (p : List UInt8) (k : Nat) (h : p.length ≤ k + 1) : co (slopeL p) k = 0 := by
  rw [co_slope, co_ge p (k + 1) h]
  split <;> rfl
theorem slope_tab (p : List UInt8) : plainL (tabL (co (slopeL p)) (p.length - 1)) = plainL (slopeL p) := plain_congr fun k => by
  rw [co_tab]
  split
  · rfl
  · rw [slope_length p k (by omega)]

end Go.Proofs.YteppocjgodmpdaaGreatDoor
/-
  What the reference's call Quo of layer 8 answers. No conditions but those typed.
-/
namespace Go.Proofs.YteppocjgodmpdaaGreatDoor
set_option maxRecDepth 100000
open Go.RowKit
set_option linter.unusedSimpArgs false
set_option linter.unusedVariables false

/-- What a division hands back: both plain. -/
def QuoRes (p q : List UInt8) (w : World) (e : Ending) (w' : World) : Prop :=
  ∃ (a r : List UInt8) (A B : Option Addr) (n m c d : Nat), e = .returned (.tuple #[.slice A n c, .slice B m d]) ∧ Hid (a.length = n) ∧ Hid (r.length = m) ∧ n ≤ c ∧ m ≤ d ∧ Rd vB w' A a ∧ Rd vB w' B r ∧ Below w.heap.size w w' ∧ Hid (IsQuo p q a r ∧ plainL a = a ∧ plainL r = r)
def DivRel (p q : List UInt8) (w : World) (u v : Value) (wr : World) : Prop :=
  ∃ (a l : List UInt8) (A B : Option Addr) (n m c d : Nat), u = .slice B m d ∧ v = .slice A n c ∧ Hid (a.length = n) ∧ Hid (l.length = m) ∧ n ≤ c ∧ m ≤ d ∧ n ≤ 50001 ∧ m ≤ 50000 ∧ Rd vB wr A a ∧ Rd vB wr B l ∧ Below w.heap.size w wr ∧ Hid (Eqv (addL (mulL a q) l) p ∧ plainL a = a ∧ plainL l = l)
theorem plain_mul_nil (q l : List UInt8) : Eqv (addL (mulL [] q) l) l := fun k => by
  rw [mulL, addL]
theorem quo_often_len (a : List UInt8) (n : Nat) (t : UInt8) : (plainL (addL a (shiftL n [t]))).length ≤ max a.length (n + 1) := by
  refine Nat.le_trans (plain_len _) ?_
  rw [addL_length, shift_length]
  exact Nat.le_refl _

theorem scale_one_shift (t : UInt8) (j : Nat) : shiftL j (scaleL t [1]) = shiftL j [t] := by
  rw [scaleL, List.map_cons, List.map_nil, mul_one]
end Go.Proofs.YteppocjgodmpdaaGreatDoor
/-
  Layer 7: how the program reckons: products by doubling, powers by squaring. Plain.
-/
namespace Go.Proofs.YteppocjgodmpdaaGreatDoor
set_option maxRecDepth 100000

/-! ### A product by doubling: the bits of the second one below j -/
def lowB (b : UInt8) (j : Nat) : UInt8 := UInt8.ofNat (b.toNat % 2 ^ j)
def dblB (a : UInt8) (j : Nat) : UInt8 := mulB a (powB 2 j)
theorem lowB_zero (b : UInt8) : lowB b 0 = 0 := by
  unfold lowB
  rw [Nat.pow_zero, Nat.mod_one]
  rfl
theorem lowB_eight (b : UInt8) : lowB b 8 = b := by
  have h : b.toNat % 2 ^ 8 = b.toNat := Nat.mod_eq_of_lt b.toNat_lt
  unfold lowB
  rw [h, UInt8.ofNat_toNat]
theorem low_table : ∀ j, j < 8 → ∀ n, n < 256 → UInt8.ofNat (n % 2 ^ (j + 1)) = addB (UInt8.ofNat (n % 2 ^ j)) (if n / 2 ^ j % 2 = 1 then powB 2 j else 0) := by decide +kernel
theorem low_step (b : UInt8) (j : Nat) (hj : j < 8) : lowB b (j + 1) = addB (lowB b j) (if b.toNat / 2 ^ j % 2 = 1 then powB 2 j else 0) :=
  low_table j hj b.toNat b.toNat_lt
theorem dbl_zero (a : UInt8) : dblB a 0 = a := mul_one a
theorem dbl_step (a : UInt8) (j : Nat) : mulB (dblB a j) 2 = dblB a (j + 1) := by
  unfold dblB
  rw [mul_assoc]
  rfl
theorem mul_step (a b : UInt8) (j : Nat) (hj : j < 8) : addB (mulB a (lowB b j)) (if b.toNat / 2 ^ j % 2 = 1 then dblB a j else 0) = mulB a (lowB b (j + 1)) := by
  rw [low_step b j hj, mul_add_right]
  congr 1
  split
  · rfl
  · rw [mul_zero]
theorem mul_start (a b : UInt8) : mulB a (lowB b 0) = 0 := by rw [lowB_zero, mul_zero]
theorem mul_end (a b : UInt8) : mulB a (lowB b 8) = mulB a b := by rw [lowB_eight]
/-- Twice an element. -/
theorem times_table : ∀ n, n < 256 → (mulB (UInt8.ofNat n) 2).toNat = (n * 2 % 256) ^^^ (n / 128 * 45) := by decide +kernel
theorem times_any (a : UInt8) : (mulB a 2).toNat = (a.toNat * 2 % 256) ^^^ (a.toNat / 128 * 45) := by
  have := times_table a.toNat a.toNat_lt
  rwa [UInt8.ofNat_toNat] at this

/-! ### A power by squaring -/
def sqB (a : UInt8) (j : Nat) : UInt8 := powB a (2 ^ j)
theorem sq_zero (a : UInt8) : sqB a 0 = a := by
  unfold sqB
  rw [Nat.pow_zero]
  show mulB 1 a = a
  exact one_mul a
theorem sq_step (a : UInt8) (j : Nat) : mulB (sqB a j) (sqB a j) = sqB a (j + 1) := by
  unfold sqB
  rw [← pow_add, Nat.pow_succ, Nat.mul_two]
theorem pow_start (a : UInt8) (r : Nat) : powB a (r % 2 ^ 0) = 1 := by rw [Nat.pow_zero, Nat.mod_one]; rfl
theorem pow_bit (a : UInt8) (r j : Nat) (h : r / 2 ^ j % 2 = 1) : mulB (powB a (r % 2 ^ j)) (sqB a j) = powB a (r % 2 ^ (j + 1)) := by
  unfold sqB
  rw [← pow_add, Nat.mod_pow_succ, h, Nat.mul_one]
theorem pow_none (a : UInt8) (r j : Nat) (h : ¬ r / 2 ^ j % 2 = 1) : powB a (r % 2 ^ j) = powB a (r % 2 ^ (j + 1)) := by
  have h0 : r / 2 ^ j % 2 = 0 := by omega
  rw [Nat.mod_pow_succ, h0, Nat.mul_zero, Nat.add_zero]
theorem pow_end (a : UInt8) (r : Nat) (h : r < 255) : powB a (r % 2 ^ 8) = powB a r := by rw [Nat.mod_eq_of_lt (by omega)]

/-! ### A logarithm by trying -/
theorem log_not (a : UInt8) (j : Nat) (ha : a ≠ 0) (hj : j < logB a) : powB 2 j ≠ a := by
  intro e
  have hl := log_lt a ha
  have := log_exp j (by omega)
  rw [e] at this
  omega
end Go.Proofs.YteppocjgodmpdaaGreatDoor
/-
  What the program's calls of layer 7 answer, over the landed code: products by doubling, powers by squaring, logarithms by trying.
-/
namespace Go.Proofs.YteppocjgodmpdaaGreatDoor
set_option maxRecDepth 100000
open Go.RowKit
set_option linter.unusedSimpArgs false
set_option linter.unusedVariables false

theorem gfadd_any (a b : UInt8) (w : World) : Calls Tryz.prog 136 #[.int .u8 (a.toNat : Int), .int .u8 (b.toNat : Int)] w fun e w' => e = .returned (.int .u8 ((addB a b).toNat : Int)) ∧ w = w' := by
  have hx := u8_xor_b a b
  have HE : Hid (addB a b = xorB a b) := rfl
  rw [HE.out]
  generalize xorB a b = z at hx
  go_enter Tryz.func136, Tryz.ntmps136
  go_wp2_with fail
  go_ret
  exact ⟨rfl, rfl⟩
theorem times_val (a : UInt8) : bits .xor .u8 ((a.toNat : Int) * 2 % 256) ((a.toNat : Int) / 128 * 45 % 256) = ((mulB a 2).toNat : Int) := by
  have h := a.toNat_lt
  have e1 : (a.toNat : Int) * 2 % 256 = ((a.toNat * 2 % 256 : Nat) : Int) := by omega
  have e2 : (a.toNat : Int) / 128 * 45 % 256 = ((a.toNat / 128 * 45 : Nat) : Int) := by omega
  rw [e1, e2, u8_xor_nat _ _ (by omega) (by omega), times_any]
theorem gftimes_any (a : UInt8) (w : World) : Calls Tryz.prog 240 #[.int .u8 (a.toNat : Int)] w fun e w' => e = .returned (.int .u8 ((mulB a 2).toNat : Int)) ∧ w = w' := by
  have hx := times_val a
  generalize (mulB a 2).toNat = z at hx ⊢
  go_enter Tryz.func240, Tryz.ntmps240
  go_wp2_with fail
  go_ret
  exact ⟨rfl, rfl⟩
theorem and_table : ∀ n : Nat, n < 256 → bits .and .u8 (n : Int) 1 = ((n % 2 : Nat) : Int) := by decide +kernel
theorem bit_val (b : UInt8) (j : Nat) : bits .and .u8 ((b.toNat : Int) / 2 ^ j) 1 = ((b.toNat / 2 ^ j % 2 : Nat) : Int) := by
  have e : (b.toNat : Int) / 2 ^ j = ((b.toNat / 2 ^ j : Nat) : Int) := by rw [Int.natCast_ediv, Int.natCast_pow]; rfl
  have h : b.toNat / 2 ^ j ≤ b.toNat := Nat.div_le_self _ _
  have h2 := b.toNat_lt
  rw [e, and_table _ (by omega)]
theorem mul_val (a b : UInt8) (j : Nat) (hj : j < 8) : bits .xor .u8 ((mulB a (lowB b j)).toNat : Int) (((dblB a j).toNat : Int) * bits .and .u8 ((b.toNat : Int) / 2 ^ j) 1 % 256) = ((mulB a (lowB b (j + 1))).toNat : Int) := by
  rw [bit_val, ← mul_step a b j hj]
  have e : ((dblB a j).toNat : Int) * ((b.toNat / 2 ^ j % 2 : Nat) : Int) % 256 = ((if b.toNat / 2 ^ j % 2 = 1 then dblB a j else 0 : UInt8).toNat : Int) := by
    have h := (dblB a j).toNat_lt
    by_cases hb : b.toNat / 2 ^ j % 2 = 1
    · rw [if_pos hb, hb]; omega
    · rw [if_neg hb, show b.toNat / 2 ^ j % 2 = 0 by omega]; show _ = ((0 : Nat) : Int); omega
  rw [e, u8_xor_b]
  rfl
set_option maxRecDepth 100000 in
theorem gfmul_any (a b : UInt8) (w : World) : Calls Tryz.prog 190 #[.int .u8 (a.toNat : Int), .int .u8 (b.toNat : Int)] w fun e w' => e = .returned (.int .u8 ((mulB a b).toNat : Int)) ∧ w = w' := by
  have HD : Hid (dblB a 0 = a) := dbl_zero a
  have HM : Hid (mulB a (lowB b 0) = 0) := mul_start a b
  have HE : Hid (mulB a (lowB b 8) = mulB a b) := mul_end a b
  go_enter Tryz.func190, Tryz.ntmps190
  go_wp2_with fail
  go_loop [0, 5, 7] (fun x p i => ∃ j : Nat, j ≤ 8 ∧ i = .int .i64 (j : Int) ∧ x = .int .u8 ((dblB a j).toNat : Int) ∧ p = .int .u8 ((mulB a (lowB b j)).toNat : Int)) (fun _ _ i => 8 - (intOf i).toNat)
  case atStart => exact ⟨0, by omega, rfl, by rw [HD.out], by rw [HM.out]; rfl⟩
  case round =>
    obtain ⟨j, hj, rfl, rfl, rfl⟩ := hrel
    by_cases hlt : j < 8
    · have i1 : (j : Int) < 8 := by omega
      have i0 : (0 : Int) ≤ (j : Int) := by omega
      have HT : Hid (mulB (dblB a j) 2 = dblB a (j + 1)) := dbl_step a j
      have hv := mul_val a b j hlt
      generalize hx : dblB a j = x at HT hv ⊢
      have HX := Lib.hid hx
      generalize hp : mulB a (lowB b j) = p at hv ⊢
      have HP := Lib.hid hp
      generalize hq : mulB a (lowB b (j + 1)) = q at hv
      have HQ := Lib.hid hq
      clear hx hp hq
      go_wp2_with fail
      refine (gftimes_any x _).mono ?_
      rintro e w' ⟨rfl, rfl⟩
      rw [HT.out]
      generalize hy : dblB a (j + 1) = y
      have HY := Lib.hid hy
      clear hy
      go_wp2_with fail
      go_round
      case rel => exact ⟨j + 1, by omega, by go_num, by rw [HY.out], by rw [HQ.out]⟩
      case measure => simp [intOf]; omega
    · have hj8 : j = 8 := by omega
      subst hj8
      rw [HE.out]
      generalize hp : mulB a b = p
      have HP := Lib.hid hp
      clear hp
      go_wp2_with fail
      go_ret
      exact ⟨ret_int (by rw [HP.out]), rfl⟩

theorem gfreckon_any (n : Int) (r : Nat) (w : World) (hr : (r : Int) = n % 255) : Calls Tryz.prog 261 #[.int .i64 n] w fun e w' => e = .returned (.int .i64 (r : Int)) ∧ w = w' := by
  have h1 : (n.tmod 255 + 255).tmod 255 = (r : Int) := by
    rw [Int.tmod_eq_emod, Int.tmod_eq_emod]
    split <;> split <;> omega
  have h2 : -255 < n.tmod 255 ∧ n.tmod 255 < 255 := by
    rw [Int.tmod_eq_emod]
    split <;> omega
  have h3 : wrap64 (n.tmod 255 + 255) = n.tmod 255 + 255 := by
    unfold wrap64
    omega
  clear hr h2
  go_enter Tryz.func261, Tryz.ntmps261
  go_wp2_with fail
  rw [h3]
  go_ret
  exact ⟨rfl, rfl⟩
theorem gfnone_zero (w : World) : Calls Tryz.prog 260 #[.int .i64 0] w fun e w' => e = .returned (.int .u8 1) ∧ w = w' := by
  go_enter Tryz.func260, Tryz.ntmps260
  go_wp2_with fail
  go_ret
  exact ⟨rfl, rfl⟩
theorem gfnone_any (n : Int) (w : World) (hn : n ≠ 0) : Calls Tryz.prog 260 #[.int .i64 n] w fun e w' => e = .returned (.int .u8 0) ∧ w = w' := by
  have z : (n == 0) = false := beq_eq_false_iff_ne.2 hn
  clear hn
  go_enter Tryz.func260, Tryz.ntmps260
  go_wp2_with fail
  go_ret
  exact ⟨rfl, rfl⟩
theorem i64_bit (r j : Nat) (hr : r < 256) : bits .and .i64 ((r : Int) / 2 ^ j) 1 = ((r / 2 ^ j % 2 : Nat) : Int) := by
  have e : (r : Int) / 2 ^ j = ((r / 2 ^ j : Nat) : Int) := by rw [Int.natCast_ediv, Int.natCast_pow]; rfl
  have h : r / 2 ^ j ≤ r := Nat.div_le_self _ _
  have t : ∀ n : Nat, n < 256 → bits .and .i64 (n : Int) 1 = ((n % 2 : Nat) : Int) := by decide +kernel
  rw [e, t _ (by omega)]
set_option maxRecDepth 100000 in
theorem gfpow_any (a : UInt8) (n : Int) (w : World) : Calls Tryz.prog 238 #[.int .u8 (a.toNat : Int), .int .i64 n] w fun e w' => e = .returned (.int .u8 ((powZ a n).toNat : Int)) ∧ w = w' := by
  by_cases ha : a = 0
  · subst ha
    by_cases hn : n = 0
    · subst hn
      have HE : Hid (powZ 0 0 = 1) := rfl
      rw [HE.out]
      go_enter Tryz.func238, Tryz.ntmps238
      go_wp2_with fail
      refine (gfnone_zero _).mono ?_
      rintro e w' ⟨rfl, rfl⟩
      go_wp2_with fail
      go_ret
      exact ⟨rfl, rfl⟩
    · have HE : Hid (powZ 0 n = 0) := by unfold Hid powZ; rw [if_pos rfl, if_neg hn]
      rw [HE.out]
      have HN := Lib.hid hn
      clear hn
      go_enter Tryz.func238, Tryz.ntmps238
      go_wp2_with fail
      refine (gfnone_any n _ HN.out).mono ?_
      rintro e w' ⟨rfl, rfl⟩
      go_wp2_with fail
      go_ret
      exact ⟨rfl, rfl⟩
  · obtain ⟨r, hr⟩ : ∃ r : Nat, r = (n % 255).toNat := ⟨_, rfl⟩
    have hr1 : (r : Int) = n % 255 := by omega
    have hr2 : r < 255 := by omega
    have HE : Hid (powZ a n = powB a r) := by unfold Hid powZ; rw [if_neg ha, hr]
    rw [HE.out]
    have hne : a.toNat ≠ 0 := fun e => ha (UInt8.toNat_inj.1 e)
    have z1 : ((a.toNat : Int) == 0) = false := beq_eq_false_iff_ne.2 (fun h => hne (by omega))
    have HR := Lib.hid hr1
    have HR2 := Lib.hid hr2
    have HS : Hid (powB a (r % 2 ^ 0) = 1) := pow_start a r
    have HQ0 : Hid (sqB a 0 = a) := sq_zero a
    have HF : Hid (powB a (r % 2 ^ 8) = powB a r) := pow_end a r hr2
    clear ha hne hr hr1 hr2
    go_enter Tryz.func238, Tryz.ntmps238
    go_wp2_with fail
    refine (gfreckon_any n r _ HR.out).mono ?_
    rintro e w' ⟨rfl, rfl⟩
    go_wp2_with fail
    go_loop [0, 5, 13] (fun x p i => ∃ j : Nat, j ≤ 8 ∧ i = .int .i64 (j : Int) ∧ x = .int .u8 ((sqB a j).toNat : Int) ∧ p = .int .u8 ((powB a (r % 2 ^ j)).toNat : Int)) (fun _ _ i => 8 - (intOf i).toNat)
    case atStart => exact ⟨0, by omega, rfl, by rw [HQ0.out], by rw [HS.out]; rfl⟩
    case round =>
      obtain ⟨j, hj, rfl, rfl, rfl⟩ := hrel
      have hr2 := HR2.out
      by_cases hlt : j < 8
      · have i1 : (j : Int) < 8 := by omega
        have i0 : (0 : Int) ≤ (j : Int) := by omega
        have HT : Hid (mulB (sqB a j) (sqB a j) = sqB a (j + 1)) := sq_step a j
        have hb := i64_bit r j (by omega)
        by_cases hbit : r / 2 ^ j % 2 = 1
        · have HB : Hid (mulB (powB a (r % 2 ^ j)) (sqB a j) = powB a (r % 2 ^ (j + 1))) := pow_bit a r j hbit
          rw [hbit] at hb
          generalize sqB a j = x at HT HB ⊢
          generalize powB a (r % 2 ^ j) = p at HB ⊢
          clear hbit
          go_wp2_with fail
          refine (gfmul_any p x _).mono ?_
          rintro e w' ⟨rfl, rfl⟩
          rw [HB.out]
          generalize hq : powB a (r % 2 ^ (j + 1)) = q
          have HQ := Lib.hid hq
          clear hq
          go_wp2_with fail
          refine (gfmul_any x x _).mono ?_
          rintro e w' ⟨rfl, rfl⟩
          rw [HT.out]
          generalize hy : sqB a (j + 1) = y
          have HY := Lib.hid hy
          clear hy
          go_wp2_with fail
          go_round
          case rel => exact ⟨j + 1, by omega, by go_num, by rw [HY.out], by rw [HQ.out]⟩
          case measure => simp [intOf]; omega
        · have HB : Hid (powB a (r % 2 ^ j) = powB a (r % 2 ^ (j + 1))) := pow_none a r j hbit
          rw [show r / 2 ^ j % 2 = 0 by omega] at hb
          generalize sqB a j = x at HT ⊢
          generalize powB a (r % 2 ^ j) = p at HB ⊢
          clear hbit
          go_wp2_with fail
          refine (gfmul_any x x _).mono ?_
          rintro e w' ⟨rfl, rfl⟩
          rw [HT.out]
          generalize hy : sqB a (j + 1) = y
          have HY := Lib.hid hy
          clear hy
          go_wp2_with fail
          go_round
          case rel => exact ⟨j + 1, by omega, by go_num, by rw [HY.out], by rw [HB.out]⟩
          case measure => simp [intOf]; omega
      · have hj8 : j = 8 := by omega
        subst hj8
        rw [HF.out]
        generalize hp : powB a r = p
        have HP := Lib.hid hp
        clear hp
        go_wp2_with fail
        go_ret
        exact ⟨ret_int (by rw [HP.out]), rfl⟩
theorem gfexp_any (n : Int) (w : World) : Calls Tryz.prog 204 #[.int .i64 n] w fun e w' => e = .returned (.int .u8 ((powZ 2 n).toNat : Int)) ∧ w = w' := by
  go_enter Tryz.func204, Tryz.ntmps204
  go_wp2_with fail
  refine (gfpow_any 2 n _).mono ?_
  rintro e w' ⟨rfl, rfl⟩
  go_wp2_with fail
  go_ret
  exact ⟨rfl, rfl⟩
theorem gfinv_zero (w : World) : Calls Tryz.prog 187 #[.int .u8 0] w fun e w' => e = .returned (.tuple #[.int .u8 0, .int .i64 1]) ∧ w = w' := by
  go_enter Tryz.func187, Tryz.ntmps187
  go_wp2_with fail
  go_ret2
  exact ⟨rfl, rfl⟩
theorem gfinv_any (a : UInt8) (w : World) (ha : a ≠ 0) : Calls Tryz.prog 187 #[.int .u8 (a.toNat : Int)] w fun e w' => e = .returned (.tuple #[.int .u8 ((invB a).toNat : Int), .int .i64 0]) ∧ w = w' := by
  have hne : a.toNat ≠ 0 := fun e => ha (UInt8.toNat_inj.1 e)
  have z1 : ((a.toNat : Int) == 0) = false := beq_eq_false_iff_ne.2 (fun h => hne (by omega))
  have HI : Hid (powZ a (-1) = invB a) := by unfold Hid powZ; rw [if_neg ha]; rfl
  clear ha hne
  go_enter Tryz.func187, Tryz.ntmps187
  go_wp2_with fail
  refine (gfpow_any a (-1) _).mono ?_
  rintro e w' ⟨rfl, rfl⟩
  rw [HI.out]
  go_wp2_with fail
  go_ret2
  exact ⟨rfl, rfl⟩
theorem ex_inv : mulB (invB 2) 2 = 1 := by rw [mul_comm]; exact mul_inv 2 (by decide)
theorem ex_log : logB 45 = 8 := by decide +kernel
theorem ex_mul : mulB 128 2 = 45 := by decide +kernel
theorem ex_add : addB 5 3 = 6 := by decide +kernel
theorem ex_exp : powZ 2 8 = 45 := by decide +kernel
theorem ex_pow : powZ 0 0 = 1 := rfl
end Go.Proofs.YteppocjgodmpdaaGreatDoor
/-
  What the program's calls Degree, cut and Eval of layer 8 answer. No conditions but those typed.
-/
namespace Go.Proofs.YteppocjgodmpdaaGreatDoor
set_option maxRecDepth 100000
open Go.RowKit Go.Shelf
set_option linter.unusedSimpArgs false
set_option linter.unusedVariables false

attribute [local go_sem] Oper.semAt_some

theorem back_all_zero {p : List UInt8} {n : Nat} (hn : p.length = n) {xs : List (Bk n fun j c => c = co p j)} (hS : backS xs) (h : ∀ x ∈ xs, x.val = 0) : plainL p = [] := by
  refine plain_nil (fun k => ?_)
  rw [co_nil]
  rcases Nat.lt_or_ge k n with hk | hk
  · have hm : k ∈ xs.map Bk.at := by rw [hS, mem_back n n k (Nat.le_refl _)]; omega
    obtain ⟨x, hx, rfl⟩ := List.mem_map.1 hm
    rw [← x.is, h x hx]
  · rw [co_ge p k (by omega)]
theorem back_first {p : List UInt8} {n : Nat} (hn : p.length = n) {ini : List (Bk n fun j c => c = co p j)} {last : Bk n fun j c => c = co p j} (hS : backP (ini ++ [last])) (h : ∀ x ∈ ini, x.val = 0) (hl : last.val ≠ 0) : (plainL p).length = last.at + 1 := by
  obtain ⟨k, hk, hm⟩ := hS
  rw [List.map_append, List.map_cons, List.map_nil] at hm
  obtain ⟨k', rfl⟩ : ∃ k', k = k' + 1 := by
    cases k with
    | zero => simp [backN] at hm
    | succ k' => exact ⟨k', rfl⟩
  rw [back_succ] at hm
  obtain ⟨e1, e2⟩ := List.append_inj' hm rfl
  have e3 : last.at = n - 1 - k' := by simpa using e2
  have h1 := plain_take p (last.at + 1) (by have := last.lt; omega) (fun j hj => by
    rcases Nat.lt_or_ge j n with hjn | hjn
    · have hm : j ∈ ini.map Bk.at := by rw [e1, mem_back n k' j (by omega)]; omega
      obtain ⟨x, hx, rfl⟩ := List.mem_map.1 hm
      rw [← x.is, h x hx]
    · rw [co_ge p j (by omega)]) (.inr (by rw [Nat.add_sub_cancel, ← last.is]; exact hl))
  rw [h1, List.length_take, hn]
  have := last.lt
  omega

/-- What a round keeps: what lay below, and the iterator's own box. -/
def KpB (n₀ Bs : Nat) (W W' : World) : Prop := Below n₀ W W' ∧ W'.heap[Bs]? = W.heap[Bs]?
theorem KpB.refl (n₀ Bs : Nat) (W : World) : KpB n₀ Bs W W := ⟨Below.refl _ _, rfl⟩
theorem KpB.trans {n₀ Bs : Nat} {X Y Z : World} (h : KpB n₀ Bs X Y) (k : KpB n₀ Bs Y Z) : KpB n₀ Bs X Z := ⟨h.1.trans k.1, k.2.trans h.2⟩
theorem KpB.own {n₀ Bs : Nat} {w : World} (hn : n₀ ≤ w.heap.size) (hB : Bs < w.heap.size) (W : World) (l : Nat) (o o' : Obj) (hl : w.heap.size ≤ l) (h : W.heap[l]? = some o) (h1 : o.isCells = false) (h2 : o.isWalk = false) : KpB n₀ Bs W (W.putObj l o') :=
  ⟨belowK_b hn W l o o' hl h h1 h2, World.putObj_heap_other (by omega)⟩

theorem boxed_turn {W W' : World} {row : Option Nat} {B : Nat} {t : TypeId} {v : Value} (h : Boxed W B t v) (hg : W.grownBy W' row) (hr : ∀ r, row = some r → ∃ o : Obj, W.heap[r]? = some o ∧ o.isCells = false) : Boxed W' B t v := boxed_own B t (fun _ : Unit => v) () W W' row h hg hr
theorem cel_turn {W W' : World} {row : Option Nat} {g : Nat} {e : TypeId} {l : List UInt8} (h : Cel W g e l) (hg : W.grownBy W' row) (hr : ∀ r, row = some r → ∃ o : Obj, W.heap[r]? = some o ∧ o.isCells = false) : Cel W' g e l := by
  obtain ⟨L, h1, h2⟩ := h
  refine ⟨L, (hg.block g h1.lt (fun e => ?_)).trans h1, h2⟩
  obtain ⟨o, ho, hc⟩ := hr g e.symm
  have h1' : W.heap[g]? = some (.cells L.toArray _ (0, 0)) := h1
  rw [h1'] at ho
  injection ho with ho
  subst ho
  cases hc

/-- Between two rounds: nothing but 0 has come, and the result's box holds 0; behind one that leaves: what has come last isn't 0, and its place lies there. -/
def DegI (w : World) {n : Nat} {V : Nat → UInt8 → Prop} (pre : List (Bk n V)) (W : World) : Prop := ((∀ x ∈ pre, x.val = 0) ∧ Boxed W w.heap.size 3 (.int .i64 0)) ∧ Below w.heap.size w W
def DegX (w : World) {n : Nat} {V : Nat → UInt8 → Prop} (c : Code) (pre : List (Bk n V)) (W : World) : Prop := (c = .ret ∧ ∃ ini last, pre = ini ++ [last] ∧ (∀ x ∈ ini, x.val = 0) ∧ last.val ≠ 0 ∧ Boxed W w.heap.size 3 (.int .i64 (last.at : Int))) ∧ Below w.heap.size w W
theorem degI_own (w : World) {n : Nat} {V : Nat → UInt8 → Prop} (B : Nat) (hB : w.heap.size ≤ B) : OwnFrom B (DegI w (n := n) (V := V)) :=
  OwnFrom.and (Own.from (fun s A B row hs hg hr => ⟨hs.1, boxed_turn hs.2 hg hr⟩) _) (ownFrom_below (Nat.le_refl _) hB)
theorem degX_own (w : World) {n : Nat} {V : Nat → UInt8 → Prop} (c : Code) (B : Nat) (hB : w.heap.size ≤ B) : OwnFrom B (DegX w c (n := n) (V := V)) :=
  OwnFrom.and (Own.from (fun s A B row hs hg hr => by obtain ⟨hc, ini, last, e1, e2, e3, e4⟩ := hs; exact ⟨hc, ini, last, e1, e2, e3, boxed_turn e4 hg hr⟩) _) (ownFrom_below (Nat.le_refl _) hB)

set_option maxHeartbeats 2000000 in
theorem degP_any (p : List UInt8) (n : Nat) (A : Option Addr) (c : Nat) (w : World) (HN : Hid (p.length = n)) (hr : Rd vB w A p) (hc : n ≤ c) (hn : n ≤ 100000) :
    Calls Tryz.prog 201 #[.slice A n c] w fun e w' => e = .returned (.int .i64 (((plainL p).length : Int) - 1)) ∧ Below w.heap.size w w' := by
  refine (callsIn_wide (n := 3)).1 ?_
  refine callsIn_of_wp_marks Tryz.func201 rfl trivial ?_ rfl
  simp only [Tryz.ntmps201, List.size_toArray, List.length_cons, List.length_nil, Nat.reduceAdd, Nat.reduceSub, Array.replicate_succ, Array.replicate_zero, List.push_toArray, List.append_toArray, List.nil_append, List.cons_append]
  gi_wp2_with (refine ⟨trivial, ?_⟩; gi_at_call 189; refine (callsIn_wide.2 (backward_any _ _ _ _)).mono ?_; rintro e w' ⟨rfl, rfl⟩)
  have bR := Boxed.new w 3 (.int .i64 0)
  have bN := Boxed.new (w.alloc (.cells #[.int .i64 0] 3)) 22 (.slice A n c)
  rw [World.size_alloc] at bN
  have bR' := bR.alloc (.cells #[.slice A n c] 22)
  have hB0 : Below w.heap.size w ((w.alloc (.cells #[.int .i64 0] 3)).alloc (.cells #[.slice A n c] 22)) := ((Below.refl _ w).alloc (Nat.le_refl _) _).alloc (by simp) _
  have hsz : ((w.alloc (.cells #[.int .i64 0] 3)).alloc (.cells #[.slice A n c] 22)).heap.size = w.heap.size + 2 := by simp
  generalize (w.alloc (.cells #[.int .i64 0] 3)).alloc (.cells #[.slice A n c] 22) = W0 at bN bR' hB0 hsz ⊢
  clear bR
  refine wpIn_rangeFunc_ownG rfl (by omega) (gf := 239) (lb := #[.pointer (some ⟨w.heap.size + 1, 0, none⟩)]) rfl trivial (enters_of Tryz.func239 (by kernel_rfl) rfl)
    (back_stops Fence.wide _ trivial rfl (by omega) (w.heap.size + 1) n c A (fun j c => c = co p j) (KpB w.heap.size (w.heap.size + 1)) (by omega) W0 (KpB.refl _ _) (fun _ _ _ => KpB.trans)
      (fun W hW W' hK => ⟨by
        have h1 : W'.heap[w.heap.size + 1]? = W0.heap[w.heap.size + 1]? := hK.2.trans (hW.block _ (by omega))
        exact Boxed.cell (t := 22) (h1.trans bN), p, HN.out, (hr.keep (hB0.trans ((hW.mono (by omega)).trans hK.1))), fun j _ => rfl⟩))
    (fun h k => KpB.trans h k) (KpB.own (by omega) (by omega)) (Below.refl _ _) (fun _ => rfl)
    (DegI w) (DegX w) (degI_own w _ (by omega)) (fun c => degX_own w c _ (by omega))
    ⟨⟨by simp, bR'⟩, hB0⟩
    (fun x => { tmps := #[.slice A n c, undef, .pointer (some ⟨w.heap.size, 0, none⟩), .int .i64 (x.at : Int), .int .u8 (x.val.toNat : Int), .slice A n c, .func (.func 239) #[] #[.pointer (some ⟨w.heap.size + 1, 0, none⟩)], .int .i64 (x.at : Int), .int .u8 (x.val.toNat : Int), undef, undef, undef], defers := [] }) ?assign ?body ?done ?stop
  case assign =>
    intro l x W K hK
    unfold Bk.enc
    gi_wp2
    exact hK
  case body =>
    rintro l pre x W ⟨⟨hp, hcr⟩, hB⟩ _
    have hcc := hcr.cell
    have hff := hcr.frozen
    obtain ⟨y, hy⟩ : ∃ y, x.val = y := ⟨_, rfl⟩
    obtain ⟨q, hq⟩ : ∃ q, x.at = q := ⟨_, rfl⟩
    rw [hy, hq]
    by_cases hx : y = 0
    · subst hx
      have HR : Hid (DegI w (pre ++ [x]) W) := ⟨⟨fun z hz => (List.mem_append.1 hz).elim (hp z) (fun e => by simp at e; subst e; exact hy), hcr⟩, hB⟩
      have e0 : ((0 : UInt8).toNat : Int) = 0 := rfl
      rw [e0]
      clear hp hB hcr hq hy
      gi_wp2
      exact ⟨KeepsFrom.refl _ _, KpB.refl _ _ _, HR.out⟩
    · have hne : ((y.toNat : Int) == 0) = false := by
        have : y.toNat ≠ 0 := fun e => hx (UInt8.toNat_inj.1 e)
        simp
        omega
      have hy0 : x.val ≠ 0 := by rw [hy]; exact hx
      have HR : Hid (DegX w .ret (pre ++ [x]) (W.setCell ⟨w.heap.size, 0, none⟩ (.int .i64 (q : Int)))) :=
        ⟨⟨rfl, pre, x, rfl, hp, hy0, by rw [hq]; exact hcr.set _⟩, hB.setCell (p := ⟨w.heap.size, 0, none⟩) (Nat.le_refl _) _⟩
      clear hp hB hcr hq hy hx hy0
      gi_wp2
      exact ⟨(KeepsOthers.setCell _ _ _).from _, HR.out⟩
  case done =>
    rintro D ys W hD hS ⟨⟨hz, hcr⟩, hB⟩ hK
    have hP := back_all_zero HN.out hS hz
    have hcc := hcr.cell
    have hff := hcr.frozen
    gi_wp2
    have hK' := (KeepsOthers.setCell W ⟨w.heap.size, 0, none⟩ (.int .i64 (-1))).same D _ hK rfl
    refine ⟨by simp, .inl ⟨_, _, rfl, run_takeDeferred hK', ?_⟩⟩
    have hc5 := cell_kept (World.cell?_setCell_same' W ⟨w.heap.size, 0, none⟩ (.int .i64 (-1)) (by rw [hcc]; rfl)) (grownBy_putObj' _ D (.deferred none)) (fun r e => by cases e; exact ⟨_, hK', rfl⟩)
    refine ⟨.int .i64 (-1), ?_, by rw [hP]; rfl, (hB.setCell (p := ⟨w.heap.size, 0, none⟩) (Nat.le_refl _) _).trans (belowK_b (w := w) (Nat.le_refl _) _ D _ _ (by omega) hK' rfl rfl)⟩
    simp [results, Tryz.f201, go_sem, hc5]
  case stop =>
    rintro D c pre W hD hS ⟨⟨rfl, ini, last, rfl, hz, hl, hcr⟩, hB⟩ hK
    have hP := back_first HN.out hS hz hl
    have hcc := hcr.cell
    gi_wp2
    refine ⟨by simp, .inl ⟨_, _, rfl, run_takeDeferred hK, ?_⟩⟩
    have hc5 := cell_kept hcc (grownBy_putObj' _ D (.deferred none)) (fun r e => by cases e; exact ⟨_, hK, rfl⟩)
    refine ⟨.int .i64 (last.at : Int), ?_, by rw [hP, show (((last.at + 1 : Nat) : Int) - 1) = (last.at : Int) by omega], hB.trans (belowK_b (w := w) (Nat.le_refl _) W D _ _ (by omega) hK rfl rfl)⟩
    simp [results, Tryz.f201, go_sem, hc5]

theorem plain_is_take (p : List UInt8) : plainL p = p.take (plainL p).length := by
  by_cases h : plainL p = []
  · rw [h]
    simp
  · have h1 := plain_take p (plainL p).length (plain_len p) (fun k hk => plain_ge p k hk) (.inr (plain_top p h))
    exact h1
theorem Rd.plain {w : World} {A : Option Addr} {p : List UInt8} (h : Rd vB w A p) : Rd vB w A (plainL p) := by
  rw [plain_is_take]
  exact h.take _

/-- cut: the same memory, as far as the plain one goes. -/
theorem cutP_any (p : List UInt8) (n : Nat) (A : Option Addr) (c : Nat) (w : World) (HN : Hid (p.length = n)) (hr : Rd vB w A p) (hc : n ≤ c) (hn : n ≤ 100000) :
    Calls Tryz.prog 186 #[.slice A n c] w fun e w' => ∃ k, e = .returned (.slice A k c) ∧ Hid ((plainL p).length = k) ∧ k ≤ n ∧ Below w.heap.size w w' := by
  obtain ⟨k, hk⟩ : ∃ k, (plainL p).length = k := ⟨_, rfl⟩
  have hkn : k ≤ n := by rw [← hk, ← HN.out]; exact plain_len p
  have hd := degP_any p n A c w HN hr hc hn
  have e1 : ((k : Int) - 1) + 1 = (k : Int) := by omega
  rw [hk] at hd
  have HD := Lib.hid hd
  have HK := Lib.hid hk
  have hcut := fun W => run_cut_to (P := Tryz.prog) 22 5 Tryz.underlying22 size_uint8 A n c k (by omega) W
  clear hd hk
  go_enter Tryz.func186, Tryz.ntmps186
  go_wp2_with fail
  refine HD.out.mono ?_
  rintro e w1 ⟨rfl, hb1⟩
  go_wp2_with fail
  go_ret
  exact ⟨k, rfl, HK, hkn, hb1⟩

/-! ### Eval -/
def hornB {n : Nat} {V : Nat → UInt8 → Prop} (x : UInt8) (pre : List (Bk n V)) : UInt8 := (pre.map Bk.val).foldl (fun v c => addB (mulB v x) c) 0
theorem horn_snoc {n : Nat} {V : Nat → UInt8 → Prop} (x : UInt8) (pre : List (Bk n V)) (y : Bk n V) : hornB x (pre ++ [y]) = addB (mulB (hornB x pre) x) y.val := by
  unfold hornB
  rw [List.map_append, List.foldl_append]
  rfl
theorem back_vals {p : List UInt8} {n : Nat} (hn : p.length = n) {xs : List (Bk n fun j c => c = co p j)} (hS : backS xs) : xs.map Bk.val = p.reverse := by
  have h1 : xs.map Bk.val = (xs.map Bk.at).map (co p) := by
    rw [List.map_map]
    exact List.map_congr_left fun x _ => x.is
  rw [h1, hS]
  apply List.ext_getElem
  · rw [List.length_map, back_length, List.length_reverse, hn]
  · intro i h2 h3
    rw [List.length_reverse] at h3
    rw [List.getElem_map, List.getElem_reverse]
    unfold backN
    rw [List.getElem_map, List.getElem_range, co_lt p _ (by omega)]
    congr 1
    omega
theorem horn_all {p : List UInt8} {n : Nat} (hn : p.length = n) (x : UInt8) {xs : List (Bk n fun j c => c = co p j)} (hS : backS xs) : hornB x xs = evalL p x := by
  unfold hornB
  rw [back_vals hn hS, List.foldl_reverse]
  clear hS hn
  induction p with
  | nil => rfl
  | cons a p ih => rw [List.foldr_cons, ih (xs := []), evalL, add_comm, mul_comm]
def EvI (w : World) (x : UInt8) {n : Nat} {V : Nat → UInt8 → Prop} (pre : List (Bk n V)) (W : World) : Prop :=
  (Boxed W (w.heap.size + 1) 5 (.int .u8 ((hornB x pre).toNat : Int)) ∧ Boxed W w.heap.size 5 (.int .u8 (x.toNat : Int))) ∧ Below w.heap.size w W
theorem evI_own (w : World) (x : UInt8) {n : Nat} {V : Nat → UInt8 → Prop} (B : Nat) (hB : w.heap.size ≤ B) : OwnFrom B (EvI w x (n := n) (V := V)) :=
  OwnFrom.and (Own.from (fun s A B row hs hg hr => ⟨boxed_turn hs.1 hg hr, boxed_turn hs.2 hg hr⟩) _) (ownFrom_below (Nat.le_refl _) hB)

set_option maxHeartbeats 2000000 in
theorem evalP_any (p : List UInt8) (x : UInt8) (n : Nat) (A : Option Addr) (c : Nat) (w : World) (HN : Hid (p.length = n)) (hr : Rd vB w A p) (hc : n ≤ c) (hn : n ≤ 50000) :
    Calls Tryz.prog 200 #[.slice A n c, .int .u8 (x.toNat : Int)] w fun e w' => e = .returned (.int .u8 ((evalL p x).toNat : Int)) ∧ Below w.heap.size w w' := by
  refine (callsIn_wide (n := 3)).1 ?_
  refine callsIn_of_wp_marks Tryz.func200 rfl trivial ?_ rfl
  simp only [Tryz.ntmps200, List.size_toArray, List.length_cons, List.length_nil, Nat.reduceAdd, Nat.reduceSub, Array.replicate_succ, Array.replicate_zero, List.push_toArray, List.append_toArray, List.nil_append, List.cons_append]
  gi_wp2_with (refine ⟨trivial, ?_⟩; gi_at_call 189; refine (callsIn_wide.2 (backward_any _ _ _ _)).mono ?_; rintro e w' ⟨rfl, rfl⟩)
  have bX := ((Boxed.new w 5 (.int .u8 (x.toNat : Int))).alloc (.cells #[.int .u8 0] 5)).alloc (.cells #[.slice A n c] 22)
  have bV := (Boxed.new (w.alloc (.cells #[.int .u8 (x.toNat : Int)] 5)) 5 (.int .u8 0)).alloc (.cells #[.slice A n c] 22)
  have bN := Boxed.new ((w.alloc (.cells #[.int .u8 (x.toNat : Int)] 5)).alloc (.cells #[.int .u8 0] 5)) 22 (.slice A n c)
  simp only [World.size_alloc] at bN bV
  have hB0 : Below w.heap.size w (((w.alloc (.cells #[.int .u8 (x.toNat : Int)] 5)).alloc (.cells #[.int .u8 0] 5)).alloc (.cells #[.slice A n c] 22)) := (((Below.refl _ w).alloc (Nat.le_refl _) _).alloc (by simp) _).alloc (by simp; omega) _
  have hsz : (((w.alloc (.cells #[.int .u8 (x.toNat : Int)] 5)).alloc (.cells #[.int .u8 0] 5)).alloc (.cells #[.slice A n c] 22)).heap.size = w.heap.size + 3 := by simp
  generalize ((w.alloc (.cells #[.int .u8 (x.toNat : Int)] 5)).alloc (.cells #[.int .u8 0] 5)).alloc (.cells #[.slice A n c] 22) = W0 at bX bV bN hB0 hsz ⊢
  refine wpIn_rangeFunc_ownG rfl (by omega) (gf := 239) (lb := #[.pointer (some ⟨w.heap.size + 1 + 1, 0, none⟩)]) rfl trivial (enters_of Tryz.func239 (by kernel_rfl) rfl)
    (back_stops Fence.wide _ trivial rfl (by omega) (w.heap.size + 1 + 1) n c A (fun j c => c = co p j) (KpB w.heap.size (w.heap.size + 1 + 1)) (by omega) W0 (KpB.refl _ _) (fun _ _ _ => KpB.trans)
      (fun W hW W' hK => ⟨by
        have h1 : W'.heap[w.heap.size + 1 + 1]? = W0.heap[w.heap.size + 1 + 1]? := hK.2.trans (hW.block _ (by omega))
        exact Boxed.cell (t := 22) (h1.trans bN), p, HN.out, (hr.keep (hB0.trans ((hW.mono (by omega)).trans hK.1))), fun j _ => rfl⟩))
    (fun h k => KpB.trans h k) (KpB.own (by omega) (by omega)) (Below.refl _ _) (fun _ => rfl)
    (EvI w x) (fun _ _ _ => False) (evI_own w x _ (by omega)) (fun _ _ _ _ _ hs _ _ => hs)
    ⟨⟨bV, bX⟩, hB0⟩
    (fun y => { tmps := #[.slice A n c, .int .u8 (x.toNat : Int), undef, .pointer (some ⟨w.heap.size, 0, none⟩), .int .u8 0, .pointer (some ⟨w.heap.size + 1, 0, none⟩), undef, .int .u8 (y.val.toNat : Int), .slice A n c, .func (.func 239) #[] #[.pointer (some ⟨w.heap.size + 1 + 1, 0, none⟩)], .int .i64 (y.at : Int), .int .u8 (y.val.toNat : Int), undef, undef, undef, undef, undef, undef], defers := [] }) ?assign ?body ?done ?stop
  case assign =>
    intro l x W K hK
    unfold Bk.enc
    gi_wp2
    exact hK
  case body =>
    rintro l pre y W ⟨⟨hv, hx⟩, hB⟩ _
    have hvc := hv.cell
    have hvf := hv.frozen
    have hxc := hx.cell
    have HH : Hid (hornB x (pre ++ [y]) = addB (mulB (hornB x pre) x) y.val) := horn_snoc x pre y
    generalize hornB x pre = v at hv hvc HH
    generalize y.val = b at HH ⊢
    have hM : ∀ W, Calls Tryz.prog 190 #[.int .u8 (v.toNat : Int), .int .u8 (x.toNat : Int)] W fun e w'' => e = .returned (.int .u8 ((mulB v x).toNat : Int)) ∧ W = w'' := fun W => gfmul_any v x W
    generalize mulB v x = m at HH hM
    have hA : ∀ W, Calls Tryz.prog 136 #[.int .u8 (m.toNat : Int), .int .u8 (b.toNat : Int)] W fun e w'' => e = .returned (.int .u8 ((addB m b).toNat : Int)) ∧ W = w'' := fun W => gfadd_any m b W
    generalize addB m b = z at HH hA
    have HR : Hid (KeepsFrom W0.heap.size W (W.setCell ⟨w.heap.size + 1, 0, none⟩ (.int .u8 (z.toNat : Int))) ∧ KpB w.heap.size (w.heap.size + 1 + 1) W (W.setCell ⟨w.heap.size + 1, 0, none⟩ (.int .u8 (z.toNat : Int))) ∧ EvI w x (pre ++ [y]) (W.setCell ⟨w.heap.size + 1, 0, none⟩ (.int .u8 (z.toNat : Int)))) :=
      ⟨(KeepsOthers.setCell _ _ _).from _, ⟨(Below.refl _ W).setCell (p := ⟨w.heap.size + 1, 0, none⟩) (Nat.le_succ _) _, Below.heap_setCell W ⟨w.heap.size + 1, 0, none⟩ _ _ (by simp)⟩,
        ⟨by rw [HH.out]; exact hv.set _, hx.kept (grownBy_setCell' W (w.heap.size + 1) _) (by simp)⟩, hB.setCell (p := ⟨w.heap.size + 1, 0, none⟩) (Nat.le_succ _) _⟩
    have HM := Lib.hid hM
    have HA := Lib.hid hA
    clear hM hA hv hx hB HH bX bV bN
    gi_wp2_with (refine ⟨trivial, ?_⟩; first | (gi_at_call 190; refine (CallsIn.inRound l (callsIn_wide.2 (HM.out _))).mono ?_; rintro e w' ⟨rfl, rfl⟩) | (gi_at_call 136; refine (CallsIn.inRound l (callsIn_wide.2 (HA.out _))).mono ?_; rintro e w' ⟨rfl, rfl⟩))
    exact HR.out
  case done =>
    rintro D ys W hD hS ⟨⟨hv, hx⟩, hB⟩ hK
    rw [horn_all HN.out x hS] at hv
    have hvc := hv.cell
    gi_wp2
    refine ⟨by simp, .inl ⟨_, _, rfl, run_takeDeferred hK, ?_⟩⟩
    exact ⟨_, results_tmp rfl _ _ _, rfl, hB.trans (belowK_b (w := w) (Nat.le_refl _) W D _ _ (by omega) hK rfl rfl)⟩
  case stop =>
    rintro D c pre W _ _ h _
    exact h.elim
end Go.Proofs.YteppocjgodmpdaaGreatDoor
/-
  What the program's call addTimes of layer 8 leaves: a polynomial to which another one, times an element, is added from a place on. No conditions but those typed.
-/
namespace Go.Proofs.YteppocjgodmpdaaGreatDoor
set_option maxRecDepth 100000
open Go.RowKit
set_option linter.unusedSimpArgs false
set_option linter.unusedVariables false

theorem co_ext {p q : List UInt8} (hl : p.length = q.length) (h : ∀ k, k < p.length → co p k = co q k) : p = q := by
  apply List.ext_getElem hl
  intro i h1 h2
  have := h i h1
  rwa [co_lt p i h1, co_lt q i h2] at this
theorem co_set (l : List UInt8) (i k : Nat) (x : UInt8) (hi : i < l.length) : co (l.set i x) k = if k = i then x else co l k := by
  unfold co
  rw [List.getD_eq_getElem?_getD, List.getD_eq_getElem?_getD, List.getElem?_set]
  by_cases h : i = k
  · subst h
    rw [if_pos rfl, if_pos hi, if_pos rfl]
    rfl
  · rw [if_neg h, if_neg (fun e => h e.symm)]

/-- z added from place o on. -/
def atL (l : List UInt8) (o : Nat) (z : List UInt8) : List UInt8 := addL l (shiftL o z)
theorem at_length (l : List UInt8) (o : Nat) (z : List UInt8) (h : o + z.length ≤ l.length) : (atL l o z).length = l.length := by
  unfold atL
  rw [addL_length, shift_length]
  omega
theorem co_shift_low : ∀ (o : Nat) (z : List UInt8) (k : Nat), k < o → co (shiftL o z) k = 0
  | 0, _, _, h => absurd h (Nat.not_lt_zero _)
  | o + 1, z, 0, _ => rfl
  | o + 1, z, k + 1, h => by
    rw [shift_succ, co_succ]
    exact co_shift_low o z k (by omega)
theorem co_at (l : List UInt8) (o : Nat) (z : List UInt8) (k : Nat) : co (atL l o z) k = addB (co l k) (if k < o then 0 else co z (k - o)) := by
  unfold atL
  rw [co_add]
  split
  · next h => rw [co_shift_low o z k h]
  · next h =>
    have e : k = o + (k - o) := by omega
    conv => lhs; rw [e, co_shift, ← e]
theorem at_nil (l : List UInt8) (o : Nat) (h : o ≤ l.length) : atL l o [] = l := by
  refine co_ext (at_length l o [] (by simpa using h)) (fun k hk => ?_)
  rw [co_at]
  split
  · rw [add_zero]
  · rw [co_nil, add_zero]
theorem at_snoc (l : List UInt8) (o : Nat) (z : List UInt8) (x : UInt8) (h : o + z.length < l.length) :
    (atL l o z).set (o + z.length) (addB (co (atL l o z) (o + z.length)) x) = atL l o (z ++ [x]) := by
  have hl := at_length l o z (by omega)
  refine co_ext (by rw [List.length_set, hl, at_length l o (z ++ [x]) (by rw [List.length_append, List.length_singleton]; omega)]) (fun k hk => ?_)
  rw [co_set _ _ _ _ (by omega), co_at, co_at, co_at]
  split
  · next e =>
    subst e
    rw [if_neg (by omega), if_neg (by omega), Nat.add_sub_cancel_left, co_ge z _ (Nat.le_refl _), add_zero, co_snoc, if_neg (by omega), if_pos rfl]
  · next e =>
    split
    · rfl
    · rw [co_snoc]
      split
      · rfl
      · rw [if_neg (by omega), co_ge z _ (by omega)]

theorem co_pad (P : List UInt8) (r : Nat) (k : Nat) : co (P ++ List.replicate r 0) k = co P k := by
  rcases Nat.lt_or_ge k P.length with h | h
  · unfold co
    rw [List.getD_eq_getElem?_getD, List.getD_eq_getElem?_getD, List.getElem?_append_left h]
  · rw [co_ge P k h]
    unfold co
    rw [List.getD_eq_getElem?_getD, List.getElem?_append_right h, List.getElem?_replicate]
    split <;> rfl
/-- What a copy to the beginning of zeros leaves. -/
theorem pad_is (P : List UInt8) (M : Nat) (h : P.length ≤ M) : ((List.replicate M (0 : UInt8)).take 0 ++ P ++ (List.replicate M 0).drop (0 + P.length)).length = M ∧ Eqv ((List.replicate M (0 : UInt8)).take 0 ++ P ++ (List.replicate M 0).drop (0 + P.length)) P := by
  rw [List.take_zero, List.nil_append, List.drop_replicate]
  refine ⟨by rw [List.length_append, List.length_replicate]; omega, fun k => co_pad P _ k⟩
theorem at_one {T P Q p q : List UInt8} (h1 : Eqv T P) (h2 : Eqv P p) (h3 : Eqv Q q) : plainL (atL T 0 (scaleL 1 Q)) = plainL (addL p q) := plain_congr fun k => by
  rw [co_at, if_neg (Nat.not_lt_zero k), Nat.sub_zero, scale_one, h1 k, h2 k, h3 k, co_add]

theorem mul_snoc (c : UInt8) (Q : List UInt8) : ∀ A : List UInt8, Eqv (mulL (A ++ [c]) Q) (addL (mulL A Q) (shiftL A.length (scaleL c Q)))
  | [] => by
    rw [List.nil_append, mulL, mulL]
    exact (add_congr (Eqv.refl _) zero_cons).trans (addL_nil _)
  | a :: A => by
    rw [List.cons_append, mulL, mulL, List.length_cons, shift_succ]
    exact (add_congr (Eqv.refl _) (((mul_snoc c Q A).cons 0).trans (shift_add _ _))).trans (addL_assoc _ _ _).symm
/-- One round of a product. -/
theorem mul_round {T P Q : List UInt8} {k : Nat} (h : Eqv T (mulL (P.take k) Q)) (hk : k < P.length) : Eqv (atL T k (scaleL P[k] Q)) (mulL (P.take (k + 1)) Q) := by
  rw [List.take_succ_eq_append_getElem hk]
  refine Eqv.trans ?_ (mul_snoc P[k] Q (P.take k)).symm
  have : (P.take k).length = k := by rw [List.length_take]; omega
  rw [this]
  exact add_congr h (Eqv.refl _)
/-- The product of plain ones is plain. -/
theorem mul_plain_is {p q T : List UInt8} (hp : plainL p ≠ []) (hq : plainL q ≠ []) (hl : T.length = (plainL p).length + (plainL q).length - 1) (h : Eqv T (mulL (plainL p) (plainL q))) : T = plainL (mulL p q) := by
  have h1 : plainL (mulL p q) = plainL T := plain_congr (((mul_congr (plain_eqv p) (plain_eqv q)).symm).trans h.symm)
  have h2 := mul_plain_len p q hp hq
  rw [h1] at h2 ⊢
  have h3 := plain_is_take T
  rw [h2, ← hl, List.take_length] at h3
  exact h3.symm
/-- 's[k:]' of a slice whose block is known. -/
theorem run_cut_at {P : Program} (t e : TypeId) (ht : P.underlying t = some (.slice e)) (hz : ∀ w, (sizeOf e).run P w = .ok 1 w) (g o n cap k : Nat) (hk : k ≤ n) (hc : n ≤ cap) (hkc : k < cap) (w : World) :
    (Instr.slice t (.slice (some ⟨g, o, none⟩) n cap) (some (.int .i64 (k : Int))) none none).run P w = .ok (.slice (some ⟨g, o + k, none⟩) (n - k) (cap - k)) w := by
  have ht' : P.underlying t = some (.slice (P.elem t)) := by simp [Program.elem, ht]
  have he : P.elem t = e := by simp [Program.elem, ht]
  rw [run_slice_l w t (some ⟨g, o, none⟩) n cap ht' .i64 (k : Int) (by omega) (by omega), he, hz]
  have : ¬ cap = k := by omega
  simp [Result.andThen, sliced, this, Addr.add]

def AtRel (l q : List UInt8) (a : UInt8) (cap g o m : Nat) (w : World) (i : Value) (wr : World) : Prop :=
  ∃ k : Nat, k ≤ m ∧ i = .int .i64 (k : Int) ∧ CelN wr g 5 cap (atL l o (scaleL a (q.take k))) ∧ Only g w wr

set_option maxHeartbeats 2000000 in
theorem addtimes_cap (l q : List UInt8) (a : UInt8) (cap g o n c m : Nat) (B : Option Addr) (d : Nat) (w : World) (HM : Hid (q.length = m)) (hcel : CelN w g 5 cap l) (hq : Rd vB w B q) (hB : q ≠ [] → ∀ ad, B = some ad → ad.block ≠ g) (hmn : m ≤ n) (hnc : n ≤ c) (hn : o + n ≤ l.length) (hl : l.length ≤ 200000) :
    Calls Tryz.prog 191 #[.slice (some ⟨g, o, none⟩) n c, .slice B m d, .int .u8 (a.toNat : Int)] w fun e w' => (∃ v, e = .returned v) ∧ CelN w' g 5 cap (atL l o (scaleL a q)) ∧ Only g w w' := by
  go_enter Tryz.func191, Tryz.ntmps191
  go_wp2_with fail
  go_loopw [10] (fun i wr => AtRel l q a cap g o m w i wr) (fun i _ => m - (intOf i).toNat)
  case atStart => exact ⟨0, Nat.zero_le _, rfl, by rw [List.take_zero, scaleL, List.map_nil, at_nil l o (by omega)]; exact hcel, Only.refl _ _⟩
  case round =>
    obtain ⟨k, hk, rfl, hc, ho⟩ := hrel
    by_cases h : k < m
    · have j1 : (k : Int) < (m : Int) := by omega
      have j0 : (0 : Int) ≤ (k : Int) := by omega
      have j2 : (k : Int) < (n : Int) := by omega
      have hkq : k < q.length := by rw [HM.out]; exact h
      obtain ⟨b, ob, rfl, hb, hcell⟩ := (hq.only ho hB).at hkq
      have hc0 := hcell k hkq
      unfold vB at hc0
      have hz : (scaleL a (q.take k)).length = k := by unfold scaleL; rw [List.length_map, List.length_take]; omega
      have hs : (atL l o (scaleL a (q.take k))).set (o + k) (addB (co (atL l o (scaleL a (q.take k))) (o + k)) (mulB a q[k])) = atL l o (scaleL a (q.take (k + 1))) := by
        have := at_snoc l o (scaleL a (q.take k)) (mulB a q[k]) (by rw [hz]; omega)
        rw [hz] at this
        rw [this, List.take_succ_eq_append_getElem hkq]
        unfold scaleL
        rw [List.map_append]
        rfl
      have hco := hc.cel.get (o + k) (by rw [at_length l o _ (by rw [hz]; omega)]; omega)
      have hfr := hc.cel.frozen (o + k)
      generalize atL l o (scaleL a (q.take k)) = T at hc hco hs
      generalize q[k] = x at hc0 hs
      have hset := hc.drew.set (o + k) (addB (co T (o + k)) (mulB a x))
      rw [hs] at hset
      generalize co T (o + k) = y at hco hset
      rw [mul_comm a x] at hset
      have hM : ∀ W, Calls Tryz.prog 190 #[.int .u8 (x.toNat : Int), .int .u8 (a.toNat : Int)] W fun e w'' => e = .returned (.int .u8 ((mulB x a).toNat : Int)) ∧ w'' = W := fun W => (gfmul_any x a W).mono fun _ _ h => ⟨h.1, h.2.symm⟩
      generalize mulB x a = z at hM hset
      have hA : ∀ W, Calls Tryz.prog 136 #[.int .u8 (y.toNat : Int), .int .u8 (z.toNat : Int)] W fun e w'' => e = .returned (.int .u8 ((addB y z).toNat : Int)) ∧ w'' = W := fun W => (gfadd_any y z W).mono fun _ _ h => ⟨h.1, h.2.symm⟩
      generalize addB y z = u at hA hset
      have HREL : Hid (AtRel l q a cap g o m w (.int .i64 ((k : Int) + 1)) (wr.drew.setCell ⟨g, o + k, none⟩ (.int .u8 (u.toNat : Int)))) := ⟨k + 1, h, by go_num, hset, (ho.drew).setCell _ _⟩
      have HMu := Lib.hid hM
      have HAd := Lib.hid hA
      clear hset hc ho hs hcell hkq hM hA
      go_wp2_with fail
      refine wp_region_still_tail 11 (by kernel_rfl) (by kernel_rfl) ?_
      simp only [List.take_succ_cons, List.take_zero, List.drop_succ_cons, List.drop_zero]
      iterate 8 still_step
      still_call (HMu.out _)
      still_call (HAd.out _)
      still_step
      refine wpStill_nil ?_
      change wpList _ _ _ _ _ wr.drew
      go_wp2_with fail
      go_roundw
      case rel => exact HREL.out
      case measure => simp [intOf] <;> omega
    · have hkm : k = m := by omega
      subst hkm
      have j1 : ¬ (k : Int) < (k : Int) := by omega
      rw [List.take_of_length_le (by rw [HM.out]; exact Nat.le_refl _)] at hc
      go_wp2_with fail
      go_end0
      exact ⟨⟨_, rfl⟩, hc, ho⟩
theorem addtimes_any (l q : List UInt8) (a : UInt8) (g o n c m : Nat) (B : Option Addr) (d : Nat) (w : World) (HM : Hid (q.length = m)) (hcel : Cel w g 5 l) (hq : Rd vB w B q) (hB : q ≠ [] → ∀ ad, B = some ad → ad.block ≠ g) (hmn : m ≤ n) (hnc : n ≤ c) (hn : o + n ≤ l.length) (hl : l.length ≤ 200000) :
    Calls Tryz.prog 191 #[.slice (some ⟨g, o, none⟩) n c, .slice B m d, .int .u8 (a.toNat : Int)] w fun e w' => (∃ v, e = .returned v) ∧ Cel w' g 5 (atL l o (scaleL a q)) ∧ Only g w w' := by
  obtain ⟨cap, h⟩ := hcel.some_cap
  exact (addtimes_cap l q a cap g o n c m B d w HM h hq hB hmn hnc hn hl).mono fun e w' hh => ⟨hh.1, hh.2.1.cel, hh.2.2⟩
end Go.Proofs.YteppocjgodmpdaaGreatDoor
/-
  In how many places two are unlike (plain). No conditions but those typed.
-/
namespace Go.Proofs.YteppocjgodmpdaaGreatDoor
set_option maxRecDepth 100000
set_option linter.unusedVariables false
set_option linter.unusedSimpArgs false

theorem wt_cons (c : UInt8) (b : List UInt8) : wtL (c :: b) = (if c = 0 then 0 else 1) + wtL b := by
  unfold wtL
  by_cases h : c = 0
  · subst h
    rw [List.filter_cons_of_neg (by simp), if_pos rfl, Nat.zero_add]
  · rw [List.filter_cons_of_pos (by simpa using h), if_neg h, List.length_cons, Nat.add_comm]
theorem dif_nil_left (b : List UInt8) : difL [] b = 0 := by simp [difL, wtL]
theorem dif_cons (x y : UInt8) (a b : List UInt8) : difL (x :: a) (y :: b) = (if addB x y = 0 then 0 else 1) + difL a b := by
  unfold difL
  rw [List.zipWith_cons_cons, wt_cons]
theorem dif_set : ∀ (a b : List UInt8) (q : Nat) (z : UInt8), difL a (b.set q z) ≤ difL a b + 1
  | [], b, q, z => by rw [dif_nil_left]; omega
  | x :: a, [], q, z => by simp [difL, wtL]
  | x :: a, y :: b, 0, z => by
    rw [List.set_cons_zero, dif_cons, dif_cons]
    split <;> split <;> omega
  | x :: a, y :: b, q + 1, z => by
    rw [List.set_cons_succ, dif_cons, dif_cons]
    have := dif_set a b q z
    omega
theorem dif_self (a : List UInt8) : difL a a = 0 := by
  unfold difL
  rw [zip_self, wt_zeros]
end Go.Proofs.YteppocjgodmpdaaGreatDoor
