/-
  What the reference's calls of layer 7 answer: bits, powers of two, products, powers, inverses, logarithms. No conditions but those typed.
-/
import Derived.Test.YtankddeolpickaaRows
import Derived.Test.YtankddeolpickaaGfMath
import Derived.Test.YtankddeolpickaaMem
import Derived.WalkKit
import Derived.WalkSpells
import Derived.LoopTactic
import Derived.Lib.Hide
namespace Go.Proofs.Ytankddeolpickaa
set_option maxRecDepth 100000
open Go.RowKit
set_option linter.unusedSimpArgs false
set_option linter.unusedVariables false

theorem refbit_any (n k : Nat) (w : World) (hn : n ≤ 1000000000) (hk : k ≤ 60) :
    Calls Try.prog 55 #[.int .i64 (n : Int), .int .i64 (k : Int)] w fun e w' => e = .returned (.int .i64 ((n / 2 ^ k % 2 : Nat) : Int)) ∧ w = w' := by
  go_enter Try.func55, Try.ntmps55
  go_wp2
  go_loop [0, 5] (fun v i => ∃ j : Nat, j ≤ k ∧ i = .int .i64 (j : Int) ∧ v = .int .i64 ((n / 2 ^ j : Nat) : Int)) (fun _ i => k - (intOf i).toNat)
  case atStart => exact ⟨0, by omega, rfl, by simp⟩
  case round =>
    obtain ⟨j, hj, rfl, rfl⟩ := hrel
    have hle : n / 2 ^ j ≤ n := Nat.div_le_self _ _
    by_cases hlt : j < k
    · have HN : Hid (n / 2 ^ (j + 1) = n / 2 ^ j / 2) := by unfold Hid; rw [Nat.pow_succ, Nat.div_div_eq_div_mul]
      generalize n / 2 ^ j = v at hle HN ⊢
      go_wp2
      go_round
      case rel => exact ⟨j + 1, by omega, by go_num, by rw [HN.out]; go_num⟩
      case measure => simp [intOf]; omega
    · have hjk : j = k := by omega
      subst hjk
      generalize hv : n / 2 ^ j = v at hle
      have HV := Lib.hid hv
      clear hv
      go_wp2
      go_ret
      exact ⟨ret_int (by rw [← HV.out]; simp), rfl⟩
theorem refpower_any (k : Nat) (w : World) (hk : k ≤ 20) :
    Calls Try.prog 56 #[.int .i64 (k : Int)] w fun e w' => e = .returned (.int .i64 ((2 ^ k : Nat) : Int)) ∧ w = w' := by
  go_enter Try.func56, Try.ntmps56
  go_wp2
  go_loop [3, 4] (fun v i => ∃ j : Nat, j ≤ k ∧ i = .int .i64 (j : Int) ∧ v = .int .i64 ((2 ^ j : Nat) : Int)) (fun _ i => k - (intOf i).toNat)
  case atStart => exact ⟨0, by omega, rfl, rfl⟩
  case round =>
    obtain ⟨j, hj, rfl, rfl⟩ := hrel
    have hle : 2 ^ j ≤ 2 ^ 20 := Nat.pow_le_pow_right (by omega) (by omega)
    by_cases hlt : j < k
    · have HN : Hid (2 ^ (j + 1) = 2 ^ j * 2) := Nat.pow_succ 2 j
      generalize 2 ^ j = v at hle HN ⊢
      have hv : (v : Int) ≤ 1048576 := by omega
      clear hle
      go_wp2
      go_round
      case rel => exact ⟨j + 1, by omega, by go_num, by rw [HN.out]; congr 1; omega⟩
      case measure => simp [intOf]; omega
    · have hjk : j = k := by omega
      subst hjk
      generalize hv : 2 ^ j = v at hle
      have HV := Lib.hid hv
      clear hv hle
      go_wp2
      go_ret
      exact ⟨ret_int (by rw [← HV.out]; simp), rfl⟩

theorem i64_xor_nat (a b : Nat) (ha : a < 4611686018427387904) (hb : b < 4611686018427387904) : bits .xor .i64 (a : Int) (b : Int) = ((a ^^^ b : Nat) : Int) := by
  have hx : a ^^^ b < 2 ^ 62 := Nat.xor_lt_two_pow (by omega) (by omega)
  have e : ∀ x : Nat, x < 4611686018427387904 → (BitVec.ofInt 64 (x : Int)).toNat = x := fun x h => by
    rw [BitVec.ofInt_natCast, BitVec.toNat_ofNat]
    exact Nat.mod_eq_of_lt (by omega)
  show IntKind.i64.wrap ((BitVec.ofInt 64 (a : Int) ^^^ BitVec.ofInt 64 (b : Int)).toNat : Int) = _
  rw [BitVec.toNat_xor, e a ha, e b hb, IntKind.wrap_i64]
  omega
theorem clN_lt (a b : Nat) (ha : a < 256) : ∀ i, i ≤ 8 → clN a b i < 65536
  | 0, _ => by simp [clN]
  | i + 1, h => by
    have ih := clN_lt a b ha i (by omega)
    unfold clN
    split
    · have h2 : 2 ^ i ≤ 2 ^ 7 := Nat.pow_le_pow_right (by omega) (by omega)
      have h3 : a * 2 ^ i ≤ 255 * 2 ^ 7 := Nat.mul_le_mul (by omega) h2
      exact Nat.xor_lt_two_pow (n := 16) (by omega) (by omega)
    · exact ih
/-- What is left, behind j bits. -/
def leftN (p : Nat) : Nat → Nat
  | 0 => p
  | j + 1 => stepN (leftN p j) (14 - j)
theorem leftN_seven (p : Nat) : leftN p 7 = redN p := rfl
theorem leftN_lt (p : Nat) (hp : p < 65536) : ∀ j, j ≤ 7 → leftN p j < 65536
  | 0, _ => hp
  | j + 1, h => by
    have ih := leftN_lt p hp j (by omega)
    rw [leftN, stepN]
    split
    · have h2 : 2 ^ (14 - j - 8) ≤ 2 ^ 6 := Nat.pow_le_pow_right (by omega) (by omega)
      exact Nat.xor_lt_two_pow (n := 16) (by omega) (by omega)
    · exact ih

set_option maxRecDepth 100000 in
theorem refmul_any (a b : UInt8) (w : World) :
    Calls Try.prog 52 #[.int .u8 (a.toNat : Int), .int .u8 (b.toNat : Int)] w fun e w' => e = .returned (.int .u8 ((mulB a b).toNat : Int)) ∧ w = w' := by
  obtain ⟨x, hx⟩ : ∃ x, a.toNat = x := ⟨_, rfl⟩
  obtain ⟨y, hy⟩ : ∃ y, b.toNat = y := ⟨_, rfl⟩
  have hx8 : x < 256 := by rw [← hx]; exact a.toNat_lt
  have hy8 : y < 256 := by rw [← hy]; exact b.toNat_lt
  have HE : Hid ((mulB a b).toNat = leftN (clN x y 8) 7 % 256) := by
    unfold Hid mulB mulN
    rw [UInt8.toNat_ofNat', hx, hy, leftN_seven]
  rw [HE.out, hx, hy]
  clear hx hy HE
  have b1 : IntKind.i64.wrap (x : Int) = (x : Int) := by rw [IntKind.wrap_i64]; omega
  have b2 : IntKind.i64.wrap (y : Int) = (y : Int) := by rw [IntKind.wrap_i64]; omega
  go_enter Try.func52, Try.ntmps52
  go_wp2
  go_loop [5, 6] (fun p i => ∃ j : Nat, j ≤ 8 ∧ i = .int .i64 (j : Int) ∧ p = .int .i64 (clN x y j : Int)) (fun _ i => 8 - (intOf i).toNat)
  case atStart => exact ⟨0, by omega, rfl, rfl⟩
  case round =>
    obtain ⟨j, hj, rfl, rfl⟩ := hrel
    have hp := clN_lt x y hx8 j hj
    by_cases hlt : j < 8
    · have i1 : (j : Int) < 8 := by omega
      have i0 : (0 : Int) ≤ (j : Int) := by omega
      have HN : Hid (clN x y (j + 1) = if y / 2 ^ j % 2 = 1 then clN x y j ^^^ x * 2 ^ j else clN x y j) := rfl
      have h2 : 2 ^ j ≤ 2 ^ 7 := Nat.pow_le_pow_right (by omega) (by omega)
      have h3 : x * 2 ^ j ≤ 255 * 2 ^ 7 := Nat.mul_le_mul (by omega) h2
      have hxor := i64_xor_nat (clN x y j) (x * 2 ^ j) (by omega) (by omega)
      have hwm : IntKind.i64.wrap ((x * 2 ^ j : Nat) : Int) = ((x * 2 ^ j : Nat) : Int) := by rw [IntKind.wrap_i64]; omega
      have hmm : (x : Int) * ((2 ^ j : Nat) : Int) = ((x * 2 ^ j : Nat) : Int) := by rw [← Int.natCast_mul]
      by_cases hbit : y / 2 ^ j % 2 = 1
      · rw [if_pos hbit] at HN
        have HB : Hid (((y / 2 ^ j % 2 : Nat) : Int) = 1) := by unfold Hid; omega
        generalize hc : clN x y j = c at HN hxor hp
        have HC := Lib.hid hc
        generalize ht : x * 2 ^ j = t at HN hxor hwm hmm
        have HT := Lib.hid ht
        generalize hr : c ^^^ t = r at HN hxor
        generalize hq : 2 ^ j = q at hmm
        have HQ := Lib.hid hq
        clear hc ht hr hq h2 h3 hbit hp
        go_wp2_with fail
        refine (refbit_any y j _ (by omega) (by omega)).mono ?_
        rintro e w' ⟨rfl, rfl⟩
        rw [HB.out]
        go_wp2_with fail
        refine (refpower_any j _ (by omega)).mono ?_
        rintro e w' ⟨rfl, rfl⟩
        rw [HQ.out]
        go_wp2_with fail
        go_round
        case rel => exact ⟨j + 1, by omega, by go_num, by rw [HN.out]⟩
        case measure => simp [intOf]; omega
      · rw [if_neg hbit] at HN
        have HB : Hid (((y / 2 ^ j % 2 : Nat) : Int) = 0) := by unfold Hid; omega
        generalize hc : clN x y j = c at HN hxor hp
        have HC := Lib.hid hc
        clear hc h2 h3 hbit hp hxor hwm hmm
        go_wp2_with fail
        refine (refbit_any y j _ (by omega) (by omega)).mono ?_
        rintro e w' ⟨rfl, rfl⟩
        rw [HB.out]
        go_wp2_with fail
        go_round
        case rel => exact ⟨j + 1, by omega, by go_num, by rw [HN.out]⟩
        case measure => simp [intOf]; omega
    · have hj8 : j = 8 := by omega
      subst hj8
      generalize hc : clN x y 8 = c at hp
      have HC := Lib.hid hc
      have HL : Hid (∀ j, j ≤ 7 → leftN c j < 65536) := leftN_lt c hp
      clear hc hlt hj b1 b2
      go_wp2
      go_loop [5, 7] (fun p k => ∃ j : Nat, j ≤ 7 ∧ k = .int .i64 (14 - (j : Int)) ∧ p = .int .i64 (leftN c j : Int)) (fun _ k => (intOf k - 7).toNat)
      case atStart => exact ⟨0, by omega, rfl, rfl⟩
      case round =>
        obtain ⟨j, hj, rfl, rfl⟩ := hrel
        have hl := HL.out j hj
        by_cases hlt : j < 7
        · have i1 : (8 : Int) ≤ 14 - (j : Int) := by omega
          obtain ⟨k, hk⟩ : ∃ k : Nat, k = 14 - j := ⟨_, rfl⟩
          have ek : (14 : Int) - (j : Int) = (k : Int) := by omega
          have HK := Lib.hid hk
          have HN : Hid (leftN c (j + 1) = if leftN c j / 2 ^ k % 2 = 1 then leftN c j ^^^ 301 * 2 ^ (k - 8) else leftN c j) := by unfold Hid; rw [hk]; rfl
          have h2 : 2 ^ (k - 8) ≤ 2 ^ 6 := Nat.pow_le_pow_right (by omega) (by omega)
          have hxor := i64_xor_nat (leftN c j) (301 * 2 ^ (k - 8)) (by omega) (by omega)
          have hmm : (301 : Int) * ((2 ^ (k - 8) : Nat) : Int) = ((301 * 2 ^ (k - 8) : Nat) : Int) := by omega
          have hwm : IntKind.i64.wrap ((301 * 2 ^ (k - 8) : Nat) : Int) = ((301 * 2 ^ (k - 8) : Nat) : Int) := by rw [IntKind.wrap_i64]; omega
          have e8 : (k : Int) - 8 = ((k - 8 : Nat) : Int) := by omega
          have e9 : IntKind.i64.wrap ((k - 8 : Nat) : Int) = ((k - 8 : Nat) : Int) := by rw [IntKind.wrap_i64]; omega
          have e10 : (k : Int) - 1 = 14 - ((j : Int) + 1) := by omega
          have k8 : 8 ≤ k := by omega
          have k14 : k ≤ 14 := by omega
          rw [ek] at i1 ⊢
          by_cases hbit : leftN c j / 2 ^ k % 2 = 1
          · rw [if_pos hbit] at HN
            have HB : Hid (((leftN c j / 2 ^ k % 2 : Nat) : Int) = 1) := by unfold Hid; omega
            generalize hc : leftN c j = p at HN hxor hl HB
            generalize ht : 301 * 2 ^ (k - 8) = t at HN hxor hwm hmm
            generalize hr : p ^^^ t = r at HN hxor
            generalize hq : 2 ^ (k - 8) = q at hwm hmm
            have HQ := Lib.hid hq
            generalize hs : k - 8 = s at e8 e9 HQ
            have HS : Hid (s ≤ 20) := by unfold Hid; omega
            clear hc ht hr hq h2 hbit ek hk hs
            go_wp2_with fail
            refine (refbit_any p k _ (by omega) (by omega)).mono ?_
            rintro e w' ⟨rfl, rfl⟩
            rw [HB.out]
            go_wp2_with fail
            refine (refpower_any s _ HS.out).mono ?_
            rintro e w' ⟨rfl, rfl⟩
            rw [HQ.out]
            go_wp2_with fail
            go_round
            case rel => exact ⟨j + 1, by omega, by go_num, by rw [HN.out]⟩
            case measure => simp [intOf]; omega
          · rw [if_neg hbit] at HN
            have HB : Hid (((leftN c j / 2 ^ k % 2 : Nat) : Int) = 0) := by unfold Hid; omega
            generalize hc : leftN c j = p at HN hl HB
            clear hc hxor hmm hwm e8 e9 h2 hbit ek hk
            go_wp2_with fail
            refine (refbit_any p k _ (by omega) (by omega)).mono ?_
            rintro e w' ⟨rfl, rfl⟩
            rw [HB.out]
            go_wp2_with fail
            go_round
            case rel => exact ⟨j + 1, by omega, by go_num, by rw [HN.out]⟩
            case measure => simp [intOf]; omega
        · have hj7 : j = 7 := by omega
          subst hj7
          generalize hc : leftN c 7 = p at hl
          have HP := Lib.hid hc
          have m1 : IntKind.u8.wrap (p : Int) = ((p % 256 : Nat) : Int) := by rw [IntKind.wrap_u8']; omega
          clear hc hlt
          go_wp2
          go_ret
          exact ⟨ret_int (by rw [HC.out, HP.out]), rfl⟩

/-! ### Powers -/
def powZ (a : UInt8) (n : Int) : UInt8 := if a = 0 then (if n = 0 then 1 else 0) else powB a (n % 255).toNat
theorem refpow_core (a : UInt8) (n m : Int) (r : Nat) (w : World) (ha : a ≠ 0) (hm : n.tmod 255 = m) (hr : (r : Int) = if m < 0 then m + 255 else m) (hr2 : r < 255) :
    Calls Try.prog 53 #[.int .u8 (a.toNat : Int), .int .i64 n] w fun e w' => e = .returned (.int .u8 ((powB a r).toNat : Int)) ∧ w = w' := by
  have hne : a.toNat ≠ 0 := fun e => ha (UInt8.toNat_inj.1 e)
  have z1 : ((a.toNat : Int) == 0) = false := beq_eq_false_iff_ne.2 (fun h => hne (by omega))
  have hmb : -255 ≤ m ∧ m < 255 := by
    by_cases h : m < 0
    · rw [if_pos h] at hr; omega
    · rw [if_neg h] at hr; omega
  obtain ⟨l1, l2⟩ := hmb
  have HR2 := Lib.hid hr2
  clear ha hne
  by_cases hneg : m < 0
  · rw [if_pos hneg] at hr
    have hs : m + 255 = (r : Int) := by omega
    have hw1 : IntKind.i64.wrap (r : Int) = (r : Int) := by rw [IntKind.wrap_i64]; omega
    clear hr hr2
    go_enter Try.func53, Try.ntmps53
    go_wp2
    go_loop [5, 6] (fun p i => ∃ j : Nat, j ≤ r ∧ i = .int .i64 (j : Int) ∧ p = .int .u8 ((powB a j).toNat : Int)) (fun _ i => r - (intOf i).toNat)
    case atStart => exact ⟨0, by omega, rfl, rfl⟩
    case round =>
      obtain ⟨j, hj, rfl, rfl⟩ := hrel
      have hr2 := HR2.out
      by_cases hlt : j < r
      · have HN : Hid (powB a (j + 1) = mulB (powB a j) a) := rfl
        generalize powB a j = p at HN ⊢
        go_wp2_with fail
        refine (refmul_any p a _).mono ?_
        rintro e w' ⟨rfl, rfl⟩
        rw [← HN.out]
        generalize hq : powB a (j + 1) = q
        have HQ := Lib.hid hq
        clear hq
        go_wp2_with fail
        go_round
        case rel => exact ⟨j + 1, by omega, by go_num, by rw [HQ.out]⟩
        case measure => simp [intOf]; omega
      · have hjr : j = r := by omega
        subst hjr
        generalize hq : powB a j = q
        have HQ := Lib.hid hq
        clear hq
        go_wp2
        go_ret
        exact ⟨ret_int (by rw [HQ.out]), rfl⟩
  · rw [if_neg hneg] at hr
    subst hr
    have h0 : ¬ (r : Int) < 0 := by omega
    clear hr2 hneg l1
    go_enter Try.func53, Try.ntmps53
    go_wp2
    go_loop [5, 6] (fun p i => ∃ j : Nat, j ≤ r ∧ i = .int .i64 (j : Int) ∧ p = .int .u8 ((powB a j).toNat : Int)) (fun _ i => r - (intOf i).toNat)
    case atStart => exact ⟨0, by omega, rfl, rfl⟩
    case round =>
      obtain ⟨j, hj, rfl, rfl⟩ := hrel
      have hr2 := HR2.out
      by_cases hlt : j < r
      · have HN : Hid (powB a (j + 1) = mulB (powB a j) a) := rfl
        generalize powB a j = p at HN ⊢
        go_wp2_with fail
        refine (refmul_any p a _).mono ?_
        rintro e w' ⟨rfl, rfl⟩
        rw [← HN.out]
        generalize hq : powB a (j + 1) = q
        have HQ := Lib.hid hq
        clear hq
        go_wp2_with fail
        go_round
        case rel => exact ⟨j + 1, by omega, by go_num, by rw [HQ.out]⟩
        case measure => simp [intOf]; omega
      · have hjr : j = r := by omega
        subst hjr
        generalize hq : powB a j = q
        have HQ := Lib.hid hq
        clear hq
        go_wp2
        go_ret
        exact ⟨ret_int (by rw [HQ.out]), rfl⟩
theorem refpow_any (a : UInt8) (n : Int) (w : World) :
    Calls Try.prog 53 #[.int .u8 (a.toNat : Int), .int .i64 n] w fun e w' => e = .returned (.int .u8 ((powZ a n).toNat : Int)) ∧ w = w' := by
  by_cases ha : a = 0
  · subst ha
    by_cases hn : n = 0
    · subst hn
      have HE : Hid (powZ 0 0 = 1) := rfl
      rw [HE.out]
      go_enter Try.func53, Try.ntmps53
      go_wp2
      go_ret
      exact ⟨rfl, rfl⟩
    · have HE : Hid (powZ 0 n = 0) := by unfold Hid powZ; rw [if_pos rfl, if_neg hn]
      rw [HE.out]
      have z : (n == 0) = false := beq_eq_false_iff_ne.2 hn
      go_enter Try.func53, Try.ntmps53
      go_wp2
      go_ret
      exact ⟨rfl, rfl⟩
  · have HE : Hid (powZ a n = powB a (n % 255).toNat) := by unfold Hid powZ; rw [if_neg ha]
    rw [HE.out]
    refine refpow_core a n (n.tmod 255) _ w ha rfl ?_ (by omega)
    rw [Int.tmod_eq_emod]
    split <;> split <;> omega
theorem refexp_any (n : Int) (w : World) :
    Calls Try.prog 47 #[.int .i64 n] w fun e w' => e = .returned (.int .u8 ((powZ 2 n).toNat : Int)) ∧ w = w' := by
  go_enter Try.func47, Try.ntmps47
  go_wp2_with fail
  refine (refpow_any 2 n _).mono ?_
  rintro e w' ⟨rfl, rfl⟩
  go_wp2_with fail
  go_ret
  exact ⟨rfl, rfl⟩

/-! ### Inverses and logarithms, by trying -/
set_option maxRecDepth 100000 in
theorem refinv_any (a : UInt8) (w : World) (ha : a ≠ 0) :
    Calls Try.prog 54 #[.int .u8 (a.toNat : Int)] w fun e w' => e = .returned (.int .u8 ((invB a).toNat : Int)) ∧ w = w' := by
  have hi0 : (invB a).toNat ≠ 0 := fun e => inv_ne a ha (UInt8.toNat_inj.1 e)
  have hi8 : (invB a).toNat < 256 := (invB a).toNat_lt
  obtain ⟨v, hv⟩ : ∃ v, (invB a).toNat = v := ⟨_, rfl⟩
  have HV := Lib.hid hv
  rw [hv] at hi0 hi8
  have HI := Lib.hid hi0
  have HA := Lib.hid ha
  clear hv hi0 ha
  go_enter Try.func54, Try.ntmps54
  go_wp2
  go_loop [3] (fun i => ∃ j : Nat, 1 ≤ j ∧ j ≤ v ∧ i = .int .i64 (j : Int)) (fun i => v - (intOf i).toNat)
  case atStart => exact ⟨1, by omega, by have := HI.out; omega, rfl⟩
  case round =>
    obtain ⟨j, h1, hj, rfl⟩ := hrel
    have i1 : (j : Int) < 256 := by omega
    have hw1 : IntKind.u8.wrap (j : Int) = ((UInt8.ofNat j).toNat : Int) := by rw [IntKind.wrap_u8', UInt8.toNat_ofNat']; omega
    have hx : (UInt8.ofNat j).toNat = j := by rw [UInt8.toNat_ofNat']; omega
    by_cases hlt : j < v
    · have hne : mulB a (UInt8.ofNat j) ≠ 1 := by
        intro h
        have := inv_unique a _ h
        have e := HV.out
        rw [← this, hx] at e
        omega
      have HB : Hid ((((mulB a (UInt8.ofNat j)).toNat : Int) == 1) = false) := beq_eq_false_iff_ne.2 (fun h => hne (UInt8.toNat_inj.1 (by show _ = 1; omega)))
      generalize UInt8.ofNat j = x at hw1 HB
      clear hx hne
      go_wp2_with fail
      refine (refmul_any a x _).mono ?_
      rintro e w' ⟨rfl, rfl⟩
      have hb := HB.out
      generalize (mulB a x).toNat = z at hb
      go_wp2_with fail
      go_round
      case rel => exact ⟨j + 1, by omega, by omega, by go_num⟩
      case measure => simp [intOf]; omega
    · have hjv : j = v := by omega
      have e : UInt8.ofNat j = invB a := by
        apply UInt8.toNat_inj.1
        rw [hx, HV.out]
        exact hjv
      have HB : Hid (((mulB a (UInt8.ofNat j)).toNat : Int) = 1) := by unfold Hid; rw [e, mul_inv a HA.out]; rfl
      have HE := Lib.hid e
      generalize UInt8.ofNat j = x at hw1 HB HE
      clear hx e hlt hjv
      go_wp2_with fail
      refine (refmul_any a x _).mono ?_
      rintro e w' ⟨rfl, rfl⟩
      rw [HB.out]
      go_wp2_with fail
      go_ret
      exact ⟨ret_int (by rw [HE.out]), rfl⟩
theorem powZ_two (j : Nat) (h : j < 255) : powZ 2 (j : Int) = powB 2 j := by
  unfold powZ
  rw [if_neg (by decide)]
  congr 1
  omega
end Go.Proofs.Ytankddeolpickaa
