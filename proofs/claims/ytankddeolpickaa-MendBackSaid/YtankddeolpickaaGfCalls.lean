/-
  What the program's calls of layer 7 answer, over the landed code: products by doubling, powers by squaring, logarithms by trying.
-/
import Derived.Test.YtankddeolpickaaGfRef
import Derived.Test.YtankddeolpickaaGfWay
namespace Go.Proofs.Ytankddeolpickaa
set_option maxRecDepth 100000
open Go.RowKit
set_option linter.unusedSimpArgs false
set_option linter.unusedVariables false

theorem gfadd_any (a b : UInt8) (w : World) : Calls Try.prog 16 #[.int .u8 (a.toNat : Int), .int .u8 (b.toNat : Int)] w fun e w' => e = .returned (.int .u8 ((addB a b).toNat : Int)) ∧ w = w' := by
  have hx := u8_xor_b a b
  have HE : Hid (addB a b = xorB a b) := rfl
  rw [HE.out]
  generalize xorB a b = z at hx
  go_enter Try.func16, Try.ntmps16
  go_wp2_with fail
  go_ret
  exact ⟨rfl, rfl⟩
theorem times_val (a : UInt8) : bits .xor .u8 ((a.toNat : Int) * 2 % 256) ((a.toNat : Int) / 128 * 45 % 256) = ((mulB a 2).toNat : Int) := by
  have h := a.toNat_lt
  have e1 : (a.toNat : Int) * 2 % 256 = ((a.toNat * 2 % 256 : Nat) : Int) := by omega
  have e2 : (a.toNat : Int) / 128 * 45 % 256 = ((a.toNat / 128 * 45 : Nat) : Int) := by omega
  rw [e1, e2, u8_xor_nat _ _ (by omega) (by omega), times_any]
theorem gftimes_any (a : UInt8) (w : World) : Calls Try.prog 44 #[.int .u8 (a.toNat : Int)] w fun e w' => e = .returned (.int .u8 ((mulB a 2).toNat : Int)) ∧ w = w' := by
  have hx := times_val a
  generalize (mulB a 2).toNat = z at hx ⊢
  go_enter Try.func44, Try.ntmps44
  go_wp2_with fail
  go_ret
  exact ⟨rfl, rfl⟩
theorem and_table : ∀ n : Nat, n < 256 → bits .and .u8 (n : Int) 1 = ((n % 2 : Nat) : Int) := by decide +kernel
theorem bit_val (b : UInt8) (j : Nat) : bits .and .u8 ((b.toNat : Int) / 2 ^ j) 1 = ((b.toNat / 2 ^ j % 2 : Nat) : Int) := by
  have e : (b.toNat : Int) / 2 ^ j = ((b.toNat / 2 ^ j : Nat) : Int) := by rw [Int.natCast_ediv, Int.natCast_pow]; rfl
  have h : b.toNat / 2 ^ j ≤ b.toNat := Nat.div_le_self _ _
  have h2 := b.toNat_lt
  rw [e, and_table _ (by omega)]
theorem mul_val (a b : UInt8) (j : Nat) (hj : j < 8) : bits .xor .u8 ((mulB a (lowB b j)).toNat : Int) (((dblB a j).toNat : Int) * bits .and .u8 ((b.toNat : Int) / 2 ^ j) 1 % 256) = ((mulB a (lowB b (j + 1))).toNat : Int) := by
  rw [bit_val, ← mul_step a b j hj]
  have e : ((dblB a j).toNat : Int) * ((b.toNat / 2 ^ j % 2 : Nat) : Int) % 256 = ((if b.toNat / 2 ^ j % 2 = 1 then dblB a j else 0 : UInt8).toNat : Int) := by
    have h := (dblB a j).toNat_lt
    by_cases hb : b.toNat / 2 ^ j % 2 = 1
    · rw [if_pos hb, hb]; omega
    · rw [if_neg hb, show b.toNat / 2 ^ j % 2 = 0 by omega]; show _ = ((0 : Nat) : Int); omega
  rw [e, u8_xor_b]
  rfl
set_option maxRecDepth 100000 in
theorem gfmul_any (a b : UInt8) (w : World) : Calls Try.prog 33 #[.int .u8 (a.toNat : Int), .int .u8 (b.toNat : Int)] w fun e w' => e = .returned (.int .u8 ((mulB a b).toNat : Int)) ∧ w = w' := by
  have HD : Hid (dblB a 0 = a) := dbl_zero a
  have HM : Hid (mulB a (lowB b 0) = 0) := mul_start a b
  have HE : Hid (mulB a (lowB b 8) = mulB a b) := mul_end a b
  go_enter Try.func33, Try.ntmps33
  go_wp2_with fail
  go_loop [0, 5, 7] (fun x p i => ∃ j : Nat, j ≤ 8 ∧ i = .int .i64 (j : Int) ∧ x = .int .u8 ((dblB a j).toNat : Int) ∧ p = .int .u8 ((mulB a (lowB b j)).toNat : Int)) (fun _ _ i => 8 - (intOf i).toNat)
  case atStart => exact ⟨0, by omega, rfl, by rw [HD.out], by rw [HM.out]; rfl⟩
  case round =>
    obtain ⟨j, hj, rfl, rfl, rfl⟩ := hrel
    by_cases hlt : j < 8
    · have i1 : (j : Int) < 8 := by omega
      have i0 : (0 : Int) ≤ (j : Int) := by omega
      have HT : Hid (mulB (dblB a j) 2 = dblB a (j + 1)) := dbl_step a j
      have hv := mul_val a b j hlt
      generalize hx : dblB a j = x at HT hv ⊢
      have HX := Lib.hid hx
      generalize hp : mulB a (lowB b j) = p at hv ⊢
      have HP := Lib.hid hp
      generalize hq : mulB a (lowB b (j + 1)) = q at hv
      have HQ := Lib.hid hq
      clear hx hp hq
      go_wp2_with fail
      refine (gftimes_any x _).mono ?_
      rintro e w' ⟨rfl, rfl⟩
      rw [HT.out]
      generalize hy : dblB a (j + 1) = y
      have HY := Lib.hid hy
      clear hy
      go_wp2_with fail
      go_round
      case rel => exact ⟨j + 1, by omega, by go_num, by rw [HY.out], by rw [HQ.out]⟩
      case measure => simp [intOf]; omega
    · have hj8 : j = 8 := by omega
      subst hj8
      rw [HE.out]
      generalize hp : mulB a b = p
      have HP := Lib.hid hp
      clear hp
      go_wp2_with fail
      go_ret
      exact ⟨ret_int (by rw [HP.out]), rfl⟩

theorem gfreckon_any (n : Int) (r : Nat) (w : World) (hr : (r : Int) = n % 255) : Calls Try.prog 51 #[.int .i64 n] w fun e w' => e = .returned (.int .i64 (r : Int)) ∧ w = w' := by
  have h1 : (n.tmod 255 + 255).tmod 255 = (r : Int) := by
    rw [Int.tmod_eq_emod, Int.tmod_eq_emod]
    split <;> split <;> omega
  have h2 : -255 < n.tmod 255 ∧ n.tmod 255 < 255 := by
    rw [Int.tmod_eq_emod]
    split <;> omega
  have h3 : wrap64 (n.tmod 255 + 255) = n.tmod 255 + 255 := by
    unfold wrap64
    omega
  clear hr h2
  go_enter Try.func51, Try.ntmps51
  go_wp2_with fail
  rw [h3]
  go_ret
  exact ⟨rfl, rfl⟩
theorem gfnone_zero (w : World) : Calls Try.prog 50 #[.int .i64 0] w fun e w' => e = .returned (.int .u8 1) ∧ w = w' := by
  go_enter Try.func50, Try.ntmps50
  go_wp2_with fail
  go_ret
  exact ⟨rfl, rfl⟩
theorem gfnone_any (n : Int) (w : World) (hn : n ≠ 0) : Calls Try.prog 50 #[.int .i64 n] w fun e w' => e = .returned (.int .u8 0) ∧ w = w' := by
  have z : (n == 0) = false := beq_eq_false_iff_ne.2 hn
  clear hn
  go_enter Try.func50, Try.ntmps50
  go_wp2_with fail
  go_ret
  exact ⟨rfl, rfl⟩
theorem i64_bit (r j : Nat) (hr : r < 256) : bits .and .i64 ((r : Int) / 2 ^ j) 1 = ((r / 2 ^ j % 2 : Nat) : Int) := by
  have e : (r : Int) / 2 ^ j = ((r / 2 ^ j : Nat) : Int) := by rw [Int.natCast_ediv, Int.natCast_pow]; rfl
  have h : r / 2 ^ j ≤ r := Nat.div_le_self _ _
  have t : ∀ n : Nat, n < 256 → bits .and .i64 (n : Int) 1 = ((n % 2 : Nat) : Int) := by decide +kernel
  rw [e, t _ (by omega)]
set_option maxRecDepth 100000 in
theorem gfpow_any (a : UInt8) (n : Int) (w : World) : Calls Try.prog 43 #[.int .u8 (a.toNat : Int), .int .i64 n] w fun e w' => e = .returned (.int .u8 ((powZ a n).toNat : Int)) ∧ w = w' := by
  by_cases ha : a = 0
  · subst ha
    by_cases hn : n = 0
    · subst hn
      have HE : Hid (powZ 0 0 = 1) := rfl
      rw [HE.out]
      go_enter Try.func43, Try.ntmps43
      go_wp2_with fail
      refine (gfnone_zero _).mono ?_
      rintro e w' ⟨rfl, rfl⟩
      go_wp2_with fail
      go_ret
      exact ⟨rfl, rfl⟩
    · have HE : Hid (powZ 0 n = 0) := by unfold Hid powZ; rw [if_pos rfl, if_neg hn]
      rw [HE.out]
      have HN := Lib.hid hn
      clear hn
      go_enter Try.func43, Try.ntmps43
      go_wp2_with fail
      refine (gfnone_any n _ HN.out).mono ?_
      rintro e w' ⟨rfl, rfl⟩
      go_wp2_with fail
      go_ret
      exact ⟨rfl, rfl⟩
  · obtain ⟨r, hr⟩ : ∃ r : Nat, r = (n % 255).toNat := ⟨_, rfl⟩
    have hr1 : (r : Int) = n % 255 := by omega
    have hr2 : r < 255 := by omega
    have HE : Hid (powZ a n = powB a r) := by unfold Hid powZ; rw [if_neg ha, hr]
    rw [HE.out]
    have hne : a.toNat ≠ 0 := fun e => ha (UInt8.toNat_inj.1 e)
    have z1 : ((a.toNat : Int) == 0) = false := beq_eq_false_iff_ne.2 (fun h => hne (by omega))
    have HR := Lib.hid hr1
    have HR2 := Lib.hid hr2
    have HS : Hid (powB a (r % 2 ^ 0) = 1) := pow_start a r
    have HQ0 : Hid (sqB a 0 = a) := sq_zero a
    have HF : Hid (powB a (r % 2 ^ 8) = powB a r) := pow_end a r hr2
    clear ha hne hr hr1 hr2
    go_enter Try.func43, Try.ntmps43
    go_wp2_with fail
    refine (gfreckon_any n r _ HR.out).mono ?_
    rintro e w' ⟨rfl, rfl⟩
    go_wp2_with fail
    go_loop [0, 5, 13] (fun x p i => ∃ j : Nat, j ≤ 8 ∧ i = .int .i64 (j : Int) ∧ x = .int .u8 ((sqB a j).toNat : Int) ∧ p = .int .u8 ((powB a (r % 2 ^ j)).toNat : Int)) (fun _ _ i => 8 - (intOf i).toNat)
    case atStart => exact ⟨0, by omega, rfl, by rw [HQ0.out], by rw [HS.out]; rfl⟩
    case round =>
      obtain ⟨j, hj, rfl, rfl, rfl⟩ := hrel
      have hr2 := HR2.out
      by_cases hlt : j < 8
      · have i1 : (j : Int) < 8 := by omega
        have i0 : (0 : Int) ≤ (j : Int) := by omega
        have HT : Hid (mulB (sqB a j) (sqB a j) = sqB a (j + 1)) := sq_step a j
        have hb := i64_bit r j (by omega)
        by_cases hbit : r / 2 ^ j % 2 = 1
        · have HB : Hid (mulB (powB a (r % 2 ^ j)) (sqB a j) = powB a (r % 2 ^ (j + 1))) := pow_bit a r j hbit
          rw [hbit] at hb
          generalize sqB a j = x at HT HB ⊢
          generalize powB a (r % 2 ^ j) = p at HB ⊢
          clear hbit
          go_wp2_with fail
          refine (gfmul_any p x _).mono ?_
          rintro e w' ⟨rfl, rfl⟩
          rw [HB.out]
          generalize hq : powB a (r % 2 ^ (j + 1)) = q
          have HQ := Lib.hid hq
          clear hq
          go_wp2_with fail
          refine (gfmul_any x x _).mono ?_
          rintro e w' ⟨rfl, rfl⟩
          rw [HT.out]
          generalize hy : sqB a (j + 1) = y
          have HY := Lib.hid hy
          clear hy
          go_wp2_with fail
          go_round
          case rel => exact ⟨j + 1, by omega, by go_num, by rw [HY.out], by rw [HQ.out]⟩
          case measure => simp [intOf]; omega
        · have HB : Hid (powB a (r % 2 ^ j) = powB a (r % 2 ^ (j + 1))) := pow_none a r j hbit
          rw [show r / 2 ^ j % 2 = 0 by omega] at hb
          generalize sqB a j = x at HT ⊢
          generalize powB a (r % 2 ^ j) = p at HB ⊢
          clear hbit
          go_wp2_with fail
          refine (gfmul_any x x _).mono ?_
          rintro e w' ⟨rfl, rfl⟩
          rw [HT.out]
          generalize hy : sqB a (j + 1) = y
          have HY := Lib.hid hy
          clear hy
          go_wp2_with fail
          go_round
          case rel => exact ⟨j + 1, by omega, by go_num, by rw [HY.out], by rw [HB.out]⟩
          case measure => simp [intOf]; omega
      · have hj8 : j = 8 := by omega
        subst hj8
        rw [HF.out]
        generalize hp : powB a r = p
        have HP := Lib.hid hp
        clear hp
        go_wp2_with fail
        go_ret
        exact ⟨ret_int (by rw [HP.out]), rfl⟩
theorem gfexp_any (n : Int) (w : World) : Calls Try.prog 30 #[.int .i64 n] w fun e w' => e = .returned (.int .u8 ((powZ 2 n).toNat : Int)) ∧ w = w' := by
  go_enter Try.func30, Try.ntmps30
  go_wp2_with fail
  refine (gfpow_any 2 n _).mono ?_
  rintro e w' ⟨rfl, rfl⟩
  go_wp2_with fail
  go_ret
  exact ⟨rfl, rfl⟩
theorem gfinv_zero (w : World) : Calls Try.prog 31 #[.int .u8 0] w fun e w' => e = .returned (.tuple #[.int .u8 0, .int .i64 1]) ∧ w = w' := by
  go_enter Try.func31, Try.ntmps31
  go_wp2_with fail
  go_ret2
  exact ⟨rfl, rfl⟩
theorem gfinv_any (a : UInt8) (w : World) (ha : a ≠ 0) : Calls Try.prog 31 #[.int .u8 (a.toNat : Int)] w fun e w' => e = .returned (.tuple #[.int .u8 ((invB a).toNat : Int), .int .i64 0]) ∧ w = w' := by
  have hne : a.toNat ≠ 0 := fun e => ha (UInt8.toNat_inj.1 e)
  have z1 : ((a.toNat : Int) == 0) = false := beq_eq_false_iff_ne.2 (fun h => hne (by omega))
  have HI : Hid (powZ a (-1) = invB a) := by unfold Hid powZ; rw [if_neg ha]; rfl
  clear ha hne
  go_enter Try.func31, Try.ntmps31
  go_wp2_with fail
  refine (gfpow_any a (-1) _).mono ?_
  rintro e w' ⟨rfl, rfl⟩
  rw [HI.out]
  go_wp2_with fail
  go_ret2
  exact ⟨rfl, rfl⟩
theorem ex_inv : mulB (invB 2) 2 = 1 := by rw [mul_comm]; exact mul_inv 2 (by decide)
theorem ex_log : logB 45 = 8 := by decide +kernel
theorem ex_mul : mulB 128 2 = 45 := by decide +kernel
theorem ex_add : addB 5 3 = 6 := by decide +kernel
theorem ex_exp : powZ 2 8 = 45 := by decide +kernel
theorem ex_pow : powZ 0 0 = 1 := rfl
end Go.Proofs.Ytankddeolpickaa
