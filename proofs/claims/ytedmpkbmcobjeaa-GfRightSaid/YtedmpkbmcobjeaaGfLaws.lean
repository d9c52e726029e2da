/-
  The walks of the laws GfField, GfPowers and GfRight: the field's laws, powers and logarithms, and that they are the document's. No conditions.
-/
import Derived.Test.YtedmpkbmcobjeaaGfCalls
namespace Go.Proofs.Ytedmpkbmcobjeaa
set_option maxRecDepth 100000
open Go.RowKit
set_option linter.unusedSimpArgs false
set_option linter.unusedVariables false

theorem ne_zero_u8 (a : UInt8) (h : a ≠ 0) : ((a.toNat : Int) == 0) = false ∧ ((a.toNat : Int) != 0) = true := by
  have hne : a.toNat ≠ 0 := fun e => h (UInt8.toNat_inj.1 e)
  have h1 : ((a.toNat : Int) == 0) = false := beq_eq_false_iff_ne.2 (fun h => hne (by omega))
  exact ⟨h1, by rw [bne, h1]; rfl⟩

set_option maxRecDepth 100000 in
set_option maxHeartbeats 1000000 in
theorem gffield_core (a b c : UInt8) (w : World) :
    Calls Try.prog 4 #[.int .u8 (a.toNat : Int), .int .u8 (b.toNat : Int), .int .u8 (c.toNat : Int)] w fun e w' => e = .returned (.bool true) ∧ w = w' := by
  have H1 : Hid (mulB b a = mulB a b) := mul_comm b a
  have H2 : Hid (mulB (mulB a b) c = mulB a (mulB b c)) := mul_assoc a b c
  have H3 : Hid (addB (mulB a b) (mulB a c) = mulB a (addB b c)) := (mul_add_right a b c).symm
  have H4 : Hid (mulB a 1 = a) := mul_one a
  have H5 : Hid (mulB a 0 = 0) := mul_zero a
  have H6 : Hid (addB a a = 0) := add_self a
  have H7 : Hid (addB a 0 = a) := add_zero a
  have HZ : Hid (mulB a b = 0 ↔ a = 0 ∨ b = 0) := mul_eq_zero a b
  have HI : Hid (a ≠ 0 → mulB a (invB a) = 1) := mul_inv a
  go_enter Try.func4, Try.ntmps4
  go_wp2_with fail
  refine (awake7_any _).mono ?_
  rintro e w' ⟨rfl, rfl⟩
  go_wp2_with fail
  refine (gfmul_any a b _).mono ?_
  rintro e w' ⟨rfl, rfl⟩
  go_wp2_with fail
  refine (gfmul_any b a _).mono ?_
  rintro e w' ⟨rfl, rfl⟩
  rw [H1.out]
  go_wp2_with fail
  refine (gfmul_any b c _).mono ?_
  rintro e w' ⟨rfl, rfl⟩
  go_wp2_with fail
  refine (gfmul_any a (mulB b c) _).mono ?_
  rintro e w' ⟨rfl, rfl⟩
  go_wp2_with fail
  refine (gfmul_any a b _).mono ?_
  rintro e w' ⟨rfl, rfl⟩
  go_wp2_with fail
  refine (gfmul_any (mulB a b) c _).mono ?_
  rintro e w' ⟨rfl, rfl⟩
  rw [H2.out]
  go_wp2_with fail
  refine (gfadd_any b c _).mono ?_
  rintro e w' ⟨rfl, rfl⟩
  go_wp2_with fail
  refine (gfmul_any a (addB b c) _).mono ?_
  rintro e w' ⟨rfl, rfl⟩
  go_wp2_with fail
  refine (gfmul_any a b _).mono ?_
  rintro e w' ⟨rfl, rfl⟩
  go_wp2_with fail
  refine (gfmul_any a c _).mono ?_
  rintro e w' ⟨rfl, rfl⟩
  go_wp2_with fail
  refine (gfadd_any (mulB a b) (mulB a c) _).mono ?_
  rintro e w' ⟨rfl, rfl⟩
  rw [H3.out]
  go_wp2_with fail
  refine (gfmul_any a 1 _).mono ?_
  rintro e w' ⟨rfl, rfl⟩
  rw [H4.out]
  go_wp2_with fail
  refine (gfmul_any a 0 _).mono ?_
  rintro e w' ⟨rfl, rfl⟩
  rw [H5.out]
  go_wp2_with fail
  refine (gfadd_any a a _).mono ?_
  rintro e w' ⟨rfl, rfl⟩
  rw [H6.out]
  go_wp2_with fail
  refine (gfadd_any a 0 _).mono ?_
  rintro e w' ⟨rfl, rfl⟩
  rw [H7.out]
  go_wp2_with fail
  clear H1 H2 H3 H4 H5 H6 H7
  by_cases ha : a = 0
  · subst ha
    clear HZ HI
    have HM : Hid (mulB 0 b = 0) := zero_mul b
    refine (gfinv_zero _).mono ?_
    rintro e w' ⟨rfl, rfl⟩
    go_wp2_with fail
    refine (gfmul_any 0 b _).mono ?_
    rintro e w' ⟨rfl, rfl⟩
    rw [HM.out]
    go_wp2_with fail
    go_ret
    exact ⟨rfl, rfl⟩
  · obtain ⟨z1, z2⟩ := ne_zero_u8 a ha
    have HM := Lib.hid (HI.out ha)
    have HA := Lib.hid ha
    refine (gfinv_any a _ ha).mono ?_
    clear ha HI
    rintro e w' ⟨rfl, rfl⟩
    generalize invB a = i at HM
    go_wp2_with fail
    refine (gfmul_any a b _).mono ?_
    rintro e w' ⟨rfl, rfl⟩
    by_cases hb : b = 0
    · subst hb
      have HP : Hid (mulB a 0 = 0) := mul_zero a
      rw [HP.out]
      clear HZ
      go_wp2_with fail
      refine (gfmul_any a i _).mono ?_
      rintro e w' ⟨rfl, rfl⟩
      rw [HM.out]
      go_wp2_with fail
      go_ret
      exact ⟨rfl, rfl⟩
    · obtain ⟨y1, y2⟩ := ne_zero_u8 b hb
      obtain ⟨x1, x2⟩ := ne_zero_u8 (mulB a b) (mul_ne a b HA.out hb)
      generalize mulB a b = p at x1 x2
      clear HZ hb
      go_wp2_with fail
      refine (gfmul_any a i _).mono ?_
      rintro e w' ⟨rfl, rfl⟩
      rw [HM.out]
      go_wp2_with fail
      go_ret
      exact ⟨rfl, rfl⟩

/-! ### GfPowers -/
theorem powZ_add (a : UInt8) (m n : Int) (ha : a ≠ 0) : mulB (powZ a m) (powZ a n) = powZ a (m + n) := by
  unfold powZ
  rw [if_neg ha, if_neg ha, if_neg ha, ← pow_add, pow_mod a ha]
  congr 1
  omega
theorem powZ_square (a : UInt8) : powZ a 2 = mulB a a := by
  by_cases ha : a = 0
  · subst ha
    rw [zero_mul]
    rfl
  · unfold powZ
    rw [if_neg ha]
    show mulB (mulB 1 a) a = _
    rw [one_mul]
theorem powZ_squares (a b : UInt8) : addB (powZ a 2) (powZ b 2) = powZ (addB a b) 2 := by rw [powZ_square, powZ_square, powZ_square, square_add]
theorem powZ_log (a : UInt8) (ha : a ≠ 0) : powZ 2 (logB a : Int) = a := by rw [powZ_two _ (log_lt a ha), exp_log a ha]

set_option maxRecDepth 100000 in
set_option maxHeartbeats 1000000 in
theorem gfpowers_core (a b : UInt8) (m n : Int) (w : World) (hm : -32768 ≤ m ∧ m ≤ 32767) (hn : -32768 ≤ n ∧ n ≤ 32767) :
    Calls Try.prog 5 #[.int .u8 (a.toNat : Int), .int .u8 (b.toNat : Int), .int .i16 m, .int .i16 n] w fun e w' => e = .returned (.bool true) ∧ w = w' := by
  obtain ⟨m1, m2⟩ := hm
  obtain ⟨n1, n2⟩ := hn
  have HS : Hid (addB (powZ a 2) (powZ b 2) = powZ (addB a b) 2) := powZ_squares a b
  by_cases ha : a = 0
  · subst ha
    go_enter Try.func5, Try.ntmps5
    go_wp2_with fail
    refine (awake7_any  _).mono ?_
    rintro e w' ⟨rfl, rfl⟩
    go_wp2_with fail
    refine (gfadd_any 0 b _).mono ?_
    rintro e w' ⟨rfl, rfl⟩
    go_wp2_with fail
    refine (gfpow_any (addB 0 b) 2 _).mono ?_
    rintro e w' ⟨rfl, rfl⟩
    go_wp2_with fail
    refine (gfpow_any 0 2 _).mono ?_
    rintro e w' ⟨rfl, rfl⟩
    go_wp2_with fail
    refine (gfpow_any b 2 _).mono ?_
    rintro e w' ⟨rfl, rfl⟩
    go_wp2_with fail
    refine (gfadd_any (powZ 0 2) (powZ b 2) _).mono ?_
    rintro e w' ⟨rfl, rfl⟩
    rw [HS.out]
    go_wp2_with fail
    refine (gflog_zero _).mono ?_
    rintro e w' ⟨rfl, rfl⟩
    go_wp2_with fail
    by_cases hb : b = 0
    · subst hb
      refine (gflog_zero _).mono ?_
      rintro e w' ⟨rfl, rfl⟩
      go_wp2_with fail
      go_ret
      exact ⟨rfl, rfl⟩
    · refine (gflog_any b _ hb).mono ?_
      clear hb
      rintro e w' ⟨rfl, rfl⟩
      go_wp2_with fail
      go_ret
      exact ⟨rfl, rfl⟩
  · obtain ⟨z1, z2⟩ := ne_zero_u8 a ha
    have HA := Lib.hid ha
    have HP : Hid (mulB (powZ a m) (powZ a n) = powZ a (m + n)) := powZ_add a m n ha
    have HL : Hid (powZ 2 (logB a : Int) = a) := powZ_log a ha
    have hl := log_lt a ha
    clear ha
    go_enter Try.func5, Try.ntmps5
    go_wp2_with fail
    refine (awake7_any  _).mono ?_
    rintro e w' ⟨rfl, rfl⟩
    go_wp2_with fail
    refine (gfpow_any a m _).mono ?_
    rintro e w' ⟨rfl, rfl⟩
    go_wp2_with fail
    refine (gfpow_any a n _).mono ?_
    rintro e w' ⟨rfl, rfl⟩
    go_wp2_with fail
    refine (gfmul_any (powZ a m) (powZ a n) _).mono ?_
    rintro e w' ⟨rfl, rfl⟩
    rw [HP.out]
    go_wp2_with fail
    refine (gfpow_any a (m + n) _).mono ?_
    rintro e w' ⟨rfl, rfl⟩
    go_wp2_with fail
    refine (gfadd_any a b _).mono ?_
    rintro e w' ⟨rfl, rfl⟩
    go_wp2_with fail
    refine (gfpow_any (addB a b) 2 _).mono ?_
    rintro e w' ⟨rfl, rfl⟩
    go_wp2_with fail
    refine (gfpow_any a 2 _).mono ?_
    rintro e w' ⟨rfl, rfl⟩
    go_wp2_with fail
    refine (gfpow_any b 2 _).mono ?_
    rintro e w' ⟨rfl, rfl⟩
    go_wp2_with fail
    refine (gfadd_any (powZ a 2) (powZ b 2) _).mono ?_
    rintro e w' ⟨rfl, rfl⟩
    rw [HS.out]
    go_wp2_with fail
    refine (gflog_any a _ HA.out).mono ?_
    rintro e w' ⟨rfl, rfl⟩
    go_wp2_with fail
    by_cases hb : b = 0
    · subst hb
      refine (gflog_zero _).mono ?_
      rintro e w' ⟨rfl, rfl⟩
      go_wp2_with fail
      go_ret
      exact ⟨rfl, rfl⟩
    · have hl2 := log_lt b hb
      have HM : Hid (logB (mulB a b) = (logB a + logB b) % 255) := log_mul a b HA.out hb
      have HN := Lib.hid (mul_ne a b HA.out hb)
      refine (gflog_any b _ hb).mono ?_
      clear hb
      rintro e w' ⟨rfl, rfl⟩
      go_wp2_with fail
      refine (gfmul_any a b _).mono ?_
      rintro e w' ⟨rfl, rfl⟩
      go_wp2_with fail
      refine (gflog_any (mulB a b) _ HN.out).mono ?_
      rintro e w' ⟨rfl, rfl⟩
      rw [HM.out]
      generalize hk : logB a = k at hl HL
      generalize hj : logB b = j at hl2
      obtain ⟨q, hq⟩ : ∃ q, (k + j) % 255 = q := ⟨_, rfl⟩
      have HQ : ((k : Int) + (j : Int)) % 255 = (q : Int) := by omega
      rw [hq]
      have k0 : (0 : Int) ≤ (k : Int) := by omega
      have k1 : (k : Int) < 255 := by omega
      have j1 : (j : Int) < 255 := by omega
      clear hk hj hq
      go_wp2_with fail
      refine (gfexp_any (k : Int) _).mono ?_
      rintro e w' ⟨rfl, rfl⟩
      rw [HL.out]
      go_wp2_with fail
      go_ret
      exact ⟨rfl, rfl⟩

/-! ### GfRight -/
set_option maxRecDepth 100000 in
set_option maxHeartbeats 1000000 in
theorem gfright_core (a b : UInt8) (n : Int) (w : World) :
    Calls Try.prog 3 #[.int .u8 (a.toNat : Int), .int .u8 (b.toNat : Int), .int .i64 n] w fun e w' => e = .returned (.bool true) ∧ w = w' := by
  have HX : Hid (addB a b = xorB a b) := rfl
  have hx := u8_xor_b a b
  by_cases ha : a = 0
  · subst ha
    have hx' : bits .xor .u8 0 (b.toNat : Int) = ((xorB 0 b).toNat : Int) := hx
    clear hx
    generalize xorB 0 b = x at hx' HX
    go_enter Try.func3, Try.ntmps3
    go_wp2_with fail
    refine (awake7_any  _).mono ?_
    rintro e w' ⟨rfl, rfl⟩
    go_wp2_with fail
    refine (gfinv_zero  _).mono ?_
    rintro e w' ⟨rfl, rfl⟩
    go_wp2_with fail
    refine (gflog_zero  _).mono ?_
    rintro e w' ⟨rfl, rfl⟩
    go_wp2_with fail
    refine (reflog_zero  _).mono ?_
    rintro e w' ⟨rfl, rfl⟩
    go_wp2_with fail
    refine (gfadd_any 0 b _).mono ?_
    rintro e w' ⟨rfl, rfl⟩
    rw [HX.out]
    go_wp2_with fail
    refine (gfmul_any 0 b _).mono ?_
    rintro e w' ⟨rfl, rfl⟩
    go_wp2_with fail
    refine (refmul_any 0 b _).mono ?_
    rintro e w' ⟨rfl, rfl⟩
    go_wp2_with fail
    refine (gfpow_any 0 n _).mono ?_
    rintro e w' ⟨rfl, rfl⟩
    go_wp2_with fail
    refine (refpow_any 0 n _).mono ?_
    rintro e w' ⟨rfl, rfl⟩
    go_wp2_with fail
    refine (gfexp_any n _).mono ?_
    rintro e w' ⟨rfl, rfl⟩
    go_wp2_with fail
    refine (refexp_any n _).mono ?_
    rintro e w' ⟨rfl, rfl⟩
    go_wp2_with fail
    go_ret
    exact ⟨rfl, rfl⟩
  · obtain ⟨z1, z2⟩ := ne_zero_u8 a ha
    have HA := Lib.hid ha
    generalize xorB a b = x at hx HX
    clear ha
    go_enter Try.func3, Try.ntmps3
    go_wp2_with fail
    refine (awake7_any  _).mono ?_
    rintro e w' ⟨rfl, rfl⟩
    go_wp2_with fail
    refine (gfinv_any a _ HA.out).mono ?_
    rintro e w' ⟨rfl, rfl⟩
    go_wp2_with fail
    refine (gflog_any a _ HA.out).mono ?_
    rintro e w' ⟨rfl, rfl⟩
    go_wp2_with fail
    refine (reflog_any a _ HA.out).mono ?_
    rintro e w' ⟨rfl, rfl⟩
    go_wp2_with fail
    refine (refinv_any a _ HA.out).mono ?_
    rintro e w' ⟨rfl, rfl⟩
    go_wp2_with fail
    refine (gfadd_any a b _).mono ?_
    rintro e w' ⟨rfl, rfl⟩
    rw [HX.out]
    go_wp2_with fail
    refine (gfmul_any a b _).mono ?_
    rintro e w' ⟨rfl, rfl⟩
    go_wp2_with fail
    refine (refmul_any a b _).mono ?_
    rintro e w' ⟨rfl, rfl⟩
    go_wp2_with fail
    refine (gfpow_any a n _).mono ?_
    rintro e w' ⟨rfl, rfl⟩
    go_wp2_with fail
    refine (refpow_any a n _).mono ?_
    rintro e w' ⟨rfl, rfl⟩
    go_wp2_with fail
    refine (gfexp_any n _).mono ?_
    rintro e w' ⟨rfl, rfl⟩
    go_wp2_with fail
    refine (refexp_any n _).mono ?_
    rintro e w' ⟨rfl, rfl⟩
    go_wp2_with fail
    go_ret
    exact ⟨rfl, rfl⟩

/-! ### At whatever comes in -/
theorem u8v_of_wf {a : Int} (h : (Lit.int .u8 a).wf = true) : ∃ x : UInt8, a = (x.toNat : Int) := by
  simp [Lit.wf, IntKind.min, IntKind.max, IntKind.signed, IntKind.bits] at h
  exact ⟨UInt8.ofNat a.toNat, by rw [UInt8.toNat_ofNat']; omega⟩
theorem i16_of_wf {a : Int} (h : (Lit.int .i16 a).wf = true) : -32768 ≤ a ∧ a ≤ 32767 := by
  simp [Lit.wf, IntKind.min, IntKind.max, IntKind.signed, IntKind.bits] at h
  omega
theorem gffield_any (a0 a1 a2 : Int) (w : World) (h0 : (Lit.int .u8 a0).wf = true) (h1 : (Lit.int .u8 a1).wf = true) (h2 : (Lit.int .u8 a2).wf = true) :
    Calls Try.prog 4 #[.int .u8 a0, .int .u8 a1, .int .u8 a2] w fun e w' => e = .returned (.bool true) ∧ Below w.heap.size w w' := by
  obtain ⟨a, rfl⟩ := u8v_of_wf h0
  obtain ⟨b, rfl⟩ := u8v_of_wf h1
  obtain ⟨c, rfl⟩ := u8v_of_wf h2
  exact (gffield_core a b c w).mono fun e w' ⟨he, hw⟩ => ⟨he, by subst hw; exact Below.refl _ _⟩
theorem gfpowers_any (a0 a1 a2 a3 : Int) (w : World) (h0 : (Lit.int .u8 a0).wf = true) (h1 : (Lit.int .u8 a1).wf = true) (h2 : (Lit.int .i16 a2).wf = true) (h3 : (Lit.int .i16 a3).wf = true) :
    Calls Try.prog 5 #[.int .u8 a0, .int .u8 a1, .int .i16 a2, .int .i16 a3] w fun e w' => e = .returned (.bool true) ∧ Below w.heap.size w w' := by
  obtain ⟨a, rfl⟩ := u8v_of_wf h0
  obtain ⟨b, rfl⟩ := u8v_of_wf h1
  exact (gfpowers_core a b a2 a3 w (i16_of_wf h2) (i16_of_wf h3)).mono fun e w' ⟨he, hw⟩ => ⟨he, by subst hw; exact Below.refl _ _⟩
theorem gfright_any (a0 a1 a2 : Int) (w : World) (h0 : (Lit.int .u8 a0).wf = true) (h1 : (Lit.int .u8 a1).wf = true) :
    Calls Try.prog 3 #[.int .u8 a0, .int .u8 a1, .int .i64 a2] w fun e w' => e = .returned (.bool true) ∧ Below w.heap.size w w' := by
  obtain ⟨a, rfl⟩ := u8v_of_wf h0
  obtain ⟨b, rfl⟩ := u8v_of_wf h1
  exact (gfright_core a b a2 w).mono fun e w' ⟨he, hw⟩ => ⟨he, by subst hw; exact Below.refl _ _⟩
end Go.Proofs.Ytedmpkbmcobjeaa
