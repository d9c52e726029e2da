/-
  The walk of the law TruncDigits: a code's digits are as many as told, all of them digits; fewer of them are the last ones of more; a code is below 2^31. No conditions.
-/
import Derived.Test.YtaoaejbohkmddaaTruncRight
import Derived.Deep.DeepCutAuto
namespace Go.Proofs.Ytaoaejbohkmddaa
open Go.RowKit
set_option linter.unusedSimpArgs false
set_option linter.unusedVariables false

theorem digits_is (code n : Nat) (T : List UInt8) (w : World) (HT : Hid (digL code n = T)) (hc : code < 4294967296) (h1 : 1 ≤ n) (h9 : n ≤ 9) :
    Calls Try.prog 9 #[.int .u32 (code : Int), .int .i64 (n : Int)] w fun e w' => e = .returned (.tuple #[.string (strL T), .int .i64 0]) ∧ Below w.heap.size w w' := by
  rw [← HT.out]
  exact digits_good code n w hc h1 h9
def HeadRel (code many : Nat) (v i : Value) : Prop := ∃ k : Nat, k ≤ many ∧ i = .int .i64 (k : Int) ∧ v = .int .u64 (headN code many k : Int)

set_option maxRecDepth 100000 in
set_option maxHeartbeats 2000000 in
theorem truncdigits_core (tag : List UInt8) (A : Option Addr) (ca code m n : Nat) (w : World) (ha : Rd vB w A tag) (hac : tag.length ≤ ca) (hal : tag.length ≤ 3000) (hcode : code < 4294967296) (hm : m < 256) (hn : n < 256) :
    Calls Try.prog 5 #[.slice A tag.length ca, .int .u32 (code : Int), .int .u8 (m : Int), .int .u8 (n : Int)] w fun e w' => e = .returned (.bool true) ∧ Below w.heap.size w w' := by
  have g1 : ¬ (3000 : Int) < (tag.length : Int) := by omega
  obtain ⟨f0, hf0⟩ : ∃ f0, f0 = m % 9 + 1 := ⟨_, rfl⟩
  obtain ⟨f1, hf1⟩ : ∃ f1, f1 = n % 9 + 1 := ⟨_, rfl⟩
  have b0 : IntKind.i64.wrap (m : Int) = (m : Int) := by rw [IntKind.wrap_i64]; omega
  have b1 : IntKind.i64.wrap (n : Int) = (n : Int) := by rw [IntKind.wrap_i64]; omega
  have c0 : (m : Int) % 9 + 1 = (f0 : Int) := by omega
  have c1 : (n : Int) % 9 + 1 = (f1 : Int) := by omega
  have d0 : 1 ≤ f0 ∧ f0 ≤ 9 := by omega
  have d1 : 1 ≤ f1 ∧ f1 ≤ 9 := by omega
  have HF0 := Lib.hid d0
  have HF1 := Lib.hid d1
  have w0 : IntKind.i64.wrap (f0 : Int) = (f0 : Int) := by rw [IntKind.wrap_i64]; omega
  have w1 : IntKind.i64.wrap (f1 : Int) = (f1 : Int) := by rw [IntKind.wrap_i64]; omega
  obtain ⟨few, hfew⟩ : ∃ k, k = min f0 f1 := ⟨_, rfl⟩
  obtain ⟨many, hmany⟩ : ∃ k, k = max f0 f1 := ⟨_, rfl⟩
  have HFEW := Lib.hid hfew
  have HMANY := Lib.hid hmany
  clear hf0 hf1 d0 d1 hfew hmany
  go_enter Try.func5, Try.ntmps5
  go_wp2_with fail
  refine (awake4_any _).mono ?_
  rintro e wa ⟨rfl, hB⟩
  go_upto_if 34 with fail
  clear g1 b0 b1 c0 c1 w0 w1
  go_cut [9, 10] (fun x y wx => x = .int .i64 (few : Int) ∧ y = .int .i64 (many : Int) ∧ wx = wa)
  case first =>
    by_cases h : f1 < f0
    · have h' : (f1 : Int) < (f0 : Int) := by omega
      have k1 := HFEW.out
      have k2 := HMANY.out
      obtain rfl : few = f1 := by omega
      obtain rfl : many = f0 := by omega
      clear k1 k2
      go_wp2_with fail
      go_meet
      case rel => exact ⟨rfl, rfl, rfl⟩
    · have h' : ¬ (f1 : Int) < (f0 : Int) := by omega
      have k1 := HFEW.out
      have k2 := HMANY.out
      obtain rfl : few = f0 := by omega
      obtain rfl : many = f1 := by omega
      clear k1 k2
      go_wp2_with fail
      go_meet
      case rel => exact ⟨rfl, rfl, rfl⟩
  case rest =>
    obtain ⟨rfl, rfl, rfl⟩ := hcut
    have hfew := HFEW.out
    have hmany := HMANY.out
    have hf0 := HF0.out
    have hf1 := HF1.out
    have h1 : 1 ≤ few := by omega
    have h9 : many ≤ 9 := by omega
    have hle : few ≤ many := by omega
    clear hfew hmany hf0 hf1
    obtain ⟨S, hS⟩ : ∃ S, digL code few = S := ⟨_, rfl⟩
    obtain ⟨T, hT⟩ : ∃ T, digL code many = T := ⟨_, rfl⟩
    have hSl : S.length = few := by rw [← hS, digL_length]
    have hTl : T.length = many := by rw [← hT, digL_length]
    have HD : Hid (T.drop (many - few) = S) := by unfold Hid; rw [← hS, ← hT]; exact digL_drop code few many hle
    have HS := Lib.hid hS
    have HT := Lib.hid hT
    have HSL := Lib.hid hSl
    have HTL := Lib.hid hTl
    clear hS hT hSl hTl
    go_wp2_with fail
    refine (digits_is code few S _ HS hcode h1 (by omega)).mono ?_
    rintro e w2 ⟨rfl, hb2⟩
    replace hB := below_step hB hb2
    clear hb2
    go_wp2_with fail
    refine (digits_is code many T _ HT hcode (by omega) h9).mono ?_
    rintro e w3 ⟨rfl, hb3⟩
    replace hB := below_step hB hb3
    clear hb3
    have hsl := run_slice_strL (P := Try.prog) 9 T (many - few) (by rw [HTL.out]; omega) Try.underlying9
    rw [HD.out, show ((many - few : Nat) : Int) = (many : Int) - (few : Int) by omega] at hsl
    have hs1 : (strL S).size = few := by rw [strL_size]; exact HSL.out
    have hs2 : (strL T).size = many := by rw [strL_size]; exact HTL.out
    have hsub : IntKind.i64.wrap ((many : Int) - (few : Int)) = (many : Int) - (few : Int) := by rw [IntKind.wrap_i64]; omega
    generalize strL S = SS at hsl hs1 ⊢
    obtain ⟨TS, hTS⟩ : ∃ TS, strL T = TS := ⟨_, rfl⟩
    have HTS := Lib.hid hTS
    rw [hTS] at hsl hs2 ⊢
    clear hTS
    go_wp2_with fail
    clear hsl hs1 hs2 hsub
    go_loop [15, 16] (fun v i => HeadRel code many v i) (fun _ i => many - (intOf i).toNat)
    case atStart => exact ⟨0, by omega, rfl, by simp [headN]⟩
    case round =>
      obtain ⟨k, hk, rfl, rfl⟩ := hrel
      have hv := headN_lt code many k
      by_cases hlt : k < many
      · have hnx := headN_next code many k hlt
        have hkT : k < T.length := by rw [HTL.out]; exact hlt
        have hix := run_index_strL (P := Try.prog) 9 T k hkT Try.underlying9
        have hd : T[k].toNat = 48 + code / 10 ^ (many - 1 - k) % 10 := by
          have := digL_getElem code many k hlt
          have e : T[k] = digB code (many - 1 - k) := by
            rw [← this]
            have hTT := HT.out
            subst hTT
            rfl
          rw [e, digB_toNat]
        obtain ⟨d, hdd⟩ : ∃ d, d = code / 10 ^ (many - 1 - k) % 10 := ⟨_, rfl⟩
        have hd10 : d < 10 := by rw [hdd]; exact Nat.mod_lt _ (by omega)
        have hpow : 10 ^ k ≤ 10 ^ 8 := Nat.pow_le_pow_right (by omega) (by omega)
        have hv9 : headN code many k < 100000000 := by omega
        rw [← hdd] at hd hnx
        rw [HTS.out] at hix
        have HR : Hid (HeadRel code many (.int .u64 (10 * (headN code many k : Int) + (d : Int))) (.int .i64 ((k : Int) + 1))) := ⟨k + 1, by omega, by go_num, by rw [hnx]; go_num⟩
        generalize headN code many k = v at hv9 HR ⊢
        generalize T[k].toNat = z at hix hd
        have z1 : ¬ (z : Int) < 48 := by omega
        have z2 : ¬ (57 : Int) < (z : Int) := by omega
        have z3 : (z : Int) - 48 = (d : Int) := by omega
        have z4 : IntKind.u8.wrap (d : Int) = (d : Int) := by rw [IntKind.wrap_u8']; omega
        have z5 : IntKind.u64.wrap (d : Int) = (d : Int) := by rw [IntKind.wrap_u64]; omega
        have z6 : IntKind.u64.wrap (10 * (v : Int)) = 10 * (v : Int) := by rw [IntKind.wrap_u64]; omega
        have z7 : IntKind.u64.wrap (10 * (v : Int) + (d : Int)) = 10 * (v : Int) + (d : Int) := by rw [IntKind.wrap_u64]; omega
        have i0 : (0 : Int) ≤ (k : Int) := by omega
        have i1 : (k : Int) < (many : Int) := by omega
        clear hnx hpow hv hd hdd hkT
        go_wp2_with fail
        go_round
        case rel => exact HR.out
        case measure => simp [intOf]; omega
      · have hkm : many = k := by omega
        subst hkm
        have hv9 : headN code many many = code % 10 ^ many := by rw [headN, Nat.sub_self, Nat.pow_zero, Nat.div_one]
        have HV : Hid (many = 9 → headN code many many = code % 1000000000) := by
          intro h
          rw [hv9, h]
        have hvl : headN code many many ≤ 1000000000 := by
          have : 10 ^ many ≤ 10 ^ 9 := Nat.pow_le_pow_right (by omega) h9
          omega
        generalize headN code many many = v at HV hvl ⊢
        have x1 : IntKind.u64.wrap (code : Int) = (code : Int) := by rw [IntKind.wrap_u64]; omega
        clear hv9 hv hlt hk
        go_wp2_with fail
        by_cases h19 : tag.length < 19
        · have i1 : decide ((19 : Int) ≤ (tag.length : Int)) = false := decide_eq_false (by omega)
          refine (code_any _ tag 0 2 _ _ _ (Lib.hid (codeR_short tag h19)) (Lib.hid rfl) (ha.keep hB) hac (by omega)).mono ?_
          rintro e w4 ⟨rfl, hb4⟩
          by_cases hm9 : many < 9
          · have j1 : (many : Int) < 9 := by omega
            go_wp2_with fail
            go_ret
            exact ⟨rfl, below_step hB hb4⟩
          · have j1 : ¬ (many : Int) < 9 := by omega
            have hvv := HV.out (by omega)
            have j2 : (code : Int) % 1000000000 = (v : Int) := by omega
            clear hvv
            go_wp2_with fail
            go_ret
            exact ⟨rfl, below_step hB hb4⟩
        · have i1 : (19 : Int) ≤ (tag.length : Int) := by omega
          have i2 : 19 ≤ tag.length := by omega
          have hz := codeN_lt tag
          refine (code_any _ tag (codeN tag) 0 _ _ _ (Lib.hid (codeR_long tag h19)) (Lib.hid rfl) (ha.keep hB) hac (by omega)).mono ?_
          rintro e w4 ⟨rfl, hb4⟩
          generalize codeN tag = z at hz ⊢
          have i3 : (z : Int) < 2147483648 := by omega
          by_cases hm9 : many < 9
          · have j1 : (many : Int) < 9 := by omega
            go_wp2_with fail
            go_ret
            exact ⟨rfl, below_step hB hb4⟩
          · have j1 : ¬ (many : Int) < 9 := by omega
            have hvv := HV.out (by omega)
            have j2 : (code : Int) % 1000000000 = (v : Int) := by omega
            clear hvv
            go_wp2_with fail
            go_ret
            exact ⟨rfl, below_step hB hb4⟩

theorem truncdigits_big (k : Nat) (A : Option Addr) (c code m n : Nat) (w : World) (h : ¬ k ≤ 3000) (hk : k ≤ 9223372036854775807) :
    Calls Try.prog 5 #[.slice A k c, .int .u32 (code : Int), .int .u8 (m : Int), .int .u8 (n : Int)] w fun e w' => e = .returned (.bool true) ∧ Below w.heap.size w w' := by
  have g1 : (3000 : Int) < (k : Int) := by omega
  go_enter Try.func5, Try.ntmps5
  go_wp2_with fail
  refine (awake4_any _).mono ?_
  rintro e w1 ⟨rfl, hB⟩
  go_wp2_with fail
  go_ret
  exact ⟨rfl, hB⟩
end Go.Proofs.Ytaoaejbohkmddaa
