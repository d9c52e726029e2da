/-
  Layer 21 (window): what the program's calls and the reference's answer, told by whole numbers. No conditions but those typed.
-/
import Derived.Test.YteljklkgdejhpaaRows
import Derived.Test.YteljklkgdejhpaaMem
import Derived.IntWalk
import Derived.WalkKit
import Derived.WalkSpells
import Derived.LoopTactic
import Derived.Lib.Hide
namespace Go.Proofs.Yteljklkgdejhpaa
set_option maxRecDepth 100000
open Go.RowKit
set_option linter.unusedSimpArgs false
set_option linter.unusedVariables false

/-- The least counter of a window, of its middle and its skew. -/
def lowK (k s : Int) : Int := if k < s then 0 else k - s
def inK (x k s : Int) : Bool := decide (k - s ≤ x) && decide (x ≤ k + s)
def mayW (s : Int) : Bool := decide (0 ≤ s ∧ s ≤ 10)
theorem mayW_ok {s : Int} (h0 : 0 ≤ s) (h1 : s ≤ 10) : mayW s = true := decide_eq_true ⟨h0, h1⟩
theorem mayW_no {s : Int} (h : ¬(0 ≤ s ∧ s ≤ 10)) : mayW s = false := decide_eq_false h
theorem lowK_lt {k s : Int} (h : k < s) : lowK k s = 0 := if_pos h
theorem lowK_ge {k s : Int} (h : ¬ k < s) : lowK k s = k - s := if_neg h
theorem inK_low {x k s : Int} (hx : 0 ≤ x) : inK x k s = (decide (lowK k s ≤ x) && decide (x ≤ k + s)) := by
  unfold inK
  congr 1
  by_cases h : k < s
  · rw [lowK_lt h, decide_eq_true hx, decide_eq_true (by omega)]
  · rw [lowK_ge h]

theorem may21_any (s : Int) (w : World) : Calls Try.prog 11 #[.int .i64 s] w fun e w' => e = .returned (.bool (mayW s)) ∧ w = w' := by
  by_cases h : 0 ≤ s ∧ s ≤ 10
  · rw [mayW_ok h.1 h.2]
    obtain ⟨h0, h1⟩ := h
    go_enter Try.func11, Try.ntmps11
    go_wp2_with fail
    go_ret
    exact ⟨rfl, rfl⟩
  · rw [mayW_no h]
    by_cases h0 : 0 ≤ s
    · have h1 : ¬ s ≤ 10 := fun h1 => h ⟨h0, h1⟩
      clear h
      go_enter Try.func11, Try.ntmps11
      go_wp2_with fail
      go_ret
      exact ⟨rfl, rfl⟩
    · clear h
      go_enter Try.func11, Try.ntmps11
      go_wp2_with fail
      go_ret
      exact ⟨rfl, rfl⟩
theorem counter21_any (c : Int) (w : World) (hc : 0 ≤ c) (hc1 : c < 18446744073709551616) : Calls Try.prog 12 #[.int .u64 c] w fun e w' => e = .returned (.int .u64 (c / 30)) ∧ w = w' := by
  have hd : c.tdiv 30 = c / 30 := Int.tdiv_eq_ediv_of_nonneg hc
  go_enter Try.func12, Try.ntmps12
  go_wp2_with fail
  go_ret
  exact ⟨rfl, rfl⟩
theorem bounds21_bad (c s : Int) (w : World) (h : mayW s = false) : Calls Try.prog 7 #[.int .u64 c, .int .i64 s] w fun e w' => e = .returned (.tuple #[.int .u64 0, .int .u64 0]) ∧ w = w' := by
  go_enter Try.func7, Try.ntmps7
  go_wp2_with fail
  refine (may21_any s _).mono ?_
  rintro e w' ⟨rfl, rfl⟩
  rw [h]
  go_wp2_with fail
  go_ret2
  exact ⟨rfl, rfl⟩
set_option maxHeartbeats 1000000 in
theorem bounds21_any (c s : Int) (w : World) (hc : 0 ≤ c) (hc1 : c < 18446744073709551616) (h0 : 0 ≤ s) (h1 : s ≤ 10) : Calls Try.prog 7 #[.int .u64 c, .int .i64 s] w fun e w' => e = .returned (.tuple #[.int .u64 (lowK (c / 30) s), .int .u64 (c / 30 + s)]) ∧ w = w' := by
  have HM := mayW_ok h0 h1
  have k0 : 0 ≤ c / 30 := by omega
  have k1 : c / 30 < 614891469123651721 := by omega
  have hce := counter21_any c w hc hc1
  generalize c / 30 = k at k0 k1 hce ⊢
  clear hc hc1
  by_cases hk : k < s
  · rw [lowK_lt hk]
    go_enter Try.func7, Try.ntmps7
    go_wp2_with fail
    refine (may21_any s _).mono ?_
    rintro e w' ⟨rfl, rfl⟩
    rw [HM]
    go_wp2_with fail
    refine hce.mono ?_
    rintro e w' ⟨rfl, rfl⟩
    go_wp2_with fail
    go_ret2
    exact ⟨rfl, rfl⟩
  · rw [lowK_ge hk]
    by_cases hk2 : k ≤ s
    · have hks : k = s := by omega
      subst hks
      rw [Int.sub_self]
      go_enter Try.func7, Try.ntmps7
      go_wp2_with fail
      refine (may21_any k _).mono ?_
      rintro e w' ⟨rfl, rfl⟩
      rw [HM]
      go_wp2_with fail
      refine hce.mono ?_
      rintro e w' ⟨rfl, rfl⟩
      go_wp2_with fail
      go_ret2
      exact ⟨rfl, rfl⟩
    · have hk3 : s < k := by omega
      go_enter Try.func7, Try.ntmps7
      go_wp2_with fail
      refine (may21_any s _).mono ?_
      rintro e w' ⟨rfl, rfl⟩
      rw [HM]
      go_wp2_with fail
      refine hce.mono ?_
      rintro e w' ⟨rfl, rfl⟩
      go_wp2_with fail
      go_ret2
      exact ⟨rfl, rfl⟩
theorem in21_bad (x c s : Int) (w : World) (h : mayW s = false) : Calls Try.prog 9 #[.int .u64 x, .int .u64 c, .int .i64 s] w fun e w' => e = .returned (.bool false) ∧ w = w' := by
  go_enter Try.func9, Try.ntmps9
  go_wp2_with fail
  refine (may21_any s _).mono ?_
  rintro e w' ⟨rfl, rfl⟩
  rw [h]
  go_wp2_with fail
  go_ret
  exact ⟨rfl, rfl⟩
theorem in21_any (x c s : Int) (w : World) (hx : 0 ≤ x) (hc : 0 ≤ c) (hc1 : c < 18446744073709551616) (h0 : 0 ≤ s) (h1 : s ≤ 10) : Calls Try.prog 9 #[.int .u64 x, .int .u64 c, .int .i64 s] w fun e w' => e = .returned (.bool (inK x (c / 30) s)) ∧ w = w' := by
  have HM := mayW_ok h0 h1
  have hce := bounds21_any c s w hc hc1 h0 h1
  rw [inK_low hx]
  generalize c / 30 = k at hce ⊢
  clear hc hc1
  generalize lowK k s = l at hce ⊢
  by_cases h2 : l ≤ x
  · rw [decide_eq_true h2, Bool.true_and]
    go_enter Try.func9, Try.ntmps9
    go_wp2_with fail
    refine (may21_any s _).mono ?_
    rintro e w' ⟨rfl, rfl⟩
    rw [HM]
    go_wp2_with fail
    refine hce.mono ?_
    rintro e w' ⟨rfl, rfl⟩
    go_wp2_with fail
    go_ret
    exact ⟨rfl, rfl⟩
  · rw [decide_eq_false h2, Bool.false_and]
    go_enter Try.func9, Try.ntmps9
    go_wp2_with fail
    refine (may21_any s _).mono ?_
    rintro e w' ⟨rfl, rfl⟩
    rw [HM]
    go_wp2_with fail
    refine hce.mono ?_
    rintro e w' ⟨rfl, rfl⟩
    go_wp2_with fail
    go_ret
    exact ⟨rfl, rfl⟩
theorem awake21_any (w : World) : Calls Try.prog 6 #[] w fun e w' => e = .returned (.bool true) ∧ w = w' := by
  go_enter Try.func6, Try.ntmps6
  go_wp2_with fail
  refine (bounds21_any 299 2 _ (by decide) (by decide) (by decide) (by decide)).mono ?_
  rintro e w' ⟨rfl, rfl⟩
  go_wp2_with fail
  refine (counter21_any 299 _ (by decide) (by decide)).mono ?_
  rintro e w' ⟨rfl, rfl⟩
  go_wp2_with fail
  refine (in21_any 7 299 2 _ (by decide) (by decide) (by decide) (by decide) (by decide)).mono ?_
  rintro e w' ⟨rfl, rfl⟩
  go_wp2_with fail
  refine (in21_any 12 299 2 _ (by decide) (by decide) (by decide) (by decide) (by decide)).mono ?_
  rintro e w' ⟨rfl, rfl⟩
  go_wp2_with fail
  refine (may21_any 10 _).mono ?_
  rintro e w' ⟨rfl, rfl⟩
  go_wp2_with fail
  refine (may21_any 11 _).mono ?_
  rintro e w' ⟨rfl, rfl⟩
  go_wp2_with fail
  go_ret
  exact ⟨rfl, rfl⟩
theorem refcounter21_any (c : Int) (w : World) (hc : 0 ≤ c) (hc1 : c < 18446744073709551616) : Calls Try.prog 13 #[.int .u64 c] w fun e w' => e = .returned (.int .u64 (c / 30)) ∧ w = w' := by
  have hd : c.tmod 30 = c % 30 := Int.tmod_eq_emod_of_nonneg hc
  have hm : 0 ≤ c % 30 ∧ c % 30 ≤ c := by omega
  obtain ⟨m0, m1⟩ := hm
  have hq : (c - c % 30).tdiv 30 = c / 30 := by rw [Int.tdiv_eq_ediv_of_nonneg (by omega)]; omega
  have HQ : c / 30 < 18446744073709551616 ∧ 0 ≤ c / 30 := by omega
  obtain ⟨q1, q0⟩ := HQ
  generalize c % 30 = m at *
  go_enter Try.func13, Try.ntmps13
  go_wp2_with fail
  go_ret
  exact ⟨rfl, rfl⟩
theorem refbounds21_any (c s : Int) (w : World) (hc : 0 ≤ c) (hc1 : c < 18446744073709551616) (h0 : 0 ≤ s) (h1 : s ≤ 10) : Calls Try.prog 8 #[.int .u64 c, .int .i64 s] w fun e w' => e = .returned (.tuple #[.int .u64 (lowK (c / 30) s), .int .u64 (c / 30 + s)]) ∧ w = w' := by
  have k0 : 0 ≤ c / 30 := by omega
  have k1 : c / 30 < 614891469123651721 := by omega
  have hce := refcounter21_any c w hc hc1
  generalize c / 30 = k at k0 k1 hce ⊢
  clear hc hc1
  go_enter Try.func8, Try.ntmps8
  go_wp2_with fail
  refine hce.mono ?_
  rintro e w' ⟨rfl, rfl⟩
  go_wp2_with fail
  refine hce.mono ?_
  rintro e w' ⟨rfl, rfl⟩
  go_wp2_with fail
  go_loop [6, 7, 8] (fun lo hi i => ∃ j : Int, 0 ≤ j ∧ j ≤ s ∧ lo = .int .u64 (lowK k j) ∧ hi = .int .u64 (k + j) ∧ i = .int .i64 j) (fun _ _ i => (s - intOf i).toNat)
  case atStart => exact ⟨0, by omega, h0, by rw [lowK_ge (by omega), Int.sub_zero], by rw [Int.add_zero], rfl⟩
  case round =>
    obtain ⟨j, hj0, hj, rfl, rfl, rfl⟩ := hrel
    by_cases hlt : j < s
    · have i1 : j < 10 := by omega
      have i2 : k + j < 18446744073709551615 := by omega
      by_cases hk : k < j
      · have hz : lowK k (j + 1) = lowK k j := by rw [lowK_lt hk, lowK_lt (by omega)]
        have hz0 := lowK_lt hk
        rw [hz0] at hz ⊢
        go_wp2_with fail
        go_round
        case rel => exact ⟨j + 1, by omega, by omega, by rw [hz], by go_num, by go_num⟩
        case measure => simp [intOf]; omega
      · by_cases hk2 : k ≤ j
        · have hks : k = j := by omega
          subst hks
          have hz : lowK k (k + 1) = 0 := lowK_lt (by omega)
          have hz0 : lowK k k = 0 := by rw [lowK_ge hk]; omega
          rw [hz0]
          go_wp2_with fail
          go_round
          case rel => exact ⟨k + 1, by omega, by omega, by rw [hz], by go_num, by go_num⟩
          case measure => simp [intOf]; omega
        · have hz : lowK k (j + 1) = k - j - 1 := by rw [lowK_ge (by omega)]; omega
          have i3 : 0 < k - j := by omega
          rw [lowK_ge hk]
          go_wp2_with fail
          go_round
          case rel => exact ⟨j + 1, by omega, by omega, by rw [hz], by go_num, by go_num⟩
          case measure => simp [intOf]; omega
    · have hjs : j = s := by omega
      subst hjs
      go_wp2_with fail
      go_ret2
      exact ⟨rfl, rfl⟩
theorem refin21_any (x c s : Int) (w : World) (hx : 0 ≤ x) (hc : 0 ≤ c) (hc1 : c < 18446744073709551616) (h0 : 0 ≤ s) (h1 : s ≤ 10) : Calls Try.prog 10 #[.int .u64 x, .int .u64 c, .int .i64 s] w fun e w' => e = .returned (.bool (inK x (c / 30) s)) ∧ w = w' := by
  have hce := refbounds21_any c s w hc hc1 h0 h1
  rw [inK_low hx]
  generalize c / 30 = k at hce ⊢
  clear hc hc1
  generalize lowK k s = l at hce ⊢
  by_cases h2 : l ≤ x
  · rw [decide_eq_true h2, Bool.true_and]
    go_enter Try.func10, Try.ntmps10
    go_wp2_with fail
    refine hce.mono ?_
    rintro e w' ⟨rfl, rfl⟩
    go_wp2_with fail
    go_ret
    exact ⟨rfl, rfl⟩
  · rw [decide_eq_false h2, Bool.false_and]
    go_enter Try.func10, Try.ntmps10
    go_wp2_with fail
    refine hce.mono ?_
    rintro e w' ⟨rfl, rfl⟩
    go_wp2_with fail
    go_ret
    exact ⟨rfl, rfl⟩
end Go.Proofs.Yteljklkgdejhpaa
