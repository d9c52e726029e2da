/-
  The laws of layer 21 (window): the window is the document's; a clock's counter is in the windows of the clocks around it; windows rise. No conditions.
-/
import Derived.Test.YteljklkgdejhpaaWinCalls
namespace Go.Proofs.Yteljklkgdejhpaa
set_option maxRecDepth 100000
open Go.RowKit
set_option linter.unusedSimpArgs false
set_option linter.unusedVariables false

theorem inK_near {c o s : Int} (h0 : 0 ≤ c) (h1 : 0 ≤ o) (h : (o ≤ c ∧ c - o ≤ 30 * s) ∨ (c ≤ o ∧ o - c ≤ 30 * s)) : inK (c / 30) (o / 30) s = true := by
  unfold inK
  rw [decide_eq_true (by omega), decide_eq_true (by omega)]
  rfl
theorem inK_far {c o s : Int} (h0 : 0 ≤ c) (h1 : 0 ≤ o) (h : (o ≤ c ∧ 30 * (s + 1) ≤ c - o) ∨ (c ≤ o ∧ 30 * (s + 1) ≤ o - c)) : inK (c / 30) (o / 30) s = false := by
  unfold inK
  rcases h with h | h
  · rw [decide_eq_false (p := c / 30 ≤ o / 30 + s) (by omega), Bool.and_false]
  · rw [decide_eq_false (p := o / 30 - s ≤ c / 30) (by omega), Bool.false_and]
theorem u64W_of_wf {a : Int} (h : (Lit.int .u64 a).wf = true) : 0 ≤ a ∧ a < 18446744073709551616 := by
  simp [Lit.wf, IntKind.min, IntKind.max, IntKind.signed, IntKind.bits] at h
  omega
theorem u16_of_wfW {a : Int} (h : (Lit.int .u16 a).wf = true) : 0 ≤ a ∧ a < 65536 := by
  simp [Lit.wf, IntKind.min, IntKind.max, IntKind.signed, IntKind.bits] at h
  omega
theorem u8_of_wfW {a : Int} (h : (Lit.int .u8 a).wf = true) : 0 ≤ a ∧ a < 256 := by
  simp [Lit.wf, IntKind.min, IntKind.max, IntKind.signed, IntKind.bits] at h
  omega

set_option maxHeartbeats 4000000 in
theorem windowright_core (x c s : Int) (w : World) (hx : 0 ≤ x) (hc : 0 ≤ c) (hc1 : c < 18446744073709551616) :
    Calls Try.prog 3 #[.int .u64 x, .int .u64 c, .int .i64 s] w fun e w' => e = .returned (.bool true) ∧ w = w' := by
  have HC := counter21_any c w hc hc1
  have HRC := refcounter21_any c w hc hc1
  by_cases hall : 0 ≤ s ∧ s ≤ 10
  · have h0 := hall.1
    have h1 := hall.2
    have HM := mayW_ok h0 h1
    have HB := bounds21_any c s w hc hc1 h0 h1
    have HRB := refbounds21_any c s w hc hc1 h0 h1
    have HI := in21_any x c s w hx hc hc1 h0 h1
    have HRI := refin21_any x c s w hx hc hc1 h0 h1
    generalize c / 30 = k at *
    generalize lowK k s = l at *
    generalize k + s = m at *
    generalize inK x k s = b at *
    clear hall
    go_enter Try.func3, Try.ntmps3
    go_wp2_with fail
    refine (awake21_any _).mono ?_
    rintro e w' ⟨rfl, rfl⟩
    go_wp2_with fail
    refine HB.mono ?_
    rintro e w' ⟨rfl, rfl⟩
    go_wp2_with fail
    refine HRB.mono ?_
    rintro e w' ⟨rfl, rfl⟩
    go_wp2_with fail
    refine HI.mono ?_
    rintro e w' ⟨rfl, rfl⟩
    go_wp2_with fail
    refine HRI.mono ?_
    rintro e w' ⟨rfl, rfl⟩
    go_wp2_with fail
    refine (may21_any s _).mono ?_
    rintro e w' ⟨rfl, rfl⟩
    rw [HM]
    go_wp2_with fail
    refine HC.mono ?_
    rintro e w' ⟨rfl, rfl⟩
    go_wp2_with fail
    refine HRC.mono ?_
    rintro e w' ⟨rfl, rfl⟩
    go_wp2_with fail
    go_ret
    exact ⟨rfl, rfl⟩
  · have HM := mayW_no hall
    generalize c / 30 = k at *
    by_cases h0 : 0 ≤ s
    · have h1 : ¬ s ≤ 10 := fun h1 => hall ⟨h0, h1⟩
      have h2 : decide (s ≤ 10) = false := decide_eq_false h1
      clear hall
      go_enter Try.func3, Try.ntmps3
      go_wp2_with fail
      refine (awake21_any _).mono ?_
      rintro e w' ⟨rfl, rfl⟩
      go_wp2_with fail
      refine (bounds21_bad c s _ HM).mono ?_
      rintro e w' ⟨rfl, rfl⟩
      go_wp2_with fail
      refine (in21_bad x c s _ HM).mono ?_
      rintro e w' ⟨rfl, rfl⟩
      go_wp2_with fail
      refine (may21_any s _).mono ?_
      rintro e w' ⟨rfl, rfl⟩
      rw [HM]
      go_wp2_with fail
      refine HC.mono ?_
      rintro e w' ⟨rfl, rfl⟩
      go_wp2_with fail
      refine HRC.mono ?_
      rintro e w' ⟨rfl, rfl⟩
      go_wp2_with fail
      go_ret
      exact ⟨rfl, rfl⟩
    · skip
      clear hall
      go_enter Try.func3, Try.ntmps3
      go_wp2_with fail
      refine (awake21_any _).mono ?_
      rintro e w' ⟨rfl, rfl⟩
      go_wp2_with fail
      refine (bounds21_bad c s _ HM).mono ?_
      rintro e w' ⟨rfl, rfl⟩
      go_wp2_with fail
      refine (in21_bad x c s _ HM).mono ?_
      rintro e w' ⟨rfl, rfl⟩
      go_wp2_with fail
      refine (may21_any s _).mono ?_
      rintro e w' ⟨rfl, rfl⟩
      rw [HM]
      go_wp2_with fail
      refine HC.mono ?_
      rintro e w' ⟨rfl, rfl⟩
      go_wp2_with fail
      refine HRC.mono ?_
      rintro e w' ⟨rfl, rfl⟩
      go_wp2_with fail
      go_ret
      exact ⟨rfl, rfl⟩
theorem windowright_any (a0 a1 a2 : Int) (w : World) (h0 : (Lit.int .u64 a0).wf = true) (h1 : (Lit.int .u64 a1).wf = true) :
    Calls Try.prog 3 #[.int .u64 a0, .int .u64 a1, .int .i64 a2] w fun e w' => e = .returned (.bool true) ∧ Below w.heap.size w w' :=
  (windowright_core a0 a1 a2 w (u64W_of_wf h0).1 (u64W_of_wf h1).1 (u64W_of_wf h1).2).mono fun e w' ⟨he, hw⟩ => ⟨he, by subst hw; exact Below.refl _ _⟩
set_option maxHeartbeats 4000000 in
theorem windowmeets_core (c a m : Int) (back : Bool) (w : World) (hc : 0 ≤ c) (hc1 : c < 18446744073709551616) (ha : 0 ≤ a ∧ a < 65536) (hm : 0 ≤ m ∧ m < 256) :
    Calls Try.prog 4 #[.int .u64 c, .int .u16 a, .bool back, .int .u8 m] w fun e w' => e = .returned (.bool true) ∧ w = w' := by
  obtain ⟨s, hs⟩ : ∃ s : Int, m.tmod 11 = s := ⟨_, rfl⟩
  have hs2 : m % 11 = s := by rw [← Int.tmod_eq_emod_of_nonneg hm.1]; exact hs
  obtain ⟨s0, s1⟩ : 0 ≤ s ∧ s ≤ 10 := by omega
  obtain ⟨d, hd⟩ : ∃ d : Int, a.tmod 400 = d := ⟨_, rfl⟩
  have hd2 : a % 400 = d := by rw [← Int.tmod_eq_emod_of_nonneg ha.1]; exact hd
  obtain ⟨d0, d1⟩ : 0 ≤ d ∧ d < 400 := by omega
  obtain ⟨m0, m1⟩ := hm
  obtain ⟨a0, a1⟩ := ha
  clear hs2 hd2
  replace hs : True → m.tmod 11 = s := fun _ => hs
  replace hd : True → a.tmod 400 = d := fun _ => hd
  cases back
  · by_cases hw : c + d < 18446744073709551616
    · have e1 : ¬ c + d < c := by omega
      have e2 : c + d - c = d := by omega
      have HI := in21_any (c / 30) (c + d) s w (by omega) (by omega) (by omega) s0 s1
      have HC := counter21_any c w hc hc1
      by_cases g1 : d ≤ 30 * s
      · rw [inK_near hc (by omega) (by omega)] at HI
        go_enter Try.func4, Try.ntmps4
        go_wp2_with fail
        refine (awake21_any _).mono ?_
        rintro e w' ⟨rfl, rfl⟩
        go_wp2_with fail
        refine HC.mono ?_
        rintro e w' ⟨rfl, rfl⟩
        go_wp2_with fail
        refine HI.mono ?_
        rintro e w' ⟨rfl, rfl⟩
        go_wp2_with fail
        go_ret
        exact ⟨rfl, rfl⟩
      · by_cases g2 : d < 30 * (s + 1)
        · generalize inK (c / 30) ((c + d) / 30) s = b at HI
          go_enter Try.func4, Try.ntmps4
          go_wp2_with fail
          refine (awake21_any _).mono ?_
          rintro e w' ⟨rfl, rfl⟩
          go_wp2_with fail
          refine HC.mono ?_
          rintro e w' ⟨rfl, rfl⟩
          go_wp2_with fail
          refine HI.mono ?_
          rintro e w' ⟨rfl, rfl⟩
          go_wp2_with fail
          go_ret
          exact ⟨rfl, rfl⟩
        · rw [inK_far hc (by omega) (by omega)] at HI
          go_enter Try.func4, Try.ntmps4
          go_wp2_with fail
          refine (awake21_any _).mono ?_
          rintro e w' ⟨rfl, rfl⟩
          go_wp2_with fail
          refine HC.mono ?_
          rintro e w' ⟨rfl, rfl⟩
          go_wp2_with fail
          refine HI.mono ?_
          rintro e w' ⟨rfl, rfl⟩
          go_wp2_with fail
          go_ret
          exact ⟨rfl, rfl⟩
    · obtain ⟨z, hz⟩ : ∃ z : Int, IntKind.u64.wrap (c + d) = z := ⟨_, rfl⟩
      have hzc : z < c := by rw [← hz]; unfold IntKind.wrap; simp [IntKind.signed, IntKind.bits]; omega
      have hdc : d < c := by omega
      have e2 : c - (c - d) = d := by omega
      have HI := in21_any (c / 30) (c - d) s w (by omega) (by omega) (by omega) s0 s1
      have HC := counter21_any c w hc hc1
      by_cases g1 : d ≤ 30 * s
      · rw [inK_near hc (by omega) (by omega)] at HI
        go_enter Try.func4, Try.ntmps4
        go_wp2_with fail
        refine (awake21_any _).mono ?_
        rintro e w' ⟨rfl, rfl⟩
        go_wp2_with fail
        refine HC.mono ?_
        rintro e w' ⟨rfl, rfl⟩
        go_wp2_with fail
        refine HI.mono ?_
        rintro e w' ⟨rfl, rfl⟩
        go_wp2_with fail
        go_ret
        exact ⟨rfl, rfl⟩
      · by_cases g2 : d < 30 * (s + 1)
        · generalize inK (c / 30) ((c - d) / 30) s = b at HI
          go_enter Try.func4, Try.ntmps4
          go_wp2_with fail
          refine (awake21_any _).mono ?_
          rintro e w' ⟨rfl, rfl⟩
          go_wp2_with fail
          refine HC.mono ?_
          rintro e w' ⟨rfl, rfl⟩
          go_wp2_with fail
          refine HI.mono ?_
          rintro e w' ⟨rfl, rfl⟩
          go_wp2_with fail
          go_ret
          exact ⟨rfl, rfl⟩
        · rw [inK_far hc (by omega) (by omega)] at HI
          go_enter Try.func4, Try.ntmps4
          go_wp2_with fail
          refine (awake21_any _).mono ?_
          rintro e w' ⟨rfl, rfl⟩
          go_wp2_with fail
          refine HC.mono ?_
          rintro e w' ⟨rfl, rfl⟩
          go_wp2_with fail
          refine HI.mono ?_
          rintro e w' ⟨rfl, rfl⟩
          go_wp2_with fail
          go_ret
          exact ⟨rfl, rfl⟩
  · by_cases hdc : d < c
    · have e2 : c - (c - d) = d := by omega
      have HI := in21_any (c / 30) (c - d) s w (by omega) (by omega) (by omega) s0 s1
      have HC := counter21_any c w hc hc1
      by_cases g1 : d ≤ 30 * s
      · rw [inK_near hc (by omega) (by omega)] at HI
        go_enter Try.func4, Try.ntmps4
        go_wp2_with fail
        refine (awake21_any _).mono ?_
        rintro e w' ⟨rfl, rfl⟩
        go_wp2_with fail
        refine HC.mono ?_
        rintro e w' ⟨rfl, rfl⟩
        go_wp2_with fail
        refine HI.mono ?_
        rintro e w' ⟨rfl, rfl⟩
        go_wp2_with fail
        go_ret
        exact ⟨rfl, rfl⟩
      · by_cases g2 : d < 30 * (s + 1)
        · generalize inK (c / 30) ((c - d) / 30) s = b at HI
          go_enter Try.func4, Try.ntmps4
          go_wp2_with fail
          refine (awake21_any _).mono ?_
          rintro e w' ⟨rfl, rfl⟩
          go_wp2_with fail
          refine HC.mono ?_
          rintro e w' ⟨rfl, rfl⟩
          go_wp2_with fail
          refine HI.mono ?_
          rintro e w' ⟨rfl, rfl⟩
          go_wp2_with fail
          go_ret
          exact ⟨rfl, rfl⟩
        · rw [inK_far hc (by omega) (by omega)] at HI
          go_enter Try.func4, Try.ntmps4
          go_wp2_with fail
          refine (awake21_any _).mono ?_
          rintro e w' ⟨rfl, rfl⟩
          go_wp2_with fail
          refine HC.mono ?_
          rintro e w' ⟨rfl, rfl⟩
          go_wp2_with fail
          refine HI.mono ?_
          rintro e w' ⟨rfl, rfl⟩
          go_wp2_with fail
          go_ret
          exact ⟨rfl, rfl⟩
    · by_cases hdd : d = c
      · subst hdd
        have HI := in21_any (d / 30) (0) s w (by omega) (by omega) (by omega) s0 s1
        have HC := counter21_any d w hc hc1
        by_cases g1 : d ≤ 30 * s
        · rw [inK_near hc (by omega) (by omega)] at HI
          go_enter Try.func4, Try.ntmps4
          go_wp2_with fail
          refine (awake21_any _).mono ?_
          rintro e w' ⟨rfl, rfl⟩
          go_wp2_with fail
          refine HC.mono ?_
          rintro e w' ⟨rfl, rfl⟩
          go_wp2_with fail
          refine HI.mono ?_
          rintro e w' ⟨rfl, rfl⟩
          go_wp2_with fail
          go_ret
          exact ⟨rfl, rfl⟩
        · by_cases g2 : d < 30 * (s + 1)
          · generalize inK (d / 30) ((0) / 30) s = b at HI
            go_enter Try.func4, Try.ntmps4
            go_wp2_with fail
            refine (awake21_any _).mono ?_
            rintro e w' ⟨rfl, rfl⟩
            go_wp2_with fail
            refine HC.mono ?_
            rintro e w' ⟨rfl, rfl⟩
            go_wp2_with fail
            refine HI.mono ?_
            rintro e w' ⟨rfl, rfl⟩
            go_wp2_with fail
            go_ret
            exact ⟨rfl, rfl⟩
          · rw [inK_far hc (by omega) (by omega)] at HI
            go_enter Try.func4, Try.ntmps4
            go_wp2_with fail
            refine (awake21_any _).mono ?_
            rintro e w' ⟨rfl, rfl⟩
            go_wp2_with fail
            refine HC.mono ?_
            rintro e w' ⟨rfl, rfl⟩
            go_wp2_with fail
            refine HI.mono ?_
            rintro e w' ⟨rfl, rfl⟩
            go_wp2_with fail
            go_ret
            exact ⟨rfl, rfl⟩
      · have hdl : c < d := by omega
        have HI := in21_any (c / 30) (0) s w (by omega) (by omega) (by omega) s0 s1
        have HC := counter21_any c w hc hc1
        by_cases g1 : c ≤ 30 * s
        · rw [inK_near hc (by omega) (by omega)] at HI
          go_enter Try.func4, Try.ntmps4
          go_wp2_with fail
          refine (awake21_any _).mono ?_
          rintro e w' ⟨rfl, rfl⟩
          go_wp2_with fail
          refine HC.mono ?_
          rintro e w' ⟨rfl, rfl⟩
          go_wp2_with fail
          refine HI.mono ?_
          rintro e w' ⟨rfl, rfl⟩
          go_wp2_with fail
          go_ret
          exact ⟨rfl, rfl⟩
        · by_cases g2 : c < 30 * (s + 1)
          · generalize inK (c / 30) ((0) / 30) s = b at HI
            go_enter Try.func4, Try.ntmps4
            go_wp2_with fail
            refine (awake21_any _).mono ?_
            rintro e w' ⟨rfl, rfl⟩
            go_wp2_with fail
            refine HC.mono ?_
            rintro e w' ⟨rfl, rfl⟩
            go_wp2_with fail
            refine HI.mono ?_
            rintro e w' ⟨rfl, rfl⟩
            go_wp2_with fail
            go_ret
            exact ⟨rfl, rfl⟩
          · rw [inK_far hc (by omega) (by omega)] at HI
            go_enter Try.func4, Try.ntmps4
            go_wp2_with fail
            refine (awake21_any _).mono ?_
            rintro e w' ⟨rfl, rfl⟩
            go_wp2_with fail
            refine HC.mono ?_
            rintro e w' ⟨rfl, rfl⟩
            go_wp2_with fail
            refine HI.mono ?_
            rintro e w' ⟨rfl, rfl⟩
            go_wp2_with fail
            go_ret
            exact ⟨rfl, rfl⟩
theorem windowmeets_any (a0 a1 a3 : Int) (b : Bool) (w : World) (h0 : (Lit.int .u64 a0).wf = true) (h1 : (Lit.int .u16 a1).wf = true) (h3 : (Lit.int .u8 a3).wf = true) :
    Calls Try.prog 4 #[.int .u64 a0, .int .u16 a1, .bool b, .int .u8 a3] w fun e w' => e = .returned (.bool true) ∧ Below w.heap.size w w' :=
  (windowmeets_core a0 a1 a3 b w (u64W_of_wf h0).1 (u64W_of_wf h0).2 (u16_of_wfW h1) (u8_of_wfW h3)).mono fun e w' ⟨he, hw⟩ => ⟨he, by subst hw; exact Below.refl _ _⟩
theorem lowK_mono {k h s : Int} (hk : k ≤ h) : lowK k s ≤ lowK h s := by
  unfold lowK
  split <;> split <;> omega
theorem lowK_le (k s : Int) (hk : 0 ≤ k) (hs : 0 ≤ s) : lowK k s ≤ k + s := by
  unfold lowK
  split <;> omega
theorem lowK_anti {k s t : Int} (h : s ≤ t) : lowK k t ≤ lowK k s := by
  unfold lowK
  split <;> split <;> omega
set_option maxHeartbeats 4000000 in
theorem windowrises_core (a b m n : Int) (w : World) (ha : 0 ≤ a) (hb : b < 18446744073709551616) (hab : a ≤ b) (hm : 0 ≤ m ∧ m < 256) (hn : 0 ≤ n ∧ n < 256) :
    Calls Try.prog 5 #[.int .u64 a, .int .u64 b, .int .u8 m, .int .u8 n] w fun e w' => e = .returned (.bool true) ∧ w = w' := by
  obtain ⟨s, hs⟩ : ∃ s : Int, m.tmod 11 = s := ⟨_, rfl⟩
  have hs2 : m % 11 = s := by rw [← Int.tmod_eq_emod_of_nonneg hm.1]; exact hs
  obtain ⟨s0, s1⟩ : 0 ≤ s ∧ s ≤ 10 := by omega
  obtain ⟨t, ht⟩ : ∃ t : Int, n.tmod 11 = t := ⟨_, rfl⟩
  have ht2 : n % 11 = t := by rw [← Int.tmod_eq_emod_of_nonneg hn.1]; exact ht
  obtain ⟨t0, t1⟩ : 0 ≤ t ∧ t ≤ 10 := by omega
  obtain ⟨m0, m1⟩ := hm
  obtain ⟨n0, n1⟩ := hn
  clear hs2 ht2
  replace hs : True → m.tmod 11 = s := fun _ => hs
  replace ht : True → n.tmod 11 = t := fun _ => ht
  have HA := bounds21_any a s w ha (by omega) s0 s1
  have HB := bounds21_any b s w (by omega) hb s0 s1
  have HC := counter21_any a w ha (by omega)
  have HD := counter21_any b w (by omega) hb
  have r1 := lowK_mono (s := s) (show a / 30 ≤ b / 30 by omega)
  have r2 := lowK_le (a / 30) s (by omega) s0
  have p1 : a / 30 ≤ b / 30 := by omega
  have p2 : a / 30 * 30 ≤ a := by omega
  have p3 : a - a / 30 * 30 < 30 := by omega
  have p4 : 0 ≤ a / 30 := by omega
  have p5 : b / 30 < 614891469123651721 := by omega
  have p6 : b / 30 ≠ a / 30 → ¬ b - a / 30 * 30 < 30 := by omega
  have p7 : b / 30 = a / 30 → b - a / 30 * 30 < 30 := by omega
  by_cases hst : s < t
  · skip
    have HM := bounds21_any a t w ha (by omega) (by omega) (by omega)
    have r3 := lowK_anti (s := s) (t := t) (k := a / 30) (by omega)
    generalize a / 30 = k at *
    generalize b / 30 = h at *
    generalize lowK k s = l at *
    generalize lowK k t = x at *
    generalize lowK h s = l2 at *
    obtain ⟨f, hf⟩ : ∃ f : Int, k * 30 = f := ⟨_, rfl⟩
    rw [hf] at p2 p3 p6 p7
    have f0 : 0 ≤ f := by omega
    by_cases hkh : h = k
    · have p8 := p7 hkh
      subst hkh
      clear p6 p7
      go_enter Try.func5, Try.ntmps5
      go_wp2_with fail
      refine (awake21_any _).mono ?_
      rintro e w' ⟨rfl, rfl⟩
      go_wp2_with fail
      refine HA.mono ?_
      rintro e w' ⟨rfl, rfl⟩
      go_wp2_with fail
      refine HB.mono ?_
      rintro e w' ⟨rfl, rfl⟩
      go_wp2_with fail
      refine HM.mono ?_
      rintro e w' ⟨rfl, rfl⟩
      go_wp2_with fail
      refine HC.mono ?_
      rintro e w' ⟨rfl, rfl⟩
      go_wp2_with fail
      refine HD.mono ?_
      rintro e w' ⟨rfl, rfl⟩
      go_wp2_with fail
      go_ret
      exact ⟨rfl, rfl⟩
    · have p8 : decide (b - f < 30) = false := decide_eq_false (p6 hkh)
      have p9 : (h == k) = false := beq_eq_false_iff_ne.2 hkh
      clear p6 p7
      go_enter Try.func5, Try.ntmps5
      go_wp2_with fail
      refine (awake21_any _).mono ?_
      rintro e w' ⟨rfl, rfl⟩
      go_wp2_with fail
      refine HA.mono ?_
      rintro e w' ⟨rfl, rfl⟩
      go_wp2_with fail
      refine HB.mono ?_
      rintro e w' ⟨rfl, rfl⟩
      go_wp2_with fail
      refine HM.mono ?_
      rintro e w' ⟨rfl, rfl⟩
      go_wp2_with fail
      refine HC.mono ?_
      rintro e w' ⟨rfl, rfl⟩
      go_wp2_with fail
      refine HD.mono ?_
      rintro e w' ⟨rfl, rfl⟩
      go_wp2_with fail
      go_ret
      exact ⟨rfl, rfl⟩
  · by_cases hst2 : s = t
    · subst hst2
      have HM := bounds21_any a s w ha (by omega) (by omega) (by omega)
      have r3 := lowK_anti (s := s) (t := s) (k := a / 30) (by omega)
      generalize a / 30 = k at *
      generalize b / 30 = h at *
      generalize lowK k s = l at *
      generalize lowK k s = x at *
      generalize lowK h s = l2 at *
      obtain ⟨f, hf⟩ : ∃ f : Int, k * 30 = f := ⟨_, rfl⟩
      rw [hf] at p2 p3 p6 p7
      have f0 : 0 ≤ f := by omega
      by_cases hkh : h = k
      · have p8 := p7 hkh
        subst hkh
        clear p6 p7
        go_enter Try.func5, Try.ntmps5
        go_wp2_with fail
        refine (awake21_any _).mono ?_
        rintro e w' ⟨rfl, rfl⟩
        go_wp2_with fail
        refine HA.mono ?_
        rintro e w' ⟨rfl, rfl⟩
        go_wp2_with fail
        refine HB.mono ?_
        rintro e w' ⟨rfl, rfl⟩
        go_wp2_with fail
        refine HM.mono ?_
        rintro e w' ⟨rfl, rfl⟩
        go_wp2_with fail
        refine HC.mono ?_
        rintro e w' ⟨rfl, rfl⟩
        go_wp2_with fail
        refine HD.mono ?_
        rintro e w' ⟨rfl, rfl⟩
        go_wp2_with fail
        go_ret
        exact ⟨rfl, rfl⟩
      · have p8 : decide (b - f < 30) = false := decide_eq_false (p6 hkh)
        have p9 : (h == k) = false := beq_eq_false_iff_ne.2 hkh
        clear p6 p7
        go_enter Try.func5, Try.ntmps5
        go_wp2_with fail
        refine (awake21_any _).mono ?_
        rintro e w' ⟨rfl, rfl⟩
        go_wp2_with fail
        refine HA.mono ?_
        rintro e w' ⟨rfl, rfl⟩
        go_wp2_with fail
        refine HB.mono ?_
        rintro e w' ⟨rfl, rfl⟩
        go_wp2_with fail
        refine HM.mono ?_
        rintro e w' ⟨rfl, rfl⟩
        go_wp2_with fail
        refine HC.mono ?_
        rintro e w' ⟨rfl, rfl⟩
        go_wp2_with fail
        refine HD.mono ?_
        rintro e w' ⟨rfl, rfl⟩
        go_wp2_with fail
        go_ret
        exact ⟨rfl, rfl⟩
    · have hst3 : t < s := by omega
      have HM := bounds21_any a s w ha (by omega) (by omega) (by omega)
      have r3 := lowK_anti (s := s) (t := s) (k := a / 30) (by omega)
      generalize a / 30 = k at *
      generalize b / 30 = h at *
      generalize lowK k s = l at *
      generalize lowK k s = x at *
      generalize lowK h s = l2 at *
      obtain ⟨f, hf⟩ : ∃ f : Int, k * 30 = f := ⟨_, rfl⟩
      rw [hf] at p2 p3 p6 p7
      have f0 : 0 ≤ f := by omega
      by_cases hkh : h = k
      · have p8 := p7 hkh
        subst hkh
        clear p6 p7
        go_enter Try.func5, Try.ntmps5
        go_wp2_with fail
        refine (awake21_any _).mono ?_
        rintro e w' ⟨rfl, rfl⟩
        go_wp2_with fail
        refine HA.mono ?_
        rintro e w' ⟨rfl, rfl⟩
        go_wp2_with fail
        refine HB.mono ?_
        rintro e w' ⟨rfl, rfl⟩
        go_wp2_with fail
        refine HM.mono ?_
        rintro e w' ⟨rfl, rfl⟩
        go_wp2_with fail
        refine HC.mono ?_
        rintro e w' ⟨rfl, rfl⟩
        go_wp2_with fail
        refine HD.mono ?_
        rintro e w' ⟨rfl, rfl⟩
        go_wp2_with fail
        go_ret
        exact ⟨rfl, rfl⟩
      · have p8 : decide (b - f < 30) = false := decide_eq_false (p6 hkh)
        have p9 : (h == k) = false := beq_eq_false_iff_ne.2 hkh
        clear p6 p7
        go_enter Try.func5, Try.ntmps5
        go_wp2_with fail
        refine (awake21_any _).mono ?_
        rintro e w' ⟨rfl, rfl⟩
        go_wp2_with fail
        refine HA.mono ?_
        rintro e w' ⟨rfl, rfl⟩
        go_wp2_with fail
        refine HB.mono ?_
        rintro e w' ⟨rfl, rfl⟩
        go_wp2_with fail
        refine HM.mono ?_
        rintro e w' ⟨rfl, rfl⟩
        go_wp2_with fail
        refine HC.mono ?_
        rintro e w' ⟨rfl, rfl⟩
        go_wp2_with fail
        refine HD.mono ?_
        rintro e w' ⟨rfl, rfl⟩
        go_wp2_with fail
        go_ret
        exact ⟨rfl, rfl⟩
set_option maxHeartbeats 4000000 in
theorem windowrises_swap (a b m n : Int) (w : World) (ha : 0 ≤ a) (hb : b < 18446744073709551616) (hab : a < b) (hm : 0 ≤ m ∧ m < 256) (hn : 0 ≤ n ∧ n < 256) :
    Calls Try.prog 5 #[.int .u64 b, .int .u64 a, .int .u8 m, .int .u8 n] w fun e w' => e = .returned (.bool true) ∧ w = w' := by
  obtain ⟨s, hs⟩ : ∃ s : Int, m.tmod 11 = s := ⟨_, rfl⟩
  have hs2 : m % 11 = s := by rw [← Int.tmod_eq_emod_of_nonneg hm.1]; exact hs
  obtain ⟨s0, s1⟩ : 0 ≤ s ∧ s ≤ 10 := by omega
  obtain ⟨t, ht⟩ : ∃ t : Int, n.tmod 11 = t := ⟨_, rfl⟩
  have ht2 : n % 11 = t := by rw [← Int.tmod_eq_emod_of_nonneg hn.1]; exact ht
  obtain ⟨t0, t1⟩ : 0 ≤ t ∧ t ≤ 10 := by omega
  obtain ⟨m0, m1⟩ := hm
  obtain ⟨n0, n1⟩ := hn
  clear hs2 ht2
  replace hs : True → m.tmod 11 = s := fun _ => hs
  replace ht : True → n.tmod 11 = t := fun _ => ht
  have HA := bounds21_any a s w ha (by omega) s0 s1
  have HB := bounds21_any b s w (by omega) hb s0 s1
  have HC := counter21_any a w ha (by omega)
  have HD := counter21_any b w (by omega) hb
  have r1 := lowK_mono (s := s) (show a / 30 ≤ b / 30 by omega)
  have r2 := lowK_le (a / 30) s (by omega) s0
  have p1 : a / 30 ≤ b / 30 := by omega
  have p2 : a / 30 * 30 ≤ a := by omega
  have p3 : a - a / 30 * 30 < 30 := by omega
  have p4 : 0 ≤ a / 30 := by omega
  have p5 : b / 30 < 614891469123651721 := by omega
  have p6 : b / 30 ≠ a / 30 → ¬ b - a / 30 * 30 < 30 := by omega
  have p7 : b / 30 = a / 30 → b - a / 30 * 30 < 30 := by omega
  by_cases hst : s < t
  · skip
    have HM := bounds21_any a t w ha (by omega) (by omega) (by omega)
    have r3 := lowK_anti (s := s) (t := t) (k := a / 30) (by omega)
    generalize a / 30 = k at *
    generalize b / 30 = h at *
    generalize lowK k s = l at *
    generalize lowK k t = x at *
    generalize lowK h s = l2 at *
    obtain ⟨f, hf⟩ : ∃ f : Int, k * 30 = f := ⟨_, rfl⟩
    rw [hf] at p2 p3 p6 p7
    have f0 : 0 ≤ f := by omega
    by_cases hkh : h = k
    · have p8 := p7 hkh
      subst hkh
      clear p6 p7
      go_enter Try.func5, Try.ntmps5
      go_wp2_with fail
      refine (awake21_any _).mono ?_
      rintro e w' ⟨rfl, rfl⟩
      go_wp2_with fail
      refine HA.mono ?_
      rintro e w' ⟨rfl, rfl⟩
      go_wp2_with fail
      refine HB.mono ?_
      rintro e w' ⟨rfl, rfl⟩
      go_wp2_with fail
      refine HM.mono ?_
      rintro e w' ⟨rfl, rfl⟩
      go_wp2_with fail
      refine HC.mono ?_
      rintro e w' ⟨rfl, rfl⟩
      go_wp2_with fail
      refine HD.mono ?_
      rintro e w' ⟨rfl, rfl⟩
      go_wp2_with fail
      go_ret
      exact ⟨rfl, rfl⟩
    · have p8 : decide (b - f < 30) = false := decide_eq_false (p6 hkh)
      have p9 : (h == k) = false := beq_eq_false_iff_ne.2 hkh
      clear p6 p7
      go_enter Try.func5, Try.ntmps5
      go_wp2_with fail
      refine (awake21_any _).mono ?_
      rintro e w' ⟨rfl, rfl⟩
      go_wp2_with fail
      refine HA.mono ?_
      rintro e w' ⟨rfl, rfl⟩
      go_wp2_with fail
      refine HB.mono ?_
      rintro e w' ⟨rfl, rfl⟩
      go_wp2_with fail
      refine HM.mono ?_
      rintro e w' ⟨rfl, rfl⟩
      go_wp2_with fail
      refine HC.mono ?_
      rintro e w' ⟨rfl, rfl⟩
      go_wp2_with fail
      refine HD.mono ?_
      rintro e w' ⟨rfl, rfl⟩
      go_wp2_with fail
      go_ret
      exact ⟨rfl, rfl⟩
  · by_cases hst2 : s = t
    · subst hst2
      have HM := bounds21_any a s w ha (by omega) (by omega) (by omega)
      have r3 := lowK_anti (s := s) (t := s) (k := a / 30) (by omega)
      generalize a / 30 = k at *
      generalize b / 30 = h at *
      generalize lowK k s = l at *
      generalize lowK k s = x at *
      generalize lowK h s = l2 at *
      obtain ⟨f, hf⟩ : ∃ f : Int, k * 30 = f := ⟨_, rfl⟩
      rw [hf] at p2 p3 p6 p7
      have f0 : 0 ≤ f := by omega
      by_cases hkh : h = k
      · have p8 := p7 hkh
        subst hkh
        clear p6 p7
        go_enter Try.func5, Try.ntmps5
        go_wp2_with fail
        refine (awake21_any _).mono ?_
        rintro e w' ⟨rfl, rfl⟩
        go_wp2_with fail
        refine HA.mono ?_
        rintro e w' ⟨rfl, rfl⟩
        go_wp2_with fail
        refine HB.mono ?_
        rintro e w' ⟨rfl, rfl⟩
        go_wp2_with fail
        refine HM.mono ?_
        rintro e w' ⟨rfl, rfl⟩
        go_wp2_with fail
        refine HC.mono ?_
        rintro e w' ⟨rfl, rfl⟩
        go_wp2_with fail
        refine HD.mono ?_
        rintro e w' ⟨rfl, rfl⟩
        go_wp2_with fail
        go_ret
        exact ⟨rfl, rfl⟩
      · have p8 : decide (b - f < 30) = false := decide_eq_false (p6 hkh)
        have p9 : (h == k) = false := beq_eq_false_iff_ne.2 hkh
        clear p6 p7
        go_enter Try.func5, Try.ntmps5
        go_wp2_with fail
        refine (awake21_any _).mono ?_
        rintro e w' ⟨rfl, rfl⟩
        go_wp2_with fail
        refine HA.mono ?_
        rintro e w' ⟨rfl, rfl⟩
        go_wp2_with fail
        refine HB.mono ?_
        rintro e w' ⟨rfl, rfl⟩
        go_wp2_with fail
        refine HM.mono ?_
        rintro e w' ⟨rfl, rfl⟩
        go_wp2_with fail
        refine HC.mono ?_
        rintro e w' ⟨rfl, rfl⟩
        go_wp2_with fail
        refine HD.mono ?_
        rintro e w' ⟨rfl, rfl⟩
        go_wp2_with fail
        go_ret
        exact ⟨rfl, rfl⟩
    · have hst3 : t < s := by omega
      have HM := bounds21_any a s w ha (by omega) (by omega) (by omega)
      have r3 := lowK_anti (s := s) (t := s) (k := a / 30) (by omega)
      generalize a / 30 = k at *
      generalize b / 30 = h at *
      generalize lowK k s = l at *
      generalize lowK k s = x at *
      generalize lowK h s = l2 at *
      obtain ⟨f, hf⟩ : ∃ f : Int, k * 30 = f := ⟨_, rfl⟩
      rw [hf] at p2 p3 p6 p7
      have f0 : 0 ≤ f := by omega
      by_cases hkh : h = k
      · have p8 := p7 hkh
        subst hkh
        clear p6 p7
        go_enter Try.func5, Try.ntmps5
        go_wp2_with fail
        refine (awake21_any _).mono ?_
        rintro e w' ⟨rfl, rfl⟩
        go_wp2_with fail
        refine HA.mono ?_
        rintro e w' ⟨rfl, rfl⟩
        go_wp2_with fail
        refine HB.mono ?_
        rintro e w' ⟨rfl, rfl⟩
        go_wp2_with fail
        refine HM.mono ?_
        rintro e w' ⟨rfl, rfl⟩
        go_wp2_with fail
        refine HC.mono ?_
        rintro e w' ⟨rfl, rfl⟩
        go_wp2_with fail
        refine HD.mono ?_
        rintro e w' ⟨rfl, rfl⟩
        go_wp2_with fail
        go_ret
        exact ⟨rfl, rfl⟩
      · have p8 : decide (b - f < 30) = false := decide_eq_false (p6 hkh)
        have p9 : (h == k) = false := beq_eq_false_iff_ne.2 hkh
        clear p6 p7
        go_enter Try.func5, Try.ntmps5
        go_wp2_with fail
        refine (awake21_any _).mono ?_
        rintro e w' ⟨rfl, rfl⟩
        go_wp2_with fail
        refine HA.mono ?_
        rintro e w' ⟨rfl, rfl⟩
        go_wp2_with fail
        refine HB.mono ?_
        rintro e w' ⟨rfl, rfl⟩
        go_wp2_with fail
        refine HM.mono ?_
        rintro e w' ⟨rfl, rfl⟩
        go_wp2_with fail
        refine HC.mono ?_
        rintro e w' ⟨rfl, rfl⟩
        go_wp2_with fail
        refine HD.mono ?_
        rintro e w' ⟨rfl, rfl⟩
        go_wp2_with fail
        go_ret
        exact ⟨rfl, rfl⟩
theorem windowrises_any (a0 a1 a2 a3 : Int) (w : World) (h0 : (Lit.int .u64 a0).wf = true) (h1 : (Lit.int .u64 a1).wf = true) (h2 : (Lit.int .u8 a2).wf = true) (h3 : (Lit.int .u8 a3).wf = true) :
    Calls Try.prog 5 #[.int .u64 a0, .int .u64 a1, .int .u8 a2, .int .u8 a3] w fun e w' => e = .returned (.bool true) ∧ Below w.heap.size w w' := by
  by_cases h : a0 ≤ a1
  · exact (windowrises_core a0 a1 a2 a3 w (u64W_of_wf h0).1 (u64W_of_wf h1).2 h (u8_of_wfW h2) (u8_of_wfW h3)).mono fun e w' ⟨he, hw⟩ => ⟨he, by subst hw; exact Below.refl _ _⟩
  · exact (windowrises_swap a1 a0 a2 a3 w (u64W_of_wf h1).1 (u64W_of_wf h0).2 (by omega) (u8_of_wfW h2) (u8_of_wfW h3)).mono fun e w' ⟨he, hw⟩ => ⟨he, by subst hw; exact Below.refl _ _⟩
end Go.Proofs.Yteljklkgdejhpaa
