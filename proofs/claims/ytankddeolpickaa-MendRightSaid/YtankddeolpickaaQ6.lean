/-
  The walk of the law MendRight: what any bytes are mended to is what the reference says. No conditions.
-/
import Derived.Test.YtankddeolpickaaQ5
namespace Go.Proofs.Ytankddeolpickaa
set_option maxRecDepth 100000
open Go.RowKit
set_option linter.unusedSimpArgs false
set_option linter.unusedVariables false

theorem RetM2.to {w w' : World} {s : List UInt8 × Nat × Int} {e : Ending} (h : RetM2 w s e w') (l : List UInt8) (k : Nat) (err : Int) (hs : s = (l, k, err)) :
    ∃ A n c, e = .returned (.tuple #[.slice A n c, .int .i64 (k : Int), .int .i64 err]) ∧ Hid (l.length = n) ∧ n ≤ c ∧ Rd vB w' A l ∧ Below w.heap.size w w' := by
  subst hs
  exact h
theorem strR (n : Nat) {w : World} {A : Option Addr} {l : List UInt8} {c : Nat} (H : Hid (l.length = n)) (h : Rd vB w A l) : (convert 22 9 (.slice A n c)).run Try.prog w = .ok (.string (strL l)) w := strS n H h w (Below.refl _ _)
set_option maxRecDepth 100000 in
set_option maxHeartbeats 4000000 in
theorem mendright_core (b : List UInt8) (n : Int) (len : Nat) (A : Option Addr) (c : Nat) (w : World) (HN : Hid (b.length = len)) (hr : Rd vB w A b) (hc : len ≤ c) (h63 : len ≤ 9223372036854775807) (hn1 : -9223372036854775808 ≤ n) (hn2 : n ≤ 9223372036854775807) :
    Calls Try.prog 3 #[.slice A len c, .int .i64 n] w fun e w' => e = .returned (.bool true) ∧ Below w.heap.size w w' := by
  have HM := Lib.hid (mostM_any n)
  obtain ⟨l, k, er, hs⟩ : ∃ l k er, mendS b n = (l, k, er) := ⟨_, _, _, rfl⟩
  have HS := Lib.hid hs
  clear hs
  go_enter Try.func3, Try.ntmps3
  go_wp2_with fail
  refine (awake10_any _).mono ?_
  rintro e w1 ⟨rfl, hB⟩
  replace hr := hr.keep hB
  by_cases hlo : n < 1
  · have g1 : ¬ (1 : Int) ≤ n := by omega
    have g2 : ¬ (20 : Int) < n := by omega
    have HMN : Hid (mostN n = 0) := if_pos (.inl hlo)
    rw [HMN.out] at HM
    go_wp2_with fail
    refine (HM.out _).mono ?_
    rintro e w2 ⟨rfl, rfl⟩
    by_cases l120 : (120 : Int) < (len : Int)
    · by_cases l255 : (len : Int) ≤ 255
      · go_wp2_with fail
        go_ret
        exact ⟨rfl, hB⟩
      · by_cases l400 : (400 : Int) < (len : Int)
        · go_wp2_with fail
          go_ret
          exact ⟨rfl, hB⟩
        · skip
          go_wp2_with fail
          refine ((mendM_any b len n A c _ HN hr hc (by omega)).mono (fun _ _ h => h.to l k (k : Int) er HS.out rfl)).mono ?_
          rintro e w3 ⟨A3, n3, c3, rfl, HN3, hc3, hr3, hb3, ha3⟩
          replace hr := hr.keep hb3
          replace hB := below_step hB hb3
          clear hb3 ha3
          go_wp2_with fail
          refine ((refmend_any b len n A c _ HN hr (by omega)).mono (fun _ _ h => h.to l k er HS.out)).mono ?_
          rintro e w4 ⟨A4, n4, c4, rfl, HN4, hc4, hr4, hb4⟩
          have e4 : n4 = n3 := by rw [← HN3.out, ← HN4.out]
          subst e4
          replace hr3 := hr3.keep hb4
          replace hB := below_step hB hb4
          clear hb4
          have hs1 := strR (c := c3) n4 HN3 hr3
          have hs2 := strR (c := c4) n4 HN4 hr4
          go_wp2_with fail
          go_ret
          exact ⟨rfl, hB⟩
    · have l400 : ¬ (400 : Int) < (len : Int) := by omega
      go_wp2_with fail
      refine ((mendM_any b len n A c _ HN hr hc (by omega)).mono (fun _ _ h => h.to l k (k : Int) er HS.out rfl)).mono ?_
      rintro e w3 ⟨A3, n3, c3, rfl, HN3, hc3, hr3, hb3, ha3⟩
      replace hr := hr.keep hb3
      replace hB := below_step hB hb3
      clear hb3 ha3
      go_wp2_with fail
      refine ((refmend_any b len n A c _ HN hr (by omega)).mono (fun _ _ h => h.to l k er HS.out)).mono ?_
      rintro e w4 ⟨A4, n4, c4, rfl, HN4, hc4, hr4, hb4⟩
      have e4 : n4 = n3 := by rw [← HN3.out, ← HN4.out]
      subst e4
      replace hr3 := hr3.keep hb4
      replace hB := below_step hB hb4
      clear hb4
      have hs1 := strR (c := c3) n4 HN3 hr3
      have hs2 := strR (c := c4) n4 HN4 hr4
      go_wp2_with fail
      go_ret
      exact ⟨rfl, hB⟩
  · by_cases hhi : 64 < n
    · have g1 : (1 : Int) ≤ n := by omega
      have g2 : (20 : Int) < n := by omega
      have g3 : ¬ n ≤ (64 : Int) := by omega
      have HMN : Hid (mostN n = 0) := if_pos (.inr hhi)
      rw [HMN.out] at HM
      go_wp2_with fail
      refine (HM.out _).mono ?_
      rintro e w2 ⟨rfl, rfl⟩
      by_cases l120 : (120 : Int) < (len : Int)
      · by_cases l255 : (len : Int) ≤ 255
        · go_wp2_with fail
          go_ret
          exact ⟨rfl, hB⟩
        · by_cases l400 : (400 : Int) < (len : Int)
          · go_wp2_with fail
            go_ret
            exact ⟨rfl, hB⟩
          · skip
            go_wp2_with fail
            refine ((mendM_any b len n A c _ HN hr hc (by omega)).mono (fun _ _ h => h.to l k (k : Int) er HS.out rfl)).mono ?_
            rintro e w3 ⟨A3, n3, c3, rfl, HN3, hc3, hr3, hb3, ha3⟩
            replace hr := hr.keep hb3
            replace hB := below_step hB hb3
            clear hb3 ha3
            go_wp2_with fail
            refine ((refmend_any b len n A c _ HN hr (by omega)).mono (fun _ _ h => h.to l k er HS.out)).mono ?_
            rintro e w4 ⟨A4, n4, c4, rfl, HN4, hc4, hr4, hb4⟩
            have e4 : n4 = n3 := by rw [← HN3.out, ← HN4.out]
            subst e4
            replace hr3 := hr3.keep hb4
            replace hB := below_step hB hb4
            clear hb4
            have hs1 := strR (c := c3) n4 HN3 hr3
            have hs2 := strR (c := c4) n4 HN4 hr4
            go_wp2_with fail
            go_ret
            exact ⟨rfl, hB⟩
      · have l400 : ¬ (400 : Int) < (len : Int) := by omega
        go_wp2_with fail
        refine ((mendM_any b len n A c _ HN hr hc (by omega)).mono (fun _ _ h => h.to l k (k : Int) er HS.out rfl)).mono ?_
        rintro e w3 ⟨A3, n3, c3, rfl, HN3, hc3, hr3, hb3, ha3⟩
        replace hr := hr.keep hb3
        replace hB := below_step hB hb3
        clear hb3 ha3
        go_wp2_with fail
        refine ((refmend_any b len n A c _ HN hr (by omega)).mono (fun _ _ h => h.to l k er HS.out)).mono ?_
        rintro e w4 ⟨A4, n4, c4, rfl, HN4, hc4, hr4, hb4⟩
        have e4 : n4 = n3 := by rw [← HN3.out, ← HN4.out]
        subst e4
        replace hr3 := hr3.keep hb4
        replace hB := below_step hB hb4
        clear hb4
        have hs1 := strR (c := c3) n4 HN3 hr3
        have hs2 := strR (c := c4) n4 HN4 hr4
        go_wp2_with fail
        go_ret
        exact ⟨rfl, hB⟩
    · obtain ⟨m, rfl⟩ : ∃ m : Nat, n = (m : Int) := ⟨n.toNat, by omega⟩
      have g1 : (1 : Int) ≤ (m : Int) := by omega
      have g3 : (m : Int) ≤ (64 : Int) := by omega
      have e1 : (m : Int).tdiv 2 = ((m / 2 : Nat) : Int) := by rw [Int.tdiv_eq_ediv_of_nonneg (by omega)]; omega
      have e2 : IntKind.i64.wrap ((m / 2 : Nat) : Int) = ((m / 2 : Nat) : Int) := by rw [IntKind.wrap_i64]; omega
      have HMN : Hid (mostN (m : Int) = ((m / 2 : Nat) : Int)) := by
        unfold Hid mostN
        rw [if_neg (by omega)]
        omega
      rw [HMN.out] at HM
      generalize m / 2 = M at HM HMN e1 e2
      go_wp2_with fail
      refine (HM.out _).mono ?_
      rintro e w2 ⟨rfl, rfl⟩
      by_cases h20 : (20 : Int) < (m : Int)
      · by_cases l120 : (120 : Int) < (len : Int)
        · by_cases l255 : (len : Int) ≤ 255
          · go_wp2_with fail
            go_ret
            exact ⟨rfl, hB⟩
          · by_cases l400 : (400 : Int) < (len : Int)
            · go_wp2_with fail
              go_ret
              exact ⟨rfl, hB⟩
            · go_wp2_with fail
              go_ret
              exact ⟨rfl, hB⟩
        · have l400 : ¬ (400 : Int) < (len : Int) := by omega
          go_wp2_with fail
          go_ret
          exact ⟨rfl, hB⟩
      · skip
        by_cases l120 : (120 : Int) < (len : Int)
        · by_cases l255 : (len : Int) ≤ 255
          · go_wp2_with fail
            go_ret
            exact ⟨rfl, hB⟩
          · by_cases l400 : (400 : Int) < (len : Int)
            · go_wp2_with fail
              go_ret
              exact ⟨rfl, hB⟩
            · skip
              go_wp2_with fail
              refine ((mendM_any b len (m : Int) A c _ HN hr hc (by omega)).mono (fun _ _ h => h.to l k (k : Int) er HS.out rfl)).mono ?_
              rintro e w3 ⟨A3, n3, c3, rfl, HN3, hc3, hr3, hb3, ha3⟩
              replace hr := hr.keep hb3
              replace hB := below_step hB hb3
              clear hb3 ha3
              go_wp2_with fail
              refine ((refmend_any b len (m : Int) A c _ HN hr (by omega)).mono (fun _ _ h => h.to l k er HS.out)).mono ?_
              rintro e w4 ⟨A4, n4, c4, rfl, HN4, hc4, hr4, hb4⟩
              have e4 : n4 = n3 := by rw [← HN3.out, ← HN4.out]
              subst e4
              replace hr3 := hr3.keep hb4
              replace hB := below_step hB hb4
              clear hb4
              have hs1 := strR (c := c3) n4 HN3 hr3
              have hs2 := strR (c := c4) n4 HN4 hr4
              go_wp2_with fail
              go_ret
              exact ⟨rfl, hB⟩
        · have l400 : ¬ (400 : Int) < (len : Int) := by omega
          go_wp2_with fail
          refine ((mendM_any b len (m : Int) A c _ HN hr hc (by omega)).mono (fun _ _ h => h.to l k (k : Int) er HS.out rfl)).mono ?_
          rintro e w3 ⟨A3, n3, c3, rfl, HN3, hc3, hr3, hb3, ha3⟩
          replace hr := hr.keep hb3
          replace hB := below_step hB hb3
          clear hb3 ha3
          go_wp2_with fail
          refine ((refmend_any b len (m : Int) A c _ HN hr (by omega)).mono (fun _ _ h => h.to l k er HS.out)).mono ?_
          rintro e w4 ⟨A4, n4, c4, rfl, HN4, hc4, hr4, hb4⟩
          have e4 : n4 = n3 := by rw [← HN3.out, ← HN4.out]
          subst e4
          replace hr3 := hr3.keep hb4
          replace hB := below_step hB hb4
          clear hb4
          have hs1 := strR (c := c3) n4 HN3 hr3
          have hs2 := strR (c := c4) n4 HN4 hr4
          go_wp2_with fail
          go_ret
          exact ⟨rfl, hB⟩
end Go.Proofs.Ytankddeolpickaa
/-
  The law MendRight, at whatever comes in: it answers true, and writes nothing that was there. No conditions.
-/
namespace Go.Proofs.Ytankddeolpickaa
set_option maxRecDepth 100000
open Go.RowKit
set_option linter.unusedSimpArgs false
set_option linter.unusedVariables false

theorem i64_of_wfM {a : Int} (h : (Lit.int .i64 a).wf = true) : -9223372036854775808 ≤ a ∧ a ≤ 9223372036854775807 := by
  simp [Lit.wf, IntKind.min, IntKind.max, IntKind.signed, IntKind.bits] at h
  omega
theorem mendright_any (a0 : Option Addr) (len0 cap0 : Nat) (z0 : List Int) (a1 : Int) (w : World)
    (h0 : (a0 = none ∧ len0 = 0 ∧ cap0 = 0 ∧ z0 = []) ∨ ∃ x, a0 = some x ∧ len0 ≤ cap0 ∧ cap0 ≤ maxLen ∧ z0.length = cap0 ∧ (∀ i, i < z0.length → w.cell? (x.add i) = some (.int .u8 (z0.getD i 0))) ∧ ∀ n ∈ z0, (Lit.int .u8 n).wf = true)
    (h1 : (Lit.int .i64 a1).wf = true) :
    Calls Try.prog 3 #[.slice a0 len0 cap0, .int .i64 a1] w fun e w' => e = .returned (.bool true) ∧ Below w.heap.size w w' := by
  obtain ⟨p, rfl, hpc, hpm, hp⟩ := bytes_of_row h0
  have hw := i64_of_wfM h1
  exact mendright_core p a1 _ a0 cap0 w (Lib.hid rfl) hp hpc (by omega) hw.1 hw.2
end Go.Proofs.Ytankddeolpickaa
