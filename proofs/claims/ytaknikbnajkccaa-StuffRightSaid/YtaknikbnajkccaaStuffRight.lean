/-
  The walk of the law StuffRight: stuffed bytes, what they are of, and how many there may be, are the document's. No conditions.
-/
import Derived.Test.YtaknikbnajkccaaStuffAwake
namespace Go.Proofs.Ytaknikbnajkccaa
set_option maxRecDepth 100000
open Go.RowKit
set_option linter.unusedSimpArgs false
set_option linter.unusedVariables false

theorem most_in (n : Nat) (h : n ≤ 1048576) : mostN (n : Int) = (((8 * n + 6) / 7 : Nat) : Int) := by
  unfold mostN
  rw [if_pos ⟨by omega, by omega⟩]
  omega
theorem most_out (n : Int) (h : ¬ (0 ≤ n ∧ n ≤ 1048576)) : mostN n = 0 := by
  unfold mostN
  rw [if_neg h]

set_option maxRecDepth 100000 in
set_option maxHeartbeats 4000000 in
/-- Behind 'want'. -/
theorem stuffright_core (b : List UInt8) (len : Nat) (k : Int) (A : Option Addr) (c : Nat) (w : World) (HN : Hid (b.length = len)) (hr : Rd vB w A b) (hc : len ≤ c) (hl : len ≤ 3000) (k1 : -9223372036854775808 ≤ k) (k2 : k ≤ 9223372036854775807) :
    Calls Try.prog 3 #[.slice A len c, .int .i64 k] w fun e w' => e = .returned (.bool true) ∧ Below w.heap.size w w' := by
  have g1 : decide ((3000 : Int) < (len : Int)) = false := decide_eq_false (by omega)
  have n1 : ¬ 3000 < len := by omega
  obtain ⟨M, hM⟩ : ∃ M, mostN k = M := ⟨_, rfl⟩
  have HM := Lib.hid hM
  have hmost : ∀ W, Calls Try.prog 11 #[.int .i64 k] W fun e w' => e = .returned (.int .i64 M) ∧ Below W.heap.size W w' := fun W => by
    rw [← hM]
    exact mostF_any k W k1 k2
  have HMO := Lib.hid hmost
  obtain ⟨ok, hok⟩ : ∃ k, decide (putT (candL b) = b) = k := ⟨_, rfl⟩
  have HOK := Lib.hid hok
  clear hmost hM hok
  go_enter Try.func3, Try.ntmps3
  go_wp2_with fail
  refine (awake11_any _).mono ?_
  rintro e w1 ⟨rfl, hB⟩
  replace hr := hr.keep hB
  by_cases hin : 0 ≤ k ∧ k ≤ 1048576
  · obtain ⟨n, rfl, hn⟩ : ∃ n : Nat, k = (n : Int) ∧ n ≤ 1048576 := ⟨k.toNat, by omega, by omega⟩
    have hq : (8 * (n : Int) + 6) / 7 = M := by rw [← HM.out, most_in n hn]; omega
    have k0 : (0 : Int) ≤ (n : Int) := by omega
    have k3 : (n : Int) ≤ 1048576 := by omega
    clear hin
    cases ok
    · have HGL : Hid ((if putT (candL b) = b then candL b else []) = []) := by unfold Hid; rw [if_neg (of_decide_eq_false HOK.out)]
      go_wp2_with fail
      refine (getF_no b len A c _ HN hr hc (by omega) (Lib.hid (of_decide_eq_false HOK.out))).mono ?_
      rintro e w2 ⟨A2, n2, c2, rfl, HN2, hc2, hr2, hb⟩
      replace hr := hr.keep hb
      replace hB := below_step hB hb
      clear hb
      go_wp2_with fail
      refine (refgetT_any b len A c _ HN hr hc (by omega)).mono ?_
      rintro e w3 ⟨A3, n3, c3, rfl, HN3, hc3, hr3, hb⟩
      rw [HOK.out]
      rw [HGL.out] at HN3 hr3
      replace hr := hr.keep hb
      replace hr2 := hr2.keep hb
      replace hB := below_step hB hb
      clear hb
      have hs1 := strY (c := c2) n2 HN2 hr2
      have hs2 := strY (c := c3) n3 HN3 hr3
      have HX := Lib.hid (And.intro hr hB)
      clear hr hr2 hr3 hB
      go_upto_region 10 with fail
      have hBase := (Below.refl w3.heap.size w3).drew
      refine wp_region_plan (.step 0 false (.step 3 false (.step 1 true (.step 2 false (.step 4 true (.step 5 false (.step 6 false (.step 7 false (.step 8 false (.step 9 false (.step 10 false (.step 11 false (.step 12 false (.step 13 false (.step 14 false (.step 15 false (.step 16 false (.step 17 false (.step 18 false (.step 19 false (.step 20 false (.step 21 false (.step 22 false (.step 23 false (.step 24 false (.step 25 false (.step 26 false (.step 27 false (.step 28 false (.step 29 false (.step 30 false (.step 32 false (.step 31 true (.step 33 false (.step 34 false (.step 35 false (.nil))))))))))))))))))))))))))))))))))))) (by kernel_rfl) (by kernel_rfl) (by rfl) (by kernel_rfl) ?_
      iterate 2 (refine plan_read rfl (by rfl) (v := ?_) ?_ ?_; rotate_left 1; (intro W hW; have hW0 := below_step hBase hW; (try dsimp only at hW); go_simp <;> with_reducible rfl); simp only [List.getElem_toArray, List.getElem_cons_zero, List.getElem_cons_succ, Act.put, List.setIfInBounds_toArray, List.set_cons_zero, List.set_cons_succ])
      (refine plan_make rfl (by rfl) (fun K hK => ?_); go_simp; (refine (putF_any b len A c _ HN (HX.out.1.keep hBase) hc (by omega)).mono ?_; rintro e w4 ⟨A4, n4, c4, rfl, HN4, hc4, hr4, hbx⟩); refine hK.out _ _ hbx ?_; clear hK K; replace hBase := below_step hBase hbx)
      have hs3 := strY (c := c4) n4 HN4 hr4
      iterate 1 (refine plan_read rfl (by rfl) (v := ?_) ?_ ?_; rotate_left 1; (intro W hW; have hW0 := below_step hBase hW; (try dsimp only at hW); go_simp <;> with_reducible rfl); simp only [List.getElem_toArray, List.getElem_cons_zero, List.getElem_cons_succ, Act.put, List.setIfInBounds_toArray, List.set_cons_zero, List.set_cons_succ])
      (refine plan_make rfl (by rfl) (fun K hK => ?_); go_simp; (refine (refputT_any b len A c _ HN (HX.out.1.keep hBase) (by omega)).mono ?_; rintro e w5 ⟨A5, n5, c5, rfl, HN5, hc5, hr5, hbx⟩); refine hK.out _ _ hbx ?_; clear hK K; replace hBase := below_step hBase hbx)
      have hs4 := strY (c := c5) n5 HN5 hr5
      iterate 12 (refine plan_read rfl (by rfl) (v := ?_) ?_ ?_; rotate_left 1; (intro W hW; have hW0 := below_step hBase hW; (try dsimp only at hW); go_simp <;> with_reducible rfl); simp only [List.getElem_toArray, List.getElem_cons_zero, List.getElem_cons_succ, Act.put, List.setIfInBounds_toArray, List.set_cons_zero, List.set_cons_succ])
      iterate 2 (refine plan_skip rfl (by rfl) ?_; simp only [List.getElem_toArray, List.getElem_cons_zero, List.getElem_cons_succ, Act.put, List.setIfInBounds_toArray, List.set_cons_zero, List.set_cons_succ])
      iterate 13 (refine plan_read rfl (by rfl) (v := ?_) ?_ ?_; rotate_left 1; (intro W hW; have hW0 := below_step hBase hW; (try dsimp only at hW); go_simp <;> with_reducible rfl); simp only [List.getElem_toArray, List.getElem_cons_zero, List.getElem_cons_succ, Act.put, List.setIfInBounds_toArray, List.set_cons_zero, List.set_cons_succ])
      (refine plan_make rfl (by rfl) (fun K hK => ?_); go_simp; (refine (HMO.out _).mono ?_; rintro e w6 ⟨rfl, hbx⟩); refine hK.out _ _ hbx ?_; clear hK K; replace hBase := below_step hBase hbx)
      iterate 3 (refine plan_read rfl (by rfl) (v := ?_) ?_ ?_; rotate_left 1; (intro W hW; have hW0 := below_step hBase hW; (try dsimp only at hW); go_simp <;> with_reducible rfl); simp only [List.getElem_toArray, List.getElem_cons_zero, List.getElem_cons_succ, Act.put, List.setIfInBounds_toArray, List.set_cons_zero, List.set_cons_succ])
      refine plan_done ?_
      clear hs1 hs2 hs3 hs4
      go_wp2_with fail
      go_ret
      exact ⟨rfl, below_step HX.out.2 hBase⟩
    · have HGL : Hid ((if putT (candL b) = b then candL b else []) = candL b) := by unfold Hid; rw [if_pos (of_decide_eq_true HOK.out)]
      go_wp2_with fail
      refine (getF_ok b len A c _ HN hr hc (by omega) (Lib.hid (of_decide_eq_true HOK.out))).mono ?_
      rintro e w2 ⟨A2, n2, c2, rfl, HN2, hc2, hr2, hb⟩
      replace hr := hr.keep hb
      replace hB := below_step hB hb
      clear hb
      go_wp2_with fail
      refine (refgetT_any b len A c _ HN hr hc (by omega)).mono ?_
      rintro e w3 ⟨A3, n3, c3, rfl, HN3, hc3, hr3, hb⟩
      rw [HOK.out]
      rw [HGL.out] at HN3 hr3
      replace hr := hr.keep hb
      replace hr2 := hr2.keep hb
      replace hB := below_step hB hb
      clear hb
      have hs1 := strY (c := c2) n2 HN2 hr2
      have hs2 := strY (c := c3) n3 HN3 hr3
      have HX := Lib.hid (And.intro hr hB)
      clear hr hr2 hr3 hB
      go_upto_region 10 with fail
      have hBase := (Below.refl w3.heap.size w3).drew
      refine wp_region_plan (.step 0 false (.step 3 false (.step 1 true (.step 2 false (.step 4 true (.step 5 false (.step 6 false (.step 7 false (.step 8 false (.step 9 false (.step 10 false (.step 11 false (.step 12 false (.step 13 false (.step 14 false (.step 15 false (.step 16 false (.step 17 false (.step 18 false (.step 19 false (.step 20 false (.step 21 false (.step 22 false (.step 23 false (.step 24 false (.step 25 false (.step 26 false (.step 27 false (.step 28 false (.step 29 false (.step 30 false (.step 32 false (.step 31 true (.step 33 false (.step 34 false (.step 35 false (.nil))))))))))))))))))))))))))))))))))))) (by kernel_rfl) (by kernel_rfl) (by rfl) (by kernel_rfl) ?_
      iterate 2 (refine plan_read rfl (by rfl) (v := ?_) ?_ ?_; rotate_left 1; (intro W hW; have hW0 := below_step hBase hW; (try dsimp only at hW); go_simp <;> with_reducible rfl); simp only [List.getElem_toArray, List.getElem_cons_zero, List.getElem_cons_succ, Act.put, List.setIfInBounds_toArray, List.set_cons_zero, List.set_cons_succ])
      (refine plan_make rfl (by rfl) (fun K hK => ?_); go_simp; (refine (putF_any b len A c _ HN (HX.out.1.keep hBase) hc (by omega)).mono ?_; rintro e w4 ⟨A4, n4, c4, rfl, HN4, hc4, hr4, hbx⟩); refine hK.out _ _ hbx ?_; clear hK K; replace hBase := below_step hBase hbx)
      have hs3 := strY (c := c4) n4 HN4 hr4
      iterate 1 (refine plan_read rfl (by rfl) (v := ?_) ?_ ?_; rotate_left 1; (intro W hW; have hW0 := below_step hBase hW; (try dsimp only at hW); go_simp <;> with_reducible rfl); simp only [List.getElem_toArray, List.getElem_cons_zero, List.getElem_cons_succ, Act.put, List.setIfInBounds_toArray, List.set_cons_zero, List.set_cons_succ])
      (refine plan_make rfl (by rfl) (fun K hK => ?_); go_simp; (refine (refputT_any b len A c _ HN (HX.out.1.keep hBase) (by omega)).mono ?_; rintro e w5 ⟨A5, n5, c5, rfl, HN5, hc5, hr5, hbx⟩); refine hK.out _ _ hbx ?_; clear hK K; replace hBase := below_step hBase hbx)
      have hs4 := strY (c := c5) n5 HN5 hr5
      iterate 16 (refine plan_read rfl (by rfl) (v := ?_) ?_ ?_; rotate_left 1; (intro W hW; have hW0 := below_step hBase hW; (try dsimp only at hW); go_simp <;> with_reducible rfl); simp only [List.getElem_toArray, List.getElem_cons_zero, List.getElem_cons_succ, Act.put, List.setIfInBounds_toArray, List.set_cons_zero, List.set_cons_succ])
      iterate 6 (refine plan_skip rfl (by rfl) ?_; simp only [List.getElem_toArray, List.getElem_cons_zero, List.getElem_cons_succ, Act.put, List.setIfInBounds_toArray, List.set_cons_zero, List.set_cons_succ])
      iterate 5 (refine plan_read rfl (by rfl) (v := ?_) ?_ ?_; rotate_left 1; (intro W hW; have hW0 := below_step hBase hW; (try dsimp only at hW); go_simp <;> with_reducible rfl); simp only [List.getElem_toArray, List.getElem_cons_zero, List.getElem_cons_succ, Act.put, List.setIfInBounds_toArray, List.set_cons_zero, List.set_cons_succ])
      (refine plan_make rfl (by rfl) (fun K hK => ?_); go_simp; (refine (HMO.out _).mono ?_; rintro e w6 ⟨rfl, hbx⟩); refine hK.out _ _ hbx ?_; clear hK K; replace hBase := below_step hBase hbx)
      iterate 3 (refine plan_read rfl (by rfl) (v := ?_) ?_ ?_; rotate_left 1; (intro W hW; have hW0 := below_step hBase hW; (try dsimp only at hW); go_simp <;> with_reducible rfl); simp only [List.getElem_toArray, List.getElem_cons_zero, List.getElem_cons_succ, Act.put, List.setIfInBounds_toArray, List.set_cons_zero, List.set_cons_succ])
      refine plan_done ?_
      clear hs1 hs2 hs3 hs4
      go_wp2_with fail
      go_ret
      exact ⟨rfl, below_step HX.out.2 hBase⟩
  · have hM0 : M = 0 := by rw [← HM.out, most_out k hin]
    subst hM0
    by_cases h0 : 0 ≤ k
    · have h3 : ¬ k ≤ 1048576 := by omega
      clear hin
      cases ok
      · have HGL : Hid ((if putT (candL b) = b then candL b else []) = []) := by unfold Hid; rw [if_neg (of_decide_eq_false HOK.out)]
        go_wp2_with fail
        refine (getF_no b len A c _ HN hr hc (by omega) (Lib.hid (of_decide_eq_false HOK.out))).mono ?_
        rintro e w2 ⟨A2, n2, c2, rfl, HN2, hc2, hr2, hb⟩
        replace hr := hr.keep hb
        replace hB := below_step hB hb
        clear hb
        go_wp2_with fail
        refine (refgetT_any b len A c _ HN hr hc (by omega)).mono ?_
        rintro e w3 ⟨A3, n3, c3, rfl, HN3, hc3, hr3, hb⟩
        rw [HOK.out]
        rw [HGL.out] at HN3 hr3
        replace hr := hr.keep hb
        replace hr2 := hr2.keep hb
        replace hB := below_step hB hb
        clear hb
        have hs1 := strY (c := c2) n2 HN2 hr2
        have hs2 := strY (c := c3) n3 HN3 hr3
        have HX := Lib.hid (And.intro hr hB)
        clear hr hr2 hr3 hB
        go_upto_region 10 with fail
        have hBase := (Below.refl w3.heap.size w3).drew
        refine wp_region_plan (.step 0 false (.step 3 false (.step 1 true (.step 2 false (.step 4 true (.step 5 false (.step 6 false (.step 7 false (.step 8 false (.step 9 false (.step 10 false (.step 11 false (.step 12 false (.step 13 false (.step 14 false (.step 15 false (.step 16 false (.step 17 false (.step 18 false (.step 19 false (.step 20 false (.step 21 false (.step 22 false (.step 23 false (.step 24 false (.step 25 false (.step 26 false (.step 27 false (.step 28 false (.step 29 false (.step 30 false (.step 32 false (.step 31 true (.step 33 false (.step 34 false (.step 35 false (.nil))))))))))))))))))))))))))))))))))))) (by kernel_rfl) (by kernel_rfl) (by rfl) (by kernel_rfl) ?_
        iterate 2 (refine plan_read rfl (by rfl) (v := ?_) ?_ ?_; rotate_left 1; (intro W hW; have hW0 := below_step hBase hW; (try dsimp only at hW); go_simp <;> with_reducible rfl); simp only [List.getElem_toArray, List.getElem_cons_zero, List.getElem_cons_succ, Act.put, List.setIfInBounds_toArray, List.set_cons_zero, List.set_cons_succ])
        (refine plan_make rfl (by rfl) (fun K hK => ?_); go_simp; (refine (putF_any b len A c _ HN (HX.out.1.keep hBase) hc (by omega)).mono ?_; rintro e w4 ⟨A4, n4, c4, rfl, HN4, hc4, hr4, hbx⟩); refine hK.out _ _ hbx ?_; clear hK K; replace hBase := below_step hBase hbx)
        have hs3 := strY (c := c4) n4 HN4 hr4
        iterate 1 (refine plan_read rfl (by rfl) (v := ?_) ?_ ?_; rotate_left 1; (intro W hW; have hW0 := below_step hBase hW; (try dsimp only at hW); go_simp <;> with_reducible rfl); simp only [List.getElem_toArray, List.getElem_cons_zero, List.getElem_cons_succ, Act.put, List.setIfInBounds_toArray, List.set_cons_zero, List.set_cons_succ])
        (refine plan_make rfl (by rfl) (fun K hK => ?_); go_simp; (refine (refputT_any b len A c _ HN (HX.out.1.keep hBase) (by omega)).mono ?_; rintro e w5 ⟨A5, n5, c5, rfl, HN5, hc5, hr5, hbx⟩); refine hK.out _ _ hbx ?_; clear hK K; replace hBase := below_step hBase hbx)
        have hs4 := strY (c := c5) n5 HN5 hr5
        iterate 12 (refine plan_read rfl (by rfl) (v := ?_) ?_ ?_; rotate_left 1; (intro W hW; have hW0 := below_step hBase hW; (try dsimp only at hW); go_simp <;> with_reducible rfl); simp only [List.getElem_toArray, List.getElem_cons_zero, List.getElem_cons_succ, Act.put, List.setIfInBounds_toArray, List.set_cons_zero, List.set_cons_succ])
        iterate 2 (refine plan_skip rfl (by rfl) ?_; simp only [List.getElem_toArray, List.getElem_cons_zero, List.getElem_cons_succ, Act.put, List.setIfInBounds_toArray, List.set_cons_zero, List.set_cons_succ])
        iterate 13 (refine plan_read rfl (by rfl) (v := ?_) ?_ ?_; rotate_left 1; (intro W hW; have hW0 := below_step hBase hW; (try dsimp only at hW); go_simp <;> with_reducible rfl); simp only [List.getElem_toArray, List.getElem_cons_zero, List.getElem_cons_succ, Act.put, List.setIfInBounds_toArray, List.set_cons_zero, List.set_cons_succ])
        (refine plan_make rfl (by rfl) (fun K hK => ?_); go_simp; (refine (HMO.out _).mono ?_; rintro e w6 ⟨rfl, hbx⟩); refine hK.out _ _ hbx ?_; clear hK K; replace hBase := below_step hBase hbx)
        iterate 3 (refine plan_read rfl (by rfl) (v := ?_) ?_ ?_; rotate_left 1; (intro W hW; have hW0 := below_step hBase hW; (try dsimp only at hW); go_simp <;> with_reducible rfl); simp only [List.getElem_toArray, List.getElem_cons_zero, List.getElem_cons_succ, Act.put, List.setIfInBounds_toArray, List.set_cons_zero, List.set_cons_succ])
        refine plan_done ?_
        clear hs1 hs2 hs3 hs4
        go_wp2_with fail
        go_ret
        exact ⟨rfl, below_step HX.out.2 hBase⟩
      · have HGL : Hid ((if putT (candL b) = b then candL b else []) = candL b) := by unfold Hid; rw [if_pos (of_decide_eq_true HOK.out)]
        go_wp2_with fail
        refine (getF_ok b len A c _ HN hr hc (by omega) (Lib.hid (of_decide_eq_true HOK.out))).mono ?_
        rintro e w2 ⟨A2, n2, c2, rfl, HN2, hc2, hr2, hb⟩
        replace hr := hr.keep hb
        replace hB := below_step hB hb
        clear hb
        go_wp2_with fail
        refine (refgetT_any b len A c _ HN hr hc (by omega)).mono ?_
        rintro e w3 ⟨A3, n3, c3, rfl, HN3, hc3, hr3, hb⟩
        rw [HOK.out]
        rw [HGL.out] at HN3 hr3
        replace hr := hr.keep hb
        replace hr2 := hr2.keep hb
        replace hB := below_step hB hb
        clear hb
        have hs1 := strY (c := c2) n2 HN2 hr2
        have hs2 := strY (c := c3) n3 HN3 hr3
        have HX := Lib.hid (And.intro hr hB)
        clear hr hr2 hr3 hB
        go_upto_region 10 with fail
        have hBase := (Below.refl w3.heap.size w3).drew
        refine wp_region_plan (.step 0 false (.step 3 false (.step 1 true (.step 2 false (.step 4 true (.step 5 false (.step 6 false (.step 7 false (.step 8 false (.step 9 false (.step 10 false (.step 11 false (.step 12 false (.step 13 false (.step 14 false (.step 15 false (.step 16 false (.step 17 false (.step 18 false (.step 19 false (.step 20 false (.step 21 false (.step 22 false (.step 23 false (.step 24 false (.step 25 false (.step 26 false (.step 27 false (.step 28 false (.step 29 false (.step 30 false (.step 32 false (.step 31 true (.step 33 false (.step 34 false (.step 35 false (.nil))))))))))))))))))))))))))))))))))))) (by kernel_rfl) (by kernel_rfl) (by rfl) (by kernel_rfl) ?_
        iterate 2 (refine plan_read rfl (by rfl) (v := ?_) ?_ ?_; rotate_left 1; (intro W hW; have hW0 := below_step hBase hW; (try dsimp only at hW); go_simp <;> with_reducible rfl); simp only [List.getElem_toArray, List.getElem_cons_zero, List.getElem_cons_succ, Act.put, List.setIfInBounds_toArray, List.set_cons_zero, List.set_cons_succ])
        (refine plan_make rfl (by rfl) (fun K hK => ?_); go_simp; (refine (putF_any b len A c _ HN (HX.out.1.keep hBase) hc (by omega)).mono ?_; rintro e w4 ⟨A4, n4, c4, rfl, HN4, hc4, hr4, hbx⟩); refine hK.out _ _ hbx ?_; clear hK K; replace hBase := below_step hBase hbx)
        have hs3 := strY (c := c4) n4 HN4 hr4
        iterate 1 (refine plan_read rfl (by rfl) (v := ?_) ?_ ?_; rotate_left 1; (intro W hW; have hW0 := below_step hBase hW; (try dsimp only at hW); go_simp <;> with_reducible rfl); simp only [List.getElem_toArray, List.getElem_cons_zero, List.getElem_cons_succ, Act.put, List.setIfInBounds_toArray, List.set_cons_zero, List.set_cons_succ])
        (refine plan_make rfl (by rfl) (fun K hK => ?_); go_simp; (refine (refputT_any b len A c _ HN (HX.out.1.keep hBase) (by omega)).mono ?_; rintro e w5 ⟨A5, n5, c5, rfl, HN5, hc5, hr5, hbx⟩); refine hK.out _ _ hbx ?_; clear hK K; replace hBase := below_step hBase hbx)
        have hs4 := strY (c := c5) n5 HN5 hr5
        iterate 16 (refine plan_read rfl (by rfl) (v := ?_) ?_ ?_; rotate_left 1; (intro W hW; have hW0 := below_step hBase hW; (try dsimp only at hW); go_simp <;> with_reducible rfl); simp only [List.getElem_toArray, List.getElem_cons_zero, List.getElem_cons_succ, Act.put, List.setIfInBounds_toArray, List.set_cons_zero, List.set_cons_succ])
        iterate 6 (refine plan_skip rfl (by rfl) ?_; simp only [List.getElem_toArray, List.getElem_cons_zero, List.getElem_cons_succ, Act.put, List.setIfInBounds_toArray, List.set_cons_zero, List.set_cons_succ])
        iterate 5 (refine plan_read rfl (by rfl) (v := ?_) ?_ ?_; rotate_left 1; (intro W hW; have hW0 := below_step hBase hW; (try dsimp only at hW); go_simp <;> with_reducible rfl); simp only [List.getElem_toArray, List.getElem_cons_zero, List.getElem_cons_succ, Act.put, List.setIfInBounds_toArray, List.set_cons_zero, List.set_cons_succ])
        (refine plan_make rfl (by rfl) (fun K hK => ?_); go_simp; (refine (HMO.out _).mono ?_; rintro e w6 ⟨rfl, hbx⟩); refine hK.out _ _ hbx ?_; clear hK K; replace hBase := below_step hBase hbx)
        iterate 3 (refine plan_read rfl (by rfl) (v := ?_) ?_ ?_; rotate_left 1; (intro W hW; have hW0 := below_step hBase hW; (try dsimp only at hW); go_simp <;> with_reducible rfl); simp only [List.getElem_toArray, List.getElem_cons_zero, List.getElem_cons_succ, Act.put, List.setIfInBounds_toArray, List.set_cons_zero, List.set_cons_succ])
        refine plan_done ?_
        clear hs1 hs2 hs3 hs4
        go_wp2_with fail
        go_ret
        exact ⟨rfl, below_step HX.out.2 hBase⟩
    · clear hin
      cases ok
      · have HGL : Hid ((if putT (candL b) = b then candL b else []) = []) := by unfold Hid; rw [if_neg (of_decide_eq_false HOK.out)]
        go_wp2_with fail
        refine (getF_no b len A c _ HN hr hc (by omega) (Lib.hid (of_decide_eq_false HOK.out))).mono ?_
        rintro e w2 ⟨A2, n2, c2, rfl, HN2, hc2, hr2, hb⟩
        replace hr := hr.keep hb
        replace hB := below_step hB hb
        clear hb
        go_wp2_with fail
        refine (refgetT_any b len A c _ HN hr hc (by omega)).mono ?_
        rintro e w3 ⟨A3, n3, c3, rfl, HN3, hc3, hr3, hb⟩
        rw [HOK.out]
        rw [HGL.out] at HN3 hr3
        replace hr := hr.keep hb
        replace hr2 := hr2.keep hb
        replace hB := below_step hB hb
        clear hb
        have hs1 := strY (c := c2) n2 HN2 hr2
        have hs2 := strY (c := c3) n3 HN3 hr3
        have HX := Lib.hid (And.intro hr hB)
        clear hr hr2 hr3 hB
        go_upto_region 10 with fail
        have hBase := (Below.refl w3.heap.size w3).drew
        refine wp_region_plan (.step 0 false (.step 3 false (.step 1 true (.step 2 false (.step 4 true (.step 5 false (.step 6 false (.step 7 false (.step 8 false (.step 9 false (.step 10 false (.step 11 false (.step 12 false (.step 13 false (.step 14 false (.step 15 false (.step 16 false (.step 17 false (.step 18 false (.step 19 false (.step 20 false (.step 21 false (.step 22 false (.step 23 false (.step 24 false (.step 25 false (.step 26 false (.step 27 false (.step 28 false (.step 29 false (.step 30 false (.step 32 false (.step 31 true (.step 33 false (.step 34 false (.step 35 false (.nil))))))))))))))))))))))))))))))))))))) (by kernel_rfl) (by kernel_rfl) (by rfl) (by kernel_rfl) ?_
        iterate 2 (refine plan_read rfl (by rfl) (v := ?_) ?_ ?_; rotate_left 1; (intro W hW; have hW0 := below_step hBase hW; (try dsimp only at hW); go_simp <;> with_reducible rfl); simp only [List.getElem_toArray, List.getElem_cons_zero, List.getElem_cons_succ, Act.put, List.setIfInBounds_toArray, List.set_cons_zero, List.set_cons_succ])
        (refine plan_make rfl (by rfl) (fun K hK => ?_); go_simp; (refine (putF_any b len A c _ HN (HX.out.1.keep hBase) hc (by omega)).mono ?_; rintro e w4 ⟨A4, n4, c4, rfl, HN4, hc4, hr4, hbx⟩); refine hK.out _ _ hbx ?_; clear hK K; replace hBase := below_step hBase hbx)
        have hs3 := strY (c := c4) n4 HN4 hr4
        iterate 1 (refine plan_read rfl (by rfl) (v := ?_) ?_ ?_; rotate_left 1; (intro W hW; have hW0 := below_step hBase hW; (try dsimp only at hW); go_simp <;> with_reducible rfl); simp only [List.getElem_toArray, List.getElem_cons_zero, List.getElem_cons_succ, Act.put, List.setIfInBounds_toArray, List.set_cons_zero, List.set_cons_succ])
        (refine plan_make rfl (by rfl) (fun K hK => ?_); go_simp; (refine (refputT_any b len A c _ HN (HX.out.1.keep hBase) (by omega)).mono ?_; rintro e w5 ⟨A5, n5, c5, rfl, HN5, hc5, hr5, hbx⟩); refine hK.out _ _ hbx ?_; clear hK K; replace hBase := below_step hBase hbx)
        have hs4 := strY (c := c5) n5 HN5 hr5
        iterate 12 (refine plan_read rfl (by rfl) (v := ?_) ?_ ?_; rotate_left 1; (intro W hW; have hW0 := below_step hBase hW; (try dsimp only at hW); go_simp <;> with_reducible rfl); simp only [List.getElem_toArray, List.getElem_cons_zero, List.getElem_cons_succ, Act.put, List.setIfInBounds_toArray, List.set_cons_zero, List.set_cons_succ])
        iterate 2 (refine plan_skip rfl (by rfl) ?_; simp only [List.getElem_toArray, List.getElem_cons_zero, List.getElem_cons_succ, Act.put, List.setIfInBounds_toArray, List.set_cons_zero, List.set_cons_succ])
        iterate 13 (refine plan_read rfl (by rfl) (v := ?_) ?_ ?_; rotate_left 1; (intro W hW; have hW0 := below_step hBase hW; (try dsimp only at hW); go_simp <;> with_reducible rfl); simp only [List.getElem_toArray, List.getElem_cons_zero, List.getElem_cons_succ, Act.put, List.setIfInBounds_toArray, List.set_cons_zero, List.set_cons_succ])
        (refine plan_make rfl (by rfl) (fun K hK => ?_); go_simp; (refine (HMO.out _).mono ?_; rintro e w6 ⟨rfl, hbx⟩); refine hK.out _ _ hbx ?_; clear hK K; replace hBase := below_step hBase hbx)
        iterate 3 (refine plan_read rfl (by rfl) (v := ?_) ?_ ?_; rotate_left 1; (intro W hW; have hW0 := below_step hBase hW; (try dsimp only at hW); go_simp <;> with_reducible rfl); simp only [List.getElem_toArray, List.getElem_cons_zero, List.getElem_cons_succ, Act.put, List.setIfInBounds_toArray, List.set_cons_zero, List.set_cons_succ])
        refine plan_done ?_
        clear hs1 hs2 hs3 hs4
        go_wp2_with fail
        go_ret
        exact ⟨rfl, below_step HX.out.2 hBase⟩
      · have HGL : Hid ((if putT (candL b) = b then candL b else []) = candL b) := by unfold Hid; rw [if_pos (of_decide_eq_true HOK.out)]
        go_wp2_with fail
        refine (getF_ok b len A c _ HN hr hc (by omega) (Lib.hid (of_decide_eq_true HOK.out))).mono ?_
        rintro e w2 ⟨A2, n2, c2, rfl, HN2, hc2, hr2, hb⟩
        replace hr := hr.keep hb
        replace hB := below_step hB hb
        clear hb
        go_wp2_with fail
        refine (refgetT_any b len A c _ HN hr hc (by omega)).mono ?_
        rintro e w3 ⟨A3, n3, c3, rfl, HN3, hc3, hr3, hb⟩
        rw [HOK.out]
        rw [HGL.out] at HN3 hr3
        replace hr := hr.keep hb
        replace hr2 := hr2.keep hb
        replace hB := below_step hB hb
        clear hb
        have hs1 := strY (c := c2) n2 HN2 hr2
        have hs2 := strY (c := c3) n3 HN3 hr3
        have HX := Lib.hid (And.intro hr hB)
        clear hr hr2 hr3 hB
        go_upto_region 10 with fail
        have hBase := (Below.refl w3.heap.size w3).drew
        refine wp_region_plan (.step 0 false (.step 3 false (.step 1 true (.step 2 false (.step 4 true (.step 5 false (.step 6 false (.step 7 false (.step 8 false (.step 9 false (.step 10 false (.step 11 false (.step 12 false (.step 13 false (.step 14 false (.step 15 false (.step 16 false (.step 17 false (.step 18 false (.step 19 false (.step 20 false (.step 21 false (.step 22 false (.step 23 false (.step 24 false (.step 25 false (.step 26 false (.step 27 false (.step 28 false (.step 29 false (.step 30 false (.step 32 false (.step 31 true (.step 33 false (.step 34 false (.step 35 false (.nil))))))))))))))))))))))))))))))))))))) (by kernel_rfl) (by kernel_rfl) (by rfl) (by kernel_rfl) ?_
        iterate 2 (refine plan_read rfl (by rfl) (v := ?_) ?_ ?_; rotate_left 1; (intro W hW; have hW0 := below_step hBase hW; (try dsimp only at hW); go_simp <;> with_reducible rfl); simp only [List.getElem_toArray, List.getElem_cons_zero, List.getElem_cons_succ, Act.put, List.setIfInBounds_toArray, List.set_cons_zero, List.set_cons_succ])
        (refine plan_make rfl (by rfl) (fun K hK => ?_); go_simp; (refine (putF_any b len A c _ HN (HX.out.1.keep hBase) hc (by omega)).mono ?_; rintro e w4 ⟨A4, n4, c4, rfl, HN4, hc4, hr4, hbx⟩); refine hK.out _ _ hbx ?_; clear hK K; replace hBase := below_step hBase hbx)
        have hs3 := strY (c := c4) n4 HN4 hr4
        iterate 1 (refine plan_read rfl (by rfl) (v := ?_) ?_ ?_; rotate_left 1; (intro W hW; have hW0 := below_step hBase hW; (try dsimp only at hW); go_simp <;> with_reducible rfl); simp only [List.getElem_toArray, List.getElem_cons_zero, List.getElem_cons_succ, Act.put, List.setIfInBounds_toArray, List.set_cons_zero, List.set_cons_succ])
        (refine plan_make rfl (by rfl) (fun K hK => ?_); go_simp; (refine (refputT_any b len A c _ HN (HX.out.1.keep hBase) (by omega)).mono ?_; rintro e w5 ⟨A5, n5, c5, rfl, HN5, hc5, hr5, hbx⟩); refine hK.out _ _ hbx ?_; clear hK K; replace hBase := below_step hBase hbx)
        have hs4 := strY (c := c5) n5 HN5 hr5
        iterate 16 (refine plan_read rfl (by rfl) (v := ?_) ?_ ?_; rotate_left 1; (intro W hW; have hW0 := below_step hBase hW; (try dsimp only at hW); go_simp <;> with_reducible rfl); simp only [List.getElem_toArray, List.getElem_cons_zero, List.getElem_cons_succ, Act.put, List.setIfInBounds_toArray, List.set_cons_zero, List.set_cons_succ])
        iterate 6 (refine plan_skip rfl (by rfl) ?_; simp only [List.getElem_toArray, List.getElem_cons_zero, List.getElem_cons_succ, Act.put, List.setIfInBounds_toArray, List.set_cons_zero, List.set_cons_succ])
        iterate 5 (refine plan_read rfl (by rfl) (v := ?_) ?_ ?_; rotate_left 1; (intro W hW; have hW0 := below_step hBase hW; (try dsimp only at hW); go_simp <;> with_reducible rfl); simp only [List.getElem_toArray, List.getElem_cons_zero, List.getElem_cons_succ, Act.put, List.setIfInBounds_toArray, List.set_cons_zero, List.set_cons_succ])
        (refine plan_make rfl (by rfl) (fun K hK => ?_); go_simp; (refine (HMO.out _).mono ?_; rintro e w6 ⟨rfl, hbx⟩); refine hK.out _ _ hbx ?_; clear hK K; replace hBase := below_step hBase hbx)
        iterate 3 (refine plan_read rfl (by rfl) (v := ?_) ?_ ?_; rotate_left 1; (intro W hW; have hW0 := below_step hBase hW; (try dsimp only at hW); go_simp <;> with_reducible rfl); simp only [List.getElem_toArray, List.getElem_cons_zero, List.getElem_cons_succ, Act.put, List.setIfInBounds_toArray, List.set_cons_zero, List.set_cons_succ])
        refine plan_done ?_
        clear hs1 hs2 hs3 hs4
        go_wp2_with fail
        go_ret
        exact ⟨rfl, below_step HX.out.2 hBase⟩
end Go.Proofs.Ytaknikbnajkccaa
