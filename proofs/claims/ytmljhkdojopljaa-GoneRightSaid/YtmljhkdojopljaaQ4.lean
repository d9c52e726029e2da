/-
  The law GoneRight, where the list has at most 300 elements and there are at most 3000 bytes: it answers true. No conditions but those typed.
-/
import Derived.Test.YtmljhkdojopljaaQ3
namespace Go.Proofs.Ytmljhkdojopljaa
set_option maxRecDepth 100000
open Go.RowKit
set_option linter.unusedSimpArgs false
set_option linter.unusedVariables false

set_option maxRecDepth 100000 in
set_option maxHeartbeats 4000000 in
theorem goneright_small (l : List Gn) (g : Gn) (b : List UInt8) (n c m d : Nat) (A B : Option Addr) (w : World) (HN : Hid (l.length = n)) (HM : Hid (b.length = m)) (hr : RdG w A l) (hs : Rd vB w B b) (HF : Hid (fitG l)) (HG : Hid (fitN g)) (hc : n ≤ c) (hd : m ≤ d) (hn : n ≤ 300) (hm : m ≤ 3000) :
    Calls Try.prog 6 #[.slice A n c, aggG g, .slice B m d] w fun e w' => e = .returned (.bool true) ∧ Below w.heap.size w w' := by
  obtain ⟨g0, hg0⟩ : ∃ x, x = g.1 := ⟨_, rfl⟩
  obtain ⟨g1, hg1⟩ : ∃ x, x = g.2 := ⟨_, rfl⟩
  have HE : Hid (g = (g0, g1)) := by unfold Hid; rw [hg0, hg1]
  obtain ⟨PL, hPL⟩ : ∃ x, x = (putG l g).1 := ⟨_, rfl⟩
  obtain ⟨PK, hPK⟩ : ∃ x, x = (putG l g).2 := ⟨_, rfl⟩
  obtain ⟨RL, hRL⟩ : ∃ x, x = (readG b).1 := ⟨_, rfl⟩
  obtain ⟨RN, hRN⟩ : ∃ x, x = (readG b).2.1 := ⟨_, rfl⟩
  obtain ⟨RK, hRK⟩ : ∃ x, x = (readG b).2.2 := ⟨_, rfl⟩
  have hpl : PL.length ≤ 64 := by rw [hPL]; exact putG_len
  have hrl : RL.length ≤ 64 := by rw [hRL]; exact readG_len.1
  have HPL := Lib.hid hpl
  have HRL := Lib.hid hrl
  have HA1 : Hid (∀ W, Below w.heap.size w W → Calls Try.prog 21 #[.slice A n c, .agg #[.int .u64 (g0 : Int), .int .u64 (g1 : Int)]] W (RetPs W PL PK)) := fun W hW => by
    have := (put15_any l g n c A W HN (hr.keep hW) HF HG (by omega) hc).mono fun e w' h => h.ps
    rw [← hPL, ← hPK] at this
    unfold aggG vNG at this
    rw [← hg0, ← hg1] at this
    exact this
  have HA2 : Hid (∀ W, Below w.heap.size w W → Calls Try.prog 22 #[.slice A n c, .agg #[.int .u64 (g0 : Int), .int .u64 (g1 : Int)]] W (RetPs W PL PK)) := fun W hW => by
    have := (refput15_any l g n c A W HN (hr.keep hW) (by omega) hc).mono fun e w' h => h.ps
    rw [← hPL, ← hPK] at this
    unfold aggG vNG at this
    rw [← hg0, ← hg1] at this
    exact this
  have HA3 : Hid (∀ W, Below w.heap.size w W → Calls Try.prog 23 #[.slice A n c] W (RetBs W (bytesR l).1 (bytesR l).2)) := fun W hW => (bytes15_any l n c A W HN (hr.keep hW) HF (by omega)).mono fun e w' h => h.bs
  have HA4 : Hid (∀ W, Below w.heap.size w W → Calls Try.prog 24 #[.slice A n c] W fun e w' => e = .returned (.bool (rightG l)) ∧ Below W.heap.size W w') := fun W hW => refright15_any l n c A W HN (hr.keep hW) (by omega)
  have HA5 : Hid (∀ W, Below w.heap.size w W → Calls Try.prog 26 #[.slice B m d] W (RetRs W RL RN RK)) := fun W hW => by
    have := (read15_any b m d B W HM (hs.keep hW) (by omega) hd).mono fun e w' h => h.rs
    rw [← hRL, ← hRN, ← hRK] at this
    exact this
  have HA6 : Hid (∀ W, Below w.heap.size w W → Calls Try.prog 27 #[.slice B m d] W (RetRs W RL RN RK)) := fun W hW => by
    have := (refread15_any b m d B W HM (hs.keep hW) (by omega) hd).mono fun e w' h => h.rs
    rw [← hRL, ← hRN, ← hRK] at this
    exact this
  have HA7 : Hid (∀ W, Below w.heap.size w W → Calls Try.prog 28 #[.slice A n c] W fun e w' => e = .returned (.bool (rightG l)) ∧ Below W.heap.size W w') := fun W hW => right15_any l n c A W HN (hr.keep hW) HF (by omega)
  have HA8 : Hid (∀ W, Below w.heap.size w W → Calls Try.prog 29 #[.slice A n c, .agg #[.int .u64 (g0 : Int), .int .u64 (g1 : Int)]] W fun e w' => e = .returned (.bool (hasG l g)) ∧ Below W.heap.size W w') := fun W hW => by
    have := has15_any l g n c A W HN (hr.keep hW) (by omega)
    unfold aggG vNG at this
    rw [← hg0, ← hg1] at this
    exact this
  have HA9 : Hid (∀ W, Below w.heap.size w W → Calls Try.prog 30 #[.slice A n c, .agg #[.int .u64 (g0 : Int), .int .u64 (g1 : Int)]] W fun e w' => e = .returned (.bool (hasG l g)) ∧ Below W.heap.size W w') := fun W hW => by
    have := refhas15_any l g n c A W HN (hr.keep hW) (by omega)
    unfold aggG vNG at this
    rw [← hg0, ← hg1] at this
    exact this
  obtain ⟨R, hR⟩ : ∃ R, rightG l = R := ⟨_, rfl⟩
  obtain ⟨HS, hHS⟩ : ∃ R, hasG l g = R := ⟨_, rfl⟩
  rw [hR] at HA4 HA7
  rw [hHS] at HA8 HA9
  unfold aggG vNG
  rw [← hg0, ← hg1]
  have HRR := Lib.hid hR
  have HRD := Lib.hid hr
  clear hg0 hg1 hPL hPK hRL hRN hRK hpl hrl hR hHS hs
  have hRw : Row (w.alloc (.cells #[.int .u64 (g0 : Int), .int .u64 (g1 : Int)] 46)) w.heap.size 46 [.int .u64 (g0 : Int), .int .u64 (g1 : Int)] := Row.new w _ _ _ rfl
  have hB0 := below_new (Below.refl _ w) (.cells #[.int .u64 (g0 : Int), .int .u64 (g1 : Int)] 46)
  have n0 : ¬ (300 : Int) < (n : Int) := by omega
  have m0 : ¬ (3000 : Int) < (m : Int) := by omega
  go_enter Try.func6, Try.ntmps6
  go_upto_region 1 with fail
  generalize w.alloc (.cells #[.int .u64 (g0 : Int), .int .u64 (g1 : Int)] 46) = w0 at hRw hB0 ⊢
  go_wp2_with fail
  refine (awake15_any _).mono ?_
  rintro e w1 ⟨rfl, hb1⟩
  replace hRw := hRw.later hb1
  replace hB0 := below_step hB0 hb1
  have c0 := hRw.cell (i := 0) rfl
  have c1 := hRw.cell (i := 1) rfl
  clear hb1
  go_wp2_with fail
  refine (HA1.out _ hB0).mono ?_
  rintro e w2 ⟨A2, n2, k2, rfl, HN2, hk2, hr2, hb2⟩
  replace hRw := hRw.later hb2
  replace hB0 := below_step hB0 hb2
  replace c0 := hRw.cell (i := 0) rfl
  replace c1 := hRw.cell (i := 1) rfl
  clear hb2
  go_wp2_with fail
  refine (HA2.out _ hB0).mono ?_
  rintro e w3 ⟨A3, n3, k3, rfl, HN3, hk3, hr3, hb3⟩
  replace hRw := hRw.later hb3
  replace hB0 := below_step hB0 hb3
  replace hr2 := hr2.keep hb3
  clear hb3 c0 c1
  go_wp2_with fail
  refine (HA3.out _ hB0).mono ?_
  rintro e w4 ⟨A4, n4, k4, rfl, HN4, hk4, hr4, hb4⟩
  replace hRw := hRw.later hb4
  replace hB0 := below_step hB0 hb4
  replace hr2 := hr2.keep hb4
  replace hr3 := hr3.keep hb4
  clear hb4
  go_wp2_with fail
  refine (HA4.out _ hB0).mono ?_
  rintro e w5 ⟨rfl, hb5⟩
  replace hRw := hRw.later hb5
  replace hB0 := below_step hB0 hb5
  replace hr2 := hr2.keep hb5
  replace hr3 := hr3.keep hb5
  replace hr4 := hr4.keep hb5
  clear hb5
  cases R with
  | true =>
    have hbr := bytesR_ok HRR.out
    rw [hbr] at hr4 HN4 ⊢
    have h64 : l.length ≤ 64 := (right_parts.1 HRR.out).2
    have HA10 : Hid (∀ W, Below w.heap.size w W → Calls Try.prog 25 #[.slice A n c] W (RetO 5 vB W (bytesG l))) := fun W hW => by
      have := refbytes15_any l c A W (HRD.out.keep hW) HF h64
      rw [HN.out] at this
      exact this
    dsimp only at hr4 HN4 ⊢
    have hs4 := strBz (c := k4) n4 HN4 hr4
    generalize bytesG l = BL at hr4 HN4 hs4 HA10
    have HR4 := Lib.hid hr4
    clear hbr h64 hr4
    go_wp2_with fail
    have hBase := (Below.refl w5.heap.size w5).drew
    refine wp_region_plan (.step 0 false (.step 1 false (.step 2 false (.step 3 false (.step 4 false (.step 5 false (.step 6 true (.step 7 false (.step 8 false (.step 9 false (.nil))))))))))) (by kernel_rfl) (by kernel_rfl) (by rfl) (by kernel_rfl) ?_
    iterate 6 (refine plan_read rfl (by rfl) (v := ?_) ?_ ?_; rotate_left 1; (intro W hW; have hW0 := below_step hBase hW; (try dsimp only at hW); go_simp <;> with_reducible rfl); simp only [List.getElem_toArray, List.getElem_cons_zero, List.getElem_cons_succ, Act.put, List.setIfInBounds_toArray, List.set_cons_zero, List.set_cons_succ])
    (refine plan_make rfl (by rfl) (fun K hK => ?_); go_simp; (refine (HA10.out _ (below_step hB0 hBase)).mono ?_; rintro e₁ w6 ⟨v6, rfl, hown6, hbx⟩); refine hK.out _ _ hbx ?_; clear hK K; replace hBase := below_step hBase hbx)
    obtain ⟨A6, k6, rfl, hk6, hr6⟩ := own_slice hown6
    have HN6 : Hid (BL.length = n4) := HN4
    rw [HN6.out]
    have hs6 := strBz (c := k6) n4 HN6 hr6
    clear hown6 hr6 hk6
    generalize strL BL = SL at hs4 hs6
    iterate 3 (refine plan_read rfl (by rfl) (v := ?_) ?_ ?_; rotate_left 1; (intro W hW; have hW0 := below_step hBase hW; (try dsimp only at hW); go_simp <;> with_reducible rfl); simp only [List.getElem_toArray, List.getElem_cons_zero, List.getElem_cons_succ, Act.put, List.setIfInBounds_toArray, List.set_cons_zero, List.set_cons_succ])
    refine plan_done ?_
    replace hRw := hRw.later hBase
    replace hr2 := hr2.keep hBase
    replace hr3 := hr3.keep hBase
    replace hB0 := below_step hB0 hBase
    clear hs4 hs6 hBase
    go_wp2_with fail
    refine (HA5.out _ hB0).mono ?_
    rintro e wa ⟨A7, n7, k7, rfl, HN7, hk7, hr7, hba⟩
    replace hRw := hRw.later hba
    replace hB0 := below_step hB0 hba
    replace hr2 := hr2.keep hba
    replace hr3 := hr3.keep hba
    clear hba
    go_wp2_with fail
    refine (HA6.out _ hB0).mono ?_
    rintro e wb ⟨A8, n8, k8, rfl, HN8, hk8, hr8, hbb⟩
    replace hRw := hRw.later hbb
    replace hB0 := below_step hB0 hbb
    replace hr2 := hr2.keep hbb
    replace hr3 := hr3.keep hbb
    replace hr7 := hr7.keep hbb
    clear hbb
    have d2 : ∀ W, Below wb.heap.size wb W → W.cell? ⟨w.heap.size, 0, none⟩ = some (.int .u64 (g0 : Int)) := fun W hW => (hRw.later hW).cell rfl
    have d3 : ∀ W, Below wb.heap.size wb W → W.cell? ⟨w.heap.size, 1, none⟩ = some (.int .u64 (g1 : Int)) := fun W hW => (hRw.later hW).cell rfl
    have HQ2 := Lib.hid hr2
    have HQ3 := Lib.hid hr3
    have HQ7 := Lib.hid hr7
    have HQ8 := Lib.hid hr8
    have HBB := Lib.hid hB0
    clear hr2 hr3 hr7 hr8 hRw hB0 n0 m0
    go_upto_region 15 with fail
    have hBase := (Below.refl wb.heap.size wb).drew
    refine wp_region_plan (.step 0 false (.step 2 false (.step 1 true (.step 3 true (.step 4 false (.step 5 false (.step 6 false (.step 7 false (.step 9 false (.step 10 false (.step 8 true (.step 11 true (.step 12 false (.step 13 false (.step 14 false (.step 15 false (.step 16 false (.step 17 true (.step 18 false (.step 19 false (.step 20 false (.step 21 false (.step 22 false (.step 23 false (.step 24 false (.step 25 false (.step 26 false (.step 27 true (.step 28 false (.step 29 false (.step 30 false (.step 31 false (.step 32 false (.step 33 false (.step 34 false (.step 35 false (.step 36 false (.step 37 false (.step 38 false (.step 39 false (.nil))))))))))))))))))))))))))))))))))))))))) (by kernel_rfl) (by kernel_rfl) (by rfl) (by kernel_rfl) ?_
    iterate 2 (refine plan_read rfl (by rfl) (v := ?_) ?_ ?_; rotate_left 1; (intro W hW; have hW0 := below_step hBase hW; (try dsimp only at hW); go_simp <;> with_reducible rfl); simp only [List.getElem_toArray, List.getElem_cons_zero, List.getElem_cons_succ, Act.put, List.setIfInBounds_toArray, List.set_cons_zero, List.set_cons_succ])
    (refine plan_make rfl (by rfl) (fun K hK => ?_); go_simp; (refine (HA7.out _ (below_step HBB.out hBase)).mono ?_; rintro e₁ wc ⟨rfl, hbx⟩); refine hK.out _ _ hbx ?_; clear hK K; replace hBase := below_step hBase hbx)
    (refine plan_make rfl (by rfl) (fun K hK => ?_); go_simp; (refine (HA4.out _ (below_step HBB.out hBase)).mono ?_; rintro e₁ wd ⟨rfl, hbx⟩); refine hK.out _ _ hbx ?_; clear hK K; replace hBase := below_step hBase hbx)
    iterate 6 (refine plan_read rfl (by rfl) (v := ?_) ?_ ?_; rotate_left 1; (intro W hW; have hW0 := below_step hBase hW; (try dsimp only at hW); go_simp <;> with_reducible rfl); simp only [List.getElem_toArray, List.getElem_cons_zero, List.getElem_cons_succ, Act.put, List.setIfInBounds_toArray, List.set_cons_zero, List.set_cons_succ])
    (refine plan_make rfl (by rfl) (fun K hK => ?_); go_simp; (refine (HA8.out _ (below_step HBB.out hBase)).mono ?_; rintro e₁ we ⟨rfl, hbx⟩); refine hK.out _ _ hbx ?_; clear hK K; replace hBase := below_step hBase hbx)
    (refine plan_make rfl (by rfl) (fun K hK => ?_); go_simp; (refine (HA9.out _ (below_step HBB.out hBase)).mono ?_; rintro e₁ wf ⟨rfl, hbx⟩); refine hK.out _ _ hbx ?_; clear hK K; replace hBase := below_step hBase hbx)
    iterate 5 (refine plan_read rfl (by rfl) (v := ?_) ?_ ?_; rotate_left 1; (intro W hW; have hW0 := below_step hBase hW; (try dsimp only at hW); go_simp <;> with_reducible rfl); simp only [List.getElem_toArray, List.getElem_cons_zero, List.getElem_cons_succ, Act.put, List.setIfInBounds_toArray, List.set_cons_zero, List.set_cons_succ])
    (refine plan_make rfl (by rfl) (fun K hK => ?_); go_simp; (refine (same15_any PL PL n2 n3 k2 k3 A2 A3 _ HN2 HN3 (HQ2.out.keep hBase) (HQ3.out.keep hBase) (by have := HPL.out; have := HN2.out; omega)).mono ?_; rw [decide_eq_true (rfl : PL = PL)]; rintro e₁ wg ⟨rfl, hbx⟩); refine hK.out _ _ hbx ?_; clear hK K; replace hBase := below_step hBase hbx)
    iterate 9 (refine plan_read rfl (by rfl) (v := ?_) ?_ ?_; rotate_left 1; (intro W hW; have hW0 := below_step hBase hW; (try dsimp only at hW); go_simp <;> with_reducible rfl); simp only [List.getElem_toArray, List.getElem_cons_zero, List.getElem_cons_succ, Act.put, List.setIfInBounds_toArray, List.set_cons_zero, List.set_cons_succ])
    (refine plan_make rfl (by rfl) (fun K hK => ?_); go_simp; (refine (same15_any RL RL n7 n8 k7 k8 A7 A8 _ HN7 HN8 (HQ7.out.keep hBase) (HQ8.out.keep hBase) (by have := HRL.out; have := HN7.out; omega)).mono ?_; rw [decide_eq_true (rfl : RL = RL)]; rintro e₁ wh ⟨rfl, hbx⟩); refine hK.out _ _ hbx ?_; clear hK K; replace hBase := below_step hBase hbx)
    iterate 12 (refine plan_read rfl (by rfl) (v := ?_) ?_ ?_; rotate_left 1; (intro W hW; have hW0 := below_step hBase hW; (try dsimp only at hW); go_simp <;> with_reducible rfl); simp only [List.getElem_toArray, List.getElem_cons_zero, List.getElem_cons_succ, Act.put, List.setIfInBounds_toArray, List.set_cons_zero, List.set_cons_succ])
    refine plan_done ?_
    go_wp2_with fail
    go_ret
    exact ⟨rfl, below_step HBB.out hBase⟩
  | false =>
    have hbr := bytesR_no HRR.out
    rw [hbr] at hr4 HN4 ⊢
    dsimp only at hr4 HN4 ⊢
    have e4 : n4 = 0 := HN4.out.symm
    subst e4
    clear hbr hr4
    go_wp2_with fail
    refine (HA5.out _ hB0).mono ?_
    rintro e wa ⟨A7, n7, k7, rfl, HN7, hk7, hr7, hba⟩
    replace hRw := hRw.later hba
    replace hB0 := below_step hB0 hba
    replace hr2 := hr2.keep hba
    replace hr3 := hr3.keep hba
    clear hba
    go_wp2_with fail
    refine (HA6.out _ hB0).mono ?_
    rintro e wb ⟨A8, n8, k8, rfl, HN8, hk8, hr8, hbb⟩
    replace hRw := hRw.later hbb
    replace hB0 := below_step hB0 hbb
    replace hr2 := hr2.keep hbb
    replace hr3 := hr3.keep hbb
    replace hr7 := hr7.keep hbb
    clear hbb
    have d2 : ∀ W, Below wb.heap.size wb W → W.cell? ⟨w.heap.size, 0, none⟩ = some (.int .u64 (g0 : Int)) := fun W hW => (hRw.later hW).cell rfl
    have d3 : ∀ W, Below wb.heap.size wb W → W.cell? ⟨w.heap.size, 1, none⟩ = some (.int .u64 (g1 : Int)) := fun W hW => (hRw.later hW).cell rfl
    have HQ2 := Lib.hid hr2
    have HQ3 := Lib.hid hr3
    have HQ7 := Lib.hid hr7
    have HQ8 := Lib.hid hr8
    have HBB := Lib.hid hB0
    clear hr2 hr3 hr7 hr8 hRw hB0 n0 m0
    go_upto_region 15 with fail
    have hBase := (Below.refl wb.heap.size wb).drew
    refine wp_region_plan (.step 0 false (.step 2 false (.step 1 true (.step 3 true (.step 4 false (.step 5 false (.step 6 false (.step 7 false (.step 9 false (.step 10 false (.step 8 true (.step 11 true (.step 12 false (.step 13 false (.step 14 false (.step 15 false (.step 16 false (.step 17 true (.step 18 false (.step 19 false (.step 20 false (.step 21 false (.step 22 false (.step 23 false (.step 24 false (.step 25 false (.step 26 false (.step 27 true (.step 28 false (.step 29 false (.step 30 false (.step 31 false (.step 32 false (.step 33 false (.step 34 false (.step 35 false (.step 36 false (.step 37 false (.step 38 false (.step 39 false (.nil))))))))))))))))))))))))))))))))))))))))) (by kernel_rfl) (by kernel_rfl) (by rfl) (by kernel_rfl) ?_
    iterate 2 (refine plan_read rfl (by rfl) (v := ?_) ?_ ?_; rotate_left 1; (intro W hW; have hW0 := below_step hBase hW; (try dsimp only at hW); go_simp <;> with_reducible rfl); simp only [List.getElem_toArray, List.getElem_cons_zero, List.getElem_cons_succ, Act.put, List.setIfInBounds_toArray, List.set_cons_zero, List.set_cons_succ])
    (refine plan_make rfl (by rfl) (fun K hK => ?_); go_simp; (refine (HA7.out _ (below_step HBB.out hBase)).mono ?_; rintro e₁ wc ⟨rfl, hbx⟩); refine hK.out _ _ hbx ?_; clear hK K; replace hBase := below_step hBase hbx)
    (refine plan_make rfl (by rfl) (fun K hK => ?_); go_simp; (refine (HA4.out _ (below_step HBB.out hBase)).mono ?_; rintro e₁ wd ⟨rfl, hbx⟩); refine hK.out _ _ hbx ?_; clear hK K; replace hBase := below_step hBase hbx)
    iterate 6 (refine plan_read rfl (by rfl) (v := ?_) ?_ ?_; rotate_left 1; (intro W hW; have hW0 := below_step hBase hW; (try dsimp only at hW); go_simp <;> with_reducible rfl); simp only [List.getElem_toArray, List.getElem_cons_zero, List.getElem_cons_succ, Act.put, List.setIfInBounds_toArray, List.set_cons_zero, List.set_cons_succ])
    (refine plan_make rfl (by rfl) (fun K hK => ?_); go_simp; (refine (HA8.out _ (below_step HBB.out hBase)).mono ?_; rintro e₁ we ⟨rfl, hbx⟩); refine hK.out _ _ hbx ?_; clear hK K; replace hBase := below_step hBase hbx)
    (refine plan_make rfl (by rfl) (fun K hK => ?_); go_simp; (refine (HA9.out _ (below_step HBB.out hBase)).mono ?_; rintro e₁ wf ⟨rfl, hbx⟩); refine hK.out _ _ hbx ?_; clear hK K; replace hBase := below_step hBase hbx)
    iterate 5 (refine plan_read rfl (by rfl) (v := ?_) ?_ ?_; rotate_left 1; (intro W hW; have hW0 := below_step hBase hW; (try dsimp only at hW); go_simp <;> with_reducible rfl); simp only [List.getElem_toArray, List.getElem_cons_zero, List.getElem_cons_succ, Act.put, List.setIfInBounds_toArray, List.set_cons_zero, List.set_cons_succ])
    (refine plan_make rfl (by rfl) (fun K hK => ?_); go_simp; (refine (same15_any PL PL n2 n3 k2 k3 A2 A3 _ HN2 HN3 (HQ2.out.keep hBase) (HQ3.out.keep hBase) (by have := HPL.out; have := HN2.out; omega)).mono ?_; rw [decide_eq_true (rfl : PL = PL)]; rintro e₁ wg ⟨rfl, hbx⟩); refine hK.out _ _ hbx ?_; clear hK K; replace hBase := below_step hBase hbx)
    iterate 9 (refine plan_read rfl (by rfl) (v := ?_) ?_ ?_; rotate_left 1; (intro W hW; have hW0 := below_step hBase hW; (try dsimp only at hW); go_simp <;> with_reducible rfl); simp only [List.getElem_toArray, List.getElem_cons_zero, List.getElem_cons_succ, Act.put, List.setIfInBounds_toArray, List.set_cons_zero, List.set_cons_succ])
    (refine plan_make rfl (by rfl) (fun K hK => ?_); go_simp; (refine (same15_any RL RL n7 n8 k7 k8 A7 A8 _ HN7 HN8 (HQ7.out.keep hBase) (HQ8.out.keep hBase) (by have := HRL.out; have := HN7.out; omega)).mono ?_; rw [decide_eq_true (rfl : RL = RL)]; rintro e₁ wh ⟨rfl, hbx⟩); refine hK.out _ _ hbx ?_; clear hK K; replace hBase := below_step hBase hbx)
    iterate 12 (refine plan_read rfl (by rfl) (v := ?_) ?_ ?_; rotate_left 1; (intro W hW; have hW0 := below_step hBase hW; (try dsimp only at hW); go_simp <;> with_reducible rfl); simp only [List.getElem_toArray, List.getElem_cons_zero, List.getElem_cons_succ, Act.put, List.setIfInBounds_toArray, List.set_cons_zero, List.set_cons_succ])
    refine plan_done ?_
    go_wp2_with fail
    go_ret
    exact ⟨rfl, below_step HBB.out hBase⟩
end Go.Proofs.Ytmljhkdojopljaa
/-
  The law GoneOnce, where the list has at most 300 elements: it answers true. No conditions but those typed.
-/
namespace Go.Proofs.Ytmljhkdojopljaa
set_option maxRecDepth 100000
open Go.RowKit
set_option linter.unusedSimpArgs false
set_option linter.unusedVariables false

theorem put15_ps (L : List Gn) (x0 x1 n c : Nat) (A : Option Addr) (W : World) (HN : Hid (L.length = n)) (hr : RdG W A L) (HF : Hid (fitG L)) (HG : Hid (x0 < 18446744073709551616 ∧ x1 < 18446744073709551616)) (hn : n ≤ 1000000000) (hc : n ≤ c) :
    Calls Try.prog 21 #[.slice A n c, .agg #[.int .u64 (x0 : Int), .int .u64 (x1 : Int)]] W (RetPs W (putG L (x0, x1)).1 (putG L (x0, x1)).2) := (put15_any L (x0, x1) n c A W HN hr HF HG hn hc).mono fun e w' h => h.ps
theorem has15_ps (L : List Gn) (x0 x1 n c : Nat) (A : Option Addr) (W : World) (HN : Hid (L.length = n)) (hr : RdG W A L) (hn : n ≤ 1000000000) :
    Calls Try.prog 29 #[.slice A n c, .agg #[.int .u64 (x0 : Int), .int .u64 (x1 : Int)]] W fun e w' => e = .returned (.bool (hasG L (x0, x1))) ∧ Below W.heap.size W w' := has15_any L (x0, x1) n c A W HN hr hn
/-- Three pairs, each in a block of its own. -/
def ThreeB (w : World) (t : TypeId) (g0 g1 h0 h1 o0 o1 : Nat) (W : World) : Prop := Row W w.heap.size t [.int .u64 (g0 : Int), .int .u64 (g1 : Int)] ∧ Row W (w.heap.size + 1) t [.int .u64 (h0 : Int), .int .u64 (h1 : Int)] ∧ Row W (w.heap.size + 2) t [.int .u64 (o0 : Int), .int .u64 (o1 : Int)] ∧ Below w.heap.size w W
theorem ThreeB.later {w : World} {t : TypeId} {g0 g1 h0 h1 o0 o1 : Nat} {W W' : World} (h : ThreeB w t g0 g1 h0 h1 o0 o1 W) (hb : Below W.heap.size W W') : ThreeB w t g0 g1 h0 h1 o0 o1 W' := ⟨h.1.later hb, h.2.1.later hb, h.2.2.1.later hb, below_step h.2.2.2 hb⟩
theorem threeB_new (w : World) (t : TypeId) (g0 g1 h0 h1 o0 o1 : Nat) : ThreeB w t g0 g1 h0 h1 o0 o1 (((w.alloc (.cells #[.int .u64 (g0 : Int), .int .u64 (g1 : Int)] t)).alloc (.cells #[.int .u64 (h0 : Int), .int .u64 (h1 : Int)] t)).alloc (.cells #[.int .u64 (o0 : Int), .int .u64 (o1 : Int)] t)) :=
  ⟨((Row.new w t _ _ rfl).alloc _).alloc _, (Row.new_at _ _ (by simp) _ _ _ rfl).alloc _, Row.new_at _ _ (by simp) _ _ _ rfl, below_new (below_new (below_new (Below.refl _ _) _) _) _⟩
/-- What is put into more, may be put into less. -/
theorem put_less {l m a : List Gn} {g h : Gn} (h1 : putG l g = (m, 0)) (h2 : putG m h = (a, 0)) : ∃ b, putG l h = (b, 0) := by
  obtain ⟨rl, rm, x1⟩ := put_ok h1
  rcases put_cases l h with ⟨hr, _⟩ | ⟨_, _, e⟩ | ⟨_, hm, h64, _⟩ | ⟨_, _, _, e⟩
  · rw [rl] at hr; cases hr
  · exact ⟨_, e⟩
  · exfalso
    have hgl : g ∈ l := by
      rcases put_cases l g with ⟨hr, _⟩ | ⟨_, hg, _⟩ | ⟨_, _, _, e⟩ | ⟨_, _, h, _⟩
      · rw [rl] at hr; cases hr
      · exact hg
      · rw [e] at h1; simp at h1
      · omega
    have hml : m = l := sort_ext (right_parts.1 rm).1 (right_parts.1 rl).1 (fun x => by
      rw [x1]
      constructor
      · rintro (h | rfl)
        · exact h
        · exact hgl
      · exact .inl)
    subst hml
    rcases put_cases m h with ⟨hr, _⟩ | ⟨_, hg, _⟩ | ⟨_, _, _, e⟩ | ⟨_, _, h, _⟩
    · rw [rl] at hr; cases hr
    · exact hm hg
    · rw [e] at h2; simp at h2
    · omega
  · exact ⟨_, e⟩
theorem has_put {l m : List Gn} {g o : Gn} (h : putG l g = (m, 0)) : hasG m o = (hasG l o || decide (o = g)) := by
  obtain ⟨_, _, hx⟩ := put_ok h
  unfold hasG
  rw [Bool.eq_iff_iff, Bool.or_eq_true, decide_eq_true_iff, decide_eq_true_iff, decide_eq_true_iff]
  exact hx o

set_option maxRecDepth 100000 in
set_option maxHeartbeats 4000000 in
theorem goneonce_small (l : List Gn) (g0 g1 h0 h1 o0 o1 : Nat) (n c : Nat) (A : Option Addr) (w : World) (HN : Hid (l.length = n)) (hr : RdG w A l) (HF : Hid (fitG l)) (HG : Hid (g0 < 18446744073709551616 ∧ g1 < 18446744073709551616)) (HH : Hid (h0 < 18446744073709551616 ∧ h1 < 18446744073709551616)) (hc : n ≤ c) (hn : n ≤ 300) :
    Calls Try.prog 7 #[.slice A n c, .agg #[.int .u64 (g0 : Int), .int .u64 (g1 : Int)], .agg #[.int .u64 (h0 : Int), .int .u64 (h1 : Int)], .agg #[.int .u64 (o0 : Int), .int .u64 (o1 : Int)]] w fun e w' => e = .returned (.bool true) ∧ Below w.heap.size w w' := by
  have hT := threeB_new w 46 g0 g1 h0 h1 o0 o1
  have n0 : ¬ (300 : Int) < (n : Int) := by omega
  go_enter Try.func7, Try.ntmps7
  go_upto_region 1 with fail
  generalize ((w.alloc (.cells #[.int .u64 (g0 : Int), .int .u64 (g1 : Int)] 46)).alloc (.cells #[.int .u64 (h0 : Int), .int .u64 (h1 : Int)] 46)).alloc (.cells #[.int .u64 (o0 : Int), .int .u64 (o1 : Int)] 46) = w0 at hT ⊢
  go_wp2_with fail
  refine (awake15_any _).mono ?_
  rintro e w1 ⟨rfl, hb1⟩
  replace hT := hT.later hb1
  have c0 := hT.1.cell (i := 0) rfl
  have c1 := hT.1.cell (i := 1) rfl
  clear hb1
  go_wp2_with fail
  refine (put15_ps l g0 g1 n c A _ HN (hr.keep hT.2.2.2) HF HG (by omega) hc).mono ?_
  rintro e w2 ⟨A2, n2, k2, rfl, HN2, hk2, hr2, hb2⟩
  replace hT := hT.later hb2
  have hrl := hr.keep hT.2.2.2
  clear hb2 c0 c1
  have hln : l.length = n := HN.out
  obtain ⟨PL, PK, hP⟩ : ∃ PL PK, putG l (g0, g1) = (PL, PK) := ⟨_, _, rfl⟩
  rw [hP] at hr2 HN2 ⊢
  dsimp only at hr2 HN2 ⊢
  have HR := Lib.hid (right15_any l n c A)
  have HT := Lib.hid hT
  have HRL := Lib.hid hrl
  by_cases hk0 : PK = 0
  · subst hk0
    have HPP := Lib.hid hP
    have hpl : PL.length ≤ 64 := by have := putG_len (l := l) (g := (g0, g1)); rw [hP] at this; exact this
    have hpf : fitG PL := by have := putG_fit (g := (g0, g1)) HF.out HG.out; rw [hP] at this; exact this
    obtain ⟨rl, rm, _⟩ := put_ok hP
    have hag := put_again hP
    have hhp := has_put (o := (o0, o1)) hP
    have hhg := has_put (o := (g0, g1)) hP
    have HPF := Lib.hid hpf
    have HPQ : Hid (n2 ≤ 64) := by have := HN2.out; unfold Hid; omega
    have HRM := Lib.hid (right15_any PL n2 k2 A2)
    rw [rm] at HRM
    have HAG := Lib.hid hag
    obtain ⟨y, hy⟩ : ∃ y, decide ((o0, o1) = (g0, g1)) = y := ⟨_, rfl⟩
    obtain ⟨x, hx⟩ : ∃ x, hasG l (o0, o1) = x := ⟨_, rfl⟩
    obtain ⟨z, hz⟩ : ∃ z, hasG PL (o0, o1) = z := ⟨_, rfl⟩
    rw [hx, hy, hz] at hhp
    have HXX := Lib.hid hx
    have HYY := Lib.hid hy
    have HZZ := Lib.hid hz
    have HHP := Lib.hid hhp
    clear hx hy hz
    have HHG : Hid (hasG PL (g0, g1) = true) := by unfold Hid; rw [hhg]; simp
    have HR2 := Lib.hid hr2
    obtain ⟨AL, AK, hA⟩ : ∃ AL AK, putG PL (h0, h1) = (AL, AK) := ⟨_, _, rfl⟩
    obtain ⟨BL, BK, hB⟩ : ∃ BL BK, putG l (h0, h1) = (BL, BK) := ⟨_, _, rfl⟩
    obtain ⟨CL, CK, hC⟩ : ∃ CL CK, putG BL (g0, g1) = (CL, CK) := ⟨_, _, rfl⟩
    have HAA := Lib.hid hA
    have HBB := Lib.hid hB
    have HCC := Lib.hid hC
    have HBL : Hid (BL.length ≤ 64) := by have := putG_len (l := l) (g := (h0, h1)); rw [hB] at this; exact this
    have HAL : Hid (AL.length ≤ 64) := by have := putG_len (l := PL) (g := (h0, h1)); rw [hA] at this; exact this
    have HBF : Hid (fitG BL) := by have := putG_fit (g := (h0, h1)) HF.out HH.out; rw [hB] at this; exact this
    have HOK : Hid (AK = 0 → BK = 0 ∧ CK = 0 ∧ CL = AL) := fun h => by
      subst h
      obtain ⟨b, hb⟩ := put_less hP hA
      rw [hB] at hb
      injection hb with e1 e2
      subst e1 e2
      have := put_either hP hA hB
      rw [hC] at this
      injection this with e3 e4
      exact ⟨rfl, e4, e3⟩
    clear hP hpl hpf rm hag hhp hhg hr2 hT hrl hln hA hB hC
    have hT := HT.out
    have c0 := hT.1.cell (i := 0) rfl
    have c1 := hT.1.cell (i := 1) rfl
    clear hT
    go_wp2_with fail
    refine (put15_ps PL g0 g1 n2 k2 A2 _ HN2 HR2.out HPF HG (by have := HPQ.out; omega) hk2).mono ?_
    rw [HAG.out]
    rintro e w3 ⟨A3, n3, k3, rfl, HN3, hk3, hr3, hb3⟩
    dsimp only at HN3 hr3 ⊢
    have HT3 := Lib.hid (HT.out.later hb3)
    have HRL3 := Lib.hid (HRL.out.keep hb3)
    have HR23 := Lib.hid (HR2.out.keep hb3)
    have HR3 := Lib.hid hr3
    clear hb3 c0 c1 hr3
    have hT := HT3.out
    have d0 : ∀ W, Below w3.heap.size w3 W → W.cell? ⟨w.heap.size, 0, none⟩ = some (.int .u64 (g0 : Int)) := fun W hW => (hT.1.later hW).cell rfl
    have d1 : ∀ W, Below w3.heap.size w3 W → W.cell? ⟨w.heap.size, 1, none⟩ = some (.int .u64 (g1 : Int)) := fun W hW => (hT.1.later hW).cell rfl
    have d2 : ∀ W, Below w3.heap.size w3 W → W.cell? ⟨w.heap.size + 2, 0, none⟩ = some (.int .u64 (o0 : Int)) := fun W hW => (hT.2.2.1.later hW).cell rfl
    have d3 : ∀ W, Below w3.heap.size w3 W → W.cell? ⟨w.heap.size + 2, 1, none⟩ = some (.int .u64 (o1 : Int)) := fun W hW => (hT.2.2.1.later hW).cell rfl
    clear hT
    go_wp2_with fail
    have hBase := (Below.refl w3.heap.size w3).drew
    refine wp_region_plan (.step 0 false (.step 1 false (.step 2 false (.step 3 false (.step 4 false (.step 5 true (.step 6 false (.step 7 false (.step 8 false (.step 9 false (.step 10 true (.step 11 false (.step 12 false (.step 13 false (.step 14 false (.step 15 false (.step 16 true (.step 17 false (.step 18 false (.step 19 false (.step 20 false (.step 21 false (.step 23 false (.step 24 false (.step 22 true (.step 25 true (.step 26 false (.step 27 false (.step 28 false (.step 29 false (.step 30 false (.step 31 false (.step 32 false (.nil)))))))))))))))))))))))))))))))))) (by kernel_rfl) (by kernel_rfl) (by rfl) (by kernel_rfl) ?_
    iterate 5 (refine plan_read rfl (by rfl) (v := ?_) ?_ ?_; rotate_left 1; (intro W hW; have hW0 := below_step hBase hW; (try dsimp only at hW); go_simp <;> with_reducible rfl); simp only [List.getElem_toArray, List.getElem_cons_zero, List.getElem_cons_succ, Act.put, List.setIfInBounds_toArray, List.set_cons_zero, List.set_cons_succ])
    (refine plan_make rfl (by rfl) (fun K hK => ?_); go_simp; (refine (same15_any PL PL n2 n3 k2 k3 A2 A3 _ HN2 HN3 (HR23.out.keep hBase) (HR3.out.keep hBase) (by have := HPQ.out; omega)).mono ?_; rw [decide_eq_true (rfl : PL = PL)]; rintro e₁ wa ⟨rfl, hbx⟩); refine hK.out _ _ hbx ?_; clear hK K; replace hBase := below_step hBase hbx)
    iterate 4 (refine plan_read rfl (by rfl) (v := ?_) ?_ ?_; rotate_left 1; (intro W hW; have hW0 := below_step hBase hW; (try dsimp only at hW); go_simp <;> with_reducible rfl); simp only [List.getElem_toArray, List.getElem_cons_zero, List.getElem_cons_succ, Act.put, List.setIfInBounds_toArray, List.set_cons_zero, List.set_cons_succ])
    (refine plan_make rfl (by rfl) (fun K hK => ?_); go_simp; (refine (HRM.out _ HN2 (HR23.out.keep hBase) HPF (by have := HPQ.out; omega)).mono ?_; rintro e₁ wb ⟨rfl, hbx⟩); refine hK.out _ _ hbx ?_; clear hK K; replace hBase := below_step hBase hbx)
    iterate 5 (refine plan_read rfl (by rfl) (v := ?_) ?_ ?_; rotate_left 1; (intro W hW; have hW0 := below_step hBase hW; (try dsimp only at hW); go_simp <;> with_reducible rfl); simp only [List.getElem_toArray, List.getElem_cons_zero, List.getElem_cons_succ, Act.put, List.setIfInBounds_toArray, List.set_cons_zero, List.set_cons_succ])
    (refine plan_make rfl (by rfl) (fun K hK => ?_); go_simp; (refine (has15_ps PL g0 g1 n2 k2 A2 _ HN2 (HR23.out.keep hBase) (by have := HPQ.out; omega)).mono ?_; rw [HHG.out]; rintro e₁ wc ⟨rfl, hbx⟩); refine hK.out _ _ hbx ?_; clear hK K; replace hBase := below_step hBase hbx)
    iterate 7 (refine plan_read rfl (by rfl) (v := ?_) ?_ ?_; rotate_left 1; (intro W hW; have hW0 := below_step hBase hW; (try dsimp only at hW); go_simp <;> with_reducible rfl); simp only [List.getElem_toArray, List.getElem_cons_zero, List.getElem_cons_succ, Act.put, List.setIfInBounds_toArray, List.set_cons_zero, List.set_cons_succ])
    (refine plan_make rfl (by rfl) (fun K hK => ?_); go_simp; (refine (has15_ps PL o0 o1 n2 k2 A2 _ HN2 (HR23.out.keep hBase) (by have := HPQ.out; omega)).mono ?_; rw [HZZ.out]; rintro e₁ wd ⟨rfl, hbx⟩); refine hK.out _ _ hbx ?_; clear hK K; replace hBase := below_step hBase hbx)
    (refine plan_make rfl (by rfl) (fun K hK => ?_); go_simp; (refine (has15_ps l o0 o1 n c A _ HN (HRL3.out.keep hBase) (by omega)).mono ?_; rw [HXX.out]; rintro e₁ we ⟨rfl, hbx⟩); refine hK.out _ _ hbx ?_; clear hK K; replace hBase := below_step hBase hbx)
    have hz2 := HHP.out
    subst hz2
    have hq := fun W => eq_gone o0 o1 g0 g1 W
    rw [HYY.out] at hq
    have hgd := fun op x y xs ys W => guard_gone op x y xs ys W
    clear HXX HYY HZZ HHP
    cases x with
    | true =>
      iterate 1 (refine plan_read rfl (by rfl) (v := ?_) ?_ ?_; rotate_left 1; (intro W hW; have hW0 := below_step hBase hW; (try dsimp only at hW); go_simp <;> with_reducible rfl); simp only [List.getElem_toArray, List.getElem_cons_zero, List.getElem_cons_succ, Act.put, List.setIfInBounds_toArray, List.set_cons_zero, List.set_cons_succ])
      iterate 3 (refine plan_skip rfl (by rfl) ?_; simp only [List.getElem_toArray, List.getElem_cons_zero, List.getElem_cons_succ, Act.put, List.setIfInBounds_toArray, List.set_cons_zero, List.set_cons_succ])
      iterate 3 (refine plan_read rfl (by rfl) (v := ?_) ?_ ?_; rotate_left 1; (intro W hW; have hW0 := below_step hBase hW; (try dsimp only at hW); go_simp <;> with_reducible rfl); simp only [List.getElem_toArray, List.getElem_cons_zero, List.getElem_cons_succ, Act.put, List.setIfInBounds_toArray, List.set_cons_zero, List.set_cons_succ])
      refine plan_done ?_
      clear hq hgd
      have HT4 := Lib.hid (HT3.out.later hBase)
      have HRL4 := Lib.hid (HRL3.out.keep hBase)
      have HR24 := Lib.hid (HR23.out.keep hBase)
      clear d0 d1 d2 d3 hBase
      have hT := HT4.out
      have c0 := hT.2.1.cell (i := 0) rfl
      have c1 := hT.2.1.cell (i := 1) rfl
      clear hT
      go_wp2_with fail
      refine (put15_ps PL h0 h1 n2 k2 A2 _ HN2 HR24.out HPF HH (by have := HPQ.out; omega) hk2).mono ?_
      rw [HAA.out]
      rintro e w5 ⟨A5, n5, k5, rfl, HN5, hk5, hr5, hb5⟩
      dsimp only at HN5 hr5 ⊢
      have HT5 := Lib.hid (HT4.out.later hb5)
      have HRL5 := Lib.hid (HRL4.out.keep hb5)
      have HR5 := Lib.hid hr5
      clear hb5 c0 c1 hr5
      have hT := HT5.out
      have c0 := hT.2.1.cell (i := 0) rfl
      have c1 := hT.2.1.cell (i := 1) rfl
      clear hT
      go_wp2_with fail
      refine (put15_ps l h0 h1 n c A _ HN HRL5.out HF HH (by omega) hc).mono ?_
      rw [HBB.out]
      rintro e w6 ⟨A6, n6, k6, rfl, HN6, hk6, hr6, hb6⟩
      dsimp only at HN6 hr6 ⊢
      have HT6 := Lib.hid (HT5.out.later hb6)
      have HR56 := Lib.hid (HR5.out.keep hb6)
      have HR6 := Lib.hid hr6
      clear hb6 c0 c1 hr6
      have hT := HT6.out
      have c0 := hT.1.cell (i := 0) rfl
      have c1 := hT.1.cell (i := 1) rfl
      clear hT
      go_wp2_with fail
      refine (put15_ps BL g0 g1 n6 k6 A6 _ HN6 HR6.out HBF HG (by have := HN6.out; have := HBL.out; omega) hk6).mono ?_
      rw [HCC.out]
      rintro e w7 ⟨A7, n7, k7, rfl, HN7, hk7, hr7, hb7⟩
      dsimp only at HN7 hr7 ⊢
      have HT7 := Lib.hid (HT6.out.later hb7)
      have HR57 := Lib.hid (HR56.out.keep hb7)
      have HR7 := Lib.hid hr7
      clear hb7 c0 c1 hr7
      by_cases ha : AK = 0
      · obtain ⟨rfl, rfl, rfl⟩ := HOK.out ha
        subst ha
        go_wp2_with fail
        refine (same15_any _ _ n5 n7 k5 k7 A5 A7 _ HN5 HN7 HR57.out HR7.out (by have := HN5.out; have := HAL.out; omega)).mono ?_
        rw [decide_eq_true rfl]
        rintro e w8 ⟨rfl, hb8⟩
        have HT8 := Lib.hid (HT7.out.later hb8)
        clear hb8
        go_wp2_with fail
        go_ret
        exact ⟨rfl, HT8.out.2.2.2⟩
      · have hb : (AK != 0) = true := by simp [ha]
        go_wp2_with fail
        go_ret
        exact ⟨rfl, HT7.out.2.2.2⟩
    | false =>
      cases y with
      | true =>
          iterate 4 (refine plan_read rfl (by rfl) (v := ?_) ?_ ?_; rotate_left 1; (intro W hW; have hW0 := below_step hBase hW; (try dsimp only at hW); go_simp <;> with_reducible rfl); simp only [List.getElem_toArray, List.getElem_cons_zero, List.getElem_cons_succ, Act.put, List.setIfInBounds_toArray, List.set_cons_zero, List.set_cons_succ])
          iterate 3 (refine plan_read rfl (by rfl) (v := ?_) ?_ ?_; rotate_left 1; (intro W hW; have hW0 := below_step hBase hW; (try dsimp only at hW); go_simp <;> with_reducible rfl); simp only [List.getElem_toArray, List.getElem_cons_zero, List.getElem_cons_succ, Act.put, List.setIfInBounds_toArray, List.set_cons_zero, List.set_cons_succ])
          refine plan_done ?_
          clear hq hgd
          have HT4 := Lib.hid (HT3.out.later hBase)
          have HRL4 := Lib.hid (HRL3.out.keep hBase)
          have HR24 := Lib.hid (HR23.out.keep hBase)
          clear d0 d1 d2 d3 hBase
          have hT := HT4.out
          have c0 := hT.2.1.cell (i := 0) rfl
          have c1 := hT.2.1.cell (i := 1) rfl
          clear hT
          go_wp2_with fail
          refine (put15_ps PL h0 h1 n2 k2 A2 _ HN2 HR24.out HPF HH (by have := HPQ.out; omega) hk2).mono ?_
          rw [HAA.out]
          rintro e w5 ⟨A5, n5, k5, rfl, HN5, hk5, hr5, hb5⟩
          dsimp only at HN5 hr5 ⊢
          have HT5 := Lib.hid (HT4.out.later hb5)
          have HRL5 := Lib.hid (HRL4.out.keep hb5)
          have HR5 := Lib.hid hr5
          clear hb5 c0 c1 hr5
          have hT := HT5.out
          have c0 := hT.2.1.cell (i := 0) rfl
          have c1 := hT.2.1.cell (i := 1) rfl
          clear hT
          go_wp2_with fail
          refine (put15_ps l h0 h1 n c A _ HN HRL5.out HF HH (by omega) hc).mono ?_
          rw [HBB.out]
          rintro e w6 ⟨A6, n6, k6, rfl, HN6, hk6, hr6, hb6⟩
          dsimp only at HN6 hr6 ⊢
          have HT6 := Lib.hid (HT5.out.later hb6)
          have HR56 := Lib.hid (HR5.out.keep hb6)
          have HR6 := Lib.hid hr6
          clear hb6 c0 c1 hr6
          have hT := HT6.out
          have c0 := hT.1.cell (i := 0) rfl
          have c1 := hT.1.cell (i := 1) rfl
          clear hT
          go_wp2_with fail
          refine (put15_ps BL g0 g1 n6 k6 A6 _ HN6 HR6.out HBF HG (by have := HN6.out; have := HBL.out; omega) hk6).mono ?_
          rw [HCC.out]
          rintro e w7 ⟨A7, n7, k7, rfl, HN7, hk7, hr7, hb7⟩
          dsimp only at HN7 hr7 ⊢
          have HT7 := Lib.hid (HT6.out.later hb7)
          have HR57 := Lib.hid (HR56.out.keep hb7)
          have HR7 := Lib.hid hr7
          clear hb7 c0 c1 hr7
          by_cases ha : AK = 0
          · obtain ⟨rfl, rfl, rfl⟩ := HOK.out ha
            subst ha
            go_wp2_with fail
            refine (same15_any _ _ n5 n7 k5 k7 A5 A7 _ HN5 HN7 HR57.out HR7.out (by have := HN5.out; have := HAL.out; omega)).mono ?_
            rw [decide_eq_true rfl]
            rintro e w8 ⟨rfl, hb8⟩
            have HT8 := Lib.hid (HT7.out.later hb8)
            clear hb8
            go_wp2_with fail
            go_ret
            exact ⟨rfl, HT8.out.2.2.2⟩
          · have hb : (AK != 0) = true := by simp [ha]
            go_wp2_with fail
            go_ret
            exact ⟨rfl, HT7.out.2.2.2⟩

      | false =>
          iterate 4 (refine plan_read rfl (by rfl) (v := ?_) ?_ ?_; rotate_left 1; (intro W hW; have hW0 := below_step hBase hW; (try dsimp only at hW); go_simp <;> with_reducible rfl); simp only [List.getElem_toArray, List.getElem_cons_zero, List.getElem_cons_succ, Act.put, List.setIfInBounds_toArray, List.set_cons_zero, List.set_cons_succ])
          iterate 3 (refine plan_read rfl (by rfl) (v := ?_) ?_ ?_; rotate_left 1; (intro W hW; have hW0 := below_step hBase hW; (try dsimp only at hW); go_simp <;> with_reducible rfl); simp only [List.getElem_toArray, List.getElem_cons_zero, List.getElem_cons_succ, Act.put, List.setIfInBounds_toArray, List.set_cons_zero, List.set_cons_succ])
          refine plan_done ?_
          clear hq hgd
          have HT4 := Lib.hid (HT3.out.later hBase)
          have HRL4 := Lib.hid (HRL3.out.keep hBase)
          have HR24 := Lib.hid (HR23.out.keep hBase)
          clear d0 d1 d2 d3 hBase
          have hT := HT4.out
          have c0 := hT.2.1.cell (i := 0) rfl
          have c1 := hT.2.1.cell (i := 1) rfl
          clear hT
          go_wp2_with fail
          refine (put15_ps PL h0 h1 n2 k2 A2 _ HN2 HR24.out HPF HH (by have := HPQ.out; omega) hk2).mono ?_
          rw [HAA.out]
          rintro e w5 ⟨A5, n5, k5, rfl, HN5, hk5, hr5, hb5⟩
          dsimp only at HN5 hr5 ⊢
          have HT5 := Lib.hid (HT4.out.later hb5)
          have HRL5 := Lib.hid (HRL4.out.keep hb5)
          have HR5 := Lib.hid hr5
          clear hb5 c0 c1 hr5
          have hT := HT5.out
          have c0 := hT.2.1.cell (i := 0) rfl
          have c1 := hT.2.1.cell (i := 1) rfl
          clear hT
          go_wp2_with fail
          refine (put15_ps l h0 h1 n c A _ HN HRL5.out HF HH (by omega) hc).mono ?_
          rw [HBB.out]
          rintro e w6 ⟨A6, n6, k6, rfl, HN6, hk6, hr6, hb6⟩
          dsimp only at HN6 hr6 ⊢
          have HT6 := Lib.hid (HT5.out.later hb6)
          have HR56 := Lib.hid (HR5.out.keep hb6)
          have HR6 := Lib.hid hr6
          clear hb6 c0 c1 hr6
          have hT := HT6.out
          have c0 := hT.1.cell (i := 0) rfl
          have c1 := hT.1.cell (i := 1) rfl
          clear hT
          go_wp2_with fail
          refine (put15_ps BL g0 g1 n6 k6 A6 _ HN6 HR6.out HBF HG (by have := HN6.out; have := HBL.out; omega) hk6).mono ?_
          rw [HCC.out]
          rintro e w7 ⟨A7, n7, k7, rfl, HN7, hk7, hr7, hb7⟩
          dsimp only at HN7 hr7 ⊢
          have HT7 := Lib.hid (HT6.out.later hb7)
          have HR57 := Lib.hid (HR56.out.keep hb7)
          have HR7 := Lib.hid hr7
          clear hb7 c0 c1 hr7
          by_cases ha : AK = 0
          · obtain ⟨rfl, rfl, rfl⟩ := HOK.out ha
            subst ha
            go_wp2_with fail
            refine (same15_any _ _ n5 n7 k5 k7 A5 A7 _ HN5 HN7 HR57.out HR7.out (by have := HN5.out; have := HAL.out; omega)).mono ?_
            rw [decide_eq_true rfl]
            rintro e w8 ⟨rfl, hb8⟩
            have HT8 := Lib.hid (HT7.out.later hb8)
            clear hb8
            go_wp2_with fail
            go_ret
            exact ⟨rfl, HT8.out.2.2.2⟩
          · have hb : (AK != 0) = true := by simp [ha]
            go_wp2_with fail
            go_ret
            exact ⟨rfl, HT7.out.2.2.2⟩

  · obtain ⟨hpe, hor⟩ := put_bad hP hk0
    subst hpe
    have e2 : n2 = 0 := HN2.out.symm
    subst e2
    rcases hor with ⟨rfl, hrt⟩ | ⟨rfl, hrt, h64, hm⟩
    · rw [hrt] at HR
      clear hrt hP hr2 hT hrl hln
      go_wp2_with fail
      refine (HR.out _ HN HRL.out HF (by omega)).mono ?_
      rintro e w3 ⟨rfl, hb3⟩
      have HT3 := Lib.hid (HT.out.later hb3)
      clear hb3
      go_wp2_with fail
      go_ret
      exact ⟨rfl, HT3.out.2.2.2⟩
    · rw [hrt] at HR
      have e64 : n = 64 := by omega
      subst e64
      have HHG : Hid (hasG l (g0, g1) = false) := by unfold Hid hasG; exact decide_eq_false hm
      clear hrt hP hr2 hT hrl hln h64 hm
      go_wp2_with fail
      refine (HR.out _ HN HRL.out HF (by omega)).mono ?_
      rintro e w3 ⟨rfl, hb3⟩
      have HT3 := Lib.hid (HT.out.later hb3)
      have HRL3 := Lib.hid (HRL.out.keep hb3)
      have hT := HT3.out
      have c0 := hT.1.cell (i := 0) rfl
      have c1 := hT.1.cell (i := 1) rfl
      clear hb3 hT
      go_wp2_with fail
      refine (has15_ps l g0 g1 64 c A _ HN HRL3.out (by omega)).mono ?_
      rw [HHG.out]
      rintro e w4 ⟨rfl, hb4⟩
      have HT4 := Lib.hid (HT3.out.later hb4)
      clear hb4 c0 c1
      go_wp2_with fail
      go_ret
      exact ⟨rfl, HT4.out.2.2.2⟩
end Go.Proofs.Ytmljhkdojopljaa
/-
  The law GoneBack, where the list has at most 300 elements and there are at most 3000 bytes: it answers true. No conditions but those typed.
-/
namespace Go.Proofs.Ytmljhkdojopljaa
set_option maxRecDepth 100000
open Go.RowKit
set_option linter.unusedSimpArgs false
set_option linter.unusedVariables false

theorem cut_lenG (y m : Nat) (hy : y < 65536) (hm : 0 < m) (hm2 : m ≤ 100000) : IntKind.i64.wrap (y : Int) = (y : Int) ∧ (y : Int).tmod (m : Int) = ((y % m : Nat) : Int) ∧ ((m : Int) == 0) = false ∧ y % m < m := by
  refine ⟨by rw [IntKind.wrap_i64]; omega, ?_, beq_eq_false_iff_ne.2 (by omega), Nat.mod_lt _ hm⟩
  rw [Int.tmod_eq_emod_of_nonneg (by omega)]
  exact (Int.natCast_emod y m).symm

set_option maxRecDepth 100000 in
set_option maxHeartbeats 4000000 in
theorem goneback_small (l : List Gn) (b : List UInt8) (y : Nat) (n c m d : Nat) (A B : Option Addr) (w : World) (HN : Hid (l.length = n)) (HM : Hid (b.length = m)) (hr : RdG w A l) (hs : Rd vB w B b) (HF : Hid (fitG l)) (hy : y < 65536) (hc : n ≤ c) (hd : m ≤ d) (hn : n ≤ 300) (hm : m ≤ 3000) :
    Calls Try.prog 8 #[.slice A n c, .slice B m d, .int .u16 (y : Int)] w fun e w' => e = .returned (.bool true) ∧ Below w.heap.size w w' := by
  obtain ⟨i0, hi, hz0, hz1, hz2⟩ := info_parts info_u8
  have n0 : ¬ (300 : Int) < (n : Int) := by omega
  have m0 : ¬ (3000 : Int) < (m : Int) := by omega
  go_enter Try.func8, Try.ntmps8
  go_wp2_with fail
  refine (awake15_any _).mono ?_
  rintro e w1 ⟨rfl, hB⟩
  have HB1 := Lib.hid hB
  clear hB
  go_wp2_with fail
  refine ((bytes15_any l n c A _ HN (hr.keep HB1.out) HF (by omega)).mono fun e w' h => h.bs).mono ?_
  rintro e w2 ⟨A2, n2, k2, rfl, HN2, hk2, hr2, hb2⟩
  have HB2 := Lib.hid (below_step HB1.out hb2)
  clear hb2
  obtain ⟨R, hR⟩ : ∃ R, rightG l = R := ⟨_, rfl⟩
  cases R with
  | true =>
    have hbr := bytesR_ok hR
    rw [hbr] at hr2 HN2 ⊢
    dsimp only at hr2 HN2 ⊢
    have hn2 : n2 = 1 + 16 * l.length := by rw [← HN2.out, bytes_length]
    have hn2p : (0 : Int) < (n2 : Int) := by omega
    have h64 : l.length ≤ 64 := (right_parts.1 hR).2
    have hrd1 : readG (bytesG l ++ b) = (l, n2, 0) := by rw [readG_bytes b hR HF.out, hn2]
    obtain ⟨q1, q2, q3, q4⟩ := cut_lenG y n2 hy (by omega) (by omega)
    obtain ⟨q, hq⟩ : ∃ q, q = y % n2 := ⟨_, rfl⟩
    rw [← hq] at q2 q4
    have hrd2 : readG ((bytesG l).take q) = ([], 0, 2) := readG_cut q hR (by rw [HN2.out]; exact q4)
    have HD1 := Lib.hid hrd1
    have HD2 := Lib.hid hrd2
    have hl2 : n2 ≤ 1025 := by omega
    generalize bytesG l = X at hr2 HN2 HD1 HD2
    have HR2 := Lib.hid hr2
    have hown0 : (w2.alloc (.cells #[] 5)).ownsRow w2.heap.size 5 1 (.slice (some ⟨w2.heap.size, 0, none⟩) 0 0) 0 [] := World.ownsRow_made w2 #[] 0 (Nat.le_refl _) (by unfold maxLen; omega) rfl
    have hbn := below_new (Below.refl _ w2) (.cells #[] 5)
    have hs2 := hs.keep HB2.out
    have hml : b.length = m := HM.out
    have HS2 := Lib.hid hs2
    clear hbr hR hr2 hrd1 hrd2 hq h64 hn2 hs2 hml
    go_wp2_with (first
      | (at_builtin; refine wpList_append_rd _ rfl (.tmp 43) (.tmp 44) 47 rfl w2.heap.size 5 i0 (.int .u8 0) 1 Try.underlying47 hi hz0 hz1 hz2 rfl _ _ _ rfl hown0 A2 X k2 (by rw [HN2.out]; rfl) (HR2.out.keep hbn) vB_one (by rw [HN2.out]; unfold maxLen; omega) (by rw [HN2.out]; omega) (by simp) ?_; intro v5 w5 hown5 hgrow5; have hb5 := hbn.grown hgrow5 (by simp) (fun j hj => (hown0.lt j hj).1))
      | (at_builtin; refine wpList_append_rd _ rfl (.tmp 45) (.tmp 46) 47 rfl w2.heap.size 5 i0 (.int .u8 0) 1 Try.underlying47 hi hz0 hz1 hz2 rfl _ _ _ rfl hown5 B b d (by rw [HM.out]; rfl) (HS2.out.keep hb5) vB_one (by rw [HN2.out, HM.out]; unfold maxLen; omega) (by rw [HN2.out, HM.out]; omega) hb5.size ?_; intro v6 w6 hown6 hgrow6; have hb6 := hb5.grown hgrow6 hb5.size (fun j hj => (hown5.lt j hj).1)))
    have hown7 : w6.ownsRow w2.heap.size 5 1 v6 (X ++ b).length ((X ++ b).map vB) := by
      rw [List.map_append, List.length_append]
      rw [Nat.zero_add, List.nil_append] at hown6
      exact hown6
    obtain ⟨A6, c6, rfl, hc6, hr6⟩ := own_slice hown7
    have HL6 : Hid ((X ++ b).length = n2 + m) := by unfold Hid; rw [List.length_append, HN2.out, HM.out]
    rw [HL6.out] at hc6 ⊢
    have HB6 := Lib.hid (below_step HB2.out hb6)
    have HR26 := Lib.hid (HR2.out.keep hb6)
    clear hown0 hown5 hown6 hown7 hgrow5 hgrow6 hb5 hb6 hbn
    refine ((read15_any (X ++ b) (n2 + m) c6 A6 _ HL6 hr6 (by omega) hc6).mono fun e w' h => h.rs).mono ?_
    rw [HD1.out]
    rintro e w7 ⟨A7, n7, k7, rfl, HN7, hk7, hr7, hb7⟩
    dsimp only at HN7 hr7 ⊢
    have HB7 := Lib.hid (below_step HB6.out hb7)
    have HR27 := Lib.hid (HR26.out.keep hb7)
    have HR7 := Lib.hid hr7
    clear hb7 hr7 hr6 hc6
    have hqk : q ≤ k2 := by omega
    have hqc := fun W => run_cut_to (P := Try.prog) 47 5 Try.underlying47 size_uint8 A2 n2 k2 q hqk W
    have hq0 : (0 : Int) ≤ (q : Int) := by omega
    have HTQ : Hid ((X.take q).length = q) := by unfold Hid; rw [List.length_take, HN2.out]; omega
    have HQK : Hid (q ≤ 1025) := by unfold Hid; omega
    go_wp2_with fail
    refine ((read15_any (X.take q) q k2 A2 _ HTQ (HR27.out.take q) (by have := HQK.out; omega) hqk).mono fun e w' h => h.rs).mono ?_
    rw [HD2.out]
    rintro e w8 ⟨A8, n8, k8, rfl, HN8, hk8, hr8, hb8⟩
    dsimp only at HN8 hr8 ⊢
    have HB8 := Lib.hid (below_step HB7.out hb8)
    have HR78 := Lib.hid (HR7.out.keep hb8)
    clear hb8 hr8 hqc
    go_wp2_with fail
    refine (same15_any l l n n7 c k7 A A7 _ HN HN7 (hr.keep HB8.out) HR78.out (by omega)).mono ?_
    rw [decide_eq_true (rfl : l = l)]
    rintro e w9 ⟨rfl, hb9⟩
    have HBT := Lib.hid (below_step HB8.out hb9)
    clear hb9
    obtain ⟨RL, RN, RK, hRD⟩ : ∃ RL RN RK, readG b = (RL, RN, RK) := ⟨_, _, _, rfl⟩
    have HRD := Lib.hid hRD
    clear hRD
    go_wp2_with fail
    refine ((read15_any b m d B _ HM (hs.keep HBT.out) (by omega) hd).mono fun e w' h => h.rs).mono ?_
    rw [HRD.out]
    rintro e wa ⟨Aa, na, ka, rfl, HNa, hka, hra, hba⟩
    dsimp only at HNa hra ⊢
    have HBa := Lib.hid (below_step HBT.out hba)
    have HRa := Lib.hid hra
    clear hba hra
    by_cases hk0 : RK = 0
    · subst hk0
      obtain ⟨g1, g2, g3, g4, g5⟩ := readG_good HRD.out
      have hna : na ≤ 64 := by have := (right_parts.1 g1).2; have := HNa.out; omega
      have hrn1 : (1 : Int) ≤ (RN : Int) := by omega
      have hrn2 : RN ≤ m := by have := HM.out; omega
      have hbr := bytesR_ok g1
      rw [g4] at hbr
      have HBR := Lib.hid hbr
      have HG5 := Lib.hid g5
      have hyl : (b.take RN).length = RN := by rw [List.length_take]; have := HM.out; omega
      have HYL := Lib.hid hyl
      have HRR := Lib.hid (right15_any RL na ka Aa)
      rw [g1] at HRR
      clear g1 g2 g3 g4 g5 hbr hyl
      go_wp2_with fail
      refine ((bytes15_any RL na ka Aa _ HNa HRa.out HG5 (by omega)).mono fun e w' h => h.bs).mono ?_
      rw [HBR.out]
      rintro e wb ⟨Ab, nb, kb, rfl, HNb, hkb, hrb, hbb⟩
      dsimp only at HNb hrb ⊢
      have HBb := Lib.hid (below_step HBa.out hbb)
      have HRa2 := Lib.hid (HRa.out.keep hbb)
      have hnb : nb = RN := HNb.out.symm.trans HYL.out
      subst hnb
      have hs1 := strBz (c := kb) nb HNb hrb
      have hs2 := strBz (c := d) nb HYL ((hs.keep HBb.out).take nb)
      generalize strL (b.take nb) = SY at hs1 hs2
      have hcut := fun W => run_cut_to (P := Try.prog) 47 5 Try.underlying47 size_uint8 B m d nb (by omega) W
      have hle : (nb : Int) ≤ (m : Int) := by omega
      clear hbb hrb
      go_wp2_with fail
      have hBase := (Below.refl wb.heap.size wb).drew
      refine wp_region_plan (.step 0 false (.step 1 false (.step 2 false (.step 3 false (.step 4 true (.step 5 false (.step 6 false (.step 7 false (.step 8 false (.step 9 false (.step 10 false (.step 11 false (.step 12 false (.step 13 false (.step 14 false (.step 15 false (.step 16 false (.step 17 false (.step 18 false (.step 19 false (.step 20 false (.step 21 false (.step 22 false (.step 23 false (.step 24 false (.step 25 false (.nil))))))))))))))))))))))))))) (by kernel_rfl) (by kernel_rfl) (by rfl) (by kernel_rfl) ?_
      iterate 4 (refine plan_read rfl (by rfl) (v := ?_) ?_ ?_; rotate_left 1; (intro W hW; have hW0 := below_step hBase hW; (try dsimp only at hW); go_simp <;> with_reducible rfl); simp only [List.getElem_toArray, List.getElem_cons_zero, List.getElem_cons_succ, Act.put, List.setIfInBounds_toArray, List.set_cons_zero, List.set_cons_succ])
      (refine plan_make rfl (by rfl) (fun K hK => ?_); go_simp; (refine (HRR.out _ HNa (HRa2.out.keep hBase) HG5 (by omega)).mono ?_; rintro e₁ wc ⟨rfl, hbx⟩); refine hK.out _ _ hbx ?_; clear hK K; replace hBase := below_step hBase hbx)
      iterate 21 (refine plan_read rfl (by rfl) (v := ?_) ?_ ?_; rotate_left 1; (intro W hW; have hW0 := below_step hBase hW; (try dsimp only at hW); go_simp <;> with_reducible rfl); simp only [List.getElem_toArray, List.getElem_cons_zero, List.getElem_cons_succ, Act.put, List.setIfInBounds_toArray, List.set_cons_zero, List.set_cons_succ])
      refine plan_done ?_
      have HBc := Lib.hid (below_step HBb.out hBase)
      clear hs1 hs2 hcut
      go_wp2_with fail
      go_ret
      exact ⟨rfl, HBc.out⟩
    · obtain ⟨rfl, rfl⟩ := readG_bad HRD.out hk0
      have e0 : na = 0 := HNa.out.symm
      subst e0
      have hkn : (RK != 0) = true := by simp [hk0]
      go_wp2_with fail
      go_ret
      exact ⟨rfl, HBa.out⟩
  | false =>
    have hbr := bytesR_no hR
    rw [hbr] at hr2 HN2 ⊢
    dsimp only at hr2 HN2 ⊢
    have HRR0 := Lib.hid (right15_any l n c A)
    rw [hR] at HRR0
    clear hbr hR hr2
    go_wp2_with fail
    refine (HRR0.out _ HN (hr.keep HB2.out) HF (by omega)).mono ?_
    rintro e w9 ⟨rfl, hb9⟩
    have HBT := Lib.hid (below_step HB2.out hb9)
    clear hb9
    obtain ⟨RL, RN, RK, hRD⟩ : ∃ RL RN RK, readG b = (RL, RN, RK) := ⟨_, _, _, rfl⟩
    have HRD := Lib.hid hRD
    clear hRD
    go_wp2_with fail
    refine ((read15_any b m d B _ HM (hs.keep HBT.out) (by omega) hd).mono fun e w' h => h.rs).mono ?_
    rw [HRD.out]
    rintro e wa ⟨Aa, na, ka, rfl, HNa, hka, hra, hba⟩
    dsimp only at HNa hra ⊢
    have HBa := Lib.hid (below_step HBT.out hba)
    have HRa := Lib.hid hra
    clear hba hra
    by_cases hk0 : RK = 0
    · subst hk0
      obtain ⟨g1, g2, g3, g4, g5⟩ := readG_good HRD.out
      have hna : na ≤ 64 := by have := (right_parts.1 g1).2; have := HNa.out; omega
      have hrn1 : (1 : Int) ≤ (RN : Int) := by omega
      have hrn2 : RN ≤ m := by have := HM.out; omega
      have hbr := bytesR_ok g1
      rw [g4] at hbr
      have HBR := Lib.hid hbr
      have HG5 := Lib.hid g5
      have hyl : (b.take RN).length = RN := by rw [List.length_take]; have := HM.out; omega
      have HYL := Lib.hid hyl
      have HRR := Lib.hid (right15_any RL na ka Aa)
      rw [g1] at HRR
      clear g1 g2 g3 g4 g5 hbr hyl
      go_wp2_with fail
      refine ((bytes15_any RL na ka Aa _ HNa HRa.out HG5 (by omega)).mono fun e w' h => h.bs).mono ?_
      rw [HBR.out]
      rintro e wb ⟨Ab, nb, kb, rfl, HNb, hkb, hrb, hbb⟩
      dsimp only at HNb hrb ⊢
      have HBb := Lib.hid (below_step HBa.out hbb)
      have HRa2 := Lib.hid (HRa.out.keep hbb)
      have hnb : nb = RN := HNb.out.symm.trans HYL.out
      subst hnb
      have hs1 := strBz (c := kb) nb HNb hrb
      have hs2 := strBz (c := d) nb HYL ((hs.keep HBb.out).take nb)
      generalize strL (b.take nb) = SY at hs1 hs2
      have hcut := fun W => run_cut_to (P := Try.prog) 47 5 Try.underlying47 size_uint8 B m d nb (by omega) W
      have hle : (nb : Int) ≤ (m : Int) := by omega
      clear hbb hrb
      go_wp2_with fail
      have hBase := (Below.refl wb.heap.size wb).drew
      refine wp_region_plan (.step 0 false (.step 1 false (.step 2 false (.step 3 false (.step 4 true (.step 5 false (.step 6 false (.step 7 false (.step 8 false (.step 9 false (.step 10 false (.step 11 false (.step 12 false (.step 13 false (.step 14 false (.step 15 false (.step 16 false (.step 17 false (.step 18 false (.step 19 false (.step 20 false (.step 21 false (.step 22 false (.step 23 false (.step 24 false (.step 25 false (.nil))))))))))))))))))))))))))) (by kernel_rfl) (by kernel_rfl) (by rfl) (by kernel_rfl) ?_
      iterate 4 (refine plan_read rfl (by rfl) (v := ?_) ?_ ?_; rotate_left 1; (intro W hW; have hW0 := below_step hBase hW; (try dsimp only at hW); go_simp <;> with_reducible rfl); simp only [List.getElem_toArray, List.getElem_cons_zero, List.getElem_cons_succ, Act.put, List.setIfInBounds_toArray, List.set_cons_zero, List.set_cons_succ])
      (refine plan_make rfl (by rfl) (fun K hK => ?_); go_simp; (refine (HRR.out _ HNa (HRa2.out.keep hBase) HG5 (by omega)).mono ?_; rintro e₁ wc ⟨rfl, hbx⟩); refine hK.out _ _ hbx ?_; clear hK K; replace hBase := below_step hBase hbx)
      iterate 21 (refine plan_read rfl (by rfl) (v := ?_) ?_ ?_; rotate_left 1; (intro W hW; have hW0 := below_step hBase hW; (try dsimp only at hW); go_simp <;> with_reducible rfl); simp only [List.getElem_toArray, List.getElem_cons_zero, List.getElem_cons_succ, Act.put, List.setIfInBounds_toArray, List.set_cons_zero, List.set_cons_succ])
      refine plan_done ?_
      have HBc := Lib.hid (below_step HBb.out hBase)
      clear hs1 hs2 hcut
      go_wp2_with fail
      go_ret
      exact ⟨rfl, HBc.out⟩
    · obtain ⟨rfl, rfl⟩ := readG_bad HRD.out hk0
      have e0 : na = 0 := HNa.out.symm
      subst e0
      have hkn : (RK != 0) = true := by simp [hk0]
      go_wp2_with fail
      go_ret
      exact ⟨rfl, HBa.out⟩
end Go.Proofs.Ytmljhkdojopljaa
/-
  The laws GoneRight, GoneOnce and GoneBack, at whatever comes in: each answers true, and writes nothing that was there. No conditions.
-/
namespace Go.Proofs.Ytmljhkdojopljaa
set_option maxRecDepth 100000
open Go.RowKit Go.Deep Go.WideShapes Go.ChangeShapes
set_option linter.unusedSimpArgs false
set_option linter.unusedVariables false

section
variable {H : Type} {enc : TypeId × Value → H} {W : World} {base b1 : Nat} {spare : Nat → Bool} {held : Bool} {r : Reach} {v : Value} {d : DataW H} {p : List MemPlace}
theorem open_u16 (hv : Value.okWide Try.prog W r base 64 v) (ht : DataW.Trod enc Try.prog W b1 spare held 64 v d p) : ∃ y : Nat, v = .int .u16 (y : Int) ∧ y < 65536 := by
  obtain ⟨n, rfl⟩ := okWide_int Try.underlying64 hv
  obtain ⟨fuel, hf⟩ := ht
  obtain ⟨m, e, _, hw⟩ := DataW.trod_int Try.underlying64 hf
  simp [Value.cells] at e
  simp [Lit.wf, IntKind.min, IntKind.max, IntKind.signed, IntKind.bits] at hw
  exact ⟨n.toNat, by congr 1; omega, by omega⟩
end

set_option maxRecDepth 100000 in
theorem goneright_big (n m : Nat) (A B : Option Addr) (c d : Nat) (g : Gn) (w : World) (h : ¬ (n ≤ 300 ∧ m ≤ 3000)) (hn : n ≤ 9223372036854775807) (hm : m ≤ 9223372036854775807) :
    Calls Try.prog 6 #[.slice A n c, aggG g, .slice B m d] w fun e w' => e = .returned (.bool true) ∧ Below w.heap.size w w' := by
  have hB := below_new (Below.refl _ w) (.cells #[vNG g.1, vNG g.2] 46)
  unfold aggG
  unfold vNG at hB ⊢
  go_enter Try.func6, Try.ntmps6
  go_upto_region 1 with fail
  generalize w.alloc (.cells #[.int .u64 (g.1 : Int), .int .u64 (g.2 : Int)] 46) = w0 at hB ⊢
  go_wp2_with fail
  refine (awake15_any _).mono ?_
  rintro e₁ w1 ⟨rfl, hb⟩
  replace hB := below_step hB hb
  clear hb
  by_cases h1 : n ≤ 300
  · have g1 : ¬ (300 : Int) < (n : Int) := by omega
    have g2 : (3000 : Int) < (m : Int) := by omega
    clear h
    go_wp2_with fail
    go_ret
    exact ⟨rfl, hB⟩
  · have g1 : (300 : Int) < (n : Int) := by omega
    clear h
    go_wp2_with fail
    go_ret
    exact ⟨rfl, hB⟩
theorem goneright_any (v0 v1 v2 : Value) (W : World) {H : Type} {enc : TypeId × Value → H} {base : Nat} {d0 d1 d2 : DataW H} {p0 p1 p2 : List MemPlace}
    (hv0 : Value.okWide Try.prog W .any base 44 v0) (ht0 : DataW.Trod enc Try.prog W 0 (fun _ => true) true 44 v0 d0 p0) (hv1 : Value.okWide Try.prog W .any base 46 v1) (ht1 : DataW.Trod enc Try.prog W 0 (fun _ => true) true 46 v1 d1 p1) (hv2 : Value.okWide Try.prog W .any base 47 v2) (ht2 : DataW.Trod enc Try.prog W 0 (fun _ => true) true 47 v2 d2 p2) :
    Calls Try.prog 6 #[v0, v1, v2] W fun e w' => e = .returned (.bool true) ∧ Below W.heap.size W w' := by
  obtain ⟨l, A, c, rfl, hc, hcm, hr, hf⟩ := open_gones hv0 ht0
  obtain ⟨g, rfl, hg⟩ := open_gone hv1 ht1
  obtain ⟨b, B, d, rfl, hd, hdm, hs⟩ := open_bytes hv2 ht2
  by_cases h : l.length ≤ 300 ∧ b.length ≤ 3000
  · exact goneright_small l g b _ c _ d A B W (Lib.hid rfl) (Lib.hid rfl) hr hs hf hg hc hd h.1 h.2
  · exact goneright_big _ _ A B c d g W h (by omega) (by omega)

set_option maxRecDepth 100000 in
theorem goneonce_big (n : Nat) (A : Option Addr) (c : Nat) (g0 g1 h0 h1 o0 o1 : Nat) (w : World) (h : ¬ n ≤ 300) (hn : n ≤ 9223372036854775807) :
    Calls Try.prog 7 #[.slice A n c, .agg #[.int .u64 (g0 : Int), .int .u64 (g1 : Int)], .agg #[.int .u64 (h0 : Int), .int .u64 (h1 : Int)], .agg #[.int .u64 (o0 : Int), .int .u64 (o1 : Int)]] w fun e w' => e = .returned (.bool true) ∧ Below w.heap.size w w' := by
  have hT := threeB_new w 46 g0 g1 h0 h1 o0 o1
  have n0 : (300 : Int) < (n : Int) := by omega
  go_enter Try.func7, Try.ntmps7
  go_upto_region 1 with fail
  generalize ((w.alloc (.cells #[.int .u64 (g0 : Int), .int .u64 (g1 : Int)] 46)).alloc (.cells #[.int .u64 (h0 : Int), .int .u64 (h1 : Int)] 46)).alloc (.cells #[.int .u64 (o0 : Int), .int .u64 (o1 : Int)] 46) = w0 at hT ⊢
  go_wp2_with fail
  refine (awake15_any _).mono ?_
  rintro e w1 ⟨rfl, hb1⟩
  have hB := (hT.later hb1).2.2.2
  clear hb1
  go_wp2_with fail
  go_ret
  exact ⟨rfl, hB⟩
theorem goneonce_any (v0 v1 v2 v3 : Value) (W : World) {H : Type} {enc : TypeId × Value → H} {base : Nat} {d0 d1 d2 d3 : DataW H} {p0 p1 p2 p3 : List MemPlace}
    (hv0 : Value.okWide Try.prog W .any base 44 v0) (ht0 : DataW.Trod enc Try.prog W 0 (fun _ => true) true 44 v0 d0 p0) (hv1 : Value.okWide Try.prog W .any base 46 v1) (ht1 : DataW.Trod enc Try.prog W 0 (fun _ => true) true 46 v1 d1 p1) (hv2 : Value.okWide Try.prog W .any base 46 v2) (ht2 : DataW.Trod enc Try.prog W 0 (fun _ => true) true 46 v2 d2 p2) (hv3 : Value.okWide Try.prog W .any base 46 v3) (ht3 : DataW.Trod enc Try.prog W 0 (fun _ => true) true 46 v3 d3 p3) :
    Calls Try.prog 7 #[v0, v1, v2, v3] W fun e w' => e = .returned (.bool true) ∧ Below W.heap.size W w' := by
  obtain ⟨l, A, c, rfl, hc, hcm, hr, hf⟩ := open_gones hv0 ht0
  obtain ⟨g, rfl, hg⟩ := open_gone hv1 ht1
  obtain ⟨x, rfl, hx⟩ := open_gone hv2 ht2
  obtain ⟨o, rfl, ho⟩ := open_gone hv3 ht3
  by_cases h : l.length ≤ 300
  · exact goneonce_small l g.1 g.2 x.1 x.2 o.1 o.2 _ c A W (Lib.hid rfl) hr hf hg hx hc h
  · exact goneonce_big _ A c g.1 g.2 x.1 x.2 o.1 o.2 W h (by omega)

set_option maxRecDepth 100000 in
theorem goneback_big (n m : Nat) (A B : Option Addr) (c d y : Nat) (w : World) (h : ¬ (n ≤ 300 ∧ m ≤ 3000)) (hn : n ≤ 9223372036854775807) (hm : m ≤ 9223372036854775807) :
    Calls Try.prog 8 #[.slice A n c, .slice B m d, .int .u16 (y : Int)] w fun e w' => e = .returned (.bool true) ∧ Below w.heap.size w w' := by
  go_enter Try.func8, Try.ntmps8
  go_wp2_with fail
  refine (awake15_any _).mono ?_
  rintro e₁ w1 ⟨rfl, hB⟩
  by_cases h1 : n ≤ 300
  · have g1 : ¬ (300 : Int) < (n : Int) := by omega
    have g2 : (3000 : Int) < (m : Int) := by omega
    clear h
    go_wp2_with fail
    go_ret
    exact ⟨rfl, hB⟩
  · have g1 : (300 : Int) < (n : Int) := by omega
    clear h
    go_wp2_with fail
    go_ret
    exact ⟨rfl, hB⟩
theorem goneback_any (v0 v1 v2 : Value) (W : World) {H : Type} {enc : TypeId × Value → H} {base : Nat} {d0 d1 d2 : DataW H} {p0 p1 p2 : List MemPlace}
    (hv0 : Value.okWide Try.prog W .any base 44 v0) (ht0 : DataW.Trod enc Try.prog W 0 (fun _ => true) true 44 v0 d0 p0) (hv1 : Value.okWide Try.prog W .any base 47 v1) (ht1 : DataW.Trod enc Try.prog W 0 (fun _ => true) true 47 v1 d1 p1) (hv2 : Value.okWide Try.prog W .any base 64 v2) (ht2 : DataW.Trod enc Try.prog W 0 (fun _ => true) true 64 v2 d2 p2) :
    Calls Try.prog 8 #[v0, v1, v2] W fun e w' => e = .returned (.bool true) ∧ Below W.heap.size W w' := by
  obtain ⟨l, A, c, rfl, hc, hcm, hr, hf⟩ := open_gones hv0 ht0
  obtain ⟨b, B, d, rfl, hd, hdm, hs⟩ := open_bytes hv1 ht1
  obtain ⟨y, rfl, hy⟩ := open_u16 hv2 ht2
  by_cases h : l.length ≤ 300 ∧ b.length ≤ 3000
  · exact goneback_small l b y _ c _ d A B W (Lib.hid rfl) (Lib.hid rfl) hr hs hf hy hc hd h.1 h.2
  · exact goneback_big _ _ A B c d y W h (by omega) (by omega)
end Go.Proofs.Ytmljhkdojopljaa
