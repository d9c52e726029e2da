/-
  The walk of the law PolyRight: plain forms, degrees, sums, products, values, quotients and slopes, of any polynomials, are the document's. No conditions.
-/
import Derived.Test.YtojegpoilildaaaPolyQuo
namespace Go.Proofs.Ytojegpoilildaaa
set_option maxRecDepth 100000
open Go.RowKit
set_option linter.unusedSimpArgs false
set_option linter.unusedVariables false

theorem below_of_eq {w w' : World} (h : w = w') : Below w.heap.size w w' := by
  subst h
  exact Below.refl _ _

set_option maxRecDepth 100000 in
set_option maxHeartbeats 4000000 in
theorem polyright_core (p q : List UInt8) (x : UInt8) (n m : Nat) (A B : Option Addr) (c d : Nat) (w : World) (HN : Hid (p.length = n)) (HM : Hid (q.length = m)) (hp : Rd vB w A p) (hq : Rd vB w B q) (hc : n ≤ c) (hd : m ≤ d) (hn : n ≤ 120) (hm : m ≤ 120) :
    Calls Try.prog 3 #[.slice A n c, .slice B m d, .int .u8 (x.toNat : Int)] w fun e w' => e = .returned (.bool true) ∧ Below w.heap.size w w' := by
  have g1 : decide ((120 : Int) < (n : Int)) = false := by simp; omega
  have g2 : decide ((120 : Int) < (m : Int)) = false := by simp; omega
  have n1 : ¬ 120 < n := by omega
  have n2 : ¬ 120 < m := by omega
  go_enter Try.func3, Try.ntmps3
  go_wp2_with fail
  refine (awake8_any _).mono ?_
  rintro e w1 ⟨rfl, hB⟩
  replace hp := hp.keep hB
  replace hq := hq.keep hB
  go_wp2_with fail
  clear g1 g2 n1 n2
  obtain ⟨L, hL⟩ : ∃ L, (plainL p).length = L := ⟨_, rfl⟩
  have HL := Lib.hid hL
  have hL2 : L ≤ 120 := by
    have := plain_len p
    rw [hL, HN.out] at this
    omega
  have hLw : IntKind.i64.wrap ((L : Int) - 1) = (L : Int) - 1 := by rw [IntKind.wrap_i64]; omega
  clear hL
  have HX := Lib.hid (And.intro hp (And.intro hq hB))
  have hBase : Below w1.heap.size w1 w1.drew := (Below.refl _ _).drew
  clear hp hq hB
  refine wp_region_plan (.step 0 false (.step 3 false (.step 1 true (.step 2 false (.step 4 true (.step 5 false (.step 6 false (.step 7 false (.step 8 false (.step 10 false (.step 9 true (.step 11 true (.step 12 false (.step 13 false (.step 14 false (.step 15 false (.step 16 false (.step 17 false (.step 18 false (.step 21 false (.step 22 false (.step 19 true (.step 20 false (.step 23 true (.step 24 false (.step 25 false (.step 26 false (.step 27 false (.step 28 false (.step 29 false (.step 32 false (.step 33 false (.step 30 true (.step 31 false (.step 34 true (.step 35 false (.step 36 false (.step 37 false (.nil))))))))))))))))))))))))))))))))))))))) (by kernel_rfl) (by kernel_rfl) (by rfl) (by kernel_rfl) ?_
  iterate 2 (refine plan_read rfl (by rfl) (v := ?_) ?_ ?_; rotate_left 1; (intro W hW; have hW0 := below_step hBase hW; (try dsimp only at hW); go_simp <;> with_reducible rfl); simp only [List.getElem_toArray, List.getElem_cons_zero, List.getElem_cons_succ, Act.put, List.setIfInBounds_toArray, List.set_cons_zero, List.set_cons_succ])
  (refine plan_make rfl (by rfl) (fun K hK => ?_); go_simp; (refine (plainP_any p n A c _ HN (HX.out.1.keep hBase) hc (by omega)).mono ?_; rintro e w2 ⟨A2, n2, c2, rfl, HN2, hc2, hr2, hbx⟩); refine hK.out _ _ hbx ?_; clear hK K; replace hBase := below_step hBase hbx)
  have hs1 := strQ (c := c2) n2 HN2 hr2
  iterate 1 (refine plan_read rfl (by rfl) (v := ?_) ?_ ?_; rotate_left 1; (intro W hW; have hW0 := below_step hBase hW; (try dsimp only at hW); go_simp <;> with_reducible rfl); simp only [List.getElem_toArray, List.getElem_cons_zero, List.getElem_cons_succ, Act.put, List.setIfInBounds_toArray, List.set_cons_zero, List.set_cons_succ])
  (refine plan_make rfl (by rfl) (fun K hK => ?_); go_simp; (refine (refplain_any p n A c _ HN (HX.out.1.keep hBase) hc (by omega)).mono ?_; rintro e w3 ⟨A3, n3, c3, rfl, HN3, hc3, hr3, hbx⟩); refine hK.out _ _ hbx ?_; clear hK K; replace hBase := below_step hBase hbx)
  have hs2 := strQ (c := c3) n3 HN3 hr3
  iterate 5 (refine plan_read rfl (by rfl) (v := ?_) ?_ ?_; rotate_left 1; (intro W hW; have hW0 := below_step hBase hW; (try dsimp only at hW); go_simp <;> with_reducible rfl); simp only [List.getElem_toArray, List.getElem_cons_zero, List.getElem_cons_succ, Act.put, List.setIfInBounds_toArray, List.set_cons_zero, List.set_cons_succ])
  clear hs1 hs2
  (refine plan_make rfl (by rfl) (fun K hK => ?_); go_simp; (refine (degP_any p n A c _ HN (HX.out.1.keep hBase) hc (by omega)).mono ?_; rintro e w4 ⟨rfl, hbx⟩; rw [HL.out]); refine hK.out _ _ hbx ?_; clear hK K; replace hBase := below_step hBase hbx)
  (refine plan_make rfl (by rfl) (fun K hK => ?_); go_simp; (refine (refplain_any p n A c _ HN (HX.out.1.keep hBase) hc (by omega)).mono ?_; rintro e w5 ⟨A5, n5, c5, rfl, HN5, hc5, hr5, hbx⟩; (have e5 : n5 = L := by rw [← HN5.out, HL.out]); subst e5); refine hK.out _ _ hbx ?_; clear hK K; replace hBase := below_step hBase hbx)
  iterate 9 (refine plan_read rfl (by rfl) (v := ?_) ?_ ?_; rotate_left 1; (intro W hW; have hW0 := below_step hBase hW; (try dsimp only at hW); go_simp <;> with_reducible rfl); simp only [List.getElem_toArray, List.getElem_cons_zero, List.getElem_cons_succ, Act.put, List.setIfInBounds_toArray, List.set_cons_zero, List.set_cons_succ])
  (refine plan_make rfl (by rfl) (fun K hK => ?_); go_simp; (refine (addP_any p q n m A B c d _ HN HM (HX.out.1.keep hBase) (HX.out.2.1.keep hBase) hc hd (by omega) (by omega)).mono ?_; rintro e w6 ⟨A6, n6, c6, rfl, HN6, hc6, hr6, hbx⟩); refine hK.out _ _ hbx ?_; clear hK K; replace hBase := below_step hBase hbx)
  have hs1 := strQ (c := c6) n6 HN6 hr6
  iterate 1 (refine plan_read rfl (by rfl) (v := ?_) ?_ ?_; rotate_left 1; (intro W hW; have hW0 := below_step hBase hW; (try dsimp only at hW); go_simp <;> with_reducible rfl); simp only [List.getElem_toArray, List.getElem_cons_zero, List.getElem_cons_succ, Act.put, List.setIfInBounds_toArray, List.set_cons_zero, List.set_cons_succ])
  (refine plan_make rfl (by rfl) (fun K hK => ?_); go_simp; (refine (refadd_any p q n m A B c d _ HN HM (HX.out.1.keep hBase) (HX.out.2.1.keep hBase) (by omega) (by omega)).mono ?_; rintro e w7 ⟨A7, n7, c7, rfl, HN7, hc7, hr7, hbx⟩); refine hK.out _ _ hbx ?_; clear hK K; replace hBase := below_step hBase hbx)
  have hs2 := strQ (c := c7) n7 HN7 hr7
  iterate 8 (refine plan_read rfl (by rfl) (v := ?_) ?_ ?_; rotate_left 1; (intro W hW; have hW0 := below_step hBase hW; (try dsimp only at hW); go_simp <;> with_reducible rfl); simp only [List.getElem_toArray, List.getElem_cons_zero, List.getElem_cons_succ, Act.put, List.setIfInBounds_toArray, List.set_cons_zero, List.set_cons_succ])
  clear hs1 hs2
  (refine plan_make rfl (by rfl) (fun K hK => ?_); go_simp; (refine (mulP_any p q n m A B c d _ HN HM (HX.out.1.keep hBase) (HX.out.2.1.keep hBase) hc hd (by omega) (by omega)).mono ?_; rintro e w8 ⟨A8, n8, c8, rfl, HN8, hc8, hr8, hbx⟩); refine hK.out _ _ hbx ?_; clear hK K; replace hBase := below_step hBase hbx)
  have hs1 := strQ (c := c8) n8 HN8 hr8
  iterate 1 (refine plan_read rfl (by rfl) (v := ?_) ?_ ?_; rotate_left 1; (intro W hW; have hW0 := below_step hBase hW; (try dsimp only at hW); go_simp <;> with_reducible rfl); simp only [List.getElem_toArray, List.getElem_cons_zero, List.getElem_cons_succ, Act.put, List.setIfInBounds_toArray, List.set_cons_zero, List.set_cons_succ])
  (refine plan_make rfl (by rfl) (fun K hK => ?_); go_simp; (refine (refmulP_any p q n m A B c d _ HN HM (HX.out.1.keep hBase) (HX.out.2.1.keep hBase) (by omega) (by omega)).mono ?_; rintro e w9 ⟨A9, n9, c9, rfl, HN9, hc9, hr9, hbx⟩); refine hK.out _ _ hbx ?_; clear hK K; replace hBase := below_step hBase hbx)
  have hs2 := strQ (c := c9) n9 HN9 hr9
  iterate 3 (refine plan_read rfl (by rfl) (v := ?_) ?_ ?_; rotate_left 1; (intro W hW; have hW0 := below_step hBase hW; (try dsimp only at hW); go_simp <;> with_reducible rfl); simp only [List.getElem_toArray, List.getElem_cons_zero, List.getElem_cons_succ, Act.put, List.setIfInBounds_toArray, List.set_cons_zero, List.set_cons_succ])
  refine plan_done ?_
  have HY := Lib.hid (And.intro (HX.out.1.keep hBase) (And.intro (HX.out.2.1.keep hBase) (below_step HX.out.2.2 hBase)))
  clear hs1 hs2 hBase HX hr2 hr3 hr5 hr6 hr7 hr8 hr9 hLw
  go_upto_region 7 with fail
  have hBase : Below w9.heap.size w9 w9.drew := (Below.refl _ _).drew
  refine wp_region_plan (.step 0 false (.step 1 false (.step 4 false (.step 5 false (.step 2 true (.step 3 false (.step 6 true (.step 7 false (.step 8 false (.step 9 false (.step 10 false (.step 11 false (.step 13 false (.step 14 false (.step 12 true (.step 15 true (.step 16 false (.step 17 false (.step 18 false (.step 19 false (.step 22 false (.step 20 true (.step 21 false (.step 23 true (.step 24 false (.step 25 false (.step 26 false (.nil)))))))))))))))))))))))))))) (by kernel_rfl) (by kernel_rfl) (by rfl) (by kernel_rfl) ?_
  iterate 4 (refine plan_read rfl (by rfl) (v := ?_) ?_ ?_; rotate_left 1; (intro W hW; have hW0 := below_step hBase hW; (try dsimp only at hW); go_simp <;> with_reducible rfl); simp only [List.getElem_toArray, List.getElem_cons_zero, List.getElem_cons_succ, Act.put, List.setIfInBounds_toArray, List.set_cons_zero, List.set_cons_succ])
  (refine plan_make rfl (by rfl) (fun K hK => ?_); go_simp; (refine (timesP_any x p n A c _ HN (HY.out.1.keep hBase) hc (by omega)).mono ?_; rintro e w2 ⟨A2, n2, c2, rfl, HN2, hc2, hr2, hbx⟩); refine hK.out _ _ hbx ?_; clear hK K; replace hBase := below_step hBase hbx)
  have hs1 := strQ (c := c2) n2 HN2 hr2
  iterate 1 (refine plan_read rfl (by rfl) (v := ?_) ?_ ?_; rotate_left 1; (intro W hW; have hW0 := below_step hBase hW; (try dsimp only at hW); go_simp <;> with_reducible rfl); simp only [List.getElem_toArray, List.getElem_cons_zero, List.getElem_cons_succ, Act.put, List.setIfInBounds_toArray, List.set_cons_zero, List.set_cons_succ])
  (refine plan_make rfl (by rfl) (fun K hK => ?_); go_simp; (refine (reftimes_any x p n A c _ HN (HY.out.1.keep hBase) (by omega)).mono ?_; rintro e w3 ⟨A3, n3, c3, rfl, HN3, hc3, hr3, hbx⟩); refine hK.out _ _ hbx ?_; clear hK K; replace hBase := below_step hBase hbx)
  have hs2 := strQ (c := c3) n3 HN3 hr3
  iterate 7 (refine plan_read rfl (by rfl) (v := ?_) ?_ ?_; rotate_left 1; (intro W hW; have hW0 := below_step hBase hW; (try dsimp only at hW); go_simp <;> with_reducible rfl); simp only [List.getElem_toArray, List.getElem_cons_zero, List.getElem_cons_succ, Act.put, List.setIfInBounds_toArray, List.set_cons_zero, List.set_cons_succ])
  clear hs1 hs2
  (refine plan_make rfl (by rfl) (fun K hK => ?_); go_simp; (refine (evalP_any p x n A c _ HN (HY.out.1.keep hBase) hc (by omega)).mono ?_; rintro e w4 ⟨rfl, hbx⟩); refine hK.out _ _ hbx ?_; clear hK K; replace hBase := below_step hBase hbx)
  (refine plan_make rfl (by rfl) (fun K hK => ?_); go_simp; (refine (refeval_any p x n A c _ HN (HY.out.1.keep hBase) (by omega)).mono ?_; rintro e w5 ⟨rfl, hw5⟩; have hbx := below_of_eq hw5; clear hw5); refine hK.out _ _ hbx ?_; clear hK K; replace hBase := below_step hBase hbx)
  iterate 5 (refine plan_read rfl (by rfl) (v := ?_) ?_ ?_; rotate_left 1; (intro W hW; have hW0 := below_step hBase hW; (try dsimp only at hW); go_simp <;> with_reducible rfl); simp only [List.getElem_toArray, List.getElem_cons_zero, List.getElem_cons_succ, Act.put, List.setIfInBounds_toArray, List.set_cons_zero, List.set_cons_succ])
  (refine plan_make rfl (by rfl) (fun K hK => ?_); go_simp; (refine (slopeP_any p n A c _ HN (HY.out.1.keep hBase) hc (by omega)).mono ?_; rintro e w6 ⟨A6, n6, c6, rfl, HN6, hc6, hr6, hbx⟩); refine hK.out _ _ hbx ?_; clear hK K; replace hBase := below_step hBase hbx)
  have hs1 := strQ (c := c6) n6 HN6 hr6
  iterate 1 (refine plan_read rfl (by rfl) (v := ?_) ?_ ?_; rotate_left 1; (intro W hW; have hW0 := below_step hBase hW; (try dsimp only at hW); go_simp <;> with_reducible rfl); simp only [List.getElem_toArray, List.getElem_cons_zero, List.getElem_cons_succ, Act.put, List.setIfInBounds_toArray, List.set_cons_zero, List.set_cons_succ])
  (refine plan_make rfl (by rfl) (fun K hK => ?_); go_simp; (refine (refslope_any p n A c _ HN (HY.out.1.keep hBase) (by omega)).mono ?_; rintro e w7 ⟨A7, n7, c7, rfl, HN7, hc7, hr7, hbx⟩); refine hK.out _ _ hbx ?_; clear hK K; replace hBase := below_step hBase hbx)
  have hs2 := strQ (c := c7) n7 HN7 hr7
  iterate 3 (refine plan_read rfl (by rfl) (v := ?_) ?_ ?_; rotate_left 1; (intro W hW; have hW0 := below_step hBase hW; (try dsimp only at hW); go_simp <;> with_reducible rfl); simp only [List.getElem_toArray, List.getElem_cons_zero, List.getElem_cons_succ, Act.put, List.setIfInBounds_toArray, List.set_cons_zero, List.set_cons_succ])
  refine plan_done ?_
  have hp := HY.out.1.keep hBase
  have hq := HY.out.2.1.keep hBase
  have hB := below_step HY.out.2.2 hBase
  clear hs1 hs2 hBase HY hr2 hr3 hr6 hr7
  go_upto_region 9 with fail
  go_wp2_with fail
  by_cases hz : plainL q = []
  · have HZ := Lib.hid hz
    clear hz
    refine (quoP_bad p q n m A B c d _ HN HM hp hq hc hd (by omega) (by omega) HZ).mono ?_
    rintro e w2 ⟨A2, B2, c2, d2, rfl, hb⟩
    go_wp2_with fail
    refine (refplain_any q m B d _ HM (hq.keep hb) hd (by omega)).mono ?_
    rintro e w3 ⟨A3, n3, c3, rfl, HN3, hc3, hr3, hb3⟩
    have e3 : n3 = 0 := by rw [← HN3.out, HZ.out]; rfl
    subst e3
    go_wp2_with fail
    go_ret
    exact ⟨rfl, below_step hB (below_step hb hb3)⟩
  · have HZ := Lib.hid hz
    clear hz
    refine (quoP_good p q n m A B c d _ HN HM hp hq hc hd (by omega) (by omega) HZ).mono ?_
    rintro e w2 ⟨a, r, A1, B1, na, nr, c1, d1, rfl, HNA, HNR, hca, hdr, hra, hrr, hb, HE⟩
    replace hp := hp.keep hb
    replace hq := hq.keep hb
    replace hB := below_step hB hb
    clear hb
    go_wp2_with fail
    refine (refplain_any q m B d _ HM hq hd (by omega)).mono ?_
    rintro e w3 ⟨A3, n3, c3, rfl, HN3, hc3, hr3, hb⟩
    have h3 : 0 < n3 := by rw [← HN3.out]; exact List.length_pos_iff.2 HZ.out
    have h3' : ((n3 : Int) == 0) = false := by simp; omega
    replace hp := hp.keep hb
    replace hq := hq.keep hb
    replace hra := hra.keep hb
    replace hrr := hrr.keep hb
    replace hB := below_step hB hb
    clear hb hr3
    go_wp2_with fail
    refine (refquo_any p q n m A B c d _ HN HM hp hq hc hd (by omega) (by omega) HZ.out).mono ?_
    rintro e w4 ⟨b, s, A4, B4, nb, ns, c4, d4, rfl, HNB, HNS, hcb, hds, hrb, hrs, hb, HE2⟩
    obtain ⟨e1, e2⟩ := quo_same HE2.out HE.out
    subst e1 e2
    have hs1 := strQ (c := c1) na HNA (hra.keep hb) _ (Below.refl _ _)
    have hs2 := strQ (c := c4) nb HNB hrb _ (Below.refl _ _)
    have hs3 := strQ (c := d1) nr HNR (hrr.keep hb) _ (Below.refl _ _)
    have hs4 := strQ (c := d4) ns HNS hrs _ (Below.refl _ _)
    replace hB := below_step hB hb
    clear hb hra hrr hrb hrs hp hq
    go_wp2_with fail
    go_ret
    exact ⟨rfl, hB⟩
end Go.Proofs.Ytojegpoilildaaa
