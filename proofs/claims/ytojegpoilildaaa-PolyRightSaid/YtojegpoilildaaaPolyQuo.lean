/-
  The walk of the law PolyQuo: what is divided is so often the divisor, and what is left, whose degree is below the divisor's; a product is divided without anything left. No conditions.
-/
import Derived.Test.YtojegpoilildaaaPolyAwake
import Derived.Test.YtojegpoilildaaaStr
namespace Go.Proofs.Ytojegpoilildaaa
set_option maxRecDepth 100000
open Go.RowKit
set_option linter.unusedSimpArgs false
set_option linter.unusedVariables false

theorem strQ (n : Nat) {w : World} {A : Option Addr} {l : List UInt8} {c : Nat} (H : Hid (l.length = n)) (h : Rd vB w A l) : ∀ W, Below w.heap.size w W → (convert 22 9 (.slice A n c)).run Try.prog W = .ok (.string (strL l)) W :=
  fun W hW => run_str W _ _ _ Try.underlying22 Try.underlying5 Try.underlying9 A l n c H.out (h.keep hW)
theorem quo_of_mul (p q : List UInt8) (hq : plainL q ≠ []) : IsQuo (plainL (mulL p q)) q (plainL p) [] ∧ plainL (plainL p) = plainL p ∧ plainL [] = [] := by
  refine ⟨⟨?_, ?_⟩, plain_plain p, rfl⟩
  · exact ((addL_nil _).trans (mul_congr (plain_eqv p) (Eqv.refl q))).trans (plain_eqv _).symm
  · exact List.length_pos_iff.2 hq
theorem quo_back {p q a r : List UInt8} (h : IsQuo p q a r) : plainL (addL (plainL (mulL a q)) r) = plainL p := plain_congr ((add_congr (plain_eqv _) (Eqv.refl r)).trans h.1)

theorem quo_len {p q a r : List UInt8} (h : IsQuo p q a r ∧ plainL a = a ∧ plainL r = r) : a.length ≤ p.length ∧ r.length ≤ q.length := by
  obtain ⟨⟨h1, h2⟩, h3, h4⟩ := h
  have hq := plain_len q
  have hp := plain_len p
  rw [h4] at h2
  refine ⟨?_, by omega⟩
  by_cases ha : a = []
  · rw [ha]
    exact Nat.zero_le _
  · have hqn : plainL q ≠ [] := by
      intro e
      rw [e] at h2
      simp at h2
    have e1 : Eqv (mulL a q) (addL p r) := by
      have e0 : Eqv (addL (mulL a q) (addL r p)) [] := (addL_assoc _ _ _).symm.trans ((add_congr h1 (Eqv.refl p)).trans (addL_self p))
      exact (add_cancel e0).trans (addL_comm r p)
    have e2 := mul_plain_len a q (by rw [h3]; exact ha) hqn
    rw [plain_congr e1, h3] at e2
    have e3 := plain_add_len p r
    rw [h4] at e3
    have e4 : 0 < a.length := List.length_pos_iff.2 ha
    omega
set_option maxRecDepth 100000 in
set_option maxHeartbeats 2000000 in
theorem polyquo_core (p q : List UInt8) (n m : Nat) (A B : Option Addr) (c d : Nat) (w : World) (HN : Hid (p.length = n)) (HM : Hid (q.length = m)) (hp : Rd vB w A p) (hq : Rd vB w B q) (hc : n ≤ c) (hd : m ≤ d) (hn : n ≤ 120) (hm : m ≤ 120) :
    Calls Try.prog 4 #[.slice A n c, .slice B m d] w fun e w' => e = .returned (.bool true) ∧ Below w.heap.size w w' := by
  have g1 : decide ((120 : Int) < (n : Int)) = false := by simp; omega
  have g2 : decide ((120 : Int) < (m : Int)) = false := by simp; omega
  have n1 : ¬ 120 < n := by omega
  have n2 : ¬ 120 < m := by omega
  go_enter Try.func4, Try.ntmps4
  go_wp2_with fail
  refine (awake8_any _).mono ?_
  rintro e w1 ⟨rfl, hB⟩
  replace hp := hp.keep hB
  replace hq := hq.keep hB
  go_wp2_with fail
  clear g1 g2 n1 n2
  by_cases hz : plainL q = []
  · have HZ := Lib.hid hz
    clear hz
    refine (quoP_bad p q n m A B c d _ HN HM hp hq hc hd (by omega) (by omega) HZ).mono ?_
    rintro e w2 ⟨A2, B2, c2, d2, rfl, hb⟩
    go_wp2_with fail
    refine (degP_any q m B d _ HM (hq.keep hb) hd (by omega)).mono ?_
    rintro e w3 ⟨rfl, hb3⟩
    rw [HZ.out]
    go_wp2_with fail
    go_ret
    exact ⟨rfl, below_step hB (below_step hb hb3)⟩
  · have HZ := Lib.hid hz
    have hmq := quo_of_mul p q hz
    have HMQ := Lib.hid hmq
    clear hz hmq
    refine (quoP_good p q n m A B c d _ HN HM hp hq hc hd (by omega) (by omega) HZ).mono ?_
    rintro e w2 ⟨a, r, A1, B1, na, nr, c1, d1, rfl, HNA, HNR, hca, hdr, hra, hrr, hb, HE⟩
    replace hp := hp.keep hb
    replace hq := hq.keep hb
    replace hB := below_step hB hb
    clear hb
    go_wp2_with fail
    refine (mulP_any p q n m A B c d _ HN HM hp hq hc hd (by omega) (by omega)).mono ?_
    rintro e w3 ⟨A2, n2, c2, rfl, HN2, hc2, hr2, hb⟩
    have hn2 : n2 ≤ 240 := by
      have h1 := plain_len (mulL p q)
      have h2 := mulL_length_le p q
      rw [HN2.out] at h1
      rw [HN.out, HM.out] at h2
      omega
    replace hp := hp.keep hb
    replace hq := hq.keep hb
    replace hra := hra.keep hb
    replace hrr := hrr.keep hb
    replace hB := below_step hB hb
    clear hb
    go_wp2_with fail
    refine (quoP_good (plainL (mulL p q)) q n2 m A2 B c2 d _ HN2 HM hr2 hq hc2 hd (by omega) (by omega) HZ).mono ?_
    rintro e w4 ⟨b, s, A3, B3, nb, ns, c3, d3, rfl, HNB, HNS, hcb, hds, hrb, hrs, hb, HE2⟩
    obtain ⟨e1, e2⟩ := quo_same HE2.out HMQ.out
    subst e1 e2
    have es : ns = 0 := HNS.out.symm
    subst es
    replace hp := hp.keep hb
    replace hq := hq.keep hb
    replace hra := hra.keep hb
    replace hrr := hrr.keep hb
    replace hB := below_step hB hb
    clear hb hr2 hrs HE2 HMQ
    obtain ⟨P0, hP0⟩ : ∃ P0, P0 = plainL p := ⟨_, rfl⟩
    have HP0 := Lib.hid hP0
    rw [← hP0] at HNB hrb
    have HBK : Hid (plainL (addL (plainL (mulL a q)) r) = P0) := by rw [hP0]; exact quo_back HE.out.1
    have HDG : Hid (((plainL r).length : Int) - 1 < ((plainL q).length : Int) - 1) := by have := HE.out.1.2; unfold Hid; omega
    have hql := quo_len HE.out
    rw [HNA.out, HNR.out, HN.out, HM.out] at hql
    have hna : na ≤ 200 := by omega
    have hnr : nr ≤ 200 := by omega
    clear hql
    obtain ⟨dr, hdr'⟩ : ∃ dr, ((plainL r).length : Int) - 1 = dr := ⟨_, rfl⟩
    obtain ⟨dq, hdq'⟩ : ∃ dq, ((plainL q).length : Int) - 1 = dq := ⟨_, rfl⟩
    have HDR := Lib.hid hdr'
    have HDQ := Lib.hid hdq'
    have hdd : dr < dq := by rw [← hdr', ← hdq']; exact HDG.out
    clear hP0 hdr' hdq' HDG
    have hs1 := strQ (c := c3) nb HNB hrb
    have HX := Lib.hid (And.intro hp (And.intro hq (And.intro hra (And.intro hrr hB))))
    have hBase : Below w4.heap.size w4 w4.drew := (Below.refl _ _).drew
    clear hp hq hra hrr hrb hB
    go_wp2_with fail
    refine wp_region_plan (.step 0 false (.step 2 false (.step 1 true (.step 3 true (.step 4 false (.step 5 false (.step 6 false (.step 7 false (.step 9 false (.step 12 false (.step 8 true (.step 10 true (.step 11 false (.step 13 true (.step 14 false (.step 15 false (.step 16 false (.step 17 false (.step 18 false (.step 19 false (.step 20 false (.step 21 false (.step 22 false (.step 23 false (.step 24 false (.step 25 false (.step 26 false (.step 27 false (.step 28 false (.step 29 false (.step 30 true (.step 31 false (.step 32 false (.step 33 false (.step 34 false (.nil)))))))))))))))))))))))))))))))))))) (by kernel_rfl) (by kernel_rfl) (by rfl) (by kernel_rfl) ?_
    iterate 2 (refine plan_read rfl (by rfl) (v := ?_) ?_ ?_; rotate_left 1; (intro W hW; have hW0 := below_step hBase hW; (try dsimp only at hW); go_simp <;> with_reducible rfl); simp only [List.getElem_toArray, List.getElem_cons_zero, List.getElem_cons_succ, Act.put, List.setIfInBounds_toArray, List.set_cons_zero, List.set_cons_succ])
    (refine plan_make rfl (by rfl) (fun K hK => ?_); go_simp; (refine (degP_any r nr B1 d1 _ HNR (HX.out.2.2.2.1.keep hBase) hdr (by omega)).mono ?_; rintro e w5 ⟨rfl, hbx⟩; rw [HDR.out]); refine hK.out _ _ hbx ?_; clear hK K; replace hBase := below_step hBase hbx)
    (refine plan_make rfl (by rfl) (fun K hK => ?_); go_simp; (refine (degP_any q m B d _ HM (HX.out.2.1.keep hBase) hd (by omega)).mono ?_; rintro e w5 ⟨rfl, hbx⟩; rw [HDQ.out]); refine hK.out _ _ hbx ?_; clear hK K; replace hBase := below_step hBase hbx)
    iterate 6 (refine plan_read rfl (by rfl) (v := ?_) ?_ ?_; rotate_left 1; (intro W hW; have hW0 := below_step hBase hW; (try dsimp only at hW); go_simp <;> with_reducible rfl); simp only [List.getElem_toArray, List.getElem_cons_zero, List.getElem_cons_succ, Act.put, List.setIfInBounds_toArray, List.set_cons_zero, List.set_cons_succ])
    (refine plan_make rfl (by rfl) (fun K hK => ?_); go_simp; (refine (mulP_any a q na m A1 B c1 d _ HNA HM (HX.out.2.2.1.keep hBase) (HX.out.2.1.keep hBase) hca hd (by omega) (by omega)).mono ?_; rintro e w5 ⟨A5, n5, c5, rfl, HN5, hc5, hr5, hbx⟩); refine hK.out _ _ hbx ?_; clear hK K; replace hBase := below_step hBase hbx)
    have hn5 : n5 ≤ 400 := by
      have h1 := plain_len (mulL a q)
      have h2 := mulL_length_le a q
      rw [HN5.out] at h1
      rw [HNA.out, HM.out] at h2
      omega
    (refine plan_make rfl (by rfl) (fun K hK => ?_); go_simp; (refine (addP_any (plainL (mulL a q)) r n5 nr A5 B1 c5 d1 _ HN5 HNR hr5 (HX.out.2.2.2.1.keep hBase) hc5 hdr (by omega) (by omega)).mono ?_; rintro e w6 ⟨A6, n6, c6, rfl, HN6, hc6, hr6, hbx⟩; rw [HBK.out] at HN6 hr6); refine hK.out _ _ hbx ?_; clear hK K; replace hBase := below_step hBase hbx)
    have hs2 := strQ (c := c6) n6 HN6 hr6
    iterate 1 (refine plan_read rfl (by rfl) (v := ?_) ?_ ?_; rotate_left 1; (intro W hW; have hW0 := below_step hBase hW; (try dsimp only at hW); go_simp <;> with_reducible rfl); simp only [List.getElem_toArray, List.getElem_cons_zero, List.getElem_cons_succ, Act.put, List.setIfInBounds_toArray, List.set_cons_zero, List.set_cons_succ])
    (refine plan_make rfl (by rfl) (fun K hK => ?_); go_simp; (refine (plainP_any p n A c _ HN (HX.out.1.keep hBase) hc (by omega)).mono ?_; rintro e w7 ⟨A7, n7, c7, rfl, HN7, hc7, hr7, hbx⟩; rw [← HP0.out] at HN7 hr7); refine hK.out _ _ hbx ?_; clear hK K; replace hBase := below_step hBase hbx)
    have hs3 := strQ (c := c7) n7 HN7 hr7
    iterate 16 (refine plan_read rfl (by rfl) (v := ?_) ?_ ?_; rotate_left 1; (intro W hW; have hW0 := below_step hBase hW; (try dsimp only at hW); go_simp <;> with_reducible rfl); simp only [List.getElem_toArray, List.getElem_cons_zero, List.getElem_cons_succ, Act.put, List.setIfInBounds_toArray, List.set_cons_zero, List.set_cons_succ])
    (refine plan_make rfl (by rfl) (fun K hK => ?_); go_simp; (refine (plainP_any p n A c _ HN (HX.out.1.keep hBase) hc (by omega)).mono ?_; rintro e w8 ⟨A8, n8, c8, rfl, HN8, hc8, hr8, hbx⟩; rw [← HP0.out] at HN8 hr8); refine hK.out _ _ hbx ?_; clear hK K; replace hBase := below_step hBase hbx)
    have hs4 := strQ (c := c8) n8 HN8 hr8
    iterate 4 (refine plan_read rfl (by rfl) (v := ?_) ?_ ?_; rotate_left 1; (intro W hW; have hW0 := below_step hBase hW; (try dsimp only at hW); go_simp <;> with_reducible rfl); simp only [List.getElem_toArray, List.getElem_cons_zero, List.getElem_cons_succ, Act.put, List.setIfInBounds_toArray, List.set_cons_zero, List.set_cons_succ])
    refine plan_done ?_
    clear hs1 hs2 hs3 hs4
    go_wp2_with fail
    go_ret
    exact ⟨rfl, below_step HX.out.2.2.2.2 hBase⟩
end Go.Proofs.Ytojegpoilildaaa
