/-
  The walk of the law SolomonRight: generators, checks, signs, and whether bytes are fine, are the document's. No conditions.
-/
import Derived.Test.YtfpoedapeoimbaaSolAwake
namespace Go.Proofs.Ytfpoedapeoimbaa
set_option maxRecDepth 100000
open Go.RowKit
set_option linter.unusedSimpArgs false
set_option linter.unusedVariables false

theorem errS_range (len : Nat) (k : Int) : errS len k = 0 ∨ errS len k = 1 ∨ errS len k = 2 ∨ errS len k = 4 := by
  unfold errS
  split
  · omega
  · split
    · omega
    · split <;> omega
theorem putS_all (d : List UInt8) (len n : Nat) (A : Option Addr) (c : Nat) (w : World) (HN : Hid (d.length = len)) (hr : Rd vB w A d) (hc : len ≤ c) (h1 : 1 ≤ n) (h2 : n ≤ 64) (hl2 : len ≤ 100000) :
    Calls Try.prog 8 #[.slice A len c, .int .i64 (n : Int)] w (RetE w (if 255 < len + n then [] else putS d n) (if 255 < len + n then 4 else 0)) := by
  by_cases h : 255 < len + n
  · rw [if_pos h, if_pos h]
    exact putS_long d len n A c w HN hr hc h1 h2 h hl2
  · rw [if_neg h, if_neg h]
    exact putS_ok d len n A c w HN hr hc h1 h2 (by omega)
theorem signsS_all (b : List UInt8) (len n : Nat) (A : Option Addr) (c : Nat) (w : World) (HN : Hid (b.length = len)) (hr : Rd vB w A b) (hc : len ≤ c) (h1 : 1 ≤ n) (h2 : n ≤ 64) (hl2 : len ≤ 100000) :
    Calls Try.prog 9 #[.slice A len c, .int .i64 (n : Int)] w (RetE w (if errS len n = 0 then signsL b n else []) (errS len n)) := by
  by_cases h : errS len n = 0
  · rw [if_pos h, h]
    obtain ⟨m, e, h3, h4, h5, h6⟩ := errS_cases len n h
    have : n = m := by omega
    subst this
    exact signsS_ok b len n A c w HN hr hc h1 h2 h5 h6
  · rw [if_neg h]
    exact signsS_no b len n A c w HN hr hc hl2 (Lib.hid h)

set_option maxRecDepth 100000 in
set_option maxHeartbeats 4000000 in
theorem solright_core (b : List UInt8) (len : Nat) (k : Int) (A : Option Addr) (c : Nat) (w : World) (HN : Hid (b.length = len)) (hr : Rd vB w A b) (hc : len ≤ c) (hl : len ≤ 300) :
    Calls Try.prog 3 #[.slice A len c, .int .i64 k] w fun e w' => e = .returned (.bool true) ∧ Below w.heap.size w w' := by
  have g1 : decide ((300 : Int) < (len : Int)) = false := by simp; omega
  have n1 : ¬ 300 < len := by omega
  go_enter Try.func3, Try.ntmps3
  go_wp2_with fail
  refine (awake9_any _).mono ?_
  rintro e w1 ⟨rfl, hB⟩
  replace hr := hr.keep hB
  go_wp2_with fail
  clear g1 n1
  by_cases hk : k < 1 ∨ 64 < k
  · have HK := Lib.hid hk
    have HF : Hid (fineS b k = false) := by
      unfold Hid fineS errS
      rw [if_pos hk]
      rfl
    have HE : Hid (errS len k = 1) := by unfold Hid errS; rw [if_pos hk]
    have HE0 : Hid (errS len k ≠ 0) := by unfold Hid; rw [HE.out]; decide
    refine (genS_no k _ hk).mono ?_
    clear hk
    rintro e w2 ⟨A2, n2, c2, rfl, HN2, hc2, hr2, hb2⟩
    have en2 : n2 = 0 := HN2.out.symm
    subst en2
    replace hr := hr.keep hb2
    replace hB := below_step hB hb2
    clear hb2 hr2 HN2
    go_wp2_with fail
    refine (putS_no b len k A c _ HN hr hc (by omega) HK.out).mono ?_
    rintro e w3 ⟨A3, n3, c3, rfl, HN3, hc3, hr3, hb3⟩
    have en3 : n3 = 0 := HN3.out.symm
    subst en3
    replace hr := hr.keep hb3
    replace hB := below_step hB hb3
    clear hb3 hr3 HN3
    go_wp2_with fail
    refine (signsS_no b len k A c _ HN hr hc (by omega) HE0).mono ?_
    rintro e w4 ⟨A4, n4, c4, rfl, HN4, hc4, hr4, hb4⟩
    rw [HE.out]
    have en4 : n4 = 0 := HN4.out.symm
    subst en4
    replace hr := hr.keep hb4
    replace hB := below_step hB hb4
    clear hb4 hr4 HN4
    by_cases hk1 : k < 1
    · go_wp2_with fail
      refine (fineS_any b len k A c _ HN hr hc (by omega)).mono ?_
      rintro e w5 ⟨rfl, hb5⟩
      rw [HF.out]
      go_wp2_with fail
      go_ret
      exact ⟨rfl, below_step hB hb5⟩
    · have hk2 : 64 < k := by have := HK.out; omega
      go_wp2_with fail
      refine (fineS_any b len k A c _ HN hr hc (by omega)).mono ?_
      rintro e w5 ⟨rfl, hb5⟩
      rw [HF.out]
      go_wp2_with fail
      go_ret
      exact ⟨rfl, below_step hB hb5⟩
  · obtain ⟨n, rfl, h1, h2⟩ : ∃ n : Nat, k = (n : Int) ∧ 1 ≤ n ∧ n ≤ 64 := ⟨k.toNat, by omega, by omega, by omega⟩
    clear hk
    refine (genS_ok n _ h1 h2).mono ?_
    rintro e w2 ⟨A2, n2, c2, rfl, HN2, hc2, hr2, hb2⟩
    replace hr := hr.keep hb2
    replace hB := below_step hB hb2
    clear hb2
    go_wp2_with fail
    refine (putS_all b len n A c _ HN hr hc h1 h2 (by omega)).mono ?_
    rintro e w3 ⟨A3, n3, c3, rfl, HN3, hc3, hr3, hb3⟩
    obtain ⟨EP, hEP⟩ : ∃ E : Int, (if 255 < len + n then (4 : Int) else 0) = E := ⟨_, rfl⟩
    obtain ⟨LP, hLP⟩ : ∃ L : List UInt8, (if 255 < len + n then ([] : List UInt8) else putS b n) = L := ⟨_, rfl⟩
    rw [hEP]
    rw [hLP] at HN3 hr3
    have HEP := Lib.hid hEP
    have HLP := Lib.hid hLP
    clear hEP hLP
    replace hr := hr.keep hb3
    replace hr2 := hr2.keep hb3
    replace hB := below_step hB hb3
    clear hb3
    go_wp2_with fail
    refine (signsS_all b len n A c _ HN hr hc h1 h2 (by omega)).mono ?_
    rintro e w4 ⟨A4, n4, c4, rfl, HN4, hc4, hr4, hb4⟩
    obtain ⟨E, hE⟩ : ∃ E : Int, errS len n = E := ⟨_, rfl⟩
    obtain ⟨LS, hLS⟩ : ∃ L : List UInt8, (if errS len n = 0 then signsL b n else []) = L := ⟨_, rfl⟩
    rw [hLS] at HN4 hr4
    rw [hE]
    have HE := Lib.hid hE
    have HLS := Lib.hid hLS
    clear hE hLS
    replace hr := hr.keep hb4
    replace hr2 := hr2.keep hb4
    replace hr3 := hr3.keep hb4
    replace hB := below_step hB hb4
    clear hb4
    have k1 : ¬ (n : Int) < 1 := by omega
    have k2 : ¬ (64 : Int) < (n : Int) := by omega
    go_wp2_with fail
    have HX := Lib.hid (And.intro hr (And.intro hr3 (And.intro hr4 hB)))
    have hs1 := strS (c := c2) n2 HN2 hr2
    have hBase : Below w4.heap.size w4 w4.drew := (Below.refl _ _).drew
    clear hr hr2 hr3 hr4 hB
    refine wp_region_plan (.step 0 false (.step 1 false (.step 2 false (.step 3 false (.step 4 false (.step 5 false (.step 6 true (.step 7 false (.step 8 false (.step 9 false (.step 10 false (.step 11 false (.step 12 false (.step 13 false (.step 14 true (.step 15 false (.step 16 false (.step 17 false (.step 18 false (.step 19 false (.step 21 false (.step 22 false (.step 20 true (.step 23 true (.step 24 false (.step 25 false (.nil))))))))))))))))))))))))))) (by kernel_rfl) (by kernel_rfl) (by rfl) (by kernel_rfl) ?_
    iterate 6 (refine plan_read rfl (by rfl) (v := ?_) ?_ ?_; rotate_left 1; (intro W hW; have hW0 := below_step hBase hW; (try dsimp only at hW); go_simp <;> with_reducible rfl); simp only [List.getElem_toArray, List.getElem_cons_zero, List.getElem_cons_succ, Act.put, List.setIfInBounds_toArray, List.set_cons_zero, List.set_cons_succ])
    (refine plan_make rfl (by rfl) (fun K hK => ?_); go_simp; (refine (refgen_any n _ h2).mono ?_; rintro e w5 ⟨A5, n5, c5, rfl, HN5, hc5, hr5, hbx⟩); refine hK.out _ _ hbx ?_; clear hK K; replace hBase := below_step hBase hbx)
    have hs2 := strS (c := c5) n5 HN5 hr5
    iterate 7 (refine plan_read rfl (by rfl) (v := ?_) ?_ ?_; rotate_left 1; (intro W hW; have hW0 := below_step hBase hW; (try dsimp only at hW); go_simp <;> with_reducible rfl); simp only [List.getElem_toArray, List.getElem_cons_zero, List.getElem_cons_succ, Act.put, List.setIfInBounds_toArray, List.set_cons_zero, List.set_cons_succ])
    (refine plan_make rfl (by rfl) (fun K hK => ?_); go_simp; (refine (referror_any len (n : Int) A c _ (by omega)).mono ?_; rintro e w6 ⟨rfl, hw6⟩; have hbx := below_same hw6; clear hw6; rw [HE.out]); refine hK.out _ _ hbx ?_; clear hK K; replace hBase := below_step hBase hbx)
    iterate 7 (refine plan_read rfl (by rfl) (v := ?_) ?_ ?_; rotate_left 1; (intro W hW; have hW0 := below_step hBase hW; (try dsimp only at hW); go_simp <;> with_reducible rfl); simp only [List.getElem_toArray, List.getElem_cons_zero, List.getElem_cons_succ, Act.put, List.setIfInBounds_toArray, List.set_cons_zero, List.set_cons_succ])
    (refine plan_make rfl (by rfl) (fun K hK => ?_); go_simp; (refine (fineS_any b len (n : Int) A c _ HN (HX.out.1.keep hBase) hc (by omega)).mono ?_; rintro e w7 ⟨rfl, hbx⟩); refine hK.out _ _ hbx ?_; clear hK K; replace hBase := below_step hBase hbx)
    (refine plan_make rfl (by rfl) (fun K hK => ?_); go_simp; (refine (reffine_any b len (n : Int) A c _ HN (HX.out.1.keep hBase) (by omega)).mono ?_; rintro e w8 ⟨rfl, hbx⟩); refine hK.out _ _ hbx ?_; clear hK K; replace hBase := below_step hBase hbx)
    iterate 2 (refine plan_read rfl (by rfl) (v := ?_) ?_ ?_; rotate_left 1; (intro W hW; have hW0 := below_step hBase hW; (try dsimp only at hW); go_simp <;> with_reducible rfl); simp only [List.getElem_toArray, List.getElem_cons_zero, List.getElem_cons_succ, Act.put, List.setIfInBounds_toArray, List.set_cons_zero, List.set_cons_succ])
    refine plan_done ?_
    have HY := Lib.hid (And.intro (HX.out.1.keep hBase) (And.intro (HX.out.2.1.keep hBase) (And.intro (HX.out.2.2.1.keep hBase) (below_step HX.out.2.2.2 hBase))))
    clear hs1 hs2 hBase HX hr5
    go_upto_region 12 with fail
    by_cases hz : E = 0
    · subst hz
      have eLS : LS = signsL b n := by rw [← HLS.out, HE.out, if_pos rfl]
      have HL := Lib.hid eLS
      have hs1 := strS (c := c4) n4 HN4 HY.out.2.2.1
      have hBase : Below w8.heap.size w8 w8.drew := (Below.refl _ _).drew
      refine wp_region_plan (.step 0 false (.step 1 false (.step 2 false (.step 3 false (.step 4 false (.step 5 false (.step 6 false (.step 7 true (.step 8 false (.step 9 false (.step 10 false (.step 11 false (.step 12 false (.step 13 false (.step 14 false (.step 15 false (.step 16 false (.step 17 false (.step 18 false (.step 19 false (.nil))))))))))))))))))))) (by kernel_rfl) (by kernel_rfl) (by rfl) (by kernel_rfl) ?_
      iterate 7 (refine plan_read rfl (by rfl) (v := ?_) ?_ ?_; rotate_left 1; (intro W hW; have hW0 := below_step hBase hW; (try dsimp only at hW); go_simp <;> with_reducible rfl); simp only [List.getElem_toArray, List.getElem_cons_zero, List.getElem_cons_succ, Act.put, List.setIfInBounds_toArray, List.set_cons_zero, List.set_cons_succ])
      (refine plan_make rfl (by rfl) (fun K hK => ?_); go_simp; (refine (refsigns_any b len n A c _ HN (HY.out.1.keep hBase) (by omega) h2).mono ?_; rintro e w9 ⟨A9, n9, c9, rfl, HN9, hc9, hr9, hbx⟩; rw [← HL.out] at HN9 hr9); refine hK.out _ _ hbx ?_; clear hK K; replace hBase := below_step hBase hbx)
      have hs2 := strS (c := c9) n9 HN9 hr9
      iterate 7 (refine plan_read rfl (by rfl) (v := ?_) ?_ ?_; rotate_left 1; (intro W hW; have hW0 := below_step hBase hW; (try dsimp only at hW); go_simp <;> with_reducible rfl); simp only [List.getElem_toArray, List.getElem_cons_zero, List.getElem_cons_succ, Act.put, List.setIfInBounds_toArray, List.set_cons_zero, List.set_cons_succ])
      iterate 3 (refine plan_skip rfl (by rfl) ?_; simp only [List.getElem_toArray, List.getElem_cons_zero, List.getElem_cons_succ, Act.put, List.setIfInBounds_toArray, List.set_cons_zero, List.set_cons_succ])
      iterate 2 (refine plan_read rfl (by rfl) (v := ?_) ?_ ?_; rotate_left 1; (intro W hW; have hW0 := below_step hBase hW; (try dsimp only at hW); go_simp <;> with_reducible rfl); simp only [List.getElem_toArray, List.getElem_cons_zero, List.getElem_cons_succ, Act.put, List.setIfInBounds_toArray, List.set_cons_zero, List.set_cons_succ])
      refine plan_done ?_
      have HRD := Lib.hid (HY.out.1.keep hBase)
      have HR3 := Lib.hid (HY.out.2.1.keep hBase)
      have HB := Lib.hid (below_step HY.out.2.2.2 hBase)
      clear hs1 hs2 hBase HY hr9 eLS HLS HL
      go_upto_region 14 with fail
      by_cases hlong : 255 < len + n
      · have hl2 : (255 : Int) < (len : Int) + (n : Int) := by omega
        have eEP : EP = 4 := by rw [← HEP.out, if_pos hlong]
        have eLP : LP = [] := by rw [← HLP.out, if_pos hlong]
        subst eEP eLP
        have en3 : n3 = 0 := HN3.out.symm
        subst en3
        clear hlong
        go_wp2_with fail
        go_ret
        exact ⟨rfl, HB.out⟩
      · have hl2 : ¬ (255 : Int) < (len : Int) + (n : Int) := by omega
        have eEP : EP = 0 := by rw [← HEP.out, if_neg hlong]
        have eLP : LP = putS b n := by rw [← HLP.out, if_neg hlong]
        subst eEP
        have HLQ := Lib.hid eLP
        clear eLP hlong
        have HX := Lib.hid (And.intro HRD.out HB.out)
        have hs1 := strS (c := c3) n3 HN3 HR3.out
        have hBase := (Below.refl w9.heap.size w9).drew
        go_upto_region 16 with fail
        refine wp_region_plan (.step 0 false (.step 1 false (.step 2 false (.step 3 false (.step 4 false (.step 5 false (.step 6 false (.step 7 true (.step 8 false (.step 9 false (.step 10 false (.step 11 false (.nil))))))))))))) (by kernel_rfl) (by kernel_rfl) (by rfl) (by kernel_rfl) ?_
        iterate 7 (refine plan_read rfl (by rfl) (v := ?_) ?_ ?_; rotate_left 1; (intro W hW; have hW0 := below_step hBase hW; (try dsimp only at hW); go_simp <;> with_reducible rfl); simp only [List.getElem_toArray, List.getElem_cons_zero, List.getElem_cons_succ, Act.put, List.setIfInBounds_toArray, List.set_cons_zero, List.set_cons_succ])
        (refine plan_make rfl (by rfl) (fun K hK => ?_); go_simp; (refine (refputS_any b len n A c _ HN (HX.out.1.keep hBase) h1 h2 (by omega)).mono ?_; rintro e w9 ⟨A9, n9, c9, rfl, HN9, hc9, hr9, hbx⟩; rw [← HLQ.out] at HN9 hr9); refine hK.out _ _ hbx ?_; clear hK K; replace hBase := below_step hBase hbx)
        have hs2 := strS (c := c9) n9 HN9 hr9
        iterate 4 (refine plan_read rfl (by rfl) (v := ?_) ?_ ?_; rotate_left 1; (intro W hW; have hW0 := below_step hBase hW; (try dsimp only at hW); go_simp <;> with_reducible rfl); simp only [List.getElem_toArray, List.getElem_cons_zero, List.getElem_cons_succ, Act.put, List.setIfInBounds_toArray, List.set_cons_zero, List.set_cons_succ])
        refine plan_done ?_
        clear hs1 hs2
        go_wp2_with fail
        go_ret
        exact ⟨rfl, below_step HX.out.2 hBase⟩
    · have hne : (E == 0) = false := beq_eq_false_iff_ne.2 hz
      have hne2 : (E != 0) = true := by rw [bne, hne]; rfl
      have eLS : LS = [] := by rw [← HLS.out, HE.out, if_neg hz]
      subst eLS
      have en4 : n4 = 0 := HN4.out.symm
      subst en4
      have hBase : Below w8.heap.size w8 w8.drew := (Below.refl _ _).drew
      refine wp_region_plan (.step 0 false (.step 1 false (.step 2 false (.step 3 false (.step 4 false (.step 5 false (.step 6 false (.step 7 true (.step 8 false (.step 9 false (.step 10 false (.step 11 false (.step 12 false (.step 13 false (.step 14 false (.step 15 false (.step 16 false (.step 17 false (.step 18 false (.step 19 false (.nil))))))))))))))))))))) (by kernel_rfl) (by kernel_rfl) (by rfl) (by kernel_rfl) ?_
      iterate 3 (refine plan_read rfl (by rfl) (v := ?_) ?_ ?_; rotate_left 1; (intro W hW; have hW0 := below_step hBase hW; (try dsimp only at hW); go_simp <;> with_reducible rfl); simp only [List.getElem_toArray, List.getElem_cons_zero, List.getElem_cons_succ, Act.put, List.setIfInBounds_toArray, List.set_cons_zero, List.set_cons_succ])
      iterate 7 (refine plan_skip rfl (by rfl) ?_; simp only [List.getElem_toArray, List.getElem_cons_zero, List.getElem_cons_succ, Act.put, List.setIfInBounds_toArray, List.set_cons_zero, List.set_cons_succ])
      iterate 10 (refine plan_read rfl (by rfl) (v := ?_) ?_ ?_; rotate_left 1; (intro W hW; have hW0 := below_step hBase hW; (try dsimp only at hW); go_simp <;> with_reducible rfl); simp only [List.getElem_toArray, List.getElem_cons_zero, List.getElem_cons_succ, Act.put, List.setIfInBounds_toArray, List.set_cons_zero, List.set_cons_succ])
      refine plan_done ?_
      have HRD := Lib.hid (HY.out.1.keep hBase)
      have HR3 := Lib.hid (HY.out.2.1.keep hBase)
      have HB := Lib.hid (below_step HY.out.2.2.2 hBase)
      clear hBase HY hz
      go_upto_region 14 with fail
      generalize w8.drew = w9 at HRD HR3 HB ⊢
      by_cases hlong : 255 < len + n
      · have hl2 : (255 : Int) < (len : Int) + (n : Int) := by omega
        have eEP : EP = 4 := by rw [← HEP.out, if_pos hlong]
        have eLP : LP = [] := by rw [← HLP.out, if_pos hlong]
        subst eEP eLP
        have en3 : n3 = 0 := HN3.out.symm
        subst en3
        clear hlong
        go_wp2_with fail
        go_ret
        exact ⟨rfl, HB.out⟩
      · have hl2 : ¬ (255 : Int) < (len : Int) + (n : Int) := by omega
        have eEP : EP = 0 := by rw [← HEP.out, if_neg hlong]
        have eLP : LP = putS b n := by rw [← HLP.out, if_neg hlong]
        subst eEP
        have HLQ := Lib.hid eLP
        clear eLP hlong
        have HX := Lib.hid (And.intro HRD.out HB.out)
        have hs1 := strS (c := c3) n3 HN3 HR3.out
        have hBase := (Below.refl w9.heap.size w9).drew
        go_upto_region 16 with fail
        refine wp_region_plan (.step 0 false (.step 1 false (.step 2 false (.step 3 false (.step 4 false (.step 5 false (.step 6 false (.step 7 true (.step 8 false (.step 9 false (.step 10 false (.step 11 false (.nil))))))))))))) (by kernel_rfl) (by kernel_rfl) (by rfl) (by kernel_rfl) ?_
        iterate 7 (refine plan_read rfl (by rfl) (v := ?_) ?_ ?_; rotate_left 1; (intro W hW; have hW0 := below_step hBase hW; (try dsimp only at hW); go_simp <;> with_reducible rfl); simp only [List.getElem_toArray, List.getElem_cons_zero, List.getElem_cons_succ, Act.put, List.setIfInBounds_toArray, List.set_cons_zero, List.set_cons_succ])
        (refine plan_make rfl (by rfl) (fun K hK => ?_); go_simp; (refine (refputS_any b len n A c _ HN (HX.out.1.keep hBase) h1 h2 (by omega)).mono ?_; rintro e w9 ⟨A9, n9, c9, rfl, HN9, hc9, hr9, hbx⟩; rw [← HLQ.out] at HN9 hr9); refine hK.out _ _ hbx ?_; clear hK K; replace hBase := below_step hBase hbx)
        have hs2 := strS (c := c9) n9 HN9 hr9
        iterate 4 (refine plan_read rfl (by rfl) (v := ?_) ?_ ?_; rotate_left 1; (intro W hW; have hW0 := below_step hBase hW; (try dsimp only at hW); go_simp <;> with_reducible rfl); simp only [List.getElem_toArray, List.getElem_cons_zero, List.getElem_cons_succ, Act.put, List.setIfInBounds_toArray, List.set_cons_zero, List.set_cons_succ])
        refine plan_done ?_
        clear hs1 hs2
        go_wp2_with fail
        go_ret
        exact ⟨rfl, below_step HX.out.2 hBase⟩
end Go.Proofs.Ytfpoedapeoimbaa
