/-
  The walk of the law PolyValues: values of sums, products and multiples are those of the values; degrees of products are the sums; what is left by x less a is the value at a; the slope of a product. No conditions.
-/
import Derived.Test.YtojegpoilildaaaPolyRight
import Derived.Test.YtojegpoilildaaaGfCalls
namespace Go.Proofs.Ytojegpoilildaaa
set_option maxRecDepth 100000
open Go.RowKit
set_option linter.unusedSimpArgs false
set_option linter.unusedVariables false

theorem val_plain (p : List UInt8) (x : UInt8) : evalL (plainL p) x = evalL p x := eval_congr (plain_eqv p) x
theorem val_sum (p q : List UInt8) (x : UInt8) : evalL (plainL (addL p q)) x = addB (evalL p x) (evalL q x) := by rw [val_plain, eval_add]
theorem val_mul (p q : List UInt8) (x : UInt8) : evalL (plainL (mulL p q)) x = mulB (evalL p x) (evalL q x) := by rw [val_plain, eval_mul]
theorem val_times (a : UInt8) (p : List UInt8) (x : UInt8) : evalL (plainL (scaleL a p)) x = mulB a (evalL p x) := by rw [val_plain, eval_scale]
theorem lin_plain (x : UInt8) : plainL [x, 1] = [x, 1] := plain_of_top _ (.inr (by show (1 : UInt8) ≠ 0; decide))
theorem lin_zero (x : UInt8) : evalL [x, 1] x = 0 := by
  rw [evalL, evalL, evalL, mul_zero, add_zero, mul_one, add_self]
theorem val_left {p b r : List UInt8} {x : UInt8} (h : IsQuo p [x, 1] b r ∧ plainL b = b ∧ plainL r = r) : evalL r 0 = evalL p x := by
  obtain ⟨⟨h1, h2⟩, _, h3⟩ := h
  have e1 : evalL p x = evalL r x := by
    rw [← eval_congr h1 x, eval_add, eval_mul, lin_zero, mul_zero, zero_add]
  rw [h3, lin_plain] at h2
  rw [e1]
  match r, h2 with
  | [], _ => rfl
  | [c], _ => simp only [evalL, mul_zero]
  | _ :: _ :: _, h2 =>
    simp at h2
    omega
theorem deg_sum (p q : List UInt8) (hp : plainL p ≠ []) (hq : plainL q ≠ []) : ((plainL (plainL (mulL p q))).length : Int) - 1 = (((plainL p).length : Int) - 1) + (((plainL q).length : Int) - 1) := by
  have h1 : 0 < (plainL p).length := List.length_pos_iff.2 hp
  have h2 : 0 < (plainL q).length := List.length_pos_iff.2 hq
  rw [plain_plain, mul_plain_len p q hp hq]
  omega
theorem slope_prod (p q : List UInt8) : plainL (slopeL (plainL (mulL p q))) = plainL (addL (plainL (mulL (plainL (slopeL p)) q)) (plainL (mulL p (plainL (slopeL q))))) :=
  plain_congr ((slope_congr (plain_eqv _)).trans ((slope_mul p q).trans (add_congr ((mul_congr (plain_eqv _).symm (Eqv.refl q)).trans (plain_eqv _).symm) ((mul_congr (Eqv.refl p) (plain_eqv _).symm).trans (plain_eqv _).symm))))
theorem slope_len (p : List UInt8) : (plainL (slopeL p)).length ≤ p.length := (plain_le_iff _ _).2 fun k hk => slope_length p k (by omega)

set_option maxRecDepth 100000 in
set_option maxHeartbeats 4000000 in
theorem polyvalues_core (p q : List UInt8) (x a : UInt8) (n m : Nat) (A B : Option Addr) (c d : Nat) (w : World) (HN : Hid (p.length = n)) (HM : Hid (q.length = m)) (hp : Rd vB w A p) (hq : Rd vB w B q) (hc : n ≤ c) (hd : m ≤ d) (hn : n ≤ 60) (hm : m ≤ 60) :
    Calls Try.prog 5 #[.slice A n c, .slice B m d, .int .u8 (x.toNat : Int), .int .u8 (a.toNat : Int)] w fun e w' => e = .returned (.bool true) ∧ Below w.heap.size w w' := by
  have g1 : decide ((60 : Int) < (n : Int)) = false := by simp; omega
  have g2 : decide ((60 : Int) < (m : Int)) = false := by simp; omega
  have n1 : ¬ 60 < n := by omega
  have n2 : ¬ 60 < m := by omega
  go_enter Try.func5, Try.ntmps5
  go_wp2_with fail
  refine (awake8_any _).mono ?_
  rintro e w1 ⟨rfl, hB⟩
  replace hp := hp.keep hB
  replace hq := hq.keep hB
  go_wp2_with fail
  clear g1 g2 n1 n2
  obtain ⟨u, hu⟩ : ∃ u, evalL p x = u := ⟨_, rfl⟩
  obtain ⟨v, hv⟩ : ∃ v, evalL q x = v := ⟨_, rfl⟩
  have HU := Lib.hid hu
  have HV := Lib.hid hv
  have HS1 : Hid (evalL (plainL (addL p q)) x = addB u v) := by rw [← hu, ← hv]; exact val_sum p q x
  have HS2 : Hid (evalL (plainL (mulL p q)) x = mulB u v) := by rw [← hu, ← hv]; exact val_mul p q x
  have HS3 : Hid (evalL (plainL (scaleL a p)) x = mulB a u) := by rw [← hu]; exact val_times a p x
  clear hu hv
  refine (evalP_any p x n A c _ HN hp hc (by omega)).mono ?_
  rintro e w2 ⟨rfl, hb⟩
  rw [HU.out]
  replace hp := hp.keep hb
  replace hq := hq.keep hb
  replace hB := below_step hB hb
  clear hb
  go_wp2_with fail
  refine (evalP_any q x m B d _ HM hq hd (by omega)).mono ?_
  rintro e w3 ⟨rfl, hb⟩
  rw [HV.out]
  replace hp := hp.keep hb
  replace hq := hq.keep hb
  replace hB := below_step hB hb
  clear hb
  go_wp2_with fail
  refine (mulP_any p q n m A B c d _ HN HM hp hq hc hd (by omega) (by omega)).mono ?_
  rintro e w4 ⟨A1, n1, c1, rfl, HN1, hc1, hr1, hb⟩
  have hn1 : n1 ≤ 120 := by
    have h1 := plain_len (mulL p q)
    have h2 := mulL_length_le p q
    rw [HN1.out] at h1
    rw [HN.out, HM.out] at h2
    omega
  replace hp := hp.keep hb
  replace hq := hq.keep hb
  replace hB := below_step hB hb
  clear hb
  go_wp2_with fail
  refine (addP_any p q n m A B c d _ HN HM hp hq hc hd (by omega) (by omega)).mono ?_
  rintro e w5 ⟨A2, n2, c2, rfl, HN2, hc2, hr2, hb⟩
  have hn2 : n2 ≤ 120 := by
    have h1 := plain_len (addL p q)
    rw [HN2.out, addL_length, HN.out, HM.out] at h1
    omega
  replace hp := hp.keep hb
  replace hq := hq.keep hb
  replace hr1 := hr1.keep hb
  replace hB := below_step hB hb
  clear hb
  go_wp2_with fail
  refine (evalP_any (plainL (addL p q)) x n2 A2 c2 _ HN2 hr2 hc2 (by omega)).mono ?_
  rintro e w6 ⟨rfl, hb⟩
  rw [HS1.out]
  replace hp := hp.keep hb
  replace hq := hq.keep hb
  replace hr1 := hr1.keep hb
  replace hB := below_step hB hb
  clear hb hr2
  go_wp2_with fail
  refine (gfadd_any u v _).mono ?_
  rintro e w7 ⟨rfl, rfl⟩
  go_wp2_with fail
  refine (evalP_any (plainL (mulL p q)) x n1 A1 c1 _ HN1 hr1 hc1 (by omega)).mono ?_
  rintro e w7 ⟨rfl, hb⟩
  rw [HS2.out]
  replace hp := hp.keep hb
  replace hq := hq.keep hb
  replace hr1 := hr1.keep hb
  replace hB := below_step hB hb
  clear hb
  go_wp2_with fail
  refine (gfmul_any u v _).mono ?_
  rintro e w8 ⟨rfl, rfl⟩
  go_wp2_with fail
  refine (timesP_any a p n A c _ HN hp hc (by omega)).mono ?_
  rintro e w8 ⟨A3, n3, c3, rfl, HN3, hc3, hr3, hb⟩
  have hn3 : n3 ≤ 60 := by
    have h1 := plain_len (scaleL a p)
    rw [HN3.out, scaleL, List.length_map, HN.out] at h1
    omega
  replace hp := hp.keep hb
  replace hq := hq.keep hb
  replace hr1 := hr1.keep hb
  replace hB := below_step hB hb
  clear hb
  go_wp2_with fail
  refine (evalP_any (plainL (scaleL a p)) x n3 A3 c3 _ HN3 hr3 hc3 (by omega)).mono ?_
  rintro e w9 ⟨rfl, hb⟩
  rw [HS3.out]
  replace hp := hp.keep hb
  replace hq := hq.keep hb
  replace hr1 := hr1.keep hb
  replace hB := below_step hB hb
  clear hb hr3
  go_wp2_with fail
  refine (gfmul_any a u _).mono ?_
  rintro e w10 ⟨rfl, rfl⟩
  clear HS1 HS2 HS3 HV
  generalize addB u v = U1
  generalize mulB u v = U2
  generalize mulB a u = U3
  have hl : Rd vB (w9.alloc (.cells #[.int .u8 (x.toNat : Int), .int .u8 1] 5)) (some ⟨w9.heap.size, 0, none⟩) [x, 1] := Rd.new w9 [x, 1] _ _ rfl
  have hbl := below_new (Below.refl _ w9) (.cells #[.int .u8 (x.toNat : Int), .int .u8 1] 5)
  have HQ : Hid (plainL [x, 1] ≠ []) := by unfold Hid; rw [lin_plain]; simp
  go_wp2_with fail
  refine (quoP_good p [x, 1] n 2 A _ c 2 _ HN (Lib.hid rfl) (hp.keep hbl) hl hc (by omega) (by omega) (by omega) HQ).mono ?_
  rintro e w11 ⟨b, r, A4, B4, nb, nr, c4, d4, rfl, HNB, HNR, hcb, hdr, hrb, hrr, hb, HE⟩
  have hb' := below_step hbl hb
  have HVL : Hid (evalL r 0 = u) := by unfold Hid; rw [val_left HE.out, HU.out]
  have hnr : nr ≤ 2 := by
    have := (quo_len HE.out).2
    rw [HNR.out] at this
    exact this
  replace hp := hp.keep hb'
  replace hq := hq.keep hb'
  replace hr1 := hr1.keep hb'
  replace hB := below_step hB hb'
  clear hb hbl hb' hl hrb HE HQ HU
  have HZ0 : Hid (((0 : UInt8).toNat : Int) = 0) := rfl
  obtain ⟨lp, hlp⟩ : ∃ lp, (plainL p).length = lp := ⟨_, rfl⟩
  obtain ⟨lq, hlq⟩ : ∃ lq, (plainL q).length = lq := ⟨_, rfl⟩
  have HLP := Lib.hid hlp
  have HLQ := Lib.hid hlq
  have hlp2 : lp ≤ 60 := by
    have := plain_len p
    rw [hlp, HN.out] at this
    omega
  have hlq2 : lq ≤ 60 := by
    have := plain_len q
    rw [hlq, HM.out] at this
    omega
  have HDS : Hid (0 < lp → 0 < lq → ((plainL (plainL (mulL p q))).length : Int) - 1 = ((lp : Int) - 1) + ((lq : Int) - 1)) := fun h1 h2 => by
    rw [← hlp, ← hlq]
    exact deg_sum p q (List.length_pos_iff.1 (by rw [hlp]; exact h1)) (List.length_pos_iff.1 (by rw [hlq]; exact h2))
  clear hlp hlq
  go_upto_region 10 with fail
  go_cut [98] (fun v wx => v = .bool false ∧ Below w11.heap.size w11 wx)
  case first =>
    go_wp2_with fail
    refine (evalP_any r 0 nr B4 d4 _ HNR hrr hdr (by omega)).mono ?_
    rintro e w12 ⟨rfl, hb⟩
    rw [HVL.out]
    replace hp := hp.keep hb
    replace hq := hq.keep hb
    replace hr1 := hr1.keep hb
    go_wp2_with fail
    refine (degP_any p n A c _ HN hp hc (by omega)).mono ?_
    rintro e w13 ⟨rfl, hb2⟩
    rw [HLP.out]
    replace hq := hq.keep hb2
    replace hp := hp.keep hb2
    replace hr1 := hr1.keep hb2
    replace hb := below_step hb hb2
    clear hb2 hrr hB
    by_cases h1 : 0 < lp
    · have j1 : (0 : Int) ≤ (lp : Int) - 1 := by omega
      go_wp2_with fail
      refine (degP_any q m B d _ HM hq hd (by omega)).mono ?_
      rintro e w14 ⟨rfl, hb2⟩
      rw [HLQ.out]
      replace hq := hq.keep hb2
      replace hp := hp.keep hb2
      replace hr1 := hr1.keep hb2
      replace hb := below_step hb hb2
      clear hb2
      by_cases h2 : 0 < lq
      · have j2 : (0 : Int) ≤ (lq : Int) - 1 := by omega
        have HDD := Lib.hid (HDS.out h1 h2)
        clear HDS
        go_wp2_with fail
        refine (degP_any (plainL (mulL p q)) n1 A1 c1 _ HN1 hr1 hc1 (by omega)).mono ?_
        rintro e w15 ⟨rfl, hb2⟩
        rw [HDD.out]
        replace hq := hq.keep hb2
        replace hp := hp.keep hb2
        replace hb := below_step hb hb2
        clear hb2 hr1 HDD
        go_wp2_with fail
        refine (degP_any p n A c _ HN hp hc (by omega)).mono ?_
        rintro e w16 ⟨rfl, hb2⟩
        rw [HLP.out]
        replace hq := hq.keep hb2
        replace hb := below_step hb hb2
        clear hb2 hp
        go_wp2_with fail
        refine (degP_any q m B d _ HM hq hd (by omega)).mono ?_
        rintro e w17 ⟨rfl, hb2⟩
        rw [HLQ.out]
        replace hb := below_step hb hb2
        clear hb2 hq
        have hw : IntKind.i64.wrap (((lp : Int) - 1) + ((lq : Int) - 1)) = ((lp : Int) - 1) + ((lq : Int) - 1) := by rw [IntKind.wrap_i64]; omega
        have HB := Lib.hid hb
        clear hb
        go_wp2_with fail
        go_meet
        case rel => exact ⟨rfl, HB.out⟩
      · have j2 : ¬ (0 : Int) ≤ (lq : Int) - 1 := by omega
        have HB := Lib.hid hb
        clear hb HDS hp hq hr1
        go_wp2_with fail
        go_meet
        case rel => exact ⟨rfl, HB.out⟩
    · have j1 : ¬ (0 : Int) ≤ (lp : Int) - 1 := by omega
      have HB := Lib.hid hb
      clear hb HDS hp hq hr1
      go_wp2_with fail
      go_meet
      case rel => exact ⟨rfl, HB.out⟩
  case rest =>
    obtain ⟨rfl, hb⟩ := hcut
    replace hp := hp.keep hb
    replace hq := hq.keep hb
    replace hr1 := hr1.keep hb
    replace hB := below_step hB hb
    have HSP : Hid (plainL (addL (plainL (mulL (plainL (slopeL p)) q)) (plainL (mulL p (plainL (slopeL q))))) = plainL (slopeL (plainL (mulL p q)))) := (slope_prod p q).symm
    have HX := Lib.hid (And.intro hp (And.intro hq (And.intro hr1 hB)))
    clear hb HDS HVL HLP HLQ hrr hp hq hr1 hB HZ0
    go_upto_region 12 with fail
    have hBase : Below wc.heap.size wc wc.drew := (Below.refl _ _).drew
    refine wp_region_plan (.step 0 false (.step 3 false (.step 5 false (.step 7 false (.step 8 false (.step 1 true (.step 2 false (.step 4 true (.step 6 true (.step 9 true (.step 10 true (.step 11 true (.step 12 false (.step 13 false (.step 14 false (.nil)))))))))))))))) (by kernel_rfl) (by kernel_rfl) (by rfl) (by kernel_rfl) ?_
    iterate 5 (refine plan_read rfl (by rfl) (v := ?_) ?_ ?_; rotate_left 1; (intro W hW; have hW0 := below_step hBase hW; (try dsimp only at hW); go_simp <;> with_reducible rfl); simp only [List.getElem_toArray, List.getElem_cons_zero, List.getElem_cons_succ, Act.put, List.setIfInBounds_toArray, List.set_cons_zero, List.set_cons_succ])
    (refine plan_make rfl (by rfl) (fun K hK => ?_); go_simp; (refine (slopeP_any (plainL (mulL p q)) n1 A1 c1 _ HN1 (HX.out.2.2.1.keep hBase) hc1 (by omega)).mono ?_; rintro e w2 ⟨A5, n5, c5, rfl, HN5, hc5, hr5, hbx⟩); refine hK.out _ _ hbx ?_; clear hK K; replace hBase := below_step hBase hbx)
    have hs1 := strQ (c := c5) n5 HN5 hr5
    iterate 1 (refine plan_read rfl (by rfl) (v := ?_) ?_ ?_; rotate_left 1; (intro W hW; have hW0 := below_step hBase hW; (try dsimp only at hW); go_simp <;> with_reducible rfl); simp only [List.getElem_toArray, List.getElem_cons_zero, List.getElem_cons_succ, Act.put, List.setIfInBounds_toArray, List.set_cons_zero, List.set_cons_succ])
    (refine plan_make rfl (by rfl) (fun K hK => ?_); go_simp; (refine (slopeP_any p n A c _ HN (HX.out.1.keep hBase) hc (by omega)).mono ?_; rintro e w3 ⟨A6, n6, c6, rfl, HN6, hc6, hr6, hbx⟩); refine hK.out _ _ hbx ?_; clear hK K; replace hBase := below_step hBase hbx)
    have hn6 : n6 ≤ 60 := by
      have h1 := slope_len p
      rw [HN6.out, HN.out] at h1
      omega
    (refine plan_make rfl (by rfl) (fun K hK => ?_); go_simp; (refine (mulP_any (plainL (slopeL p)) q n6 m A6 B c6 d _ HN6 HM hr6 (HX.out.2.1.keep hBase) hc6 hd (by omega) (by omega)).mono ?_; rintro e w4 ⟨A7, n7, c7, rfl, HN7, hc7, hr7, hbx⟩); refine hK.out _ _ hbx ?_; clear hK K; replace hBase := below_step hBase hbx)
    have hn7 : n7 ≤ 120 := by
      have h1 := plain_len (mulL (plainL (slopeL p)) q)
      have h2 := mulL_length_le (plainL (slopeL p)) q
      rw [HN7.out] at h1
      rw [HN6.out, HM.out] at h2
      omega
    (refine plan_make rfl (by rfl) (fun K hK => ?_); go_simp; (refine (slopeP_any q m B d _ HM (HX.out.2.1.keep hBase) hd (by omega)).mono ?_; rintro e w5 ⟨A8, n8, c8, rfl, HN8, hc8, hr8, hbx⟩; replace hr7 := hr7.keep hbx); refine hK.out _ _ hbx ?_; clear hK K; replace hBase := below_step hBase hbx)
    have hn8 : n8 ≤ 60 := by
      have h1 := slope_len q
      rw [HN8.out, HM.out] at h1
      omega
    (refine plan_make rfl (by rfl) (fun K hK => ?_); go_simp; (refine (mulP_any p (plainL (slopeL q)) n n8 A A8 c c8 _ HN HN8 (HX.out.1.keep hBase) hr8 hc hc8 (by omega) (by omega)).mono ?_; rintro e w6 ⟨A9, n9, c9, rfl, HN9, hc9, hr9, hbx⟩; replace hr7 := hr7.keep hbx); refine hK.out _ _ hbx ?_; clear hK K; replace hBase := below_step hBase hbx)
    have hn9 : n9 ≤ 120 := by
      have h1 := plain_len (mulL p (plainL (slopeL q)))
      have h2 := mulL_length_le p (plainL (slopeL q))
      rw [HN9.out] at h1
      rw [HN8.out, HN.out] at h2
      omega
    (refine plan_make rfl (by rfl) (fun K hK => ?_); go_simp; (refine (addP_any (plainL (mulL (plainL (slopeL p)) q)) (plainL (mulL p (plainL (slopeL q)))) n7 n9 A7 A9 c7 c9 _ HN7 HN9 hr7 hr9 hc7 hc9 (by omega) (by omega)).mono ?_; rintro e w7 ⟨A10, n10, c10, rfl, HN10, hc10, hr10, hbx⟩; rw [HSP.out] at HN10 hr10); refine hK.out _ _ hbx ?_; clear hK K; replace hBase := below_step hBase hbx)
    have hs2 := strQ (c := c10) n10 HN10 hr10
    iterate 3 (refine plan_read rfl (by rfl) (v := ?_) ?_ ?_; rotate_left 1; (intro W hW; have hW0 := below_step hBase hW; (try dsimp only at hW); go_simp <;> with_reducible rfl); simp only [List.getElem_toArray, List.getElem_cons_zero, List.getElem_cons_succ, Act.put, List.setIfInBounds_toArray, List.set_cons_zero, List.set_cons_succ])
    refine plan_done ?_
    clear hs1 hs2
    go_wp2_with fail
    go_ret
    exact ⟨rfl, below_step HX.out.2.2.2 hBase⟩
end Go.Proofs.Ytojegpoilildaaa
