/-
  The walk of the law BundleRight: whether any bundle is right, any ticket's entry, its bytes, and which bundle any bytes begin with, is what the document says. Conditions: the package's table holds sixty-four words (for tags); errors.errorType holds the handle of the type error (EtC).
-/
import Derived.Test.YtmljhkdojopljaaGreatDoorQ10
import Derived.HandedShaped
namespace Go.Proofs.YtmljhkdojopljaaGreatDoor
set_option maxRecDepth 100000
open Go.RowKit
set_option linter.unusedSimpArgs false
set_option linter.unusedVariables false

theorem isAt_same {es : List ED} {t : Nat} {i j : Int} (hi : IsAt es t i) (hj : IsAt es t j) : i = j := by
  rcases hi with ⟨a, ha, rfl, hat, hab⟩ | ⟨rfl, ha⟩
  · rcases hj with ⟨b, hb, rfl, hbt, hbb⟩ | ⟨rfl, hb⟩
    · rcases Nat.lt_trichotomy a b with h | h | h
      · exact absurd hat (hbb a ha h)
      · rw [h]
      · exact absurd hbt (hab b hb h)
    · exact absurd hat (hb _ (List.getElem_mem ha))
  · rcases hj with ⟨b, hb, rfl, hbt, hbb⟩ | ⟨rfl, hb⟩
    · exact absurd hbt (ha _ (List.getElem_mem hb))
    · rfl
theorem readBun_len (b : List UInt8) : (readBun b).2.1.length ≤ 64 ∧ (readBun b).2.2.1.length ≤ 64 := by
  obtain ⟨v, es, gs, m, k, hb⟩ : ∃ v es gs m k, readBun b = (v, es, gs, m, k) := ⟨_, _, _, _, _, rfl⟩
  by_cases h : k = 0
  · subst h
    rw [hb]
    obtain ⟨h1, h2, _⟩ := right_b.1 (bun_good hb).1
    exact ⟨h1, (right_parts.1 h2).2⟩
  · obtain ⟨_, rfl, rfl, _⟩ := bun_bad hb h
    rw [hb]
    exact ⟨Nat.zero_le _, Nat.zero_le _⟩
set_option maxHeartbeats 16000000 in
theorem bundleright_core [Inhabited Tab] (v : Nat) (es : List ED) (gs : List Gn) (b : List UInt8) (n ec m gc tk nb f : Nat) (eA gA D : Option Addr) (w : World) (HN : Hid (es.length = n)) (HM : Hid (gs.length = m)) (HB : Hid (b.length = nb)) (hre : RdE w eA es) (hoe : okD w es) (hrg : RdG w gA gs) (hrb : Rd vB w D b) (hv : v < 18446744073709551616) (hfe : fitE (conE es)) (HF : Hid (fitG gs)) (hec : n ≤ ec) (hgc : m ≤ gc) (hbf : nb ≤ f) (hn63 : n ≤ 9223372036854775807) (hm63 : m ≤ 9223372036854775807) (hb63 : nb ≤ 9223372036854775807)
    (hml : ∀ x ∈ es, x.s.length ≤ 9223372036854775807) (HK : Hid (KTab w)) (hg : EtC w) :
    Calls Tryz.prog 3 #[aggB v eA n ec gA m gc, .int .u64 (tk : Int), .slice D nb f] w fun e w' => e = .returned (.bool true) ∧ Below w.heap.size w w' := by
  obtain ⟨hR, hB⟩ := box_three w 26 (.int .u64 (v : Int)) (.slice eA n ec) (.slice gA m gc)
  have HML := Lib.hid hml
  have HFE := Lib.hid hfe
  obtain ⟨SB, hSB⟩ : ∃ S, shortB es m = S := ⟨_, rfl⟩
  have HSB := Lib.hid hSB
  clear hml hSB hfe
  replace hre := hre.keep hB
  replace hoe := hoe.keep hB
  replace hrg := hrg.keep hB
  replace hrb := hrb.keep hB
  replace HK := Lib.hid (HK.out.keep hB)
  replace hg := hg.later hB
  unfold aggB
  go_enter Tryz.func3, Tryz.ntmps3
  go_upto_region 1 with fail
  generalize (w.alloc (.cells #[.int .u64 (v : Int), .slice eA n ec, .slice gA m gc] 26)) = w0 at hR hB hre hoe hrg hrb HK hg ⊢
  go_wp2_with fail
  refine (awake16_any _ HK hg).mono ?_
  rintro e₁ w1 ⟨rfl, hb⟩
  replace hR := hR.later hb
  replace hre := hre.keep hb
  replace hoe := hoe.keep hb
  replace hrg := hrg.keep hb
  replace hrb := hrb.keep hb
  replace hB := below_step hB hb
  clear hb
  clear HK hg
  go_wp2_with (refine wpList_load_part rfl 26 (.tmp 3) rfl w.heap.size 0 rfl _ _ hR (cellsB v eA n ec gA m gc) (by rfl) _ Tryz.underlying26 rfl (by exact size_bundle) ?_)
  refine (refshortB_any v es n ec m gc eA gA _ HN hre hn63 HML.out hm63).mono ?_
  rw [HSB.out]
  rintro e₁ w2 ⟨rfl, hb⟩
  replace hR := hR.later hb
  replace hre := hre.keep hb
  replace hoe := hoe.keep hb
  replace hrg := hrg.keep hb
  replace hrb := hrb.keep hb
  replace hB := below_step hB hb
  clear hb
  cases SB with
  | false =>
    go_wp2_with fail
    go_ret
    exact ⟨rfl, hB⟩
  | true =>
    have hn99 : n ≤ 99 ∧ m ≤ 99 := by
      have := HSB.out
      unfold shortB at this
      simp only [Bool.and_eq_true, decide_eq_true_eq] at this
      rw [HN.out] at this
      exact ⟨this.2.1, this.2.2⟩
    obtain ⟨hn9, hm9⟩ := hn99
    have HMS : Hid (∀ x ∈ es, x.s.length ≤ 70368744177664) := fun x hx => by
      have h1 := HSB.out
      unfold shortB at h1
      simp only [Bool.and_eq_true, decide_eq_true_eq] at h1
      have h2 : x ∈ es.take 99 := by rw [List.take_of_length_le (by rw [HN.out]; omega)]; exact hx
      have := h1.1 x h2
      omega
    by_cases hb4 : nb ≤ 4000
    · have hb40 : ¬ (4000 : Int) < (nb : Int) := by omega
      go_upto_region 5 with fail
      clear hb40
      obtain ⟨RB, hRB⟩ : ∃ S, rightB (conE es) gs = S := ⟨_, rfl⟩
      have HRB := Lib.hid hRB
      clear hRB
      go_wp2_with (refine wpList_load_part rfl 26 (.tmp 3) rfl w.heap.size 0 rfl _ _ hR (cellsB v eA n ec gA m gc) (by rfl) _ Tryz.underlying26 rfl (by exact size_bundle) ?_)
      refine (refrightB_any v es gs n ec m gc eA gA _ HN HM hre hrg (by omega) (by omega) HML.out).mono ?_
      rw [HRB.out]
      rintro e₁ w3 ⟨rfl, hb⟩
      replace hR := hR.later hb
      replace hre := hre.keep hb
      replace hoe := hoe.keep hb
      replace hrg := hrg.keep hb
      replace hrb := hrb.keep hb
      replace hB := below_step hB hb
      clear hb
      go_wp2_with (refine wpList_load_part rfl 26 (.tmp 3) rfl w.heap.size 0 rfl _ _ hR (cellsB v eA n ec gA m gc) (by rfl) _ Tryz.underlying26 rfl (by exact size_bundle) ?_)
      obtain ⟨L8, K8, HLK⟩ : ∃ L K, Hid (bytesBR v (conE es) gs = (L, K)) := ⟨_, _, Lib.hid rfl⟩
      have hby := bytesB_any v es gs n ec m gc eA gA _ HN HM hre hoe hrg hv HFE.out HF (by omega) (by omega) HML.out
      rw [HLK.out] at hby
      refine hby.mono ?_
      clear hby
      rintro e₁ w4 ⟨A8, n8, c8, rfl, HL8, hc8, hr8, hb⟩
      replace hR := hR.later hb
      replace hre := hre.keep hb
      replace hoe := hoe.keep hb
      replace hrg := hrg.keep hb
      replace hrb := hrb.keep hb
      replace hB := below_step hB hb
      clear hb
      go_upto_region 7 with fail
      go_cut [61] (fun u wx => u = .bool false ∧ Below w4.heap.size w4 wx)
      case first =>
        have hBase := (Below.refl w4.heap.size w4).drew
        cases RB with
        | true =>
          have hlk := HLK.out
          rw [bytesBR_ok HRB.out] at hlk
          injection hlk with hl hk
          subst hl hk
          have hs0 := strBz (c := c8) n8 HL8 hr8
          have c0 : ∀ W, Below w4.heap.size w4 W → W.cell? ⟨w.heap.size, 0, none⟩ = some (.int .u64 (v : Int)) := fun W hW => (hR.later hW).cell rfl
          have c1 : ∀ W, Below w4.heap.size w4 W → W.cell? ⟨w.heap.size, 1, none⟩ = some (.slice eA n ec) := fun W hW => (hR.later hW).cell rfl
          have c2 : ∀ W, Below w4.heap.size w4 W → W.cell? ⟨w.heap.size, 2, none⟩ = some (.slice gA m gc) := fun W hW => (hR.later hW).cell rfl
          have HBY := Lib.hid (fun W (hW : Below w4.heap.size w4 W) => refbytesB_any v es gs n ec m gc eA gA W HN HM (hre.keep hW) (hoe.keep hW) (hrg.keep hW) hv HFE.out HF HRB.out)
          clear HLK
          generalize bytesB v (conE es) gs = L at HL8 hr8 hs0 HBY
          clear hR hre hoe hrg hrb hr8
          refine wp_region_plan (.step 0 false (.step 1 false (.step 2 false (.step 3 false (.step 4 false (.step 5 false (.step 6 false (.step 7 false (.step 8 true (.step 9 false (.step 10 false (.step 11 false (.step 12 false (.step 13 false (.step 14 false (.step 15 false (.step 16 false (.step 17 false (.step 18 false (.step 19 false (.step 20 false (.step 21 false (.step 22 false (.step 23 false (.step 24 false (.step 25 false (.nil))))))))))))))))))))))))))) (by kernel_rfl) (by kernel_rfl) (by rfl) (by kernel_rfl) ?_
          iterate 8 (refine plan_read rfl (by rfl) (v := ?_) ?_ ?_; rotate_left 1; (intro W hW; have hW0 := below_step hBase hW; (try dsimp only at hW); go_simp <;> with_reducible rfl); simp only [List.getElem_toArray, List.getElem_cons_zero, List.getElem_cons_succ, Act.put, List.setIfInBounds_toArray, List.set_cons_zero, List.set_cons_succ])
          (refine plan_make rfl (by rfl) (fun K hK => ?_); go_simp; (refine (HBY.out _ hBase).mono ?_; rintro e' w5 ⟨v5, rfl, hown5, hbx⟩); refine hK.out _ _ hbx ?_; clear hK K; replace hBase := below_step hBase hbx)
          obtain ⟨A5, c5, rfl, hc5, hr5⟩ := own_slice hown5
          rw [HL8.out]
          have hs1 := strBz (c := c5) n8 HL8 hr5
          clear hown5 hr5 hc5
          generalize strL L = SL at hs0 hs1
          iterate 5 (refine plan_read rfl (by rfl) (v := ?_) ?_ ?_; rotate_left 1; (intro W hW; have hW0 := below_step hBase hW; (try dsimp only at hW); go_simp <;> with_reducible rfl); simp only [List.getElem_toArray, List.getElem_cons_zero, List.getElem_cons_succ, Act.put, List.setIfInBounds_toArray, List.set_cons_zero, List.set_cons_succ])
          iterate 3 (refine plan_read rfl (by rfl) (v := ?_) ?_ ?_; rotate_left 1; (intro W hW; have hW0 := below_step hBase hW; (try dsimp only at hW); go_simp <;> with_reducible rfl); simp only [List.getElem_toArray, List.getElem_cons_zero, List.getElem_cons_succ, Act.put, List.setIfInBounds_toArray, List.set_cons_zero, List.set_cons_succ])
          iterate 7 (refine plan_skip rfl (by rfl) ?_; simp only [List.getElem_toArray, List.getElem_cons_zero, List.getElem_cons_succ, Act.put, List.setIfInBounds_toArray, List.set_cons_zero, List.set_cons_succ])
          iterate 2 (refine plan_read rfl (by rfl) (v := ?_) ?_ ?_; rotate_left 1; (intro W hW; have hW0 := below_step hBase hW; (try dsimp only at hW); go_simp <;> with_reducible rfl); simp only [List.getElem_toArray, List.getElem_cons_zero, List.getElem_cons_succ, Act.put, List.setIfInBounds_toArray, List.set_cons_zero, List.set_cons_succ])
          refine plan_done ?_
          clear hs0 hs1 c0 c1 c2
          go_wp2_with fail
          go_meet
          case rel => exact ⟨rfl, hBase⟩
        | false =>
          have hlk := HLK.out
          rw [bytesBR_no HRB.out] at hlk
          injection hlk with hl hk
          subst hl hk
          have en8 : n8 = 0 := HL8.out.symm
          subst en8
          clear hR hre hoe hrg hrb hr8
          refine wp_region_plan (.step 0 false (.step 1 false (.step 2 false (.step 3 false (.step 4 false (.step 5 false (.step 6 false (.step 7 false (.step 8 true (.step 9 false (.step 10 false (.step 11 false (.step 12 false (.step 13 false (.step 14 false (.step 15 false (.step 16 false (.step 17 false (.step 18 false (.step 19 false (.step 20 false (.step 21 false (.step 22 false (.step 23 false (.step 24 false (.step 25 false (.nil))))))))))))))))))))))))))) (by kernel_rfl) (by kernel_rfl) (by rfl) (by kernel_rfl) ?_
          iterate 2 (refine plan_read rfl (by rfl) (v := ?_) ?_ ?_; rotate_left 1; (intro W hW; have hW0 := below_step hBase hW; (try dsimp only at hW); go_simp <;> with_reducible rfl); simp only [List.getElem_toArray, List.getElem_cons_zero, List.getElem_cons_succ, Act.put, List.setIfInBounds_toArray, List.set_cons_zero, List.set_cons_succ])
          iterate 10 (refine plan_skip rfl (by rfl) ?_; simp only [List.getElem_toArray, List.getElem_cons_zero, List.getElem_cons_succ, Act.put, List.setIfInBounds_toArray, List.set_cons_zero, List.set_cons_succ])
          iterate 14 (refine plan_read rfl (by rfl) (v := ?_) ?_ ?_; rotate_left 1; (intro W hW; have hW0 := below_step hBase hW; (try dsimp only at hW); go_simp <;> with_reducible rfl); simp only [List.getElem_toArray, List.getElem_cons_zero, List.getElem_cons_succ, Act.put, List.setIfInBounds_toArray, List.set_cons_zero, List.set_cons_succ])
          refine plan_done ?_
          go_wp2_with fail
          go_meet
          case rel => exact ⟨rfl, hBase⟩
      case rest =>
      rename World => w5
      obtain ⟨rfl, hb⟩ := hcut
      replace hR := hR.later hb
      replace hre := hre.keep hb
      replace hoe := hoe.keep hb
      replace hrg := hrg.keep hb
      replace hrb := hrb.keep hb
      replace hB := below_step hB hb
      clear hb
      clear HL8 hr8 hc8
      go_wp2_with (refine wpList_load_part rfl 26 (.tmp 3) rfl w.heap.size 0 rfl _ _ hR (cellsB v eA n ec gA m gc) (by rfl) _ Tryz.underlying26 rfl (by exact size_bundle) ?_)
      refine (findB_any v es n ec m gc tk eA gA _ HN hre hoe (by omega) HMS.out).mono ?_
      rintro e' w6 ⟨t6, en6, A6, q6, c6, k6, s6, rfl, HQ6, hc6, hr6, hb, HD6⟩
      replace hR := hR.later hb
      replace hre := hre.keep hb
      replace hoe := hoe.keep hb
      replace hrg := hrg.keep hb
      replace hrb := hrb.keep hb
      replace hB := below_step hB hb
      clear hb
      unfold aggN
      have hRn : Row (w6.alloc (.cells #[.int .u64 0, .int .u64 0, .slice none 0 0] 35)) w6.heap.size 35 [.int .u64 0, .int .u64 0, .slice none 0 0] := Row.new w6 _ _ _ rfl
      have hRE := hRn.setRow [.int .u64 (t6 : Int), .int .u64 (en6 : Int), .slice A6 q6 c6]
      have hb7 : Below w6.heap.size w6 ((w6.alloc (.cells #[.int .u64 0, .int .u64 0, .slice none 0 0] 35)).setRow w6.heap.size [.int .u64 (t6 : Int), .int .u64 (en6 : Int), .slice A6 q6 c6].toArray) := below_setRow (below_new (Below.refl _ _) _) (Nat.le_refl _) _
      go_upto_region 10 with (refine wpList_store_row rfl 35 (.tmp 10) (.tmp 66) rfl w6.heap.size rfl [.int .u64 (t6 : Int), .int .u64 (en6 : Int), .slice A6 q6 c6] rfl _ _ hRn (by exact size_entry) rfl (one_three _ _ _ rfl rfl rfl) ?_)
      generalize (w6.alloc (.cells #[.int .u64 0, .int .u64 0, .slice none 0 0] 35)).setRow w6.heap.size [.int .u64 (t6 : Int), .int .u64 (en6 : Int), .slice A6 q6 c6].toArray = w7 at hRE hb7 ⊢
      replace hR := hR.later hb7
      replace hre := hre.keep hb7
      replace hoe := hoe.keep hb7
      replace hrg := hrg.keep hb7
      replace hrb := hrb.keep hb7
      replace hB := below_step hB hb7
      replace hr6 := hr6.keep hb7
      clear hb7
      clear hRn
      generalize w6.heap.size = gE at hRE ⊢
      go_wp2_with (refine wpList_load_part rfl 26 (.tmp 3) rfl w.heap.size 0 rfl _ _ hR (cellsB v eA n ec gA m gc) (by rfl) _ Tryz.underlying26 rfl (by exact size_bundle) ?_)
      refine (reffindB_any v es n ec m gc tk eA gA _ HN hre (by omega)).mono ?_
      rintro e' w8 ⟨⟨i8, rfl, hi8⟩, hb⟩
      replace hR := hR.later hb
      replace hre := hre.keep hb
      replace hoe := hoe.keep hb
      replace hrg := hrg.keep hb
      replace hrb := hrb.keep hb
      replace hB := below_step hB hb
      replace hr6 := hr6.keep hb
      replace hRE := hRE.later hb
      clear hb
      have HI8 := Lib.hid hi8
      clear hi8
      go_upto_region 11 with fail
      go_cut [100] (fun u wx => u = .bool false ∧ Below w8.heap.size w8 wx)
      case first =>
        have hBase := (Below.refl w8.heap.size w8).drew
        have e0 : ∀ W, Below w8.heap.size w8 W → W.cell? ⟨gE, 0, none⟩ = some (.int .u64 (t6 : Int)) := fun W hW => (hRE.later hW).cell rfl
        have e1 : ∀ W, Below w8.heap.size w8 W → W.cell? ⟨gE, 1, none⟩ = some (.int .u64 (en6 : Int)) := fun W hW => (hRE.later hW).cell rfl
        have e2 : ∀ W, Below w8.heap.size w8 W → W.cell? ⟨gE, 2, none⟩ = some (.slice A6 q6 c6) := fun W hW => (hRE.later hW).cell rfl
        have c1 : ∀ W, Below w8.heap.size w8 W → W.cell? ⟨w.heap.size, 1, none⟩ = some (.slice eA n ec) := fun W hW => (hR.later hW).cell rfl
        have hd6 := HD6.out
        rcases hd6 with ⟨k, hkl, rfl, h2, h3⟩ | ⟨rfl, h2, h3⟩
        · have ei := isAt_same HI8.out h2
          subst ei
          obtain ⟨bb, o, rfl, hbb, hrng, _, _, _⟩ := hre.one hkl
          have hxr := (hoe _ (List.getElem_mem hkl)).2
          have HEQ : Hid (decide ((t6, en6, s6) = (es[k].t, es[k].e, es[k].s)) = true) := decide_eq_true h3
          have h0 : w8.cell? ⟨bb, o + k * 3, none⟩ = some (.int .u64 (es[k].t : Int)) := hrng 0 _ rfl
          have h1 : w8.cell? ⟨bb, o + k * 3 + 1, none⟩ = some (.int .u64 (es[k].e : Int)) := hrng 1 _ rfl
          have h4 : w8.cell? ⟨bb, o + k * 3 + 2, none⟩ = some (.slice es[k].A es[k].s.length es[k].c) := hrng 2 _ rfl
          have i0 : (0 : Int) ≤ (k : Int) := by omega
          have i1 : (k : Int) < (n : Int) := by rw [← HN.out]; omega
          clear hrng h2 h3 HD6 HI8 hR hre hoe hrg hrb hRE
          generalize es[k].t = xt at *
          generalize es[k].e = xe at *
          generalize es[k].A = xA at *
          generalize es[k].c = xc at *
          generalize es[k].s = xs at *
          obtain ⟨q, hq⟩ : ∃ q, xs.length = q := ⟨_, rfl⟩
          have HQ := Lib.hid hq
          rw [hq] at h4
          have d0 : ∀ W, Below w8.heap.size w8 W → W.cell? ⟨bb, o + k * 3, none⟩ = some (.int .u64 (xt : Int)) := fun W hW => (hW.cell (p := ⟨bb, o + k * 3, none⟩) (World.block_lt_of_cell? w8 _ h0)).trans h0
          have d1 : ∀ W, Below w8.heap.size w8 W → W.cell? ⟨bb, o + k * 3 + 1, none⟩ = some (.int .u64 (xe : Int)) := fun W hW => (hW.cell (p := ⟨bb, o + k * 3 + 1, none⟩) (World.block_lt_of_cell? w8 _ h1)).trans h1
          have d2 : ∀ W, Below w8.heap.size w8 W → W.cell? ⟨bb, o + k * 3 + 2, none⟩ = some (.slice xA q xc) := fun W hW => (hW.cell (p := ⟨bb, o + k * 3 + 2, none⟩) (World.block_lt_of_cell? w8 _ h4)).trans h4
          have hk0 : ¬ (k : Int) < 0 := by omega
          clear h0 h1 h4 hq
          refine wp_region_plan (.step 0 false (.step 1 false (.step 2 false (.step 3 false (.step 4 false (.step 5 false (.step 6 false (.step 7 false (.step 8 false (.step 9 false (.step 10 false (.step 11 false (.step 12 true (.step 13 false (.step 14 false (.step 15 false (.step 16 false (.step 17 false (.step 18 false (.step 19 false (.step 20 false (.step 21 false (.step 22 false (.step 23 false (.step 24 false (.step 25 true (.step 26 false (.step 27 false (.step 28 false (.step 29 false (.nil))))))))))))))))))))))))))))))) (by kernel_rfl) (by kernel_rfl) (by rfl) (by kernel_rfl) ?_
          iterate 12 (refine plan_read rfl (by rfl) (v := ?_) ?_ ?_; rotate_left 1; (intro W hW; have hW0 := below_step hBase hW; (try dsimp only at hW); go_simp <;> with_reducible rfl); simp only [List.getElem_toArray, List.getElem_cons_zero, List.getElem_cons_succ, Act.put, List.setIfInBounds_toArray, List.set_cons_zero, List.set_cons_succ])
          (refine plan_make rfl (by rfl) (fun K hK => ?_); go_simp; (refine (refentryB_any t6 en6 xt xe s6 xs q6 c6 q xc A6 xA _ HQ6 HQ (hr6.keep hBase) (hxr.keep hBase)).mono ?_; rw [HEQ.out]; rintro e₁ w9 ⟨rfl, hbx⟩); refine hK.out _ _ hbx ?_; clear hK K; replace hBase := below_step hBase hbx)
          iterate 4 (refine plan_read rfl (by rfl) (v := ?_) ?_ ?_; rotate_left 1; (intro W hW; have hW0 := below_step hBase hW; (try dsimp only at hW); go_simp <;> with_reducible rfl); simp only [List.getElem_toArray, List.getElem_cons_zero, List.getElem_cons_succ, Act.put, List.setIfInBounds_toArray, List.set_cons_zero, List.set_cons_succ])
          iterate 3 (refine plan_read rfl (by rfl) (v := ?_) ?_ ?_; rotate_left 1; (intro W hW; have hW0 := below_step hBase hW; (try dsimp only at hW); go_simp <;> with_reducible rfl); simp only [List.getElem_toArray, List.getElem_cons_zero, List.getElem_cons_succ, Act.put, List.setIfInBounds_toArray, List.set_cons_zero, List.set_cons_succ])
          iterate 8 (refine plan_skip rfl (by rfl) ?_; simp only [List.getElem_toArray, List.getElem_cons_zero, List.getElem_cons_succ, Act.put, List.setIfInBounds_toArray, List.set_cons_zero, List.set_cons_succ])
          iterate 2 (refine plan_read rfl (by rfl) (v := ?_) ?_ ?_; rotate_left 1; (intro W hW; have hW0 := below_step hBase hW; (try dsimp only at hW); go_simp <;> with_reducible rfl); simp only [List.getElem_toArray, List.getElem_cons_zero, List.getElem_cons_succ, Act.put, List.setIfInBounds_toArray, List.set_cons_zero, List.set_cons_succ])
          refine plan_done ?_
          clear e0 e1 e2 c1 d0 d1 d2
          go_wp2_with fail
          go_meet
          case rel => exact ⟨rfl, hBase⟩
        · have ei := isAt_same HI8.out h2
          subst ei
          injection h3 with a1 h3
          injection h3 with a2 a3
          subst a1 a2 a3
          have eq6 : q6 = 0 := HQ6.out.symm
          subst eq6
          clear h2 HD6 HI8 hR hre hoe hrg hrb hRE c1
          refine wp_region_plan (.step 0 false (.step 1 false (.step 2 false (.step 3 false (.step 4 false (.step 5 false (.step 6 false (.step 7 false (.step 8 false (.step 9 false (.step 10 false (.step 11 false (.step 12 true (.step 13 false (.step 14 false (.step 15 false (.step 16 false (.step 17 false (.step 18 false (.step 19 false (.step 20 false (.step 21 false (.step 22 false (.step 23 false (.step 24 false (.step 25 true (.step 26 false (.step 27 false (.step 28 false (.step 29 false (.nil))))))))))))))))))))))))))))))) (by kernel_rfl) (by kernel_rfl) (by rfl) (by kernel_rfl) ?_
          iterate 3 (refine plan_read rfl (by rfl) (v := ?_) ?_ ?_; rotate_left 1; (intro W hW; have hW0 := below_step hBase hW; (try dsimp only at hW); go_simp <;> with_reducible rfl); simp only [List.getElem_toArray, List.getElem_cons_zero, List.getElem_cons_succ, Act.put, List.setIfInBounds_toArray, List.set_cons_zero, List.set_cons_succ])
          iterate 12 (refine plan_skip rfl (by rfl) ?_; simp only [List.getElem_toArray, List.getElem_cons_zero, List.getElem_cons_succ, Act.put, List.setIfInBounds_toArray, List.set_cons_zero, List.set_cons_succ])
          iterate 10 (refine plan_read rfl (by rfl) (v := ?_) ?_ ?_; rotate_left 1; (intro W hW; have hW0 := below_step hBase hW; (try dsimp only at hW); go_simp <;> with_reducible rfl); simp only [List.getElem_toArray, List.getElem_cons_zero, List.getElem_cons_succ, Act.put, List.setIfInBounds_toArray, List.set_cons_zero, List.set_cons_succ])
          (refine plan_make rfl (by rfl) (fun K hK => ?_); go_simp; (refine (refentryB_any 0 0 0 0 [] [] 0 c6 0 0 A6 none _ (Lib.hid rfl) (Lib.hid rfl) Rd.nil Rd.nil).mono ?_; rw [decide_eq_true rfl]; rintro e₁ w9 ⟨rfl, hbx⟩); refine hK.out _ _ hbx ?_; clear hK K; replace hBase := below_step hBase hbx)
          iterate 4 (refine plan_read rfl (by rfl) (v := ?_) ?_ ?_; rotate_left 1; (intro W hW; have hW0 := below_step hBase hW; (try dsimp only at hW); go_simp <;> with_reducible rfl); simp only [List.getElem_toArray, List.getElem_cons_zero, List.getElem_cons_succ, Act.put, List.setIfInBounds_toArray, List.set_cons_zero, List.set_cons_succ])
          refine plan_done ?_
          clear e0 e1 e2
          go_wp2_with fail
          go_meet
          case rel => exact ⟨rfl, hBase⟩
      case rest =>
      rename World => w9
      obtain ⟨rfl, hb⟩ := hcut
      replace hR := hR.later hb
      replace hre := hre.keep hb
      replace hoe := hoe.keep hb
      replace hrg := hrg.keep hb
      replace hrb := hrb.keep hb
      replace hB := below_step hB hb
      clear hb
      clear HD6 HI8 hRE hr6 HQ6 hc6
      go_wp2_with fail
      refine (readBunP_any b nb f D _ HB hrb (by omega) hbf).mono ?_
      rintro e' w10 ⟨eA1, es1, n1, ec1, gA1, m1, gc1, rfl, HE1, HN1, HM1, hec1, hgc1, hre1, hoe1, hrg1, hb⟩
      unfold aggB
      replace hR := hR.later hb
      replace hre := hre.keep hb
      replace hoe := hoe.keep hb
      replace hrg := hrg.keep hb
      replace hrb := hrb.keep hb
      replace hB := below_step hB hb
      clear hb
      have hRn : Row (w10.alloc (.cells #[.int .u64 0, .slice none 0 0, .slice none 0 0] 26)) w10.heap.size 26 zeroB := Row.new w10 _ _ _ rfl
      have HRB2 := Lib.hid (refreadBun_any b nb f D)
      have hlen := readBun_len b
      generalize readBun b = Y at *
      obtain ⟨y1, y2, y3, y4, y5⟩ := Y
      dsimp only at HE1 HM1 hrg1 hlen ⊢
      have hn1 : n1 ≤ 1000000000 := by have h1 := congrArg List.length HE1.out; rw [conE_length, HN1.out] at h1; omega
      have hm1 : m1 ≤ 1000000000 := by have h1 := HM1.out; omega
      clear hlen
      have hRz := hRn.setRow [.int .u64 (y1 : Int), .slice eA1 n1 ec1, .slice gA1 m1 gc1]
      have hbn : Below w10.heap.size w10 ((w10.alloc (.cells #[.int .u64 0, .slice none 0 0, .slice none 0 0] 26)).setRow w10.heap.size [.int .u64 (y1 : Int), .slice eA1 n1 ec1, .slice gA1 m1 gc1].toArray) := below_setRow (below_new (Below.refl _ _) _) (Nat.le_refl _) _
      go_upto_region 14 with (refine wpList_store_row rfl 26 (.tmp 13) (.tmp 104) rfl w10.heap.size rfl [.int .u64 (y1 : Int), .slice eA1 n1 ec1, .slice gA1 m1 gc1] rfl _ _ hRn (by exact size_bundle) rfl (one_three _ _ _ rfl rfl rfl) ?_)
      generalize (w10.alloc (.cells #[.int .u64 0, .slice none 0 0, .slice none 0 0] 26)).setRow w10.heap.size [.int .u64 (y1 : Int), .slice eA1 n1 ec1, .slice gA1 m1 gc1].toArray = w11 at hRz hbn ⊢
      replace hR := hR.later hbn
      replace hre := hre.keep hbn
      replace hoe := hoe.keep hbn
      replace hrg := hrg.keep hbn
      replace hrb := hrb.keep hbn
      replace hB := below_step hB hbn
      replace hre1 := hre1.keep hbn
      replace hoe1 := hoe1.keep hbn
      replace hrg1 := hrg1.keep hbn
      clear hbn
      clear hRn
      generalize w10.heap.size = gz at hRz ⊢
      go_wp2_with fail
      refine (HRB2.out _ HB hrb (by omega) hbf).mono ?_
      rintro e' w12 ⟨eA2, es2, n2, ec2, gA2, m2, gc2, rfl, HE2, HN2, HM2, hec2, hgc2, hre2, hoe2, hrg2, hb⟩
      unfold aggB
      dsimp only at HE2 HM2 hrg2 ⊢
      replace hR := hR.later hb
      replace hre := hre.keep hb
      replace hoe := hoe.keep hb
      replace hrg := hrg.keep hb
      replace hrb := hrb.keep hb
      replace hB := below_step hB hb
      replace hre1 := hre1.keep hb
      replace hoe1 := hoe1.keep hb
      replace hrg1 := hrg1.keep hb
      replace hRz := hRz.later hb
      clear hb
      clear HRB2
      have hRn : Row (w12.alloc (.cells #[.int .u64 0, .slice none 0 0, .slice none 0 0] 26)) w12.heap.size 26 zeroB := Row.new w12 _ _ _ rfl
      have hRw := hRn.setRow [.int .u64 (y1 : Int), .slice eA2 n2 ec2, .slice gA2 m2 gc2]
      have hbn : Below w12.heap.size w12 ((w12.alloc (.cells #[.int .u64 0, .slice none 0 0, .slice none 0 0] 26)).setRow w12.heap.size [.int .u64 (y1 : Int), .slice eA2 n2 ec2, .slice gA2 m2 gc2].toArray) := below_setRow (below_new (Below.refl _ _) _) (Nat.le_refl _) _
      go_upto_region 15 with (refine wpList_store_row rfl 26 (.tmp 16) (.tmp 110) rfl w12.heap.size rfl [.int .u64 (y1 : Int), .slice eA2 n2 ec2, .slice gA2 m2 gc2] rfl _ _ hRn (by exact size_bundle) rfl (one_three _ _ _ rfl rfl rfl) ?_)
      generalize (w12.alloc (.cells #[.int .u64 0, .slice none 0 0, .slice none 0 0] 26)).setRow w12.heap.size [.int .u64 (y1 : Int), .slice eA2 n2 ec2, .slice gA2 m2 gc2].toArray = w13 at hRw hbn ⊢
      replace hR := hR.later hbn
      replace hre := hre.keep hbn
      replace hoe := hoe.keep hbn
      replace hrg := hrg.keep hbn
      replace hrb := hrb.keep hbn
      replace hB := below_step hB hbn
      replace hre1 := hre1.keep hbn
      replace hoe1 := hoe1.keep hbn
      replace hrg1 := hrg1.keep hbn
      replace hRz := hRz.later hbn
      replace hre2 := hre2.keep hbn
      replace hoe2 := hoe2.keep hbn
      replace hrg2 := hrg2.keep hbn
      clear hbn
      clear hRn
      generalize w12.heap.size = gw at hRw ⊢
      have eE : Hid (decide ((y1, conE es1, y3) = (y1, conE es2, y3)) = true) := decide_eq_true (by rw [HE1.out, HE2.out])
      go_wp2_with (refine wpList_load_part rfl 26 (.tmp 3) rfl w.heap.size 0 rfl _ _ hR (cellsB v eA n ec gA m gc) (by rfl) _ Tryz.underlying26 rfl (by exact size_bundle) ?_)
      refine (rightB_any v es gs n ec m gc eA gA _ HN HM hre hrg HF (by omega) (by omega) HML.out).mono ?_
      rw [HRB.out]
      rintro e' w14 ⟨rfl, hb⟩
      replace hR := hR.later hb
      replace hre := hre.keep hb
      replace hoe := hoe.keep hb
      replace hrg := hrg.keep hb
      replace hrb := hrb.keep hb
      replace hB := below_step hB hb
      replace hre1 := hre1.keep hb
      replace hoe1 := hoe1.keep hb
      replace hrg1 := hrg1.keep hb
      replace hRz := hRz.later hb
      replace hre2 := hre2.keep hb
      replace hoe2 := hoe2.keep hb
      replace hrg2 := hrg2.keep hb
      replace hRw := hRw.later hb
      clear hb
      have z0 : w14.cell? ⟨gz, 0, none⟩ = some (.int .u64 (y1 : Int)) := hRz.cell rfl
      have z1 : w14.cell? ⟨gz, 1, none⟩ = some (.slice eA1 n1 ec1) := hRz.cell rfl
      have z2 : w14.cell? ⟨gz, 2, none⟩ = some (.slice gA1 m1 gc1) := hRz.cell rfl
      have x0 : w14.cell? ⟨gw, 0, none⟩ = some (.int .u64 (y1 : Int)) := hRw.cell rfl
      have x1 : w14.cell? ⟨gw, 1, none⟩ = some (.slice eA2 n2 ec2) := hRw.cell rfl
      have x2 : w14.cell? ⟨gw, 2, none⟩ = some (.slice gA2 m2 gc2) := hRw.cell rfl
      have hRB2 : (RB == RB) = true := by cases RB <;> rfl
      go_wp2_with fail
      refine (sameB_any y1 y1 es1 es2 y3 y3 n1 ec1 m1 gc1 n2 ec2 m2 gc2 eA1 gA1 eA2 gA2 w14 HN1 HM1 HN2 HM2 hre1 hoe1 hrg1 hre2 hoe2 hrg2 hn1 hm1).mono ?_
      rw [eE.out]
      rintro e' w15 ⟨rfl, hb⟩
      replace hB := below_step hB hb
      clear hb
      clear z0 z1 z2 x0 x1 x2
      go_wp2_with fail
      go_ret
      exact ⟨rfl, hB⟩
    · have hb40 : (4000 : Int) < (nb : Int) := by omega
      go_wp2_with fail
      go_ret
      exact ⟨rfl, hB⟩
end Go.Proofs.YtmljhkdojopljaaGreatDoor
/-
  The law BundleRight of layer 16, at whatever comes in, whatever words the table of layer 2 holds. Condition: errors.errorType holds the handle of the type error (EtC).
-/
namespace Go.Proofs.YtmljhkdojopljaaGreatDoor
set_option maxRecDepth 100000
open Go.RowKit Go.WideShapes
set_option linter.unusedSimpArgs false
set_option linter.unusedVariables false

theorem bundleright_any (v0 v1 v2 : Value) (W : World) {H : Type} {enc : TypeId × Value → H} {base : Nat} {d0 d1 d2 : DataW H} {p0 p1 p2 : List MemPlace}
    (hv0 : Value.okWide Tryz.prog W .any base 26 v0) (ht0 : DataW.Trod enc Tryz.prog W 0 (fun _ => true) true 26 v0 d0 p0) (hv1 : Value.okWide Tryz.prog W .any base 22 v1) (ht1 : DataW.Trod enc Tryz.prog W 0 (fun _ => true) true 22 v1 d1 p1) (hv2 : Value.okWide Tryz.prog W .any base 27 v2) (ht2 : DataW.Trod enc Tryz.prog W 0 (fun _ => true) true 27 v2 d2 p2) (hg : EtC W) (hsh : W.ShapedOpen Tryz.prog) :
    Calls Tryz.prog 3 #[v0, v1, v2] W fun e w' => e = .returned (.bool true) ∧ Below W.heap.size W w' := by
  obtain ⟨I, hk⟩ := tab_of_open hsh
  obtain ⟨v, es, gs, eA, gA, ec, gc, rfl, hv, hec, hgc, hecm, hgcm, ⟨hre, hoe, hml, hfe⟩, hrg, hfg⟩ := open_bundle hv0 ht0
  obtain ⟨tk, rfl⟩ := open_u64B hv1 ht1
  obtain ⟨b, D, f, rfl, hf, hfm, hrb⟩ := open_bytes hv2 ht2
  exact bundleright_core v es gs b _ ec _ gc tk _ f eA gA D W (Lib.hid rfl) (Lib.hid rfl) (Lib.hid rfl) hre hoe hrg hrb hv hfe hfg hec hgc hf (by omega) (by omega) (by omega) hml (Lib.hid hk) hg
end Go.Proofs.YtmljhkdojopljaaGreatDoor
/-
  The walk of the law BundleBack: a bundle that is right is read from its bytes as it was, whatever is behind, and opened from its sealed ones; what is read is right, and has just these bytes; what is opened, and sealed again, likewise. Conditions: the package's table holds sixty-four words (for tags); errors.errorType holds the handle of the type error (EtC).
-/
namespace Go.Proofs.YtmljhkdojopljaaGreatDoor
set_option maxRecDepth 100000
open Go.RowKit
set_option linter.unusedSimpArgs false
set_option linter.unusedVariables false

theorem smallB_parts {cs : List Tm} {n m : Nat} (h : smallB cs n m = true) : shortT cs = true ∧ n ≤ 300 ∧ m ≤ 4000 := by
  unfold smallB at h
  simpa using h
theorem shortB_parts {es : List ED} {n m : Nat} (HN : es.length = n) (h : shortB es m = true) : n ≤ 99 ∧ m ≤ 99 ∧ ∀ x ∈ es, x.s.length ≤ 99 := by
  unfold shortB at h
  simp only [Bool.and_eq_true, decide_eq_true_eq] at h
  rw [HN] at h
  refine ⟨h.2.1, h.2.2, fun x hx => h.1 x ?_⟩
  rw [List.take_of_length_le (by omega)]
  exact hx
theorem short_pB {ts : List TD} {p : Nat} (HP : Hid (ts.length = p)) (h : shortT (conT ts) = true) : p ≤ 400 := by
  unfold shortT at h
  rw [decide_eq_true_eq, conT_length, HP.out] at h
  exact h.1
theorem termsE_lenB {K : Int} {cs : List Tm} {key msg : List UInt8} (h : lenT cs) (hk : key.length ≤ 1000000000) (hm : msg.length ≤ 1000000000) : lenT (termsE K cs (key, msg)) := by
  unfold termsE
  split
  · exact h.put hk hm
  · exact h
theorem opened_len [Inhabited Tab] (K : Int) (cs : List Tm) (key b : List UInt8) : (openB K cs key b).2.1.length ≤ 64 ∧ (openB K cs key b).2.2.1.length ≤ 64 := by
  unfold openB
  split
  · exact ⟨Nat.zero_le _, Nat.zero_le _⟩
  · split
    · exact ⟨Nat.zero_le _, Nat.zero_le _⟩
    · exact readBun_len b
set_option maxHeartbeats 16000000 in
theorem bundleback_core [Inhabited Tab] (Kn : Int) (ts : List TD) (key : List UInt8) (p nk : Nat) (A B : Option Addr) (c bd : Nat) (v : Nat) (es : List ED) (gs : List Gn) (b : List UInt8) (n ec m gc nb f : Nat) (eA gA D : Option Addr) (w : World) (HP : Hid (ts.length = p)) (hT : RdT w A ts) (hok : okT w ts) (hmlT : ∀ x ∈ ts, x.k.length ≤ 9223372036854775807 ∧ x.m.length ≤ 9223372036854775807) (hc : p ≤ c) (hp63 : p ≤ 9223372036854775807)
    (HNK : Hid (key.length = nk)) (hrk : Rd vB w B key) (hnb : nk ≤ bd) (hnk63 : nk ≤ 9223372036854775807) (HN : Hid (es.length = n)) (HM : Hid (gs.length = m)) (HB : Hid (b.length = nb)) (hre : RdE w eA es) (hoe : okD w es) (hrg : RdG w gA gs) (hrb : Rd vB w D b) (hv : v < 18446744073709551616) (hfe : fitE (conE es)) (HF : Hid (fitG gs)) (hec : n ≤ ec) (hgc : m ≤ gc) (hbf : nb ≤ f) (hn63 : n ≤ 9223372036854775807) (hm63 : m ≤ 9223372036854775807) (hb63 : nb ≤ 9223372036854775807)
    (hml : ∀ x ∈ es, x.s.length ≤ 9223372036854775807) (HK : Hid (KTab w)) (hg : EtC w) :
    Calls Tryz.prog 4 #[.agg #[.int .i64 Kn, .slice A p c], .slice B nk bd, aggB v eA n ec gA m gc, .slice D nb f] w fun e w' => e = .returned (.bool true) ∧ Below w.heap.size w w' := by
  obtain ⟨i0, hi, hz0, hz1, hz2⟩ := info_parts info_u8
  obtain ⟨hRg, hB0⟩ := box_rows w 48 (.int .i64 Kn) (.slice A p c)
  obtain ⟨hR, hBa⟩ := box_three (w.alloc (.cells #[.int .i64 Kn, .slice A p c] 48)) 26 (.int .u64 (v : Int)) (.slice eA n ec) (.slice gA m gc)
  replace hRg := hRg.later hBa
  have hB := below_step hB0 hBa
  have hz : (w.alloc (.cells #[.int .i64 Kn, .slice A p c] 48)).heap.size = w.heap.size + 1 := by simp
  rw [hz] at hR
  have HML := Lib.hid hml
  have HMT := Lib.hid hmlT
  have HFE := Lib.hid hfe
  obtain ⟨SE, hSE⟩ : ∃ S, smallB (conT ts) nk nb = S := ⟨_, rfl⟩
  have HSE := Lib.hid hSE
  obtain ⟨SB, hSB⟩ : ∃ S, shortB es m = S := ⟨_, rfl⟩
  have HSB := Lib.hid hSB
  clear hml hmlT hSE hSB hfe hB0 hBa hz
  replace hT := hT.keep hB
  replace hok := hok.keep hB
  replace hrk := hrk.keep hB
  replace hre := hre.keep hB
  replace hoe := hoe.keep hB
  replace hrg := hrg.keep hB
  replace hrb := hrb.keep hB
  replace HK := Lib.hid (HK.out.keep hB)
  replace hg := hg.later hB
  unfold aggB
  go_enter Tryz.func4, Tryz.ntmps4
  go_upto_region 1 with fail
  generalize (w.alloc (.cells #[.int .i64 Kn, .slice A p c] 48)).alloc (.cells #[.int .u64 (v : Int), .slice eA n ec, .slice gA m gc] 26) = w0 at hRg hR hB hT hok hrk hre hoe hrg hrb HK hg ⊢
  go_wp2_with fail
  refine (awake16_any _ HK hg).mono ?_
  rintro e₁ w1 ⟨rfl, hb⟩
  replace hRg := hRg.later hb
  replace hR := hR.later hb
  replace hT := hT.keep hb
  replace hok := hok.keep hb
  replace hrk := hrk.keep hb
  replace hre := hre.keep hb
  replace hoe := hoe.keep hb
  replace hrg := hrg.keep hb
  replace hrb := hrb.keep hb
  replace HK := Lib.hid (HK.out.keep hb)
  replace hB := below_step hB hb
  clear hb
  clear hg
  go_wp2_with (refine wpList_load_part rfl 48 (.tmp 4) rfl w.heap.size 0 rfl _ _ hRg [.int .i64 Kn, .slice A p c] (by rfl) _ Tryz.underlying48 rfl (by exact size_engine) ?_)
  refine (smallB_any Kn ts p nk nb A B D c bd f _ HP hT HMT.out hp63 hnk63 hb63).mono ?_
  rw [HSE.out]
  rintro e₁ w2 ⟨rfl, hb⟩
  replace hRg := hRg.later hb
  replace hR := hR.later hb
  replace hT := hT.keep hb
  replace hok := hok.keep hb
  replace hrk := hrk.keep hb
  replace hre := hre.keep hb
  replace hoe := hoe.keep hb
  replace hrg := hrg.keep hb
  replace hrb := hrb.keep hb
  replace HK := Lib.hid (HK.out.keep hb)
  replace hB := below_step hB hb
  clear hb
  cases SE with
  | false =>
    go_wp2_with fail
    go_ret
    exact ⟨rfl, hB⟩
  | true =>
    have c0 : w2.cell? ⟨w.heap.size + 1, 0, none⟩ = some (.int .u64 (v : Int)) := hR.cell rfl
    have c1 : w2.cell? ⟨w.heap.size + 1, 1, none⟩ = some (.slice eA n ec) := hR.cell rfl
    have c2 : w2.cell? ⟨w.heap.size + 1, 2, none⟩ = some (.slice gA m gc) := hR.cell rfl
    go_wp2_with fail
    refine (refshortB_any v es n ec m gc eA gA _ HN hre hn63 HML.out hm63).mono ?_
    rw [HSB.out]
    rintro e₁ w3 ⟨rfl, hb⟩
    replace hRg := hRg.later hb
    replace hR := hR.later hb
    replace hT := hT.keep hb
    replace hok := hok.keep hb
    replace hrk := hrk.keep hb
    replace hre := hre.keep hb
    replace hoe := hoe.keep hb
    replace hrg := hrg.keep hb
    replace hrb := hrb.keep hb
    replace HK := Lib.hid (HK.out.keep hb)
    replace hB := below_step hB hb
    clear hb
    clear c0 c1 c2
    cases SB with
    | false =>
      go_wp2_with fail
      go_ret
      exact ⟨rfl, hB⟩
    | true =>
      obtain ⟨hST, hk3, hb4⟩ := smallB_parts HSE.out
      obtain ⟨hn9, hm9, hs9⟩ := shortB_parts HN.out HSB.out
      have hp4 := short_pB HP hST
      have HLT : Hid (lenT (conT ts)) := lenT.short hST
      have HS9 := Lib.hid hs9
      clear hST hs9
      -- Bytes
      obtain ⟨L8, K8, HLK⟩ : ∃ L K, Hid (bytesBR v (conE es) gs = (L, K)) := ⟨_, _, Lib.hid rfl⟩
      go_wp2_with (refine wpList_load_part rfl 26 (.tmp 6) rfl (w.heap.size + 1) 0 rfl _ _ hR (cellsB v eA n ec gA m gc) (by rfl) _ Tryz.underlying26 rfl (by exact size_bundle) ?_)
      have hby := bytesB_any v es gs n ec m gc eA gA _ HN HM hre hoe hrg hv HFE.out HF (by omega) (by omega) HML.out
      rw [HLK.out] at hby
      refine hby.mono ?_
      clear hby
      rintro e₁ w4 ⟨A8, n8, c8, rfl, HL8, hc8, hr8, hb⟩
      dsimp only at HL8 hr8 ⊢
      replace hRg := hRg.later hb
      replace hR := hR.later hb
      replace hT := hT.keep hb
      replace hok := hok.keep hb
      replace hrk := hrk.keep hb
      replace hre := hre.keep hb
      replace hoe := hoe.keep hb
      replace hrg := hrg.keep hb
      replace hrb := hrb.keep hb
      replace HK := Lib.hid (HK.out.keep hb)
      replace hB := below_step hB hb
      clear hb
      have hn8 : n8 ≤ 4500 := by
        rw [← HL8.out]
        have hlk := HLK.out
        cases hR8 : rightB (conE es) gs with
        | true =>
          rw [bytesBR_ok hR8] at hlk
          injection hlk with hl _
          rw [← hl]
          exact bytesB_le hR8
        | false =>
          rw [bytesBR_no hR8] at hlk
          injection hlk with hl _
          rw [← hl]
          exact Nat.zero_le _
      go_upto_if 47 with fail
      go_cut [] (fun wx => Below w4.heap.size w4 wx)
      case first =>
        cases hR8 : rightB (conE es) gs with
        | false =>
          have hlk := HLK.out
          rw [bytesBR_no hR8] at hlk
          injection hlk with hl hk
          subst hl hk
          go_wp2_with fail
          go_meet
          case rel => exact Below.refl _ _
        | true =>
          have hlk := HLK.out
          rw [bytesBR_ok hR8] at hlk
          injection hlk with hl hk
          obtain ⟨L6, HL6⟩ : ∃ L, Hid (L8 ++ b = L) := ⟨_, Lib.hid rfl⟩
          obtain ⟨n6, HN6⟩ : ∃ n, Hid (L6.length = n) := ⟨_, Lib.hid rfl⟩
          have H6E : Hid (n8 + b.length = L6.length) := by unfold Hid; rw [← HL6.out, List.length_append, HL8.out]
          have hn6 : n6 ≤ 8500 := by have h1 := H6E.out; have h2 := HN6.out; have h3 := HB.out; omega
          have HBR : Hid (readBun L6 = (v, conE es, gs, n8, 0)) := by
            unfold Hid
            rw [← HL6.out, ← HL8.out, ← hl]
            exact bun_read b hR8 hv HFE.out HF.out
          subst hk
          clear hl hT hok hrk HK hRg HLK
          have hown0 : (w4.alloc (.cells #[] 5)).ownsRow w4.heap.size 5 1 (.slice (some ⟨w4.heap.size, 0, none⟩) 0 0) 0 [] := own_lit w4 5 [] #[] rfl (by simp)
          have hb0 := below_new (Below.refl w4.heap.size w4) (.cells #[] 5)
          go_upto_region 7 with fail
          go_wp2_with (first
            | (at_builtin; refine wpList_append_apart _ rfl (.tmp 49) (.tmp 50) 27 rfl w4.heap.size 5 i0 (.int .u8 0) 1 Tryz.underlying27 hi hz0 hz1 hz2 rfl _ _ _ rfl hown0 A8 L8 c8 (by rw [HL8.out]; rfl) (hr8.keep hb0) vB_one (by rw [HL8.out]; unfold maxLen; omega) (by rw [HL8.out]; omega) (by simp) ?_; intro v5 w5 hown5 hgrow5 hat5; have hb5 := hb0.grown hgrow5 (by simp) (fun j hj => (hown0.lt j hj).1); rw [List.nil_append, HL8.out, Nat.zero_add] at hown5)
            | (at_builtin; refine wpList_append_apart _ rfl (.tmp 51) (.tmp 52) 27 rfl w4.heap.size 5 i0 (.int .u8 0) 1 Tryz.underlying27 hi hz0 hz1 hz2 rfl _ _ _ rfl hown5 D b f (by rw [HB.out]; rfl) (hrb.keep hb5) vB_one (by rw [HB.out]; unfold maxLen; omega) (by rw [HB.out]; omega) hb5.size ?_; intro v6 w6 hown6 hgrow6 hat6; have hb6 := hb5.grown hgrow6 hb5.size (fun j hj => (hown5.lt j hj).1); rw [H6E.out, ← List.map_append, HL6.out] at hown6; obtain ⟨A6, c6, rfl, hc6, hr6⟩ := own_slice hown6; rw [HN6.out] at hc6 ⊢))
          refine (readBunP_any L6 n6 c6 A6 w6 HN6 hr6 (by omega) hc6).mono ?_
          rw [HBR.out]
          rintro e' w7 ⟨eA1, es1, n1, ec1, gA1, m1, gc1, rfl, HE1, HN1, HM1, hec1, hgc1, hre1, hoe1, hrg1, hb7⟩
          unfold aggB
          dsimp only at HE1 HM1 hrg1 ⊢
          clear hown0 hb0 hown5 hgrow5 hat5 hb5 hown6 hgrow6 hat6 hr6
          replace hb6 := below_step hb6 hb7
          have hRn : Row (w7.alloc (.cells #[.int .u64 0, .slice none 0 0, .slice none 0 0] 26)) w7.heap.size 26 zeroB := Row.new w7 _ _ _ rfl
          have hRz := hRn.setRow [.int .u64 (v : Int), .slice eA1 n1 ec1, .slice gA1 m1 gc1]
          have hbn : Below w7.heap.size w7 ((w7.alloc (.cells #[.int .u64 0, .slice none 0 0, .slice none 0 0] 26)).setRow w7.heap.size [.int .u64 (v : Int), .slice eA1 n1 ec1, .slice gA1 m1 gc1].toArray) := below_setRow (below_new (Below.refl _ _) _) (Nat.le_refl _) _
          go_upto_region 8 with (refine wpList_store_row rfl 26 (.tmp 11) (.tmp 55) rfl w7.heap.size rfl [.int .u64 (v : Int), .slice eA1 n1 ec1, .slice gA1 m1 gc1] rfl _ _ hRn (by exact size_bundle) rfl (one_three _ _ _ rfl rfl rfl) ?_)
          generalize (w7.alloc (.cells #[.int .u64 0, .slice none 0 0, .slice none 0 0] 26)).setRow w7.heap.size [.int .u64 (v : Int), .slice eA1 n1 ec1, .slice gA1 m1 gc1].toArray = w8 at hRz hbn ⊢
          replace hb6 := below_step hb6 hbn
          replace hre1 := hre1.keep hbn
          replace hoe1 := hoe1.keep hbn
          replace hrg1 := hrg1.keep hbn
          have hR9 := hR.later hb6
          have hre9 := hre.keep hb6
          have hoe9 := hoe.keep hb6
          have hrg9 := hrg.keep hb6
          clear hRn hbn hb7 hR hre hoe hrg hrb hr8
          have c0 : w8.cell? ⟨w.heap.size + 1, 0, none⟩ = some (.int .u64 (v : Int)) := hR9.cell rfl
          have c1 : w8.cell? ⟨w.heap.size + 1, 1, none⟩ = some (.slice eA n ec) := hR9.cell rfl
          have c2 : w8.cell? ⟨w.heap.size + 1, 2, none⟩ = some (.slice gA m gc) := hR9.cell rfl
          have z0 : w8.cell? ⟨w7.heap.size, 0, none⟩ = some (.int .u64 (v : Int)) := hRz.cell rfl
          have z1 : w8.cell? ⟨w7.heap.size, 1, none⟩ = some (.slice eA1 n1 ec1) := hRz.cell rfl
          have z2 : w8.cell? ⟨w7.heap.size, 2, none⟩ = some (.slice gA1 m1 gc1) := hRz.cell rfl
          go_wp2_with fail
          refine (sameB_any v v es es1 gs gs n ec m gc n1 ec1 m1 gc1 eA gA eA1 gA1 w8 HN HM HN1 HM1 hre9 hoe9 hrg9 hre1 hoe1 hrg1 (by omega) (by omega)).mono ?_
          rw [HE1.out, decide_eq_true rfl]
          rintro e' w9 ⟨rfl, hb9⟩
          clear c0 c1 c2 z0 z1 z2
          go_wp2_with fail
          go_meet
          case rel => exact below_step hb6 hb9
      case rest =>
      rename World => w5
      replace hcut := hcut
      replace hRg := hRg.later hcut
      replace hR := hR.later hcut
      replace hT := hT.keep hcut
      replace hok := hok.keep hcut
      replace hrk := hrk.keep hcut
      replace hre := hre.keep hcut
      replace hoe := hoe.keep hcut
      replace hrg := hrg.keep hcut
      replace hrb := hrb.keep hcut
      replace HK := Lib.hid (HK.out.keep hcut)
      replace hB := below_step hB hcut
      replace hr8 := hr8.keep hcut
      clear hcut
      -- Seal
      go_wp2_with (first | (refine wpList_load_part rfl 48 (.tmp 4) rfl w.heap.size 0 rfl _ _ hRg [.int .i64 Kn, .slice A p c] (by rfl) _ Tryz.underlying48 rfl (by exact size_engine) ?_) | (refine wpList_load_part rfl 26 (.tmp 6) rfl (w.heap.size + 1) 0 rfl _ _ hR (cellsB v eA n ec gA m gc) (by rfl) _ Tryz.underlying26 rfl (by exact size_bundle) ?_))
      refine (sealB_any Kn ts key p nk A B c bd v n ec m gc es gs eA gA _ HP HLT hT hok (by omega) hc HN HM hre hoe hrg hv HFE.out HF (by omega) (by omega) HML.out HNK hrk (by omega) hnb HK).mono ?_
      rintro e' w6 ⟨us, p2, A2, c2, n2, tA, tc, X, ev, rfl, HP2, hpc2, htu, hoku, HX, hntc, hrx, HSL, hb⟩
      replace hRg := hRg.later hb
      replace hR := hR.later hb
      replace hT := hT.keep hb
      replace hok := hok.keep hb
      replace hrk := hrk.keep hb
      replace hre := hre.keep hb
      replace hoe := hoe.keep hb
      replace hrg := hrg.keep hb
      replace hrb := hrb.keep hb
      replace HK := Lib.hid (HK.out.keep hb)
      replace hB := below_step hB hb
      replace hr8 := hr8.keep hb
      clear hb
      have hRn : Row (w6.alloc (.cells #[.int .i64 0, .slice none 0 0] 48)) w6.heap.size 48 [.int .i64 0, .slice none 0 0] := Row.new w6 _ _ _ rfl
      have hRe := hRn.setRow [.int .i64 Kn, .slice A2 p2 c2]
      have hbn : Below w6.heap.size w6 ((w6.alloc (.cells #[.int .i64 0, .slice none 0 0] 48)).setRow w6.heap.size [.int .i64 Kn, .slice A2 p2 c2].toArray) := below_setRow (below_new (Below.refl _ _) _) (Nat.le_refl _) _
      go_upto_region 11 with (refine wpList_store_row rfl 48 (.tmp 14) (.tmp 77) rfl w6.heap.size rfl [.int .i64 Kn, .slice A2 p2 c2] rfl _ _ hRn (by exact size_engine) rfl (one_pair _ _ rfl rfl) ?_)
      generalize (w6.alloc (.cells #[.int .i64 0, .slice none 0 0] 48)).setRow w6.heap.size [.int .i64 Kn, .slice A2 p2 c2].toArray = w7 at hRe hbn ⊢
      replace hRg := hRg.later hbn
      replace hR := hR.later hbn
      replace hT := hT.keep hbn
      replace hok := hok.keep hbn
      replace hrk := hrk.keep hbn
      replace hre := hre.keep hbn
      replace hoe := hoe.keep hbn
      replace hrg := hrg.keep hbn
      replace hrb := hrb.keep hbn
      replace HK := Lib.hid (HK.out.keep hbn)
      replace hB := below_step hB hbn
      replace hr8 := hr8.keep hbn
      replace htu := htu.keep hbn
      replace hoku := hoku.keep hbn
      replace hrx := hrx.keep hbn
      clear hbn
      clear hRn
      generalize w6.heap.size = ge at hRe ⊢
      obtain ⟨E0, HE0⟩ : ∃ E : Bool, Hid ((E = true → ev = .nilIface) ∧ (E = false → ∃ g, ev = errV g)) := by
        rcases HSL.out with ⟨h, _⟩ | ⟨⟨g, h, _⟩, _⟩
        · exact ⟨true, Lib.hid ⟨fun _ => h, (fun h => by cases h)⟩⟩
        · exact ⟨false, Lib.hid ⟨(fun h => by cases h), fun _ => ⟨g, h⟩⟩⟩
      go_cut [81] (fun u wx => u = .bool E0 ∧ w7 = wx)
      case first =>
        cases E0 with
        | true =>
          have h := HE0.out.1 rfl
          subst h
          clear HE0 HSL
          go_wp2_with fail
          go_meet
          case rel => exact ⟨rfl, rfl⟩
        | false =>
          obtain ⟨g, h⟩ := HE0.out.2 rfl
          subst h
          clear HE0 HSL
          go_wp2_with fail
          go_meet
          case rel => exact ⟨rfl, rfl⟩
      case rest =>
      obtain ⟨rfl, rfl⟩ := hcut
      go_upto_if 81 with fail
      go_cut [] (fun wx => Below w7.heap.size w7 wx)
      case first =>
        rcases HSL.out with ⟨hev, hrE, hrB, hus, hXX⟩ | ⟨⟨g0, hev, _⟩, hnot, hus, hXX⟩
        · have hE : E0 = true := by
            cases E0 with
            | true => rfl
            | false =>
              obtain ⟨g, h⟩ := HE0.out.2 rfl
              rw [h] at hev
              cases hev
          subst hE
          subst hev
          have hlk := HLK.out
          rw [bytesBR_ok hrB] at hlk
          injection hlk with hl hkk
          have hXS : X = sealBx Kn (conT ts) key v (conE es) gs := hXX
          have en2 : n2 = n8 + 8 := by rw [← HX.out, hXS, sealBx_length, hl, HL8.out]
          subst en2
          have HO1 : Hid (openB Kn (conT us) key X = (v, conE es, gs, n8, 0)) := by
            unfold Hid
            rw [hus, hXS]
            have := openB_made (K := Kn) (cs := conT ts) (key := key) hrB hv HFE.out HF.out hrE
            rw [hl, HL8.out] at this
            rw [hl]
            exact this
          have HLU : Hid (lenT (conT us)) := by
            unfold Hid
            rw [hus]
            exact termsE_lenB HLT.out (by rw [HNK.out]; omega) (by rw [hl, HL8.out]; omega)
          have hp2 : p2 ≤ 401 := by
            have h1 := congrArg List.length hus
            rw [conT_length, HP2.out] at h1
            have h2 := termsE_le (K := Kn) (cs := conT ts) (key, bytesB v (conE es) gs)
            rw [← h1, conT_length, HP.out] at h2
            omega
          clear hus hXX hXS hrE hl hkk HSL HE0 hT hok hrb hB hRg HLK
          go_wp2_with (refine wpList_load_part rfl 48 (.tmp 14) rfl ge 0 rfl _ _ hRe [.int .i64 Kn, .slice A2 p2 c2] (by rfl) _ Tryz.underlying48 rfl (by exact size_engine) ?_)
          refine (openB_any Kn us key X p2 nk (n8 + 8) A2 B tA c2 bd tc _ HP2 HLU htu hoku (by omega) hpc2 HNK hrk (by omega) hnb HX hrx hntc (by omega) HK).mono ?_
          rw [HO1.out]
          rintro e₁ w8 ⟨eA5, es5, n5, ec5, gA5, m5, gc5, ev5, rfl, HE5, HN5, HM5, hec5, hgc5, hre5, hoe5, hrg5, hb8, hE5⟩
          dsimp only at HE5 HM5 hrg5 hE5 ⊢
          unfold aggB
          have eev : ev5 = .nilIface := by rcases hE5 with ⟨_, h⟩ | ⟨h, _⟩; exact h; exact absurd rfl h
          subst eev
          have hRn : Row (w8.alloc (.cells #[.int .u64 0, .slice none 0 0, .slice none 0 0] 26)) w8.heap.size 26 zeroB := Row.new w8 _ _ _ rfl
          have hRz := hRn.setRow [.int .u64 (v : Int), .slice eA5 n5 ec5, .slice gA5 m5 gc5]
          have hbn : Below w8.heap.size w8 ((w8.alloc (.cells #[.int .u64 0, .slice none 0 0, .slice none 0 0] 26)).setRow w8.heap.size [.int .u64 (v : Int), .slice eA5 n5 ec5, .slice gA5 m5 gc5].toArray) := below_setRow (below_new (Below.refl _ _) _) (Nat.le_refl _) _
          go_upto_region 13 with (refine wpList_store_row rfl 26 (.tmp 17) (.tmp 87) rfl w8.heap.size rfl [.int .u64 (v : Int), .slice eA5 n5 ec5, .slice gA5 m5 gc5] rfl _ _ hRn (by exact size_bundle) rfl (one_three _ _ _ rfl rfl rfl) ?_)
          generalize (w8.alloc (.cells #[.int .u64 0, .slice none 0 0, .slice none 0 0] 26)).setRow w8.heap.size [.int .u64 (v : Int), .slice eA5 n5 ec5, .slice gA5 m5 gc5].toArray = w9 at hRz hbn ⊢
          have hb9 := below_step hb8 hbn
          have hR9 := hR.later hb9
          have hre9 := hre.keep hb9
          have hoe9 := hoe.keep hb9
          have hrg9 := hrg.keep hb9
          replace hre5 := hre5.keep hbn
          replace hoe5 := hoe5.keep hbn
          replace hrg5 := hrg5.keep hbn
          clear hRn hbn hb8 hR hre hoe hrg hr8 hRe htu hoku hrx hrk HK
          have c0 : w9.cell? ⟨w.heap.size + 1, 0, none⟩ = some (.int .u64 (v : Int)) := hR9.cell rfl
          have c1 : w9.cell? ⟨w.heap.size + 1, 1, none⟩ = some (.slice eA n ec) := hR9.cell rfl
          have c2 : w9.cell? ⟨w.heap.size + 1, 2, none⟩ = some (.slice gA m gc) := hR9.cell rfl
          have z0 : w9.cell? ⟨w8.heap.size, 0, none⟩ = some (.int .u64 (v : Int)) := hRz.cell rfl
          have z1 : w9.cell? ⟨w8.heap.size, 1, none⟩ = some (.slice eA5 n5 ec5) := hRz.cell rfl
          have z2 : w9.cell? ⟨w8.heap.size, 2, none⟩ = some (.slice gA5 m5 gc5) := hRz.cell rfl
          go_wp2_with fail
          refine (sameB_any v v es es5 gs gs n ec m gc n5 ec5 m5 gc5 eA gA eA5 gA5 w9 HN HM HN5 HM5 hre9 hoe9 hrg9 hre5 hoe5 hrg5 (by omega) (by omega)).mono ?_
          rw [HE5.out, decide_eq_true rfl]
          rintro e' w10 ⟨rfl, hb10⟩
          clear c0 c1 c2 z0 z1 z2
          go_wp2_with fail
          go_meet
          case rel => exact below_step hb9 hb10
        · have hE : E0 = false := by
            cases E0 with
            | false => rfl
            | true =>
              have h := HE0.out.1 rfl
              rw [h] at hev
              cases hev
          subst hE
          obtain ⟨RB, hRB⟩ : ∃ S, rightB (conE es) gs = S := ⟨_, rfl⟩
          rw [hRB] at hnot
          have HRB := Lib.hid hRB
          have HNOT := Lib.hid hnot
          clear hRB hnot hus hXX hev HSL HE0
          go_wp2_with (refine wpList_load_part rfl 26 (.tmp 6) rfl (w.heap.size + 1) 0 rfl _ _ hR (cellsB v eA n ec gA m gc) (by rfl) _ Tryz.underlying26 rfl (by exact size_bundle) ?_)
          refine (rightB_any v es gs n ec m gc eA gA _ HN HM hre hrg HF (by omega) (by omega) HML.out).mono ?_
          rw [HRB.out]
          rintro e₁ w8 ⟨rfl, hb8⟩
          cases RB with
          | false =>
            go_wp2_with fail
            go_meet
            case rel => exact hb8
          | true =>
            have hrE : Hid (rightE Kn (conT ts) = false) := by
              unfold Hid
              cases h : rightE Kn (conT ts) with
              | false => rfl
              | true => exact absurd ⟨h, rfl⟩ HNOT.out
            have hRg8 := hRg.later hb8
            have c0 : w8.cell? ⟨w.heap.size, 0, none⟩ = some (.int .i64 Kn) := hRg8.cell rfl
            have c1 : w8.cell? ⟨w.heap.size, 1, none⟩ = some (.slice A p c) := hRg8.cell rfl
            go_wp2_with fail
            refine (rightE_any Kn ts p A c _ HP HLT (hT.keep hb8) (hok.keep hb8) (by omega) hc).mono ?_
            rw [hrE.out]
            rintro e₁ w9 ⟨rfl, hb9⟩
            clear c0 c1
            go_wp2_with fail
            go_meet
            case rel => exact below_step hb8 hb9
      case rest =>
      rename World => w8
      replace hRg := hRg.later hcut
      replace hR := hR.later hcut
      replace hT := hT.keep hcut
      replace hok := hok.keep hcut
      replace hrk := hrk.keep hcut
      replace hre := hre.keep hcut
      replace hoe := hoe.keep hcut
      replace hrg := hrg.keep hcut
      replace hrb := hrb.keep hcut
      replace HK := Lib.hid (HK.out.keep hcut)
      replace hB := below_step hB hcut
      clear hcut
      clear htu hoku hrx hRe hr8 HL8 hc8 HSL HE0 HLK HX hntc HP2 hpc2
      -- Read
      go_wp2_with fail
      refine (readBunP_any b nb f D _ HB hrb (by omega) hbf).mono ?_
      rintro e' w9 ⟨eA1, es1, n1, ec1, gA1, m1, gc1, rfl, HE1, HN1, HM1, hec1, hgc1, hre1, hoe1, hrg1, hb⟩
      unfold aggB
      replace hRg := hRg.later hb
      replace hR := hR.later hb
      replace hT := hT.keep hb
      replace hok := hok.keep hb
      replace hrk := hrk.keep hb
      replace hre := hre.keep hb
      replace hoe := hoe.keep hb
      replace hrg := hrg.keep hb
      replace hrb := hrb.keep hb
      replace HK := Lib.hid (HK.out.keep hb)
      replace hB := below_step hB hb
      clear hb
      have hRn : Row (w9.alloc (.cells #[.int .u64 0, .slice none 0 0, .slice none 0 0] 26)) w9.heap.size 26 zeroB := Row.new w9 _ _ _ rfl
      have hlen := readBun_len b
      have HGD := Lib.hid (fun (v : Nat) (es : List En) (gs : List Gn) (m : Nat) (h : readBun b = (v, es, gs, m, 0)) => bun_good h)
      have HBD := Lib.hid (fun (v : Nat) (es : List En) (gs : List Gn) (m : Nat) (k : Int) (h : readBun b = (v, es, gs, m, k)) (hk : k ≠ 0) => bun_bad h hk)
      obtain ⟨Y, hY⟩ : ∃ Y, readBun b = Y := ⟨_, rfl⟩
      rw [hY] at HE1 HM1 hrg1 hlen HGD HBD ⊢
      obtain ⟨y1, y2, y3, y4, y5⟩ := Y
      dsimp only at HE1 HM1 hrg1 hlen ⊢
      have hn1 : n1 ≤ 64 := by have h1 := congrArg List.length HE1.out; rw [conE_length, HN1.out] at h1; omega
      have hm1 : m1 ≤ 64 := by have h1 := HM1.out; omega
      clear hlen hY
      have hRz := hRn.setRow [.int .u64 (y1 : Int), .slice eA1 n1 ec1, .slice gA1 m1 gc1]
      have hbn : Below w9.heap.size w9 ((w9.alloc (.cells #[.int .u64 0, .slice none 0 0, .slice none 0 0] 26)).setRow w9.heap.size [.int .u64 (y1 : Int), .slice eA1 n1 ec1, .slice gA1 m1 gc1].toArray) := below_setRow (below_new (Below.refl _ _) _) (Nat.le_refl _) _
      go_upto_region 18 with (refine wpList_store_row rfl 26 (.tmp 19) (.tmp 114) rfl w9.heap.size rfl [.int .u64 (y1 : Int), .slice eA1 n1 ec1, .slice gA1 m1 gc1] rfl _ _ hRn (by exact size_bundle) rfl (one_three _ _ _ rfl rfl rfl) ?_)
      generalize (w9.alloc (.cells #[.int .u64 0, .slice none 0 0, .slice none 0 0] 26)).setRow w9.heap.size [.int .u64 (y1 : Int), .slice eA1 n1 ec1, .slice gA1 m1 gc1].toArray = w10 at hRz hbn ⊢
      replace hRg := hRg.later hbn
      replace hR := hR.later hbn
      replace hT := hT.keep hbn
      replace hok := hok.keep hbn
      replace hrk := hrk.keep hbn
      replace hre := hre.keep hbn
      replace hoe := hoe.keep hbn
      replace hrg := hrg.keep hbn
      replace hrb := hrb.keep hbn
      replace HK := Lib.hid (HK.out.keep hbn)
      replace hB := below_step hB hbn
      replace hre1 := hre1.keep hbn
      replace hoe1 := hoe1.keep hbn
      replace hrg1 := hrg1.keep hbn
      clear hbn
      clear hRn
      generalize w9.heap.size = gz at hRz ⊢
      obtain ⟨E5, hE5⟩ : ∃ E : Bool, Hid (E = decide (y5 = 0)) := ⟨_, Lib.hid rfl⟩
      go_cut [118] (fun u wx => u = .bool E5 ∧ w10 = wx)
      case first =>
        by_cases h5 : y5 = 0
        · have e5 : E5 = true := hE5.out.trans (decide_eq_true h5)
          subst h5
          subst e5
          go_wp2_with fail
          go_meet
          case rel => exact ⟨rfl, rfl⟩
        · have e5 : E5 = false := hE5.out.trans (decide_eq_false h5)
          have h50 : (y5 == 0) = false := beq_eq_false_iff_ne.2 h5
          have h51 : decide (y5 = 0) = false := decide_eq_false h5
          subst e5
          clear hE5
          go_wp2_with fail
          go_meet
          case rel => exact ⟨rfl, rfl⟩
      case rest =>
      obtain ⟨rfl, rfl⟩ := hcut
      go_upto_if 118 with fail
      go_cut [] (fun wx => Below w10.heap.size w10 wx)
      case first =>
        by_cases h5 : y5 = 0
        · have e5 : E5 = true := hE5.out.trans (decide_eq_true h5)
          subst h5
          subst e5
          obtain ⟨r1, r2, r3, r4, r5, r6⟩ := HGD.out y1 y2 y3 y4 rfl
          have hf1 : fitE (conE es1) := by rw [HE1.out]; exact r5
          have HR1 : Hid (rightB (conE es1) y3 = true) := by unfold Hid; rw [HE1.out]; exact r1
          have HBT : Hid (bytesB y1 (conE es1) y3 = b.take y4) := by unfold Hid; rw [HE1.out]; exact r3
          have HM3 : Hid (∀ x ∈ es1, x.s.length ≤ 9223372036854775807) := fun x hx => by
            have := (okE_all (right_b.1 HR1.out).2.2 x.con (List.mem_map_of_mem hx)).2
            have h2 : x.s.length ≤ 32 := this
            omega
          have hy4 : y4 ≤ nb := by rw [← HB.out]; exact r2
          clear r1 r3 r5 HGD HBD hE5 hT hok hrk hre hoe hrg HK hRg hR hB r2
          go_wp2_with (refine wpList_load_part rfl 26 (.tmp 19) rfl gz 0 rfl _ _ hRz [.int .u64 (y1 : Int), .slice eA1 n1 ec1, .slice gA1 m1 gc1] (by rfl) _ Tryz.underlying26 rfl (by exact size_bundle) ?_)
          refine (bytesB_ok y1 es1 y3 n1 ec1 m1 gc1 eA1 gA1 _ HN1 HM1 hre1 hoe1 hrg1 r4 hf1 r6 HR1.out).mono ?_
          rintro e' w11 ⟨A11, n11, c11, rfl, HL11, hc11, hr11, hb11⟩
          rw [HBT.out] at HL11 hr11
          have e11 : n11 = y4 := by rw [← HL11.out, List.length_take, HB.out]; omega
          subst e11
          have hRz11 := hRz.later hb11
          have hre11 := hre1.keep hb11
          have hrg11 := hrg1.keep hb11
          have hrb11 := hrb.keep hb11
          clear hRz hre1 hoe1 hrg1 hrb
          go_upto_region 20 with fail
          have hs0 := strBz (c := c11) n11 HL11 hr11
          have hs1 := strBz (c := f) n11 HL11 (hrb11.take n11)
          have hcut1 := run_cut_to (P := Tryz.prog) 27 5 Tryz.underlying27 size_uint8 D nb f n11 (by omega)
          have k0 : (0 : Int) ≤ (n11 : Int) := by omega
          have k1 : (n11 : Int) ≤ (nb : Int) := by omega
          have k2 : ¬ (nb : Int) < (n11 : Int) := by omega
          have k3 : ¬ (n11 : Int) < 0 := by omega
          have k4 : n11 ≤ f := by omega
          have c0 : ∀ W, Below w11.heap.size w11 W → W.cell? ⟨gz, 0, none⟩ = some (.int .u64 (y1 : Int)) := fun W hW => (hRz11.later hW).cell rfl
          have c1 : ∀ W, Below w11.heap.size w11 W → W.cell? ⟨gz, 1, none⟩ = some (.slice eA1 n1 ec1) := fun W hW => (hRz11.later hW).cell rfl
          have c2 : ∀ W, Below w11.heap.size w11 W → W.cell? ⟨gz, 2, none⟩ = some (.slice gA1 m1 gc1) := fun W hW => (hRz11.later hW).cell rfl
          generalize b.take n11 = L at HL11 hr11 hs0 hs1 HBT
          generalize strL L = SL at hs0 hs1
          clear hRz11 hr11 hrb11 HBT HL11
          have hBase := (Below.refl w11.heap.size w11).drew
          refine wp_region_plan (.step 0 false (.step 1 false (.step 2 false (.step 3 false (.step 4 true (.step 5 false (.step 6 false (.step 7 false (.step 8 false (.step 9 false (.step 10 false (.step 11 false (.step 12 false (.step 13 false (.step 14 false (.step 15 false (.step 16 false (.step 17 false (.step 18 false (.step 19 false (.step 20 false (.step 21 false (.step 22 false (.step 23 false (.step 24 false (.step 25 false (.nil))))))))))))))))))))))))))) (by kernel_rfl) (by kernel_rfl) (by rfl) (by kernel_rfl) ?_
          iterate 4 (refine plan_read rfl (by rfl) (v := ?_) ?_ ?_; rotate_left 1; (intro W hW; have hW0 := below_step hBase hW; (try dsimp only at hW); go_simp <;> with_reducible rfl); simp only [List.getElem_toArray, List.getElem_cons_zero, List.getElem_cons_succ, Act.put, List.setIfInBounds_toArray, List.set_cons_zero, List.set_cons_succ])
          (refine plan_make rfl (by rfl) (fun K hK => ?_); go_simp; (refine (rightB_any y1 es1 y3 n1 ec1 m1 gc1 eA1 gA1 _ HN1 HM1 (hre11.keep hBase) (hrg11.keep hBase) r6 (by omega) (by omega) HM3.out).mono ?_; rw [HR1.out]; rintro e₁ w12 ⟨rfl, hbx⟩); refine hK.out _ _ hbx ?_; clear hK K; replace hBase := below_step hBase hbx)
          iterate 21 (refine plan_read rfl (by rfl) (v := ?_) ?_ ?_; rotate_left 1; (intro W hW; have hW0 := below_step hBase hW; (try dsimp only at hW); go_simp <;> with_reducible rfl); simp only [List.getElem_toArray, List.getElem_cons_zero, List.getElem_cons_succ, Act.put, List.setIfInBounds_toArray, List.set_cons_zero, List.set_cons_succ])
          refine plan_done ?_
          clear c0 c1 c2 hs0 hs1 hcut1
          go_wp2_with fail
          go_meet
          case rel => exact below_step hb11 hBase
        · have e5 : E5 = false := hE5.out.trans (decide_eq_false h5)
          subst e5
          obtain ⟨r1, r2, r3, r4⟩ := HBD.out y1 y2 y3 y4 y5 rfl h5
          subst r1 r2 r3 r4
          clear HGD HBD hE5 hT hok hrk hre hoe hrg HK hRg hR hB hrb
          have z0 : w10.cell? ⟨gz, 0, none⟩ = some (.int .u64 ((0 : Nat) : Int)) := hRz.cell rfl
          have z1 : w10.cell? ⟨gz, 1, none⟩ = some (.slice eA1 n1 ec1) := hRz.cell rfl
          have z2 : w10.cell? ⟨gz, 2, none⟩ = some (.slice gA1 m1 gc1) := hRz.cell rfl
          go_wp2_with fail
          refine (sameB_any 0 0 es1 [] [] [] n1 ec1 m1 gc1 0 0 0 0 eA1 gA1 none none w10 HN1 HM1 (Lib.hid rfl) (Lib.hid rfl) hre1 hoe1 hrg1 RdE.nil (okD.nil _) RdG.nil (by omega) (by omega)).mono ?_
          rw [HE1.out]
          rw [show conE [] = [] from rfl, decide_eq_true rfl]
          rintro e' w11 ⟨rfl, hb11⟩
          clear z0 z1 z2
          go_wp2_with fail
          go_meet
          case rel => exact hb11
      case rest =>
      rename World => w11
      replace hRg := hRg.later hcut
      replace hR := hR.later hcut
      replace hT := hT.keep hcut
      replace hok := hok.keep hcut
      replace hrk := hrk.keep hcut
      replace hre := hre.keep hcut
      replace hoe := hoe.keep hcut
      replace hrg := hrg.keep hcut
      replace hrb := hrb.keep hcut
      replace HK := Lib.hid (HK.out.keep hcut)
      replace hB := below_step hB hcut
      clear hcut
      clear hre1 hoe1 hrg1 hRz HGD HBD HE1 HN1 HM1 hE5 hec1 hgc1
      -- Open
      go_wp2_with (refine wpList_load_part rfl 48 (.tmp 4) rfl w.heap.size 0 rfl _ _ hRg [.int .i64 Kn, .slice A p c] (by rfl) _ Tryz.underlying48 rfl (by exact size_engine) ?_)
      refine (openB_any Kn ts key b p nk nb A B D c bd f _ HP HLT hT hok (by omega) hc HNK hrk (by omega) hnb HB hrb hbf (by omega) HK).mono ?_
      rintro e' w12 ⟨eA1, es1, n1, ec1, gA1, m1, gc1, ev, rfl, HE1, HN1, HM1, hec1, hgc1, hre1, hoe1, hrg1, hb, hEV⟩
      unfold aggB
      replace hRg := hRg.later hb
      replace hR := hR.later hb
      replace hT := hT.keep hb
      replace hok := hok.keep hb
      replace hrk := hrk.keep hb
      replace hre := hre.keep hb
      replace hoe := hoe.keep hb
      replace hrg := hrg.keep hb
      replace hrb := hrb.keep hb
      replace HK := Lib.hid (HK.out.keep hb)
      replace hB := below_step hB hb
      clear hb
      have hRn : Row (w12.alloc (.cells #[.int .u64 0, .slice none 0 0, .slice none 0 0] 26)) w12.heap.size 26 zeroB := Row.new w12 _ _ _ rfl
      have hlen := opened_len Kn (conT ts) key b
      have HGD := Lib.hid (fun (v : Nat) (es : List En) (gs : List Gn) (m : Nat) (h : openB Kn (conT ts) key b = (v, es, gs, m, 0)) => openB_back h)
      have HBD := Lib.hid (@openB_bad _ Kn (conT ts) key b)
      obtain ⟨Y, hY⟩ : ∃ Y, openB Kn (conT ts) key b = Y := ⟨_, rfl⟩
      rw [hY] at HE1 HM1 hrg1 hlen HGD HBD hEV ⊢
      obtain ⟨y1, y2, y3, y4, y5⟩ := Y
      dsimp only at HE1 HM1 hrg1 hlen hEV HBD ⊢
      have hn1 : n1 ≤ 64 := by have h1 := congrArg List.length HE1.out; rw [conE_length, HN1.out] at h1; omega
      have hm1 : m1 ≤ 64 := by have h1 := HM1.out; omega
      clear hlen hY
      have hRz := hRn.setRow [.int .u64 (y1 : Int), .slice eA1 n1 ec1, .slice gA1 m1 gc1]
      have hbn : Below w12.heap.size w12 ((w12.alloc (.cells #[.int .u64 0, .slice none 0 0, .slice none 0 0] 26)).setRow w12.heap.size [.int .u64 (y1 : Int), .slice eA1 n1 ec1, .slice gA1 m1 gc1].toArray) := below_setRow (below_new (Below.refl _ _) _) (Nat.le_refl _) _
      go_upto_region 25 with (refine wpList_store_row rfl 26 (.tmp 24) (.tmp 163) rfl w12.heap.size rfl [.int .u64 (y1 : Int), .slice eA1 n1 ec1, .slice gA1 m1 gc1] rfl _ _ hRn (by exact size_bundle) rfl (one_three _ _ _ rfl rfl rfl) ?_)
      generalize (w12.alloc (.cells #[.int .u64 0, .slice none 0 0, .slice none 0 0] 26)).setRow w12.heap.size [.int .u64 (y1 : Int), .slice eA1 n1 ec1, .slice gA1 m1 gc1].toArray = w13 at hRz hbn ⊢
      replace hRg := hRg.later hbn
      replace hR := hR.later hbn
      replace hT := hT.keep hbn
      replace hok := hok.keep hbn
      replace hrk := hrk.keep hbn
      replace hre := hre.keep hbn
      replace hoe := hoe.keep hbn
      replace hrg := hrg.keep hbn
      replace hrb := hrb.keep hbn
      replace HK := Lib.hid (HK.out.keep hbn)
      replace hB := below_step hB hbn
      replace hre1 := hre1.keep hbn
      replace hoe1 := hoe1.keep hbn
      replace hrg1 := hrg1.keep hbn
      clear hbn
      clear hRn
      generalize w12.heap.size = gz at hRz ⊢
      rcases hEV with ⟨h5, rfl⟩ | ⟨h5, g5, rfl, _⟩
      · subst h5
        obtain ⟨r1, r2, r3, r4, r5, r6⟩ := HGD.out y1 y2 y3 y4 rfl
        have hf1 : fitE (conE es1) := by rw [HE1.out]; exact r5
        have HR1 : Hid (rightB (conE es1) y3 = true) := by unfold Hid; rw [HE1.out]; exact r3
        have HRE : Hid (rightE Kn (conT ts) = true) := r1
        have HSB2 : Hid (bytesB y1 (conE es1) y3 ++ bytesE Kn (conT ts) (key, bytesB y1 (conE es1) y3) = b) := by unfold Hid; rw [HE1.out]; exact r2
        have HM3 : Hid (∀ x ∈ es1, x.s.length ≤ 9223372036854775807) := fun x hx => by
          have := (okE_all (right_b.1 HR1.out).2.2 x.con (List.mem_map_of_mem hx)).2
          have h2 : x.s.length ≤ 32 := this
          omega
        clear r1 r2 r3 r5 HGD HBD
        go_upto_region 27 with fail
        go_wp2_with (first | (refine wpList_load_part rfl 48 (.tmp 4) rfl w.heap.size 0 rfl _ _ hRg [.int .i64 Kn, .slice A p c] (by rfl) _ Tryz.underlying48 rfl (by exact size_engine) ?_) | (refine wpList_load_part rfl 26 (.tmp 24) rfl gz 0 rfl _ _ hRz [.int .u64 (y1 : Int), .slice eA1 n1 ec1, .slice gA1 m1 gc1] (by rfl) _ Tryz.underlying26 rfl (by exact size_bundle) ?_))
        refine (sealB_good Kn ts key p nk A B c bd y1 n1 ec1 m1 gc1 es1 y3 eA1 gA1 _ HP HLT hT hok (by omega) hc HN1 HM1 hre1 hoe1 hrg1 r4 hf1 r6 (by omega) (by omega) HM3.out HR1.out HNK hrk (by omega) hnb HRE HK).mono ?_
        rintro e' w14 ⟨us, p2, A2, c2, n2, tA, tc, rfl, HP2, hpc2, _, _, _, HX, hntc, hrx, hb⟩
        rw [HSB2.out] at HX hrx
        have en2 : n2 = nb := HX.out.symm.trans HB.out
        subst en2
        replace hrb := hrb.keep hb
        replace hB := below_step hB hb
        clear hb
        have hRn : Row (w14.alloc (.cells #[.int .i64 0, .slice none 0 0] 48)) w14.heap.size 48 [.int .i64 0, .slice none 0 0] := Row.new w14 _ _ _ rfl
        have hbn : Below w14.heap.size w14 ((w14.alloc (.cells #[.int .i64 0, .slice none 0 0] 48)).setRow w14.heap.size [.int .i64 Kn, .slice A2 p2 c2].toArray) := below_setRow (below_new (Below.refl _ _) _) (Nat.le_refl _) _
        go_upto_region 28 with (refine wpList_store_row rfl 48 (.tmp 26) (.tmp 175) rfl w14.heap.size rfl [.int .i64 Kn, .slice A2 p2 c2] rfl _ _ hRn (by exact size_engine) rfl (one_pair _ _ rfl rfl) ?_)
        generalize (w14.alloc (.cells #[.int .i64 0, .slice none 0 0] 48)).setRow w14.heap.size [.int .i64 Kn, .slice A2 p2 c2].toArray = w15 at hbn ⊢
        replace hrx := hrx.keep hbn
        replace hrb := hrb.keep hbn
        replace hB := below_step hB hbn
        clear hbn
        have hs0 := strBz (c := tc) n2 HB hrx w15 (Below.refl _ _)
        have hs1 := strBz (c := f) n2 HB hrb w15 (Below.refl _ _)
        generalize strL b = SL at hs0 hs1
        clear hrx hrb hRn
        go_wp2_with fail
        go_ret
        exact ⟨rfl, hB⟩
      · have hbad := HBD.out h5
        simp only [badB, Prod.mk.injEq, and_true] at hbad
        obtain ⟨r1, r2, r3, r4⟩ := hbad
        subst r1 r2 r3 r4
        go_upto_region 26 with fail
        go_wp2_with (refine wpList_load_part rfl 26 (.tmp 24) rfl gz 0 rfl _ _ hRz [.int .u64 ((0 : Nat) : Int), .slice eA1 n1 ec1, .slice gA1 m1 gc1] (by rfl) _ Tryz.underlying26 rfl (by exact size_bundle) ?_)
        refine (sameB_any 0 0 es1 [] [] [] n1 ec1 m1 gc1 0 0 0 0 eA1 gA1 none none _ HN1 HM1 (Lib.hid rfl) (Lib.hid rfl) hre1 hoe1 hrg1 RdE.nil (okD.nil _) RdG.nil (by omega) (by omega)).mono ?_
        rw [HE1.out]
        rw [show conE [] = [] from rfl, decide_eq_true rfl]
        rintro e' w14 ⟨rfl, hb14⟩
        go_wp2_with fail
        go_ret
        exact ⟨rfl, below_step hB hb14⟩
end Go.Proofs.YtmljhkdojopljaaGreatDoor
/-
  Parameters that are an engine, a byte, or a number, opened. No conditions.
-/
namespace Go.Proofs.YtmljhkdojopljaaGreatDoor
set_option maxRecDepth 100000
open Go.RowKit Go.WideShapes
set_option linter.unusedSimpArgs false
set_option linter.unusedVariables false

theorem opens_engine : Opens Tryz.prog 48 (RTwo 0 1 1 1 RInt (RSlice 2 (RTwo 0 1 1 1 (RSlice 1 RByte) (RSlice 1 RByte)))) := opens_two Tryz.underlying48 rfl rfl (by kernel_rfl) (by kernel_rfl) (by kernel_rfl) (opens_int Tryz.underlying3) opens_terms
section
variable {H : Type} {enc : TypeId × Value → H} {W : World} {base b1 : Nat} {spare : Nat → Bool} {held : Bool} {r : Reach} {v : Value} {d : DataW H} {p : List MemPlace}
theorem open_engine (hv : Value.okWide Tryz.prog W r base 48 v) (ht : DataW.Trod enc Tryz.prog W b1 spare held 48 v d p) : ∃ (K : Int) (ts : List TD) (A : Option Addr) (cap : Nat), v = .agg #[.int .i64 K, .slice A ts.length cap] ∧ ts.length ≤ cap ∧ cap ≤ 9223372036854775807 ∧ inT W A ts := by
  obtain ⟨cs, rfl, _⟩ := okWide_struct Tryz.underlying48 hv
  obtain ⟨fuel, hf⟩ := ht
  obtain ⟨⟨K, l⟩, hl, h0, h1⟩ := opens_engine enc W _ _ _ _ _ _ hf
  obtain ⟨ts, A, c, e, h2, h3, h4⟩ := terms_of_r h1
  obtain ⟨e0, _⟩ := h0
  refine ⟨K, ts, A, c, ?_, h2, h3, h4⟩
  congr 1
  apply Array.toList_inj.1
  simp only [Value.cells] at hl e e0
  match hcs : cs.toList, hl with
  | [a, b], _ =>
    rw [hcs] at e e0
    simp at e e0
    rw [e, e0]
theorem open_u8 (hv : Value.okWide Tryz.prog W r base 5 v) (ht : DataW.Trod enc Tryz.prog W b1 spare held 5 v d p) : ∃ y : UInt8, v = .int .u8 (y.toNat : Int) := by
  obtain ⟨n, rfl⟩ := okWide_int Tryz.underlying5 hv
  obtain ⟨fuel, hf⟩ := ht
  obtain ⟨y, hy⟩ := opens_byte Tryz.underlying5 enc W _ _ _ _ _ _ hf
  unfold RByte vB at hy
  simp [Value.cells] at hy
  exact ⟨y, by rw [hy]⟩
theorem open_i64 (hv : Value.okWide Tryz.prog W r base 3 v) (ht : DataW.Trod enc Tryz.prog W b1 spare held 3 v d p) : ∃ n : Int, v = .int .i64 n := okWide_int Tryz.underlying3 hv
end
end Go.Proofs.YtmljhkdojopljaaGreatDoor
/-
  The law BundleBack of layer 16, at whatever comes in, whatever words the table of layer 2 holds. Condition: errors.errorType holds the handle of the type error (EtC).
-/
namespace Go.Proofs.YtmljhkdojopljaaGreatDoor
set_option maxRecDepth 100000
open Go.RowKit Go.WideShapes
set_option linter.unusedSimpArgs false
set_option linter.unusedVariables false

theorem bundleback_any (v0 v1 v2 v3 : Value) (W : World) {H : Type} {enc : TypeId × Value → H} {base : Nat} {d0 d1 d2 d3 : DataW H} {p0 p1 p2 p3 : List MemPlace}
    (hv0 : Value.okWide Tryz.prog W .any base 48 v0) (ht0 : DataW.Trod enc Tryz.prog W 0 (fun _ => true) true 48 v0 d0 p0) (hv1 : Value.okWide Tryz.prog W .any base 27 v1) (ht1 : DataW.Trod enc Tryz.prog W 0 (fun _ => true) true 27 v1 d1 p1) (hv2 : Value.okWide Tryz.prog W .any base 26 v2) (ht2 : DataW.Trod enc Tryz.prog W 0 (fun _ => true) true 26 v2 d2 p2) (hv3 : Value.okWide Tryz.prog W .any base 27 v3) (ht3 : DataW.Trod enc Tryz.prog W 0 (fun _ => true) true 27 v3 d3 p3) (hg : EtC W) (hsh : W.ShapedOpen Tryz.prog) :
    Calls Tryz.prog 4 #[v0, v1, v2, v3] W fun e w' => e = .returned (.bool true) ∧ Below W.heap.size W w' := by
  obtain ⟨I, hk⟩ := tab_of_open hsh
  obtain ⟨K, ts, A, c, rfl, hc, hcm, hT, hok, hmlT⟩ := open_engine hv0 ht0
  obtain ⟨key, B, bd, rfl, hbd, hbm, hrk⟩ := open_bytes hv1 ht1
  obtain ⟨v, es, gs, eA, gA, ec, gc, rfl, hv, hec, hgc, hecm, hgcm, ⟨hre, hoe, hml, hfe⟩, hrg, hfg⟩ := open_bundle hv2 ht2
  obtain ⟨b, D, f, rfl, hf, hfm, hrb⟩ := open_bytes hv3 ht3
  exact bundleback_core K ts key _ _ A B c bd v es gs b _ ec _ gc _ f eA gA D W (Lib.hid rfl) hT hok hmlT hc (by omega) (Lib.hid rfl) hrk hbd (by omega) (Lib.hid rfl) (Lib.hid rfl) (Lib.hid rfl) hre hoe hrg hrb hv hfe hfg hec hgc hf (by omega) (by omega) (by omega) hml (Lib.hid hk) hg
end Go.Proofs.YtmljhkdojopljaaGreatDoor
/-
  The wrap of a tied card's row whose code reads, behind an interface, a package-level variable that the row doesn't list: the contract is handed both, what the listed ones read as and that the world has the program's shape (no program is named here). No conditions but those typed.
-/
namespace Go.Proofs.YtmljhkdojopljaaGreatDoor
set_option maxRecDepth 100000
variable {H : Type} {enc : TypeId × Value → H}

theorem handed_and_shaped {a : Assume} {C : Checked} {os : Os} {f : FuncId} {fn : Func} {s : ChangeSpec} {conds : List PathCond} {apart fresh handsOn again : Bool} {X : World → Array Value → Prop}
    (heap : ∀ (w w' : World) (args : Array Value), w.heap = w'.heap → X w args → X w' args)
    (own : ownKnob C.prog.godebug = none) (started : os.Started) (noInit : C.prog.inits.idxOf? f = none) (hfn : C.prog.funcs[f]? = some fn)
    (witness : ∃ (w : World) (tape : Tape) (i : Input), w.os = os ∧ (w.forCall tape i).Shaped C.prog ∧ i.vars = [] ∧ Input.okWide C.prog (w.forCall tape i) .any w.heap.size f i ∧
      ((s.pre enc C.prog fn conds apart (w.forCall tape i).memory i.args ∧ X (w.forCall tape i).memory i.args) ∧ sizedMet enc C.prog fn (OpenSpec.ofChange s) apart (w.forCall tape i).memory i.args) ∧ a.holds C.prog (lone (Frame.enter C.prog f i.args .normal) [] (w.forCall tape i)))
    (walk : ∀ (W : World) (base : Nat) (args : Array Value) (ds gs : List (DataW H)) (before : List MemPlace),
      (∀ (j : Nat) t v, fn.params[j]? = some t → args[j]? = some v → Value.okWide C.prog W .any base t v) → DataW.Whole enc C.prog fn.params.toList s.vars apart W args.toList ds gs before → X W args → W.ShapedOpen C.prog →
      Calls C.prog f args W fun e W' => ∃ v, e = .returned v ∧ s.post enc C.prog fn apart fresh handsOn again W args v W') :
    ReturnsInHanded a C os f .any (fun w args => (s.pre enc C.prog fn conds apart w args ∧ X w args) ∧ sizedMet enc C.prog fn (OpenSpec.ofChange s) apart w args) (s.post enc C.prog fn apart fresh handsOn again) := by
  refine returnsInHanded_of_calls own started noInit witness (fun w tape i _ shaped _ hok hpre _ => ?_)
  obtain ⟨_, _, _, g, hg, _, _, _, _, hval⟩ := hok
  obtain rfl : g = fn := Option.some.inj (hg.symm.trans hfn)
  obtain ⟨⟨⟨ds, gs, before, hw, _⟩, hx⟩, _⟩ := hpre
  refine (walk (w.forCall tape i) w.heap.size i.args ds gs before hval (DataW.Whole.of_heap (w' := w.forCall tape i) (by rfl) hw) (heap _ _ _ (by rfl) hx) shaped).mono (fun e W' h => ?_)
  obtain ⟨v, rfl, hp⟩ := h
  exact ChangeSpec.post_blind hp
end Go.Proofs.YtmljhkdojopljaaGreatDoor
