/-
  The walk of the law HmacKeys: a key has the tags of its block, of a key with a byte 0 behind it, if it is short, and, if it is long, of its hash; a tag has 32 bytes. Condition: the package's table holds the sixty-four constants, as the row lists it.
-/
import Derived.Test.YtdokbhcoekffpaaDoorHmacRight
namespace Go.Proofs.YtdokbhcoekffpaaDoor
open Go.RowKit
set_option linter.unusedSimpArgs false
set_option linter.unusedVariables false

section
variable {P : Program} {ops : Array Oper} {Q : Exit → Act → World → Prop}
/-- One that makes memory; behind it a condition of one's own, which may speak of the new world. -/
theorem plan_make_to {i : Nat} {rest : Plan} {S : World → Prop} {o : Oper} {a : Act} {w : World} (ho : ops[i]? = some o) (hw : Region.wanted o (yielded ops a.tmps) = true)
    (h : ∀ K : Act → World → Prop, Shut (∀ (T : World → Prop) a' w', (∀ W, T W → S W) → T w' → wpPlan P ops Q rest T a' w' → K a' w') → o.wp P a w K Q) : wpPlan P ops Q (.step i true rest) S a w :=
  ⟨o, ho, .inr (.inr ⟨hw, rfl, h _ (fun T _ _ hT hb hr => ⟨T, hT, hb, hr⟩)⟩)⟩
end

/-- A key with a byte 0 behind it, in memory of the call's own. -/
theorem zero_own {key K0 : List UInt8} {w2 : World} {base : Nat} {v : Value} (HK0 : Hid (K0 = key ++ [0])) (ho : w2.ownsRow base 5 1 v (0 + key.length + 1) ([] ++ key.map vB ++ [.int .u8 0])) : ∃ A c, v = .slice A (key.length + 1) c ∧ key.length + 1 ≤ c ∧ Rd vB w2 A K0 := by
  have h : w2.ownsRow base 5 1 v K0.length (K0.map vB) := by
    rw [HK0.out]
    simpa [vB] using ho
  obtain ⟨A, c, e, hc, hr⟩ := own_slice h
  rw [HK0.out, List.length_append] at e hc
  exact ⟨A, c, e, hc, hr⟩

set_option maxRecDepth 100000 in
set_option maxHeartbeats 4000000 in
theorem hmackeys_core (key msg : List UInt8) (A B : Option Addr) (c d : Nat) (w : World) (hr : Rd vB w A key) (hm : Rd vB w B msg) (hc : key.length ≤ c) (hl : key.length ≤ 2000) (hml : msg.length ≤ 2000) (HK : Hid (KTab w)) :
    Calls Tryd.prog 5 #[.slice A key.length c, .slice B msg.length d] w fun e w' => e = .returned (.bool true) ∧ Below w.heap.size w w' := by
  have g1 : decide ((2000 : Int) < (key.length : Int)) = false := by simp; omega
  have g2 : decide ((2000 : Int) < (msg.length : Int)) = false := by simp; omega
  go_enter Tryd.func5, Tryd.ntmps5
  go_wp2_with fail
  refine (awake3_any _ HK).mono ?_
  rintro e w1 ⟨rfl, hB⟩
  go_wp2_with fail
  clear g1 g2
  refine (mac_any _ _ key msg _ _ _ _ _ (Lib.hid rfl) (Lib.hid rfl) (hr.keep hB) (hm.keep hB) hc (by omega) (by omega) (Lib.hid (HK.out.keep hB))).mono ?_
  rintro e w2 ⟨A2, c2, rfl, hc2, hr2, hb2⟩
  replace hB := below_step hB hb2
  clear hb2
  have HY : Hid ((macL key msg).length = 32) := macL_length key msg
  have HX : Hid ((hblk key).length = 64) := hblk_length key
  have HM1 : Hid (macL (hblk key) msg = macL key msg) := macL_hblk key msg
  have HM2 : Hid (64 < key.length → macL (sumL key) msg = macL key msg) := macL_sum key msg
  have HM3 : Hid (key.length < 64 → macL (key ++ [0]) msg = macL key msg) := macL_zero key msg
  have HM4 : Hid (key.length = 64 → hblk key = key) := hblk_whole key
  generalize macL key msg = Y at hr2 HY HM1 HM2 HM3
  go_wp2_with fail
  go_cut [31] (fun v wx => v = .bool false ∧ Below w2.heap.size w2 wx)
  case first =>
    have hBase : Below w2.heap.size w2 w2.drew := (Below.refl _ _).drew
    have hs1 := str_later (c := c2) 32 HY hr2
    refine wp_region_plan (.step 0 false (.step 1 false (.step 2 false (.step 3 false (.step 4 false (.step 5 false (.step 6 false (.step 8 false (.step 7 true (.step 9 true (.step 10 false (.step 11 false (.step 12 false (.nil)))))))))))))) (by kernel_rfl) (by kernel_rfl) (by rfl) (by kernel_rfl) ?_
    iterate 8 (refine plan_read rfl (by rfl) (v := ?_) ?_ ?_; rotate_left 1; (intro W hW; have hW0 := below_step hBase hW; (try dsimp only at hW); go_simp <;> with_reducible rfl); simp only [List.getElem_toArray, List.getElem_cons_zero, List.getElem_cons_succ, Act.put, List.setIfInBounds_toArray, List.set_cons_zero, List.set_cons_succ])
    clear hs1
    (refine plan_make rfl (by rfl) (fun K hK => ?_); go_simp; (refine (hblock_any _ key _ _ _ (Lib.hid rfl) (hr.keep (by exact below_step hB hBase)) hc (by omega) (Lib.hid (HK.out.keep (by exact below_step hB hBase)))).mono ?_; rintro e w3 ⟨A3, c3, rfl, hc3, hr3, hbx⟩); refine hK.out _ _ hbx ?_; clear hK K; replace hBase := below_step hBase hbx)
    (refine plan_make rfl (by rfl) (fun K hK => ?_); go_simp; (refine (mac_any 64 _ (hblk key) msg _ _ _ _ _ HX (Lib.hid rfl) hr3 (hm.keep (by exact below_step hB hBase)) hc3 (by omega) (by omega) (Lib.hid (HK.out.keep (by exact below_step hB hBase)))).mono ?_; rintro e w4 ⟨A4, c4, rfl, hc4, hr4, hbx⟩; rw [HM1.out] at hr4); refine hK.out _ _ hbx ?_; clear hK K; replace hBase := below_step hBase hbx)
    have hs2 := str_later (c := c4) 32 HY hr4
    iterate 3 (refine plan_read rfl (by rfl) (v := ?_) ?_ ?_; rotate_left 1; (intro W hW; have hW0 := below_step hBase hW; (try dsimp only at hW); go_simp <;> with_reducible rfl); simp only [List.getElem_toArray, List.getElem_cons_zero, List.getElem_cons_succ, Act.put, List.setIfInBounds_toArray, List.set_cons_zero, List.set_cons_succ])
    refine plan_done ?_
    have HR := Lib.hid hBase
    clear hBase hs2 hr3 hr4 hr2
    go_wp2_with fail
    go_meet
    case rel => exact ⟨rfl, HR.out⟩
  case rest =>
    obtain ⟨rfl, hcut⟩ := hcut
    replace hr2 := hr2.keep hcut
    replace hB := below_step hB hcut
    clear hcut
    by_cases h64 : 64 < key.length
    · have hgt : (64 : Int) < (key.length : Int) := by omega
      have HS : Hid ((sumL key).length = 32) := sumL_length key
      have HM := Lib.hid (HM2.out h64)
      clear HM1 HM2 HM3 HM4 HX
      go_wp2_with fail
      have hBase : Below wc.heap.size wc wc.drew := (Below.refl _ _).drew
      have hs1 := str_later (c := c2) 32 HY hr2
      refine wp_region_plan (.step 0 false (.step 1 false (.step 2 false (.step 4 false (.step 3 true (.step 5 true (.step 6 false (.step 7 false (.step 8 false (.nil)))))))))) (by kernel_rfl) (by kernel_rfl) (by rfl) (by kernel_rfl) ?_
      iterate 4 (refine plan_read rfl (by rfl) (v := ?_) ?_ ?_; rotate_left 1; (intro W hW; have hW0 := below_step hBase hW; (try dsimp only at hW); go_simp <;> with_reducible rfl); simp only [List.getElem_toArray, List.getElem_cons_zero, List.getElem_cons_succ, Act.put, List.setIfInBounds_toArray, List.set_cons_zero, List.set_cons_succ])
      clear hs1
      (refine plan_make rfl (by rfl) (fun K hK => ?_); go_simp; (refine (sum_at _ key _ _ _ (Lib.hid rfl) (hr.keep (by exact below_step hB hBase)) hc (by omega) (Lib.hid (HK.out.keep (by exact below_step hB hBase)))).mono ?_; rintro e w3 ⟨A3, c3, rfl, hc3, hr3, hbx⟩); refine hK.out _ _ hbx ?_; clear hK K; replace hBase := below_step hBase hbx)
      (refine plan_make rfl (by rfl) (fun K hK => ?_); go_simp; (refine (mac_any 32 _ (sumL key) msg _ _ _ _ _ HS (Lib.hid rfl) hr3 (hm.keep (by exact below_step hB hBase)) hc3 (by omega) (by omega) (Lib.hid (HK.out.keep (by exact below_step hB hBase)))).mono ?_; rintro e w4 ⟨A4, c4, rfl, hc4, hr4, hbx⟩; rw [HM.out] at hr4); refine hK.out _ _ hbx ?_; clear hK K; replace hBase := below_step hBase hbx)
      have hs2 := str_later (c := c4) 32 HY hr4
      iterate 3 (refine plan_read rfl (by rfl) (v := ?_) ?_ ?_; rotate_left 1; (intro W hW; have hW0 := below_step hBase hW; (try dsimp only at hW); go_simp <;> with_reducible rfl); simp only [List.getElem_toArray, List.getElem_cons_zero, List.getElem_cons_succ, Act.put, List.setIfInBounds_toArray, List.set_cons_zero, List.set_cons_succ])
      refine plan_done ?_
      go_wp2_with fail
      go_ret
      exact ⟨rfl, below_step hB hBase⟩
    · have hgt : ¬ (64 : Int) < (key.length : Int) := by omega
      by_cases h63 : key.length < 64
      · have hlt : (key.length : Int) < 64 := by omega
        have HM := Lib.hid (HM3.out h63)
        obtain ⟨K0, hK0⟩ : ∃ K0, K0 = key ++ [0] := ⟨_, rfl⟩
        rw [← hK0] at HM
        have HK0 := Lib.hid hK0
        have HL0 : Hid (K0.length = key.length + 1) := by unfold Hid; rw [hK0, List.length_append]; rfl
        obtain ⟨i0, hi, hz0, hz1, hz2⟩ := info_parts info_u8
        clear hK0 HM1 HM2 HM3 HM4 HX
        go_wp2_with fail
        have hs1 := str_later (c := c2) 32 HY hr2
        refine wp_region_plan_of (fun W => Below wc.heap.size wc W) (.step 0 false (.step 1 false (.step 3 false (.step 7 false (.fork 2 (.fork 4 (.step 5 true (.step 6 true (.step 8 true (.step 9 false (.step 10 false (.step 11 false .nil)))))) 5 (.step 4 true (.step 6 true (.step 8 true (.step 9 false (.step 10 false (.step 11 false .nil))))))) 5 (.step 2 true (.step 4 true (.step 6 true (.step 8 true (.step 9 false (.step 10 false (.step 11 false .nil)))))))))))) ((Below.refl _ _).drew) (by kernel_rfl) (by kernel_rfl) (by rfl) (by kernel_rfl) ?_
        iterate 4 (refine plan_read rfl (by rfl) (v := ?_) ?_ ?_; rotate_left 1; (intro W hW; go_simp <;> with_reducible rfl); simp only [List.getElem_toArray, List.getElem_cons_zero, List.getElem_cons_succ, Act.put, List.setIfInBounds_toArray, List.set_cons_zero, List.set_cons_succ])
        have hB0 : Below wc.heap.size wc wc.drew := (Below.refl _ _).drew
        clear hs1 hr2
        refine plan_fork rfl rfl (by rfl) (by rfl) (fun K hK => ?_) (fun K hK => ?_)
        · go_simp
          refine hK.out _ _ (below_new hB0 _) ?_
          clear hK K
          refine at_world (Q := wpPlan _ _ _ _ _ _) (fun W => W.ownsRow wc.heap.size 5 1 (.slice (some ⟨wc.heap.size, 0, none⟩) 0 0) 0 [] ∧ Below wc.heap.size wc W) ⟨World.ownsRow_made wc.drew #[] 0 (Nat.le_refl _) (by unfold maxLen; omega) rfl, below_new hB0 _⟩ ?_
          rintro W1 ⟨hown1, hB1⟩
          have hlt1 := (hown1.lt wc.heap.size rfl).2
          refine plan_fork rfl rfl (by rfl) (by rfl) (fun K hK => ?_) (fun K hK => ?_)
          · refine wp_append_rd _ (.tmp 48) (.tmp 49) 24 (by rfl) wc.heap.size 5 i0 (.int .u8 0) 1 Tryd.underlying24 hi hz0 hz1 hz2 rfl _ _ _ (by rfl) hown1 A key c (by rfl) (hr.keep (below_step hB hB1)) vB_one (by unfold maxLen; omega) (by omega) (hB1.size) ?_
            intro v2 w3 hown2 hgrow2
            simp only [List.getElem_toArray, List.getElem_cons_zero, List.getElem_cons_succ, Act.put, List.setIfInBounds_toArray, List.set_cons_zero, List.set_cons_succ]
            have hB2 : Below wc.heap.size wc w3 := hB1.grown hgrow2 hB1.size (fun g hk => (hown1.lt g hk).1)
            refine hK.out _ _ hB2 ?_
            clear hK K
            refine plan_make_of rfl (by rfl) (fun K hK => ?_)
            go_simp
            refine hK.out _ _ (below_new hB2 _) ?_
            clear hK K
            refine plan_make_of rfl (by rfl) (fun K hK => ?_)
            refine wp_append_own _ (.tmp 50) (.tmp 51) 24 (by rfl) wc.heap.size 5 i0 (.int .u8 0) 1 1 Tryd.underlying24 hi hz0 hz1 hz2 rfl (by decide) _ _ _ (by rfl) (hown2.alloc _) ⟨w3.heap.size, 0, none⟩ 1 1 [.int .u8 0] (by rfl) rfl (cell_one_new _ _ _) (by intro u hu; simp at hu; subst hu; rfl) (by unfold maxLen; omega) (by omega) (by have := hB2.size; simp; omega) ?_
            intro v3 w5 hown3 hgrow3 _
            simp only [List.getElem_toArray, List.getElem_cons_zero, List.getElem_cons_succ, Act.put, List.setIfInBounds_toArray, List.set_cons_zero, List.set_cons_succ]
            have hB3 : Below wc.heap.size wc w5 := (below_new hB2 _).grown hgrow3 (by have := hB2.size; simp; omega) (fun g hk => (hown2.lt g hk).1)
            obtain ⟨A3, c3, rfl, hc3, hr3⟩ := zero_own HK0 hown3
            refine hK.out _ _ hB3 ?_
            clear hK K
            refine plan_make_to rfl (by rfl) (fun K hK => ?_)
            go_simp
            refine (mac_any _ _ K0 msg _ _ _ _ _ HL0 (Lib.hid rfl) hr3 (hm.keep (below_step hB hB3)) hc3 (by omega) (by omega) (Lib.hid (HK.out.keep (below_step hB hB3)))).mono ?_
            rintro e w4 ⟨A4, c4, rfl, hc4, hr4, hb4⟩
            rw [HM.out] at hr4
            simp only [List.getElem_toArray, List.getElem_cons_zero, List.getElem_cons_succ, Act.put, List.setIfInBounds_toArray, List.set_cons_zero, List.set_cons_succ]
            refine hK.out (fun W => Below w4.heap.size w4 W) _ _ (fun W hW => below_step (below_step hB3 hb4) hW) (Below.refl _ _) ?_
            clear hK K
            have hs2 := str_later (c := c4) 32 HY hr4
            iterate 3 (refine plan_read rfl (by rfl) (v := ?_) ?_ ?_; rotate_left 1; (intro W hW; go_simp <;> with_reducible rfl); simp only [List.getElem_toArray, List.getElem_cons_zero, List.getElem_cons_succ, Act.put, List.setIfInBounds_toArray, List.set_cons_zero, List.set_cons_succ])
            refine plan_done ?_
            go_wp2_with fail
            go_ret
            exact ⟨rfl, below_step hB (below_step hB3 hb4)⟩
          · go_simp
            refine hK.out _ _ (below_new hB1 _) ?_
            clear hK K
            refine plan_make_of rfl (by rfl) (fun K hK => ?_)
            refine wp_append_rd _ (.tmp 48) (.tmp 49) 24 (by rfl) wc.heap.size 5 i0 (.int .u8 0) 1 Tryd.underlying24 hi hz0 hz1 hz2 rfl _ _ _ (by rfl) (hown1.alloc _) A key c (by rfl) (hr.keep (below_step hB (below_new hB1 _))) vB_one (by unfold maxLen; omega) (by omega) (by have := hB1.size; simp; omega) ?_
            intro v2 w3 hown2 hgrow2
            simp only [List.getElem_toArray, List.getElem_cons_zero, List.getElem_cons_succ, Act.put, List.setIfInBounds_toArray, List.set_cons_zero, List.set_cons_succ]
            have hB2 : Below wc.heap.size wc w3 := (below_new hB1 _).grown hgrow2 (by have := hB1.size; simp; omega) (fun g hk => (hown1.lt g hk).1)
            have hnew : ∀ j u, ([.int .u8 0] : List Value)[j]? = some u → w3.cell? ((⟨W1.heap.size, 0, none⟩ : Addr).add j) = some u := fun j u hu => hgrow2.cell (cell_one_new _ _ _ j u hu) (by simp [Value.ownBlock, Addr.add]; split <;> simp <;> omega)
            refine hK.out _ _ hB2 ?_
            clear hK K
            refine plan_make_of rfl (by rfl) (fun K hK => ?_)
            refine wp_append_own _ (.tmp 50) (.tmp 51) 24 (by rfl) wc.heap.size 5 i0 (.int .u8 0) 1 1 Tryd.underlying24 hi hz0 hz1 hz2 rfl (by decide) _ _ _ (by rfl) hown2 ⟨W1.heap.size, 0, none⟩ 1 1 [.int .u8 0] (by rfl) rfl hnew (by intro u hu; simp at hu; subst hu; rfl) (by unfold maxLen; omega) (by omega) (hB2.size) ?_
            intro v3 w5 hown3 hgrow3 _
            simp only [List.getElem_toArray, List.getElem_cons_zero, List.getElem_cons_succ, Act.put, List.setIfInBounds_toArray, List.set_cons_zero, List.set_cons_succ]
            have hB3 : Below wc.heap.size wc w5 := hB2.grown hgrow3 hB2.size (fun g hk => (hown2.lt g hk).1)
            obtain ⟨A3, c3, rfl, hc3, hr3⟩ := zero_own HK0 hown3
            refine hK.out _ _ hB3 ?_
            clear hK K
            refine plan_make_to rfl (by rfl) (fun K hK => ?_)
            go_simp
            refine (mac_any _ _ K0 msg _ _ _ _ _ HL0 (Lib.hid rfl) hr3 (hm.keep (below_step hB hB3)) hc3 (by omega) (by omega) (Lib.hid (HK.out.keep (below_step hB hB3)))).mono ?_
            rintro e w4 ⟨A4, c4, rfl, hc4, hr4, hb4⟩
            rw [HM.out] at hr4
            simp only [List.getElem_toArray, List.getElem_cons_zero, List.getElem_cons_succ, Act.put, List.setIfInBounds_toArray, List.set_cons_zero, List.set_cons_succ]
            refine hK.out (fun W => Below w4.heap.size w4 W) _ _ (fun W hW => below_step (below_step hB3 hb4) hW) (Below.refl _ _) ?_
            clear hK K
            have hs2 := str_later (c := c4) 32 HY hr4
            iterate 3 (refine plan_read rfl (by rfl) (v := ?_) ?_ ?_; rotate_left 1; (intro W hW; go_simp <;> with_reducible rfl); simp only [List.getElem_toArray, List.getElem_cons_zero, List.getElem_cons_succ, Act.put, List.setIfInBounds_toArray, List.set_cons_zero, List.set_cons_succ])
            refine plan_done ?_
            go_wp2_with fail
            go_ret
            exact ⟨rfl, below_step hB (below_step hB3 hb4)⟩
        · go_simp
          refine hK.out _ _ (below_new hB0 _) ?_
          clear hK K
          refine at_world (Q := wpPlan _ _ _ _ _ _) (fun W => Row W wc.heap.size 5 [.int .u8 0] ∧ Below wc.heap.size wc W) ⟨Row.new wc.drew _ _ _ rfl, below_new hB0 _⟩ ?_
          rintro W1 ⟨hR1, hB1⟩
          have hlt1 := hR1.lt
          refine plan_make_of rfl (by rfl) (fun K hK => ?_)
          go_simp
          refine hK.out _ _ (below_new hB1 _) ?_
          clear hK K
          have hown1 : (W1.alloc (.cells #[] 5)).ownsRow wc.heap.size 5 1 (.slice (some ⟨W1.heap.size, 0, none⟩) 0 0) 0 [] := World.ownsRow_made W1 #[] 0 hB1.size (by unfold maxLen; omega) rfl
          refine plan_make_of rfl (by rfl) (fun K hK => ?_)
          refine wp_append_rd _ (.tmp 48) (.tmp 49) 24 (by rfl) wc.heap.size 5 i0 (.int .u8 0) 1 Tryd.underlying24 hi hz0 hz1 hz2 rfl _ _ _ (by rfl) hown1 A key c (by rfl) (hr.keep (below_step hB (below_new hB1 _))) vB_one (by unfold maxLen; omega) (by omega) (by have := hB1.size; simp; omega) ?_
          intro v2 w3 hown2 hgrow2
          simp only [List.getElem_toArray, List.getElem_cons_zero, List.getElem_cons_succ, Act.put, List.setIfInBounds_toArray, List.set_cons_zero, List.set_cons_succ]
          have hB2 : Below wc.heap.size wc w3 := (below_new hB1 _).grown hgrow2 (by have := hB1.size; simp; omega) (fun g hk => (hown1.lt g hk).1)
          have hnew : ∀ j u, ([.int .u8 0] : List Value)[j]? = some u → w3.cell? ((⟨wc.heap.size, 0, none⟩ : Addr).add j) = some u := fun j u hu => hgrow2.cell (by
            have hj : j = 0 := by
              have := (List.getElem?_eq_some_iff.1 hu).1
              simp at this
              omega
            subst hj
            have e : (⟨wc.heap.size, 0, none⟩ : Addr).add 0 = ⟨wc.heap.size, 0, none⟩ := by simp [Addr.add]
            rw [e]
            exact (hR1.alloc _).cell hu) (by simp [Value.ownBlock, Addr.add]; split <;> simp <;> omega)
          refine hK.out _ _ hB2 ?_
          clear hK K
          refine plan_make_of rfl (by rfl) (fun K hK => ?_)
          refine wp_append_own _ (.tmp 50) (.tmp 51) 24 (by rfl) wc.heap.size 5 i0 (.int .u8 0) 1 1 Tryd.underlying24 hi hz0 hz1 hz2 rfl (by decide) _ _ _ (by rfl) hown2 ⟨wc.heap.size, 0, none⟩ 1 1 [.int .u8 0] (by rfl) rfl hnew (by intro u hu; simp at hu; subst hu; rfl) (by unfold maxLen; omega) (by omega) (hB2.size) ?_
          intro v3 w5 hown3 hgrow3 _
          simp only [List.getElem_toArray, List.getElem_cons_zero, List.getElem_cons_succ, Act.put, List.setIfInBounds_toArray, List.set_cons_zero, List.set_cons_succ]
          have hB3 : Below wc.heap.size wc w5 := hB2.grown hgrow3 hB2.size (fun g hk => (hown2.lt g hk).1)
          obtain ⟨A3, c3, rfl, hc3, hr3⟩ := zero_own HK0 hown3
          refine hK.out _ _ hB3 ?_
          clear hK K
          refine plan_make_to rfl (by rfl) (fun K hK => ?_)
          go_simp
          refine (mac_any _ _ K0 msg _ _ _ _ _ HL0 (Lib.hid rfl) hr3 (hm.keep (below_step hB hB3)) hc3 (by omega) (by omega) (Lib.hid (HK.out.keep (below_step hB hB3)))).mono ?_
          rintro e w4 ⟨A4, c4, rfl, hc4, hr4, hb4⟩
          rw [HM.out] at hr4
          simp only [List.getElem_toArray, List.getElem_cons_zero, List.getElem_cons_succ, Act.put, List.setIfInBounds_toArray, List.set_cons_zero, List.set_cons_succ]
          refine hK.out (fun W => Below w4.heap.size w4 W) _ _ (fun W hW => below_step (below_step hB3 hb4) hW) (Below.refl _ _) ?_
          clear hK K
          have hs2 := str_later (c := c4) 32 HY hr4
          iterate 3 (refine plan_read rfl (by rfl) (v := ?_) ?_ ?_; rotate_left 1; (intro W hW; go_simp <;> with_reducible rfl); simp only [List.getElem_toArray, List.getElem_cons_zero, List.getElem_cons_succ, Act.put, List.setIfInBounds_toArray, List.set_cons_zero, List.set_cons_succ])
          refine plan_done ?_
          go_wp2_with fail
          go_ret
          exact ⟨rfl, below_step hB (below_step hB3 hb4)⟩
      · have h64' : key.length = 64 := by omega
        have hge : ¬ (key.length : Int) < 64 := by omega
        have HM := Lib.hid (HM4.out h64')
        have HN := Lib.hid h64'
        clear HM1 HM2 HM3 HM4 h64' h63 h64
        go_wp2_with fail
        have hBase : Below wc.heap.size wc wc.drew := (Below.refl _ _).drew
        have hs1 : ∀ W, Below wc.heap.size wc W → (convert 24 9 (.slice A key.length c)).run Tryd.prog W = .ok (.string ⟨key.toArray⟩) W := str_later (c := c) _ (Lib.hid rfl) (hr.keep hB)
        refine wp_region_plan (.step 0 false (.step 3 false (.step 4 false (.step 1 true (.step 2 false (.step 5 false (.step 6 false (.nil)))))))) (by kernel_rfl) (by kernel_rfl) (by rfl) (by kernel_rfl) ?_
        iterate 3 (refine plan_read rfl (by rfl) (v := ?_) ?_ ?_; rotate_left 1; (intro W hW; have hW0 := below_step hBase hW; (try dsimp only at hW); go_simp <;> with_reducible rfl); simp only [List.getElem_toArray, List.getElem_cons_zero, List.getElem_cons_succ, Act.put, List.setIfInBounds_toArray, List.set_cons_zero, List.set_cons_succ])
        clear hs1
        (refine plan_make rfl (by rfl) (fun K hK => ?_); go_simp; (refine (hblock_any _ key _ _ _ (Lib.hid rfl) (hr.keep (by exact below_step hB hBase)) hc (by omega) (Lib.hid (HK.out.keep (by exact below_step hB hBase)))).mono ?_; rintro e w3 ⟨A3, c3, rfl, hc3, hr3, hbx⟩; rw [HM.out] at hr3); refine hK.out _ _ hbx ?_; clear hK K; replace hBase := below_step hBase hbx)
        have hs2 := str_later (c := c3) 64 HN hr3
        iterate 3 (refine plan_read rfl (by rfl) (v := ?_) ?_ ?_; rotate_left 1; (intro W hW; have hW0 := below_step hBase hW; (try dsimp only at hW); go_simp <;> with_reducible rfl); simp only [List.getElem_toArray, List.getElem_cons_zero, List.getElem_cons_succ, Act.put, List.setIfInBounds_toArray, List.set_cons_zero, List.set_cons_succ])
        refine plan_done ?_
        go_wp2_with fail
        go_ret
        exact ⟨rfl, below_step hB hBase⟩

set_option maxRecDepth 100000 in
theorem hmackeys_big (n m : Nat) (A B : Option Addr) (c d : Nat) (w : World) (h : ¬ (n ≤ 2000 ∧ m ≤ 2000)) (hn : n ≤ 9223372036854775807) (hm : m ≤ 9223372036854775807) (HK : Hid (KTab w)) :
    Calls Tryd.prog 5 #[.slice A n c, .slice B m d] w fun e w' => e = .returned (.bool true) ∧ Below w.heap.size w w' := by
  go_enter Tryd.func5, Tryd.ntmps5
  go_wp2_with fail
  refine (awake3_any _ HK).mono ?_
  rintro e w1 ⟨rfl, hB⟩
  by_cases h1 : n ≤ 2000
  · have g1 : decide ((2000 : Int) < (n : Int)) = false := by simp; omega
    have g2 : decide ((2000 : Int) < (m : Int)) = true := by simp; omega
    go_wp2_with fail
    go_ret
    exact ⟨rfl, hB⟩
  · have g1 : decide ((2000 : Int) < (n : Int)) = true := by simp; omega
    go_wp2_with fail
    go_ret
    exact ⟨rfl, hB⟩

theorem hmackeys_any (v0 v1 : Value) (W : World) {H : Type} {enc : TypeId × Value → H} {base : Nat} {d0 d1 : DataW H} {p0 p1 : List MemPlace} (hv0 : Value.okWide Tryd.prog W .any base 24 v0) (ht0 : DataW.Trod enc Tryd.prog W 0 (fun _ => true) true 24 v0 d0 p0)
    (hv1 : Value.okWide Tryd.prog W .any base 24 v1) (ht1 : DataW.Trod enc Tryd.prog W 0 (fun _ => true) true 24 v1 d1 p1) (hk : KTab W) :
    Calls Tryd.prog 5 #[v0, v1] W fun e w' => e = .returned (.bool true) ∧ Below W.heap.size W w' := by
  obtain ⟨b, A, c, rfl, hc, hcm, hr⟩ := open_bytes hv0 ht0
  obtain ⟨m, B, d, rfl, hd, hdm, hm⟩ := open_bytes hv1 ht1
  by_cases h : b.length ≤ 2000 ∧ m.length ≤ 2000
  · exact hmackeys_core b m A B c d W hr hm hc h.1 h.2 (Lib.hid hk)
  · exact hmackeys_big b.length m.length A B c d W h (by omega) (by omega) (Lib.hid hk)
end Go.Proofs.YtdokbhcoekffpaaDoor
