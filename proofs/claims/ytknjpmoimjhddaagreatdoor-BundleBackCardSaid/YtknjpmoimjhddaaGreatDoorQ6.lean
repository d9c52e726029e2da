/-
  What the program's Right of layer 16 answers (landed code). No conditions but those typed.
-/
import Derived.Test.YtknjpmoimjhddaaGreatDoorQ5
import Derived.Maps.AppendAt
namespace Go.Proofs.YtknjpmoimjhddaaGreatDoor
set_option maxRecDepth 100000
open Go.RowKit
set_option linter.unusedSimpArgs false
set_option linter.unusedVariables false

theorem inW_below (lo hi : Nat) (n : Int) (g1 g2 : Nat) (w : World) (c1 : w.cell? ⟨g1, 0, none⟩ = some (.int .i64 (lo : Int))) (c2 : w.cell? ⟨g2, 0, none⟩ = some (.int .i64 (hi : Int))) :
    Calls Tryz.prog 136 #[.int .i64 n, .pointer (some ⟨g1, 0, none⟩), .pointer (some ⟨g2, 0, none⟩)] w fun e w' => e = .returned (.bool (decide ((lo : Int) ≤ n ∧ n ≤ (hi : Int)))) ∧ Below w.heap.size w w' :=
  (inW_any lo hi n g1 g2 w c1 c2).mono fun e w' h => ⟨h.1, h.2 ▸ Below.refl _ _⟩
set_option maxHeartbeats 4000000 in
theorem rightB_any (v : Nat) (es : List ED) (gs : List Gn) (n ec m gc : Nat) (eA gA : Option Addr) (w : World) (HN : Hid (es.length = n)) (HM : Hid (gs.length = m)) (hre : RdE w eA es) (hrg : RdG w gA gs) (HF : Hid (fitG gs)) (hn : n ≤ 1000000000) (hm : m ≤ 1000000000) (hml : ∀ x ∈ es, x.s.length ≤ 9223372036854775807) :
    Calls Tryz.prog 19 #[aggB v eA n ec gA m gc] w fun e w' => e = .returned (.bool (rightB (conE es) gs)) ∧ Below w.heap.size w w' := by
  obtain ⟨hR, hB⟩ := box_three w 26 (.int .u64 (v : Int)) (.slice eA n ec) (.slice gA m gc)
  obtain ⟨P, hP⟩ : ∃ P, rightB (conE es) gs = P := ⟨_, rfl⟩
  rw [hP]
  unfold rightB at hP
  rw [conE_length, HN.out] at hP
  have HML := Lib.hid hml
  obtain ⟨G, hG⟩ : ∃ G, rightG gs = G := ⟨_, rfl⟩
  rw [hG] at hP
  have HP := Lib.hid hP
  have HRR := Lib.hid (fun W hW => right15_any gs m gc gA W HM (hrg.keep hW) HF hm)
  rw [hG] at HRR
  clear hP hml hG
  unfold aggB
  go_enter Tryz.func19, Tryz.ntmps19
  go_upto_region 1 with fail
  generalize (w.alloc (.cells #[.int .u64 (v : Int), .slice eA n ec, .slice gA m gc] 26)) = w1 at hR hB ⊢
  go_wp2_with fail
  refine (counts_any w1).mono ?_
  rintro e w2 ⟨vE, vS, rfl, hWE, hWS, hb⟩
  replace hR := hR.later hb
  replace hB := below_step hB hb
  clear hb
  go_upto_region 2 with fail
  have c1 : w2.cell? ⟨w.heap.size, 1, none⟩ = some (.slice eA n ec) := hR.cell rfl
  have c2 : w2.cell? ⟨w.heap.size, 2, none⟩ = some (.slice gA m gc) := hR.cell rfl
  obtain ⟨g1, g2, rfl, d1, d2, l1, l2⟩ := hWE
  have hin := inW_any 0 64 (n : Int) g1 g2 w2 d1 d2
  by_cases h64 : n ≤ 64
  · have hd : Hid (decide (((0 : Nat) : Int) ≤ (n : Int) ∧ (n : Int) ≤ ((64 : Nat) : Int)) = true) := decide_eq_true (by omega)
    rw [hd.out] at hin
    go_wp2_with fail
    refine hin.mono ?_
    rintro e w3 ⟨rfl, rfl⟩
    go_wp2_with fail
    refine (HRR.out _ hB).mono ?_
    rintro e w4 ⟨rfl, hb⟩
    have HB2 := Lib.hid (below_step hB hb)
    have hR2 := hR.later hb
    have hre2 := hre.keep HB2.out
    cases G with
    | false =>
      have HPF : Hid (P = false) := by unfold Hid; rw [← HP.out]; simp
      clear c1 c2 hb hR2 hre2
      go_wp2_with fail
      go_ret
      exact ⟨by rw [HPF.out]; rfl, HB2.out⟩
    | true =>
      have HPO : Hid (P = okE (conE es)) := by unfold Hid; rw [← HP.out, decide_eq_true h64, Bool.true_and, Bool.true_and]
      have hWS2 := hWS.below hb (Nat.le_refl _)
      clear c1 c2 d1 d2 hb hB hR hre hrg hWS hin
      have k1 : w4.cell? ⟨w.heap.size, 1, none⟩ = some (.slice eA n ec) := hR2.cell rfl
      go_upto_region 5 with fail
      obtain ⟨q1, q2, rfl, d1, d2, l1, l2⟩ := hWS2
      have hl1 : q1 < w4.heap.size := World.block_lt_of_cell? w4 _ d1
      have hl2 : q2 < w4.heap.size := World.block_lt_of_cell? w4 _ d2
      clear k1
      go_loopw [5, 6, 26] (fun _ _ i wr => (∃ k : Nat, i = .int .i64 (k : Int) ∧ k ≤ n ∧ ∀ j (h : j < es.length), j < k → seedOK es[j].con ∧ (0 < j → (es[j - 1]'(by omega)).t < es[j].t)) ∧ Below w4.heap.size w4 wr) (fun _ _ i _ => n - (intOf i).toNat)
      case atStart => exact ⟨⟨0, rfl, by omega, fun j _ hj => by omega⟩, Below.refl _ _⟩
      case round =>
        obtain ⟨⟨k, rfl, hk, hs⟩, hBr⟩ := hrel
        have hRr := hR2.later hBr
        have HB3 := Lib.hid (below_step HB2.out hBr)
        by_cases hlt : k < n
        · have hkl : k < es.length := by rw [HN.out]; exact hlt
          obtain ⟨b, o, rfl, hb, hrng, p0, _, _⟩ := hre2.one hkl
          have hrngW : wr.rangeAt b (o + k * 3) es[k].cells := fun j u hu => (hBr.cell (p := ⟨b, o + k * 3 + j, none⟩) hb).trans (hrng j u hu)
          have HS : Hid (seedOK es[k].con ∧ (0 < k → (es[k - 1]'(by omega)).t < es[k].t) → ∀ j (h : j < es.length), j < k + 1 → seedOK es[j].con ∧ (0 < j → (es[j - 1]'(by omega)).t < es[j].t)) := fun h j hj hjk => by
            by_cases e : j = k
            · subst e; exact h
            · exact hs j hj (by omega)
          have HE : Hid (¬ (seedOK es[k].con ∧ (0 < k → (es[k - 1]'(by omega)).t < es[k].t)) → okE (conE es) = false) := fun h => by
            rw [Bool.eq_false_iff]
            intro hok
            have h1 := (okE_at _).1 hok k (by rw [conE_length]; exact hkl)
            rw [conE_get es k hkl] at h1
            refine h ⟨h1.1, fun h0 => ?_⟩
            have h2 := h1.2 h0
            rw [conE_get es (k - 1) (by omega)] at h2
            exact h2
          have hxl := HML.out _ (List.getElem_mem hkl)
          have i0 : (0 : Int) ≤ (k : Int) := by omega
          have i1 : (k : Int) < (n : Int) := by omega
          have hlr := hBr.size
          have hRn : Row (wr.alloc (.cells #[.int .u64 0, .int .u64 0, .slice none 0 0] 35)) wr.heap.size 35 [.int .u64 0, .int .u64 0, .slice none 0 0] := Row.new wr _ _ _ rfl
          have hRe := hRn.setRow es[k].cells
          have hb6 : Below wr.heap.size wr ((wr.alloc (.cells #[.int .u64 0, .int .u64 0, .slice none 0 0] 35)).setRow wr.heap.size es[k].cells.toArray) := below_setRow (below_new (Below.refl _ _) _) (Nat.le_refl _) _
          have hC3 : es[k].cells = [.int .u64 (es[k].t : Int), .int .u64 (es[k].e : Int), .slice es[k].A es[k].s.length es[k].c] := rfl
          have HSK : Hid (seedOK es[k].con ↔ 1 ≤ es[k].s.length ∧ es[k].s.length ≤ 32) := Iff.rfl
          rw [hC3] at hrngW hRe hb6
          clear hC3 p0 hrng
          obtain ⟨a, ha⟩ : ∃ a, Hid (a = k - 1) := ⟨_, Lib.hid rfl⟩
          have hka : a < es.length := by have := ha.out; omega
          have H0 : Hid (0 < k → wr.cell? ⟨b, o + a * 3, none⟩ = some (.int .u64 (es[a].t : Int)) ∧ (es[a].t < es[k].t → (0 < k → (es[k - 1]'(by omega)).t < es[k].t)) ∧ (¬ es[a].t < es[k].t → ¬ (0 < k → (es[k - 1]'(by omega)).t < es[k].t))) := fun h0 => by
            obtain ⟨b', o', e', hb', _, q0, _, _⟩ := hre2.one hka
            injection e' with e'
            injection e' with e1 e2 _
            subst e1 e2
            refine ⟨(hBr.cell (p := ⟨b, o + a * 3, none⟩) hb).trans q0, fun h _ => by have e := ha.out; subst e; exact h, fun h h2 => h (by have e := ha.out; subst e; exact h2 h0)⟩
          generalize es[k].s.length = q at *
          generalize es[k].t = tk at *
          generalize es[a].t = ta at *
          generalize es[k].e = te at *
          generalize es[k].A = tA at *
          generalize es[k].c = tc at *
          go_upto_region 7 with (first
            | (refine wpList_load_mid rfl 35 (.tmp 29) rfl b (o + k * 3) rfl [.int .u64 (tk : Int), .int .u64 (te : Int), .slice tA q tc] _ hrngW Tryz.underlying35 rfl (by exact size_entry) ?_)
            | (refine wpList_store_row rfl 35 (.tmp 6) (.tmp 30) rfl wr.heap.size rfl [.int .u64 (tk : Int), .int .u64 (te : Int), .slice tA q tc] rfl _ _ hRn (by exact size_entry) rfl (one_three _ _ _ rfl rfl rfl) ?_))
          have hRr6 := hRr.later hb6
          have HB6 := Lib.hid (hBr.trans (hb6.mono hlr))
          have HB7 := Lib.hid (below_step HB2.out HB6.out)
          have hcA : ∀ p, p.block < wr.heap.size → ((wr.alloc (.cells #[.int .u64 0, .int .u64 0, .slice none 0 0] 35)).setRow wr.heap.size [.int .u64 (tk : Int), .int .u64 (te : Int), .slice tA q tc].toArray).cell? p = wr.cell? p := fun p hp => hb6.cell hp
          generalize (wr.alloc (.cells #[.int .u64 0, .int .u64 0, .slice none 0 0] 35)).setRow wr.heap.size [.int .u64 (tk : Int), .int .u64 (te : Int), .slice tA q tc].toArray = w6 at hRe hRr6 HB6 HB7 hcA ⊢
          have hbw : b < wr.heap.size := by omega
          have hl1w : q1 < wr.heap.size := by omega
          have hl2w : q2 < wr.heap.size := by omega
          have hs6 := HB6.out.size
          have e0 : ∀ W, Below w6.heap.size w6 W → W.cell? ⟨wr.heap.size, 0, none⟩ = some (.int .u64 (tk : Int)) := fun W hW => (hRe.later hW).cell rfl
          have e2 : ∀ W, Below w6.heap.size w6 W → W.cell? ⟨wr.heap.size, 2, none⟩ = some (.slice tA q tc) := fun W hW => (hRe.later hW).cell rfl
          have c1 : ∀ W, Below w6.heap.size w6 W → W.cell? ⟨w.heap.size, 1, none⟩ = some (.slice (some ⟨b, o, none⟩) n ec) := fun W hW => (hRr6.later hW).cell rfl
          have hl61 : q1 < w6.heap.size := by omega
          have hl62 : q2 < w6.heap.size := by omega
          have d1w : ∀ W, Below w6.heap.size w6 W → W.cell? ⟨q1, 0, none⟩ = some (.int .i64 ((1 : Nat) : Int)) := fun W hW => ((hW.cell (p := ⟨q1, 0, none⟩) hl61).trans (hcA _ hl1w)).trans ((hBr.cell (p := ⟨q1, 0, none⟩) hl1).trans d1)
          have d2w : ∀ W, Below w6.heap.size w6 W → W.cell? ⟨q2, 0, none⟩ = some (.int .i64 ((32 : Nat) : Int)) := fun W hW => ((hW.cell (p := ⟨q2, 0, none⟩) hl62).trans (hcA _ hl2w)).trans ((hBr.cell (p := ⟨q2, 0, none⟩) hl2).trans d2)
          have f0 : 0 < k → ∀ W, Below w6.heap.size w6 W → W.cell? ⟨b, o + a * 3, none⟩ = some (.int .u64 (ta : Int)) := fun h0 W hW => ((hW.cell (p := ⟨b, o + a * 3, none⟩) (show b < w6.heap.size by omega)).trans (hcA _ hbw)).trans (H0.out h0).1
          clear hs hRe hRr hRr6 hcA hRn hb6 hrngW d1 d2
          have hBase := (Below.refl w6.heap.size w6).drew
          by_cases hq : 1 ≤ q ∧ q ≤ 32
          · have hd : Hid (decide (((1 : Nat) : Int) ≤ (q : Int) ∧ (q : Int) ≤ ((32 : Nat) : Int)) = true) := decide_eq_true (by omega)
            have HSQ := Lib.hid (HSK.out.2 hq)
            clear hq
            by_cases hk0 : 0 < k
            · have f0w := f0 hk0
              obtain ⟨_, h4, h5⟩ := H0.out hk0
              have H4 := Lib.hid h4
              have H5 := Lib.hid h5
              clear f0 H0 h4 h5
              have kk : (0 : Int) < (k : Int) := by omega
              have kd : decide ((0 : Int) < (k : Int)) = true := decide_eq_true kk
              have hw : IntKind.i64.wrap ((k : Int) - 1) = (a : Int) := by have := ha.out; rw [IntKind.wrap_i64]; omega
              have a0 : (0 : Int) ≤ (a : Int) := by omega
              have a1 : (a : Int) < (n : Int) := by have := ha.out; omega
              by_cases hord : ta < tk
              · have hor : ¬ (tk : Int) ≤ (ta : Int) := by omega
                have hon : decide (tk ≤ ta) = false := decide_eq_false (by omega)
                have HS3 := Lib.hid (HS.out ⟨HSQ.out, H4.out hord⟩)
                clear HS HE H4 H5
                refine wp_region_plan (.step 0 false (.step 1 false (.step 2 false (.step 3 false (.step 4 true (.step 5 false (.step 6 false (.step 7 false (.step 8 false (.step 9 false (.step 10 false (.step 11 false (.step 12 false (.step 13 false (.step 14 false (.step 15 false (.step 16 false (.step 17 false (.step 18 false (.step 19 false (.step 20 false (.step 21 false (.nil))))))))))))))))))))))) (by kernel_rfl) (by kernel_rfl) (by rfl) (by kernel_rfl) ?_
                iterate 4 (refine plan_read rfl (by rfl) (v := ?_) ?_ ?_; rotate_left 1; (intro W hW; have hW0 := below_step hBase hW; (try dsimp only at hW); go_simp <;> with_reducible rfl); simp only [List.getElem_toArray, List.getElem_cons_zero, List.getElem_cons_succ, Act.put, List.setIfInBounds_toArray, List.set_cons_zero, List.set_cons_succ])
                (refine plan_make rfl (by rfl) (fun K hK => ?_); go_simp; (refine (inW_below 1 32 (q : Int) q1 q2 _ (d1w _ hBase) (d2w _ hBase)).mono ?_; rw [hd.out]; rintro e' w7 ⟨rfl, hbx⟩); refine hK.out _ _ hbx ?_; clear hK K; replace hBase := below_step hBase hbx)
                iterate 2 (refine plan_read rfl (by rfl) (v := ?_) ?_ ?_; rotate_left 1; (intro W hW; have hW0 := below_step hBase hW; (try dsimp only at hW); go_simp <;> with_reducible rfl); simp only [List.getElem_toArray, List.getElem_cons_zero, List.getElem_cons_succ, Act.put, List.setIfInBounds_toArray, List.set_cons_zero, List.set_cons_succ])
                iterate 3 (refine plan_read rfl (by rfl) (v := ?_) ?_ ?_; rotate_left 1; (intro W hW; have hW0 := below_step hBase hW; (try dsimp only at hW); go_simp <;> with_reducible rfl); simp only [List.getElem_toArray, List.getElem_cons_zero, List.getElem_cons_succ, Act.put, List.setIfInBounds_toArray, List.set_cons_zero, List.set_cons_succ])
                iterate 10 (refine plan_read rfl (by rfl) (v := ?_) ?_ ?_; rotate_left 1; (intro W hW; have hW0 := below_step hBase hW; (try dsimp only at hW); go_simp <;> with_reducible rfl); simp only [List.getElem_toArray, List.getElem_cons_zero, List.getElem_cons_succ, Act.put, List.setIfInBounds_toArray, List.set_cons_zero, List.set_cons_succ])
                iterate 2 (refine plan_read rfl (by rfl) (v := ?_) ?_ ?_; rotate_left 1; (intro W hW; have hW0 := below_step hBase hW; (try dsimp only at hW); go_simp <;> with_reducible rfl); simp only [List.getElem_toArray, List.getElem_cons_zero, List.getElem_cons_succ, Act.put, List.setIfInBounds_toArray, List.set_cons_zero, List.set_cons_succ])
                refine plan_done ?_
                have HB8 := Lib.hid (HB6.out.trans (hBase.mono hs6))
                clear e0 e2 c1 d1w d2w f0w
                go_wp2_with fail
                go_roundw
                case rel => exact ⟨⟨k + 1, by go_num, by omega, HS3.out⟩, HB8.out⟩
                case measure => simp [intOf]; omega
              · have hor : (tk : Int) ≤ (ta : Int) := by omega
                have hon : decide (tk ≤ ta) = true := decide_eq_true (by omega)
                have HPF : Hid (P = false) := HPO.out.trans (HE.out (fun h => H5.out hord h.2))
                clear HS HE H4 H5
                refine wp_region_plan (.step 0 false (.step 1 false (.step 2 false (.step 3 false (.step 4 true (.step 5 false (.step 6 false (.step 7 false (.step 8 false (.step 9 false (.step 10 false (.step 11 false (.step 12 false (.step 13 false (.step 14 false (.step 15 false (.step 16 false (.step 17 false (.step 18 false (.step 19 false (.step 20 false (.step 21 false (.nil))))))))))))))))))))))) (by kernel_rfl) (by kernel_rfl) (by rfl) (by kernel_rfl) ?_
                iterate 4 (refine plan_read rfl (by rfl) (v := ?_) ?_ ?_; rotate_left 1; (intro W hW; have hW0 := below_step hBase hW; (try dsimp only at hW); go_simp <;> with_reducible rfl); simp only [List.getElem_toArray, List.getElem_cons_zero, List.getElem_cons_succ, Act.put, List.setIfInBounds_toArray, List.set_cons_zero, List.set_cons_succ])
                (refine plan_make rfl (by rfl) (fun K hK => ?_); go_simp; (refine (inW_below 1 32 (q : Int) q1 q2 _ (d1w _ hBase) (d2w _ hBase)).mono ?_; rw [hd.out]; rintro e' w7 ⟨rfl, hbx⟩); refine hK.out _ _ hbx ?_; clear hK K; replace hBase := below_step hBase hbx)
                iterate 2 (refine plan_read rfl (by rfl) (v := ?_) ?_ ?_; rotate_left 1; (intro W hW; have hW0 := below_step hBase hW; (try dsimp only at hW); go_simp <;> with_reducible rfl); simp only [List.getElem_toArray, List.getElem_cons_zero, List.getElem_cons_succ, Act.put, List.setIfInBounds_toArray, List.set_cons_zero, List.set_cons_succ])
                iterate 3 (refine plan_read rfl (by rfl) (v := ?_) ?_ ?_; rotate_left 1; (intro W hW; have hW0 := below_step hBase hW; (try dsimp only at hW); go_simp <;> with_reducible rfl); simp only [List.getElem_toArray, List.getElem_cons_zero, List.getElem_cons_succ, Act.put, List.setIfInBounds_toArray, List.set_cons_zero, List.set_cons_succ])
                iterate 10 (refine plan_read rfl (by rfl) (v := ?_) ?_ ?_; rotate_left 1; (intro W hW; have hW0 := below_step hBase hW; (try dsimp only at hW); go_simp <;> with_reducible rfl); simp only [List.getElem_toArray, List.getElem_cons_zero, List.getElem_cons_succ, Act.put, List.setIfInBounds_toArray, List.set_cons_zero, List.set_cons_succ])
                iterate 2 (refine plan_read rfl (by rfl) (v := ?_) ?_ ?_; rotate_left 1; (intro W hW; have hW0 := below_step hBase hW; (try dsimp only at hW); go_simp <;> with_reducible rfl); simp only [List.getElem_toArray, List.getElem_cons_zero, List.getElem_cons_succ, Act.put, List.setIfInBounds_toArray, List.set_cons_zero, List.set_cons_succ])
                refine plan_done ?_
                have HB8 := Lib.hid (below_step HB7.out hBase)
                clear e0 e2 c1 d1w d2w f0w
                go_wp2_with fail
                go_ret
                exact ⟨by rw [HPF.out]; rfl, HB8.out⟩
            · have kk : ¬ (0 : Int) < (k : Int) := by omega
              have kd : decide ((0 : Int) < (k : Int)) = false := decide_eq_false kk
              have HS3 := Lib.hid (HS.out ⟨HSQ.out, fun h => absurd h hk0⟩)
              clear HS HE H0 f0
              refine wp_region_plan (.step 0 false (.step 1 false (.step 2 false (.step 3 false (.step 4 true (.step 5 false (.step 6 false (.step 7 false (.step 8 false (.step 9 false (.step 10 false (.step 11 false (.step 12 false (.step 13 false (.step 14 false (.step 15 false (.step 16 false (.step 17 false (.step 18 false (.step 19 false (.step 20 false (.step 21 false (.nil))))))))))))))))))))))) (by kernel_rfl) (by kernel_rfl) (by rfl) (by kernel_rfl) ?_
              iterate 4 (refine plan_read rfl (by rfl) (v := ?_) ?_ ?_; rotate_left 1; (intro W hW; have hW0 := below_step hBase hW; (try dsimp only at hW); go_simp <;> with_reducible rfl); simp only [List.getElem_toArray, List.getElem_cons_zero, List.getElem_cons_succ, Act.put, List.setIfInBounds_toArray, List.set_cons_zero, List.set_cons_succ])
              (refine plan_make rfl (by rfl) (fun K hK => ?_); go_simp; (refine (inW_below 1 32 (q : Int) q1 q2 _ (d1w _ hBase) (d2w _ hBase)).mono ?_; rw [hd.out]; rintro e' w7 ⟨rfl, hbx⟩); refine hK.out _ _ hbx ?_; clear hK K; replace hBase := below_step hBase hbx)
              iterate 2 (refine plan_read rfl (by rfl) (v := ?_) ?_ ?_; rotate_left 1; (intro W hW; have hW0 := below_step hBase hW; (try dsimp only at hW); go_simp <;> with_reducible rfl); simp only [List.getElem_toArray, List.getElem_cons_zero, List.getElem_cons_succ, Act.put, List.setIfInBounds_toArray, List.set_cons_zero, List.set_cons_succ])
              iterate 3 (refine plan_read rfl (by rfl) (v := ?_) ?_ ?_; rotate_left 1; (intro W hW; have hW0 := below_step hBase hW; (try dsimp only at hW); go_simp <;> with_reducible rfl); simp only [List.getElem_toArray, List.getElem_cons_zero, List.getElem_cons_succ, Act.put, List.setIfInBounds_toArray, List.set_cons_zero, List.set_cons_succ])
              iterate 10 (refine plan_skip rfl (by rfl) ?_; simp only [List.getElem_toArray, List.getElem_cons_zero, List.getElem_cons_succ, Act.put, List.setIfInBounds_toArray, List.set_cons_zero, List.set_cons_succ])
              iterate 2 (refine plan_read rfl (by rfl) (v := ?_) ?_ ?_; rotate_left 1; (intro W hW; have hW0 := below_step hBase hW; (try dsimp only at hW); go_simp <;> with_reducible rfl); simp only [List.getElem_toArray, List.getElem_cons_zero, List.getElem_cons_succ, Act.put, List.setIfInBounds_toArray, List.set_cons_zero, List.set_cons_succ])
              refine plan_done ?_
              have HB8 := Lib.hid (HB6.out.trans (hBase.mono hs6))
              clear e0 e2 c1 d1w d2w
              go_wp2_with fail
              go_roundw
              case rel => exact ⟨⟨k + 1, by go_num, by omega, HS3.out⟩, HB8.out⟩
              case measure => simp [intOf]; omega
          · have hd : Hid (decide (((1 : Nat) : Int) ≤ (q : Int) ∧ (q : Int) ≤ ((32 : Nat) : Int)) = false) := decide_eq_false (by omega)
            have HPF : Hid (P = false) := HPO.out.trans (HE.out (fun h => hq (HSK.out.1 h.1)))
            clear HS HE H0 f0 hq
            refine wp_region_plan (.step 0 false (.step 1 false (.step 2 false (.step 3 false (.step 4 true (.step 5 false (.step 6 false (.step 7 false (.step 8 false (.step 9 false (.step 10 false (.step 11 false (.step 12 false (.step 13 false (.step 14 false (.step 15 false (.step 16 false (.step 17 false (.step 18 false (.step 19 false (.step 20 false (.step 21 false (.nil))))))))))))))))))))))) (by kernel_rfl) (by kernel_rfl) (by rfl) (by kernel_rfl) ?_
            iterate 4 (refine plan_read rfl (by rfl) (v := ?_) ?_ ?_; rotate_left 1; (intro W hW; have hW0 := below_step hBase hW; (try dsimp only at hW); go_simp <;> with_reducible rfl); simp only [List.getElem_toArray, List.getElem_cons_zero, List.getElem_cons_succ, Act.put, List.setIfInBounds_toArray, List.set_cons_zero, List.set_cons_succ])
            (refine plan_make rfl (by rfl) (fun K hK => ?_); go_simp; (refine (inW_below 1 32 (q : Int) q1 q2 _ (d1w _ hBase) (d2w _ hBase)).mono ?_; rw [hd.out]; rintro e' w7 ⟨rfl, hbx⟩); refine hK.out _ _ hbx ?_; clear hK K; replace hBase := below_step hBase hbx)
            iterate 2 (refine plan_read rfl (by rfl) (v := ?_) ?_ ?_; rotate_left 1; (intro W hW; have hW0 := below_step hBase hW; (try dsimp only at hW); go_simp <;> with_reducible rfl); simp only [List.getElem_toArray, List.getElem_cons_zero, List.getElem_cons_succ, Act.put, List.setIfInBounds_toArray, List.set_cons_zero, List.set_cons_succ])
            iterate 14 (refine plan_skip rfl (by rfl) ?_; simp only [List.getElem_toArray, List.getElem_cons_zero, List.getElem_cons_succ, Act.put, List.setIfInBounds_toArray, List.set_cons_zero, List.set_cons_succ])
            iterate 1 (refine plan_read rfl (by rfl) (v := ?_) ?_ ?_; rotate_left 1; (intro W hW; have hW0 := below_step hBase hW; (try dsimp only at hW); go_simp <;> with_reducible rfl); simp only [List.getElem_toArray, List.getElem_cons_zero, List.getElem_cons_succ, Act.put, List.setIfInBounds_toArray, List.set_cons_zero, List.set_cons_succ])
            refine plan_done ?_
            have HB8 := Lib.hid (below_step HB7.out hBase)
            clear e0 e2 c1 d1w d2w
            go_wp2_with fail
            go_ret
            exact ⟨by rw [HPF.out]; rfl, HB8.out⟩
        · have HPT : Hid (P = true) := HPO.out.trans ((okE_at _).2 (fun j hj => by
            rw [conE_length] at hj
            have h1 := hs j hj (by have := HN.out; omega)
            rw [conE_get es j hj]
            refine ⟨h1.1, fun h0 => ?_⟩
            rw [conE_get es (j - 1) (by omega)]
            exact h1.2 h0))
          have hkn : ¬ (k : Int) < (n : Int) := by omega
          clear hs
          go_wp2_with fail
          go_ret
          exact ⟨by rw [HPT.out]; rfl, HB3.out⟩
  · have hd : Hid (decide (((0 : Nat) : Int) ≤ (n : Int) ∧ (n : Int) ≤ ((64 : Nat) : Int)) = false) := decide_eq_false (by omega)
    have HPF : Hid (P = false) := by unfold Hid; rw [← HP.out, decide_eq_false h64]; rfl
    rw [hd.out] at hin
    go_wp2_with fail
    refine hin.mono ?_
    rintro e w3 ⟨rfl, rfl⟩
    go_wp2_with fail
    go_ret
    exact ⟨by rw [HPF.out]; rfl, hB⟩
end Go.Proofs.YtknjpmoimjhddaaGreatDoor
/-
  Rows of entries of the call's own, whose seeds lie elsewhere; what is read of entries' bytes, step by step. No conditions but those typed.
-/
namespace Go.Proofs.YtknjpmoimjhddaaGreatDoor
set_option maxRecDepth 100000
open Go.RowKit
set_option linter.unusedSimpArgs false
set_option linter.unusedVariables false

def apartD (row : Option Nat) (xs : List ED) : Prop := ∀ y ∈ xs, y.s ≠ [] → ∀ a, y.A = some a → row ≠ some a.block
def newD (B : Nat) (xs : List ED) : Prop := ∀ y ∈ xs, y.s ≠ [] → ∀ a, y.A = some a → B ≤ a.block
theorem Rd.lt_ofD {α : Type} {f : α → Value} {w : World} {A : Option Addr} {L : List α} (h : Rd f w A L) (hn : L ≠ []) {a : Addr} (ha : A = some a) : a.block < w.heap.size := by
  obtain ⟨b, o, e, hb, _⟩ := h.at (k := 0) (by cases L; exact absurd rfl hn; simp)
  rw [ha] at e
  injection e with e
  rw [e]
  exact hb
theorem Rd.grownD {α : Type} {f : α → Value} {w w' : World} {row : Option Nat} {A : Option Addr} {L : List α} (h : Rd f w A L) (hg : w.grownBy w' row) (hA : L ≠ [] → ∀ a, A = some a → row ≠ some a.block) : Rd f w' A L := by
  by_cases e : L = []
  · subst e
    exact Rd.nil
  · exact h.grown hg (hA e)
/-- A row of entries; their seeds lie in memory of the call's own, too, but elsewhere. -/
def OwnE (B : Nat) (t : TypeId) (xs : List ED) (v : Value) (w : World) : Prop := w.ownsRow B t 3 v xs.length (cellsE xs) ∧ okD w xs ∧ apartD v.ownBlock xs ∧ newD B xs
theorem OwnE.nil (B : Nat) (t : TypeId) (w : World) : OwnE B t [] (.slice none 0 0) w := ⟨World.ownsRow_nil _ _ _ _, okD.nil _, (fun y hy => by cases hy), (fun y hy => by cases hy)⟩
theorem OwnE.later {B : Nat} {t : TypeId} {xs : List ED} {v : Value} {w w' : World} (h : OwnE B t xs v w) (hb : Below w.heap.size w w') : OwnE B t xs v w' := ⟨ownsRowE_later h.1 hb, h.2.1.keep hb, h.2.2⟩
theorem OwnE.same {B : Nat} {t : TypeId} {xs : List ED} {v : Value} {w w' : World} (h : OwnE B t xs v w) (hh : ∀ b, B ≤ b → b < w.heap.size → w'.heap[b]? = w.heap[b]?) : OwnE B t xs v w' := by
  refine ⟨ownsRowE_same h.1 hh, fun y hy => ?_, h.2.2⟩
  obtain ⟨h1, h2⟩ := h.2.1 y hy
  refine ⟨h1, fun hn => ?_⟩
  obtain ⟨b, o, e, hc⟩ := h2 hn
  have hB := h.2.2.2 y hy hn _ e
  refine ⟨b, o, e, fun i hi => ?_⟩
  have hci := hc i hi
  exact (World.cell?_of_block (w := w) (a := ⟨b, o + i, none⟩) (hh b hB (World.block_lt_of_cell? w _ hci))).trans hci
theorem OwnE.more {B : Nat} {t : TypeId} {xs : List ED} {y : ED} {v v' : Value} {w w1 w2 w3 : World} (h : OwnE B t xs v w) (hb : Below w.heap.size w w1) (hy : y.ok w1) (hn : y.s ≠ [] → ∀ a, y.A = some a → w.heap.size ≤ a.block) (hBw : B ≤ w.heap.size) (hb2 : Below w1.heap.size w1 w2) (ho : w3.ownsRow B t 3 v' (xs.length + 1) (cellsE xs ++ y.cells)) (hg : w2.grownBy w3 v.ownBlock) (hv : v'.ownBlock = v.ownBlock ∨ v'.ownBlock = some w2.heap.size) : OwnE B t (xs ++ [y]) v' w3 := by
  have hB := below_step hb hb2
  have hok2 : okD w2 (xs ++ [y]) := (h.2.1.keep hB).app (fun z hz => by simp at hz; subst hz; exact hy.keep hb2)
  have hap : apartD v.ownBlock (xs ++ [y]) := fun z hz => by
    rcases List.mem_append.1 hz with hz | hz
    · exact h.2.2.1 z hz
    · simp at hz
      subst hz
      intro hs a ha e
      have h1 := hn hs a ha
      have h2 := (h.1.lt _ e).2
      omega
  refine ⟨by rw [cellsE_snoc, List.length_append]; exact ho, fun z hz => ?_, ?_, fun z hz => ?_⟩
  · obtain ⟨h1, h2⟩ := hok2 z hz
    exact ⟨h1, h2.grownD hg (hap z hz)⟩
  · rcases hv with hv | hv
    · rw [hv]; exact hap
    · rw [hv]
      intro z hz hs a ha e
      have h1 := (hok2 z hz).2.lt_ofD hs ha
      injection e with e
      omega
  · rcases List.mem_append.1 hz with hz | hz
    · exact h.2.2.2 z hz
    · simp at hz
      subst hz
      intro hs a ha
      exact Nat.le_trans hBw (hn hs a ha)
/-- As 'more', where a block of another kind has changed in between. -/
theorem OwnE.more2 {B : Nat} {t : TypeId} {xs : List ED} {y : ED} {v v' : Value} {w w1 w2 w3 : World} (h : OwnE B t xs v w) (h1 : OwnE B t xs v w1) (hy : y.ok w1) (hn : y.s ≠ [] → ∀ a, y.A = some a → w.heap.size ≤ a.block) (hBw : B ≤ w.heap.size) (hb2 : Below w1.heap.size w1 w2) (ho : w3.ownsRow B t 3 v' (xs.length + 1) (cellsE xs ++ y.cells)) (hg : w2.grownBy w3 v.ownBlock) (hv : v'.ownBlock = v.ownBlock ∨ v'.ownBlock = some w2.heap.size) : OwnE B t (xs ++ [y]) v' w3 := by
  have hok2 : okD w2 (xs ++ [y]) := (h1.2.1.keep hb2).app (fun z hz => by simp at hz; subst hz; exact hy.keep hb2)
  have hap : apartD v.ownBlock (xs ++ [y]) := fun z hz => by
    rcases List.mem_append.1 hz with hz | hz
    · exact h.2.2.1 z hz
    · simp at hz
      subst hz
      intro hs a ha e
      have h1 := hn hs a ha
      have h2 := (h.1.lt _ e).2
      omega
  refine ⟨by rw [cellsE_snoc, List.length_append]; exact ho, fun z hz => ?_, ?_, fun z hz => ?_⟩
  · obtain ⟨h1, h2⟩ := hok2 z hz
    exact ⟨h1, h2.grownD hg (hap z hz)⟩
  · rcases hv with hv | hv
    · rw [hv]; exact hap
    · rw [hv]
      intro z hz hs a ha e
      have h1 := (hok2 z hz).2.lt_ofD hs ha
      injection e with e
      omega
  · rcases List.mem_append.1 hz with hz | hz
    · exact h.2.2.2 z hz
    · simp at hz
      subst hz
      intro hs a ha
      exact Nat.le_trans hBw (hn hs a ha)
theorem OwnE.slice {B : Nat} {t : TypeId} {xs : List ED} {v : Value} {w : World} (h : OwnE B t xs v w) : ∃ A cap, v = .slice A xs.length cap ∧ xs.length ≤ cap ∧ RdE w A xs := by
  obtain ⟨A, c, rfl, hc⟩ := own_formE h.1
  exact ⟨A, c, rfl, hc, RdE.own h.1⟩
section
variable {P : Program}
theorem wp_append_own3 (w : World) {o : Oper} {a : Act} {K : Act → World → Prop} {Q : Exit → Act → World → Prop} (s x : Operand) (t : TypeId)
    (ho : o.op = .call { callee := .builtin .append, args := #[s, x], argTypes := #[t, t] })
    (base : Nat) (e : TypeId) (i : TypeInfo) (z : Value) (size bytes : Nat) (ht : P.underlying t = some (.slice e)) (hi : P.info? e = some i) (hz : i.zero = some z)
    (hsize : i.size = size) (hby : i.bytes = bytes) (hzs : z.cells.size = size) (hsp : 0 < size) (v : Value) (n : Nat) (xs : List Value) (hs : a.eval s = v) (hown : w.ownsRow base e size v n xs)
    (ad : Addr) (m c : Nat) (news : List Value) (hx : a.eval x = .slice (some ad) m c) (hl : news.length = m * size) (hnews : ∀ j u, news[j]? = some u → w.cell? (ad.add j) = some u) (h1 : ∀ u ∈ news, u.oneCell' = true)
    (h63 : n + m ≤ maxLen) (hbytes : (n + m) * bytes ≤ 140737488355328) (hbase : base ≤ w.heap.size)
    (h : ∀ v' w', w'.ownsRow base e size v' (n + m) (xs ++ news) → w.grownBy w' v.ownBlock → (v'.ownBlock = v.ownBlock ∨ v'.ownBlock = some w.heap.size) → K (a.put o.dst v') w') : o.wp P a w K Q := by
  obtain ⟨v', w', hr, h2, h3, _, h4⟩ := run_append_own_at (P := P) w base t o.type e i z size bytes ht hi hz hsize hby hzs hsp v n xs hown ad m c news hl hnews h1 h63 hbytes hbase
  unfold Oper.wp execOp
  simp only [ho, resolve, invoke, builtin, Sem.run_bind, Sem.run_pure, Result.andThen_ok, List.map_toArray, List.map_cons, List.map_nil, hs, hx, hr]
  exact h v' w' h2 h3 h4
end

/-! ### What is read of entries' bytes, step by step -/
def preE (C : List En) (R : List En × List UInt8 × Int) : List En × List UInt8 × Int := if R.2.2 = 0 then (C ++ R.1, R.2.1, 0) else ([], [], R.2.2)
theorem readEs_bad : ∀ (n : Nat) (b : List UInt8), (readEs n b).2.2 ≠ 0 → readEs n b = ([], [], (readEs n b).2.2)
  | 0, b, h => absurd rfl h
  | n + 1, b, h => by
    unfold readEs at h ⊢
    split at h
    · rename_i h1
      rw [if_pos h1]
    · rename_i h1
      rw [if_neg h1]
      split at h
      · rename_i h2
        rw [if_pos h2]
      · rename_i h2
        rw [if_neg h2]
        split at h
        · rename_i h3
          rw [if_pos h3]
        · rename_i h3
          rw [if_neg h3]
          split at h
          · exact absurd rfl h
          · rename_i h4
            rw [if_neg h4]
theorem preE_nil (n : Nat) (b : List UInt8) : preE [] (readEs n b) = readEs n b := by
  unfold preE
  split
  · rename_i h
    rw [← h]
    rfl
  · rename_i h
    exact (readEs_bad n b h).symm
theorem preE_pre (C : List En) (x : En) (R : List En × List UInt8 × Int) : preE C (preE [x] R) = preE (C ++ [x]) R := by
  unfold preE
  by_cases h : R.2.2 = 0
  · simp [h]
  · simp [h]
theorem readEs_none (C : List En) (b : List UInt8) : preE C (readEs 0 b) = (C, b, 0) := by simp [preE, readEs]
theorem readEs_s1 (C : List En) (n : Nat) (b : List UInt8) (h : b.length < 17) : preE C (readEs (n + 1) b) = ([], [], 2) := by
  unfold readEs
  rw [if_pos h]
  rfl
theorem readEs_s2 (C : List En) (n : Nat) (b : List UInt8) (h : ¬ b.length < 17) (h2 : (b.getD 16 0).toNat = 0 ∨ 32 < (b.getD 16 0).toNat) : preE C (readEs (n + 1) b) = ([], [], 3) := by
  unfold readEs
  rw [if_neg h, if_pos h2]
  rfl
theorem readEs_s3 (C : List En) (n : Nat) (b : List UInt8) (h : ¬ b.length < 17) (h2 : ¬ ((b.getD 16 0).toNat = 0 ∨ 32 < (b.getD 16 0).toNat)) (h3 : b.length < 17 + (b.getD 16 0).toNat) : preE C (readEs (n + 1) b) = ([], [], 2) := by
  unfold readEs
  rw [if_neg h, if_neg h2, if_pos h3]
  rfl
theorem readEs_s4 (C : List En) (n : Nat) (b : List UInt8) (h : ¬ b.length < 17) (h2 : ¬ ((b.getD 16 0).toNat = 0 ∨ 32 < (b.getD 16 0).toNat)) (h3 : ¬ b.length < 17 + (b.getD 16 0).toNat) : preE C (readEs (n + 1) b) = preE (C ++ [entE b]) (readEs n (b.drop (17 + (b.getD 16 0).toNat))) := by
  rw [← preE_pre]
  congr 1
  conv => lhs; unfold readEs
  rw [if_neg h, if_neg h2, if_neg h3]
  unfold preE
  split
  · rfl
  · rfl
end Go.Proofs.YtknjpmoimjhddaaGreatDoor
/-
  A region that draws its order, several of whose operations make memory: each operation by itself, behind those that it waits for, keeps one condition; the orders are not told apart (no program is named here). Conditions: the condition holds at the beginning, and each operation keeps it.
-/
namespace Go.Proofs.YtknjpmoimjhddaaGreatDoor
set_option maxRecDepth 100000
open Go.RowKit
set_option linter.unusedSimpArgs false
set_option linter.unusedVariables false

/-- The frame with these slots' values. -/
def puts (a : Act) : List Nat → (Nat → Value) → Act
  | [], _ => a
  | k :: ks, s => puts (a.put (some k) (s k)) ks s
def upd (s : Nat → Value) (k : Nat) (v : Value) : Nat → Value := fun j => if j = k then v else s j
theorem upd_same (s : Nat → Value) (k : Nat) (v : Value) : upd s k v k = v := by simp [upd]
theorem upd_other (s : Nat → Value) (k j : Nat) (v : Value) (h : j ≠ k) : upd s k v j = s j := by simp [upd, h]
/-- Which operations an operation waits for. -/
def depsOf (ops : Array Oper) (i : Nat) : List Nat := ((ops[i]?).map fun o => ((o.after.toList.filter fun e => Region.binds .any e).map (·.on))).getD []
def seen (L : Nat → Bool) (l : List Nat) : Prop := ∀ j ∈ l, L j = true
theorem ready_deps {ops : Array Oper} {listed : Array Bool} {i : Nat} (h : i ∈ Region.ready .any ops listed) : i < ops.size ∧ listed.getD i true = false ∧ seen (fun j => listed.getD j false) (depsOf ops i) := by
  unfold Region.ready at h
  obtain ⟨h1, h2⟩ := List.mem_filter.1 h
  have hi := List.mem_range.1 h1
  rw [Bool.and_eq_true] at h2
  obtain ⟨h2, h3⟩ := h2
  refine ⟨hi, by simpa using h2, fun j hj => ?_⟩
  unfold depsOf at hj
  rw [Array.getElem?_eq_getElem hi] at hj h3
  simp only [Option.map_some, Option.getD_some] at hj h3
  obtain ⟨e, he, rfl⟩ := List.mem_map.1 hj
  obtain ⟨he1, he2⟩ := List.mem_filter.1 he
  have := (Array.all_eq_true'.1 h3) e (Array.mem_toList_iff.1 he1)
  simpa [he2] using this

section
variable {P : Program} {ops : Array Oper} {Q : Exit → Act → World → Prop}
/-- What each operation keeps, as a function of which have come up. -/
theorem free_held (a0 : Act) (dsts : List Nat) (Φ : (Nat → Bool) → (Nat → Value) → World → Prop)
    (step : ∀ (i : Nat) (L : Nat → Bool) (s : Nat → Value) (W : World), i < ops.size → L i = false → seen L (depsOf ops i) → (∀ j, L j = true → seen L (depsOf ops j)) → Φ L s W → ∀ K : Act → World → Prop, Shut (∀ a' s' W', a' = puts a0 dsts s' → Φ (fun j => j == i || L j) s' W' → K a' W') → wpOp P ops Q i K (puts a0 dsts s) W)
    (done : ∀ s W L, (∀ i, i < ops.size → L i = true) → Φ L s W → Q .normal (puts a0 dsts s) W) (hdep : (List.range ops.size).all (fun i => (depsOf ops i).all (fun j => decide (j < i))) = true) :
    ∀ (fuel : Nat) (listed : Array Bool) (L : Nat → Bool) (s : Nat → Value) (W : World), listed.size = ops.size → (∀ i, i < ops.size → L i = listed.getD i false) → ((List.range ops.size).filter (fun i => !listed.getD i true)).length ≤ fuel → (∀ j, L j = true → seen L (depsOf ops j)) → Φ L s W → wpAnyH P .any ops Q (fun _ => True) fuel listed (puts a0 dsts s) W := by
  have none_ready : ∀ (listed : Array Bool), listed.size = ops.size → Region.ready .any ops listed = [] → ∀ i, i < ops.size → listed.getD i false = true := by
    intro listed hsz hr i
    induction i using Nat.strongRecOn with
    | _ i ih =>
      intro hi
      cases hli : listed.getD i false with
      | true => rfl
      | false =>
        have : i ∈ Region.ready .any ops listed := by
          unfold Region.ready
          refine List.mem_filter.2 ⟨List.mem_range.2 hi, ?_⟩
          rw [Bool.and_eq_true]
          have hlt : i < listed.size := by omega
          refine ⟨?_, ?_⟩
          · simp [Array.getD, hlt] at hli ⊢
            exact hli
          · rw [Array.getElem?_eq_getElem hi]
            simp only [Option.map_some, Option.getD_some]
            refine Array.all_eq_true'.2 (fun e he => ?_)
            by_cases hb : Region.binds .any e = true
            · have hmem : e.on ∈ depsOf ops i := by
                unfold depsOf
                rw [Array.getElem?_eq_getElem hi]
                simp only [Option.map_some, Option.getD_some]
                exact List.mem_map.2 ⟨e, List.mem_filter.2 ⟨Array.mem_toList_iff.2 he, hb⟩, rfl⟩
              have hlt2 : e.on < i := by
                have h1 := List.all_eq_true.1 hdep i (List.mem_range.2 hi)
                have h2 := List.all_eq_true.1 h1 _ hmem
                exact of_decide_eq_true h2
              have := ih _ hlt2 (by omega)
              rw [this]
              simp
            · simp [Bool.eq_false_iff.2 hb]
        rw [hr] at this
        cases this
  intro fuel
  induction fuel with
  | zero =>
    intro listed L s W hsz hL hf hcl hΦ
    have hnil : Region.ready .any ops listed = [] := by
      refine List.eq_nil_iff_forall_not_mem.2 (fun i hi => ?_)
      obtain ⟨h1, h2, _⟩ := ready_deps hi
      have : i ∈ (List.range ops.size).filter (fun i => !listed.getD i true) := List.mem_filter.2 ⟨List.mem_range.2 h1, by rw [h2]; rfl⟩
      have hlen := List.length_pos_of_mem this
      omega
    exact ⟨hnil, done s W L (fun i hi => by rw [hL i hi]; exact none_ready listed hsz hnil i hi) hΦ⟩
  | succ fuel ih =>
    intro listed L s W hsz hL hf hcl hΦ
    refine ⟨fun hnil => done s W L (fun i hi => by rw [hL i hi]; exact none_ready listed hsz hnil i hi) hΦ, fun i hi => ?_⟩
    obtain ⟨h1, h2, h3⟩ := ready_deps hi
    have hlt : i < listed.size := by omega
    have hLi : L i = false := by
      rw [hL i h1]
      simp [Array.getD, hlt] at h2 ⊢
      exact h2
    have hd : seen L (depsOf ops i) := fun j hj => by
      have hji : j < i := by
        have h4 := List.all_eq_true.1 hdep i (List.mem_range.2 h1)
        exact of_decide_eq_true (List.all_eq_true.1 h4 _ hj)
      rw [hL j (by omega)]
      exact h3 j hj
    refine step i L s W h1 hLi hd hcl hΦ _ (fun a' s' W' e hΦ' => ⟨trivial, ?_⟩)
    · subst e
      refine ih (listed.setIfInBounds i true) _ s' W' (by simp [hsz]) (fun j hj => ?_) ?_ (fun j hj k hk => ?_) hΦ'
      · have hjl : j < listed.size := by omega
        by_cases e : j = i
        · subst e
          simp [Array.getD, hjl]
        · have e' : (j == i) = false := beq_eq_false_iff_ne.2 e
          have e2 : i ≠ j := fun h => e h.symm
          rw [e', Bool.false_or, hL j hj]
          simp [Array.getD, hjl, Array.getElem_setIfInBounds, e2]
      · have hsub : ((List.range ops.size).filter (fun j => !(listed.setIfInBounds i true).getD j true)).length < ((List.range ops.size).filter (fun j => !listed.getD j true)).length := by
          have e1 : (List.range ops.size).filter (fun j => !(listed.setIfInBounds i true).getD j true) = ((List.range ops.size).filter (fun j => !listed.getD j true)).filter (fun j => !(j == i)) := by
            rw [List.filter_filter]
            refine List.filter_congr (fun j hj => ?_)
            have hjl : j < listed.size := by have := List.mem_range.1 hj; omega
            by_cases e : j = i
            · subst e
              simp [Array.getD, hjl]
            · have e' : (j == i) = false := beq_eq_false_iff_ne.2 e
              have e2 : i ≠ j := fun h => e h.symm
              simp [Array.getD, hjl, Array.getElem_setIfInBounds, e2, e]
          rw [e1]
          have hmem : i ∈ (List.range ops.size).filter (fun j => !listed.getD j true) := List.mem_filter.2 ⟨List.mem_range.2 h1, by rw [h2]; rfl⟩
          refine List.length_filter_lt_length_iff_exists.2 ⟨i, hmem, by simp⟩
        omega
      · have hLk : L k = true := by
          by_cases e : j = i
          · subst e
            exact hd k hk
          · have e' : (j == i) = false := beq_eq_false_iff_ne.2 e
            rw [e', Bool.false_or] at hj
            exact hcl j hj k hk
        rw [hLk, Bool.or_true]
theorem put_self (a : Act) (k : Nat) : a.put (some k) (a.tmps.getD k undef) = a := by
  have e : a.tmps.setIfInBounds k (a.tmps.getD k undef) = a.tmps := by
    apply Array.ext
    · simp
    · intro i h1 h2
      rw [Array.getElem_setIfInBounds]
      split
      · rename_i h
        subst h
        simp [Array.getD, h2]
      · rfl
  unfold Act.put
  dsimp only
  rw [e]
theorem puts_self (a : Act) : ∀ ks, puts a ks (fun k => a.tmps.getD k undef) = a
  | [] => rfl
  | k :: ks => by
    unfold puts
    rw [put_self]
    exact puts_self a ks
theorem wp_region_free (dsts : List Nat) (Φ : (Nat → Bool) → (Nat → Value) → World → Prop) {id : Nat} {a : Act} {w : World} (hm : P.follows .mixedOrders = true) (hdep : (List.range ops.size).all (fun i => (depsOf ops i).all (fun j => decide (j < i))) = true)
    (h0 : Φ (fun _ => false) (fun k => a.tmps.getD k undef) w.drew)
    (step : ∀ (i : Nat) (L : Nat → Bool) (s : Nat → Value) (W : World), i < ops.size → L i = false → seen L (depsOf ops i) → (∀ j, L j = true → seen L (depsOf ops j)) → Φ L s W → ∀ K : Act → World → Prop, Shut (∀ a' s' W', a' = puts a dsts s' → Φ (fun j => j == i || L j) s' W' → K a' W') → wpOp P ops (NoPanic Q) i K (puts a dsts s) W)
    (done : ∀ s W L, (∀ i, i < ops.size → L i = true) → Φ L s W → Q .normal (puts a dsts s) W) : (Code.region id ops true).wp P Q a w := by
  refine wp_region_noPanic (wp_region_held (S := fun _ => True) hm ?_)
  have := free_held (Q := NoPanic Q) a dsts Φ step (fun s W L h1 h2 => done s W L h1 h2) hdep ops.size (Array.replicate ops.size false) (fun _ => false) (fun k => a.tmps.getD k undef) w.drew (by simp) (fun i hi => by simp [Array.getD, hi]) (Nat.le_trans (List.length_filter_le _ _) (by simp)) (fun j hj => by cases hj) h0
  rw [puts_self] at this
  exact this
theorem seen_of {L : Nat → Bool} {l : List Nat} (h : seen L l) (j : Nat) (hj : l.contains j = true) : L j = true := h j (by simpa using hj)
/-- What waits for what has not come up has not come up. -/
theorem not_yet {L : Nat → Bool} (h : ∀ j, L j = true → seen L (depsOf ops j)) (k j : Nat) (hk : (depsOf ops k).contains j = true) (hj : L j = false) : L k = false := by
  cases e : L k with
  | false => rfl
  | true => rw [seen_of (h k e) j hk] at hj; cases hj
/-- One operation that is wanted. -/
theorem free_op {i : Nat} {o : Oper} {a : Act} {w : World} {K : Act → World → Prop} (ho : ops[i]? = some o) (hw : Region.wanted o (yielded ops a.tmps) = true) (h : o.wp P a w K Q) : wpOp P ops Q i K a w := by
  unfold wpOp
  simp only [ho, hw, if_true]
  exact .inl h
end
end Go.Proofs.YtknjpmoimjhddaaGreatDoor
/-
  A region that draws its order, whose last operation waits for all the others: by a plan of the others, and then the last one; what the plan leans on need not hold behind the last (no program is named here). Conditions: the plan is one of the operations but the last, which comes behind each of them.
-/
namespace Go.Proofs.YtknjpmoimjhddaaGreatDoor
set_option maxRecDepth 100000
open Go.RowKit
set_option linter.unusedSimpArgs false
set_option linter.unusedVariables false

theorem ready_of {ops : Array Oper} {listed : Array Bool} {i : Nat} (hi : i < ops.size) (hlt : i < listed.size) (hl : listed.getD i false = false) (hd : ∀ j ∈ depsOf ops i, listed.getD j false = true) : i ∈ Region.ready .any ops listed := by
  unfold Region.ready
  refine List.mem_filter.2 ⟨List.mem_range.2 hi, ?_⟩
  rw [Bool.and_eq_true]
  refine ⟨?_, ?_⟩
  · simp [Array.getD, hlt] at hl ⊢
    exact hl
  · rw [Array.getElem?_eq_getElem hi]
    simp only [Option.map_some, Option.getD_some]
    refine Array.all_eq_true'.2 (fun e he => ?_)
    by_cases hb : Region.binds .any e = true
    · have hmem : e.on ∈ depsOf ops i := by
        unfold depsOf
        rw [Array.getElem?_eq_getElem hi]
        simp only [Option.map_some, Option.getD_some]
        exact List.mem_map.2 ⟨e, List.mem_filter.2 ⟨Array.mem_toList_iff.2 he, hb⟩, rfl⟩
      rw [hd _ hmem]
      simp
    · simp [Bool.eq_false_iff.2 hb]
theorem none_left {ops : Array Oper} {listed : Array Bool} (hdep : (List.range ops.size).all (fun i => (depsOf ops i).all (fun j => decide (j < i))) = true) (hsz : listed.size = ops.size) (hr : Region.ready .any ops listed = []) : ∀ i, i < ops.size → listed.getD i false = true := by
  intro i
  induction i using Nat.strongRecOn with
  | _ i ih =>
    intro hi
    cases hli : listed.getD i false with
    | true => rfl
    | false =>
      have : i ∈ Region.ready .any ops listed := ready_of hi (by omega) hli (fun j hj => by
        have h1 := List.all_eq_true.1 hdep i (List.mem_range.2 hi)
        have hlt := of_decide_eq_true (List.all_eq_true.1 h1 _ hj)
        exact ih j hlt (by omega))
      rw [hr] at this
      cases this
theorem getD_tf {l : Array Bool} {i : Nat} (h : i < l.size) : l.getD i true = l.getD i false := by simp [Array.getD, h]
/-- All but the last. -/
def initO (ops : Array Oper) : Array Oper := ops.toList.dropLast.toArray
theorem initO_size (ops : Array Oper) : (initO ops).size = ops.size - 1 := by simp [initO]
theorem initO_get (ops : Array Oper) (i : Nat) (h : i < ops.size - 1) : (initO ops)[i]? = ops[i]? := by
  unfold initO
  rw [List.getElem?_toArray, List.getElem?_dropLast, if_pos (by simpa using h), Array.getElem?_toList]
theorem initO_deps (ops : Array Oper) (i : Nat) (h : i < ops.size - 1) : depsOf (initO ops) i = depsOf ops i := by
  unfold depsOf
  rw [initO_get ops i h]
/-- No guard looks at the last operation. -/
def guardsOK (ops : Array Oper) : Bool := ops.toList.all fun o => match o.guard with | none => true | some (j, _) => decide (j < ops.size - 1)
theorem wanted_init (ops : Array Oper) (hg : guardsOK ops = true) (i : Nat) (o : Oper) (ho : ops[i]? = some o) (tmps : Array Value) : Region.wanted o (yielded ops tmps) = Region.wanted o (yielded (initO ops) tmps) := by
  have h := List.all_eq_true.1 hg o (List.mem_of_getElem? (by rw [Array.getElem?_toList]; exact ho))
  unfold Region.wanted
  cases hgd : o.guard with
  | none => rfl
  | some x =>
    obtain ⟨j, b⟩ := x
    rw [hgd] at h
    dsimp only at h ⊢
    have hj := of_decide_eq_true h
    unfold yielded
    rw [initO_get ops j hj]
section
variable {P : Program} {ops : Array Oper} {Q : Exit → Act → World → Prop}
def LastQ (P : Program) (ops : Array Oper) (Q : Exit → Act → World → Prop) : Exit → Act → World → Prop
  | .normal, a, w => wpOp P ops Q (ops.size - 1) (fun a' w' => Q .normal a' w') a w
  | _, _, _ => False
theorem lastQ_lets : ¬ LetsOut (LastQ P ops Q) := fun ⟨_, _, h⟩ => h
theorem wp_of_lastQ {o : Oper} {a : Act} {w : World} {K : Act → World → Prop} (h : o.wp P a w K (LastQ P ops Q)) : o.wp P a w K Q := by
  unfold Oper.wp at *
  generalize (execOp a.eval o).run P w = r at *
  cases r with
  | ok x w' =>
    cases x <;> simp only [Oper.upon] at h ⊢
    case enter f args =>
      refine h.mono fun e w'' he => ?_
      cases e with
      | returned v => exact he
      | panicked c => exact he.elim
      | outgrown => exact (lastQ_lets he).elim
    all_goals exact h
  | halt x w' =>
    cases x <;> simp only [Oper.upon] at h ⊢
    case panic v => exact h.elim
theorem last_held {S : World → Prop} (hg : guardsOK ops = true) (hn : 0 < ops.size) (hdep : (List.range ops.size).all (fun i => (depsOf ops i).all (fun j => decide (j < i))) = true) (hlast : (List.range (ops.size - 1)).all (fun j => (depsOf ops (ops.size - 1)).contains j) = true) :
    ∀ (fuel : Nat) (L M : Array Bool) (a : Act) (w : World), L.size = ops.size → M.size = ops.size - 1 → (∀ i, i < ops.size - 1 → M.getD i false = L.getD i false) → L.getD (ops.size - 1) false = false → wpAnyH P .any (initO ops) (LastQ P ops Q) S fuel M a w → wpAny P .any ops Q (fuel + 1) L a w := by
  have hdi : (List.range (initO ops).size).all (fun i => (depsOf (initO ops) i).all (fun j => decide (j < i))) = true := by
    rw [initO_size]
    refine List.all_eq_true.2 (fun i hi => ?_)
    have hi' := List.mem_range.1 hi
    rw [initO_deps ops i hi']
    exact List.all_eq_true.1 hdep i (List.mem_range.2 (by omega))
  have done : ∀ (fuel : Nat) (L : Array Bool) (a : Act) (w : World), L.size = ops.size → (∀ i, i < ops.size → L.getD i false = true) → Q .normal a w → wpAny P .any ops Q fuel L a w := by
    intro fuel L a w hL hall hq
    have hnil : Region.ready .any ops L = [] := by
      refine List.eq_nil_iff_forall_not_mem.2 (fun i hi => ?_)
      obtain ⟨h1, h2, _⟩ := ready_deps hi
      rw [getD_tf (by omega), hall i h1] at h2
      cases h2
    cases fuel with
    | zero => exact ⟨hnil, hq⟩
    | succ f => exact ⟨fun _ => hq, fun i hi => by rw [hnil] at hi; cases hi⟩
  have final : ∀ (fuel : Nat) (L M : Array Bool) (a : Act) (w : World), L.size = ops.size → M.size = ops.size - 1 → (∀ i, i < ops.size - 1 → M.getD i false = L.getD i false) → L.getD (ops.size - 1) false = false → Region.ready .any (initO ops) M = [] → LastQ P ops Q .normal a w → wpAny P .any ops Q (fuel + 1) L a w := by
    intro fuel L M a w hL hM hLM hl hr hq
    have hall := none_left hdi (by rw [initO_size]; exact hM) hr
    rw [initO_size] at hall
    have hmem : ops.size - 1 ∈ Region.ready .any ops L := ready_of (by omega) (by omega) hl (fun j hj => by
      have h1 := List.all_eq_true.1 hdep (ops.size - 1) (List.mem_range.2 (by omega))
      have hlt := of_decide_eq_true (List.all_eq_true.1 h1 _ hj)
      rw [← hLM j hlt]
      exact hall j hlt)
    refine ⟨fun hnil => (by rw [hnil] at hmem; cases hmem), fun i hi => ?_⟩
    obtain ⟨h1, h2, _⟩ := ready_deps hi
    have hin : i = ops.size - 1 := by
      by_cases e : i = ops.size - 1
      · exact e
      · rw [getD_tf (by omega), ← hLM i (by omega), hall i (by omega)] at h2
        cases h2
    subst hin
    refine wpOp_mono (fun a' w' hq' => done fuel _ a' w' (by simp [hL]) (fun j hj => ?_) hq') hq
    have hjl : j < L.size := by omega
    by_cases e : j = ops.size - 1
    · subst e
      simp [Array.getD, hjl]
    · have e2 : ops.size - 1 ≠ j := fun h => e h.symm
      have := (hLM j (by omega)).symm.trans (hall j (by omega))
      simp [Array.getD, hjl] at this
      simp [Array.getD, hjl, Array.getElem_setIfInBounds, e2, this]
  intro fuel
  induction fuel with
  | zero =>
    intro L M a w hL hM hLM hl h
    exact final 0 L M a w hL hM hLM hl h.1 h.2
  | succ f ih =>
    intro L M a w hL hM hLM hl h
    by_cases hr : Region.ready .any (initO ops) M = []
    · exact final (f + 1) L M a w hL hM hLM hl hr (h.1 hr)
    · obtain ⟨x, hx⟩ := List.exists_mem_of_ne_nil _ hr
      obtain ⟨x1, x2, x3⟩ := ready_deps hx
      rw [initO_size] at x1
      rw [initO_deps ops x x1] at x3
      rw [getD_tf (by omega)] at x2
      have hxr : x ∈ Region.ready .any ops L := ready_of (by omega) (by omega) (by rw [← hLM x x1]; exact x2) (fun j hj => by
        have h1 := List.all_eq_true.1 hdep x (List.mem_range.2 (by omega))
        have hlt := of_decide_eq_true (List.all_eq_true.1 h1 _ hj)
        rw [← hLM j (by omega)]
        exact x3 j hj)
      refine ⟨fun hnil => (by rw [hnil] at hxr; cases hxr), fun i hi => ?_⟩
      obtain ⟨h1, h2, h3⟩ := ready_deps hi
      have hin : i < ops.size - 1 := by
        by_cases e : i = ops.size - 1
        · subst e
          have hxm := List.all_eq_true.1 hlast x (List.mem_range.2 x1)
          have h4 := h3 x (by simpa using hxm)
          dsimp only at h4
          rw [← hLM x x1, x2] at h4
          cases h4
        · omega
      have hii : i ∈ Region.ready .any (initO ops) M := ready_of (by rw [initO_size]; exact hin) (by omega) (by rw [hLM i hin]; rw [getD_tf (by omega)] at h2; exact h2) (fun j hj => by
        rw [initO_deps ops i hin] at hj
        have h5 := List.all_eq_true.1 hdep i (List.mem_range.2 h1)
        have hlt := of_decide_eq_true (List.all_eq_true.1 h5 _ hj)
        rw [hLM j (by omega)]
        exact h3 j hj)
      have hop := h.2 i hii
      have hK : ∀ a' w', (S w' ∧ wpAnyH P .any (initO ops) (LastQ P ops Q) S f (M.setIfInBounds i true) a' w') → wpAny P .any ops Q (f + 1) (L.setIfInBounds i true) a' w' := fun a' w' hk =>
        ih (L.setIfInBounds i true) (M.setIfInBounds i true) a' w' (by simp [hL]) (by simp [hM]) (fun j hj => by
          have hjl : j < L.size := by omega
          have hjm : j < M.size := by omega
          have := hLM j hj
          simp [Array.getD, hjl, hjm] at this
          by_cases e : i = j
          · subst e
            simp [Array.getD, hjl, hjm]
          · simp [Array.getD, hjl, hjm, Array.getElem_setIfInBounds, e, this]) (by
          have hjl : ops.size - 1 < L.size := by omega
          have e : i ≠ ops.size - 1 := by omega
          simp [Array.getD, hjl] at hl
          simp [Array.getD, hjl, Array.getElem_setIfInBounds, e, hl]) hk.2
      unfold wpOp at hop ⊢
      rw [initO_get ops i hin] at hop
      cases hoi : ops[i]? with
      | none =>
        rw [hoi] at hop
        exact hK _ _ hop
      | some o =>
        rw [hoi] at hop
        dsimp only at hop ⊢
        by_cases hw : Region.wanted o (yielded ops a.tmps) = true
        · have hwi : Region.wanted o (yielded (initO ops) a.tmps) = true := by rw [← wanted_init ops hg i o hoi a.tmps]; exact hw
          rw [if_pos hwi] at hop
          rw [if_pos hw]
          rcases hop with h6 | ⟨_, h6⟩
          · exact .inl (wp_of_lastQ (Oper.wp_mono hK h6))
          · exact (lastQ_lets h6).elim
        · have hwi : ¬ Region.wanted o (yielded (initO ops) a.tmps) = true := by rw [← wanted_init ops hg i o hoi a.tmps]; exact hw
          rw [if_neg hwi] at hop
          rw [if_neg hw]
          exact hK _ _ hop
theorem wp_region_last (S : World → Prop) (plan : Plan) {id : Nat} {a : Act} {w : World} (hS : S w.drew) (hm : P.follows .mixedOrders = true) (hs : Region.noSelect (initO ops) = true) (hg : guardsOK ops = true) (hn : 0 < ops.size) (hdep : (List.range ops.size).all (fun i => (depsOf ops i).all (fun j => decide (j < i))) = true) (hlast : (List.range (ops.size - 1)).all (fun j => (depsOf ops (ops.size - 1)).contains j) = true)
    (hlen : plan.size = (initO ops).size) (hp : planOK (initO ops) plan (Array.replicate (initO ops).size false) = true) (h : wpPlan P (initO ops) (LastQ P ops Q) plan S a w.drew) : (Code.region id ops true).wp P Q a w := by
  refine wp_region_any hm ?_
  have h1 := wpPlan_held hs (fun _ _ _ _ _ h => h) plan S _ a w.drew hS hp h
  rw [hlen, initO_size] at h1
  have h2 := last_held (Q := Q) (S := S) hg hn hdep hlast (ops.size - 1) (Array.replicate ops.size false) (Array.replicate (ops.size - 1) false) a w.drew (by simp) (by simp) (fun i hi => by
    have : i < ops.size := by omega
    simp [Array.getD, hi, this]) (by
    have : ops.size - 1 < ops.size := by omega
    simp [Array.getD, this]) h1
  rw [show ops.size - 1 + 1 = ops.size by omega] at h2
  exact h2
/-- Behind the plan: the last operation. -/
theorem planLast_done {S : World → Prop} {a : Act} {w : World} {o : Oper} (ho : ops[ops.size - 1]? = some o) (hw : Region.wanted o (yielded ops a.tmps) = true) (h : o.wp P a w (fun a' w' => Q .normal a' w') Q) : wpPlan P (initO ops) (LastQ P ops Q) .nil S a w := by
  show wpOp P ops Q (ops.size - 1) _ a w
  unfold wpOp
  simp only [ho, hw, if_true]
  exact .inl h
end
end Go.Proofs.YtknjpmoimjhddaaGreatDoor
/-
  What the reference's Read of layer 16 answers. No conditions but those typed.
-/
namespace Go.Proofs.YtknjpmoimjhddaaGreatDoor
set_option maxRecDepth 100000
open Go.RowKit
set_option linter.unusedSimpArgs false
set_option linter.unusedVariables false

theorem results_cell_two {fn : Func} {p u v : Tmp} {ty : TypeId} (h : fn.results = #[.cell p ty, .tmp u, .tmp v]) (tmps : Array Value) (P : Program) (w : World) :
    (results fn tmps).run P w = ((asAddr (tmps.getD p undef)).run P w).andThen fun a w₁ => ((loadVar ty a).run P w₁).andThen fun x w₂ => .ok (.tuple #[x, tmps.getD u undef, tmps.getD v undef]) w₂ := by
  simp only [results, h]
  simp [Sem.run_bind, Result.andThen]
theorem results_row_two {P : Program} {fn : Func} {p u v : Tmp} {ty : TypeId} (h : fn.results = #[.cell p ty, .tmp u, .tmp v]) (tmps : Array Value) (w : World) (g : Nat) (t : TypeId) (l : List Value) (d : TypeDesc) (hp : tmps.getD p undef = .pointer (some ⟨g, 0, none⟩)) (hg : Row w g t l)
    (hu : P.underlying ty = some d) (hd : d.isRow = true) (hi : (P.info? ty).map (·.size) = some l.length) : (results fn tmps).run P w = .ok (.tuple #[.agg l.toArray, tmps.getD u undef, tmps.getD v undef]) w := by
  rw [results_cell_two h, hp]
  simp only [asAddr, Sem.run_pure, Result.andThen_ok, hg.loadVar (P := P) ty d hu hd hi]
/-- What a Read of bundles hands back: a bundle that lies somewhere, how many bytes, a code. -/
def RetBr (w : World) (X : ResB) (e : Ending) (w' : World) : Prop :=
  ∃ eA es n ec gA m gc, e = .returned (.tuple #[aggB X.1 eA n ec gA m gc, .int .i64 (X.2.2.2.1 : Int), .int .i64 X.2.2.2.2]) ∧ Hid (conE es = X.2.1) ∧ Hid (es.length = n) ∧ Hid (X.2.2.1.length = m) ∧ n ≤ ec ∧ m ≤ gc ∧ RdE w' eA es ∧ okD w' es ∧ RdG w' gA X.2.2.1 ∧ Below w.heap.size w w'
def zeroB : List Value := [.int .u64 0, .slice none 0 0, .slice none 0 0]
theorem retbr_bad {w w' : World} {X : ResB} {k : Int} (hX : Hid (X = badB k)) (hb : Below w.heap.size w w') : RetBr w X (.returned (.tuple #[.agg zeroB.toArray, .int .i64 0, .int .i64 k])) w' := by
  rw [hX.out]
  exact ⟨none, [], 0, 0, none, 0, 0, rfl, Lib.hid rfl, Lib.hid rfl, Lib.hid rfl, Nat.le_refl _, Nat.le_refl _, RdE.nil, okD.nil _, RdG.nil, hb⟩

theorem OwnE.rd {B : Nat} {t : TypeId} {xs : List ED} {A : Option Addr} {n c : Nat} {w : World} (h : OwnE B t xs (.slice A n c) w) (hn : xs.length = n) : RdE w A xs := by subst hn; exact RdE.own h.1
/-- The loop: how many entries are read, and what is left. -/
def EntI (b : List UInt8) (q v : Nat) (w : World) (Bx B : Nat) (at' i : Value) (wr : World) : Prop :=
  ∃ k a es u, i = .int .i64 ((k : Nat) : Int) ∧ at' = .int .i64 ((a : Nat) : Int) ∧ k ≤ q ∧ 10 ≤ a ∧ a ≤ b.length ∧ (es : List ED).length = k ∧ Hid (readEs q (b.drop 10) = preE (conE es) (readEs (q - k) (b.drop a))) ∧ (∀ x ∈ es, x.s.length ≤ 32) ∧
    Row wr w.heap.size 26 zeroB ∧ Row wr Bx 26 [.int .u64 (v : Int), u, .slice none 0 0] ∧ OwnE B 35 es u wr ∧ Below w.heap.size w wr ∧ B ≤ wr.heap.size

theorem Row.newsD {w : World} {g : Nat} {t : TypeId} {l : List Value} (h : Row w g t l) : ∀ j u, l[j]? = some u → w.cell? ((⟨g, 0, none⟩ : Addr).add j) = some u := fun j u hu => by
  have e1 : (⟨g, 0, none⟩ : Addr).add j = ⟨g, 0 + j, none⟩ := by unfold Addr.add; split <;> simp_all
  rw [e1]
  exact h.range j u hu
theorem info_entry : (Tryz.prog.info? 35).map (fun i => (i.zero, i.size, i.bytes)) = some (some (.agg #[.int .u64 0, .int .u64 0, .slice none 0 0]), 3, 40) := by kernel_rfl
set_option maxHeartbeats 1000000 in
theorem refreadBun_any (b : List UInt8) (n c : Nat) (A : Option Addr) (w : World) (HN : Hid (b.length = n)) (hr : Rd vB w A b) (hn : n ≤ 1000000000) (hc : n ≤ c) :
    Calls Tryz.prog 18 #[.slice A n c] w (RetBr w (readBun b)) := by
  obtain ⟨i0, hi, hz0, hz1, hz2⟩ := info_parts info_u8
  obtain ⟨j0, hj, gz0, gz1, gz2⟩ := info_parts info_entry
  obtain ⟨P, hP⟩ : ∃ P, P = readBun b := ⟨_, rfl⟩
  rw [← hP]
  have hlen := HN.out
  obtain ⟨hR0, hB0⟩ := box_three w 26 (.int .u64 0) (.slice none 0 0) (.slice none 0 0)
  go_enter Tryz.func18, Tryz.ntmps18
  go_upto_region 1 with fail
  generalize (w.alloc (.cells #[.int .u64 0, .slice none 0 0, .slice none 0 0] 26)) = W0 at hR0 hB0 ⊢
  have hgw := hR0.lt
  by_cases h0 : n = 0
  · have HP : Hid (P = badB 2) := hP.trans (bun_zero b (by omega))
    clear hP
    subst h0
    go_wp2_with (refine wpList_store_row rfl 26 (.tmp 2) (.tmp 15) rfl w.heap.size rfl zeroB rfl _ _ hR0 (by exact size_bundle) rfl (one_three _ _ _ rfl rfl rfl) ?_)
    refine bodyPost_ret (results_row_two (p := 2) (u := 3) (v := 4) (ty := 26) (by rfl) _ _ w.heap.size 26 _ _ (by rfl) (by exact hR0.setRow _) Tryz.underlying26 (by rfl) (by exact size_bundle)) (by rfl) ?_
    exact retbr_bad HP (below_setRow hB0 (Nat.le_refl _) _)
  · obtain ⟨blk, o, rfl, hblk, hcell⟩ := hr.at (k := 0) (by omega)
    have hr1 := hr.keep hB0
    have hc0 := hcell 0 (by omega)
    have hg0 : b.getD 0 0 = b[0]'(by omega) := by rw [List.getD_eq_getElem?_getD, List.getElem?_eq_getElem (by omega)]; rfl
    rw [Nat.add_zero] at hc0
    unfold vB at hc0
    rw [← hg0] at hc0
    have hcA : W0.cell? ⟨blk, o, none⟩ = some (.int .u8 ((b.getD 0 0).toNat : Int)) := (hB0.cell (p := ⟨blk, o, none⟩) hblk).trans hc0
    have z1 : ((n : Int) == 0) = false := beq_eq_false_iff_ne.2 (by omega)
    have hp : (0 : Int) < (n : Int) := by omega
    by_cases h66 : b.getD 0 0 = 66
    · rw [h66] at hcA
      clear hc0 hg0
      replace hcA : W0.cell? ⟨blk, o, none⟩ = some (.int .u8 66) := hcA
      by_cases h10 : n < 10
      · have HP : Hid (P = badB 2) := hP.trans (bun_short b (by omega) h66 (by omega))
        clear hP hcell
        have d10 : (n : Int) < 10 := by omega
        go_wp2_with (refine wpList_store_row rfl 26 (.tmp 2) (.tmp 24) rfl w.heap.size rfl zeroB rfl _ _ hR0 (by exact size_bundle) rfl (one_three _ _ _ rfl rfl rfl) ?_)
        refine bodyPost_ret (results_row_two (p := 2) (u := 3) (v := 4) (ty := 26) (by rfl) _ _ w.heap.size 26 _ _ (by rfl) (by exact hR0.setRow _) Tryz.underlying26 (by rfl) (by exact size_bundle)) (by rfl) ?_
        exact retbr_bad HP (below_setRow hB0 (Nat.le_refl _) _)
      · have h10' : ¬ b.length < 10 := by omega
        have hc9 := hcell 9 (by omega)
        have hg9 : b.getD 9 0 = b[9]'(by omega) := by rw [List.getD_eq_getElem?_getD, List.getElem?_eq_getElem (by omega)]; rfl
        unfold vB at hc9
        rw [← hg9] at hc9
        have H9 : Hid (∀ W, Below w.heap.size w W → W.cell? ⟨blk, o + 9, none⟩ = some (.int .u8 ((b.getD 9 0).toNat : Int))) := fun W hW => (hW.cell (p := ⟨blk, o + 9, none⟩) hblk).trans hc9
        clear hc9 hg9
        have d10 : ¬ (n : Int) < 10 := by omega
        have HBD : Hid (P = _) := hP.trans (rfl : readBun b = readBun b)
        have hcut : ∀ W, (Instr.slice 27 (.slice (some ⟨blk, o, none⟩) n c) (some (.int .i64 1)) (some (.int .i64 9)) none).run Tryz.prog W = .ok (.slice (chA (some ⟨blk, o, none⟩) 1) 8 (c - 1)) W := fun W => by
          have := cut_mid (some ⟨blk, o, none⟩) n c 1 8 (by omega) W
          rw [if_neg (by omega)] at this
          exact this
        obtain ⟨v, hv⟩ : ∃ v, valN ((b.drop 1).take 8) = v := ⟨_, rfl⟩
        have hvlt : v < 18446744073709551616 := by rw [← hv]; exact valN_lt8 _ (by rw [List.length_take, List.length_drop]; omega)
        have HC1 := Lib.hid (val8_any ((b.drop 1).take 8) (chA (some ⟨blk, o, none⟩) 1) (c - 1) W0 ((hr1.chA 1).take 8) (by unfold Hid; rw [List.length_take, List.length_drop]; omega) v hv)
        generalize chA (some ⟨blk, o, none⟩) 1 = A1 at hcut HC1
        have HV := Lib.hid hv
        clear hv
        generalize (b.drop 1).take 8 = L1 at HC1
        go_upto_region 7 with fail
        have hRn : Row (W0.alloc (.cells #[.int .u64 0, .slice none 0 0, .slice none 0 0] 26)) W0.heap.size 26 zeroB := Row.new W0 _ _ _ rfl
        have hb1 : Below W0.heap.size W0 ((W0.alloc (.cells #[.int .u64 0, .slice none 0 0, .slice none 0 0] 26)).setRow W0.heap.size [.int .u64 (v : Int), .slice none 0 0, .slice none 0 0].toArray) := below_setRow (below_new (Below.refl _ _) _) (Nat.le_refl _) _
        have hRx := hRn.setRow [.int .u64 (v : Int), .slice none 0 0, .slice none 0 0]
        go_wp2_with fail
        refine HC1.out.mono ?_
        rintro e₁ w4 ⟨rfl, h4⟩
        replace h4 := h4.symm
        subst h4
        go_upto_region 8 with (refine wpList_store_row rfl 26 (.tmp 5) (.tmp 28) rfl W0.heap.size rfl [.int .u64 (v : Int), .slice none 0 0, .slice none 0 0] rfl _ _ hRn (by exact size_bundle) rfl (one_three _ _ _ rfl rfl rfl) ?_)
        replace hR0 := hR0.later hb1
        replace hB0 := below_step hB0 hb1
        generalize (W0.alloc (.cells #[.int .u64 0, .slice none 0 0, .slice none 0 0] 26)).setRow W0.heap.size [.int .u64 (v : Int), .slice none 0 0, .slice none 0 0].toArray = W1 at hR0 hB0 hRx ⊢
        generalize W0.heap.size = Bx at hRx hgw ⊢
        clear hRn hb1 hr1 hcA HC1 hcut z1 hp d10
        have c9 : W1.cell? ⟨blk, o + 9, none⟩ = some (.int .u8 ((b.getD 9 0).toNat : Int)) := H9.out W1 hB0
        obtain ⟨q, hq⟩ : ∃ q, (b.getD 9 0).toNat = q := ⟨_, rfl⟩
        have hq256 : q < 256 := by rw [← hq]; exact UInt8.toNat_lt _
        rw [hq] at c9
        have H9q : Hid (∀ W, Below w.heap.size w W → W.cell? ⟨blk, o + 9, none⟩ = some (.int .u8 (q : Int))) := by rw [← hq]; exact H9.out
        by_cases h64 : 64 < q
        · have HP : Hid (P = badB 3) := hP.trans (bun_many b h66 h10' (by omega))
          clear hP HBD H9 H9q HV hq hcell
          go_wp2_with (refine wpList_store_row rfl 26 (.tmp 2) (.tmp 33) rfl w.heap.size rfl zeroB rfl _ _ hR0 (by exact size_bundle) rfl (one_three _ _ _ rfl rfl rfl) ?_)
          refine bodyPost_ret (results_row_two (p := 2) (u := 3) (v := 4) (ty := 26) (by rfl) _ _ w.heap.size 26 _ _ (by rfl) (by exact hR0.setRow _) Tryz.underlying26 (by rfl) (by exact size_bundle)) (by rfl) ?_
          exact retbr_bad HP (below_setRow hB0 (Nat.le_refl _) _)
        · obtain ⟨E, hE⟩ : ∃ E, readEs q (b.drop 10) = E := ⟨_, rfl⟩
          have HP := Lib.hid (hP.trans (bun_body b h66 h10' (by omega) E (by rw [hq]; exact hE)))
          rw [HV.out] at HP
          have HE := Lib.hid hE
          clear hP HBD H9 HV hq hE h66
          have d64 : ¬ (64 : Int) < (q : Int) := by omega
          have hBW := hRx.lt
          have hsz := hB0.size
          go_upto_region 12 with fail
          go_loopw [6, 7] (fun a i wr => EntI b q v w Bx W1.heap.size a i wr) (fun _ i _ => q - (intOf i).toNat)
          case atStart => exact ⟨0, 10, [], .slice none 0 0, rfl, rfl, by omega, by omega, by omega, rfl, (preE_nil q (b.drop 10)).symm, (fun x hx => by cases hx), hR0, hRx, OwnE.nil _ _ _, hB0, Nat.le_refl _⟩
          case round =>
            obtain ⟨k, a, es, u, rfl, rfl, hk, ha10, han, hes, hpre, hsd, hRr, hRb, hown, hbel, hszr⟩ := hrel
            by_cases hlt : k < q
            · have e1 : q - k = (q - (k + 1)) + 1 := by omega
              rw [e1] at hpre
              have HES := Lib.hid hes
              have HSD := Lib.hid hsd
              have hdl : (b.drop a).length = n - a := by rw [List.length_drop, hlen]
              have c9w := H9q.out wr hbel
              have HBL := Lib.hid hbel
              have jk : (k : Int) < (q : Int) := by omega
              have HQ := Lib.hid hlt
              rw [hlen] at han
              clear e1 hes hsd
              by_cases hs1 : n < a + 17
              · have HPP : Hid (P = badB 2) := by
                  rw [← HE.out, hpre.out, readEs_s1 _ _ _ (by rw [hdl]; omega)] at HP
                  exact HP
                clear HP HE hpre
                have d17 : (n : Int) - (a : Int) < 17 := by omega
                go_wp2_with (refine wpList_store_row rfl 26 (.tmp 2) (.tmp 47) rfl w.heap.size rfl zeroB rfl _ _ hRr (by exact size_bundle) rfl (one_three _ _ _ rfl rfl rfl) ?_)
                refine bodyPost_ret (results_row_two (p := 2) (u := 3) (v := 4) (ty := 26) (by rfl) _ _ w.heap.size 26 _ _ (by rfl) (by exact hRr.setRow _) Tryz.underlying26 (by rfl) (by exact size_bundle)) (by rfl) ?_
                exact retbr_bad HPP (below_setRow HBL.out (Nat.le_refl _) _)
              · obtain ⟨p, hp16⟩ : ∃ p, ((b.drop a).getD 16 0).toNat = p := ⟨_, rfl⟩
                have hp256 : p < 256 := by rw [← hp16]; exact UInt8.toNat_lt _
                have c16 : wr.cell? ⟨blk, o + (a + 16), none⟩ = some (.int .u8 (p : Int)) := by
                  have h1 := hcell (a + 16) (by omega)
                  have h2 : (b.drop a).getD 16 0 = b[a + 16]'(by omega) := by rw [List.getD_eq_getElem?_getD, List.getElem?_drop, List.getElem?_eq_getElem (by omega)]; rfl
                  unfold vB at h1
                  rw [← h2, hp16] at h1
                  exact (HBL.out.cell (p := ⟨blk, o + (a + 16), none⟩) hblk).trans h1
                have d17 : ¬ (n : Int) - (a : Int) < 17 := by omega
                by_cases hs2 : p = 0 ∨ 32 < p
                · have HPP : Hid (P = badB 3) := by
                    rw [← HE.out, hpre.out, readEs_s2 _ _ _ (by rw [hdl]; omega) (by rw [hp16]; exact hs2)] at HP
                    exact HP
                  clear HP HE hpre hp16
                  rcases hs2 with rfl | hs2
                  · go_wp2_with (refine wpList_store_row rfl 26 (.tmp 2) (.tmp 60) rfl w.heap.size rfl zeroB rfl _ _ hRr (by exact size_bundle) rfl (one_three _ _ _ rfl rfl rfl) ?_)
                    refine bodyPost_ret (results_row_two (p := 2) (u := 3) (v := 4) (ty := 26) (by rfl) _ _ w.heap.size 26 _ _ (by rfl) (by exact hRr.setRow _) Tryz.underlying26 (by rfl) (by exact size_bundle)) (by rfl) ?_
                    exact retbr_bad HPP (below_setRow HBL.out (Nat.le_refl _) _)
                  · have zp : ((p : Int) == 0) = false := beq_eq_false_iff_ne.2 (by omega)
                    have dp : (32 : Int) < (p : Int) := by omega
                    go_wp2_with (refine wpList_store_row rfl 26 (.tmp 2) (.tmp 60) rfl w.heap.size rfl zeroB rfl _ _ hRr (by exact size_bundle) rfl (one_three _ _ _ rfl rfl rfl) ?_)
                    refine bodyPost_ret (results_row_two (p := 2) (u := 3) (v := 4) (ty := 26) (by rfl) _ _ w.heap.size 26 _ _ (by rfl) (by exact hRr.setRow _) Tryz.underlying26 (by rfl) (by exact size_bundle)) (by rfl) ?_
                    exact retbr_bad HPP (below_setRow HBL.out (Nat.le_refl _) _)
                · have zp : ((p : Int) == 0) = false := beq_eq_false_iff_ne.2 (by omega)
                  have dp : ¬ (32 : Int) < (p : Int) := by omega
                  by_cases hs3 : n < a + 17 + p
                  · have HPP : Hid (P = badB 2) := by
                      rw [← HE.out, hpre.out, readEs_s3 _ _ _ (by rw [hdl]; omega) (by rw [hp16]; exact hs2) (by rw [hdl, hp16]; omega)] at HP
                      exact HP
                    clear HP HE hpre hp16
                    have dn : (n : Int) - (a : Int) - 17 < (p : Int) := by omega
                    go_wp2_with (refine wpList_store_row rfl 26 (.tmp 2) (.tmp 68) rfl w.heap.size rfl zeroB rfl _ _ hRr (by exact size_bundle) rfl (one_three _ _ _ rfl rfl rfl) ?_)
                    refine bodyPost_ret (results_row_two (p := 2) (u := 3) (v := 4) (ty := 26) (by rfl) _ _ w.heap.size 26 _ _ (by rfl) (by exact hRr.setRow _) Tryz.underlying26 (by rfl) (by exact size_bundle)) (by rfl) ?_
                    exact retbr_bad HPP (below_setRow HBL.out (Nat.le_refl _) _)
                  · have hE4 := readEs_s4 (conE es) (q - (k + 1)) (b.drop a) (by rw [hdl]; omega) (by rw [hp16]; exact hs2) (by rw [hdl, hp16]; omega)
                    rw [hp16, List.drop_drop] at hE4
                    have HE4 := Lib.hid (hpre.out.trans hE4)
                    have HP4 := HP
                    have HE0 := HE
                    have hcA : ∀ W, (Instr.slice 27 (.slice (some ⟨blk, o, none⟩) n c) (some (.int .i64 (a : Int))) (some (.int .i64 ((a : Int) + 8))) none).run Tryz.prog W = .ok (.slice (chA (some ⟨blk, o, none⟩) a) 8 (c - a)) W := fun W => by
                      have := cut_mid (some ⟨blk, o, none⟩) n c a 8 (by omega) W
                      rw [if_neg (by omega)] at this
                      exact this
                    have hcB : ∀ W, (Instr.slice 27 (.slice (some ⟨blk, o, none⟩) n c) (some (.int .i64 ((a : Int) + 8))) (some (.int .i64 ((a : Int) + 16))) none).run Tryz.prog W = .ok (.slice (chA (some ⟨blk, o, none⟩) (a + 8)) 8 (c - (a + 8))) W := fun W => by
                      have := cut_mid (some ⟨blk, o, none⟩) n c (a + 8) 8 (by omega) W
                      rw [if_neg (by omega), show (((a + 8 : Nat) : Int)) = (a : Int) + 8 by omega, show (a : Int) + 8 + ((8 : Nat) : Int) = (a : Int) + 16 by omega] at this
                      exact this
                    have hcC : ∀ W, (Instr.slice 27 (.slice (some ⟨blk, o, none⟩) n c) (some (.int .i64 ((a : Int) + 17))) (some (.int .i64 ((a : Int) + 17 + (p : Int)))) none).run Tryz.prog W = .ok (.slice (chA (some ⟨blk, o, none⟩) (a + 17)) p (c - (a + 17))) W := fun W => by
                      have := cut_mid (some ⟨blk, o, none⟩) n c (a + 17) p (by omega) W
                      rw [if_neg (by omega), show (((a + 17 : Nat) : Int)) = (a : Int) + 17 by omega] at this
                      exact this
                    have hrw := hr.keep HBL.out
                    obtain ⟨L1, hL1⟩ : ∃ L, (b.drop a).take 8 = L := ⟨_, rfl⟩
                    obtain ⟨L2, hL2⟩ : ∃ L, (b.drop (a + 8)).take 8 = L := ⟨_, rfl⟩
                    obtain ⟨L3, hL3⟩ : ∃ L, (b.drop (a + 17)).take p = L := ⟨_, rfl⟩
                    have hn1 : L1.length = 8 := by rw [← hL1, List.length_take, List.length_drop]; omega
                    have hn2 : L2.length = 8 := by rw [← hL2, List.length_take, List.length_drop]; omega
                    have hn3 : L3.length = p := by rw [← hL3, List.length_take, List.length_drop]; omega
                    obtain ⟨v1, hv1⟩ : ∃ v, valN L1 = v := ⟨_, rfl⟩
                    obtain ⟨v2, hv2⟩ : ∃ v, valN L2 = v := ⟨_, rfl⟩
                    have hen : entE (b.drop a) = (v1, v2, L3) := by
                      unfold entE
                      rw [hp16, List.drop_drop, List.drop_drop, hL1, hL2, hL3, hv1, hv2]
                    rw [hen] at HE4
                    have hr1 : Rd vB wr (chA (some ⟨blk, o, none⟩) a) L1 := by rw [← hL1]; exact (hrw.chA a).take 8
                    have hr2 : Rd vB wr (chA (some ⟨blk, o, none⟩) (a + 8)) L2 := by rw [← hL2]; exact (hrw.chA (a + 8)).take 8
                    have hr3 : Rd vB wr (chA (some ⟨blk, o, none⟩) (a + 17)) L3 := by rw [← hL3]; exact (hrw.chA (a + 17)).take p
                    generalize chA (some ⟨blk, o, none⟩) a = A1 at hr1 hcA
                    generalize chA (some ⟨blk, o, none⟩) (a + 8) = A2 at hr2 hcB
                    generalize chA (some ⟨blk, o, none⟩) (a + 17) = A3 at hr3 hcC
                    have HC1 := Lib.hid (fun W (hW : Below wr.heap.size wr W) => val8_any L1 A1 (c - a) W (hr1.keep hW) hn1 v1 hv1)
                    have HC2 := Lib.hid (fun W (hW : Below wr.heap.size wr W) => val8_any L2 A2 (c - (a + 8)) W (hr2.keep hW) hn2 v2 hv2)
                    have HN3 := Lib.hid hn3
                    have HS2 := Lib.hid hs2
                    obtain ⟨eA, ec, hu, hec, hre⟩ := hown.slice
                    rw [HES.out] at hu hec
                    subst hu
                    have c1 : wr.cell? ⟨Bx, 1, none⟩ = some (.slice eA k ec) := hRb.cell rfl
                    have HEC := Lib.hid hec
                    have dn : ¬ (n : Int) - (a : Int) - 17 < (p : Int) := by omega
                    have han17 : a + 17 + p ≤ n := by omega
                    clear hr1 hr2 hrw hL1 hL2 hL3 hn1 hn2 hn3 hv1 hv2 hE4 hen hp16 hpre hre hec hdl HP HE hcell hs1 hs3 hs2
                    go_upto_region 21 with fail
                    have w8 : IntKind.i64.wrap ((a : Int) + 8) = (a : Int) + 8 := by rw [IntKind.wrap_i64]; omega
                    have w16 : IntKind.i64.wrap ((a : Int) + 16) = (a : Int) + 16 := by rw [IntKind.wrap_i64]; omega
                    have w17 : IntKind.i64.wrap ((a : Int) + 17) = (a : Int) + 17 := by rw [IntKind.wrap_i64]; omega
                    have w17p : IntKind.i64.wrap ((a : Int) + 17 + (p : Int)) = (a : Int) + 17 + (p : Int) := by rw [IntKind.wrap_i64]; omega
                    have hS : wr.drew.cell? ⟨Bx, 1, none⟩ = some (.slice eA k ec) ∧ True := ⟨c1, trivial⟩
                    refine wp_region_last (fun W => W.cell? ⟨Bx, 1, none⟩ = some (.slice eA k ec) ∧ True) (.step 0 false (.step 1 false (.step 2 false (.step 3 false (.step 4 false (.step 5 false (.step 6 false (.step 8 false (.step 9 false (.step 10 false (.step 11 false (.step 12 false (.step 13 false (.step 16 false (.step 17 false (.step 18 false (.step 19 false (.step 20 false (.step 21 false (.step 22 false (.step 23 false (.fork 7 (.fork 14 (.step 15 true (.step 24 true (.step 25 false (.step 26 true (.step 27 true (.step 28 false .nil)))))) 15 (.step 14 true (.step 24 true (.step 25 false (.step 26 true (.step 27 true (.step 28 false .nil))))))) 15 (.step 7 true (.step 14 true (.step 24 true (.step 25 false (.step 26 true (.step 27 true (.step 28 false .nil))))))))))))))))))))))))))))) hS (by rfl) (by kernel_rfl) (by kernel_rfl) (by decide) (by kernel_rfl) (by kernel_rfl) (by kernel_rfl) (by kernel_rfl) ?_
                    simp only [initO, List.dropLast]
                    have hSd : wr.drew.cell? ⟨Bx, 1, none⟩ = some (.slice eA k ec) := c1
                    have hownD : OwnE W1.heap.size 35 es (.slice eA k ec) wr.drew := hown.later (Below.refl _ _).drew
                    have hRrD : Row wr.drew w.heap.size 26 zeroB := hRr
                    have hRbD : Row wr.drew Bx 26 [.int .u64 (v : Int), .slice eA k ec, .slice none 0 0] := hRb
                    have HBD : Hid (Below w.heap.size w wr.drew) := HBL.out.drew
                    have HCd1 : Hid (∀ W, Below wr.drew.heap.size wr.drew W → Calls Tryz.prog 62 #[.slice A1 8 (c - a)] W fun e w' => e = .returned (.int .u64 (v1 : Int)) ∧ w' = W) := fun W hW => HC1.out W (below_step (Below.refl _ _).drew hW)
                    have HCd2 : Hid (∀ W, Below wr.drew.heap.size wr.drew W → Calls Tryz.prog 62 #[.slice A2 8 (c - (a + 8))] W fun e w' => e = .returned (.int .u64 (v2 : Int)) ∧ w' = W) := fun W hW => HC2.out W (below_step (Below.refl _ _).drew hW)
                    have hr3d : Rd vB wr.drew A3 L3 := hr3.keep (Below.refl _ _).drew
                    clear HC1 HC2 hown hRr hRb HBL c1 hr3 c9w c16 hS
                    iterate 21 (refine plan_read rfl (by rfl) (v := ?_) ?_ ?_; rotate_left 1; (intro W hW; (try dsimp only at hW); obtain ⟨hW0, hW1⟩ := hW; go_simp <;> with_reducible rfl); simp only [List.getElem_toArray, List.getElem_cons_zero, List.getElem_cons_succ, Act.put, List.setIfInBounds_toArray, List.set_cons_zero, List.set_cons_succ])
                    have hszd : wr.heap.size = wr.drew.heap.size := rfl
                    generalize wr.drew = wd at hSd hownD hRrD hRbD HBD HCd1 HCd2 hr3d hszd ⊢
                    rw [hszd] at hszr
                    have hS : wd.cell? ⟨Bx, 1, none⟩ = some (.slice eA k ec) ∧ True := ⟨hSd, trivial⟩
                    have hBxd := hRbD.lt
                    have hSE : (wd.alloc (.cells #[] 5)).cell? ⟨Bx, 1, none⟩ = some (.slice eA k ec) ∧ True := ⟨by rw [World.cell?_alloc_lt _ _ _ hBxd]; exact hSd, trivial⟩
                    have hownk : wd.ownsRow W1.heap.size 35 3 (.slice eA k ec) k (cellsE es) := by
                      have := hownD.1
                      rw [HES.out] at this
                      exact this
                    have hownE : (wd.alloc (.cells #[] 5)).ownsRow wd.heap.size 5 1 (.slice (some ⟨wd.heap.size, 0, none⟩) 0 0) 0 [] := own_lit wd 5 [] #[] rfl (by simp)
                    have hr3E : Rd vB (wd.alloc (.cells #[] 5)) A3 L3 := hr3d.keep (below_new (Below.refl _ _) _)
                    have hsd9 : ∀ A7 c7, ∀ x ∈ es ++ [ED.mk v1 v2 A7 c7 L3], x.s.length ≤ 32 := fun A7 c7 x hx => by
                      rcases List.mem_append.1 hx with hx | hx
                      · exact HSD.out x hx
                      · rw [List.mem_singleton.1 hx]
                        show L3.length ≤ 32
                        have := HN3.out
                        have := HS2.out
                        omega
                    refine plan_fork rfl rfl (by rfl) (by rfl) (fun K hK => ?_) (fun K hK => ?_)
                    · go_simp
                      refine (HCd1.out _ (Below.refl _ _)).mono ?_; rintro e₁ w4 ⟨rfl, h4⟩; replace h4 := h4.symm; subst h4
                      refine hK.out _ _ hS ?_
                      clear hK K
                      refine plan_fork rfl rfl (by rfl) (by rfl) (fun K hK => ?_) (fun K hK => ?_)
                      · go_simp
                        refine (HCd2.out _ (Below.refl _ _)).mono ?_; rintro e₁ w4 ⟨rfl, h4⟩; replace h4 := h4.symm; subst h4
                        refine hK.out _ _ hS ?_
                        clear hK K
                        (refine plan_make_of rfl (by rfl) (fun K hK => ?_); go_simp; refine hK.out _ _ hSE ?_; clear hK K)
                        refine plan_make_of rfl (by rfl) (fun K hK => ?_)
                        refine wp_append_apart _ (.tmp 84) (.tmp 92) 27 (by rfl) wd.heap.size 5 i0 (.int .u8 0) 1 Tryz.underlying27 hi hz0 hz1 hz2 rfl _ 0 _ (by rfl) hownE A3 L3 (c - (a + 17)) (by rw [HN3.out]; rfl) hr3E vB_one (by rw [HN3.out]; unfold maxLen; omega) (by rw [HN3.out]; omega) (by simp) ?_
                        intro v7 w7 hown7 hgrow7 hat7
                        have hb7 : Below wd.heap.size wd w7 := (below_new (Below.refl wd.heap.size wd) (.cells #[] 5)).grown hgrow7 (by simp) (fun j hj => (hownE.lt j hj).1)
                        rw [Nat.zero_add, List.nil_append] at hown7
                        obtain ⟨A7, c7, rfl, hc7, hr7⟩ := own_slice hown7
                        have hn7 : L3 ≠ [] → ∀ a, A7 = some a → wd.heap.size ≤ a.block := fun _ a' ha' => by subst ha'; exact (hown7.lt _ rfl).1
                        simp only [List.getElem_toArray, List.getElem_cons_zero, List.getElem_cons_succ, Act.put, List.setIfInBounds_toArray, List.set_cons_zero, List.set_cons_succ]
                        refine hK.out _ _ ⟨(hb7.cell (p := ⟨Bx, 1, none⟩) hBxd).trans hSd, trivial⟩ ?_
                        clear hK K hown7 hgrow7 hat7
                        iterate 1 (refine plan_read rfl (by rfl) (v := ?_) ?_ ?_; rotate_left 1; (intro W hW; (try dsimp only at hW); obtain ⟨hW0, hW1⟩ := hW; go_simp <;> with_reducible rfl); simp only [List.getElem_toArray, List.getElem_cons_zero, List.getElem_cons_succ, Act.put, List.setIfInBounds_toArray, List.set_cons_zero, List.set_cons_succ])
                        have hb8 : Below wd.heap.size wd (w7.alloc (.cells #[.int .u64 (v1 : Int), .int .u64 (v2 : Int), .slice A7 L3.length c7] 35)) := below_new hb7 _
                        (refine plan_make_of rfl (by rfl) (fun K hK => ?_); go_simp; refine hK.out _ _ ⟨(hb8.cell (p := ⟨Bx, 1, none⟩) hBxd).trans hSd, trivial⟩ ?_; clear hK K)
                        have hown8 := ownsRowE_later hownk hb8
                        have hnews := (Row.new w7 35 (ED.mk v1 v2 A7 c7 L3).cells #[.int .u64 (v1 : Int), .int .u64 (v2 : Int), .slice A7 L3.length c7] rfl).newsD
                        have hs8 := hb8.size
                        refine plan_make_of rfl (by rfl) (fun K hK => ?_)
                        refine wp_append_own3 _ (.tmp 70) (.tmp 95) 23 (by rfl) W1.heap.size 35 j0 (.agg #[.int .u64 0, .int .u64 0, .slice none 0 0]) 3 40 Tryz.underlying23 hj gz0 gz1 gz2 rfl (by decide) (.slice eA k ec) k (cellsE es) (by rfl) hown8 ⟨w7.heap.size, 0, none⟩ 1 1 (ED.mk v1 v2 A7 c7 L3).cells (by rfl) (by rfl) hnews (ED.one _) (by unfold maxLen; omega) (by omega) (by omega) ?_
                        intro v9 w9 hown9 hgrow9 hat9
                        obtain ⟨A9, c9, rfl, hc9q⟩ := own_formE hown9
                        have hO9 : OwnE W1.heap.size 35 (es ++ [ED.mk v1 v2 A7 c7 L3]) (.slice A9 (k + 1) c9) w9 := hownD.more hb7 ⟨hc7, hr7⟩ hn7 hszr (below_new (Below.refl _ _) _) (by rw [HES.out]; exact hown9) hgrow9 hat9
                        have hbd9 : Below W1.heap.size wd w9 := (hb8.mono hszr).grown hgrow9 (by omega) (fun j hj => (hown8.lt j hj).1)
                        have hRr9 := (hRrD.later hb8).grown hgrow9 (fun e => by have := (hown8.lt _ e).1; omega)
                        have hRb9 := (hRbD.later hb8).grown hgrow9 (fun e => by have := (hown8.lt _ e).1; omega)
                        have HB9 := Lib.hid (HBD.out.trans (hbd9.mono hsz))
                        have hs9 := hbd9.size
                        simp only [List.getElem_toArray, List.getElem_cons_zero, List.getElem_cons_succ, Act.put, List.setIfInBounds_toArray, List.set_cons_zero, List.set_cons_succ]
                        refine hK.out _ _ ⟨hRb9.cell rfl, trivial⟩ ?_
                        clear hK K hown9 hgrow9 hat9 hbd9 hown8 hb8 hb7 hnews
                        iterate 1 (refine plan_read rfl (by rfl) (v := ?_) ?_ ?_; rotate_left 1; (intro W hW; (try dsimp only at hW); obtain ⟨hW0, hW1⟩ := hW; go_simp <;> with_reducible rfl); simp only [List.getElem_toArray, List.getElem_cons_zero, List.getElem_cons_succ, Act.put, List.setIfInBounds_toArray, List.set_cons_zero, List.set_cons_succ])
                        have hc9 : w9.cell? ⟨Bx, 1, none⟩ = some (.slice eA k ec) := hRb9.cell rfl
                        have hf9 : w9.frozen? ⟨Bx, 1, none⟩ = false := hRb9.frozen 1
                        refine planLast_done rfl (by rfl) ?_
                        go_simp
                        have HO10 := Lib.hid (hO9.same (w' := w9.setCell ⟨Bx, 1, none⟩ (.slice A9 (k + 1) c9)) (fun j h1 _ => Below.heap_setCell w9 ⟨Bx, 1, none⟩ (.slice A9 (k + 1) c9) j (by show j ≠ Bx; omega)))
                        have hRr10 := hRr9.setCell_other (p := ⟨Bx, 1, none⟩) (by show w.heap.size ≠ Bx; omega) (.slice A9 (k + 1) c9)
                        have hRb10 : Row (w9.setCell ⟨Bx, 1, none⟩ (.slice A9 (k + 1) c9)) Bx 26 [.int .u64 (v : Int), (.slice A9 (k + 1) c9), .slice none 0 0] := hRb9.setCell 1 (.slice A9 (k + 1) c9)
                        have HB10 := Lib.hid (HB9.out.setCell (p := ⟨Bx, 1, none⟩) (by show w.heap.size ≤ Bx; omega) (.slice A9 (k + 1) c9))
                        have hs10 : (w9.setCell ⟨Bx, 1, none⟩ (.slice A9 (k + 1) c9)).heap.size = w9.heap.size := by simp [World.setCell]
                        clear hO9 hRr9 hRb9 hc9 hf9 HB9
                        generalize w9.setCell ⟨Bx, 1, none⟩ (.slice A9 (k + 1) c9) = w10 at HO10 hRr10 hRb10 HB10 hs10 ⊢
                        go_wp2_with fail
                        go_roundw
                        case rel => exact ⟨k + 1, a + 17 + p, es ++ [ED.mk v1 v2 A7 c7 L3], (.slice A9 (k + 1) c9), by go_num, by go_num, by omega, by omega, by omega, by rw [List.length_append, HES.out]; rfl, by unfold Hid; rw [conE_snoc, show a + 17 + p = a + (17 + p) by omega]; exact HE4.out, hsd9 A7 c7, hRr10, hRb10, HO10.out, HB10.out, by omega⟩
                        case measure => simp [intOf]; omega
                      · go_simp
                        refine hK.out _ _ hSE ?_
                        clear hK K
                        refine plan_make_of rfl (by rfl) (fun K hK => ?_)
                        go_simp
                        refine (HCd2.out _ (below_new (Below.refl _ _) _)).mono ?_; rintro e₁ w4 ⟨rfl, h4⟩; replace h4 := h4.symm; subst h4
                        refine hK.out _ _ hSE ?_
                        clear hK K
                        refine plan_make_of rfl (by rfl) (fun K hK => ?_)
                        refine wp_append_apart _ (.tmp 84) (.tmp 92) 27 (by rfl) wd.heap.size 5 i0 (.int .u8 0) 1 Tryz.underlying27 hi hz0 hz1 hz2 rfl _ 0 _ (by rfl) hownE A3 L3 (c - (a + 17)) (by rw [HN3.out]; rfl) hr3E vB_one (by rw [HN3.out]; unfold maxLen; omega) (by rw [HN3.out]; omega) (by simp) ?_
                        intro v7 w7 hown7 hgrow7 hat7
                        have hb7 : Below wd.heap.size wd w7 := (below_new (Below.refl wd.heap.size wd) (.cells #[] 5)).grown hgrow7 (by simp) (fun j hj => (hownE.lt j hj).1)
                        rw [Nat.zero_add, List.nil_append] at hown7
                        obtain ⟨A7, c7, rfl, hc7, hr7⟩ := own_slice hown7
                        have hn7 : L3 ≠ [] → ∀ a, A7 = some a → wd.heap.size ≤ a.block := fun _ a' ha' => by subst ha'; exact (hown7.lt _ rfl).1
                        simp only [List.getElem_toArray, List.getElem_cons_zero, List.getElem_cons_succ, Act.put, List.setIfInBounds_toArray, List.set_cons_zero, List.set_cons_succ]
                        refine hK.out _ _ ⟨(hb7.cell (p := ⟨Bx, 1, none⟩) hBxd).trans hSd, trivial⟩ ?_
                        clear hK K hown7 hgrow7 hat7
                        iterate 1 (refine plan_read rfl (by rfl) (v := ?_) ?_ ?_; rotate_left 1; (intro W hW; (try dsimp only at hW); obtain ⟨hW0, hW1⟩ := hW; go_simp <;> with_reducible rfl); simp only [List.getElem_toArray, List.getElem_cons_zero, List.getElem_cons_succ, Act.put, List.setIfInBounds_toArray, List.set_cons_zero, List.set_cons_succ])
                        have hb8 : Below wd.heap.size wd (w7.alloc (.cells #[.int .u64 (v1 : Int), .int .u64 (v2 : Int), .slice A7 L3.length c7] 35)) := below_new hb7 _
                        (refine plan_make_of rfl (by rfl) (fun K hK => ?_); go_simp; refine hK.out _ _ ⟨(hb8.cell (p := ⟨Bx, 1, none⟩) hBxd).trans hSd, trivial⟩ ?_; clear hK K)
                        have hown8 := ownsRowE_later hownk hb8
                        have hnews := (Row.new w7 35 (ED.mk v1 v2 A7 c7 L3).cells #[.int .u64 (v1 : Int), .int .u64 (v2 : Int), .slice A7 L3.length c7] rfl).newsD
                        have hs8 := hb8.size
                        refine plan_make_of rfl (by rfl) (fun K hK => ?_)
                        refine wp_append_own3 _ (.tmp 70) (.tmp 95) 23 (by rfl) W1.heap.size 35 j0 (.agg #[.int .u64 0, .int .u64 0, .slice none 0 0]) 3 40 Tryz.underlying23 hj gz0 gz1 gz2 rfl (by decide) (.slice eA k ec) k (cellsE es) (by rfl) hown8 ⟨w7.heap.size, 0, none⟩ 1 1 (ED.mk v1 v2 A7 c7 L3).cells (by rfl) (by rfl) hnews (ED.one _) (by unfold maxLen; omega) (by omega) (by omega) ?_
                        intro v9 w9 hown9 hgrow9 hat9
                        obtain ⟨A9, c9, rfl, hc9q⟩ := own_formE hown9
                        have hO9 : OwnE W1.heap.size 35 (es ++ [ED.mk v1 v2 A7 c7 L3]) (.slice A9 (k + 1) c9) w9 := hownD.more hb7 ⟨hc7, hr7⟩ hn7 hszr (below_new (Below.refl _ _) _) (by rw [HES.out]; exact hown9) hgrow9 hat9
                        have hbd9 : Below W1.heap.size wd w9 := (hb8.mono hszr).grown hgrow9 (by omega) (fun j hj => (hown8.lt j hj).1)
                        have hRr9 := (hRrD.later hb8).grown hgrow9 (fun e => by have := (hown8.lt _ e).1; omega)
                        have hRb9 := (hRbD.later hb8).grown hgrow9 (fun e => by have := (hown8.lt _ e).1; omega)
                        have HB9 := Lib.hid (HBD.out.trans (hbd9.mono hsz))
                        have hs9 := hbd9.size
                        simp only [List.getElem_toArray, List.getElem_cons_zero, List.getElem_cons_succ, Act.put, List.setIfInBounds_toArray, List.set_cons_zero, List.set_cons_succ]
                        refine hK.out _ _ ⟨hRb9.cell rfl, trivial⟩ ?_
                        clear hK K hown9 hgrow9 hat9 hbd9 hown8 hb8 hb7 hnews
                        iterate 1 (refine plan_read rfl (by rfl) (v := ?_) ?_ ?_; rotate_left 1; (intro W hW; (try dsimp only at hW); obtain ⟨hW0, hW1⟩ := hW; go_simp <;> with_reducible rfl); simp only [List.getElem_toArray, List.getElem_cons_zero, List.getElem_cons_succ, Act.put, List.setIfInBounds_toArray, List.set_cons_zero, List.set_cons_succ])
                        have hc9 : w9.cell? ⟨Bx, 1, none⟩ = some (.slice eA k ec) := hRb9.cell rfl
                        have hf9 : w9.frozen? ⟨Bx, 1, none⟩ = false := hRb9.frozen 1
                        refine planLast_done rfl (by rfl) ?_
                        go_simp
                        have HO10 := Lib.hid (hO9.same (w' := w9.setCell ⟨Bx, 1, none⟩ (.slice A9 (k + 1) c9)) (fun j h1 _ => Below.heap_setCell w9 ⟨Bx, 1, none⟩ (.slice A9 (k + 1) c9) j (by show j ≠ Bx; omega)))
                        have hRr10 := hRr9.setCell_other (p := ⟨Bx, 1, none⟩) (by show w.heap.size ≠ Bx; omega) (.slice A9 (k + 1) c9)
                        have hRb10 : Row (w9.setCell ⟨Bx, 1, none⟩ (.slice A9 (k + 1) c9)) Bx 26 [.int .u64 (v : Int), (.slice A9 (k + 1) c9), .slice none 0 0] := hRb9.setCell 1 (.slice A9 (k + 1) c9)
                        have HB10 := Lib.hid (HB9.out.setCell (p := ⟨Bx, 1, none⟩) (by show w.heap.size ≤ Bx; omega) (.slice A9 (k + 1) c9))
                        have hs10 : (w9.setCell ⟨Bx, 1, none⟩ (.slice A9 (k + 1) c9)).heap.size = w9.heap.size := by simp [World.setCell]
                        clear hO9 hRr9 hRb9 hc9 hf9 HB9
                        generalize w9.setCell ⟨Bx, 1, none⟩ (.slice A9 (k + 1) c9) = w10 at HO10 hRr10 hRb10 HB10 hs10 ⊢
                        go_wp2_with fail
                        go_roundw
                        case rel => exact ⟨k + 1, a + 17 + p, es ++ [ED.mk v1 v2 A7 c7 L3], (.slice A9 (k + 1) c9), by go_num, by go_num, by omega, by omega, by omega, by rw [List.length_append, HES.out]; rfl, by unfold Hid; rw [conE_snoc, show a + 17 + p = a + (17 + p) by omega]; exact HE4.out, hsd9 A7 c7, hRr10, hRb10, HO10.out, HB10.out, by omega⟩
                        case measure => simp [intOf]; omega
                    · go_simp
                      refine hK.out _ _ hSE ?_
                      clear hK K
                      refine plan_make_of rfl (by rfl) (fun K hK => ?_)
                      go_simp
                      refine (HCd1.out _ (below_new (Below.refl _ _) _)).mono ?_; rintro e₁ w4 ⟨rfl, h4⟩; replace h4 := h4.symm; subst h4
                      refine hK.out _ _ hSE ?_
                      clear hK K
                      refine plan_make_of rfl (by rfl) (fun K hK => ?_)
                      go_simp
                      refine (HCd2.out _ (below_new (Below.refl _ _) _)).mono ?_; rintro e₁ w4 ⟨rfl, h4⟩; replace h4 := h4.symm; subst h4
                      refine hK.out _ _ hSE ?_
                      clear hK K
                      refine plan_make_of rfl (by rfl) (fun K hK => ?_)
                      refine wp_append_apart _ (.tmp 84) (.tmp 92) 27 (by rfl) wd.heap.size 5 i0 (.int .u8 0) 1 Tryz.underlying27 hi hz0 hz1 hz2 rfl _ 0 _ (by rfl) hownE A3 L3 (c - (a + 17)) (by rw [HN3.out]; rfl) hr3E vB_one (by rw [HN3.out]; unfold maxLen; omega) (by rw [HN3.out]; omega) (by simp) ?_
                      intro v7 w7 hown7 hgrow7 hat7
                      have hb7 : Below wd.heap.size wd w7 := (below_new (Below.refl wd.heap.size wd) (.cells #[] 5)).grown hgrow7 (by simp) (fun j hj => (hownE.lt j hj).1)
                      rw [Nat.zero_add, List.nil_append] at hown7
                      obtain ⟨A7, c7, rfl, hc7, hr7⟩ := own_slice hown7
                      have hn7 : L3 ≠ [] → ∀ a, A7 = some a → wd.heap.size ≤ a.block := fun _ a' ha' => by subst ha'; exact (hown7.lt _ rfl).1
                      simp only [List.getElem_toArray, List.getElem_cons_zero, List.getElem_cons_succ, Act.put, List.setIfInBounds_toArray, List.set_cons_zero, List.set_cons_succ]
                      refine hK.out _ _ ⟨(hb7.cell (p := ⟨Bx, 1, none⟩) hBxd).trans hSd, trivial⟩ ?_
                      clear hK K hown7 hgrow7 hat7
                      iterate 1 (refine plan_read rfl (by rfl) (v := ?_) ?_ ?_; rotate_left 1; (intro W hW; (try dsimp only at hW); obtain ⟨hW0, hW1⟩ := hW; go_simp <;> with_reducible rfl); simp only [List.getElem_toArray, List.getElem_cons_zero, List.getElem_cons_succ, Act.put, List.setIfInBounds_toArray, List.set_cons_zero, List.set_cons_succ])
                      have hb8 : Below wd.heap.size wd (w7.alloc (.cells #[.int .u64 (v1 : Int), .int .u64 (v2 : Int), .slice A7 L3.length c7] 35)) := below_new hb7 _
                      (refine plan_make_of rfl (by rfl) (fun K hK => ?_); go_simp; refine hK.out _ _ ⟨(hb8.cell (p := ⟨Bx, 1, none⟩) hBxd).trans hSd, trivial⟩ ?_; clear hK K)
                      have hown8 := ownsRowE_later hownk hb8
                      have hnews := (Row.new w7 35 (ED.mk v1 v2 A7 c7 L3).cells #[.int .u64 (v1 : Int), .int .u64 (v2 : Int), .slice A7 L3.length c7] rfl).newsD
                      have hs8 := hb8.size
                      refine plan_make_of rfl (by rfl) (fun K hK => ?_)
                      refine wp_append_own3 _ (.tmp 70) (.tmp 95) 23 (by rfl) W1.heap.size 35 j0 (.agg #[.int .u64 0, .int .u64 0, .slice none 0 0]) 3 40 Tryz.underlying23 hj gz0 gz1 gz2 rfl (by decide) (.slice eA k ec) k (cellsE es) (by rfl) hown8 ⟨w7.heap.size, 0, none⟩ 1 1 (ED.mk v1 v2 A7 c7 L3).cells (by rfl) (by rfl) hnews (ED.one _) (by unfold maxLen; omega) (by omega) (by omega) ?_
                      intro v9 w9 hown9 hgrow9 hat9
                      obtain ⟨A9, c9, rfl, hc9q⟩ := own_formE hown9
                      have hO9 : OwnE W1.heap.size 35 (es ++ [ED.mk v1 v2 A7 c7 L3]) (.slice A9 (k + 1) c9) w9 := hownD.more hb7 ⟨hc7, hr7⟩ hn7 hszr (below_new (Below.refl _ _) _) (by rw [HES.out]; exact hown9) hgrow9 hat9
                      have hbd9 : Below W1.heap.size wd w9 := (hb8.mono hszr).grown hgrow9 (by omega) (fun j hj => (hown8.lt j hj).1)
                      have hRr9 := (hRrD.later hb8).grown hgrow9 (fun e => by have := (hown8.lt _ e).1; omega)
                      have hRb9 := (hRbD.later hb8).grown hgrow9 (fun e => by have := (hown8.lt _ e).1; omega)
                      have HB9 := Lib.hid (HBD.out.trans (hbd9.mono hsz))
                      have hs9 := hbd9.size
                      simp only [List.getElem_toArray, List.getElem_cons_zero, List.getElem_cons_succ, Act.put, List.setIfInBounds_toArray, List.set_cons_zero, List.set_cons_succ]
                      refine hK.out _ _ ⟨hRb9.cell rfl, trivial⟩ ?_
                      clear hK K hown9 hgrow9 hat9 hbd9 hown8 hb8 hb7 hnews
                      iterate 1 (refine plan_read rfl (by rfl) (v := ?_) ?_ ?_; rotate_left 1; (intro W hW; (try dsimp only at hW); obtain ⟨hW0, hW1⟩ := hW; go_simp <;> with_reducible rfl); simp only [List.getElem_toArray, List.getElem_cons_zero, List.getElem_cons_succ, Act.put, List.setIfInBounds_toArray, List.set_cons_zero, List.set_cons_succ])
                      have hc9 : w9.cell? ⟨Bx, 1, none⟩ = some (.slice eA k ec) := hRb9.cell rfl
                      have hf9 : w9.frozen? ⟨Bx, 1, none⟩ = false := hRb9.frozen 1
                      refine planLast_done rfl (by rfl) ?_
                      go_simp
                      have HO10 := Lib.hid (hO9.same (w' := w9.setCell ⟨Bx, 1, none⟩ (.slice A9 (k + 1) c9)) (fun j h1 _ => Below.heap_setCell w9 ⟨Bx, 1, none⟩ (.slice A9 (k + 1) c9) j (by show j ≠ Bx; omega)))
                      have hRr10 := hRr9.setCell_other (p := ⟨Bx, 1, none⟩) (by show w.heap.size ≠ Bx; omega) (.slice A9 (k + 1) c9)
                      have hRb10 : Row (w9.setCell ⟨Bx, 1, none⟩ (.slice A9 (k + 1) c9)) Bx 26 [.int .u64 (v : Int), (.slice A9 (k + 1) c9), .slice none 0 0] := hRb9.setCell 1 (.slice A9 (k + 1) c9)
                      have HB10 := Lib.hid (HB9.out.setCell (p := ⟨Bx, 1, none⟩) (by show w.heap.size ≤ Bx; omega) (.slice A9 (k + 1) c9))
                      have hs10 : (w9.setCell ⟨Bx, 1, none⟩ (.slice A9 (k + 1) c9)).heap.size = w9.heap.size := by simp [World.setCell]
                      clear hO9 hRr9 hRb9 hc9 hf9 HB9
                      generalize w9.setCell ⟨Bx, 1, none⟩ (.slice A9 (k + 1) c9) = w10 at HO10 hRr10 hRb10 HB10 hs10 ⊢
                      go_wp2_with fail
                      go_roundw
                      case rel => exact ⟨k + 1, a + 17 + p, es ++ [ED.mk v1 v2 A7 c7 L3], (.slice A9 (k + 1) c9), by go_num, by go_num, by omega, by omega, by omega, by rw [List.length_append, HES.out]; rfl, by unfold Hid; rw [conE_snoc, show a + 17 + p = a + (17 + p) by omega]; exact HE4.out, hsd9 A7 c7, hRr10, hRb10, HO10.out, HB10.out, by omega⟩
                      case measure => simp [intOf]; omega
            · have hkq : k = q := by omega
              subst hkq
              have hE2 : E = (conE es, b.drop a, 0) := by rw [← HE.out, hpre.out, Nat.sub_self, readEs_none]
              subst hE2
              dsimp only at HP
              obtain ⟨Gs, gn, ge, hG⟩ : ∃ Gs gn ge, readG (b.drop a) = (Gs, gn, ge) := ⟨_, _, _, rfl⟩
              rw [hG] at HP
              dsimp only at HP
              have hdl : (b.drop a).length = n - a := by rw [List.length_drop, hlen]
              have hrd := (hr.keep hbel).drop a c (by omega)
              have hct : ∀ W, (Instr.slice 27 (.slice (some ⟨blk, o, none⟩) n c) (some (.int .i64 (a : Int))) none none).run Tryz.prog W = .ok (.slice (if c = a then (some ⟨blk, o, none⟩ : Option Addr) else (some ⟨blk, o, none⟩ : Option Addr).map (·.add (a * 1))) (n - a) (c - a)) W := fun W => by
                have he : Tryz.prog.elem 27 = 5 := by simp [Program.elem, Tryz.underlying27]
                rw [run_slice_l W 27 _ n c (by rw [he]; exact Tryz.underlying27) .i64 (a : Int) (by omega) (by omega), he, size_uint8]
                simp only [Result.andThen, sliced, Int.toNat_natCast]
              have HCR := Lib.hid (refread15_any (b.drop a) (n - a) (c - a) _ wr hdl hrd (by omega) (by omega))
              rw [hG] at HCR
              dsimp only at HCR
              generalize (if c = a then (some ⟨blk, o, none⟩ : Option Addr) else (some ⟨blk, o, none⟩ : Option Addr).map (·.add (a * 1))) = A2 at hct HCR
              have j1 : ¬ (k : Int) < (k : Int) := by omega
              have c9w := H9q.out wr hbel
              have HBL := Lib.hid hbel
              clear hbel hrd hpre HE
              go_wp2_with fail
              refine HCR.out.mono ?_
              rintro e₁ w5 ⟨v5, rfl, hown5, hb5⟩
              obtain ⟨A5, c5, rfl, hc5⟩ := own_formG hown5
              replace hRr := hRr.later hb5
              replace hRb := hRb.later hb5
              replace hown := hown.later hb5
              have HB5 := Lib.hid (below_step HBL.out hb5)
              have hsz5 := hb5.size
              clear hb5 HBL hct HCR c9w c9 H9q hdl hr hcell
              simp only [ne_eq, not_true_eq_false, if_false] at HP
              by_cases hge : ge = 0
              · subst hge
                simp only [not_true_eq_false, if_false] at HP
                obtain ⟨g1, g2, g3, g4, g5⟩ := readG_good hG
                have hgl := (right_parts.1 g1).2
                rw [List.length_drop, hlen] at g3
                rw [List.length_drop, hlen, show n - (n - a) + gn = a + gn by omega] at HP
                obtain ⟨eA, ec, hu, hec, hre⟩ := hown.slice
                rw [hes] at hu hec
                subst hu
                have HES := Lib.hid hes
                have HSD := Lib.hid hsd
                clear hes hsd g1 g2 g4 g5 hG hre
                have c2 : w5.cell? ⟨Bx, 2, none⟩ = some (.slice none 0 0) := hRb.cell rfl
                have f2 : w5.frozen? ⟨Bx, 2, none⟩ = false := hRb.frozen 2
                go_upto_region 27 with fail
                have hRb6 : Row (w5.setCell ⟨Bx, 2, none⟩ (.slice A5 Gs.length c5)) Bx 26 [.int .u64 (v : Int), .slice eA k ec, .slice A5 Gs.length c5] := hRb.setCell 2 _
                have hRr6 := hRr.setCell_other (p := ⟨Bx, 2, none⟩) (by show w.heap.size ≠ Bx; omega) (.slice A5 Gs.length c5)
                have hs65 : (w5.setCell ⟨Bx, 2, none⟩ (.slice A5 Gs.length c5)).heap.size = w5.heap.size := by simp [World.setCell]
                have hother : ∀ j, j ≠ Bx → (w5.setCell ⟨Bx, 2, none⟩ (.slice A5 Gs.length c5)).heap[j]? = w5.heap[j]? := fun j hj => Below.heap_setCell w5 ⟨Bx, 2, none⟩ _ j hj
                have hown6 := hown.same (fun j h1 _ => hother j (by omega))
                have hgs6 := ownsRowG_same hown5 (fun j h1 _ => hother j (by omega))
                have HB6 := Lib.hid (HB5.out.setCell (p := ⟨Bx, 2, none⟩) (by show w.heap.size ≤ Bx; omega) (.slice A5 Gs.length c5))
                clear hown hown5 hRb hRr hother c2 f2 HB5
                generalize w5.setCell ⟨Bx, 2, none⟩ (.slice A5 Gs.length c5) = w6 at hRb6 hRr6 hown6 hgs6 HB6 hs65 ⊢
                have HRT := Lib.hid (refrightB_any v es Gs k ec Gs.length c5 eA A5 w6 HES.out (Lib.hid rfl) (hown6.rd HES.out) (RdG.own hgs6) (by omega) (by omega) (fun x hx => by have := HSD.out x hx; omega))
                unfold aggB at HRT
                obtain ⟨R, hR⟩ : ∃ R, rightB (conE es) Gs = R := ⟨_, rfl⟩
                rw [hR] at HRT HP
                have HGC := Lib.hid hc5
                have HEC := Lib.hid hec
                clear hR hc5 hec
                have hsz6 := HB6.out.size
                have hB61 : W1.heap.size ≤ w6.heap.size := by omega
                cases R with
                | false =>
                  have HPP : Hid (P = badB 3) := HP.out
                  go_wp2_with (refine wpList_load_part rfl 26 (.tmp 5) rfl Bx 0 rfl _ _ hRb6 [.int .u64 (v : Int), .slice eA k ec, .slice A5 Gs.length c5] (by rfl) _ Tryz.underlying26 rfl (by exact size_bundle) ?_)
                  refine HRT.out.mono ?_
                  rintro e₁ w7 ⟨rfl, hb7⟩
                  replace hRr6 := hRr6.later hb7
                  have HB7 := Lib.hid (below_step HB6.out hb7)
                  clear hb7 HRT
                  go_wp2_with (refine wpList_store_row rfl 26 (.tmp 2) (.tmp 119) rfl w.heap.size rfl zeroB rfl _ _ hRr6 (by exact size_bundle) rfl (one_three _ _ _ rfl rfl rfl) ?_)
                  refine bodyPost_ret (results_row_two (p := 2) (u := 3) (v := 4) (ty := 26) (by rfl) _ _ w.heap.size 26 _ _ (by rfl) (by exact hRr6.setRow _) Tryz.underlying26 (by rfl) (by exact size_bundle)) (by rfl) ?_
                  exact retbr_bad HPP (below_setRow HB7.out (Nat.le_refl _) _)
                | true =>
                  have HPP : Hid (P = (v, conE es, Gs, a + gn, 0)) := HP.out
                  have wan : IntKind.i64.wrap ((a : Int) + (gn : Int)) = (a : Int) + (gn : Int) := by rw [IntKind.wrap_i64]; omega
                  go_wp2_with (refine wpList_load_part rfl 26 (.tmp 5) rfl Bx 0 rfl _ _ hRb6 [.int .u64 (v : Int), .slice eA k ec, .slice A5 Gs.length c5] (by rfl) _ Tryz.underlying26 rfl (by exact size_bundle) ?_)
                  refine HRT.out.mono ?_
                  rintro e₁ w7 ⟨rfl, hb7⟩
                  have hRr7 := hRr6.later hb7
                  have hRb7 := hRb6.later hb7
                  have hown7 := hown6.later hb7
                  have hgs7 := ownsRowG_later hgs6 hb7
                  have HB7 := Lib.hid (below_step HB6.out hb7)
                  clear hb7 HRT hRr6 hRb6 hown6 hgs6
                  go_wp2_with (first
                    | (refine wpList_load_part rfl 26 (.tmp 5) rfl Bx 0 rfl _ _ hRb7 [.int .u64 (v : Int), .slice eA k ec, .slice A5 Gs.length c5] (by rfl) _ Tryz.underlying26 rfl (by exact size_bundle) ?_)
                    | (refine wpList_store_row rfl 26 (.tmp 2) (.tmp 120) rfl w.heap.size rfl [.int .u64 (v : Int), .slice eA k ec, .slice A5 Gs.length c5] rfl _ _ hRr7 (by exact size_bundle) rfl (one_three _ _ _ rfl rfl rfl) ?_))
                  refine bodyPost_ret (results_row_two (p := 2) (u := 3) (v := 4) (ty := 26) (by rfl) _ _ w.heap.size 26 _ _ (by rfl) (by exact hRr7.setRow _) Tryz.underlying26 (by rfl) (by exact size_bundle)) (by rfl) ?_
                  have hother : ∀ j, j ≠ w.heap.size → (w7.setRow w.heap.size [.int .u64 (v : Int), .slice eA k ec, .slice A5 Gs.length c5].toArray).heap[j]? = w7.heap[j]? := fun j hj => Go.setRow_other w7 w.heap.size j _ hj
                  have hown8 := hown7.same (fun j h1 _ => hother j (by omega))
                  have hgs8 := ownsRowG_same hgs7 (fun j h1 _ => hother j (by omega))
                  refine ⟨eA, es, k, ec, A5, Gs.length, c5, ?_, by rw [HPP.out]; exact Lib.hid rfl, HES.out, by rw [HPP.out]; exact Lib.hid rfl, HEC.out, HGC.out, hown8.rd HES.out, hown8.2.1, by rw [HPP.out]; exact RdG.own hgs8, below_setRow HB7.out (Nat.le_refl _) _⟩
                  rw [HPP.out]
                  dsimp only
                  rw [Int.natCast_add]
                  rfl
              · rw [if_pos hge] at HP
                have zge : (ge == 0) = false := beq_eq_false_iff_ne.2 hge
                go_wp2_with (refine wpList_store_row rfl 26 (.tmp 2) (.tmp 112) rfl w.heap.size rfl zeroB rfl _ _ hRr (by exact size_bundle) rfl (one_three _ _ _ rfl rfl rfl) ?_)
                refine bodyPost_ret (results_row_two (p := 2) (u := 3) (v := 4) (ty := 26) (by rfl) _ _ w.heap.size 26 _ _ (by rfl) (by exact hRr.setRow _) Tryz.underlying26 (by rfl) (by exact size_bundle)) (by rfl) ?_
                exact retbr_bad HP (below_setRow HB5.out (Nat.le_refl _) _)
    · have HP : Hid (P = badB 3) := hP.trans (bun_mark b (by omega) h66)
      have hm : (b.getD 0 0).toNat ≠ 66 := fun h => h66 (UInt8.toNat_inj.1 h)
      generalize (b.getD 0 0).toNat = m0 at hcA hm
      clear hP hcell hc0 hg0 h66
      have z2 : ((m0 : Int) == 66) = false := beq_eq_false_iff_ne.2 (by omega)
      go_wp2_with (refine wpList_store_row rfl 26 (.tmp 2) (.tmp 20) rfl w.heap.size rfl zeroB rfl _ _ hR0 (by exact size_bundle) rfl (one_three _ _ _ rfl rfl rfl) ?_)
      refine bodyPost_ret (results_row_two (p := 2) (u := 3) (v := 4) (ty := 26) (by rfl) _ _ w.heap.size 26 _ _ (by rfl) (by exact hR0.setRow _) Tryz.underlying26 (by rfl) (by exact size_bundle)) (by rfl) ?_
      exact retbr_bad HP (below_setRow hB0 (Nat.le_refl _) _)
end Go.Proofs.YtknjpmoimjhddaaGreatDoor
