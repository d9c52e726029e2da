/-
  What the program's Right of layer 16 answers (landed code). No conditions but those typed.
-/
import Derived.Test.YteppocjgodmpdaaGreatDoorQO6
import Derived.Maps.AppendAt
set_option linter.unusedSimpArgs false
set_option linter.unusedVariables false
set_option maxRecDepth 100000
namespace Go.Proofs.YteppocjgodmpdaaGreatDoor
open Go.RowKit
theorem inW_below (lo hi : Nat) (n : Int) (g1 g2 : Nat) (w : World) (c1 : w.cell? ⟨g1, 0, none⟩ = some (.int .i64 (lo : Int))) (c2 : w.cell? ⟨g2, 0, none⟩ = some (.int .i64 (hi : Int))) :
    Calls Tryz.prog 233 #[.int .i64 n, .pointer (some ⟨g1, 0, none⟩), .pointer (some ⟨g2, 0, none⟩)] w fun e w' => e = .returned (.bool (decide ((lo : Int) ≤ n ∧ n ≤ (hi : Int)))) ∧ Below w.heap.size w w' :=
  (inW_any lo hi n g1 g2 w c1 c2).mono fun e w' h => ⟨h.1, h.2 ▸ Below.refl _ _⟩
set_option maxHeartbeats 4000000 in
theorem rightB_any (v : Nat) (es : List ED) (gs : List Gn) (n ec m gc : Nat) (eA gA : Option Addr) (w : World) (HN : Hid (es.length = n)) (HM : Hid (gs.length = m)) (hre : RdE w eA es) (hrg : RdG w gA gs) (HF : Hid (fitG gs)) (hn : n ≤ 1000000000) (hm : m ≤ 1000000000) (hml : ∀ x ∈ es, x.s.length ≤ 9223372036854775807) :
    Calls Tryz.prog 49 #[aggB v eA n ec gA m gc] w fun e w' => e = .returned (.bool (rightB (conE es) gs)) ∧ Below w.heap.size w w' := by
  obtain ⟨hR, hB⟩ := box_three w 32 (.int .u64 (v : Int)) (.slice eA n ec) (.slice gA m gc)
  obtain ⟨P, hP⟩ : ∃ P, rightB (conE es) gs = P := ⟨_, rfl⟩
  rw [hP]
  unfold rightB at hP
  rw [conE_length, HN.out] at hP
  have HML := Lib.hid hml
  obtain ⟨G, hG⟩ : ∃ G, rightG gs = G := ⟨_, rfl⟩
  rw [hG] at hP
  have HP := Lib.hid hP
  have HRR := Lib.hid (fun W hW => right15_any gs m gc gA W HM (hrg.keep hW) HF hm)
  rw [hG] at HRR
  clear hP hml hG
  unfold aggB
  go_enter Tryz.func49, Tryz.ntmps49
  go_upto_region 1 with fail
  generalize (w.alloc (.cells #[.int .u64 (v : Int), .slice eA n ec, .slice gA m gc] 32)) = w1 at hR hB ⊢
  go_wp2_with fail
  refine (counts_any w1).mono ?_
  rintro e w2 ⟨vE, vS, rfl, hWE, hWS, hb⟩
  replace hR := hR.later hb
  replace hB := below_step hB hb
  clear hb
  go_upto_region 2 with fail
  have c1 : w2.cell? ⟨w.heap.size, 1, none⟩ = some (.slice eA n ec) := hR.cell rfl
  have c2 : w2.cell? ⟨w.heap.size, 2, none⟩ = some (.slice gA m gc) := hR.cell rfl
  obtain ⟨g1, g2, rfl, d1, d2, l1, l2⟩ := hWE
  have hin := inW_any 0 64 (n : Int) g1 g2 w2 d1 d2
  by_cases h64 : n ≤ 64
  · have hd : Hid (decide (((0 : Nat) : Int) ≤ (n : Int) ∧ (n : Int) ≤ ((64 : Nat) : Int)) = true) := decide_eq_true (by omega)
    rw [hd.out] at hin
    go_wp2_with fail
    refine hin.mono ?_
    rintro e w3 ⟨rfl, rfl⟩
    go_wp2_with fail
    refine (HRR.out _ hB).mono ?_
    rintro e w4 ⟨rfl, hb⟩
    have HB2 := Lib.hid (below_step hB hb)
    have hR2 := hR.later hb
    have hre2 := hre.keep HB2.out
    cases G with
    | false =>
      have HPF : Hid (P = false) := by unfold Hid; rw [← HP.out]; simp
      clear c1 c2 hb hR2 hre2
      go_wp2_with fail
      go_ret
      exact ⟨by rw [HPF.out]; rfl, HB2.out⟩
    | true =>
      have HPO : Hid (P = okE (conE es)) := by unfold Hid; rw [← HP.out, decide_eq_true h64, Bool.true_and, Bool.true_and]
      have hWS2 := hWS.below hb (Nat.le_refl _)
      clear c1 c2 d1 d2 hb hB hR hre hrg hWS hin
      have k1 : w4.cell? ⟨w.heap.size, 1, none⟩ = some (.slice eA n ec) := hR2.cell rfl
      go_upto_region 5 with fail
      obtain ⟨q1, q2, rfl, d1, d2, l1, l2⟩ := hWS2
      have hl1 : q1 < w4.heap.size := World.block_lt_of_cell? w4 _ d1
      have hl2 : q2 < w4.heap.size := World.block_lt_of_cell? w4 _ d2
      clear k1
      go_loopw [5, 6, 26] (fun _ _ i wr => (∃ k : Nat, i = .int .i64 (k : Int) ∧ k ≤ n ∧ ∀ j (h : j < es.length), j < k → seedOK es[j].con ∧ (0 < j → (es[j - 1]'(by omega)).t < es[j].t)) ∧ Below w4.heap.size w4 wr) (fun _ _ i _ => n - (intOf i).toNat)
      case atStart => exact ⟨⟨0, rfl, by omega, fun j _ hj => by omega⟩, Below.refl _ _⟩
      case round =>
        obtain ⟨⟨k, rfl, hk, hs⟩, hBr⟩ := hrel
        have hRr := hR2.later hBr
        have HB3 := Lib.hid (below_step HB2.out hBr)
        by_cases hlt : k < n
        · have hkl : k < es.length := by rw [HN.out]; exact hlt
          obtain ⟨b, o, rfl, hb, hrng, p0, _, _⟩ := hre2.one hkl
          have hrngW : wr.rangeAt b (o + k * 3) es[k].cells := fun j u hu => (hBr.cell (p := ⟨b, o + k * 3 + j, none⟩) hb).trans (hrng j u hu)
          have HS : Hid (seedOK es[k].con ∧ (0 < k → (es[k - 1]'(by omega)).t < es[k].t) → ∀ j (h : j < es.length), j < k + 1 → seedOK es[j].con ∧ (0 < j → (es[j - 1]'(by omega)).t < es[j].t)) := fun h j hj hjk => by
            by_cases e : j = k
            · subst e; exact h
            · exact hs j hj (by omega)
          have HE : Hid (¬ (seedOK es[k].con ∧ (0 < k → (es[k - 1]'(by omega)).t < es[k].t)) → okE (conE es) = false) := fun h => by
            rw [Bool.eq_false_iff]
            intro hok
            have h1 := (okE_at _).1 hok k (by rw [conE_length]; exact hkl)
            rw [conE_get es k hkl] at h1
            refine h ⟨h1.1, fun h0 => ?_⟩
            have h2 := h1.2 h0
            rw [conE_get es (k - 1) (by omega)] at h2
            exact h2
          have hxl := HML.out _ (List.getElem_mem hkl)
          have i0 : (0 : Int) ≤ (k : Int) := by omega
          have i1 : (k : Int) < (n : Int) := by omega
          have hlr := hBr.size
          have hRn : Row (wr.alloc (.cells #[.int .u64 0, .int .u64 0, .slice none 0 0] 106)) wr.heap.size 106 [.int .u64 0, .int .u64 0, .slice none 0 0] := Row.new wr _ _ _ rfl
          have hRe := hRn.setRow es[k].cells
          have hb6 : Below wr.heap.size wr ((wr.alloc (.cells #[.int .u64 0, .int .u64 0, .slice none 0 0] 106)).setRow wr.heap.size es[k].cells.toArray) := below_setRow (below_new (Below.refl _ _) _) (Nat.le_refl _) _
          have hC3 : es[k].cells = [.int .u64 (es[k].t : Int), .int .u64 (es[k].e : Int), .slice es[k].A es[k].s.length es[k].c] := rfl
          have HSK : Hid (seedOK es[k].con ↔ 1 ≤ es[k].s.length ∧ es[k].s.length ≤ 32) := Iff.rfl
          rw [hC3] at hrngW hRe hb6
          clear hC3 p0 hrng
          obtain ⟨a, ha⟩ : ∃ a, Hid (a = k - 1) := ⟨_, Lib.hid rfl⟩
          have hka : a < es.length := by have := ha.out; omega
          have H0 : Hid (0 < k → wr.cell? ⟨b, o + a * 3, none⟩ = some (.int .u64 (es[a].t : Int)) ∧ (es[a].t < es[k].t → (0 < k → (es[k - 1]'(by omega)).t < es[k].t)) ∧ (¬ es[a].t < es[k].t → ¬ (0 < k → (es[k - 1]'(by omega)).t < es[k].t))) := fun h0 => by
            obtain ⟨b', o', e', hb', _, q0, _, _⟩ := hre2.one hka
            injection e' with e'
            injection e' with e1 e2 _
            subst e1 e2
            refine ⟨(hBr.cell (p := ⟨b, o + a * 3, none⟩) hb).trans q0, fun h _ => by have e := ha.out; subst e; exact h, fun h h2 => h (by have e := ha.out; subst e; exact h2 h0)⟩
          generalize es[k].s.length = q at *
          generalize es[k].t = tk at *
          generalize es[a].t = ta at *
          generalize es[k].e = te at *
          generalize es[k].A = tA at *
          generalize es[k].c = tc at *
          go_upto_region 7 with (first
            | (refine wpList_load_mid rfl 106 (.tmp 29) rfl b (o + k * 3) rfl [.int .u64 (tk : Int), .int .u64 (te : Int), .slice tA q tc] _ hrngW Tryz.underlying106 rfl (by exact size_entry) ?_)
            | (refine wpList_store_row rfl 106 (.tmp 6) (.tmp 30) rfl wr.heap.size rfl [.int .u64 (tk : Int), .int .u64 (te : Int), .slice tA q tc] rfl _ _ hRn (by exact size_entry) rfl (one_three _ _ _ rfl rfl rfl) ?_))
          have hRr6 := hRr.later hb6
          have HB6 := Lib.hid (hBr.trans (hb6.mono hlr))
          have HB7 := Lib.hid (below_step HB2.out HB6.out)
          have hcA : ∀ p, p.block < wr.heap.size → ((wr.alloc (.cells #[.int .u64 0, .int .u64 0, .slice none 0 0] 106)).setRow wr.heap.size [.int .u64 (tk : Int), .int .u64 (te : Int), .slice tA q tc].toArray).cell? p = wr.cell? p := fun p hp => hb6.cell hp
          generalize (wr.alloc (.cells #[.int .u64 0, .int .u64 0, .slice none 0 0] 106)).setRow wr.heap.size [.int .u64 (tk : Int), .int .u64 (te : Int), .slice tA q tc].toArray = w6 at hRe hRr6 HB6 HB7 hcA ⊢
          have hbw : b < wr.heap.size := by omega
          have hl1w : q1 < wr.heap.size := by omega
          have hl2w : q2 < wr.heap.size := by omega
          have hs6 := HB6.out.size
          have e0 : ∀ W, Below w6.heap.size w6 W → W.cell? ⟨wr.heap.size, 0, none⟩ = some (.int .u64 (tk : Int)) := fun W hW => (hRe.later hW).cell rfl
          have e2 : ∀ W, Below w6.heap.size w6 W → W.cell? ⟨wr.heap.size, 2, none⟩ = some (.slice tA q tc) := fun W hW => (hRe.later hW).cell rfl
          have c1 : ∀ W, Below w6.heap.size w6 W → W.cell? ⟨w.heap.size, 1, none⟩ = some (.slice (some ⟨b, o, none⟩) n ec) := fun W hW => (hRr6.later hW).cell rfl
          have hl61 : q1 < w6.heap.size := by omega
          have hl62 : q2 < w6.heap.size := by omega
          have d1w : ∀ W, Below w6.heap.size w6 W → W.cell? ⟨q1, 0, none⟩ = some (.int .i64 ((1 : Nat) : Int)) := fun W hW => ((hW.cell (p := ⟨q1, 0, none⟩) hl61).trans (hcA _ hl1w)).trans ((hBr.cell (p := ⟨q1, 0, none⟩) hl1).trans d1)
          have d2w : ∀ W, Below w6.heap.size w6 W → W.cell? ⟨q2, 0, none⟩ = some (.int .i64 ((32 : Nat) : Int)) := fun W hW => ((hW.cell (p := ⟨q2, 0, none⟩) hl62).trans (hcA _ hl2w)).trans ((hBr.cell (p := ⟨q2, 0, none⟩) hl2).trans d2)
          have f0 : 0 < k → ∀ W, Below w6.heap.size w6 W → W.cell? ⟨b, o + a * 3, none⟩ = some (.int .u64 (ta : Int)) := fun h0 W hW => ((hW.cell (p := ⟨b, o + a * 3, none⟩) (show b < w6.heap.size by omega)).trans (hcA _ hbw)).trans (H0.out h0).1
          clear hs hRe hRr hRr6 hcA hRn hb6 hrngW d1 d2
          have hBase := (Below.refl w6.heap.size w6).drew
          by_cases hq : 1 ≤ q ∧ q ≤ 32
          · have hd : Hid (decide (((1 : Nat) : Int) ≤ (q : Int) ∧ (q : Int) ≤ ((32 : Nat) : Int)) = true) := decide_eq_true (by omega)
            have HSQ := Lib.hid (HSK.out.2 hq)
            clear hq
            by_cases hk0 : 0 < k
            · have f0w := f0 hk0
              obtain ⟨_, h4, h5⟩ := H0.out hk0
              have H4 := Lib.hid h4
              have H5 := Lib.hid h5
              clear f0 H0 h4 h5
              have kk : (0 : Int) < (k : Int) := by omega
              have kd : decide ((0 : Int) < (k : Int)) = true := decide_eq_true kk
              have hw : IntKind.i64.wrap ((k : Int) - 1) = (a : Int) := by have := ha.out; rw [IntKind.wrap_i64]; omega
              have a0 : (0 : Int) ≤ (a : Int) := by omega
              have a1 : (a : Int) < (n : Int) := by have := ha.out; omega
              by_cases hord : ta < tk
              · have hor : ¬ (tk : Int) ≤ (ta : Int) := by omega
                have hon : decide (tk ≤ ta) = false := decide_eq_false (by omega)
                have HS3 := Lib.hid (HS.out ⟨HSQ.out, H4.out hord⟩)
                clear HS HE H4 H5
                refine wp_region_plan (.step 0 false (.step 1 false (.step 2 false (.step 3 false (.step 4 true (.step 5 false (.step 6 false (.step 7 false (.step 8 false (.step 9 false (.step 10 false (.step 11 false (.step 12 false (.step 13 false (.step 14 false (.step 15 false (.step 16 false (.step 17 false (.step 18 false (.step 19 false (.step 20 false (.step 21 false (.nil))))))))))))))))))))))) (by kernel_rfl) (by kernel_rfl) (by rfl) (by kernel_rfl) ?_
                iterate 4 (refine plan_read rfl (by rfl) (v := ?_) ?_ ?_; rotate_left 1; (intro W hW; have hW0 := below_step hBase hW; (try dsimp only at hW); go_simp <;> with_reducible rfl); simp only [List.getElem_toArray, List.getElem_cons_zero, List.getElem_cons_succ, Act.put, List.setIfInBounds_toArray, List.set_cons_zero, List.set_cons_succ])
                (refine plan_make rfl (by rfl) (fun K hK => ?_); go_simp; (refine (inW_below 1 32 (q : Int) q1 q2 _ (d1w _ hBase) (d2w _ hBase)).mono ?_; rw [hd.out]; rintro e' w7 ⟨rfl, hbx⟩); refine hK.out _ _ hbx ?_; clear hK K; replace hBase := below_step hBase hbx)
                iterate 2 (refine plan_read rfl (by rfl) (v := ?_) ?_ ?_; rotate_left 1; (intro W hW; have hW0 := below_step hBase hW; (try dsimp only at hW); go_simp <;> with_reducible rfl); simp only [List.getElem_toArray, List.getElem_cons_zero, List.getElem_cons_succ, Act.put, List.setIfInBounds_toArray, List.set_cons_zero, List.set_cons_succ])
                iterate 3 (refine plan_read rfl (by rfl) (v := ?_) ?_ ?_; rotate_left 1; (intro W hW; have hW0 := below_step hBase hW; (try dsimp only at hW); go_simp <;> with_reducible rfl); simp only [List.getElem_toArray, List.getElem_cons_zero, List.getElem_cons_succ, Act.put, List.setIfInBounds_toArray, List.set_cons_zero, List.set_cons_succ])
                iterate 10 (refine plan_read rfl (by rfl) (v := ?_) ?_ ?_; rotate_left 1; (intro W hW; have hW0 := below_step hBase hW; (try dsimp only at hW); go_simp <;> with_reducible rfl); simp only [List.getElem_toArray, List.getElem_cons_zero, List.getElem_cons_succ, Act.put, List.setIfInBounds_toArray, List.set_cons_zero, List.set_cons_succ])
                iterate 2 (refine plan_read rfl (by rfl) (v := ?_) ?_ ?_; rotate_left 1; (intro W hW; have hW0 := below_step hBase hW; (try dsimp only at hW); go_simp <;> with_reducible rfl); simp only [List.getElem_toArray, List.getElem_cons_zero, List.getElem_cons_succ, Act.put, List.setIfInBounds_toArray, List.set_cons_zero, List.set_cons_succ])
                refine plan_done ?_
                have HB8 := Lib.hid (HB6.out.trans (hBase.mono hs6))
                clear e0 e2 c1 d1w d2w f0w
                go_wp2_with fail
                go_roundw
                case rel => exact ⟨⟨k + 1, by go_num, by omega, HS3.out⟩, HB8.out⟩
                case measure => simp [intOf]; omega
              · have hor : (tk : Int) ≤ (ta : Int) := by omega
                have hon : decide (tk ≤ ta) = true := decide_eq_true (by omega)
                have HPF : Hid (P = false) := HPO.out.trans (HE.out (fun h => H5.out hord h.2))
                clear HS HE H4 H5
                refine wp_region_plan (.step 0 false (.step 1 false (.step 2 false (.step 3 false (.step 4 true (.step 5 false (.step 6 false (.step 7 false (.step 8 false (.step 9 false (.step 10 false (.step 11 false (.step 12 false (.step 13 false (.step 14 false (.step 15 false (.step 16 false (.step 17 false (.step 18 false (.step 19 false (.step 20 false (.step 21 false (.nil))))))))))))))))))))))) (by kernel_rfl) (by kernel_rfl) (by rfl) (by kernel_rfl) ?_
                iterate 4 (refine plan_read rfl (by rfl) (v := ?_) ?_ ?_; rotate_left 1; (intro W hW; have hW0 := below_step hBase hW; (try dsimp only at hW); go_simp <;> with_reducible rfl); simp only [List.getElem_toArray, List.getElem_cons_zero, List.getElem_cons_succ, Act.put, List.setIfInBounds_toArray, List.set_cons_zero, List.set_cons_succ])
                (refine plan_make rfl (by rfl) (fun K hK => ?_); go_simp; (refine (inW_below 1 32 (q : Int) q1 q2 _ (d1w _ hBase) (d2w _ hBase)).mono ?_; rw [hd.out]; rintro e' w7 ⟨rfl, hbx⟩); refine hK.out _ _ hbx ?_; clear hK K; replace hBase := below_step hBase hbx)
                iterate 2 (refine plan_read rfl (by rfl) (v := ?_) ?_ ?_; rotate_left 1; (intro W hW; have hW0 := below_step hBase hW; (try dsimp only at hW); go_simp <;> with_reducible rfl); simp only [List.getElem_toArray, List.getElem_cons_zero, List.getElem_cons_succ, Act.put, List.setIfInBounds_toArray, List.set_cons_zero, List.set_cons_succ])
                iterate 3 (refine plan_read rfl (by rfl) (v := ?_) ?_ ?_; rotate_left 1; (intro W hW; have hW0 := below_step hBase hW; (try dsimp only at hW); go_simp <;> with_reducible rfl); simp only [List.getElem_toArray, List.getElem_cons_zero, List.getElem_cons_succ, Act.put, List.setIfInBounds_toArray, List.set_cons_zero, List.set_cons_succ])
                iterate 10 (refine plan_read rfl (by rfl) (v := ?_) ?_ ?_; rotate_left 1; (intro W hW; have hW0 := below_step hBase hW; (try dsimp only at hW); go_simp <;> with_reducible rfl); simp only [List.getElem_toArray, List.getElem_cons_zero, List.getElem_cons_succ, Act.put, List.setIfInBounds_toArray, List.set_cons_zero, List.set_cons_succ])
                iterate 2 (refine plan_read rfl (by rfl) (v := ?_) ?_ ?_; rotate_left 1; (intro W hW; have hW0 := below_step hBase hW; (try dsimp only at hW); go_simp <;> with_reducible rfl); simp only [List.getElem_toArray, List.getElem_cons_zero, List.getElem_cons_succ, Act.put, List.setIfInBounds_toArray, List.set_cons_zero, List.set_cons_succ])
                refine plan_done ?_
                have HB8 := Lib.hid (below_step HB7.out hBase)
                clear e0 e2 c1 d1w d2w f0w
                go_wp2_with fail
                go_ret
                exact ⟨by rw [HPF.out]; rfl, HB8.out⟩
            · have kk : ¬ (0 : Int) < (k : Int) := by omega
              have kd : decide ((0 : Int) < (k : Int)) = false := decide_eq_false kk
              have HS3 := Lib.hid (HS.out ⟨HSQ.out, fun h => absurd h hk0⟩)
              clear HS HE H0 f0
              refine wp_region_plan (.step 0 false (.step 1 false (.step 2 false (.step 3 false (.step 4 true (.step 5 false (.step 6 false (.step 7 false (.step 8 false (.step 9 false (.step 10 false (.step 11 false (.step 12 false (.step 13 false (.step 14 false (.step 15 false (.step 16 false (.step 17 false (.step 18 false (.step 19 false (.step 20 false (.step 21 false (.nil))))))))))))))))))))))) (by kernel_rfl) (by kernel_rfl) (by rfl) (by kernel_rfl) ?_
              iterate 4 (refine plan_read rfl (by rfl) (v := ?_) ?_ ?_; rotate_left 1; (intro W hW; have hW0 := below_step hBase hW; (try dsimp only at hW); go_simp <;> with_reducible rfl); simp only [List.getElem_toArray, List.getElem_cons_zero, List.getElem_cons_succ, Act.put, List.setIfInBounds_toArray, List.set_cons_zero, List.set_cons_succ])
              (refine plan_make rfl (by rfl) (fun K hK => ?_); go_simp; (refine (inW_below 1 32 (q : Int) q1 q2 _ (d1w _ hBase) (d2w _ hBase)).mono ?_; rw [hd.out]; rintro e' w7 ⟨rfl, hbx⟩); refine hK.out _ _ hbx ?_; clear hK K; replace hBase := below_step hBase hbx)
              iterate 2 (refine plan_read rfl (by rfl) (v := ?_) ?_ ?_; rotate_left 1; (intro W hW; have hW0 := below_step hBase hW; (try dsimp only at hW); go_simp <;> with_reducible rfl); simp only [List.getElem_toArray, List.getElem_cons_zero, List.getElem_cons_succ, Act.put, List.setIfInBounds_toArray, List.set_cons_zero, List.set_cons_succ])
              iterate 3 (refine plan_read rfl (by rfl) (v := ?_) ?_ ?_; rotate_left 1; (intro W hW; have hW0 := below_step hBase hW; (try dsimp only at hW); go_simp <;> with_reducible rfl); simp only [List.getElem_toArray, List.getElem_cons_zero, List.getElem_cons_succ, Act.put, List.setIfInBounds_toArray, List.set_cons_zero, List.set_cons_succ])
              iterate 10 (refine plan_skip rfl (by rfl) ?_; simp only [List.getElem_toArray, List.getElem_cons_zero, List.getElem_cons_succ, Act.put, List.setIfInBounds_toArray, List.set_cons_zero, List.set_cons_succ])
              iterate 2 (refine plan_read rfl (by rfl) (v := ?_) ?_ ?_; rotate_left 1; (intro W hW; have hW0 := below_step hBase hW; (try dsimp only at hW); go_simp <;> with_reducible rfl); simp only [List.getElem_toArray, List.getElem_cons_zero, List.getElem_cons_succ, Act.put, List.setIfInBounds_toArray, List.set_cons_zero, List.set_cons_succ])
              refine plan_done ?_
              have HB8 := Lib.hid (HB6.out.trans (hBase.mono hs6))
              clear e0 e2 c1 d1w d2w
              go_wp2_with fail
              go_roundw
              case rel => exact ⟨⟨k + 1, by go_num, by omega, HS3.out⟩, HB8.out⟩
              case measure => simp [intOf]; omega
          · have hd : Hid (decide (((1 : Nat) : Int) ≤ (q : Int) ∧ (q : Int) ≤ ((32 : Nat) : Int)) = false) := decide_eq_false (by omega)
            have HPF : Hid (P = false) := HPO.out.trans (HE.out (fun h => hq (HSK.out.1 h.1)))
            clear HS HE H0 f0 hq
            refine wp_region_plan (.step 0 false (.step 1 false (.step 2 false (.step 3 false (.step 4 true (.step 5 false (.step 6 false (.step 7 false (.step 8 false (.step 9 false (.step 10 false (.step 11 false (.step 12 false (.step 13 false (.step 14 false (.step 15 false (.step 16 false (.step 17 false (.step 18 false (.step 19 false (.step 20 false (.step 21 false (.nil))))))))))))))))))))))) (by kernel_rfl) (by kernel_rfl) (by rfl) (by kernel_rfl) ?_
            iterate 4 (refine plan_read rfl (by rfl) (v := ?_) ?_ ?_; rotate_left 1; (intro W hW; have hW0 := below_step hBase hW; (try dsimp only at hW); go_simp <;> with_reducible rfl); simp only [List.getElem_toArray, List.getElem_cons_zero, List.getElem_cons_succ, Act.put, List.setIfInBounds_toArray, List.set_cons_zero, List.set_cons_succ])
            (refine plan_make rfl (by rfl) (fun K hK => ?_); go_simp; (refine (inW_below 1 32 (q : Int) q1 q2 _ (d1w _ hBase) (d2w _ hBase)).mono ?_; rw [hd.out]; rintro e' w7 ⟨rfl, hbx⟩); refine hK.out _ _ hbx ?_; clear hK K; replace hBase := below_step hBase hbx)
            iterate 2 (refine plan_read rfl (by rfl) (v := ?_) ?_ ?_; rotate_left 1; (intro W hW; have hW0 := below_step hBase hW; (try dsimp only at hW); go_simp <;> with_reducible rfl); simp only [List.getElem_toArray, List.getElem_cons_zero, List.getElem_cons_succ, Act.put, List.setIfInBounds_toArray, List.set_cons_zero, List.set_cons_succ])
            iterate 14 (refine plan_skip rfl (by rfl) ?_; simp only [List.getElem_toArray, List.getElem_cons_zero, List.getElem_cons_succ, Act.put, List.setIfInBounds_toArray, List.set_cons_zero, List.set_cons_succ])
            iterate 1 (refine plan_read rfl (by rfl) (v := ?_) ?_ ?_; rotate_left 1; (intro W hW; have hW0 := below_step hBase hW; (try dsimp only at hW); go_simp <;> with_reducible rfl); simp only [List.getElem_toArray, List.getElem_cons_zero, List.getElem_cons_succ, Act.put, List.setIfInBounds_toArray, List.set_cons_zero, List.set_cons_succ])
            refine plan_done ?_
            have HB8 := Lib.hid (below_step HB7.out hBase)
            clear e0 e2 c1 d1w d2w
            go_wp2_with fail
            go_ret
            exact ⟨by rw [HPF.out]; rfl, HB8.out⟩
        · have HPT : Hid (P = true) := HPO.out.trans ((okE_at _).2 (fun j hj => by
            rw [conE_length] at hj
            have h1 := hs j hj (by have := HN.out; omega)
            rw [conE_get es j hj]
            refine ⟨h1.1, fun h0 => ?_⟩
            rw [conE_get es (j - 1) (by omega)]
            exact h1.2 h0))
          have hkn : ¬ (k : Int) < (n : Int) := by omega
          clear hs
          go_wp2_with fail
          go_ret
          exact ⟨by rw [HPT.out]; rfl, HB3.out⟩
  · have hd : Hid (decide (((0 : Nat) : Int) ≤ (n : Int) ∧ (n : Int) ≤ ((64 : Nat) : Int)) = false) := decide_eq_false (by omega)
    have HPF : Hid (P = false) := by unfold Hid; rw [← HP.out, decide_eq_false h64]; rfl
    rw [hd.out] at hin
    go_wp2_with fail
    refine hin.mono ?_
    rintro e w3 ⟨rfl, rfl⟩
    go_wp2_with fail
    go_ret
    exact ⟨by rw [HPF.out]; rfl, hB⟩
end Go.Proofs.YteppocjgodmpdaaGreatDoor
namespace Go.Proofs.YteppocjgodmpdaaGreatDoor
open Go.RowKit
def apartD (row : Option Nat) (xs : List ED) : Prop := ∀ y ∈ xs, y.s ≠ [] → ∀ a, y.A = some a → row ≠ some a.block
def newD (B : Nat) (xs : List ED) : Prop := ∀ y ∈ xs, y.s ≠ [] → ∀ a, y.A = some a → B ≤ a.block
theorem Rd.lt_ofD {α : Type} {f : α → Value} {w : World} {A : Option Addr} {L : List α} (h : Rd f w A L) (hn : L ≠ []) {a : Addr} (ha : A = some a) : a.block < w.heap.size := by
  obtain ⟨b, o, e, hb, _⟩ := h.at (k := 0) (by cases L; exact absurd rfl hn; simp)
  rw [ha] at e
  injection e with e
  rw [e]
  exact hb
theorem Rd.grownD {α : Type} {f : α → Value} {w w' : World} {row : Option Nat} {A : Option Addr} {L : List α} (h : Rd f w A L) (hg : w.grownBy w' row) (hA : L ≠ [] → ∀ a, A = some a → row ≠ some a.block) : Rd f w' A L := by
  by_cases e : L = []
  · subst e
    exact Rd.nil
  · exact h.grown hg (hA e)
def OwnE (B : Nat) (t : TypeId) (xs : List ED) (v : Value) (w : World) : Prop := w.ownsRow B t 3 v xs.length (cellsE xs) ∧ okD w xs ∧ apartD v.ownBlock xs ∧ newD B xs
theorem OwnE.nil (B : Nat) (t : TypeId) (w : World) : OwnE B t [] (.slice none 0 0) w := ⟨World.ownsRow_nil _ _ _ _, okD.nil _, (fun y hy => by cases hy), (fun y hy => by cases hy)⟩
theorem OwnE.later {B : Nat} {t : TypeId} {xs : List ED} {v : Value} {w w' : World} (h : OwnE B t xs v w) (hb : Below w.heap.size w w') : OwnE B t xs v w' := ⟨ownsRowE_later h.1 hb, h.2.1.keep hb, h.2.2⟩
theorem OwnE.same {B : Nat} {t : TypeId} {xs : List ED} {v : Value} {w w' : World} (h : OwnE B t xs v w) (hh : ∀ b, B ≤ b → b < w.heap.size → w'.heap[b]? = w.heap[b]?) : OwnE B t xs v w' := by
  refine ⟨ownsRowE_same h.1 hh, fun y hy => ?_, h.2.2⟩
  obtain ⟨h1, h2⟩ := h.2.1 y hy
  refine ⟨h1, fun hn => ?_⟩
  obtain ⟨b, o, e, hc⟩ := h2 hn
  have hB := h.2.2.2 y hy hn _ e
  refine ⟨b, o, e, fun i hi => ?_⟩
  have hci := hc i hi
  exact (World.cell?_of_block (w := w) (a := ⟨b, o + i, none⟩) (hh b hB (World.block_lt_of_cell? w _ hci))).trans hci
theorem OwnE.more2 {B : Nat} {t : TypeId} {xs : List ED} {y : ED} {v v' : Value} {w w1 w2 w3 : World} (h : OwnE B t xs v w) (h1 : OwnE B t xs v w1) (hy : y.ok w1) (hn : y.s ≠ [] → ∀ a, y.A = some a → w.heap.size ≤ a.block) (hBw : B ≤ w.heap.size) (hb2 : Below w1.heap.size w1 w2) (ho : w3.ownsRow B t 3 v' (xs.length + 1) (cellsE xs ++ y.cells)) (hg : w2.grownBy w3 v.ownBlock) (hv : v'.ownBlock = v.ownBlock ∨ v'.ownBlock = some w2.heap.size) : OwnE B t (xs ++ [y]) v' w3 := by
  have hok2 : okD w2 (xs ++ [y]) := (h1.2.1.keep hb2).app (fun z hz => by simp at hz; subst hz; exact hy.keep hb2)
  have hap : apartD v.ownBlock (xs ++ [y]) := fun z hz => by
    rcases List.mem_append.1 hz with hz | hz
    · exact h.2.2.1 z hz
    · simp at hz
      subst hz
      intro hs a ha e
      have h1 := hn hs a ha
      have h2 := (h.1.lt _ e).2
      omega
  refine ⟨by rw [cellsE_snoc, List.length_append]; exact ho, fun z hz => ?_, ?_, fun z hz => ?_⟩
  · obtain ⟨h1, h2⟩ := hok2 z hz
    exact ⟨h1, h2.grownD hg (hap z hz)⟩
  · rcases hv with hv | hv
    · rw [hv]; exact hap
    · rw [hv]
      intro z hz hs a ha e
      have h1 := (hok2 z hz).2.lt_ofD hs ha
      injection e with e
      omega
  · rcases List.mem_append.1 hz with hz | hz
    · exact h.2.2.2 z hz
    · simp at hz
      subst hz
      intro hs a ha
      exact Nat.le_trans hBw (hn hs a ha)
theorem OwnE.slice {B : Nat} {t : TypeId} {xs : List ED} {v : Value} {w : World} (h : OwnE B t xs v w) : ∃ A cap, v = .slice A xs.length cap ∧ xs.length ≤ cap ∧ RdE w A xs := by
  obtain ⟨A, c, rfl, hc⟩ := own_formE h.1
  exact ⟨A, c, rfl, hc, RdE.own h.1⟩
section
variable {P : Program}
theorem wp_append_own3 (w : World) {o : Oper} {a : Act} {K : Act → World → Prop} {Q : Exit → Act → World → Prop} (s x : Operand) (t : TypeId)
    (ho : o.op = .call { callee := .builtin .append, args := #[s, x], argTypes := #[t, t] })
    (base : Nat) (e : TypeId) (i : TypeInfo) (z : Value) (size bytes : Nat) (ht : P.underlying t = some (.slice e)) (hi : P.info? e = some i) (hz : i.zero = some z)
    (hsize : i.size = size) (hby : i.bytes = bytes) (hzs : z.cells.size = size) (hsp : 0 < size) (v : Value) (n : Nat) (xs : List Value) (hs : a.eval s = v) (hown : w.ownsRow base e size v n xs)
    (ad : Addr) (m c : Nat) (news : List Value) (hx : a.eval x = .slice (some ad) m c) (hl : news.length = m * size) (hnews : ∀ j u, news[j]? = some u → w.cell? (ad.add j) = some u) (h1 : ∀ u ∈ news, u.oneCell' = true)
    (h63 : n + m ≤ maxLen) (hbytes : (n + m) * bytes ≤ 140737488355328) (hbase : base ≤ w.heap.size)
    (h : ∀ v' w', w'.ownsRow base e size v' (n + m) (xs ++ news) → w.grownBy w' v.ownBlock → (v'.ownBlock = v.ownBlock ∨ v'.ownBlock = some w.heap.size) → K (a.put o.dst v') w') : o.wp P a w K Q := by
  obtain ⟨v', w', hr, h2, h3, _, h4⟩ := run_append_own_at (P := P) w base t o.type e i z size bytes ht hi hz hsize hby hzs hsp v n xs hown ad m c news hl hnews h1 h63 hbytes hbase
  unfold Oper.wp execOp
  simp only [ho, resolve, invoke, builtin, Sem.run_bind, Sem.run_pure, Result.andThen_ok, List.map_toArray, List.map_cons, List.map_nil, hs, hx, hr]
  exact h v' w' h2 h3 h4
end
end Go.Proofs.YteppocjgodmpdaaGreatDoor
namespace Go.Proofs.YteppocjgodmpdaaGreatDoor
open Go.RowKit
theorem results_cell_two {fn : Func} {p u v : Tmp} {ty : TypeId} (h : fn.results = #[.cell p ty, .tmp u, .tmp v]) (tmps : Array Value) (P : Program) (w : World) :
    (results fn tmps).run P w = ((asAddr (tmps.getD p undef)).run P w).andThen fun a w₁ => ((loadVar ty a).run P w₁).andThen fun x w₂ => .ok (.tuple #[x, tmps.getD u undef, tmps.getD v undef]) w₂ := by
  simp only [results, h]
  simp [Sem.run_bind, Result.andThen]
theorem results_row_two {P : Program} {fn : Func} {p u v : Tmp} {ty : TypeId} (h : fn.results = #[.cell p ty, .tmp u, .tmp v]) (tmps : Array Value) (w : World) (g : Nat) (t : TypeId) (l : List Value) (d : TypeDesc) (hp : tmps.getD p undef = .pointer (some ⟨g, 0, none⟩)) (hg : Row w g t l)
    (hu : P.underlying ty = some d) (hd : d.isRow = true) (hi : (P.info? ty).map (·.size) = some l.length) : (results fn tmps).run P w = .ok (.tuple #[.agg l.toArray, tmps.getD u undef, tmps.getD v undef]) w := by
  rw [results_cell_two h, hp]
  simp only [asAddr, Sem.run_pure, Result.andThen_ok, hg.loadVar (P := P) ty d hu hd hi]
def zeroB : List Value := [.int .u64 0, .slice none 0 0, .slice none 0 0]
theorem OwnE.rd {B : Nat} {t : TypeId} {xs : List ED} {A : Option Addr} {n c : Nat} {w : World} (h : OwnE B t xs (.slice A n c) w) (hn : xs.length = n) : RdE w A xs := by subst hn; exact RdE.own h.1
theorem Row.newsD {w : World} {g : Nat} {t : TypeId} {l : List Value} (h : Row w g t l) : ∀ j u, l[j]? = some u → w.cell? ((⟨g, 0, none⟩ : Addr).add j) = some u := fun j u hu => by
  have e1 : (⟨g, 0, none⟩ : Addr).add j = ⟨g, 0 + j, none⟩ := by unfold Addr.add; split <;> simp_all
  rw [e1]
  exact h.range j u hu
theorem info_entry : (Tryz.prog.info? 106).map (fun i => (i.zero, i.size, i.bytes)) = some (some (.agg #[.int .u64 0, .int .u64 0, .slice none 0 0]), 3, 40) := by kernel_rfl
end Go.Proofs.YteppocjgodmpdaaGreatDoor
namespace Go.Proofs.YteppocjgodmpdaaGreatDoor
open Go.RowKit
theorem OwnE.only {B g : Nat} {t : TypeId} {xs : List ED} {v : Value} {w w' : World} (h : OwnE B t xs v w) (k : Only g w w') (hg : g < B) : OwnE B t xs v w' := h.same (fun b hb hl => k.other b (by omega) hl)
def BunI (q : Nat) (k2 : Int) (S2 : List UInt8) (v : Nat) (vS : Value) (w : World) (g1 g2 B : Nat) (i : Value) (wr : World) : Prop :=
  ∃ k es u kk S, i = .int .i64 ((k : Nat) : Int) ∧ k ≤ q ∧ (es : List ED).length = k ∧ Hid (entsK q k2 S2 = (conE es ++ (entsK (q - k) kk S).1, (entsK (q - k) kk S).2)) ∧ (∀ x ∈ es, x.s.length ≤ 32) ∧ Row wr w.heap.size 32 zeroB ∧ Row wr g2 32 [.int .u64 (v : Int), u, .slice none 0 0] ∧
    OwnE B 106 es u wr ∧ RdRF g1 kk S wr ∧ IsW g1 1 32 vS wr ∧ Below w.heap.size w wr ∧ B ≤ wr.heap.size
def codeRd (g : Nat) (k : Int) (W : World) : Prop := W.cell? ⟨g, 1, none⟩ = some (.int .i64 k) ∧ True
def endRd (g1 g2 : Nat) (v : Value) (a b c : Value) (W : World) : Prop := W.cell? ⟨g1, 0, none⟩ = some v ∧ (W.cell? ⟨g2, 0, none⟩ = some a ∧ (W.cell? ⟨g2, 1, none⟩ = some b ∧ W.cell? ⟨g2, 2, none⟩ = some c))
def RetBrN (w : World) (X : ResB) (e : Ending) (w' : World) : Prop :=
  ∃ eA es n ec gA m gc, e = .returned (.tuple #[aggB X.1 eA n ec gA m gc, .int .i64 (X.2.2.2.1 : Int), .int .i64 X.2.2.2.2]) ∧ Hid (conE es = X.2.1) ∧ Hid (es.length = n) ∧ Hid (X.2.2.1.length = m) ∧ n ≤ ec ∧ m ≤ gc ∧ RdE w' eA es ∧ okD w' es ∧ RdG w' gA X.2.2.1 ∧
    ((∀ a, eA = some a → w.heap.size ≤ a.block) ∧ newD w.heap.size es ∧ ∀ a, gA = some a → w.heap.size ≤ a.block) ∧ Below w.heap.size w w'
theorem retbrn_bad {w w' : World} {X : ResB} {k : Int} (hX : Hid (X = badB k)) (hb : Below w.heap.size w w') : RetBrN w X (.returned (.tuple #[.agg zeroB.toArray, .int .i64 0, .int .i64 k])) w' := by
  rw [hX.out]
  exact ⟨none, [], 0, 0, none, 0, 0, rfl, Lib.hid rfl, Lib.hid rfl, Lib.hid rfl, Nat.le_refl _, Nat.le_refl _, RdE.nil, okD.nil _, RdG.nil, ⟨(fun a h => by cases h), (fun y hy => by cases hy), fun a h => by cases h⟩, hb⟩
set_option maxHeartbeats 8000000 in
theorem readBunN_any (b : List UInt8) (n c : Nat) (A : Option Addr) (w : World) (HN : Hid (b.length = n)) (hr : Rd vB w A b) (hn : n ≤ 1000000) (hc : n ≤ c) :
    Calls Tryz.prog 250 #[.slice A n c] w (RetBrN w (readBun b)) := by
  obtain ⟨j0, hj, gz0, gz1, gz2⟩ := info_parts info_entry
  obtain ⟨P, hP⟩ : ∃ P, readBun b = P := ⟨_, rfl⟩
  rw [hP]
  obtain ⟨k0, S0, H0⟩ : ∃ k S, markK 66 b = (k, S) := ⟨_, _, rfl⟩
  obtain ⟨v, k1, S1, H1⟩ : ∃ x k S, num8K k0 S0 = (x, k, S) := ⟨_, _, _, rfl⟩
  obtain ⟨q, k2, S2, H2⟩ : ∃ x k S, cntK 0 64 k1 S1 = (x, k, S) := ⟨_, _, _, rfl⟩
  have hq64 : q ≤ 64 := by have := cntK_le 0 64 k1 S1; rw [H2] at this; exact this
  have HFN : Hid (∀ {es : List En} {k3 : Int} {S3 : List UInt8}, entsK q k2 S2 = (es, k3, S3) → ∀ (k' : Int) (S' : List UInt8) (l : List Gn), (k3 ≠ 0 → k' = k3) → (k3 = 0 → k' = (readG S3).2.2 ∧ (k' = 0 → l = (readG S3).1 ∧ S' = S3.drop (readG S3).2.1 ∧ (readG S3).2.1 ≤ S3.length)) →
      (finK (rightB es l) k' ≠ 0 → P = badB (finK (rightB es l) k')) ∧ (finK (rightB es l) k' = 0 → P = (v, es, l, n - S'.length, 0) ∧ S'.length ≤ n)) := by
    intro es k3 S3 h3 k' S' l g1 g2
    have := bun_final H0 H1 H2 h3 g1 g2
    rw [hP, HN.out] at this
    exact this
  have HFIT : Hid (∀ x ∈ (entsK q k2 S2).1, x.1 < 18446744073709551616 ∧ x.2.1 < 18446744073709551616 ∧ x.2.2.length ≤ 32) := entsK_fit q k2 S2
  have hvlt : v < 18446744073709551616 := by have := num8K_lt k0 S0; rw [H1] at this; exact this
  replace H0 := Lib.hid H0
  replace H1 := Lib.hid H1
  replace H2 := Lib.hid H2
  clear hP
  obtain ⟨hR0, hB0⟩ := box_three w 32 (.int .u64 0) (.slice none 0 0) (.slice none 0 0)
  go_enter Tryz.func250, Tryz.ntmps250
  go_upto_region 1 with fail
  generalize (w.alloc (.cells #[.int .u64 0, .slice none 0 0, .slice none 0 0] 32)) = W0 at hR0 hB0 ⊢
  go_wp2_with fail
  refine (counts_any W0).mono ?_
  rintro e W1 ⟨vE, vS, rfl, hWE, hWS, hb⟩
  replace hR0 := hR0.later hb
  replace hB0 := below_step hB0 hb
  replace hr := hr.keep hB0
  clear hb
  go_upto_region 2 with fail
  have hgl := hR0.lt
  have hA : b ≠ [] → ∀ a, A = some a → a.block < W1.heap.size := hr.off
  have hRs : Row (W1.alloc (.cells #[.slice A n c, .int .i64 0] 220)) W1.heap.size 220 [.slice A n c, .int .i64 0] := Row.new W1 _ _ _ rfl
  have hb2 := below_new (Below.refl W1.heap.size W1) (.cells #[.slice A n c, .int .i64 0] 220)
  go_upto_region 3 with fail
  replace hr := hr.keep hb2
  replace hR0 := hR0.later hb2
  replace hB0 := below_step hB0 hb2
  replace hWE := hWE.below hb2 (Nat.le_refl _)
  replace hWS := hWS.below hb2 (Nat.le_refl _)
  generalize (W1.alloc (.cells #[.slice A n c, .int .i64 0] 220)) = W2 at hr hR0 hRs hB0 hWE hWS ⊢
  clear hb2
  generalize W1.heap.size = g1 at hgl hRs hA hWE hWS ⊢
  have hS : RdS g1 b n 0 W2 := ⟨A, c, hRs, HN, hc, hr, hA⟩
  have hg1 := hRs.lt
  clear hRs hr hA
  have hle : w.heap.size ≤ g1 := by omega
  have hne : w.heap.size ≠ g1 := by omega
  have hRx : Row (W2.alloc (.cells #[.int .u64 0, .slice none 0 0, .slice none 0 0] 32)) W2.heap.size 32 zeroB := Row.new W2 _ _ _ rfl
  have hbn := below_new (Below.refl W2.heap.size W2) (.cells #[.int .u64 0, .slice none 0 0, .slice none 0 0] 32)
  have hS1 : RdS g1 b n 0 (W2.alloc (.cells #[.int .u64 0, .slice none 0 0, .slice none 0 0] 32)) := by
    obtain ⟨A', c', h1, h2, h3, h4, h5⟩ := hS
    exact ⟨A', c', h1.later hbn, h2, h3, h4.keep hbn, h5⟩
  replace hR0 := hR0.later hbn
  replace hB0 := below_step hB0 hbn
  replace hWE := hWE.below hbn (by omega)
  replace hWS := hWS.below hbn (by omega)
  go_upto_region 4 with fail
  generalize W2.alloc (.cells #[.int .u64 0, .slice none 0 0, .slice none 0 0] 32) = W3 at hS1 hR0 hB0 hRx hWE hWS ⊢
  clear hbn hS
  generalize W2.heap.size = g2 at hg1 hRx ⊢
  have hn2 : g2 ≠ g1 := by omega
  have hn4 : w.heap.size ≠ g2 := by omega
  have hl2 : w.heap.size ≤ g2 := by omega
  have hl12 : g1 + 1 ≤ g2 := by omega
  have hl1 : g1 ≤ g2 := by omega
  go_wp2_with fail
  refine (mark_any 66 66 rfl (by decide) g1 b n W3 hS1 (by omega)).mono ?_
  rw [H0.out]
  rintro e₁ W4 ⟨rfl, hT, hO⟩
  dsimp only at hT
  replace hR0 := hR0.only hO hne
  replace hRx := hRx.only hO hn2
  replace hWE := hWE.below hO.below (Nat.le_refl _)
  replace hWS := hWS.below hO.below (Nat.le_refl _)
  replace hB0 := hB0.trans (hO.below.mono hle)
  clear hO hS1
  go_wp2_with fail
  refine (number8_any g1 k0 S0 W4 hT).mono ?_
  rw [H1.out]
  rintro e₁ w4 ⟨rfl, hT4, hO⟩
  dsimp only at hT4 ⊢
  replace hR0 := hR0.only hO hne
  replace hRx := hRx.only hO hn2
  replace hWE := hWE.below hO.below (Nat.le_refl _)
  replace hWS := hWS.below hO.below (Nat.le_refl _)
  replace hB0 := hB0.trans (hO.below.mono hle)
  clear hO hT
  have f0 := hRx.frozen 0
  have c0 : w4.cell? ⟨g2, 0, none⟩ = some (.int .u64 0) := hRx.cell rfl
  have hT5 := hT4.below ((Below.refl _ w4).setCell (p := ⟨g2, 0, none⟩) hl12 (.int .u64 (v : Int)))
  have hR05 := hR0.setCell_other (p := ⟨g2, 0, none⟩) hn4 (.int .u64 (v : Int))
  have hRx5 : Row (w4.setCell ⟨g2, 0, none⟩ (.int .u64 (v : Int))) g2 32 [.int .u64 (v : Int), .slice none 0 0, .slice none 0 0] := hRx.setCell 0 (.int .u64 (v : Int))
  have hB5 := hB0.setCell (p := ⟨g2, 0, none⟩) hl2 (.int .u64 (v : Int))
  have hWE5 := hWE.below ((Below.refl g2 w4).setCell (p := ⟨g2, 0, none⟩) (Nat.le_refl _) (.int .u64 (v : Int))) hl1
  have hWS5 := hWS.below ((Below.refl g2 w4).setCell (p := ⟨g2, 0, none⟩) (Nat.le_refl _) (.int .u64 (v : Int))) hl1
  clear hT4 hR0 hRx hB0 hWE hWS
  go_upto_region 6 with fail
  generalize w4.setCell ⟨g2, 0, none⟩ (.int .u64 (v : Int)) = W5 at hT5 hR05 hRx5 hB5 hWE5 hWS5 ⊢
  clear c0 f0
  go_wp2_with fail
  refine (count_any g1 k1 S1 g1 0 64 vE W5 hT5 hWE5 (Nat.le_refl _)).mono ?_
  rw [H2.out]
  rintro e₁ W6 ⟨rfl, hT6, hO⟩
  dsimp only at hT6 ⊢
  have hR06 := hR05.only hO hne
  have hRx6 := hRx5.only hO hn2
  have hWS6 := hWS5.below hO.below (Nat.le_refl _)
  have hB6 := hB5.trans (hO.below.mono hle)
  clear hO hT5 hR05 hRx5 hB5 hWE5 hWS5
  have hB2 : g2 < W6.heap.size := hRx6.lt
  obtain ⟨B, hBB⟩ : ∃ B, B = W6.heap.size := ⟨_, rfl⟩
  have hBle : B ≤ W6.heap.size := by omega
  have hg2B : g2 < B := by omega
  have hg1B : g1 < B := by omega
  clear hBB hB2
  go_upto_region 7 with fail
  go_loopw [24] (fun i wr => BunI q k2 S2 v vS w g1 g2 B i wr) (fun i _ => q - (intOf i).toNat)
  case atStart => exact ⟨0, [], .slice none 0 0, k2, S2, rfl, Nat.zero_le _, rfl, Lib.hid rfl, (fun x hx => by cases hx), hR06, hRx6, OwnE.nil _ _ _, hT6, hWS6, hB6, hBle⟩
  case round =>
    clear hT6 hR06 hRx6 hWS6 hB6 hBle
    obtain ⟨k, es, u, kk, S, rfl, hk, hes, hents, hsd, hR, hX, hown, hT, hWS, hbel, hszr⟩ := hrel
    by_cases hlt : k < q
    · have HMORE := Lib.hid (ents_more hlt hents.out)
      have hi1 : (k : Int) < (q : Int) := by omega
      obtain ⟨eA, ec, hu, hec, _⟩ := hown.slice
      rw [hes] at hu hec
      subst hu
      have HES := Lib.hid hes
      have HSD := Lib.hid hsd
      have HENT := Lib.hid (fun W (hT : RdRF g1 kk S W) (hv : IsW g1 1 32 vS W) => readent_any g1 kk S g1 vS W hT hv (Nat.le_refl _))
      have HELT := Lib.hid (entK_fit kk S)
      generalize entK kk S = X at HMORE HENT HELT
      obtain ⟨⟨x1, x2, x3⟩, kX, SX⟩ := X
      dsimp only at HMORE HENT HELT
      clear hents hes hsd
      have c1 : wr.cell? ⟨g2, 1, none⟩ = some (.slice eA k ec) := hX.cell rfl
      go_upto_region 8 with fail
      have hS : wr.drew.cell? ⟨g2, 1, none⟩ = some (.slice eA k ec) ∧ True := ⟨c1, trivial⟩
      refine wp_region_last (fun W => W.cell? ⟨g2, 1, none⟩ = some (.slice eA k ec) ∧ True) (.step 0 false (.step 1 false (.step 2 false (.step 3 false (.step 4 true (.step 5 true (.step 6 true (.step 7 false .nil)))))))) hS (by rfl) (by kernel_rfl) (by kernel_rfl) (by decide) (by kernel_rfl) (by kernel_rfl) (by kernel_rfl) (by kernel_rfl) ?_
      simp only [initO, List.dropLast]
      have hSd : wr.drew.cell? ⟨g2, 1, none⟩ = some (.slice eA k ec) := c1
      have hownD : OwnE B 106 es (.slice eA k ec) wr.drew := hown.later (Below.refl _ _).drew
      have hRD : Row wr.drew w.heap.size 32 zeroB := hR
      have hXD : Row wr.drew g2 32 [.int .u64 (v : Int), .slice eA k ec, .slice none 0 0] := hX
      have hTD : RdRF g1 kk S wr.drew := hT.below (Below.refl _ _).drew
      have hWD : IsW g1 1 32 vS wr.drew := hWS.below (Below.refl _ _).drew (Nat.le_refl _)
      have hBD : Below w.heap.size w wr.drew := hbel.drew
      have hsz : wr.heap.size = wr.drew.heap.size := rfl
      rw [hsz] at hszr
      clear hR hX hown hT hWS hbel c1 hS
      iterate 4 (refine plan_read rfl (by rfl) (v := ?_) ?_ ?_; rotate_left 1; (intro W hW; (try dsimp only at hW); obtain ⟨hW0, hW1⟩ := hW; go_simp <;> with_reducible rfl); simp only [List.getElem_toArray, List.getElem_cons_zero, List.getElem_cons_succ, Act.put, List.setIfInBounds_toArray, List.set_cons_zero, List.set_cons_succ])
      generalize wr.drew = wd at hSd hownD hRD hXD hTD hWD hBD hszr ⊢
      clear hsz
      refine plan_make_of rfl (by rfl) (fun K hK => ?_)
      go_simp
      refine (HENT.out wd hTD hWD).mono ?_
      rintro e₁ w7 ⟨A7, l7, c7, rfl, HL7, hl7, hr7, hA7, hT7, hO⟩
      have hR7 := hRD.only hO hne
      have hX7 := hXD.only hO hn2
      have hW7 := hWD.below hO.below (Nat.le_refl _)
      have hB7 := hBD.trans (hO.below.mono hle)
      have hown7 := hownD.only hO hg1B
      have hs7 := hO.below.size
      have hS7 : w7.cell? ⟨g2, 1, none⟩ = some (.slice eA k ec) ∧ True := ⟨hX7.cell rfl, trivial⟩
      refine hK.out _ _ hS7 ?_
      clear hK K hO hTD hRD hXD hWD hBD hSd
      have hl7e := HL7.out
      subst hl7e
      have hb8 : Below w7.heap.size w7 (w7.alloc (.cells #[.int .u64 (x1 : Int), .int .u64 (x2 : Int), .slice A7 x3.length c7] 106)) := below_new (Below.refl _ _) _
      have hg27 := hX7.lt
      (refine plan_make_of rfl (by rfl) (fun K hK => ?_); unfold aggN; go_simp; refine hK.out _ _ ⟨(hb8.cell (p := ⟨g2, 1, none⟩) hg27).trans hS7.1, trivial⟩ ?_; clear hK K)
      have hown8k : w7.ownsRow B 106 3 (.slice eA k ec) k (cellsE es) := by
        have := hown7.1
        rw [HES.out] at this
        exact this
      have hown8 := ownsRowE_later hown8k hb8
      have hnews := (Row.new w7 106 (ED.mk x1 x2 A7 c7 x3).cells #[.int .u64 (x1 : Int), .int .u64 (x2 : Int), .slice A7 x3.length c7] rfl).newsD
      have hs8 := hb8.size
      refine plan_make_of rfl (by rfl) (fun K hK => ?_)
      refine wp_append_own3 _ (.tmp 27) (.tmp 31) 29 (by rfl) B 106 j0 (.agg #[.int .u64 0, .int .u64 0, .slice none 0 0]) 3 40 Tryz.underlying29 hj gz0 gz1 gz2 rfl (by decide) (.slice eA k ec) k (cellsE es) (by rfl) hown8 ⟨w7.heap.size, 0, none⟩ 1 1 (ED.mk x1 x2 A7 c7 x3).cells (by rfl) (by rfl) hnews (ED.one _) (by unfold maxLen; omega) (by omega) (by omega) ?_
      intro v9 w9 hown9 hgrow9 hat9
      obtain ⟨A9, c9, rfl, hc9q⟩ := own_formE hown9
      have hO9 : OwnE B 106 (es ++ [ED.mk x1 x2 A7 c7 x3]) (.slice A9 (k + 1) c9) w9 := hownD.more2 hown7 ⟨hl7, hr7⟩ (fun _ a ha => hA7 a ha) hszr hb8 (by rw [HES.out]; exact hown9) hgrow9 hat9
      have hbd9 : Below B w7 w9 := (hb8.mono (by omega)).grown hgrow9 (by omega) (fun j hj => (hown8.lt j hj).1)
      have hR9 := (hR7.later hb8).grown hgrow9 (fun e => by have := (hown8.lt _ e).1; omega)
      have hX9 := (hX7.later hb8).grown hgrow9 (fun e => by have := (hown8.lt _ e).1; omega)
      have hT9 := hT7.below (hbd9.mono (by omega))
      have hW9 := hW7.below hbd9 (by omega)
      have HB9 := Lib.hid (hB7.trans (hbd9.mono (by omega)))
      have hs9 := hbd9.size
      simp only [List.getElem_toArray, List.getElem_cons_zero, List.getElem_cons_succ, Act.put, List.setIfInBounds_toArray, List.set_cons_zero, List.set_cons_succ]
      refine hK.out _ _ ⟨hX9.cell rfl, trivial⟩ ?_
      clear hK K hown9 hgrow9 hat9 hbd9 hown8 hb8 hnews hown8k hown7 hownD hR7 hX7 hT7 hW7 hB7 hr7 hS7
      iterate 1 (refine plan_read rfl (by rfl) (v := ?_) ?_ ?_; rotate_left 1; (intro W hW; (try dsimp only at hW); obtain ⟨hW0, hW1⟩ := hW; go_simp <;> with_reducible rfl); simp only [List.getElem_toArray, List.getElem_cons_zero, List.getElem_cons_succ, Act.put, List.setIfInBounds_toArray, List.set_cons_zero, List.set_cons_succ])
      have hc9 : w9.cell? ⟨g2, 1, none⟩ = some (.slice eA k ec) := hX9.cell rfl
      have hf9 : w9.frozen? ⟨g2, 1, none⟩ = false := hX9.frozen 1
      refine planLast_done rfl (by rfl) ?_
      go_simp
      have HO10 := Lib.hid (hO9.same (w' := w9.setCell ⟨g2, 1, none⟩ (.slice A9 (k + 1) c9)) (fun j h1 _ => Below.heap_setCell w9 ⟨g2, 1, none⟩ (.slice A9 (k + 1) c9) j (by show j ≠ g2; omega)))
      have hR10 := hR9.setCell_other (p := ⟨g2, 1, none⟩) (by show w.heap.size ≠ g2; omega) (.slice A9 (k + 1) c9)
      have hX10 : Row (w9.setCell ⟨g2, 1, none⟩ (.slice A9 (k + 1) c9)) g2 32 [.int .u64 (v : Int), (.slice A9 (k + 1) c9), .slice none 0 0] := hX9.setCell 1 (.slice A9 (k + 1) c9)
      have HB10 := Lib.hid (HB9.out.setCell (p := ⟨g2, 1, none⟩) (by show w.heap.size ≤ g2; omega) (.slice A9 (k + 1) c9))
      have HT10 := Lib.hid (hT9.below ((Below.refl _ w9).setCell (p := ⟨g2, 1, none⟩) hl12 (.slice A9 (k + 1) c9)))
      have HW10 := Lib.hid (hW9.below ((Below.refl g2 w9).setCell (p := ⟨g2, 1, none⟩) (Nat.le_refl _) (.slice A9 (k + 1) c9)) hl1)
      have hs10 : (w9.setCell ⟨g2, 1, none⟩ (.slice A9 (k + 1) c9)).heap.size = w9.heap.size := by simp [World.setCell]
      clear hO9 hR9 hX9 hc9 hf9 HB9 hT9 hW9
      generalize w9.setCell ⟨g2, 1, none⟩ (.slice A9 (k + 1) c9) = w10 at HO10 hR10 hX10 HB10 HT10 HW10 hs10 ⊢
      have hsd9 : Hid (∀ x ∈ es ++ [ED.mk x1 x2 A7 c7 x3], x.s.length ≤ 32) := fun x hx => by
        rcases List.mem_append.1 hx with hx | hx
        · exact HSD.out x hx
        · rw [List.mem_singleton.1 hx]
          exact HELT.out.2.2
      go_wp2_with fail
      go_roundw
      case rel => exact ⟨k + 1, es ++ [ED.mk x1 x2 A7 c7 x3], (.slice A9 (k + 1) c9), kX, SX, by go_num, by omega, by rw [List.length_append, HES.out]; rfl, by unfold Hid; rw [conE_snoc]; exact HMORE.out, hsd9.out, hR10, hX10, HO10.out, HT10.out, HW10.out, HB10.out, by omega⟩
      case measure => simp [intOf]; omega
    · have ekq : k = q := by omega
      subst ekq
      have hents' : entsK k k2 S2 = (conE es, kk, S) := by
        rw [hents.out, Nat.sub_self]
        simp [entsK]
      have HF3 := Lib.hid (HFN.out hents')
      have HFE : Hid (fitE (conE es)) := fun x hx => by
        have := HFIT.out x (by rw [hents']; exact hx)
        exact ⟨this.1, this.2.1⟩
      obtain ⟨eA, ec, hu, hec, _⟩ := hown.slice
      rw [hes] at hu hec
      subst hu
      have HES := Lib.hid hes
      have HSD := Lib.hid hsd
      have HEC := Lib.hid hec
      have hi1 : ¬ (k : Int) < (k : Int) := by omega
      clear hents hents' hes hsd hec HFIT hWS
      go_wp2_with fail
      refine (readgone_any g1 kk S wr hT).mono ?_
      rintro e₁ w5 ⟨A5, l, m, c5, rfl, HL, hmc, hm64, hrg, hfl, hA5, hO, k', S', hT5, hk1', hk2'⟩
      have hR5 := hR.only hO hne
      have hX5 := hX.only hO hn2
      have hB5 := hbel.trans (hO.below.mono hle)
      have hown5 := hown.only hO hg1B
      have hA5B : Hid (∀ a, A5 = some a → g2 < a.block) := fun a ha => by have := hA5 a ha; omega
      have hs5 := hO.below.size
      have HFF := Lib.hid (HF3.out k' S' l hk1' hk2')
      have HFL := Lib.hid hfl
      clear hO hT hR hX hbel hown hA5 hk1' hk2' HF3 hfl
      have f0 := hX5.frozen 2
      have c0 : w5.cell? ⟨g2, 2, none⟩ = some (.slice none 0 0) := hX5.cell rfl
      have hT6 := hT5.below ((Below.refl _ w5).setCell (p := ⟨g2, 2, none⟩) hl12 (.slice A5 m c5))
      have hR6 := hR5.setCell_other (p := ⟨g2, 2, none⟩) hn4 (.slice A5 m c5)
      have hX6 : Row (w5.setCell ⟨g2, 2, none⟩ (.slice A5 m c5)) g2 32 [.int .u64 (v : Int), .slice eA k ec, .slice A5 m c5] := hX5.setCell 2 (.slice A5 m c5)
      have hB6 := hB5.setCell (p := ⟨g2, 2, none⟩) hl2 (.slice A5 m c5)
      have hOs := (Only.refl g2 w5).setCell 2 (.slice A5 m c5)
      have hown6 := hown5.only hOs hg2B
      have hrg6 := hrg.only hOs (fun a ha => by have := hA5B.out a ha; omega)
      clear hT5 hR5 hX5 hB5 hown5 hrg hOs
      go_upto_region 11 with fail
      generalize w5.setCell ⟨g2, 2, none⟩ (.slice A5 m c5) = w6 at hT6 hR6 hX6 hB6 hown6 hrg6 ⊢
      clear c0 f0
      have HRT := Lib.hid (rightB_any v es l k ec m c5 eA A5 w6 HES.out HL (hown6.rd HES.out) hrg6 HFL (by omega) (by omega) (fun x hx => by have := HSD.out x hx; omega))
      unfold aggB at HRT
      obtain ⟨R, hR⟩ : ∃ R, rightB (conE es) l = R := ⟨_, rfl⟩
      rw [hR] at HRT HFF
      clear hR
      go_wp2_with (refine wpList_load_part rfl 32 (.tmp 8) rfl g2 0 rfl _ _ hX6 [.int .u64 (v : Int), .slice eA k ec, .slice A5 m c5] (by rfl) _ Tryz.underlying32 rfl (by exact size_bundle) ?_)
      refine HRT.out.mono ?_
      rintro e₁ w7 ⟨rfl, hb7⟩
      have hlt6 := hT6.lt
      replace hT6 := hT6.below (hb7.mono (show g1 + 1 ≤ w6.heap.size by omega))
      replace hR6 := hR6.later hb7
      replace hX6 := hX6.later hb7
      replace hB6 := below_step hB6 hb7
      replace hown6 := hown6.later hb7
      replace hrg6 := hrg6.keep hb7
      clear hb7 HRT
      go_upto_if 40 with fail
      go_cut [] (fun wx => RdRF g1 (finK R k') S' wx ∧ Row wx w.heap.size 32 zeroB ∧ Row wx g2 32 [.int .u64 (v : Int), .slice eA k ec, .slice A5 m c5] ∧ Below w.heap.size w wx ∧ OwnE B 106 es (.slice eA k ec) wx ∧ RdG wx A5 l)
      case first =>
        cases R with
        | true =>
          go_wp2_with fail
          go_meet
          case rel => exact ⟨hT6, hR6, hX6, hB6, hown6, hrg6⟩
        | false =>
          go_wp2_with fail
          refine (keep_any g1 k' 3 S' w7 hT6).mono ?_
          rintro e₁ w8 ⟨rfl, hT8, hO⟩
          have hR8 := hR6.only hO hne
          have hX8 := hX6.only hO hn2
          have hB8 := hB6.trans (hO.below.mono hle)
          have hown8 := hown6.only hO hg1B
          have hrg8 := hrg6.only hO (fun a ha => by have := hA5B.out a ha; omega)
          go_wp2_with fail
          go_meet
          case rel => exact ⟨hT8, hR8, hX8, hB8, hown8, hrg8⟩
      case rest =>
      clear hT6 hR6 hX6 hB6 hown6 hrg6
      rename World => w8
      obtain ⟨hT8, hR8, hX8, hB8, hown8, hrg8⟩ := hcut
      obtain ⟨KF, hKF⟩ : ∃ K, finK R k' = K := ⟨_, rfl⟩
      rw [hKF] at hT8 HFF
      clear hKF
      obtain ⟨T', n8, ⟨A8, c8, hRr8, HN8, hc8, hr8, hA8⟩, hn8, hT8'⟩ := hT8
      have cd : w8.cell? ⟨g1, 1, none⟩ = some (.int .i64 KF) := hRr8.cell rfl
      have hgl8 := hR8.lt
      have hxl8 := hX8.lt
      by_cases hz : KF = 0
      · subst hz
        have eT := hT8' rfl
        subst eT
        obtain ⟨hPP, hSl⟩ := HFF.out.2 rfl
        rw [HN8.out] at hPP hSl
        have HPP := Lib.hid hPP
        have cs : w8.cell? ⟨g1, 0, none⟩ = some (.slice A8 n8 c8) := hRr8.cell rfl
        clear hPP HFF hT8' hr8 hA8 hc8
        go_upto_region 15 with fail
        have hS : endRd g1 g2 (.slice A8 n8 c8) (.int .u64 (v : Int)) (.slice eA k ec) (.slice A5 m c5) w8.drew := ⟨cs, hX8.cell rfl, hX8.cell rfl, hX8.cell rfl⟩
        have hR9 := hR8.drew
        have hB9 := hB8.drew
        have hown9 := hown8.later ((Below.refl _ w8).drew)
        have hrg9 := hrg8.keep ((Below.refl _ w8).drew)
        have wnn : IntKind.i64.wrap ((n : Int) - (n8 : Int)) = ((n - n8 : Nat) : Int) := by rw [IntKind.wrap_i64]; omega
        obtain ⟨nn, hnn⟩ : ∃ x, n - n8 = x := ⟨_, rfl⟩
        rw [hnn] at wnn HPP
        clear hnn
        refine wp_region_plan_of (endRd g1 g2 (.slice A8 n8 c8) (.int .u64 (v : Int)) (.slice eA k ec) (.slice A5 m c5)) (.step 0 false (.step 1 false (.step 2 false (.step 3 false (.step 4 false (.step 5 false (.step 6 false (.step 7 false (.step 8 false (.step 9 true (.step 10 false (.step 11 false (.nil))))))))))))) hS (by kernel_rfl) (by kernel_rfl) (by rfl) (by kernel_rfl) ?_
        clear hR8 hB8 hown8 hrg8 cs cd hX8 hRr8
        generalize w8.drew = wv at *
        iterate 9 (refine plan_read rfl (by rfl) (v := ?_) ?_ ?_; rotate_left 1; (intro W hW; (try dsimp only at hW); obtain ⟨hW0, hW1⟩ := hW; go_simp <;> with_reducible rfl); simp only [List.getElem_toArray, List.getElem_cons_zero, List.getElem_cons_succ, Act.put, List.setIfInBounds_toArray, List.set_cons_zero, List.set_cons_succ])
        have hcs : ∀ (cs : Array Value) (p : Addr), p.block ≠ w.heap.size → (wv.setRow w.heap.size cs).cell? p = wv.cell? p := fun cs p hp => cell_setRow_other wv w.heap.size cs p hp
        obtain ⟨s1, s2, s3, s4⟩ := hS
        refine plan_make_of rfl (by rfl) (fun K hK => ?_)
        refine hR9.wp_store 32 (.tmp 2) (.tmp 53) rfl rfl [.int .u64 (v : Int), .slice eA k ec, .slice A5 m c5] rfl (by exact size_bundle) rfl (one_three _ _ _ rfl rfl rfl) ?_
        refine hK.out _ _ ⟨(hcs _ _ hne.symm).trans s1, (hcs _ _ hn4.symm).trans s2, (hcs _ _ hn4.symm).trans s3, (hcs _ _ hn4.symm).trans s4⟩ ?_
        clear hK K hcs
        simp only [List.getElem_toArray, List.getElem_cons_zero, List.getElem_cons_succ, Act.put, List.setIfInBounds_toArray, List.set_cons_zero, List.set_cons_succ]
        iterate 2 (refine plan_read rfl (by rfl) (v := ?_) ?_ ?_; rotate_left 1; (intro W hW; (try dsimp only at hW); obtain ⟨hW0, hW1⟩ := hW; go_simp <;> with_reducible rfl); simp only [List.getElem_toArray, List.getElem_cons_zero, List.getElem_cons_succ, Act.put, List.setIfInBounds_toArray, List.set_cons_zero, List.set_cons_succ])
        refine plan_done ?_
        go_wp2_with fail
        refine bodyPost_ret (results_row_two (p := 2) (u := 3) (v := 4) (ty := 32) (by rfl) _ _ w.heap.size 32 _ _ (by rfl) (by exact hR9.setRow _) Tryz.underlying32 (by rfl) (by exact size_bundle)) (by rfl) ?_
        have hother : ∀ j, j ≠ w.heap.size → (wv.setRow w.heap.size [.int .u64 (v : Int), .slice eA k ec, .slice A5 m c5].toArray).heap[j]? = wv.heap[j]? := fun j hj => Go.setRow_other wv w.heap.size j _ hj
        have hown10 := hown9.same (fun j h1 _ => hother j (by omega))
        have hrg10 : RdG (wv.setRow w.heap.size [.int .u64 (v : Int), .slice eA k ec, .slice A5 m c5].toArray) A5 l := hrg9.only ((Only.refl w.heap.size wv).setRow _) (fun a ha => by have := hA5B.out a ha; omega)
        rw [HPP.out]
        exact ⟨eA, es, k, ec, A5, m, c5, rfl, Lib.hid rfl, HES.out, HL, HEC.out, hmc, hown10.rd HES.out, hown10.2.1, hrg10, ⟨(fun a ha => by have := (hown10.1.lt a.block (by rw [ha]; rfl)).1; omega), (fun y hy hs a ha => by have := hown10.2.2.2 y hy hs a ha; omega), fun a ha => by have := hA5B.out a ha; omega⟩, below_setRow hB9 (Nat.le_refl _) _⟩
      · have hk0 : (KF == 0) = false := beq_eq_false_iff_ne.2 hz
        have hk1 : (KF != 0) = true := by rw [bne, hk0]; rfl
        have HPP : Hid (P = badB KF) := HFF.out.1 hz
        clear HFF hT8' hr8 hA8 hc8 hown8 hrg8
        go_upto_region 14 with fail
        have hS : codeRd g1 KF w8.drew := ⟨cd, trivial⟩
        have hR9 := hR8.drew
        have hB9 := hB8.drew
        refine wp_region_plan_of (codeRd g1 KF) (.step 0 false (.step 1 false (.step 2 false (.step 3 false (.step 4 false (.step 5 true (.step 6 false (.step 7 false (.nil))))))))) hS (by kernel_rfl) (by kernel_rfl) (by rfl) (by kernel_rfl) ?_
        clear hR8 hB8 cd hX8 hRr8
        generalize w8.drew = wv at *
        iterate 5 (refine plan_read rfl (by rfl) (v := ?_) ?_ ?_; rotate_left 1; (intro W hW; (try dsimp only at hW); obtain ⟨hW0, hW1⟩ := hW; go_simp <;> with_reducible rfl); simp only [List.getElem_toArray, List.getElem_cons_zero, List.getElem_cons_succ, Act.put, List.setIfInBounds_toArray, List.set_cons_zero, List.set_cons_succ])
        have hcs : ∀ (cs : Array Value), (wv.setRow w.heap.size cs).cell? ⟨g1, 1, none⟩ = wv.cell? ⟨g1, 1, none⟩ := fun cs => cell_setRow_other wv w.heap.size cs ⟨g1, 1, none⟩ (show g1 ≠ w.heap.size by omega)
        refine plan_make_of rfl (by rfl) (fun K hK => ?_)
        refine hR9.wp_store 32 (.tmp 2) (.tmp 48) rfl rfl zeroB rfl (by exact size_bundle) rfl (one_three _ _ _ rfl rfl rfl) ?_
        refine hK.out _ _ ⟨(hcs _).trans hS.1, trivial⟩ ?_
        clear hK K hcs
        simp only [List.getElem_toArray, List.getElem_cons_zero, List.getElem_cons_succ, Act.put, List.setIfInBounds_toArray, List.set_cons_zero, List.set_cons_succ]
        iterate 2 (refine plan_read rfl (by rfl) (v := ?_) ?_ ?_; rotate_left 1; (intro W hW; (try dsimp only at hW); obtain ⟨hW0, hW1⟩ := hW; go_simp <;> with_reducible rfl); simp only [List.getElem_toArray, List.getElem_cons_zero, List.getElem_cons_succ, Act.put, List.setIfInBounds_toArray, List.set_cons_zero, List.set_cons_succ])
        refine plan_done ?_
        go_wp2_with fail
        refine bodyPost_ret (results_row_two (p := 2) (u := 3) (v := 4) (ty := 32) (by rfl) _ _ w.heap.size 32 _ _ (by rfl) (by exact hR9.setRow _) Tryz.underlying32 (by rfl) (by exact size_bundle)) (by rfl) ?_
        exact retbrn_bad HPP (below_setRow hB9 (Nat.le_refl _) _)
end Go.Proofs.YteppocjgodmpdaaGreatDoor
namespace Go.Proofs.YteppocjgodmpdaaGreatDoor
open Go.RowKit
structure WB where
  es : List ED
  eA : Option Addr
  n : Nat
  ec : Nat
  gA : Option Addr
  g : Nat
  gc : Nat
structure InB (w : World) (x : WB) (b : Bn) : Prop where
  con : conE x.es = b.2.1
  ne : x.es.length = x.n
  ng : b.2.2.length = x.g
  he : x.n ≤ x.ec
  hg : x.g ≤ x.gc
  re : RdE w x.eA x.es
  oe : okD w x.es
  rg : RdG w x.gA b.2.2
  ln : x.n ≤ 1000000
  lg : x.g ≤ 1000000
  ls : ∀ e ∈ x.es, e.s.length ≤ 70368744177664
  fit : fitBn b
theorem InB.keep {w w' : World} {x : WB} {b : Bn} (h : InB w x b) (hb : Below w.heap.size w w') : InB w' x b := { h with re := h.re.keep hb, oe := h.oe.keep hb, rg := h.rg.keep hb }
structure FreshB (B : Nat) (x : WB) : Prop where
  e : ∀ a, x.eA = some a → B ≤ a.block
  s : newD B x.es
  g : ∀ a, x.gA = some a → B ≤ a.block
theorem FreshB.mono {B C : Nat} {x : WB} (h : FreshB C x) (hc : B ≤ C) : FreshB B x := ⟨fun a ha => Nat.le_trans hc (h.e a ha), fun y hy hs a ha => Nat.le_trans hc (h.s y hy hs a ha), fun a ha => Nat.le_trans hc (h.g a ha)⟩
theorem RdE.only {g : Nat} {w w' : World} {A : Option Addr} {xs : List ED} (h : RdE w A xs) (k : Only g w w') (hA : ∀ a, A = some a → a.block ≠ g) : RdE w' A xs := fun hn => by
  obtain ⟨b, o, e, hc⟩ := h hn
  have hb := hA _ e
  refine ⟨b, o, e, fun i hi => ?_⟩
  obtain ⟨h0, h1, h2⟩ := hc i hi
  have ho := k.other b hb (World.block_lt_of_cell? w _ h0)
  exact ⟨(World.cell?_of_block (w := w) (a := ⟨b, o + i * 3, none⟩) ho).trans h0, (World.cell?_of_block (w := w) (a := ⟨b, o + i * 3 + 1, none⟩) ho).trans h1, (World.cell?_of_block (w := w) (a := ⟨b, o + i * 3 + 2, none⟩) ho).trans h2⟩
theorem okD.only {g : Nat} {w w' : World} {xs : List ED} (h : okD w xs) (k : Only g w w') (hA : ∀ y ∈ xs, y.s ≠ [] → ∀ a, y.A = some a → a.block ≠ g) : okD w' xs := fun x hx => ⟨(h x hx).1, (h x hx).2.only k (hA x hx)⟩
theorem InB.only {g : Nat} {w w' : World} {x : WB} {b : Bn} (h : InB w x b) (k : Only g w w') (hf : FreshB (g + 1) x) : InB w' x b :=
  { h with re := h.re.only k (fun a ha => by have := hf.e a ha; omega), oe := h.oe.only k (fun y hy hs a ha => by have := hf.s y hy hs a ha; omega), rg := h.rg.only k (fun a ha => by have := hf.g a ha; omega) }
def zeroWB : WB := ⟨[], none, 0, 0, none, 0, 0⟩
theorem zeroB_in (w : World) : InB w zeroWB (0, [], []) := ⟨rfl, rfl, rfl, Nat.le_refl _, Nat.le_refl _, RdE.nil, okD.nil _, RdG.nil, by decide, by decide, (fun x hx => by cases hx), ⟨by decide, (fun x hx => by cases hx), (fun x hx => by cases hx)⟩⟩
theorem zeroB_fresh (B : Nat) : FreshB B zeroWB := ⟨(fun a h => by cases h), (fun y hy => by cases hy), (fun a h => by cases h)⟩
def aggBW (x : WB) (b : Bn) : Value := aggB b.1 x.eA x.n x.ec x.gA x.g x.gc
structure WC where
  A : Option Addr
  s : Nat
  c : Nat
structure InC (w : World) (x : WC) (k : Ca) : Prop where
  ns : k.2.2.length = x.s
  hs : x.s ≤ x.c
  ru : RdU w x.A k.2.2
  ls : x.s ≤ 1000000
  fit : fitCa k
theorem InC.keep {w w' : World} {x : WC} {k : Ca} (h : InC w x k) (hb : Below w.heap.size w w') : InC w' x k := { h with ru := h.ru.keep hb }
def FreshC (B : Nat) (x : WC) : Prop := ∀ a, x.A = some a → B ≤ a.block
theorem FreshC.mono {B C : Nat} {x : WC} (h : FreshC C x) (hc : B ≤ C) : FreshC B x := fun a ha => Nat.le_trans hc (h a ha)
theorem InC.only {g : Nat} {w w' : World} {x : WC} {c : Ca} (h : InC w x c) (k : Only g w w') (hf : FreshC (g + 1) x) : InC w' x c := { h with ru := h.ru.only k (fun _ a ha => by have := hf a ha; omega) }
def zeroWC : WC := ⟨none, 0, 0⟩
theorem zeroC_in (w : World) (room : Int) : InC w zeroWC (room, 0, []) := ⟨rfl, Nat.le_refl _, RdU.nil, by decide, ⟨by show (0 : Nat) < _; decide, fun x hx => by cases hx⟩⟩
theorem zeroC_fresh (B : Nat) : FreshC B zeroWC := fun a h => by cases h
def aggCW (x : WC) (k : Ca) : Value := aggC k.1 k.2.1 x.A x.s x.c
structure WM where
  b : WB
  c : WC
structure InM (w : World) (x : WM) (m : MemK) : Prop where
  fc : m.clock < 18446744073709551616
  ib : InB w x.b m.b
  ic : InC w x.c m.c
theorem InM.keep {w w' : World} {x : WM} {m : MemK} (h : InM w x m) (hb : Below w.heap.size w w') : InM w' x m := ⟨h.fc, h.ib.keep hb, h.ic.keep hb⟩
theorem InM.fit {w : World} {x : WM} {m : MemK} (h : InM w x m) : fitM m := ⟨h.fc, h.ib.fit, h.ic.fit⟩
structure FreshM (B : Nat) (x : WM) : Prop where
  b : FreshB B x.b
  c : FreshC B x.c
theorem FreshM.mono {B C : Nat} {x : WM} (h : FreshM C x) (hc : B ≤ C) : FreshM B x := ⟨h.b.mono hc, h.c.mono hc⟩
theorem InM.only {g : Nat} {w w' : World} {x : WM} {m : MemK} (h : InM w x m) (k : Only g w w') (hf : FreshM (g + 1) x) : InM w' x m := ⟨h.fc, h.ib.only k hf.b, h.ic.only k hf.c⟩
def zeroWM : WM := ⟨zeroWB, zeroWC⟩
theorem zeroM_in (w : World) : InM w zeroWM zeroMem := ⟨by show (0 : Nat) < _; decide, zeroB_in w, zeroC_in w 0⟩
theorem zeroM_fresh (B : Nat) : FreshM B zeroWM := ⟨zeroB_fresh B, zeroC_fresh B⟩
def cellsM (x : WM) (m : MemK) : List Value := [.int .u64 (m.clock : Int), .int .u64 (m.b.1 : Int), .slice x.b.eA x.b.n x.b.ec, .slice x.b.gA x.b.g x.b.gc, .int .i64 m.c.1, .int .u64 (m.c.2.1 : Int), .slice x.c.A x.c.s x.c.c]
def aggM (x : WM) (m : MemK) : Value := .agg #[.int .u64 (m.clock : Int), .int .u64 (m.b.1 : Int), .slice x.b.eA x.b.n x.b.ec, .slice x.b.gA x.b.g x.b.gc, .int .i64 m.c.1, .int .u64 (m.c.2.1 : Int), .slice x.c.A x.c.s x.c.c]
theorem size_memory : (Tryz.prog.info? 37).map (·.size) = some 7 := by kernel_rfl
theorem one_memory (x : WM) (m : MemK) : ∀ v ∈ cellsM x m, v.oneCell' = true := fun v hv => by
  simp [cellsM] at hv
  rcases hv with rfl | rfl | rfl | rfl | rfl | rfl | rfl <;> rfl
structure WS where
  d : WD
  m : WM
structure InS (w : World) (x : WS) (s : ShK) : Prop where
  id : InD w x.d s.d
  im : InM w x.m s.m
theorem InS.keep {w w' : World} {x : WS} {s : ShK} (h : InS w x s) (hb : Below w.heap.size w w') : InS w' x s := ⟨h.id.keep hb, h.im.keep hb⟩
structure FreshS (B : Nat) (x : WS) : Prop where
  d : FreshD B x.d
  m : FreshM B x.m
theorem InD.only {g : Nat} {w w' : World} {x : WD} {D : DK} (h : InD w x D) (k : Only g w w') (hf : FreshD (g + 1) x) : InD w' x D :=
  ⟨h.l0, h.h0, h.r0.only k (fun _ a ha => by have := hf.1 a ha; omega), h.l1, h.h1, h.r1.only k (fun _ a ha => by have := hf.2 a ha; omega)⟩
def cellsS (x : WS) (s : ShK) : List Value := cellsD x.d s.d ++ (.int .i64 s.turn :: .int .u64 (s.num : Int) :: cellsM x.m s.m)
def aggS (x : WS) (s : ShK) : Value := .agg #[.slice x.d.A0 x.d.n0 x.d.c0, .int .i64 s.d.a0.s, .slice x.d.A1 x.d.n1 x.d.c1, .int .i64 s.d.a1.s, .int .i64 s.d.fuse, .int .i64 s.d.keep, .bool s.d.down, .int .i64 s.turn, .int .u64 (s.num : Int),
  .int .u64 (s.m.clock : Int), .int .u64 (s.m.b.1 : Int), .slice x.m.b.eA x.m.b.n x.m.b.ec, .slice x.m.b.gA x.m.b.g x.m.b.gc, .int .i64 s.m.c.1, .int .u64 (s.m.c.2.1 : Int), .slice x.m.c.A x.m.c.s x.m.c.c]
theorem size_shelf : (Tryz.prog.info? 39).map (·.size) = some 16 := by kernel_rfl
theorem one_shelf (x : WS) (s : ShK) : ∀ v ∈ cellsS x s, v.oneCell' = true := fun v hv => by
  rcases List.mem_append.1 hv with hv | hv
  · exact one_disk _ _ v hv
  · rcases List.mem_cons.1 hv with rfl | hv
    · rfl
    · rcases List.mem_cons.1 hv with rfl | hv
      · rfl
      · exact one_memory _ _ v hv
theorem pA {α : Type} {xs : List α} {i : Nat} (h : i < xs.toArray.size) : xs.toArray[i] = xs[i] := List.getElem_toArray h
theorem pB {α : Type} (a : α) (l : List α) (h : 0 < (a :: l).length) : (a :: l)[0] = a := List.getElem_cons_zero a l h
theorem pC {α : Type} (a : α) (l : List α) (i : Nat) (h : i + 1 < (a :: l).length) : (a :: l)[i + 1] = l[i]'(Nat.lt_of_succ_lt_succ h) := List.getElem_cons_succ a l i h
theorem pD {α : Type} (l : List α) (i : Nat) (a : α) : l.toArray.setIfInBounds i a = (l.set i a).toArray := List.setIfInBounds_toArray l i a
theorem pE {α : Type} {x : α} {xs : List α} {a : α} : (x :: xs).set 0 a = a :: xs := List.set_cons_zero
theorem pF {α : Type} {x : α} {xs : List α} {i : Nat} {a : α} : (x :: xs).set (i + 1) a = x :: xs.set i a := List.set_cons_succ
abbrev lB (x : WB) (b : Bn) : List Value := [.int .u64 (b.1 : Int), .slice x.eA x.n x.ec, .slice x.gA x.g x.gc]
abbrev lC (x : WC) (k : Ca) : List Value := [.int .i64 k.1, .int .u64 (k.2.1 : Int), .slice x.A x.s x.c]
abbrev lM (x : WM) (m : MemK) : List Value := [.int .u64 (m.clock : Int), .int .u64 (m.b.1 : Int), .slice x.b.eA x.b.n x.b.ec, .slice x.b.gA x.b.g x.b.gc, .int .i64 m.c.1, .int .u64 (m.c.2.1 : Int), .slice x.c.A x.c.s x.c.c]
abbrev lD (x : WD) (d : DK) : List Value := [.slice x.A0 x.n0 x.c0, .int .i64 d.a0.s, .slice x.A1 x.n1 x.c1, .int .i64 d.a1.s, .int .i64 d.fuse, .int .i64 d.keep, .bool d.down]
abbrev lS (x : WS) (s : ShK) : List Value := [.slice x.d.A0 x.d.n0 x.d.c0, .int .i64 s.d.a0.s, .slice x.d.A1 x.d.n1 x.d.c1, .int .i64 s.d.a1.s, .int .i64 s.d.fuse, .int .i64 s.d.keep, .bool s.d.down, .int .i64 s.turn, .int .u64 (s.num : Int), .int .u64 (s.m.clock : Int), .int .u64 (s.m.b.1 : Int), .slice x.m.b.eA x.m.b.n x.m.b.ec, .slice x.m.b.gA x.m.b.g x.m.b.gc, .int .i64 s.m.c.1, .int .u64 (s.m.c.2.1 : Int), .slice x.m.c.A x.m.c.s x.m.c.c]
abbrev l0B : List Value := [.int .u64 0, .slice none 0 0, .slice none 0 0]
abbrev l0C : List Value := [.int .i64 0, .int .u64 0, .slice none 0 0]
abbrev l0M : List Value := [.int .u64 0, .int .u64 0, .slice none 0 0, .slice none 0 0, .int .i64 0, .int .u64 0, .slice none 0 0]
abbrev l0D : List Value := [.slice none 0 0, .int .i64 0, .slice none 0 0, .int .i64 0, .int .i64 0, .int .i64 0, .bool false]
abbrev l0S : List Value := [.slice none 0 0, .int .i64 0, .slice none 0 0, .int .i64 0, .int .i64 0, .int .i64 0, .bool false, .int .i64 0, .int .u64 0, .int .u64 0, .int .u64 0, .slice none 0 0, .slice none 0 0, .int .i64 0, .int .u64 0, .slice none 0 0]
end Go.Proofs.YteppocjgodmpdaaGreatDoor
namespace Go.Proofs.YteppocjgodmpdaaGreatDoor
open Go.RowKit
def RetEs (w : World) (xs : List ED) (e : Ending) (w' : World) : Prop := ∃ v, e = .returned v ∧ w'.ownsRow w.heap.size 106 3 v xs.length (cellsE xs) ∧ Below w.heap.size w w'
theorem cloneEn_any (xs : List ED) (A : Option Addr) (c : Nat) (w : World) (hr : RdE w A xs) (hl : xs.length ≤ 1000000000) : Calls Tryz.prog 111 #[.slice A xs.length c] w (RetEs w xs) := by
  obtain ⟨i0, hi, hz0, hz1, hz2⟩ := info_parts info_entry
  cases A with
  | none =>
    have hb : xs = [] := by
      by_cases h : xs = []
      · exact h
      · obtain ⟨_, _, e, _⟩ := hr h
        cases e
    subst hb
    have hnil : ∀ W, (binOp .eql 29 (.slice none 0 c) (.slice none 0 0)).run Tryz.prog W = .ok (.bool true) W := fun W => Lib.run_eql_slice_nil W _ _ none 0 c 0 0 Tryz.underlying29
    go_enter Tryz.func111, Tryz.ntmps111
    go_wp2_with fail
    go_ret
    exact ⟨_, rfl, World.ownsRow_nil _ _ _ _, Below.refl _ _⟩
  | some a =>
    have hnil : ∀ W, (binOp .eql 29 (.slice (some a) xs.length c) (.slice none 0 0)).run Tryz.prog W = .ok (.bool false) W := fun W => Lib.run_eql_slice_nil W _ _ (some a) xs.length c 0 0 Tryz.underlying29
    have hown0 : (w.alloc (.cells #[] 106)).ownsRow w.heap.size 106 3 (.slice (some ⟨w.heap.size, 0, none⟩) 0 0) 0 [] := World.ownsRow_made w #[] 0 (Nat.le_refl _) (by unfold maxLen; omega) rfl
    have hr0 : RdE (w.alloc (.cells #[] 106)) (some a) xs := hr.keep (below_new (Below.refl _ _) _)
    have hnews : ∀ j u, (cellsE xs)[j]? = some u → (w.alloc (.cells #[] 106)).cell? (a.add j) = some u := fun j u hu => by
      by_cases h : xs = []
      · subst h
        simp [cellsE] at hu
      · obtain ⟨b, o, e, _⟩ := hr0 h
        injection e with e
        subst e
        exact hr0.range j u hu
    go_enter Tryz.func111, Tryz.ntmps111
    go_wp2_with (at_builtin; refine wpList_plain rfl ?_; intro _ hK; refine wp_append_own3 _ (.tmp 5) (.tmp 6) 29 rfl w.heap.size 106 i0 (.agg #[.int .u64 0, .int .u64 0, .slice none 0 0]) 3 40 Tryz.underlying29 hi hz0 hz1 hz2 rfl (by decide) _ 0 [] rfl hown0 a xs.length c (cellsE xs) rfl (cellsE_length xs) hnews (cellsE_one xs) (by unfold maxLen; omega) (by omega) (by simp) ?_; intro v1 w1 hown1 hgrow1 hat1; refine hK _ _ ?_; clear hK)
    go_ret
    rw [Nat.zero_add, List.nil_append] at hown1
    exact ⟨_, rfl, hown1, (below_new (Below.refl _ w) _).grown hgrow1 (by simp) (fun k hk => (hown0.lt k hk).1)⟩
end Go.Proofs.YteppocjgodmpdaaGreatDoor
namespace Go.Proofs.YteppocjgodmpdaaGreatDoor
open Go.RowKit
def CelE (w : World) (g : Nat) (t : TypeId) (ys : List ED) : Prop := ∃ L, Row w g t L ∧ L.take (ys.length * 3) = cellsE ys
section
variable {w w' : World} {g : Nat} {t : TypeId} {ys : List ED}
theorem CelE.lt (h : CelE w g t ys) : g < w.heap.size := by
  obtain ⟨L, h1, _⟩ := h
  exact h1.lt
theorem CelE.later (h : CelE w g t ys) (hb : Below w.heap.size w w') : CelE w' g t ys := by
  obtain ⟨L, h1, h2⟩ := h
  exact ⟨L, h1.later hb, h2⟩
theorem CelE.frozen (h : CelE w g t ys) (i : Nat) : w.frozen? ⟨g, i, none⟩ = false := by
  obtain ⟨L, h1, _⟩ := h
  exact h1.frozen i
theorem CelE.cells (h : CelE w g t ys) {j : Nat} {v : Value} (hj : (cellsE ys)[j]? = some v) : w.cell? ⟨g, j, none⟩ = some v := by
  obtain ⟨L, h1, h2⟩ := h
  rw [h1.cell? j]
  have hl : j < ys.length * 3 := by
    rw [← cellsE_length]
    exact (List.getElem?_eq_some_iff.1 hj).1
  rw [← h2, List.getElem?_take, if_pos hl] at hj
  exact hj
theorem CelE.at3 (h : CelE w g t ys) {k : Nat} (hk : k < ys.length) : w.cell? ⟨g, k * 3, none⟩ = some (vNG ys[k].t) ∧ w.cell? ⟨g, k * 3 + 1, none⟩ = some (vNG ys[k].e) ∧ w.cell? ⟨g, k * 3 + 2, none⟩ = some ys[k].at2 := by
  obtain ⟨g0, g1, g2⟩ := cellsE_get ys k hk
  exact ⟨h.cells g0, h.cells g1, h.cells g2⟩
theorem CelE.rd (h : CelE w g t ys) : RdE w (some ⟨g, 0, none⟩) ys := fun _ => ⟨g, 0, rfl, fun i hi => by
  rw [Nat.zero_add]
  exact h.at3 hi⟩
theorem cellsE_set : ∀ (ys : List ED) (k : Nat) (y : ED) (hk : k < ys.length), y.t = ys[k].t → y.e = ys[k].e → (cellsE ys).set (k * 3 + 2) y.at2 = cellsE (ys.set k y)
  | x :: ys, 0, y, _, h1, h2 => by
    show [vNG x.t, vNG x.e, y.at2] ++ cellsE ys = y.cells ++ cellsE ys
    have h1' : y.t = x.t := h1
    have h2' : y.e = x.e := h2
    unfold ED.cells
    rw [h1', h2']
  | x :: ys, k + 1, y, hk, h1, h2 => by
    have ih := cellsE_set ys k y (by simpa using hk) h1 h2
    show (x.cells ++ cellsE ys).set ((k + 1) * 3 + 2) y.at2 = x.cells ++ cellsE (ys.set k y)
    rw [← ih, show (k + 1) * 3 + 2 = (k * 3 + 2) + 3 by omega]
    rfl
theorem CelE.set (h : CelE w g t ys) {k : Nat} (hk : k < ys.length) (y : ED) (h1 : y.t = ys[k].t) (h2 : y.e = ys[k].e) : CelE (w.setCell ⟨g, k * 3 + 2, none⟩ y.at2) g t (ys.set k y) := by
  obtain ⟨L, h3, h4⟩ := h
  refine ⟨L.set (k * 3 + 2) y.at2, h3.setCell _ _, ?_⟩
  rw [List.length_set, List.take_set, h4, cellsE_set ys k y hk h1 h2]
theorem celE_of_own {base n cap : Nat} {A : Option Addr} (h : w.ownsRow base t 3 (.slice A n cap) n (cellsE ys)) (hn : 0 < n) : ∃ g, A = some ⟨g, 0, none⟩ ∧ CelE w g t ys ∧ base ≤ g := by
  have hl : ys.length = n := by
    have := h.1
    rw [cellsE_length] at this
    omega
  rcases h.2 with ⟨e0, h0⟩ | ⟨g', cap', cur, hv, hg, hgg, hc, hm, hs, ht⟩
  · omega
  · injection hv with e1 e2 e3
    exact ⟨g', e1, ⟨cur.toList, hgg, by rw [hl]; exact ht⟩, hg⟩
end
end Go.Proofs.YteppocjgodmpdaaGreatDoor
namespace Go.Proofs.YteppocjgodmpdaaGreatDoor
open Go.RowKit
def RetEsN (w : World) (xs : List ED) (n : Nat) (e : Ending) (w' : World) : Prop := ∃ A c, e = .returned (.slice A n c) ∧ n ≤ c ∧ w'.ownsRow w.heap.size 106 3 (.slice A n c) n (cellsE xs) ∧ Below w.heap.size w w'
theorem cloneEn_at (xs : List ED) (n : Nat) (A : Option Addr) (c : Nat) (w : World) (HN : Hid (xs.length = n)) (hr : RdE w A xs) (hl : n ≤ 1000000000) : Calls Tryz.prog 111 #[.slice A n c] w (RetEsN w xs n) := by
  have e1 := HN.out
  subst e1
  refine (cloneEn_any xs A c w hr hl).mono ?_
  rintro e w' ⟨v, rfl, h1, h2⟩
  obtain ⟨A', c', rfl, hc⟩ := own_formE h1
  exact ⟨A', c', rfl, hc, h1, h2⟩
def RetGsN (w : World) (l : List Gn) (n : Nat) (e : Ending) (w' : World) : Prop := ∃ A c, e = .returned (.slice A n c) ∧ n ≤ c ∧ RdG w' A l ∧ (∀ a, A = some a → w.heap.size ≤ a.block) ∧ Below w.heap.size w w'
theorem cloneG_at (l : List Gn) (n : Nat) (A : Option Addr) (c : Nat) (w : World) (HN : Hid (l.length = n)) (hr : RdG w A l) (hl : n ≤ 1000000000) : Calls Tryz.prog 113 #[.slice A n c] w (RetGsN w l n) := by
  have e1 := HN.out
  subst e1
  refine (cloneG_any l A c w hr hl).mono ?_
  rintro e w' ⟨v, rfl, h1, h2⟩
  obtain ⟨A', c', rfl, hc, h3, h4⟩ := own_sliceG h1
  exact ⟨A', c', rfl, hc, h3, h4, h2⟩
def OwnBI (w : World) (v n ec g gc : Nat) (E gA : Option Addr) (es : List ED) (B1 : Nat) (i : Value) (wr : World) : Prop :=
  ∃ (k : Nat) (zs : List ED), i = .int .i64 (k : Int) ∧ k ≤ n ∧ Hid (zs.length = k) ∧ Hid (conE zs = conE (es.take k)) ∧ Row wr w.heap.size 32 [.int .u64 (v : Int), .slice E n ec, .slice gA g gc] ∧ Row wr (w.heap.size + 1) 32 [.int .u64 0, .slice none 0 0, .slice none 0 0] ∧
    (0 < n → ∃ q o, E = some ⟨q, o, none⟩ ∧ Hid (o = 0) ∧ w.heap.size + 2 ≤ q ∧ q < B1 ∧ CelE wr q 106 (zs ++ es.drop k)) ∧ okD wr zs ∧ newD B1 zs ∧ Below w.heap.size w wr ∧ B1 ≤ wr.heap.size
def twoS (a b : Addr) (u v : Value) (W : World) : Prop := W.cell? a = some u ∧ W.cell? b = some v
def RetOwnB (w : World) (v : Nat) (es : List ED) (gs : List Gn) (n g : Nat) (e : Ending) (w' : World) : Prop :=
  ∃ (ys : List ED) (E : Option Addr) (ec : Nat) (gA : Option Addr) (gc : Nat), e = .returned (aggB v E n ec gA g gc) ∧ Hid (conE ys = conE es) ∧ Hid (ys.length = n) ∧ n ≤ ec ∧ g ≤ gc ∧ RdE w' E ys ∧ okD w' ys ∧ RdG w' gA gs ∧ (∀ a, E = some a → w.heap.size ≤ a.block) ∧ newD w.heap.size ys ∧ (∀ a, gA = some a → w.heap.size ≤ a.block) ∧ Below w.heap.size w w'
set_option maxHeartbeats 4000000 in
theorem ownbundle_at (v : Nat) (es : List ED) (gs : List Gn) (n ec g gc : Nat) (eA gA : Option Addr) (w : World) (HN : Hid (es.length = n)) (HG : Hid (gs.length = g)) (hre : RdE w eA es) (hoe : okD w es) (hrg : RdG w gA gs) (hn : n ≤ 1000000) (hg : g ≤ 1000000) (HLS : Hid (∀ e ∈ es, e.s.length ≤ 70368744177664)) :
    Calls Tryz.prog 60 #[aggB v eA n ec gA g gc] w (RetOwnB w v es gs n g) := by
  obtain ⟨hR0, hR1, hB0⟩ := two_boxes w 32 32 [.int .u64 (v : Int), .slice eA n ec, .slice gA g gc] [.int .u64 0, .slice none 0 0, .slice none 0 0] _ _ rfl rfl
  have HRE := Lib.hid hre
  have HOE := Lib.hid hoe
  have HRG := Lib.hid hrg
  clear hre hoe hrg
  unfold aggB
  go_enter Tryz.func60, Tryz.ntmps60
  go_upto_region 1 with fail
  generalize (w.alloc (.cells [.int .u64 (v : Int), .slice eA n ec, .slice gA g gc].toArray 32)).alloc (.cells [.int .u64 0, .slice none 0 0, .slice none 0 0].toArray 32) = w1 at hR0 hR1 hB0 ⊢
  have hlt1 := hR1.lt
  have k1 := hR0.cell (i := 1) rfl
  go_wp2_with fail
  refine (cloneEn_at es n eA ec _ HN (HRE.out.keep hB0) (by omega)).mono ?_
  rintro e w2 ⟨E, c2, rfl, hc2, hown2, hb2⟩
  replace hR0 := hR0.later hb2
  replace hR1 := hR1.later hb2
  replace hB0 := below_step hB0 hb2
  have hs2 := hb2.size
  have f2 := hR0.frozen 1
  replace k1 : w2.cell? ⟨w.heap.size, 1, none⟩ = some (.slice eA n ec) := hR0.cell rfl
  have hR2 : Row (w2.setCell ⟨w.heap.size, 1, none⟩ (.slice E n c2)) w.heap.size 32 [.int .u64 (v : Int), .slice E n c2, .slice gA g gc] := hR0.setCell 1 _
  have hR3 := hR1.setCell_other (p := ⟨w.heap.size, 1, none⟩) (by show w.heap.size + 1 ≠ w.heap.size; omega) (.slice E n c2)
  have hX := ownsRowE_same (w' := w2.setCell ⟨w.heap.size, 1, none⟩ (.slice E n c2)) hown2 (fun b hb _ => Below.heap_setCell w2 ⟨w.heap.size, 1, none⟩ _ b (by show b ≠ w.heap.size; omega))
  have hB3 : Below w.heap.size w (w2.setCell ⟨w.heap.size, 1, none⟩ (.slice E n c2)) := hB0.setCell (p := ⟨w.heap.size, 1, none⟩) (Nat.le_refl _) _
  have hs3 : w.heap.size + 2 ≤ (w2.setCell ⟨w.heap.size, 1, none⟩ (.slice E n c2)).heap.size := by simp [World.setCell]; omega
  clear hB0 hb2
  go_upto_region 2 with fail
  clear hR0 hR1 hown2 f2 k1
  generalize w2.setCell ⟨w.heap.size, 1, none⟩ (.slice E n c2) = w3 at hR2 hR3 hX hB3 hs3 ⊢
  have k1 := hR2.cell (i := 1) rfl
  have HEF : Hid (∀ a, E = some a → w.heap.size ≤ a.block) := fun a ha => by
    have := (hX.lt a.block (by rw [ha]; rfl)).1
    omega
  go_upto_region 3 with fail
  go_loopw [12] (fun i wr => OwnBI w v n c2 g gc E gA es w3.heap.size i wr) (fun i _ => n - (intOf i).toNat)
  case atStart =>
    refine ⟨0, [], rfl, Nat.zero_le _, Lib.hid rfl, Lib.hid rfl, hR2, hR3, fun h0 => ?_, okD.nil _, (fun y hy => by cases hy), hB3, Nat.le_refl _⟩
    obtain ⟨q, e1, h1, h2⟩ := celE_of_own hX h0
    exact ⟨q, 0, e1, Lib.hid rfl, by omega, h1.lt, h1⟩
  case round =>
    clear hR2 hR3 hX hB3 k1
    obtain ⟨k, zs, rfl, hk, HZ, HC, hRr, hRz, hcel, hoz, hnz, hB, hsz⟩ := hrel
    by_cases hkn : k < n
    · obtain ⟨q, o, rfl, HO, hq1, hq2, hce⟩ := hcel (by omega)
      clear hcel
      have hke : k < es.length := by rw [HN.out]; exact hkn
      have hkz : k < (zs ++ es.drop k).length := by rw [List.length_append, HZ.out, List.length_drop]; omega
      have hget : (zs ++ es.drop k)[k]'hkz = es[k]'hke := by
        rw [List.getElem_append_right (by rw [HZ.out]; exact Nat.le_refl _)]
        simp only [HZ.out, Nat.sub_self, List.getElem_drop, Nat.add_zero]
      have hat := hce.at3 hkz
      rw [hget] at hat
      have hxok := HOE.out _ (List.getElem_mem hke)
      have hxl := HLS.out _ (List.getElem_mem hke)
      obtain ⟨y, hy⟩ : ∃ y, es[k]'hke = y := ⟨_, rfl⟩
      rw [hy] at hat hxok hxl hget
      have HGET := Lib.hid hget
      have HY := Lib.hid hy
      clear hget hy
      obtain ⟨yt, ye, yA, yc, ys⟩ := y
      obtain ⟨hxc, hxr⟩ := hxok
      dsimp only at hxc hxr hxl
      obtain ⟨yl, hyl⟩ : ∃ l, ys.length = l := ⟨_, rfl⟩
      have HYL := Lib.hid hyl
      have hrng : wr.rangeAt q (o + k * 3) [.int .u64 (yt : Int), .int .u64 (ye : Int), .slice yA yl yc] := fun j u hu => by
        rw [HO.out, Nat.zero_add]
        unfold ED.at2 at hat
        dsimp only at hat
        rw [hyl] at hat
        match j, hu with
        | 0, hu => injection hu with hu; subst hu; exact hat.1
        | 1, hu => injection hu with hu; subst hu; exact hat.2.1
        | 2, hu => injection hu with hu; subst hu; exact hat.2.2
      rw [hyl] at hxc hxl
      clear hat hyl
      have i2 : (0 : Int) ≤ (k : Int) := by omega
      have i3 : (k : Int) < (n : Int) := by omega
      have hRb : Row (wr.alloc (.cells #[.int .u64 0, .int .u64 0, .slice none 0 0] 106)) wr.heap.size 106 [.int .u64 0, .int .u64 0, .slice none 0 0] := Row.new wr _ _ _ rfl
      go_upto_region 5 with (first
        | (refine wpList_load_mid rfl 106 (.tmp 15) rfl q (o + k * 3) rfl [.int .u64 (yt : Int), .int .u64 (ye : Int), .slice yA yl yc] _ hrng Tryz.underlying106 rfl (by exact size_entry) ?_)
        | (refine wpList_store_row rfl 106 (.tmp 4) (.tmp 16) rfl (wr.heap.size) rfl ([.int .u64 (yt : Int), .int .u64 (ye : Int), .slice yA yl yc]) rfl _ _ (hRb) (by exact size_entry) rfl (one_three _ _ _ rfl rfl rfl) ?_))
      have hRy := hRb.setRow [.int .u64 (yt : Int), .int .u64 (ye : Int), .slice yA yl yc]
      have hbn : Below wr.heap.size wr ((wr.alloc (.cells #[.int .u64 0, .int .u64 0, .slice none 0 0] 106)).setRow wr.heap.size [.int .u64 (yt : Int), .int .u64 (ye : Int), .slice yA yl yc].toArray) := below_setRow (below_new (Below.refl _ _) _) (Nat.le_refl _) _
      have hsa : wr.heap.size ≤ ((wr.alloc (.cells #[.int .u64 0, .int .u64 0, .slice none 0 0] 106)).setRow wr.heap.size [.int .u64 (yt : Int), .int .u64 (ye : Int), .slice yA yl yc].toArray).heap.size := hbn.size
      generalize (wr.alloc (.cells #[.int .u64 0, .int .u64 0, .slice none 0 0] 106)).setRow wr.heap.size [.int .u64 (yt : Int), .int .u64 (ye : Int), .slice yA yl yc].toArray = wb at hRy hbn hsa ⊢
      replace hce := hce.later hbn
      replace hRr := hRr.later hbn
      replace hRz := hRz.later hbn
      replace hoz := hoz.keep hbn
      replace hB := below_step hB hbn
      have hgy := hRy.lt
      have hyA := hxr.keep hB
      clear hbn hRb hrng hxr
      generalize wr.heap.size = gx at hRy hgy hsz hsa ⊢
      have hS : twoS ⟨w.heap.size, 1, none⟩ ⟨gx, 2, none⟩ (.slice (some ⟨q, o, none⟩) n c2) (.slice yA yl yc) wb.drew := ⟨hRr.cell rfl, hRy.cell rfl⟩
      have hce' : CelE wb.drew q 106 (zs ++ es.drop k) := hce
      have hRr' : Row wb.drew w.heap.size 32 [.int .u64 (v : Int), .slice (some ⟨q, o, none⟩) n c2, .slice gA g gc] := hRr
      have hRz' : Row wb.drew (w.heap.size + 1) 32 [.int .u64 0, .slice none 0 0, .slice none 0 0] := hRz
      have hoz' := hoz.keep ((Below.refl _ wb).drew)
      have hB' := hB.drew
      have hyA' := hyA.keep ((Below.refl _ wb).drew)
      have hsb : gx < wb.drew.heap.size := hgy
      refine wp_region_plan_of (twoS ⟨w.heap.size, 1, none⟩ ⟨gx, 2, none⟩ (.slice (some ⟨q, o, none⟩) n c2) (.slice yA yl yc)) (.step 0 false (.step 1 false (.step 2 false (.step 3 false (.step 4 false (.step 5 true (.step 6 false (.step 7 false (.step 8 true (.nil)))))))))) hS (by kernel_rfl) (by kernel_rfl) (by rfl) (by kernel_rfl) ?_
      clear hce hRr hRz hoz hB hyA hRy hgy
      generalize wb.drew = wv at *
      iterate 5 (refine plan_read rfl (by rfl) (v := ?_) ?_ ?_; rotate_left 1; (rintro W ⟨hW0, hW1⟩; go_simp <;> with_reducible rfl); simp only [pA, pB, pC, Act.put, pD, pE, pF])
      refine plan_make_of rfl (by rfl) (fun K hK => ?_)
      go_simp
      refine (cloneE_any yl ys yA yc wv HYL hyA' hxl).mono ?_
      rintro e w7 ⟨A7, c7, rfl, hc7, hr7, hA7, hb7⟩
      have hS7 : twoS ⟨w.heap.size, 1, none⟩ ⟨gx, 2, none⟩ (.slice (some ⟨q, o, none⟩) n c2) (.slice yA yl yc) w7 := ⟨(hb7.cell (p := ⟨w.heap.size, 1, none⟩) hRr'.lt).trans hS.1, (hb7.cell (p := ⟨gx, 2, none⟩) hsb).trans hS.2⟩
      refine hK.out _ _ hS7 ?_
      clear hK K
      have hce7 := hce'.later hb7
      have hRr7 := hRr'.later hb7
      have hRz7 := hRz'.later hb7
      have hoz7 := hoz'.keep hb7
      have hB7 := below_step hB' hb7
      have hs7 := hb7.size
      clear hce' hRr' hRz' hoz' hB' hyA' hS
      iterate 2 (refine plan_read rfl (by rfl) (v := ?_) ?_ ?_; rotate_left 1; (rintro W ⟨hW0, hW1⟩; go_simp <;> with_reducible rfl); simp only [pA, pB, pC, Act.put, pD, pE, pF])
      have hfr : w7.frozen? ⟨q, o + k * 3 + 2, none⟩ = false := hce7.frozen _
      have hold : w7.cell? ⟨q, o + k * 3 + 2, none⟩ = some (.slice yA yl yc) := by
        have := (hce7.at3 hkz).2.2
        rw [HGET.out] at this
        unfold ED.at2 at this
        dsimp only at this
        rw [HYL.out] at this
        rw [HO.out, Nat.zero_add]
        exact this
      refine plan_make_of rfl (by rfl) (fun K hK => ?_)
      go_simp
      refine hK.out _ _ ⟨(World.cell?_setCell_other _ _ _ _ (by intro e; injection e with e1 e2; omega)).trans hS7.1, (World.cell?_setCell_other _ _ _ _ (by intro e; injection e with e1; omega)).trans hS7.2⟩ ?_
      clear hK K
      refine plan_done ?_
      have hOq := (Only.refl q w7).setCell (o + k * 3 + 2) (.slice A7 yl c7)
      have hset := hce7.set hkz ⟨yt, ye, A7, c7, ys⟩ (by rw [HGET.out]) (by rw [HGET.out])
      have hset2 : CelE (w7.setCell ⟨q, o + k * 3 + 2, none⟩ (.slice A7 yl c7)) q 106 ((zs ++ [⟨yt, ye, A7, c7, ys⟩]) ++ es.drop (k + 1)) := by
        unfold ED.at2 at hset
        dsimp only at hset
        rw [HYL.out] at hset
        rw [HO.out, Nat.zero_add]
        have e1 : (zs ++ es.drop k).set k ⟨yt, ye, A7, c7, ys⟩ = (zs ++ [⟨yt, ye, A7, c7, ys⟩]) ++ es.drop (k + 1) := by
          have e2 : es.drop k = es[k] :: es.drop (k + 1) := List.drop_eq_getElem_cons hke
          rw [e2, List.set_append_right _ _ (by rw [HZ.out]; exact Nat.le_refl _), HZ.out, Nat.sub_self, List.set_cons_zero, List.append_assoc]
          rfl
        rw [e1] at hset
        exact hset
      have HX := Lib.hid (show OwnBI w v n c2 g gc (some ⟨q, o, none⟩) gA es w3.heap.size (.int .i64 ((k + 1 : Nat) : Int)) (w7.setCell ⟨q, o + k * 3 + 2, none⟩ (.slice A7 yl c7)) from by
        refine ⟨k + 1, zs ++ [⟨yt, ye, A7, c7, ys⟩], rfl, by omega, ?_, ?_, hRr7.only hOq (by omega), hRz7.only hOq (by omega), fun _ => ⟨q, o, rfl, HO, hq1, hq2, hset2⟩, ?_, ?_, hB7.trans (hOq.below.mono (by omega)), ?_⟩
        · unfold Hid
          rw [List.length_append, HZ.out]
          rfl
        · unfold Hid
          rw [conE_snoc, HC.out, List.take_succ_eq_append_getElem hke, conE_snoc, HY.out]
          rfl
        · intro z hz
          rcases List.mem_append.1 hz with hz | hz
          · exact ⟨(hoz7 z hz).1, (hoz7 z hz).2.only hOq (fun hs a ha => by have := hnz z hz hs a ha; omega)⟩
          · rw [List.mem_singleton.1 hz]
            refine ⟨?_, hr7.only hOq (fun hs a ha => by have := hA7 a ha; omega)⟩
            show ys.length ≤ c7
            rw [HYL.out]
            exact hc7
        · intro z hz hs a ha
          rcases List.mem_append.1 hz with hz | hz
          · exact hnz z hz hs a ha
          · rw [List.mem_singleton.1 hz] at ha
            have := hA7 a ha
            omega
        · have := hOq.below.size
          omega)
      clear hset hset2 hce7 hRr7 hRz7 hoz7 hB7 hOq hr7 hold hfr hS7 hb7 hnz
      go_wp2_with fail
      go_roundw
      case rel => exact HX.out
      case measure => simp [intOf]; omega
    · have hkk : k = n := by omega
      subst hkk
      have j1 : ¬ (k : Int) < (k : Int) := by omega
      have HCE : Hid (conE zs = conE es) := by unfold Hid; rw [HC.out, List.take_of_length_le (by rw [HN.out]; exact Nat.le_refl _)]
      have HRZ : Hid (RdE wr E zs) := by
        have hex : zs ++ es.drop k = zs := by rw [List.drop_eq_nil_of_le (by rw [HN.out]; exact Nat.le_refl _), List.append_nil]
        rcases Nat.eq_zero_or_pos k with h0 | h0
        · have : zs = [] := List.eq_nil_of_length_eq_zero (by rw [HZ.out]; exact h0)
          rw [this]
          exact RdE.nil
        · obtain ⟨q, o, e1, ho, _, _, hce⟩ := hcel h0
          rw [hex] at hce
          rw [e1, ho.out]
          exact hce.rd
      have HEQ : Hid (0 < k → ∀ a, E = some a → w.heap.size + 2 ≤ a.block) := fun h0 a ha => by
        obtain ⟨q, o, e1, ho, h1, _, hce⟩ := hcel h0
        rw [e1] at ha
        injection ha with ha
        rw [← ha]
        exact h1
      have HZZ : Hid (zs ≠ [] → 0 < k) := fun h0 => by
        rw [← HZ.out]
        exact List.length_pos_iff.2 h0
      clear hcel hk HC
      have k2 := hRr.cell (i := 2) rfl
      go_wp2_with fail
      refine (cloneG_at gs g gA gc _ HG (HRG.out.keep hB) (by omega)).mono ?_
      rintro e w4 ⟨A4, c4, rfl, hc4, hrg4, hA4, hb4⟩
      replace hRr := hRr.later hb4
      replace hRz := hRz.later hb4
      replace hB := below_step hB hb4
      replace hoz := hoz.keep hb4
      have HRZ4 := Lib.hid (HRZ.out.keep hb4)
      have hs4 := hb4.size
      have f2 := hRr.frozen 2
      replace k2 : w4.cell? ⟨w.heap.size, 2, none⟩ = some (.slice gA g gc) := hRr.cell rfl
      have hO := (Only.refl w.heap.size w4).setCell 2 (.slice A4 g c4)
      have hR4 : Row (w4.setCell ⟨w.heap.size, 2, none⟩ (.slice A4 g c4)) w.heap.size 32 [.int .u64 (v : Int), .slice E k c2, .slice A4 g c4] := hRr.setCell 2 _
      have hRz4 := hRz.only hO (show w.heap.size + 1 ≠ w.heap.size by omega)
      have hB4 := hB.trans hO.below
      have hl4 := hO.below.size
      have hg4 := hrg4.only hO (fun a ha => by have := hA4 a ha; omega)
      have hz4 := hoz.only hO (fun y hy hs a ha => by have := hnz y hy hs a ha; omega)
      have HZ4 := Lib.hid (show RdE (w4.setCell ⟨w.heap.size, 2, none⟩ (.slice A4 g c4)) E zs from fun h0 => (HRZ4.out.only hO (fun a ha => by have := HEQ.out (HZZ.out h0) a ha; omega)) h0)
      clear hB hb4 hrg4 hoz
      go_upto_region 8 with fail
      clear hRr hRz f2 k2 hO
      generalize w4.setCell ⟨w.heap.size, 2, none⟩ (.slice A4 g c4) = w5 at hR4 hRz4 hB4 hg4 hz4 HZ4 hl4 ⊢
      go_wp2_with (first
        | (refine wpList_load_part rfl 32 (.tmp 1) rfl (w.heap.size) 0 rfl _ _ (hR4) ([.int .u64 (v : Int), .slice E k c2, .slice A4 g c4]) (by rfl) _ Tryz.underlying32 rfl (by exact size_bundle) ?_)
        | (refine wpList_store_row rfl 32 (.tmp 2) (.tmp 30) rfl (w.heap.size + 1) rfl ([.int .u64 (v : Int), .slice E k c2, .slice A4 g c4]) rfl _ _ (hRz4) (by exact size_bundle) rfl (one_three _ _ _ rfl rfl rfl) ?_))
      refine bodyPost_ret (results_cell_row (p := 2) (ty := 32) (by rfl) _ _ (w.heap.size + 1) 32 _ (0, 0) _ (by rfl) (by exact hRz4.setRow _) Tryz.underlying32 (by rfl) (by exact size_bundle)) (by rfl) ?_
      have hO5 := (Only.refl (w.heap.size + 1) w5).setRow [.int .u64 (v : Int), .slice E k c2, .slice A4 g c4].toArray
      exact ⟨zs, E, c2, A4, c4, rfl, HCE, HZ, hc2, hc4, fun h0 => (HZ4.out.only hO5 (fun a ha => by have := HEQ.out (HZZ.out h0) a ha; omega)) h0, hz4.only hO5 (fun y hy hs a ha => by have := hnz y hy hs a ha; omega), hg4.only hO5 (fun a ha => by have := hA4 a ha; omega), HEF.out, (fun y hy hs a ha => by have := hnz y hy hs a ha; omega), (fun a ha => by have := hA4 a ha; omega), below_setRow hB4 (by omega) _⟩
end Go.Proofs.YteppocjgodmpdaaGreatDoor
namespace Go.Proofs.YteppocjgodmpdaaGreatDoor
open Go.RowKit
theorem con_ls {xs ys : List ED} {L : Nat} (h : conE ys = conE xs) (hl : ∀ e ∈ xs, e.s.length ≤ L) : ∀ e ∈ ys, e.s.length ≤ L := fun e he => by
  have h1 : e.con ∈ conE xs := by rw [← h]; exact List.mem_map.2 ⟨e, he, rfl⟩
  obtain ⟨f, hf, e1⟩ := List.mem_map.1 h1
  have h2 := hl f hf
  have h3 : f.s = e.s := congrArg (fun z : En => z.2.2) e1
  rw [← h3]
  exact h2
theorem ownbundle_any (x : WB) (b : Bn) (w : World) (h : InB w x b) : Calls Tryz.prog 60 #[aggBW x b] w fun e w' => ∃ y, e = .returned (aggBW y b) ∧ InB w' y b ∧ FreshB w.heap.size y ∧ y.n = x.n ∧ y.g = x.g ∧ Below w.heap.size w w' := by
  refine (ownbundle_at b.1 x.es b.2.2 x.n x.ec x.g x.gc x.eA x.gA w h.ne h.ng h.re h.oe h.rg h.ln h.lg h.ls).mono ?_
  rintro e w' ⟨ys, E, ec, gA, gc, rfl, h1, h2, h3, h4, h5, h6, h7, h8, h9, h10, h11⟩
  exact ⟨⟨ys, E, x.n, ec, gA, x.g, gc⟩, rfl, ⟨h1.out.trans h.con, h2.out, h.ng, h3, h4, h5, h6, h7, h.ln, h.lg, con_ls h1.out h.ls, h.fit⟩, ⟨h8, h9, h10⟩, rfl, rfl, h11⟩
theorem owncache_w (x : WC) (k : Ca) (w : World) (h : InC w x k) : Calls Tryz.prog 176 #[aggCW x k] w fun e w' => ∃ y, e = .returned (aggCW y k) ∧ InC w' y k ∧ FreshC w.heap.size y ∧ Below w.heap.size w w' := by
  have hl := h.ls
  refine (owncache_any k.1 k.2.1 k.2.2 x.s x.c x.A w (Lib.hid h.ns) h.ru (by omega)).mono ?_
  rintro e w' ⟨A, c, rfl, h1, h2, h3⟩
  rw [h.ns] at h1 h2 ⊢
  refine ⟨⟨A, x.s, c⟩, rfl, ⟨h.ns, h1, RdU.own h2, h.ls, h.fit⟩, fun a ha => ?_, h3⟩
  exact (h2.lt a.block (by show (Value.slice A x.s c).ownBlock = _; rw [show A = some a from ha]; rfl)).1
def memS3 (g : Nat) (u v z : Value) (W : World) : Prop := W.cell? ⟨g, 4, none⟩ = some u ∧ (W.cell? ⟨g, 5, none⟩ = some v ∧ W.cell? ⟨g, 6, none⟩ = some z)
def RetOwnM (w : World) (m : MemK) (e : Ending) (w' : World) : Prop := ∃ y, e = .returned (aggM y m) ∧ InM w' y m ∧ FreshM w.heap.size y ∧ Below w.heap.size w w'
theorem cellS3 {g : Nat} {u v z : Value} {w w' : World} (h : memS3 g u v z w) (hb : Below w.heap.size w w') (hg : g < w.heap.size) : memS3 g u v z w' := ⟨(hb.cell (p := ⟨g, 4, none⟩) hg).trans h.1, (hb.cell (p := ⟨g, 5, none⟩) hg).trans h.2.1, (hb.cell (p := ⟨g, 6, none⟩) hg).trans h.2.2⟩
set_option maxHeartbeats 4000000 in
theorem ownmemory_any (x : WM) (m : MemK) (w : World) (h : InM w x m) : Calls Tryz.prog 104 #[aggM x m] w (RetOwnM w m) := by
  obtain ⟨hR0, hR1, hB0⟩ := two_boxes w 37 37 (lM x m) l0M _ _ rfl rfl
  have HM := Lib.hid h
  clear h
  unfold aggM
  go_enter Tryz.func104, Tryz.ntmps104
  go_upto_region 1 with fail
  generalize (w.alloc (.cells (lM x m).toArray 37)).alloc (.cells l0M.toArray 37) = w1 at hR0 hR1 hB0 ⊢
  have hS : memS3 w.heap.size (.int .i64 m.c.1) (.int .u64 (m.c.2.1 : Int)) (.slice x.c.A x.c.s x.c.c) w1.drew := ⟨hR0.cell rfl, hR0.cell rfl, hR0.cell rfl⟩
  have hR0' : Row w1.drew w.heap.size 37 (lM x m) := hR0
  have hR1' : Row w1.drew (w.heap.size + 1) 37 l0M := hR1
  have hB' := hB0.drew
  refine wp_region_last (memS3 w.heap.size (.int .i64 m.c.1) (.int .u64 (m.c.2.1 : Int)) (.slice x.c.A x.c.s x.c.c)) (.step 0 false (.step 3 false (.step 4 false (.step 1 true (.step 2 true (.step 6 false (.step 5 true (.step 7 true (.step 8 false (.nil)))))))))) hS (by rfl) (by kernel_rfl) (by kernel_rfl) (by decide) (by kernel_rfl) (by kernel_rfl) (by kernel_rfl) (by kernel_rfl) ?_
  simp only [initO, List.dropLast]
  clear hR0 hR1 hB0
  generalize w1.drew = wd at *
  iterate 3 (refine plan_read rfl (by rfl) (v := ?_) ?_ ?_; rotate_left 1; (rintro W ⟨hW0, hW1⟩; go_simp <;> with_reducible rfl); simp only [pA, pB, pC, Act.put, pD, pE, pF])
  refine plan_make_of rfl (by rfl) (fun K hK => ?_)
  refine wp_load_mid 32 (.tmp 3) rfl w.heap.size 1 rfl (lB x.b m.b) _ (fun j u hu => ?_) Tryz.underlying32 rfl (by exact size_bundle) ?_
  · match j, hu with
    | 0, hu => exact hR0'.cell hu
    | 1, hu => exact hR0'.cell hu
    | 2, hu => exact hR0'.cell hu
  refine hK.out _ _ hS ?_
  clear hK K
  have HBU := Lib.hid (ownbundle_any x.b m.b wd (HM.out.ib.keep hB'))
  unfold aggBW aggB at HBU
  refine plan_make_of rfl (by rfl) (fun K hK => ?_)
  go_simp
  refine HBU.out.mono ?_
  rintro e w2 ⟨y, rfl, hyb, hyf, -, -, hb2⟩
  have hS2 := cellS3 hS hb2 hR0'.lt
  refine hK.out _ _ hS2 ?_
  clear hK K HBU hS
  have hR0 := hR0'.later hb2
  have hR1 := hR1'.later hb2
  have hB2 := below_step hB' hb2
  have hl1 := hR1'.lt
  have hs2 := hb2.size
  clear hb2 hR0' hR1' hB'
  iterate 1 (refine plan_read rfl (by rfl) (v := ?_) ?_ ?_; rotate_left 1; (rintro W ⟨hW0, hW1⟩; go_simp <;> with_reducible rfl); simp only [pA, pB, pC, Act.put, pD, pE, pF])
  have HCU := Lib.hid (owncache_w x.c m.c w2 (HM.out.ic.keep hB2))
  unfold aggCW aggC at HCU
  refine plan_make_of rfl (by rfl) (fun K hK => ?_)
  go_simp
  refine HCU.out.mono ?_
  rintro e w3 ⟨z, rfl, hzc, hzf, hb3⟩
  have hS3 := cellS3 hS2 hb3 hR0.lt
  refine hK.out _ _ hS3 ?_
  clear hK K HCU hS2
  replace hR0 := hR0.later hb3
  replace hR1 := hR1.later hb3
  replace hyb := hyb.keep hb3
  have hs3 := hb3.size
  have hB3 := below_step hB2 hb3
  clear hb3 hB2
  refine plan_make_of rfl (by rfl) (fun K hK => ?_)
  refine wp_store_mid 32 (.tmp 9) (.tmp 5) rfl w.heap.size 1 (lB y m.b).toArray rfl rfl (there_of hR0 1 3 (by simp)) (by exact size_bundle) (by exact all_oneCell_toArray (one_three _ _ _ rfl rfl rfl)) ?_
  have hO4 := Only.setCells (g := w.heap.size) (lB y m.b) 1 (Only.refl _ w3)
  have hR4 : Row (w3.setCells w.heap.size 1 (lB y m.b)) w.heap.size 37 [.int .u64 (m.clock : Int), .int .u64 (m.b.1 : Int), .slice y.eA y.n y.ec, .slice y.gA y.g y.gc, .int .i64 m.c.1, .int .u64 (m.c.2.1 : Int), .slice x.c.A x.c.s x.c.c] := hR0.setCells _ 1 (by simp)
  refine hK.out _ _ ⟨hR4.cell rfl, hR4.cell rfl, hR4.cell rfl⟩ ?_
  clear hK K
  have hR14 := hR1.only hO4 (by omega)
  have hyb4 := hyb.only hO4 (hyf.mono (by omega))
  have hzc4 := hzc.only hO4 (hzf.mono (by omega))
  have hB4 := hB3.trans hO4.below
  clear hR0 hR1 hyb hzc hS3 hB3
  have hl4 := hO4.below.size
  clear hO4
  generalize w3.setCells w.heap.size 1 (lB y m.b) = w4 at *
  have hS4 : memS3 w.heap.size (.int .i64 m.c.1) (.int .u64 (m.c.2.1 : Int)) (.slice x.c.A x.c.s x.c.c) w4 := ⟨hR4.cell rfl, hR4.cell rfl, hR4.cell rfl⟩
  iterate 1 (refine plan_read rfl (by rfl) (v := ?_) ?_ ?_; rotate_left 1; (rintro W ⟨hW0, hW1⟩; go_simp <;> with_reducible rfl); simp only [pA, pB, pC, Act.put, pD, pE, pF])
  refine planLast_done rfl (by rfl) ?_
  refine wp_store_mid 35 (.tmp 10) (.tmp 8) rfl w.heap.size 4 (lC z m.c).toArray rfl rfl (there_of hR4 4 3 (by simp)) (by exact size_cache) (by exact all_oneCell_toArray (one_three _ _ _ rfl rfl rfl)) ?_
  have hO5 := Only.setCells (g := w.heap.size) (lC z m.c) 4 (Only.refl _ w4)
  have hR5 : Row (w4.setCells w.heap.size 4 (lC z m.c)) w.heap.size 37 [.int .u64 (m.clock : Int), .int .u64 (m.b.1 : Int), .slice y.eA y.n y.ec, .slice y.gA y.g y.gc, .int .i64 m.c.1, .int .u64 (m.c.2.1 : Int), .slice z.A z.s z.c] := hR4.setCells _ 4 (by simp)
  have hR15 := hR14.only hO5 (by omega)
  have hyb5 := hyb4.only hO5 (hyf.mono (by omega))
  have hzc5 := hzc4.only hO5 (hzf.mono (by omega))
  have hB5 := hB4.trans hO5.below
  clear hR4 hR14 hyb4 hzc4 hB4 hO5 hS4
  generalize w4.setCells w.heap.size 4 (lC z m.c) = w5 at *
  go_wp2_with (first
    | (refine wpList_load_part rfl 37 (.tmp 1) rfl (w.heap.size) 0 rfl _ _ (hR5) ([.int .u64 (m.clock : Int), .int .u64 (m.b.1 : Int), .slice y.eA y.n y.ec, .slice y.gA y.g y.gc, .int .i64 m.c.1, .int .u64 (m.c.2.1 : Int), .slice z.A z.s z.c]) (by rfl) _ Tryz.underlying37 rfl (by exact size_memory) ?_)
    | (refine wpList_store_row rfl 37 (.tmp 2) (.tmp 11) rfl (w.heap.size + 1) rfl ([.int .u64 (m.clock : Int), .int .u64 (m.b.1 : Int), .slice y.eA y.n y.ec, .slice y.gA y.g y.gc, .int .i64 m.c.1, .int .u64 (m.c.2.1 : Int), .slice z.A z.s z.c]) rfl _ _ (hR15) (by exact size_memory) rfl (one_memory ⟨y, z⟩ m) ?_))
  refine bodyPost_ret (results_cell_row (p := 2) (ty := 37) (by rfl) _ _ (w.heap.size + 1) 37 _ (0, 0) _ (by rfl) (by exact hR15.setRow _) Tryz.underlying37 (by rfl) (by exact size_memory)) (by rfl) ?_
  have hO6 := (Only.refl (w.heap.size + 1) w5).setRow [.int .u64 (m.clock : Int), .int .u64 (m.b.1 : Int), .slice y.eA y.n y.ec, .slice y.gA y.g y.gc, .int .i64 m.c.1, .int .u64 (m.c.2.1 : Int), .slice z.A z.s z.c].toArray
  exact ⟨⟨y, z⟩, rfl, ⟨HM.out.fc, hyb5.only hO6 (hyf.mono (by omega)), hzc5.only hO6 (hzf.mono (by omega))⟩, ⟨hyf.mono (by omega), hzf.mono (by omega)⟩, below_setRow hB5 (by omega) _⟩
def RetOwnS (w : World) (s : ShK) (e : Ending) (w' : World) : Prop := ∃ y, e = .returned (aggS y s) ∧ InS w' y s ∧ FreshS w.heap.size y ∧ Below w.heap.size w w'
def memS7 (g : Nat) (a b c d e f h : Value) (W : World) : Prop := W.cell? ⟨g, 9, none⟩ = some a ∧ (W.cell? ⟨g, 10, none⟩ = some b ∧ (W.cell? ⟨g, 11, none⟩ = some c ∧ (W.cell? ⟨g, 12, none⟩ = some d ∧ (W.cell? ⟨g, 13, none⟩ = some e ∧ (W.cell? ⟨g, 14, none⟩ = some f ∧ W.cell? ⟨g, 15, none⟩ = some h)))))
theorem memS7_of {g : Nat} {a b c d e f h : Value} {t : TypeId} {l : List Value} {W : World} (hR : Row W g t l) (hl : (l.drop 9) = [a, b, c, d, e, f, h]) : memS7 g a b c d e f h W := by
  have hg : ∀ j v, [a, b, c, d, e, f, h][j]? = some v → W.cell? ⟨g, 9 + j, none⟩ = some v := fun j v hv => by
    rw [hR.cell? (9 + j), ← List.getElem?_drop, hl]
    exact hv
  exact ⟨hg 0 _ rfl, hg 1 _ rfl, hg 2 _ rfl, hg 3 _ rfl, hg 4 _ rfl, hg 5 _ rfl, hg 6 _ rfl⟩
set_option maxHeartbeats 8000000 in
theorem ownshelf_any (x : WS) (s : ShK) (w : World) (h : InS w x s) (hn0 : x.d.n0 ≤ 70368744177664) (hn1 : x.d.n1 ≤ 70368744177664) : Calls Tryz.prog 52 #[aggS x s] w (RetOwnS w s) := by
  obtain ⟨hR0, hR1, hB0⟩ := two_boxes w 39 39 (lS x s) l0S _ _ rfl rfl
  have HM := Lib.hid h
  clear h
  unfold aggS
  go_enter Tryz.func52, Tryz.ntmps52
  go_upto_region 1 with fail
  generalize (w.alloc (.cells (lS x s).toArray 39)).alloc (.cells l0S.toArray 39) = w1 at hR0 hR1 hB0 ⊢
  have hS : memS7 w.heap.size (.int .u64 (s.m.clock : Int)) (.int .u64 (s.m.b.1 : Int)) (.slice x.m.b.eA x.m.b.n x.m.b.ec) (.slice x.m.b.gA x.m.b.g x.m.b.gc) (.int .i64 s.m.c.1) (.int .u64 (s.m.c.2.1 : Int)) (.slice x.m.c.A x.m.c.s x.m.c.c) w1.drew := memS7_of hR0 rfl
  have hR0' : Row w1.drew w.heap.size 39 (lS x s) := hR0
  have hR1' : Row w1.drew (w.heap.size + 1) 39 l0S := hR1
  have hB' := hB0.drew
  refine wp_region_last (memS7 w.heap.size (.int .u64 (s.m.clock : Int)) (.int .u64 (s.m.b.1 : Int)) (.slice x.m.b.eA x.m.b.n x.m.b.ec) (.slice x.m.b.gA x.m.b.g x.m.b.gc) (.int .i64 s.m.c.1) (.int .u64 (s.m.c.2.1 : Int)) (.slice x.m.c.A x.m.c.s x.m.c.c)) (.step 0 false (.step 3 false (.step 4 false (.step 1 true (.step 2 true (.step 6 false (.step 5 true (.step 7 true (.step 8 false (.nil)))))))))) hS (by rfl) (by kernel_rfl) (by kernel_rfl) (by decide) (by kernel_rfl) (by kernel_rfl) (by kernel_rfl) (by kernel_rfl) ?_
  simp only [initO, List.dropLast]
  clear hR0 hR1 hB0
  generalize w1.drew = wd at *
  iterate 3 (refine plan_read rfl (by rfl) (v := ?_) ?_ ?_; rotate_left 1; (rintro W ⟨hW0, hW1⟩; go_simp <;> with_reducible rfl); simp only [pA, pB, pC, Act.put, pD, pE, pF])
  refine plan_make_of rfl (by rfl) (fun K hK => ?_)
  refine wp_load_mid 27 (.tmp 3) rfl w.heap.size 0 rfl (lD x.d s.d) _ (fun j u hu => ?_) Tryz.underlying27 rfl (by exact size_disk) ?_
  · match j, hu with
    | 0, hu => exact hR0'.cell hu
    | 1, hu => exact hR0'.cell hu
    | 2, hu => exact hR0'.cell hu
    | 3, hu => exact hR0'.cell hu
    | 4, hu => exact hR0'.cell hu
    | 5, hu => exact hR0'.cell hu
    | 6, hu => exact hR0'.cell hu
  refine hK.out _ _ hS ?_
  clear hK K
  have HBU := Lib.hid (own17_any x.d s.d wd (HM.out.id.keep hB') hn0 hn1)
  unfold aggD at HBU
  refine plan_make_of rfl (by rfl) (fun K hK => ?_)
  go_simp
  refine HBU.out.mono ?_
  rintro e w2 ⟨y, rfl, h20, h21, h22, h23, h24, h25, -, hb2⟩
  obtain ⟨hyb, hyf⟩ := own_in (x := y) (D := s.d) h24 h25
  unfold aggD
  have hS2 : memS7 w.heap.size (.int .u64 (s.m.clock : Int)) (.int .u64 (s.m.b.1 : Int)) (.slice x.m.b.eA x.m.b.n x.m.b.ec) (.slice x.m.b.gA x.m.b.g x.m.b.gc) (.int .i64 s.m.c.1) (.int .u64 (s.m.c.2.1 : Int)) (.slice x.m.c.A x.m.c.s x.m.c.c) w2 := memS7_of (hR0'.later hb2) rfl
  refine hK.out _ _ hS2 ?_
  clear hK K HBU hS h20 h21 h22 h23 h24 h25
  have hR0 := hR0'.later hb2
  have hR1 := hR1'.later hb2
  have hB2 := below_step hB' hb2
  have hl1 := hR1'.lt
  have hs2 := hb2.size
  clear hb2 hR0' hR1' hB'
  iterate 1 (refine plan_read rfl (by rfl) (v := ?_) ?_ ?_; rotate_left 1; (rintro W ⟨hW0, hW1⟩; go_simp <;> with_reducible rfl); simp only [pA, pB, pC, Act.put, pD, pE, pF])
  have HCU := Lib.hid (ownmemory_any x.m s.m w2 (HM.out.im.keep hB2))
  unfold aggM at HCU
  refine plan_make_of rfl (by rfl) (fun K hK => ?_)
  go_simp
  refine HCU.out.mono ?_
  rintro e w3 ⟨z, rfl, hzc, hzf, hb3⟩
  unfold aggM
  have hS3 : memS7 w.heap.size (.int .u64 (s.m.clock : Int)) (.int .u64 (s.m.b.1 : Int)) (.slice x.m.b.eA x.m.b.n x.m.b.ec) (.slice x.m.b.gA x.m.b.g x.m.b.gc) (.int .i64 s.m.c.1) (.int .u64 (s.m.c.2.1 : Int)) (.slice x.m.c.A x.m.c.s x.m.c.c) w3 := memS7_of (hR0.later hb3) rfl
  refine hK.out _ _ hS3 ?_
  clear hK K HCU hS2
  replace hR0 := hR0.later hb3
  replace hR1 := hR1.later hb3
  replace hyb := hyb.keep hb3
  have hs3 := hb3.size
  have hB3 := below_step hB2 hb3
  clear hb3 hB2
  refine plan_make_of rfl (by rfl) (fun K hK => ?_)
  refine wp_store_mid 27 (.tmp 9) (.tmp 5) rfl w.heap.size 0 (lD y s.d).toArray rfl rfl (there_of hR0 0 7 (by simp)) (by exact size_disk) (by exact all_oneCell_toArray (one_disk y s.d)) ?_
  have hO4 := Only.setCells (g := w.heap.size) (lD y s.d) 0 (Only.refl _ w3)
  have hR4 : Row (w3.setCells w.heap.size 0 (lD y s.d)) w.heap.size 39 [.slice y.A0 y.n0 y.c0, .int .i64 s.d.a0.s, .slice y.A1 y.n1 y.c1, .int .i64 s.d.a1.s, .int .i64 s.d.fuse, .int .i64 s.d.keep, .bool s.d.down, .int .i64 s.turn, .int .u64 (s.num : Int), .int .u64 (s.m.clock : Int), .int .u64 (s.m.b.1 : Int), .slice x.m.b.eA x.m.b.n x.m.b.ec, .slice x.m.b.gA x.m.b.g x.m.b.gc, .int .i64 s.m.c.1, .int .u64 (s.m.c.2.1 : Int), .slice x.m.c.A x.m.c.s x.m.c.c] := hR0.setCells _ 0 (by simp)
  refine hK.out _ _ (memS7_of hR4 rfl) ?_
  clear hK K
  have hR14 := hR1.only hO4 (by omega)
  have hyb4 := hyb.only hO4 (hyf.mono (by omega))
  have hzc4 := hzc.only hO4 (hzf.mono (by omega))
  have hB4 := hB3.trans hO4.below
  clear hR0 hR1 hyb hzc hS3 hB3
  have hl4 := hO4.below.size
  clear hO4
  generalize w3.setCells w.heap.size 0 (lD y s.d) = w4 at *
  have hS4 : memS7 w.heap.size (.int .u64 (s.m.clock : Int)) (.int .u64 (s.m.b.1 : Int)) (.slice x.m.b.eA x.m.b.n x.m.b.ec) (.slice x.m.b.gA x.m.b.g x.m.b.gc) (.int .i64 s.m.c.1) (.int .u64 (s.m.c.2.1 : Int)) (.slice x.m.c.A x.m.c.s x.m.c.c) w4 := memS7_of hR4 rfl
  iterate 1 (refine plan_read rfl (by rfl) (v := ?_) ?_ ?_; rotate_left 1; (rintro W ⟨hW0, hW1⟩; go_simp <;> with_reducible rfl); simp only [pA, pB, pC, Act.put, pD, pE, pF])
  refine planLast_done rfl (by rfl) ?_
  refine wp_store_mid 37 (.tmp 10) (.tmp 8) rfl w.heap.size 9 (lM z s.m).toArray rfl rfl (there_of hR4 9 7 (by simp)) (by exact size_memory) (by exact all_oneCell_toArray (one_memory z s.m)) ?_
  have hO5 := Only.setCells (g := w.heap.size) (lM z s.m) 9 (Only.refl _ w4)
  have hR5 : Row (w4.setCells w.heap.size 9 (lM z s.m)) w.heap.size 39 [.slice y.A0 y.n0 y.c0, .int .i64 s.d.a0.s, .slice y.A1 y.n1 y.c1, .int .i64 s.d.a1.s, .int .i64 s.d.fuse, .int .i64 s.d.keep, .bool s.d.down, .int .i64 s.turn, .int .u64 (s.num : Int), .int .u64 (s.m.clock : Int), .int .u64 (s.m.b.1 : Int), .slice z.b.eA z.b.n z.b.ec, .slice z.b.gA z.b.g z.b.gc, .int .i64 s.m.c.1, .int .u64 (s.m.c.2.1 : Int), .slice z.c.A z.c.s z.c.c] := hR4.setCells _ 9 (by simp)
  have hR15 := hR14.only hO5 (by omega)
  have hyb5 := hyb4.only hO5 (hyf.mono (by omega))
  have hzc5 := hzc4.only hO5 (hzf.mono (by omega))
  have hB5 := hB4.trans hO5.below
  clear hR4 hR14 hyb4 hzc4 hB4 hO5 hS4
  generalize w4.setCells w.heap.size 9 (lM z s.m) = w5 at *
  go_wp2_with (first
    | (refine wpList_load_part rfl 39 (.tmp 1) rfl (w.heap.size) 0 rfl _ _ (hR5) ([.slice y.A0 y.n0 y.c0, .int .i64 s.d.a0.s, .slice y.A1 y.n1 y.c1, .int .i64 s.d.a1.s, .int .i64 s.d.fuse, .int .i64 s.d.keep, .bool s.d.down, .int .i64 s.turn, .int .u64 (s.num : Int), .int .u64 (s.m.clock : Int), .int .u64 (s.m.b.1 : Int), .slice z.b.eA z.b.n z.b.ec, .slice z.b.gA z.b.g z.b.gc, .int .i64 s.m.c.1, .int .u64 (s.m.c.2.1 : Int), .slice z.c.A z.c.s z.c.c]) (by rfl) _ Tryz.underlying39 rfl (by exact size_shelf) ?_)
    | (refine wpList_store_row rfl 39 (.tmp 2) (.tmp 11) rfl (w.heap.size + 1) rfl ([.slice y.A0 y.n0 y.c0, .int .i64 s.d.a0.s, .slice y.A1 y.n1 y.c1, .int .i64 s.d.a1.s, .int .i64 s.d.fuse, .int .i64 s.d.keep, .bool s.d.down, .int .i64 s.turn, .int .u64 (s.num : Int), .int .u64 (s.m.clock : Int), .int .u64 (s.m.b.1 : Int), .slice z.b.eA z.b.n z.b.ec, .slice z.b.gA z.b.g z.b.gc, .int .i64 s.m.c.1, .int .u64 (s.m.c.2.1 : Int), .slice z.c.A z.c.s z.c.c]) rfl _ _ (hR15) (by exact size_shelf) rfl (one_shelf ⟨y, z⟩ s) ?_))
  refine bodyPost_ret (results_cell_row (p := 2) (ty := 39) (by rfl) _ _ (w.heap.size + 1) 39 _ (0, 0) _ (by rfl) (by exact hR15.setRow _) Tryz.underlying39 (by rfl) (by exact size_shelf)) (by rfl) ?_
  have hO6 := (Only.refl (w.heap.size + 1) w5).setRow [.slice y.A0 y.n0 y.c0, .int .i64 s.d.a0.s, .slice y.A1 y.n1 y.c1, .int .i64 s.d.a1.s, .int .i64 s.d.fuse, .int .i64 s.d.keep, .bool s.d.down, .int .i64 s.turn, .int .u64 (s.num : Int), .int .u64 (s.m.clock : Int), .int .u64 (s.m.b.1 : Int), .slice z.b.eA z.b.n z.b.ec, .slice z.b.gA z.b.g z.b.gc, .int .i64 s.m.c.1, .int .u64 (s.m.c.2.1 : Int), .slice z.c.A z.c.s z.c.c].toArray
  exact ⟨⟨y, z⟩, rfl, ⟨hyb5.only hO6 (hyf.mono (by omega)), hzc5.only hO6 (hzf.mono (by omega))⟩, ⟨hyf.mono (by omega), hzf.mono (by omega)⟩, below_setRow hB5 (by omega) _⟩
end Go.Proofs.YteppocjgodmpdaaGreatDoor
namespace Go.Proofs.YteppocjgodmpdaaGreatDoor
open Go.RowKit
def beB (v : Nat) (es : List En) (k : Nat) : List UInt8 := 66 :: (putL v ++ (UInt8.ofNat es.length :: flatE (es.take k)))
theorem beB_next (v : Nat) (es : List En) (k : Nat) (h : k < es.length) : beB v es (k + 1) = beB v es k ++ putL es[k].1 ++ putL es[k].2.1 ++ [UInt8.ofNat es[k].2.2.length] ++ es[k].2.2 := by
  unfold beB flatE
  rw [List.take_succ_eq_append_getElem h, List.flatMap_append]
  simp [oneE]
theorem beB_all (v : Nat) (es : List En) (gs : List Gn) : beB v es es.length ++ bytesG gs = bytesB v es gs := by
  unfold beB bytesB
  rw [List.take_length]
  simp
theorem flatE_short : ∀ (es : List En), (∀ x ∈ es, x.2.2.length ≤ 32) → (flatE es).length ≤ 49 * es.length
  | [], _ => by simp [flatE]
  | a :: es, h => by
    have ih := flatE_short es (fun x hx => h x (List.mem_cons_of_mem _ hx))
    have ha := h a (List.mem_cons_self ..)
    rw [flatE_cons, List.length_append, oneE_length, List.length_cons]
    omega
theorem beB_short (v : Nat) (es : List En) (k : Nat) (h : ∀ x ∈ es, x.2.2.length ≤ 32) : (beB v es k).length ≤ 10 + 49 * es.length := by
  have h1 := flatE_short (es.take k) (fun x hx => h x (List.mem_of_mem_take hx))
  unfold beB
  rw [List.length_cons, List.length_append, putL_l8, List.length_cons]
  have : (es.take k).length ≤ es.length := by rw [List.length_take]; omega
  omega
def ByB (v : Nat) (es : List ED) (w : World) (u i : Value) (wr : World) : Prop := ∃ k : Nat, k ≤ es.length ∧ i = .int .i64 (k : Int) ∧ wr.ownsRow w.heap.size 5 1 u (beB v (conE es) k).length ((beB v (conE es) k).map vB) ∧ Below w.heap.size w wr
theorem byB_next {v : Nat} {es : List ED} {w wr : World} {u : Value} {k n1 : Nat} {L1 L2 : List UInt8} {Y : List UInt8} (h : k < es.length) (h1 : putL es[k].t = L1) (h2 : putL es[k].e = L2) (ho : wr.ownsRow w.heap.size 5 1 u n1 ((beB v (conE es) k).map vB ++ L1.map vB ++ L2.map vB ++ [vB (UInt8.ofNat es[k].s.length)] ++ es[k].s.map vB)) (hn : n1 = (beB v (conE es) k).length + L1.length + L2.length + 1 + es[k].s.length) (hB : Below w.heap.size w wr) : ByB v es w u (.int .i64 ((k : Int) + 1)) wr := by
  refine ⟨k + 1, by omega, by go_num, ?_, hB⟩
  have hk : k < (conE es).length := by rw [conE_length]; exact h
  have hN := beB_next v (conE es) k hk
  rw [conE_get es k h] at hN
  unfold ED.con at hN
  dsimp only at hN
  rw [h1, h2] at hN
  rw [hN]
  subst hn
  simpa [Nat.add_assoc, Nat.add_comm 1 es[k].s.length] using ho
theorem byte_one (n : Nat) (h : n ≤ 255) : vB (UInt8.ofNat n) = .int .u8 (n : Int) := by
  unfold vB
  rw [UInt8.toNat_ofNat']
  congr 1
  omega
end Go.Proofs.YteppocjgodmpdaaGreatDoor
