/-
  What the reference of layer 19 answers: Less, Right, Has, Same. No conditions but those typed.
-/
import Derived.Test.YteljklkgdejhpaaGreatDoorQO13
import Derived.LoopN
import Derived.Deep.DeepCutAuto
set_option linter.unusedSimpArgs false
set_option linter.unusedVariables false
set_option maxRecDepth 100000
namespace Go.Proofs.YteljklkgdejhpaaGreatDoor
open Go.RowKit
theorem lessU_any (a b : Us) (w : World) : Calls Tryz.prog 58 #[aggU a, aggU b] w fun e w' => e = .returned (.bool (ltU a b)) ∧ Below w.heap.size w w' := by
  obtain ⟨a0, a1, a2⟩ := a
  obtain ⟨b0, b1, b2⟩ := b
  obtain ⟨r, hr⟩ : ∃ r, ltU (a0, a1, a2) (b0, b1, b2) = r := ⟨_, rfl⟩
  rw [hr]
  have HX := Lib.hid hr
  clear hr
  unfold aggU vNU
  dsimp only
  have hR0 : Row ((w.alloc (.cells #[.int .u64 (a0 : Int), .int .u64 (a1 : Int), .int .u64 (a2 : Int)] 57)).alloc (.cells #[.int .u64 (b0 : Int), .int .u64 (b1 : Int), .int .u64 (b2 : Int)] 57)) w.heap.size 57 [.int .u64 (a0 : Int), .int .u64 (a1 : Int), .int .u64 (a2 : Int)] := (Row.new w _ _ _ rfl).alloc _
  have hR1 : Row ((w.alloc (.cells #[.int .u64 (a0 : Int), .int .u64 (a1 : Int), .int .u64 (a2 : Int)] 57)).alloc (.cells #[.int .u64 (b0 : Int), .int .u64 (b1 : Int), .int .u64 (b2 : Int)] 57)) (w.heap.size + 1) 57 [.int .u64 (b0 : Int), .int .u64 (b1 : Int), .int .u64 (b2 : Int)] := Row.new_at _ _ (by simp) _ _ _ rfl
  have hB := below_new (below_new (Below.refl _ w) (.cells #[.int .u64 (a0 : Int), .int .u64 (a1 : Int), .int .u64 (a2 : Int)] 57)) (.cells #[.int .u64 (b0 : Int), .int .u64 (b1 : Int), .int .u64 (b2 : Int)] 57)
  go_enter Tryz.func58, Tryz.ntmps58
  go_upto_region 1 with fail
  generalize (w.alloc (.cells #[.int .u64 (a0 : Int), .int .u64 (a1 : Int), .int .u64 (a2 : Int)] 57)).alloc (.cells #[.int .u64 (b0 : Int), .int .u64 (b1 : Int), .int .u64 (b2 : Int)] 57) = w3 at hR0 hR1 hB ⊢
  have c0 := hR0.cell (i := 0) rfl
  have c1 := hR0.cell (i := 1) rfl
  have c2 := hR0.cell (i := 2) rfl
  have d0 := hR1.cell (i := 0) rfl
  have d1 := hR1.cell (i := 1) rfl
  have d2 := hR1.cell (i := 2) rfl
  have HB := Lib.hid hB
  clear hR0 hR1 hB
  by_cases e0 : a0 = b0
  · by_cases e1 : a1 = b1
    · have HT : Hid (r = decide ((a2 : Int) < (b2 : Int))) := by
        unfold Hid
        rw [← HX.out]
        unfold ltU
        rw [decide_eq_decide]
        dsimp only
        omega
      go_wp2_with fail
      go_ret
      exact ⟨by rw [HT.out]; simp, HB.out⟩
    · have HT : Hid (r = decide ((a1 : Int) < (b1 : Int))) := by
        unfold Hid
        rw [← HX.out]
        unfold ltU
        rw [decide_eq_decide]
        dsimp only
        omega
      go_wp2_with fail
      go_ret
      exact ⟨by rw [HT.out]; simp, HB.out⟩
  · have HT : Hid (r = decide ((a0 : Int) < (b0 : Int))) := by
      unfold Hid
      rw [← HX.out]
      unfold ltU
      rw [decide_eq_decide]
      dsimp only
      omega
    go_wp2_with fail
    go_ret
    exact ⟨by rw [HT.out]; simp, HB.out⟩
def goodU (fl : Nat) (l : List Us) (k : Nat) : Prop := ∀ j (h : j < l.length), j < k → fl ≤ l[j].2.2 ∧ ∀ i (hi : i + 1 = j), ltU (l[i]'(by omega)) l[j] = true
theorem goodU_all {fl : Nat} {l : List Us} (h : goodU fl l l.length) : (∀ u ∈ l, fl ≤ u.2.2) ∧ sortU l = true :=
  ⟨fun u hu => by
    obtain ⟨j, hj, rfl⟩ := List.getElem_of_mem hu
    exact (h j hj hj).1, (sortU_at l).2 (fun k hk => (h (k + 1) hk hk).2 k rfl)⟩
set_option maxHeartbeats 2000000 in
theorem refright19_any (room : Int) (fl : Nat) (l : List Us) (n c : Nat) (A : Option Addr) (w : World) (HN : Hid (l.length = n)) (hr : RdU w A l) (hn : n ≤ 1000000000) :
    Calls Tryz.prog 28 #[aggC room fl A n c] w fun e w' => e = .returned (.bool (rightC (room, fl, l))) ∧ Below w.heap.size w w' := by
  obtain ⟨P, hP⟩ : ∃ P, rightC (room, fl, l) = P := ⟨_, rfl⟩
  rw [hP]
  have HP := Lib.hid hP
  clear hP
  obtain ⟨hR, hB0⟩ := box_of w 35 [.int .i64 room, .int .u64 (fl : Int), .slice A n c] _ rfl
  unfold aggC
  go_enter Tryz.func28, Tryz.ntmps28
  go_upto_region 1 with fail
  generalize w.alloc (.cells #[.int .i64 room, .int .u64 (fl : Int), .slice A n c] 35) = w1 at hR hB0 ⊢
  have hlt := hR.lt
  obtain ⟨bg, hbgE⟩ : ∃ bg, bg = w.heap.size := ⟨_, rfl⟩
  rw [← hbgE] at hR hlt ⊢
  have HBG := Lib.hid hbgE
  clear hbgE
  have c0 := hR.cell (i := 0) rfl
  have c1 := hR.cell (i := 1) rfl
  have c2 := hR.cell (i := 2) rfl
  have HB0 := Lib.hid hB0
  have hr1 := hr.keep hB0
  clear hB0 hr
  by_cases h0 : room < 0
  · have HP2 : Hid (P = false) := by
      unfold Hid
      rw [← HP.out, Bool.eq_false_iff]
      intro h
      have := (right_c.1 h).1
      dsimp only at this
      omega
    go_wp2_with fail
    go_ret
    exact ⟨by rw [HP2.out]; rfl, HB0.out⟩
  by_cases h1 : 64 < room
  · have HP2 : Hid (P = false) := by
      unfold Hid
      rw [← HP.out, Bool.eq_false_iff]
      intro h
      have := (right_c.1 h).1
      dsimp only at this
      omega
    go_wp2_with fail
    go_ret
    exact ⟨by rw [HP2.out]; rfl, HB0.out⟩
  by_cases h2 : room < (n : Int)
  · have HP2 : Hid (P = false) := by
      unfold Hid
      rw [← HP.out, Bool.eq_false_iff]
      intro h
      have := (right_c.1 h).2.1
      rw [HN.out] at this
      dsimp only at this
      omega
    go_wp2_with fail
    go_ret
    exact ⟨by rw [HP2.out]; rfl, HB0.out⟩
  have HRM : Hid ((0 ≤ room ∧ room ≤ 64) ∧ (l.length : Int) ≤ room) := ⟨⟨by omega, by omega⟩, by rw [HN.out]; omega⟩
  have HBAD : Hid (∀ k (hk : k < l.length), l[k].2.2 < fl → P = false) := fun k hk hb => by
    rw [← HP.out, Bool.eq_false_iff]
    intro h
    have := (right_c.1 h).2.2.1 _ (List.getElem_mem hk)
    dsimp only at this
    omega
  have HBAD2 : Hid (∀ k (hk : k + 1 < l.length), ltU l[k] l[k + 1] = false → P = false) := fun k hk hb => by
    rw [← HP.out, Bool.eq_false_iff]
    intro h
    have := (sortU_at l).1 ((sortU_pair l).2 (right_c.1 h).2.2.2) k hk
    rw [hb] at this
    cases this
  have HOK : Hid (goodU fl l l.length → P = true) := fun h => by
    obtain ⟨h3, h4⟩ := goodU_all h
    rw [← HP.out]
    exact right_c.2 ⟨HRM.out.1, HRM.out.2, h3, (sortU_pair l).1 h4⟩
  go_wp2_with fail
  clear h0 h1 h2 HRM
  go_loopw [3] (fun i wr => (∃ k : Nat, i = .int .i64 (k : Int) ∧ k ≤ n ∧ goodU fl l k) ∧ Below w1.heap.size w1 wr) (fun i _ => n - (intOf i).toNat)
  case atStart => exact ⟨⟨0, rfl, by omega, fun j _ hj => by omega⟩, Below.refl _ _⟩
  case round =>
    clear c0 c1 c2
    obtain ⟨⟨k, rfl, hk, hs⟩, hB⟩ := hrel
    have HS := Lib.hid hs
    have HB := Lib.hid hB
    have hR2 := hR.later hB
    have c2 : wr.cell? ⟨bg, 2, none⟩ = some (.slice A n c) := hR2.cell rfl
    clear hs
    by_cases hlt : k < n
    · have hkl : k < l.length := by rw [HN.out]; exact hlt
      obtain ⟨b, o, rfl, hb, hcell⟩ := hr1.at hkl
      obtain ⟨q0, q1, q2⟩ := hcell k hkl
      have HK1 := Lib.hid (HBAD.out k hkl)
      have i2 : (0 : Int) ≤ (k : Int) := by omega
      have i3 : (k : Int) < (n : Int) := by omega
      have e1 : ∀ W, Below wr.heap.size wr W → W.cell? ⟨bg, 1, none⟩ = some (.int .u64 (fl : Int)) := fun W hW => (hR2.later hW).cell rfl
      have e2 : ∀ W, Below wr.heap.size wr W → W.cell? ⟨bg, 2, none⟩ = some (.slice (some ⟨b, o, none⟩) n c) := fun W hW => (hR2.later hW).cell rfl
      by_cases hk0 : k = 0
      · subst hk0
        have HG : Hid (fl ≤ l[0].2.2 → goodU fl l 1) := fun h j hj hj1 => by
          have : j = 0 := by omega
          subst this
          exact ⟨h, fun i hi => by omega⟩
        generalize l[0] = y at q0 q1 q2 HK1 HG
        obtain ⟨y0, y1, y2⟩ := y
        unfold vNU at q0 q1 q2
        dsimp only at q0 q1 q2 HK1 HG
        have d2 : ∀ W, Below wr.heap.size wr W → W.cell? ⟨b, o + 2, none⟩ = some (.int .u64 (y2 : Int)) := fun W hW => by
          have := ((hB.trans (hW.mono hB.size)).cell (p := ⟨b, o + 0 * 3 + 2, none⟩) hb).trans q2
          simpa using this
        clear hcell q0 q1 q2 hB hR2
        go_wp2_with fail
        have hBase := (Below.refl wr.heap.size wr).drew
        refine wp_region_plan (.step 0 false (.step 1 false (.step 2 false (.step 3 false (.step 4 false (.step 5 false (.step 6 false (.step 7 false (.step 8 false (.step 9 false (.step 10 false (.step 11 false (.step 12 false (.step 13 false (.step 14 false (.step 15 false (.step 16 false (.step 17 false (.step 18 false (.step 19 false (.step 20 false (.step 21 false (.step 22 false (.step 23 false (.step 24 true (.step 25 false (.step 26 false (.step 27 false (.nil))))))))))))))))))))))))))))) (by kernel_rfl) (by kernel_rfl) (by rfl) (by kernel_rfl) ?_
        by_cases hy : y2 < fl
        · have HF2 := Lib.hid (HK1.out hy)
          have hd : decide ((y2 : Int) < (fl : Int)) = true := decide_eq_true (by omega)
          iterate 10 (refine plan_read rfl (by rfl) (v := ?_) ?_ ?_; rotate_left 1; (intro W hW; have hW0 := below_step hBase hW; (try dsimp only at hW); go_simp <;> with_reducible rfl); simp only [List.getElem_toArray, List.getElem_cons_zero, List.getElem_cons_succ, Act.put, List.setIfInBounds_toArray, List.set_cons_zero, List.set_cons_succ])
          iterate 17 (refine plan_skip rfl (by rfl) ?_; simp only [List.getElem_toArray, List.getElem_cons_zero, List.getElem_cons_succ, Act.put, List.setIfInBounds_toArray, List.set_cons_zero, List.set_cons_succ])
          iterate 1 (refine plan_read rfl (by rfl) (v := ?_) ?_ ?_; rotate_left 1; (intro W hW; have hW0 := below_step hBase hW; (try dsimp only at hW); go_simp <;> with_reducible rfl); simp only [List.getElem_toArray, List.getElem_cons_zero, List.getElem_cons_succ, Act.put, List.setIfInBounds_toArray, List.set_cons_zero, List.set_cons_succ])
          refine plan_done ?_
          have HB2 := Lib.hid (below_step HB0.out (below_step HB.out hBase))
          go_wp2_with fail
          go_ret
          exact ⟨by rw [HF2.out]; rfl, HB2.out⟩
        · have HF2 := Lib.hid (HG.out (by omega))
          have hd : decide ((y2 : Int) < (fl : Int)) = false := decide_eq_false (by omega)
          iterate 13 (refine plan_read rfl (by rfl) (v := ?_) ?_ ?_; rotate_left 1; (intro W hW; have hW0 := below_step hBase hW; (try dsimp only at hW); go_simp <;> with_reducible rfl); simp only [List.getElem_toArray, List.getElem_cons_zero, List.getElem_cons_succ, Act.put, List.setIfInBounds_toArray, List.set_cons_zero, List.set_cons_succ])
          iterate 13 (refine plan_skip rfl (by rfl) ?_; simp only [List.getElem_toArray, List.getElem_cons_zero, List.getElem_cons_succ, Act.put, List.setIfInBounds_toArray, List.set_cons_zero, List.set_cons_succ])
          iterate 2 (refine plan_read rfl (by rfl) (v := ?_) ?_ ?_; rotate_left 1; (intro W hW; have hW0 := below_step hBase hW; (try dsimp only at hW); go_simp <;> with_reducible rfl); simp only [List.getElem_toArray, List.getElem_cons_zero, List.getElem_cons_succ, Act.put, List.setIfInBounds_toArray, List.set_cons_zero, List.set_cons_succ])
          refine plan_done ?_
          have HB2 := Lib.hid (below_step HB.out hBase)
          go_wp2_with fail
          go_roundw
          case rel => exact ⟨⟨1, by go_num, by omega, HF2.out⟩, HB2.out⟩
          case measure => simp [intOf]; omega
      · obtain ⟨m, hm⟩ : ∃ m, m = k - 1 := ⟨_, rfl⟩
        have hw : IntKind.i64.wrap ((k : Int) - 1) = (m : Int) := by rw [IntKind.wrap_i64]; omega
        have hmk : m + 1 = k := by omega
        have hml : m < l.length := by omega
        obtain ⟨p0, p1, p2⟩ := hcell m hml
        have HK2 : Hid (ltU l[m] l[k] = false → P = false) := fun h => HBAD2.out m (by omega) (by simpa only [hmk] using h)
        have HG : Hid (fl ≤ l[k].2.2 → ltU l[m] l[k] = true → goodU fl l (k + 1)) := fun h1 h2 j hj hjk => by
          by_cases e : j = k
          · subst e
            exact ⟨h1, fun i hi => by
              have : i = m := by omega
              subst this
              exact h2⟩
          · exact HS.out j hj (by omega)
        generalize l[k] = y at q0 q1 q2 HK1 HK2 HG
        generalize l[m] = x at p0 p1 p2 HK2 HG
        obtain ⟨y0, y1, y2⟩ := y
        obtain ⟨x0, x1, x2⟩ := x
        unfold vNU at p0 p1 p2 q0 q1 q2
        dsimp only at p0 p1 p2 q0 q1 q2 HK1 HG
        have d0 : ∀ W, Below wr.heap.size wr W → W.cell? ⟨b, o + m * 3, none⟩ = some (.int .u64 (x0 : Int)) := fun W hW => ((hB.trans (hW.mono hB.size)).cell (p := ⟨b, o + m * 3, none⟩) hb).trans p0
        have d1 : ∀ W, Below wr.heap.size wr W → W.cell? ⟨b, o + m * 3 + 1, none⟩ = some (.int .u64 (x1 : Int)) := fun W hW => ((hB.trans (hW.mono hB.size)).cell (p := ⟨b, o + m * 3 + 1, none⟩) hb).trans p1
        have d2 : ∀ W, Below wr.heap.size wr W → W.cell? ⟨b, o + m * 3 + 2, none⟩ = some (.int .u64 (x2 : Int)) := fun W hW => ((hB.trans (hW.mono hB.size)).cell (p := ⟨b, o + m * 3 + 2, none⟩) hb).trans p2
        have d3 : ∀ W, Below wr.heap.size wr W → W.cell? ⟨b, o + k * 3, none⟩ = some (.int .u64 (y0 : Int)) := fun W hW => ((hB.trans (hW.mono hB.size)).cell (p := ⟨b, o + k * 3, none⟩) hb).trans q0
        have d4 : ∀ W, Below wr.heap.size wr W → W.cell? ⟨b, o + k * 3 + 1, none⟩ = some (.int .u64 (y1 : Int)) := fun W hW => ((hB.trans (hW.mono hB.size)).cell (p := ⟨b, o + k * 3 + 1, none⟩) hb).trans q1
        have d5 : ∀ W, Below wr.heap.size wr W → W.cell? ⟨b, o + k * 3 + 2, none⟩ = some (.int .u64 (y2 : Int)) := fun W hW => ((hB.trans (hW.mono hB.size)).cell (p := ⟨b, o + k * 3 + 2, none⟩) hb).trans q2
        have i0 : (0 : Int) ≤ (m : Int) := by omega
        have i1 : (m : Int) < (n : Int) := by omega
        have i5 : 0 < k := by omega
        have hd5 : decide ((0 : Int) < (k : Int)) = true := decide_eq_true (by omega)
        have HMK := Lib.hid hmk
        have HM := Lib.hid hm
        clear hcell p0 p1 p2 q0 q1 q2 hB hR2 hm hmk
        go_wp2_with fail
        have hBase := (Below.refl wr.heap.size wr).drew
        refine wp_region_plan (.step 0 false (.step 1 false (.step 2 false (.step 3 false (.step 4 false (.step 5 false (.step 6 false (.step 7 false (.step 8 false (.step 9 false (.step 10 false (.step 11 false (.step 12 false (.step 13 false (.step 14 false (.step 15 false (.step 16 false (.step 17 false (.step 18 false (.step 19 false (.step 20 false (.step 21 false (.step 22 false (.step 23 false (.step 24 true (.step 25 false (.step 26 false (.step 27 false (.nil))))))))))))))))))))))))))))) (by kernel_rfl) (by kernel_rfl) (by rfl) (by kernel_rfl) ?_
        by_cases hy : y2 < fl
        · have HF2 := Lib.hid (HK1.out hy)
          have hd : decide ((y2 : Int) < (fl : Int)) = true := decide_eq_true (by omega)
          iterate 10 (refine plan_read rfl (by rfl) (v := ?_) ?_ ?_; rotate_left 1; (intro W hW; have hW0 := below_step hBase hW; (try dsimp only at hW); go_simp <;> with_reducible rfl); simp only [List.getElem_toArray, List.getElem_cons_zero, List.getElem_cons_succ, Act.put, List.setIfInBounds_toArray, List.set_cons_zero, List.set_cons_succ])
          iterate 17 (refine plan_skip rfl (by rfl) ?_; simp only [List.getElem_toArray, List.getElem_cons_zero, List.getElem_cons_succ, Act.put, List.setIfInBounds_toArray, List.set_cons_zero, List.set_cons_succ])
          iterate 1 (refine plan_read rfl (by rfl) (v := ?_) ?_ ?_; rotate_left 1; (intro W hW; have hW0 := below_step hBase hW; (try dsimp only at hW); go_simp <;> with_reducible rfl); simp only [List.getElem_toArray, List.getElem_cons_zero, List.getElem_cons_succ, Act.put, List.setIfInBounds_toArray, List.set_cons_zero, List.set_cons_succ])
          refine plan_done ?_
          have HB2 := Lib.hid (below_step HB0.out (below_step HB.out hBase))
          go_wp2_with fail
          go_ret
          exact ⟨by rw [HF2.out]; rfl, HB2.out⟩
        · have hd : decide ((y2 : Int) < (fl : Int)) = false := decide_eq_false (by omega)
          iterate 24 (refine plan_read rfl (by rfl) (v := ?_) ?_ ?_; rotate_left 1; (intro W hW; have hW0 := below_step hBase hW; (try dsimp only at hW); go_simp <;> with_reducible rfl); simp only [List.getElem_toArray, List.getElem_cons_zero, List.getElem_cons_succ, Act.put, List.setIfInBounds_toArray, List.set_cons_zero, List.set_cons_succ])
          (refine plan_make rfl (by rfl) (fun K hK => ?_); go_simp; (refine (lessU_any (x0, x1, x2) (y0, y1, y2) _).mono ?_; rintro e₁ w4 ⟨rfl, hbx⟩); refine hK.out _ _ hbx ?_; clear hK K; replace hBase := below_step hBase hbx)
          obtain ⟨r, hr0⟩ : ∃ r, ltU (x0, x1, x2) (y0, y1, y2) = r := ⟨_, rfl⟩
          rw [hr0] at HK2 HG ⊢
          clear hr0
          cases r with
          | true =>
            have HF2 := Lib.hid (HG.out (by omega) rfl)
            iterate 3 (refine plan_read rfl (by rfl) (v := ?_) ?_ ?_; rotate_left 1; (intro W hW; have hW0 := below_step hBase hW; (try dsimp only at hW); go_simp <;> with_reducible rfl); simp only [List.getElem_toArray, List.getElem_cons_zero, List.getElem_cons_succ, Act.put, List.setIfInBounds_toArray, List.set_cons_zero, List.set_cons_succ])
            refine plan_done ?_
            have HB2 := Lib.hid (below_step HB.out hBase)
            go_wp2_with fail
            go_roundw
            case rel => exact ⟨⟨k + 1, by go_num, by omega, HF2.out⟩, HB2.out⟩
            case measure => simp [intOf]; omega
          | false =>
            have HF2 := Lib.hid (HK2.out rfl)
            iterate 3 (refine plan_read rfl (by rfl) (v := ?_) ?_ ?_; rotate_left 1; (intro W hW; have hW0 := below_step hBase hW; (try dsimp only at hW); go_simp <;> with_reducible rfl); simp only [List.getElem_toArray, List.getElem_cons_zero, List.getElem_cons_succ, Act.put, List.setIfInBounds_toArray, List.set_cons_zero, List.set_cons_succ])
            refine plan_done ?_
            have HB2 := Lib.hid (below_step HB0.out (below_step HB.out hBase))
            go_wp2_with fail
            go_ret
            exact ⟨by rw [HF2.out]; rfl, HB2.out⟩
    · have HF : Hid (P = true) := HOK.out (by
        have : k = l.length := by have := HN.out; omega
        rw [← this]
        exact HS.out)
      have j1 : ¬ (k : Int) < (n : Int) := by omega
      clear hB hR2
      go_wp2_with fail
      go_ret
      exact ⟨by rw [HF.out]; rfl, below_step HB0.out HB.out⟩
set_option maxHeartbeats 2000000 in
theorem same19_any (room1 room2 : Int) (fl1 fl2 : Nat) (l m : List Us) (n1 n2 c1 c2 : Nat) (A1 A2 : Option Addr) (w : World) (HN : Hid (l.length = n1)) (HM : Hid (m.length = n2)) (hr : RdU w A1 l) (hs : RdU w A2 m) (hn : n1 ≤ 1000000000) :
    Calls Tryz.prog 57 #[aggC room1 fl1 A1 n1 c1, aggC room2 fl2 A2 n2 c2] w fun e w' => e = .returned (.bool (decide ((room1, fl1, l) = (room2, fl2, m)))) ∧ Below w.heap.size w w' := by
  obtain ⟨P, hP⟩ : ∃ P, decide ((room1, fl1, l) = (room2, fl2, m)) = P := ⟨_, rfl⟩
  rw [hP]
  have HP := Lib.hid hP
  clear hP
  have hR0 : Row ((w.alloc (.cells #[.int .i64 room1, .int .u64 (fl1 : Int), .slice A1 n1 c1] 35)).alloc (.cells #[.int .i64 room2, .int .u64 (fl2 : Int), .slice A2 n2 c2] 35)) w.heap.size 35 [.int .i64 room1, .int .u64 (fl1 : Int), .slice A1 n1 c1] := (Row.new w _ _ _ rfl).alloc _
  have hR1 : Row ((w.alloc (.cells #[.int .i64 room1, .int .u64 (fl1 : Int), .slice A1 n1 c1] 35)).alloc (.cells #[.int .i64 room2, .int .u64 (fl2 : Int), .slice A2 n2 c2] 35)) (w.heap.size + 1) 35 [.int .i64 room2, .int .u64 (fl2 : Int), .slice A2 n2 c2] := Row.new_at _ _ (by simp) _ _ _ rfl
  have hB0 := below_new (below_new (Below.refl _ w) (.cells #[.int .i64 room1, .int .u64 (fl1 : Int), .slice A1 n1 c1] 35)) (.cells #[.int .i64 room2, .int .u64 (fl2 : Int), .slice A2 n2 c2] 35)
  unfold aggC
  go_enter Tryz.func57, Tryz.ntmps57
  go_upto_region 1 with fail
  generalize (w.alloc (.cells #[.int .i64 room1, .int .u64 (fl1 : Int), .slice A1 n1 c1] 35)).alloc (.cells #[.int .i64 room2, .int .u64 (fl2 : Int), .slice A2 n2 c2] 35) = w1 at hR0 hR1 hB0 ⊢
  obtain ⟨bg, hbgE⟩ : ∃ bg, bg = w.heap.size := ⟨_, rfl⟩
  rw [← hbgE] at hR0 hR1 ⊢
  have HBG := Lib.hid hbgE
  clear hbgE
  have HB0 := Lib.hid hB0
  have hr1 := hr.keep hB0
  have hs1 := hs.keep hB0
  clear hB0 hr hs
  have k0 := hR0.cell (i := 0) rfl
  have k1 := hR0.cell (i := 1) rfl
  have k2 := hR0.cell (i := 2) rfl
  have k3 := hR1.cell (i := 0) rfl
  have k4 := hR1.cell (i := 1) rfl
  have k5 := hR1.cell (i := 2) rfl
  by_cases h1 : room1 = room2
  rotate_left 1
  · have HF : Hid (P = false) := by unfold Hid; rw [← HP.out, decide_eq_false_iff_not]; intro h; injection h with h; exact h1 h
    go_wp2_with fail
    go_ret
    exact ⟨by rw [HF.out]; rfl, HB0.out⟩
  by_cases h2 : fl1 = fl2
  rotate_left 1
  · have HF : Hid (P = false) := by unfold Hid; rw [← HP.out, decide_eq_false_iff_not]; intro h; injection h with _ h; injection h with h; exact h2 h
    go_wp2_with fail
    go_ret
    exact ⟨by rw [HF.out]; rfl, HB0.out⟩
  by_cases h3 : n1 = n2
  rotate_left 1
  · have HF : Hid (P = false) := by
      unfold Hid
      rw [← HP.out, decide_eq_false_iff_not]
      intro h
      injection h with _ h
      injection h with _ h
      apply h3
      rw [← HN.out, ← HM.out, h]
    go_wp2_with fail
    go_ret
    exact ⟨by rw [HF.out]; rfl, HB0.out⟩
  subst h1
  subst h2
  subst h3
  have HEQ : Hid (P = decide (l = m)) := by
    unfold Hid
    rw [← HP.out, decide_eq_decide]
    simp
  clear HP
  go_wp2_with fail
  clear k0 k1 k2 k3 k4 k5
  go_loopw [5] (fun i wr => (∃ k : Nat, i = .int .i64 (k : Int) ∧ k ≤ n1 ∧ l.take k = m.take k) ∧ Below w1.heap.size w1 wr) (fun i _ => n1 - (intOf i).toNat)
  case atStart => exact ⟨⟨0, rfl, by omega, by simp⟩, Below.refl _ _⟩
  case round =>
    obtain ⟨⟨k, rfl, hk, htk⟩, hB⟩ := hrel
    have HB := Lib.hid hB
    have hQ0 := hR0.later hB
    have hQ1 := hR1.later hB
    have k2 : wr.cell? ⟨bg, 2, none⟩ = some (.slice A1 n1 c1) := hQ0.cell rfl
    by_cases hlt : k < n1
    · have hkl : k < l.length := by rw [HN.out]; exact hlt
      have hkm : k < m.length := by rw [HM.out]; exact hlt
      obtain ⟨b, o, rfl, hb, _, p0, p1, p2⟩ := hr1.pair hkl
      obtain ⟨b2, o2, rfl, hb2, _, q0, q1, q2⟩ := hs1.pair hkm
      have HT : Hid (l[k] = m[k] → l.take (k + 1) = m.take (k + 1)) := fun h => by
        rw [List.take_succ_eq_append_getElem hkl, List.take_succ_eq_append_getElem hkm, htk, h]
      have HI : Hid (¬ l[k] = m[k] → P = false) := fun h => by
        rw [HEQ.out, decide_eq_false_iff_not]
        intro e
        subst e
        exact h rfl
      generalize l[k] = x at p0 p1 p2 HT HI
      generalize m[k] = y at q0 q1 q2 HT HI
      obtain ⟨x0, x1, x2⟩ := x
      obtain ⟨y0, y1, y2⟩ := y
      unfold vNU at p0 p1 p2 q0 q1 q2
      dsimp only at p0 p1 p2 q0 q1 q2
      have d0 : ∀ W, Below wr.heap.size wr W → W.cell? ⟨b, o + k * 3, none⟩ = some (.int .u64 (x0 : Int)) := fun W hW => ((hB.trans (hW.mono hB.size)).cell (p := ⟨b, o + k * 3, none⟩) hb).trans p0
      have d1 : ∀ W, Below wr.heap.size wr W → W.cell? ⟨b, o + k * 3 + 1, none⟩ = some (.int .u64 (x1 : Int)) := fun W hW => ((hB.trans (hW.mono hB.size)).cell (p := ⟨b, o + k * 3 + 1, none⟩) hb).trans p1
      have d2 : ∀ W, Below wr.heap.size wr W → W.cell? ⟨b, o + k * 3 + 2, none⟩ = some (.int .u64 (x2 : Int)) := fun W hW => ((hB.trans (hW.mono hB.size)).cell (p := ⟨b, o + k * 3 + 2, none⟩) hb).trans p2
      have d3 : ∀ W, Below wr.heap.size wr W → W.cell? ⟨b2, o2 + k * 3, none⟩ = some (.int .u64 (y0 : Int)) := fun W hW => ((hB.trans (hW.mono hB.size)).cell (p := ⟨b2, o2 + k * 3, none⟩) hb2).trans q0
      have d4 : ∀ W, Below wr.heap.size wr W → W.cell? ⟨b2, o2 + k * 3 + 1, none⟩ = some (.int .u64 (y1 : Int)) := fun W hW => ((hB.trans (hW.mono hB.size)).cell (p := ⟨b2, o2 + k * 3 + 1, none⟩) hb2).trans q1
      have d5 : ∀ W, Below wr.heap.size wr W → W.cell? ⟨b2, o2 + k * 3 + 2, none⟩ = some (.int .u64 (y2 : Int)) := fun W hW => ((hB.trans (hW.mono hB.size)).cell (p := ⟨b2, o2 + k * 3 + 2, none⟩) hb2).trans q2
      have d6 : ∀ W, Below wr.heap.size wr W → W.cell? ⟨bg, 2, none⟩ = some (.slice (some ⟨b, o, none⟩) n1 c1) := fun W hW => (hQ0.later hW).cell rfl
      have d7 : ∀ W, Below wr.heap.size wr W → W.cell? ⟨bg + 1, 2, none⟩ = some (.slice (some ⟨b2, o2, none⟩) n1 c2) := fun W hW => (hQ1.later hW).cell rfl
      have i2 : (0 : Int) ≤ (k : Int) := by omega
      have i3 : (k : Int) < (n1 : Int) := by omega
      have hq := fun W => neq_use x0 x1 x2 y0 y1 y2 W
      have HQ : Hid (decide ((x0, x1, x2) = (y0, y1, y2)) = true ↔ (x0, x1, x2) = (y0, y1, y2)) := by unfold Hid; rw [decide_eq_true_iff]
      generalize decide ((x0, x1, x2) = (y0, y1, y2)) = r at hq HQ
      have hgd := fun op x y xs ys W => guard_use op x y xs ys W
      clear hB htk p0 p1 p2 q0 q1 q2 hQ0 hQ1
      go_wp2_with fail
      have hBase := (Below.refl wr.heap.size wr).drew
      refine wp_region_plan (.step 0 false (.step 1 false (.step 2 false (.step 3 false (.step 4 false (.step 5 false (.step 6 false (.step 7 false (.step 8 false (.step 9 false (.step 10 false (.nil)))))))))))) (by kernel_rfl) (by kernel_rfl) (by rfl) (by kernel_rfl) ?_
      iterate 11 (refine plan_read rfl (by rfl) (v := ?_) ?_ ?_; rotate_left 1; (intro W hW; have hW0 := below_step hBase hW; (try dsimp only at hW); go_simp <;> with_reducible rfl); simp only [List.getElem_toArray, List.getElem_cons_zero, List.getElem_cons_succ, Act.put, List.setIfInBounds_toArray, List.set_cons_zero, List.set_cons_succ])
      refine plan_done ?_
      have HB2 := Lib.hid (below_step HB.out hBase)
      cases r with
      | true =>
        have HH := Lib.hid (HT.out (HQ.out.1 rfl))
        go_wp2_with fail
        go_roundw
        case rel => exact ⟨⟨k + 1, by go_num, by omega, HH.out⟩, HB2.out⟩
        case measure => simp [intOf]; omega
      | false =>
        have hne : ¬ (x0, x1, x2) = (y0, y1, y2) := fun h => by have := HQ.out.2 h; cases this
        have HF := Lib.hid (HI.out hne)
        clear hne
        go_wp2_with fail
        go_ret
        exact ⟨by rw [HF.out]; rfl, below_step HB0.out HB2.out⟩
    · have hkn : k = n1 := by omega
      have HT : Hid (P = true) := by
        unfold Hid
        rw [HEQ.out, decide_eq_true_iff]
        rw [hkn] at htk
        rw [List.take_of_length_le (Nat.le_of_eq HN.out), List.take_of_length_le (Nat.le_of_eq HM.out)] at htk
        exact htk
      have j1 : ¬ (k : Int) < (n1 : Int) := by omega
      clear htk hkn hB hQ0 hQ1
      go_wp2_with fail
      go_ret
      exact ⟨by rw [HT.out]; rfl, below_step HB0.out HB.out⟩
end Go.Proofs.YteljklkgdejhpaaGreatDoor
namespace Go.Proofs.YteljklkgdejhpaaGreatDoor
open Go.RowKit
theorem refshort17_any (x : WD) (D : DK) (w : World) (h : InD w x D) : Calls Tryz.prog 9 #[aggD x D] w fun e w' => e = .returned (.bool (decide (x.n0 ≤ 20000 ∧ x.n1 ≤ 20000))) ∧ Below w.heap.size w w' := by
  obtain ⟨A0, n0, c0, A1, n1, c1⟩ := x
  obtain ⟨⟨b0, s0⟩, ⟨b1, s1⟩, f, kk, d⟩ := D
  clear h
  unfold aggD
  dsimp only
  obtain ⟨hR0, hB0⟩ := box_of w 27 [Value.slice A0 n0 c0, .int .i64 s0, .slice A1 n1 c1, .int .i64 s1, .int .i64 f, .int .i64 kk, .bool d] _ rfl
  go_enter Tryz.func9, Tryz.ntmps9
  go_upto_region 1 with fail
  generalize w.alloc (.cells [Value.slice A0 n0 c0, .int .i64 s0, .slice A1 n1 c1, .int .i64 s1, .int .i64 f, .int .i64 kk, .bool d].toArray 27) = W at hR0 hB0 ⊢
  have e0 : W.cell? ⟨w.heap.size, 0, none⟩ = some (.slice A0 n0 c0) := hR0.cell rfl
  have e2 : W.cell? ⟨w.heap.size, 2, none⟩ = some (.slice A1 n1 c1) := hR0.cell rfl
  by_cases p0 : n0 ≤ 20000
  · have q0 : (n0 : Int) ≤ 20000 := by omega
    have HD : Hid (decide (n0 ≤ 20000 ∧ n1 ≤ 20000) = decide ((n1 : Int) ≤ 20000)) := by unfold Hid; simp [p0]; omega
    go_wp2_with fail
    go_ret
    exact ⟨by first | rfl | (rw [HD.out]; first | rfl | simp), hB0⟩
  · have q0 : ¬ (n0 : Int) ≤ 20000 := by omega
    have HD : Hid (decide (n0 ≤ 20000 ∧ n1 ≤ 20000) = false) := decide_eq_false (fun h => p0 h.1)
    go_wp2_with fail
    go_ret
    exact ⟨by first | rfl | (rw [HD.out]; first | rfl | simp), hB0⟩
end Go.Proofs.YteljklkgdejhpaaGreatDoor
namespace Go.Proofs.YteljklkgdejhpaaGreatDoor
open Go.RowKit
theorem mem_ext {m m' : MemK} : m = m' ↔ m.clock = m'.clock ∧ m.b = m'.b ∧ m.c = m'.c := by
  constructor
  · rintro rfl; exact ⟨rfl, rfl, rfl⟩
  · rintro ⟨h1, h2, h3⟩
    cases m
    cases m'
    simp only at h1 h2 h3
    rw [h1, h2, h3]
set_option maxHeartbeats 4000000 in
theorem samemem_any (x y : WM) (m m' : MemK) (w : World) (h : InM w x m) (h' : InM w y m') : Calls Tryz.prog 27 #[aggM x m, aggM y m'] w (RetBo w (m = m')) := by
  obtain ⟨hR0, hR1, hB⟩ := two_boxes w 37 37 (lM x m) (lM y m') _ _ rfl rfl
  have hsb := fun W (hb : Below w.heap.size w W) => sameB_any m.b.1 m'.b.1 x.b.es y.b.es m.b.2.2 m'.b.2.2 x.b.n x.b.ec x.b.g x.b.gc y.b.n y.b.ec y.b.g y.b.gc x.b.eA x.b.gA y.b.eA y.b.gA W (Lib.hid h.ib.ne) (Lib.hid h.ib.ng) (Lib.hid h'.ib.ne) (Lib.hid h'.ib.ng) (h.ib.re.keep hb) (h.ib.oe.keep hb) (h.ib.rg.keep hb) (h'.ib.re.keep hb) (h'.ib.oe.keep hb) (h'.ib.rg.keep hb) (by have := h.ib.ln; omega) (by have := h.ib.lg; omega)
  have hsc := fun W (hb : Below w.heap.size w W) => same19_any m.c.1 m'.c.1 m.c.2.1 m'.c.2.1 m.c.2.2 m'.c.2.2 x.c.s y.c.s x.c.c y.c.c x.c.A y.c.A W (Lib.hid h.ic.ns) (Lib.hid h'.ic.ns) (h.ic.ru.keep hb) (h'.ic.ru.keep hb) (by have := h.ic.ls; omega)
  rw [h.ib.con, h'.ib.con] at hsb
  have hP1 : ∃ P, decide ((m.b.1, m.b.2.1, m.b.2.2) = (m'.b.1, m'.b.2.1, m'.b.2.2)) = P := ⟨_, rfl⟩
  obtain ⟨P1, hP1⟩ := hP1
  have hP2 : ∃ P, decide ((m.c.1, m.c.2.1, m.c.2.2) = (m'.c.1, m'.c.2.1, m'.c.2.2)) = P := ⟨_, rfl⟩
  obtain ⟨P2, hP2⟩ := hP2
  rw [hP1] at hsb
  rw [hP2] at hsc
  have HP1 : Hid (P1 = true ↔ m.b = m'.b) := by rw [← hP1]; exact decide_eq_true_iff
  have HP2 : Hid (P2 = true ↔ m.c = m'.c) := by rw [← hP2]; exact decide_eq_true_iff
  clear hP1 hP2
  unfold aggB at hsb
  unfold aggC at hsc
  have HSB := Lib.hid hsb
  have HSC := Lib.hid hsc
  clear hsb hsc h h'
  unfold aggM
  go_enter Tryz.func27, Tryz.ntmps27
  go_upto_region 1 with fail
  generalize (w.alloc (.cells (lM x m).toArray 37)).alloc (.cells (lM y m').toArray 37) = W0 at hR0 hR1 hB ⊢
  have k0 := hR0.cell (i := 0) rfl
  have j0 := hR1.cell (i := 0) rfl
  by_cases hck : m.clock = m'.clock
  · have i1 : (m.clock : Int) = (m'.clock : Int) := by omega
    have k1 := hR0.cell (i := 1) rfl
    have k2 := hR0.cell (i := 2) rfl
    have k3 := hR0.cell (i := 3) rfl
    have j1 := hR1.cell (i := 1) rfl
    have j2 := hR1.cell (i := 2) rfl
    have j3 := hR1.cell (i := 3) rfl
    have HCK := Lib.hid hck
    clear hck
    go_wp2_with fail
    refine (HSB.out _ hB).mono ?_
    rintro e w2 ⟨rfl, hb⟩
    replace hR0 := hR0.later hb
    replace hR1 := hR1.later hb
    replace hB := below_step hB hb
    clear hb k0 k1 k2 k3 j0 j1 j2 j3 HSB
    cases P1 with
    | false =>
      go_wp2_with fail
      go_ret
      exact ⟨false, rfl, ⟨(fun h => by cases h), fun h => HP1.out.2 (mem_ext.1 h).2.1⟩, hB⟩
    | true =>
      have k4 := hR0.cell (i := 4) rfl
      have k5 := hR0.cell (i := 5) rfl
      have k6 := hR0.cell (i := 6) rfl
      have j4 := hR1.cell (i := 4) rfl
      have j5 := hR1.cell (i := 5) rfl
      have j6 := hR1.cell (i := 6) rfl
      go_wp2_with fail
      refine (HSC.out _ hB).mono ?_
      rintro e w3 ⟨rfl, hb⟩
      replace hB := below_step hB hb
      clear hb k4 k5 k6 j4 j5 j6 HSC
      go_wp2_with fail
      go_ret
      exact ⟨P2, rfl, ⟨fun h => mem_ext.2 ⟨HCK.out, HP1.out.1 (by trivial), HP2.out.1 h⟩, fun h => HP2.out.2 (mem_ext.1 h).2.2⟩, hB⟩
  · have i2 : ¬ (m.clock : Int) = (m'.clock : Int) := by omega
    have HCK := Lib.hid hck
    clear hck
    go_wp2_with fail
    go_ret
    exact ⟨false, rfl, ⟨(fun h => by cases h), fun h => absurd (mem_ext.1 h).1 HCK.out⟩, hB⟩
structure PreB (w : World) (x : WB) (b : Bn) : Prop where
  con : conE x.es = b.2.1
  ne : x.es.length = x.n
  ng : b.2.2.length = x.g
  he : x.n ≤ x.ec
  hg : x.g ≤ x.gc
  hec : x.ec ≤ 9223372036854775807
  hgc : x.gc ≤ 9223372036854775807
  re : RdE w x.eA x.es
  oe : okD w x.es
  rg : RdG w x.gA b.2.2
  ls : ∀ e ∈ x.es, e.s.length ≤ 9223372036854775807
  fit : fitBn b
structure PreC (w : World) (x : WC) (k : Ca) : Prop where
  ns : k.2.2.length = x.s
  hs : x.s ≤ x.c
  hc : x.c ≤ 9223372036854775807
  ru : RdU w x.A k.2.2
  fit : fitCa k
structure PreM (w : World) (x : WM) (m : MemK) : Prop where
  fc : m.clock < 18446744073709551616
  pb : PreB w x.b m.b
  pc : PreC w x.c m.c
structure PreS (w : World) (x : WS) (s : ShK) : Prop where
  id : InD w x.d s.d
  pm : PreM w x.m s.m
def shortS (x : WS) : Prop := (x.d.n0 ≤ 20000 ∧ x.d.n1 ≤ 20000) ∧ shortB x.m.b.es x.m.b.g = true ∧ x.m.c.s ≤ 300
theorem PreB.keep {w w' : World} {x : WB} {b : Bn} (h : PreB w x b) (hb : Below w.heap.size w w') : PreB w' x b := { h with re := h.re.keep hb, oe := h.oe.keep hb, rg := h.rg.keep hb }
theorem PreC.keep {w w' : World} {x : WC} {b : Ca} (h : PreC w x b) (hb : Below w.heap.size w w') : PreC w' x b := { h with ru := h.ru.keep hb }
theorem PreS.keep {w w' : World} {x : WS} {s : ShK} (h : PreS w x s) (hb : Below w.heap.size w w') : PreS w' x s := ⟨h.id.keep hb, ⟨h.pm.fc, h.pm.pb.keep hb, h.pm.pc.keep hb⟩⟩
theorem PreB.inb {w : World} {x : WB} {b : Bn} (h : PreB w x b) (hs : shortB x.es x.g = true) : InB w x b := by
  unfold shortB at hs
  simp only [Bool.and_eq_true, decide_eq_true_eq] at hs
  obtain ⟨h1, h2, h3⟩ := hs
  rw [List.take_of_length_le h2] at h1
  rw [h.ne] at h2
  exact ⟨h.con, h.ne, h.ng, h.he, h.hg, h.re, h.oe, h.rg, by omega, by omega, (fun e he => by have := h1 e he; omega), h.fit⟩
theorem PreS.ins {w : World} {x : WS} {s : ShK} (h : PreS w x s) (hs : shortS x) : InS w x s :=
  ⟨h.id, ⟨h.pm.fc, h.pm.pb.inb hs.2.1, ⟨h.pm.pc.ns, h.pm.pc.hs, h.pm.pc.ru, by have := hs.2.2; omega, h.pm.pc.fit⟩⟩⟩
set_option maxHeartbeats 4000000 in
theorem refshort20_any (x : WS) (s : ShK) (w : World) (h : PreS w x s) : Calls Tryz.prog 8 #[aggS x s] w (RetBo w (shortS x)) := by
  obtain ⟨hR0, hB⟩ := box_of w 39 (lS x s) _ rfl
  have HSD := Lib.hid (fun W (hb : Below w.heap.size w W) => refshort17_any x.d s.d W (h.id.keep hb))
  have hsb := fun W (hb : Below w.heap.size w W) => refshortB_any s.m.b.1 x.m.b.es x.m.b.n x.m.b.ec x.m.b.g x.m.b.gc x.m.b.eA x.m.b.gA W (Lib.hid h.pm.pb.ne) (h.pm.pb.re.keep hb) (by have := h.pm.pb.he; have := h.pm.pb.hec; omega) h.pm.pb.ls (by have := h.pm.pb.hg; have := h.pm.pb.hgc; omega)
  unfold aggD at HSD
  unfold aggB at hsb
  have HSB := Lib.hid hsb
  have hcs : x.m.c.s ≤ 9223372036854775807 := by have := h.pm.pc.hs; have := h.pm.pc.hc; omega
  obtain ⟨P1, hP1⟩ : ∃ P, decide (x.d.n0 ≤ 20000 ∧ x.d.n1 ≤ 20000) = P := ⟨_, rfl⟩
  obtain ⟨P2, hP2⟩ : ∃ P, shortB x.m.b.es x.m.b.g = P := ⟨_, rfl⟩
  rw [hP1] at HSD
  rw [hP2] at HSB
  have HP1 : Hid (P1 = true ↔ (x.d.n0 ≤ 20000 ∧ x.d.n1 ≤ 20000)) := by rw [← hP1]; exact decide_eq_true_iff
  have HP2 := Lib.hid hP2
  clear hP1 hP2 hsb h
  unfold aggS
  go_enter Tryz.func8, Tryz.ntmps8
  go_upto_region 1 with fail
  generalize (w.alloc (.cells (lS x s).toArray 39)) = W0 at hR0 hB ⊢
  go_wp2_with (refine wpList_load_part rfl 27 (.tmp 3) rfl (w.heap.size) 0 rfl _ _ (hR0) ((lD x.d s.d)) (by rfl) _ Tryz.underlying27 rfl (by exact size_disk) ?_)
  refine (HSD.out _ hB).mono ?_
  rintro e w1 ⟨rfl, hb⟩
  replace hR0 := hR0.later hb
  replace hB := below_step hB hb
  clear hb HSD
  cases P1 with
  | false =>
    go_wp2_with fail
    go_ret
    exact ⟨false, rfl, ⟨(fun h => by cases h), fun h => HP1.out.2 h.1⟩, hB⟩
  | true =>
    have k0 := hR0.cell (i := 10) rfl
    have k1 := hR0.cell (i := 11) rfl
    have k2 := hR0.cell (i := 12) rfl
    go_wp2_with fail
    refine (HSB.out _ hB).mono ?_
    rintro e w2 ⟨rfl, hb⟩
    replace hR0 := hR0.later hb
    replace hB := below_step hB hb
    clear hb HSB k0 k1 k2
    cases P2 with
    | false =>
      go_wp2_with fail
      go_ret
      exact ⟨false, rfl, ⟨(fun h => by cases h), fun h => by have := h.2.1; rw [HP2.out] at this; cases this⟩, hB⟩
    | true =>
      have k3 := hR0.cell (i := 15) rfl
      go_wp2_with fail
      go_ret
      refine ⟨decide ((x.m.c.s : Int) ≤ 300), rfl, ⟨fun h => ⟨HP1.out.1 (by trivial), HP2.out, ?_⟩, fun h => decide_eq_true (by have := h.2.2; omega)⟩, hB⟩
      have := of_decide_eq_true h
      omega
end Go.Proofs.YteljklkgdejhpaaGreatDoor
namespace Go.Proofs.YteljklkgdejhpaaGreatDoor
theorem area_nil (f : List UInt8 → List UInt8) : areaK f [] = none := by
  unfold areaK rowSl rowF
  rfl
def firstM (room : Int) : MemK := ⟨0, (0, [], []), (room, 0, [])⟩
theorem firstM_right {room : Int} (h : 0 ≤ room ∧ room ≤ 64) : rightM (firstM room) = true := by
  refine rightM_parts.2 ⟨by show rightB [] [] = true; decide +kernel, right_c.2 ⟨h, ?_, fun u hu => ?_, List.Pairwise.nil⟩⟩
  · exact h.1
  · cases hu
theorem firstM_fit (room : Int) : fitM (firstM room) := ⟨by show (0 : Nat) < _; decide, ⟨by show (0 : Nat) < _; decide, (fun x hx => by cases hx), (fun x hx => by cases hx)⟩, by show (0 : Nat) < _; decide, (fun x hx => by cases hx)⟩
section
variable {f : List UInt8 → List UInt8} (h4 : ∀ b, (f b).length = 4)
include h4
theorem open_new {room : Int} (h : 0 ≤ room ∧ room ≤ 64) : ∃ s, openK f newK room = (s, 0) ∧ rightSh f s ∧ s.m = firstM room ∧ s.num = 1 ∧ s.turn = 0 ∧ s.d.fuse = -1 ∧ (getA s.d 0).b.length = (memRec 1 (firstM room)).length + 6 := by
  have hr0 : rightAK ⟨[], 0⟩ := ⟨Int.le_refl _, Int.le_refl _, Nat.zero_le _⟩
  have hnew : newK = mkD 1 ⟨[], 0⟩ ⟨[], 0⟩ (-1) 0 false := rfl
  have hfr : fromK f newK room = ⟨newK, 1, 0, firstM room⟩ := by
    unfold fromK hasK newK
    rw [area_nil]
    rfl
  have hrt : rightDK newK := by rw [hnew]; exact (mkD_right (.inr rfl)).2 ⟨hr0, hr0, Int.le_refl _, Int.le_refl _⟩
  have ht : (memRec 1 (firstM room)).length ≤ 60000 := by have := memRec_le 1 (firstM_right h); omega
  have hrd : readMem (memRec 1 (firstM room)) = some (1, firstM room) := read_mem (firstM_right h) (firstM_fit room) (by decide)
  have hS : (slipS f (memRec 1 (firstM room))).length ≤ 1048576 := by have := slip_length h4 (memRec 1 (firstM room)); omega
  rcases wipeSlip_out h4 (k := 1) (.inr rfl) hr0 (show sureAK ⟨[], 0⟩ from rfl) hr0 (Int.le_refl (-1)) (Int.le_refl 0) ht with ⟨fu', h1, h2, e⟩ | ⟨h1, _⟩
  · have hA : HasA f 0 ⟨slipS f (memRec 1 (firstM room)), ((slipS f (memRec 1 (firstM room))).length : Int)⟩ ⟨[], 0⟩ 1 (firstM room) (slipS f (memRec 1 (firstM room))).length :=
      ⟨.inl rfl, ⟨Int.natCast_nonneg _, Int.le_refl _, hS⟩, hr0, rfl, area_new h4 ht hrd, by rw [area_nil]; exact fun y hy => by cases hy⟩
    have hf1 := h2 rfl
    refine ⟨⟨mkD 0 ⟨slipS f (memRec 1 (firstM room)), ((slipS f (memRec 1 (firstM room))).length : Int)⟩ ⟨[], 0⟩ fu' 0 false, 0, 1, firstM room⟩, ?_, hA.right h1 (Int.le_refl _) (by decide), rfl, rfl, rfl, hf1, by show (slipS f (memRec 1 (firstM room))).length = _; rw [slip_length h4, Nat.add_comm]⟩
    have ean : anewK f (fromK f newK room) = (⟨mkD 0 ⟨slipS f (memRec 1 (firstM room)), ((slipS f (memRec 1 (firstM room))).length : Int)⟩ ⟨[], 0⟩ fu' 0 false, 0, 1, firstM room⟩, 0) := by
      rw [hfr]
      unfold anewK
      dsimp only
      rw [if_neg (by decide)]
      have e' : wipeSlip f newK (1 - 1) (memRec (0 + 1) (firstM room)) = (mkD 1 ⟨[], 0⟩ ⟨slipS f (memRec 1 (firstM room)), ((slipS f (memRec 1 (firstM room))).length : Int)⟩ fu' 0 false, 0) := e
      rw [e', if_neg (not_not_intro rfl)]
      rfl
    unfold openK
    rw [if_neg (not_not_intro ⟨hrt, h⟩), if_neg (by decide), ean, if_neg (not_not_intro rfl)]
  · exact absurd rfl h1
end
end Go.Proofs.YteljklkgdejhpaaGreatDoor
namespace Go.Proofs.YteljklkgdejhpaaGreatDoor
open Go.RowKit
section
variable {f : List UInt8 → List UInt8} (h4 : ∀ b, (f b).length = 4)
include h4
theorem keep_stay {s : ShK} (h : rightSh f s) (hfuse : s.d.fuse = -1) {m' : MemK} {t : List UInt8} (ht : t.length ≤ 60000) (hg : goesM s.m t = some m') (hl : (getA s.d s.turn.toNat).b.length + t.length + 6 ≤ 8192) :
    ∃ s', keepSh f s m' t = (s', 0) ∧ rightSh f s' ∧ s'.m = m' ∧ s'.turn = s.turn ∧ s'.num = s.num ∧ s'.d.fuse = -1 ∧ (getA s'.d s'.turn.toNat).b.length = (getA s.d s.turn.toNat).b.length + t.length + 6 := by
  obtain ⟨k, a, o, hd, hturn, hA, hfu, hke, hn⟩ := HasA.of h
  have hS := slip_length h4 t
  obtain ⟨d, turn, num, m⟩ := s
  dsimp only at hd hturn hA hfu hke hn hg hfuse hl
  subst hturn
  obtain ⟨ke, hkee⟩ : ∃ ke, d.keep = ke := ⟨_, rfl⟩
  rw [hfuse, hkee] at hd
  rw [hkee] at hke
  subst hd
  rw [Int.toNat_natCast, (mkD_get k hA.kk a o (-1) ke false).1] at hl
  unfold keepSh
  dsimp only
  rw [Int.toNat_natCast, (mkD_get k hA.kk a o (-1) ke false).1, if_neg (by omega)]
  rcases slip_out (f := f) hA.kk hA.ra hA.sure hA.ro (Int.le_refl (-1)) hke (t := t) (by omega) with ⟨fu', h1, h2, e⟩ | ⟨h1, _⟩
  · have h3 : HasA f k ⟨a.b ++ slipS f t, ((a.b ++ slipS f t).length : Int)⟩ o num m' (a.b ++ slipS f t).length :=
      ⟨hA.kk, ⟨Int.natCast_nonneg _, Int.le_refl _, by show (a.b ++ slipS f t).length ≤ _; rw [List.length_append]; omega⟩, hA.ro, rfl, area_more h4 (show fullK f a.b num m from hA.has) ht hg, hA.beats⟩
    rw [e, if_neg (not_not_intro rfl)]
    refine ⟨_, rfl, h3.right h1 hke hn, rfl, rfl, rfl, ?_, ?_⟩
    · rw [(mkD_down k _ o fu' ke false).2.1]
      exact h2 rfl
    · dsimp only
      rw [Int.toNat_natCast, (mkD_get k hA.kk _ o fu' ke false).1]
      show (a.b ++ slipS f t).length = _
      rw [List.length_append]
      omega
  · exact absurd rfl h1
theorem wake : ∃ s0 s1 s2 t, openK f newK 2 = (s0, 0) ∧ rightSh f s0 ∧ installSh f s0 (3, [], []) = (s1, 0) ∧ rightSh f s1 ∧ takeSh f s1 (1, 1, 7) 210 6 = (s2, 0) ∧ takeSh f s2 (1, 1, 7) 210 6 = (s2, 11) ∧ openK f s2.d 0 = (t, 0) ∧ installSh f t (3, [], []) = (t, 13) ∧
    s2.turn = 0 ∧ s2.num = 1 ∧ t.turn = 1 ∧ t.num = 2 ∧ t.m = ⟨210, (3, [], []), (2, 6, [(1, 1, 7)])⟩ ∧ s2.m = ⟨210, (3, [], []), (2, 6, [(1, 1, 7)])⟩ ∧ rightSh f s2 ∧ rightSh f t ∧ s0.d.fuse = -1 ∧ s1.d.fuse = -1 ∧ s2.d.fuse = -1 ∧ t.d.fuse = -1 ∧ s0.num = 1 ∧ s1.num = 1 := by
  obtain ⟨s0, e0, r0, m0, n0, t0, f0, l0⟩ := open_new h4 (room := 2) ⟨by decide, by decide⟩
  have hL0 : (memRec 1 (firstM 2)).length ≤ 80 := by decide +kernel
  have hB : (bunRec (3, [], [])).length ≤ 60 := by decide +kernel
  have hU : (useRec (1, 1, 7) 210 6).length = 41 := by decide +kernel
  have hrb : rightB ([] : List En) ([] : List Gn) = true := by decide +kernel
  have hfb : fitBn (3, [], []) := ⟨by show (3 : Nat) < _; decide, (fun x hx => by cases hx), (fun x hx => by cases hx)⟩
  obtain ⟨s1, e1, r1, m1, t1, n1, f1, l1⟩ := keep_stay h4 r0 f0 (m' := { s0.m with b := (3, [], []) }) (t := bunRec (3, [], [])) (by omega) (goes_bun hrb hfb (by rw [m0]; decide)) (by rw [t0]; show (getA s0.d 0).b.length + _ + 6 ≤ _; omega)
  have hi1 : installSh f s0 (3, [], []) = (s1, 0) := by
    unfold installSh
    rw [if_neg (not_not_intro ⟨r0, hrb⟩), if_neg (by rw [m0]; decide)]
    exact e1
  rw [m0] at m1
  have hM1 : s1.m = ⟨0, (3, [], []), (2, 0, [])⟩ := m1
  have hT1 : takeM s1.m (1, 1, 7) 210 6 = (⟨210, (3, [], []), (2, 6, [(1, 1, 7)])⟩, 0) := by rw [hM1]; rfl
  have hfu : fitU1 ((1, 1, 7) : Us) := ⟨by show (1 : Nat) < _; decide, by show (1 : Nat) < _; decide, by show (7 : Nat) < _; decide⟩
  have hg2 := goes_use (m := s1.m) (u := (1, 1, 7)) (clock := 210) (floor := 6) hfu (by decide) (by decide) (by rw [hT1])
  obtain ⟨s2, e2, r2, m2, t2, n2, f2, l2⟩ := keep_stay h4 r1 f1 (t := useRec (1, 1, 7) 210 6) (by omega) hg2 (by rw [l1, t0]; show (getA s0.d 0).b.length + _ + 6 + _ + 6 ≤ _; omega)
  have hi2 : takeSh f s1 (1, 1, 7) 210 6 = (s2, 0) := by
    unfold takeSh
    rw [if_neg (not_not_intro r1), if_neg (by rw [hT1]; decide)]
    exact e2
  rw [hT1] at m2
  have hM2 : s2.m = ⟨210, (3, [], []), (2, 6, [(1, 1, 7)])⟩ := m2
  have hT2 : takeM s2.m (1, 1, 7) 210 6 = (s2.m, 11) := by rw [hM2]; rfl
  have hi3 : takeSh f s2 (1, 1, 7) 210 6 = (s2, 11) := by
    unfold takeSh
    rw [if_neg (not_not_intro r2), if_pos (by rw [hT2]; show ¬ (11 : Int) = 0; decide), hT2]
  obtain ⟨k, a, o, hd, hturn, hA, hfu2, hke2, hn2⟩ := HasA.of r2
  have htn : s2.turn = 0 := by rw [t2, t1, t0]
  have hk0 : k = 0 := by omega
  subst hk0
  have hnn : s2.num = 1 := by rw [n2, n1, n0]
  rcases open_out h4 hA (Int.le_refl (-1)) hke2 (by omega) (area_fit hA.has).2 (room := 0) ⟨by decide, by decide⟩ with ⟨fu', o', g1, g2, g3, e⟩ | ⟨g1, _⟩
  · rw [← f2, ← hd] at e
    refine ⟨s0, s1, s2, _, e0, r0, hi1, r1, hi2, hi3, e, ?_, htn, hnn, rfl, by rw [hnn], hM2, hM2, r2, g3.right g1 hke2 (by omega), f0, f1, f2, ?_, n0, by rw [n1, n0]⟩
    · unfold installSh
      rw [if_neg (not_not_intro ⟨g3.right g1 hke2 (by omega), hrb⟩), if_pos (by dsimp only; rw [hM2]; decide)]
    · rw [(mkD_down (1 - 0) o' a fu' s2.d.keep false).2.1]
      exact g2 rfl
  · exact absurd rfl g1
end
end Go.Proofs.YteljklkgdejhpaaGreatDoor
namespace Go.Proofs.YteljklkgdejhpaaGreatDoor
open Go.RowKit
theorem setA_keep (d : DK) (k : Nat) (a : AK) : (setA d k a).keep = d.keep := by
  unfold setA
  split <;> rfl
theorem step_keep (d : DK) (k : Int) (full : Nat → Bool) (goes done : Nat → AK → AK) : (stepD d k full goes done).1.keep = d.keep := by
  unfold stepD
  split
  · rfl
  · split
    · rfl
    · split
      · rfl
      · split
        · show (setA d k.toNat _).keep = _
          exact setA_keep _ _ _
        · show (setA d k.toNat _).keep = _
          exact setA_keep _ _ _
theorem slipD_keep (f : List UInt8 → List UInt8) (d : DK) (k : Int) (t : List UInt8) : (slipD f d k t).1.keep = d.keep := by
  unfold slipD
  split
  · exact step_keep _ _ _ _ _
  · exact (step_keep _ _ _ _ _).trans (step_keep _ _ _ _ _)
theorem wipeSlip_keep (f : List UInt8 → List UInt8) (d : DK) (k : Int) (t : List UInt8) : (wipeSlip f d k t).1.keep = d.keep := by
  unfold wipeSlip
  split
  · exact (slipD_keep _ _ _ _).trans (step_keep _ _ _ _ _)
  · exact step_keep _ _ _ _ _
theorem anewK_keep (f : List UInt8 → List UInt8) (s : ShK) : (anewK f s).1.d.keep = s.d.keep := by
  unfold anewK
  split
  · rfl
  · split
    · exact wipeSlip_keep _ _ _ _
    · exact wipeSlip_keep _ _ _ _
theorem keepSh_keep (f : List UInt8 → List UInt8) (s : ShK) (m : MemK) (t : List UInt8) : (keepSh f s m t).1.d.keep = s.d.keep := by
  unfold keepSh
  split
  · split
    · rfl
    · exact anewK_keep _ _
  · split
    · exact slipD_keep _ _ _ _
    · exact slipD_keep _ _ _ _
theorem takeSh_keep (f : List UInt8 → List UInt8) (s : ShK) (u : Us) (clock floor : Nat) : (takeSh f s u clock floor).1.d.keep = s.d.keep := by
  unfold takeSh
  split
  · rfl
  · split
    · rfl
    · exact keepSh_keep _ _ _ _
theorem installSh_keep (f : List UInt8 → List UInt8) (s : ShK) (b : Bn) : (installSh f s b).1.d.keep = s.d.keep := by
  unfold installSh
  split
  · rfl
  · split
    · rfl
    · exact keepSh_keep _ _ _ _
theorem fromK_d (f : List UInt8 → List UInt8) (d : DK) (room : Int) : (fromK f d room).d = d := by
  unfold fromK
  split <;> rfl
theorem openK_keep (f : List UInt8 → List UInt8) (d : DK) (room : Int) : (openK f d room).1.d.keep = d.keep := by
  unfold openK
  split
  · rfl
  · split
    · rfl
    · split
      · show (anewK f (fromK f d room)).1.d.keep = _
        rw [anewK_keep, fromK_d]
      · rw [anewK_keep, fromK_d]
end Go.Proofs.YteljklkgdejhpaaGreatDoor
namespace Go.Proofs.YteljklkgdejhpaaGreatDoor
open Go.RowKit
theorem bun3_in (w : World) : InB w zeroWB (3, [], []) := ⟨rfl, rfl, rfl, Nat.le_refl _, Nat.le_refl _, RdE.nil, okD.nil _, RdG.nil, by decide, by decide, (fun x hx => by cases hx), ⟨by decide, (fun x hx => by cases hx), (fun x hx => by cases hx)⟩⟩
theorem new_in (w : World) : InD w ⟨none, 0, 0, none, 0, 0⟩ newK := ⟨rfl, Nat.le_refl _, Rd.nil, rfl, Nat.le_refl _, Rd.nil⟩
theorem new_lim : LimK newK := ⟨Nat.zero_le _, Nat.zero_le _, by decide, by decide⟩
theorem inS_n {f : List UInt8 → List UInt8} {w : World} {x : WS} {s : ShK} (h : InS w x s) (r : rightSh f s) : x.d.n0 ≤ 1000000000 ∧ x.d.n1 ≤ 1000000000 ∧ s.num < 18446744073709551616 :=
  ⟨by rw [← h.id.l0]; have := r.1.1.2.2; omega, by rw [← h.id.l1]; have := r.1.2.1.2.2; omega, by have := r.2.2.2.1; omega⟩
set_option maxHeartbeats 16000000 in
theorem awake20_any [Inhabited Tab] (w : World) (HK : Hid (KTab w)) : Calls Tryz.prog 7 #[] w fun e w' => e = .returned (.bool true) ∧ Below w.heap.size w w' := by
  obtain ⟨s0, s1, s2, t, e0, r0, e1, r1, e2, e3, e4, e5, t0, n0, t1, n1, mt, ms, r2, rt, f0, f1, f2, ft, q0, q1⟩ := wake (f := fS) fS_length
  obtain ⟨d2, tu2, nu2, mm2⟩ := s2
  obtain ⟨dt, tut, nut, mmt⟩ := t
  dsimp only at t0 n0 t1 n1 mt ms f2 ft
  subst t0 n0 t1 n1 mt ms
  have k0 : s0.d.keep = 0 := by have := openK_keep fS newK 2; rw [e0] at this; exact this
  have k1 : s1.d.keep = 0 := by have := installSh_keep fS s0 (3, [], []); rw [e1] at this; exact this.trans k0
  have k2 : d2.keep = 0 := by have := takeSh_keep fS s1 (1, 1, 7) 210 6; rw [e2] at this; exact this.trans k1
  have kt : dt.keep = 0 := by have := openK_keep fS d2 0; rw [e4] at this; exact this.trans k2
  have HKT := Lib.hid (fun W (hb : Below w.heap.size w W) => HK.out.keep hb)
  have H0 := Lib.hid (fun W (hb : Below w.heap.size w W) => by have := open20_any ⟨none, 0, 0, none, 0, 0⟩ newK 2 W (new_in W) new_lim (Lib.hid (HKT.out W hb)); rw [e0] at this; exact this)
  have hI : ∀ (s : ShK), rightSh fS s → s.d.fuse = -1 → s.d.keep = 0 → ∀ (x : WS) W, Below w.heap.size w W → InS W x s → Calls Tryz.prog 22 #[aggS x s, .agg #[.int .u64 3, .slice none 0 0, .slice none 0 0]] W (RetX W (installSh fS s (3, [], [])).1 (installSh fS s (3, [], [])).2) := fun s r hf hk x W hb hx => by
    obtain ⟨h1, h2, h3⟩ := inS_n hx r
    exact install20_any x s zeroWB (3, [], []) W hx (bun3_in W) h1 h2 h3 (by omega) (by omega) (Lib.hid (HKT.out W hb))
  have hT : ∀ (s : ShK), rightSh fS s → s.d.fuse = -1 → s.d.keep = 0 → ∀ (x : WS) W, Below w.heap.size w W → InS W x s → Calls Tryz.prog 20 #[aggS x s, .agg #[.int .u64 1, .int .u64 1, .int .u64 7], .int .u64 210, .int .u64 6] W (RetX W (takeSh fS s (1, 1, 7) 210 6).1 (takeSh fS s (1, 1, 7) 210 6).2) := fun s r hf hk x W hb hx => by
    obtain ⟨h1, h2, h3⟩ := inS_n hx r
    exact take20_any x s (1, 1, 7) 210 6 W hx ⟨by show (1 : Nat) < _; decide, by show (1 : Nat) < _; decide, by show (7 : Nat) < _; decide⟩ (by decide) (by decide) h1 h2 h3 (by omega) (by omega) (Lib.hid (HKT.out W hb))
  have hR : ∀ (s : ShK), rightSh fS s → ∀ (x : WS) W, Below w.heap.size w W → InS W x s → Calls Tryz.prog 15 #[aggS x s] W (RetBo W (rightSh fS s)) := fun s r x W hb hx => by
    obtain ⟨h1, h2, h3⟩ := inS_n hx r
    exact rightsh_any x s W hx h1 h2 h3 (Lib.hid (HKT.out W hb))
  have H1 := hI s0 r0 f0 k0
  rw [e1] at H1
  have H2 := hT s1 r1 f1 k1
  rw [e2] at H2
  have H3 := hT (⟨d2, 0, 1, ⟨210, (3, [], []), (2, 6, [(1, 1, 7)])⟩⟩ : ShK) r2 f2 k2
  rw [e3] at H3
  have H4 : ∀ (x : WS) W, Below w.heap.size w W → InS W x (⟨d2, 0, 1, ⟨210, (3, [], []), (2, 6, [(1, 1, 7)])⟩⟩ : ShK) → Calls Tryz.prog 13 #[aggD x.d d2, .int .i64 0] W (RetX W (⟨dt, 1, 2, ⟨210, (3, [], []), (2, 6, [(1, 1, 7)])⟩⟩ : ShK) 0) := fun x W hb hx => by
    have := open20_any x.d d2 0 W hx.id (rightSh_lim r2 (by show d2.fuse ≤ _; omega) (by show d2.keep ≤ _; omega)) (Lib.hid (HKT.out W hb))
    rw [e4] at this
    exact this
  have H5 := hI (⟨dt, 1, 2, ⟨210, (3, [], []), (2, 6, [(1, 1, 7)])⟩⟩ : ShK) rt ft kt
  rw [e5] at H5
  have H6 := hR (⟨d2, 0, 1, ⟨210, (3, [], []), (2, 6, [(1, 1, 7)])⟩⟩ : ShK) r2
  have H7 := hR (⟨dt, 1, 2, ⟨210, (3, [], []), (2, 6, [(1, 1, 7)])⟩⟩ : ShK) rt
  unfold aggS at H1 H2 H3 H5 H6 H7
  unfold aggD at H0 H4
  dsimp only at H0
  have H1' := Lib.hid H1
  have H2' := Lib.hid H2
  have H3' := Lib.hid H3
  have H4' := Lib.hid H4
  have H5' := Lib.hid H5
  have H6' := Lib.hid H6
  have H7' := Lib.hid H7
  have HF := Lib.hid (And.intro r2 rt)
  clear H1 H2 H3 H4 H5 H6 H7 e0 e1 e2 e3 e4 e5 r0 r1 r2 rt f0 f1 f2 ft q0 q1 k0 k1 k2 kt hI hT hR HK
  go_enter Tryz.func7, Tryz.ntmps7
  go_wp2_with fail
  refine (new17_any w).mono ?_
  rintro e w1 ⟨rfl, hB⟩
  unfold aggD newK
  dsimp only
  go_wp2_with fail
  refine (H0.out _ hB).mono ?_
  rintro e w2 ⟨x0, rfl, hx, hxo, hb⟩
  replace hB := below_step hB hb
  obtain ⟨hR1, hB1⟩ := box_of w2 39 l0S _ rfl
  clear hb H0 hxo
  unfold aggS
  go_upto_region 2 with (refine wpList_store_row rfl 39 (.tmp 1) (.tmp 15) rfl (w2.heap.size) rfl ((lS x0 s0)) rfl _ _ (hR1) (by exact size_shelf) rfl (one_shelf x0 s0) ?_)
  replace hR1 := hR1.setRow (lS x0 s0)
  have hbn := below_setRow hB1 (Nat.le_refl _) (lS x0 s0).toArray
  clear hB1
  have hgw : w.heap.size ≤ w2.heap.size := hB.size
  generalize (w2.alloc (.cells l0S.toArray 39)).setRow w2.heap.size (lS x0 s0).toArray = w3 at hR1 hbn ⊢
  have hx0 := hx.keep hbn
  replace hB := below_step hB hbn
  clear hbn hx
  generalize hge : w2.heap.size = g1 at *
  clear hge
  go_wp2_with (refine wpList_load_part rfl 39 (.tmp 1) rfl (g1) 0 rfl _ _ (hR1) ((lS x0 s0)) (by rfl) _ Tryz.underlying39 rfl (by exact size_shelf) ?_)
  refine (H1'.out x0 _ hB hx0).mono ?_
  rintro e w4 ⟨x1, rfl, hx1, hxo, hb⟩
  have lhR1 := hR1.lt
  replace hR1 := hR1.later hb
  replace hB := below_step hB hb
  clear hb
  unfold aggS
  (try dsimp only)
  clear hx0 H1'
  have hO := (Only.refl g1 w4).setRow (lS x1 s1).toArray
  go_upto_region 3 with (refine wpList_store_row rfl 39 (.tmp 1) (.tmp 21) rfl (g1) rfl ((lS x1 s1)) rfl _ _ (hR1) (by exact size_shelf) rfl (one_shelf x1 s1) ?_)
  replace hR1 := hR1.setRow (lS x1 s1)
  replace hx1 := hx1.at_only hO hxo (Nat.zero_le _) lhR1
  replace hB := below_setRow hB (by omega) (lS x1 s1).toArray
  clear hO hxo
  generalize w4.setRow g1 (lS x1 s1).toArray = w5 at *
  obtain ⟨hR4, hBn⟩ := box_of w5 57 [.int .u64 0, .int .u64 0, .int .u64 0] _ rfl
  have hg5 := hR1.lt
  go_upto_region 4 with (refine wpList_store_row rfl 57 (.tmp 4) (.tmp 23) rfl (w5.heap.size) rfl ([.int .u64 1, .int .u64 1, .int .u64 7]) rfl _ _ (hR4) (by exact size_use) rfl (one_three _ _ _ rfl rfl rfl) ?_)
  replace hR4 := hR4.setRow [.int .u64 1, .int .u64 1, .int .u64 7]
  have hbn := below_setRow hBn (Nat.le_refl _) [.int .u64 1, .int .u64 1, .int .u64 7].toArray
  clear hBn
  generalize (w5.alloc (.cells #[.int .u64 0, .int .u64 0, .int .u64 0] 57)).setRow w5.heap.size [.int .u64 1, .int .u64 1, .int .u64 7].toArray = w6 at hR4 hbn ⊢
  replace hR1 := hR1.later hbn
  replace hx1 := hx1.keep hbn
  replace hB := below_step hB hbn
  clear hbn
  generalize hge : w5.heap.size = g4 at *
  clear hge
  go_wp2_with (first
    | (refine wpList_load_part rfl 39 (.tmp 1) rfl (g1) 0 rfl _ _ (hR1) ((lS x1 s1)) (by rfl) _ Tryz.underlying39 rfl (by exact size_shelf) ?_)
    | (refine wpList_load_part rfl 57 (.tmp 4) rfl (g4) 0 rfl _ _ (hR4) ([.int .u64 1, .int .u64 1, .int .u64 7]) (by rfl) _ Tryz.underlying57 rfl (by exact size_use) ?_))
  refine (H2'.out x1 _ hB hx1).mono ?_
  rintro e w7 ⟨x2, rfl, hx2, hxo, hb⟩
  have lhR1 := hR1.lt
  have lhR4 := hR4.lt
  replace hR1 := hR1.later hb
  replace hR4 := hR4.later hb
  replace hB := below_step hB hb
  clear hb
  unfold aggS
  (try dsimp only)
  clear hx1 H2'
  have hO := (Only.refl g1 w7).setRow (lS x2 (⟨d2, 0, 1, ⟨210, (3, [], []), (2, 6, [(1, 1, 7)])⟩⟩ : ShK)).toArray
  go_upto_region 5 with (refine wpList_store_row rfl 39 (.tmp 1) (.tmp 28) rfl (g1) rfl ((lS x2 (⟨d2, 0, 1, ⟨210, (3, [], []), (2, 6, [(1, 1, 7)])⟩⟩ : ShK))) rfl _ _ (hR1) (by exact size_shelf) rfl (one_shelf x2 (⟨d2, 0, 1, ⟨210, (3, [], []), (2, 6, [(1, 1, 7)])⟩⟩ : ShK)) ?_)
  replace hR1 := hR1.setRow (lS x2 (⟨d2, 0, 1, ⟨210, (3, [], []), (2, 6, [(1, 1, 7)])⟩⟩ : ShK))
  replace hx2 := hx2.at_only hO hxo (Nat.zero_le _) lhR1
  replace hR4 := hR4.only hO (by omega)
  replace hB := below_setRow hB (by omega) (lS x2 (⟨d2, 0, 1, ⟨210, (3, [], []), (2, 6, [(1, 1, 7)])⟩⟩ : ShK)).toArray
  clear hO hxo
  generalize w7.setRow g1 (lS x2 (⟨d2, 0, 1, ⟨210, (3, [], []), (2, 6, [(1, 1, 7)])⟩⟩ : ShK)).toArray = w8 at *
  go_wp2_with (first
    | (refine wpList_load_part rfl 39 (.tmp 1) rfl (g1) 0 rfl _ _ (hR1) ((lS x2 (⟨d2, 0, 1, ⟨210, (3, [], []), (2, 6, [(1, 1, 7)])⟩⟩ : ShK))) (by rfl) _ Tryz.underlying39 rfl (by exact size_shelf) ?_)
    | (refine wpList_load_part rfl 57 (.tmp 4) rfl (g4) 0 rfl _ _ (hR4) ([.int .u64 1, .int .u64 1, .int .u64 7]) (by rfl) _ Tryz.underlying57 rfl (by exact size_use) ?_))
  refine (H3'.out x2 _ hB hx2).mono ?_
  rintro e w9 ⟨x3, rfl, hx3, hxo, hb⟩
  have lhR1 := hR1.lt
  have lhR4 := hR4.lt
  replace hR1 := hR1.later hb
  replace hR4 := hR4.later hb
  replace hx2 := hx2.keep hb
  replace hB := below_step hB hb
  clear hb
  unfold aggS
  (try dsimp only)
  clear H3' hxo hx3
  obtain ⟨hR6, hBn⟩ := box_of w9 39 l0S _ rfl
  go_upto_region 6 with (refine wpList_store_row rfl 39 (.tmp 6) (.tmp 34) rfl (w9.heap.size) rfl ((lS x3 (⟨d2, 0, 1, ⟨210, (3, [], []), (2, 6, [(1, 1, 7)])⟩⟩ : ShK))) rfl _ _ (hR6) (by exact size_shelf) rfl (one_shelf x3 (⟨d2, 0, 1, ⟨210, (3, [], []), (2, 6, [(1, 1, 7)])⟩⟩ : ShK)) ?_)
  replace hR6 := hR6.setRow (lS x3 (⟨d2, 0, 1, ⟨210, (3, [], []), (2, 6, [(1, 1, 7)])⟩⟩ : ShK))
  have hbn := below_setRow hBn (Nat.le_refl _) (lS x3 (⟨d2, 0, 1, ⟨210, (3, [], []), (2, 6, [(1, 1, 7)])⟩⟩ : ShK)).toArray
  clear hBn
  generalize (w9.alloc (.cells l0S.toArray 39)).setRow w9.heap.size (lS x3 (⟨d2, 0, 1, ⟨210, (3, [], []), (2, 6, [(1, 1, 7)])⟩⟩ : ShK)).toArray = w10 at hR6 hbn ⊢
  replace hR1 := hR1.later hbn
  replace hR4 := hR4.later hbn
  replace hx2 := hx2.keep hbn
  replace hB := below_step hB hbn
  clear hbn
  generalize hge : w9.heap.size = g6 at *
  clear hge
  clear hR6
  go_wp2_with (refine wpList_load_part rfl 27 (.tmp 37) rfl (g1) 0 rfl _ _ (hR1) ((lD x2.d d2)) (by rfl) _ Tryz.underlying27 rfl (by exact size_disk) ?_)
  refine (H4'.out x2 _ hB hx2).mono ?_
  rintro e w11 ⟨xt, rfl, hxt, hxo, hb⟩
  have lhR1 := hR1.lt
  have lhR4 := hR4.lt
  replace hR1 := hR1.later hb
  replace hR4 := hR4.later hb
  replace hx2 := hx2.keep hb
  replace hB := below_step hB hb
  clear hb
  unfold aggS
  (try dsimp only)
  clear H4' hxo
  obtain ⟨hR8, hBn⟩ := box_of w11 39 l0S _ rfl
  go_upto_region 7 with (refine wpList_store_row rfl 39 (.tmp 8) (.tmp 40) rfl (w11.heap.size) rfl ((lS xt (⟨dt, 1, 2, ⟨210, (3, [], []), (2, 6, [(1, 1, 7)])⟩⟩ : ShK))) rfl _ _ (hR8) (by exact size_shelf) rfl (one_shelf xt (⟨dt, 1, 2, ⟨210, (3, [], []), (2, 6, [(1, 1, 7)])⟩⟩ : ShK)) ?_)
  replace hR8 := hR8.setRow (lS xt (⟨dt, 1, 2, ⟨210, (3, [], []), (2, 6, [(1, 1, 7)])⟩⟩ : ShK))
  have hbn := below_setRow hBn (Nat.le_refl _) (lS xt (⟨dt, 1, 2, ⟨210, (3, [], []), (2, 6, [(1, 1, 7)])⟩⟩ : ShK)).toArray
  clear hBn
  generalize (w11.alloc (.cells l0S.toArray 39)).setRow w11.heap.size (lS xt (⟨dt, 1, 2, ⟨210, (3, [], []), (2, 6, [(1, 1, 7)])⟩⟩ : ShK)).toArray = w12 at hR8 hbn ⊢
  replace hR1 := hR1.later hbn
  replace hR4 := hR4.later hbn
  replace hx2 := hx2.keep hbn
  replace hxt := hxt.keep hbn
  replace hB := below_step hB hbn
  clear hbn
  generalize hge : w11.heap.size = g8 at *
  clear hge
  go_wp2_with (refine wpList_load_part rfl 39 (.tmp 8) rfl (g8) 0 rfl _ _ (hR8) ((lS xt (⟨dt, 1, 2, ⟨210, (3, [], []), (2, 6, [(1, 1, 7)])⟩⟩ : ShK))) (by rfl) _ Tryz.underlying39 rfl (by exact size_shelf) ?_)
  refine (H5'.out xt _ hB hxt).mono ?_
  rintro e w13 ⟨xe, rfl, hxe, hxo, hb⟩
  have lhR1 := hR1.lt
  have lhR4 := hR4.lt
  have lhR8 := hR8.lt
  replace hR1 := hR1.later hb
  replace hR4 := hR4.later hb
  replace hR8 := hR8.later hb
  replace hx2 := hx2.keep hb
  replace hxt := hxt.keep hb
  replace hB := below_step hB hb
  clear hb
  unfold aggS
  (try dsimp only)
  clear H5' hxo hxe
  obtain ⟨hR10, hBn⟩ := box_of w13 39 l0S _ rfl
  have hhs : ∀ W, Below w13.heap.size w13 W → _ := fun W hb => has19_any 2 6 [(1, 1, 7)] 1 1 7 xt.m.c.s xt.m.c.c xt.m.c.A W (Lib.hid hxt.im.ic.ns) (hxt.im.ic.ru.keep hb) (by have := hxt.im.ic.ls; omega)
  unfold aggC at hhs
  have HHS := Lib.hid hhs
  have hsm : ∀ W, Below w13.heap.size w13 W → _ := fun W hb => samemem_any x2.m xt.m _ _ W (hx2.im.keep hb) (hxt.im.keep hb)
  unfold aggM at hsm
  have HSM := Lib.hid hsm
  have HX2 := Lib.hid (fun W (hb : Below w13.heap.size w13 W) => hx2.keep hb)
  have HXT := Lib.hid (fun W (hb : Below w13.heap.size w13 W) => hxt.keep hb)
  have hBz := Below.refl w13.heap.size w13
  clear hhs hsm hx2 hxt
  go_wp2_with ((refine wpList_store_row rfl 39 (.tmp 10) (.tmp 46) rfl (w13.heap.size) rfl ((lS xe (⟨dt, 1, 2, ⟨210, (3, [], []), (2, 6, [(1, 1, 7)])⟩⟩ : ShK))) rfl _ _ (hR10) (by exact size_shelf) rfl (one_shelf xe (⟨dt, 1, 2, ⟨210, (3, [], []), (2, 6, [(1, 1, 7)])⟩⟩ : ShK)) ?_); have hbn := below_setRow hBn (Nat.le_refl _) (lS xe (⟨dt, 1, 2, ⟨210, (3, [], []), (2, 6, [(1, 1, 7)])⟩⟩ : ShK)).toArray; generalize (w13.alloc (.cells l0S.toArray 39)).setRow w13.heap.size (lS xe (⟨dt, 1, 2, ⟨210, (3, [], []), (2, 6, [(1, 1, 7)])⟩⟩ : ShK)).toArray = w14 at hbn ⊢; replace hR1 := hR1.later hbn; replace hR4 := hR4.later hbn; replace hR8 := hR8.later hbn; replace hB := below_step hB hbn; have a7 := hR1.cell (i := 7) rfl; have a8 := hR1.cell (i := 8) rfl; have c7 := hR8.cell (i := 7) rfl; have c8 := hR8.cell (i := 8) rfl; have c9 := hR8.cell (i := 9) rfl; have c13 := hR8.cell (i := 13) rfl; have c14 := hR8.cell (i := 14) rfl; have c15 := hR8.cell (i := 15) rfl; have b0 := hR4.cell (i := 0) rfl; have b1 := hR4.cell (i := 1) rfl; have b2 := hR4.cell (i := 2) rfl; replace hBz := hbn)
  refine (HHS.out _ hBz).mono ?_
  rintro e w15 ⟨rfl, hb⟩
  replace hR1 := hR1.later hb
  replace hR4 := hR4.later hb
  replace hR8 := hR8.later hb
  replace hB := below_step hB hb
  replace hBz := below_step hBz hb
  clear hb a7 a8 c7 c8 c9 c13 c14 c15 b0 b1 b2 HHS
  have a9 := hR1.cell (i := 9) rfl
  have a10 := hR1.cell (i := 10) rfl
  have a11 := hR1.cell (i := 11) rfl
  have a12 := hR1.cell (i := 12) rfl
  have a13 := hR1.cell (i := 13) rfl
  have a14 := hR1.cell (i := 14) rfl
  have a15 := hR1.cell (i := 15) rfl
  have c9 := hR8.cell (i := 9) rfl
  have c10 := hR8.cell (i := 10) rfl
  have c11 := hR8.cell (i := 11) rfl
  have c12 := hR8.cell (i := 12) rfl
  have c13 := hR8.cell (i := 13) rfl
  have c14 := hR8.cell (i := 14) rfl
  have c15 := hR8.cell (i := 15) rfl
  have hh : hasU [(1, 1, 7)] (1, 1, 7) = true := by decide
  rw [hh]
  clear hh
  go_wp2_with fail
  refine (HSM.out _ hBz).mono ?_
  rintro e w16 ⟨r, rfl, HQ, hb⟩
  have hq : r = true := HQ.out.2 (by trivial)
  subst hq
  replace hR1 := hR1.later hb
  replace hR8 := hR8.later hb
  replace hB := below_step hB hb
  replace hBz := below_step hBz hb
  clear hb HQ HSM a9 a10 a11 a12 a13 a14 a15 c9 c10 c11 c12 c13 c14 c15
  have a0 := hR1.cell (i := 0) rfl
  have a1 := hR1.cell (i := 1) rfl
  have a2 := hR1.cell (i := 2) rfl
  have a3 := hR1.cell (i := 3) rfl
  have a4 := hR1.cell (i := 4) rfl
  have a5 := hR1.cell (i := 5) rfl
  have a6 := hR1.cell (i := 6) rfl
  have a7 := hR1.cell (i := 7) rfl
  have a8 := hR1.cell (i := 8) rfl
  have a9 := hR1.cell (i := 9) rfl
  have a10 := hR1.cell (i := 10) rfl
  have a11 := hR1.cell (i := 11) rfl
  have a12 := hR1.cell (i := 12) rfl
  have a13 := hR1.cell (i := 13) rfl
  have a14 := hR1.cell (i := 14) rfl
  have a15 := hR1.cell (i := 15) rfl
  go_wp2_with fail
  refine (H6'.out x2 _ hB (HX2.out _ hBz)).mono ?_
  rintro e w17 ⟨r, rfl, HQ, hb⟩
  have hq : r = true := HQ.out.2 HF.out.1
  subst hq
  replace hR8 := hR8.later hb
  replace hB := below_step hB hb
  replace hBz := below_step hBz hb
  clear hb HQ H6' a0 a1 a2 a3 a4 a5 a6 a7 a8 a9 a10 a11 a12 a13 a14 a15
  have c0 := hR8.cell (i := 0) rfl
  have c1 := hR8.cell (i := 1) rfl
  have c2 := hR8.cell (i := 2) rfl
  have c3 := hR8.cell (i := 3) rfl
  have c4 := hR8.cell (i := 4) rfl
  have c5 := hR8.cell (i := 5) rfl
  have c6 := hR8.cell (i := 6) rfl
  have c7 := hR8.cell (i := 7) rfl
  have c8 := hR8.cell (i := 8) rfl
  have c9 := hR8.cell (i := 9) rfl
  have c10 := hR8.cell (i := 10) rfl
  have c11 := hR8.cell (i := 11) rfl
  have c12 := hR8.cell (i := 12) rfl
  have c13 := hR8.cell (i := 13) rfl
  have c14 := hR8.cell (i := 14) rfl
  have c15 := hR8.cell (i := 15) rfl
  go_wp2_with fail
  refine (H7'.out xt _ hB (HXT.out _ hBz)).mono ?_
  rintro e w18 ⟨r, rfl, HQ, hb⟩
  have hq : r = true := HQ.out.2 HF.out.2
  subst hq
  replace hB := below_step hB hb
  clear hb HQ H7' c0 c1 c2 c3 c4 c5 c6 c7 c8 c9 c10 c11 c12 c13 c14 c15
  go_wp2_with fail
  go_ret
  exact ⟨rfl, hB⟩
end Go.Proofs.YteljklkgdejhpaaGreatDoor
namespace Go.Proofs.YteljklkgdejhpaaGreatDoor
open Go.RowKit
def setFD (d : DK) (fu ke : Int) : DK := { d with fuse := fu, keep := ke }
def OpI (f : List UInt8 → List UInt8) (d : DK) (n : Nat) (m : MemK) : Prop := ∃ k a o z fu ke, d = mkD k a o fu ke false ∧ HasA f k a o n m z
theorem setFD_mk (k : Nat) (a o : AK) (x y fu ke : Int) : setFD (mkD k a o x y false) fu ke = mkD k a o fu ke false := by
  unfold setFD mkD
  split <;> rfl
section
variable {f : List UInt8 → List UInt8} (h4 : ∀ b, (f b).length = 4)
include h4
omit h4 in
theorem OpI.of {s : ShK} (h : rightSh f s) : OpI f s.d s.num s.m := by
  obtain ⟨k, a, o, hd, _, hA, _⟩ := HasA.of h
  exact ⟨k, a, o, _, _, _, hd, hA⟩
omit h4 in
theorem OpI.lens {d : DK} {n : Nat} {m : MemK} (h : OpI f d n m) : d.a0.b.length ≤ 1048576 ∧ d.a1.b.length ≤ 1048576 := by
  obtain ⟨k, a, o, z, fu, ke, rfl, hA⟩ := h
  have h1 := hA.ra.2.2
  have h2 := hA.ro.2.2
  rcases hA.kk with e | e <;> rw [e]
  · exact ⟨h1, h2⟩
  · exact ⟨h2, h1⟩
omit h4 in
theorem OpI.has {d : DK} {n : Nat} {m : MemK} (h : OpI f d n m) : ∃ k z : Nat, hasK f d = some (k, n, m, z) := by
  obtain ⟨k, a, o, z, fu, ke, rfl, hA⟩ := h
  exact ⟨k, z, hA.disk fu ke false⟩
theorem OpI.step {d : DK} {n : Nat} {m : MemK} (h : OpI f d n m) (hn : n < 4611686018427387904) {fu ke : Int} (hfu : 0 ≤ fu) (hke : 0 ≤ ke) :
    ((openK f (setFD d fu ke) 5).2 = 0 ∧ rightSh f (openK f (setFD d fu ke) 5).1 ∧ (openK f (setFD d fu ke) 5).1.m = m ∧ OpI f (openK f (setFD d fu ke) 5).1.d (n + 1) m) ∨
    ((openK f (setFD d fu ke) 5).2 = 14 ∧ (riseD (openK f (setFD d fu ke) 5).1.d).2 = 0 ∧ ∃ n', n ≤ n' ∧ n' ≤ n + 1 ∧ OpI f (riseD (openK f (setFD d fu ke) 5).1.d).1 n' m) := by
  obtain ⟨k, a, o, z, x, y, rfl, hA⟩ := h
  rw [setFD_mk]
  rcases open_out h4 hA (show (-1 : Int) ≤ fu by omega) hke hn (area_fit hA.has).2 (room := 5) ⟨by decide, by decide⟩ with ⟨fu', o', g1, _, g3, e⟩ | ⟨_, o', g2, e⟩
  · rw [e]
    exact .inl ⟨rfl, g3.right g1 hke (by omega), rfl, 1 - k, o', a, _, _, _, rfl, g3⟩
  · rw [e]
    have hsw : mkD k a o' (-1) ke true = mkD (1 - k) o' a (-1) ke true := by rcases hA.kk with e | e <;> rw [e] <;> rfl
    refine .inr ⟨rfl, ?_⟩
    show (riseD (mkD k a o' (-1) ke true)).2 = 0 ∧ ∃ n', n ≤ n' ∧ n' ≤ n + 1 ∧ OpI f (riseD (mkD k a o' (-1) ke true)).1 n' m
    rcases g2 with g2 | g2
    · rw [g2.rise hke]
      exact ⟨rfl, n, Nat.le_refl _, Nat.le_succ _, k, a, o', z, _, _, rfl, g2⟩
    · rw [hsw, g2.rise hke]
      exact ⟨rfl, n + 1, Nat.le_succ _, Nat.le_refl _, 1 - k, o', a, _, _, _, rfl, g2⟩
end
end Go.Proofs.YteljklkgdejhpaaGreatDoor
namespace Go.Proofs.YteljklkgdejhpaaGreatDoor
open Go.RowKit
theorem Row.ne_byte {w : World} {g o : Nat} {x : WD} {D : DK} {k : Int} {t : TypeId} (h : Row w g t (lD x D)) (e : w.cell? ⟨g, o, none⟩ = some (.int .u8 k)) : False := by
  rw [h.cell?] at e
  match o, e with
  | 0, e => simp at e
  | 1, e => simp at e
  | 2, e => simp at e
  | 3, e => simp at e
  | 4, e => simp at e
  | 5, e => simp at e
  | 6, e => simp at e
  | o + 7, e => simp at e
theorem cell_only {g b o : Nat} {w W : World} {v : Value} (k : Only g w W) (h : b ≠ g) (e : w.cell? ⟨b, o, none⟩ = some v) : W.cell? ⟨b, o, none⟩ = some v := (World.cell?_of_block (w := w) (a := ⟨b, o, none⟩) (k.other b h (World.block_lt_of_cell? w _ e))).trans e
theorem rise_lens {d : DK} (h : (riseD d).2 = 0) : d.a0.b.length ≤ 70368744177664 ∧ d.a1.b.length ≤ 70368744177664 := by
  unfold riseD at h
  split at h
  · exact absurd h (by show ¬ (1 : Int) = 0; decide)
  · rename_i hh
    have hr := (Classical.not_not.1 hh).1
    have h1 := hr.1.2.2
    have h2 := hr.2.1.2.2
    exact ⟨by omega, by omega⟩
theorem InD.setFD {w : World} {x : WD} {D : DK} (h : InD w x D) (fu ke : Int) : InD w x (setFD D fu ke) := ⟨h.l0, h.h0, h.r0, h.l1, h.h1, h.r1⟩
def idxS (b1 o1 b2 o2 : Nat) (v1 v2 : Value) (W : World) : Prop := W.cell? ⟨b1, o1, none⟩ = some v1 ∧ W.cell? ⟨b2, o2, none⟩ = some v2
def OpL [Inhabited Tab] (w : World) (x : WS) (s : ShK) (g7 n1 : Nat) (iv : Value) (wr : World) : Prop :=
  ∃ (i : Nat) (y : WD) (D : DK), iv = .int .i64 (i : Int) ∧ i ≤ n1 ∧ Row wr w.heap.size 39 (lS x s) ∧ Row wr g7 27 (lD y D) ∧ InS wr x s ∧ InD wr y D ∧ OffD g7 (g7 + 1) y ∧ (∃ n, OpI fS D n s.m ∧ s.num ≤ n ∧ n ≤ s.num + i) ∧ Below w.heap.size w wr
set_option maxHeartbeats 16000000 in
theorem shelfopens_walk [Inhabited Tab] (x : WS) (s : ShK) (Fl Kl : List UInt8) (n1 c1 n2 c2 : Nat) (A1 A2 : Option Addr) (w : World) (h : PreS w x s) (hnum : s.num < 18446744073709551616) (HF : Hid (Fl.length = n1)) (hr1 : Rd vB w A1 Fl) (HG : Hid (Kl.length = n2)) (hr2 : Rd vB w A2 Kl) (hn1 : n1 ≤ 9223372036854775807) (hn2 : n2 ≤ 9223372036854775807) (HK : Hid (KTab w)) :
    Calls Tryz.prog 6 #[aggS x s, .slice A1 n1 c1, .slice A2 n2 c2] w fun e w' => e = .returned (.bool true) ∧ Below w.heap.size w w' := by
  obtain ⟨hR3, hB⟩ := box_of w 39 (lS x s) _ rfl
  have HP := Lib.hid (fun W (hb : Below w.heap.size w W) => h.keep hb)
  have HKT := Lib.hid (fun W (hb : Below w.heap.size w W) => HK.out.keep hb)
  have HR1 := Lib.hid (fun W (hb : Below w.heap.size w W) => hr1.keep hb)
  have HR2 := Lib.hid (fun W (hb : Below w.heap.size w W) => hr2.keep hb)
  have HAW := Lib.hid (fun W (hb : Below w.heap.size w W) => awake20_any W (Lib.hid (HK.out.keep hb)))
  clear h hr1 hr2 HK
  unfold aggS
  go_enter Tryz.func6, Tryz.ntmps6
  go_upto_region 1 with fail
  generalize (w.alloc (.cells (lS x s).toArray 39)) = W0 at hR3 hB ⊢
  go_wp2_with fail
  refine (HAW.out _ hB).mono ?_
  rintro e w1 ⟨rfl, hb⟩
  replace hR3 := hR3.later hb
  replace hB := below_step hB hb
  clear hb HAW
  have hsh := refshort20_any x s w1 (HP.out _ hB)
  unfold aggS at hsh
  have HSH := Lib.hid hsh
  clear hsh
  go_wp2_with (refine wpList_load_part rfl 39 (.tmp 3) rfl (w.heap.size) 0 rfl _ _ (hR3) ((lS x s)) (by rfl) _ Tryz.underlying39 rfl (by exact size_shelf) ?_)
  refine HSH.out.mono ?_
  rintro e w2 ⟨r, rfl, HQ, hb⟩
  replace hR3 := hR3.later hb
  replace hB := below_step hB hb
  clear hb HSH
  cases r with
  | false =>
    go_wp2_with fail
    go_ret
    exact ⟨rfl, hB⟩
  | true =>
    have hshort := HQ.out.1 rfl
    have hx := (HP.out _ hB).ins hshort
    have hd0 := hshort.1.1
    have hd1 := hshort.1.2
    clear HQ HP hshort
    by_cases h10 : 10 < n1
    · have i1 : (10 : Int) < (n1 : Int) := by omega
      go_wp2_with fail
      go_ret
      exact ⟨rfl, hB⟩
    · have i1 : ¬ (10 : Int) < (n1 : Int) := by omega
      by_cases h21 : n2 < n1
      · have i2 : (n2 : Int) < (n1 : Int) := by omega
        go_wp2_with fail
        go_ret
        exact ⟨rfl, hB⟩
      · have i2 : ¬ (n2 : Int) < (n1 : Int) := by omega
        have hrt := rightsh_any x s w2 hx (by omega) (by omega) hnum (Lib.hid (HKT.out _ hB))
        unfold aggS at hrt
        have HRT := Lib.hid hrt
        clear hrt
        have a0 := hR3.cell (i := 0) rfl
        have a1 := hR3.cell (i := 1) rfl
        have a2 := hR3.cell (i := 2) rfl
        have a3 := hR3.cell (i := 3) rfl
        have a4 := hR3.cell (i := 4) rfl
        have a5 := hR3.cell (i := 5) rfl
        have a6 := hR3.cell (i := 6) rfl
        have a7 := hR3.cell (i := 7) rfl
        have a8 := hR3.cell (i := 8) rfl
        have a9 := hR3.cell (i := 9) rfl
        have a10 := hR3.cell (i := 10) rfl
        have a11 := hR3.cell (i := 11) rfl
        have a12 := hR3.cell (i := 12) rfl
        have a13 := hR3.cell (i := 13) rfl
        have a14 := hR3.cell (i := 14) rfl
        have a15 := hR3.cell (i := 15) rfl
        go_wp2_with fail
        refine HRT.out.mono ?_
        rintro e w3 ⟨r, rfl, HQ, hb⟩
        replace hR3 := hR3.later hb
        replace hx := hx.keep hb
        replace hB := below_step hB hb
        clear hb HRT a0 a1 a2 a3 a4 a5 a6 a7 a8 a9 a10 a11 a12 a13 a14 a15
        cases r with
        | false =>
          go_wp2_with fail
          go_ret
          exact ⟨rfl, hB⟩
        | true =>
          have HRS := Lib.hid (HQ.out.1 rfl)
          clear HQ
          have a8 := hR3.cell (i := 8) rfl
          by_cases hbig : 1152921504606846976 < s.num
          · have i3 : decide ((1152921504606846976 : Int) < (s.num : Int)) = true := decide_eq_true (by omega)
            clear hbig
            go_wp2_with fail
            go_ret
            exact ⟨rfl, hB⟩
          · have i3 : decide ((1152921504606846976 : Int) < (s.num : Int)) = false := decide_eq_false (by omega)
            have HBIG : Hid (s.num ≤ 1152921504606846976) := Nat.le_of_not_lt hbig
            clear hbig
            go_upto_region 5 with fail
            clear a8 i1 i2 i3
            obtain ⟨hR7, hBn⟩ := box_of w3 27 l0D _ rfl
            go_upto_region 6 with (first
              | (refine wpList_load_part rfl 27 (.tmp 42) rfl (w.heap.size) 0 rfl _ _ (hR3) ((lD x.d s.d)) (by rfl) _ Tryz.underlying27 rfl (by exact size_disk) ?_)
              | (refine wpList_store_row rfl 27 (.tmp 7) (.tmp 43) rfl (w3.heap.size) rfl ((lD x.d s.d)) rfl _ _ (hR7) (by exact size_disk) rfl (one_disk x.d s.d) ?_))
            replace hR7 := hR7.setRow (lD x.d s.d)
            have hbn := below_setRow hBn (Nat.le_refl _) (lD x.d s.d).toArray
            have hg7 : w.heap.size < w3.heap.size := hR3.lt
            have hoy : OffD w3.heap.size (w3.heap.size + 1) x.d := hx.id.off _
            have hoS : OffS w3.heap.size (w3.heap.size + 1) x := hx.off _
            clear hBn
            generalize (w3.alloc (.cells l0D.toArray 27)).setRow w3.heap.size (lD x.d s.d).toArray = w4 at hR7 hbn ⊢
            replace hR3 := hR3.later hbn
            replace hx := hx.keep hbn
            replace hB := below_step hB hbn
            clear hbn
            generalize w3.heap.size = g7 at hR7 hg7 hoy hoS ⊢
            have f4 := hR7.frozen 4
            have c4 : w4.cell? ⟨g7, 4, none⟩ = some (.int .i64 s.d.fuse) := hR7.cell rfl
            have hO := (Only.refl g7 w4).setCell 4 (.int .i64 (-1))
            go_upto_region 7 with fail
            replace hR7 := hR7.setCell 4 (.int .i64 (-1))
            replace hR3 := hR3.only hO (by omega)
            replace hx := hx.at_only hO hoS (Nat.le_refl _) (Nat.lt_succ_self _)
            replace hB := hB.trans (hO.below.mono (by omega))
            clear f4 c4 hO
            generalize w4.setCell ⟨g7, 4, none⟩ (.int .i64 (-1)) = w5 at *
            have HSTART : Hid (OpL w x s g7 n1 (.int .i64 0) w5) := ⟨0, x.d, setFD s.d (-1) s.d.keep, rfl, Nat.zero_le _, hR3, hR7, hx, hx.id.setFD _ _, hoy, ⟨s.num, by
              obtain ⟨k, a, o, z, fu, ke, hd, hA⟩ := OpI.of HRS.out
              exact ⟨k, a, o, z, -1, s.d.keep, by rw [hd, setFD_mk], hA⟩, Nat.le_refl _, Nat.le_refl _⟩, hB⟩
            have HXO := Lib.hid hoS
            clear hR3 hR7 hx hB hoy hoS
            go_wp2_with fail
            go_loopw [8] (fun i wr => OpL w x s g7 n1 i wr) (fun i _ => n1 - (intOf i).toNat)
            case atStart => exact HSTART.out
            case round =>
              clear HSTART
              obtain ⟨i, y, D, rfl, hi, hR3, hR7, hx, hy, hoy, ⟨n, hop, hN1, hN2⟩, hB⟩ := hrel
              by_cases hlt : i < n1
              · have hk1 : i < Fl.length := by rw [HF.out]; exact hlt
                have hk2 : i < Kl.length := by rw [HG.out]; omega
                obtain ⟨b1, o1, rfl, hb1, hcell1⟩ := (HR1.out _ hB).at hk1
                obtain ⟨b2, o2, rfl, hb2, hcell2⟩ := (HR2.out _ hB).at hk2
                have e1 := hcell1 i hk1
                have e2 := hcell2 i hk2
                clear hcell1 hcell2
                obtain ⟨fb, hfb⟩ : ∃ q, Fl[i] = q := ⟨_, rfl⟩
                obtain ⟨kb, hkb⟩ : ∃ q, Kl[i] = q := ⟨_, rfl⟩
                rw [hfb] at e1
                rw [hkb] at e2
                clear hfb hkb
                unfold vB at e1 e2
                have i2 : (0 : Int) ≤ (i : Int) := by omega
                have i3 : (i : Int) < (n1 : Int) := by omega
                have i4 : (i : Int) < (n2 : Int) := by omega
                have hfl := fb.toNat_lt
                have hkl := kb.toNat_lt
                have hw1 : IntKind.i64.wrap (10 * (kb.toNat : Int)) = 10 * (kb.toNat : Int) := by rw [IntKind.wrap_i64]; omega
                have hw2 : IntKind.i64.wrap (kb.toNat : Int) = (kb.toNat : Int) := by rw [IntKind.wrap_i64]; omega
                have hw3 : IntKind.i64.wrap (fb.toNat : Int) = (fb.toNat : Int) := by rw [IntKind.wrap_i64]; omega
                go_upto_region 10 with fail
                have hS : idxS b1 (o1 + i) b2 (o2 + i) (.int .u8 (fb.toNat : Int)) (.int .u8 (kb.toNat : Int)) wr.drew := ⟨e1, e2⟩
                replace hR3 := hR3.drew
                replace hR7 := hR7.drew
                replace hx := hx.keep ((Below.refl _ wr).drew)
                replace hy := hy.keep ((Below.refl _ wr).drew)
                replace hB := hB.drew
                have hbb1 : b1 ≠ g7 := by
                  rintro rfl
                  exact hR7.ne_byte hS.1
                have hbb2 : b2 ≠ g7 := by
                  rintro rfl
                  exact hR7.ne_byte hS.2
                have hxo : OffS g7 (g7 + 1) x := HXO.out
                clear e1 e2 hb1 hb2
                refine wp_region_plan_of (idxS b1 (o1 + i) b2 (o2 + i) (.int .u8 (fb.toNat : Int)) (.int .u8 (kb.toNat : Int))) (.step 0 false (.step 1 false (.step 2 false (.step 3 false (.step 4 false (.step 5 false (.step 6 false (.step 7 false (.step 8 false (.step 9 false (.step 10 false (.step 11 false (.step 12 true (.step 13 false (.step 14 true (.nil)))))))))))))))) hS (by kernel_rfl) (by kernel_rfl) (by rfl) (by kernel_rfl) ?_
                generalize wr.drew = wv at *
                iterate 12 (refine plan_read rfl (by rfl) (v := ?_) ?_ ?_; rotate_left 1; (rintro W ⟨hW0, hW1⟩; go_simp <;> with_reducible rfl); simp only [pA, pB, pC, Act.put, pD, pE, pF])
                have f4 := hR7.frozen 4
                have c4 : wv.cell? ⟨g7, 4, none⟩ = some (.int .i64 D.fuse) := hR7.cell rfl
                have hO := (Only.refl g7 wv).setCell 4 (.int .i64 (fb.toNat : Int))
                have hS2 : idxS b1 (o1 + i) b2 (o2 + i) (.int .u8 (fb.toNat : Int)) (.int .u8 (kb.toNat : Int)) (wv.setCell ⟨g7, 4, none⟩ (.int .i64 (fb.toNat : Int))) := ⟨(cell_only hO hbb1 hS.1), (cell_only hO hbb2 hS.2)⟩
                clear hS
                refine plan_make_of rfl (by rfl) (fun K' hK => ?_)
                go_simp
                refine hK.out _ _ hS2 ?_
                clear hK K' f4 c4
                replace hR7 := hR7.setCell 4 (.int .i64 (fb.toNat : Int))
                replace hR3 := hR3.only hO (by omega)
                replace hx := hx.at_only hO hxo (Nat.le_refl _) (Nat.lt_succ_self _)
                replace hy := hy.at_only hO hoy (Nat.le_refl _) (Nat.lt_succ_self _)
                replace hB := hB.trans (hO.below.mono (by omega))
                clear hO
                generalize wv.setCell ⟨g7, 4, none⟩ (.int .i64 (fb.toNat : Int)) = wv2 at *
                (try simp only [pA, pB, pC, Act.put, pD, pE, pF])
                iterate 1 (refine plan_read rfl (by rfl) (v := ?_) ?_ ?_; rotate_left 1; (rintro W ⟨hW0, hW1⟩; go_simp <;> with_reducible rfl); simp only [pA, pB, pC, Act.put, pD, pE, pF])
                have f5 := hR7.frozen 5
                have c5 : wv2.cell? ⟨g7, 5, none⟩ = some (.int .i64 D.keep) := hR7.cell rfl
                have hO := (Only.refl g7 wv2).setCell 5 (.int .i64 (10 * (kb.toNat : Int)))
                have hS3 : idxS b1 (o1 + i) b2 (o2 + i) (.int .u8 (fb.toNat : Int)) (.int .u8 (kb.toNat : Int)) (wv2.setCell ⟨g7, 5, none⟩ (.int .i64 (10 * (kb.toNat : Int)))) := ⟨(cell_only hO hbb1 hS2.1), (cell_only hO hbb2 hS2.2)⟩
                clear hS2
                refine plan_make_of rfl (by rfl) (fun K' hK => ?_)
                go_simp
                refine hK.out _ _ hS3 ?_
                clear hK K' f5 c5 hS3
                replace hR7 := hR7.setCell 5 (.int .i64 (10 * (kb.toNat : Int)))
                replace hR3 := hR3.only hO (by omega)
                replace hx := hx.at_only hO hxo (Nat.le_refl _) (Nat.lt_succ_self _)
                replace hy := hy.at_only hO hoy (Nat.le_refl _) (Nat.lt_succ_self _)
                replace hB := hB.trans (hO.below.mono (by omega))
                clear hO
                generalize wv2.setCell ⟨g7, 5, none⟩ (.int .i64 (10 * (kb.toNat : Int))) = wo at *
                (try simp only [pA, pB, pC, Act.put, pD, pE, pF])
                refine plan_done ?_
                clear hw1 hw2 hw3 i2 i3 i4 hbb1 hbb2
                obtain ⟨P, hP⟩ : ∃ P, openK fS (setFD D (fb.toNat : Int) (10 * (kb.toNat : Int))) 5 = P := ⟨_, rfl⟩
                have hst := OpI.step fS_length hop (by have := HBIG.out; omega) (fu := (fb.toNat : Int)) (ke := 10 * (kb.toNat : Int)) (by omega) (by omega)
                have hkeep := openK_keep fS (setFD D (fb.toNat : Int) (10 * (kb.toNat : Int))) 5
                rw [hP] at hst hkeep
                have hop20 := open20_any y (setFD D (fb.toNat : Int) (10 * (kb.toNat : Int))) 5 wo (hy.setFD _ _) ⟨by have := hop.lens.1; show D.a0.b.length ≤ _; omega, by have := hop.lens.2; show D.a1.b.length ≤ _; omega, by show (fb.toNat : Int) ≤ _; omega, by show 10 * (kb.toNat : Int) ≤ _; omega⟩ (Lib.hid (HKT.out _ hB))
                rw [hP] at hop20
                unfold aggD at hop20
                have HOP := Lib.hid hop20
                have HST := Lib.hid hst
                clear hop20 hst hP hop hy hoy hkeep hfl hkl
                go_wp2_with (refine wpList_load_part rfl 27 (.tmp 7) rfl (g7) 0 rfl _ _ (hR7) ([.slice y.A0 y.n0 y.c0, .int .i64 D.a0.s, .slice y.A1 y.n1 y.c1, .int .i64 D.a1.s, .int .i64 (fb.toNat : Int), .int .i64 (10 * (kb.toNat : Int)), .bool D.down]) (by rfl) _ Tryz.underlying27 rfl (by exact size_disk) ?_)
                refine HOP.out.mono ?_
                rintro e wp ⟨z, rfl, hz, hzo, hb⟩
                have hl7 := hR7.lt
                have hzo7 : OffS g7 (g7 + 1) z := hzo.mono (Nat.zero_le _) (by omega)
                obtain ⟨t, er⟩ := P
                dsimp only at hz HST
                unfold aggS
                dsimp only
                replace hR3 := hR3.later hb
                replace hR7 := hR7.later hb
                replace hx := hx.keep hb
                replace hB := below_step hB hb
                have hsw := hb.size
                obtain ⟨hR9, hBn⟩ := box_of wp 39 l0S _ rfl
                clear hb HOP hzo
                go_upto_region 12 with (refine wpList_store_row rfl 39 (.tmp 9) (.tmp 67) rfl (wp.heap.size) rfl ((lS z t)) rfl _ _ (hR9) (by exact size_shelf) rfl (one_shelf z t) ?_)
                replace hR9 := hR9.setRow (lS z t)
                have hbn := below_setRow hBn (Nat.le_refl _) (lS z t).toArray
                clear hBn
                generalize (wp.alloc (.cells l0S.toArray 39)).setRow wp.heap.size (lS z t).toArray = wq at hR9 hbn ⊢
                replace hR3 := hR3.later hbn
                replace hR7 := hR7.later hbn
                replace hx := hx.keep hbn
                replace hz := hz.keep hbn
                replace hB := below_step hB hbn
                have hg9 : g7 < wp.heap.size := by omega
                clear hbn hsw hl7
                generalize wp.heap.size = g9 at hR9 hg9 ⊢
                have hO := (Only.refl g7 wq).setRow (lD z.d t.d).toArray
                go_upto_region 13 with (first
                  | (refine wpList_load_part rfl 27 (.tmp 69) rfl (g9) 0 rfl _ _ (hR9) ((lD z.d t.d)) (by rfl) _ Tryz.underlying27 rfl (by exact size_disk) ?_)
                  | (refine wpList_store_row rfl 27 (.tmp 7) (.tmp 70) rfl (g7) rfl ((lD z.d t.d)) rfl _ _ (hR7) (by exact size_disk) rfl (one_disk z.d t.d) ?_))
                replace hR7 := hR7.setRow (lD z.d t.d)
                replace hR3 := hR3.only hO (by omega)
                replace hR9 := hR9.only hO (by omega)
                replace hx := hx.at_only hO hxo (Nat.le_refl _) (Nat.lt_succ_self _)
                replace hz := hz.at_only hO hzo7 (Nat.le_refl _) (Nat.lt_succ_self _)
                replace hB := below_setRow hB (show w.heap.size ≤ g7 by omega) (lD z.d t.d).toArray
                clear hO
                generalize wq.setRow g7 (lD z.d t.d).toArray = ws at *
                rcases HST.out with ⟨he, hrt, htm, hop2⟩ | ⟨he, hrise, N2, hN3, hN4, hop2⟩
                · subst he
                  have HRT2 := Lib.hid hrt
                  have HTM := Lib.hid htm
                  have HOP2 := Lib.hid hop2
                  clear HST hrt htm hop2
                  have hrs := rightsh_any z t ws hz (inS_n hz HRT2.out).1 (inS_n hz HRT2.out).2.1 (inS_n hz HRT2.out).2.2 (Lib.hid (HKT.out _ hB))
                  unfold aggS at hrs
                  have HRS2 := Lib.hid hrs
                  clear hrs
                  have c0 := hR9.cell (i := 0) rfl
                  have c1 := hR9.cell (i := 1) rfl
                  have c2 := hR9.cell (i := 2) rfl
                  have c3 := hR9.cell (i := 3) rfl
                  have c4 := hR9.cell (i := 4) rfl
                  have c5 := hR9.cell (i := 5) rfl
                  have c6 := hR9.cell (i := 6) rfl
                  have c7 := hR9.cell (i := 7) rfl
                  have c8 := hR9.cell (i := 8) rfl
                  have c9 := hR9.cell (i := 9) rfl
                  have c10 := hR9.cell (i := 10) rfl
                  have c11 := hR9.cell (i := 11) rfl
                  have c12 := hR9.cell (i := 12) rfl
                  have c13 := hR9.cell (i := 13) rfl
                  have c14 := hR9.cell (i := 14) rfl
                  have c15 := hR9.cell (i := 15) rfl
                  go_wp2_with fail
                  refine HRS2.out.mono ?_
                  rintro e wu ⟨r, rfl, HQ, hb⟩
                  have hr1 : r = true := HQ.out.2 HRT2.out
                  subst hr1
                  replace hR3 := hR3.later hb
                  replace hR7 := hR7.later hb
                  replace hR9 := hR9.later hb
                  replace hx := hx.keep hb
                  replace hz := hz.keep hb
                  replace hB := below_step hB hb
                  clear hb HQ HRS2 c0 c1 c2 c3 c4 c5 c6 c7 c8 c9 c10 c11 c12 c13 c14 c15
                  have a9 := hR3.cell (i := 9) rfl
                  have a10 := hR3.cell (i := 10) rfl
                  have a11 := hR3.cell (i := 11) rfl
                  have a12 := hR3.cell (i := 12) rfl
                  have a13 := hR3.cell (i := 13) rfl
                  have a14 := hR3.cell (i := 14) rfl
                  have a15 := hR3.cell (i := 15) rfl
                  have c9 := hR9.cell (i := 9) rfl
                  have c10 := hR9.cell (i := 10) rfl
                  have c11 := hR9.cell (i := 11) rfl
                  have c12 := hR9.cell (i := 12) rfl
                  have c13 := hR9.cell (i := 13) rfl
                  have c14 := hR9.cell (i := 14) rfl
                  have c15 := hR9.cell (i := 15) rfl
                  have hsm := samemem_any z.m x.m t.m s.m wu hz.im hx.im
                  unfold aggM at hsm
                  have HSM := Lib.hid hsm
                  clear hsm
                  go_wp2_with fail
                  refine HSM.out.mono ?_
                  rintro e wt ⟨r, rfl, HQ, hb⟩
                  have hr1 : r = true := HQ.out.2 HTM.out
                  subst hr1
                  replace hR3 := hR3.later hb
                  replace hR7 := hR7.later hb
                  replace hx := hx.keep hb
                  replace hz := hz.keep hb
                  replace hB := below_step hB hb
                  clear hb HQ HSM a9 a10 a11 a12 a13 a14 a15 c9 c10 c11 c12 c13 c14 c15
                  have hop2 := HOP2.out
                  have hy2 := hz.id
                  have hoy2 := hzo7.d
                  obtain ⟨y2, hy2e⟩ : ∃ q, z.d = q := ⟨_, rfl⟩
                  obtain ⟨D2, hD2e⟩ : ∃ q, t.d = q := ⟨_, rfl⟩
                  obtain ⟨N2, hN2e⟩ : ∃ q, n + 1 = q := ⟨_, rfl⟩
                  rw [hy2e] at hR7 hy2 hoy2
                  rw [hD2e] at hR7 hy2 hop2
                  rw [hN2e] at hop2
                  clear hy2e hD2e hR9 hz hzo7 HOP2 HTM HRT2
                  replace hN1 : s.num ≤ N2 := by omega
                  replace hN2 : N2 ≤ s.num + (i + 1) := by omega
                  go_wp2_with (refine wpList_load_part rfl 27 (.tmp 7) rfl (g7) 0 rfl _ _ (hR7) ((lD y2 D2)) (by rfl) _ Tryz.underlying27 rfl (by exact size_disk) ?_)
                  refine (has_any y2 D2 wt hy2 (by rw [← hy2.l0]; have := hop2.lens.1; omega) (by rw [← hy2.l1]; have := hop2.lens.2; omega) (Lib.hid (HKT.out _ hB))).mono ?_
                  rintro e wh ⟨q, rfl, hq, hqo, hb⟩
                  obtain ⟨k2, z2, hk2⟩ := hop2.has
                  rw [hasS_some hk2] at hq ⊢
                  dsimp only at hq ⊢
                  unfold aggS
                  replace hR3 := hR3.later hb
                  replace hR7 := hR7.later hb
                  replace hx := hx.keep hb
                  replace hy2 := hy2.keep hb
                  replace hB := below_step hB hb
                  have hgg : g7 < wh.heap.size := hR7.lt
                  clear hb hqo hk2
                  obtain ⟨hR13, hBn⟩ := box_of wh 39 l0S _ rfl
                  go_upto_region 21 with (refine wpList_store_row rfl 39 (.tmp 13) (.tmp 99) rfl (wh.heap.size) rfl ((lS q (⟨D2, (k2 : Int), N2, s.m⟩ : ShK))) rfl _ _ (hR13) (by exact size_shelf) rfl (one_shelf q ⟨D2, (k2 : Int), N2, s.m⟩) ?_)
                  replace hR13 := hR13.setRow (lS q (⟨D2, (k2 : Int), N2, s.m⟩ : ShK))
                  have hbn := below_setRow hBn (Nat.le_refl _) (lS q (⟨D2, (k2 : Int), N2, s.m⟩ : ShK)).toArray
                  clear hBn
                  generalize (wh.alloc (.cells l0S.toArray 39)).setRow wh.heap.size (lS q (⟨D2, (k2 : Int), N2, s.m⟩ : ShK)).toArray = wi at hR13 hbn ⊢
                  replace hR3 := hR3.later hbn
                  replace hR7 := hR7.later hbn
                  replace hx := hx.keep hbn
                  replace hy2 := hy2.keep hbn
                  replace hq := hq.keep hbn
                  replace hB := below_step hB hbn
                  clear hbn
                  generalize wh.heap.size = g13 at hR13 hgg ⊢
                  have a9 := hR3.cell (i := 9) rfl
                  have a10 := hR3.cell (i := 10) rfl
                  have a11 := hR3.cell (i := 11) rfl
                  have a12 := hR3.cell (i := 12) rfl
                  have a13 := hR3.cell (i := 13) rfl
                  have a14 := hR3.cell (i := 14) rfl
                  have a15 := hR3.cell (i := 15) rfl
                  have c9 := hR13.cell (i := 9) rfl
                  have c10 := hR13.cell (i := 10) rfl
                  have c11 := hR13.cell (i := 11) rfl
                  have c12 := hR13.cell (i := 12) rfl
                  have c13 := hR13.cell (i := 13) rfl
                  have c14 := hR13.cell (i := 14) rfl
                  have c15 := hR13.cell (i := 15) rfl
                  have hsm := samemem_any q.m x.m s.m s.m wi hq.im hx.im
                  unfold aggM at hsm
                  have HSM := Lib.hid hsm
                  clear hsm
                  go_wp2_with fail
                  refine HSM.out.mono ?_
                  rintro e wj ⟨r, rfl, HQ, hb⟩
                  have hr1 : r = true := HQ.out.2 (by trivial)
                  subst hr1
                  replace hR3 := hR3.later hb
                  replace hR7 := hR7.later hb
                  replace hR13 := hR13.later hb
                  replace hx := hx.keep hb
                  replace hy2 := hy2.keep hb
                  replace hB := below_step hB hb
                  clear hb HQ HSM a9 a10 a11 a12 a13 a14 a15 c9 c10 c11 c12 c13 c14 c15
                  have a8 := hR3.cell (i := 8) rfl
                  have c8 : wj.cell? ⟨g13, 8, none⟩ = some (.int .u64 (N2 : Int)) := hR13.cell rfl
                  have i8 : ¬ (N2 : Int) < (s.num : Int) := by omega
                  go_wp2_with fail
                  go_roundw
                  case rel => exact ⟨i + 1, y2, D2, by go_num, by omega, hR3, hR7, hx, hy2, hoy2, ⟨N2, hop2, hN1, by omega⟩, hB⟩
                  case measure => simp [intOf]; omega
                · subst he
                  have HRI := Lib.hid hrise
                  have HLEN : Hid (t.d.a0.b.length ≤ 70368744177664 ∧ t.d.a1.b.length ≤ 70368744177664) := rise_lens hrise
                  have HOP2 := Lib.hid hop2
                  clear HST hrise hop2
                  have hri := rise17_any z.d t.d ws hz.id (by rw [← hz.id.l0]; have := HLEN.out.1; omega) (by rw [← hz.id.l1]; have := HLEN.out.2; omega)
                  unfold aggD at hri
                  obtain ⟨Q, hQ⟩ : ∃ Q, riseD t.d = Q := ⟨_, rfl⟩
                  have hri2 := HRI.out
                  have hop2 := HOP2.out
                  rw [hQ] at hri hri2 hop2
                  have HR := Lib.hid hri
                  clear hri hQ HRI HOP2 HLEN
                  obtain ⟨D2, e2⟩ := Q
                  dsimp only at hri2 hop2
                  subst hri2
                  go_wp2_with (refine wpList_load_part rfl 27 (.tmp 7) rfl (g7) 0 rfl _ _ (hR7) ((lD z.d t.d)) (by rfl) _ Tryz.underlying27 rfl (by exact size_disk) ?_)
                  refine HR.out.mono ?_
                  rintro e wu ⟨y2, rfl, hy2, hyf, hb⟩
                  have hl7 := hR7.lt
                  have hoy2 : OffD g7 (g7 + 1) y2 := (hyf.off g7).mono (Nat.le_refl _) (by omega)
                  replace hR3 := hR3.later hb
                  replace hR7 := hR7.later hb
                  replace hx := hx.keep hb
                  replace hB := below_step hB hb
                  have hsw := hb.size
                  obtain ⟨hR11, hBn⟩ := box_of wu 27 l0D _ rfl
                  clear hb HR hyf hR9 hz hzo7
                  unfold aggD
                  dsimp only at hy2 ⊢
                  go_upto_region 15 with (refine wpList_store_row rfl 27 (.tmp 11) (.tmp 76) rfl (wu.heap.size) rfl ((lD y2 D2)) rfl _ _ (hR11) (by exact size_disk) rfl (one_disk y2 D2) ?_)
                  replace hR11 := hR11.setRow (lD y2 D2)
                  have hbn := below_setRow hBn (Nat.le_refl _) (lD y2 D2).toArray
                  clear hBn
                  generalize (wu.alloc (.cells l0D.toArray 27)).setRow wu.heap.size (lD y2 D2).toArray = wu2 at hR11 hbn ⊢
                  replace hR3 := hR3.later hbn
                  replace hR7 := hR7.later hbn
                  replace hx := hx.keep hbn
                  replace hy2 := hy2.keep hbn
                  replace hB := below_step hB hbn
                  have hg11 : g7 < wu.heap.size := by omega
                  clear hbn hsw hl7
                  generalize wu.heap.size = g11 at hR11 hg11 ⊢
                  have hO := (Only.refl g7 wu2).setRow (lD y2 D2).toArray
                  go_upto_region 20 with (first
                    | (refine wpList_load_part rfl 27 (.tmp 11) rfl (g11) 0 rfl _ _ (hR11) ((lD y2 D2)) (by rfl) _ Tryz.underlying27 rfl (by exact size_disk) ?_)
                    | (refine wpList_store_row rfl 27 (.tmp 7) (.tmp 80) rfl (g7) rfl ((lD y2 D2)) rfl _ _ (hR7) (by exact size_disk) rfl (one_disk y2 D2) ?_))
                  replace hR7 := hR7.setRow (lD y2 D2)
                  replace hR3 := hR3.only hO (by omega)
                  replace hx := hx.at_only hO hxo (Nat.le_refl _) (Nat.lt_succ_self _)
                  replace hy2 := hy2.at_only hO hoy2 (Nat.le_refl _) (Nat.lt_succ_self _)
                  replace hB := below_setRow hB (show w.heap.size ≤ g7 by omega) (lD y2 D2).toArray
                  clear hO hR11
                  generalize wu2.setRow g7 (lD y2 D2).toArray = wt at *
                  replace hN1 : s.num ≤ N2 := by omega
                  replace hN2 : N2 ≤ s.num + (i + 1) := by omega
                  go_wp2_with (refine wpList_load_part rfl 27 (.tmp 7) rfl (g7) 0 rfl _ _ (hR7) ((lD y2 D2)) (by rfl) _ Tryz.underlying27 rfl (by exact size_disk) ?_)
                  refine (has_any y2 D2 wt hy2 (by rw [← hy2.l0]; have := hop2.lens.1; omega) (by rw [← hy2.l1]; have := hop2.lens.2; omega) (Lib.hid (HKT.out _ hB))).mono ?_
                  rintro e wh ⟨q, rfl, hq, hqo, hb⟩
                  obtain ⟨k2, z2, hk2⟩ := hop2.has
                  rw [hasS_some hk2] at hq ⊢
                  dsimp only at hq ⊢
                  unfold aggS
                  replace hR3 := hR3.later hb
                  replace hR7 := hR7.later hb
                  replace hx := hx.keep hb
                  replace hy2 := hy2.keep hb
                  replace hB := below_step hB hb
                  have hgg : g7 < wh.heap.size := hR7.lt
                  clear hb hqo hk2
                  obtain ⟨hR13, hBn⟩ := box_of wh 39 l0S _ rfl
                  go_upto_region 21 with (refine wpList_store_row rfl 39 (.tmp 13) (.tmp 99) rfl (wh.heap.size) rfl ((lS q (⟨D2, (k2 : Int), N2, s.m⟩ : ShK))) rfl _ _ (hR13) (by exact size_shelf) rfl (one_shelf q ⟨D2, (k2 : Int), N2, s.m⟩) ?_)
                  replace hR13 := hR13.setRow (lS q (⟨D2, (k2 : Int), N2, s.m⟩ : ShK))
                  have hbn := below_setRow hBn (Nat.le_refl _) (lS q (⟨D2, (k2 : Int), N2, s.m⟩ : ShK)).toArray
                  clear hBn
                  generalize (wh.alloc (.cells l0S.toArray 39)).setRow wh.heap.size (lS q (⟨D2, (k2 : Int), N2, s.m⟩ : ShK)).toArray = wi at hR13 hbn ⊢
                  replace hR3 := hR3.later hbn
                  replace hR7 := hR7.later hbn
                  replace hx := hx.keep hbn
                  replace hy2 := hy2.keep hbn
                  replace hq := hq.keep hbn
                  replace hB := below_step hB hbn
                  clear hbn
                  generalize wh.heap.size = g13 at hR13 hgg ⊢
                  have a9 := hR3.cell (i := 9) rfl
                  have a10 := hR3.cell (i := 10) rfl
                  have a11 := hR3.cell (i := 11) rfl
                  have a12 := hR3.cell (i := 12) rfl
                  have a13 := hR3.cell (i := 13) rfl
                  have a14 := hR3.cell (i := 14) rfl
                  have a15 := hR3.cell (i := 15) rfl
                  have c9 := hR13.cell (i := 9) rfl
                  have c10 := hR13.cell (i := 10) rfl
                  have c11 := hR13.cell (i := 11) rfl
                  have c12 := hR13.cell (i := 12) rfl
                  have c13 := hR13.cell (i := 13) rfl
                  have c14 := hR13.cell (i := 14) rfl
                  have c15 := hR13.cell (i := 15) rfl
                  have hsm := samemem_any q.m x.m s.m s.m wi hq.im hx.im
                  unfold aggM at hsm
                  have HSM := Lib.hid hsm
                  clear hsm
                  go_wp2_with fail
                  refine HSM.out.mono ?_
                  rintro e wj ⟨r, rfl, HQ, hb⟩
                  have hr1 : r = true := HQ.out.2 (by trivial)
                  subst hr1
                  replace hR3 := hR3.later hb
                  replace hR7 := hR7.later hb
                  replace hR13 := hR13.later hb
                  replace hx := hx.keep hb
                  replace hy2 := hy2.keep hb
                  replace hB := below_step hB hb
                  clear hb HQ HSM a9 a10 a11 a12 a13 a14 a15 c9 c10 c11 c12 c13 c14 c15
                  have a8 := hR3.cell (i := 8) rfl
                  have c8 : wj.cell? ⟨g13, 8, none⟩ = some (.int .u64 (N2 : Int)) := hR13.cell rfl
                  have i8 : ¬ (N2 : Int) < (s.num : Int) := by omega
                  go_wp2_with fail
                  go_roundw
                  case rel => exact ⟨i + 1, y2, D2, by go_num, by omega, hR3, hR7, hx, hy2, hoy2, ⟨N2, hop2, hN1, by omega⟩, hB⟩
                  case measure => simp [intOf]; omega
              · have hin : i = n1 := by omega
                subst hin
                have i3 : ¬ (i : Int) < (i : Int) := by omega
                have hrc := refright19_any s.m.c.1 s.m.c.2.1 s.m.c.2.2 x.m.c.s x.m.c.c x.m.c.A wr (Lib.hid hx.im.ic.ns) hx.im.ic.ru (by have := hx.im.ic.ls; omega)
                have hrc2 : rightC (s.m.c.1, s.m.c.2.1, s.m.c.2.2) = true := (rightM_parts.1 (rightSh_m HRS.out)).2
                rw [hrc2] at hrc
                unfold aggC at hrc
                have HRC := Lib.hid hrc
                clear hrc hrc2
                go_wp2_with (refine wpList_load_part rfl 35 (.tmp 119) rfl (w.heap.size) 13 rfl _ _ (hR3) ((lC x.m.c s.m.c)) (by rfl) _ Tryz.underlying35 rfl (by exact size_cache) ?_)
                refine HRC.out.mono ?_
                rintro e wz ⟨rfl, hb⟩
                replace hB := below_step hB hb
                go_wp2_with fail
                go_ret
                exact ⟨rfl, hB⟩
end Go.Proofs.YteljklkgdejhpaaGreatDoor
namespace Go.Proofs.YteljklkgdejhpaaGreatDoor
open Go.RowKit Go.WideShapes
section
variable {H : Type} {enc : TypeId × Value → H} {W : World} {base b1 : Nat} {spare : Nat → Bool} {held : Bool} {r : Reach} {v : Value} {d : DataW H} {p : List MemPlace}
end
end Go.Proofs.YteljklkgdejhpaaGreatDoor
namespace Go.Proofs.YteljklkgdejhpaaGreatDoor
open Go.RowKit Go.Deep Go.WideShapes Go.ChangeShapes
theorem opens_entry : Opens Tryz.prog 91 (RThree 0 1 1 1 2 1 RNum RNum (RSlice 1 RByte)) := opens_three Tryz.underlying91 rfl rfl rfl (by kernel_rfl) (by kernel_rfl) (by kernel_rfl) (by kernel_rfl) (opens_num Tryz.underlying28) (opens_num Tryz.underlying28) opens_bytes
theorem opens_entries : Opens Tryz.prog 29 (RSlice 3 (RThree 0 1 1 1 2 1 RNum RNum (RSlice 1 RByte))) := opens_slice Tryz.underlying29 (by kernel_rfl) (by omega) opens_entry
theorem opens_bundle : Opens Tryz.prog 32 (RThree 0 1 1 1 2 1 RNum (RSlice 3 (RThree 0 1 1 1 2 1 RNum RNum (RSlice 1 RByte))) (RSlice 2 (RTwo 0 1 1 1 RNum RNum))) := opens_three Tryz.underlying32 rfl rfl rfl (by kernel_rfl) (by kernel_rfl) (by kernel_rfl) (by kernel_rfl) (opens_num Tryz.underlying28) opens_entries opens_gones
theorem entry_of_r {w : World} {cs : List Value} {x : En} (h : RThree 0 1 1 1 2 1 RNum RNum (RSlice 1 RByte) w cs x) : ∃ y : ED, cs = y.cells ∧ y.ok w ∧ y.s.length ≤ 9223372036854775807 ∧ y.t < 18446744073709551616 ∧ y.e < 18446744073709551616 := by
  obtain ⟨hl, ⟨e0, g0⟩, ⟨e1, g1⟩, h2⟩ := h
  obtain ⟨A, c, e2, h3, h4, h5⟩ := bytes_of_r h2
  refine ⟨⟨x.1, x.2.1, A, c, x.2.2⟩, ?_, ⟨h3, h5⟩, by show x.2.2.length ≤ _; omega, g0, g1⟩
  match cs, hl with
  | [a, b, d], _ =>
    simp at e0 e1 e2
    rw [e0, e1, e2]
    rfl
def inE (w : World) (A : Option Addr) (es : List ED) : Prop := RdE w A es ∧ okD w es ∧ (∀ x ∈ es, x.s.length ≤ 9223372036854775807) ∧ fitE (conE es)
theorem entries_of_r {w : World} {cs : List Value} {ls : List En} (h : RSlice 3 (RThree 0 1 1 1 2 1 RNum RNum (RSlice 1 RByte)) w cs ls) : ∃ (es : List ED) (A : Option Addr) (cap : Nat), cs = [.slice A es.length cap] ∧ es.length ≤ cap ∧ cap ≤ 9223372036854775807 ∧ inE w A es := by
  obtain ⟨A, cap, e, h1, h2, h3⟩ := h
  by_cases hn : ls = []
  · subst hn
    exact ⟨[], A, cap, e, h1, h2, RdE.nil, okD.nil _, (fun x hx => by cases hx), fun x hx => by cases hx⟩
  · obtain ⟨b, o, rfl, hc⟩ := h3 hn
    obtain ⟨es, hl, hp⟩ := choose_list ls.length (fun i (y : ED) => (w.cell? ⟨b, o + i * 3, none⟩ = some (vNG y.t) ∧ w.cell? ⟨b, o + i * 3 + 1, none⟩ = some (vNG y.e) ∧ w.cell? ⟨b, o + i * 3 + 2, none⟩ = some y.at2) ∧ y.ok w ∧ y.s.length ≤ 9223372036854775807 ∧ y.t < 18446744073709551616 ∧ y.e < 18446744073709551616) (fun i hi => by
      obtain ⟨ecs, h4, h5, h6⟩ := hc i hi
      obtain ⟨y, rfl, h7, h8, h9⟩ := entry_of_r h6
      exact ⟨y, ⟨h5 0 (by simp [ED.cells]), h5 1 (by simp [ED.cells]), h5 2 (by simp [ED.cells])⟩, h7, h8, h9⟩)
    refine ⟨es, some ⟨b, o, none⟩, cap, by rw [hl]; exact e, by omega, h2, fun _ => ⟨b, o, rfl, fun i hi => (hp i hi).1⟩, fun x hx => ?_, fun x hx => ?_, fun x hx => ?_⟩
    · obtain ⟨i, hi, rfl⟩ := List.getElem_of_mem hx
      exact (hp i hi).2.1
    · obtain ⟨i, hi, rfl⟩ := List.getElem_of_mem hx
      exact (hp i hi).2.2.1
    · obtain ⟨y, hy, rfl⟩ := List.mem_map.1 hx
      obtain ⟨i, hi, rfl⟩ := List.getElem_of_mem hy
      exact (hp i hi).2.2.2
section
variable {H : Type} {enc : TypeId × Value → H} {W : World} {base b1 : Nat} {spare : Nat → Bool} {held : Bool} {r : Reach} {v : Value} {d : DataW H} {p : List MemPlace}
end
end Go.Proofs.YteljklkgdejhpaaGreatDoor
namespace Go.Proofs.YteljklkgdejhpaaGreatDoor
open Go.RowKit
end Go.Proofs.YteljklkgdejhpaaGreatDoor
namespace Go.Proofs.YteljklkgdejhpaaGreatDoor
open Go.RowKit
end Go.Proofs.YteljklkgdejhpaaGreatDoor
namespace Go.Proofs.YteljklkgdejhpaaGreatDoor
open Go.RowKit
end Go.Proofs.YteljklkgdejhpaaGreatDoor
