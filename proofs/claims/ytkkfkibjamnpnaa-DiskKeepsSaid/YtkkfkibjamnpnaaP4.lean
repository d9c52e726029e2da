/-
  What the reference's calls of layer 17 answer: Same at two disks that are alike, Right, Short. No conditions but those typed.
-/
import Derived.Test.YtkkfkibjamnpnaaP3
import Derived.LoopN
import Derived.Deep.DeepCutAuto
namespace Go.Proofs.Ytkkfkibjamnpnaa
set_option maxRecDepth 100000
open Go.RowKit
set_option linter.unusedSimpArgs false
set_option linter.unusedVariables false

theorem two_boxesR (w : World) (ty tz : TypeId) (l m : List Value) (cs ds : Array Value) (h : cs = l.toArray) (k : ds = m.toArray) : Row ((w.alloc (.cells cs ty)).alloc (.cells ds tz)) w.heap.size ty l ∧ Row ((w.alloc (.cells cs ty)).alloc (.cells ds tz)) (w.heap.size + 1) tz m ∧ Below w.heap.size w ((w.alloc (.cells cs ty)).alloc (.cells ds tz)) := by
  obtain ⟨h1, h2⟩ := box_of w ty l cs h
  obtain ⟨h3, h4⟩ := box_of (w.alloc (.cells cs ty)) tz m ds k
  have hz : (w.alloc (.cells cs ty)).heap.size = w.heap.size + 1 := by simp
  rw [hz] at h3
  exact ⟨h1.later h4, h3, below_step h2 h4⟩
set_option maxHeartbeats 2000000 in
theorem refsame17_any (x y : WD) (D : DK) (w : World) (h : InD w x D) (k : InD w y D) : Calls Try.prog 10 #[aggD x D, aggD y D] w fun e w' => e = .returned (.bool true) ∧ Below w.heap.size w w' := by
  obtain ⟨A0, n0, c0, A1, n1, c1⟩ := x
  obtain ⟨B0, m0, d0, B1, m1, d1⟩ := y
  obtain ⟨⟨b0, s0⟩, ⟨b1, s1⟩, f, kk, d⟩ := D
  obtain ⟨l0, h0, r0, l1, h1, r1⟩ := h
  obtain ⟨l2, h2, r2, l3, h3, r3⟩ := k
  dsimp only at l0 h0 r0 l1 h1 r1 l2 h2 r2 l3 h3 r3
  obtain rfl : m0 = n0 := by omega
  obtain rfl : m1 = n1 := by omega
  have L0 := Lib.hid l0
  have L1 := Lib.hid l1
  clear l0 l1 l2 l3 h0 h1 h2 h3
  obtain ⟨hR0, hR1, hB0⟩ := two_boxesR w 27 27 [Value.slice A0 m0 c0, .int .i64 s0, .slice A1 m1 c1, .int .i64 s1, .int .i64 f, .int .i64 kk, .bool d] [Value.slice B0 m0 d0, .int .i64 s0, .slice B1 m1 d1, .int .i64 s1, .int .i64 f, .int .i64 kk, .bool d] _ _ rfl rfl
  unfold aggD
  dsimp only
  go_enter Try.func10, Try.ntmps10
  go_upto_region 1 with fail
  generalize (w.alloc (.cells [Value.slice A0 m0 c0, .int .i64 s0, .slice A1 m1 c1, .int .i64 s1, .int .i64 f, .int .i64 kk, .bool d].toArray 27)).alloc (.cells [Value.slice B0 m0 d0, .int .i64 s0, .slice B1 m1 d1, .int .i64 s1, .int .i64 f, .int .i64 kk, .bool d].toArray 27) = W at hR0 hR1 hB0 ⊢
  replace r0 := r0.keep hB0
  replace r1 := r1.keep hB0
  replace r2 := r2.keep hB0
  replace r3 := r3.keep hB0
  go_wp2_with fail
  refine wp_loop_rounds 3 ?_
  rw [rounds_succ]
  go_upto_region 4 with fail
  have e0 : ∀ X, Below W.heap.size W X → X.cell? ⟨w.heap.size, 0, none⟩ = some (.slice A0 m0 c0) := fun X hX => (hR0.later hX).cell rfl
  have e1 : ∀ X, Below W.heap.size W X → X.cell? ⟨w.heap.size, 1, none⟩ = some (.int .i64 s0) := fun X hX => (hR0.later hX).cell rfl
  have e2 : ∀ X, Below W.heap.size W X → X.cell? ⟨w.heap.size + 1, 0, none⟩ = some (.slice B0 m0 d0) := fun X hX => (hR1.later hX).cell rfl
  have e3 : ∀ X, Below W.heap.size W X → X.cell? ⟨w.heap.size + 1, 1, none⟩ = some (.int .i64 s0) := fun X hX => (hR1.later hX).cell rfl
  have t0 : ∀ X, Below W.heap.size W X → (convert 22 9 (.slice A0 m0 c0)).run Try.prog X = .ok (.string (strL b0)) X := strBz m0 L0 r0
  have t1 : ∀ X, Below W.heap.size W X → (convert 22 9 (.slice B0 m0 d0)).run Try.prog X = .ok (.string (strL b0)) X := strBz m0 L0 r2
  have hBase := (Below.refl W.heap.size W).drew
  refine wp_region_plan (.step 0 false (.step 1 false (.step 2 false (.step 3 false (.step 4 false (.step 5 false (.step 6 false (.step 7 false (.step 8 false (.step 9 false (.step 10 false (.step 11 false (.step 12 false (.step 13 false (.step 14 false (.step 15 false (.step 16 false (.step 17 false (.step 18 false (.step 19 false (.step 20 false (.step 21 false (.step 22 false (.step 23 false (.step 24 false (.step 25 false (.nil))))))))))))))))))))))))))) (by kernel_rfl) (by kernel_rfl) (by rfl) (by kernel_rfl) ?_
  iterate 26 (refine plan_read rfl (by rfl) (v := ?_) ?_ ?_; rotate_left 1; (intro W hW; have hW0 := below_step hBase hW; (try dsimp only at hW); go_simp <;> with_reducible rfl); simp only [List.getElem_toArray, List.getElem_cons_zero, List.getElem_cons_succ, Act.put, List.setIfInBounds_toArray, List.set_cons_zero, List.set_cons_succ])
  refine plan_done ?_
  clear e0 e1 e2 e3 t0 t1
  replace r0 := r0.keep hBase
  replace r1 := r1.keep hBase
  replace r2 := r2.keep hBase
  replace r3 := r3.keep hBase
  replace hR0 := hR0.later hBase
  replace hR1 := hR1.later hBase
  replace hB0 := below_step hB0 hBase
  clear hBase
  generalize W.drew = W at hR0 hR1 hB0 r0 r1 r2 r3 ⊢
  go_wp2_with fail
  rw [rounds_succ]
  go_upto_region 4 with fail
  have e0 : ∀ X, Below W.heap.size W X → X.cell? ⟨w.heap.size, 2, none⟩ = some (.slice A1 m1 c1) := fun X hX => (hR0.later hX).cell rfl
  have e1 : ∀ X, Below W.heap.size W X → X.cell? ⟨w.heap.size, 3, none⟩ = some (.int .i64 s1) := fun X hX => (hR0.later hX).cell rfl
  have e2 : ∀ X, Below W.heap.size W X → X.cell? ⟨w.heap.size + 1, 2, none⟩ = some (.slice B1 m1 d1) := fun X hX => (hR1.later hX).cell rfl
  have e3 : ∀ X, Below W.heap.size W X → X.cell? ⟨w.heap.size + 1, 3, none⟩ = some (.int .i64 s1) := fun X hX => (hR1.later hX).cell rfl
  have t0 : ∀ X, Below W.heap.size W X → (convert 22 9 (.slice A1 m1 c1)).run Try.prog X = .ok (.string (strL b1)) X := strBz m1 L1 r1
  have t1 : ∀ X, Below W.heap.size W X → (convert 22 9 (.slice B1 m1 d1)).run Try.prog X = .ok (.string (strL b1)) X := strBz m1 L1 r3
  have hBase := (Below.refl W.heap.size W).drew
  refine wp_region_plan (.step 0 false (.step 1 false (.step 2 false (.step 3 false (.step 4 false (.step 5 false (.step 6 false (.step 7 false (.step 8 false (.step 9 false (.step 10 false (.step 11 false (.step 12 false (.step 13 false (.step 14 false (.step 15 false (.step 16 false (.step 17 false (.step 18 false (.step 19 false (.step 20 false (.step 21 false (.step 22 false (.step 23 false (.step 24 false (.step 25 false (.nil))))))))))))))))))))))))))) (by kernel_rfl) (by kernel_rfl) (by rfl) (by kernel_rfl) ?_
  iterate 26 (refine plan_read rfl (by rfl) (v := ?_) ?_ ?_; rotate_left 1; (intro W hW; have hW0 := below_step hBase hW; (try dsimp only at hW); go_simp <;> with_reducible rfl); simp only [List.getElem_toArray, List.getElem_cons_zero, List.getElem_cons_succ, Act.put, List.setIfInBounds_toArray, List.set_cons_zero, List.set_cons_succ])
  refine plan_done ?_
  clear e0 e1 e2 e3 t0 t1
  replace r0 := r0.keep hBase
  replace r1 := r1.keep hBase
  replace r2 := r2.keep hBase
  replace r3 := r3.keep hBase
  replace hR0 := hR0.later hBase
  replace hR1 := hR1.later hBase
  replace hB0 := below_step hB0 hBase
  clear hBase
  generalize W.drew = W at hR0 hR1 hB0 r0 r1 r2 r3 ⊢
  go_wp2_with fail
  rw [rounds_succ]
  have e4 : W.cell? ⟨w.heap.size, 4, none⟩ = some (.int .i64 f) := hR0.cell rfl
  have e5 : W.cell? ⟨w.heap.size, 5, none⟩ = some (.int .i64 kk) := hR0.cell rfl
  have e6 : W.cell? ⟨w.heap.size, 6, none⟩ = some (.bool d) := hR0.cell rfl
  have g4 : W.cell? ⟨w.heap.size + 1, 4, none⟩ = some (.int .i64 f) := hR1.cell rfl
  have g5 : W.cell? ⟨w.heap.size + 1, 5, none⟩ = some (.int .i64 kk) := hR1.cell rfl
  have g6 : W.cell? ⟨w.heap.size + 1, 6, none⟩ = some (.bool d) := hR1.cell rfl
  go_wp2_with fail
  go_ret
  exact ⟨rfl, hB0⟩

set_option maxHeartbeats 4000000 in
theorem refright17_any (x : WD) (D : DK) (w : World) (h : InD w x D) : Calls Try.prog 20 #[aggD x D] w fun e w' => e = .returned (.bool (decide (rightDK D))) ∧ Below w.heap.size w w' := by
  obtain ⟨A0, n0, c0, A1, n1, c1⟩ := x
  obtain ⟨⟨b0, s0⟩, ⟨b1, s1⟩, f, kk, d⟩ := D
  obtain ⟨l0, h0, r0, l1, h1, r1⟩ := h
  dsimp only at l0 h0 l1 h1
  unfold aggD
  dsimp only
  have HR : Hid (decide (rightDK ⟨⟨b0, s0⟩, ⟨b1, s1⟩, f, kk, d⟩) = true ↔ (0 ≤ s0 ∧ s0 ≤ n0 ∧ n0 ≤ 1048576) ∧ (0 ≤ s1 ∧ s1 ≤ n1 ∧ n1 ≤ 1048576) ∧ -1 ≤ f ∧ 0 ≤ kk) := by
    unfold Hid
    rw [decide_eq_true_iff]
    unfold rightDK rightAK
    dsimp only
    rw [l0, l1]
  generalize decide (rightDK ⟨⟨b0, s0⟩, ⟨b1, s1⟩, f, kk, d⟩) = R at HR ⊢
  clear l0 l1 r0 r1 h0 h1
  obtain ⟨hR0, hB0⟩ := box_of w 27 [Value.slice A0 n0 c0, .int .i64 s0, .slice A1 n1 c1, .int .i64 s1, .int .i64 f, .int .i64 kk, .bool d] _ rfl
  go_enter Try.func20, Try.ntmps20
  go_upto_region 1 with fail
  generalize w.alloc (.cells [Value.slice A0 n0 c0, .int .i64 s0, .slice A1 n1 c1, .int .i64 s1, .int .i64 f, .int .i64 kk, .bool d].toArray 27) = W at hR0 hB0 ⊢
  go_wp2_with fail
  refine wp_loop_rounds 3 ?_
  rw [rounds_succ]
  go_upto_region 4 with fail
  have e0 : ∀ X, Below W.heap.size W X → X.cell? ⟨w.heap.size, 0, none⟩ = some (.slice A0 n0 c0) := fun X hX => (hR0.later hX).cell rfl
  have e1 : ∀ X, Below W.heap.size W X → X.cell? ⟨w.heap.size, 1, none⟩ = some (.int .i64 s0) := fun X hX => (hR0.later hX).cell rfl
  have hBase := (Below.refl W.heap.size W).drew
  by_cases p0 : 0 ≤ s0 ∧ s0 ≤ (n0 : Int) ∧ n0 ≤ 1048576
  · obtain ⟨q0, q1, q2⟩ := p0
    have g0 : decide (s0 < 0) = false := decide_eq_false (by omega)
    have g1 : decide ((n0 : Int) < s0) = false := decide_eq_false (by omega)
    have g2 : decide ((1048576 : Int) < (n0 : Int)) = false := decide_eq_false (by omega)
    have g3 : decide (1048576 < n0) = false := decide_eq_false (by omega)
    have HR2 : Hid (R = true ↔ (0 ≤ s1 ∧ s1 ≤ (n1 : Int) ∧ n1 ≤ 1048576) ∧ -1 ≤ f ∧ 0 ≤ kk) := by
      unfold Hid
      rw [HR.out]
      exact ⟨fun h => h.2, fun h => ⟨⟨q0, q1, q2⟩, h⟩⟩
    clear HR q0 q1 q2
    refine wp_region_plan (.step 0 false (.step 1 false (.step 2 false (.step 3 false (.step 4 false (.step 5 false (.step 6 false (.step 7 false (.step 8 false (.step 9 false (.step 10 false (.step 11 false (.step 12 false (.step 13 false (.step 14 false (.step 15 false (.step 16 false (.step 17 false (.step 18 false (.step 19 false (.step 20 false (.step 21 false (.step 22 false (.step 23 false (.step 24 false (.step 25 false (.step 26 false (.step 27 false (.step 28 false (.nil)))))))))))))))))))))))))))))) (by kernel_rfl) (by kernel_rfl) (by rfl) (by kernel_rfl) ?_
    iterate 29 (refine plan_read rfl (by rfl) (v := ?_) ?_ ?_; rotate_left 1; (intro W hW; have hW0 := below_step hBase hW; (try dsimp only at hW); go_simp <;> with_reducible rfl); simp only [List.getElem_toArray, List.getElem_cons_zero, List.getElem_cons_succ, Act.put, List.setIfInBounds_toArray, List.set_cons_zero, List.set_cons_succ])
    clear g0 g1 g2 g3
    refine plan_done ?_
    replace hR0 := hR0.later hBase
    replace hB0 := below_step hB0 hBase
    clear e0 e1 hBase
    generalize W.drew = W at hR0 hB0 ⊢
    go_wp2_with fail
    rw [rounds_succ]
    rename Hid (R = true ↔ _) => HR
    go_upto_region 4 with fail
    have e0 : ∀ X, Below W.heap.size W X → X.cell? ⟨w.heap.size, 2, none⟩ = some (.slice A1 n1 c1) := fun X hX => (hR0.later hX).cell rfl
    have e1 : ∀ X, Below W.heap.size W X → X.cell? ⟨w.heap.size, 3, none⟩ = some (.int .i64 s1) := fun X hX => (hR0.later hX).cell rfl
    have hBase := (Below.refl W.heap.size W).drew
    by_cases p1 : 0 ≤ s1 ∧ s1 ≤ (n1 : Int) ∧ n1 ≤ 1048576
    · obtain ⟨q0, q1, q2⟩ := p1
      have g0 : decide (s1 < 0) = false := decide_eq_false (by omega)
      have g1 : decide ((n1 : Int) < s1) = false := decide_eq_false (by omega)
      have g2 : decide ((1048576 : Int) < (n1 : Int)) = false := decide_eq_false (by omega)
      have g3 : decide (1048576 < n1) = false := decide_eq_false (by omega)
      have HR3 : Hid (R = decide (-1 ≤ f ∧ 0 ≤ kk)) := by
        unfold Hid
        rw [Bool.eq_iff_iff, HR.out, decide_eq_true_iff]
        exact ⟨fun h => h.2, fun h => ⟨⟨q0, q1, q2⟩, h⟩⟩
      clear HR q0 q1 q2
      refine wp_region_plan (.step 0 false (.step 1 false (.step 2 false (.step 3 false (.step 4 false (.step 5 false (.step 6 false (.step 7 false (.step 8 false (.step 9 false (.step 10 false (.step 11 false (.step 12 false (.step 13 false (.step 14 false (.step 15 false (.step 16 false (.step 17 false (.step 18 false (.step 19 false (.step 20 false (.step 21 false (.step 22 false (.step 23 false (.step 24 false (.step 25 false (.step 26 false (.step 27 false (.step 28 false (.nil)))))))))))))))))))))))))))))) (by kernel_rfl) (by kernel_rfl) (by rfl) (by kernel_rfl) ?_
      iterate 29 (refine plan_read rfl (by rfl) (v := ?_) ?_ ?_; rotate_left 1; (intro W hW; have hW0 := below_step hBase hW; (try dsimp only at hW); go_simp <;> with_reducible rfl); simp only [List.getElem_toArray, List.getElem_cons_zero, List.getElem_cons_succ, Act.put, List.setIfInBounds_toArray, List.set_cons_zero, List.set_cons_succ])
      clear g0 g1 g2 g3
      refine plan_done ?_
      replace hR0 := hR0.later hBase
      replace hB0 := below_step hB0 hBase
      clear e0 e1 hBase
      generalize W.drew = W at hR0 hB0 ⊢
      go_wp2_with fail
      rw [rounds_succ]
      have e4 : W.cell? ⟨w.heap.size, 4, none⟩ = some (.int .i64 f) := hR0.cell rfl
      have e5 : W.cell? ⟨w.heap.size, 5, none⟩ = some (.int .i64 kk) := hR0.cell rfl
      by_cases pf : -1 ≤ f
      · have HR4 : Hid (R = decide (0 ≤ kk)) := by unfold Hid; rw [HR3.out]; simp [pf]
        go_wp2_with fail
        go_ret
        exact ⟨by rw [HR4.out]; rfl, hB0⟩
      · have HR4 : Hid (R = false) := by unfold Hid; rw [HR3.out]; simp [pf]
        go_wp2_with fail
        go_ret
        exact ⟨by rw [HR4.out]; rfl, hB0⟩
    · have HR4 : Hid (R = false) := by
        unfold Hid
        rw [Bool.eq_false_iff]
        intro h
        exact p1 (HR.out.1 h).1
      by_cases q0 : s1 < 0
      · have g0 : decide (s1 < 0) = true := decide_eq_true q0
        clear p1 HR
        refine wp_region_plan (.step 0 false (.step 1 false (.step 2 false (.step 3 false (.step 4 false (.step 5 false (.step 6 false (.step 7 false (.step 8 false (.step 9 false (.step 10 false (.step 11 false (.step 12 false (.step 13 false (.step 14 false (.step 15 false (.step 16 false (.step 17 false (.step 18 false (.step 19 false (.step 20 false (.step 21 false (.step 22 false (.step 23 false (.step 24 false (.step 25 false (.step 26 false (.step 27 false (.step 28 false (.nil)))))))))))))))))))))))))))))) (by kernel_rfl) (by kernel_rfl) (by rfl) (by kernel_rfl) ?_
        iterate 7 (refine plan_read rfl (by rfl) (v := ?_) ?_ ?_; rotate_left 1; (intro W hW; have hW0 := below_step hBase hW; (try dsimp only at hW); go_simp <;> with_reducible rfl); simp only [List.getElem_toArray, List.getElem_cons_zero, List.getElem_cons_succ, Act.put, List.setIfInBounds_toArray, List.set_cons_zero, List.set_cons_succ])
        iterate 12 (refine plan_skip rfl (by rfl) ?_; simp only [List.getElem_toArray, List.getElem_cons_zero, List.getElem_cons_succ, Act.put, List.setIfInBounds_toArray, List.set_cons_zero, List.set_cons_succ])
        iterate 2 (refine plan_read rfl (by rfl) (v := ?_) ?_ ?_; rotate_left 1; (intro W hW; have hW0 := below_step hBase hW; (try dsimp only at hW); go_simp <;> with_reducible rfl); simp only [List.getElem_toArray, List.getElem_cons_zero, List.getElem_cons_succ, Act.put, List.setIfInBounds_toArray, List.set_cons_zero, List.set_cons_succ])
        iterate 7 (refine plan_skip rfl (by rfl) ?_; simp only [List.getElem_toArray, List.getElem_cons_zero, List.getElem_cons_succ, Act.put, List.setIfInBounds_toArray, List.set_cons_zero, List.set_cons_succ])
        iterate 1 (refine plan_read rfl (by rfl) (v := ?_) ?_ ?_; rotate_left 1; (intro W hW; have hW0 := below_step hBase hW; (try dsimp only at hW); go_simp <;> with_reducible rfl); simp only [List.getElem_toArray, List.getElem_cons_zero, List.getElem_cons_succ, Act.put, List.setIfInBounds_toArray, List.set_cons_zero, List.set_cons_succ])
        clear g0
        refine plan_done ?_
        have hB2 := below_step hB0 hBase
        clear e0 e1 hBase hR0 hB0
        go_wp2_with fail
        go_ret
        exact ⟨by rw [HR4.out]; rfl, hB2⟩
      · have g0 : decide (s1 < 0) = false := decide_eq_false q0
        by_cases q1 : (n1 : Int) < s1
        · have g1 : decide ((n1 : Int) < s1) = true := decide_eq_true q1
          clear p1 HR
          refine wp_region_plan (.step 0 false (.step 1 false (.step 2 false (.step 3 false (.step 4 false (.step 5 false (.step 6 false (.step 7 false (.step 8 false (.step 9 false (.step 10 false (.step 11 false (.step 12 false (.step 13 false (.step 14 false (.step 15 false (.step 16 false (.step 17 false (.step 18 false (.step 19 false (.step 20 false (.step 21 false (.step 22 false (.step 23 false (.step 24 false (.step 25 false (.step 26 false (.step 27 false (.step 28 false (.nil)))))))))))))))))))))))))))))) (by kernel_rfl) (by kernel_rfl) (by rfl) (by kernel_rfl) ?_
          iterate 21 (refine plan_read rfl (by rfl) (v := ?_) ?_ ?_; rotate_left 1; (intro W hW; have hW0 := below_step hBase hW; (try dsimp only at hW); go_simp <;> with_reducible rfl); simp only [List.getElem_toArray, List.getElem_cons_zero, List.getElem_cons_succ, Act.put, List.setIfInBounds_toArray, List.set_cons_zero, List.set_cons_succ])
          iterate 7 (refine plan_skip rfl (by rfl) ?_; simp only [List.getElem_toArray, List.getElem_cons_zero, List.getElem_cons_succ, Act.put, List.setIfInBounds_toArray, List.set_cons_zero, List.set_cons_succ])
          iterate 1 (refine plan_read rfl (by rfl) (v := ?_) ?_ ?_; rotate_left 1; (intro W hW; have hW0 := below_step hBase hW; (try dsimp only at hW); go_simp <;> with_reducible rfl); simp only [List.getElem_toArray, List.getElem_cons_zero, List.getElem_cons_succ, Act.put, List.setIfInBounds_toArray, List.set_cons_zero, List.set_cons_succ])
          clear g0 g1
          refine plan_done ?_
          have hB2 := below_step hB0 hBase
          clear e0 e1 hBase hR0 hB0
          go_wp2_with fail
          go_ret
          exact ⟨by rw [HR4.out]; rfl, hB2⟩
        · have q3 : (1048576 : Int) < (n1 : Int) := by omega
          have g1 : decide ((n1 : Int) < s1) = false := decide_eq_false q1
          have g2 : decide ((1048576 : Int) < (n1 : Int)) = true := decide_eq_true q3
          have g3 : decide (1048576 < n1) = true := decide_eq_true (by omega)
          clear p1 HR
          refine wp_region_plan (.step 0 false (.step 1 false (.step 2 false (.step 3 false (.step 4 false (.step 5 false (.step 6 false (.step 7 false (.step 8 false (.step 9 false (.step 10 false (.step 11 false (.step 12 false (.step 13 false (.step 14 false (.step 15 false (.step 16 false (.step 17 false (.step 18 false (.step 19 false (.step 20 false (.step 21 false (.step 22 false (.step 23 false (.step 24 false (.step 25 false (.step 26 false (.step 27 false (.step 28 false (.nil)))))))))))))))))))))))))))))) (by kernel_rfl) (by kernel_rfl) (by rfl) (by kernel_rfl) ?_
          iterate 29 (refine plan_read rfl (by rfl) (v := ?_) ?_ ?_; rotate_left 1; (intro W hW; have hW0 := below_step hBase hW; (try dsimp only at hW); go_simp <;> with_reducible rfl); simp only [List.getElem_toArray, List.getElem_cons_zero, List.getElem_cons_succ, Act.put, List.setIfInBounds_toArray, List.set_cons_zero, List.set_cons_succ])
          clear g0 g1 g2 g3
          refine plan_done ?_
          have hB2 := below_step hB0 hBase
          clear e0 e1 hBase hR0 hB0
          go_wp2_with fail
          go_ret
          exact ⟨by rw [HR4.out]; rfl, hB2⟩
  · have HR4 : Hid (R = false) := by
      unfold Hid
      rw [Bool.eq_false_iff]
      intro h
      exact p0 (HR.out.1 h).1
    by_cases q0 : s0 < 0
    · have g0 : decide (s0 < 0) = true := decide_eq_true q0
      clear p0 HR
      refine wp_region_plan (.step 0 false (.step 1 false (.step 2 false (.step 3 false (.step 4 false (.step 5 false (.step 6 false (.step 7 false (.step 8 false (.step 9 false (.step 10 false (.step 11 false (.step 12 false (.step 13 false (.step 14 false (.step 15 false (.step 16 false (.step 17 false (.step 18 false (.step 19 false (.step 20 false (.step 21 false (.step 22 false (.step 23 false (.step 24 false (.step 25 false (.step 26 false (.step 27 false (.step 28 false (.nil)))))))))))))))))))))))))))))) (by kernel_rfl) (by kernel_rfl) (by rfl) (by kernel_rfl) ?_
      iterate 7 (refine plan_read rfl (by rfl) (v := ?_) ?_ ?_; rotate_left 1; (intro W hW; have hW0 := below_step hBase hW; (try dsimp only at hW); go_simp <;> with_reducible rfl); simp only [List.getElem_toArray, List.getElem_cons_zero, List.getElem_cons_succ, Act.put, List.setIfInBounds_toArray, List.set_cons_zero, List.set_cons_succ])
      iterate 12 (refine plan_skip rfl (by rfl) ?_; simp only [List.getElem_toArray, List.getElem_cons_zero, List.getElem_cons_succ, Act.put, List.setIfInBounds_toArray, List.set_cons_zero, List.set_cons_succ])
      iterate 2 (refine plan_read rfl (by rfl) (v := ?_) ?_ ?_; rotate_left 1; (intro W hW; have hW0 := below_step hBase hW; (try dsimp only at hW); go_simp <;> with_reducible rfl); simp only [List.getElem_toArray, List.getElem_cons_zero, List.getElem_cons_succ, Act.put, List.setIfInBounds_toArray, List.set_cons_zero, List.set_cons_succ])
      iterate 7 (refine plan_skip rfl (by rfl) ?_; simp only [List.getElem_toArray, List.getElem_cons_zero, List.getElem_cons_succ, Act.put, List.setIfInBounds_toArray, List.set_cons_zero, List.set_cons_succ])
      iterate 1 (refine plan_read rfl (by rfl) (v := ?_) ?_ ?_; rotate_left 1; (intro W hW; have hW0 := below_step hBase hW; (try dsimp only at hW); go_simp <;> with_reducible rfl); simp only [List.getElem_toArray, List.getElem_cons_zero, List.getElem_cons_succ, Act.put, List.setIfInBounds_toArray, List.set_cons_zero, List.set_cons_succ])
      clear g0
      refine plan_done ?_
      have hB2 := below_step hB0 hBase
      clear e0 e1 hBase hR0 hB0
      go_wp2_with fail
      go_ret
      exact ⟨by rw [HR4.out]; rfl, hB2⟩
    · have g0 : decide (s0 < 0) = false := decide_eq_false q0
      by_cases q1 : (n0 : Int) < s0
      · have g1 : decide ((n0 : Int) < s0) = true := decide_eq_true q1
        clear p0 HR
        refine wp_region_plan (.step 0 false (.step 1 false (.step 2 false (.step 3 false (.step 4 false (.step 5 false (.step 6 false (.step 7 false (.step 8 false (.step 9 false (.step 10 false (.step 11 false (.step 12 false (.step 13 false (.step 14 false (.step 15 false (.step 16 false (.step 17 false (.step 18 false (.step 19 false (.step 20 false (.step 21 false (.step 22 false (.step 23 false (.step 24 false (.step 25 false (.step 26 false (.step 27 false (.step 28 false (.nil)))))))))))))))))))))))))))))) (by kernel_rfl) (by kernel_rfl) (by rfl) (by kernel_rfl) ?_
        iterate 21 (refine plan_read rfl (by rfl) (v := ?_) ?_ ?_; rotate_left 1; (intro W hW; have hW0 := below_step hBase hW; (try dsimp only at hW); go_simp <;> with_reducible rfl); simp only [List.getElem_toArray, List.getElem_cons_zero, List.getElem_cons_succ, Act.put, List.setIfInBounds_toArray, List.set_cons_zero, List.set_cons_succ])
        iterate 7 (refine plan_skip rfl (by rfl) ?_; simp only [List.getElem_toArray, List.getElem_cons_zero, List.getElem_cons_succ, Act.put, List.setIfInBounds_toArray, List.set_cons_zero, List.set_cons_succ])
        iterate 1 (refine plan_read rfl (by rfl) (v := ?_) ?_ ?_; rotate_left 1; (intro W hW; have hW0 := below_step hBase hW; (try dsimp only at hW); go_simp <;> with_reducible rfl); simp only [List.getElem_toArray, List.getElem_cons_zero, List.getElem_cons_succ, Act.put, List.setIfInBounds_toArray, List.set_cons_zero, List.set_cons_succ])
        clear g0 g1
        refine plan_done ?_
        have hB2 := below_step hB0 hBase
        clear e0 e1 hBase hR0 hB0
        go_wp2_with fail
        go_ret
        exact ⟨by rw [HR4.out]; rfl, hB2⟩
      · have q3 : (1048576 : Int) < (n0 : Int) := by omega
        have g1 : decide ((n0 : Int) < s0) = false := decide_eq_false q1
        have g2 : decide ((1048576 : Int) < (n0 : Int)) = true := decide_eq_true q3
        have g3 : decide (1048576 < n0) = true := decide_eq_true (by omega)
        clear p0 HR
        refine wp_region_plan (.step 0 false (.step 1 false (.step 2 false (.step 3 false (.step 4 false (.step 5 false (.step 6 false (.step 7 false (.step 8 false (.step 9 false (.step 10 false (.step 11 false (.step 12 false (.step 13 false (.step 14 false (.step 15 false (.step 16 false (.step 17 false (.step 18 false (.step 19 false (.step 20 false (.step 21 false (.step 22 false (.step 23 false (.step 24 false (.step 25 false (.step 26 false (.step 27 false (.step 28 false (.nil)))))))))))))))))))))))))))))) (by kernel_rfl) (by kernel_rfl) (by rfl) (by kernel_rfl) ?_
        iterate 29 (refine plan_read rfl (by rfl) (v := ?_) ?_ ?_; rotate_left 1; (intro W hW; have hW0 := below_step hBase hW; (try dsimp only at hW); go_simp <;> with_reducible rfl); simp only [List.getElem_toArray, List.getElem_cons_zero, List.getElem_cons_succ, Act.put, List.setIfInBounds_toArray, List.set_cons_zero, List.set_cons_succ])
        clear g0 g1 g2 g3
        refine plan_done ?_
        have hB2 := below_step hB0 hBase
        clear e0 e1 hBase hR0 hB0
        go_wp2_with fail
        go_ret
        exact ⟨by rw [HR4.out]; rfl, hB2⟩

theorem refshort17_any (x : WD) (D : DK) (w : World) (h : InD w x D) : Calls Try.prog 7 #[aggD x D] w fun e w' => e = .returned (.bool (decide (x.n0 ≤ 20000 ∧ x.n1 ≤ 20000))) ∧ Below w.heap.size w w' := by
  obtain ⟨A0, n0, c0, A1, n1, c1⟩ := x
  obtain ⟨⟨b0, s0⟩, ⟨b1, s1⟩, f, kk, d⟩ := D
  clear h
  unfold aggD
  dsimp only
  obtain ⟨hR0, hB0⟩ := box_of w 27 [Value.slice A0 n0 c0, .int .i64 s0, .slice A1 n1 c1, .int .i64 s1, .int .i64 f, .int .i64 kk, .bool d] _ rfl
  go_enter Try.func7, Try.ntmps7
  go_upto_region 1 with fail
  generalize w.alloc (.cells [Value.slice A0 n0 c0, .int .i64 s0, .slice A1 n1 c1, .int .i64 s1, .int .i64 f, .int .i64 kk, .bool d].toArray 27) = W at hR0 hB0 ⊢
  have e0 : W.cell? ⟨w.heap.size, 0, none⟩ = some (.slice A0 n0 c0) := hR0.cell rfl
  have e2 : W.cell? ⟨w.heap.size, 2, none⟩ = some (.slice A1 n1 c1) := hR0.cell rfl
  by_cases p0 : n0 ≤ 20000
  · have q0 : (n0 : Int) ≤ 20000 := by omega
    have HD : Hid (decide (n0 ≤ 20000 ∧ n1 ≤ 20000) = decide ((n1 : Int) ≤ 20000)) := by unfold Hid; simp [p0]; omega
    go_wp2_with fail
    go_ret
    exact ⟨by first | rfl | (rw [HD.out]; first | rfl | simp), hB0⟩
  · have q0 : ¬ (n0 : Int) ≤ 20000 := by omega
    have HD : Hid (decide (n0 ≤ 20000 ∧ n1 ≤ 20000) = false) := decide_eq_false (fun h => p0 h.1)
    go_wp2_with fail
    go_ret
    exact ⟨by first | rfl | (rw [HD.out]; first | rfl | simp), hB0⟩
end Go.Proofs.Ytkkfkibjamnpnaa
/-
  What the reference's calls of layer 17 answer: Lose, begin, Write, Sync, Wipe, Crash, Rise. No conditions but those typed.
-/
namespace Go.Proofs.Ytkkfkibjamnpnaa
set_option maxRecDepth 100000
open Go.RowKit
set_option linter.unusedSimpArgs false
set_option linter.unusedVariables false

/-- How much is left, reckoned one by one. -/
def LoseRel (u kp q : Nat) (n l : Value) : Prop := ∃ j m r : Nat, j ≤ q ∧ Hid (m = u + j) ∧ Hid (r + j = kp) ∧ n = .int .i64 (m : Int) ∧ l = .int .i64 (r : Int)
theorem lose_parts {n : Nat} {s keep : Int} (b : List UInt8) (hb : b.length = n) (h0 : 0 ≤ s) (h1 : s ≤ n) (h2 : 0 ≤ keep) : ∃ u q e kp : Nat, s = (u : Int) ∧ keep = (kp : Int) ∧ e = u + q ∧ e ≤ n ∧ cutN ⟨b, s⟩ keep = e ∧ q ≤ kp ∧ (q = kp ∨ u + q = n) := by
  refine ⟨s.toNat, min (n - s.toNat) keep.toNat, s.toNat + min (n - s.toNat) keep.toNat, keep.toNat, by omega, by omega, rfl, by omega, ?_, by omega, by omega⟩
  unfold cutN
  dsimp only
  omega
set_option maxHeartbeats 4000000 in
theorem lose17_any (x : WD) (D : DK) (keep : Int) (w : World) (h : InD w x D) (hr0 : rightAK D.a0) (hr1 : rightAK D.a1) (hk : 0 ≤ keep) (hk2 : keep ≤ 9223372036854775807) :
    Calls Try.prog 27 #[aggD x D, .int .i64 keep] w (Ret1 w (loseD D keep)) := by
  obtain ⟨i0, hi, hz0, hz1, hz2⟩ := info_parts info_u8
  obtain ⟨A0, n0, c0, A1, n1, c1⟩ := x
  obtain ⟨⟨b0, s0⟩, ⟨b1, s1⟩, f, kk, d⟩ := D
  obtain ⟨l0, h0, r0, l1, h1, r1⟩ := h
  obtain ⟨a0, a1, a2⟩ := hr0
  obtain ⟨a3, a4, a5⟩ := hr1
  dsimp only at l0 h0 l1 h1 r0 r1 a0 a1 a2 a3 a4 a5
  rw [l0] at a1 a2
  rw [l1] at a4 a5
  obtain ⟨u0, q0, e0, kp, rfl, rfl, E0, m0, hc0, v0, g0⟩ := lose_parts b0 l0 a0 a1 hk
  obtain ⟨u1, q1, e1, kp', rfl, ek, E1, m1, hc1, v1, g1⟩ := lose_parts b1 l1 a3 a4 hk
  have ek' : kp' = kp := by omega
  subst ek'
  clear ek
  have L0 := Lib.hid l0
  have L1 := Lib.hid l1
  have x0 := run_cut_to 22 5 Try.underlying22 size_uint8 A0 n0 c0 e0 (by omega)
  have x1 := run_cut_to 22 5 Try.underlying22 size_uint8 A1 n1 c1 e1 (by omega)
  have HE0 := Lib.hid E0
  have HE1 := Lib.hid E1
  have HG0 := Lib.hid g0
  have HG1 := Lib.hid g1
  have HT0 : Hid ((b0.take e0).length = e0) := by unfold Hid; rw [List.length_take, l0]; omega
  have HT1 : Hid ((b1.take e1).length = e1) := by unfold Hid; rw [List.length_take, l1]; omega
  have hlose : Hid (loseD ⟨⟨b0, (u0 : Int)⟩, ⟨b1, (u1 : Int)⟩, f, kk, d⟩ (kp' : Int) = ⟨⟨b0.take e0, (e0 : Int)⟩, ⟨b1.take e1, (e1 : Int)⟩, -1, kk, true⟩) := by
    unfold Hid loseD cutAK
    dsimp only
    rw [hc0, hc1]
  rw [hlose.out]
  replace r0 := r0.take e0
  replace r1 := r1.take e1
  clear hlose l0 l1 hc0 hc1 E0 E1 g0 g1 L0 L1
  generalize b0.take e0 = tb0 at HT0 r0 ⊢
  generalize b1.take e1 = tb1 at HT1 r1 ⊢
  unfold aggD
  dsimp only
  obtain ⟨hR0, hRz, hB0⟩ := two_boxes w 27 27 [Value.slice A0 n0 c0, .int .i64 (u0 : Int), .slice A1 n1 c1, .int .i64 (u1 : Int), .int .i64 f, .int .i64 kk, .bool d] [Value.slice none 0 0, .int .i64 0, .slice none 0 0, .int .i64 0, .int .i64 0, .int .i64 0, .bool false] _ _ rfl rfl
  go_enter Try.func27, Try.ntmps27
  go_upto_region 1 with fail
  generalize (w.alloc (.cells [Value.slice A0 n0 c0, .int .i64 (u0 : Int), .slice A1 n1 c1, .int .i64 (u1 : Int), .int .i64 f, .int .i64 kk, .bool d].toArray 27)).alloc (.cells [Value.slice none 0 0, .int .i64 0, .slice none 0 0, .int .i64 0, .int .i64 0, .int .i64 0, .bool false].toArray 27) = W at hR0 hRz hB0 ⊢
  replace r0 := r0.keep hB0
  replace r1 := r1.keep hB0
  have hs0 := hB0.size
  go_wp2_with fail
  refine wp_loop_rounds 3 ?_
  rw [rounds_succ]
  have hgz := hRz.lt
  obtain ⟨hR1, hB1⟩ := box_of W 24 [.slice none 0 0, .int .i64 0] _ rfl
  have hRx := hR0.later hB1
  go_upto_region 5 with (first
    | (refine wpList_load_part rfl 24 (.tmp 15) rfl w.heap.size 0 rfl _ _ hR0 [.slice A0 n0 c0, .int .i64 (u0 : Int)] (by rfl) _ Try.underlying24 rfl (by exact size_area) ?_)
    | (refine wpList_store_row rfl 24 (.tmp 6) (.tmp 16) rfl W.heap.size rfl [.slice A0 n0 c0, .int .i64 (u0 : Int)] rfl _ _ hR1 (by exact size_area) rfl (one_area A0 n0 c0 u0) ?_))
  have hR2 := hR1.setRow [.slice A0 n0 c0, .int .i64 (u0 : Int)]
  have hB2 : Below W.heap.size W ((W.alloc (.cells #[Value.slice none 0 0, .int .i64 0] 24)).setRow W.heap.size #[.slice A0 n0 c0, .int .i64 (u0 : Int)]) := below_setRow hB1 (Nat.le_refl _) _
  clear hR1 hB1 hRx
  generalize (W.alloc (.cells #[Value.slice none 0 0, .int .i64 0] 24)).setRow W.heap.size #[.slice A0 n0 c0, .int .i64 (u0 : Int)] = W2 at hR2 hB2 ⊢
  have t0 : W2.cell? ⟨W.heap.size, 0, none⟩ = some (.slice A0 n0 c0) := hR2.cell rfl
  have t1 : W2.cell? ⟨W.heap.size, 1, none⟩ = some (.int .i64 (u0 : Int)) := hR2.cell rfl
  replace r0 := r0.keep hB2
  replace r1 := r1.keep hB2
  replace hR0 := hR0.later hB2
  replace hRz := hRz.later hB2
  replace hB0 := below_step hB0 hB2
  have hs2 := hB2.size
  clear hR2 hB2
  go_wp2_with fail
  go_loop [7, 8] (fun n l => LoseRel u0 kp' q0 n l) (fun n _ => u0 + q0 - (intOf n).toNat)
  case atStart => exact ⟨0, u0, kp', Nat.zero_le _, rfl, rfl, rfl, rfl⟩
  case round =>
    obtain ⟨j, m, r, hj, HM, HRR, rfl, rfl⟩ := hrel
    obtain ⟨T, hT⟩ : ∃ T, decide (j < q0) = T := ⟨_, rfl⟩
    have HTT := Lib.hid hT
    have hmr := HM.out
    have hrr := HRR.out
    have hee := HE0.out
    have hmn : m ≤ e0 := by omega
    have hrk : r ≤ kp' := by omega
    clear hT hmr hrr hee
    go_upto_region 7 with fail
    go_cut [28] (fun v wx => v = .bool T ∧ W2 = wx)
    case first =>
      by_cases hjq : j < q0
      · have eT : T = true := by rw [← HTT.out]; exact decide_eq_true hjq
        subst eT
        have k1 : (0 : Int) < (r : Int) := by have := HRR.out; omega
        have k6 : 0 < r := by omega
        have k2 : (m : Int) < (n0 : Int) := by have := HE0.out; have := HM.out; omega
        have k4 : m < n0 := by omega
        go_wp2_with fail
        go_meet
        case rel => exact ⟨rfl, rfl⟩
      · have eT : T = false := by rw [← HTT.out]; exact decide_eq_false hjq
        subst eT
        by_cases h0 : r = 0
        · subst h0
          go_wp2_with fail
          go_meet
          case rel => exact ⟨rfl, rfl⟩
        · have k1 : (0 : Int) < (r : Int) := by omega
          have k6 : 0 < r := by omega
          have hmn2 : m = n0 := by have := HRR.out; have := HM.out; rcases HG0.out with hq | hq <;> omega
          subst hmn2
          go_wp2_with fail
          go_meet
          case rel => exact ⟨rfl, rfl⟩
    case rest =>
      obtain ⟨rfl, rfl⟩ := hcut
      cases T with
      | true =>
        have hjq : j < q0 := of_decide_eq_true HTT.out
        have k1 : (0 : Int) < (r : Int) := by have := HRR.out; omega
        have HJ : Hid (LoseRel u0 kp' q0 (.int .i64 ((m : Int) + 1)) (.int .i64 ((r : Int) - 1))) := ⟨j + 1, m + 1, r - 1, hjq, by have := HM.out; unfold Hid; omega, by have := HRR.out; unfold Hid; omega, by go_num, by rw [show (r : Int) - 1 = ((r - 1 : Nat) : Int) by omega]⟩
        have hme : u0 + q0 - (m + 1) < u0 + q0 - m := by have := HM.out; omega
        clear HTT
        go_wp2_with fail
        go_round
        case rel => exact HJ.out
        case measure => simp [intOf]; omega
      | false =>
        have hme : e0 = m := by have := of_decide_eq_false HTT.out; have := HM.out; have := HE0.out; omega
        subst hme
        clear HTT HM HRR hrk hmn hj
        have hown0 : (W2.alloc (.cells #[] 5)).ownsRow W2.heap.size 5 1 (.slice (some ⟨W2.heap.size, 0, none⟩) 0 0) 0 [] := World.ownsRow_made W2 #[] 0 (Nat.le_refl _) (by unfold maxLen; omega) rfl
        have hrA : Rd vB (W2.alloc (.cells #[] 5)) A0 tb0 := r0.keep (below_new (Below.refl _ _) _)
        have hbA := below_new (Below.refl _ W2) (.cells #[] 5)
        have t2 : (W2.alloc (.cells #[] 5)).cell? ⟨W.heap.size, 0, none⟩ = some (.slice A0 n0 c0) := (hbA.cell (p := ⟨W.heap.size, 0, none⟩) (World.block_lt_of_cell? W2 _ t0)).trans t0
        go_wp2_with (first
          | (at_builtin; refine wpList_append_rd _ rfl (.tmp 34) (.tmp 38) 22 rfl W2.heap.size 5 i0 (.int .u8 0) 1 Try.underlying22 hi hz0 hz1 hz2 rfl _ _ _ rfl hown0 A0 tb0 c0 (by rw [HT0.out]; rfl) hrA vB_one (by rw [HT0.out]; unfold maxLen; omega) (by rw [HT0.out]; omega) (by simp) ?_; intro v1 w1 hown1 hgrow1; rw [HT0.out, Nat.zero_add, List.nil_append] at hown1; obtain ⟨B0, d0, rfl, hd0⟩ := own_form hown1; have hBn : Below W2.heap.size W2 w1 := hbA.grown hgrow1 (by simp) (fun q hq => (hown0.lt q hq).1); replace hR0 := hR0.later hBn; have hth := there_of hR0 0 2 (by simp))
          | (refine wpList_store_mid rfl 24 (.tmp 43) (.tmp 41) rfl w.heap.size 0 #[.slice B0 e0 d0, .int .i64 (e0 : Int)] rfl rfl hth (by exact size_area) (by exact all_oneCell_toArray (one_area B0 e0 d0 e0)) ?_))
        clear hown0 hrA hbA hgrow1 t0 t1 t2
        replace r0 := r0.keep hBn
        replace r1 := r1.keep hBn
        replace hRz := hRz.later hBn
        replace hB0 := below_step hB0 hBn
        have hsn := hBn.size
        clear hBn
        obtain ⟨_, hY0, _⟩ := own_parts hown1
        clear hown1
        have hO : Only w.heap.size w1 (w1.setCells w.heap.size 0 [.slice B0 e0 d0, .int .i64 (e0 : Int)]) := Only.setCells _ 0 (Only.refl _ w1)
        have hRn : Row (w1.setCells w.heap.size 0 [.slice B0 e0 d0, .int .i64 (e0 : Int)]) w.heap.size 27 [Value.slice B0 e0 d0, .int .i64 (e0 : Int), .slice A1 n1 c1, .int .i64 (u1 : Int), .int .i64 f, .int .i64 kk, .bool d] := hR0.setCells _ 0 (by simp)
        replace r0 := r0.no_byte hR0 (disk_no A0 n0 c0 (u0 : Int) A1 n1 c1 (u1 : Int) f kk d) hO
        replace r1 := r1.no_byte hR0 (disk_no A0 n0 c0 (u0 : Int) A1 n1 c1 (u1 : Int) f kk d) hO
        replace hY0 := hY0.no_byte hR0 (disk_no A0 n0 c0 (u0 : Int) A1 n1 c1 (u1 : Int) f kk d) hO
        have hRw := Row.setCells_other (show w.heap.size + 1 ≠ w.heap.size by omega) [.slice B0 e0 d0, .int .i64 (e0 : Int)] 0 hRz
        have hBw : Below w.heap.size w (w1.setCells w.heap.size 0 [.slice B0 e0 d0, .int .i64 (e0 : Int)]) := below_setCells (Nat.le_refl _) _ 0 hB0
        have hsw : w1.heap.size ≤ (w1.setCells w.heap.size 0 [.slice B0 e0 d0, .int .i64 (e0 : Int)]).heap.size := hO.below.size
        clear hO hR0 hRz hB0
        rw [rounds_succ]
        clear hth
        generalize w1.setCells w.heap.size 0 [.slice B0 e0 d0, .int .i64 (e0 : Int)] = W at hRn hRw hBw hsw r0 r1 hY0 ⊢
        rename Row W w.heap.size _ _ => hR0
        rename Row W (w.heap.size + 1) _ _ => hRz
        rename Below w.heap.size w W => hB0
        have hgz := hRz.lt
        obtain ⟨hR1, hB1⟩ := box_of W 24 [.slice none 0 0, .int .i64 0] _ rfl
        have hRx := hR0.later hB1
        go_upto_region 5 with (first
          | (refine wpList_load_part rfl 24 (.tmp 15) rfl w.heap.size 2 rfl _ _ hR0 [.slice A1 n1 c1, .int .i64 (u1 : Int)] (by rfl) _ Try.underlying24 rfl (by exact size_area) ?_)
          | (refine wpList_store_row rfl 24 (.tmp 6) (.tmp 16) rfl W.heap.size rfl [.slice A1 n1 c1, .int .i64 (u1 : Int)] rfl _ _ hR1 (by exact size_area) rfl (one_area A1 n1 c1 u1) ?_))
        have hR2 := hR1.setRow [.slice A1 n1 c1, .int .i64 (u1 : Int)]
        have hB2 : Below W.heap.size W ((W.alloc (.cells #[Value.slice none 0 0, .int .i64 0] 24)).setRow W.heap.size #[.slice A1 n1 c1, .int .i64 (u1 : Int)]) := below_setRow hB1 (Nat.le_refl _) _
        clear hR1 hB1 hRx
        generalize (W.alloc (.cells #[Value.slice none 0 0, .int .i64 0] 24)).setRow W.heap.size #[.slice A1 n1 c1, .int .i64 (u1 : Int)] = W2 at hR2 hB2 ⊢
        have t0 : W2.cell? ⟨W.heap.size, 0, none⟩ = some (.slice A1 n1 c1) := hR2.cell rfl
        have t1 : W2.cell? ⟨W.heap.size, 1, none⟩ = some (.int .i64 (u1 : Int)) := hR2.cell rfl
        replace r0 := r0.keep hB2
        replace r1 := r1.keep hB2
        replace hY0 := hY0.keep hB2
        replace hR0 := hR0.later hB2
        replace hRz := hRz.later hB2
        replace hB0 := below_step hB0 hB2
        have hs2 := hB2.size
        clear hR2 hB2
        go_wp2_with fail
        go_loop [7, 8] (fun n l => LoseRel u1 kp' q1 n l) (fun n _ => u1 + q1 - (intOf n).toNat)
        case atStart => exact ⟨0, u1, kp', Nat.zero_le _, rfl, rfl, rfl, rfl⟩
        case round =>
          obtain ⟨j, m, r, hj, HM, HRR, rfl, rfl⟩ := hrel
          obtain ⟨T, hT⟩ : ∃ T, decide (j < q1) = T := ⟨_, rfl⟩
          have HTT := Lib.hid hT
          have hmr := HM.out
          have hrr := HRR.out
          have hee := HE1.out
          have hmn : m ≤ e1 := by omega
          have hrk : r ≤ kp' := by omega
          clear hT hmr hrr hee
          go_upto_region 7 with fail
          go_cut [28] (fun v wx => v = .bool T ∧ W2 = wx)
          case first =>
            by_cases hjq : j < q1
            · have eT : T = true := by rw [← HTT.out]; exact decide_eq_true hjq
              subst eT
              have k1 : (0 : Int) < (r : Int) := by have := HRR.out; omega
              have k6 : 0 < r := by omega
              have k2 : (m : Int) < (n1 : Int) := by have := HE1.out; have := HM.out; omega
              have k4 : m < n1 := by omega
              go_wp2_with fail
              go_meet
              case rel => exact ⟨rfl, rfl⟩
            · have eT : T = false := by rw [← HTT.out]; exact decide_eq_false hjq
              subst eT
              by_cases h0 : r = 0
              · subst h0
                go_wp2_with fail
                go_meet
                case rel => exact ⟨rfl, rfl⟩
              · have k1 : (0 : Int) < (r : Int) := by omega
                have k6 : 0 < r := by omega
                have hmn2 : m = n1 := by have := HRR.out; have := HM.out; rcases HG1.out with hq | hq <;> omega
                subst hmn2
                go_wp2_with fail
                go_meet
                case rel => exact ⟨rfl, rfl⟩
          case rest =>
            obtain ⟨rfl, rfl⟩ := hcut
            cases T with
            | true =>
              have hjq : j < q1 := of_decide_eq_true HTT.out
              have k1 : (0 : Int) < (r : Int) := by have := HRR.out; omega
              have HJ : Hid (LoseRel u1 kp' q1 (.int .i64 ((m : Int) + 1)) (.int .i64 ((r : Int) - 1))) := ⟨j + 1, m + 1, r - 1, hjq, by have := HM.out; unfold Hid; omega, by have := HRR.out; unfold Hid; omega, by go_num, by rw [show (r : Int) - 1 = ((r - 1 : Nat) : Int) by omega]⟩
              have hme : u1 + q1 - (m + 1) < u1 + q1 - m := by have := HM.out; omega
              clear HTT
              go_wp2_with fail
              go_round
              case rel => exact HJ.out
              case measure => simp [intOf]; omega
            | false =>
              have hme : e1 = m := by have := of_decide_eq_false HTT.out; have := HM.out; have := HE1.out; omega
              subst hme
              clear HTT HM HRR hrk hmn hj
              have hown0 : (W2.alloc (.cells #[] 5)).ownsRow W2.heap.size 5 1 (.slice (some ⟨W2.heap.size, 0, none⟩) 0 0) 0 [] := World.ownsRow_made W2 #[] 0 (Nat.le_refl _) (by unfold maxLen; omega) rfl
              have hrA : Rd vB (W2.alloc (.cells #[] 5)) A1 tb1 := r1.keep (below_new (Below.refl _ _) _)
              have hbA := below_new (Below.refl _ W2) (.cells #[] 5)
              have t2 : (W2.alloc (.cells #[] 5)).cell? ⟨W.heap.size, 0, none⟩ = some (.slice A1 n1 c1) := (hbA.cell (p := ⟨W.heap.size, 0, none⟩) (World.block_lt_of_cell? W2 _ t0)).trans t0
              go_wp2_with (first
                | (at_builtin; refine wpList_append_rd _ rfl (.tmp 34) (.tmp 38) 22 rfl W2.heap.size 5 i0 (.int .u8 0) 1 Try.underlying22 hi hz0 hz1 hz2 rfl _ _ _ rfl hown0 A1 tb1 c1 (by rw [HT1.out]; rfl) hrA vB_one (by rw [HT1.out]; unfold maxLen; omega) (by rw [HT1.out]; omega) (by simp) ?_; intro v1 w1 hown1 hgrow1; rw [HT1.out, Nat.zero_add, List.nil_append] at hown1; obtain ⟨B1, d1, rfl, hd1⟩ := own_form hown1; have hBn : Below W2.heap.size W2 w1 := hbA.grown hgrow1 (by simp) (fun q hq => (hown0.lt q hq).1); replace hR0 := hR0.later hBn; have hth := there_of hR0 2 2 (by simp))
                | (refine wpList_store_mid rfl 24 (.tmp 43) (.tmp 41) rfl w.heap.size 2 #[.slice B1 e1 d1, .int .i64 (e1 : Int)] rfl rfl hth (by exact size_area) (by exact all_oneCell_toArray (one_area B1 e1 d1 e1)) ?_))
              clear hown0 hrA hbA hgrow1 t0 t1 t2
              replace r0 := r0.keep hBn
              replace r1 := r1.keep hBn
              replace hRz := hRz.later hBn
              replace hB0 := below_step hB0 hBn
              have hsn := hBn.size
              replace hY0 := hY0.keep hBn
              clear hBn
              obtain ⟨_, hY1, _⟩ := own_parts hown1
              clear hown1
              have hO : Only w.heap.size w1 (w1.setCells w.heap.size 2 [.slice B1 e1 d1, .int .i64 (e1 : Int)]) := Only.setCells _ 2 (Only.refl _ w1)
              have hRn : Row (w1.setCells w.heap.size 2 [.slice B1 e1 d1, .int .i64 (e1 : Int)]) w.heap.size 27 [Value.slice B0 e0 d0, .int .i64 (e0 : Int), .slice B1 e1 d1, .int .i64 (e1 : Int), .int .i64 f, .int .i64 kk, .bool d] := hR0.setCells _ 2 (by simp)
              replace r0 := r0.no_byte hR0 (disk_no B0 e0 d0 (e0 : Int) A1 n1 c1 (u1 : Int) f kk d) hO
              replace r1 := r1.no_byte hR0 (disk_no B0 e0 d0 (e0 : Int) A1 n1 c1 (u1 : Int) f kk d) hO
              replace hY1 := hY1.no_byte hR0 (disk_no B0 e0 d0 (e0 : Int) A1 n1 c1 (u1 : Int) f kk d) hO
              replace hY0 := hY0.no_byte hR0 (disk_no B0 e0 d0 (e0 : Int) A1 n1 c1 (u1 : Int) f kk d) hO
              have hRw := Row.setCells_other (show w.heap.size + 1 ≠ w.heap.size by omega) [.slice B1 e1 d1, .int .i64 (e1 : Int)] 2 hRz
              have hBw : Below w.heap.size w (w1.setCells w.heap.size 2 [.slice B1 e1 d1, .int .i64 (e1 : Int)]) := below_setCells (Nat.le_refl _) _ 2 hB0
              have hsw : w1.heap.size ≤ (w1.setCells w.heap.size 2 [.slice B1 e1 d1, .int .i64 (e1 : Int)]).heap.size := hO.below.size
              clear hO hR0 hRz hB0
              rw [rounds_succ]
              clear hth
              generalize w1.setCells w.heap.size 2 [.slice B1 e1 d1, .int .i64 (e1 : Int)] = W at hRn hRw hBw hsw r0 r1 hY1 hY0 ⊢
              rename Row W w.heap.size _ _ => hR0
              rename Row W (w.heap.size + 1) _ _ => hRz
              rename Below w.heap.size w W => hB0
              have f6 := hR0.frozen 6
              have g6 : W.cell? ⟨w.heap.size, 6, none⟩ = some (.bool d) := hR0.cell rfl
              have hR1 : Row (W.setCell ⟨w.heap.size, 6, none⟩ (.bool true)) w.heap.size 27 [Value.slice B0 e0 d0, .int .i64 (e0 : Int), .slice B1 e1 d1, .int .i64 (e1 : Int), .int .i64 f, .int .i64 kk, .bool true] := hR0.setCell 6 _
              have f4 := hR1.frozen 4
              have g4 : (W.setCell ⟨w.heap.size, 6, none⟩ (.bool true)).cell? ⟨w.heap.size, 4, none⟩ = some (.int .i64 f) := hR1.cell rfl
              have hR2 : Row ((W.setCell ⟨w.heap.size, 6, none⟩ (.bool true)).setCell ⟨w.heap.size, 4, none⟩ (.int .i64 (-1))) w.heap.size 27 [Value.slice B0 e0 d0, .int .i64 (e0 : Int), .slice B1 e1 d1, .int .i64 (e1 : Int), .int .i64 (-1), .int .i64 kk, .bool true] := hR1.setCell 4 _
              have hO : Only w.heap.size W ((W.setCell ⟨w.heap.size, 6, none⟩ (.bool true)).setCell ⟨w.heap.size, 4, none⟩ (.int .i64 (-1))) := ((Only.refl _ W).setCell 6 _).setCell 4 _
              go_upto_region 13 with fail
              replace hY0 := hY0.no_byte hR0 (disk_no B0 e0 d0 (e0 : Int) B1 e1 d1 (e1 : Int) f kk d) hO
              replace hY1 := hY1.no_byte hR0 (disk_no B0 e0 d0 (e0 : Int) B1 e1 d1 (e1 : Int) f kk d) hO
              have hRw := (hRz.setCell_other (p := ⟨w.heap.size, 6, none⟩) (by show w.heap.size + 1 ≠ w.heap.size; omega) (.bool true)).setCell_other (p := ⟨w.heap.size, 4, none⟩) (by show w.heap.size + 1 ≠ w.heap.size; omega) (.int .i64 (-1))
              have hBw := hB0.trans hO.below
              clear hR0 hRz hB0 hO hR1 f4 g4 f6 g6 r0 r1
              generalize (W.setCell ⟨w.heap.size, 6, none⟩ (.bool true)).setCell ⟨w.heap.size, 4, none⟩ (.int .i64 (-1)) = W6 at hR2 hRw hBw hY0 hY1 ⊢
              go_wp2_with (first
                | (refine wpList_load_part rfl 27 (.tmp 2) rfl w.heap.size 0 rfl _ _ hR2 [Value.slice B0 e0 d0, .int .i64 (e0 : Int), .slice B1 e1 d1, .int .i64 (e1 : Int), .int .i64 (-1), .int .i64 kk, .bool true] (by rfl) _ Try.underlying27 rfl (by exact size_disk) ?_)
                | (refine wpList_store_row rfl 27 (.tmp 4) (.tmp 46) rfl (w.heap.size + 1) rfl [Value.slice B0 e0 d0, .int .i64 (e0 : Int), .slice B1 e1 d1, .int .i64 (e1 : Int), .int .i64 (-1), .int .i64 kk, .bool true] rfl _ _ hRw (by exact size_disk) rfl (disk_one B0 e0 d0 (e0 : Int) B1 e1 d1 (e1 : Int) (-1) kk true) ?_))
              refine bodyPost_ret (results_cell_row (p := 4) (ty := 27) (by rfl) _ _ (w.heap.size + 1) 27 _ (0, 0) _ (by rfl) (by exact hRw.setRow _) Try.underlying27 (by rfl) (by exact size_disk)) (by rfl) ?_
              have hO := (Only.refl (w.heap.size + 1) W6).setRow [Value.slice B0 e0 d0, .int .i64 (e0 : Int), .slice B1 e1 d1, .int .i64 (e1 : Int), .int .i64 (-1), .int .i64 kk, .bool true].toArray
              exact ⟨⟨B0, e0, d0, B1, e1, d1⟩, rfl, ⟨HT0.out, hd0, hY0.no_byte hRw (disk_no none 0 0 0 none 0 0 0 0 0 false) hO, HT1.out, hd1, hY1.no_byte hRw (disk_no none 0 0 0 none 0 0 0 0 0 false) hO⟩, below_setRow hBw (by omega) _⟩
end Go.Proofs.Ytkkfkibjamnpnaa
/-
  What the reference's calls of layer 17 answer: begin, Sync, Wipe, Crash, Rise. No conditions but those typed.
-/
namespace Go.Proofs.Ytkkfkibjamnpnaa
set_option maxRecDepth 100000
open Go.RowKit
set_option linter.unusedSimpArgs false
set_option linter.unusedVariables false

theorem results_cell_tmp2D {fn : Func} {p u v : Tmp} {ty : TypeId} (h : fn.results = #[.cell p ty, .tmp u, .tmp v]) (tmps : Array Value) (P : Program) (w : World) :
    (results fn tmps).run P w = ((asAddr (tmps.getD p undef)).run P w).andThen fun a w₁ => ((loadVar ty a).run P w₁).andThen fun x w₂ => .ok (.tuple #[x, tmps.getD u undef, tmps.getD v undef]) w₂ := by
  simp only [results, h]
  simp [Sem.run_bind, Result.andThen]
theorem results_row_tmp2D {P : Program} {fn : Func} {p u v : Tmp} {ty : TypeId} (h : fn.results = #[.cell p ty, .tmp u, .tmp v]) (tmps : Array Value) (w : World) (g : Nat) (t : TypeId) (l : List Value) (d : TypeDesc) (hp : tmps.getD p undef = .pointer (some ⟨g, 0, none⟩)) (hg : Row w g t l)
    (hu : P.underlying ty = some d) (hd : d.isRow = true) (hi : (P.info? ty).map (·.size) = some l.length) : (results fn tmps).run P w = .ok (.tuple #[.agg l.toArray, tmps.getD u undef, tmps.getD v undef]) w := by
  rw [results_cell_tmp2D h, hp]
  simp only [asAddr, Sem.run_pure, Result.andThen_ok, hg.loadVar (P := P) ty d hu hd hi]
/-- How a step begins: the disk, whether the power goes, an error. -/
def beginK (D : DK) (k : Int) : DK × Bool × Int :=
  if ¬ (rightDK D ∧ (k = 0 ∨ k = 1)) then (D, false, 1) else if D.down = true then (D, false, 14) else if D.fuse = 0 then (D, true, 0) else ({ D with fuse := burn D.fuse }, false, 0)
theorem InD.fuse {w : World} {x : WD} {D : DK} (h : InD w x D) (f : Int) : InD w x { D with fuse := f } := ⟨h.l0, h.h0, h.r0, h.l1, h.h1, h.r1⟩

set_option maxHeartbeats 2000000 in
theorem begin17_any (x : WD) (D : DK) (k : Int) (w : World) (h : InD w x D) (hf : D.fuse ≤ 9223372036854775807) :
    Calls Try.prog 26 #[aggD x D, .int .i64 k] w fun e w' => e = .returned (.tuple #[aggD x (beginK D k).1, .bool (beginK D k).2.1, .int .i64 (beginK D k).2.2]) ∧ Below w.heap.size w w' := by
  obtain ⟨hR0, hRr, hB⟩ := two_boxes w 27 27 [Value.slice x.A0 x.n0 x.c0, .int .i64 D.a0.s, .slice x.A1 x.n1 x.c1, .int .i64 D.a1.s, .int .i64 D.fuse, .int .i64 D.keep, .bool D.down] [Value.slice none 0 0, .int .i64 0, .slice none 0 0, .int .i64 0, .int .i64 0, .int .i64 0, .bool false] _ _ rfl rfl
  obtain ⟨BK, hBK⟩ : ∃ BK, beginK D k = BK := ⟨_, rfl⟩
  rw [hBK]
  have HST := Lib.hid hBK
  clear hBK
  unfold aggD
  go_enter Try.func26, Try.ntmps26
  go_upto_region 1 with fail
  generalize (w.alloc (.cells [Value.slice x.A0 x.n0 x.c0, .int .i64 D.a0.s, .slice x.A1 x.n1 x.c1, .int .i64 D.a1.s, .int .i64 D.fuse, .int .i64 D.keep, .bool D.down].toArray 27)).alloc (.cells [Value.slice none 0 0, .int .i64 0, .slice none 0 0, .int .i64 0, .int .i64 0, .int .i64 0, .bool false].toArray 27) = W at hR0 hRr hB ⊢
  have hIn := h.keep hB
  have HRT := Lib.hid (refright17_any x D W hIn)
  unfold aggD at HRT
  go_wp2_with (refine wpList_load_part rfl 27 (.tmp 2) rfl w.heap.size 0 rfl _ _ hR0 [Value.slice x.A0 x.n0 x.c0, .int .i64 D.a0.s, .slice x.A1 x.n1 x.c1, .int .i64 D.a1.s, .int .i64 D.fuse, .int .i64 D.keep, .bool D.down] (by rfl) _ Try.underlying27 rfl (by exact size_disk) ?_)
  refine HRT.out.mono ?_
  rintro e w2 ⟨rfl, hb2⟩
  replace hR0 := hR0.later hb2
  replace hRr := hRr.later hb2
  replace hB := below_step hB hb2
  clear hb2 HRT hIn h
  have c6 : w2.cell? ⟨w.heap.size, 6, none⟩ = some (.bool D.down) := hR0.cell rfl
  have c4 : w2.cell? ⟨w.heap.size, 4, none⟩ = some (.int .i64 D.fuse) := hR0.cell rfl
  by_cases hright : rightDK D
  · rw [decide_eq_true hright]
    by_cases hk : k = 0 ∨ k = 1
    · have hrk : ¬ ¬ (rightDK D ∧ (k = 0 ∨ k = 1)) := fun hn => hn ⟨hright, hk⟩
      by_cases hd : D.down = true
      · have HS2 : Hid (BK = (D, false, 14)) := by rw [← HST.out]; unfold Hid beginK; rw [if_neg hrk, if_pos hd]
        rw [hd] at c6
        clear hd HST hright hrk
        rename Hid (BK = _) => HST
        rcases hk with rfl | rfl
        · go_wp2_with (first | (refine wpList_load_part rfl 27 (.tmp 2) rfl w.heap.size 0 rfl _ _ hR0 [Value.slice x.A0 x.n0 x.c0, .int .i64 D.a0.s, .slice x.A1 x.n1 x.c1, .int .i64 D.a1.s, .int .i64 D.fuse, .int .i64 D.keep, .bool D.down] (by rfl) _ Try.underlying27 rfl (by exact size_disk) ?_) | (refine wpList_store_row rfl 27 (.tmp 4) _ rfl (w.heap.size + 1) rfl [Value.slice x.A0 x.n0 x.c0, .int .i64 D.a0.s, .slice x.A1 x.n1 x.c1, .int .i64 D.a1.s, .int .i64 D.fuse, .int .i64 D.keep, .bool D.down] rfl _ _ hRr (by exact size_disk) rfl (one_disk x D) ?_))
          refine bodyPost_ret (results_row_tmp2D (p := 4) (u := 5) (v := 6) (ty := 27) (by rfl) _ _ (w.heap.size + 1) 27 _ _ (by rfl) (by exact hRr.setRow _) Try.underlying27 (by rfl) (by exact size_disk)) (by rfl) ?_
          rw [HST.out]
          exact ⟨rfl, below_setRow hB (by omega) _⟩
        · go_wp2_with (first | (refine wpList_load_part rfl 27 (.tmp 2) rfl w.heap.size 0 rfl _ _ hR0 [Value.slice x.A0 x.n0 x.c0, .int .i64 D.a0.s, .slice x.A1 x.n1 x.c1, .int .i64 D.a1.s, .int .i64 D.fuse, .int .i64 D.keep, .bool D.down] (by rfl) _ Try.underlying27 rfl (by exact size_disk) ?_) | (refine wpList_store_row rfl 27 (.tmp 4) _ rfl (w.heap.size + 1) rfl [Value.slice x.A0 x.n0 x.c0, .int .i64 D.a0.s, .slice x.A1 x.n1 x.c1, .int .i64 D.a1.s, .int .i64 D.fuse, .int .i64 D.keep, .bool D.down] rfl _ _ hRr (by exact size_disk) rfl (one_disk x D) ?_))
          refine bodyPost_ret (results_row_tmp2D (p := 4) (u := 5) (v := 6) (ty := 27) (by rfl) _ _ (w.heap.size + 1) 27 _ _ (by rfl) (by exact hRr.setRow _) Try.underlying27 (by rfl) (by exact size_disk)) (by rfl) ?_
          rw [HST.out]
          exact ⟨rfl, below_setRow hB (by omega) _⟩
      · have hd' : D.down = false := Bool.not_eq_true _ ▸ hd
        rw [hd'] at c6
        by_cases hf0 : D.fuse = 0
        · have HS2 : Hid (BK = (D, true, 0)) := by rw [← HST.out]; unfold Hid beginK; rw [if_neg hrk, if_neg hd, if_pos hf0]
          rw [hf0] at c4
          clear hd hd' HST hright hrk hf0
          rename Hid (BK = _) => HST
          rcases hk with rfl | rfl
          · go_wp2_with (first | (refine wpList_load_part rfl 27 (.tmp 2) rfl w.heap.size 0 rfl _ _ hR0 [Value.slice x.A0 x.n0 x.c0, .int .i64 D.a0.s, .slice x.A1 x.n1 x.c1, .int .i64 D.a1.s, .int .i64 D.fuse, .int .i64 D.keep, .bool D.down] (by rfl) _ Try.underlying27 rfl (by exact size_disk) ?_) | (refine wpList_store_row rfl 27 (.tmp 4) _ rfl (w.heap.size + 1) rfl [Value.slice x.A0 x.n0 x.c0, .int .i64 D.a0.s, .slice x.A1 x.n1 x.c1, .int .i64 D.a1.s, .int .i64 D.fuse, .int .i64 D.keep, .bool D.down] rfl _ _ hRr (by exact size_disk) rfl (one_disk x D) ?_))
            refine bodyPost_ret (results_row_tmp2D (p := 4) (u := 5) (v := 6) (ty := 27) (by rfl) _ _ (w.heap.size + 1) 27 _ _ (by rfl) (by exact hRr.setRow _) Try.underlying27 (by rfl) (by exact size_disk)) (by rfl) ?_
            rw [HST.out]
            exact ⟨rfl, below_setRow hB (by omega) _⟩
          · go_wp2_with (first | (refine wpList_load_part rfl 27 (.tmp 2) rfl w.heap.size 0 rfl _ _ hR0 [Value.slice x.A0 x.n0 x.c0, .int .i64 D.a0.s, .slice x.A1 x.n1 x.c1, .int .i64 D.a1.s, .int .i64 D.fuse, .int .i64 D.keep, .bool D.down] (by rfl) _ Try.underlying27 rfl (by exact size_disk) ?_) | (refine wpList_store_row rfl 27 (.tmp 4) _ rfl (w.heap.size + 1) rfl [Value.slice x.A0 x.n0 x.c0, .int .i64 D.a0.s, .slice x.A1 x.n1 x.c1, .int .i64 D.a1.s, .int .i64 D.fuse, .int .i64 D.keep, .bool D.down] rfl _ _ hRr (by exact size_disk) rfl (one_disk x D) ?_))
            refine bodyPost_ret (results_row_tmp2D (p := 4) (u := 5) (v := 6) (ty := 27) (by rfl) _ _ (w.heap.size + 1) 27 _ _ (by rfl) (by exact hRr.setRow _) Try.underlying27 (by rfl) (by exact size_disk)) (by rfl) ?_
            rw [HST.out]
            exact ⟨rfl, below_setRow hB (by omega) _⟩
        · have HS2 : Hid (BK = ({ D with fuse := burn D.fuse }, false, 0)) := by rw [← HST.out]; unfold Hid beginK; rw [if_neg hrk, if_neg hd, if_neg hf0]
          clear hd hd' HST hrk
          rename Hid (BK = _) => HST
          by_cases hf1 : 0 < D.fuse
          · have HBU : Hid (burn D.fuse = D.fuse - 1) := by unfold Hid burn; rw [if_pos hf1]
            rw [HBU.out] at HST
            have hww : IntKind.i64.wrap (D.fuse - 1) = D.fuse - 1 := by rw [IntKind.wrap_i64]; omega
            have f4 := hR0.frozen 4
            have hR1 : Row (w2.setCell ⟨w.heap.size, 4, none⟩ (.int .i64 (D.fuse - 1))) w.heap.size 27 [Value.slice x.A0 x.n0 x.c0, .int .i64 D.a0.s, .slice x.A1 x.n1 x.c1, .int .i64 D.a1.s, .int .i64 (D.fuse - 1), .int .i64 D.keep, .bool D.down] := hR0.setCell 4 _
            have hRx := hRr.setCell_other (p := ⟨w.heap.size, 4, none⟩) (show w.heap.size + 1 ≠ w.heap.size by omega) (.int .i64 (D.fuse - 1))
            have hBx : Below w.heap.size w (w2.setCell ⟨w.heap.size, 4, none⟩ (.int .i64 (D.fuse - 1))) := hB.setCell (p := ⟨w.heap.size, 4, none⟩) (Nat.le_refl _) _
            clear HBU hright
            rcases hk with rfl | rfl
            · go_upto_region 9 with fail
              clear hR0 hRr hB c4 c6 f4 hww
              generalize w2.setCell ⟨w.heap.size, 4, none⟩ (.int .i64 (D.fuse - 1)) = w3 at hR1 hRx hBx ⊢
              rename Row w3 (w.heap.size + 1) _ _ => hRr
              rename Below w.heap.size w w3 => hB
              go_wp2_with (first | (refine wpList_load_part rfl 27 (.tmp 2) rfl w.heap.size 0 rfl _ _ hR1 [Value.slice x.A0 x.n0 x.c0, .int .i64 D.a0.s, .slice x.A1 x.n1 x.c1, .int .i64 D.a1.s, .int .i64 (D.fuse - 1), .int .i64 D.keep, .bool D.down] (by rfl) _ Try.underlying27 rfl (by exact size_disk) ?_) | (refine wpList_store_row rfl 27 (.tmp 4) _ rfl (w.heap.size + 1) rfl [Value.slice x.A0 x.n0 x.c0, .int .i64 D.a0.s, .slice x.A1 x.n1 x.c1, .int .i64 D.a1.s, .int .i64 (D.fuse - 1), .int .i64 D.keep, .bool D.down] rfl _ _ hRr (by exact size_disk) rfl (one_disk x { D with fuse := D.fuse - 1 }) ?_))
              refine bodyPost_ret (results_row_tmp2D (p := 4) (u := 5) (v := 6) (ty := 27) (by rfl) _ _ (w.heap.size + 1) 27 _ _ (by rfl) (by exact hRr.setRow _) Try.underlying27 (by rfl) (by exact size_disk)) (by rfl) ?_
              rw [HST.out]
              exact ⟨rfl, below_setRow hB (by omega) _⟩
            · go_upto_region 9 with fail
              clear hR0 hRr hB c4 c6 f4 hww
              generalize w2.setCell ⟨w.heap.size, 4, none⟩ (.int .i64 (D.fuse - 1)) = w3 at hR1 hRx hBx ⊢
              rename Row w3 (w.heap.size + 1) _ _ => hRr
              rename Below w.heap.size w w3 => hB
              go_wp2_with (first | (refine wpList_load_part rfl 27 (.tmp 2) rfl w.heap.size 0 rfl _ _ hR1 [Value.slice x.A0 x.n0 x.c0, .int .i64 D.a0.s, .slice x.A1 x.n1 x.c1, .int .i64 D.a1.s, .int .i64 (D.fuse - 1), .int .i64 D.keep, .bool D.down] (by rfl) _ Try.underlying27 rfl (by exact size_disk) ?_) | (refine wpList_store_row rfl 27 (.tmp 4) _ rfl (w.heap.size + 1) rfl [Value.slice x.A0 x.n0 x.c0, .int .i64 D.a0.s, .slice x.A1 x.n1 x.c1, .int .i64 D.a1.s, .int .i64 (D.fuse - 1), .int .i64 D.keep, .bool D.down] rfl _ _ hRr (by exact size_disk) rfl (one_disk x { D with fuse := D.fuse - 1 }) ?_))
              refine bodyPost_ret (results_row_tmp2D (p := 4) (u := 5) (v := 6) (ty := 27) (by rfl) _ _ (w.heap.size + 1) 27 _ _ (by rfl) (by exact hRr.setRow _) Try.underlying27 (by rfl) (by exact size_disk)) (by rfl) ?_
              rw [HST.out]
              exact ⟨rfl, below_setRow hB (by omega) _⟩
          · have hf2 : D.fuse = -1 := by have := hright.2.2.1; omega
            have HBU : Hid (burn D.fuse = D.fuse) := by unfold Hid burn; rw [if_neg hf1]
            rw [HBU.out] at HST
            rw [hf2] at c4
            clear hf0 hf1 hf2 HBU hright
            rcases hk with rfl | rfl
            · go_wp2_with (first | (refine wpList_load_part rfl 27 (.tmp 2) rfl w.heap.size 0 rfl _ _ hR0 [Value.slice x.A0 x.n0 x.c0, .int .i64 D.a0.s, .slice x.A1 x.n1 x.c1, .int .i64 D.a1.s, .int .i64 D.fuse, .int .i64 D.keep, .bool D.down] (by rfl) _ Try.underlying27 rfl (by exact size_disk) ?_) | (refine wpList_store_row rfl 27 (.tmp 4) _ rfl (w.heap.size + 1) rfl [Value.slice x.A0 x.n0 x.c0, .int .i64 D.a0.s, .slice x.A1 x.n1 x.c1, .int .i64 D.a1.s, .int .i64 D.fuse, .int .i64 D.keep, .bool D.down] rfl _ _ hRr (by exact size_disk) rfl (one_disk x D) ?_))
              refine bodyPost_ret (results_row_tmp2D (p := 4) (u := 5) (v := 6) (ty := 27) (by rfl) _ _ (w.heap.size + 1) 27 _ _ (by rfl) (by exact hRr.setRow _) Try.underlying27 (by rfl) (by exact size_disk)) (by rfl) ?_
              rw [HST.out]
              exact ⟨rfl, below_setRow hB (by omega) _⟩
            · go_wp2_with (first | (refine wpList_load_part rfl 27 (.tmp 2) rfl w.heap.size 0 rfl _ _ hR0 [Value.slice x.A0 x.n0 x.c0, .int .i64 D.a0.s, .slice x.A1 x.n1 x.c1, .int .i64 D.a1.s, .int .i64 D.fuse, .int .i64 D.keep, .bool D.down] (by rfl) _ Try.underlying27 rfl (by exact size_disk) ?_) | (refine wpList_store_row rfl 27 (.tmp 4) _ rfl (w.heap.size + 1) rfl [Value.slice x.A0 x.n0 x.c0, .int .i64 D.a0.s, .slice x.A1 x.n1 x.c1, .int .i64 D.a1.s, .int .i64 D.fuse, .int .i64 D.keep, .bool D.down] rfl _ _ hRr (by exact size_disk) rfl (one_disk x D) ?_))
              refine bodyPost_ret (results_row_tmp2D (p := 4) (u := 5) (v := 6) (ty := 27) (by rfl) _ _ (w.heap.size + 1) 27 _ _ (by rfl) (by exact hRr.setRow _) Try.underlying27 (by rfl) (by exact size_disk)) (by rfl) ?_
              rw [HST.out]
              exact ⟨rfl, below_setRow hB (by omega) _⟩
    · have HS2 : Hid (BK = (D, false, 1)) := by rw [← HST.out]; unfold Hid beginK; rw [if_pos (fun hn => hk hn.2)]
      have hk0 : k ≠ 0 := fun h => hk (.inl h)
      have hk1 : k ≠ 1 := fun h => hk (.inr h)
      have b0 : (k == 0) = false := beq_eq_false_iff_ne.2 hk0
      have b1 : (k == 1) = false := beq_eq_false_iff_ne.2 hk1
      have b2 : (k != 0) = true := bne_iff_ne.2 hk0
      have b3 : (k != 1) = true := bne_iff_ne.2 hk1
      clear hk HST hright
      rename Hid (BK = _) => HST
      go_wp2_with (first | (refine wpList_load_part rfl 27 (.tmp 2) rfl w.heap.size 0 rfl _ _ hR0 [Value.slice x.A0 x.n0 x.c0, .int .i64 D.a0.s, .slice x.A1 x.n1 x.c1, .int .i64 D.a1.s, .int .i64 D.fuse, .int .i64 D.keep, .bool D.down] (by rfl) _ Try.underlying27 rfl (by exact size_disk) ?_) | (refine wpList_store_row rfl 27 (.tmp 4) _ rfl (w.heap.size + 1) rfl [Value.slice x.A0 x.n0 x.c0, .int .i64 D.a0.s, .slice x.A1 x.n1 x.c1, .int .i64 D.a1.s, .int .i64 D.fuse, .int .i64 D.keep, .bool D.down] rfl _ _ hRr (by exact size_disk) rfl (one_disk x D) ?_))
      refine bodyPost_ret (results_row_tmp2D (p := 4) (u := 5) (v := 6) (ty := 27) (by rfl) _ _ (w.heap.size + 1) 27 _ _ (by rfl) (by exact hRr.setRow _) Try.underlying27 (by rfl) (by exact size_disk)) (by rfl) ?_
      rw [HST.out]
      exact ⟨rfl, below_setRow hB (by omega) _⟩
  · have HS2 : Hid (BK = (D, false, 1)) := by rw [← HST.out]; unfold Hid beginK; rw [if_pos (fun hn => hright hn.1)]
    rw [decide_eq_false hright]
    clear hright HST
    rename Hid (BK = _) => HST
    go_wp2_with (first | (refine wpList_load_part rfl 27 (.tmp 2) rfl w.heap.size 0 rfl _ _ hR0 [Value.slice x.A0 x.n0 x.c0, .int .i64 D.a0.s, .slice x.A1 x.n1 x.c1, .int .i64 D.a1.s, .int .i64 D.fuse, .int .i64 D.keep, .bool D.down] (by rfl) _ Try.underlying27 rfl (by exact size_disk) ?_) | (refine wpList_store_row rfl 27 (.tmp 4) _ rfl (w.heap.size + 1) rfl [Value.slice x.A0 x.n0 x.c0, .int .i64 D.a0.s, .slice x.A1 x.n1 x.c1, .int .i64 D.a1.s, .int .i64 D.fuse, .int .i64 D.keep, .bool D.down] rfl _ _ hRr (by exact size_disk) rfl (one_disk x D) ?_))
    refine bodyPost_ret (results_row_tmp2D (p := 4) (u := 5) (v := 6) (ty := 27) (by rfl) _ _ (w.heap.size + 1) 27 _ _ (by rfl) (by exact hRr.setRow _) Try.underlying27 (by rfl) (by exact size_disk)) (by rfl) ?_
    rw [HST.out]
    exact ⟨rfl, below_setRow hB (by omega) _⟩
end Go.Proofs.Ytkkfkibjamnpnaa
/-
  What the reference's calls Sync, Wipe, Write, Crash and Rise of layer 17 answer. No conditions but those typed.
-/
namespace Go.Proofs.Ytkkfkibjamnpnaa
set_option maxRecDepth 100000
open Go.RowKit
set_option linter.unusedSimpArgs false
set_option linter.unusedVariables false

/-- How a step goes on behind its beginning. -/
theorem begin_cases (D : DK) (k : Int) :
    (∃ er, er ≠ 0 ∧ beginK D k = (D, false, er) ∧ ∀ full gs dn, stepD D k full gs dn = (D, er)) ∨
    (rightDK D ∧ (k = 0 ∨ k = 1) ∧ D.down = false ∧ beginK D k = (D, true, 0) ∧ (∀ full gs dn, full k.toNat = true → stepD D k full gs dn = (D, 12)) ∧ ∀ full gs dn, full k.toNat = false → stepD D k full gs dn = (loseD (setA D k.toNat (gs k.toNat (getA D k.toNat))) D.keep, 14)) ∨
    (rightDK D ∧ (k = 0 ∨ k = 1) ∧ D.down = false ∧ beginK D k = ({ D with fuse := burn D.fuse }, false, 0) ∧ (∀ full gs dn, full k.toNat = true → stepD D k full gs dn = (D, 12)) ∧ ∀ full gs dn, full k.toNat = false → stepD D k full gs dn = ({ setA D k.toNat (dn k.toNat (getA D k.toNat)) with fuse := burn D.fuse }, 0)) := by
  by_cases hr : rightDK D ∧ (k = 0 ∨ k = 1)
  · have hrn : ¬ ¬ (rightDK D ∧ (k = 0 ∨ k = 1)) := fun hn => hn hr
    by_cases hd : D.down = true
    · refine .inl ⟨14, by decide, by unfold beginK; rw [if_neg hrn, if_pos hd], fun full gs dn => by unfold stepD; rw [if_neg hrn, if_pos hd]⟩
    · by_cases hf : D.fuse = 0
      · refine .inr (.inl ⟨hr.1, hr.2, Bool.not_eq_true _ ▸ hd, by unfold beginK; rw [if_neg hrn, if_neg hd, if_pos hf], fun full gs dn h => by unfold stepD; rw [if_neg hrn, if_neg hd, if_pos h], fun full gs dn h => ?_⟩)
        unfold stepD
        rw [if_neg hrn, if_neg hd, if_neg (by rw [h]; exact Bool.false_ne_true), if_pos hf]
      · refine .inr (.inr ⟨hr.1, hr.2, Bool.not_eq_true _ ▸ hd, by unfold beginK; rw [if_neg hrn, if_neg hd, if_neg hf], fun full gs dn h => by unfold stepD; rw [if_neg hrn, if_neg hd, if_pos h], fun full gs dn h => ?_⟩)
        unfold stepD
        rw [if_neg hrn, if_neg hd, if_neg (by rw [h]; exact Bool.false_ne_true), if_neg hf]
  · exact .inl ⟨1, by decide, by unfold beginK; rw [if_pos hr], fun full gs dn => by unfold stepD; rw [if_pos hr]⟩
theorem InD.later_no {w w' : World} {x : WD} {D : DK} (h : InD w x D) (hb : Below w.heap.size w w') : InD w' x D := h.keep hb

set_option maxHeartbeats 4000000 in
theorem refsync17_any (x : WD) (D : DK) (k : Int) (w : World) (h : InD w x D) (hf : D.fuse ≤ 9223372036854775807) (hk : D.keep ≤ 9223372036854775807) :
    Calls Try.prog 12 #[aggD x D, .int .i64 k] w (RetF w (syncD D k).1 (syncD D k).2) := by
  obtain ⟨hR0, hRr, hB⟩ := two_boxes w 27 27 [Value.slice x.A0 x.n0 x.c0, .int .i64 D.a0.s, .slice x.A1 x.n1 x.c1, .int .i64 D.a1.s, .int .i64 D.fuse, .int .i64 D.keep, .bool D.down] [Value.slice none 0 0, .int .i64 0, .slice none 0 0, .int .i64 0, .int .i64 0, .int .i64 0, .bool false] _ _ rfl rfl
  obtain ⟨SO, hSO⟩ : ∃ SO, syncD D k = SO := ⟨_, rfl⟩
  rw [hSO]
  have HSO := Lib.hid hSO
  obtain ⟨BK, hBK⟩ : ∃ BK, beginK D k = BK := ⟨_, rfl⟩
  have HBK := Lib.hid hBK
  have hbg := begin17_any x D k
  rw [hBK] at hbg
  clear hSO hBK
  obtain ⟨D1, g, er⟩ := BK
  unfold aggD at hbg
  dsimp only at hbg
  have HBG := Lib.hid hbg
  clear hbg
  have HCA := Lib.hid (begin_cases D k)
  unfold aggD
  go_enter Try.func12, Try.ntmps12
  go_upto_region 1 with fail
  generalize (w.alloc (.cells [Value.slice x.A0 x.n0 x.c0, .int .i64 D.a0.s, .slice x.A1 x.n1 x.c1, .int .i64 D.a1.s, .int .i64 D.fuse, .int .i64 D.keep, .bool D.down].toArray 27)).alloc (.cells [Value.slice none 0 0, .int .i64 0, .slice none 0 0, .int .i64 0, .int .i64 0, .int .i64 0, .bool false].toArray 27) = W at hR0 hRr hB ⊢
  replace h := h.keep hB
  have hlt := hRr.lt
  obtain ⟨hRz, hBz⟩ := box_of W 27 [Value.slice none 0 0, .int .i64 0, .slice none 0 0, .int .i64 0, .int .i64 0, .int .i64 0, .bool false] _ rfl
  go_upto_region 2 with (first
    | (refine wpList_load_part rfl 27 (.tmp 2) rfl w.heap.size 0 rfl _ _ hR0 [Value.slice x.A0 x.n0 x.c0, .int .i64 D.a0.s, .slice x.A1 x.n1 x.c1, .int .i64 D.a1.s, .int .i64 D.fuse, .int .i64 D.keep, .bool D.down] (by rfl) _ Try.underlying27 rfl (by exact size_disk) ?_)
    | (refine wpList_store_row rfl 27 (.tmp 6) _ rfl W.heap.size rfl [Value.slice x.A0 x.n0 x.c0, .int .i64 D.a0.s, .slice x.A1 x.n1 x.c1, .int .i64 D.a1.s, .int .i64 D.fuse, .int .i64 D.keep, .bool D.down] rfl _ _ hRz (by exact size_disk) rfl (one_disk x D) ?_))
  have hRw := hRz.setRow [Value.slice x.A0 x.n0 x.c0, .int .i64 D.a0.s, .slice x.A1 x.n1 x.c1, .int .i64 D.a1.s, .int .i64 D.fuse, .int .i64 D.keep, .bool D.down]
  have hBy : Below W.heap.size W ((W.alloc (.cells [Value.slice none 0 0, .int .i64 0, .slice none 0 0, .int .i64 0, .int .i64 0, .int .i64 0, .bool false].toArray 27)).setRow W.heap.size [Value.slice x.A0 x.n0 x.c0, .int .i64 D.a0.s, .slice x.A1 x.n1 x.c1, .int .i64 D.a1.s, .int .i64 D.fuse, .int .i64 D.keep, .bool D.down].toArray) := below_setRow hBz (Nat.le_refl _) _
  replace hR0 := hR0.later hBy
  replace hRr := hRr.later hBy
  replace h := h.keep hBy
  replace hB := below_step hB hBy
  clear hRz hBz hBy
  generalize (W.alloc (.cells [Value.slice none 0 0, .int .i64 0, .slice none 0 0, .int .i64 0, .int .i64 0, .int .i64 0, .bool false].toArray 27)).setRow W.heap.size [Value.slice x.A0 x.n0 x.c0, .int .i64 D.a0.s, .slice x.A1 x.n1 x.c1, .int .i64 D.a1.s, .int .i64 D.fuse, .int .i64 D.keep, .bool D.down].toArray = W1 at hR0 hRr hRw hB h ⊢
  have hwl := hRw.lt
  have HBH := Lib.hid (HBG.out W1 h hf)
  go_wp2_with (refine wpList_load_part rfl 27 (.tmp 2) rfl w.heap.size 0 rfl _ _ hR0 [Value.slice x.A0 x.n0 x.c0, .int .i64 D.a0.s, .slice x.A1 x.n1 x.c1, .int .i64 D.a1.s, .int .i64 D.fuse, .int .i64 D.keep, .bool D.down] (by rfl) _ Try.underlying27 rfl (by exact size_disk) ?_)
  refine HBH.out.mono ?_
  rintro e w2 ⟨rfl, hb⟩
  replace hR0 := hR0.later hb
  replace hRr := hRr.later hb
  replace hRw := hRw.later hb
  replace h := h.keep hb
  replace hB := below_step hB hb
  clear hb HBH HBG hwl
  dsimp only
  go_upto_region 3 with (refine wpList_store_row rfl 27 (.tmp 2) (.tmp 14) rfl w.heap.size rfl [Value.slice x.A0 x.n0 x.c0, .int .i64 D1.a0.s, .slice x.A1 x.n1 x.c1, .int .i64 D1.a1.s, .int .i64 D1.fuse, .int .i64 D1.keep, .bool D1.down] rfl _ _ hR0 (by exact size_disk) rfl (one_disk x D1) ?_)
  have hR1 := hR0.setRow [Value.slice x.A0 x.n0 x.c0, .int .i64 D1.a0.s, .slice x.A1 x.n1 x.c1, .int .i64 D1.a1.s, .int .i64 D1.fuse, .int .i64 D1.keep, .bool D1.down]
  have hO := (Only.refl w.heap.size w2).setRow [Value.slice x.A0 x.n0 x.c0, .int .i64 D1.a0.s, .slice x.A1 x.n1 x.c1, .int .i64 D1.a1.s, .int .i64 D1.fuse, .int .i64 D1.keep, .bool D1.down].toArray
  replace hRr := hRr.setRow_other (show w.heap.size + 1 ≠ w.heap.size by omega) [Value.slice x.A0 x.n0 x.c0, .int .i64 D1.a0.s, .slice x.A1 x.n1 x.c1, .int .i64 D1.a1.s, .int .i64 D1.fuse, .int .i64 D1.keep, .bool D1.down].toArray
  replace hRw := hRw.setRow_other (show W.heap.size ≠ w.heap.size by omega) [Value.slice x.A0 x.n0 x.c0, .int .i64 D1.a0.s, .slice x.A1 x.n1 x.c1, .int .i64 D1.a1.s, .int .i64 D1.fuse, .int .i64 D1.keep, .bool D1.down].toArray
  replace h := h.no_byte hR0 (cellsD_no x D) hO
  replace hB := hB.trans hO.below
  clear hR0 hO
  generalize w2.setRow w.heap.size [Value.slice x.A0 x.n0 x.c0, .int .i64 D1.a0.s, .slice x.A1 x.n1 x.c1, .int .i64 D1.a1.s, .int .i64 D1.fuse, .int .i64 D1.keep, .bool D1.down].toArray = W2 at hR1 hRr hRw hB h ⊢
  rename Row W2 w.heap.size _ _ => hR0
  rcases HCA.out with ⟨er', h1, h2, h3⟩ | ⟨hright, hkk, hdn, h2, h3, h4⟩ | ⟨hright, hkk, hdn, h2, h3, h4⟩
  · rw [HBK.out] at h2
    injection h2 with e1 h2
    injection h2 with e2 e3
    subst e1 e2 e3
    have HST : Hid (SO = (D1, er)) := by rw [← HSO.out]; exact h3 _ _ _
    have n1 : (er == 0) = false := beq_eq_false_iff_ne.2 h1
    have n2 : (er != 0) = true := bne_iff_ne.2 h1
    clear h1 h3 HSO HCA HBK
    go_wp2_with (first | (refine wpList_load_part rfl 27 (.tmp 6) rfl W.heap.size 0 rfl _ _ hRw [Value.slice x.A0 x.n0 x.c0, .int .i64 D1.a0.s, .slice x.A1 x.n1 x.c1, .int .i64 D1.a1.s, .int .i64 D1.fuse, .int .i64 D1.keep, .bool D1.down] (by rfl) _ Try.underlying27 rfl (by exact size_disk) ?_) | (refine wpList_store_row rfl 27 (.tmp 4) _ rfl (w.heap.size + 1) rfl [Value.slice x.A0 x.n0 x.c0, .int .i64 D1.a0.s, .slice x.A1 x.n1 x.c1, .int .i64 D1.a1.s, .int .i64 D1.fuse, .int .i64 D1.keep, .bool D1.down] rfl _ _ hRr (by exact size_disk) rfl (one_disk x D1) ?_))
    refine bodyPost_ret (results_row_tmp (p := 4) (u := 5) (ty := 27) (by rfl) _ _ (w.heap.size + 1) 27 _ _ (by rfl) (by exact hRr.setRow _) Try.underlying27 (by rfl) (by exact size_disk)) (by rfl) ?_
    rw [HST.out]
    exact ⟨x, rfl, h.no_byte hRr (disk_no none 0 0 0 none 0 0 0 0 0 false) ((Only.refl _ _).setRow _), below_setRow hB (by omega) _⟩
  · rw [HBK.out] at h2
    injection h2 with e1 h2
    injection h2 with e2 e3
    subst e1 e2 e3
    clear hdn
    rcases hkk with rfl | rfl
    · have HST : Hid (SO = (loseD D1 D1.keep, 14)) := by rw [← HSO.out]; exact h4 _ _ _ rfl
      clear h3 h4 HSO HCA HBK
      have c5 : W2.cell? ⟨w.heap.size, 5, none⟩ = some (.int .i64 D1.keep) := hR0.cell rfl
      have HL := Lib.hid (lose17_any x D1 D1.keep W2 h hright.1 hright.2.1 hright.2.2.2 hk)
      unfold aggD at HL
      go_wp2_with (refine wpList_load_part rfl 27 (.tmp 2) rfl w.heap.size 0 rfl _ _ hR0 [Value.slice x.A0 x.n0 x.c0, .int .i64 D1.a0.s, .slice x.A1 x.n1 x.c1, .int .i64 D1.a1.s, .int .i64 D1.fuse, .int .i64 D1.keep, .bool D1.down] (by rfl) _ Try.underlying27 rfl (by exact size_disk) ?_)
      refine HL.out.mono ?_
      rintro e w5 ⟨y, rfl, hIn, hb⟩
      replace hRr := hRr.later hb
      replace hB := below_step hB hb
      clear hb HL c5 hR0 hRw
      unfold aggD
      go_wp2_with (refine wpList_store_row rfl 27 (.tmp 4) _ rfl (w.heap.size + 1) rfl (cellsD y (loseD D1 D1.keep)) rfl _ _ hRr (by exact size_disk) rfl (one_disk _ _) ?_)
      refine bodyPost_ret (results_row_tmp (p := 4) (u := 5) (ty := 27) (by rfl) _ _ (w.heap.size + 1) 27 _ _ (by rfl) (by exact hRr.setRow _) Try.underlying27 (by rfl) (by exact size_disk)) (by rfl) ?_
      rw [HST.out]
      exact ⟨y, rfl, hIn.no_byte hRr (disk_no none 0 0 0 none 0 0 0 0 0 false) ((Only.refl _ _).setRow _), below_setRow hB (by omega) _⟩
    · have HST : Hid (SO = (loseD D1 D1.keep, 14)) := by rw [← HSO.out]; exact h4 _ _ _ rfl
      clear h3 h4 HSO HCA HBK
      have c5 : W2.cell? ⟨w.heap.size, 5, none⟩ = some (.int .i64 D1.keep) := hR0.cell rfl
      have HL := Lib.hid (lose17_any x D1 D1.keep W2 h hright.1 hright.2.1 hright.2.2.2 hk)
      unfold aggD at HL
      go_wp2_with (refine wpList_load_part rfl 27 (.tmp 2) rfl w.heap.size 0 rfl _ _ hR0 [Value.slice x.A0 x.n0 x.c0, .int .i64 D1.a0.s, .slice x.A1 x.n1 x.c1, .int .i64 D1.a1.s, .int .i64 D1.fuse, .int .i64 D1.keep, .bool D1.down] (by rfl) _ Try.underlying27 rfl (by exact size_disk) ?_)
      refine HL.out.mono ?_
      rintro e w5 ⟨y, rfl, hIn, hb⟩
      replace hRr := hRr.later hb
      replace hB := below_step hB hb
      clear hb HL c5 hR0 hRw
      unfold aggD
      go_wp2_with (refine wpList_store_row rfl 27 (.tmp 4) _ rfl (w.heap.size + 1) rfl (cellsD y (loseD D1 D1.keep)) rfl _ _ hRr (by exact size_disk) rfl (one_disk _ _) ?_)
      refine bodyPost_ret (results_row_tmp (p := 4) (u := 5) (ty := 27) (by rfl) _ _ (w.heap.size + 1) 27 _ _ (by rfl) (by exact hRr.setRow _) Try.underlying27 (by rfl) (by exact size_disk)) (by rfl) ?_
      rw [HST.out]
      exact ⟨y, rfl, hIn.no_byte hRr (disk_no none 0 0 0 none 0 0 0 0 0 false) ((Only.refl _ _).setRow _), below_setRow hB (by omega) _⟩
  · rw [HBK.out] at h2
    injection h2 with e1 h2
    injection h2 with e2 e3
    subst e1 e2 e3
    dsimp only at hR0
    clear hdn
    rcases hkk with rfl | rfl
    · have HST : Hid (SO = (⟨⟨D.a0.b, (x.n0 : Int)⟩, D.a1, burn D.fuse, D.keep, D.down⟩, 0)) := by
        rw [← HSO.out, ← h.l0]
        exact h4 _ _ _ rfl
      clear h3 h4 HSO HCA HBK
      have c0 : W2.cell? ⟨w.heap.size, 0, none⟩ = some (.slice x.A0 x.n0 x.c0) := hR0.cell rfl
      have c1 : W2.cell? ⟨w.heap.size, 1, none⟩ = some (.int .i64 D.a0.s) := hR0.cell rfl
      have f1 := hR0.frozen 1
      have hR1 : Row (W2.setCell ⟨w.heap.size, 1, none⟩ (.int .i64 (x.n0 : Int))) w.heap.size 27 [Value.slice x.A0 x.n0 x.c0, .int .i64 (x.n0 : Int), .slice x.A1 x.n1 x.c1, .int .i64 D.a1.s, .int .i64 (burn D.fuse), .int .i64 D.keep, .bool D.down] := hR0.setCell 1 _
      have hO : Only w.heap.size W2 (W2.setCell ⟨w.heap.size, 1, none⟩ (.int .i64 (x.n0 : Int))) := (Only.refl _ W2).setCell 1 _
      go_upto_region 8 with fail
      replace h := h.no_byte hR0 (cellsD_no x { D with fuse := burn D.fuse }) hO
      replace hRr := hRr.setCell_other (p := ⟨w.heap.size, 1, none⟩) (show w.heap.size + 1 ≠ w.heap.size by omega) (.int .i64 (x.n0 : Int))
      replace hB := hB.trans hO.below
      clear hR0 hRw c0 c1 f1 hO
      generalize W2.setCell ⟨w.heap.size, 1, none⟩ (.int .i64 (x.n0 : Int)) = W3 at hR1 hRr hB h ⊢
      go_wp2_with (first | (refine wpList_load_part rfl 27 (.tmp 2) rfl w.heap.size 0 rfl _ _ hR1 [Value.slice x.A0 x.n0 x.c0, .int .i64 (x.n0 : Int), .slice x.A1 x.n1 x.c1, .int .i64 D.a1.s, .int .i64 (burn D.fuse), .int .i64 D.keep, .bool D.down] (by rfl) _ Try.underlying27 rfl (by exact size_disk) ?_) | (refine wpList_store_row rfl 27 (.tmp 4) _ rfl (w.heap.size + 1) rfl [Value.slice x.A0 x.n0 x.c0, .int .i64 (x.n0 : Int), .slice x.A1 x.n1 x.c1, .int .i64 D.a1.s, .int .i64 (burn D.fuse), .int .i64 D.keep, .bool D.down] rfl _ _ hRr (by exact size_disk) rfl (one_disk x ⟨⟨D.a0.b, (x.n0 : Int)⟩, D.a1, burn D.fuse, D.keep, D.down⟩) ?_))
      refine bodyPost_ret (results_row_tmp (p := 4) (u := 5) (ty := 27) (by rfl) _ _ (w.heap.size + 1) 27 _ _ (by rfl) (by exact hRr.setRow _) Try.underlying27 (by rfl) (by exact size_disk)) (by rfl) ?_
      rw [HST.out]
      have hIn : InD W3 x ⟨⟨D.a0.b, (x.n0 : Int)⟩, D.a1, burn D.fuse, D.keep, D.down⟩ := ⟨h.l0, h.h0, h.r0, h.l1, h.h1, h.r1⟩
      exact ⟨x, rfl, hIn.no_byte hRr (disk_no none 0 0 0 none 0 0 0 0 0 false) ((Only.refl _ _).setRow _), below_setRow hB (by omega) _⟩
    · have HST : Hid (SO = (⟨D.a0, ⟨D.a1.b, (x.n1 : Int)⟩, burn D.fuse, D.keep, D.down⟩, 0)) := by
        rw [← HSO.out, ← h.l1]
        exact h4 _ _ _ rfl
      clear h3 h4 HSO HCA HBK
      have c0 : W2.cell? ⟨w.heap.size, 2, none⟩ = some (.slice x.A1 x.n1 x.c1) := hR0.cell rfl
      have c1 : W2.cell? ⟨w.heap.size, 3, none⟩ = some (.int .i64 D.a1.s) := hR0.cell rfl
      have f1 := hR0.frozen 3
      have hR1 : Row (W2.setCell ⟨w.heap.size, 3, none⟩ (.int .i64 (x.n1 : Int))) w.heap.size 27 [Value.slice x.A0 x.n0 x.c0, .int .i64 D.a0.s, .slice x.A1 x.n1 x.c1, .int .i64 (x.n1 : Int), .int .i64 (burn D.fuse), .int .i64 D.keep, .bool D.down] := hR0.setCell 3 _
      have hO : Only w.heap.size W2 (W2.setCell ⟨w.heap.size, 3, none⟩ (.int .i64 (x.n1 : Int))) := (Only.refl _ W2).setCell 3 _
      go_upto_region 8 with fail
      replace h := h.no_byte hR0 (cellsD_no x { D with fuse := burn D.fuse }) hO
      replace hRr := hRr.setCell_other (p := ⟨w.heap.size, 3, none⟩) (show w.heap.size + 1 ≠ w.heap.size by omega) (.int .i64 (x.n1 : Int))
      replace hB := hB.trans hO.below
      clear hR0 hRw c0 c1 f1 hO
      generalize W2.setCell ⟨w.heap.size, 3, none⟩ (.int .i64 (x.n1 : Int)) = W3 at hR1 hRr hB h ⊢
      go_wp2_with (first | (refine wpList_load_part rfl 27 (.tmp 2) rfl w.heap.size 0 rfl _ _ hR1 [Value.slice x.A0 x.n0 x.c0, .int .i64 D.a0.s, .slice x.A1 x.n1 x.c1, .int .i64 (x.n1 : Int), .int .i64 (burn D.fuse), .int .i64 D.keep, .bool D.down] (by rfl) _ Try.underlying27 rfl (by exact size_disk) ?_) | (refine wpList_store_row rfl 27 (.tmp 4) _ rfl (w.heap.size + 1) rfl [Value.slice x.A0 x.n0 x.c0, .int .i64 D.a0.s, .slice x.A1 x.n1 x.c1, .int .i64 (x.n1 : Int), .int .i64 (burn D.fuse), .int .i64 D.keep, .bool D.down] rfl _ _ hRr (by exact size_disk) rfl (one_disk x ⟨D.a0, ⟨D.a1.b, (x.n1 : Int)⟩, burn D.fuse, D.keep, D.down⟩) ?_))
      refine bodyPost_ret (results_row_tmp (p := 4) (u := 5) (ty := 27) (by rfl) _ _ (w.heap.size + 1) 27 _ _ (by rfl) (by exact hRr.setRow _) Try.underlying27 (by rfl) (by exact size_disk)) (by rfl) ?_
      rw [HST.out]
      have hIn : InD W3 x ⟨D.a0, ⟨D.a1.b, (x.n1 : Int)⟩, burn D.fuse, D.keep, D.down⟩ := ⟨h.l0, h.h0, h.r0, h.l1, h.h1, h.r1⟩
      exact ⟨x, rfl, hIn.no_byte hRr (disk_no none 0 0 0 none 0 0 0 0 0 false) ((Only.refl _ _).setRow _), below_setRow hB (by omega) _⟩

set_option maxHeartbeats 4000000 in
theorem refwipe17_any (x : WD) (D : DK) (k : Int) (w : World) (h : InD w x D) (hf : D.fuse ≤ 9223372036854775807) (hk : D.keep ≤ 9223372036854775807) :
    Calls Try.prog 14 #[aggD x D, .int .i64 k] w (RetF w (wipeD D k).1 (wipeD D k).2) := by
  obtain ⟨hR0, hRr, hB⟩ := two_boxes w 27 27 [Value.slice x.A0 x.n0 x.c0, .int .i64 D.a0.s, .slice x.A1 x.n1 x.c1, .int .i64 D.a1.s, .int .i64 D.fuse, .int .i64 D.keep, .bool D.down] [Value.slice none 0 0, .int .i64 0, .slice none 0 0, .int .i64 0, .int .i64 0, .int .i64 0, .bool false] _ _ rfl rfl
  obtain ⟨SO, hSO⟩ : ∃ SO, wipeD D k = SO := ⟨_, rfl⟩
  rw [hSO]
  have HSO := Lib.hid hSO
  obtain ⟨BK, hBK⟩ : ∃ BK, beginK D k = BK := ⟨_, rfl⟩
  have HBK := Lib.hid hBK
  have hbg := begin17_any x D k
  rw [hBK] at hbg
  clear hSO hBK
  obtain ⟨D1, g, er⟩ := BK
  unfold aggD at hbg
  dsimp only at hbg
  have HBG := Lib.hid hbg
  clear hbg
  have HCA := Lib.hid (begin_cases D k)
  unfold aggD
  go_enter Try.func14, Try.ntmps14
  go_upto_region 1 with fail
  generalize (w.alloc (.cells [Value.slice x.A0 x.n0 x.c0, .int .i64 D.a0.s, .slice x.A1 x.n1 x.c1, .int .i64 D.a1.s, .int .i64 D.fuse, .int .i64 D.keep, .bool D.down].toArray 27)).alloc (.cells [Value.slice none 0 0, .int .i64 0, .slice none 0 0, .int .i64 0, .int .i64 0, .int .i64 0, .bool false].toArray 27) = W at hR0 hRr hB ⊢
  replace h := h.keep hB
  have hlt := hRr.lt
  obtain ⟨hRz, hBz⟩ := box_of W 27 [Value.slice none 0 0, .int .i64 0, .slice none 0 0, .int .i64 0, .int .i64 0, .int .i64 0, .bool false] _ rfl
  go_upto_region 2 with (first
    | (refine wpList_load_part rfl 27 (.tmp 2) rfl w.heap.size 0 rfl _ _ hR0 [Value.slice x.A0 x.n0 x.c0, .int .i64 D.a0.s, .slice x.A1 x.n1 x.c1, .int .i64 D.a1.s, .int .i64 D.fuse, .int .i64 D.keep, .bool D.down] (by rfl) _ Try.underlying27 rfl (by exact size_disk) ?_)
    | (refine wpList_store_row rfl 27 (.tmp 6) _ rfl W.heap.size rfl [Value.slice x.A0 x.n0 x.c0, .int .i64 D.a0.s, .slice x.A1 x.n1 x.c1, .int .i64 D.a1.s, .int .i64 D.fuse, .int .i64 D.keep, .bool D.down] rfl _ _ hRz (by exact size_disk) rfl (one_disk x D) ?_))
  have hRw := hRz.setRow [Value.slice x.A0 x.n0 x.c0, .int .i64 D.a0.s, .slice x.A1 x.n1 x.c1, .int .i64 D.a1.s, .int .i64 D.fuse, .int .i64 D.keep, .bool D.down]
  have hBy : Below W.heap.size W ((W.alloc (.cells [Value.slice none 0 0, .int .i64 0, .slice none 0 0, .int .i64 0, .int .i64 0, .int .i64 0, .bool false].toArray 27)).setRow W.heap.size [Value.slice x.A0 x.n0 x.c0, .int .i64 D.a0.s, .slice x.A1 x.n1 x.c1, .int .i64 D.a1.s, .int .i64 D.fuse, .int .i64 D.keep, .bool D.down].toArray) := below_setRow hBz (Nat.le_refl _) _
  replace hR0 := hR0.later hBy
  replace hRr := hRr.later hBy
  replace h := h.keep hBy
  replace hB := below_step hB hBy
  clear hRz hBz hBy
  generalize (W.alloc (.cells [Value.slice none 0 0, .int .i64 0, .slice none 0 0, .int .i64 0, .int .i64 0, .int .i64 0, .bool false].toArray 27)).setRow W.heap.size [Value.slice x.A0 x.n0 x.c0, .int .i64 D.a0.s, .slice x.A1 x.n1 x.c1, .int .i64 D.a1.s, .int .i64 D.fuse, .int .i64 D.keep, .bool D.down].toArray = W1 at hR0 hRr hRw hB h ⊢
  have hwl := hRw.lt
  have HBH := Lib.hid (HBG.out W1 h hf)
  go_wp2_with (refine wpList_load_part rfl 27 (.tmp 2) rfl w.heap.size 0 rfl _ _ hR0 [Value.slice x.A0 x.n0 x.c0, .int .i64 D.a0.s, .slice x.A1 x.n1 x.c1, .int .i64 D.a1.s, .int .i64 D.fuse, .int .i64 D.keep, .bool D.down] (by rfl) _ Try.underlying27 rfl (by exact size_disk) ?_)
  refine HBH.out.mono ?_
  rintro e w2 ⟨rfl, hb⟩
  replace hR0 := hR0.later hb
  replace hRr := hRr.later hb
  replace hRw := hRw.later hb
  replace h := h.keep hb
  replace hB := below_step hB hb
  clear hb HBH HBG hwl
  dsimp only
  go_upto_region 3 with (refine wpList_store_row rfl 27 (.tmp 2) (.tmp 14) rfl w.heap.size rfl [Value.slice x.A0 x.n0 x.c0, .int .i64 D1.a0.s, .slice x.A1 x.n1 x.c1, .int .i64 D1.a1.s, .int .i64 D1.fuse, .int .i64 D1.keep, .bool D1.down] rfl _ _ hR0 (by exact size_disk) rfl (one_disk x D1) ?_)
  have hR1 := hR0.setRow [Value.slice x.A0 x.n0 x.c0, .int .i64 D1.a0.s, .slice x.A1 x.n1 x.c1, .int .i64 D1.a1.s, .int .i64 D1.fuse, .int .i64 D1.keep, .bool D1.down]
  have hO := (Only.refl w.heap.size w2).setRow [Value.slice x.A0 x.n0 x.c0, .int .i64 D1.a0.s, .slice x.A1 x.n1 x.c1, .int .i64 D1.a1.s, .int .i64 D1.fuse, .int .i64 D1.keep, .bool D1.down].toArray
  replace hRr := hRr.setRow_other (show w.heap.size + 1 ≠ w.heap.size by omega) [Value.slice x.A0 x.n0 x.c0, .int .i64 D1.a0.s, .slice x.A1 x.n1 x.c1, .int .i64 D1.a1.s, .int .i64 D1.fuse, .int .i64 D1.keep, .bool D1.down].toArray
  replace hRw := hRw.setRow_other (show W.heap.size ≠ w.heap.size by omega) [Value.slice x.A0 x.n0 x.c0, .int .i64 D1.a0.s, .slice x.A1 x.n1 x.c1, .int .i64 D1.a1.s, .int .i64 D1.fuse, .int .i64 D1.keep, .bool D1.down].toArray
  replace h := h.no_byte hR0 (cellsD_no x D) hO
  replace hB := hB.trans hO.below
  clear hR0 hO
  generalize w2.setRow w.heap.size [Value.slice x.A0 x.n0 x.c0, .int .i64 D1.a0.s, .slice x.A1 x.n1 x.c1, .int .i64 D1.a1.s, .int .i64 D1.fuse, .int .i64 D1.keep, .bool D1.down].toArray = W2 at hR1 hRr hRw hB h ⊢
  rename Row W2 w.heap.size _ _ => hR0
  rcases HCA.out with ⟨er', h1, h2, h3⟩ | ⟨hright, hkk, hdn, h2, h3, h4⟩ | ⟨hright, hkk, hdn, h2, h3, h4⟩
  · rw [HBK.out] at h2
    injection h2 with e1 h2
    injection h2 with e2 e3
    subst e1 e2 e3
    have HST : Hid (SO = (D1, er)) := by rw [← HSO.out]; exact h3 _ _ _
    have n1 : (er == 0) = false := beq_eq_false_iff_ne.2 h1
    have n2 : (er != 0) = true := bne_iff_ne.2 h1
    clear h1 h3 HSO HCA HBK
    go_wp2_with (first | (refine wpList_load_part rfl 27 (.tmp 6) rfl W.heap.size 0 rfl _ _ hRw [Value.slice x.A0 x.n0 x.c0, .int .i64 D1.a0.s, .slice x.A1 x.n1 x.c1, .int .i64 D1.a1.s, .int .i64 D1.fuse, .int .i64 D1.keep, .bool D1.down] (by rfl) _ Try.underlying27 rfl (by exact size_disk) ?_) | (refine wpList_store_row rfl 27 (.tmp 4) _ rfl (w.heap.size + 1) rfl [Value.slice x.A0 x.n0 x.c0, .int .i64 D1.a0.s, .slice x.A1 x.n1 x.c1, .int .i64 D1.a1.s, .int .i64 D1.fuse, .int .i64 D1.keep, .bool D1.down] rfl _ _ hRr (by exact size_disk) rfl (one_disk x D1) ?_))
    refine bodyPost_ret (results_row_tmp (p := 4) (u := 5) (ty := 27) (by rfl) _ _ (w.heap.size + 1) 27 _ _ (by rfl) (by exact hRr.setRow _) Try.underlying27 (by rfl) (by exact size_disk)) (by rfl) ?_
    rw [HST.out]
    exact ⟨x, rfl, h.no_byte hRr (disk_no none 0 0 0 none 0 0 0 0 0 false) ((Only.refl _ _).setRow _), below_setRow hB (by omega) _⟩
  · rw [HBK.out] at h2
    injection h2 with e1 h2
    injection h2 with e2 e3
    subst e1 e2 e3
    clear hdn
    rcases hkk with rfl | rfl
    · have HST : Hid (SO = (loseD D1 D1.keep, 14)) := by rw [← HSO.out]; exact h4 _ _ _ rfl
      clear h3 h4 HSO HCA HBK
      have c5 : W2.cell? ⟨w.heap.size, 5, none⟩ = some (.int .i64 D1.keep) := hR0.cell rfl
      have HL := Lib.hid (lose17_any x D1 D1.keep W2 h hright.1 hright.2.1 hright.2.2.2 hk)
      unfold aggD at HL
      go_wp2_with (refine wpList_load_part rfl 27 (.tmp 2) rfl w.heap.size 0 rfl _ _ hR0 [Value.slice x.A0 x.n0 x.c0, .int .i64 D1.a0.s, .slice x.A1 x.n1 x.c1, .int .i64 D1.a1.s, .int .i64 D1.fuse, .int .i64 D1.keep, .bool D1.down] (by rfl) _ Try.underlying27 rfl (by exact size_disk) ?_)
      refine HL.out.mono ?_
      rintro e w5 ⟨y, rfl, hIn, hb⟩
      replace hRr := hRr.later hb
      replace hB := below_step hB hb
      clear hb HL c5 hR0 hRw
      unfold aggD
      go_wp2_with (refine wpList_store_row rfl 27 (.tmp 4) _ rfl (w.heap.size + 1) rfl (cellsD y (loseD D1 D1.keep)) rfl _ _ hRr (by exact size_disk) rfl (one_disk _ _) ?_)
      refine bodyPost_ret (results_row_tmp (p := 4) (u := 5) (ty := 27) (by rfl) _ _ (w.heap.size + 1) 27 _ _ (by rfl) (by exact hRr.setRow _) Try.underlying27 (by rfl) (by exact size_disk)) (by rfl) ?_
      rw [HST.out]
      exact ⟨y, rfl, hIn.no_byte hRr (disk_no none 0 0 0 none 0 0 0 0 0 false) ((Only.refl _ _).setRow _), below_setRow hB (by omega) _⟩
    · have HST : Hid (SO = (loseD D1 D1.keep, 14)) := by rw [← HSO.out]; exact h4 _ _ _ rfl
      clear h3 h4 HSO HCA HBK
      have c5 : W2.cell? ⟨w.heap.size, 5, none⟩ = some (.int .i64 D1.keep) := hR0.cell rfl
      have HL := Lib.hid (lose17_any x D1 D1.keep W2 h hright.1 hright.2.1 hright.2.2.2 hk)
      unfold aggD at HL
      go_wp2_with (refine wpList_load_part rfl 27 (.tmp 2) rfl w.heap.size 0 rfl _ _ hR0 [Value.slice x.A0 x.n0 x.c0, .int .i64 D1.a0.s, .slice x.A1 x.n1 x.c1, .int .i64 D1.a1.s, .int .i64 D1.fuse, .int .i64 D1.keep, .bool D1.down] (by rfl) _ Try.underlying27 rfl (by exact size_disk) ?_)
      refine HL.out.mono ?_
      rintro e w5 ⟨y, rfl, hIn, hb⟩
      replace hRr := hRr.later hb
      replace hB := below_step hB hb
      clear hb HL c5 hR0 hRw
      unfold aggD
      go_wp2_with (refine wpList_store_row rfl 27 (.tmp 4) _ rfl (w.heap.size + 1) rfl (cellsD y (loseD D1 D1.keep)) rfl _ _ hRr (by exact size_disk) rfl (one_disk _ _) ?_)
      refine bodyPost_ret (results_row_tmp (p := 4) (u := 5) (ty := 27) (by rfl) _ _ (w.heap.size + 1) 27 _ _ (by rfl) (by exact hRr.setRow _) Try.underlying27 (by rfl) (by exact size_disk)) (by rfl) ?_
      rw [HST.out]
      exact ⟨y, rfl, hIn.no_byte hRr (disk_no none 0 0 0 none 0 0 0 0 0 false) ((Only.refl _ _).setRow _), below_setRow hB (by omega) _⟩
  · rw [HBK.out] at h2
    injection h2 with e1 h2
    injection h2 with e2 e3
    subst e1 e2 e3
    dsimp only at hR0
    clear hdn
    rcases hkk with rfl | rfl
    · have HST : Hid (SO = (⟨⟨[], 0⟩, D.a1, burn D.fuse, D.keep, D.down⟩, 0)) := by
        rw [← HSO.out]
        exact h4 _ _ _ rfl
      clear h3 h4 HSO HCA HBK
      have hth := there_of hR0 0 2 (by simp)
      have hR1 : Row (W2.setCells w.heap.size 0 [.slice none 0 0, .int .i64 0]) w.heap.size 27 [Value.slice none 0 0, .int .i64 0, .slice x.A1 x.n1 x.c1, .int .i64 D.a1.s, .int .i64 (burn D.fuse), .int .i64 D.keep, .bool D.down] := hR0.setCells _ 0 (by simp)
      have hO : Only w.heap.size W2 (W2.setCells w.heap.size 0 [.slice none 0 0, .int .i64 0]) := Only.setCells _ 0 (Only.refl _ W2)
      replace h := h.no_byte hR0 (cellsD_no x { D with fuse := burn D.fuse }) hO
      replace hRr := Row.setCells_other (show w.heap.size + 1 ≠ w.heap.size by omega) [.slice none 0 0, .int .i64 0] 0 hRr
      replace hB := hB.trans hO.below
      clear hR0 hRw hO
      go_upto_region 8 with (refine wpList_store_mid rfl 24 (.tmp 29) (.tmp 27) rfl w.heap.size 0 #[.slice none 0 0, .int .i64 0] rfl rfl hth (by exact size_area) (by exact all_oneCell_toArray (one_area none 0 0 0)) ?_)
      clear hth
      generalize W2.setCells w.heap.size 0 [.slice none 0 0, .int .i64 0] = W3 at hR1 hRr hB h ⊢
      go_wp2_with (first | (refine wpList_load_part rfl 27 (.tmp 2) rfl w.heap.size 0 rfl _ _ hR1 [Value.slice none 0 0, .int .i64 0, .slice x.A1 x.n1 x.c1, .int .i64 D.a1.s, .int .i64 (burn D.fuse), .int .i64 D.keep, .bool D.down] (by rfl) _ Try.underlying27 rfl (by exact size_disk) ?_) | (refine wpList_store_row rfl 27 (.tmp 4) _ rfl (w.heap.size + 1) rfl [Value.slice none 0 0, .int .i64 0, .slice x.A1 x.n1 x.c1, .int .i64 D.a1.s, .int .i64 (burn D.fuse), .int .i64 D.keep, .bool D.down] rfl _ _ hRr (by exact size_disk) rfl (one_disk ⟨none, 0, 0, x.A1, x.n1, x.c1⟩ ⟨⟨[], 0⟩, D.a1, burn D.fuse, D.keep, D.down⟩) ?_))
      refine bodyPost_ret (results_row_tmp (p := 4) (u := 5) (ty := 27) (by rfl) _ _ (w.heap.size + 1) 27 _ _ (by rfl) (by exact hRr.setRow _) Try.underlying27 (by rfl) (by exact size_disk)) (by rfl) ?_
      rw [HST.out]
      have hIn : InD W3 ⟨none, 0, 0, x.A1, x.n1, x.c1⟩ ⟨⟨[], 0⟩, D.a1, burn D.fuse, D.keep, D.down⟩ := ⟨rfl, Nat.le_refl _, Rd.nil, h.l1, h.h1, h.r1⟩
      exact ⟨⟨none, 0, 0, x.A1, x.n1, x.c1⟩, rfl, hIn.no_byte hRr (disk_no none 0 0 0 none 0 0 0 0 0 false) ((Only.refl _ _).setRow _), below_setRow hB (by omega) _⟩
    · have HST : Hid (SO = (⟨D.a0, ⟨[], 0⟩, burn D.fuse, D.keep, D.down⟩, 0)) := by
        rw [← HSO.out]
        exact h4 _ _ _ rfl
      clear h3 h4 HSO HCA HBK
      have hth := there_of hR0 2 2 (by simp)
      have hR1 : Row (W2.setCells w.heap.size 2 [.slice none 0 0, .int .i64 0]) w.heap.size 27 [Value.slice x.A0 x.n0 x.c0, .int .i64 D.a0.s, .slice none 0 0, .int .i64 0, .int .i64 (burn D.fuse), .int .i64 D.keep, .bool D.down] := hR0.setCells _ 2 (by simp)
      have hO : Only w.heap.size W2 (W2.setCells w.heap.size 2 [.slice none 0 0, .int .i64 0]) := Only.setCells _ 2 (Only.refl _ W2)
      replace h := h.no_byte hR0 (cellsD_no x { D with fuse := burn D.fuse }) hO
      replace hRr := Row.setCells_other (show w.heap.size + 1 ≠ w.heap.size by omega) [.slice none 0 0, .int .i64 0] 2 hRr
      replace hB := hB.trans hO.below
      clear hR0 hRw hO
      go_upto_region 8 with (refine wpList_store_mid rfl 24 (.tmp 29) (.tmp 27) rfl w.heap.size 2 #[.slice none 0 0, .int .i64 0] rfl rfl hth (by exact size_area) (by exact all_oneCell_toArray (one_area none 0 0 0)) ?_)
      clear hth
      generalize W2.setCells w.heap.size 2 [.slice none 0 0, .int .i64 0] = W3 at hR1 hRr hB h ⊢
      go_wp2_with (first | (refine wpList_load_part rfl 27 (.tmp 2) rfl w.heap.size 0 rfl _ _ hR1 [Value.slice x.A0 x.n0 x.c0, .int .i64 D.a0.s, .slice none 0 0, .int .i64 0, .int .i64 (burn D.fuse), .int .i64 D.keep, .bool D.down] (by rfl) _ Try.underlying27 rfl (by exact size_disk) ?_) | (refine wpList_store_row rfl 27 (.tmp 4) _ rfl (w.heap.size + 1) rfl [Value.slice x.A0 x.n0 x.c0, .int .i64 D.a0.s, .slice none 0 0, .int .i64 0, .int .i64 (burn D.fuse), .int .i64 D.keep, .bool D.down] rfl _ _ hRr (by exact size_disk) rfl (one_disk ⟨x.A0, x.n0, x.c0, none, 0, 0⟩ ⟨D.a0, ⟨[], 0⟩, burn D.fuse, D.keep, D.down⟩) ?_))
      refine bodyPost_ret (results_row_tmp (p := 4) (u := 5) (ty := 27) (by rfl) _ _ (w.heap.size + 1) 27 _ _ (by rfl) (by exact hRr.setRow _) Try.underlying27 (by rfl) (by exact size_disk)) (by rfl) ?_
      rw [HST.out]
      have hIn : InD W3 ⟨x.A0, x.n0, x.c0, none, 0, 0⟩ ⟨D.a0, ⟨[], 0⟩, burn D.fuse, D.keep, D.down⟩ := ⟨h.l0, h.h0, h.r0, rfl, Nat.le_refl _, Rd.nil⟩
      exact ⟨⟨x.A0, x.n0, x.c0, none, 0, 0⟩, rfl, hIn.no_byte hRr (disk_no none 0 0 0 none 0 0 0 0 0 false) ((Only.refl _ _).setRow _), below_setRow hB (by omega) _⟩
end Go.Proofs.Ytkkfkibjamnpnaa
