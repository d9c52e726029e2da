/-
  The walk of the law ShaRight: any bytes' hash, any state behind any block, and any hash that goes on, are the document's. Condition: the package's table holds the sixty-four constants.
-/
import Derived.Test.YtdokbhcoekffpaaDoorShaAlias
import Derived.Test.YtdokbhcoekffpaaDoorShaRegion
namespace Go.Proofs.YtdokbhcoekffpaaDoor
open Go.RowKit
set_option linter.unusedSimpArgs false
set_option linter.unusedVariables false

abbrev zero8 : List Value := [.int .u32 0, .int .u32 0, .int .u32 0, .int .u32 0, .int .u32 0, .int .u32 0, .int .u32 0, .int .u32 0]
theorem eqIn_zero (W : World) : (Op.equalIn 10000 23 (.agg #[.int .u32 0, .int .u32 0, .int .u32 0, .int .u32 0, .int .u32 0, .int .u32 0, .int .u32 0, .int .u32 0]) (.agg #[.int .u32 0, .int .u32 0, .int .u32 0, .int .u32 0, .int .u32 0, .int .u32 0, .int .u32 0, .int .u32 0])).run Tryd.prog W = .ok true W := eqIn_st ⟨0, 0, 0, 0, 0, 0, 0, 0⟩ W

theorem eqIn_mix (S : St) (H : Hid (S = ⟨0, 0, 0, 0, 0, 0, 0, 0⟩)) (W : World) : (Op.equalIn 10000 23 (.agg #[.int .u32 (S.a.toNat : Int), .int .u32 (S.b.toNat : Int), .int .u32 (S.c.toNat : Int), .int .u32 (S.d.toNat : Int), .int .u32 (S.e.toNat : Int), .int .u32 (S.f.toNat : Int), .int .u32 (S.g.toNat : Int), .int .u32 (S.h.toNat : Int)]) (.agg #[.int .u32 0, .int .u32 0, .int .u32 0, .int .u32 0, .int .u32 0, .int .u32 0, .int .u32 0, .int .u32 0])).run Tryd.prog W = .ok true W := by
  have e := H.out
  subst e
  exact eqIn_zero W
/-- Block, at bytes of any length. -/
theorem block_either (s : St) (b : List UInt8) (A : Option Addr) (c : Nat) (w : World) (hr : Rd vB w A b) (hc : b.length ≤ c) (hm : b.length ≤ 9223372036854775807) (HK : Hid (KTab w)) :
    Calls Tryd.prog 9 #[.agg #[.int .u32 (s.a.toNat : Int), .int .u32 (s.b.toNat : Int), .int .u32 (s.c.toNat : Int), .int .u32 (s.d.toNat : Int), .int .u32 (s.e.toNat : Int), .int .u32 (s.f.toNat : Int), .int .u32 (s.g.toNat : Int), .int .u32 (s.h.toNat : Int)], .slice A b.length c] w fun e w' => ∃ (S : St) (n : Int), Hid (b.length = 64 → S = s.block b ∧ n = 0) ∧ Hid (b.length ≠ 64 → S = ⟨0, 0, 0, 0, 0, 0, 0, 0⟩ ∧ n = 1) ∧ e = .returned (.tuple #[.agg #[.int .u32 (S.a.toNat : Int), .int .u32 (S.b.toNat : Int), .int .u32 (S.c.toNat : Int), .int .u32 (S.d.toNat : Int), .int .u32 (S.e.toNat : Int), .int .u32 (S.f.toNat : Int), .int .u32 (S.g.toNat : Int), .int .u32 (S.h.toNat : Int)], .int .i64 n]) ∧ Below w.heap.size w w' := by
  by_cases h : b.length = 64
  · have := block_any s b A c w h hr (by omega) HK
    rw [← h] at this
    refine this.mono ?_
    rintro e w' ⟨S, HS, rfl, hb⟩
    exact ⟨S, 0, fun _ => ⟨HS.out, rfl⟩, fun h' => absurd h h', rfl, hb⟩
  · refine (block_bad s b A c w h hm).mono ?_
    rintro e w' ⟨rfl, hb⟩
    exact ⟨⟨0, 0, 0, 0, 0, 0, 0, 0⟩, 1, fun h' => absurd h' h, fun _ => ⟨rfl, rfl⟩, rfl, hb⟩

/-- The boxes of what came in. -/
def Boxes (s s2 : St) (A : Option Addr) (r : List UInt8) (c many : Nat) (w W : World) : Prop :=
  Row W w.heap.size 23 [.int .u32 (s.a.toNat : Int), .int .u32 (s.b.toNat : Int), .int .u32 (s.c.toNat : Int), .int .u32 (s.d.toNat : Int), .int .u32 (s.e.toNat : Int), .int .u32 (s.f.toNat : Int), .int .u32 (s.g.toNat : Int), .int .u32 (s.h.toNat : Int)] ∧ Row W (w.heap.size + 1) 27 [.int .u32 (s2.a.toNat : Int), .int .u32 (s2.b.toNat : Int), .int .u32 (s2.c.toNat : Int), .int .u32 (s2.d.toNat : Int), .int .u32 (s2.e.toNat : Int), .int .u32 (s2.f.toNat : Int), .int .u32 (s2.g.toNat : Int), .int .u32 (s2.h.toNat : Int), .slice A r.length c, .int .u64 (many : Int)] ∧ Below w.heap.size w W

set_option maxRecDepth 100000 in
set_option maxHeartbeats 20000000 in
theorem sharight_core (s s2 : St) (b r : List UInt8) (B A : Option Addr) (d c many : Nat) (w : World) (hb : Rd vB w B b) (hr : Rd vB w A r) (hbd : b.length ≤ d) (hrc : r.length ≤ c) (hbl : b.length ≤ 2000) (hrl : r.length ≤ 2000) (hm : many < 18446744073709551616) (HK : Hid (KTab w)) :
    Calls Tryd.prog 3 #[.agg #[.int .u32 (s.a.toNat : Int), .int .u32 (s.b.toNat : Int), .int .u32 (s.c.toNat : Int), .int .u32 (s.d.toNat : Int), .int .u32 (s.e.toNat : Int), .int .u32 (s.f.toNat : Int), .int .u32 (s.g.toNat : Int), .int .u32 (s.h.toNat : Int)], .slice B b.length d, .agg #[.int .u32 (s2.a.toNat : Int), .int .u32 (s2.b.toNat : Int), .int .u32 (s2.c.toNat : Int), .int .u32 (s2.d.toNat : Int), .int .u32 (s2.e.toNat : Int), .int .u32 (s2.f.toNat : Int), .int .u32 (s2.g.toNat : Int), .int .u32 (s2.h.toNat : Int), .slice A r.length c, .int .u64 (many : Int)]] w (Yes w) := by
  obtain ⟨i0, hi, hz0, hz1, hz2⟩ := info_parts info_u8
  go_enter Tryd.func3, Tryd.ntmps3
  go_upto_region 1 with fail
  refine at_world (Q := Code.wp _ _ _ _) (fun W => Boxes s s2 A r c many w W)
    ⟨(Row.new w _ _ _ rfl).alloc _, Row.new_at _ _ (by simp) _ _ _ rfl, below_new (below_new (Below.refl _ _) _) _⟩ ?_
  rintro W ⟨hR3, hR5, hB⟩
  go_wp2_with fail
  refine (awake_any _ (Lib.hid (HK.out.keep hB))).mono ?_
  rintro e w1 ⟨rfl, hb1⟩
  replace hR3 := hR3.later hb1
  replace hR5 := hR5.later hb1
  replace hB := below_step hB hb1
  clear hb1 W
  have c8 : w1.cell? ⟨w.heap.size + 1, 8, none⟩ = some (.slice A r.length c) := hR5.cell rfl
  have g1 : decide ((2000 : Int) < (b.length : Int)) = false := by simp; omega
  have g2 : decide ((2000 : Int) < (r.length : Int)) = false := by simp; omega
  go_upto_region 5 with fail
  clear c8 g1 g2
  have hBase : Below w1.heap.size w1 w1.drew := (Below.refl _ _).drew
  refine wp_region_plan (.step 0 false (.step 3 false (.step 1 true (.step 2 false (.step 4 true (.step 5 false (.step 6 false (.nil)))))))) (by kernel_rfl) (by kernel_rfl) (by rfl) (by kernel_rfl) ?_
  iterate 2 (refine plan_read rfl (by rfl) (v := ?_) ?_ ?_; rotate_left 1; (intro W hW; have hW0 := below_step hBase hW; (try dsimp only at hW); go_simp <;> with_reducible rfl); simp only [List.getElem_toArray, List.getElem_cons_zero, List.getElem_cons_succ, Act.put, List.setIfInBounds_toArray, List.set_cons_zero, List.set_cons_succ])
  (refine plan_make rfl (by rfl) (fun K hK => ?_); go_simp; (refine (sum_any b _ _ _ (by exact hb.keep hB.drew) hbd (by omega) (by exact Lib.hid (HK.out.keep hB.drew))).mono ?_; rintro e w2 ⟨A2, c2, rfl, hc2, hr2, hbx⟩); refine hK.out _ _ hbx ?_; clear hK K; replace hBase := below_step hBase hbx)
  have hs1 : ∀ W, Below w2.heap.size w2 W → (convert 24 9 (.slice A2 (sumL b).length c2)).run Tryd.prog W = .ok (.string ⟨(sumL b).toArray⟩) W := run_str_later Tryd.underlying24 Tryd.underlying5 Tryd.underlying9 hr2
  iterate 1 (refine plan_read rfl (by rfl) (v := ?_) ?_ ?_; rotate_left 1; (intro W hW; have hW0 := below_step hBase hW; (try dsimp only at hW); go_simp <;> with_reducible rfl); simp only [List.getElem_toArray, List.getElem_cons_zero, List.getElem_cons_succ, Act.put, List.setIfInBounds_toArray, List.set_cons_zero, List.set_cons_succ])
  clear hs1
  (refine plan_make rfl (by rfl) (fun K hK => ?_); go_simp; (refine (sum_ref b _ _ _ (by exact hb.keep (below_step hB hBase)) (by omega)).mono ?_; rintro e w3 ⟨A3, c3, rfl, hc3, hr3, hbx⟩); refine hK.out _ _ hbx ?_; clear hK K; replace hBase := below_step hBase hbx)
  have hs2 : ∀ W, Below w3.heap.size w3 W → (convert 24 9 (.slice A3 (sumL b).length c3)).run Tryd.prog W = .ok (.string ⟨(sumL b).toArray⟩) W := run_str_later Tryd.underlying24 Tryd.underlying5 Tryd.underlying9 hr3
  iterate 2 (refine plan_read rfl (by rfl) (v := ?_) ?_ ?_; rotate_left 1; (intro W hW; have hW0 := below_step hBase hW; (try dsimp only at hW); go_simp <;> with_reducible rfl); simp only [List.getElem_toArray, List.getElem_cons_zero, List.getElem_cons_succ, Act.put, List.setIfInBounds_toArray, List.set_cons_zero, List.set_cons_succ])
  refine plan_done ?_
  replace hR3 := hR3.later hBase
  replace hR5 := hR5.later hBase
  replace hB := below_step hB hBase
  clear hs2 hr2 hr3 hc2 hc3 hBase
  go_wp2_with (refine wpList_load_part rfl 23 (.tmp 3) rfl w.heap.size 0 rfl _ _ hR3 [.int .u32 (s.a.toNat : Int), .int .u32 (s.b.toNat : Int), .int .u32 (s.c.toNat : Int), .int .u32 (s.d.toNat : Int), .int .u32 (s.e.toNat : Int), .int .u32 (s.f.toNat : Int), .int .u32 (s.g.toNat : Int), .int .u32 (s.h.toNat : Int)] (by rfl) _ Tryd.underlying23 rfl (by exact size_st) ?_)
  refine (block_either s b _ _ _ (hb.keep hB) hbd (by omega) (Lib.hid (HK.out.keep hB))).mono ?_
  rintro e w4 ⟨T, n, HT1, HT2, rfl, hb4⟩
  replace hR3 := hR3.later hb4
  replace hR5 := hR5.later hb4
  replace hB := below_step hB hb4
  clear hb4
  go_upto_if 46 with fail
  refine at_world (Q := Code.wp _ _ _ _) (fun W => Boxes s s2 A r c many w W ∧ Row W w4.heap.size 23 [.int .u32 (T.a.toNat : Int), .int .u32 (T.b.toNat : Int), .int .u32 (T.c.toNat : Int), .int .u32 (T.d.toNat : Int), .int .u32 (T.e.toNat : Int), .int .u32 (T.f.toNat : Int), .int .u32 (T.g.toNat : Int), .int .u32 (T.h.toNat : Int)]) ⟨⟨hR3.alloc _, hR5.alloc _, below_new hB _⟩, Row.new w4 _ _ _ rfl⟩ ?_
  clear hR3 hR5 hB
  rintro W ⟨hBx, hR7⟩
  go_cut [] (fun wx => Boxes s s2 A r c many w wx)
  case first =>
    obtain ⟨hR3, hR5, hB⟩ := hBx
    by_cases h64 : b.length = 64
    · obtain ⟨hT, rfl⟩ := HT1.out h64
      have HT := Lib.hid hT
      have H64 := Lib.hid h64
      have e64 : ((b.length : Int) == 64) = true := by simp; omega
      have hd : 64 ≤ d := by omega
      clear hT HT1 HT2 h64
      go_wp2_with fail
      have hBase : Below W.heap.size W W.drew := (Below.refl _ _).drew
      refine wp_region_plan (.step 0 false (.step 1 false (.step 2 false (.step 3 false (.step 4 false (.step 6 false (.step 5 true (.step 7 true (.step 8 true (.step 9 false (.step 10 false (.nil)))))))))))) (by kernel_rfl) (by kernel_rfl) (by rfl) (by kernel_rfl) ?_
      iterate 3 (refine plan_read rfl (by rfl) (v := ?_) ?_ ?_; rotate_left 1; (intro W hW; have hW0 := below_step hBase hW; (try dsimp only at hW); go_simp <;> with_reducible rfl); simp only [List.getElem_toArray, List.getElem_cons_zero, List.getElem_cons_succ, Act.put, List.setIfInBounds_toArray, List.set_cons_zero, List.set_cons_succ])
      refine plan_load rfl (by rfl) 23 (.tmp 7) (by rfl) w4.heap.size 0 (by rfl) [.int .u32 (T.a.toNat : Int), .int .u32 (T.b.toNat : Int), .int .u32 (T.c.toNat : Int), .int .u32 (T.d.toNat : Int), .int .u32 (T.e.toNat : Int), .int .u32 (T.f.toNat : Int), .int .u32 (T.g.toNat : Int), .int .u32 (T.h.toNat : Int)] _ (fun W' hW => (hR7.drew.later hW).range) Tryd.underlying23 rfl (by exact size_st) ?_
      simp only [List.getElem_toArray, List.getElem_cons_zero, List.getElem_cons_succ, Act.put, List.setIfInBounds_toArray, List.set_cons_zero, List.set_cons_succ]
      refine plan_load rfl (by rfl) 23 (.tmp 3) (by rfl) w.heap.size 0 (by rfl) [.int .u32 (s.a.toNat : Int), .int .u32 (s.b.toNat : Int), .int .u32 (s.c.toNat : Int), .int .u32 (s.d.toNat : Int), .int .u32 (s.e.toNat : Int), .int .u32 (s.f.toNat : Int), .int .u32 (s.g.toNat : Int), .int .u32 (s.h.toNat : Int)] _ (fun W' hW => (hR3.drew.later hW).range) Tryd.underlying23 rfl (by exact size_st) ?_
      simp only [List.getElem_toArray, List.getElem_cons_zero, List.getElem_cons_succ, Act.put, List.setIfInBounds_toArray, List.set_cons_zero, List.set_cons_succ]
      iterate 1 (refine plan_read rfl (by rfl) (v := ?_) ?_ ?_; rotate_left 1; (intro W hW; have hW0 := below_step hBase hW; (try dsimp only at hW); go_simp <;> with_reducible rfl); simp only [List.getElem_toArray, List.getElem_cons_zero, List.getElem_cons_succ, Act.put, List.setIfInBounds_toArray, List.set_cons_zero, List.set_cons_succ])
      (refine plan_make rfl (by rfl) (fun K hK => ?_); go_simp; (refine (words_law s _).mono ?_; rintro e w5 ⟨A5, c5, rfl, hc5, hr5, hbx⟩); refine hK.out _ _ hbx ?_; clear hK K; replace hBase := below_step hBase hbx)
      (refine plan_make rfl (by rfl) (fun K hK => ?_); go_simp; (refine (refblock_any s b _ _ _ _ _ H64.out hr5 (by exact hb.keep (below_step hB hBase))).mono ?_; rintro e w6 ⟨A6, c6, rfl, hc6, hr6, hbx⟩; rw [← HT.out] at hr6 hc6 ⊢); refine hK.out _ _ hbx ?_; clear hK K; replace hBase := below_step hBase hbx)
      (refine plan_make rfl (by rfl) (fun K hK => ?_); go_simp; (refine (same_law T _ _ _ hr6).mono ?_; rintro e w7 ⟨rfl, hbx⟩); refine hK.out _ _ hbx ?_; clear hK K; replace hBase := below_step hBase hbx)
      iterate 2 (refine plan_read rfl (by rfl) (v := ?_) ?_ ?_; rotate_left 1; (intro W hW; have hW0 := below_step hBase hW; (try dsimp only at hW); go_simp <;> with_reducible rfl); simp only [List.getElem_toArray, List.getElem_cons_zero, List.getElem_cons_succ, Act.put, List.setIfInBounds_toArray, List.set_cons_zero, List.set_cons_succ])
      refine plan_done ?_
      have HR : Hid (Boxes s s2 A r c many w w7) := ⟨hR3.later hBase, hR5.later hBase, below_step hB hBase⟩
      clear hR3 hR5 hB hR7 hr5 hr6 hBase
      go_wp2_with fail
      go_meet
      case rel => exact HR.out
    · obtain ⟨hT, rfl⟩ := HT2.out h64
      have heq := eqIn_mix T hT
      have e64 : ((b.length : Int) == 64) = false := by simp; omega
      have d0 : W.cell? ⟨w4.heap.size, 0, none⟩ = some (.int .u32 (T.a.toNat : Int)) := hR7.cell rfl
      have d1 : W.cell? ⟨w4.heap.size, 1, none⟩ = some (.int .u32 (T.b.toNat : Int)) := hR7.cell rfl
      have d2 : W.cell? ⟨w4.heap.size, 2, none⟩ = some (.int .u32 (T.c.toNat : Int)) := hR7.cell rfl
      have d3 : W.cell? ⟨w4.heap.size, 3, none⟩ = some (.int .u32 (T.d.toNat : Int)) := hR7.cell rfl
      have d4 : W.cell? ⟨w4.heap.size, 4, none⟩ = some (.int .u32 (T.e.toNat : Int)) := hR7.cell rfl
      have d5 : W.cell? ⟨w4.heap.size, 5, none⟩ = some (.int .u32 (T.f.toNat : Int)) := hR7.cell rfl
      have d6 : W.cell? ⟨w4.heap.size, 6, none⟩ = some (.int .u32 (T.g.toNat : Int)) := hR7.cell rfl
      have d7 : W.cell? ⟨w4.heap.size, 7, none⟩ = some (.int .u32 (T.h.toNat : Int)) := hR7.cell rfl
      clear hT HT1 HT2
      go_wp2_with fail
      go_meet
      case rel => exact ⟨hR3, hR5, hB⟩
  case rest =>
    clear hBx hR7 HT1 HT2 W
    obtain ⟨hR3, hR5, hB⟩ := hcut
    by_cases hn : r.length < 64
    · as_aux_lemma =>
       obtain ⟨T, hT⟩ : ∃ T, T = r ++ b := ⟨_, rfl⟩
       have HT := Lib.hid hT
       have hTl : T.length ≤ 2064 := by rw [hT, List.length_append]; omega
       have HTl : Hid (T.length = r.length + b.length) := by unfold Hid; rw [hT, List.length_append]
       clear hT
       go_wp2_with (refine wpList_load_part rfl 27 (.tmp 5) rfl (w.heap.size + 1) 0 rfl _ _ hR5 [.int .u32 (s2.a.toNat : Int), .int .u32 (s2.b.toNat : Int), .int .u32 (s2.c.toNat : Int), .int .u32 (s2.d.toNat : Int), .int .u32 (s2.e.toNat : Int), .int .u32 (s2.f.toNat : Int), .int .u32 (s2.g.toNat : Int), .int .u32 (s2.h.toNat : Int), .slice A r.length c, .int .u64 (many : Int)] (by rfl) _ Tryd.underlying27 rfl (by exact size_hash) ?_)
       refine (more_any s2 r b T _ _ _ _ _ _ HT (hr.keep hB) (hb.keep hB) hn (by omega) (by omega) hm (Lib.hid (HK.out.keep hB))).mono ?_
       rintro e w5 ⟨S5, A5, c5, m5, HS5, HM5, rfl, hc5, hr5, hN5, hb5⟩
       replace hR5 := hR5.later hb5
       replace hB := below_step hB hb5
       obtain ⟨Q, hQ⟩ : ∃ Q, Q = restL T := ⟨_, rfl⟩
       have HQ := Lib.hid hQ
       rw [← hQ] at hc5 hr5 ⊢
       clear hb5 hR3 hN5 hQ
       go_upto_region 14 with fail
       refine at_world (Q := Code.wp _ _ _ _) (fun W => Row W w5.heap.size 27 [.int .u32 (S5.a.toNat : Int), .int .u32 (S5.b.toNat : Int), .int .u32 (S5.c.toNat : Int), .int .u32 (S5.d.toNat : Int), .int .u32 (S5.e.toNat : Int), .int .u32 (S5.f.toNat : Int), .int .u32 (S5.g.toNat : Int), .int .u32 (S5.h.toNat : Int), .slice A5 Q.length c5, .int .u64 (m5 : Int)] ∧ Row W (w.heap.size + 1) 27 [.int .u32 (s2.a.toNat : Int), .int .u32 (s2.b.toNat : Int), .int .u32 (s2.c.toNat : Int), .int .u32 (s2.d.toNat : Int), .int .u32 (s2.e.toNat : Int), .int .u32 (s2.f.toNat : Int), .int .u32 (s2.g.toNat : Int), .int .u32 (s2.h.toNat : Int), .slice A r.length c, .int .u64 (many : Int)] ∧ Rd vB W A5 Q ∧ Below w.heap.size w W)
         ⟨Row.new w5 _ _ _ rfl, hR5.alloc _, hr5.keep (below_new (Below.refl _ _) _), below_new hB _⟩ ?_
       clear hR5 hB hr5
       rintro W ⟨hR9, hR5, hr5, hB⟩
       go_wp2_with (refine wpList_load_part rfl 27 (.tmp 5) rfl (w.heap.size + 1) 0 rfl _ _ hR5 [.int .u32 (s2.a.toNat : Int), .int .u32 (s2.b.toNat : Int), .int .u32 (s2.c.toNat : Int), .int .u32 (s2.d.toNat : Int), .int .u32 (s2.e.toNat : Int), .int .u32 (s2.f.toNat : Int), .int .u32 (s2.g.toNat : Int), .int .u32 (s2.h.toNat : Int), .slice A r.length c, .int .u64 (many : Int)] (by rfl) _ Tryd.underlying27 rfl (by exact size_hash) ?_)
       refine (end_any s2 r _ _ _ _ (hr.keep hB) hn hm (Lib.hid (HK.out.keep hB))).mono ?_
       rintro e w6 ⟨A6, c6, rfl, hc6, hr6, hb6⟩
       obtain ⟨F, hF⟩ : ∃ F, F = s2.from (fillL r many) := ⟨_, rfl⟩
       have HF := Lib.hid hF
       rw [← hF] at hc6 hr6 ⊢
       have h32 : (bytesL F.toL).length = 32 := by rw [bytesL_length]; rfl
       obtain ⟨X, hX⟩ : ∃ X, X = bytesL F.toL := ⟨_, rfl⟩
       have HX : Hid (bytesL F.toL = X) := hX.symm
       rw [← hX] at hc6 hr6 h32 ⊢
       have H32 := Lib.hid h32
       rw [h32]
       replace hR9 := hR9.later hb6
       replace hR5 := hR5.later hb6
       replace hr5 := hr5.keep hb6
       replace hB := below_step hB hb6
       clear hF hX h32 hb6
       have g64 : decide ((64 : Int) ≤ (r.length : Int)) = false := by simp; omega
       have y8 : w6.cell? ⟨w.heap.size + 1, 8, none⟩ = some (.slice A r.length c) := hR5.cell rfl
       go_upto_region 17 with fail
       have hown0 : (w6.alloc (.cells #[] 5)).ownsRow w6.heap.size 5 1 (.slice (some ⟨w6.heap.size, 0, none⟩) 0 0) 0 [] := World.ownsRow_made w6 #[] 0 (Nat.le_refl _) (by unfold maxLen; omega) rfl
       have hbn := below_new (Below.refl _ w6) (.cells #[] 5)
       have z8 : (w6.alloc (.cells #[] 5)).cell? ⟨w.heap.size + 1, 8, none⟩ = some (.slice A r.length c) := (hR5.alloc _).cell rfl
       go_upto_region 18 with (first
         | (at_builtin; refine wpList_append_rd _ rfl (.tmp 114) (.tmp 116) 24 rfl w6.heap.size 5 i0 (.int .u8 0) 1 Tryd.underlying24 hi hz0 hz1 hz2 rfl _ _ _ rfl hown0 A r c rfl (hr.keep (below_step hB hbn)) vB_one (by unfold maxLen; omega) (by omega) (by simp) ?_; intro v7 w7 hown7 hgrow7)
         | (at_builtin; refine wpList_append_rd _ rfl (.tmp 117) (.tmp 118) 24 rfl w6.heap.size 5 i0 (.int .u8 0) 1 Tryd.underlying24 hi hz0 hz1 hz2 rfl _ _ _ rfl hown7 B b d rfl (hb.keep (hB.trans ((hbn.grown hgrow7 (by simp) (fun k hk => (hown0.lt k hk).1)).mono hB.size))) vB_one (by unfold maxLen; omega) (by omega) (by have := hgrow7.size; simp at this; omega) ?_; intro v8 w8 hown8 hgrow8))
       have hb8 : Below w6.heap.size w6 w8 := (hbn.grown hgrow7 (by simp) (fun k hk => (hown0.lt k hk).1)).grown hgrow8 (by have := hgrow7.size; simp at this; omega) (fun k hk => (hown7.lt k hk).1)
       have hown9 : w8.ownsRow w6.heap.size 5 1 v8 T.length (T.map vB) := by rw [HTl.out, HT.out, List.map_append]; simpa using hown8
       obtain ⟨A8, c8, rfl, hc8, hr8⟩ := own_slice hown9
       replace hR9 := hR9.later hb8
       replace hR5 := hR5.later hb8
       replace hr5 := hr5.keep hb8
       replace hr6 := hr6.keep hb8
       replace hB := below_step hB hb8
       clear hown0 hown7 hown8 hown9 hgrow7 hgrow8 hbn hb8 y8 z8 g64
       have y8 : w8.cell? ⟨w.heap.size + 1, 8, none⟩ = some (.slice A r.length c) := hR5.cell rfl
       have y9 : w8.cell? ⟨w.heap.size + 1, 9, none⟩ = some (.int .u64 (many : Int)) := hR5.cell rfl
       go_wp2_with fail
       refine (fill_ref r many _ _ _ hm (hr.keep hB) (by omega)).mono ?_
       rintro e w9 ⟨A9, c9, rfl, hc9, hr9, hb9⟩
       have hGl := fillL_length r many
       obtain ⟨G, hG⟩ : ∃ G, G = fillL r many := ⟨_, rfl⟩
       have HG := Lib.hid hG
       rw [← hG] at hc9 hr9 hGl ⊢
       replace HF : Hid (F = s2.from G) := by rw [hG]; exact HF
       clear hG
       replace hR9 := hR9.later hb9
       replace hR5 := hR5.later hb9
       replace hr5 := hr5.keep hb9
       replace hr6 := hr6.keep hb9
       replace hr8 := hr8.keep hb9
       replace hB := below_step hB hb9
       clear hb9 y8 y9
       go_upto_region 20 with fail
       refine at_world (Q := Code.wp _ _ _ _) (fun W => Row W w9.heap.size 27 zeroL ∧ Row W w5.heap.size 27 [.int .u32 (S5.a.toNat : Int), .int .u32 (S5.b.toNat : Int), .int .u32 (S5.c.toNat : Int), .int .u32 (S5.d.toNat : Int), .int .u32 (S5.e.toNat : Int), .int .u32 (S5.f.toNat : Int), .int .u32 (S5.g.toNat : Int), .int .u32 (S5.h.toNat : Int), .slice A5 Q.length c5, .int .u64 (m5 : Int)] ∧ Row W (w.heap.size + 1) 27 [.int .u32 (s2.a.toNat : Int), .int .u32 (s2.b.toNat : Int), .int .u32 (s2.c.toNat : Int), .int .u32 (s2.d.toNat : Int), .int .u32 (s2.e.toNat : Int), .int .u32 (s2.f.toNat : Int), .int .u32 (s2.g.toNat : Int), .int .u32 (s2.h.toNat : Int), .slice A r.length c, .int .u64 (many : Int)] ∧ Rd vB W A9 G ∧ Below w.heap.size w W ∧ Below w9.heap.size w9 W)
         ⟨Row.new w9 _ _ _ rfl, hR9.alloc _, hR5.alloc _, hr9.keep (below_new (Below.refl _ _) _), below_new hB _, below_new (Below.refl _ _) _⟩ ?_
       have HR9 := Lib.hid hR9
       have HR5 := Lib.hid hR5
       have hz9 := hB.size
       have HB9 := Lib.hid hB
       clear hR9 hR5 hr9 hB
       rintro W ⟨hR15, hR9, hR5, hr9, hB, hB9⟩
       go_wp2_with (refine wpList_load_part rfl 23 (.tmp 126) rfl (w.heap.size + 1) 0 rfl _ _ hR5 [.int .u32 (s2.a.toNat : Int), .int .u32 (s2.b.toNat : Int), .int .u32 (s2.c.toNat : Int), .int .u32 (s2.d.toNat : Int), .int .u32 (s2.e.toNat : Int), .int .u32 (s2.f.toNat : Int), .int .u32 (s2.g.toNat : Int), .int .u32 (s2.h.toNat : Int)] (by rfl) _ Tryd.underlying23 rfl (by exact size_st) ?_)
       refine (words_law s2 _).mono ?_
       rintro e w10 ⟨A10, c10, rfl, hc10, hr10, hb10⟩
       replace hR15 := hR15.later hb10
       replace hr9 := hr9.keep hb10
       replace hB9 := below_step hB9 hb10
       clear hb10 hR9 hR5 hB
       go_wp2_with fail
       refine (from_ref s2 G _ _ _ _ _ hr10 hr9 hc10 hc9 (by omega)).mono ?_
       rintro e w11 ⟨A11, c11, rfl, hc11, hr11, hb11⟩
       rw [← HF.out] at hc11 hr11 ⊢
       replace hR15 := hR15.later hb11
       replace hB9 := below_step hB9 hb11
       have h8 : F.toL.length = 8 := rfl
       rw [h8]
       clear hb11 hr10 hr9 h8
       have HZ15 := Lib.hid hR15
       have HB9w := Lib.hid hB9
       go_wp2_with fail
       go_loopw [17] (fun i wr => CopyRel F w9.heap.size w11 i wr) (fun i _ => 8 - (intOf i).toNat)
       case atStart => exact ⟨0, by omega, rfl, hR15, SameBut.refl _ _, rfl, rfl, rfl⟩
       case round =>
         clear hR15 hB9
         obtain ⟨k, hk, rfl, hRk, hsb, ho1, ho2, ho3⟩ := hrel
         have hrk := rd_alias hr11 HZ15.out hsb hRk hk
         by_cases hlt : k < 8
         · have h8 : F.toL.length = 8 := rfl
           obtain ⟨bl, o, rfl, hck⟩ := hrk (by simp [St.toL])
           have hck0 : wr.cell? ⟨bl, o + k, none⟩ = some (vW (F.toL.getD k 0)) := by
             rw [hck k (by omega), List.getD_eq_getElem?_getD, List.getElem?_eq_getElem (by omega : k < F.toL.length)]
             rfl
           have HN := Lib.hid (mixL_next F k hlt)
           generalize F.toL.getD k 0 = x at hck0 HN
           unfold vW at hck0
           have hkl : k < (mixL F k).length := by rw [mixL_length F k hk]; omega
           obtain ⟨vk, hcn⟩ : ∃ v, wr.cell? ⟨w9.heap.size, k, none⟩ = some v := ⟨(mixL F k)[k], hRk.cell (List.getElem?_eq_getElem hkl)⟩
           clear hkl
           have hfz : wr.frozen? ⟨w9.heap.size, k, none⟩ = false := hRk.frozen _
           have i1 : (0 : Int) ≤ (k : Int) := by omega
           have i2 : (k : Int) < 8 := by omega
           have HRel : Hid (CopyRel F w9.heap.size w11 (.int .i64 ((k : Int) + 1)) (wr.setCell ⟨w9.heap.size, k, none⟩ (.int .u32 (x.toNat : Int)))) :=
             ⟨k + 1, by omega, by go_num, by have := hRk.setCell k (vW x); rw [HN.out] at this; exact this, hsb.setCell k _, ho1, ho2, ho3⟩
           clear hck hrk h8 HN hRk hsb ho1 ho2 ho3
           go_wp2_with fail
           go_roundw
           case rel => exact HRel.out
           case measure => simp [intOf]; omega
         · have hk8 : k = 8 := by omega
           subst hk8
           have hBr : Below w9.heap.size w9 wr := by
             have h9 := HB9w.out
             exact ⟨ho1.trans h9.os, ho2.trans h9.tape, ho3.trans h9.output, by have := h9.size; have := hsb.1; omega, fun k hk => (hsb.2 k (by omega)).trans (h9.block k hk)⟩
           have hR9 := HR9.out.later hBr
           have hR5 := HR5.out.later hBr
           have hB := below_step HB9.out hBr
           rw [mixL_eight] at hRk
           have hlx : w9.heap.size < wr.heap.size := hRk.lt
           clear hsb ho1 ho2 ho3 HR9 HR5 HB9 HB9w HZ15 hr11
           replace hr5 := hr5.keep hBr
           replace hr6 := hr6.keep hBr
           replace hr8 := hr8.keep hBr
           clear hBr
           go_upto_region 25 with fail
           refine region25 s2 F b r T X G B A A6 A8 A11 c d c6 c8 c11 many w w5 w9 wr _ _ hR5 (hr.keep hB) hn hm (Lib.hid (HK.out.keep hB)) HG HF HX H32 (by exact ⟨rfl, rfl, rfl, rfl, rfl, rfl, rfl, rfl, rfl, rfl, rfl, trivial⟩) ?_
           intro a w12 A12 c12 hr12 hb12 hs
           replace hR9 := hR9.later hb12
           replace hR5 := hR5.later hb12
           replace hRk := hRk.later hb12
           replace hr5 := hr5.keep hb12
           replace hr6 := hr6.keep hb12
           replace hr8 := hr8.keep hb12
           replace hrk := hrk.keep hb12
           replace hB := below_step hB hb12
           clear hb12
           have hqk : T.length / 64 * 64 ≤ T.length := by omega
           obtain ⟨Aq, hrun, hrd⟩ := cut_from (P := Tryd.prog) 24 5 Tryd.underlying24 size_uint8 A8 T.length c8 (T.length / 64 * 64) hqk hc8
           have hq2 : T.length - T.length / 64 * 64 = Q.length := by rw [HQ.out, restL, List.length_drop]
           have hrq : Rd vB w12 Aq Q := by have := hrd vB w12 T rfl hr8; rw [HQ.out]; exact this
           have hsl : ∀ W, (Instr.slice 24 (.slice A8 T.length c8) (some (.int .i64 ((T.length : Int) / 64 * 64))) none none).run Tryd.prog W = .ok (.slice Aq Q.length (c8 - T.length / 64 * 64)) W := fun W => by
             have := hrun W
             rw [hq2] at this
             simpa using this
           generalize c8 - T.length / 64 * 64 = cq at hsl
           clear hrun hrd hq2 hqk hlx
           go_upto_region 26 with fail
           refine region26 s2 S5 F b r T Q X B A A5 A6 A8 A11 A12 Aq c d c5 c6 c8 c11 c12 cq many m5 w w5 w9 w12 _ _ hR9 hR5 hRk hr6 hr8 hr5 hr12 hrq hrk hc8 hTl hbl HS5 HM5 HX H32 hsl hs ?_
           clear hs a
           intro a W L hs hW
           have e6 := hs.at 0 rfl
           have hd := hs.2.1
           clear hs
           go_wp2_with fail
           refine bodyPost_ret (results_tmp rfl _ _ _) hd ?_
           rw [e6]
           exact ⟨rfl, below_step hB hW⟩
    · go_wp2_with (refine wpList_load_part rfl 27 (.tmp 5) rfl (w.heap.size + 1) 0 rfl _ _ hR5 [.int .u32 (s2.a.toNat : Int), .int .u32 (s2.b.toNat : Int), .int .u32 (s2.c.toNat : Int), .int .u32 (s2.d.toNat : Int), .int .u32 (s2.e.toNat : Int), .int .u32 (s2.f.toNat : Int), .int .u32 (s2.g.toNat : Int), .int .u32 (s2.h.toNat : Int), .slice A r.length c, .int .u64 (many : Int)] (by rfl) _ Tryd.underlying27 rfl (by exact size_hash) ?_)
      refine (more_bad s2 r b _ _ _ _ _ _ (hr.keep hB) (by omega) (by omega)).mono ?_
      rintro e w5 ⟨S5, A5, c5, m5, HS5, HM5, rfl, hc5, hr5, hN5, hb5⟩
      obtain rfl := HS5.out
      obtain rfl := HM5.out
      replace hR5 := hR5.later hb5
      replace hB := below_step hB hb5
      clear hb5 hR3 HS5 HM5
      go_upto_region 14 with fail
      refine at_world (Q := Code.wp _ _ _ _) (fun W => Row W w5.heap.size 27 [.int .u32 (S5.a.toNat : Int), .int .u32 (S5.b.toNat : Int), .int .u32 (S5.c.toNat : Int), .int .u32 (S5.d.toNat : Int), .int .u32 (S5.e.toNat : Int), .int .u32 (S5.f.toNat : Int), .int .u32 (S5.g.toNat : Int), .int .u32 (S5.h.toNat : Int), .slice A5 r.length c5, .int .u64 (m5 : Int)] ∧ Row W (w.heap.size + 1) 27 [.int .u32 (S5.a.toNat : Int), .int .u32 (S5.b.toNat : Int), .int .u32 (S5.c.toNat : Int), .int .u32 (S5.d.toNat : Int), .int .u32 (S5.e.toNat : Int), .int .u32 (S5.f.toNat : Int), .int .u32 (S5.g.toNat : Int), .int .u32 (S5.h.toNat : Int), .slice A r.length c, .int .u64 (m5 : Int)] ∧ Rd vB W A5 r ∧ Below w.heap.size w W)
        ⟨Row.new w5 _ _ _ rfl, hR5.alloc _, hr5.keep (below_new (Below.refl _ _) _), below_new hB _⟩ ?_
      clear hR5 hB hr5
      rintro W ⟨hR9, hR5, hr5, hB⟩
      go_wp2_with (refine wpList_load_part rfl 27 (.tmp 5) rfl (w.heap.size + 1) 0 rfl _ _ hR5 [.int .u32 (S5.a.toNat : Int), .int .u32 (S5.b.toNat : Int), .int .u32 (S5.c.toNat : Int), .int .u32 (S5.d.toNat : Int), .int .u32 (S5.e.toNat : Int), .int .u32 (S5.f.toNat : Int), .int .u32 (S5.g.toNat : Int), .int .u32 (S5.h.toNat : Int), .slice A r.length c, .int .u64 (m5 : Int)] (by rfl) _ Tryd.underlying27 rfl (by exact size_hash) ?_)
      refine (end_bad S5 r _ _ _ _ (by omega) (by omega)).mono ?_
      rintro e w6 ⟨A6, c6, rfl, hc6, hr6, hb6⟩
      replace hR9 := hR9.later hb6
      replace hR5 := hR5.later hb6
      replace hr5 := hr5.keep hb6
      replace hB := below_step hB hb6
      have g64 : decide ((64 : Int) ≤ (r.length : Int)) = true := by simp; omega
      have heq := eqIn_st S5
      have hs1 := run_str (P := Tryd.prog) w6 24 5 9 Tryd.underlying24 Tryd.underlying5 Tryd.underlying9 A5 r r.length c5 rfl hr5
      have hs2 := run_str (P := Tryd.prog) w6 24 5 9 Tryd.underlying24 Tryd.underlying5 Tryd.underlying9 A r r.length c rfl (hr.keep hB)
      have x0 : w6.cell? ⟨w5.heap.size, 0, none⟩ = some (.int .u32 (S5.a.toNat : Int)) := hR9.cell rfl
      have x1 : w6.cell? ⟨w5.heap.size, 1, none⟩ = some (.int .u32 (S5.b.toNat : Int)) := hR9.cell rfl
      have x2 : w6.cell? ⟨w5.heap.size, 2, none⟩ = some (.int .u32 (S5.c.toNat : Int)) := hR9.cell rfl
      have x3 : w6.cell? ⟨w5.heap.size, 3, none⟩ = some (.int .u32 (S5.d.toNat : Int)) := hR9.cell rfl
      have x4 : w6.cell? ⟨w5.heap.size, 4, none⟩ = some (.int .u32 (S5.e.toNat : Int)) := hR9.cell rfl
      have x5 : w6.cell? ⟨w5.heap.size, 5, none⟩ = some (.int .u32 (S5.f.toNat : Int)) := hR9.cell rfl
      have x6 : w6.cell? ⟨w5.heap.size, 6, none⟩ = some (.int .u32 (S5.g.toNat : Int)) := hR9.cell rfl
      have x7 : w6.cell? ⟨w5.heap.size, 7, none⟩ = some (.int .u32 (S5.h.toNat : Int)) := hR9.cell rfl
      have x8 : w6.cell? ⟨w5.heap.size, 8, none⟩ = some (.slice A5 r.length c5) := hR9.cell rfl
      have x9 : w6.cell? ⟨w5.heap.size, 9, none⟩ = some (.int .u64 (m5 : Int)) := hR9.cell rfl
      have y0 : w6.cell? ⟨w.heap.size + 1, 0, none⟩ = some (.int .u32 (S5.a.toNat : Int)) := hR5.cell rfl
      have y1 : w6.cell? ⟨w.heap.size + 1, 1, none⟩ = some (.int .u32 (S5.b.toNat : Int)) := hR5.cell rfl
      have y2 : w6.cell? ⟨w.heap.size + 1, 2, none⟩ = some (.int .u32 (S5.c.toNat : Int)) := hR5.cell rfl
      have y3 : w6.cell? ⟨w.heap.size + 1, 3, none⟩ = some (.int .u32 (S5.d.toNat : Int)) := hR5.cell rfl
      have y4 : w6.cell? ⟨w.heap.size + 1, 4, none⟩ = some (.int .u32 (S5.e.toNat : Int)) := hR5.cell rfl
      have y5 : w6.cell? ⟨w.heap.size + 1, 5, none⟩ = some (.int .u32 (S5.f.toNat : Int)) := hR5.cell rfl
      have y6 : w6.cell? ⟨w.heap.size + 1, 6, none⟩ = some (.int .u32 (S5.g.toNat : Int)) := hR5.cell rfl
      have y7 : w6.cell? ⟨w.heap.size + 1, 7, none⟩ = some (.int .u32 (S5.h.toNat : Int)) := hR5.cell rfl
      have y8 : w6.cell? ⟨w.heap.size + 1, 8, none⟩ = some (.slice A r.length c) := hR5.cell rfl
      have y9 : w6.cell? ⟨w.heap.size + 1, 9, none⟩ = some (.int .u64 (m5 : Int)) := hR5.cell rfl
      clear hb6 hc6 hr6
      go_wp2_with fail
      go_ret
      exact ⟨rfl, hB⟩
end Go.Proofs.YtdokbhcoekffpaaDoor
