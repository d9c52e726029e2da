/-
  What the program's call spread of layer 2 answers: a block's sixteen words, and 48 more. No conditions but those typed.
-/
import Derived.Test.YtdokbhcoekffpaaDoorShaSmall
import Derived.Test.YtdokbhcoekffpaaDoorRow
namespace Go.Proofs.YtdokbhcoekffpaaDoor
open Go.RowKit
set_option linter.unusedSimpArgs false

theorem words_64 (b : List UInt8) (A : Option Addr) (c : Nat) (w : World) (H : Hid (b.length = 64)) (hr : Rd vB w A b) (hc : 64 ≤ c) : Calls Tryd.prog 45 #[.slice A 64 c] w (RetS vW w (wordsL b)) := by
  have h := H.out
  have := words_any b A c w hr (by omega) (by omega)
  rwa [h] at this
theorem wordsL_64 (b : List UInt8) (h : b.length = 64) : (wordsL b).length = 16 := by
  have := congrArg List.length (bytesL_wordsL b)
  rw [bytesL_length, List.length_take, h] at this
  omega

/-- The words that are there, and as many zeros as are still to come. -/
def schedL (W0 : List UInt32) (k : Nat) : List UInt32 := moreW k W0 ++ List.replicate (48 - k) 0
theorem schedL_length (W0 : List UInt32) (k : Nat) (h : W0.length = 16) (hk : k ≤ 48) : (schedL W0 k).length = 64 := by
  rw [schedL, List.length_append, moreW_length, List.length_replicate]
  omega
theorem schedL_next (W0 : List UInt32) (k : Nat) (h : W0.length = 16) (hk : k < 48) : (schedL W0 k).set (16 + k) (nextW (moreW k W0)) = schedL W0 (k + 1) := by
  have e : (moreW k W0).length = 16 + k := by rw [moreW_length, h]
  unfold schedL
  rw [List.set_append_right _ _ (by omega), e, Nat.sub_self, moreW, show 48 - k = (48 - (k + 1)) + 1 by omega, List.replicate_succ, List.set_cons_zero]
  simp
theorem schedL_at (W0 : List UInt32) (k j : Nat) (h : W0.length = 16) (hj : j < 16 + k) : ((schedL W0 k).map vW)[j]? = some (.int .u32 (((moreW k W0).getD j 0).toNat : Int)) := by
  have e : (moreW k W0).length = 16 + k := by rw [moreW_length, h]
  rw [schedL, List.map_append, List.getElem?_append_left (by simp; omega)]
  simp [List.getD, e, hj, vW]
theorem schedL_zero (W0 : List UInt32) : schedL W0 0 = W0 ++ List.replicate 48 0 := rfl
theorem schedL_end (W0 : List UInt32) : schedL W0 48 = moreW 48 W0 := by simp [schedL]

def SpreadRel (W0 : List UInt32) (w : World) (i : Value) (wr : World) : Prop :=
  ∃ k : Nat, k ≤ 48 ∧ i = .int .i64 ((16 + k : Nat) : Int) ∧ Row wr (w.heap.size + 1) 60 ((schedL W0 k).map vW) ∧ Row wr w.heap.size 60 (List.replicate 64 (.int .u32 0)) ∧ Below w.heap.size w wr

/-- What a round reads. -/
def SprS (g n : Nat) (x2 x7 x15 x16 : UInt32) (W : World) : Prop :=
  W.cell? ⟨g, n - 2, none⟩ = some (.int .u32 (x2.toNat : Int)) ∧ W.cell? ⟨g, n - 7, none⟩ = some (.int .u32 (x7.toNat : Int)) ∧ W.cell? ⟨g, n - 15, none⟩ = some (.int .u32 (x15.toNat : Int)) ∧ W.cell? ⟨g, n - 16, none⟩ = some (.int .u32 (x16.toNat : Int))

theorem SprS.set {g n : Nat} {x2 x7 x15 x16 : UInt32} {w : World} (hn : 16 ≤ n) (h : SprS g n x2 x7 x15 x16 w) (v : Value) : SprS g n x2 x7 x15 x16 (w.setCell ⟨g, n, none⟩ v) := by
  obtain ⟨h1, h2, h3, h4⟩ := h
  have e : ∀ j, j < n → (w.setCell ⟨g, n, none⟩ v).cell? ⟨g, j, none⟩ = w.cell? ⟨g, j, none⟩ := fun j hj => World.cell?_setCell_other _ _ _ _ (by intro e; injection e with _ e2 _; omega)
  exact ⟨(e _ (by omega)).trans h1, (e _ (by omega)).trans h2, (e _ (by omega)).trans h3, (e _ (by omega)).trans h4⟩
theorem spread_round {W0 : List UInt32} {w wr : World} {k n : Nat} {y : UInt32} (hk : k < 48) (HK : Hid (n = 16 + k)) (HX : Hid ((schedL W0 k).set n y = schedL W0 (k + 1))) (hR1 : Row wr (w.heap.size + 1) 60 ((schedL W0 k).map vW))
    (hR0 : Row wr w.heap.size 60 (List.replicate 64 (.int .u32 0))) (hB : Below w.heap.size w wr) : SpreadRel W0 w (.int .i64 ((n : Int) + 1)) (wr.setCell ⟨w.heap.size + 1, n, none⟩ (.int .u32 (y.toNat : Int))) := by
  have e := HK.out
  refine ⟨k + 1, by omega, by congr 1; omega, ?_, hR0.setCell_other (by simp) _, hB.setCell (by simp) _⟩
  rw [← HX.out, List.map_set]
  exact hR1.setCell n _

section
attribute [local go_sem] u32_add_w u32_add_m u32_mod_w u32_wrap_w
set_option maxRecDepth 100000 in
set_option maxHeartbeats 600000 in
theorem spread_any (b : List UInt8) (A : Option Addr) (c : Nat) (w : World) (HL : Hid (b.length = 64)) (hr : Rd vB w A b) (hc : 64 ≤ c) :
    Calls Tryd.prog 40 #[.slice A 64 c] w fun e w' => e = .returned (.agg ((moreW 48 (wordsL b)).map vW).toArray) ∧ Below w.heap.size w w' := by
  have H16 := Lib.hid (wordsL_64 b HL.out)
  go_enter Tryd.func40, Tryd.ntmps40
  go_wp2_with fail
  refine at_world (Q := Code.wp _ _ _ _) (fun W => Row W w.heap.size 60 (List.replicate 64 (.int .u32 0)) ∧ Row W (w.heap.size + 1) 60 (List.replicate 64 (.int .u32 0)) ∧ Below w.heap.size w W)
    ⟨(Row.new w _ _ _ rfl).alloc _, Row.new_at _ _ (by simp) _ _ _ rfl, below_new (below_new (Below.refl _ _) _) _⟩ ?_
  rintro W ⟨hR0, hR1, hB⟩
  have hrW := hr.keep hB
  clear hr
  refine wp_region_plan_at w.heap.size (.step 0 false (.step 1 false (.step 2 true (.step 3 true (.nil))))) (by kernel_rfl) (by kernel_rfl) (by rfl) (by kernel_rfl) ?_
  have hBase : Below w.heap.size W W.drew := (Below.refl _ _).drew
  iterate 2 (refine plan_read rfl (by rfl) (v := ?_) ?_ ?_; rotate_left 1; (intro W hW; have hW0 := Below.trans hBase hW; (try dsimp only at hW); go_simp <;> with_reducible rfl); simp only [List.getElem_toArray, List.getElem_cons_zero, List.getElem_cons_succ, Act.put, List.setIfInBounds_toArray, List.set_cons_zero, List.set_cons_succ])
  refine plan_make_at rfl (by rfl) (fun K hK => ?_)
  go_simp
  refine (words_64 b _ _ _ HL (by exact hrW) hc).mono ?_
  rintro e w1 ⟨A1, c1, rfl, hc1, hr1, hb1⟩
  refine hK.out _ _ (hb1.mono hB.size) ?_
  clear hK K
  replace hR0 := hR0.drew.later hb1
  replace hR1 := hR1.drew.later hb1
  replace hB := below_step hB.drew hb1
  clear hb1 hrW hBase W
  obtain ⟨W0, e⟩ : ∃ W0, W0 = wordsL b := ⟨_, rfl⟩
  have HE : Hid (wordsL b = W0) := e.symm
  rw [← e] at H16 hr1 hc1 ⊢
  clear e
  refine plan_make_at rfl (by rfl) (fun K hK => ?_)
  refine wp_copy_row (.tmp 5) (.tmp 7) 34 34 (by rfl) 22 Tryd.underlying34 (by kernel_rfl) (w.heap.size + 1) 0 64 64 A1 W0 c1 (by rfl) (by rfl) _ _ hR1 hr1 vW_one (by have := H16.out; omega) (by have := H16.out; simp; omega) ?_
  simp only [List.getElem_toArray, List.getElem_cons_zero, List.getElem_cons_succ, Act.put, List.setIfInBounds_toArray, List.set_cons_zero, List.set_cons_succ]
  refine hK.out _ _ (below_setRow (Below.refl _ _) (by omega) _) ?_
  clear hK K
  refine plan_done ?_
  refine at_world (Q := _) (fun W => Row W w.heap.size 60 (List.replicate 64 (.int .u32 0)) ∧ Row W (w.heap.size + 1) 60 ((schedL W0 0).map vW) ∧ Below w.heap.size w W)
    ⟨hR0.setRow_other (by omega) _, ?_, below_setRow hB (by omega) _⟩ ?_
  · have e : (List.replicate 64 (Value.int .u32 0)).take 0 ++ W0.map vW ++ (List.replicate 64 (Value.int .u32 0)).drop (0 + W0.length) = (schedL W0 0).map vW := by
      rw [H16.out, schedL_zero, List.map_append, List.map_replicate]
      rfl
    rw [e]
    exact hR1.setRow _
  clear hR0 hR1 hB hr1
  rintro W ⟨hR0, hR1, hB⟩
  go_wp2_with fail
  go_loopw [4] (fun i wr => SpreadRel W0 w i wr) (fun i _ => 64 - (intOf i).toNat)
  case atStart => exact ⟨0, by omega, rfl, hR1, hR0, hB⟩
  case round =>
    clear hR0 hR1 hB
    obtain ⟨k, hk, rfl, hR1, hR0, hB⟩ := hrel
    by_cases hlt : k < 48
    · have h16 := H16.out
      have HN : Hid (nextW (moreW k W0) = addW (addW (addW (sig1 ((moreW k W0).getD (16 + k - 2) 0)) ((moreW k W0).getD (16 + k - 7) 0)) (sig0 ((moreW k W0).getD (16 + k - 15) 0))) ((moreW k W0).getD (16 + k - 16) 0)) := by unfold Hid nextW; rw [moreW_length, h16]
      have h15 := hR1.cell (schedL_at W0 k (16 + k - 15) h16 (by omega))
      have h2 := hR1.cell (schedL_at W0 k (16 + k - 2) h16 (by omega))
      have h7 := hR1.cell (schedL_at W0 k (16 + k - 7) h16 (by omega))
      have hh16 := hR1.cell (schedL_at W0 k (16 + k - 16) h16 (by omega))
      have HX : Hid ((schedL W0 k).set (16 + k) (nextW (moreW k W0)) = schedL W0 (k + 1)) := schedL_next W0 k h16 hlt
      have HLn : Hid ((schedL W0 k).length = 64) := schedL_length W0 k h16 hk
      rw [HN.out] at HX
      obtain ⟨n, hn⟩ : ∃ n, n = 16 + k := ⟨_, rfl⟩
      have HK := Lib.hid hn
      rw [← hn] at h15 h2 h7 hh16 HX ⊢
      have hn1 : 16 ≤ n := by omega
      have hn2 : n < 64 := by omega
      clear hn h16 HN
      generalize (moreW k W0).getD (n - 15) 0 = x15 at h15 HX
      generalize (moreW k W0).getD (n - 2) 0 = x2 at h2 HX
      generalize (moreW k W0).getD (n - 7) 0 = x7 at h7 HX
      generalize (moreW k W0).getD (n - 16) 0 = x16 at hh16 HX
      have HS1 : Hid (sig1 x2 = xorW (xorW (rotR x2 17) (rotR x2 19)) (dn x2 10)) := rfl
      have HS0 : Hid (sig0 x15 = xorW (xorW (rotR x15 7) (rotR x15 18)) (dn x15 3)) := rfl
      have hcn : wr.cell? ⟨w.heap.size + 1, n, none⟩ = some (((schedL W0 k).map vW).getD n undef) := hR1.cell (by have := HLn.out; simp [List.getD, this, hn2])
      have hfz : wr.frozen? ⟨w.heap.size + 1, n, none⟩ = false := hR1.frozen n
      have j2 : IntKind.i64.wrap ((n : Int) - 2) = (n : Int) - 2 := by rw [IntKind.wrap_i64]; omega
      have j7 : IntKind.i64.wrap ((n : Int) - 7) = (n : Int) - 7 := by rw [IntKind.wrap_i64]; omega
      have j15 : IntKind.i64.wrap ((n : Int) - 15) = (n : Int) - 15 := by rw [IntKind.wrap_i64]; omega
      have j16 : IntKind.i64.wrap ((n : Int) - 16) = (n : Int) - 16 := by rw [IntKind.wrap_i64]; omega
      have m2 : (2 : Int) ≤ (n : Int) := by omega
      have m7 : (7 : Int) ≤ (n : Int) := by omega
      have m15 : (15 : Int) ≤ (n : Int) := by omega
      have m16 : (16 : Int) ≤ (n : Int) := by omega
      have k2 : (0 : Int) ≤ (n : Int) - 2 := by omega
      have k7 : (0 : Int) ≤ (n : Int) - 7 := by omega
      have k15 : (0 : Int) ≤ (n : Int) - 15 := by omega
      have k16 : (0 : Int) ≤ (n : Int) - 16 := by omega
      have l0 : (n : Int) < 64 := by omega
      have l2 : (n : Int) - 2 < 64 := by omega
      have l7 : (n : Int) - 7 < 64 := by omega
      have l15 : (n : Int) - 15 < 64 := by omega
      have l16 : (n : Int) - 16 < 64 := by omega
      have t2 : ((n : Int) - 2).toNat = n - 2 := by omega
      have t7 : ((n : Int) - 7).toNat = n - 7 := by omega
      have t15 : ((n : Int) - 15).toNat = n - 15 := by omega
      have t16 : ((n : Int) - 16).toNat = n - 16 := by omega
      have p0 : (0 : Int) ≤ (n : Int) := by omega
      have hS : SprS (w.heap.size + 1) n x2 x7 x15 x16 wr.drew := ⟨h2, h7, h15, hh16⟩
      clear h2 h7 h15 hh16
      go_wp2_with fail
      refine wp_region_plan_of (SprS (w.heap.size + 1) n x2 x7 x15 x16) (.step 0 false (.step 1 false (.step 2 false (.step 3 false (.step 4 false (.step 6 false (.step 7 false (.step 8 false (.step 9 false (.step 11 false (.step 12 false (.step 13 false (.step 14 false (.step 17 false (.step 18 false (.step 19 false (.step 20 false (.step 5 true (.step 10 false (.step 15 true (.step 16 false (.step 21 false (.step 22 false (.step 23 true (.nil))))))))))))))))))))))))) hS (by kernel_rfl) (by kernel_rfl) (by rfl) (by kernel_rfl) ?_
      iterate 17 (refine plan_read rfl (by rfl) (v := ?_) ?_ ?_; rotate_left 1; (intro W hW; (try dsimp only at hW); obtain ⟨hW0, hW1⟩ := hW; go_simp <;> with_reducible rfl); simp only [List.getElem_toArray, List.getElem_cons_zero, List.getElem_cons_succ, Act.put, List.setIfInBounds_toArray, List.set_cons_zero, List.set_cons_succ])
      (refine plan_make_of rfl (by rfl) (fun K hK => ?_); go_simp; (refine (mixed_any x2 17 19 10 (by omega) (by omega) (by omega) _).mono ?_; rintro e w' ⟨rfl, rfl⟩); refine hK.out _ _ hS ?_; clear hK K)
      iterate 1 (refine plan_read rfl (by rfl) (v := ?_) ?_ ?_; rotate_left 1; (intro W hW; (try dsimp only at hW); obtain ⟨hW0, hW1⟩ := hW; go_simp <;> with_reducible rfl); simp only [List.getElem_toArray, List.getElem_cons_zero, List.getElem_cons_succ, Act.put, List.setIfInBounds_toArray, List.set_cons_zero, List.set_cons_succ])
      (refine plan_make_of rfl (by rfl) (fun K hK => ?_); go_simp; (refine (mixed_any x15 7 18 3 (by omega) (by omega) (by omega) _).mono ?_; rintro e w' ⟨rfl, rfl⟩); refine hK.out _ _ hS ?_; clear hK K)
      iterate 3 (refine plan_read rfl (by rfl) (v := ?_) ?_ ?_; rotate_left 1; (intro W hW; (try dsimp only at hW); obtain ⟨hW0, hW1⟩ := hW; go_simp <;> with_reducible rfl); simp only [List.getElem_toArray, List.getElem_cons_zero, List.getElem_cons_succ, Act.put, List.setIfInBounds_toArray, List.set_cons_zero, List.set_cons_succ])
      clear j2 j7 j15 j16 m2 m7 m15 m16 k2 k7 k15 k16 l2 l7 l15 l16 t2 t7 t15 t16
      refine plan_make_of rfl (by rfl) (fun K hK => ?_)
      go_simp
      refine hK.out _ _ (hS.set hn1 _) ?_
      clear hK K hcn hfz
      refine plan_done ?_
      refine at_world (Q := _) (fun W => SpreadRel W0 w (.int .i64 ((n : Int) + 1)) W) (spread_round hlt HK HX hR1.drew hR0.drew hB.drew) ?_
      intro W HR
      replace HR := Lib.hid HR
      clear hR1 hR0 hB hS HX
      go_wp2_with fail
      go_roundw
      case rel => exact HR.out
      case measure => simp [intOf]; omega
    · have hk48 : k = 48 := by omega
      subst hk48
      have h64 : (moreW 48 W0).length = 64 := by rw [moreW_length, H16.out]
      have HR : Hid (moreW 48 (wordsL b) = moreW 48 W0) := by unfold Hid; rw [HE.out]
      rw [schedL_end] at hR1
      generalize moreW 48 W0 = L at hR1 h64 HR
      have H64 := Lib.hid h64
      have hmo := map_one vW_one L
      have HMO := Lib.hid hmo
      clear h64 hmo
      go_wp2_with (first
        | (with_reducible refine wpList_load_part rfl 60 (.tmp 3) rfl (w.heap.size + 1) 0 rfl _ _ hR1 (L.map vW) List.take_length _ Tryd.underlying60 rfl (by rw [List.length_map, H64.out]; kernel_rfl) ?_)
        | (with_reducible refine wpList_store_row rfl 60 (.tmp 2) (.tmp 36) rfl w.heap.size rfl (L.map vW) rfl _ _ hR0 (by rw [List.length_map, H64.out]; kernel_rfl) (by simp [H64.out]) HMO.out ?_))
      refine bodyPost_ret (results_cell_row (p := 2) (ty := 60) rfl _ _ w.heap.size 60 (L.map vW).toArray (0, 0) _ rfl (hR0.setRow _) Tryd.underlying60 rfl (by rw [List.size_toArray, List.length_map, H64.out]; kernel_rfl)) rfl ⟨by rw [HR.out], below_setRow hB (Nat.le_refl _) _⟩
end
end Go.Proofs.YtdokbhcoekffpaaDoor
