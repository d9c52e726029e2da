/-
  What the program's call spread of layer 2 answers: a block's sixteen words, and 48 more. No conditions but those typed.
-/
import Derived.Test.YtcejbofdgljemaaDoorR1
import Derived.Lib.AppendZeros
import Derived.Deep.Cut
import Derived.Deep.DeepCutAuto
import Derived.Laws.Concat
import Derived.Laws.Strings
namespace Go.Proofs.YtcejbofdgljemaaDoor
set_option maxRecDepth 100000
open Go.RowKit
set_option linter.unusedSimpArgs false

theorem words_64 (b : List UInt8) (A : Option Addr) (c : Nat) (w : World) (H : Hid (b.length = 64)) (hr : Rd vB w A b) (hc : 64 ≤ c) : Calls Tryd.prog 54 #[.slice A 64 c] w (RetS vW w (wordsL b)) := by
  have h := H.out
  have := words_any b A c w hr (by omega) (by omega)
  rwa [h] at this
theorem wordsL_64 (b : List UInt8) (h : b.length = 64) : (wordsL b).length = 16 := by
  have := congrArg List.length (bytesL_wordsL b)
  rw [bytesL_length, List.length_take, h] at this
  omega

/-- The words that are there, and as many zeros as are still to come. -/
def schedL (W0 : List UInt32) (k : Nat) : List UInt32 := moreW k W0 ++ List.replicate (48 - k) 0
theorem schedL_length (W0 : List UInt32) (k : Nat) (h : W0.length = 16) (hk : k ≤ 48) : (schedL W0 k).length = 64 := by
  rw [schedL, List.length_append, moreW_length, List.length_replicate]
  omega
theorem schedL_next (W0 : List UInt32) (k : Nat) (h : W0.length = 16) (hk : k < 48) : (schedL W0 k).set (16 + k) (nextW (moreW k W0)) = schedL W0 (k + 1) := by
  have e : (moreW k W0).length = 16 + k := by rw [moreW_length, h]
  unfold schedL
  rw [List.set_append_right _ _ (by omega), e, Nat.sub_self, moreW, show 48 - k = (48 - (k + 1)) + 1 by omega, List.replicate_succ, List.set_cons_zero]
  simp
theorem schedL_at (W0 : List UInt32) (k j : Nat) (h : W0.length = 16) (hj : j < 16 + k) : ((schedL W0 k).map vW)[j]? = some (.int .u32 (((moreW k W0).getD j 0).toNat : Int)) := by
  have e : (moreW k W0).length = 16 + k := by rw [moreW_length, h]
  rw [schedL, List.map_append, List.getElem?_append_left (by simp; omega)]
  simp [List.getD, e, hj, vW]
theorem schedL_zero (W0 : List UInt32) : schedL W0 0 = W0 ++ List.replicate 48 0 := rfl
theorem schedL_end (W0 : List UInt32) : schedL W0 48 = moreW 48 W0 := by simp [schedL]

def SpreadRel (W0 : List UInt32) (w : World) (i : Value) (wr : World) : Prop :=
  ∃ k : Nat, k ≤ 48 ∧ i = .int .i64 ((16 + k : Nat) : Int) ∧ Row wr (w.heap.size + 1) 128 ((schedL W0 k).map vW) ∧ Row wr w.heap.size 128 (List.replicate 64 (.int .u32 0)) ∧ Below w.heap.size w wr

/-- What a round reads. -/
def SprS (g n : Nat) (x2 x7 x15 x16 : UInt32) (W : World) : Prop :=
  W.cell? ⟨g, n - 2, none⟩ = some (.int .u32 (x2.toNat : Int)) ∧ W.cell? ⟨g, n - 7, none⟩ = some (.int .u32 (x7.toNat : Int)) ∧ W.cell? ⟨g, n - 15, none⟩ = some (.int .u32 (x15.toNat : Int)) ∧ W.cell? ⟨g, n - 16, none⟩ = some (.int .u32 (x16.toNat : Int))

theorem SprS.set {g n : Nat} {x2 x7 x15 x16 : UInt32} {w : World} (hn : 16 ≤ n) (h : SprS g n x2 x7 x15 x16 w) (v : Value) : SprS g n x2 x7 x15 x16 (w.setCell ⟨g, n, none⟩ v) := by
  obtain ⟨h1, h2, h3, h4⟩ := h
  have e : ∀ j, j < n → (w.setCell ⟨g, n, none⟩ v).cell? ⟨g, j, none⟩ = w.cell? ⟨g, j, none⟩ := fun j hj => World.cell?_setCell_other _ _ _ _ (by intro e; injection e with _ e2 _; omega)
  exact ⟨(e _ (by omega)).trans h1, (e _ (by omega)).trans h2, (e _ (by omega)).trans h3, (e _ (by omega)).trans h4⟩
theorem spread_round {W0 : List UInt32} {w wr : World} {k n : Nat} {y : UInt32} (hk : k < 48) (HK : Hid (n = 16 + k)) (HX : Hid ((schedL W0 k).set n y = schedL W0 (k + 1))) (hR1 : Row wr (w.heap.size + 1) 128 ((schedL W0 k).map vW))
    (hR0 : Row wr w.heap.size 128 (List.replicate 64 (.int .u32 0))) (hB : Below w.heap.size w wr) : SpreadRel W0 w (.int .i64 ((n : Int) + 1)) (wr.setCell ⟨w.heap.size + 1, n, none⟩ (.int .u32 (y.toNat : Int))) := by
  have e := HK.out
  refine ⟨k + 1, by omega, by congr 1; omega, ?_, hR0.setCell_other (by simp) _, hB.setCell (by simp) _⟩
  rw [← HX.out, List.map_set]
  exact hR1.setCell n _

section
attribute [local go_sem] u32_add_w u32_add_m u32_mod_w u32_wrap_w
set_option maxRecDepth 100000 in
set_option maxHeartbeats 600000 in
theorem spread_any (b : List UInt8) (A : Option Addr) (c : Nat) (w : World) (HL : Hid (b.length = 64)) (hr : Rd vB w A b) (hc : 64 ≤ c) :
    Calls Tryd.prog 50 #[.slice A 64 c] w fun e w' => e = .returned (.agg ((moreW 48 (wordsL b)).map vW).toArray) ∧ Below w.heap.size w w' := by
  have H16 := Lib.hid (wordsL_64 b HL.out)
  go_enter Tryd.func50, Tryd.ntmps50
  go_wp2_with fail
  refine at_world (Q := Code.wp _ _ _ _) (fun W => Row W w.heap.size 128 (List.replicate 64 (.int .u32 0)) ∧ Row W (w.heap.size + 1) 128 (List.replicate 64 (.int .u32 0)) ∧ Below w.heap.size w W)
    ⟨(Row.new w _ _ _ rfl).alloc _, Row.new_at _ _ (by simp) _ _ _ rfl, below_new (below_new (Below.refl _ _) _) _⟩ ?_
  rintro W ⟨hR0, hR1, hB⟩
  have hrW := hr.keep hB
  clear hr
  refine wp_region_plan_at w.heap.size (.step 0 false (.step 1 false (.step 2 true (.step 3 true (.nil))))) (by kernel_rfl) (by kernel_rfl) (by rfl) (by kernel_rfl) ?_
  have hBase : Below w.heap.size W W.drew := (Below.refl _ _).drew
  iterate 2 (refine plan_read rfl (by rfl) (v := ?_) ?_ ?_; rotate_left 1; (intro W hW; have hW0 := Below.trans hBase hW; (try dsimp only at hW); go_simp <;> with_reducible rfl); simp only [List.getElem_toArray, List.getElem_cons_zero, List.getElem_cons_succ, Act.put, List.setIfInBounds_toArray, List.set_cons_zero, List.set_cons_succ])
  refine plan_make_at rfl (by rfl) (fun K hK => ?_)
  go_simp
  refine (words_64 b _ _ _ HL (by exact hrW) hc).mono ?_
  rintro e w1 ⟨A1, c1, rfl, hc1, hr1, hb1⟩
  refine hK.out _ _ (hb1.mono hB.size) ?_
  clear hK K
  replace hR0 := hR0.drew.later hb1
  replace hR1 := hR1.drew.later hb1
  replace hB := below_step hB.drew hb1
  clear hb1 hrW hBase W
  obtain ⟨W0, e⟩ : ∃ W0, W0 = wordsL b := ⟨_, rfl⟩
  have HE : Hid (wordsL b = W0) := e.symm
  rw [← e] at H16 hr1 hc1 ⊢
  clear e
  refine plan_make_at rfl (by rfl) (fun K hK => ?_)
  refine wp_copy_row (.tmp 5) (.tmp 7) 107 107 (by rfl) 99 Tryd.underlying107 (by kernel_rfl) (w.heap.size + 1) 0 64 64 A1 W0 c1 (by rfl) (by rfl) _ _ hR1 hr1 vW_one (by have := H16.out; omega) (by have := H16.out; simp; omega) ?_
  simp only [List.getElem_toArray, List.getElem_cons_zero, List.getElem_cons_succ, Act.put, List.setIfInBounds_toArray, List.set_cons_zero, List.set_cons_succ]
  refine hK.out _ _ (below_setRow (Below.refl _ _) (by omega) _) ?_
  clear hK K
  refine plan_done ?_
  refine at_world (Q := _) (fun W => Row W w.heap.size 128 (List.replicate 64 (.int .u32 0)) ∧ Row W (w.heap.size + 1) 128 ((schedL W0 0).map vW) ∧ Below w.heap.size w W)
    ⟨hR0.setRow_other (by omega) _, ?_, below_setRow hB (by omega) _⟩ ?_
  · have e : (List.replicate 64 (Value.int .u32 0)).take 0 ++ W0.map vW ++ (List.replicate 64 (Value.int .u32 0)).drop (0 + W0.length) = (schedL W0 0).map vW := by
      rw [H16.out, schedL_zero, List.map_append, List.map_replicate]
      rfl
    rw [e]
    exact hR1.setRow _
  clear hR0 hR1 hB hr1
  rintro W ⟨hR0, hR1, hB⟩
  go_wp2_with fail
  go_loopw [4] (fun i wr => SpreadRel W0 w i wr) (fun i _ => 64 - (intOf i).toNat)
  case atStart => exact ⟨0, by omega, rfl, hR1, hR0, hB⟩
  case round =>
    clear hR0 hR1 hB
    obtain ⟨k, hk, rfl, hR1, hR0, hB⟩ := hrel
    by_cases hlt : k < 48
    · have h16 := H16.out
      have HN : Hid (nextW (moreW k W0) = addW (addW (addW (sig1 ((moreW k W0).getD (16 + k - 2) 0)) ((moreW k W0).getD (16 + k - 7) 0)) (sig0 ((moreW k W0).getD (16 + k - 15) 0))) ((moreW k W0).getD (16 + k - 16) 0)) := by unfold Hid nextW; rw [moreW_length, h16]
      have h15 := hR1.cell (schedL_at W0 k (16 + k - 15) h16 (by omega))
      have h2 := hR1.cell (schedL_at W0 k (16 + k - 2) h16 (by omega))
      have h7 := hR1.cell (schedL_at W0 k (16 + k - 7) h16 (by omega))
      have hh16 := hR1.cell (schedL_at W0 k (16 + k - 16) h16 (by omega))
      have HX : Hid ((schedL W0 k).set (16 + k) (nextW (moreW k W0)) = schedL W0 (k + 1)) := schedL_next W0 k h16 hlt
      have HLn : Hid ((schedL W0 k).length = 64) := schedL_length W0 k h16 hk
      rw [HN.out] at HX
      obtain ⟨n, hn⟩ : ∃ n, n = 16 + k := ⟨_, rfl⟩
      have HK := Lib.hid hn
      rw [← hn] at h15 h2 h7 hh16 HX ⊢
      have hn1 : 16 ≤ n := by omega
      have hn2 : n < 64 := by omega
      clear hn h16 HN
      generalize (moreW k W0).getD (n - 15) 0 = x15 at h15 HX
      generalize (moreW k W0).getD (n - 2) 0 = x2 at h2 HX
      generalize (moreW k W0).getD (n - 7) 0 = x7 at h7 HX
      generalize (moreW k W0).getD (n - 16) 0 = x16 at hh16 HX
      have HS1 : Hid (sig1 x2 = xorW (xorW (rotR x2 17) (rotR x2 19)) (dn x2 10)) := rfl
      have HS0 : Hid (sig0 x15 = xorW (xorW (rotR x15 7) (rotR x15 18)) (dn x15 3)) := rfl
      have hcn : wr.cell? ⟨w.heap.size + 1, n, none⟩ = some (((schedL W0 k).map vW).getD n undef) := hR1.cell (by have := HLn.out; simp [List.getD, this, hn2])
      have hfz : wr.frozen? ⟨w.heap.size + 1, n, none⟩ = false := hR1.frozen n
      have j2 : IntKind.i64.wrap ((n : Int) - 2) = (n : Int) - 2 := by rw [IntKind.wrap_i64]; omega
      have j7 : IntKind.i64.wrap ((n : Int) - 7) = (n : Int) - 7 := by rw [IntKind.wrap_i64]; omega
      have j15 : IntKind.i64.wrap ((n : Int) - 15) = (n : Int) - 15 := by rw [IntKind.wrap_i64]; omega
      have j16 : IntKind.i64.wrap ((n : Int) - 16) = (n : Int) - 16 := by rw [IntKind.wrap_i64]; omega
      have m2 : (2 : Int) ≤ (n : Int) := by omega
      have m7 : (7 : Int) ≤ (n : Int) := by omega
      have m15 : (15 : Int) ≤ (n : Int) := by omega
      have m16 : (16 : Int) ≤ (n : Int) := by omega
      have k2 : (0 : Int) ≤ (n : Int) - 2 := by omega
      have k7 : (0 : Int) ≤ (n : Int) - 7 := by omega
      have k15 : (0 : Int) ≤ (n : Int) - 15 := by omega
      have k16 : (0 : Int) ≤ (n : Int) - 16 := by omega
      have l0 : (n : Int) < 64 := by omega
      have l2 : (n : Int) - 2 < 64 := by omega
      have l7 : (n : Int) - 7 < 64 := by omega
      have l15 : (n : Int) - 15 < 64 := by omega
      have l16 : (n : Int) - 16 < 64 := by omega
      have t2 : ((n : Int) - 2).toNat = n - 2 := by omega
      have t7 : ((n : Int) - 7).toNat = n - 7 := by omega
      have t15 : ((n : Int) - 15).toNat = n - 15 := by omega
      have t16 : ((n : Int) - 16).toNat = n - 16 := by omega
      have p0 : (0 : Int) ≤ (n : Int) := by omega
      have hS : SprS (w.heap.size + 1) n x2 x7 x15 x16 wr.drew := ⟨h2, h7, h15, hh16⟩
      clear h2 h7 h15 hh16
      go_wp2_with fail
      refine wp_region_plan_of (SprS (w.heap.size + 1) n x2 x7 x15 x16) (.step 0 false (.step 1 false (.step 2 false (.step 3 false (.step 4 false (.step 6 false (.step 7 false (.step 8 false (.step 9 false (.step 11 false (.step 12 false (.step 13 false (.step 14 false (.step 17 false (.step 18 false (.step 19 false (.step 20 false (.step 5 true (.step 10 false (.step 15 true (.step 16 false (.step 21 false (.step 22 false (.step 23 true (.nil))))))))))))))))))))))))) hS (by kernel_rfl) (by kernel_rfl) (by rfl) (by kernel_rfl) ?_
      iterate 17 (refine plan_read rfl (by rfl) (v := ?_) ?_ ?_; rotate_left 1; (intro W hW; (try dsimp only at hW); obtain ⟨hW0, hW1⟩ := hW; go_simp <;> with_reducible rfl); simp only [List.getElem_toArray, List.getElem_cons_zero, List.getElem_cons_succ, Act.put, List.setIfInBounds_toArray, List.set_cons_zero, List.set_cons_succ])
      (refine plan_make_of rfl (by rfl) (fun K hK => ?_); go_simp; (refine (mixed_any x2 17 19 10 (by omega) (by omega) (by omega) _).mono ?_; rintro e w' ⟨rfl, rfl⟩); refine hK.out _ _ hS ?_; clear hK K)
      iterate 1 (refine plan_read rfl (by rfl) (v := ?_) ?_ ?_; rotate_left 1; (intro W hW; (try dsimp only at hW); obtain ⟨hW0, hW1⟩ := hW; go_simp <;> with_reducible rfl); simp only [List.getElem_toArray, List.getElem_cons_zero, List.getElem_cons_succ, Act.put, List.setIfInBounds_toArray, List.set_cons_zero, List.set_cons_succ])
      (refine plan_make_of rfl (by rfl) (fun K hK => ?_); go_simp; (refine (mixed_any x15 7 18 3 (by omega) (by omega) (by omega) _).mono ?_; rintro e w' ⟨rfl, rfl⟩); refine hK.out _ _ hS ?_; clear hK K)
      iterate 3 (refine plan_read rfl (by rfl) (v := ?_) ?_ ?_; rotate_left 1; (intro W hW; (try dsimp only at hW); obtain ⟨hW0, hW1⟩ := hW; go_simp <;> with_reducible rfl); simp only [List.getElem_toArray, List.getElem_cons_zero, List.getElem_cons_succ, Act.put, List.setIfInBounds_toArray, List.set_cons_zero, List.set_cons_succ])
      clear j2 j7 j15 j16 m2 m7 m15 m16 k2 k7 k15 k16 l2 l7 l15 l16 t2 t7 t15 t16
      refine plan_make_of rfl (by rfl) (fun K hK => ?_)
      go_simp
      refine hK.out _ _ (hS.set hn1 _) ?_
      clear hK K hcn hfz
      refine plan_done ?_
      refine at_world (Q := _) (fun W => SpreadRel W0 w (.int .i64 ((n : Int) + 1)) W) (spread_round hlt HK HX hR1.drew hR0.drew hB.drew) ?_
      intro W HR
      replace HR := Lib.hid HR
      clear hR1 hR0 hB hS HX
      go_wp2_with fail
      go_roundw
      case rel => exact HR.out
      case measure => simp [intOf]; omega
    · have hk48 : k = 48 := by omega
      subst hk48
      have h64 : (moreW 48 W0).length = 64 := by rw [moreW_length, H16.out]
      have HR : Hid (moreW 48 (wordsL b) = moreW 48 W0) := by unfold Hid; rw [HE.out]
      rw [schedL_end] at hR1
      generalize moreW 48 W0 = L at hR1 h64 HR
      have H64 := Lib.hid h64
      have hmo := map_one vW_one L
      have HMO := Lib.hid hmo
      clear h64 hmo
      go_wp2_with (first
        | (with_reducible refine wpList_load_part rfl 128 (.tmp 3) rfl (w.heap.size + 1) 0 rfl _ _ hR1 (L.map vW) List.take_length _ Tryd.underlying128 rfl (by rw [List.length_map, H64.out]; kernel_rfl) ?_)
        | (with_reducible refine wpList_store_row rfl 128 (.tmp 2) (.tmp 36) rfl w.heap.size rfl (L.map vW) rfl _ _ hR0 (by rw [List.length_map, H64.out]; kernel_rfl) (by simp [H64.out]) HMO.out ?_))
      refine bodyPost_ret (results_cell_row (p := 2) (ty := 128) rfl _ _ w.heap.size 128 (L.map vW).toArray (0, 0) _ rfl (hR0.setRow _) Tryd.underlying128 rfl (by rw [List.size_toArray, List.length_map, H64.out]; kernel_rfl)) rfl ⟨by rw [HR.out], below_setRow hB (Nat.le_refl _) _⟩
end
end Go.Proofs.YtcejbofdgljemaaDoor
/-
  What the program's call behind of layer 2 answers: the state behind a block of 64 bytes. Condition: the package's table holds the sixty-four constants.
-/
namespace Go.Proofs.YtcejbofdgljemaaDoor
set_option maxRecDepth 100000
open Go.RowKit
set_option linter.unusedSimpArgs false

/-- The package's table. -/
def KTab [Inhabited Tab] (w : World) : Prop := ∀ i, i < 64 → w.cell? ⟨1, i, none⟩ = some (.int .u32 ((kT.getD i 0).toNat : Int))
theorem KTab.keep [Inhabited Tab] {w w' : World} (h : KTab w) (hb : Below w.heap.size w w') : KTab w' := fun i hi => by
  rw [hb.cell (p := ⟨1, i, none⟩) (World.block_lt_of_cell? w _ (h i hi))]
  exact h i hi
theorem KTab.drew [Inhabited Tab] {w : World} (h : KTab w) : KTab w.drew := h
theorem KTab.lt [Inhabited Tab] {w : World} (h : KTab w) : 1 < w.heap.size := World.block_lt_of_cell? w _ (h 0 (by omega))
def kcS (n : Nat) (kc : UInt32) (W : World) : Prop := W.cell? ⟨1, n, none⟩ = some (.int .u32 (kc.toNat : Int)) ∧ True

theorem run_index_agg {P : Program} (w : World) (t e : TypeId) (n : Nat) (cs : Array Value) (i : Nat) (v : Value) (ht : P.underlying t = some (.array n e)) (hz : (sizeOf e).run P w = .ok 1 w) (ha : (isAgg e).run P w = .ok false w) (hi : i < n) (hc : cs[i]? = some v) :
    (Instr.index t (.agg cs) (.int .i64 (i : Int))).run P w = .ok v w := by
  have h1 : (0 : Int) ≤ (i : Int) ∧ (i : Int) < (n : Int) := by omega
  simp [Instr.index, asIntOf, Sem.run_bind, run_underlying ht, h1, hz, part, ha, hc]
  omega

theorem size_st : (Tryd.prog.info? 100).map (·.size) = some 8 := by kernel_rfl
theorem one_st (a b c d e f g h : UInt32) : ∀ v ∈ [Value.int .u32 (a.toNat : Int), .int .u32 (b.toNat : Int), .int .u32 (c.toNat : Int), .int .u32 (d.toNat : Int), .int .u32 (e.toNat : Int), .int .u32 (f.toNat : Int), .int .u32 (g.toNat : Int), .int .u32 (h.toNat : Int)], v.oneCell' = true := map_one vW_one [a, b, c, d, e, f, g, h]

/-- A call that hands back a state. -/
def RetSt (w : World) (s : St) (e : Ending) (w' : World) : Prop := ∃ S : St, Hid (S = s) ∧ e = .returned (.agg #[.int .u32 (S.a.toNat : Int), .int .u32 (S.b.toNat : Int), .int .u32 (S.c.toNat : Int), .int .u32 (S.d.toNat : Int), .int .u32 (S.e.toNat : Int), .int .u32 (S.f.toNat : Int), .int .u32 (S.g.toNat : Int), .int .u32 (S.h.toNat : Int)]) ∧ Below w.heap.size w w'

section
attribute [local go_sem] u32_add_w u32_add_m u32_mod_w u32_wrap_w
set_option maxRecDepth 100000 in
set_option maxHeartbeats 1000000 in
theorem behind_any [Inhabited Tab] (s : St) (b : List UInt8) (A : Option Addr) (c : Nat) (w : World) (HL : Hid (b.length = 64)) (hr : Rd vB w A b) (hc : 64 ≤ c) (HK : Hid (KTab w)) :
    Calls Tryd.prog 48 #[.agg #[.int .u32 (s.a.toNat : Int), .int .u32 (s.b.toNat : Int), .int .u32 (s.c.toNat : Int), .int .u32 (s.d.toNat : Int), .int .u32 (s.e.toNat : Int), .int .u32 (s.f.toNat : Int), .int .u32 (s.g.toNat : Int), .int .u32 (s.h.toNat : Int)], .slice A 64 c] w (RetSt w (s.block b)) := by
  have HB : Hid (s.block b = s.plus (St.rounds (moreW 48 (wordsL b)) 64 s)) := rfl
  have h64 : (moreW 48 (wordsL b)).length = 64 := by rw [moreW_length, wordsL_64 b HL.out]
  go_enter Tryd.func48, Tryd.ntmps48
  go_wp2_with fail
  refine at_world (Q := Code.wp _ _ _ _) (fun W => Row W w.heap.size 100 [.int .u32 (s.a.toNat : Int), .int .u32 (s.b.toNat : Int), .int .u32 (s.c.toNat : Int), .int .u32 (s.d.toNat : Int), .int .u32 (s.e.toNat : Int), .int .u32 (s.f.toNat : Int), .int .u32 (s.g.toNat : Int), .int .u32 (s.h.toNat : Int)] ∧ Row W (w.heap.size + 1) 100 (List.replicate 8 (.int .u32 0)) ∧ Below w.heap.size w W)
    ⟨(Row.new w _ _ _ rfl).alloc _, Row.new_at _ _ (by simp) _ _ _ rfl, below_new (below_new (Below.refl _ _) _) _⟩ ?_
  rintro W ⟨hR0, hR1, hB⟩
  have st0 : ∀ W', Below W.heap.size W W' → W'.cell? ⟨w.heap.size, 0, none⟩ = some (.int .u32 (s.a.toNat : Int)) := fun W' h => (hR0.later h).cell rfl
  have st1 : ∀ W', Below W.heap.size W W' → W'.cell? ⟨w.heap.size, 1, none⟩ = some (.int .u32 (s.b.toNat : Int)) := fun W' h => (hR0.later h).cell rfl
  have st2 : ∀ W', Below W.heap.size W W' → W'.cell? ⟨w.heap.size, 2, none⟩ = some (.int .u32 (s.c.toNat : Int)) := fun W' h => (hR0.later h).cell rfl
  have st3 : ∀ W', Below W.heap.size W W' → W'.cell? ⟨w.heap.size, 3, none⟩ = some (.int .u32 (s.d.toNat : Int)) := fun W' h => (hR0.later h).cell rfl
  have hBase : Below W.heap.size W W.drew := (Below.refl _ _).drew
  refine wp_region_plan (.step 0 false (.step 1 false (.step 2 false (.step 3 false (.step 4 false (.step 5 false (.step 6 false (.step 7 false (.step 8 false (.step 9 false (.step 10 false (.step 11 false (.nil))))))))))))) (by kernel_rfl) (by kernel_rfl) (by rfl) (by kernel_rfl) ?_
  iterate 12 (refine plan_read rfl (by rfl) (v := ?_) ?_ ?_; rotate_left 1; (intro W hW; have hW0 := below_step hBase hW; (try dsimp only at hW); go_simp <;> with_reducible rfl); simp only [List.getElem_toArray, List.getElem_cons_zero, List.getElem_cons_succ, Act.put, List.setIfInBounds_toArray, List.set_cons_zero, List.set_cons_succ])
  refine plan_done ?_
  clear st0 st1 st2 st3 hBase
  go_wp2_with fail
  have st4 : ∀ W', Below W.heap.size W W' → W'.cell? ⟨w.heap.size, 4, none⟩ = some (.int .u32 (s.e.toNat : Int)) := fun W' h => (hR0.later h).cell rfl
  have st5 : ∀ W', Below W.heap.size W W' → W'.cell? ⟨w.heap.size, 5, none⟩ = some (.int .u32 (s.f.toNat : Int)) := fun W' h => (hR0.later h).cell rfl
  have st6 : ∀ W', Below W.heap.size W W' → W'.cell? ⟨w.heap.size, 6, none⟩ = some (.int .u32 (s.g.toNat : Int)) := fun W' h => (hR0.later h).cell rfl
  have st7 : ∀ W', Below W.heap.size W W' → W'.cell? ⟨w.heap.size, 7, none⟩ = some (.int .u32 (s.h.toNat : Int)) := fun W' h => (hR0.later h).cell rfl
  have hBase : Below W.heap.size W W.drew.drew := (Below.refl _ _).drew.drew
  refine wp_region_plan (.step 0 false (.step 1 false (.step 2 false (.step 3 false (.step 4 false (.step 5 false (.step 6 false (.step 7 false (.step 8 false (.step 9 false (.step 10 false (.step 11 false (.nil))))))))))))) (by kernel_rfl) (by kernel_rfl) (by rfl) (by kernel_rfl) ?_
  iterate 12 (refine plan_read rfl (by rfl) (v := ?_) ?_ ?_; rotate_left 1; (intro W hW; have hW0 := below_step hBase hW; (try dsimp only at hW); go_simp <;> with_reducible rfl); simp only [List.getElem_toArray, List.getElem_cons_zero, List.getElem_cons_succ, Act.put, List.setIfInBounds_toArray, List.set_cons_zero, List.set_cons_succ])
  refine plan_done ?_
  clear st4 st5 st6 st7 hBase
  go_wp2_with fail
  refine (spread_any b _ _ _ HL (by exact hr.keep hB.drew.drew) hc).mono ?_
  rintro e wx ⟨rfl, hbx⟩
  replace hR0 := hR0.drew.drew.later hbx
  replace hR1 := hR1.drew.drew.later hbx
  replace hB := below_step hB.drew.drew hbx
  have HKx := Lib.hid (HK.out.keep hB)
  generalize moreW 48 (wordsL b) = L at h64 HB
  have H64 := Lib.hid h64
  clear hbx h64 hr HK W
  go_wp2_with fail
  go_loopw [5, 6, 7, 8, 9, 10, 11, 12, 35] (fun a b c d e f g h i wr => RoundRel s L wx a b c d e f g h i wr) (fun _ _ _ _ _ _ _ _ i _ => 64 - (intOf i).toNat)
  case atStart => exact ⟨0, by omega, rfl, rfl, rfl, rfl, rfl, rfl, rfl, rfl, rfl, Below.refl _ _⟩
  case round =>
    obtain ⟨n, hn, rfl, rfl, rfl, rfl, rfl, rfl, rfl, rfl, rfl, hbr⟩ := hrel
    by_cases hlt : n < 64
    · have hkc : kcS n (kT.getD n 0) wr.drew := ⟨(HKx.out.keep hbr) n hlt, trivial⟩
      have HS : Hid (St.rounds L (n + 1) s = (St.rounds L n s).round (kT.getD n 0) (L.getD n 0)) := rfl
      generalize St.rounds L n s = S at HS
      have HS2 : Hid (∀ wr, Below wx.heap.size wx wr → RoundRel s L wx (.int .u32 ((addW (tW S (kT.getD n 0) (L.getD n 0)) (uW S)).toNat : Int)) (.int .u32 (S.a.toNat : Int)) (.int .u32 (S.b.toNat : Int)) (.int .u32 (S.c.toNat : Int)) (.int .u32 ((addW S.d (tW S (kT.getD n 0) (L.getD n 0))).toNat : Int)) (.int .u32 (S.e.toNat : Int)) (.int .u32 (S.f.toNat : Int)) (.int .u32 (S.g.toNat : Int)) (.int .i64 ((n : Int) + 1)) wr) := fun wr hb => round_next hlt HS hb
      clear HS
      generalize kT.getD n 0 = kc at hkc HS2
      have hix : ∀ W, (Instr.index 128 (.agg (L.map vW).toArray) (.int .i64 (n : Int))).run Tryd.prog W = .ok (.int .u32 ((L.getD n 0).toNat : Int)) W := fun W => run_index_agg W _ 99 64 _ n _ Tryd.underlying128 (by kernel_rfl) (by kernel_rfl) hlt (by have := H64.out; simp [List.getD, this, hlt, vW])
      generalize L.getD n 0 = x at hix HS2
      obtain ⟨sa, sb, sc, sd, se, sf, sg, sh⟩ := S
      dsimp only at HS2 ⊢
      have i0' : (0 : Int) ≤ (n : Int) := by omega
      have i1' : (n : Int) < 64 := by omega
      have hS := hkc
      clear hkc
      go_wp2_with fail
      refine wp_region_plan_of (kcS n kc) (.step 0 false (.step 1 false (.step 4 false (.step 5 false (.step 6 false (.step 9 false (.step 10 false (.step 11 false (.step 13 false (.step 2 true (.step 3 false (.step 7 true (.step 8 false (.step 12 false (.step 14 false (.step 15 false (.nil))))))))))))))))) hS (by kernel_rfl) (by kernel_rfl) (by rfl) (by kernel_rfl) ?_
      iterate 9 (refine plan_read rfl (by rfl) (v := ?_) ?_ ?_; rotate_left 1; (intro W hW; (try dsimp only at hW); obtain ⟨hW0, hW1⟩ := hW; go_simp <;> with_reducible rfl); simp only [List.getElem_toArray, List.getElem_cons_zero, List.getElem_cons_succ, Act.put, List.setIfInBounds_toArray, List.set_cons_zero, List.set_cons_succ])
      (refine plan_make_of rfl (by rfl) (fun K hK => ?_); go_simp; (refine (turned_any se 6 11 25 (by omega) (by omega) (by omega) _).mono ?_; rintro e w' ⟨rfl, rfl⟩); refine hK.out _ _ hS ?_; clear hK K)
      iterate 1 (refine plan_read rfl (by rfl) (v := ?_) ?_ ?_; rotate_left 1; (intro W hW; (try dsimp only at hW); obtain ⟨hW0, hW1⟩ := hW; go_simp <;> with_reducible rfl); simp only [List.getElem_toArray, List.getElem_cons_zero, List.getElem_cons_succ, Act.put, List.setIfInBounds_toArray, List.set_cons_zero, List.set_cons_succ])
      (refine plan_make_of rfl (by rfl) (fun K hK => ?_); go_simp; (refine (choice_any se sf sg _).mono ?_; rintro e w' ⟨rfl, rfl⟩); refine hK.out _ _ hS ?_; clear hK K)
      iterate 4 (refine plan_read rfl (by rfl) (v := ?_) ?_ ?_; rotate_left 1; (intro W hW; (try dsimp only at hW); obtain ⟨hW0, hW1⟩ := hW; go_simp <;> with_reducible rfl); simp only [List.getElem_toArray, List.getElem_cons_zero, List.getElem_cons_succ, Act.put, List.setIfInBounds_toArray, List.set_cons_zero, List.set_cons_succ])
      refine plan_done ?_
      clear hS hix
      go_wp2_with fail
      refine (turned_any sa 2 13 22 (by omega) (by omega) (by omega) _).mono ?_
      rintro e w' ⟨rfl, rfl⟩
      go_wp2_with fail
      refine (majority_any sa sb sc _).mono ?_
      rintro e w' ⟨rfl, rfl⟩
      have HR := Lib.hid (HS2.out _ hbr.drew)
      clear HS2 hbr
      go_wp2_with fail
      go_roundw
      case rel => first | exact HR.out | ((repeat apply Exists.intro); exact ⟨HR.out, rfl⟩)
      case measure => simp [intOf]; omega
    · have hn64 : n = 64 := by omega
      subst hn64
      have HE : Hid (s.block b = s.plus (St.rounds L 64 s)) := HB.out
      generalize St.rounds L 64 s = S at HE
      obtain ⟨sa, sb, sc, sd, se, sf, sg, sh⟩ := S
      dsimp only
      replace hR0 := hR0.later hbr
      replace hR1 := hR1.later hbr
      replace hB := below_step hB hbr
      have c0 : wr.cell? ⟨w.heap.size, 0, none⟩ = some (.int .u32 (s.a.toNat : Int)) := hR0.cell rfl
      have c1 : wr.cell? ⟨w.heap.size, 1, none⟩ = some (.int .u32 (s.b.toNat : Int)) := hR0.cell rfl
      have c2 : wr.cell? ⟨w.heap.size, 2, none⟩ = some (.int .u32 (s.c.toNat : Int)) := hR0.cell rfl
      have c3 : wr.cell? ⟨w.heap.size, 3, none⟩ = some (.int .u32 (s.d.toNat : Int)) := hR0.cell rfl
      have c4 : wr.cell? ⟨w.heap.size, 4, none⟩ = some (.int .u32 (s.e.toNat : Int)) := hR0.cell rfl
      have c5 : wr.cell? ⟨w.heap.size, 5, none⟩ = some (.int .u32 (s.f.toNat : Int)) := hR0.cell rfl
      have c6 : wr.cell? ⟨w.heap.size, 6, none⟩ = some (.int .u32 (s.g.toNat : Int)) := hR0.cell rfl
      have c7 : wr.cell? ⟨w.heap.size, 7, none⟩ = some (.int .u32 (s.h.toNat : Int)) := hR0.cell rfl
      clear hbr
      go_wp2_with (refine wpList_store_row rfl 100 (.tmp 4) (.tmp 106) rfl (w.heap.size + 1) rfl [.int .u32 ((addW s.a sa).toNat : Int), .int .u32 ((addW s.b sb).toNat : Int), .int .u32 ((addW s.c sc).toNat : Int), .int .u32 ((addW s.d sd).toNat : Int), .int .u32 ((addW s.e se).toNat : Int), .int .u32 ((addW s.f sf).toNat : Int), .int .u32 ((addW s.g sg).toNat : Int), .int .u32 ((addW s.h sh).toNat : Int)] rfl _ _ hR1 (by exact size_st) (by exact List.length_replicate) (by exact one_st _ _ _ _ _ _ _ _) ?_)
      refine bodyPost_ret (results_cell_row (p := 4) (ty := 100) (by rfl) _ _ (w.heap.size + 1) 100 _ (0, 0) _ (by rfl) (by exact hR1.setRow _) Tryd.underlying100 (by rfl) (by exact size_st)) (by rfl) ?_
      exact ⟨St.plus s ⟨sa, sb, sc, sd, se, sf, sg, sh⟩, HE.out.symm, rfl, below_setRow hB (by omega) _⟩
end
end Go.Proofs.YtcejbofdgljemaaDoor
/-
  What bytes.Clone, slices.Clone, slices.Grow (of nil) and slices.Concat answer at lists of bytes: new memory that reads as the bytes did. Conditions: bounds on lengths, as typed.
-/
namespace Go.Proofs.YtcejbofdgljemaaDoor
set_option maxRecDepth 100000
open Go.RowKit
set_option linter.unusedSimpArgs false

/-- What a call that hands back a slice in new memory says of it. -/
def RetN {α : Type} (f : α → Value) (w : World) (l : List α) (e : Ending) (w' : World) : Prop :=
  ∃ A cap, e = .returned (.slice A l.length cap) ∧ l.length ≤ cap ∧ Rd f w' A l ∧ (∀ a, A = some a → w.heap.size ≤ a.block) ∧ Below w.heap.size w w'
theorem RetN.own {α : Type} {f : α → Value} {w w' : World} {l : List α} {e : TypeId} {v : Value} (h : w'.ownsRow w.heap.size e 1 v l.length (l.map f)) (hb : Below w.heap.size w w') : RetN f w l (.returned v) w' := by
  rcases h.2 with ⟨rfl, h0⟩ | ⟨g, cap, cur, rfl, hg, _, hc, _⟩
  · have hl : l = [] := List.eq_nil_of_length_eq_zero h0
    subst hl
    exact ⟨none, 0, rfl, Nat.le_refl _, Rd.nil, (fun a h => by cases h), hb⟩
  · exact ⟨_, cap, rfl, hc, Rd.own h, (fun a ha => by injection ha with ha; subst ha; exact hg), hb⟩
theorem RetN.ret {α : Type} {f : α → Value} {w w' : World} {l : List α} {e : Ending} (h : RetN f w l e w') : RetS f w l e w' := by
  obtain ⟨A, cap, h1, h2, h3, _, h5⟩ := h
  exact ⟨A, cap, h1, h2, h3, h5⟩

theorem clone_own (b : List UInt8) (A : Option Addr) (c : Nat) (w : World) (hr : Rd vB w A b) (hl : b.length ≤ 70368744177664) : Calls Tryd.prog 33 #[.slice A b.length c] w (RetO 5 vB w b) := by
  obtain ⟨i0, hi, hz0, hz1, hz2⟩ := info_parts info_u8
  cases A with
  | none =>
    have hb : b = [] := by
      by_cases h : b = []
      · exact h
      · obtain ⟨_, _, e, _⟩ := hr h
        cases e
    subst hb
    have hnil : ∀ W, (binOp .eql 25 (.slice none 0 c) (.slice none 0 0)).run Tryd.prog W = .ok (.bool true) W := fun W => Lib.run_eql_slice_nil W _ _ none 0 c 0 0 Tryd.underlying25
    go_enter Tryd.func33, Tryd.ntmps33
    go_wp2_with fail
    go_ret
    exact ⟨_, rfl, World.ownsRow_nil _ _ _ _, Below.refl _ _⟩
  | some a =>
    have hnil : ∀ W, (binOp .eql 25 (.slice (some a) b.length c) (.slice none 0 0)).run Tryd.prog W = .ok (.bool false) W := fun W => Lib.run_eql_slice_nil W _ _ (some a) b.length c 0 0 Tryd.underlying25
    have hown0 : (w.alloc (.cells #[] 5)).ownsRow w.heap.size 5 1 (.slice (some ⟨w.heap.size, 0, none⟩) 0 0) 0 [] := World.ownsRow_made w #[] 0 (Nat.le_refl _) (by unfold maxLen; omega) rfl
    have hr0 : Rd vB (w.alloc (.cells #[] 5)) (some a) b := hr.keep (below_new (Below.refl _ _) _)
    go_enter Tryd.func33, Tryd.ntmps33
    go_wp2_with (at_builtin; refine wpList_append_rd _ rfl (.tmp 5) (.tmp 6) 25 rfl w.heap.size 5 i0 (.int .u8 0) 1 Tryd.underlying25 hi hz0 hz1 hz2 rfl _ _ _ rfl hown0 (some a) b c rfl hr0 vB_one (by unfold maxLen; omega) (by omega) (by simp) ?_; intro v1 w1 hown1 hgrow1)
    go_ret
    rw [Nat.zero_add, List.nil_append] at hown1
    exact ⟨_, rfl, hown1, (below_new (Below.refl _ w) _).grown hgrow1 (by simp) (fun k hk => (hown0.lt k hk).1)⟩
theorem clone_b (b : List UInt8) (A : Option Addr) (c : Nat) (w : World) (hr : Rd vB w A b) (hl : b.length ≤ 70368744177664) : Calls Tryd.prog 33 #[.slice A b.length c] w (RetN vB w b) :=
  (clone_own b A c w hr hl).mono fun e w' ⟨v, he, ho, hb⟩ => by subst he; exact RetN.own ho hb


theorem grow_nil (n : Nat) (w : World) (hn : n ≤ 140737488355328) : Calls Tryd.prog 34 #[.slice none 0 0, .int .i64 (n : Int)] w (RetO 5 vB w []) := by
  obtain ⟨i0, hi, hz0, hz1, hz2⟩ := info_parts info_u8
  by_cases h0 : n = 0
  · subst h0
    go_enter Tryd.func34, Tryd.ntmps34
    go_wp2_with fail
    go_ret
    exact ⟨_, rfl, World.ownsRow_nil _ _ _ _, Below.refl _ _⟩
  · have hp : (0 : Int) < (n : Int) := by omega
    have happ := Lib.run_append_nil_zeros (P := Tryd.prog) w 25 3 25 5 i0 (.int .u8 0) .i64 .i64 Tryd.underlying25 Tryd.underlying3 hi hz0 n (by omega) (by omega) (by omega) (by rw [hz2]; omega)
    have hge := grownCap_ge w n 0 5
    have hle := grownCap_le_maxLen w n 0 5 (by unfold maxLen; omega)
    generalize grownCap w n 0 5 = cap2 at happ hge hle
    have hZs : (Builtin.zeroCells (Value.int .u8 0).cells n ++ Builtin.zeroCells (Value.int .u8 0).cells (cap2 - n)).size = cap2 := by simp [size_zeroCells, Value.cells]; omega
    generalize (Builtin.zeroCells (Value.int .u8 0).cells n ++ Builtin.zeroCells (Value.int .u8 0).cells (cap2 - n)) = Z at happ hZs
    have HO : Hid ((w.drew.alloc (.cells Z 5)).ownsRow w.heap.size 5 1 (.slice (some ⟨w.heap.size, 0, none⟩) 0 cap2) 0 []) := World.ownsRow_made w.drew Z cap2 (Nat.le_refl _) hle (by rw [hZs, Nat.mul_one])
    have HB : Hid (Below w.heap.size w (w.drew.alloc (.cells Z 5))) := (Below.refl _ w).drew.alloc (Nat.le_refl _) _
    unfold maxLen at hle
    clear hZs hge
    go_enter Tryd.func34, Tryd.ntmps34
    go_wp2_with (at_builtin; refine Lib.wpList_append_run _ rfl (.tmp 20) (.tmp 21) _ _ rfl _ _ rfl rfl _ _ happ ?_)
    go_ret
    exact ⟨_, rfl, HO.out, HB.out⟩

/-- A part of what is put together: its memory, its room, its bytes. -/
structure Part where
  A : Option Addr
  cap : Nat
  l : List UInt8
def vPart (p : Part) : Value := .slice p.A p.l.length p.cap
def flatL (ps : List Part) : List UInt8 := ps.flatMap (·.l)
theorem flatL_take (ps : List Part) (k : Nat) (h : k < ps.length) : flatL (ps.take (k + 1)) = flatL (ps.take k) ++ ps[k].l := by
  unfold flatL
  rw [List.take_succ_eq_append_getElem h, List.flatMap_append]
  simp
theorem flatL_le (ps : List Part) (k : Nat) : (flatL (ps.take k)).length ≤ (flatL ps).length := by
  conv => rhs; rw [← List.take_append_drop k ps]
  unfold flatL
  rw [List.flatMap_append, List.length_append]
  omega

def ConcatRel (ps : List Part) (w : World) (v i : Value) (wr : World) : Prop :=
  ∃ k : Nat, k ≤ ps.length ∧ i = .int .i64 (k : Int) ∧ wr.ownsRow w.heap.size 5 1 v (flatL (ps.take k)).length ((flatL (ps.take k)).map vB) ∧ Below w.heap.size w wr
theorem concat_round {ps : List Part} {w wr w1 : World} {k : Nat} {u v : Value} {l : List UInt8} (hk : k < ps.length) (HF : Hid (flatL (ps.take (k + 1)) = flatL (ps.take k) ++ l)) (ho : wr.ownsRow w.heap.size 5 1 u (flatL (ps.take k)).length ((flatL (ps.take k)).map vB)) (hb : Below w.heap.size w wr)
    (ho' : w1.ownsRow w.heap.size 5 1 v ((flatL (ps.take k)).length + l.length) ((flatL (ps.take k)).map vB ++ l.map vB)) (hg : wr.grownBy w1 u.ownBlock) : ConcatRel ps w v (.int .i64 ((k : Int) + 1)) w1 :=
  ⟨k + 1, by omega, by go_num, by rw [HF.out, List.length_append, List.map_append]; exact ho', hb.grown hg hb.size (fun x hx => (ho.lt x hx).1)⟩

theorem concat_any (ps : List Part) (A : Option Addr) (c : Nat) (w : World) (hr : Rd vPart w A ps) (hn : ps.length ≤ 9223372036854775807) (hp : ∀ p ∈ ps, Rd vB w p.A p.l) (hl : (flatL ps).length ≤ 70368744177664) :
    Calls Tryd.prog 22 #[.slice A ps.length c] w (RetN vB w (flatL ps)) := by
  obtain ⟨i0, hi, hz0, hz1, hz2⟩ := info_parts info_u8
  have HP := Lib.hid hp
  clear hp
  go_enter Tryd.func22, Tryd.ntmps22
  go_wp2_with fail
  go_loop [3, 11] (fun v i => ∃ k : Nat, k ≤ ps.length ∧ i = .int .i64 k ∧ v = .int .i64 ((flatL (ps.take k)).length : Int)) (fun _ i => ps.length - (intOf i).toNat)
  case atStart => exact ⟨0, Nat.zero_le _, rfl, rfl⟩
  case round =>
    obtain ⟨k, hk, rfl, rfl⟩ := hrel
    have hle := flatL_le ps k
    by_cases hlt : k < ps.length
    · obtain ⟨blk, o, rfl, hb, hcell⟩ := hr.at hlt
      have hc0 := hcell k hlt
      have HF := Lib.hid (congrArg List.length (flatL_take ps k hlt))
      have hle2 := flatL_le ps (k + 1)
      rw [HF.out, List.length_append] at hle2
      rw [List.length_append] at HF
      generalize ps[k] = p at hc0 HF hle2
      unfold vPart at hc0
      clear hcell hr
      have i1 : (0 : Int) ≤ (k : Int) := by omega
      have i2 : (k : Int) < (ps.length : Int) := by omega
      go_wp2_with fail
      go_round
      case rel => exact ⟨k + 1, by omega, by go_num, by rw [HF.out]; go_num⟩
      case measure => simp [intOf]; omega
    · have hkk : k = ps.length := by omega
      subst hkk
      have HT : Hid (flatL (ps.take ps.length) = flatL ps) := by unfold Hid; rw [List.take_length]
      rw [HT.out] at hle ⊢
      generalize hN : (flatL ps).length = N at hl hle
      have HN := Lib.hid hN
      clear hN
      go_wp2_with fail
      refine (grow_nil N _ (by omega)).mono ?_
      rintro e w1 ⟨v1, rfl, hown1, hb1⟩
      go_wp2_with fail
      go_loopw [6, 27] (fun v i wr => ConcatRel ps w v i wr) (fun _ i _ => ps.length - (intOf i).toNat)
      case atStart => exact ⟨0, Nat.zero_le _, rfl, hown1, hb1⟩
      case round =>
        clear hown1 hb1
        obtain ⟨k, hk, rfl, hown, hbel⟩ := hrel
        by_cases hlt : k < ps.length
        · obtain ⟨blk, o, rfl, hb, hcell⟩ := hr.at hlt
          have hc0 : wr.cell? ⟨blk, o + k, none⟩ = some (vPart ps[k]) := (hbel.cell (p := ⟨blk, o + k, none⟩) hb).trans (hcell k hlt)
          have HF := Lib.hid (flatL_take ps k hlt)
          have hpk := (HP.out ps[k] (List.getElem_mem hlt)).keep hbel
          have hle2 := flatL_le ps (k + 1)
          rw [HF.out, List.length_append, HN.out] at hle2
          generalize ps[k] = p at hc0 HF hle2 hpk
          unfold vPart at hc0
          clear hcell hr
          have i1 : (0 : Int) ≤ (k : Int) := by omega
          have i2 : (k : Int) < (ps.length : Int) := by omega
          go_wp2_with (at_builtin; refine wpList_append_rd _ rfl (.tmp 31) (.tmp 32) 25 rfl w.heap.size 5 i0 (.int .u8 0) 1 Tryd.underlying25 hi hz0 hz1 hz2 rfl _ _ _ rfl hown p.A p.l p.cap rfl hpk vB_one (by unfold maxLen; omega) (by omega) hbel.size ?_; intro v2 w2 hown2 hgrow2)
          go_roundw
          case rel => exact concat_round hlt HF hown hbel hown2 hgrow2
          case measure => simp [intOf]; omega
        · have hkk : k = ps.length := by omega
          subst hkk
          rw [HT.out] at hown
          go_wp2_with fail
          go_ret
          exact RetN.own hown hbel
theorem concat_two (r b T : List UInt8) (A B : Option Addr) (c d g k : Nat) (w : World) (HT : Hid (T = r ++ b)) (hp : Rd vPart w (some ⟨g, 0, none⟩) [⟨A, c, r⟩, ⟨B, d, b⟩]) (hr : Rd vB w A r) (hb : Rd vB w B b) (hl : T.length ≤ 70368744177664) :
    Calls Tryd.prog 22 #[.slice (some ⟨g, 0, none⟩) 2 k] w (RetN vB w T) := by
  have e : flatL [⟨A, c, r⟩, ⟨B, d, b⟩] = T := by rw [HT.out]; simp [flatL]
  have := concat_any [⟨A, c, r⟩, ⟨B, d, b⟩] (some ⟨g, 0, none⟩) k w hp (by simp) (fun p hp => by
    simp only [List.mem_cons, List.not_mem_nil, or_false] at hp
    rcases hp with rfl | rfl
    · exact hr
    · exact hb) (by rw [e]; exact hl)
  rw [e] at this
  exact this

end Go.Proofs.YtcejbofdgljemaaDoor
/-
  What the program's calls Start, Block and wholeBlocks of layer 2 answer. Condition: the package's table holds the sixty-four constants.
-/
namespace Go.Proofs.YtcejbofdgljemaaDoor
set_option maxRecDepth 100000
open Go.RowKit
set_option linter.unusedSimpArgs false

/-- What is left of a text behind its whole blocks. -/
def restL (b : List UInt8) : List UInt8 := b.drop (b.length / 64 * 64)
theorem restL_length (b : List UInt8) : (restL b).length = b.length % 64 := by rw [restL, List.length_drop]; omega
theorem restL_short (b : List UInt8) (h : b.length < 64) : restL b = b := by rw [restL, show b.length / 64 * 64 = 0 by omega]; rfl
theorem restL_step (b : List UInt8) (h : 64 ≤ b.length) : restL b = restL (b.drop 64) := by
  rw [restL, restL, List.drop_drop, List.length_drop, show 64 + (b.length - 64) / 64 * 64 = b.length / 64 * 64 by omega]

theorem start_any (w : World) : Calls Tryd.prog 41 #[] w fun e w' => ∃ S : St, Hid (S = startSt) ∧ e = .returned (.agg #[.int .u32 (S.a.toNat : Int), .int .u32 (S.b.toNat : Int), .int .u32 (S.c.toNat : Int), .int .u32 (S.d.toNat : Int), .int .u32 (S.e.toNat : Int), .int .u32 (S.f.toNat : Int), .int .u32 (S.g.toNat : Int), .int .u32 (S.h.toNat : Int), .slice none 0 0, .int .u64 0]) ∧ Below w.heap.size w w' := by
  go_enter Tryd.func41, Tryd.ntmps41
  go_wp2_with fail
  refine bodyPost_ret (results_cell_row (p := 0) (ty := 104) (by rfl) _ _ w.heap.size 104 _ (0, 0) _ (by rfl) (by exact Row.new w _ _ _ rfl) Tryd.underlying104 (by rfl) (by kernel_rfl)) (by rfl) ?_
  exact ⟨startSt, rfl, rfl, below_new (Below.refl _ _) _⟩

def BlocksRel [Inhabited Tab] (s : St) (b : List UInt8) (A0 : Option Addr) (w : World) (v : Value) (wr : World) : Prop :=
  ∃ (S : St) (M : List UInt8) (A : Option Addr) (c : Nat), v = .slice A M.length c ∧ M.length ≤ c ∧ M.length ≤ b.length ∧ (∀ W, Rd vB W A0 b → Rd vB W A M) ∧ s.from b = S.from M ∧ restL b = restL M ∧
    Row wr w.heap.size 100 [.int .u32 (S.a.toNat : Int), .int .u32 (S.b.toNat : Int), .int .u32 (S.c.toNat : Int), .int .u32 (S.d.toNat : Int), .int .u32 (S.e.toNat : Int), .int .u32 (S.f.toNat : Int), .int .u32 (S.g.toNat : Int), .int .u32 (S.h.toNat : Int)] ∧ Row wr (w.heap.size + 1) 100 (List.replicate 8 (.int .u32 0)) ∧ Below w.heap.size w wr

set_option maxHeartbeats 1000000 in
theorem wholeBlocks_any [Inhabited Tab] (s : St) (b : List UInt8) (A : Option Addr) (c : Nat) (w : World) (hr : Rd vB w A b) (hc : b.length ≤ c) (hl : b.length ≤ 9223372036854775807) (HK : Hid (KTab w)) :
    Calls Tryd.prog 40 #[.agg #[.int .u32 (s.a.toNat : Int), .int .u32 (s.b.toNat : Int), .int .u32 (s.c.toNat : Int), .int .u32 (s.d.toNat : Int), .int .u32 (s.e.toNat : Int), .int .u32 (s.f.toNat : Int), .int .u32 (s.g.toNat : Int), .int .u32 (s.h.toNat : Int)], .slice A b.length c] w fun e w' => ∃ (S : St) (A' : Option Addr) (c' : Nat), Hid (S = s.from b) ∧ e = .returned (.tuple #[.agg #[.int .u32 (S.a.toNat : Int), .int .u32 (S.b.toNat : Int), .int .u32 (S.c.toNat : Int), .int .u32 (S.d.toNat : Int), .int .u32 (S.e.toNat : Int), .int .u32 (S.f.toNat : Int), .int .u32 (S.g.toNat : Int), .int .u32 (S.h.toNat : Int)], .slice A' (restL b).length c']) ∧ (restL b).length ≤ c' ∧ (∀ W, Rd vB W A b → Rd vB W A' (restL b)) ∧ Below w.heap.size w w' := by
  go_enter Tryd.func40, Tryd.ntmps40
  go_wp2_with fail
  refine at_world (Q := Code.wp _ _ _ _) (fun W => Row W w.heap.size 100 [.int .u32 (s.a.toNat : Int), .int .u32 (s.b.toNat : Int), .int .u32 (s.c.toNat : Int), .int .u32 (s.d.toNat : Int), .int .u32 (s.e.toNat : Int), .int .u32 (s.f.toNat : Int), .int .u32 (s.g.toNat : Int), .int .u32 (s.h.toNat : Int)] ∧ Row W (w.heap.size + 1) 100 (List.replicate 8 (.int .u32 0)) ∧ Below w.heap.size w W)
    ⟨(Row.new w _ _ _ rfl).alloc _, Row.new_at _ _ (by simp) _ _ _ rfl, below_new (below_new (Below.refl _ _) _) _⟩ ?_
  rintro W ⟨hR0, hR1, hB⟩
  go_loopw [1] (fun v wr => BlocksRel s b A w v wr) (fun v _ => sliceLen v)
  case atStart => exact ⟨s, b, A, c, rfl, hc, Nat.le_refl _, fun _ h => h, rfl, rfl, hR0, hR1, hB⟩
  case round =>
    clear hR0 hR1 hB hc
    obtain ⟨S, M, A1, c1, rfl, hc1, hMl, hall, hfr, hrs, hR0, hR1, hB⟩ := hrel
    have HA := Lib.hid hall
    have hr1 := hall w hr
    clear hall
    have HF := Lib.hid hfr
    have HR := Lib.hid hrs
    clear hfr hrs
    by_cases h64 : 64 ≤ M.length
    · obtain ⟨blk, o, rfl, hb, _⟩ := hr1.at (k := 0) (by omega)
      have hr64 : Rd vB w (some ⟨blk, o, none⟩) (M.take 64) := hr1.take 64
      have HL : Hid ((M.take 64).length = 64) := by unfold Hid; rw [List.length_take]; omega
      have hrd : Hid (∀ W, Rd vB W A b → Rd vB W (if c1 = 64 then some ⟨blk, o, none⟩ else some ⟨blk, o + 64, none⟩) (M.drop 64)) := fun W h => by
        have := (HA.out W h).drop 64 c1 hc1
        simpa [Addr.add] using this
      have HF2 : Hid (s.from b = (S.block (M.take 64)).from (M.drop 64)) := by unfold Hid; rw [HF.out]; exact from_step S M h64
      have HR2 : Hid (restL b = restL (M.drop 64)) := by unfold Hid; rw [HR.out]; exact restL_step M h64
      have hmd : (M.drop 64).length = M.length - 64 := List.length_drop
      obtain ⟨D, hD⟩ : ∃ D, D = M.drop 64 := ⟨_, rfl⟩
      rw [← hD] at hrd HF2 HR2 hmd
      have HD := Lib.hid hmd
      generalize M.take 64 = T at hr64 HL HF2
      clear hD hmd hr1 HF HR HA
      have hc64 : 64 ≤ c1 := by omega
      have hc64' : (64 : Int) ≤ (c1 : Int) := by omega
      go_wp2_with fail
      refine wp_region_plan_of (fun _ => True) (.step 1 false (.step 2 false (.step 0 true (.step 3 true (.step 4 true (.nil)))))) trivial (by kernel_rfl) (by kernel_rfl) (by rfl) (by kernel_rfl) ?_
      iterate 2 (refine plan_read rfl (by rfl) (v := ?_) ?_ ?_; rotate_left 1; (intro W hW; go_simp <;> with_reducible rfl); simp only [List.getElem_toArray, List.getElem_cons_zero, List.getElem_cons_succ, Act.put, List.setIfInBounds_toArray, List.set_cons_zero, List.set_cons_succ])
      refine plan_make_of rfl (by rfl) (fun K hK => ?_)
      refine wp_load_mid 100 (.tmp 2) (by rfl) w.heap.size 0 (by rfl) [.int .u32 (S.a.toNat : Int), .int .u32 (S.b.toNat : Int), .int .u32 (S.c.toNat : Int), .int .u32 (S.d.toNat : Int), .int .u32 (S.e.toNat : Int), .int .u32 (S.f.toNat : Int), .int .u32 (S.g.toNat : Int), .int .u32 (S.h.toNat : Int)] _ hR0.drew.range Tryd.underlying100 (by rfl) (by exact size_st) ?_
      simp only [List.getElem_toArray, List.getElem_cons_zero, List.getElem_cons_succ, Act.put, List.setIfInBounds_toArray, List.set_cons_zero, List.set_cons_succ]
      refine hK.out _ _ trivial ?_
      clear hK K
      refine plan_make_of rfl (by rfl) (fun K hK => ?_)
      go_simp
      refine (behind_any S T _ _ _ HL (by exact hr64.keep hB.drew) hc64 (by exact Lib.hid (HK.out.keep hB.drew))).mono ?_
      rintro e w1 ⟨S1, HS1, rfl, hb1⟩
      refine hK.out _ _ trivial ?_
      clear hK K
      replace hR0 := hR0.drew.later hb1
      replace hR1 := hR1.drew.later hb1
      replace hB := below_step hB.drew hb1
      clear hb1
      refine plan_make_of rfl (by rfl) (fun K hK => ?_)
      refine hR0.wp_store 100 (.tmp 2) (.tmp 12) (by rfl) (by rfl) [.int .u32 (S1.a.toNat : Int), .int .u32 (S1.b.toNat : Int), .int .u32 (S1.c.toNat : Int), .int .u32 (S1.d.toNat : Int), .int .u32 (S1.e.toNat : Int), .int .u32 (S1.f.toNat : Int), .int .u32 (S1.g.toNat : Int), .int .u32 (S1.h.toNat : Int)] (by rfl) (by exact size_st) (by rfl) (by exact one_st _ _ _ _ _ _ _ _) ?_
      simp only [List.getElem_toArray, List.getElem_cons_zero, List.getElem_cons_succ, Act.put, List.setIfInBounds_toArray, List.set_cons_zero, List.set_cons_succ]
      refine hK.out _ _ trivial ?_
      clear hK K
      refine plan_done ?_
      refine at_world (Q := _) (fun W => Row W w.heap.size 100 [.int .u32 (S1.a.toNat : Int), .int .u32 (S1.b.toNat : Int), .int .u32 (S1.c.toNat : Int), .int .u32 (S1.d.toNat : Int), .int .u32 (S1.e.toNat : Int), .int .u32 (S1.f.toNat : Int), .int .u32 (S1.g.toNat : Int), .int .u32 (S1.h.toNat : Int)] ∧ Row W (w.heap.size + 1) 100 (List.replicate 8 (.int .u32 0)) ∧ Below w.heap.size w W)
        ⟨hR0.setRow _, hR1.setRow_other (by omega) _, below_setRow hB (Nat.le_refl _) _⟩ ?_
      clear hR0 hR1 hB
      rintro W2 ⟨hR0, hR1, hB⟩
      have HRel : Hid (BlocksRel s b A w (.slice (if c1 = 64 then some ⟨blk, o, none⟩ else some ⟨blk, o + 64, none⟩) (M.length - 64) (c1 - 64)) W2) := by
        have e := HD.out
        refine ⟨S1, D, _, c1 - 64, by rw [e], by omega, by omega, hrd.out, ?_, HR2.out, hR0, hR1, hB⟩
        rw [HS1.out]
        exact HF2.out
      clear hrd HF2 HR2 hR0 hR1 hB HS1 HD HL hr64
      go_wp2_with fail
      go_roundw
      case rel => exact HRel.out
      case measure => simp [sliceLen]; omega
    · have HF2 : Hid (S = s.from b) := by unfold Hid; rw [HF.out]; exact (from_stop S M h64).symm
      have HR2 : Hid (restL b = M) := by unfold Hid; rw [HR.out]; exact restL_short M (by omega)
      clear HF HR
      go_wp2_with (first
        | (refine wpList_load_part rfl 100 (.tmp 2) rfl w.heap.size 0 rfl _ _ hR0 [.int .u32 (S.a.toNat : Int), .int .u32 (S.b.toNat : Int), .int .u32 (S.c.toNat : Int), .int .u32 (S.d.toNat : Int), .int .u32 (S.e.toNat : Int), .int .u32 (S.f.toNat : Int), .int .u32 (S.g.toNat : Int), .int .u32 (S.h.toNat : Int)] (by rfl) _ Tryd.underlying100 rfl (by exact size_st) ?_)
        | (refine wpList_store_row rfl 100 (.tmp 4) (.tmp 15) rfl (w.heap.size + 1) rfl [.int .u32 (S.a.toNat : Int), .int .u32 (S.b.toNat : Int), .int .u32 (S.c.toNat : Int), .int .u32 (S.d.toNat : Int), .int .u32 (S.e.toNat : Int), .int .u32 (S.f.toNat : Int), .int .u32 (S.g.toNat : Int), .int .u32 (S.h.toNat : Int)] rfl _ _ hR1 (by exact size_st) (by exact List.length_replicate) (by exact one_st _ _ _ _ _ _ _ _) ?_))
      refine bodyPost_ret (results_row_tmp (p := 4) (u := 5) (ty := 100) (by rfl) _ _ (w.heap.size + 1) 100 _ _ (by rfl) (by exact hR1.setRow _) Tryd.underlying100 (by rfl) (by exact size_st)) (by rfl) ?_
      refine ⟨S, A1, c1, HF2.out, ?_, ?_, ?_, below_setRow hB (Nat.le_succ _) _⟩
      · rw [HR2.out]; rfl
      · rw [HR2.out]; exact hc1
      · rw [HR2.out]; exact HA.out
end Go.Proofs.YtcejbofdgljemaaDoor
/-
  What the program's call lastBlocks of layer 2 answers: the state behind a rest that is filled up. Conditions: the rest is less than a block; the package's table holds the sixty-four constants.
-/
namespace Go.Proofs.YtcejbofdgljemaaDoor
set_option maxRecDepth 100000
open Go.RowKit
set_option linter.unusedSimpArgs false
set_option linter.unusedVariables false

/-- A rest with the mark behind it. -/
def markL (r : List UInt8) : List UInt8 := r ++ 128 :: List.replicate (63 - r.length) 0
theorem markL_length (r : List UInt8) (h : r.length < 64) : (markL r).length = 64 := by simp [markL]; omega
theorem markL_set (r : List UInt8) (h : r.length < 64) : (r ++ List.replicate (64 - r.length) 0).set r.length 128 = markL r := by
  rw [List.set_append_right _ _ (Nat.le_refl _), Nat.sub_self, show 64 - r.length = (63 - r.length) + 1 by omega, List.replicate_succ, List.set_cons_zero]
  rfl
theorem fill_short (r : List UInt8) (many : Nat) (h : r.length < 56) : fillL r many = (markL r).take 56 ++ putL (8 * many % 18446744073709551616) := by
  unfold fillL markL
  congr 1
  rw [List.take_append, List.take_of_length_le (by omega), show 56 - r.length = (55 - r.length) + 1 by omega, List.take_succ_cons, List.take_replicate,
    show (119 - r.length % 64) % 64 = 55 - r.length by omega, show min (55 - r.length) (63 - r.length) = 55 - r.length by omega]
theorem fill_long (r : List UInt8) (many : Nat) (h : 56 ≤ r.length) (h64 : r.length < 64) : fillL r many = markL r ++ ((List.replicate 64 0).take 56 ++ putL (8 * many % 18446744073709551616)) := by
  unfold fillL markL
  rw [← List.append_assoc]
  congr 1
  rw [List.append_assoc]
  congr 1
  rw [List.take_replicate, show min 56 64 = 56 by omega, show (119 - r.length % 64) % 64 = (63 - r.length) + 56 by omega, List.cons_append, List.replicate_append_replicate]
theorem from_one [Inhabited Tab] (s : St) (M : List UInt8) (h : M.length = 64) : s.from M = s.block M := by
  rw [from_step s M (by omega), List.take_of_length_le (by omega), List.drop_of_length_le (by omega)]
  exact from_stop _ _ (by simp)
theorem from_two [Inhabited Tab] (s : St) (M N : List UInt8) (h : M.length = 64) (h' : N.length = 64) : s.from (M ++ N) = (s.block M).block N := by
  rw [from_step s _ (by simp; omega), List.take_left' h, List.drop_left' h]
  exact from_one _ _ h'
theorem last_short [Inhabited Tab] (s : St) (r : List UInt8) (many : Nat) (h : r.length < 56) : s.from (fillL r many) = s.block ((markL r).take 56 ++ putL (8 * many % 18446744073709551616)) := by
  rw [fill_short r many h]
  exact from_one _ _ (by have := markL_length r (by omega); simp [putL_length]; omega)
theorem last_long [Inhabited Tab] (s : St) (r : List UInt8) (many : Nat) (h : 56 ≤ r.length) (h64 : r.length < 64) : s.from (fillL r many) = (s.block (markL r)).block ((List.replicate 64 0).take 56 ++ putL (8 * many % 18446744073709551616)) := by
  rw [fill_long r many h h64]
  exact from_two _ _ _ (markL_length r h64) (by simp [putL_length])

def manyS (g many : Nat) (W : World) : Prop := W.cell? ⟨g, 9, none⟩ = some (.int .u64 (many : Int)) ∧ True

set_option maxRecDepth 100000 in
set_option maxHeartbeats 1000000 in
theorem last_any [Inhabited Tab] (s : St) (r : List UInt8) (A : Option Addr) (c many : Nat) (w : World) (hr : Rd vB w A r) (hn : r.length < 64) (hm : many < 18446744073709551616) (HK : Hid (KTab w)) :
    Calls Tryd.prog 43 #[.agg #[.int .u32 (s.a.toNat : Int), .int .u32 (s.b.toNat : Int), .int .u32 (s.c.toNat : Int), .int .u32 (s.d.toNat : Int), .int .u32 (s.e.toNat : Int), .int .u32 (s.f.toNat : Int), .int .u32 (s.g.toNat : Int), .int .u32 (s.h.toNat : Int), .slice A r.length c, .int .u64 (many : Int)]] w (RetS vW w (s.from (fillL r many)).toL) := by
  have hmk : ∀ w, (Instr.makeSlice 25 (.int .i64 64) (.int .i64 64)).run Tryd.prog w = .ok (.slice (some ⟨w.heap.size, 0, none⟩) 64 64) (w.alloc (.cells (List.replicate 64 (.int .u8 0)).toArray 5)) := fun _ => by kernel_rfl
  obtain ⟨p, hp⟩ : ∃ p, p = 8 * many % 18446744073709551616 := ⟨_, rfl⟩
  have HP1 : Hid (IntKind.u64.wrap (8 * (many : Int)) = (p : Int)) := by unfold Hid; rw [IntKind.wrap_u64, hp]; omega
  have HP2 : Hid (8 * (many : Int) % 18446744073709551616 = (p : Int)) := by unfold Hid; rw [hp]; omega
  have HPm : Hid (p < 18446744073709551616) := by unfold Hid; rw [hp]; exact Nat.mod_lt _ (by omega)
  have HP := Lib.hid hp
  clear hp
  go_enter Tryd.func43, Tryd.ntmps43
  go_upto_region 4 with (first
    | (refine wpList_load_part rfl 100 (.tmp 6) rfl w.heap.size 0 rfl _ _ (Row.new w _ _ _ rfl) [.int .u32 (s.a.toNat : Int), .int .u32 (s.b.toNat : Int), .int .u32 (s.c.toNat : Int), .int .u32 (s.d.toNat : Int), .int .u32 (s.e.toNat : Int), .int .u32 (s.f.toNat : Int), .int .u32 (s.g.toNat : Int), .int .u32 (s.h.toNat : Int)] (by rfl) _ Tryd.underlying100 rfl (by exact size_st) ?_)
    | (refine wpList_copy_row rfl (.tmp 9) (.tmp 11) 25 25 rfl 5 Tryd.underlying25 (by kernel_rfl) (w.heap.size + 2) 0 64 64 A r c rfl rfl (List.replicate 64 (.int .u8 0)) 5 (by exact Row.new_at _ _ (by simp) _ _ _ rfl) (by exact hr.keep (below_new (below_new (below_new (Below.refl _ _) _) _) _)) vB_one (by omega) (by simp; omega) ?_))
  refine at_world (Q := Code.wp _ _ _ _) (fun W => Row W w.heap.size 104 [.int .u32 (s.a.toNat : Int), .int .u32 (s.b.toNat : Int), .int .u32 (s.c.toNat : Int), .int .u32 (s.d.toNat : Int), .int .u32 (s.e.toNat : Int), .int .u32 (s.f.toNat : Int), .int .u32 (s.g.toNat : Int), .int .u32 (s.h.toNat : Int), .slice A r.length c, .int .u64 (many : Int)] ∧ Row W (w.heap.size + 1) 100 [.int .u32 (s.a.toNat : Int), .int .u32 (s.b.toNat : Int), .int .u32 (s.c.toNat : Int), .int .u32 (s.d.toNat : Int), .int .u32 (s.e.toNat : Int), .int .u32 (s.f.toNat : Int), .int .u32 (s.g.toNat : Int), .int .u32 (s.h.toNat : Int)] ∧ Row W (w.heap.size + 1 + 1) 5 ((r ++ List.replicate (64 - r.length) 0).map vB) ∧ Below w.heap.size w W)
    ⟨(((Row.new w _ _ _ rfl).alloc _).alloc _).setRow_other (by omega) _, ((Row.new_at _ _ (by simp) _ _ _ rfl).alloc _).setRow_other (by omega) _, ?_, below_setRow (below_new (below_new (below_new (Below.refl _ _) _) _) _) (by omega) _⟩ ?_
  · refine Row.setRow_at (Row.new_at _ _ (by simp) _ _ _ rfl) _ _ ?_
    show (r.map vB ++ (List.replicate 64 (Value.int .u8 0)).drop r.length).toArray = _
    rw [List.drop_replicate, List.map_append, List.map_replicate]
    rfl
  clear hmk hr
  rintro W ⟨hR0, hR1, hR2, hB⟩
  have hcn : W.cell? ⟨w.heap.size + 1 + 1, r.length, none⟩ = some (.int .u8 0) := hR2.cell (by
    rw [List.map_append, List.getElem?_append_right (by simp), List.length_map, Nat.sub_self, List.map_replicate, List.getElem?_replicate, if_pos (by omega)]
    rfl)
  have hfz : W.frozen? ⟨w.heap.size + 1 + 1, r.length, none⟩ = false := hR2.frozen _
  have n0 : (0 : Int) ≤ (r.length : Int) := by omega
  have n1 : (r.length : Int) < 64 := by omega
  go_upto_region 5 with fail
  refine at_world (Q := Code.wp _ _ _ _) (fun W => Row W w.heap.size 104 [.int .u32 (s.a.toNat : Int), .int .u32 (s.b.toNat : Int), .int .u32 (s.c.toNat : Int), .int .u32 (s.d.toNat : Int), .int .u32 (s.e.toNat : Int), .int .u32 (s.f.toNat : Int), .int .u32 (s.g.toNat : Int), .int .u32 (s.h.toNat : Int), .slice A r.length c, .int .u64 (many : Int)] ∧ Row W (w.heap.size + 1) 100 [.int .u32 (s.a.toNat : Int), .int .u32 (s.b.toNat : Int), .int .u32 (s.c.toNat : Int), .int .u32 (s.d.toNat : Int), .int .u32 (s.e.toNat : Int), .int .u32 (s.f.toNat : Int), .int .u32 (s.g.toNat : Int), .int .u32 (s.h.toNat : Int)] ∧ Row W (w.heap.size + 1 + 1) 5 ((markL r).map vB) ∧ Below w.heap.size w W)
    ⟨hR0.setCell_other (by simp; omega) _, hR1.setCell_other (by simp) _, ?_, hB.setCell (by simp; omega) _⟩ ?_
  · have := hR2.setCell r.length (vB 128)
    rw [← List.map_set, markL_set r hn] at this
    exact this
  clear hR0 hR1 hR2 hB hcn hfz W
  rintro W ⟨hR0, hR1, hR2, hB⟩
  by_cases h56 : r.length < 56
  · have hd : decide ((56 : Int) ≤ (r.length : Int)) = false := by simp; omega
    have HE : Hid (s.from (fillL r many) = s.block ((markL r).take 56 ++ putL p)) := by unfold Hid; rw [HP.out]; exact last_short s r many h56
    have HM : Hid ((markL r).length = 64) := markL_length r hn
    generalize markL r = M at hR2 HE HM
    obtain ⟨S, hS⟩ : ∃ S, S = s := ⟨_, rfl⟩
    replace hR1 : Row W (w.heap.size + 1) 100 [.int .u32 (S.a.toNat : Int), .int .u32 (S.b.toNat : Int), .int .u32 (S.c.toNat : Int), .int .u32 (S.d.toNat : Int), .int .u32 (S.e.toNat : Int), .int .u32 (S.f.toNat : Int), .int .u32 (S.g.toNat : Int), .int .u32 (S.h.toNat : Int)] := by rw [hS]; exact hR1
    replace HE : Hid (s.from (fillL r many) = S.block (M.take 56 ++ putL p)) := by rw [hS]; exact HE
    clear hS
    go_upto_region 8 with fail
    clear hd h56
    have h8 := putL_length p
    generalize hpl : putL p = Pl at HE h8
    have HPl := Lib.hid hpl
    have H8 := Lib.hid h8
    clear hpl h8
    have hP1 := HP1.out
    have hP2 := HP2.out
    refine wp_region_plan_of (manyS w.heap.size many) (.step 0 false (.step 1 false (.step 2 false (.step 3 false (.step 4 false (.step 5 true (.step 6 true (.nil)))))))) ⟨hR0.drew.cell rfl, trivial⟩ (by kernel_rfl) (by kernel_rfl) (by rfl) (by kernel_rfl) ?_
    iterate 5 (refine plan_read rfl (by rfl) (v := ?_) ?_ ?_; rotate_left 1; (intro W hW; (try dsimp only at hW); obtain ⟨hW0, hW1⟩ := hW; go_simp <;> with_reducible rfl); simp only [List.getElem_toArray, List.getElem_cons_zero, List.getElem_cons_succ, Act.put, List.setIfInBounds_toArray, List.set_cons_zero, List.set_cons_succ])
    clear hP1 hP2
    refine plan_make_of rfl (by rfl) (fun K hK => ?_)
    go_simp
    refine (put_any p HPm.out _).mono ?_
    rintro e w1 ⟨A1, c1, rfl, hc1, hr1, hb1⟩
    rw [HPl.out] at hc1 hr1 ⊢
    refine hK.out _ _ ⟨(hR0.drew.later hb1).cell rfl, trivial⟩ ?_
    clear hK K
    replace hR0 := hR0.drew.later hb1
    replace hR1 := hR1.drew.later hb1
    replace hR2 := hR2.drew.later hb1
    replace hB := below_step hB.drew hb1
    clear hb1
    refine plan_make_of rfl (by rfl) (fun K hK => ?_)
    refine wp_copy_row (.tmp 24) (.tmp 28) 25 25 (by rfl) 5 Tryd.underlying25 (by kernel_rfl) (w.heap.size + 1 + 1) 56 8 8 A1 Pl c1 (by rfl) (by rfl) (M.map vB) _ hR2 hr1 vB_one (by have := H8.out; omega) (by rw [List.length_map, HM.out, H8.out]; omega) ?_
    simp only [List.getElem_toArray, List.getElem_cons_zero, List.getElem_cons_succ, Act.put, List.setIfInBounds_toArray, List.set_cons_zero, List.set_cons_succ]
    refine hK.out _ _ ⟨(hR0.setRow_other (by omega) _).cell rfl, trivial⟩ ?_
    clear hK K
    refine plan_done ?_
    refine at_world (Q := _) (fun W => Row W (w.heap.size + 1) 100 [.int .u32 (S.a.toNat : Int), .int .u32 (S.b.toNat : Int), .int .u32 (S.c.toNat : Int), .int .u32 (S.d.toNat : Int), .int .u32 (S.e.toNat : Int), .int .u32 (S.f.toNat : Int), .int .u32 (S.g.toNat : Int), .int .u32 (S.h.toNat : Int)] ∧ Row W (w.heap.size + 1 + 1) 5 ((M.take 56 ++ Pl).map vB) ∧ Below w.heap.size w W)
      ⟨hR1.setRow_other (by omega) _, Row.setRow_at hR2 _ _ ?_, below_setRow hB (by omega) _⟩ ?_
    · rw [List.drop_of_length_le (by rw [List.length_map, HM.out, H8.out]; omega), List.append_nil, List.map_append, List.map_take]
    have HM2 : Hid ((M.take 56 ++ Pl).length = 64) := by unfold Hid; rw [List.length_append, List.length_take, HM.out, H8.out]; rfl
    generalize M.take 56 ++ Pl = N at HE HM2
    clear hR0 hR1 hR2 hB hr1 hc1 HM
    rintro W ⟨hR1, hR2, hB⟩
    have hr2 : Rd vB W (some ⟨w.heap.size + 1 + 1, 0, none⟩) N := hR2.rd
    go_wp2_with (refine wpList_load_part rfl 100 (.tmp 3) rfl (w.heap.size + 1) 0 rfl _ _ hR1 [.int .u32 (S.a.toNat : Int), .int .u32 (S.b.toNat : Int), .int .u32 (S.c.toNat : Int), .int .u32 (S.d.toNat : Int), .int .u32 (S.e.toNat : Int), .int .u32 (S.f.toNat : Int), .int .u32 (S.g.toNat : Int), .int .u32 (S.h.toNat : Int)] (by rfl) _ Tryd.underlying100 rfl (by exact size_st) ?_)
    refine (behind_any S N _ _ _ HM2 hr2 (Nat.le_refl _) (Lib.hid (HK.out.keep hB))).mono ?_
    rintro e w2 ⟨T, HT, rfl, hb2⟩
    replace hR1 := hR1.later hb2
    replace hB := below_step hB hb2
    clear hr2 hR2 hb2
    go_wp2_with (refine wpList_store_row rfl 100 (.tmp 3) (.tmp 32) rfl (w.heap.size + 1) rfl [.int .u32 (T.a.toNat : Int), .int .u32 (T.b.toNat : Int), .int .u32 (T.c.toNat : Int), .int .u32 (T.d.toNat : Int), .int .u32 (T.e.toNat : Int), .int .u32 (T.f.toNat : Int), .int .u32 (T.g.toNat : Int), .int .u32 (T.h.toNat : Int)] rfl _ _ hR1 (by exact size_st) (by rfl) (by exact one_st _ _ _ _ _ _ _ _) ?_)
    go_ret
    rw [HE.out, ← HT.out]
    exact ⟨_, 8, rfl, Nat.le_refl _, Row.rd (f := vW) (L := T.toL) (hR1.setRow _), below_setRow hB (by omega) _⟩
  · have hd : decide ((56 : Int) ≤ (r.length : Int)) = true := by simp; omega
    have HE : Hid (s.from (fillL r many) = (s.block (markL r)).block ((List.replicate 64 0).take 56 ++ putL p)) := by unfold Hid; rw [HP.out]; exact last_long s r many (by omega) hn
    have HM : Hid ((markL r).length = 64) := markL_length r hn
    generalize markL r = M at hR2 HE HM
    have hr2 : Rd vB W (some ⟨w.heap.size + 1 + 1, 0, none⟩) M := hR2.rd
    go_wp2_with (refine wpList_load_part rfl 100 (.tmp 3) rfl (w.heap.size + 1) 0 rfl _ _ hR1 [.int .u32 (s.a.toNat : Int), .int .u32 (s.b.toNat : Int), .int .u32 (s.c.toNat : Int), .int .u32 (s.d.toNat : Int), .int .u32 (s.e.toNat : Int), .int .u32 (s.f.toNat : Int), .int .u32 (s.g.toNat : Int), .int .u32 (s.h.toNat : Int)] (by rfl) _ Tryd.underlying100 rfl (by exact size_st) ?_)
    refine (behind_any s M _ _ _ HM hr2 (Nat.le_refl _) (Lib.hid (HK.out.keep hB))).mono ?_
    rintro e w1 ⟨S, HS, rfl, hb1⟩
    replace hR0 := hR0.later hb1
    replace hR1 := hR1.later hb1
    replace hR2 := hR2.later hb1
    replace hB := below_step hB hb1
    clear hr2 hb1
    go_upto_region 7 with (refine wpList_store_row rfl 100 (.tmp 3) (.tmp 21) rfl (w.heap.size + 1) rfl [.int .u32 (S.a.toNat : Int), .int .u32 (S.b.toNat : Int), .int .u32 (S.c.toNat : Int), .int .u32 (S.d.toNat : Int), .int .u32 (S.e.toNat : Int), .int .u32 (S.f.toNat : Int), .int .u32 (S.g.toNat : Int), .int .u32 (S.h.toNat : Int)] rfl _ _ hR1 (by exact size_st) (by rfl) (by exact one_st _ _ _ _ _ _ _ _) ?_)
    refine at_world (Q := Code.wp _ _ _ _) (fun W => Row W w.heap.size 104 [.int .u32 (s.a.toNat : Int), .int .u32 (s.b.toNat : Int), .int .u32 (s.c.toNat : Int), .int .u32 (s.d.toNat : Int), .int .u32 (s.e.toNat : Int), .int .u32 (s.f.toNat : Int), .int .u32 (s.g.toNat : Int), .int .u32 (s.h.toNat : Int), .slice A r.length c, .int .u64 (many : Int)] ∧ Row W (w.heap.size + 1) 100 [.int .u32 (S.a.toNat : Int), .int .u32 (S.b.toNat : Int), .int .u32 (S.c.toNat : Int), .int .u32 (S.d.toNat : Int), .int .u32 (S.e.toNat : Int), .int .u32 (S.f.toNat : Int), .int .u32 (S.g.toNat : Int), .int .u32 (S.h.toNat : Int)] ∧ Row W (w.heap.size + 1 + 1) 5 (M.map vB) ∧ Below w.heap.size w W)
      ⟨hR0.setRow_other (by omega) _, hR1.setRow _, hR2.setRow_other (by omega) _, below_setRow hB (by omega) _⟩ ?_
    clear hR0 hR1 hR2 hB w1 W
    rintro W ⟨hR0, hR1, hR2, hB⟩
    have hcl : (Builtin.clear_ #[25] 0 #[.slice (some ⟨w.heap.size + 1 + 1, 0, none⟩) 64 64]).run Tryd.prog W = .ok (.tuple #[]) (W.setCells (w.heap.size + 1 + 1) 0 (List.replicate 64 (.int .u8 0))) :=
      Lib.run_clear_slice W _ 5 _ (.int .u8 0) Tryd.underlying25 (fun _ => by kernel_rfl) rfl rfl _ 0 64 64 (by omega) (fun j hj => by rw [hR2.cell?]; have := HM.out; simp [this, hj]) (fun j _ => hR2.frozen _)
    go_upto_region 8 with fail
    refine at_world (Q := Code.wp _ _ _ _) (fun W => Row W w.heap.size 104 [.int .u32 (s.a.toNat : Int), .int .u32 (s.b.toNat : Int), .int .u32 (s.c.toNat : Int), .int .u32 (s.d.toNat : Int), .int .u32 (s.e.toNat : Int), .int .u32 (s.f.toNat : Int), .int .u32 (s.g.toNat : Int), .int .u32 (s.h.toNat : Int), .slice A r.length c, .int .u64 (many : Int)] ∧ Row W (w.heap.size + 1) 100 [.int .u32 (S.a.toNat : Int), .int .u32 (S.b.toNat : Int), .int .u32 (S.c.toNat : Int), .int .u32 (S.d.toNat : Int), .int .u32 (S.e.toNat : Int), .int .u32 (S.f.toNat : Int), .int .u32 (S.g.toNat : Int), .int .u32 (S.h.toNat : Int)] ∧ Row W (w.heap.size + 1 + 1) 5 ((List.replicate 64 (0 : UInt8)).map vB) ∧ Below w.heap.size w W)
      ⟨hR0.setCells_other (by omega) _ _, hR1.setCells_other (by omega) _ _, ?_, below_setCells (by omega) _ _ hB⟩ ?_
    · have h0 : 0 + (List.replicate 64 (Value.int .u8 0)).length ≤ (M.map vB).length := by rw [List.length_map, HM.out]; simp
      have h1 : (M.map vB).take 0 ++ List.replicate 64 (Value.int .u8 0) ++ (M.map vB).drop (0 + (List.replicate 64 (Value.int .u8 0)).length) = (List.replicate 64 (0 : UInt8)).map vB := by
        rw [List.drop_of_length_le (by rw [List.length_map, HM.out]; simp), List.map_replicate]
        rfl
      have := Row.setCells _ 0 hR2 h0
      rw [h1] at this
      exact this
    replace HE : Hid (s.from (fillL r many) = S.block ((List.replicate 64 0).take 56 ++ putL p)) := by unfold Hid; rw [HE.out, HS.out]
    clear hR0 hR1 hR2 hB hcl HM HS W M hd h56
    rintro W ⟨hR0, hR1, hR2, hB⟩
    have HM : Hid ((List.replicate 64 (0 : UInt8)).length = 64) := List.length_replicate
    generalize List.replicate 64 (0 : UInt8) = M at HE HM hR2
    have h8 := putL_length p
    generalize hpl : putL p = Pl at HE h8
    have HPl := Lib.hid hpl
    have H8 := Lib.hid h8
    clear hpl h8
    have hP1 := HP1.out
    have hP2 := HP2.out
    refine wp_region_plan_of (manyS w.heap.size many) (.step 0 false (.step 1 false (.step 2 false (.step 3 false (.step 4 false (.step 5 true (.step 6 true (.nil)))))))) ⟨hR0.drew.cell rfl, trivial⟩ (by kernel_rfl) (by kernel_rfl) (by rfl) (by kernel_rfl) ?_
    iterate 5 (refine plan_read rfl (by rfl) (v := ?_) ?_ ?_; rotate_left 1; (intro W hW; (try dsimp only at hW); obtain ⟨hW0, hW1⟩ := hW; go_simp <;> with_reducible rfl); simp only [List.getElem_toArray, List.getElem_cons_zero, List.getElem_cons_succ, Act.put, List.setIfInBounds_toArray, List.set_cons_zero, List.set_cons_succ])
    clear hP1 hP2
    refine plan_make_of rfl (by rfl) (fun K hK => ?_)
    go_simp
    refine (put_any p HPm.out _).mono ?_
    rintro e w1 ⟨A1, c1, rfl, hc1, hr1, hb1⟩
    rw [HPl.out] at hc1 hr1 ⊢
    refine hK.out _ _ ⟨(hR0.drew.later hb1).cell rfl, trivial⟩ ?_
    clear hK K
    replace hR0 := hR0.drew.later hb1
    replace hR1 := hR1.drew.later hb1
    replace hR2 := hR2.drew.later hb1
    replace hB := below_step hB.drew hb1
    clear hb1
    refine plan_make_of rfl (by rfl) (fun K hK => ?_)
    refine wp_copy_row (.tmp 24) (.tmp 28) 25 25 (by rfl) 5 Tryd.underlying25 (by kernel_rfl) (w.heap.size + 1 + 1) 56 8 8 A1 Pl c1 (by rfl) (by rfl) (M.map vB) _ hR2 hr1 vB_one (by have := H8.out; omega) (by rw [List.length_map, HM.out, H8.out]; omega) ?_
    simp only [List.getElem_toArray, List.getElem_cons_zero, List.getElem_cons_succ, Act.put, List.setIfInBounds_toArray, List.set_cons_zero, List.set_cons_succ]
    refine hK.out _ _ ⟨(hR0.setRow_other (by omega) _).cell rfl, trivial⟩ ?_
    clear hK K
    refine plan_done ?_
    refine at_world (Q := _) (fun W => Row W (w.heap.size + 1) 100 [.int .u32 (S.a.toNat : Int), .int .u32 (S.b.toNat : Int), .int .u32 (S.c.toNat : Int), .int .u32 (S.d.toNat : Int), .int .u32 (S.e.toNat : Int), .int .u32 (S.f.toNat : Int), .int .u32 (S.g.toNat : Int), .int .u32 (S.h.toNat : Int)] ∧ Row W (w.heap.size + 1 + 1) 5 ((M.take 56 ++ Pl).map vB) ∧ Below w.heap.size w W)
      ⟨hR1.setRow_other (by omega) _, Row.setRow_at hR2 _ _ ?_, below_setRow hB (by omega) _⟩ ?_
    · rw [List.drop_of_length_le (by rw [List.length_map, HM.out, H8.out]; omega), List.append_nil, List.map_append, List.map_take]
    have HM2 : Hid ((M.take 56 ++ Pl).length = 64) := by unfold Hid; rw [List.length_append, List.length_take, HM.out, H8.out]; rfl
    generalize M.take 56 ++ Pl = N at HE HM2
    clear hR0 hR1 hR2 hB hr1 hc1 HM
    rintro W ⟨hR1, hR2, hB⟩
    have hr2 : Rd vB W (some ⟨w.heap.size + 1 + 1, 0, none⟩) N := hR2.rd
    go_wp2_with (refine wpList_load_part rfl 100 (.tmp 3) rfl (w.heap.size + 1) 0 rfl _ _ hR1 [.int .u32 (S.a.toNat : Int), .int .u32 (S.b.toNat : Int), .int .u32 (S.c.toNat : Int), .int .u32 (S.d.toNat : Int), .int .u32 (S.e.toNat : Int), .int .u32 (S.f.toNat : Int), .int .u32 (S.g.toNat : Int), .int .u32 (S.h.toNat : Int)] (by rfl) _ Tryd.underlying100 rfl (by exact size_st) ?_)
    refine (behind_any S N _ _ _ HM2 hr2 (Nat.le_refl _) (Lib.hid (HK.out.keep hB))).mono ?_
    rintro e w2 ⟨T, HT, rfl, hb2⟩
    replace hR1 := hR1.later hb2
    replace hB := below_step hB hb2
    clear hr2 hR2 hb2
    go_wp2_with (refine wpList_store_row rfl 100 (.tmp 3) (.tmp 32) rfl (w.heap.size + 1) rfl [.int .u32 (T.a.toNat : Int), .int .u32 (T.b.toNat : Int), .int .u32 (T.c.toNat : Int), .int .u32 (T.d.toNat : Int), .int .u32 (T.e.toNat : Int), .int .u32 (T.f.toNat : Int), .int .u32 (T.g.toNat : Int), .int .u32 (T.h.toNat : Int)] rfl _ _ hR1 (by exact size_st) (by rfl) (by exact one_st _ _ _ _ _ _ _ _) ?_)
    go_ret
    rw [HE.out, ← HT.out]
    exact ⟨_, 8, rfl, Nat.le_refl _, Row.rd (f := vW) (L := T.toL) (hR1.setRow _), below_setRow hB (by omega) _⟩
end Go.Proofs.YtcejbofdgljemaaDoor
/-
  What the program's calls Block, End and Sum of layer 2 answer. Condition: the package's table holds the sixty-four constants.
-/
namespace Go.Proofs.YtcejbofdgljemaaDoor
set_option maxRecDepth 100000
open Go.RowKit
set_option linter.unusedSimpArgs false
set_option linter.unusedVariables false

theorem fillL_step (b : List UInt8) (many : Nat) (h : 64 ≤ b.length) : fillL b many = b.take 64 ++ fillL (b.drop 64) many := by
  unfold fillL
  rw [List.length_drop, show (b.length - 64) % 64 = b.length % 64 by omega, ← List.append_assoc, ← List.append_assoc, List.take_append_drop]
theorem from_fill [Inhabited Tab] (many : Nat) : ∀ (n : Nat) (s : St) (b : List UInt8), b.length ≤ n → s.from (fillL b many) = (s.from b).from (fillL (restL b) many)
  | n, s, b, hn => by
    by_cases h : 64 ≤ b.length
    · match n, hn with
      | 0, hn => omega
      | n + 1, hn =>
        rw [fillL_step b many h, from_step s _ (by simp; omega), List.take_left' (by simp; omega), List.drop_left' (by simp; omega), from_fill many n _ (b.drop 64) (by simp; omega), from_step s b h, restL_step b h]
    · rw [from_stop s b h, restL_short b (by omega)]

theorem hash_state (S : St) (x y : Value) (W : World) : (Instr.field 104 (.agg #[.int .u32 (S.a.toNat : Int), .int .u32 (S.b.toNat : Int), .int .u32 (S.c.toNat : Int), .int .u32 (S.d.toNat : Int), .int .u32 (S.e.toNat : Int), .int .u32 (S.f.toNat : Int), .int .u32 (S.g.toNat : Int), .int .u32 (S.h.toNat : Int), x, y]) 0).run Tryd.prog W = .ok (.agg #[.int .u32 (S.a.toNat : Int), .int .u32 (S.b.toNat : Int), .int .u32 (S.c.toNat : Int), .int .u32 (S.d.toNat : Int), .int .u32 (S.e.toNat : Int), .int .u32 (S.f.toNat : Int), .int .u32 (S.g.toNat : Int), .int .u32 (S.h.toNat : Int)]) W := by kernel_rfl
theorem hash_rest (S : St) (x y : Value) (W : World) : (Instr.field 104 (.agg #[.int .u32 (S.a.toNat : Int), .int .u32 (S.b.toNat : Int), .int .u32 (S.c.toNat : Int), .int .u32 (S.d.toNat : Int), .int .u32 (S.e.toNat : Int), .int .u32 (S.f.toNat : Int), .int .u32 (S.g.toNat : Int), .int .u32 (S.h.toNat : Int), x, y]) 1).run Tryd.prog W = .ok x W := by kernel_rfl
theorem hash_many (S : St) (x y : Value) (W : World) : (Instr.field 104 (.agg #[.int .u32 (S.a.toNat : Int), .int .u32 (S.b.toNat : Int), .int .u32 (S.c.toNat : Int), .int .u32 (S.d.toNat : Int), .int .u32 (S.e.toNat : Int), .int .u32 (S.f.toNat : Int), .int .u32 (S.g.toNat : Int), .int .u32 (S.h.toNat : Int), x, y]) 2).run Tryd.prog W = .ok y W := by kernel_rfl
/-- A call that hands back a list and how it went. -/
def RetE (w : World) (l : List UInt8) (n : Int) (e : Ending) (w' : World) : Prop := ∃ A cap, e = .returned (.tuple #[.slice A l.length cap, .int .i64 n]) ∧ l.length ≤ cap ∧ Rd vB w' A l ∧ Below w.heap.size w w'

set_option maxHeartbeats 600000 in
theorem sum_any [Inhabited Tab] (b : List UInt8) (A : Option Addr) (c : Nat) (w : World) (hr : Rd vB w A b) (hc : b.length ≤ c) (hl : b.length ≤ 9223372036854775807) (HK : Hid (KTab w)) :
    Calls Tryd.prog 31 #[.slice A b.length c] w (RetS vB w (sumL b)) := by
  go_enter Tryd.func31, Tryd.ntmps31
  go_wp2_with fail
  refine (start_any _).mono ?_
  rintro e w1 ⟨S0, HS0, rfl, hb1⟩
  have hfd := hash_state S0 (.slice none 0 0) (.int .u64 0)
  go_wp2_with fail
  clear hfd
  refine (wholeBlocks_any S0 b _ _ _ (hr.keep hb1) hc hl (Lib.hid (HK.out.keep hb1))).mono ?_
  rintro e w2 ⟨S, A2, c2, HS, rfl, hc2, hall, hb2⟩
  have hB := below_step hb1 hb2
  have hr2 := hall w2 (hr.keep hB)
  clear hall
  have HE : Hid (sumL b = bytesL (S.from (fillL (restL b) b.length)).toL) := by unfold Hid sumL; rw [from_fill b.length b.length startSt b (Nat.le_refl _), HS.out, HS0.out]
  have h64 : (restL b).length < 64 := by rw [restL_length]; omega
  generalize restL b = R at hc2 hr2 HE h64
  have h8 : (S.from (fillL R b.length)).toL.length = 8 := rfl
  generalize hL : (S.from (fillL R b.length)).toL = L at h8 HE
  have HL := Lib.hid hL
  have H8 := Lib.hid h8
  clear hL h8 hb1 hb2 HS
  go_wp2_with fail
  have hb3 : Below w2.heap.size w2 (w2.alloc (.cells #[.int .u32 (S.a.toNat : Int), .int .u32 (S.b.toNat : Int), .int .u32 (S.c.toNat : Int), .int .u32 (S.d.toNat : Int), .int .u32 (S.e.toNat : Int), .int .u32 (S.f.toNat : Int), .int .u32 (S.g.toNat : Int), .int .u32 (S.h.toNat : Int)] 100)) := below_new (Below.refl _ _) _
  refine (last_any S R _ _ _ _ (hr2.keep hb3) h64 (by omega) (Lib.hid (HK.out.keep (below_step hB hb3)))).mono ?_
  replace hB := below_step hB hb3
  rintro e w3 ⟨A3, c3, rfl, hc3, hr3, hb4⟩
  rw [HL.out] at hc3 hr3 ⊢
  replace hB := below_step hB hb4
  clear hb3 hb4 hr2
  go_wp2_with fail
  refine (bytes_any L _ _ _ hr3 (by have := H8.out; omega)).mono ?_
  rintro e w4 ⟨A4, c4, rfl, hc4, hr4, hb5⟩
  go_wp2_with fail
  go_ret
  rw [HE.out]
  exact ⟨A4, c4, rfl, hc4, hr4, below_step hB hb5⟩
end Go.Proofs.YtcejbofdgljemaaDoor
/-
  What the program's call More of layer 2 answers. Condition: the package's table holds the sixty-four constants.
-/
namespace Go.Proofs.YtcejbofdgljemaaDoor
set_option maxRecDepth 100000
open Go.RowKit
set_option linter.unusedSimpArgs false
set_option linter.unusedVariables false

/-- A whole block, or a part of it, read in a region that draws its order. -/
theorem plan_load {P : Program} {ops : Array Oper} {Q : Exit → Act → World → Prop} {i : Nat} {rest : Plan} {S : World → Prop} {o : Oper} {a : Act} {w : World} (ho : ops[i]? = some o) (hw : Region.wanted o (yielded ops a.tmps) = true) (ty : TypeId) (x : Operand) (hop : o.op = .load ty x)
    (b off : Nat) (hx : a.eval x = .pointer (some ⟨b, off, none⟩)) (cs : List Value) (d : TypeDesc) (hS : ∀ W, S W → W.rangeAt b off cs) (hu : P.underlying ty = some d) (hd : d.isRow = true) (hi : (P.info? ty).map (·.size) = some cs.length)
    (h : wpPlan P ops Q rest S (a.put o.dst (.agg cs.toArray)) w) : wpPlan P ops Q (.step i false rest) S a w :=
  plan_read ho hw (fun W hW => by
    unfold execOp
    simp only [hop, hx, Instr.loadAt, Instr.sureAddr, Sem.run_bind, Sem.run_pure, Result.andThen_ok, run_loadVar_mid W b off ty cs d (hS W hW) hu hd hi]) h

abbrev hashL (s : St) (x y : Value) : List Value := [.int .u32 (s.a.toNat : Int), .int .u32 (s.b.toNat : Int), .int .u32 (s.c.toNat : Int), .int .u32 (s.d.toNat : Int), .int .u32 (s.e.toNat : Int), .int .u32 (s.f.toNat : Int), .int .u32 (s.g.toNat : Int), .int .u32 (s.h.toNat : Int), x, y]
abbrev zeroL : List Value := [.int .u32 0, .int .u32 0, .int .u32 0, .int .u32 0, .int .u32 0, .int .u32 0, .int .u32 0, .int .u32 0, .slice none 0 0, .int .u64 0]
theorem size_hash : (Tryd.prog.info? 104).map (·.size) = some 10 := by kernel_rfl
theorem one_hash (s : St) (A : Option Addr) (n c : Nat) (m : Int) : ∀ v ∈ ([.int .u32 (s.a.toNat : Int), .int .u32 (s.b.toNat : Int), .int .u32 (s.c.toNat : Int), .int .u32 (s.d.toNat : Int), .int .u32 (s.e.toNat : Int), .int .u32 (s.f.toNat : Int), .int .u32 (s.g.toNat : Int), .int .u32 (s.h.toNat : Int), .slice A n c, .int .u64 m] : List Value), v.oneCell' = true := by
  intro v hv
  simp only [List.mem_cons, List.not_mem_nil, or_false] at hv
  rcases hv with rfl | rfl | rfl | rfl | rfl | rfl | rfl | rfl | rfl | rfl <;> rfl
/-- What the reads of More lean on: the box that came in (and, behind the blocks, the state's own). -/
def boxS (g : Nat) (l : List Value) (W : World) : Prop := W.cell? ⟨g, 8, none⟩ = l[8]? ∧ W.cell? ⟨g, 9, none⟩ = l[9]? ∧ W.rangeAt g 0 (l.take 8)
theorem boxS_of {g : Nat} {t : TypeId} {l : List Value} {W : World} (h : Row W g t l) : boxS g l W := ⟨h.cell? 8, h.cell? 9, fun j v hv => by
  rw [Nat.zero_add]
  refine h.cell ?_
  rw [List.getElem?_take] at hv
  split at hv
  · exact hv
  · cases hv⟩
/-- A call that hands back a hash that goes on, and how it went. -/
def RetH [Inhabited Tab] (w : World) (s : St) (r : List UInt8) (many : Nat) (n : Int) (e : Ending) (w' : World) : Prop :=
  ∃ (S : St) (A : Option Addr) (c m : Nat), Hid (S = s) ∧ Hid (m = many) ∧ e = .returned (.tuple #[.agg #[.int .u32 (S.a.toNat : Int), .int .u32 (S.b.toNat : Int), .int .u32 (S.c.toNat : Int), .int .u32 (S.d.toNat : Int), .int .u32 (S.e.toNat : Int), .int .u32 (S.f.toNat : Int), .int .u32 (S.g.toNat : Int), .int .u32 (S.h.toNat : Int), .slice A r.length c, .int .u64 (m : Int)], .int .i64 n]) ∧ r.length ≤ c ∧ Rd vB w' A r ∧ (∀ a, A = some a → w.heap.size ≤ a.block) ∧ Below w.heap.size w w'


def MoreRel [Inhabited Tab] (s : St) (T : List UInt8) (w : World) (l : List Value) (v u : Value) (W : World) : Prop :=
  ∃ (gs : Nat) (S : St) (A : Option Addr) (c : Nat), v = .pointer (some ⟨gs, 0, none⟩) ∧ u = .slice A (restL T).length c ∧ Hid (S = s.from T) ∧ (restL T).length ≤ c ∧ Rd vB W A (restL T) ∧ Row W gs 100 [.int .u32 (S.a.toNat : Int), .int .u32 (S.b.toNat : Int), .int .u32 (S.c.toNat : Int), .int .u32 (S.d.toNat : Int), .int .u32 (S.e.toNat : Int), .int .u32 (S.f.toNat : Int), .int .u32 (S.g.toNat : Int), .int .u32 (S.h.toNat : Int)] ∧ Row W w.heap.size 104 l ∧ Row W (w.heap.size + 1) 104 zeroL ∧ Below w.heap.size w W ∧ w.heap.size + 1 < gs
theorem more_rel [Inhabited Tab] {s S : St} {T : List UInt8} {w W : World} {l : List Value} {gs : Nat} {A : Option Addr} {c : Nat} (HS : Hid (S = s.from T)) (hc : (restL T).length ≤ c) (hr : Rd vB W A (restL T)) (hs : Row W gs 100 [.int .u32 (S.a.toNat : Int), .int .u32 (S.b.toNat : Int), .int .u32 (S.c.toNat : Int), .int .u32 (S.d.toNat : Int), .int .u32 (S.e.toNat : Int), .int .u32 (S.f.toNat : Int), .int .u32 (S.g.toNat : Int), .int .u32 (S.h.toNat : Int)]) (h0 : Row W w.heap.size 104 l) (h1 : Row W (w.heap.size + 1) 104 zeroL) (hB : Below w.heap.size w W) (hg : w.heap.size + 1 < gs) :
    MoreRel s T w l (.pointer (some ⟨gs, 0, none⟩)) (.slice A (restL T).length c) W := ⟨gs, S, A, c, rfl, rfl, HS, hc, hr, hs, h0, h1, hB, hg⟩
def moreS (g gs : Nat) (l m : List Value) (W : World) : Prop := W.cell? ⟨g, 9, none⟩ = l[9]? ∧ W.rangeAt gs 0 m


end Go.Proofs.YtcejbofdgljemaaDoor
/-
  What the program's calls More and End of layer 2 answer, said of the text that came: a text in parts has the state, the rest and the hash of the whole. Condition: the package's table holds the sixty-four constants.
-/
namespace Go.Proofs.YtcejbofdgljemaaDoor
set_option maxRecDepth 100000
open Go.RowKit
set_option linter.unusedSimpArgs false
set_option linter.unusedVariables false

theorem from_append [Inhabited Tab] : ∀ (n : Nat) (s : St) (t b : List UInt8), t.length ≤ n → s.from (t ++ b) = (s.from t).from (restL t ++ b) ∧ restL (t ++ b) = restL (restL t ++ b)
  | n, s, t, b, hn => by
    by_cases h : 64 ≤ t.length
    · match n, hn with
      | 0, hn => omega
      | n + 1, hn =>
        have ih := from_append n (s.block (t.take 64)) (t.drop 64) b (by simp; omega)
        have e1 : (t ++ b).take 64 = t.take 64 := List.take_append_of_le_length h
        have e2 : (t ++ b).drop 64 = t.drop 64 ++ b := List.drop_append_of_le_length h
        rw [from_step s (t ++ b) (by simp; omega), e1, e2, from_step s t h, restL_step t h, restL_step (t ++ b) (by simp; omega), e2]
        exact ih
    · rw [from_stop s t h, restL_short t (by omega)]
      exact ⟨rfl, rfl⟩

/-- The hash of a text that goes on. -/
def HashOf [Inhabited Tab] (s : St) (t : List UInt8) (S : St) (R : List UInt8) (m : Nat) : Prop := S = s.from t ∧ R = restL t ∧ m = t.length % 18446744073709551616
theorem HashOf.more [Inhabited Tab] {s : St} {t b : List UInt8} {S : St} {R : List UInt8} {m : Nat} (h : HashOf s t S R m) : HashOf s (t ++ b) (S.from (R ++ b)) (restL (R ++ b)) ((m + b.length) % 18446744073709551616) := by
  obtain ⟨rfl, rfl, rfl⟩ := h
  obtain ⟨e1, e2⟩ := from_append t.length s t b (Nat.le_refl _)
  exact ⟨e1.symm, e2.symm, by rw [List.length_append]; omega⟩
theorem HashOf.none [Inhabited Tab] (s : St) : HashOf s [] s [] 0 := ⟨(from_stop s [] (by simp)).symm, rfl, rfl⟩
theorem HashOf.rest [Inhabited Tab] {s : St} {t : List UInt8} {S : St} {R : List UInt8} {m : Nat} (h : HashOf s t S R m) : R.length < 64 ∧ m < 18446744073709551616 := by
  obtain ⟨rfl, rfl, rfl⟩ := h
  exact ⟨by rw [restL_length]; omega, Nat.mod_lt _ (by omega)⟩


theorem sumL_length [Inhabited Tab] (b : List UInt8) : (sumL b).length = 32 := by rw [sumL, bytesL_length]; rfl


end Go.Proofs.YtcejbofdgljemaaDoor
/-
  HMAC as plain functions on bytes: a key's block, a block each byte of which is turned by one, the tag; a byte turned, as the walk spells it. No conditions but those typed.
-/
namespace Go.Proofs.YtcejbofdgljemaaDoor
set_option maxRecDepth 100000
open Go.RowKit

def turnL (x : UInt8) (b : List UInt8) : List UInt8 := b.map fun c => xorB c x
theorem turnL_length (x : UInt8) (b : List UInt8) : (turnL x b).length = b.length := by simp [turnL]
theorem turnL_getElem (x : UInt8) (b : List UInt8) (i : Nat) (h : i < b.length) : (turnL x b)[i]'(by rw [turnL_length]; exact h) = xorB b[i] x := by simp [turnL]
theorem turnL_take (x : UInt8) (b : List UInt8) (k : Nat) (h : k < b.length) : turnL x (b.take (k + 1)) = turnL x (b.take k) ++ [xorB b[k] x] := by
  rw [List.take_succ_eq_append_getElem h, turnL, turnL, List.map_append]
  rfl

def fillK (k : List UInt8) : List UInt8 := k ++ List.replicate (64 - k.length) 0
def hblk [Inhabited Tab] (key : List UInt8) : List UInt8 := if 64 < key.length then fillK (sumL key) else fillK key
def macL [Inhabited Tab] (key msg : List UInt8) : List UInt8 := sumL (turnL 92 (hblk key) ++ sumL (turnL 54 (hblk key) ++ msg))
theorem fillK_length (k : List UInt8) (h : k.length ≤ 64) : (fillK k).length = 64 := by simp [fillK]; omega
theorem hblk_length [Inhabited Tab] (key : List UInt8) : (hblk key).length = 64 := by
  unfold hblk
  split
  · exact fillK_length _ (by rw [sumL_length]; omega)
  · exact fillK_length _ (by omega)
theorem hblk_short [Inhabited Tab] (key : List UInt8) (h : key.length ≤ 64) : hblk key = fillK key := by rw [hblk, if_neg (by omega)]
theorem hblk_long [Inhabited Tab] (key : List UInt8) (h : 64 < key.length) : hblk key = fillK (sumL key) := by rw [hblk, if_pos h]
theorem hblk_whole [Inhabited Tab] (key : List UInt8) (h : key.length = 64) : hblk key = key := by rw [hblk_short key (by omega), fillK, h]; simp
theorem hblk_hblk [Inhabited Tab] (key : List UInt8) : hblk (hblk key) = hblk key := hblk_whole _ (hblk_length key)
theorem hblk_sum [Inhabited Tab] (key : List UInt8) (h : 64 < key.length) : hblk (sumL key) = hblk key := by
  rw [hblk_long key h, hblk_short _ (by rw [sumL_length]; omega)]
theorem hblk_zero [Inhabited Tab] (key : List UInt8) (h : key.length < 64) : hblk (key ++ [0]) = hblk key := by
  rw [hblk_short key (by omega), hblk_short _ (by simp; omega), fillK, fillK, List.length_append, List.append_assoc]
  congr 1
  rw [show 64 - key.length = (64 - (key.length + 1)) + 1 by omega, List.replicate_succ]
  rfl
theorem macL_hblk [Inhabited Tab] (key msg : List UInt8) : macL (hblk key) msg = macL key msg := by rw [macL, hblk_hblk]; rfl
theorem macL_sum [Inhabited Tab] (key msg : List UInt8) (h : 64 < key.length) : macL (sumL key) msg = macL key msg := by rw [macL, hblk_sum key h]; rfl
theorem macL_zero [Inhabited Tab] (key msg : List UInt8) (h : key.length < 64) : macL (key ++ [0]) msg = macL key msg := by rw [macL, hblk_zero key h]; rfl
theorem macL_length [Inhabited Tab] (key msg : List UInt8) : (macL key msg).length = 32 := sumL_length _
end Go.Proofs.YtcejbofdgljemaaDoor
/-
  Layer 6 as plain functions: an engine is its kind and its terms; whether it is right, a text's tag by it, the terms behind it, whether a tag fits. No conditions but those typed.
-/
namespace Go.Proofs.YtcejbofdgljemaaDoor
set_option maxRecDepth 100000
set_option linter.unusedVariables false
set_option linter.unusedSimpArgs false

def rightE (K : Int) (cs : List Tm) : Bool := decide (K = 1 ∧ cs = []) || (decide (K = 2) && rightT cs)
/-- The terms behind a tag, and the tag. -/
def termsE (K : Int) (cs : List Tm) (x : Tm) : List Tm := if K = 2 then putT cs x else cs
def bytesE [Inhabited Tab] (K : Int) (cs : List Tm) (x : Tm) : List UInt8 := if K = 2 then tagT cs x else (macL x.1 x.2).take 8
def fitsE [Inhabited Tab] (K : Int) (cs : List Tm) (x : Tm) (tag : List UInt8) : Bool := rightE K cs && ((!decide (K = 2) || decide (x ∈ cs)) && decide (bytesE K cs x = tag))

theorem rightE_cases {K : Int} {cs : List Tm} (h : rightE K cs = true) : (K = 1 ∧ cs = []) ∨ (K = 2 ∧ rightT cs = true) := by
  unfold rightE at h
  simpa using h
theorem rightE_one : rightE 1 [] = true := by decide
theorem bytesE_length [Inhabited Tab] (K : Int) (cs : List Tm) (x : Tm) : (bytesE K cs x).length = 8 := by
  unfold bytesE
  split
  · rfl
  · rw [List.length_take, macL_length]
    rfl
theorem termsE_right {K : Int} {cs : List Tm} (x : Tm) (h : rightE K cs = true) : rightE K (termsE K cs x) = true := by
  rcases rightE_cases h with ⟨rfl, rfl⟩ | ⟨rfl, h⟩
  · exact rightE_one
  · have := putT_right cs x h
    simp [rightE, termsE, this]
theorem termsE_le {K : Int} {cs : List Tm} (x : Tm) : (termsE K cs x).length ≤ cs.length + 1 := by
  unfold termsE
  split
  · exact (putT_length cs x).2
  · omega
/-- What is behind other tags is there. -/
def behindE (K : Int) (cs ds : List Tm) : Prop := ds = cs ∨ (K = 2 ∧ ∃ m, ds = cs ++ m)
theorem termsE_behind (K : Int) (cs : List Tm) (x : Tm) : behindE K cs (termsE K cs x) := by
  unfold termsE behindE
  by_cases h : K = 2
  · rw [if_pos h]
    exact .inr ⟨h, putT_pre cs x⟩
  · rw [if_neg h]
    exact .inl rfl
/-- The tag that was made, by whatever engine behind. -/
theorem bytesE_behind [Inhabited Tab] {K : Int} {cs ds : List Tm} (x : Tm) (hx : K = 2 → x ∈ cs) (h : behindE K cs ds) : bytesE K ds x = bytesE K cs x := by
  rcases h with rfl | ⟨rfl, m, rfl⟩
  · rfl
  · simp only [bytesE, if_pos]
    exact tagT_app cs m x (hx rfl)
theorem bytesE_put [Inhabited Tab] (K : Int) (cs : List Tm) (x : Tm) : bytesE K (termsE K cs x) x = bytesE K cs x := by
  unfold bytesE termsE
  by_cases h : K = 2
  · simp only [if_pos h]
    exact (tagT_put cs x).symm
  · simp only [if_neg h]
theorem termsE_mem (K : Int) (cs : List Tm) (x : Tm) (h : K = 2) : x ∈ termsE K cs x := by
  unfold termsE
  rw [if_pos h]
  exact putT_mem cs x
theorem fitsE_made [Inhabited Tab] {K : Int} {cs ds : List Tm} (x : Tm) (tag : List UInt8) (hr : rightE K ds = true) (h : behindE K (termsE K cs x) ds) : fitsE K ds x tag = decide (bytesE K cs x = tag) := by
  have h1 : bytesE K ds x = bytesE K cs x := by rw [bytesE_behind x (termsE_mem K cs x) h, bytesE_put]
  have h2 : K = 2 → x ∈ ds := fun hK => by
    rcases h with rfl | ⟨_, m, rfl⟩
    · exact termsE_mem K cs x hK
    · exact List.mem_append_left _ (termsE_mem K cs x hK)
  unfold fitsE
  rw [hr, h1, Bool.true_and]
  by_cases hK : K = 2
  · simp [h2 hK]
  · simp [hK]
theorem fitsE_wrong [Inhabited Tab] {K : Int} {cs : List Tm} (x : Tm) (tag : List UInt8) (hr : rightE K cs = false) : fitsE K cs x tag = false := by unfold fitsE; rw [hr]; rfl
theorem fitsE_sym [Inhabited Tab] {cs : List Tm} (x : Tm) (tag : List UInt8) : fitsE 2 cs x tag = true → x ∈ cs ∧ tagT cs x = tag := by
  unfold fitsE bytesE
  simp
/-- A tag that fits one text and key fits no other. -/
theorem fitsE_one [Inhabited Tab] {cs : List Tm} (x y : Tm) (tag : List UInt8) (hl : cs.length ≤ 100000000) (hx : fitsE 2 cs x tag = true) (hy : fitsE 2 cs y tag = true) : x = y := by
  obtain ⟨h1, h2⟩ := fitsE_sym x tag hx
  obtain ⟨h3, h4⟩ := fitsE_sym y tag hy
  exact tagT_inj cs x y h1 h3 (by omega) (by rw [h2, h4])
end Go.Proofs.YtcejbofdgljemaaDoor
/-
  Rows of the call's own: their form, what is left of them behind other steps, two that stay apart, one known whole; one step more for plans (no program is named here). No conditions but those typed.
-/
namespace Go.Proofs.YtcejbofdgljemaaDoor
set_option maxRecDepth 100000
open Go.RowKit
set_option linter.unusedSimpArgs false
set_option linter.unusedVariables false

theorem ownsRow_same {w w' : World} {base : Nat} {e : TypeId} {v : Value} {n : Nat} {xs : List Value} (h : w.ownsRow base e 1 v n xs) (hh : ∀ b, base ≤ b → b < w.heap.size → w'.heap[b]? = w.heap[b]?) : w'.ownsRow base e 1 v n xs := by
  refine ⟨h.1, ?_⟩
  rcases h.2 with h0 | ⟨g, cap, cur, hv, hg, hc, r⟩
  · exact .inl h0
  · exact .inr ⟨g, cap, cur, hv, hg, (hh g hg (Array.getElem?_eq_some_iff.1 hc).1).trans hc, r⟩
theorem ownsRow_later {w w' : World} {base : Nat} {e : TypeId} {v : Value} {n : Nat} {xs : List Value} (h : w.ownsRow base e 1 v n xs) (hb : Below w.heap.size w w') : w'.ownsRow base e 1 v n xs := ownsRow_same h (fun b _ hb' => hb.block b hb')
theorem Rd.grown {α : Type} {f : α → Value} {w w' : World} {row : Option Nat} {A : Option Addr} {L : List α} (h : Rd f w A L) (hg : w.grownBy w' row) (hA : ∀ a, A = some a → row ≠ some a.block) : Rd f w' A L := fun hn => by
  obtain ⟨b, o, rfl, hc⟩ := h hn
  refine ⟨b, o, rfl, fun i hi => ?_⟩
  obtain ⟨_, _, _, _, h5⟩ := hg
  have hk := hc i hi
  have hlt : b < w.heap.size := World.block_lt_of_cell? w _ hk
  exact (World.cell?_of_block (w := w) (a := ⟨b, o + i, none⟩) (h5 b hlt (fun e => hA ⟨b, o, none⟩ rfl e.symm))).trans hk
theorem own_slice {α : Type} {f : α → Value} {w : World} {base : Nat} {e : TypeId} {v : Value} {l : List α} (h : w.ownsRow base e 1 v l.length (l.map f)) : ∃ A cap, v = .slice A l.length cap ∧ l.length ≤ cap ∧ Rd f w A l := by
  rcases h.2 with ⟨rfl, h0⟩ | ⟨g, cap, cur, rfl, _, _, hc, _⟩
  · have hl : l = [] := List.eq_nil_of_length_eq_zero h0
    subst hl
    exact ⟨none, 0, rfl, Nat.le_refl _, Rd.nil⟩
  · exact ⟨_, cap, rfl, hc, Rd.own h⟩

theorem Row.range_part {w : World} {g : Nat} {t : TypeId} {l : List Value} (h : Row w g t l) (o : Nat) (m : List Value) (hm : (l.drop o).take m.length = m) : w.rangeAt g o m := fun j v hv => by
  have hj : j < m.length := (List.getElem?_eq_some_iff.1 hv).1
  have := congrArg (·[j]?) hm
  simp only [List.getElem?_take, List.getElem?_drop, hj, if_true] at this
  exact h.cell (this.trans hv)

theorem own_form {w : World} {base : Nat} {e : TypeId} {v : Value} {n : Nat} {xs : List Value} (h : w.ownsRow base e 1 v n xs) : ∃ A cap, v = .slice A n cap ∧ n ≤ cap := by
  rcases h.2 with ⟨rfl, rfl⟩ | ⟨g, cap, cur, rfl, _, _, hc, _⟩
  · exact ⟨none, 0, rfl, Nat.le_refl _⟩
  · exact ⟨_, cap, rfl, hc⟩

theorem apart_symm {u v : Value} (h : u.ownBlock = none ∨ u.ownBlock ≠ v.ownBlock) : v.ownBlock = none ∨ v.ownBlock ≠ u.ownBlock := by
  rcases h with h | h
  · by_cases hv : v.ownBlock = none
    · exact .inl hv
    · exact .inr (by rw [h]; exact hv)
  · exact .inr (Ne.symm h)
/-- Apart, behind the growth of the second one. -/
theorem apart_grown {w : World} {base : Nat} {e : TypeId} {u v v' : Value} {n : Nat} {xs : List Value} (h : u.ownBlock = none ∨ u.ownBlock ≠ v.ownBlock) (ho : w.ownsRow base e 1 u n xs) (hat : v'.ownBlock = v.ownBlock ∨ v'.ownBlock = some w.heap.size) : u.ownBlock = none ∨ u.ownBlock ≠ v'.ownBlock := by
  rcases hat with hat | hat
  · rw [hat]; exact h
  · right
    rw [hat]
    intro hu
    have := (ho.lt _ hu).2
    omega
section
variable {P : Program} {ops : Array Oper} {Q : Exit → Act → World → Prop}
/-- One that makes memory; behind it a condition of one's own, which may speak of the new world. -/
theorem plan_make_to {i : Nat} {rest : Plan} {S : World → Prop} {o : Oper} {a : Act} {w : World} (ho : ops[i]? = some o) (hw : Region.wanted o (yielded ops a.tmps) = true)
    (h : ∀ K : Act → World → Prop, Shut (∀ (T : World → Prop) a' w', (∀ W, T W → S W) → T w' → wpPlan P ops Q rest T a' w' → K a' w') → o.wp P a w K Q) : wpPlan P ops Q (.step i true rest) S a w :=
  ⟨o, ho, .inr (.inr ⟨hw, rfl, h _ (fun T _ _ hT hb hr => ⟨T, hT, hb, hr⟩)⟩)⟩
end

/-- A row of the call's own, one place of it set. -/
theorem own_set {α : Type} {f : α → Value} {w : World} {base : Nat} {e : TypeId} {v : Value} {l : List α} {q : Nat} (h : w.ownsRow base e 1 v l.length (l.map f)) (hq : q < l.length) :
    ∃ g cap, v = .slice (some ⟨g, 0, none⟩) l.length cap ∧ base ≤ g ∧ g < w.heap.size ∧ l.length ≤ cap ∧ w.cell? ⟨g, q, none⟩ = some (f l[q]) ∧ w.frozen? ⟨g, q, none⟩ = false ∧ ∀ z : α, Rd f (w.setCell ⟨g, q, none⟩ (f z)) (some ⟨g, 0, none⟩) (l.set q z) := by
  rcases h.2 with ⟨rfl, h0⟩ | ⟨g, cap, cur, rfl, hg, hgg, hc, hm, hs, ht⟩
  · omega
  · have hR : Row w g e cur.toList := hgg
    rw [Nat.mul_one] at ht
    have hcell : w.cell? ⟨g, q, none⟩ = some (f l[q]) := by
      rw [hR.cell? q]
      have := congrArg (·[q]?) ht
      simpa [List.getElem?_take, hq] using this
    refine ⟨g, cap, rfl, hg, hR.lt, hc, hcell, hR.frozen _, fun z => ?_⟩
    refine Row.rd_at (hR.setCell q (f z)) ?_
    rw [List.drop_zero, List.length_set, List.take_set, ht, List.map_set]
end Go.Proofs.YtcejbofdgljemaaDoor
/-
  A string as a list of bytes: its length, one byte of it, the end of it, two held together (no program is named here). No conditions but those typed.
-/
namespace Go.Proofs.YtcejbofdgljemaaDoor
set_option maxRecDepth 100000
open Go.RowKit
set_option linter.unusedSimpArgs false

def strL (l : List UInt8) : ByteArray := ⟨l.toArray⟩
theorem strL_size (l : List UInt8) : (strL l).size = l.length := by simp [strL, ByteArray.size]
theorem strL_toList (l : List UInt8) : (strL l).toList = l := by unfold strL; exact ByteArray.toList_mk l
theorem strL_append (a b : List UInt8) : strL a ++ strL b = strL (a ++ b) := by
  unfold strL
  apply ByteArray.ext
  rw [ByteArray.data_append]
  simp
theorem strL_inj {a b : List UInt8} (h : strL a = strL b) : a = b := by
  have := congrArg ByteArray.toList h
  rwa [strL_toList, strL_toList] at this
theorem strL_drop (l : List UInt8) (k : Nat) : (strL l).extract k (strL l).size = strL (l.drop k) := by
  apply ByteArray.ext
  rw [ByteArray.data_extract, strL_size]
  simp [strL]
  exact List.take_of_length_le (by simp)
theorem run_index_strL {P : Program} (t : TypeId) (l : List UInt8) (i : Nat) (h : i < l.length) (ht : P.underlying t = some .string) (w : World) :
    (Instr.index t (.string (strL l)) (.int .i64 (i : Int))).run P w = .ok (.int .u8 (l[i].toNat : Int)) w := by
  rw [run_index_string w t (strL l) .i64 (i : Int) ht, dif_pos (by rw [strL_size]; omega)]
  simp [strL, ByteArray.getElem_eq_getElem_data]
theorem run_slice_strL {P : Program} (t : TypeId) (l : List UInt8) (k : Nat) (h : k ≤ l.length) (ht : P.underlying t = some .string) (w : World) :
    (Instr.slice t (.string (strL l)) (some (.int .i64 (k : Int))) none none).run P w = .ok (.string (strL (l.drop k))) w := by
  rw [run_slice_string_l w t (strL l) ht .i64 (k : Int) (by omega) (by rw [strL_size]; omega), Int.toNat_natCast, strL_drop]
end Go.Proofs.YtcejbofdgljemaaDoor
/-
  What bytes.Equal answers. No conditions but those typed.
-/
namespace Go.Proofs.YtcejbofdgljemaaDoor
set_option maxRecDepth 100000
open Go.RowKit
set_option linter.unusedSimpArgs false
set_option linter.unusedVariables false

theorem str_beq (a b : List UInt8) : ((strL a).toList == (strL b).toList) = decide (a = b) := by
  unfold strL
  rw [ByteArray.toList_mk, ByteArray.toList_mk]
  by_cases h : a = b <;> simp [h]

theorem equal_any (a b : List UInt8) (n m : Nat) (A B : Option Addr) (c d : Nat) (w : World) (HN : Hid (a.length = n)) (HM : Hid (b.length = m)) (ha : Rd vB w A a) (hb : Rd vB w B b) :
    Calls Tryd.prog 98 #[.slice A n c, .slice B m d] w fun e w' => e = .returned (.bool (decide (a = b))) ∧ w = w' := by
  have s0 : (convert 25 9 (.slice A n c)).run Tryd.prog w = .ok (.string (strL a)) w := run_str _ _ _ _ Tryd.underlying25 Tryd.underlying5 Tryd.underlying9 _ a _ _ HN.out ha
  have s1 : (convert 25 9 (.slice B m d)).run Tryd.prog w = .ok (.string (strL b)) w := run_str _ _ _ _ Tryd.underlying25 Tryd.underlying5 Tryd.underlying9 _ b _ _ HM.out hb
  have b0 := str_beq a b
  obtain ⟨r, hr⟩ : ∃ r, r = decide (a = b) := ⟨_, rfl⟩
  rw [← hr] at b0 ⊢
  generalize strL a = SA at s0 b0
  generalize strL b = SB at s1 b0
  clear hr ha hb
  go_enter Tryd.func98, Tryd.ntmps98
  go_wp2_with fail
  go_ret
  exact ⟨rfl, rfl⟩
end Go.Proofs.YtcejbofdgljemaaDoor
/-
  Terms in memory: a slice of structs of two byte slices read as a list; kept, cut, joined. No conditions but those typed.
-/
namespace Go.Proofs.YtcejbofdgljemaaDoor
set_option maxRecDepth 100000
open Go.RowKit
set_option linter.unusedSimpArgs false
set_option linter.unusedVariables false

/-- A term that lies somewhere: where its key and its text lie, their rooms, and what they are. -/
structure TD where
  kA : Option Addr
  kc : Nat
  k : List UInt8
  mA : Option Addr
  mc : Nat
  m : List UInt8
def TD.at0 (x : TD) : Value := .slice x.kA x.k.length x.kc
def TD.at1 (x : TD) : Value := .slice x.mA x.m.length x.mc
def TD.cells (x : TD) : List Value := [x.at0, x.at1]
def TD.c (x : TD) : Tm := (x.k, x.m)
/-- What a term's two slices point to, is there. -/
def TD.ok (w : World) (x : TD) : Prop := x.k.length ≤ x.kc ∧ x.m.length ≤ x.mc ∧ Rd vB w x.kA x.k ∧ Rd vB w x.mA x.m
def cellsT (ts : List TD) : List Value := ts.flatMap TD.cells
def conT (ts : List TD) : List Tm := ts.map TD.c

/-- The slice with address A has these terms' cells, one behind the other. -/
def RdT (w : World) (A : Option Addr) (ts : List TD) : Prop :=
  ts ≠ [] → ∃ b o, A = some ⟨b, o, none⟩ ∧ ∀ i (h : i < ts.length), w.cell? ⟨b, o + i * 2, none⟩ = some ts[i].at0 ∧ w.cell? ⟨b, o + i * 2 + 1, none⟩ = some ts[i].at1
def okT (w : World) (ts : List TD) : Prop := ∀ x ∈ ts, x.ok w

theorem conT_length (ts : List TD) : (conT ts).length = ts.length := by simp [conT]
theorem cellsT_length : ∀ ts : List TD, (cellsT ts).length = ts.length * 2
  | [] => rfl
  | x :: ts => by
    have := cellsT_length ts
    unfold cellsT at *
    rw [List.flatMap_cons, List.length_append, this, List.length_cons]
    simp [TD.cells]
    omega
theorem cellsT_get : ∀ (ts : List TD) (i : Nat) (h : i < ts.length), (cellsT ts)[i * 2]? = some ts[i].at0 ∧ (cellsT ts)[i * 2 + 1]? = some ts[i].at1
  | x :: ts, 0, _ => ⟨rfl, rfl⟩
  | x :: ts, i + 1, h => by
    have ih := cellsT_get ts i (by simpa using h)
    have e : cellsT (x :: ts) = x.at0 :: x.at1 :: cellsT ts := rfl
    rw [e, show (i + 1) * 2 = i * 2 + 1 + 1 by omega, List.getElem?_cons_succ, List.getElem?_cons_succ, List.getElem?_cons_succ, List.getElem?_cons_succ]
    exact ih
theorem conT_get (ts : List TD) (i : Nat) (h : i < ts.length) : (conT ts)[i]'(by rw [conT_length]; exact h) = ts[i].c := by simp [conT]
theorem TD.ok.keep {w w' : World} {x : TD} (h : x.ok w) (hb : Below w.heap.size w w') : x.ok w' := ⟨h.1, h.2.1, h.2.2.1.keep hb, h.2.2.2.keep hb⟩
theorem okT.keep {w w' : World} {ts : List TD} (h : okT w ts) (hb : Below w.heap.size w w') : okT w' ts := fun x hx => (h x hx).keep hb
theorem okT.app {w : World} {ts us : List TD} (h : okT w ts) (k : okT w us) : okT w (ts ++ us) := fun x hx => (List.mem_append.1 hx).elim (h x) (k x)
theorem okT.take {w : World} {ts : List TD} (h : okT w ts) (n : Nat) : okT w (ts.take n) := fun x hx => h x (List.mem_of_mem_take hx)
section
variable {w w' : World} {A : Option Addr} {ts : List TD}
theorem RdT.nil : RdT w A [] := fun h => absurd rfl h
theorem RdT.at (h : RdT w A ts) {k : Nat} (hk : k < ts.length) : ∃ b o, A = some ⟨b, o, none⟩ ∧ b < w.heap.size ∧ ∀ i (h : i < ts.length), w.cell? ⟨b, o + i * 2, none⟩ = some ts[i].at0 ∧ w.cell? ⟨b, o + i * 2 + 1, none⟩ = some ts[i].at1 := by
  obtain ⟨b, o, e, hc⟩ := h (by rintro rfl; simp at hk)
  exact ⟨b, o, e, World.block_lt_of_cell? w _ (hc k hk).1, hc⟩
theorem RdT.keep (h : RdT w A ts) (hb : Below w.heap.size w w') : RdT w' A ts := fun hn => by
  obtain ⟨b, o, e, hc⟩ := h hn
  refine ⟨b, o, e, fun i hi => ?_⟩
  obtain ⟨h0, h1⟩ := hc i hi
  have hlt := World.block_lt_of_cell? w _ h0
  exact ⟨(hb.cell (p := ⟨b, o + i * 2, none⟩) hlt).trans h0, (hb.cell (p := ⟨b, o + i * 2 + 1, none⟩) hlt).trans h1⟩
theorem RdT.take (h : RdT w A ts) (n : Nat) : RdT w A (ts.take n) := fun hn => by
  obtain ⟨b, o, e, hc⟩ := h (by rintro rfl; simp at hn)
  refine ⟨b, o, e, fun i hi => ?_⟩
  have hi' : i < ts.length := by simp at hi; omega
  have := hc i hi'
  simpa using this
theorem RdT.range {b o : Nat} (h : RdT w (some ⟨b, o, none⟩) ts) : ∀ j u, (cellsT ts)[j]? = some u → w.cell? ((⟨b, o, none⟩ : Addr).add j) = some u := fun j u hu => by
  have hj : j < ts.length * 2 := by
    rw [← cellsT_length]
    exact (List.getElem?_eq_some_iff.1 hu).1
  have hi : j / 2 < ts.length := by omega
  obtain ⟨b', o', e, hc⟩ := h (by rintro rfl; simp at hi)
  injection e with e
  injection e with e1 e2 _
  subst e1 e2
  obtain ⟨h0, h1⟩ := hc (j / 2) hi
  obtain ⟨g0, g1⟩ := cellsT_get ts (j / 2) hi
  have e1 : (⟨b, o, none⟩ : Addr).add j = ⟨b, o + j, none⟩ := by unfold Addr.add; split <;> simp_all
  rw [e1]
  by_cases hp : j % 2 = 0
  · have e2 : j / 2 * 2 = j := by omega
    rw [e2] at h0 g0
    rw [h0, ← g0, hu]
  · have e2 : j / 2 * 2 + 1 = j := by omega
    rw [Nat.add_assoc, e2] at h1
    rw [e2] at g1
    rw [h1, ← g1, hu]
theorem RdT.own {base : Nat} {e : TypeId} {n c : Nat} (h : w.ownsRow base e 2 (.slice A n c) n (cellsT ts)) : RdT w A ts := fun hn => by
  have hl : ts.length = n := by
    have := h.1
    rw [cellsT_length] at this
    omega
  have hpos : 0 < n := by
    rcases Nat.eq_zero_or_pos n with h0 | h0
    · exact absurd (List.eq_nil_of_length_eq_zero (by omega)) hn
    · exact h0
  obtain ⟨g, cap, hv, _, hlt⟩ := h.form hpos
  have hA : A = some ⟨g, 0, none⟩ := by injection hv
  subst hA
  refine ⟨g, 0, rfl, fun i hi => ?_⟩
  obtain ⟨g0, g1⟩ := cellsT_get ts i hi
  have h0 := h.cells (g := g) rfl _ _ g0
  have h1 := h.cells (g := g) rfl _ _ g1
  have e1 : ∀ j, (⟨g, 0, none⟩ : Addr).add j = ⟨g, 0 + j, none⟩ := fun j => by unfold Addr.add; split <;> simp_all
  rw [e1] at h0 h1
  exact ⟨h0, h1⟩
theorem own_sliceT {base : Nat} {e : TypeId} {v : Value} (h : w.ownsRow base e 2 v ts.length (cellsT ts)) : ∃ A cap, v = .slice A ts.length cap ∧ ts.length ≤ cap ∧ RdT w A ts := by
  rcases h.2 with ⟨rfl, h0⟩ | ⟨g, cap, cur, rfl, _, _, hc, _⟩
  · have hl : ts = [] := List.eq_nil_of_length_eq_zero h0
    subst hl
    exact ⟨none, 0, rfl, Nat.le_refl _, RdT.nil⟩
  · exact ⟨_, cap, rfl, hc, RdT.own h⟩
end
theorem cellsT_one : ∀ (ts : List TD), ∀ u ∈ cellsT ts, u.oneCell' = true := fun ts u hu => by
  obtain ⟨x, _, hx⟩ := List.mem_flatMap.1 hu
  simp [TD.cells, TD.at0, TD.at1] at hx
  rcases hx with rfl | rfl <;> rfl
theorem rangeAt_keep {w w' : World} {g o : Nat} {l : List Value} (h : w.rangeAt g o l) (hb : Below w.heap.size w w') (hg : g < w.heap.size) : w'.rangeAt g o l := fun j v hv => (hb.cell (p := ⟨g, o + j, none⟩) hg).trans (h j v hv)
/-- What lies below block B is there behind a store to a block not below it. -/
theorem Rd.setRow_old {α : Type} {f : α → Value} {w w' : World} {A : Option Addr} {L : List α} (h : Rd f w A L) (hb : Below w.heap.size w w') {g : Nat} (hg : w.heap.size ≤ g) (cs : Array Value) : Rd f (w'.setRow g cs) A L := fun hn => by
  obtain ⟨b, o, rfl, hc⟩ := h hn
  refine ⟨b, o, rfl, fun i hi => ?_⟩
  have hk := hc i hi
  have hlt : b < w.heap.size := World.block_lt_of_cell? w _ hk
  rw [cell_setRow_other w' g cs ⟨b, o + i, none⟩ (by show b ≠ g; omega), hb.cell (p := ⟨b, o + i, none⟩) hlt]
  exact hk
theorem TD.ok.setRow_old {w w' : World} {x : TD} (h : x.ok w) (hb : Below w.heap.size w w') {g : Nat} (hg : w.heap.size ≤ g) (cs : Array Value) : x.ok (w'.setRow g cs) := ⟨h.1, h.2.1, h.2.2.1.setRow_old hb hg cs, h.2.2.2.setRow_old hb hg cs⟩

/-! ### A store into a block that holds no bytes, and no terms -/
theorem vB_inj {a b : UInt8} (h : vB a = vB b) : a = b := by
  unfold vB at h
  injection h with _ h
  exact UInt8.toNat_inj.1 (by omega)
theorem Rd.setRow_row {w : World} {A : Option Addr} {L : List UInt8} (h : Rd vB w A L) {g : Nat} {t : TypeId} {l : List Value} (hR : Row w g t l) (hl : ∀ v ∈ l, ∀ x, v ≠ vB x) (cs : Array Value) : Rd vB (w.setRow g cs) A L := fun hn => by
  obtain ⟨b, o, rfl, hc⟩ := h hn
  refine ⟨b, o, rfl, fun i hi => ?_⟩
  have hne : b ≠ g := by
    rintro rfl
    have h1 := hc i hi
    rw [hR.cell? (o + i)] at h1
    exact hl _ (List.mem_of_getElem? h1) _ rfl
  exact (cell_setRow_other w g cs ⟨b, o + i, none⟩ hne).trans (hc i hi)
theorem TD.ok.setRow_row {w : World} {x : TD} (h : x.ok w) {g : Nat} {t : TypeId} {l : List Value} (hR : Row w g t l) (hl : ∀ v ∈ l, ∀ x, v ≠ vB x) (cs : Array Value) : x.ok (w.setRow g cs) := ⟨h.1, h.2.1, h.2.2.1.setRow_row hR hl cs, h.2.2.2.setRow_row hR hl cs⟩
theorem okT.setRow_row {w : World} {ts : List TD} (h : okT w ts) {g : Nat} {t : TypeId} {l : List Value} (hR : Row w g t l) (hl : ∀ v ∈ l, ∀ x, v ≠ vB x) (cs : Array Value) : okT (w.setRow g cs) ts := fun x hx => (h x hx).setRow_row hR hl cs
/-- A number and a slice are no bytes; and no term is a number. -/
theorem two_no_byte (k : Int) (v : Value) (hv : ∀ x, v ≠ vB x) : ∀ u ∈ ([.int .i64 k, v] : List Value), ∀ x, u ≠ vB x := fun u hu x e => by
  simp at hu
  rcases hu with rfl | rfl
  · unfold vB at e
    injection e with e _
    cases e
  · exact hv x e
theorem slice_no_byte (A : Option Addr) (n c : Nat) : ∀ x, (Value.slice A n c) ≠ vB x := fun x e => by unfold vB at e; cases e
theorem RdT.setRow_row {w : World} {A : Option Addr} {ts : List TD} (h : RdT w A ts) {g : Nat} {t : TypeId} {k : Int} {v : Value} (hR : Row w g t [.int .i64 k, v]) (cs : Array Value) : RdT (w.setRow g cs) A ts := fun hn => by
  obtain ⟨b, o, rfl, hc⟩ := h hn
  refine ⟨b, o, rfl, fun i hi => ?_⟩
  obtain ⟨h0, h1⟩ := hc i hi
  have hne : b ≠ g := by
    rintro rfl
    rw [hR.cell? (o + i * 2)] at h0
    rw [hR.cell? (o + i * 2 + 1)] at h1
    rcases Nat.eq_zero_or_pos (o + i * 2) with e | e
    · rw [e] at h0
      injection h0 with h0
      unfold TD.at0 at h0
      cases h0
    · rw [List.getElem?_eq_none (by simp; omega)] at h1
      cases h1
  exact ⟨(cell_setRow_other w g cs ⟨b, o + i * 2, none⟩ hne).trans h0, (cell_setRow_other w g cs ⟨b, o + i * 2 + 1, none⟩ hne).trans h1⟩

/-! ### append, elements of any size -/
section
variable {P : Program} (w : World)
theorem run_append_gen (base : Nat) (t ty e : TypeId) (i : TypeInfo) (z : Value) (size bytes : Nat) (ht : P.underlying t = some (.slice e)) (hi : P.info? e = some i) (hz : i.zero = some z)
    (hsize : i.size = size) (hby : i.bytes = bytes) (hzs : z.cells.size = size) (hsz : 0 < size) (v : Value) (n : Nat) (xs : List Value) (hown : w.ownsRow base e size v n xs)
    (A : Option Addr) (m c : Nat) (news : List Value) (hl : news.length = m * size) (hr : news ≠ [] → ∃ b o, A = some ⟨b, o, none⟩ ∧ ∀ j u, news[j]? = some u → w.cell? ((⟨b, o, none⟩ : Addr).add j) = some u) (h1 : ∀ u ∈ news, u.oneCell' = true)
    (h63 : n + m ≤ maxLen) (hbytes : (n + m) * bytes ≤ 140737488355328) (hbase : base ≤ w.heap.size) :
    ∃ v' w', (Builtin.append_ #[t, t] ty #[v, .slice A m c]).run P w = .ok v' w' ∧ w'.ownsRow base e size v' (n + m) (xs ++ news) ∧ w.grownBy w' v.ownBlock := by
  by_cases hm : m = 0
  · subst hm
    have e0 : news = [] := List.eq_nil_of_length_eq_zero (by omega)
    subst e0
    cases A with
    | none =>
      refine ⟨v, w, ?_, by simpa using hown, ⟨rfl, rfl, rfl, Nat.le_refl _, fun _ _ _ => rfl⟩⟩
      rcases hown.2 with ⟨rfl, rfl⟩ | ⟨g, cap, cur, rfl, _, _, hnc, _⟩
      · simp [Builtin.append_, run_underlying ht, sizeOf, typeInfo, hi, Builtin.lenOf, Builtin.firstCells]
      · simp [Builtin.append_, run_underlying ht, sizeOf, typeInfo, hi, Builtin.lenOf, Builtin.firstCells, hnc, storeCells]
    | some ad =>
      obtain ⟨v', w', hrun, h2, h3, _⟩ := run_append_own (P := P) w base t ty e i z size bytes ht hi hz hsize hby hzs hsz v n xs hown ad 0 c [] (by simp) (fun j u h => by simp at h) (fun u h => by simp at h) h63 hbytes hbase
      exact ⟨v', w', hrun, h2, h3⟩
  · have hne : news ≠ [] := by
      rintro rfl
      have h0 : m * size = 0 := by rw [← hl]; rfl
      rcases Nat.mul_eq_zero.1 h0 with h | h <;> omega
    obtain ⟨b, o, rfl, hc⟩ := hr hne
    obtain ⟨v', w', hrun, h2, h3, _⟩ := run_append_own (P := P) w base t ty e i z size bytes ht hi hz hsize hby hzs hsz v n xs hown ⟨b, o, none⟩ m c news hl hc h1 h63 hbytes hbase
    exact ⟨v', w', hrun, h2, h3⟩
theorem wpList_append_gen {ops : Array Oper} {rest : List Oper} {o : Oper} {a : Act} {Q : Exit → Act → World → Prop} (hgd : o.guard = none) (s x : Operand) (t : TypeId)
    (ho : o.op = .call { callee := .builtin .append, args := #[s, x], argTypes := #[t, t] })
    (base : Nat) (e : TypeId) (i : TypeInfo) (z : Value) (size bytes : Nat) (ht : P.underlying t = some (.slice e)) (hi : P.info? e = some i) (hz : i.zero = some z)
    (hsize : i.size = size) (hby : i.bytes = bytes) (hzs : z.cells.size = size) (hsz : 0 < size) (v : Value) (n : Nat) (xs : List Value) (hs : a.eval s = v) (hown : w.ownsRow base e size v n xs)
    (A : Option Addr) (m c : Nat) (news : List Value) (hx : a.eval x = .slice A m c) (hl : news.length = m * size) (hr : news ≠ [] → ∃ b o, A = some ⟨b, o, none⟩ ∧ ∀ j u, news[j]? = some u → w.cell? ((⟨b, o, none⟩ : Addr).add j) = some u) (h1 : ∀ u ∈ news, u.oneCell' = true)
    (h63 : n + m ≤ maxLen) (hbytes : (n + m) * bytes ≤ 140737488355328) (hbase : base ≤ w.heap.size)
    (h : ∀ v' w', w'.ownsRow base e size v' (n + m) (xs ++ news) → w.grownBy w' v.ownBlock → wpList P ops Q rest (a.put o.dst v') w') : wpList P ops Q (o :: rest) a w := by
  refine wpList_plain hgd fun K hK => ?_
  obtain ⟨v', w', hr, h2, h3⟩ := run_append_gen (P := P) w base t o.type e i z size bytes ht hi hz hsize hby hzs hsz v n xs hown A m c news hl hr h1 h63 hbytes hbase
  unfold Oper.wp execOp
  simp only [ho, resolve, invoke, builtin, Sem.run_bind, Sem.run_pure, Result.andThen_ok, List.map_toArray, List.map_cons, List.map_nil, hs, hx, hr]
  exact hK _ _ (h v' w' h2 h3)
end
theorem RdT.news {w : World} {A : Option Addr} {ts : List TD} (h : RdT w A ts) : cellsT ts ≠ [] → ∃ b o, A = some ⟨b, o, none⟩ ∧ ∀ j u, (cellsT ts)[j]? = some u → w.cell? ((⟨b, o, none⟩ : Addr).add j) = some u := fun hn => by
  have hne : ts ≠ [] := by
    rintro rfl
    exact hn rfl
  obtain ⟨b, o, e, _⟩ := h hne
  subst e
  exact ⟨b, o, rfl, h.range⟩
/-- A row of bytes of the call's own, as a slice; its block is none of the older ones. -/
theorem own_sliceN {α : Type} {f : α → Value} {w : World} {base : Nat} {e : TypeId} {v : Value} {l : List α} (h : w.ownsRow base e 1 v l.length (l.map f)) : ∃ A cap, v = .slice A l.length cap ∧ l.length ≤ cap ∧ Rd f w A l ∧ ∀ a, A = some a → base ≤ a.block := by
  rcases h.2 with ⟨rfl, h0⟩ | ⟨g, cap, cur, rfl, hg, _, hc, _⟩
  · have hl : l = [] := List.eq_nil_of_length_eq_zero h0
    subst hl
    exact ⟨none, 0, rfl, Nat.le_refl _, Rd.nil, fun a h => by cases h⟩
  · exact ⟨_, cap, rfl, hc, Rd.own h, fun a ha => by injection ha with ha; subst ha; exact hg⟩
theorem info_term : (Tryd.prog.info? 47).map (fun i => (i.zero, i.size, i.bytes)) = some (some (.agg #[.slice none 0 0, .slice none 0 0]), 2, 48) := by kernel_rfl
end Go.Proofs.YtcejbofdgljemaaDoor
/-
  What the reference's call Place of layer 5 answers. No conditions but those typed.
-/
namespace Go.Proofs.YtcejbofdgljemaaDoor
set_option maxRecDepth 100000
open Go.RowKit
set_option linter.unusedSimpArgs false
set_option linter.unusedVariables false

def PlRel (cs : List Tm) (x : Tm) (w : World) (i : Value) (wr : World) : Prop :=
  ∃ k : Nat, k ≤ cs.length ∧ i = .int .i64 (k : Int) ∧ (∀ j (h : j < k) (h' : j < cs.length), cs[j] ≠ x) ∧ Below w.heap.size w wr
theorem PlRel.next {cs : List Tm} {x : Tm} {k : Nat} (hk : k < cs.length) (h : ∀ j (h : j < k) (h' : j < cs.length), cs[j] ≠ x) (hn : cs[k] ≠ x) : ∀ j (h : j < k + 1) (h' : j < cs.length), cs[j] ≠ x := fun j hj h' => by
  rcases Nat.lt_or_ge j k with h1 | h1
  · exact h j h1 h'
  · have : j = k := by omega
    subst this
    exact hn

end Go.Proofs.YtcejbofdgljemaaDoor
