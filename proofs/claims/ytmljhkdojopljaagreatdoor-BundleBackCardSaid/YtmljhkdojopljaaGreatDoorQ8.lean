/-
  What the program's call lastBlocks of layer 2 answers: the state behind a rest that is filled up. Conditions: the rest is less than a block; the package's table holds the sixty-four constants.
-/
import Derived.Test.YtmljhkdojopljaaGreatDoorQ7
import Derived.Deep.Cut
import Derived.Deep.DeepCutAuto
import Derived.Maps.OwnOps
import Derived.Maps.Views
import Derived.DeepKeys4
import Derived.Maps.AppendAt
import Derived.Deep.QuietTactic
namespace Go.Proofs.YtmljhkdojopljaaGreatDoor
set_option maxRecDepth 100000
open Go.RowKit
set_option linter.unusedSimpArgs false
set_option linter.unusedVariables false

/-- A rest with the mark behind it. -/
def markL (r : List UInt8) : List UInt8 := r ++ 128 :: List.replicate (63 - r.length) 0
theorem markL_length (r : List UInt8) (h : r.length < 64) : (markL r).length = 64 := by simp [markL]; omega
theorem markL_set (r : List UInt8) (h : r.length < 64) : (r ++ List.replicate (64 - r.length) 0).set r.length 128 = markL r := by
  rw [List.set_append_right _ _ (Nat.le_refl _), Nat.sub_self, show 64 - r.length = (63 - r.length) + 1 by omega, List.replicate_succ, List.set_cons_zero]
  rfl
theorem fill_short (r : List UInt8) (many : Nat) (h : r.length < 56) : fillL r many = (markL r).take 56 ++ putL (8 * many % 18446744073709551616) := by
  unfold fillL markL
  congr 1
  rw [List.take_append, List.take_of_length_le (by omega), show 56 - r.length = (55 - r.length) + 1 by omega, List.take_succ_cons, List.take_replicate,
    show (119 - r.length % 64) % 64 = 55 - r.length by omega, show min (55 - r.length) (63 - r.length) = 55 - r.length by omega]
theorem fill_long (r : List UInt8) (many : Nat) (h : 56 ≤ r.length) (h64 : r.length < 64) : fillL r many = markL r ++ ((List.replicate 64 0).take 56 ++ putL (8 * many % 18446744073709551616)) := by
  unfold fillL markL
  rw [← List.append_assoc]
  congr 1
  rw [List.append_assoc]
  congr 1
  rw [List.take_replicate, show min 56 64 = 56 by omega, show (119 - r.length % 64) % 64 = (63 - r.length) + 56 by omega, List.cons_append, List.replicate_append_replicate]
theorem from_one [Inhabited Tab] (s : St) (M : List UInt8) (h : M.length = 64) : s.from M = s.block M := by
  rw [from_step s M (by omega), List.take_of_length_le (by omega), List.drop_of_length_le (by omega)]
  exact from_stop _ _ (by simp)
theorem from_two [Inhabited Tab] (s : St) (M N : List UInt8) (h : M.length = 64) (h' : N.length = 64) : s.from (M ++ N) = (s.block M).block N := by
  rw [from_step s _ (by simp; omega), List.take_left' h, List.drop_left' h]
  exact from_one _ _ h'
theorem last_short [Inhabited Tab] (s : St) (r : List UInt8) (many : Nat) (h : r.length < 56) : s.from (fillL r many) = s.block ((markL r).take 56 ++ putL (8 * many % 18446744073709551616)) := by
  rw [fill_short r many h]
  exact from_one _ _ (by have := markL_length r (by omega); simp [putL_length]; omega)
theorem last_long [Inhabited Tab] (s : St) (r : List UInt8) (many : Nat) (h : 56 ≤ r.length) (h64 : r.length < 64) : s.from (fillL r many) = (s.block (markL r)).block ((List.replicate 64 0).take 56 ++ putL (8 * many % 18446744073709551616)) := by
  rw [fill_long r many h h64]
  exact from_two _ _ _ (markL_length r h64) (by simp [putL_length])

def manyS (g many : Nat) (W : World) : Prop := W.cell? ⟨g, 9, none⟩ = some (.int .u64 (many : Int)) ∧ True

set_option maxRecDepth 100000 in
set_option maxHeartbeats 1000000 in
theorem last_any [Inhabited Tab] (s : St) (r : List UInt8) (A : Option Addr) (c many : Nat) (w : World) (hr : Rd vB w A r) (hn : r.length < 64) (hm : many < 18446744073709551616) (HK : Hid (KTab w)) :
    Calls Tryz.prog 109 #[.agg #[.int .u32 (s.a.toNat : Int), .int .u32 (s.b.toNat : Int), .int .u32 (s.c.toNat : Int), .int .u32 (s.d.toNat : Int), .int .u32 (s.e.toNat : Int), .int .u32 (s.f.toNat : Int), .int .u32 (s.g.toNat : Int), .int .u32 (s.h.toNat : Int), .slice A r.length c, .int .u64 (many : Int)]] w (RetS vW w (s.from (fillL r many)).toL) := by
  have hmk : ∀ w, (Instr.makeSlice 27 (.int .i64 64) (.int .i64 64)).run Tryz.prog w = .ok (.slice (some ⟨w.heap.size, 0, none⟩) 64 64) (w.alloc (.cells (List.replicate 64 (.int .u8 0)).toArray 5)) := fun _ => by kernel_rfl
  obtain ⟨p, hp⟩ : ∃ p, p = 8 * many % 18446744073709551616 := ⟨_, rfl⟩
  have HP1 : Hid (IntKind.u64.wrap (8 * (many : Int)) = (p : Int)) := by unfold Hid; rw [IntKind.wrap_u64, hp]; omega
  have HP2 : Hid (8 * (many : Int) % 18446744073709551616 = (p : Int)) := by unfold Hid; rw [hp]; omega
  have HPm : Hid (p < 18446744073709551616) := by unfold Hid; rw [hp]; exact Nat.mod_lt _ (by omega)
  have HP := Lib.hid hp
  clear hp
  go_enter Tryz.func109, Tryz.ntmps109
  go_upto_region 4 with (first
    | (refine wpList_load_part rfl 182 (.tmp 6) rfl w.heap.size 0 rfl _ _ (Row.new w _ _ _ rfl) [.int .u32 (s.a.toNat : Int), .int .u32 (s.b.toNat : Int), .int .u32 (s.c.toNat : Int), .int .u32 (s.d.toNat : Int), .int .u32 (s.e.toNat : Int), .int .u32 (s.f.toNat : Int), .int .u32 (s.g.toNat : Int), .int .u32 (s.h.toNat : Int)] (by rfl) _ Tryz.underlying182 rfl (by exact size_st) ?_)
    | (refine wpList_copy_row rfl (.tmp 9) (.tmp 11) 27 27 rfl 5 Tryz.underlying27 (by kernel_rfl) (w.heap.size + 2) 0 64 64 A r c rfl rfl (List.replicate 64 (.int .u8 0)) 5 (by exact Row.new_at _ _ (by simp) _ _ _ rfl) (by exact hr.keep (below_new (below_new (below_new (Below.refl _ _) _) _) _)) vB_one (by omega) (by simp; omega) ?_))
  refine at_world (Q := Code.wp _ _ _ _) (fun W => Row W w.heap.size 186 [.int .u32 (s.a.toNat : Int), .int .u32 (s.b.toNat : Int), .int .u32 (s.c.toNat : Int), .int .u32 (s.d.toNat : Int), .int .u32 (s.e.toNat : Int), .int .u32 (s.f.toNat : Int), .int .u32 (s.g.toNat : Int), .int .u32 (s.h.toNat : Int), .slice A r.length c, .int .u64 (many : Int)] ∧ Row W (w.heap.size + 1) 182 [.int .u32 (s.a.toNat : Int), .int .u32 (s.b.toNat : Int), .int .u32 (s.c.toNat : Int), .int .u32 (s.d.toNat : Int), .int .u32 (s.e.toNat : Int), .int .u32 (s.f.toNat : Int), .int .u32 (s.g.toNat : Int), .int .u32 (s.h.toNat : Int)] ∧ Row W (w.heap.size + 1 + 1) 5 ((r ++ List.replicate (64 - r.length) 0).map vB) ∧ Below w.heap.size w W)
    ⟨(((Row.new w _ _ _ rfl).alloc _).alloc _).setRow_other (by omega) _, ((Row.new_at _ _ (by simp) _ _ _ rfl).alloc _).setRow_other (by omega) _, ?_, below_setRow (below_new (below_new (below_new (Below.refl _ _) _) _) _) (by omega) _⟩ ?_
  · refine Row.setRow_at (Row.new_at _ _ (by simp) _ _ _ rfl) _ _ ?_
    show (r.map vB ++ (List.replicate 64 (Value.int .u8 0)).drop r.length).toArray = _
    rw [List.drop_replicate, List.map_append, List.map_replicate]
    rfl
  clear hmk hr
  rintro W ⟨hR0, hR1, hR2, hB⟩
  have hcn : W.cell? ⟨w.heap.size + 1 + 1, r.length, none⟩ = some (.int .u8 0) := hR2.cell (by
    rw [List.map_append, List.getElem?_append_right (by simp), List.length_map, Nat.sub_self, List.map_replicate, List.getElem?_replicate, if_pos (by omega)]
    rfl)
  have hfz : W.frozen? ⟨w.heap.size + 1 + 1, r.length, none⟩ = false := hR2.frozen _
  have n0 : (0 : Int) ≤ (r.length : Int) := by omega
  have n1 : (r.length : Int) < 64 := by omega
  go_upto_region 5 with fail
  refine at_world (Q := Code.wp _ _ _ _) (fun W => Row W w.heap.size 186 [.int .u32 (s.a.toNat : Int), .int .u32 (s.b.toNat : Int), .int .u32 (s.c.toNat : Int), .int .u32 (s.d.toNat : Int), .int .u32 (s.e.toNat : Int), .int .u32 (s.f.toNat : Int), .int .u32 (s.g.toNat : Int), .int .u32 (s.h.toNat : Int), .slice A r.length c, .int .u64 (many : Int)] ∧ Row W (w.heap.size + 1) 182 [.int .u32 (s.a.toNat : Int), .int .u32 (s.b.toNat : Int), .int .u32 (s.c.toNat : Int), .int .u32 (s.d.toNat : Int), .int .u32 (s.e.toNat : Int), .int .u32 (s.f.toNat : Int), .int .u32 (s.g.toNat : Int), .int .u32 (s.h.toNat : Int)] ∧ Row W (w.heap.size + 1 + 1) 5 ((markL r).map vB) ∧ Below w.heap.size w W)
    ⟨hR0.setCell_other (by simp; omega) _, hR1.setCell_other (by simp) _, ?_, hB.setCell (by simp; omega) _⟩ ?_
  · have := hR2.setCell r.length (vB 128)
    rw [← List.map_set, markL_set r hn] at this
    exact this
  clear hR0 hR1 hR2 hB hcn hfz W
  rintro W ⟨hR0, hR1, hR2, hB⟩
  by_cases h56 : r.length < 56
  · have hd : decide ((56 : Int) ≤ (r.length : Int)) = false := by simp; omega
    have HE : Hid (s.from (fillL r many) = s.block ((markL r).take 56 ++ putL p)) := by unfold Hid; rw [HP.out]; exact last_short s r many h56
    have HM : Hid ((markL r).length = 64) := markL_length r hn
    generalize markL r = M at hR2 HE HM
    obtain ⟨S, hS⟩ : ∃ S, S = s := ⟨_, rfl⟩
    replace hR1 : Row W (w.heap.size + 1) 182 [.int .u32 (S.a.toNat : Int), .int .u32 (S.b.toNat : Int), .int .u32 (S.c.toNat : Int), .int .u32 (S.d.toNat : Int), .int .u32 (S.e.toNat : Int), .int .u32 (S.f.toNat : Int), .int .u32 (S.g.toNat : Int), .int .u32 (S.h.toNat : Int)] := by rw [hS]; exact hR1
    replace HE : Hid (s.from (fillL r many) = S.block (M.take 56 ++ putL p)) := by rw [hS]; exact HE
    clear hS
    go_upto_region 8 with fail
    clear hd h56
    have h8 := putL_length p
    generalize hpl : putL p = Pl at HE h8
    have HPl := Lib.hid hpl
    have H8 := Lib.hid h8
    clear hpl h8
    have hP1 := HP1.out
    have hP2 := HP2.out
    refine wp_region_plan_of (manyS w.heap.size many) (.step 0 false (.step 1 false (.step 2 false (.step 3 false (.step 4 false (.step 5 true (.step 6 true (.nil)))))))) ⟨hR0.drew.cell rfl, trivial⟩ (by kernel_rfl) (by kernel_rfl) (by rfl) (by kernel_rfl) ?_
    iterate 5 (refine plan_read rfl (by rfl) (v := ?_) ?_ ?_; rotate_left 1; (intro W hW; (try dsimp only at hW); obtain ⟨hW0, hW1⟩ := hW; go_simp <;> with_reducible rfl); simp only [List.getElem_toArray, List.getElem_cons_zero, List.getElem_cons_succ, Act.put, List.setIfInBounds_toArray, List.set_cons_zero, List.set_cons_succ])
    clear hP1 hP2
    refine plan_make_of rfl (by rfl) (fun K hK => ?_)
    go_simp
    refine (put_any p HPm.out _).mono ?_
    rintro e w1 ⟨A1, c1, rfl, hc1, hr1, hb1⟩
    rw [HPl.out] at hc1 hr1 ⊢
    refine hK.out _ _ ⟨(hR0.drew.later hb1).cell rfl, trivial⟩ ?_
    clear hK K
    replace hR0 := hR0.drew.later hb1
    replace hR1 := hR1.drew.later hb1
    replace hR2 := hR2.drew.later hb1
    replace hB := below_step hB.drew hb1
    clear hb1
    refine plan_make_of rfl (by rfl) (fun K hK => ?_)
    refine wp_copy_row (.tmp 24) (.tmp 28) 27 27 (by rfl) 5 Tryz.underlying27 (by kernel_rfl) (w.heap.size + 1 + 1) 56 8 8 A1 Pl c1 (by rfl) (by rfl) (M.map vB) _ hR2 hr1 vB_one (by have := H8.out; omega) (by rw [List.length_map, HM.out, H8.out]; omega) ?_
    simp only [List.getElem_toArray, List.getElem_cons_zero, List.getElem_cons_succ, Act.put, List.setIfInBounds_toArray, List.set_cons_zero, List.set_cons_succ]
    refine hK.out _ _ ⟨(hR0.setRow_other (by omega) _).cell rfl, trivial⟩ ?_
    clear hK K
    refine plan_done ?_
    refine at_world (Q := _) (fun W => Row W (w.heap.size + 1) 182 [.int .u32 (S.a.toNat : Int), .int .u32 (S.b.toNat : Int), .int .u32 (S.c.toNat : Int), .int .u32 (S.d.toNat : Int), .int .u32 (S.e.toNat : Int), .int .u32 (S.f.toNat : Int), .int .u32 (S.g.toNat : Int), .int .u32 (S.h.toNat : Int)] ∧ Row W (w.heap.size + 1 + 1) 5 ((M.take 56 ++ Pl).map vB) ∧ Below w.heap.size w W)
      ⟨hR1.setRow_other (by omega) _, Row.setRow_at hR2 _ _ ?_, below_setRow hB (by omega) _⟩ ?_
    · rw [List.drop_of_length_le (by rw [List.length_map, HM.out, H8.out]; omega), List.append_nil, List.map_append, List.map_take]
    have HM2 : Hid ((M.take 56 ++ Pl).length = 64) := by unfold Hid; rw [List.length_append, List.length_take, HM.out, H8.out]; rfl
    generalize M.take 56 ++ Pl = N at HE HM2
    clear hR0 hR1 hR2 hB hr1 hc1 HM
    rintro W ⟨hR1, hR2, hB⟩
    have hr2 : Rd vB W (some ⟨w.heap.size + 1 + 1, 0, none⟩) N := hR2.rd
    go_wp2_with (refine wpList_load_part rfl 182 (.tmp 3) rfl (w.heap.size + 1) 0 rfl _ _ hR1 [.int .u32 (S.a.toNat : Int), .int .u32 (S.b.toNat : Int), .int .u32 (S.c.toNat : Int), .int .u32 (S.d.toNat : Int), .int .u32 (S.e.toNat : Int), .int .u32 (S.f.toNat : Int), .int .u32 (S.g.toNat : Int), .int .u32 (S.h.toNat : Int)] (by rfl) _ Tryz.underlying182 rfl (by exact size_st) ?_)
    refine (behind_any S N _ _ _ HM2 hr2 (Nat.le_refl _) (Lib.hid (HK.out.keep hB))).mono ?_
    rintro e w2 ⟨T, HT, rfl, hb2⟩
    replace hR1 := hR1.later hb2
    replace hB := below_step hB hb2
    clear hr2 hR2 hb2
    go_wp2_with (refine wpList_store_row rfl 182 (.tmp 3) (.tmp 32) rfl (w.heap.size + 1) rfl [.int .u32 (T.a.toNat : Int), .int .u32 (T.b.toNat : Int), .int .u32 (T.c.toNat : Int), .int .u32 (T.d.toNat : Int), .int .u32 (T.e.toNat : Int), .int .u32 (T.f.toNat : Int), .int .u32 (T.g.toNat : Int), .int .u32 (T.h.toNat : Int)] rfl _ _ hR1 (by exact size_st) (by rfl) (by exact one_st _ _ _ _ _ _ _ _) ?_)
    go_ret
    rw [HE.out, ← HT.out]
    exact ⟨_, 8, rfl, Nat.le_refl _, Row.rd (f := vW) (L := T.toL) (hR1.setRow _), below_setRow hB (by omega) _⟩
  · have hd : decide ((56 : Int) ≤ (r.length : Int)) = true := by simp; omega
    have HE : Hid (s.from (fillL r many) = (s.block (markL r)).block ((List.replicate 64 0).take 56 ++ putL p)) := by unfold Hid; rw [HP.out]; exact last_long s r many (by omega) hn
    have HM : Hid ((markL r).length = 64) := markL_length r hn
    generalize markL r = M at hR2 HE HM
    have hr2 : Rd vB W (some ⟨w.heap.size + 1 + 1, 0, none⟩) M := hR2.rd
    go_wp2_with (refine wpList_load_part rfl 182 (.tmp 3) rfl (w.heap.size + 1) 0 rfl _ _ hR1 [.int .u32 (s.a.toNat : Int), .int .u32 (s.b.toNat : Int), .int .u32 (s.c.toNat : Int), .int .u32 (s.d.toNat : Int), .int .u32 (s.e.toNat : Int), .int .u32 (s.f.toNat : Int), .int .u32 (s.g.toNat : Int), .int .u32 (s.h.toNat : Int)] (by rfl) _ Tryz.underlying182 rfl (by exact size_st) ?_)
    refine (behind_any s M _ _ _ HM hr2 (Nat.le_refl _) (Lib.hid (HK.out.keep hB))).mono ?_
    rintro e w1 ⟨S, HS, rfl, hb1⟩
    replace hR0 := hR0.later hb1
    replace hR1 := hR1.later hb1
    replace hR2 := hR2.later hb1
    replace hB := below_step hB hb1
    clear hr2 hb1
    go_upto_region 7 with (refine wpList_store_row rfl 182 (.tmp 3) (.tmp 21) rfl (w.heap.size + 1) rfl [.int .u32 (S.a.toNat : Int), .int .u32 (S.b.toNat : Int), .int .u32 (S.c.toNat : Int), .int .u32 (S.d.toNat : Int), .int .u32 (S.e.toNat : Int), .int .u32 (S.f.toNat : Int), .int .u32 (S.g.toNat : Int), .int .u32 (S.h.toNat : Int)] rfl _ _ hR1 (by exact size_st) (by rfl) (by exact one_st _ _ _ _ _ _ _ _) ?_)
    refine at_world (Q := Code.wp _ _ _ _) (fun W => Row W w.heap.size 186 [.int .u32 (s.a.toNat : Int), .int .u32 (s.b.toNat : Int), .int .u32 (s.c.toNat : Int), .int .u32 (s.d.toNat : Int), .int .u32 (s.e.toNat : Int), .int .u32 (s.f.toNat : Int), .int .u32 (s.g.toNat : Int), .int .u32 (s.h.toNat : Int), .slice A r.length c, .int .u64 (many : Int)] ∧ Row W (w.heap.size + 1) 182 [.int .u32 (S.a.toNat : Int), .int .u32 (S.b.toNat : Int), .int .u32 (S.c.toNat : Int), .int .u32 (S.d.toNat : Int), .int .u32 (S.e.toNat : Int), .int .u32 (S.f.toNat : Int), .int .u32 (S.g.toNat : Int), .int .u32 (S.h.toNat : Int)] ∧ Row W (w.heap.size + 1 + 1) 5 (M.map vB) ∧ Below w.heap.size w W)
      ⟨hR0.setRow_other (by omega) _, hR1.setRow _, hR2.setRow_other (by omega) _, below_setRow hB (by omega) _⟩ ?_
    clear hR0 hR1 hR2 hB w1 W
    rintro W ⟨hR0, hR1, hR2, hB⟩
    have hcl : (Builtin.clear_ #[27] 0 #[.slice (some ⟨w.heap.size + 1 + 1, 0, none⟩) 64 64]).run Tryz.prog W = .ok (.tuple #[]) (W.setCells (w.heap.size + 1 + 1) 0 (List.replicate 64 (.int .u8 0))) :=
      Lib.run_clear_slice W _ 5 _ (.int .u8 0) Tryz.underlying27 (fun _ => by kernel_rfl) rfl rfl _ 0 64 64 (by omega) (fun j hj => by rw [hR2.cell?]; have := HM.out; simp [this, hj]) (fun j _ => hR2.frozen _)
    go_upto_region 8 with fail
    refine at_world (Q := Code.wp _ _ _ _) (fun W => Row W w.heap.size 186 [.int .u32 (s.a.toNat : Int), .int .u32 (s.b.toNat : Int), .int .u32 (s.c.toNat : Int), .int .u32 (s.d.toNat : Int), .int .u32 (s.e.toNat : Int), .int .u32 (s.f.toNat : Int), .int .u32 (s.g.toNat : Int), .int .u32 (s.h.toNat : Int), .slice A r.length c, .int .u64 (many : Int)] ∧ Row W (w.heap.size + 1) 182 [.int .u32 (S.a.toNat : Int), .int .u32 (S.b.toNat : Int), .int .u32 (S.c.toNat : Int), .int .u32 (S.d.toNat : Int), .int .u32 (S.e.toNat : Int), .int .u32 (S.f.toNat : Int), .int .u32 (S.g.toNat : Int), .int .u32 (S.h.toNat : Int)] ∧ Row W (w.heap.size + 1 + 1) 5 ((List.replicate 64 (0 : UInt8)).map vB) ∧ Below w.heap.size w W)
      ⟨hR0.setCells_other (by omega) _ _, hR1.setCells_other (by omega) _ _, ?_, below_setCells (by omega) _ _ hB⟩ ?_
    · have h0 : 0 + (List.replicate 64 (Value.int .u8 0)).length ≤ (M.map vB).length := by rw [List.length_map, HM.out]; simp
      have h1 : (M.map vB).take 0 ++ List.replicate 64 (Value.int .u8 0) ++ (M.map vB).drop (0 + (List.replicate 64 (Value.int .u8 0)).length) = (List.replicate 64 (0 : UInt8)).map vB := by
        rw [List.drop_of_length_le (by rw [List.length_map, HM.out]; simp), List.map_replicate]
        rfl
      have := Row.setCells _ 0 hR2 h0
      rw [h1] at this
      exact this
    replace HE : Hid (s.from (fillL r many) = S.block ((List.replicate 64 0).take 56 ++ putL p)) := by unfold Hid; rw [HE.out, HS.out]
    clear hR0 hR1 hR2 hB hcl HM HS W M hd h56
    rintro W ⟨hR0, hR1, hR2, hB⟩
    have HM : Hid ((List.replicate 64 (0 : UInt8)).length = 64) := List.length_replicate
    generalize List.replicate 64 (0 : UInt8) = M at HE HM hR2
    have h8 := putL_length p
    generalize hpl : putL p = Pl at HE h8
    have HPl := Lib.hid hpl
    have H8 := Lib.hid h8
    clear hpl h8
    have hP1 := HP1.out
    have hP2 := HP2.out
    refine wp_region_plan_of (manyS w.heap.size many) (.step 0 false (.step 1 false (.step 2 false (.step 3 false (.step 4 false (.step 5 true (.step 6 true (.nil)))))))) ⟨hR0.drew.cell rfl, trivial⟩ (by kernel_rfl) (by kernel_rfl) (by rfl) (by kernel_rfl) ?_
    iterate 5 (refine plan_read rfl (by rfl) (v := ?_) ?_ ?_; rotate_left 1; (intro W hW; (try dsimp only at hW); obtain ⟨hW0, hW1⟩ := hW; go_simp <;> with_reducible rfl); simp only [List.getElem_toArray, List.getElem_cons_zero, List.getElem_cons_succ, Act.put, List.setIfInBounds_toArray, List.set_cons_zero, List.set_cons_succ])
    clear hP1 hP2
    refine plan_make_of rfl (by rfl) (fun K hK => ?_)
    go_simp
    refine (put_any p HPm.out _).mono ?_
    rintro e w1 ⟨A1, c1, rfl, hc1, hr1, hb1⟩
    rw [HPl.out] at hc1 hr1 ⊢
    refine hK.out _ _ ⟨(hR0.drew.later hb1).cell rfl, trivial⟩ ?_
    clear hK K
    replace hR0 := hR0.drew.later hb1
    replace hR1 := hR1.drew.later hb1
    replace hR2 := hR2.drew.later hb1
    replace hB := below_step hB.drew hb1
    clear hb1
    refine plan_make_of rfl (by rfl) (fun K hK => ?_)
    refine wp_copy_row (.tmp 24) (.tmp 28) 27 27 (by rfl) 5 Tryz.underlying27 (by kernel_rfl) (w.heap.size + 1 + 1) 56 8 8 A1 Pl c1 (by rfl) (by rfl) (M.map vB) _ hR2 hr1 vB_one (by have := H8.out; omega) (by rw [List.length_map, HM.out, H8.out]; omega) ?_
    simp only [List.getElem_toArray, List.getElem_cons_zero, List.getElem_cons_succ, Act.put, List.setIfInBounds_toArray, List.set_cons_zero, List.set_cons_succ]
    refine hK.out _ _ ⟨(hR0.setRow_other (by omega) _).cell rfl, trivial⟩ ?_
    clear hK K
    refine plan_done ?_
    refine at_world (Q := _) (fun W => Row W (w.heap.size + 1) 182 [.int .u32 (S.a.toNat : Int), .int .u32 (S.b.toNat : Int), .int .u32 (S.c.toNat : Int), .int .u32 (S.d.toNat : Int), .int .u32 (S.e.toNat : Int), .int .u32 (S.f.toNat : Int), .int .u32 (S.g.toNat : Int), .int .u32 (S.h.toNat : Int)] ∧ Row W (w.heap.size + 1 + 1) 5 ((M.take 56 ++ Pl).map vB) ∧ Below w.heap.size w W)
      ⟨hR1.setRow_other (by omega) _, Row.setRow_at hR2 _ _ ?_, below_setRow hB (by omega) _⟩ ?_
    · rw [List.drop_of_length_le (by rw [List.length_map, HM.out, H8.out]; omega), List.append_nil, List.map_append, List.map_take]
    have HM2 : Hid ((M.take 56 ++ Pl).length = 64) := by unfold Hid; rw [List.length_append, List.length_take, HM.out, H8.out]; rfl
    generalize M.take 56 ++ Pl = N at HE HM2
    clear hR0 hR1 hR2 hB hr1 hc1 HM
    rintro W ⟨hR1, hR2, hB⟩
    have hr2 : Rd vB W (some ⟨w.heap.size + 1 + 1, 0, none⟩) N := hR2.rd
    go_wp2_with (refine wpList_load_part rfl 182 (.tmp 3) rfl (w.heap.size + 1) 0 rfl _ _ hR1 [.int .u32 (S.a.toNat : Int), .int .u32 (S.b.toNat : Int), .int .u32 (S.c.toNat : Int), .int .u32 (S.d.toNat : Int), .int .u32 (S.e.toNat : Int), .int .u32 (S.f.toNat : Int), .int .u32 (S.g.toNat : Int), .int .u32 (S.h.toNat : Int)] (by rfl) _ Tryz.underlying182 rfl (by exact size_st) ?_)
    refine (behind_any S N _ _ _ HM2 hr2 (Nat.le_refl _) (Lib.hid (HK.out.keep hB))).mono ?_
    rintro e w2 ⟨T, HT, rfl, hb2⟩
    replace hR1 := hR1.later hb2
    replace hB := below_step hB hb2
    clear hr2 hR2 hb2
    go_wp2_with (refine wpList_store_row rfl 182 (.tmp 3) (.tmp 32) rfl (w.heap.size + 1) rfl [.int .u32 (T.a.toNat : Int), .int .u32 (T.b.toNat : Int), .int .u32 (T.c.toNat : Int), .int .u32 (T.d.toNat : Int), .int .u32 (T.e.toNat : Int), .int .u32 (T.f.toNat : Int), .int .u32 (T.g.toNat : Int), .int .u32 (T.h.toNat : Int)] rfl _ _ hR1 (by exact size_st) (by rfl) (by exact one_st _ _ _ _ _ _ _ _) ?_)
    go_ret
    rw [HE.out, ← HT.out]
    exact ⟨_, 8, rfl, Nat.le_refl _, Row.rd (f := vW) (L := T.toL) (hR1.setRow _), below_setRow hB (by omega) _⟩
end Go.Proofs.YtmljhkdojopljaaGreatDoor
/-
  What the program's calls Block, End and Sum of layer 2 answer. Condition: the package's table holds the sixty-four constants.
-/
namespace Go.Proofs.YtmljhkdojopljaaGreatDoor
set_option maxRecDepth 100000
open Go.RowKit
set_option linter.unusedSimpArgs false
set_option linter.unusedVariables false

theorem fillL_step (b : List UInt8) (many : Nat) (h : 64 ≤ b.length) : fillL b many = b.take 64 ++ fillL (b.drop 64) many := by
  unfold fillL
  rw [List.length_drop, show (b.length - 64) % 64 = b.length % 64 by omega, ← List.append_assoc, ← List.append_assoc, List.take_append_drop]
theorem from_fill [Inhabited Tab] (many : Nat) : ∀ (n : Nat) (s : St) (b : List UInt8), b.length ≤ n → s.from (fillL b many) = (s.from b).from (fillL (restL b) many)
  | n, s, b, hn => by
    by_cases h : 64 ≤ b.length
    · match n, hn with
      | 0, hn => omega
      | n + 1, hn =>
        rw [fillL_step b many h, from_step s _ (by simp; omega), List.take_left' (by simp; omega), List.drop_left' (by simp; omega), from_fill many n _ (b.drop 64) (by simp; omega), from_step s b h, restL_step b h]
    · rw [from_stop s b h, restL_short b (by omega)]

theorem hash_state (S : St) (x y : Value) (W : World) : (Instr.field 186 (.agg #[.int .u32 (S.a.toNat : Int), .int .u32 (S.b.toNat : Int), .int .u32 (S.c.toNat : Int), .int .u32 (S.d.toNat : Int), .int .u32 (S.e.toNat : Int), .int .u32 (S.f.toNat : Int), .int .u32 (S.g.toNat : Int), .int .u32 (S.h.toNat : Int), x, y]) 0).run Tryz.prog W = .ok (.agg #[.int .u32 (S.a.toNat : Int), .int .u32 (S.b.toNat : Int), .int .u32 (S.c.toNat : Int), .int .u32 (S.d.toNat : Int), .int .u32 (S.e.toNat : Int), .int .u32 (S.f.toNat : Int), .int .u32 (S.g.toNat : Int), .int .u32 (S.h.toNat : Int)]) W := by kernel_rfl
theorem hash_rest (S : St) (x y : Value) (W : World) : (Instr.field 186 (.agg #[.int .u32 (S.a.toNat : Int), .int .u32 (S.b.toNat : Int), .int .u32 (S.c.toNat : Int), .int .u32 (S.d.toNat : Int), .int .u32 (S.e.toNat : Int), .int .u32 (S.f.toNat : Int), .int .u32 (S.g.toNat : Int), .int .u32 (S.h.toNat : Int), x, y]) 1).run Tryz.prog W = .ok x W := by kernel_rfl
theorem hash_many (S : St) (x y : Value) (W : World) : (Instr.field 186 (.agg #[.int .u32 (S.a.toNat : Int), .int .u32 (S.b.toNat : Int), .int .u32 (S.c.toNat : Int), .int .u32 (S.d.toNat : Int), .int .u32 (S.e.toNat : Int), .int .u32 (S.f.toNat : Int), .int .u32 (S.g.toNat : Int), .int .u32 (S.h.toNat : Int), x, y]) 2).run Tryz.prog W = .ok y W := by kernel_rfl
/-- A call that hands back a list and how it went. -/
def RetE (w : World) (l : List UInt8) (n : Int) (e : Ending) (w' : World) : Prop := ∃ A cap, e = .returned (.tuple #[.slice A l.length cap, .int .i64 n]) ∧ l.length ≤ cap ∧ Rd vB w' A l ∧ Below w.heap.size w w'

set_option maxHeartbeats 600000 in
theorem sum_any [Inhabited Tab] (b : List UInt8) (A : Option Addr) (c : Nat) (w : World) (hr : Rd vB w A b) (hc : b.length ≤ c) (hl : b.length ≤ 9223372036854775807) (HK : Hid (KTab w)) :
    Calls Tryz.prog 103 #[.slice A b.length c] w (RetS vB w (sumL b)) := by
  go_enter Tryz.func103, Tryz.ntmps103
  go_wp2_with fail
  refine (start_any _).mono ?_
  rintro e w1 ⟨S0, HS0, rfl, hb1⟩
  have hfd := hash_state S0 (.slice none 0 0) (.int .u64 0)
  go_wp2_with fail
  clear hfd
  refine (wholeBlocks_any S0 b _ _ _ (hr.keep hb1) hc hl (Lib.hid (HK.out.keep hb1))).mono ?_
  rintro e w2 ⟨S, A2, c2, HS, rfl, hc2, hall, hb2⟩
  have hB := below_step hb1 hb2
  have hr2 := hall w2 (hr.keep hB)
  clear hall
  have HE : Hid (sumL b = bytesL (S.from (fillL (restL b) b.length)).toL) := by unfold Hid sumL; rw [from_fill b.length b.length startSt b (Nat.le_refl _), HS.out, HS0.out]
  have h64 : (restL b).length < 64 := by rw [restL_length]; omega
  generalize restL b = R at hc2 hr2 HE h64
  have h8 : (S.from (fillL R b.length)).toL.length = 8 := rfl
  generalize hL : (S.from (fillL R b.length)).toL = L at h8 HE
  have HL := Lib.hid hL
  have H8 := Lib.hid h8
  clear hL h8 hb1 hb2 HS
  go_wp2_with fail
  have hb3 : Below w2.heap.size w2 (w2.alloc (.cells #[.int .u32 (S.a.toNat : Int), .int .u32 (S.b.toNat : Int), .int .u32 (S.c.toNat : Int), .int .u32 (S.d.toNat : Int), .int .u32 (S.e.toNat : Int), .int .u32 (S.f.toNat : Int), .int .u32 (S.g.toNat : Int), .int .u32 (S.h.toNat : Int)] 182)) := below_new (Below.refl _ _) _
  refine (last_any S R _ _ _ _ (hr2.keep hb3) h64 (by omega) (Lib.hid (HK.out.keep (below_step hB hb3)))).mono ?_
  replace hB := below_step hB hb3
  rintro e w3 ⟨A3, c3, rfl, hc3, hr3, hb4⟩
  rw [HL.out] at hc3 hr3 ⊢
  replace hB := below_step hB hb4
  clear hb3 hb4 hr2
  go_wp2_with fail
  refine (bytes_any L _ _ _ hr3 (by have := H8.out; omega)).mono ?_
  rintro e w4 ⟨A4, c4, rfl, hc4, hr4, hb5⟩
  go_wp2_with fail
  go_ret
  rw [HE.out]
  exact ⟨A4, c4, rfl, hc4, hr4, below_step hB hb5⟩
end Go.Proofs.YtmljhkdojopljaaGreatDoor
/-
  What the program's call More of layer 2 answers. Condition: the package's table holds the sixty-four constants.
-/
namespace Go.Proofs.YtmljhkdojopljaaGreatDoor
set_option maxRecDepth 100000
open Go.RowKit
set_option linter.unusedSimpArgs false
set_option linter.unusedVariables false

/-- A whole block, or a part of it, read in a region that draws its order. -/
theorem plan_load {P : Program} {ops : Array Oper} {Q : Exit → Act → World → Prop} {i : Nat} {rest : Plan} {S : World → Prop} {o : Oper} {a : Act} {w : World} (ho : ops[i]? = some o) (hw : Region.wanted o (yielded ops a.tmps) = true) (ty : TypeId) (x : Operand) (hop : o.op = .load ty x)
    (b off : Nat) (hx : a.eval x = .pointer (some ⟨b, off, none⟩)) (cs : List Value) (d : TypeDesc) (hS : ∀ W, S W → W.rangeAt b off cs) (hu : P.underlying ty = some d) (hd : d.isRow = true) (hi : (P.info? ty).map (·.size) = some cs.length)
    (h : wpPlan P ops Q rest S (a.put o.dst (.agg cs.toArray)) w) : wpPlan P ops Q (.step i false rest) S a w :=
  plan_read ho hw (fun W hW => by
    unfold execOp
    simp only [hop, hx, Instr.loadAt, Instr.sureAddr, Sem.run_bind, Sem.run_pure, Result.andThen_ok, run_loadVar_mid W b off ty cs d (hS W hW) hu hd hi]) h

abbrev hashL (s : St) (x y : Value) : List Value := [.int .u32 (s.a.toNat : Int), .int .u32 (s.b.toNat : Int), .int .u32 (s.c.toNat : Int), .int .u32 (s.d.toNat : Int), .int .u32 (s.e.toNat : Int), .int .u32 (s.f.toNat : Int), .int .u32 (s.g.toNat : Int), .int .u32 (s.h.toNat : Int), x, y]
abbrev zeroL : List Value := [.int .u32 0, .int .u32 0, .int .u32 0, .int .u32 0, .int .u32 0, .int .u32 0, .int .u32 0, .int .u32 0, .slice none 0 0, .int .u64 0]
theorem size_hash : (Tryz.prog.info? 186).map (·.size) = some 10 := by kernel_rfl
theorem one_hash (s : St) (A : Option Addr) (n c : Nat) (m : Int) : ∀ v ∈ ([.int .u32 (s.a.toNat : Int), .int .u32 (s.b.toNat : Int), .int .u32 (s.c.toNat : Int), .int .u32 (s.d.toNat : Int), .int .u32 (s.e.toNat : Int), .int .u32 (s.f.toNat : Int), .int .u32 (s.g.toNat : Int), .int .u32 (s.h.toNat : Int), .slice A n c, .int .u64 m] : List Value), v.oneCell' = true := by
  intro v hv
  simp only [List.mem_cons, List.not_mem_nil, or_false] at hv
  rcases hv with rfl | rfl | rfl | rfl | rfl | rfl | rfl | rfl | rfl | rfl <;> rfl
/-- What the reads of More lean on: the box that came in (and, behind the blocks, the state's own). -/
def boxS (g : Nat) (l : List Value) (W : World) : Prop := W.cell? ⟨g, 8, none⟩ = l[8]? ∧ W.cell? ⟨g, 9, none⟩ = l[9]? ∧ W.rangeAt g 0 (l.take 8)
theorem boxS_of {g : Nat} {t : TypeId} {l : List Value} {W : World} (h : Row W g t l) : boxS g l W := ⟨h.cell? 8, h.cell? 9, fun j v hv => by
  rw [Nat.zero_add]
  refine h.cell ?_
  rw [List.getElem?_take] at hv
  split at hv
  · exact hv
  · cases hv⟩
/-- A call that hands back a hash that goes on, and how it went. -/
def RetH [Inhabited Tab] (w : World) (s : St) (r : List UInt8) (many : Nat) (n : Int) (e : Ending) (w' : World) : Prop :=
  ∃ (S : St) (A : Option Addr) (c m : Nat), Hid (S = s) ∧ Hid (m = many) ∧ e = .returned (.tuple #[.agg #[.int .u32 (S.a.toNat : Int), .int .u32 (S.b.toNat : Int), .int .u32 (S.c.toNat : Int), .int .u32 (S.d.toNat : Int), .int .u32 (S.e.toNat : Int), .int .u32 (S.f.toNat : Int), .int .u32 (S.g.toNat : Int), .int .u32 (S.h.toNat : Int), .slice A r.length c, .int .u64 (m : Int)], .int .i64 n]) ∧ r.length ≤ c ∧ Rd vB w' A r ∧ (∀ a, A = some a → w.heap.size ≤ a.block) ∧ Below w.heap.size w w'


def MoreRel [Inhabited Tab] (s : St) (T : List UInt8) (w : World) (l : List Value) (v u : Value) (W : World) : Prop :=
  ∃ (gs : Nat) (S : St) (A : Option Addr) (c : Nat), v = .pointer (some ⟨gs, 0, none⟩) ∧ u = .slice A (restL T).length c ∧ Hid (S = s.from T) ∧ (restL T).length ≤ c ∧ Rd vB W A (restL T) ∧ Row W gs 182 [.int .u32 (S.a.toNat : Int), .int .u32 (S.b.toNat : Int), .int .u32 (S.c.toNat : Int), .int .u32 (S.d.toNat : Int), .int .u32 (S.e.toNat : Int), .int .u32 (S.f.toNat : Int), .int .u32 (S.g.toNat : Int), .int .u32 (S.h.toNat : Int)] ∧ Row W w.heap.size 186 l ∧ Row W (w.heap.size + 1) 186 zeroL ∧ Below w.heap.size w W ∧ w.heap.size + 1 < gs
theorem more_rel [Inhabited Tab] {s S : St} {T : List UInt8} {w W : World} {l : List Value} {gs : Nat} {A : Option Addr} {c : Nat} (HS : Hid (S = s.from T)) (hc : (restL T).length ≤ c) (hr : Rd vB W A (restL T)) (hs : Row W gs 182 [.int .u32 (S.a.toNat : Int), .int .u32 (S.b.toNat : Int), .int .u32 (S.c.toNat : Int), .int .u32 (S.d.toNat : Int), .int .u32 (S.e.toNat : Int), .int .u32 (S.f.toNat : Int), .int .u32 (S.g.toNat : Int), .int .u32 (S.h.toNat : Int)]) (h0 : Row W w.heap.size 186 l) (h1 : Row W (w.heap.size + 1) 186 zeroL) (hB : Below w.heap.size w W) (hg : w.heap.size + 1 < gs) :
    MoreRel s T w l (.pointer (some ⟨gs, 0, none⟩)) (.slice A (restL T).length c) W := ⟨gs, S, A, c, rfl, rfl, HS, hc, hr, hs, h0, h1, hB, hg⟩
def moreS (g gs : Nat) (l m : List Value) (W : World) : Prop := W.cell? ⟨g, 9, none⟩ = l[9]? ∧ W.rangeAt gs 0 m


end Go.Proofs.YtmljhkdojopljaaGreatDoor
/-
  What the program's calls More and End of layer 2 answer, said of the text that came: a text in parts has the state, the rest and the hash of the whole. Condition: the package's table holds the sixty-four constants.
-/
namespace Go.Proofs.YtmljhkdojopljaaGreatDoor
set_option maxRecDepth 100000
open Go.RowKit
set_option linter.unusedSimpArgs false
set_option linter.unusedVariables false

theorem from_append [Inhabited Tab] : ∀ (n : Nat) (s : St) (t b : List UInt8), t.length ≤ n → s.from (t ++ b) = (s.from t).from (restL t ++ b) ∧ restL (t ++ b) = restL (restL t ++ b)
  | n, s, t, b, hn => by
    by_cases h : 64 ≤ t.length
    · match n, hn with
      | 0, hn => omega
      | n + 1, hn =>
        have ih := from_append n (s.block (t.take 64)) (t.drop 64) b (by simp; omega)
        have e1 : (t ++ b).take 64 = t.take 64 := List.take_append_of_le_length h
        have e2 : (t ++ b).drop 64 = t.drop 64 ++ b := List.drop_append_of_le_length h
        rw [from_step s (t ++ b) (by simp; omega), e1, e2, from_step s t h, restL_step t h, restL_step (t ++ b) (by simp; omega), e2]
        exact ih
    · rw [from_stop s t h, restL_short t (by omega)]
      exact ⟨rfl, rfl⟩

/-- The hash of a text that goes on. -/
def HashOf [Inhabited Tab] (s : St) (t : List UInt8) (S : St) (R : List UInt8) (m : Nat) : Prop := S = s.from t ∧ R = restL t ∧ m = t.length % 18446744073709551616
theorem HashOf.more [Inhabited Tab] {s : St} {t b : List UInt8} {S : St} {R : List UInt8} {m : Nat} (h : HashOf s t S R m) : HashOf s (t ++ b) (S.from (R ++ b)) (restL (R ++ b)) ((m + b.length) % 18446744073709551616) := by
  obtain ⟨rfl, rfl, rfl⟩ := h
  obtain ⟨e1, e2⟩ := from_append t.length s t b (Nat.le_refl _)
  exact ⟨e1.symm, e2.symm, by rw [List.length_append]; omega⟩
theorem HashOf.none [Inhabited Tab] (s : St) : HashOf s [] s [] 0 := ⟨(from_stop s [] (by simp)).symm, rfl, rfl⟩
theorem HashOf.rest [Inhabited Tab] {s : St} {t : List UInt8} {S : St} {R : List UInt8} {m : Nat} (h : HashOf s t S R m) : R.length < 64 ∧ m < 18446744073709551616 := by
  obtain ⟨rfl, rfl, rfl⟩ := h
  exact ⟨by rw [restL_length]; omega, Nat.mod_lt _ (by omega)⟩


theorem sumL_length [Inhabited Tab] (b : List UInt8) : (sumL b).length = 32 := by rw [sumL, bytesL_length]; rfl


end Go.Proofs.YtmljhkdojopljaaGreatDoor
/-
  HMAC as plain functions on bytes: a key's block, a block each byte of which is turned by one, the tag; a byte turned, as the walk spells it. No conditions but those typed.
-/
namespace Go.Proofs.YtmljhkdojopljaaGreatDoor
set_option maxRecDepth 100000
open Go.RowKit

def turnL (x : UInt8) (b : List UInt8) : List UInt8 := b.map fun c => xorB c x
theorem turnL_length (x : UInt8) (b : List UInt8) : (turnL x b).length = b.length := by simp [turnL]
theorem turnL_getElem (x : UInt8) (b : List UInt8) (i : Nat) (h : i < b.length) : (turnL x b)[i]'(by rw [turnL_length]; exact h) = xorB b[i] x := by simp [turnL]
theorem turnL_take (x : UInt8) (b : List UInt8) (k : Nat) (h : k < b.length) : turnL x (b.take (k + 1)) = turnL x (b.take k) ++ [xorB b[k] x] := by
  rw [List.take_succ_eq_append_getElem h, turnL, turnL, List.map_append]
  rfl

def fillK (k : List UInt8) : List UInt8 := k ++ List.replicate (64 - k.length) 0
def hblk [Inhabited Tab] (key : List UInt8) : List UInt8 := if 64 < key.length then fillK (sumL key) else fillK key
def macL [Inhabited Tab] (key msg : List UInt8) : List UInt8 := sumL (turnL 92 (hblk key) ++ sumL (turnL 54 (hblk key) ++ msg))
theorem fillK_length (k : List UInt8) (h : k.length ≤ 64) : (fillK k).length = 64 := by simp [fillK]; omega
theorem hblk_length [Inhabited Tab] (key : List UInt8) : (hblk key).length = 64 := by
  unfold hblk
  split
  · exact fillK_length _ (by rw [sumL_length]; omega)
  · exact fillK_length _ (by omega)
theorem hblk_short [Inhabited Tab] (key : List UInt8) (h : key.length ≤ 64) : hblk key = fillK key := by rw [hblk, if_neg (by omega)]
theorem hblk_long [Inhabited Tab] (key : List UInt8) (h : 64 < key.length) : hblk key = fillK (sumL key) := by rw [hblk, if_pos h]
theorem hblk_whole [Inhabited Tab] (key : List UInt8) (h : key.length = 64) : hblk key = key := by rw [hblk_short key (by omega), fillK, h]; simp
theorem hblk_hblk [Inhabited Tab] (key : List UInt8) : hblk (hblk key) = hblk key := hblk_whole _ (hblk_length key)
theorem hblk_sum [Inhabited Tab] (key : List UInt8) (h : 64 < key.length) : hblk (sumL key) = hblk key := by
  rw [hblk_long key h, hblk_short _ (by rw [sumL_length]; omega)]
theorem hblk_zero [Inhabited Tab] (key : List UInt8) (h : key.length < 64) : hblk (key ++ [0]) = hblk key := by
  rw [hblk_short key (by omega), hblk_short _ (by simp; omega), fillK, fillK, List.length_append, List.append_assoc]
  congr 1
  rw [show 64 - key.length = (64 - (key.length + 1)) + 1 by omega, List.replicate_succ]
  rfl
theorem macL_hblk [Inhabited Tab] (key msg : List UInt8) : macL (hblk key) msg = macL key msg := by rw [macL, hblk_hblk]; rfl
theorem macL_sum [Inhabited Tab] (key msg : List UInt8) (h : 64 < key.length) : macL (sumL key) msg = macL key msg := by rw [macL, hblk_sum key h]; rfl
theorem macL_zero [Inhabited Tab] (key msg : List UInt8) (h : key.length < 64) : macL (key ++ [0]) msg = macL key msg := by rw [macL, hblk_zero key h]; rfl
theorem macL_length [Inhabited Tab] (key msg : List UInt8) : (macL key msg).length = 32 := sumL_length _
end Go.Proofs.YtmljhkdojopljaaGreatDoor
/-
  Layer 6 as plain functions: an engine is its kind and its terms; whether it is right, a text's tag by it, the terms behind it, whether a tag fits. No conditions but those typed.
-/
namespace Go.Proofs.YtmljhkdojopljaaGreatDoor
set_option maxRecDepth 100000
set_option linter.unusedVariables false
set_option linter.unusedSimpArgs false

def rightE (K : Int) (cs : List Tm) : Bool := decide (K = 1 ∧ cs = []) || (decide (K = 2) && rightT cs)
/-- The terms behind a tag, and the tag. -/
def termsE (K : Int) (cs : List Tm) (x : Tm) : List Tm := if K = 2 then putT cs x else cs
def bytesE [Inhabited Tab] (K : Int) (cs : List Tm) (x : Tm) : List UInt8 := if K = 2 then tagT cs x else (macL x.1 x.2).take 8
def fitsE [Inhabited Tab] (K : Int) (cs : List Tm) (x : Tm) (tag : List UInt8) : Bool := rightE K cs && ((!decide (K = 2) || decide (x ∈ cs)) && decide (bytesE K cs x = tag))

theorem rightE_cases {K : Int} {cs : List Tm} (h : rightE K cs = true) : (K = 1 ∧ cs = []) ∨ (K = 2 ∧ rightT cs = true) := by
  unfold rightE at h
  simpa using h
theorem rightE_one : rightE 1 [] = true := by decide
theorem bytesE_length [Inhabited Tab] (K : Int) (cs : List Tm) (x : Tm) : (bytesE K cs x).length = 8 := by
  unfold bytesE
  split
  · rfl
  · rw [List.length_take, macL_length]
    rfl
theorem termsE_right {K : Int} {cs : List Tm} (x : Tm) (h : rightE K cs = true) : rightE K (termsE K cs x) = true := by
  rcases rightE_cases h with ⟨rfl, rfl⟩ | ⟨rfl, h⟩
  · exact rightE_one
  · have := putT_right cs x h
    simp [rightE, termsE, this]
theorem termsE_le {K : Int} {cs : List Tm} (x : Tm) : (termsE K cs x).length ≤ cs.length + 1 := by
  unfold termsE
  split
  · exact (putT_length cs x).2
  · omega
/-- What is behind other tags is there. -/
def behindE (K : Int) (cs ds : List Tm) : Prop := ds = cs ∨ (K = 2 ∧ ∃ m, ds = cs ++ m)
theorem termsE_behind (K : Int) (cs : List Tm) (x : Tm) : behindE K cs (termsE K cs x) := by
  unfold termsE behindE
  by_cases h : K = 2
  · rw [if_pos h]
    exact .inr ⟨h, putT_pre cs x⟩
  · rw [if_neg h]
    exact .inl rfl
/-- The tag that was made, by whatever engine behind. -/
theorem bytesE_behind [Inhabited Tab] {K : Int} {cs ds : List Tm} (x : Tm) (hx : K = 2 → x ∈ cs) (h : behindE K cs ds) : bytesE K ds x = bytesE K cs x := by
  rcases h with rfl | ⟨rfl, m, rfl⟩
  · rfl
  · simp only [bytesE, if_pos]
    exact tagT_app cs m x (hx rfl)
theorem bytesE_put [Inhabited Tab] (K : Int) (cs : List Tm) (x : Tm) : bytesE K (termsE K cs x) x = bytesE K cs x := by
  unfold bytesE termsE
  by_cases h : K = 2
  · simp only [if_pos h]
    exact (tagT_put cs x).symm
  · simp only [if_neg h]
theorem termsE_mem (K : Int) (cs : List Tm) (x : Tm) (h : K = 2) : x ∈ termsE K cs x := by
  unfold termsE
  rw [if_pos h]
  exact putT_mem cs x
theorem fitsE_made [Inhabited Tab] {K : Int} {cs ds : List Tm} (x : Tm) (tag : List UInt8) (hr : rightE K ds = true) (h : behindE K (termsE K cs x) ds) : fitsE K ds x tag = decide (bytesE K cs x = tag) := by
  have h1 : bytesE K ds x = bytesE K cs x := by rw [bytesE_behind x (termsE_mem K cs x) h, bytesE_put]
  have h2 : K = 2 → x ∈ ds := fun hK => by
    rcases h with rfl | ⟨_, m, rfl⟩
    · exact termsE_mem K cs x hK
    · exact List.mem_append_left _ (termsE_mem K cs x hK)
  unfold fitsE
  rw [hr, h1, Bool.true_and]
  by_cases hK : K = 2
  · simp [h2 hK]
  · simp [hK]
theorem fitsE_wrong [Inhabited Tab] {K : Int} {cs : List Tm} (x : Tm) (tag : List UInt8) (hr : rightE K cs = false) : fitsE K cs x tag = false := by unfold fitsE; rw [hr]; rfl
theorem fitsE_sym [Inhabited Tab] {cs : List Tm} (x : Tm) (tag : List UInt8) : fitsE 2 cs x tag = true → x ∈ cs ∧ tagT cs x = tag := by
  unfold fitsE bytesE
  simp
/-- A tag that fits one text and key fits no other. -/
theorem fitsE_one [Inhabited Tab] {cs : List Tm} (x y : Tm) (tag : List UInt8) (hl : cs.length ≤ 100000000) (hx : fitsE 2 cs x tag = true) (hy : fitsE 2 cs y tag = true) : x = y := by
  obtain ⟨h1, h2⟩ := fitsE_sym x tag hx
  obtain ⟨h3, h4⟩ := fitsE_sym y tag hy
  exact tagT_inj cs x y h1 h3 (by omega) (by rw [h2, h4])
end Go.Proofs.YtmljhkdojopljaaGreatDoor
/-
  What the program's call Place of layer 5 answers: its closure, slices.IndexFunc at it. No conditions but those typed.
-/
namespace Go.Proofs.YtmljhkdojopljaaGreatDoor
set_option maxRecDepth 100000
open Go.RowKit
set_option linter.unusedSimpArgs false
set_option linter.unusedVariables false

set_option maxHeartbeats 1000000 in
theorem sameAs_any (x : TD) (key msg : List UInt8) (n m : Nat) (B C : Option Addr) (d e : Nat) (g1 g2 : Nat) (w : World) (HN : Hid (key.length = n)) (HM : Hid (msg.length = m)) (hx : x.ok w) (hk : Rd vB w B key) (hm : Rd vB w C msg)
    (c1 : w.cell? ⟨g1, 0, none⟩ = some (.slice B n d)) (c2 : w.cell? ⟨g2, 0, none⟩ = some (.slice C m e)) :
    Calls Tryz.prog 129 #[.agg #[x.at0, x.at1], .pointer (some ⟨g1, 0, none⟩), .pointer (some ⟨g2, 0, none⟩)] w fun e' w' => e' = .returned (.bool (decide (x.c = (key, msg)))) ∧ Below w.heap.size w w' := by
  obtain ⟨kA, kc, k, mA, mc, l⟩ := x
  obtain ⟨_, _, hkr, hmr⟩ := hx
  unfold TD.at0 TD.at1 TD.c at *
  dsimp only at hkr hmr ⊢
  have hR0 : Row (w.alloc (.cells #[.slice kA k.length kc, .slice mA l.length mc] 113)) w.heap.size 113 [.slice kA k.length kc, .slice mA l.length mc] := Row.new w _ _ _ rfl
  have hB0 := below_new (Below.refl _ w) (.cells #[.slice kA k.length kc, .slice mA l.length mc] 113)
  have d1 : (w.alloc (.cells #[.slice kA k.length kc, .slice mA l.length mc] 113)).cell? ⟨g1, 0, none⟩ = some (.slice B n d) := (hB0.cell (p := ⟨g1, 0, none⟩) (World.block_lt_of_cell? w _ c1)).trans c1
  have d2 : (w.alloc (.cells #[.slice kA k.length kc, .slice mA l.length mc] 113)).cell? ⟨g2, 0, none⟩ = some (.slice C m e) := (hB0.cell (p := ⟨g2, 0, none⟩) (World.block_lt_of_cell? w _ c2)).trans c2
  have k0 : (w.alloc (.cells #[.slice kA k.length kc, .slice mA l.length mc] 113)).cell? ⟨w.heap.size, 0, none⟩ = some (.slice kA k.length kc) := hR0.cell rfl
  have k1 : (w.alloc (.cells #[.slice kA k.length kc, .slice mA l.length mc] 113)).cell? ⟨w.heap.size, 1, none⟩ = some (.slice mA l.length mc) := hR0.cell rfl
  replace hkr := hkr.keep hB0
  replace hmr := hmr.keep hB0
  replace hk := hk.keep hB0
  replace hm := hm.keep hB0
  clear hR0 c1 c2
  by_cases ek : k = key
  · have HD : Hid (decide ((k, l) = (key, msg)) = decide (l = msg)) := by unfold Hid; simp [ek]
    have HE : Hid (decide (k = key) = true) := by unfold Hid; simp [ek]
    clear ek
    go_enter Tryz.func129, Tryz.ntmps129
    go_upto_region 1 with fail
    generalize w.alloc (.cells #[.slice kA k.length kc, .slice mA l.length mc] 113) = W at hB0 d1 d2 k0 k1 hkr hmr hk hm ⊢
    go_wp2_with fail
    refine (equal_any k key k.length n kA B kc d _ (Lib.hid rfl) HN hkr hk).mono ?_
    rintro e' w' ⟨rfl, rfl⟩
    rw [HE.out]
    go_wp2_with fail
    refine (equal_any l msg l.length m mA C mc e _ (Lib.hid rfl) HM hmr hm).mono ?_
    rintro e' w' ⟨rfl, rfl⟩
    generalize decide (l = msg) = r at HD ⊢
    go_wp2_with fail
    go_ret
    exact ⟨by rw [HD.out]; rfl, hB0⟩
  · have HD : Hid (decide ((k, l) = (key, msg)) = false) := by unfold Hid; simp [ek]
    have HE : Hid (decide (k = key) = false) := by unfold Hid; simp [ek]
    clear ek
    go_enter Tryz.func129, Tryz.ntmps129
    go_upto_region 1 with fail
    generalize w.alloc (.cells #[.slice kA k.length kc, .slice mA l.length mc] 113) = W at hB0 d1 d2 k0 k1 hkr hmr hk hm ⊢
    go_wp2_with fail
    refine (equal_any k key k.length n kA B kc d _ (Lib.hid rfl) HN hkr hk).mono ?_
    rintro e' w' ⟨rfl, rfl⟩
    rw [HE.out]
    go_wp2_with fail
    go_ret
    exact ⟨by rw [HD.out]; rfl, hB0⟩

set_option maxHeartbeats 1000000 in
theorem indexSame_any (ts : List TD) (key msg : List UInt8) (p n m : Nat) (A B C : Option Addr) (c d e g1 g2 : Nat) (w : World) (HP : Hid (ts.length = p)) (HN : Hid (key.length = n)) (HM : Hid (msg.length = m)) (ht : RdT w A ts) (hok : okT w ts) (hk : Rd vB w B key) (hm : Rd vB w C msg) (hp : p ≤ 1000000000)
    (c1 : w.cell? ⟨g1, 0, none⟩ = some (.slice B n d)) (c2 : w.cell? ⟨g2, 0, none⟩ = some (.slice C m e)) :
    Calls Tryz.prog 128 #[.slice A p c, .func (.func 129) #[] #[.pointer (some ⟨g1, 0, none⟩), .pointer (some ⟨g2, 0, none⟩)]] w fun e w' => e = .returned (.int .i64 (plI (conT ts) (key, msg))) ∧ Below w.heap.size w w' := by
  have e1 := HP.out
  subst e1
  have HOK := Lib.hid hok
  have hg1 := World.block_lt_of_cell? w _ c1
  have hg2 := World.block_lt_of_cell? w _ c2
  have C1 : Hid (∀ W, Below w.heap.size w W → W.cell? ⟨g1, 0, none⟩ = some (.slice B n d)) := fun W hW => (hW.cell (p := ⟨g1, 0, none⟩) hg1).trans c1
  have C2 : Hid (∀ W, Below w.heap.size w W → W.cell? ⟨g2, 0, none⟩ = some (.slice C m e)) := fun W hW => (hW.cell (p := ⟨g2, 0, none⟩) hg2).trans c2
  clear hok HP c1 c2 hg1 hg2
  go_enter Tryz.func128, Tryz.ntmps128
  go_wp2_with fail
  go_loopw [8] (fun i wr => PlRel (conT ts) (key, msg) w i wr) (fun i _ => ts.length - (intOf i).toNat)
  case atStart => exact ⟨0, Nat.zero_le _, rfl, fun j h => absurd h (by omega), Below.refl _ _⟩
  case round =>
    obtain ⟨k, hk1, rfl, hbef, hB⟩ := hrel
    by_cases hlt : k < ts.length
    · obtain ⟨blk, o, rfl, hblk, hcell⟩ := ht.at hlt
      have hx := (HOK.out ts[k] (List.getElem_mem hlt)).keep hB
      have hg := conT_get ts k hlt
      have hlc : k < (conT ts).length := by rw [conT_length]; exact hlt
      have HBE : Hid (ts[k].c ≠ (key, msg) → ∀ j (h : j < k + 1) (h' : j < (conT ts).length), (conT ts)[j] ≠ (key, msg)) := fun hn => PlRel.next hlc hbef (by rw [hg]; exact hn)
      have HEQ : Hid (ts[k].c = (key, msg) → plI (conT ts) (key, msg) = (k : Int)) := fun h => by
        have hi := idx_of (key, msg) (conT ts) k (by omega) hbef (.inr ⟨hlc, by rw [hg]; exact h⟩)
        rw [plI_in _ _ ((idx_lt _ _).1 (by omega)), hi]
      obtain ⟨h0, h1⟩ := hcell k hlt
      have hc0 : wr.rangeAt blk (o + k * 2) [ts[k].at0, ts[k].at1] := fun j u hu => by
        match j, hu with
        | 0, hu => injection hu with hu; subst hu; exact (hB.cell (p := ⟨blk, o + k * 2, none⟩) hblk).trans h0
        | 1, hu => injection hu with hu; subst hu; exact (hB.cell (p := ⟨blk, o + k * 2 + 1, none⟩) hblk).trans h1
      have d1 := C1.out wr hB
      have d2 := C2.out wr hB
      have hkk := hk.keep hB
      have hmm := hm.keep hB
      generalize ts[k] = x at hx HBE HEQ hc0
      have i0 : (0 : Int) ≤ (k : Int) := by omega
      have i1 : (k : Int) < (ts.length : Int) := by omega
      have HB := Lib.hid hB
      clear h0 h1 hcell hg hbef hk1 hB
      go_wp2_with (refine wpList_load_mid rfl 113 (.tmp 14) rfl blk (o + k * 2) rfl [x.at0, x.at1] _ hc0 Tryz.underlying113 rfl (by exact size_term) ?_)
      refine (sameAs_any x key msg n m B C d e g1 g2 _ HN HM hx hkk hmm d1 d2).mono ?_
      rintro e' w1 ⟨rfl, hb1⟩
      by_cases hq : x.c = (key, msg)
      · have HQ := Lib.hid (HEQ.out hq)
        have HD : Hid (decide (x.c = (key, msg)) = true) := by unfold Hid; simp [hq]
        rw [HD.out]
        clear HEQ HBE hq
        go_wp2_with fail
        go_ret
        exact ⟨by rw [HQ.out]; rfl, below_step HB.out hb1⟩
      · have HR : Hid (PlRel (conT ts) (key, msg) w (.int .i64 ((k : Int) + 1)) w1) := ⟨k + 1, hlc, by go_num, HBE.out hq, below_step HB.out hb1⟩
        have HD : Hid (decide (x.c = (key, msg)) = false) := by unfold Hid; simp [hq]
        rw [HD.out]
        clear HEQ HBE hq
        go_wp2_with fail
        go_roundw
        case rel => exact HR.out
        case measure => simp [intOf]; omega
    · have hn : plI (conT ts) (key, msg) = -1 := by
        refine plI_out _ _ (fun hx => ?_)
        have h1 := (idx_lt _ _).2 hx
        exact hbef _ (by rw [conT_length] at h1; omega) h1 (idx_get _ _ h1)
      have j1 : ¬ (k : Int) < (ts.length : Int) := by omega
      have HN := Lib.hid hn
      clear hn hbef hk1
      go_wp2_with fail
      go_ret
      exact ⟨by rw [HN.out]; rfl, hB⟩

theorem place_anyT (ts : List TD) (key msg : List UInt8) (p n m : Nat) (A B C : Option Addr) (c d e : Nat) (w : World) (HP : Hid (ts.length = p)) (HN : Hid (key.length = n)) (HM : Hid (msg.length = m)) (ht : RdT w A ts) (hok : okT w ts) (hk : Rd vB w B key) (hm : Rd vB w C msg) (hp : p ≤ 1000000000) (hn : n ≤ 1000000000) (hmm : m ≤ 1000000000) :
    Calls Tryz.prog 126 #[.slice A p c, .slice B n d, .slice C m e] w fun e w' => e = .returned (.int .i64 (plI (conT ts) (key, msg))) ∧ Below w.heap.size w w' := by
  have hR0 : Row (w.alloc (.cells #[.slice B n d] 27)) w.heap.size 27 [.slice B n d] := Row.new w _ _ _ rfl
  have hB0 := below_new (Below.refl _ w) (.cells #[.slice B n d] 27)
  have hR1 := hR0.alloc (.cells #[.slice C m e] 27)
  have hB1 := below_new hB0 (.cells #[.slice C m e] 27)
  have hR2 : Row ((w.alloc (.cells #[.slice B n d] 27)).alloc (.cells #[.slice C m e] 27)) (w.heap.size + 1) 27 [.slice C m e] := Row.new_at _ _ (by simp) _ _ _ rfl
  go_enter Tryz.func126, Tryz.ntmps126
  go_wp2_with fail
  generalize (w.alloc (.cells #[.slice B n d] 27)).alloc (.cells #[.slice C m e] 27) = W at hR1 hR2 hB1 ⊢
  refine (indexSame_any ts key msg p n m A B C c d e w.heap.size (w.heap.size + 1) _ HP HN HM (ht.keep hB1) (hok.keep hB1) (hk.keep hB1) (hm.keep hB1) hp (hR1.cell rfl) (hR2.cell rfl)).mono ?_
  rintro e' w1 ⟨rfl, hb1⟩
  go_wp2_with fail
  go_ret
  exact ⟨rfl, below_step hB1 hb1⟩
end Go.Proofs.YtmljhkdojopljaaGreatDoor
/-
  What the program's call Right of layer 5 answers: a map of what was seen, whose keys are pairs of strings. No conditions but those typed.
-/
namespace Go.Proofs.YtmljhkdojopljaaGreatDoor
set_option maxRecDepth 100000
open Go.RowKit
set_option linter.unusedSimpArgs false
set_option linter.unusedVariables false

/-! ### the key -/
def klit (x : Tm) : Lit := .string (keyBytes [.string x.1, .string x.2])
theorem law2 : Maps.Keyed Tryz.prog 205 := Maps.Keyed.of_law (deep_law_laid (by kernel_rfl) (m := 2) (by omega) (of_decide_eq_true (by kernel_rfl)) (by kernel_rfl) (by rw [Tryz.underlying205]))
theorem cells2 : Tryz.prog.cellsOf 205 = 2 := by kernel_rfl
theorem cells1 : Tryz.prog.cellsOf 9 = 1 := by kernel_rfl
theorem keytype2 : Tryz.prog.keyType 205 = true := by kernel_rfl
theorem size2 : (Tryz.prog.info? 205).map (·.size) = some 2 := by kernel_rfl
theorem key_of (x : Tm) (h1 : x.1.length ≤ 1000000000) (h2 : x.2.length ≤ 1000000000) : keyOf Tryz.prog 205 (.agg #[.string (strL x.1), .string (strL x.2)]) = some (klit x) := by
  have hm : ∃ m, Tryz.prog.types.size = m + 1 := ⟨Tryz.prog.types.size - 1, by have : 0 < Tryz.prog.types.size := of_decide_eq_true (by kernel_rfl); omega⟩
  obtain ⟨m, hm⟩ := hm
  have s1 : (strL x.1).size ≤ maxLen := by rw [strL_size]; unfold maxLen; omega
  have s2 : (strL x.2).size ≤ maxLen := by rw [strL_size]; unfold maxLen; omega
  unfold keyOf
  simp only [Tryz.underlying205]
  rw [if_pos (by simp [keytype2, Value.formed, Tryz.underlying205, cells2]), hm]
  unfold Program.keyLits
  simp only [Tryz.underlying205, Value.cells]
  rw [if_pos (by rw [cells2]; rfl), show List.range 2 = [0, 1] from rfl, List.mapM_cons, List.mapM_cons, List.mapM_nil]
  have e1 : (strL x.1).data.toList = x.1 := by simp [strL]
  have e2 : (strL x.2).data.toList = x.2 := by simp [strL]
  simp [cells1, Program.keyLits, Tryz.underlying9, s1, s2, e1, e2, klit]
theorem klit_inj {x y : Tm} (hx : x.1.length ≤ 1000000000 ∧ x.2.length ≤ 1000000000) (hy : y.1.length ≤ 1000000000 ∧ y.2.length ≤ 1000000000) (h : klit x = klit y) : x = y := by
  have h1 := key_of x hx.1 hx.2
  have h2 := key_of y hy.1 hy.2
  rw [← h] at h2
  have := law2.inj h1 h2
  injection this with this
  injection this with this
  simp at this
  exact Prod.ext (strL_inj this.1) (strL_inj this.2)

/-! ### what was seen -/
def SeenD (D : DataW Unit) (cs : List Tm) : Prop := Maps.IsMap D ∧ ∀ x : Tm, x.1.length ≤ 1000000000 → x.2.length ≤ 1000000000 → D.atKey (klit x) (.lit (.bool false)) = .lit (.bool (decide (x ∈ cs)))
theorem SeenD.none : SeenD (.map []) [] := ⟨⟨[], rfl⟩, fun x _ _ => by simp [DataW.atKey]⟩
theorem SeenD.more {D : DataW Unit} {cs : List Tm} (h : SeenD D cs) (y : Tm) (h1 : y.1.length ≤ 1000000000) (h2 : y.2.length ≤ 1000000000) : SeenD (D.put (klit y) (.lit (.bool true))) (cs ++ [y]) := by
  refine ⟨h.1.put _ _, fun x k1 k2 => ?_⟩
  by_cases e : x = y
  · subst e
    rw [Maps.atKey_put_same h.1 (by unfold klit; trivial)]
    simp
  · rw [Maps.atKey_put_other (fun q => e (klit_inj ⟨k1, k2⟩ ⟨h1, h2⟩ q)), h.2 x k1 k2]
    simp [e]

theorem ownsMap_keep {H : Type} {P : Program} {k : TypeId} {R : Value → Option (DataW H × List MemPlace)} {w w' : World} {b n : Nat} {D : DataW H} (h : w.ownsMap P k R b n D) (hb : Below w.heap.size w w') : w'.ownsMap P k R b n D := by
  have hlt := h.lt
  obtain ⟨es, clock, hh, F, hs, hD⟩ := h
  exact ⟨es, clock, (hb.block b hlt).trans hh, F, hs, hD⟩
theorem plainElem_bool_inv {H : Type} {P : Program} {e : TypeId} (he : P.underlying e = some .bool) {v : Value} {z : DataW H × List MemPlace} (h : plainElem P e v = some z) : ∃ b, v = .bool b ∧ z = (.lit (.bool b), []) := by
  unfold plainElem at h
  rw [he] at h
  cases v <;> simp at h
  subst h
  exact ⟨_, rfl, rfl⟩
/-- 'm[k]' in a map of bools that the call made. -/
theorem wpList_lookup_own_bool {H : Type} {P : Program} (w : World) {ops : Array Oper} {rest : List Oper} {o : Oper} {a : Act} {Q : Exit → Act → World → Prop}
    (hg : o.guard = none) (m x : Operand) (t : TypeId) (hop : o.op = Op.lookup t m x false)
    (k e : TypeId) (K : Maps.Keyed P k) (ht : P.underlying t = some (.map k e)) (he : P.underlying e = some .bool) (hz : (zeroValue e).run P w = .ok (.bool false) w) (b n : Nat) (D : DataW H)
    (hm : a.eval m = .map (some b)) (hown : w.ownsMap P k (plainElem P e) b n D) (key : Value) (kl : Lit) (hx : a.eval x = key) (hkey : keyOf P k key = some kl) (r : Bool) (hr : D.atKey kl (.lit (.bool false)) = .lit (.bool r))
    (hK : wpList P ops Q rest (a.put o.dst (.bool r)) w) :
    wpList P ops Q (o :: rest) a w := by
  refine wpList_plain hg fun K' hK' => ?_
  obtain ⟨v, ps, hrun, hv⟩ := hown.lookup K ht hz (plainElem_bool he false) hkey
  obtain ⟨c, rfl, hc⟩ := plainElem_bool_inv he hv
  rw [hr] at hc
  simp only [Prod.mk.injEq] at hc
  have hcr : r = c := by
    have := hc.1
    injection this with this
    injection this
  subst hcr
  unfold Oper.wp
  simp [execOp, hop, hm, hx, hrun, Result.andThen]
  exact hK' _ _ hK

def SetRel (cs : List Tm) (w : World) (i : Value) (wr : World) : Prop :=
  ∃ (k : Nat) (D : DataW Unit), k ≤ cs.length ∧ i = .int .i64 (k : Int) ∧ wr.ownsMap Tryz.prog 205 (plainElem Tryz.prog 4) w.heap.size k D ∧ SeenD D (cs.take k) ∧ (cs.take k).Nodup ∧ Below w.heap.size w wr
theorem nodup_take {cs : List Tm} {k : Nat} (hk : k < cs.length) (h : (cs.take k).Nodup) (hn : cs[k] ∉ cs.take k) : (cs.take (k + 1)).Nodup := by
  rw [List.take_succ_eq_append_getElem hk, List.nodup_append]
  refine ⟨h, by simp, fun a ha b hb => ?_⟩
  simp at hb
  subst hb
  exact fun e => hn (e ▸ ha)
theorem not_nodup {cs : List Tm} {k : Nat} (hk : k < cs.length) (hn : cs[k] ∈ cs.take k) : ¬ cs.Nodup := by
  intro h
  rw [← List.take_append_drop k cs, List.nodup_append] at h
  have h2 := h.2.2 _ hn
  rw [List.drop_eq_getElem_cons hk] at h2
  exact h2 cs[k] List.mem_cons_self rfl

set_option maxHeartbeats 1000000 in
theorem right_anyT (ts : List TD) (p : Nat) (A : Option Addr) (c : Nat) (w : World) (HP : Hid (ts.length = p)) (HL : Hid (lenT (conT ts))) (ht : RdT w A ts) (hok : okT w ts) (hp : p ≤ 1000000000) (hc : p ≤ c) :
    Calls Tryz.prog 123 #[.slice A p c] w fun e w' => e = .returned (.bool (rightT (conT ts))) ∧ Below w.heap.size w w' := by
  have e1 := HP.out
  subst e1
  have HOK := Lib.hid hok
  have hmk := @run_makeMap Tryz.prog
  have hzb : ∀ w, (zeroValue 4).run Tryz.prog w = .ok (.bool false) w := fun w => by kernel_rfl
  clear hok HP
  go_enter Tryz.func123, Tryz.ntmps123
  go_wp2_with fail
  go_loopw [10] (fun i wr => SetRel (conT ts) w i wr) (fun i _ => ts.length - (intOf i).toNat)
  case atStart => exact ⟨0, .map [], Nat.zero_le _, rfl, World.ownsMap_made _ _ _ _, SeenD.none, by simp, below_new (Below.refl _ _) _⟩
  case round =>
    clear hmk
    obtain ⟨k, D, hk1, rfl, hown, hsee, hnd, hB⟩ := hrel
    by_cases hlt : k < ts.length
    · obtain ⟨blk, o, rfl, hblk, hcell⟩ := ht.at hlt
      have hx := (HOK.out ts[k] (List.getElem_mem hlt)).keep hB
      have hg := conT_get ts k hlt
      have hlc : k < (conT ts).length := by rw [conT_length]; exact hlt
      have hlen := lenT.at HL.out (List.getElem_mem hlt)
      have HIN : Hid (ts[k].c ∈ (conT ts).take k → rightT (conT ts) = false) := fun hn => by
        unfold rightT
        rw [decide_eq_false_iff_not]
        exact not_nodup hlc (by rw [hg]; exact hn)
      have HOUT : Hid (ts[k].c ∉ (conT ts).take k → ((conT ts).take (k + 1)).Nodup) := fun hn => nodup_take hlc hnd (by rw [hg]; exact hn)
      have HTK : Hid ((conT ts).take (k + 1) = (conT ts).take k ++ [ts[k].c]) := by unfold Hid; rw [List.take_succ_eq_append_getElem hlc, hg]
      obtain ⟨h0, h1⟩ := hcell k hlt
      have hc0 : wr.rangeAt blk (o + k * 2) [ts[k].at0, ts[k].at1] := fun j u hu => by
        match j, hu with
        | 0, hu => injection hu with hu; subst hu; exact (hB.cell (p := ⟨blk, o + k * 2, none⟩) hblk).trans h0
        | 1, hu => injection hu with hu; subst hu; exact (hB.cell (p := ⟨blk, o + k * 2 + 1, none⟩) hblk).trans h1
      generalize ts[k] = x at hx HIN HOUT HTK hc0 hlen
      have i0 : (0 : Int) ≤ (k : Int) := by omega
      have i1 : (k : Int) < (ts.length : Int) := by omega
      have HB := Lib.hid hB
      have HK := Lib.hid hk1
      have hR0 : Row (wr.alloc (.cells #[.slice none 0 0, .slice none 0 0] 113)) wr.heap.size 113 [.slice none 0 0, .slice none 0 0] := Row.new wr _ _ _ rfl
      have hkey := key_of x.c hlen.1 hlen.2
      have hat := hsee.2 x.c hlen.1 hlen.2
      have HSM := Lib.hid (hsee.more x.c hlen.1 hlen.2)
      rw [← HTK.out] at HSM
      obtain ⟨r, hr⟩ : ∃ r, r = decide (x.c ∈ (conT ts).take k) := ⟨_, rfl⟩
      rw [← hr] at hat
      have HRR := Lib.hid hr
      have HND := Lib.hid hnd
      generalize klit x.c = kl at hkey hat HSM
      clear h0 h1 hcell hg hk1 hB hnd hr hsee
      go_upto_region 5 with (first
        | (refine wpList_load_mid rfl 113 (.tmp 12) rfl blk (o + k * 2) rfl [x.at0, x.at1] _ hc0 Tryz.underlying113 rfl (by exact size_term) ?_)
        | (refine wpList_store_row rfl 113 (.tmp 5) (.tmp 13) rfl wr.heap.size rfl [x.at0, x.at1] rfl _ _ hR0 (by exact size_term) rfl (one_two _ _ rfl rfl) ?_))
      have hR1 := hR0.setRow [x.at0, x.at1]
      have hbn : Below wr.heap.size wr ((wr.alloc (.cells #[.slice none 0 0, .slice none 0 0] 113)).setRow wr.heap.size [x.at0, x.at1].toArray) := below_setRow (below_new (Below.refl _ _) _) (Nat.le_refl _) _
      generalize (wr.alloc (.cells #[.slice none 0 0, .slice none 0 0] 113)).setRow wr.heap.size [x.at0, x.at1].toArray = w1 at hR1 hbn ⊢
      replace hx := hx.keep hbn
      replace hown := ownsMap_keep hown hbn
      have HB1 : Hid (Below w.heap.size w w1) := below_step HB.out hbn
      clear hbn hR0 hc0 HB
      generalize wr.heap.size = g1 at hR1 ⊢
      obtain ⟨kA, kc, sk, mA, mc, sm⟩ := x
      obtain ⟨_, _, hkr, hmr⟩ := hx
      unfold TD.at0 TD.at1 TD.c at *
      dsimp only at hkr hmr hlen hkey hR1 HIN HOUT HTK HSM HRR ⊢
      have k0 : w1.cell? ⟨g1, 0, none⟩ = some (.slice kA sk.length kc) := hR1.cell rfl
      have k1 : w1.cell? ⟨g1, 1, none⟩ = some (.slice mA sm.length mc) := hR1.cell rfl
      have s0 : (convert 27 9 (.slice kA sk.length kc)).run Tryz.prog w1 = .ok (.string (strL sk)) w1 := run_str _ _ _ _ Tryz.underlying27 Tryz.underlying5 Tryz.underlying9 _ sk _ _ rfl hkr
      have s1 : (convert 27 9 (.slice mA sm.length mc)).run Tryz.prog w1 = .ok (.string (strL sm)) w1 := run_str _ _ _ _ Tryz.underlying27 Tryz.underlying5 Tryz.underlying9 _ sm _ _ rfl hmr
      generalize strL sk = SK at s0 hkey
      generalize strL sm = SM at s1 hkey
      clear hkr hmr hR1 hlen
      go_upto_region 6 with fail
      have hR2 : Row (w1.alloc (.cells #[.string SK, .string SM] 205)) w1.heap.size 205 [.string SK, .string SM] := Row.new w1 _ _ _ rfl
      have hbn := below_new (Below.refl _ w1) (.cells #[.string SK, .string SM] 205)
      replace hown := ownsMap_keep hown hbn
      replace HB1 := Lib.hid (below_step HB1.out hbn)
      clear hbn k0 k1 s0 s1
      generalize w1.alloc (.cells #[.string SK, .string SM] 205) = w2 at hR2 hown HB1 ⊢
      cases r with
      | true =>
        have hin : (sk, sm) ∈ (conT ts).take k := of_decide_eq_true HRR.out.symm
        have HF := Lib.hid (HIN.out hin)
        clear HIN HOUT hin
        go_wp2_with (first
          | (refine wpList_load_part rfl 205 (.tmp 6) rfl w1.heap.size 0 rfl _ _ hR2 [.string SK, .string SM] (by rfl) _ Tryz.underlying205 rfl (by exact size2) ?_)
          | (at_lookup; refine wpList_lookup_own_bool _ rfl (.tmp 21) (.tmp 22) 204 rfl 205 4 law2 Tryz.underlying204 Tryz.underlying4 (hzb _) w.heap.size k D rfl hown _ kl rfl hkey true hat ?_))
        go_ret
        exact ⟨by rw [HF.out]; rfl, HB1.out⟩
      | false =>
        have hin : (sk, sm) ∉ (conT ts).take k := of_decide_eq_false HRR.out.symm
        have HF := Lib.hid (HOUT.out hin)
        clear HIN HOUT hin
        go_wp2_with (first
          | (refine wpList_load_part rfl 205 (.tmp 6) rfl w1.heap.size 0 rfl _ _ hR2 [.string SK, .string SM] (by rfl) _ Tryz.underlying205 rfl (by exact size2) ?_)
          | (at_lookup; refine wpList_lookup_own_bool _ rfl (.tmp 21) (.tmp 22) 204 rfl 205 4 law2 Tryz.underlying204 Tryz.underlying4 (hzb _) w.heap.size k D rfl hown _ kl rfl hkey false hat ?_)
          | (at_mapUpdate; refine wpList_mapUpdate_own _ rfl (.tmp 24) (.tmp 25) (.const (.bool true)) 204 rfl 205 4 law2 Tryz.underlying204 _ w.heap.size k D rfl hown (by unfold maxLen; omega) _ _ kl rfl rfl hkey (.lit (.bool true)) [] (plainElem_bool Tryz.underlying4 true) ?_; intro w3 hown3 hgrow3))
        go_roundw
        case rel => exact ⟨k + 1, _, by omega, by go_num, hown3, HSM.out, HF.out, HB1.out.grown hgrow3 HB1.out.size (fun j hj => by injection hj with hj; omega)⟩
        case measure => simp [intOf]; omega
    · have hk2 : k = ts.length := by rw [conT_length] at hk1; omega
      have HN : Hid (rightT (conT ts) = true) := by
        unfold Hid rightT
        rw [decide_eq_true_eq]
        rw [hk2, ← conT_length, List.take_length] at hnd
        exact hnd
      have j1 : ¬ (k : Int) < (ts.length : Int) := by omega
      clear hnd hk1 hk2 hsee
      go_wp2_with fail
      go_ret
      exact ⟨by rw [HN.out]; rfl, hB⟩
end Go.Proofs.YtmljhkdojopljaaGreatDoor
/-
  What the program's calls Put and Of of layer 5 answer (Place: XTermPlace, Right: XTermSet). No conditions but those typed.
-/
namespace Go.Proofs.YtmljhkdojopljaaGreatDoor
set_option maxRecDepth 100000
open Go.RowKit
set_option linter.unusedSimpArgs false
set_option linter.unusedVariables false

/-! ### rows of terms of the call's own -/
/-- No key and no text of these lies in that block. -/
def apartT (row : Option Nat) (us : List TD) : Prop := ∀ y ∈ us, (y.k ≠ [] → ∀ a, y.kA = some a → row ≠ some a.block) ∧ (y.m ≠ [] → ∀ a, y.mA = some a → row ≠ some a.block)
theorem apartT.nil (row : Option Nat) : apartT row [] := fun y hy => by cases hy
theorem Rd.grown' {α : Type} {f : α → Value} {w w' : World} {row : Option Nat} {A : Option Addr} {L : List α} (h : Rd f w A L) (hg : w.grownBy w' row) (hA : L ≠ [] → ∀ a, A = some a → row ≠ some a.block) : Rd f w' A L := by
  by_cases e : L = []
  · subst e
    exact Rd.nil
  · exact h.grown hg (hA e)
theorem okT.grown {w w' : World} {row : Option Nat} {us : List TD} (h : okT w us) (hg : w.grownBy w' row) (ha : apartT row us) : okT w' us := fun y hy => by
  obtain ⟨h1, h2, h3, h4⟩ := h y hy
  exact ⟨h1, h2, h3.grown' hg (ha y hy).1, h4.grown' hg (ha y hy).2⟩
theorem Rd.lt_of {α : Type} {f : α → Value} {w : World} {A : Option Addr} {L : List α} (h : Rd f w A L) (hn : L ≠ []) {a : Addr} (ha : A = some a) : a.block < w.heap.size := by
  obtain ⟨b, o, e, hb, _⟩ := h.at (k := 0) (by cases L; exact absurd rfl hn; simp)
  rw [ha] at e
  injection e with e
  rw [e]
  exact hb
theorem apartT.grown {w : World} {r r' : Option Nat} {us : List TD} (h : apartT r us) (hok : okT w us) (hr : r' = r ∨ r' = some w.heap.size) : apartT r' us := by
  rcases hr with rfl | rfl
  · exact h
  · intro y hy
    obtain ⟨_, _, h3, h4⟩ := hok y hy
    refine ⟨fun hn a ha e => ?_, fun hn a ha e => ?_⟩
    · have := h3.lt_of hn ha
      injection e with e
      omega
    · have := h4.lt_of hn ha
      injection e with e
      omega
theorem apartT.snoc {r : Option Nat} {us : List TD} {y : TD} {B : Nat} (h : apartT r us) (hy : y.new B) (hr : ∀ k, r = some k → k < B) : apartT r (us ++ [y]) := fun z hz => by
  rcases List.mem_append.1 hz with hz | hz
  · exact h z hz
  · simp at hz
    subst hz
    refine ⟨fun _ a ha e => ?_, fun _ a ha e => ?_⟩
    · have h1 := hy.1 a ha
      have h2 := hr _ e
      omega
    · have h1 := hy.2 a ha
      have h2 := hr _ e
      omega
theorem cellsT_snoc (us : List TD) (y : TD) : cellsT (us ++ [y]) = cellsT us ++ y.cells := by simp [cellsT]
theorem conT_snoc (us : List TD) (y : TD) : conT (us ++ [y]) = conT us ++ [y.c] := by simp [conT]
/-- A row of terms, whose keys and texts lie elsewhere. -/
def OwnT (B : Nat) (us : List TD) (v : Value) (w : World) : Prop := w.ownsRow B 113 2 v us.length (cellsT us) ∧ okT w us ∧ apartT v.ownBlock us
theorem OwnT.later {B : Nat} {us : List TD} {v : Value} {w w' : World} (h : OwnT B us v w) (hb : Below w.heap.size w w') : OwnT B us v w' := ⟨ownsRow2_later h.1 hb, h.2.1.keep hb, h.2.2⟩
theorem OwnT.more {B : Nat} {us : List TD} {y : TD} {v v' : Value} {w w1 w2 w3 : World} (h : OwnT B us v w) (hb : Below w.heap.size w w1) (hy : y.ok w1) (hn : y.new w.heap.size) (hb2 : Below w1.heap.size w1 w2) (ho : w3.ownsRow B 113 2 v' (us.length + 1) (cellsT us ++ y.cells)) (hg : w2.grownBy w3 v.ownBlock) (hv : v'.ownBlock = v.ownBlock ∨ v'.ownBlock = some w2.heap.size) : OwnT B (us ++ [y]) v' w3 := by
  have hB := below_step hb hb2
  have hok2 : okT w2 (us ++ [y]) := (h.2.1.keep hB).app (fun z hz => by simp at hz; subst hz; exact hy.keep hb2)
  have hap : apartT v.ownBlock (us ++ [y]) := h.2.2.snoc hn (fun k hk => (h.1.lt k hk).2)
  refine ⟨by rw [cellsT_snoc, List.length_append]; exact ho, hok2.grown hg hap, hap.grown hok2 hv⟩
theorem OwnT.slice {B : Nat} {us : List TD} {v : Value} {w : World} (h : OwnT B us v w) : ∃ A cap, v = .slice A us.length cap ∧ us.length ≤ cap ∧ RdT w A us := own_sliceT h.1

def PutRel (ts : List TD) (w : World) (v i : Value) (wr : World) : Prop :=
  ∃ (k : Nat) (us : List TD), k ≤ ts.length ∧ i = .int .i64 (k : Int) ∧ Hid (us.length = k) ∧ OwnT w.heap.size us v wr ∧ conT us = (conT ts).take k ∧ Below w.heap.size w wr

set_option maxRecDepth 100000 in
set_option maxHeartbeats 1000000 in
theorem put_anyT (ts : List TD) (key msg : List UInt8) (p n m : Nat) (A B C : Option Addr) (c d e : Nat) (w : World) (HP : Hid (ts.length = p)) (HN : Hid (key.length = n)) (HM : Hid (msg.length = m)) (HL : Hid (lenT (conT ts))) (ht : RdT w A ts) (hok : okT w ts) (hk : Rd vB w B key) (hm : Rd vB w C msg) (hp : p ≤ 1000000000) (hc : p ≤ c) (hn : n ≤ 1000000000) (hmm : m ≤ 1000000000) :
    Calls Tryz.prog 124 #[.slice A p c, .slice B n d, .slice C m e] w (PutRes ts (key, msg) w) := by
  have e1 := HP.out
  have e2 := HN.out
  have e3 := HM.out
  subst e1 e2 e3
  have HOK := Lib.hid hok
  clear hok HP HN HM
  obtain ⟨j0, hj, gz0, gz1, gz2⟩ := info_parts info_term
  go_enter Tryz.func124, Tryz.ntmps124
  go_upto_region 3 with (at_make; refine wpList_make_own _ rfl _ _ 46 rfl w.heap.size 113 j0 (.agg #[.slice none 0 0, .slice none 0 0]) 2 Tryz.underlying46 hj gz0 gz1 .i64 .i64 _ (ts.length + 1) rfl rfl (by omega) (by rw [gz2]; omega) (by unfold maxLen; omega) (Nat.le_refl _) ?_; intro w0 hown0 hgrow0)
  have hOwn0 : OwnT w.heap.size [] (.slice (some ⟨w.heap.size, 0, none⟩) 0 (ts.length + 1)) w0 := ⟨hown0, (fun x hx => by cases hx), apartT.nil _⟩
  have hB0 : Below w.heap.size w w0 := (Below.refl _ w).grown hgrow0 (Nat.le_refl _) (fun k hk => by cases hk)
  clear hown0 hgrow0
  go_loopw [8, 18] (fun v i wr => PutRel ts w v i wr) (fun _ i _ => ts.length - (intOf i).toNat)
  case atStart => exact ⟨0, [], Nat.zero_le _, rfl, Lib.hid rfl, hOwn0, by simp [conT], hB0⟩
  case round =>
    clear hOwn0 hB0
    obtain ⟨k, us, hk1, rfl, HU, hown, hcon, hB⟩ := hrel
    have eU := HU.out
    subst eU
    clear HU
    by_cases hlt : us.length < ts.length
    · obtain ⟨blk, o, rfl, hblk, hcell⟩ := ht.at hlt
      have hx := (HOK.out ts[us.length] (List.getElem_mem hlt)).keep hB
      have hlen := lenT.at HL.out (List.getElem_mem hlt)
      have hlc : us.length < (conT ts).length := by rw [conT_length]; exact hlt
      have HTK : Hid ((conT ts).take (us.length + 1) = conT us ++ [ts[us.length].c]) := by unfold Hid; rw [List.take_succ_eq_append_getElem hlc, conT_get ts _ hlt, hcon]
      obtain ⟨h0, h1⟩ := hcell _ hlt
      have hc0 : wr.rangeAt blk (o + us.length * 2) [ts[us.length].at0, ts[us.length].at1] := fun j u hu => by
        match j, hu with
        | 0, hu => injection hu with hu; subst hu; exact (hB.cell (p := ⟨blk, o + us.length * 2, none⟩) hblk).trans h0
        | 1, hu => injection hu with hu; subst hu; exact (hB.cell (p := ⟨blk, o + us.length * 2 + 1, none⟩) hblk).trans h1
      generalize ts[us.length] = x at hx hlen HTK hc0
      have i0 : (0 : Int) ≤ (us.length : Int) := by omega
      have i1 : (us.length : Int) < (ts.length : Int) := by omega
      have HB := Lib.hid hB
      have hR0 : Row (wr.alloc (.cells #[.slice none 0 0, .slice none 0 0] 113)) wr.heap.size 113 [.slice none 0 0, .slice none 0 0] := Row.new wr _ _ _ rfl
      clear h0 h1 hcell hk1 hB hcon
      go_upto_region 5 with (first
        | (refine wpList_load_mid rfl 113 (.tmp 20) rfl blk (o + us.length * 2) rfl [x.at0, x.at1] _ hc0 Tryz.underlying113 rfl (by exact size_term) ?_)
        | (refine wpList_store_row rfl 113 (.tmp 10) (.tmp 21) rfl wr.heap.size rfl [x.at0, x.at1] rfl _ _ hR0 (by exact size_term) rfl (one_two _ _ rfl rfl) ?_))
      have hR1 := hR0.setRow [x.at0, x.at1]
      have hbn : Below wr.heap.size wr ((wr.alloc (.cells #[.slice none 0 0, .slice none 0 0] 113)).setRow wr.heap.size [x.at0, x.at1].toArray) := below_setRow (below_new (Below.refl _ _) _) (Nat.le_refl _) _
      generalize (wr.alloc (.cells #[.slice none 0 0, .slice none 0 0] 113)).setRow wr.heap.size [x.at0, x.at1].toArray = w1 at hR1 hbn ⊢
      replace hx := hx.keep hbn
      replace hown := hown.later hbn
      have HB1 : Hid (Below w.heap.size w w1) := below_step HB.out hbn
      clear hbn hR0 hc0 HB
      generalize wr.heap.size = g1 at hR1 ⊢
      go_wp2_with (refine wpList_load_part rfl 113 (.tmp 10) rfl g1 0 rfl _ _ hR1 [x.at0, x.at1] (by rfl) _ Tryz.underlying113 rfl (by exact size_term) ?_)
      refine (copied_any x _ hx.2.2.1 hx.2.2.2 hlen.1 hlen.2).mono ?_
      rintro e' w2 ⟨y, rfl, hy, hyc, hyn, hb2⟩
      have hbn := below_new (Below.refl _ w2) (.cells #[y.at0, y.at1] 113)
      have hown4 := hown.later (below_step hb2 hbn)
      have hbase := (below_step HB1.out (below_step hb2 hbn)).size
      have hus : us.length + 1 ≤ 1000000001 := by omega
      go_wp2_with (at_builtin; refine wpList_append_own_at _ rfl (.tmp 22) (.tmp 25) 46 rfl w.heap.size 113 j0 (.agg #[.slice none 0 0, .slice none 0 0]) 2 48 Tryz.underlying46 hj gz0 gz1 gz2 rfl (by decide) _ us.length (cellsT us) rfl hown4.1 ⟨w2.heap.size, 0, none⟩ 1 1 y.cells rfl rfl (cells_new _ _ _) (one_two _ _ rfl rfl) (by unfold maxLen; omega) (by omega) hbase ?_; intro v3 w3 hown3 hgrow3 _ hv3)
      go_roundw
      case rel => exact ⟨us.length + 1, us ++ [y], by omega, by go_num, by unfold Hid; simp, hown.more hb2 hy hyn hbn hown3 hgrow3 hv3, by rw [conT_snoc, hyc, HTK.out], (below_step HB1.out (below_step hb2 hbn)).grown hgrow3 hbase (fun j hj => (hown.1.lt j hj).1)⟩
      case measure => simp [intOf]; omega
    · have hul : us.length = ts.length := by omega
      have hcu : conT us = conT ts := by rw [hcon, hul, ← conT_length, List.take_length]
      have HCU := Lib.hid hcu
      have HUL := Lib.hid hul
      have j1 : ¬ (us.length : Int) < (ts.length : Int) := by omega
      have HB := Lib.hid hB
      clear hcu hcon hk1 hul
      by_cases hin : (key, msg) ∈ conT ts
      · have hlt2 := (idx_lt _ _).2 hin
        rw [conT_length] at hlt2
        have hpl := plI_in _ _ hin
        have HC : Hid (conT us = putT (conT ts) (key, msg)) := HCU.out.trans (putT_twice _ _ hin).symm
        obtain ⟨tg, htg⟩ : ∃ tg, tg = tagT (conT ts) (key, msg) := ⟨_, rfl⟩
        have HT : Hid (putL (idx (key, msg) (conT ts) + 1) = tg) := htg.symm
        have HTG := Lib.hid htg
        clear htg
        generalize idx (key, msg) (conT ts) = q at hlt2 hpl HT
        have HPL := Lib.hid hpl
        have hge : ¬ (q : Int) < 0 := by omega
        clear hpl hin
        go_wp2_with fail
        refine (place_anyT ts key msg ts.length key.length msg.length A B C c d e _ (Lib.hid rfl) (Lib.hid rfl) (Lib.hid rfl) (ht.keep HB.out) (HOK.out.keep HB.out) (hk.keep HB.out) (hm.keep HB.out) hp hn hmm).mono ?_
        rintro e' w1 ⟨rfl, hb1⟩
        rw [HPL.out]
        go_wp2_with fail
        refine (tagof_any q tg _ (by omega) HT).mono ?_
        rintro e' w2 ⟨tA, tc, rfl, htc, htr, hb2⟩
        replace hown := hown.later (below_step hb1 hb2)
        obtain ⟨A5, c5, rfl, hc5, hr5⟩ := hown.slice
        go_wp2_with fail
        go_ret2
        exact ⟨us, us.length, A5, c5, tA, tc, rfl, Lib.hid rfl, hc5, htc, hr5, hown.2.1, HC, by rw [← HTG.out]; exact htr, below_step HB.out (below_step hb1 hb2)⟩
      · have HPL := Lib.hid (plI_out _ _ hin)
        have HC : Hid (conT us ++ [(key, msg)] = putT (conT ts) (key, msg)) := by unfold Hid; rw [HCU.out]; exact (if_neg hin).symm
        have HT : Hid (putL (ts.length + 1) = tagT (conT ts) (key, msg)) := by unfold Hid tagT; rw [idx_none _ _ hin, conT_length]
        clear hin
        go_wp2_with fail
        refine (place_anyT ts key msg ts.length key.length msg.length A B C c d e _ (Lib.hid rfl) (Lib.hid rfl) (Lib.hid rfl) (ht.keep HB.out) (HOK.out.keep HB.out) (hk.keep HB.out) (hm.keep HB.out) hp hn hmm).mono ?_
        rintro e' w1 ⟨rfl, hb1⟩
        rw [HPL.out]
        replace hown := hown.later hb1
        replace HB := Lib.hid (below_step HB.out hb1)
        go_wp2_with fail
        refine (copied_any ⟨B, d, key, C, e, msg⟩ _ (hk.keep HB.out) (hm.keep HB.out) hn hmm).mono ?_
        rintro e' w2 ⟨y, rfl, hy, hyc, hyn, hb2⟩
        have hbn := below_new (Below.refl _ w2) (.cells #[y.at0, y.at1] 113)
        have hown4 := hown.later (below_step hb2 hbn)
        have hbase := (below_step HB.out (below_step hb2 hbn)).size
        have hus : us.length + 1 ≤ 1000000001 := by have := HUL.out; omega
        go_upto_region 11 with (at_builtin; refine wpList_append_own_at _ rfl (.tmp 36) (.tmp 41) 46 rfl w.heap.size 113 j0 (.agg #[.slice none 0 0, .slice none 0 0]) 2 48 Tryz.underlying46 hj gz0 gz1 gz2 rfl (by decide) _ us.length (cellsT us) rfl hown4.1 ⟨w2.heap.size, 0, none⟩ 1 1 y.cells rfl rfl (cells_new _ _ _) (one_two _ _ rfl rfl) (by unfold maxLen; omega) (by omega) hbase ?_; intro v3 w3 hown3 hgrow3 _ hv3)
        have hownF := hown.more hb2 hy hyn hbn hown3 hgrow3 hv3
        have hB3 := (below_step HB.out (below_step hb2 hbn)).grown hgrow3 hbase (fun j hj => (hown.1.lt j hj).1)
        obtain ⟨xs, hxs⟩ : ∃ xs, xs = us ++ [y] := ⟨_, rfl⟩
        have hcx : conT xs = putT (conT ts) (key, msg) := by rw [hxs, conT_snoc, hyc]; exact HC.out
        have hcl : xs.length = ts.length + 1 := by rw [hxs, List.length_append, HUL.out]; rfl
        rw [← hxs] at hownF
        have HCX := Lib.hid hcx
        have HCL := Lib.hid hcl
        clear hxs hcx hcl hown hown4 hown3 hgrow3 hv3 hbase hus hyn hyc hy hbn
        go_wp2_with fail
        refine (tagof_any ts.length _ _ (by omega) HT).mono ?_
        rintro e' w4 ⟨tA, tc, rfl, htc, htr, hb4⟩
        replace hownF := hownF.later hb4
        obtain ⟨A5, c5, rfl, hc5, hr5⟩ := hownF.slice
        go_wp2_with fail
        go_ret2
        exact ⟨xs, xs.length, A5, c5, tA, tc, rfl, Lib.hid rfl, hc5, htc, hr5, hownF.2.1, HCX, htr, below_step hB3 hb4⟩

set_option maxRecDepth 100000 in
set_option maxHeartbeats 1000000 in
theorem of_anyT (ts : List TD) (tag : List UInt8) (p n : Nat) (A B : Option Addr) (c d : Nat) (w : World) (HP : Hid (ts.length = p)) (HN : Hid (tag.length = n)) (HL : Hid (lenT (conT ts))) (ht : RdT w A ts) (hok : okT w ts) (hg : Rd vB w B tag) (hp : p ≤ 1000000000) (hn : n ≤ 1000000000) :
    Calls Tryz.prog 122 #[.slice A p c, .slice B n d] w (OfRes ts tag w) := by
  have e1 := HP.out
  have e2 := HN.out
  subst e1 e2
  have HOK := Lib.hid hok
  clear hok HP HN
  have hR0 : Row (w.alloc (.cells #[.slice none 0 0, .slice none 0 0] 113)) w.heap.size 113 [.slice none 0 0, .slice none 0 0] := Row.new w _ _ _ rfl
  have hB0 := below_new (Below.refl _ w) (.cells #[.slice none 0 0, .slice none 0 0] 113)
  by_cases h8 : tag.length = 8
  · have HGV : Hid (getR tag = (valN tag, 0)) := by unfold Hid getR; rw [if_pos h8]
    have hv := valN_lt8' tag h8
    have HV : Hid (ofT (conT ts) tag = if 1 ≤ valN tag ∧ valN tag ≤ ts.length then ((conT ts).getD (valN tag - 1) ([], []), 0) else (([], []), 7)) := by unfold Hid ofT; rw [if_neg (by simp [h8]), conT_length]
    generalize valN tag = v at HGV HV hv
    clear h8
    go_enter Tryz.func122, Tryz.ntmps122
    go_wp2_with fail
    refine (get_any tag B d _ (hg.keep hB0) (by omega)).mono ?_
    rintro e' w1 ⟨rfl, rfl⟩
    rw [HGV.out]
    have hlw : IntKind.u64.wrap (ts.length : Int) = (ts.length : Int) := by rw [IntKind.wrap_u64]; omega
    by_cases hin : 1 ≤ v ∧ v ≤ ts.length
    · have g1 : ¬ (v : Int) = 0 := by omega
      have g2 : ¬ (ts.length : Int) < (v : Int) := by omega
      have g3 : IntKind.u64.wrap ((v : Int) - 1) = ((v - 1 : Nat) : Int) := by rw [IntKind.wrap_u64]; omega
      have hlt : v - 1 < ts.length := by omega
      obtain ⟨blk, o, rfl, hblk, hcell⟩ := ht.at hlt
      obtain ⟨h0, h1⟩ := hcell _ hlt
      have hx := (HOK.out ts[v - 1] (List.getElem_mem hlt)).keep hB0
      have hlen := lenT.at HL.out (List.getElem_mem hlt)
      have HO : Hid (ofT (conT ts) tag = (ts[v - 1].c, 0)) := by
        unfold Hid
        rw [HV.out, if_pos hin, List.getD_eq_getElem?_getD, List.getElem?_eq_getElem (by rw [conT_length]; exact hlt), conT_get ts _ hlt]
        rfl
      have hc0 : (w.alloc (.cells #[.slice none 0 0, .slice none 0 0] 113)).rangeAt blk (o + (v - 1) * 2) [ts[v - 1].at0, ts[v - 1].at1] := fun j u hu => by
        match j, hu with
        | 0, hu => injection hu with hu; subst hu; exact (hB0.cell (p := ⟨blk, o + (v - 1) * 2, none⟩) hblk).trans h0
        | 1, hu => injection hu with hu; subst hu; exact (hB0.cell (p := ⟨blk, o + (v - 1) * 2 + 1, none⟩) hblk).trans h1
      generalize ts[v - 1] = x at hx hlen HO hc0
      clear h0 h1 hcell HV
      dsimp only
      have HR0 := Lib.hid hR0
      clear hR0
      go_wp2_with (refine wpList_load_mid rfl 113 (.tmp 30) rfl blk (o + (v - 1) * 2) rfl [x.at0, x.at1] _ hc0 Tryz.underlying113 rfl (by exact size_term) ?_)
      refine (copied_any x _ hx.2.2.1 hx.2.2.2 hlen.1 hlen.2).mono ?_
      rintro e' w2 ⟨y, rfl, hy, hyc, hyn, hb2⟩
      have hR2 := HR0.out.later hb2
      have hB2 := below_step hB0 hb2
      clear HR0 hb2
      go_wp2_with (refine wpList_store_row rfl 113 (.tmp 4) (.tmp 32) rfl w.heap.size rfl [y.at0, y.at1] rfl _ _ hR2 (by exact size_term) rfl (one_two _ _ rfl rfl) ?_)
      refine bodyPost_ret (results_row_tmp (p := 4) (u := 5) (ty := 113) (by rfl) _ _ w.heap.size 113 _ _ (by rfl) (by exact hR2.setRow _) Tryz.underlying113 (by rfl) (by exact size_term)) (by rfl) ?_
      exact ⟨y, 0, rfl, hy.setRow_row hR2 (fun u hu z => by simp at hu; subst hu; exact slice_no_byte _ _ _ z) _, by unfold Hid; rw [hyc, HO.out], below_setRow hB2 (Nat.le_refl _) _⟩
    · have HO : Hid ((noTD.c, (7 : Int)) = ofT (conT ts) tag) := by unfold Hid; rw [HV.out, if_neg hin]; rfl
      dsimp only
      by_cases hz : v = 0
      · subst hz
        go_wp2_with (refine wpList_store_row rfl 113 (.tmp 4) (.tmp 26) rfl w.heap.size rfl [.slice none 0 0, .slice none 0 0] rfl _ _ hR0 (by exact size_term) rfl (one_two _ _ rfl rfl) ?_)
        refine bodyPost_ret (results_row_tmp (p := 4) (u := 5) (ty := 113) (by rfl) _ _ w.heap.size 113 _ _ (by rfl) (by exact hR0.setRow _) Tryz.underlying113 (by rfl) (by exact size_term)) (by rfl) ?_
        exact ⟨noTD, 7, rfl, noTD_ok _, HO, below_setRow hB0 (Nat.le_refl _) _⟩
      · have g1 : ¬ (v : Int) = 0 := by omega
        have g2 : (ts.length : Int) < (v : Int) := by omega
        go_wp2_with (refine wpList_store_row rfl 113 (.tmp 4) (.tmp 26) rfl w.heap.size rfl [.slice none 0 0, .slice none 0 0] rfl _ _ hR0 (by exact size_term) rfl (one_two _ _ rfl rfl) ?_)
        refine bodyPost_ret (results_row_tmp (p := 4) (u := 5) (ty := 113) (by rfl) _ _ w.heap.size 113 _ _ (by rfl) (by exact hR0.setRow _) Tryz.underlying113 (by rfl) (by exact size_term)) (by rfl) ?_
        exact ⟨noTD, 7, rfl, noTD_ok _, HO, below_setRow hB0 (Nat.le_refl _) _⟩
  · have HGV : Hid (getR tag = (0, 1)) := by unfold Hid getR; rw [if_neg h8]
    have HO : Hid ((noTD.c, (1 : Int)) = ofT (conT ts) tag) := by unfold Hid; rw [ofT_bad _ _ h8]; rfl
    clear h8
    go_enter Tryz.func122, Tryz.ntmps122
    go_wp2_with fail
    refine (get_any tag B d _ (hg.keep hB0) (by omega)).mono ?_
    rintro e' w1 ⟨rfl, rfl⟩
    rw [HGV.out]
    dsimp only
    go_wp2_with (refine wpList_store_row rfl 113 (.tmp 4) (.tmp 15) rfl w.heap.size rfl [.slice none 0 0, .slice none 0 0] rfl _ _ hR0 (by exact size_term) rfl (one_two _ _ rfl rfl) ?_)
    refine bodyPost_ret (results_row_tmp (p := 4) (u := 5) (ty := 113) (by rfl) _ _ w.heap.size 113 _ _ (by rfl) (by exact hR0.setRow _) Tryz.underlying113 (by rfl) (by exact size_term)) (by rfl) ?_
    exact ⟨noTD, 1, rfl, noTD_ok _, HO, below_setRow hB0 (Nat.le_refl _) _⟩
end Go.Proofs.YtmljhkdojopljaaGreatDoor
/-
  Layer 4 as plain functions: at how many places two lists of bytes are unlike; a tag's code; a code's digits. No conditions but those typed.
-/
namespace Go.Proofs.YtmljhkdojopljaaGreatDoor
set_option maxRecDepth 100000
open Go.RowKit

/-- At how many places two lists are unlike. -/
def unlikeL : List UInt8 → List UInt8 → Nat
  | [], b => b.length
  | _ :: a, [] => a.length + 1
  | x :: a, y :: b => (if x = y then 0 else 1) + unlikeL a b
theorem unlike_nil (a : List UInt8) : unlikeL a [] = a.length := by cases a <;> rfl
theorem unlike_zero : ∀ a b : List UInt8, unlikeL a b = 0 ↔ a = b
  | [], [] => by simp [unlikeL]
  | [], y :: b => by simp [unlikeL]
  | x :: a, [] => by simp [unlikeL]
  | x :: a, y :: b => by
    have ih := unlike_zero a b
    rw [unlikeL]
    by_cases h : x = y
    · simp [h, ih]
    · simp [h]
theorem unlike_symm : ∀ a b : List UInt8, unlikeL a b = unlikeL b a
  | [], [] => rfl
  | [], y :: b => by simp [unlikeL]
  | x :: a, [] => by simp [unlikeL]
  | x :: a, y :: b => by
    have ih := unlike_symm a b
    rw [unlikeL, unlikeL, ih]
    by_cases h : x = y
    · simp [h]
    · simp [h, Ne.symm h]
theorem unlike_le : ∀ a b : List UInt8, unlikeL a b ≤ max a.length b.length
  | [], b => by simp [unlikeL]
  | x :: a, [] => by simp [unlikeL]
  | x :: a, y :: b => by
    have ih := unlike_le a b
    rw [unlikeL, List.length_cons, List.length_cons]
    split <;> omega
theorem unlike_tri : ∀ a b c : List UInt8, unlikeL a c ≤ unlikeL a b + unlikeL b c
  | [], b, c => by
    match b, c with
    | [], c => simp [unlikeL]
    | y :: b, [] => simp [unlikeL]
    | y :: b, z :: c =>
      have ih := unlike_tri [] b c
      simp only [unlikeL, List.length_cons] at ih ⊢
      split <;> omega
  | x :: a, [], c => by
    match c with
    | [] => simp [unlikeL]
    | z :: c =>
      have ih := unlike_le a c
      simp only [unlikeL, List.length_cons] at ih ⊢
      split <;> omega
  | x :: a, y :: b, [] => by
    have ih := unlike_tri a b []
    rw [unlike_nil, unlike_nil] at *
    rw [unlikeL, List.length_cons, List.length_cons]
    split <;> omega
  | x :: a, y :: b, z :: c => by
    have ih := unlike_tri a b c
    rw [unlikeL, unlikeL, unlikeL]
    by_cases h1 : x = y <;> by_cases h2 : y = z <;> by_cases h3 : x = z <;> simp_all <;> omega
theorem unlike_self (a : List UInt8) : unlikeL a a = 0 := (unlike_zero a a).2 rfl
theorem unlike_set : ∀ (a : List UInt8) (i : Nat) (h : i < a.length) (z : UInt8), z ≠ a[i] → unlikeL a (a.set i z) = 1
  | x :: a, 0, _, z, hz => by
    rw [List.set_cons_zero, unlikeL, if_neg (fun e => hz (by rw [← e]; rfl)), unlike_self]
  | x :: a, i + 1, h, z, hz => by
    rw [List.set_cons_succ, unlikeL, if_pos rfl, unlike_set a i (by simpa using h) z (by simpa using hz)]
theorem unlike_take : ∀ (a b : List UInt8) (i : Nat), i < a.length ∨ i < b.length → unlikeL (a.take (i + 1)) (b.take (i + 1)) = unlikeL (a.take i) (b.take i) + (if a[i]? = b[i]? then 0 else 1)
  | [], [], i, h => by simp at h
  | [], y :: b, i, h => by
    have hb : i < (y :: b).length := by simpa using h
    rw [List.take_nil, List.take_nil, unlikeL, unlikeL, List.length_take, List.length_take, List.getElem?_nil, List.getElem?_eq_getElem hb, if_neg (by simp)]
    omega
  | x :: a, [], i, h => by
    have ha : i < (x :: a).length := by simpa using h
    rw [List.take_nil, List.take_nil, unlike_nil, unlike_nil, List.length_take, List.length_take, List.getElem?_nil, List.getElem?_eq_getElem ha, if_neg (by simp)]
    omega
  | x :: a, y :: b, 0, h => by
    simp [unlikeL, List.take]
  | x :: a, y :: b, i + 1, h => by
    have ih := unlike_take a b i (by simpa using h)
    rw [List.take_succ_cons, List.take_succ_cons, List.take_succ_cons, List.take_succ_cons, unlikeL, unlikeL, ih, List.getElem?_cons_succ, List.getElem?_cons_succ]
    omega

/-- Where a tag's code lies. -/
def codeAt (tag : List UInt8) : Nat := (tag.getD (tag.length - 1) 0).toNat % 16
def codeN (tag : List UInt8) : Nat := valN ((tag.drop (codeAt tag)).take 4) % 2147483648
theorem codeAt_lt (tag : List UInt8) : codeAt tag < 16 := Nat.mod_lt _ (by omega)
theorem codeN_lt (tag : List UInt8) : codeN tag < 2147483648 := Nat.mod_lt _ (by omega)

/-- A code's last i digits. -/
def digB (code i : Nat) : UInt8 := UInt8.ofNat (48 + code / 10 ^ i % 10)
def digL (code : Nat) : Nat → List UInt8
  | 0 => []
  | i + 1 => digB code i :: digL code i
theorem digL_length (code : Nat) : ∀ n, (digL code n).length = n
  | 0 => rfl
  | n + 1 => by rw [digL, List.length_cons, digL_length code n]
theorem digB_toNat (code i : Nat) : (digB code i).toNat = 48 + code / 10 ^ i % 10 := by
  rw [digB, UInt8.toNat_ofNat']
  have : code / 10 ^ i % 10 < 10 := Nat.mod_lt _ (by omega)
  omega
theorem digL_drop (code : Nat) : ∀ m n, m ≤ n → (digL code n).drop (n - m) = digL code m
  | m, 0, h => by
    have : m = 0 := by omega
    subst this
    rfl
  | m, n + 1, h => by
    by_cases e : m = n + 1
    · subst e
      simp
    · rw [show n + 1 - m = (n - m) + 1 by omega, digL, List.drop_succ_cons]
      exact digL_drop code m n (by omega)
theorem digL_getElem (code n i : Nat) (h : i < n) : (digL code n)[i]'(by rw [digL_length]; exact h) = digB code (n - 1 - i) := by
  have hd := digL_drop code (n - i) n (by omega)
  have h1 : (digL code n)[i]? = (digL code (n - i))[0]? := by
    rw [← hd, List.getElem?_drop]
    congr 1
    omega
  have h2 : (digL code (n - i))[0]? = some (digB code (n - 1 - i)) := by
    rw [show n - i = (n - 1 - i) + 1 by omega, digL]
    rfl
  rw [h2] at h1
  have h3 : i < (digL code n).length := by rw [digL_length]; exact h
  rw [List.getElem?_eq_getElem h3] at h1
  exact Option.some.inj h1
/-- The number of a code's first i digits of n. -/
def headN (code n i : Nat) : Nat := code / 10 ^ (n - i) % 10 ^ i
theorem headN_next (code n i : Nat) (h : i < n) : headN code n (i + 1) = 10 * headN code n i + code / 10 ^ (n - 1 - i) % 10 := by
  unfold headN
  obtain ⟨k, hk⟩ : ∃ k, k = n - 1 - i := ⟨_, rfl⟩
  rw [show n - (i + 1) = k by omega, show n - i = k + 1 by omega, ← hk, Nat.pow_succ 10 k, ← Nat.div_div_eq_div_mul, Nat.pow_succ 10 i, Nat.mul_comm (10 ^ i) 10, Nat.mod_mul]
  omega
theorem headN_lt (code n i : Nat) : headN code n i < 10 ^ i := Nat.mod_lt _ (Nat.pow_pos (by omega))
end Go.Proofs.YtmljhkdojopljaaGreatDoor
/-
  What the reference's calls Code, Digits and Unlike of layer 4 answer. No conditions but those typed.
-/
namespace Go.Proofs.YtmljhkdojopljaaGreatDoor
set_option maxRecDepth 100000
open Go.RowKit
set_option linter.unusedSimpArgs false
set_option linter.unusedVariables false

/-- A tag's code, and how it went. -/
def codeR (tag : List UInt8) : Nat × Int := if tag.length < 19 then (0, 2) else (codeN tag, 0)
theorem codeR_short (tag : List UInt8) (h : tag.length < 19) : codeR tag = (0, 2) := by rw [codeR, if_pos h]
theorem codeR_long (tag : List UInt8) (h : ¬ tag.length < 19) : codeR tag = (codeN tag, 0) := by rw [codeR, if_neg h]
/-- A code's digits, and how it went. -/
def digitsR (code : Nat) (n : Int) : List UInt8 × Int := if n < 1 ∨ 9 < n then ([], 1) else (digL code n.toNat, 0)

/-! ### Digits -/
def DigRel (code n : Nat) (w : World) (c s i : Value) (wr : World) : Prop :=
  ∃ k : Nat, k ≤ n ∧ i = .int .i64 (k : Int) ∧ c = .int .u32 ((code / 10 ^ k : Nat) : Int) ∧ s = .string (strL (digL code k)) ∧ Below w.heap.size w wr

/-! ### Unlike -/
def UnRel (a b : List UInt8) (w : World) (n i : Value) (wr : World) : Prop :=
  ∃ k : Nat, (k ≤ a.length ∨ k ≤ b.length) ∧ i = .int .i64 (k : Int) ∧ n = .int .i64 (unlikeL (a.take k) (b.take k) : Int) ∧ Below w.heap.size w wr

end Go.Proofs.YtmljhkdojopljaaGreatDoor
/-
  What the program's calls of layer 4 answer: Code, Digits, Unlike (and its unlike), Same. No conditions but those typed.
-/
namespace Go.Proofs.YtmljhkdojopljaaGreatDoor
set_option maxRecDepth 100000
open Go.RowKit
set_option linter.unusedSimpArgs false
set_option linter.unusedVariables false

theorem wordsL_four (M : List UInt8) (h : M.length = 4) : wordsL M = [UInt32.ofNat (valN M)] := by
  match M, h with
  | [a, b, c, d], _ => rfl
theorem words_four (M : List UInt8) (A : Option Addr) (cap : Nat) (w : World) (v : Nat) (HM : Hid (M.length = 4)) (HV : Hid (valN M = v)) (hr : Rd vB w A M) (hc : 4 ≤ cap) :
    Calls Tryz.prog 115 #[.slice A 4 cap] w fun e w' => ∃ b o c, e = .returned (.slice (some ⟨b, o, none⟩) 1 c) ∧ w'.cell? ⟨b, o, none⟩ = some (.int .u32 (v : Int)) ∧ Below w.heap.size w w' := by
  have e := HM.out
  have h := words_any M A cap w hr (by omega) (by omega)
  rw [e] at h
  refine h.mono ?_
  rintro e' w' ⟨A', c, rfl, _, hr', hb⟩
  rw [wordsL_four M e] at hr' ⊢
  obtain ⟨b, o, rfl, _, hcell⟩ := hr'.at (k := 0) (by simp)
  refine ⟨b, o, c, rfl, ?_, hb⟩
  have := hcell 0 (by simp)
  rw [Nat.add_zero] at this
  rw [this]
  have hv := valN_lt M
  rw [e, HV.out] at hv
  simp only [List.getElem_cons_zero, vW, HV.out, UInt32.toNat_ofNat']
  rw [Nat.mod_eq_of_lt (by omega)]

/-! ### Digits -/
def DRel (code n : Nat) (w : World) (c i : Value) (wr : World) : Prop :=
  ∃ (q k : Nat) (j : Int) (X : List Value), q + k = n ∧ j + 1 = (q : Int) ∧ X.length = q ∧ i = .int .i64 j ∧ c = .int .u32 ((code / 10 ^ k : Nat) : Int) ∧ Row wr w.heap.size 5 (X ++ (digL code k).map vB) ∧ Below w.heap.size w wr

theorem make_bytes (n : Nat) (hn : n ≤ 1000000) : ∃ X : List Value, X.length = n ∧ ∀ w, (Instr.makeSlice 27 (.int .i64 (n : Int)) (.int .i64 (n : Int))).run Tryz.prog w = .ok (.slice (some ⟨w.heap.size, 0, none⟩) n n) (w.alloc (.cells X.toArray 5)) := by
  obtain ⟨i0, hi, hz0, hz1, hz2⟩ := info_parts info_u8
  refine ⟨(madeCells (Value.int .u8 0).cells (n * i0.size)).toList, ?_, fun w => ?_⟩
  · rw [hz1, Nat.mul_one, Array.length_toList, size_madeCells]
  · have := run_makeSlice (P := Tryz.prog) (w := w) 27 5 i0 (.int .u8 0) Tryz.underlying27 hi hz0 .i64 .i64 (n : Int) (n : Int) (by omega) (Int.le_refl _) (by rw [hz1]; omega) (by rw [hz2]; omega) (by omega)
    simpa using this

/-! ### Unlike -/
theorem unlike_one (x y : UInt8) (w : World) :
    Calls Tryz.prog 105 #[.int .u8 (x.toNat : Int), .int .u8 (y.toNat : Int)] w fun e w' => e = .returned (.int .i64 ((if x = y then 0 else 1 : Nat) : Int)) ∧ w = w' := by
  have hx := u8_xor_b x y
  have hz : (((xorB x y).toNat : Int) + 255) / 256 = ((if x = y then 0 else 1 : Nat) : Int) := by
    have h8 : (xorB x y).toNat < 256 := (xorB x y).toNat_lt
    by_cases h : x = y
    · subst h
      rw [if_pos rfl]
      have : xorB x x = 0 := UInt8.xor_self
      rw [this]
      rfl
    · rw [if_neg h]
      have : (xorB x y).toNat ≠ 0 := fun e => h (by
        have e0 : x ^^^ y = 0 := UInt8.toNat_inj.1 e
        exact UInt8.xor_eq_zero_iff.1 e0)
      omega
  have h8 : (xorB x y).toNat < 256 := (xorB x y).toNat_lt
  generalize (if x = y then 0 else 1 : Nat) = d at hz ⊢
  generalize xorB x y = t at hx hz h8
  go_enter Tryz.func105, Tryz.ntmps105
  go_wp2_with fail
  go_ret
  exact ⟨rfl, rfl⟩

def URel (a b : List UInt8) (w : World) (n i : Value) (wr : World) : Prop :=
  ∃ k : Nat, k ≤ a.length ∧ i = .int .i64 (k : Int) ∧ n = .int .i64 (((b.length - a.length) + unlikeL (a.take k) (b.take k) : Nat) : Int) ∧ Below w.heap.size w wr
theorem unlike_more : ∀ a b : List UInt8, a.length ≤ b.length → unlikeL a b = (b.length - a.length) + unlikeL a (b.take a.length)
  | [], b, _ => by simp [unlikeL]
  | x :: a, [], h => by simp at h
  | x :: a, y :: b, h => by
    have ih := unlike_more a b (by simpa using h)
    rw [List.length_cons, List.length_cons, List.take_succ_cons, unlikeL, unlikeL, ih]
    omega

set_option maxHeartbeats 1000000 in
theorem unlike_up (a b : List UInt8) (A B : Option Addr) (c d : Nat) (w : World) (ha : Rd vB w A a) (hb : Rd vB w B b) (hle : a.length ≤ b.length) (hbl : b.length ≤ 1000000000) :
    Calls Tryz.prog 101 #[.slice A a.length c, .slice B b.length d] w fun e w' => e = .returned (.int .i64 (unlikeL a b : Int)) ∧ Below w.heap.size w w' := by
  have g0 : ¬ b.length < a.length := by omega
  have s0 : (b.length : Int) - (a.length : Int) = ((b.length - a.length : Nat) : Int) := by omega
  have HM := Lib.hid (unlike_more a b (by omega))
  have s1 : b.length - a.length ≤ 1000000000 := by omega
  go_enter Tryz.func101, Tryz.ntmps101
  go_wp2_with fail
  clear s0
  go_loopw [5, 21] (fun n i wr => URel a b w n i wr) (fun _ i _ => a.length - (intOf i).toNat)
  case atStart => exact ⟨0, Nat.zero_le _, rfl, by simp [unlikeL], Below.refl _ _⟩
  case round =>
    obtain ⟨k, hk, rfl, rfl, hB⟩ := hrel
    have hu := unlike_le (a.take k) (b.take k)
    rw [List.length_take, List.length_take] at hu
    by_cases h1 : k < a.length
    · have h2 : k < b.length := by omega
      have HT := Lib.hid (unlike_take a b k (.inl h1))
      obtain ⟨bl1, o1, rfl, hb1, hcell1⟩ := ha.at h1
      obtain ⟨bl2, o2, rfl, hb2, hcell2⟩ := hb.at h2
      have hc1 : wr.cell? ⟨bl1, o1 + k, none⟩ = some (.int .u8 (a[k].toNat : Int)) := (hB.cell (p := ⟨bl1, o1 + k, none⟩) hb1).trans (hcell1 k h1)
      have hc2 : wr.cell? ⟨bl2, o2 + k, none⟩ = some (.int .u8 (b[k].toNat : Int)) := (hB.cell (p := ⟨bl2, o2 + k, none⟩) hb2).trans (hcell2 k h2)
      have HT' : Hid (unlikeL (a.take (k + 1)) (b.take (k + 1)) = unlikeL (a.take k) (b.take k) + if a[k] = b[k] then 0 else 1) := by
        unfold Hid
        rw [HT.out, List.getElem?_eq_getElem h1, List.getElem?_eq_getElem h2]
        simp
      generalize a[k] = x at hc1 HT'
      generalize b[k] = y at hc2 HT'
      obtain ⟨t, ht⟩ : ∃ t : Nat, t = if x = y then 0 else 1 := ⟨_, rfl⟩
      have ht1 : t ≤ 1 := by rw [ht]; split <;> omega
      have HU : ∀ w, Calls Tryz.prog 105 #[.int .u8 (x.toNat : Int), .int .u8 (y.toNat : Int)] w fun e w' => e = .returned (.int .i64 (t : Int)) ∧ w' = w := fun w => by rw [ht]; exact (unlike_one x y w).mono fun _ _ h => ⟨h.1, h.2.symm⟩
      rw [← ht] at HT'
      have HR : Hid (∀ W, Below wr.heap.size wr W → URel a b w (.int .i64 ((((b.length - a.length) + unlikeL (a.take k) (b.take k) : Nat) : Int) + (t : Int))) (.int .i64 ((k : Int) + 1)) W) := fun W hW => ⟨k + 1, by omega, by go_num, by rw [HT'.out]; congr 1; omega, below_step hB hW⟩
      have i0 : (0 : Int) ≤ (k : Int) := by omega
      have j1 : (k : Int) < (a.length : Int) := by omega
      have j2 : (k : Int) < (b.length : Int) := by omega
      have hs : (b.length - a.length) + unlikeL (a.take k) (b.take k) ≤ 2000000000 := by omega
      generalize (b.length - a.length) + unlikeL (a.take k) (b.take k) = s at HR hs ⊢
      have hw1 : IntKind.i64.wrap ((s : Int) + (t : Int)) = (s : Int) + (t : Int) := by rw [IntKind.wrap_i64]; omega
      clear hcell1 hcell2 HT HT' ha hb hk hB ht hu HM
      go_wp2_with fail
      go_quiet (first | (go_at_call 105; refine Calls.quiet_of_same (HU _)))
      go_wp2_with fail
      go_roundw
      case rel => exact HR.out _ (below_drewN (Below.refl _ _) _)
      case measure => simp [intOf]; omega
    · have e : k = a.length := by omega
      have HE : Hid ((b.length - a.length) + unlikeL (a.take k) (b.take k) = unlikeL a b) := by unfold Hid; rw [HM.out, e, List.take_of_length_le (Nat.le_refl _)]
      have j1 : ¬ (k : Int) < (a.length : Int) := by omega
      rw [HE.out]
      clear HE hu HM hk e
      go_wp2_with fail
      go_ret
      exact ⟨rfl, hB⟩
set_option maxHeartbeats 1000000 in
theorem unlike_down (a b : List UInt8) (A B : Option Addr) (c d : Nat) (w : World) (ha : Rd vB w A a) (hb : Rd vB w B b) (hle : a.length < b.length) (hbl : b.length ≤ 1000000000) :
    Calls Tryz.prog 101 #[.slice B b.length d, .slice A a.length c] w fun e w' => e = .returned (.int .i64 (unlikeL a b : Int)) ∧ Below w.heap.size w w' := by
  have s0 : (b.length : Int) - (a.length : Int) = ((b.length - a.length : Nat) : Int) := by omega
  have HM := Lib.hid (unlike_more a b (by omega))
  have s1 : b.length - a.length ≤ 1000000000 := by omega
  go_enter Tryz.func101, Tryz.ntmps101
  go_wp2_with fail
  clear s0
  go_loopw [5, 21] (fun n i wr => URel a b w n i wr) (fun _ i _ => a.length - (intOf i).toNat)
  case atStart => exact ⟨0, Nat.zero_le _, rfl, by simp [unlikeL], Below.refl _ _⟩
  case round =>
    obtain ⟨k, hk, rfl, rfl, hB⟩ := hrel
    have hu := unlike_le (a.take k) (b.take k)
    rw [List.length_take, List.length_take] at hu
    by_cases h1 : k < a.length
    · have h2 : k < b.length := by omega
      have HT := Lib.hid (unlike_take a b k (.inl h1))
      obtain ⟨bl1, o1, rfl, hb1, hcell1⟩ := ha.at h1
      obtain ⟨bl2, o2, rfl, hb2, hcell2⟩ := hb.at h2
      have hc1 : wr.cell? ⟨bl1, o1 + k, none⟩ = some (.int .u8 (a[k].toNat : Int)) := (hB.cell (p := ⟨bl1, o1 + k, none⟩) hb1).trans (hcell1 k h1)
      have hc2 : wr.cell? ⟨bl2, o2 + k, none⟩ = some (.int .u8 (b[k].toNat : Int)) := (hB.cell (p := ⟨bl2, o2 + k, none⟩) hb2).trans (hcell2 k h2)
      have HT' : Hid (unlikeL (a.take (k + 1)) (b.take (k + 1)) = unlikeL (a.take k) (b.take k) + if a[k] = b[k] then 0 else 1) := by
        unfold Hid
        rw [HT.out, List.getElem?_eq_getElem h1, List.getElem?_eq_getElem h2]
        simp
      generalize a[k] = x at hc1 HT'
      generalize b[k] = y at hc2 HT'
      obtain ⟨t, ht⟩ : ∃ t : Nat, t = if x = y then 0 else 1 := ⟨_, rfl⟩
      have ht1 : t ≤ 1 := by rw [ht]; split <;> omega
      have HU : ∀ w, Calls Tryz.prog 105 #[.int .u8 (x.toNat : Int), .int .u8 (y.toNat : Int)] w fun e w' => e = .returned (.int .i64 (t : Int)) ∧ w' = w := fun w => by rw [ht]; exact (unlike_one x y w).mono fun _ _ h => ⟨h.1, h.2.symm⟩
      rw [← ht] at HT'
      have HR : Hid (∀ W, Below wr.heap.size wr W → URel a b w (.int .i64 ((((b.length - a.length) + unlikeL (a.take k) (b.take k) : Nat) : Int) + (t : Int))) (.int .i64 ((k : Int) + 1)) W) := fun W hW => ⟨k + 1, by omega, by go_num, by rw [HT'.out]; congr 1; omega, below_step hB hW⟩
      have i0 : (0 : Int) ≤ (k : Int) := by omega
      have j1 : (k : Int) < (a.length : Int) := by omega
      have j2 : (k : Int) < (b.length : Int) := by omega
      have hs : (b.length - a.length) + unlikeL (a.take k) (b.take k) ≤ 2000000000 := by omega
      generalize (b.length - a.length) + unlikeL (a.take k) (b.take k) = s at HR hs ⊢
      have hw1 : IntKind.i64.wrap ((s : Int) + (t : Int)) = (s : Int) + (t : Int) := by rw [IntKind.wrap_i64]; omega
      clear hcell1 hcell2 HT HT' ha hb hk hB ht hu HM
      go_wp2_with fail
      go_quiet (first | (go_at_call 105; refine Calls.quiet_of_same (HU _)))
      go_wp2_with fail
      go_roundw
      case rel => exact HR.out _ (below_drewN (Below.refl _ _) _)
      case measure => simp [intOf]; omega
    · have e : k = a.length := by omega
      have HE : Hid ((b.length - a.length) + unlikeL (a.take k) (b.take k) = unlikeL a b) := by unfold Hid; rw [HM.out, e, List.take_of_length_le (Nat.le_refl _)]
      have j1 : ¬ (k : Int) < (a.length : Int) := by omega
      rw [HE.out]
      clear HE hu HM hk e
      go_wp2_with fail
      go_ret
      exact ⟨rfl, hB⟩
theorem unlike_any (n m : Nat) (a b : List UInt8) (A B : Option Addr) (c d : Nat) (w : World) (HN : Hid (a.length = n)) (HM : Hid (b.length = m)) (ha : Rd vB w A a) (hb : Rd vB w B b) (hal : n ≤ 1000000000) (hbl : m ≤ 1000000000) :
    Calls Tryz.prog 101 #[.slice A n c, .slice B m d] w fun e w' => e = .returned (.int .i64 (unlikeL a b : Int)) ∧ Below w.heap.size w w' := by
  have e1 := HN.out
  have e2 := HM.out
  subst e1 e2
  by_cases h : a.length ≤ b.length
  · exact unlike_up a b A B c d w ha hb h hbl
  · rw [unlike_symm]
    exact unlike_down b a B A d c w hb ha (by omega) hal
/-- Are two lists the same? -/
def sameB (a b : List UInt8) : Bool := decide (unlikeL a b = 0)
theorem sameB_iff (a b : List UInt8) : sameB a b = true ↔ a = b := by rw [sameB, decide_eq_true_eq, unlike_zero]
theorem same_any (n m : Nat) (a b : List UInt8) (A B : Option Addr) (c d : Nat) (w : World) (HN : Hid (a.length = n)) (HM : Hid (b.length = m)) (ha : Rd vB w A a) (hb : Rd vB w B b) (hal : n ≤ 1000000000) (hbl : m ≤ 1000000000) :
    Calls Tryz.prog 99 #[.slice A n c, .slice B m d] w fun e w' => e = .returned (.bool (sameB a b)) ∧ Below w.heap.size w w' := by
  have HS : Hid (sameB a b = decide (unlikeL a b = 0)) := rfl
  go_enter Tryz.func99, Tryz.ntmps99
  go_wp2_with fail
  refine (unlike_any n m a b A B c d _ HN HM ha hb hal hbl).mono ?_
  rintro e w' ⟨rfl, hb⟩
  have h0 : ((unlikeL a b : Int) == 0) = sameB a b := by
    rw [HS.out]
    by_cases h : unlikeL a b = 0
    · simp [h]
    · simp [h]
  clear HS
  go_wp2_with fail
  go_ret
  exact ⟨rfl, hb⟩
end Go.Proofs.YtmljhkdojopljaaGreatDoor
/-
  What the program's calls turned, Block and Mac of layer 3 answer. Condition: the package's table holds the sixty-four constants.
-/
namespace Go.Proofs.YtmljhkdojopljaaGreatDoor
set_option maxRecDepth 100000
open Go.RowKit
set_option linter.unusedSimpArgs false
set_option linter.unusedVariables false

/-- A call that hands back n bytes. -/
def RetL (n : Nat) (w : World) (l : List UInt8) (e : Ending) (w' : World) : Prop := ∃ A cap, e = .returned (.slice A n cap) ∧ n ≤ cap ∧ Rd vB w' A l ∧ Below w.heap.size w w'
theorem RetL.of {n : Nat} {w w' : World} {l : List UInt8} {e : Ending} (hl : l.length = n) (h : RetS vB w l e w') : RetL n w l e w' := by
  obtain ⟨A, c, he, hc, hr, hb⟩ := h
  rw [hl] at he hc
  exact ⟨A, c, he, hc, hr, hb⟩

theorem sum_at [Inhabited Tab] (n : Nat) (b : List UInt8) (A : Option Addr) (c : Nat) (w : World) (HN : Hid (b.length = n)) (hr : Rd vB w A b) (hc : n ≤ c) (hn : n ≤ 9223372036854775807) (HK : Hid (KTab w)) :
    Calls Tryz.prog 103 #[.slice A n c] w (RetL 32 w (sumL b)) := by
  have e := HN.out
  subst e
  exact (sum_any b A c w hr hc hn HK).mono fun _ _ h => RetL.of (sumL_length b) h

/-! ### turned -/
def TurnRel (x : UInt8) (b : List UInt8) (w : World) (i : Value) (wr : World) : Prop :=
  ∃ k : Nat, k ≤ 64 ∧ i = .int .i64 (k : Int) ∧ Row wr w.heap.size 5 ((turnL x (b.take k) ++ List.replicate (64 - k) 0).map vB) ∧ Below w.heap.size w wr
theorem turn_set (x : UInt8) (b : List UInt8) (k : Nat) (h : b.length = 64) (hk : k < 64) :
    ((turnL x (b.take k) ++ List.replicate (64 - k) 0).map vB).set k (vB (xorB (b[k]'(by omega)) x)) = (turnL x (b.take (k + 1)) ++ List.replicate (64 - (k + 1)) 0).map vB := by
  have hl : (turnL x (b.take k)).length = k := by rw [turnL_length, List.length_take]; omega
  rw [← List.map_set, List.set_append_right _ _ (by omega), hl, Nat.sub_self, show 64 - k = (64 - (k + 1)) + 1 by omega, List.replicate_succ, List.set_cons_zero, turnL_take x b k (by omega), List.append_assoc]
  rfl

set_option maxHeartbeats 1000000 in
theorem turned_any8 (x : UInt8) (b : List UInt8) (A : Option Addr) (c : Nat) (w : World) (H : Hid (b.length = 64)) (hr : Rd vB w A b) :
    Calls Tryz.prog 104 #[.slice A 64 c, .int .u8 (x.toNat : Int)] w (RetL 64 w (turnL x b)) := by
  have hmk : ∀ w, (Instr.makeSlice 27 (.int .i64 64) (.int .i64 64)).run Tryz.prog w = .ok (.slice (some ⟨w.heap.size, 0, none⟩) 64 64) (w.alloc (.cells (List.replicate 64 (.int .u8 0)).toArray 5)) := fun _ => by kernel_rfl
  go_enter Tryz.func104, Tryz.ntmps104
  go_wp2_with fail
  have hR0 : Row (w.alloc (.cells (List.replicate 64 (.int .u8 0)).toArray 5)) w.heap.size 5 (List.replicate 64 (.int .u8 0)) := Row.new w _ _ _ rfl
  have hB0 : Below w.heap.size w (w.alloc (.cells (List.replicate 64 (.int .u8 0)).toArray 5)) := below_new (Below.refl _ _) _
  clear hmk
  go_loopw [13] (fun i wr => TurnRel x b w i wr) (fun i _ => 64 - (intOf i).toNat)
  case atStart => exact ⟨0, by omega, rfl, by simpa [turnL, vB] using hR0, hB0⟩
  case round =>
    clear hR0 hB0
    obtain ⟨k, hk, rfl, hR, hB⟩ := hrel
    by_cases hlt : k < 64
    · have hkb : k < b.length := by have := H.out; omega
      obtain ⟨blk, o, rfl, hb, hcell⟩ := hr.at hkb
      have hc0 : wr.cell? ⟨blk, o + k, none⟩ = some (.int .u8 (b[k].toNat : Int)) := (hB.cell (p := ⟨blk, o + k, none⟩) hb).trans (hcell k hkb)
      have HS := Lib.hid (turn_set x b k H.out hlt)
      have hxor := u8_xor_b b[k] x
      generalize b[k] = y at hc0 HS hxor
      have hkl : k < ((turnL x (b.take k) ++ List.replicate (64 - k) 0).map vB).length := by rw [List.length_map, List.length_append, turnL_length, List.length_take, List.length_replicate]; omega
      obtain ⟨vk, hcn⟩ : ∃ v, wr.cell? ⟨w.heap.size, k, none⟩ = some v := ⟨_, hR.cell (List.getElem?_eq_getElem hkl)⟩
      have hfz : wr.frozen? ⟨w.heap.size, k, none⟩ = false := hR.frozen _
      have i1 : (0 : Int) ≤ (k : Int) := by omega
      have i2 : (k : Int) < 64 := by omega
      have HRel : Hid (TurnRel x b w (.int .i64 ((k : Int) + 1)) (wr.setCell ⟨w.heap.size, k, none⟩ (.int .u8 ((xorB y x).toNat : Int)))) :=
        ⟨k + 1, by omega, by go_num, by have := hR.setCell k (vB (xorB y x)); rw [HS.out] at this; exact this, hB.setCell (by simp) _⟩
      clear hcell hR hB HS hkl hr hkb
      go_wp2_with fail
      go_roundw
      case rel => exact HRel.out
      case measure => simp [intOf]; omega
    · have hk64 : k = 64 := by omega
      subst hk64
      have HT : Hid ((turnL x (b.take 64) ++ List.replicate (64 - 64) 0) = turnL x b) := by
        unfold Hid
        rw [List.take_of_length_le (by have := H.out; omega)]
        simp
      rw [HT.out] at hR
      go_wp2_with fail
      go_ret
      exact ⟨some ⟨w.heap.size, 0, none⟩, 64, rfl, Nat.le_refl _, hR.rd, hB⟩

/-! ### Block -/
theorem fill_row (k : List UInt8) : (k.map vB ++ (List.replicate 64 (Value.int .u8 0)).drop k.length).toArray = ((fillK k).map vB).toArray := by
  rw [List.drop_replicate, fillK, List.map_append, List.map_replicate]
  rfl

set_option maxHeartbeats 1000000 in
theorem hblock_any [Inhabited Tab] (n : Nat) (key : List UInt8) (A : Option Addr) (c : Nat) (w : World) (HN : Hid (key.length = n)) (hr : Rd vB w A key) (hc : n ≤ c) (hl : n ≤ 9223372036854775807) (HK : Hid (KTab w)) :
    Calls Tryz.prog 102 #[.slice A n c] w (RetL 64 w (hblk key)) := by
  have hmk : ∀ w, (Instr.makeSlice 27 (.int .i64 64) (.int .i64 64)).run Tryz.prog w = .ok (.slice (some ⟨w.heap.size, 0, none⟩) 64 64) (w.alloc (.cells (List.replicate 64 (.int .u8 0)).toArray 5)) := fun _ => by kernel_rfl
  by_cases h64 : 64 < n
  · have hgt : (64 : Int) < (n : Int) := by omega
    have HE : Hid (hblk key = fillK (sumL key)) := hblk_long key (by rw [HN.out]; exact h64)
    have H32 : Hid ((sumL key).length = 32) := sumL_length key
    go_enter Tryz.func102, Tryz.ntmps102
    go_wp2_with fail
    refine (sum_at n key _ _ _ HN hr hc hl HK).mono ?_
    rintro e w1 ⟨A1, c1, rfl, hc1, hr1, hb1⟩
    generalize sumL key = K at hr1 HE H32
    have hB := below_new hb1 (.cells (List.replicate 64 (.int .u8 0)).toArray 5)
    go_wp2_with (refine wpList_copy_row rfl (.tmp 10) (.tmp 11) 27 27 rfl 5 Tryz.underlying27 (by kernel_rfl) w1.heap.size 0 64 64 A1 K c1 rfl (by rw [H32.out]; rfl) (List.replicate 64 (.int .u8 0)) 5 (by exact Row.new_at _ _ (by simp) _ _ _ rfl) (by exact hr1.keep (below_new (Below.refl _ _) _)) vB_one (by rw [H32.out]; omega) (by rw [H32.out]; simp) ?_)
    go_ret
    have hR : Row (w1.alloc (.cells (List.replicate 64 (.int .u8 0)).toArray 5)) w1.heap.size 5 (List.replicate 64 (.int .u8 0)) := Row.new w1 _ _ _ rfl
    rw [HE.out]
    exact ⟨some ⟨w1.heap.size, 0, none⟩, 64, rfl, Nat.le_refl _, (Row.setRow_at hR _ _ (fill_row K)).rd, below_setRow hB hb1.size _⟩
  · have hgt : ¬ (64 : Int) < (n : Int) := by omega
    have HE : Hid (hblk key = fillK key) := hblk_short key (by rw [HN.out]; omega)
    have hB := below_new (Below.refl _ w) (.cells (List.replicate 64 (.int .u8 0)).toArray 5)
    go_enter Tryz.func102, Tryz.ntmps102
    go_wp2_with (refine wpList_copy_row rfl (.tmp 10) (.tmp 11) 27 27 rfl 5 Tryz.underlying27 (by kernel_rfl) w.heap.size 0 64 64 A key c rfl (by rw [HN.out]; rfl) (List.replicate 64 (.int .u8 0)) 5 (by exact Row.new_at _ _ (by simp) _ _ _ rfl) (by exact hr.keep (below_new (Below.refl _ _) _)) vB_one (by rw [HN.out]; omega) (by rw [HN.out]; simp; omega) ?_)
    go_ret
    have hR : Row (w.alloc (.cells (List.replicate 64 (.int .u8 0)).toArray 5)) w.heap.size 5 (List.replicate 64 (.int .u8 0)) := Row.new w _ _ _ rfl
    rw [HE.out]
    exact ⟨some ⟨w.heap.size, 0, none⟩, 64, rfl, Nat.le_refl _, (Row.setRow_at hR _ _ (fill_row key)).rd, below_setRow hB (Nat.le_refl _) _⟩

/-! ### Mac -/
set_option maxHeartbeats 1000000 in
theorem mac_any [Inhabited Tab] (n m : Nat) (key msg : List UInt8) (A B : Option Addr) (c d : Nat) (w : World) (HN : Hid (key.length = n)) (HM : Hid (msg.length = m)) (hr : Rd vB w A key) (hm : Rd vB w B msg) (hc : n ≤ c) (hl : n ≤ 35184372088832) (hml : m ≤ 35184372088832) (HK : Hid (KTab w)) :
    Calls Tryz.prog 100 #[.slice A n c, .slice B m d] w (RetL 32 w (macL key msg)) := by
  obtain ⟨I, hI⟩ : ∃ I, I = turnL 54 (hblk key) ++ msg := ⟨_, rfl⟩
  obtain ⟨O, hO⟩ : ∃ O, O = turnL 92 (hblk key) ++ sumL I := ⟨_, rfl⟩
  have HE : Hid (macL key msg = sumL O) := by unfold Hid macL; rw [hO, hI]
  have HIl : Hid (I.length = 64 + m) := by unfold Hid; rw [hI, List.length_append, turnL_length, hblk_length, HM.out]
  have HOl : Hid (O.length = 96) := by unfold Hid; rw [hO, List.length_append, turnL_length, hblk_length, sumL_length]
  have HI := Lib.hid hI
  have HO := Lib.hid hO
  have HB64 : Hid ((hblk key).length = 64) := hblk_length key
  have HT1 : Hid ((turnL 54 (hblk key)).length = 64) := by unfold Hid; rw [turnL_length]; exact hblk_length key
  have HT2 : Hid ((turnL 92 (hblk key)).length = 64) := by unfold Hid; rw [turnL_length]; exact hblk_length key
  have HS32 : Hid ((sumL I).length = 32) := sumL_length I
  clear hI hO
  go_enter Tryz.func100, Tryz.ntmps100
  go_wp2_with fail
  refine (hblock_any n key _ _ _ HN hr hc (by omega) HK).mono ?_
  rintro e w1 ⟨A1, c1, rfl, hc1, hr1, hB⟩
  generalize hblk key = Bk at hr1 HB64 HI HO HT1 HT2
  go_wp2_with fail
  refine (turned_any8 54 Bk _ _ _ HB64 hr1).mono ?_
  rintro e w2 ⟨A2, c2, rfl, hc2, hr2, hb2⟩
  generalize turnL 54 Bk = T1 at hr2 HI HT1
  replace hr1 := hr1.keep hb2
  replace hB := below_step hB hb2
  clear hb2
  go_wp2_with fail
  have hP : Rd vPart (w2.alloc (.cells #[.slice A2 64 c2, .slice B m d] 27)) (some ⟨w2.heap.size, 0, none⟩) [⟨A2, c2, T1⟩, ⟨B, d, msg⟩] := Rd.new_at w2 _ rfl _ _ _ (by simp [vPart, HT1.out, HM.out])
  have hb3 := below_new (Below.refl _ w2) (.cells #[.slice A2 64 c2, .slice B m d] 27)
  refine (concat_two T1 msg I A2 B c2 d _ _ _ HI hP (hr2.keep hb3) (hm.keep (below_step hB hb3)) (by rw [HIl.out]; omega)).mono ?_
  rintro e w3 ⟨A3, c3, rfl, hc3, hr3, hN3, hb4⟩
  rw [HIl.out] at hc3 ⊢
  replace hr1 := hr1.keep (below_step hb3 hb4)
  replace hB := below_step (below_step hB hb3) hb4
  clear hP hb3 hb4 hN3 hr2 hc2
  go_wp2_with fail
  refine (sum_at (64 + m) I _ _ _ HIl hr3 hc3 (by omega) (Lib.hid (HK.out.keep hB))).mono ?_
  rintro e w4 ⟨A4, c4, rfl, hc4, hr4, hb5⟩
  generalize sumL I = Sm at hr4 HO HS32
  replace hr1 := hr1.keep hb5
  replace hB := below_step hB hb5
  clear hb5 hr3
  go_wp2_with fail
  refine (turned_any8 92 Bk _ _ _ HB64 hr1).mono ?_
  rintro e w5 ⟨A5, c5, rfl, hc5, hr5, hb6⟩
  generalize turnL 92 Bk = T2 at hr5 HO HT2
  replace hr4 := hr4.keep hb6
  replace hB := below_step hB hb6
  clear hb6 hr1
  go_wp2_with fail
  have hP : Rd vPart (w5.alloc (.cells #[.slice A5 64 c5, .slice A4 32 c4] 27)) (some ⟨w5.heap.size, 0, none⟩) [⟨A5, c5, T2⟩, ⟨A4, c4, Sm⟩] := Rd.new_at w5 _ rfl _ _ _ (by simp [vPart, HT2.out, HS32.out])
  have hb7 := below_new (Below.refl _ w5) (.cells #[.slice A5 64 c5, .slice A4 32 c4] 27)
  refine (concat_two T2 Sm O A5 A4 c5 c4 _ _ _ HO hP (hr5.keep hb7) (hr4.keep hb7) (by rw [HOl.out]; omega)).mono ?_
  rintro e w6 ⟨A6, c6, rfl, hc6, hr6, hN6, hb8⟩
  rw [HOl.out] at hc6 ⊢
  replace hB := below_step (below_step hB hb7) hb8
  clear hP hb7 hb8 hN6 hr5 hr4
  go_wp2_with fail
  refine (sum_at 96 O _ _ _ HOl hr6 hc6 (by omega) (Lib.hid (HK.out.keep hB))).mono ?_
  rintro e w7 ⟨A7, c7, rfl, hc7, hr7, hb9⟩
  go_wp2_with fail
  go_ret
  rw [HE.out]
  exact ⟨A7, c7, rfl, hc7, hr7, below_step hB hb9⟩

end Go.Proofs.YtmljhkdojopljaaGreatDoor
