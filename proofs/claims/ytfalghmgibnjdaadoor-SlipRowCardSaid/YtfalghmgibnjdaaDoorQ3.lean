/-
  What the program's call lastBlocks of layer 2 answers: the state behind a rest that is filled up. Conditions: the rest is less than a block; the package's table holds the sixty-four constants.
-/
import Derived.Test.YtfalghmgibnjdaaDoorQ2
import Derived.Deep.Cut
import Derived.Laws.Concat
import Derived.Laws.Strings
import Derived.Maps.AppendAt
import Derived.Lib.SlBytesConst
namespace Go.Proofs.YtfalghmgibnjdaaDoor
set_option maxRecDepth 100000
open Go.RowKit
set_option linter.unusedSimpArgs false
set_option linter.unusedVariables false

/-- A rest with the mark behind it. -/
def markL (r : List UInt8) : List UInt8 := r ++ 128 :: List.replicate (63 - r.length) 0
theorem markL_length (r : List UInt8) (h : r.length < 64) : (markL r).length = 64 := by simp [markL]; omega
theorem markL_set (r : List UInt8) (h : r.length < 64) : (r ++ List.replicate (64 - r.length) 0).set r.length 128 = markL r := by
  rw [List.set_append_right _ _ (Nat.le_refl _), Nat.sub_self, show 64 - r.length = (63 - r.length) + 1 by omega, List.replicate_succ, List.set_cons_zero]
  rfl
theorem fill_short (r : List UInt8) (many : Nat) (h : r.length < 56) : fillL r many = (markL r).take 56 ++ putL (8 * many % 18446744073709551616) := by
  unfold fillL markL
  congr 1
  rw [List.take_append, List.take_of_length_le (by omega), show 56 - r.length = (55 - r.length) + 1 by omega, List.take_succ_cons, List.take_replicate,
    show (119 - r.length % 64) % 64 = 55 - r.length by omega, show min (55 - r.length) (63 - r.length) = 55 - r.length by omega]
theorem fill_long (r : List UInt8) (many : Nat) (h : 56 ≤ r.length) (h64 : r.length < 64) : fillL r many = markL r ++ ((List.replicate 64 0).take 56 ++ putL (8 * many % 18446744073709551616)) := by
  unfold fillL markL
  rw [← List.append_assoc]
  congr 1
  rw [List.append_assoc]
  congr 1
  rw [List.take_replicate, show min 56 64 = 56 by omega, show (119 - r.length % 64) % 64 = (63 - r.length) + 56 by omega, List.cons_append, List.replicate_append_replicate]
theorem from_one [Inhabited Tab] (s : St) (M : List UInt8) (h : M.length = 64) : s.from M = s.block M := by
  rw [from_step s M (by omega), List.take_of_length_le (by omega), List.drop_of_length_le (by omega)]
  exact from_stop _ _ (by simp)
theorem from_two [Inhabited Tab] (s : St) (M N : List UInt8) (h : M.length = 64) (h' : N.length = 64) : s.from (M ++ N) = (s.block M).block N := by
  rw [from_step s _ (by simp; omega), List.take_left' h, List.drop_left' h]
  exact from_one _ _ h'
theorem last_short [Inhabited Tab] (s : St) (r : List UInt8) (many : Nat) (h : r.length < 56) : s.from (fillL r many) = s.block ((markL r).take 56 ++ putL (8 * many % 18446744073709551616)) := by
  rw [fill_short r many h]
  exact from_one _ _ (by have := markL_length r (by omega); simp [putL_length]; omega)
theorem last_long [Inhabited Tab] (s : St) (r : List UInt8) (many : Nat) (h : 56 ≤ r.length) (h64 : r.length < 64) : s.from (fillL r many) = (s.block (markL r)).block ((List.replicate 64 0).take 56 ++ putL (8 * many % 18446744073709551616)) := by
  rw [fill_long r many h h64]
  exact from_two _ _ _ (markL_length r h64) (by simp [putL_length])

def manyS (g many : Nat) (W : World) : Prop := W.cell? ⟨g, 9, none⟩ = some (.int .u64 (many : Int)) ∧ True

set_option maxRecDepth 100000 in
set_option maxHeartbeats 1000000 in
theorem last_any [Inhabited Tab] (s : St) (r : List UInt8) (A : Option Addr) (c many : Nat) (w : World) (hr : Rd vB w A r) (hn : r.length < 64) (hm : many < 18446744073709551616) (HK : Hid (KTab w)) :
    Calls Tryd.prog 33 #[.agg #[.int .u32 (s.a.toNat : Int), .int .u32 (s.b.toNat : Int), .int .u32 (s.c.toNat : Int), .int .u32 (s.d.toNat : Int), .int .u32 (s.e.toNat : Int), .int .u32 (s.f.toNat : Int), .int .u32 (s.g.toNat : Int), .int .u32 (s.h.toNat : Int), .slice A r.length c, .int .u64 (many : Int)]] w (RetS vW w (s.from (fillL r many)).toL) := by
  have hmk : ∀ w, (Instr.makeSlice 22 (.int .i64 64) (.int .i64 64)).run Tryd.prog w = .ok (.slice (some ⟨w.heap.size, 0, none⟩) 64 64) (w.alloc (.cells (List.replicate 64 (.int .u8 0)).toArray 5)) := fun _ => by kernel_rfl
  obtain ⟨p, hp⟩ : ∃ p, p = 8 * many % 18446744073709551616 := ⟨_, rfl⟩
  have HP1 : Hid (IntKind.u64.wrap (8 * (many : Int)) = (p : Int)) := by unfold Hid; rw [IntKind.wrap_u64, hp]; omega
  have HP2 : Hid (8 * (many : Int) % 18446744073709551616 = (p : Int)) := by unfold Hid; rw [hp]; omega
  have HPm : Hid (p < 18446744073709551616) := by unfold Hid; rw [hp]; exact Nat.mod_lt _ (by omega)
  have HP := Lib.hid hp
  clear hp
  go_enter Tryd.func33, Tryd.ntmps33
  go_upto_region 4 with (first
    | (refine wpList_load_part rfl 51 (.tmp 6) rfl w.heap.size 0 rfl _ _ (Row.new w _ _ _ rfl) [.int .u32 (s.a.toNat : Int), .int .u32 (s.b.toNat : Int), .int .u32 (s.c.toNat : Int), .int .u32 (s.d.toNat : Int), .int .u32 (s.e.toNat : Int), .int .u32 (s.f.toNat : Int), .int .u32 (s.g.toNat : Int), .int .u32 (s.h.toNat : Int)] (by rfl) _ Tryd.underlying51 rfl (by exact size_st) ?_)
    | (refine wpList_copy_row rfl (.tmp 9) (.tmp 11) 22 22 rfl 5 Tryd.underlying22 (by kernel_rfl) (w.heap.size + 2) 0 64 64 A r c rfl rfl (List.replicate 64 (.int .u8 0)) 5 (by exact Row.new_at _ _ (by simp) _ _ _ rfl) (by exact hr.keep (below_new (below_new (below_new (Below.refl _ _) _) _) _)) vB_one (by omega) (by simp; omega) ?_))
  refine at_world (Q := Code.wp _ _ _ _) (fun W => Row W w.heap.size 55 [.int .u32 (s.a.toNat : Int), .int .u32 (s.b.toNat : Int), .int .u32 (s.c.toNat : Int), .int .u32 (s.d.toNat : Int), .int .u32 (s.e.toNat : Int), .int .u32 (s.f.toNat : Int), .int .u32 (s.g.toNat : Int), .int .u32 (s.h.toNat : Int), .slice A r.length c, .int .u64 (many : Int)] ∧ Row W (w.heap.size + 1) 51 [.int .u32 (s.a.toNat : Int), .int .u32 (s.b.toNat : Int), .int .u32 (s.c.toNat : Int), .int .u32 (s.d.toNat : Int), .int .u32 (s.e.toNat : Int), .int .u32 (s.f.toNat : Int), .int .u32 (s.g.toNat : Int), .int .u32 (s.h.toNat : Int)] ∧ Row W (w.heap.size + 1 + 1) 5 ((r ++ List.replicate (64 - r.length) 0).map vB) ∧ Below w.heap.size w W)
    ⟨(((Row.new w _ _ _ rfl).alloc _).alloc _).setRow_other (by omega) _, ((Row.new_at _ _ (by simp) _ _ _ rfl).alloc _).setRow_other (by omega) _, ?_, below_setRow (below_new (below_new (below_new (Below.refl _ _) _) _) _) (by omega) _⟩ ?_
  · refine Row.setRow_at (Row.new_at _ _ (by simp) _ _ _ rfl) _ _ ?_
    show (r.map vB ++ (List.replicate 64 (Value.int .u8 0)).drop r.length).toArray = _
    rw [List.drop_replicate, List.map_append, List.map_replicate]
    rfl
  clear hmk hr
  rintro W ⟨hR0, hR1, hR2, hB⟩
  have hcn : W.cell? ⟨w.heap.size + 1 + 1, r.length, none⟩ = some (.int .u8 0) := hR2.cell (by
    rw [List.map_append, List.getElem?_append_right (by simp), List.length_map, Nat.sub_self, List.map_replicate, List.getElem?_replicate, if_pos (by omega)]
    rfl)
  have hfz : W.frozen? ⟨w.heap.size + 1 + 1, r.length, none⟩ = false := hR2.frozen _
  have n0 : (0 : Int) ≤ (r.length : Int) := by omega
  have n1 : (r.length : Int) < 64 := by omega
  go_upto_region 5 with fail
  refine at_world (Q := Code.wp _ _ _ _) (fun W => Row W w.heap.size 55 [.int .u32 (s.a.toNat : Int), .int .u32 (s.b.toNat : Int), .int .u32 (s.c.toNat : Int), .int .u32 (s.d.toNat : Int), .int .u32 (s.e.toNat : Int), .int .u32 (s.f.toNat : Int), .int .u32 (s.g.toNat : Int), .int .u32 (s.h.toNat : Int), .slice A r.length c, .int .u64 (many : Int)] ∧ Row W (w.heap.size + 1) 51 [.int .u32 (s.a.toNat : Int), .int .u32 (s.b.toNat : Int), .int .u32 (s.c.toNat : Int), .int .u32 (s.d.toNat : Int), .int .u32 (s.e.toNat : Int), .int .u32 (s.f.toNat : Int), .int .u32 (s.g.toNat : Int), .int .u32 (s.h.toNat : Int)] ∧ Row W (w.heap.size + 1 + 1) 5 ((markL r).map vB) ∧ Below w.heap.size w W)
    ⟨hR0.setCell_other (by simp; omega) _, hR1.setCell_other (by simp) _, ?_, hB.setCell (by simp; omega) _⟩ ?_
  · have := hR2.setCell r.length (vB 128)
    rw [← List.map_set, markL_set r hn] at this
    exact this
  clear hR0 hR1 hR2 hB hcn hfz W
  rintro W ⟨hR0, hR1, hR2, hB⟩
  by_cases h56 : r.length < 56
  · have hd : decide ((56 : Int) ≤ (r.length : Int)) = false := by simp; omega
    have HE : Hid (s.from (fillL r many) = s.block ((markL r).take 56 ++ putL p)) := by unfold Hid; rw [HP.out]; exact last_short s r many h56
    have HM : Hid ((markL r).length = 64) := markL_length r hn
    generalize markL r = M at hR2 HE HM
    obtain ⟨S, hS⟩ : ∃ S, S = s := ⟨_, rfl⟩
    replace hR1 : Row W (w.heap.size + 1) 51 [.int .u32 (S.a.toNat : Int), .int .u32 (S.b.toNat : Int), .int .u32 (S.c.toNat : Int), .int .u32 (S.d.toNat : Int), .int .u32 (S.e.toNat : Int), .int .u32 (S.f.toNat : Int), .int .u32 (S.g.toNat : Int), .int .u32 (S.h.toNat : Int)] := by rw [hS]; exact hR1
    replace HE : Hid (s.from (fillL r many) = S.block (M.take 56 ++ putL p)) := by rw [hS]; exact HE
    clear hS
    go_upto_region 8 with fail
    clear hd h56
    have h8 := putL_length p
    generalize hpl : putL p = Pl at HE h8
    have HPl := Lib.hid hpl
    have H8 := Lib.hid h8
    clear hpl h8
    have hP1 := HP1.out
    have hP2 := HP2.out
    refine wp_region_plan_of (manyS w.heap.size many) (.step 0 false (.step 1 false (.step 2 false (.step 3 false (.step 4 false (.step 5 true (.step 6 true (.nil)))))))) ⟨hR0.drew.cell rfl, trivial⟩ (by kernel_rfl) (by kernel_rfl) (by rfl) (by kernel_rfl) ?_
    iterate 5 (refine plan_read rfl (by rfl) (v := ?_) ?_ ?_; rotate_left 1; (intro W hW; (try dsimp only at hW); obtain ⟨hW0, hW1⟩ := hW; go_simp <;> with_reducible rfl); simp only [List.getElem_toArray, List.getElem_cons_zero, List.getElem_cons_succ, Act.put, List.setIfInBounds_toArray, List.set_cons_zero, List.set_cons_succ])
    clear hP1 hP2
    refine plan_make_of rfl (by rfl) (fun K hK => ?_)
    go_simp
    refine (put_any p HPm.out _).mono ?_
    rintro e w1 ⟨A1, c1, rfl, hc1, hr1, hb1⟩
    rw [HPl.out] at hc1 hr1 ⊢
    refine hK.out _ _ ⟨(hR0.drew.later hb1).cell rfl, trivial⟩ ?_
    clear hK K
    replace hR0 := hR0.drew.later hb1
    replace hR1 := hR1.drew.later hb1
    replace hR2 := hR2.drew.later hb1
    replace hB := below_step hB.drew hb1
    clear hb1
    refine plan_make_of rfl (by rfl) (fun K hK => ?_)
    refine wp_copy_row (.tmp 24) (.tmp 28) 22 22 (by rfl) 5 Tryd.underlying22 (by kernel_rfl) (w.heap.size + 1 + 1) 56 8 8 A1 Pl c1 (by rfl) (by rfl) (M.map vB) _ hR2 hr1 vB_one (by have := H8.out; omega) (by rw [List.length_map, HM.out, H8.out]; omega) ?_
    simp only [List.getElem_toArray, List.getElem_cons_zero, List.getElem_cons_succ, Act.put, List.setIfInBounds_toArray, List.set_cons_zero, List.set_cons_succ]
    refine hK.out _ _ ⟨(hR0.setRow_other (by omega) _).cell rfl, trivial⟩ ?_
    clear hK K
    refine plan_done ?_
    refine at_world (Q := _) (fun W => Row W (w.heap.size + 1) 51 [.int .u32 (S.a.toNat : Int), .int .u32 (S.b.toNat : Int), .int .u32 (S.c.toNat : Int), .int .u32 (S.d.toNat : Int), .int .u32 (S.e.toNat : Int), .int .u32 (S.f.toNat : Int), .int .u32 (S.g.toNat : Int), .int .u32 (S.h.toNat : Int)] ∧ Row W (w.heap.size + 1 + 1) 5 ((M.take 56 ++ Pl).map vB) ∧ Below w.heap.size w W)
      ⟨hR1.setRow_other (by omega) _, Row.setRow_at hR2 _ _ ?_, below_setRow hB (by omega) _⟩ ?_
    · rw [List.drop_of_length_le (by rw [List.length_map, HM.out, H8.out]; omega), List.append_nil, List.map_append, List.map_take]
    have HM2 : Hid ((M.take 56 ++ Pl).length = 64) := by unfold Hid; rw [List.length_append, List.length_take, HM.out, H8.out]; rfl
    generalize M.take 56 ++ Pl = N at HE HM2
    clear hR0 hR1 hR2 hB hr1 hc1 HM
    rintro W ⟨hR1, hR2, hB⟩
    have hr2 : Rd vB W (some ⟨w.heap.size + 1 + 1, 0, none⟩) N := hR2.rd
    go_wp2_with (refine wpList_load_part rfl 51 (.tmp 3) rfl (w.heap.size + 1) 0 rfl _ _ hR1 [.int .u32 (S.a.toNat : Int), .int .u32 (S.b.toNat : Int), .int .u32 (S.c.toNat : Int), .int .u32 (S.d.toNat : Int), .int .u32 (S.e.toNat : Int), .int .u32 (S.f.toNat : Int), .int .u32 (S.g.toNat : Int), .int .u32 (S.h.toNat : Int)] (by rfl) _ Tryd.underlying51 rfl (by exact size_st) ?_)
    refine (behind_any S N _ _ _ HM2 hr2 (Nat.le_refl _) (Lib.hid (HK.out.keep hB))).mono ?_
    rintro e w2 ⟨T, HT, rfl, hb2⟩
    replace hR1 := hR1.later hb2
    replace hB := below_step hB hb2
    clear hr2 hR2 hb2
    go_wp2_with (refine wpList_store_row rfl 51 (.tmp 3) (.tmp 32) rfl (w.heap.size + 1) rfl [.int .u32 (T.a.toNat : Int), .int .u32 (T.b.toNat : Int), .int .u32 (T.c.toNat : Int), .int .u32 (T.d.toNat : Int), .int .u32 (T.e.toNat : Int), .int .u32 (T.f.toNat : Int), .int .u32 (T.g.toNat : Int), .int .u32 (T.h.toNat : Int)] rfl _ _ hR1 (by exact size_st) (by rfl) (by exact one_st _ _ _ _ _ _ _ _) ?_)
    go_ret
    rw [HE.out, ← HT.out]
    exact ⟨_, 8, rfl, Nat.le_refl _, Row.rd (f := vW) (L := T.toL) (hR1.setRow _), below_setRow hB (by omega) _⟩
  · have hd : decide ((56 : Int) ≤ (r.length : Int)) = true := by simp; omega
    have HE : Hid (s.from (fillL r many) = (s.block (markL r)).block ((List.replicate 64 0).take 56 ++ putL p)) := by unfold Hid; rw [HP.out]; exact last_long s r many (by omega) hn
    have HM : Hid ((markL r).length = 64) := markL_length r hn
    generalize markL r = M at hR2 HE HM
    have hr2 : Rd vB W (some ⟨w.heap.size + 1 + 1, 0, none⟩) M := hR2.rd
    go_wp2_with (refine wpList_load_part rfl 51 (.tmp 3) rfl (w.heap.size + 1) 0 rfl _ _ hR1 [.int .u32 (s.a.toNat : Int), .int .u32 (s.b.toNat : Int), .int .u32 (s.c.toNat : Int), .int .u32 (s.d.toNat : Int), .int .u32 (s.e.toNat : Int), .int .u32 (s.f.toNat : Int), .int .u32 (s.g.toNat : Int), .int .u32 (s.h.toNat : Int)] (by rfl) _ Tryd.underlying51 rfl (by exact size_st) ?_)
    refine (behind_any s M _ _ _ HM hr2 (Nat.le_refl _) (Lib.hid (HK.out.keep hB))).mono ?_
    rintro e w1 ⟨S, HS, rfl, hb1⟩
    replace hR0 := hR0.later hb1
    replace hR1 := hR1.later hb1
    replace hR2 := hR2.later hb1
    replace hB := below_step hB hb1
    clear hr2 hb1
    go_upto_region 7 with (refine wpList_store_row rfl 51 (.tmp 3) (.tmp 21) rfl (w.heap.size + 1) rfl [.int .u32 (S.a.toNat : Int), .int .u32 (S.b.toNat : Int), .int .u32 (S.c.toNat : Int), .int .u32 (S.d.toNat : Int), .int .u32 (S.e.toNat : Int), .int .u32 (S.f.toNat : Int), .int .u32 (S.g.toNat : Int), .int .u32 (S.h.toNat : Int)] rfl _ _ hR1 (by exact size_st) (by rfl) (by exact one_st _ _ _ _ _ _ _ _) ?_)
    refine at_world (Q := Code.wp _ _ _ _) (fun W => Row W w.heap.size 55 [.int .u32 (s.a.toNat : Int), .int .u32 (s.b.toNat : Int), .int .u32 (s.c.toNat : Int), .int .u32 (s.d.toNat : Int), .int .u32 (s.e.toNat : Int), .int .u32 (s.f.toNat : Int), .int .u32 (s.g.toNat : Int), .int .u32 (s.h.toNat : Int), .slice A r.length c, .int .u64 (many : Int)] ∧ Row W (w.heap.size + 1) 51 [.int .u32 (S.a.toNat : Int), .int .u32 (S.b.toNat : Int), .int .u32 (S.c.toNat : Int), .int .u32 (S.d.toNat : Int), .int .u32 (S.e.toNat : Int), .int .u32 (S.f.toNat : Int), .int .u32 (S.g.toNat : Int), .int .u32 (S.h.toNat : Int)] ∧ Row W (w.heap.size + 1 + 1) 5 (M.map vB) ∧ Below w.heap.size w W)
      ⟨hR0.setRow_other (by omega) _, hR1.setRow _, hR2.setRow_other (by omega) _, below_setRow hB (by omega) _⟩ ?_
    clear hR0 hR1 hR2 hB w1 W
    rintro W ⟨hR0, hR1, hR2, hB⟩
    have hcl : (Builtin.clear_ #[22] 0 #[.slice (some ⟨w.heap.size + 1 + 1, 0, none⟩) 64 64]).run Tryd.prog W = .ok (.tuple #[]) (W.setCells (w.heap.size + 1 + 1) 0 (List.replicate 64 (.int .u8 0))) :=
      Lib.run_clear_slice W _ 5 _ (.int .u8 0) Tryd.underlying22 (fun _ => by kernel_rfl) rfl rfl _ 0 64 64 (by omega) (fun j hj => by rw [hR2.cell?]; have := HM.out; simp [this, hj]) (fun j _ => hR2.frozen _)
    go_upto_region 8 with fail
    refine at_world (Q := Code.wp _ _ _ _) (fun W => Row W w.heap.size 55 [.int .u32 (s.a.toNat : Int), .int .u32 (s.b.toNat : Int), .int .u32 (s.c.toNat : Int), .int .u32 (s.d.toNat : Int), .int .u32 (s.e.toNat : Int), .int .u32 (s.f.toNat : Int), .int .u32 (s.g.toNat : Int), .int .u32 (s.h.toNat : Int), .slice A r.length c, .int .u64 (many : Int)] ∧ Row W (w.heap.size + 1) 51 [.int .u32 (S.a.toNat : Int), .int .u32 (S.b.toNat : Int), .int .u32 (S.c.toNat : Int), .int .u32 (S.d.toNat : Int), .int .u32 (S.e.toNat : Int), .int .u32 (S.f.toNat : Int), .int .u32 (S.g.toNat : Int), .int .u32 (S.h.toNat : Int)] ∧ Row W (w.heap.size + 1 + 1) 5 ((List.replicate 64 (0 : UInt8)).map vB) ∧ Below w.heap.size w W)
      ⟨hR0.setCells_other (by omega) _ _, hR1.setCells_other (by omega) _ _, ?_, below_setCells (by omega) _ _ hB⟩ ?_
    · have h0 : 0 + (List.replicate 64 (Value.int .u8 0)).length ≤ (M.map vB).length := by rw [List.length_map, HM.out]; simp
      have h1 : (M.map vB).take 0 ++ List.replicate 64 (Value.int .u8 0) ++ (M.map vB).drop (0 + (List.replicate 64 (Value.int .u8 0)).length) = (List.replicate 64 (0 : UInt8)).map vB := by
        rw [List.drop_of_length_le (by rw [List.length_map, HM.out]; simp), List.map_replicate]
        rfl
      have := Row.setCells _ 0 hR2 h0
      rw [h1] at this
      exact this
    replace HE : Hid (s.from (fillL r many) = S.block ((List.replicate 64 0).take 56 ++ putL p)) := by unfold Hid; rw [HE.out, HS.out]
    clear hR0 hR1 hR2 hB hcl HM HS W M hd h56
    rintro W ⟨hR0, hR1, hR2, hB⟩
    have HM : Hid ((List.replicate 64 (0 : UInt8)).length = 64) := List.length_replicate
    generalize List.replicate 64 (0 : UInt8) = M at HE HM hR2
    have h8 := putL_length p
    generalize hpl : putL p = Pl at HE h8
    have HPl := Lib.hid hpl
    have H8 := Lib.hid h8
    clear hpl h8
    have hP1 := HP1.out
    have hP2 := HP2.out
    refine wp_region_plan_of (manyS w.heap.size many) (.step 0 false (.step 1 false (.step 2 false (.step 3 false (.step 4 false (.step 5 true (.step 6 true (.nil)))))))) ⟨hR0.drew.cell rfl, trivial⟩ (by kernel_rfl) (by kernel_rfl) (by rfl) (by kernel_rfl) ?_
    iterate 5 (refine plan_read rfl (by rfl) (v := ?_) ?_ ?_; rotate_left 1; (intro W hW; (try dsimp only at hW); obtain ⟨hW0, hW1⟩ := hW; go_simp <;> with_reducible rfl); simp only [List.getElem_toArray, List.getElem_cons_zero, List.getElem_cons_succ, Act.put, List.setIfInBounds_toArray, List.set_cons_zero, List.set_cons_succ])
    clear hP1 hP2
    refine plan_make_of rfl (by rfl) (fun K hK => ?_)
    go_simp
    refine (put_any p HPm.out _).mono ?_
    rintro e w1 ⟨A1, c1, rfl, hc1, hr1, hb1⟩
    rw [HPl.out] at hc1 hr1 ⊢
    refine hK.out _ _ ⟨(hR0.drew.later hb1).cell rfl, trivial⟩ ?_
    clear hK K
    replace hR0 := hR0.drew.later hb1
    replace hR1 := hR1.drew.later hb1
    replace hR2 := hR2.drew.later hb1
    replace hB := below_step hB.drew hb1
    clear hb1
    refine plan_make_of rfl (by rfl) (fun K hK => ?_)
    refine wp_copy_row (.tmp 24) (.tmp 28) 22 22 (by rfl) 5 Tryd.underlying22 (by kernel_rfl) (w.heap.size + 1 + 1) 56 8 8 A1 Pl c1 (by rfl) (by rfl) (M.map vB) _ hR2 hr1 vB_one (by have := H8.out; omega) (by rw [List.length_map, HM.out, H8.out]; omega) ?_
    simp only [List.getElem_toArray, List.getElem_cons_zero, List.getElem_cons_succ, Act.put, List.setIfInBounds_toArray, List.set_cons_zero, List.set_cons_succ]
    refine hK.out _ _ ⟨(hR0.setRow_other (by omega) _).cell rfl, trivial⟩ ?_
    clear hK K
    refine plan_done ?_
    refine at_world (Q := _) (fun W => Row W (w.heap.size + 1) 51 [.int .u32 (S.a.toNat : Int), .int .u32 (S.b.toNat : Int), .int .u32 (S.c.toNat : Int), .int .u32 (S.d.toNat : Int), .int .u32 (S.e.toNat : Int), .int .u32 (S.f.toNat : Int), .int .u32 (S.g.toNat : Int), .int .u32 (S.h.toNat : Int)] ∧ Row W (w.heap.size + 1 + 1) 5 ((M.take 56 ++ Pl).map vB) ∧ Below w.heap.size w W)
      ⟨hR1.setRow_other (by omega) _, Row.setRow_at hR2 _ _ ?_, below_setRow hB (by omega) _⟩ ?_
    · rw [List.drop_of_length_le (by rw [List.length_map, HM.out, H8.out]; omega), List.append_nil, List.map_append, List.map_take]
    have HM2 : Hid ((M.take 56 ++ Pl).length = 64) := by unfold Hid; rw [List.length_append, List.length_take, HM.out, H8.out]; rfl
    generalize M.take 56 ++ Pl = N at HE HM2
    clear hR0 hR1 hR2 hB hr1 hc1 HM
    rintro W ⟨hR1, hR2, hB⟩
    have hr2 : Rd vB W (some ⟨w.heap.size + 1 + 1, 0, none⟩) N := hR2.rd
    go_wp2_with (refine wpList_load_part rfl 51 (.tmp 3) rfl (w.heap.size + 1) 0 rfl _ _ hR1 [.int .u32 (S.a.toNat : Int), .int .u32 (S.b.toNat : Int), .int .u32 (S.c.toNat : Int), .int .u32 (S.d.toNat : Int), .int .u32 (S.e.toNat : Int), .int .u32 (S.f.toNat : Int), .int .u32 (S.g.toNat : Int), .int .u32 (S.h.toNat : Int)] (by rfl) _ Tryd.underlying51 rfl (by exact size_st) ?_)
    refine (behind_any S N _ _ _ HM2 hr2 (Nat.le_refl _) (Lib.hid (HK.out.keep hB))).mono ?_
    rintro e w2 ⟨T, HT, rfl, hb2⟩
    replace hR1 := hR1.later hb2
    replace hB := below_step hB hb2
    clear hr2 hR2 hb2
    go_wp2_with (refine wpList_store_row rfl 51 (.tmp 3) (.tmp 32) rfl (w.heap.size + 1) rfl [.int .u32 (T.a.toNat : Int), .int .u32 (T.b.toNat : Int), .int .u32 (T.c.toNat : Int), .int .u32 (T.d.toNat : Int), .int .u32 (T.e.toNat : Int), .int .u32 (T.f.toNat : Int), .int .u32 (T.g.toNat : Int), .int .u32 (T.h.toNat : Int)] rfl _ _ hR1 (by exact size_st) (by rfl) (by exact one_st _ _ _ _ _ _ _ _) ?_)
    go_ret
    rw [HE.out, ← HT.out]
    exact ⟨_, 8, rfl, Nat.le_refl _, Row.rd (f := vW) (L := T.toL) (hR1.setRow _), below_setRow hB (by omega) _⟩
end Go.Proofs.YtfalghmgibnjdaaDoor
/-
  What the program's calls Block, End and Sum of layer 2 answer. Condition: the package's table holds the sixty-four constants.
-/
namespace Go.Proofs.YtfalghmgibnjdaaDoor
set_option maxRecDepth 100000
open Go.RowKit
set_option linter.unusedSimpArgs false
set_option linter.unusedVariables false

theorem fillL_step (b : List UInt8) (many : Nat) (h : 64 ≤ b.length) : fillL b many = b.take 64 ++ fillL (b.drop 64) many := by
  unfold fillL
  rw [List.length_drop, show (b.length - 64) % 64 = b.length % 64 by omega, ← List.append_assoc, ← List.append_assoc, List.take_append_drop]
theorem from_fill [Inhabited Tab] (many : Nat) : ∀ (n : Nat) (s : St) (b : List UInt8), b.length ≤ n → s.from (fillL b many) = (s.from b).from (fillL (restL b) many)
  | n, s, b, hn => by
    by_cases h : 64 ≤ b.length
    · match n, hn with
      | 0, hn => omega
      | n + 1, hn =>
        rw [fillL_step b many h, from_step s _ (by simp; omega), List.take_left' (by simp; omega), List.drop_left' (by simp; omega), from_fill many n _ (b.drop 64) (by simp; omega), from_step s b h, restL_step b h]
    · rw [from_stop s b h, restL_short b (by omega)]

theorem hash_state (S : St) (x y : Value) (W : World) : (Instr.field 55 (.agg #[.int .u32 (S.a.toNat : Int), .int .u32 (S.b.toNat : Int), .int .u32 (S.c.toNat : Int), .int .u32 (S.d.toNat : Int), .int .u32 (S.e.toNat : Int), .int .u32 (S.f.toNat : Int), .int .u32 (S.g.toNat : Int), .int .u32 (S.h.toNat : Int), x, y]) 0).run Tryd.prog W = .ok (.agg #[.int .u32 (S.a.toNat : Int), .int .u32 (S.b.toNat : Int), .int .u32 (S.c.toNat : Int), .int .u32 (S.d.toNat : Int), .int .u32 (S.e.toNat : Int), .int .u32 (S.f.toNat : Int), .int .u32 (S.g.toNat : Int), .int .u32 (S.h.toNat : Int)]) W := by kernel_rfl
theorem hash_rest (S : St) (x y : Value) (W : World) : (Instr.field 55 (.agg #[.int .u32 (S.a.toNat : Int), .int .u32 (S.b.toNat : Int), .int .u32 (S.c.toNat : Int), .int .u32 (S.d.toNat : Int), .int .u32 (S.e.toNat : Int), .int .u32 (S.f.toNat : Int), .int .u32 (S.g.toNat : Int), .int .u32 (S.h.toNat : Int), x, y]) 1).run Tryd.prog W = .ok x W := by kernel_rfl
theorem hash_many (S : St) (x y : Value) (W : World) : (Instr.field 55 (.agg #[.int .u32 (S.a.toNat : Int), .int .u32 (S.b.toNat : Int), .int .u32 (S.c.toNat : Int), .int .u32 (S.d.toNat : Int), .int .u32 (S.e.toNat : Int), .int .u32 (S.f.toNat : Int), .int .u32 (S.g.toNat : Int), .int .u32 (S.h.toNat : Int), x, y]) 2).run Tryd.prog W = .ok y W := by kernel_rfl
/-- A call that hands back a list and how it went. -/
def RetE (w : World) (l : List UInt8) (n : Int) (e : Ending) (w' : World) : Prop := ∃ A cap, e = .returned (.tuple #[.slice A l.length cap, .int .i64 n]) ∧ l.length ≤ cap ∧ Rd vB w' A l ∧ Below w.heap.size w w'

set_option maxHeartbeats 600000 in
theorem sum_any [Inhabited Tab] (b : List UInt8) (A : Option Addr) (c : Nat) (w : World) (hr : Rd vB w A b) (hc : b.length ≤ c) (hl : b.length ≤ 9223372036854775807) (HK : Hid (KTab w)) :
    Calls Tryd.prog 23 #[.slice A b.length c] w (RetS vB w (sumL b)) := by
  go_enter Tryd.func23, Tryd.ntmps23
  go_wp2_with fail
  refine (start_any _).mono ?_
  rintro e w1 ⟨S0, HS0, rfl, hb1⟩
  have hfd := hash_state S0 (.slice none 0 0) (.int .u64 0)
  go_wp2_with fail
  clear hfd
  refine (wholeBlocks_any S0 b _ _ _ (hr.keep hb1) hc hl (Lib.hid (HK.out.keep hb1))).mono ?_
  rintro e w2 ⟨S, A2, c2, HS, rfl, hc2, hall, hb2⟩
  have hB := below_step hb1 hb2
  have hr2 := hall w2 (hr.keep hB)
  clear hall
  have HE : Hid (sumL b = bytesL (S.from (fillL (restL b) b.length)).toL) := by unfold Hid sumL; rw [from_fill b.length b.length startSt b (Nat.le_refl _), HS.out, HS0.out]
  have h64 : (restL b).length < 64 := by rw [restL_length]; omega
  generalize restL b = R at hc2 hr2 HE h64
  have h8 : (S.from (fillL R b.length)).toL.length = 8 := rfl
  generalize hL : (S.from (fillL R b.length)).toL = L at h8 HE
  have HL := Lib.hid hL
  have H8 := Lib.hid h8
  clear hL h8 hb1 hb2 HS
  go_wp2_with fail
  have hb3 : Below w2.heap.size w2 (w2.alloc (.cells #[.int .u32 (S.a.toNat : Int), .int .u32 (S.b.toNat : Int), .int .u32 (S.c.toNat : Int), .int .u32 (S.d.toNat : Int), .int .u32 (S.e.toNat : Int), .int .u32 (S.f.toNat : Int), .int .u32 (S.g.toNat : Int), .int .u32 (S.h.toNat : Int)] 51)) := below_new (Below.refl _ _) _
  refine (last_any S R _ _ _ _ (hr2.keep hb3) h64 (by omega) (Lib.hid (HK.out.keep (below_step hB hb3)))).mono ?_
  replace hB := below_step hB hb3
  rintro e w3 ⟨A3, c3, rfl, hc3, hr3, hb4⟩
  rw [HL.out] at hc3 hr3 ⊢
  replace hB := below_step hB hb4
  clear hb3 hb4 hr2
  go_wp2_with fail
  refine (bytes_any L _ _ _ hr3 (by have := H8.out; omega)).mono ?_
  rintro e w4 ⟨A4, c4, rfl, hc4, hr4, hb5⟩
  go_wp2_with fail
  go_ret
  rw [HE.out]
  exact ⟨A4, c4, rfl, hc4, hr4, below_step hB hb5⟩
end Go.Proofs.YtfalghmgibnjdaaDoor
/-
  A string as a list of bytes: its length, one byte of it, the end of it, two held together (no program is named here). No conditions but those typed.
-/
namespace Go.Proofs.YtfalghmgibnjdaaDoor
set_option maxRecDepth 100000
open Go.RowKit
set_option linter.unusedSimpArgs false

def strL (l : List UInt8) : ByteArray := ⟨l.toArray⟩
theorem strL_size (l : List UInt8) : (strL l).size = l.length := by simp [strL, ByteArray.size]
theorem strL_toList (l : List UInt8) : (strL l).toList = l := by unfold strL; exact ByteArray.toList_mk l
theorem strL_append (a b : List UInt8) : strL a ++ strL b = strL (a ++ b) := by
  unfold strL
  apply ByteArray.ext
  rw [ByteArray.data_append]
  simp
theorem strL_inj {a b : List UInt8} (h : strL a = strL b) : a = b := by
  have := congrArg ByteArray.toList h
  rwa [strL_toList, strL_toList] at this
theorem strL_drop (l : List UInt8) (k : Nat) : (strL l).extract k (strL l).size = strL (l.drop k) := by
  apply ByteArray.ext
  rw [ByteArray.data_extract, strL_size]
  simp [strL]
  exact List.take_of_length_le (by simp)
theorem run_index_strL {P : Program} (t : TypeId) (l : List UInt8) (i : Nat) (h : i < l.length) (ht : P.underlying t = some .string) (w : World) :
    (Instr.index t (.string (strL l)) (.int .i64 (i : Int))).run P w = .ok (.int .u8 (l[i].toNat : Int)) w := by
  rw [run_index_string w t (strL l) .i64 (i : Int) ht, dif_pos (by rw [strL_size]; omega)]
  simp [strL, ByteArray.getElem_eq_getElem_data]
theorem run_slice_strL {P : Program} (t : TypeId) (l : List UInt8) (k : Nat) (h : k ≤ l.length) (ht : P.underlying t = some .string) (w : World) :
    (Instr.slice t (.string (strL l)) (some (.int .i64 (k : Int))) none none).run P w = .ok (.string (strL (l.drop k))) w := by
  rw [run_slice_string_l w t (strL l) ht .i64 (k : Int) (by omega) (by rw [strL_size]; omega), Int.toNat_natCast, strL_drop]
end Go.Proofs.YtfalghmgibnjdaaDoor
/-
  What bytes.Equal answers. No conditions but those typed.
-/
namespace Go.Proofs.YtfalghmgibnjdaaDoor
set_option maxRecDepth 100000
open Go.RowKit
set_option linter.unusedSimpArgs false
set_option linter.unusedVariables false

theorem str_beq (a b : List UInt8) : ((strL a).toList == (strL b).toList) = decide (a = b) := by
  unfold strL
  rw [ByteArray.toList_mk, ByteArray.toList_mk]
  by_cases h : a = b <;> simp [h]

theorem equal_any (a b : List UInt8) (n m : Nat) (A B : Option Addr) (c d : Nat) (w : World) (HN : Hid (a.length = n)) (HM : Hid (b.length = m)) (ha : Rd vB w A a) (hb : Rd vB w B b) :
    Calls Tryd.prog 34 #[.slice A n c, .slice B m d] w fun e w' => e = .returned (.bool (decide (a = b))) ∧ w = w' := by
  have s0 : (convert 22 9 (.slice A n c)).run Tryd.prog w = .ok (.string (strL a)) w := run_str _ _ _ _ Tryd.underlying22 Tryd.underlying5 Tryd.underlying9 _ a _ _ HN.out ha
  have s1 : (convert 22 9 (.slice B m d)).run Tryd.prog w = .ok (.string (strL b)) w := run_str _ _ _ _ Tryd.underlying22 Tryd.underlying5 Tryd.underlying9 _ b _ _ HM.out hb
  have b0 := str_beq a b
  obtain ⟨r, hr⟩ : ∃ r, r = decide (a = b) := ⟨_, rfl⟩
  rw [← hr] at b0 ⊢
  generalize strL a = SA at s0 b0
  generalize strL b = SB at s1 b0
  clear hr ha hb
  go_enter Tryd.func34, Tryd.ntmps34
  go_wp2_with fail
  go_ret
  exact ⟨rfl, rfl⟩
end Go.Proofs.YtfalghmgibnjdaaDoor
/-
  Rows of the call's own: their form, what is left of them behind other steps, two that stay apart, one known whole; one step more for plans (no program is named here). No conditions but those typed.
-/
namespace Go.Proofs.YtfalghmgibnjdaaDoor
set_option maxRecDepth 100000
open Go.RowKit
set_option linter.unusedSimpArgs false
set_option linter.unusedVariables false

theorem ownsRow_same {w w' : World} {base : Nat} {e : TypeId} {v : Value} {n : Nat} {xs : List Value} (h : w.ownsRow base e 1 v n xs) (hh : ∀ b, base ≤ b → b < w.heap.size → w'.heap[b]? = w.heap[b]?) : w'.ownsRow base e 1 v n xs := by
  refine ⟨h.1, ?_⟩
  rcases h.2 with h0 | ⟨g, cap, cur, hv, hg, hc, r⟩
  · exact .inl h0
  · exact .inr ⟨g, cap, cur, hv, hg, (hh g hg (Array.getElem?_eq_some_iff.1 hc).1).trans hc, r⟩
theorem ownsRow_later {w w' : World} {base : Nat} {e : TypeId} {v : Value} {n : Nat} {xs : List Value} (h : w.ownsRow base e 1 v n xs) (hb : Below w.heap.size w w') : w'.ownsRow base e 1 v n xs := ownsRow_same h (fun b _ hb' => hb.block b hb')
theorem Rd.grown {α : Type} {f : α → Value} {w w' : World} {row : Option Nat} {A : Option Addr} {L : List α} (h : Rd f w A L) (hg : w.grownBy w' row) (hA : ∀ a, A = some a → row ≠ some a.block) : Rd f w' A L := fun hn => by
  obtain ⟨b, o, rfl, hc⟩ := h hn
  refine ⟨b, o, rfl, fun i hi => ?_⟩
  obtain ⟨_, _, _, _, h5⟩ := hg
  have hk := hc i hi
  have hlt : b < w.heap.size := World.block_lt_of_cell? w _ hk
  exact (World.cell?_of_block (w := w) (a := ⟨b, o + i, none⟩) (h5 b hlt (fun e => hA ⟨b, o, none⟩ rfl e.symm))).trans hk
theorem own_slice {α : Type} {f : α → Value} {w : World} {base : Nat} {e : TypeId} {v : Value} {l : List α} (h : w.ownsRow base e 1 v l.length (l.map f)) : ∃ A cap, v = .slice A l.length cap ∧ l.length ≤ cap ∧ Rd f w A l := by
  rcases h.2 with ⟨rfl, h0⟩ | ⟨g, cap, cur, rfl, _, _, hc, _⟩
  · have hl : l = [] := List.eq_nil_of_length_eq_zero h0
    subst hl
    exact ⟨none, 0, rfl, Nat.le_refl _, Rd.nil⟩
  · exact ⟨_, cap, rfl, hc, Rd.own h⟩

theorem Row.range_part {w : World} {g : Nat} {t : TypeId} {l : List Value} (h : Row w g t l) (o : Nat) (m : List Value) (hm : (l.drop o).take m.length = m) : w.rangeAt g o m := fun j v hv => by
  have hj : j < m.length := (List.getElem?_eq_some_iff.1 hv).1
  have := congrArg (·[j]?) hm
  simp only [List.getElem?_take, List.getElem?_drop, hj, if_true] at this
  exact h.cell (this.trans hv)

theorem own_form {w : World} {base : Nat} {e : TypeId} {v : Value} {n : Nat} {xs : List Value} (h : w.ownsRow base e 1 v n xs) : ∃ A cap, v = .slice A n cap ∧ n ≤ cap := by
  rcases h.2 with ⟨rfl, rfl⟩ | ⟨g, cap, cur, rfl, _, _, hc, _⟩
  · exact ⟨none, 0, rfl, Nat.le_refl _⟩
  · exact ⟨_, cap, rfl, hc⟩

theorem apart_symm {u v : Value} (h : u.ownBlock = none ∨ u.ownBlock ≠ v.ownBlock) : v.ownBlock = none ∨ v.ownBlock ≠ u.ownBlock := by
  rcases h with h | h
  · by_cases hv : v.ownBlock = none
    · exact .inl hv
    · exact .inr (by rw [h]; exact hv)
  · exact .inr (Ne.symm h)
/-- Apart, behind the growth of the second one. -/
theorem apart_grown {w : World} {base : Nat} {e : TypeId} {u v v' : Value} {n : Nat} {xs : List Value} (h : u.ownBlock = none ∨ u.ownBlock ≠ v.ownBlock) (ho : w.ownsRow base e 1 u n xs) (hat : v'.ownBlock = v.ownBlock ∨ v'.ownBlock = some w.heap.size) : u.ownBlock = none ∨ u.ownBlock ≠ v'.ownBlock := by
  rcases hat with hat | hat
  · rw [hat]; exact h
  · right
    rw [hat]
    intro hu
    have := (ho.lt _ hu).2
    omega
section
variable {P : Program} {ops : Array Oper} {Q : Exit → Act → World → Prop}
/-- One that makes memory; behind it a condition of one's own, which may speak of the new world. -/
theorem plan_make_to {i : Nat} {rest : Plan} {S : World → Prop} {o : Oper} {a : Act} {w : World} (ho : ops[i]? = some o) (hw : Region.wanted o (yielded ops a.tmps) = true)
    (h : ∀ K : Act → World → Prop, Shut (∀ (T : World → Prop) a' w', (∀ W, T W → S W) → T w' → wpPlan P ops Q rest T a' w' → K a' w') → o.wp P a w K Q) : wpPlan P ops Q (.step i true rest) S a w :=
  ⟨o, ho, .inr (.inr ⟨hw, rfl, h _ (fun T _ _ hT hb hr => ⟨T, hT, hb, hr⟩)⟩)⟩
end

/-- A row of the call's own, one place of it set. -/
theorem own_set {α : Type} {f : α → Value} {w : World} {base : Nat} {e : TypeId} {v : Value} {l : List α} {q : Nat} (h : w.ownsRow base e 1 v l.length (l.map f)) (hq : q < l.length) :
    ∃ g cap, v = .slice (some ⟨g, 0, none⟩) l.length cap ∧ base ≤ g ∧ g < w.heap.size ∧ l.length ≤ cap ∧ w.cell? ⟨g, q, none⟩ = some (f l[q]) ∧ w.frozen? ⟨g, q, none⟩ = false ∧ ∀ z : α, Rd f (w.setCell ⟨g, q, none⟩ (f z)) (some ⟨g, 0, none⟩) (l.set q z) := by
  rcases h.2 with ⟨rfl, h0⟩ | ⟨g, cap, cur, rfl, hg, hgg, hc, hm, hs, ht⟩
  · omega
  · have hR : Row w g e cur.toList := hgg
    rw [Nat.mul_one] at ht
    have hcell : w.cell? ⟨g, q, none⟩ = some (f l[q]) := by
      rw [hR.cell? q]
      have := congrArg (·[q]?) ht
      simpa [List.getElem?_take, hq] using this
    refine ⟨g, cap, rfl, hg, hR.lt, hc, hcell, hR.frozen _, fun z => ?_⟩
    refine Row.rd_at (hR.setCell q (f z)) ?_
    rw [List.drop_zero, List.length_set, List.take_set, ht, List.map_set]
end Go.Proofs.YtfalghmgibnjdaaDoor
/-
  What the program's calls head, sum, sumAt, stands, rowSize and Whole of layer 18 answer, over the landed code. Condition: the package's table holds the sixty-four constants, where sums are made.
-/
namespace Go.Proofs.YtfalghmgibnjdaaDoor
set_option maxRecDepth 100000
open Go.RowKit
set_option linter.unusedSimpArgs false
set_option linter.unusedVariables false

/-- A slip's check. -/
def fS [Inhabited Tab] (b : List UInt8) : List UInt8 := (sumL b).take 4
theorem sumL_len32 [Inhabited Tab] (b : List UInt8) : (sumL b).length = 32 := rfl
theorem fS_length [Inhabited Tab] (b : List UInt8) : (fS b).length = 4 := by unfold fS; rw [List.length_take, sumL_len32]; rfl
/-- A call that hands back n bytes. -/
def RetLn (n : Nat) (w : World) (l : List UInt8) (e : Ending) (w' : World) : Prop := ∃ A cap, e = .returned (.slice A n cap) ∧ n ≤ cap ∧ Rd vB w' A l ∧ Below w.heap.size w w'

theorem put_low (n : Nat) (h : n ≤ 60000) : (putL n).drop 6 = [UInt8.ofNat (n / 256), UInt8.ofNat (n % 256)] := by
  have e : (putL n).drop 6 = [UInt8.ofNat (n / 256 ^ 1), UInt8.ofNat (n / 256 ^ 0)] := rfl
  rw [e, Nat.pow_one, Nat.pow_zero, Nat.div_one]
  congr 2
  apply UInt8.toNat_inj.1
  rw [UInt8.toNat_ofNat', UInt8.toNat_ofNat']
  omega

theorem head18_any (t : List UInt8) (n : Nat) (w : World) (HN : Hid (t.length = n)) (hn : n ≤ 60000) : Calls Tryd.prog 15 #[.int .i64 (n : Int)] w (RetLn 2 w (hdS t)) := by
  have h1 : IntKind.u64.wrap (n : Int) = (n : Int) := by rw [IntKind.wrap_u64]; omega
  have HP : Hid ((putL n).drop 6 = hdS t) := by unfold Hid hdS; rw [HN.out]; exact put_low n hn
  have H8 : Hid ((putL n).length = 8) := rfl
  go_enter Tryd.func15, Tryd.ntmps15
  go_wp2_with fail
  refine (put_any n (by omega) _).mono ?_
  rintro e' w2 ⟨A, c, rfl, hc, hr, hb⟩
  rw [H8.out] at hc ⊢
  obtain ⟨A1, hcut0, hrd⟩ := cut_from (P := Tryd.prog) 22 5 Tryd.underlying22 size_uint8 A 8 c 6 (by omega) hc
  have hcut : ∀ W, (Instr.slice 22 (.slice A 8 c) (some (.int .i64 6)) none none).run Tryd.prog W = .ok (.slice A1 2 (c - 6)) W := hcut0
  have hr1 := hrd vB w2 _ H8.out hr
  rw [HP.out] at hr1
  clear hcut0 hrd hr
  go_wp2_with fail
  go_ret
  exact ⟨A1, c - 6, rfl, by omega, hr1, hb⟩

theorem sum18_any [Inhabited Tab] (b : List UInt8) (n : Nat) (A : Option Addr) (c : Nat) (w : World) (HN : Hid (b.length = n)) (hr : Rd vB w A b) (hc : n ≤ c) (hl : n ≤ 1000000000) (HK : Hid (KTab w)) :
    Calls Tryd.prog 16 #[.slice A n c] w (RetLn 4 w (fS b)) := by
  have e := HN.out
  subst e
  have H32 : Hid ((sumL b).length = 32) := sumL_len32 b
  have HF : Hid ((sumL b).take 4 = fS b) := rfl
  go_enter Tryd.func16, Tryd.ntmps16
  go_wp2_with fail
  refine (sum_any b A c w hr hc (by omega) HK).mono ?_
  rintro e' w2 ⟨A2, c2, rfl, hc2, hr2, hb⟩
  rw [H32.out] at hc2 ⊢
  have hcut : ∀ W, (Instr.slice 22 (.slice A2 32 c2) none (some (.int .i64 4)) none).run Tryd.prog W = .ok (.slice A2 4 c2) W := fun W => run_cut_to (P := Tryd.prog) 22 5 Tryd.underlying22 size_uint8 A2 32 c2 4 (by omega) W
  have hr4 := hr2.take 4
  rw [HF.out] at hr4
  clear hr2
  go_wp2_with fail
  go_ret
  exact ⟨A2, c2, rfl, by omega, hr4, hb⟩

theorem sumat_any (b : List UInt8) (n cn : Nat) (A : Option Addr) (c : Nat) (w : World) (HN : Hid (b.length = n)) (HC : Hid (cntS b = cn)) (hr : Rd vB w A b) (h2 : 2 ≤ n) :
    Calls Tryd.prog 25 #[.slice A n c] w fun e w' => e = .returned (.int .i64 ((2 + cn : Nat) : Int)) ∧ Below w.heap.size w w' := by
  have hlen := HN.out
  obtain ⟨blk, o, rfl, hblk, hcell⟩ := hr.at (k := 0) (by omega)
  have hc0 := hcell 0 (by omega)
  have hc1 := hcell 1 (by omega)
  have hcn : cn = 256 * (b[0]'(by omega)).toNat + (b[1]'(by omega)).toNat := by
    rw [← HC.out]
    unfold cntS
    rw [List.getD_eq_getElem?_getD, List.getElem?_eq_getElem (by omega), List.getD_eq_getElem?_getD, List.getElem?_eq_getElem (by omega)]
    rfl
  rw [Nat.add_zero] at hc0
  unfold vB at hc0 hc1
  have hx := b[0].toNat_lt
  have hy := b[1].toNat_lt
  generalize b[0].toNat = x at hc0 hcn hx
  generalize b[1].toNat = y at hc1 hcn hy
  have i1 : 0 < n := by omega
  have i2 : (1 : Int) < (n : Int) := by omega
  have i3 : 1 < n := by omega
  have HE : Hid (2 + (x : Int) * 256 + (y : Int) = ((2 + cn : Nat) : Int)) := by unfold Hid; omega
  have hc0' : ∀ W, Below w.heap.size w W → W.cell? ⟨blk, o, none⟩ = some (.int .u8 (x : Int)) := fun W hW => (hW.cell (p := ⟨blk, o, none⟩) hblk).trans hc0
  have hc1' : ∀ W, Below w.heap.size w W → W.cell? ⟨blk, o + 1, none⟩ = some (.int .u8 (y : Int)) := fun W hW => (hW.cell (p := ⟨blk, o + 1, none⟩) hblk).trans hc1
  clear hcell hr hcn hlen
  go_enter Tryd.func25, Tryd.ntmps25
  go_wp2_with fail
  have hBase : Below w.heap.size w w.drew := (Below.refl _ _).drew
  refine wp_region_plan (.step 0 false (.step 1 false (.step 2 false (.step 3 false (.step 4 false (.step 5 false (.step 6 false (.step 7 false (.step 8 false (.step 9 false (.step 10 false (.step 11 false (.nil))))))))))))) (by kernel_rfl) (by kernel_rfl) (by rfl) (by kernel_rfl) ?_
  iterate 12 (refine plan_read rfl (by rfl) (v := ?_) ?_ ?_; rotate_left 1; (intro W hW; have hW0 := below_step hBase hW; (try dsimp only at hW); go_simp <;> with_reducible rfl); simp only [List.getElem_toArray, List.getElem_cons_zero, List.getElem_cons_succ, Act.put, List.setIfInBounds_toArray, List.set_cons_zero, List.set_cons_succ])
  have w1 : IntKind.i64.wrap (x : Int) = (x : Int) := by rw [IntKind.wrap_i64]; omega
  have w2 : IntKind.i64.wrap ((x : Int) * 256) = (x : Int) * 256 := by rw [IntKind.wrap_i64]; omega
  have w3 : IntKind.i64.wrap (2 + (x : Int) * 256) = 2 + (x : Int) * 256 := by rw [IntKind.wrap_i64]; omega
  have w4 : IntKind.i64.wrap (y : Int) = (y : Int) := by rw [IntKind.wrap_i64]; omega
  have w5 : IntKind.i64.wrap (2 + (x : Int) * 256 + (y : Int)) = 2 + (x : Int) * 256 + (y : Int) := by rw [IntKind.wrap_i64]; omega
  have e : IntKind.i64.wrap (IntKind.i64.wrap (2 + IntKind.i64.wrap (IntKind.i64.wrap (x : Int) * 256)) + IntKind.i64.wrap (y : Int)) = ((2 + cn : Nat) : Int) := by
    rw [w1, w2, w3, w4, w5]
    exact HE.out
  clear w1 w2 w3 w4 w5
  rw [e]
  clear e
  refine plan_done ?_
  go_wp2_with fail
  go_ret
  exact ⟨rfl, hBase⟩

/-! ### stands -/
theorem stands_any [Inhabited Tab] (b : List UInt8) (n : Nat) (A : Option Addr) (c : Nat) (w : World) (HN : Hid (b.length = n)) (hr : Rd vB w A b) (hc : n ≤ c) (hn : n ≤ 1000000000) (HK : Hid (KTab w)) :
    Calls Tryd.prog 24 #[.slice A n c] w fun e w' => e = .returned (.bool (goodS fS b)) ∧ Below w.heap.size w w' := by
  have HG : Hid (goodS fS b = _) := good_way (f := fS) b
  have hcl := cnt_lt b
  obtain ⟨G, hG⟩ : ∃ G, goodS fS b = G := ⟨_, rfl⟩
  obtain ⟨cn, hcn⟩ : ∃ cn, cntS b = cn := ⟨_, rfl⟩
  have HCN := Lib.hid hcn
  unfold Hid at HG
  rw [hG, hcn, HN.out] at HG
  rw [hG]
  rw [hcn] at hcl
  clear hG hcn
  by_cases h2 : 2 ≤ n
  · have i1 : ¬ (n : Int) < 2 := by omega
    rw [decide_eq_true h2, Bool.true_and] at HG
    have HSA := Lib.hid (sumat_any b n cn A c w HN HCN hr h2)
    by_cases h6 : cn ≤ 60000
    · rw [decide_eq_true h6, Bool.true_and] at HG
      have i2 : ¬ (60002 : Int) < ((2 + cn : Nat) : Int) := by omega
      by_cases h4 : 6 + cn ≤ n
      · rw [decide_eq_true h4, Bool.true_and] at HG
        obtain ⟨E, hE⟩ : ∃ E, 2 + cn = E := ⟨_, rfl⟩
        have HE := Lib.hid hE
        rw [hE] at HG i2
        unfold Hid at HSA
        rw [hE] at HSA
        replace HSA := Lib.hid HSA
        have i3 : ¬ (n : Int) < (E : Int) + 4 := by omega
        have hT : Rd vB w A (b.take E) := hr.take E
        have HTL : Hid ((b.take E).length = E) := by unfold Hid; rw [List.length_take, HN.out]; omega
        obtain ⟨A2, hA2⟩ : ∃ A2, (if c = E then A else A.map (·.add (E * 1))) = A2 := ⟨_, rfl⟩
        have hD : Rd vB w A2 ((b.drop E).take 4) := by rw [← hA2]; exact (hr.drop E c (by rw [HN.out]; exact hc)).take 4
        have HDL : Hid (((b.drop E).take 4).length = 4) := by unfold Hid; rw [List.length_take, List.length_drop, HN.out]; omega
        have hc1 : ∀ W, (Instr.slice 22 (.slice A n c) none (some (.int .i64 (E : Int))) none).run Tryd.prog W = .ok (.slice A E c) W := fun W => run_cut_to (P := Tryd.prog) 22 5 Tryd.underlying22 size_uint8 A n c E (by omega) W
        have hc2 : ∀ W, (Instr.slice 22 (.slice A n c) (some (.int .i64 (E : Int))) (some (.int .i64 ((E : Int) + 4))) none).run Tryd.prog W = .ok (.slice A2 4 (c - E)) W := fun W => by
          have he : Tryd.prog.elem 22 = 5 := by simp [Program.elem, Tryd.underlying22]
          rw [run_slice_lh W 22 A n c (by rw [he]; exact Tryd.underlying22) .i64 .i64 (E : Int) ((E : Int) + 4) (by omega) (by omega) (by omega), he, size_uint8]
          simp only [Result.andThen, sliced, Int.toNat_natCast]
          rw [show ((E : Int) + 4).toNat - E = 4 by omega, hA2]
        have hw4 : IntKind.i64.wrap ((E : Int) + 4) = (E : Int) + 4 := by rw [IntKind.wrap_i64]; omega
        generalize b.take E = T at hT HTL HG
        generalize (b.drop E).take 4 = D at hD HDL HG
        have HGG := Lib.hid HG
        have HFL : Hid ((fS T).length = 4) := fS_length T
        clear HG hA2 hcl h2 h6 h4 hE hr
        go_enter Tryd.func24, Tryd.ntmps24
        go_wp2_with fail
        refine HSA.out.mono ?_
        rintro e w1 ⟨rfl, hb1⟩
        replace hT := hT.keep hb1
        replace hD := hD.keep hb1
        have HK1 := Lib.hid (HK.out.keep hb1)
        go_wp2_with fail
        have hBase : Below w1.heap.size w1 w1.drew := (Below.refl _ _).drew
        refine wp_region_plan (.step 0 false (.step 1 false (.step 2 false (.step 4 false (.step 5 false (.step 6 false (.step 7 false (.step 8 false (.step 3 true (.step 9 true (.step 10 false (.nil)))))))))))) (by kernel_rfl) (by kernel_rfl) (by rfl) (by kernel_rfl) ?_
        iterate 8 (refine plan_read rfl (by rfl) (v := ?_) ?_ ?_; rotate_left 1; (intro W hW; have hW0 := below_step hBase hW; (try dsimp only at hW); go_simp <;> with_reducible rfl); simp only [List.getElem_toArray, List.getElem_cons_zero, List.getElem_cons_succ, Act.put, List.setIfInBounds_toArray, List.set_cons_zero, List.set_cons_succ])
        (refine plan_make rfl (by rfl) (fun K hK => ?_); go_simp; (refine (sum18_any T E _ _ _ HTL (hT.keep hBase) (by omega) (by omega) (Lib.hid (HK1.out.keep hBase))).mono ?_; rintro e w2 ⟨A3, c3, rfl, hc3, hr3, hbx⟩); refine hK.out _ _ hbx ?_; clear hK K; replace hBase := below_step hBase hbx)
        generalize fS T = X at hr3 HGG HFL
        (refine plan_make rfl (by rfl) (fun K hK => ?_); go_simp; (refine (equal_any X D 4 4 _ _ _ _ _ HFL HDL hr3 (hD.keep hBase)).mono ?_; rintro e w3 ⟨rfl, rfl⟩; have hbx := Below.refl w2.heap.size w2); refine hK.out _ _ hbx ?_; clear hK K; replace hBase := below_step hBase hbx)
        rw [← HGG.out]
        iterate 1 (refine plan_read rfl (by rfl) (v := ?_) ?_ ?_; rotate_left 1; (intro W hW; have hW0 := below_step hBase hW; (try dsimp only at hW); go_simp <;> with_reducible rfl); simp only [List.getElem_toArray, List.getElem_cons_zero, List.getElem_cons_succ, Act.put, List.setIfInBounds_toArray, List.set_cons_zero, List.set_cons_succ])
        refine plan_done ?_
        go_wp2_with fail
        go_ret
        exact ⟨rfl, below_step hb1 hBase⟩
      · have i3 : (n : Int) < ((2 + cn : Nat) : Int) + 4 := by omega
        have hGf : G = false := by rw [HG, decide_eq_false h4, Bool.false_and]
        subst hGf
        generalize ((2 + cn : Nat) : Int) = E at i2 i3 HSA
        clear HG hcl h2 h6 h4
        go_enter Tryd.func24, Tryd.ntmps24
        go_wp2_with fail
        refine HSA.out.mono ?_
        rintro e w1 ⟨rfl, hb1⟩
        go_wp2_with fail
        go_ret
        exact ⟨rfl, hb1⟩
    · have i2 : (60002 : Int) < ((2 + cn : Nat) : Int) := by omega
      have hGf : G = false := by rw [HG, decide_eq_false h6, Bool.false_and]
      subst hGf
      generalize ((2 + cn : Nat) : Int) = E at i2 HSA
      clear HG hcl h2 h6
      go_enter Tryd.func24, Tryd.ntmps24
      go_wp2_with fail
      refine HSA.out.mono ?_
      rintro e w1 ⟨rfl, hb1⟩
      go_wp2_with fail
      go_ret
      exact ⟨rfl, hb1⟩
  · have i1 : (n : Int) < 2 := by omega
    have hGf : G = false := by rw [HG, decide_eq_false h2, Bool.false_and]
    subst hGf
    clear HG hcl
    go_enter Tryd.func24, Tryd.ntmps24
    go_wp2_with fail
    go_ret
    exact ⟨rfl, Below.refl _ _⟩
end Go.Proofs.YtfalghmgibnjdaaDoor
/-
  append of what reads as a list onto a row of the call's own: the row's block behind it is the one it was, or a new one; blocks known whole stay (no program is named here). No conditions but those typed.
-/
namespace Go.Proofs.YtfalghmgibnjdaaDoor
set_option maxRecDepth 100000
open Go.RowKit

theorem Row.grown {w w' : World} {g : Nat} {t : TypeId} {l : List Value} {row : Option Nat} (h : Row w g t l) (hg : w.grownBy w' row) (hn : row ≠ some g) : Row w' g t l :=
  (hg.block g h.lt (fun e => hn e.symm)).trans h
/-- Apart from a block that was there. -/
theorem apart_of {w : World} {v v' : Value} {g : Nat} (h : v.ownBlock ≠ some g) (hg : g < w.heap.size) (hat : v'.ownBlock = v.ownBlock ∨ v'.ownBlock = some w.heap.size) : v'.ownBlock ≠ some g := by
  rcases hat with e | e
  · rw [e]; exact h
  · rw [e]
    intro h
    injection h with h
    omega
section
variable {P : Program} (w : World)
theorem run_append_apart {α : Type} {f : α → Value} (base : Nat) (t ty e : TypeId) (i : TypeInfo) (z : Value) (bytes : Nat) (ht : P.underlying t = some (.slice e)) (hi : P.info? e = some i) (hz : i.zero = some z)
    (hsize : i.size = 1) (hby : i.bytes = bytes) (hzs : z.cells.size = 1) (v : Value) (n : Nat) (xs : List Value) (hown : w.ownsRow base e 1 v n xs)
    (A : Option Addr) (l : List α) (c : Nat) (hr : Rd f w A l) (h1 : ∀ x, (f x).oneCell' = true)
    (h63 : n + l.length ≤ maxLen) (hbytes : (n + l.length) * bytes ≤ 140737488355328) (hbase : base ≤ w.heap.size) :
    ∃ v' w', (Builtin.append_ #[t, t] ty #[v, .slice A l.length c]).run P w = .ok v' w' ∧ w'.ownsRow base e 1 v' (n + l.length) (xs ++ l.map f) ∧ w.grownBy w' v.ownBlock ∧ (v'.ownBlock = v.ownBlock ∨ v'.ownBlock = some w.heap.size) := by
  have hone : ∀ u ∈ l.map f, u.oneCell' = true := by
    intro u hu
    simp only [List.mem_map] at hu
    obtain ⟨x, _, rfl⟩ := hu
    exact h1 x
  by_cases hl : l = []
  · subst hl
    cases A with
    | none => exact ⟨v, w, run_append_nothing_of w base t ty e i ht hi v n xs hown c, by simpa using hown, ⟨rfl, rfl, rfl, Nat.le_refl _, fun _ _ _ => rfl⟩, .inl rfl⟩
    | some ad =>
      obtain ⟨v', w', hrun, h2, h3, _, h4⟩ := run_append_own_at (P := P) w base t ty e i z 1 bytes ht hi hz hsize hby hzs (by omega) v n xs hown ad 0 c [] rfl (fun j u h => by simp at h) (fun u h => by simp at h) h63 hbytes hbase
      exact ⟨v', w', hrun, h2, h3, h4⟩
  · obtain ⟨b, o, rfl, _⟩ := hr hl
    obtain ⟨v', w', hrun, h2, h3, _, h4⟩ := run_append_own_at (P := P) w base t ty e i z 1 bytes ht hi hz hsize hby hzs (by omega) v n xs hown ⟨b, o, none⟩ l.length c (l.map f) (by simp) hr.news hone h63 hbytes hbase
    exact ⟨v', w', hrun, h2, h3, h4⟩

theorem wp_append_apart {α : Type} {f : α → Value} {o : Oper} {a : Act} {K : Act → World → Prop} {Q : Exit → Act → World → Prop} (s x : Operand) (t : TypeId)
    (ho : o.op = .call { callee := .builtin .append, args := #[s, x], argTypes := #[t, t] })
    (base : Nat) (e : TypeId) (i : TypeInfo) (z : Value) (bytes : Nat) (ht : P.underlying t = some (.slice e)) (hi : P.info? e = some i) (hz : i.zero = some z)
    (hsize : i.size = 1) (hby : i.bytes = bytes) (hzs : z.cells.size = 1) (v : Value) (n : Nat) (xs : List Value) (hs : a.eval s = v) (hown : w.ownsRow base e 1 v n xs)
    (A : Option Addr) (l : List α) (c : Nat) (hx : a.eval x = .slice A l.length c) (hr : Rd f w A l) (h1 : ∀ x, (f x).oneCell' = true)
    (h63 : n + l.length ≤ maxLen) (hbytes : (n + l.length) * bytes ≤ 140737488355328) (hbase : base ≤ w.heap.size)
    (h : ∀ v' w', w'.ownsRow base e 1 v' (n + l.length) (xs ++ l.map f) → w.grownBy w' v.ownBlock → (v'.ownBlock = v.ownBlock ∨ v'.ownBlock = some w.heap.size) → K (a.put o.dst v') w') : o.wp P a w K Q := by
  obtain ⟨v', w', hr, h2, h3, h4⟩ := run_append_apart (P := P) w base t o.type e i z bytes ht hi hz hsize hby hzs v n xs hown A l c hr h1 h63 hbytes hbase
  unfold Oper.wp execOp
  simp only [ho, resolve, invoke, builtin, Sem.run_bind, Sem.run_pure, Result.andThen_ok, List.map_toArray, List.map_cons, List.map_nil, hs, hx, hr]
  exact h v' w' h2 h3 h4

theorem wpList_append_apart {α : Type} {f : α → Value} {ops : Array Oper} {rest : List Oper} {o : Oper} {a : Act} {Q : Exit → Act → World → Prop} (hgd : o.guard = none) (s x : Operand) (t : TypeId)
    (ho : o.op = .call { callee := .builtin .append, args := #[s, x], argTypes := #[t, t] })
    (base : Nat) (e : TypeId) (i : TypeInfo) (z : Value) (bytes : Nat) (ht : P.underlying t = some (.slice e)) (hi : P.info? e = some i) (hz : i.zero = some z)
    (hsize : i.size = 1) (hby : i.bytes = bytes) (hzs : z.cells.size = 1) (v : Value) (n : Nat) (xs : List Value) (hs : a.eval s = v) (hown : w.ownsRow base e 1 v n xs)
    (A : Option Addr) (l : List α) (c : Nat) (hx : a.eval x = .slice A l.length c) (hr : Rd f w A l) (h1 : ∀ x, (f x).oneCell' = true)
    (h63 : n + l.length ≤ maxLen) (hbytes : (n + l.length) * bytes ≤ 140737488355328) (hbase : base ≤ w.heap.size)
    (h : ∀ v' w', w'.ownsRow base e 1 v' (n + l.length) (xs ++ l.map f) → w.grownBy w' v.ownBlock → (v'.ownBlock = v.ownBlock ∨ v'.ownBlock = some w.heap.size) → wpList P ops Q rest (a.put o.dst v') w') : wpList P ops Q (o :: rest) a w :=
  wpList_plain hgd fun _ hK => wp_append_apart w s x t ho base e i z bytes ht hi hz hsize hby hzs v n xs hs hown A l c hx hr h1 h63 hbytes hbase fun v' w' h2 h3 h4 => hK _ _ (h v' w' h2 h3 h4)
end
end Go.Proofs.YtfalghmgibnjdaaDoor
/-
  What the program's calls rowSize, Whole, texts, Row and Put of layer 18 answer, over the landed code. Condition: the package's table holds the sixty-four constants.
-/
namespace Go.Proofs.YtfalghmgibnjdaaDoor
set_option maxRecDepth 100000
open Go.RowKit
set_option linter.unusedSimpArgs false
set_option linter.unusedVariables false

/-! ### rowSize, Whole -/
def SizeR [Inhabited Tab] (b : List UInt8) (w : World) (i : Value) (wr : World) : Prop :=
  ∃ k : Nat, i = .int .i64 (k : Int) ∧ k + (rowSl fS (b.drop k)).2 = (rowSl fS b).2 ∧ Below w.heap.size w wr
theorem rowsize_any [Inhabited Tab] (b : List UInt8) (n : Nat) (A : Option Addr) (c : Nat) (w : World) (HN : Hid (b.length = n)) (hr : Rd vB w A b) (hc : n ≤ c) (hn : n ≤ 1000000000) (HK : Hid (KTab w)) :
    Calls Tryd.prog 18 #[.slice A n c] w fun e w' => e = .returned (.int .i64 ((rowSl fS b).2 : Int)) ∧ Below w.heap.size w w' := by
  have HLE : Hid ((rowSl fS b).2 ≤ n) := by have := row_le (f := fS) b; rw [HN.out] at this; exact this
  go_enter Tryd.func18, Tryd.ntmps18
  go_wp2_with fail
  go_loopw [3] (fun i wr => SizeR b w i wr) (fun i _ => n - (intOf i).toNat)
  case atStart => exact ⟨0, rfl, by rw [Nat.zero_add]; rfl, Below.refl _ _⟩
  case round =>
    obtain ⟨k, rfl, hk, hB⟩ := hrel
    have hkn : k ≤ n := by have := HLE.out; omega
    obtain ⟨A2, hcut, hrd⟩ := cut_from (P := Tryd.prog) 22 5 Tryd.underlying22 size_uint8 A n c k hkn hc
    have hr2 := (hrd vB w b HN.out hr).keep hB
    obtain ⟨d, hd⟩ : ∃ d, b.drop k = d := ⟨_, rfl⟩
    have HD : Hid (d.length = n - k) := by unfold Hid; rw [← hd, List.length_drop, HN.out]
    have HDD := Lib.hid hd
    rw [hd] at hk hr2
    have HST := Lib.hid (stands_any d (n - k) A2 (c - k) wr HD hr2 (by omega) (by omega) (Lib.hid (HK.out.keep hB)))
    have HR2 := Lib.hid hr2
    cases hG : goodS fS d with
    | true =>
      have hst := rowS_good hG
      obtain ⟨g1, g2, g3, g4⟩ := good_parts hG
      rw [HD.out] at g1 g3
      rw [hst] at hk
      obtain ⟨q, hq⟩ : ∃ q, cntS d = q := ⟨_, rfl⟩
      rw [hq] at hk g2 g3
      have HQ := Lib.hid hq
      rw [hG] at HST
      have HNX : Hid (∀ w1, Below w.heap.size w w1 → SizeR b w (.int .i64 ((k : Int) + (((2 + q : Nat) : Int) + 4))) w1) := fun w1 hw1 => by
        refine ⟨k + (6 + q), by go_num, ?_, hw1⟩
        rw [← hk, ← List.drop_drop, HDD.out, Nat.add_assoc]
      clear hk hst hG hd hrd g4 hr2 hr hq
      go_wp2_with fail
      refine HST.out.mono ?_
      rintro e w1 ⟨rfl, hb1⟩
      have hr3 := HR2.out.keep hb1
      replace hB := below_step hB hb1
      go_wp2_with fail
      refine (sumat_any d (n - k) q A2 (c - k) _ HD HQ hr3 (by omega)).mono ?_
      rintro e w2 ⟨rfl, hb2⟩
      replace hB := below_step hB hb2
      have HX := Lib.hid (HNX.out _ hB)
      have HM : Hid (n - (k + (6 + q)) < n - k) := by unfold Hid; omega
      clear HNX hr3 hB hb1 hb2
      go_wp2_with fail
      go_roundw
      case rel => exact HX.out
      case measure => have := HM.out; simp [intOf]; omega
    | false =>
      rw [rowS_bad hG, Nat.add_zero] at hk
      subst hk
      rw [hG] at HST
      clear hG hd hrd hr2 hr
      go_wp2_with fail
      refine HST.out.mono ?_
      rintro e w1 ⟨rfl, hb1⟩
      replace hB := below_step hB hb1
      go_wp2_with fail
      go_ret
      exact ⟨rfl, hB⟩

theorem whole_any [Inhabited Tab] (b : List UInt8) (n : Nat) (A : Option Addr) (c : Nat) (w : World) (HN : Hid (b.length = n)) (hr : Rd vB w A b) (hc : n ≤ c) (hn : n ≤ 1000000000) (HK : Hid (KTab w)) :
    Calls Tryd.prog 13 #[.slice A n c] w fun e w' => e = .returned (.bool (decide ((rowSl fS b).2 = n))) ∧ Below w.heap.size w w' := by
  obtain ⟨k, hk⟩ : ∃ k, (rowSl fS b).2 = k := ⟨_, rfl⟩
  have HZ := Lib.hid (rowsize_any b n A c w HN hr hc hn HK)
  rw [hk] at HZ ⊢
  have hE : Hid (((k : Int) == (n : Int)) = decide (k = n)) := by
    unfold Hid
    rw [Bool.eq_iff_iff, beq_iff_eq, decide_eq_true_iff]
    omega
  rw [← hE.out]
  clear hk hr HK
  go_enter Tryd.func13, Tryd.ntmps13
  go_wp2_with fail
  refine HZ.out.mono ?_
  rintro e w1 ⟨rfl, hb1⟩
  go_wp2_with fail
  go_ret
  exact ⟨rfl, hb1⟩

/-! ### texts -/
theorem info_sl18 : (Tryd.prog.info? 22).map (fun i => (i.zero, i.size, i.bytes)) = some (some (.slice none 0 0), 1, 24) := by kernel_rfl
theorem cell_one18 (w : World) (v : Value) (e : TypeId) (j : Nat) (u : Value) (h : [v][j]? = some u) : (w.alloc (.cells #[v] e)).cell? ((⟨w.heap.size, 0, none⟩ : Addr).add j) = some u := cells_new w #[v] e j u h
/-- Texts behind a row of slices of the call's own. -/
def TxIn (w : World) (base : Nat) (v : Value) (ts : List (List UInt8)) : Prop :=
  ∃ ps : List Part, w.ownsRow base 22 1 v ps.length (ps.map vPart) ∧ ps.map (·.l) = ts ∧ ∀ p ∈ ps, Rd vB w p.A p.l
/-- A call that hands back texts, of its own but for their bytes. -/
def RetTx (w : World) (ts : List (List UInt8)) (e : Ending) (w' : World) : Prop := ∃ v, e = .returned v ∧ TxIn w' w.heap.size v ts ∧ Below w.heap.size w w'
def TextsR [Inhabited Tab] (b : List UInt8) (n : Nat) (A0 : Option Addr) (w : World) (s l : Value) (wr : World) : Prop :=
  ∃ (k : Nat) (d : List UInt8) (ps : List Part) (A : Option Addr) (c : Nat), s = .slice A (n - k) c ∧ k ≤ n ∧ n - k ≤ c ∧ Hid (d = b.drop k) ∧ Hid (∀ W, Rd vB W A0 b → Rd vB W A d) ∧ Hid (ps.map (·.l) ++ (rowSl fS d).1 = (rowSl fS b).1) ∧ Hid ((rowSl fS d).2 = d.length) ∧
    ps.length ≤ k ∧ Hid (∀ p ∈ ps, ∀ W, Rd vB W A0 b → Rd vB W p.A p.l) ∧ wr.ownsRow w.heap.size 22 1 l ps.length (ps.map vPart) ∧ Below w.heap.size w wr
set_option maxHeartbeats 1000000 in
theorem texts_any [Inhabited Tab] (b : List UInt8) (n : Nat) (A : Option Addr) (c : Nat) (w : World) (HN : Hid (b.length = n)) (hr : Rd vB w A b) (hc : n ≤ c) (hn : n ≤ 1000000000) (HW : Hid ((rowSl fS b).2 = n)) :
    Calls Tryd.prog 19 #[.slice A n c] w (RetTx w (rowSl fS b).1) := by
  obtain ⟨i0, hi, hz0, hz1, hz2⟩ := info_parts info_sl18
  go_enter Tryd.func19, Tryd.ntmps19
  go_wp2_with fail
  go_loopw [0, 3] (fun s l wr => TextsR b n A w s l wr) (fun s _ _ => sliceLen s)
  case atStart => exact ⟨0, b, [], A, c, rfl, Nat.zero_le _, hc, rfl, fun _ h => h, rfl, by unfold Hid; rw [HW.out, HN.out], Nat.le_refl _, (fun p hp => by cases hp), World.ownsRow_nil _ _ _ _, Below.refl _ _⟩
  case round =>
    clear hc
    obtain ⟨k, d, ps, A1, c1, rfl, hk, hc1, HDK, HA, HT, HWd, hpk, HP, hown, hB⟩ := hrel
    have HDL : Hid (d.length = n - k) := by unfold Hid; rw [HDK.out, List.length_drop, HN.out]
    by_cases hkn : k < n
    · have hG : goodS fS d = true := whole_good HWd.out (by rw [HDL.out]; omega)
      have hst := rowS_good hG
      obtain ⟨g1, g2, g3, g4⟩ := good_parts hG
      rw [HDL.out] at g1 g3
      obtain ⟨q, hq⟩ : ∃ q, cntS d = q := ⟨_, rfl⟩
      have HQ := Lib.hid hq
      rw [hq] at hst g2 g3
      obtain ⟨d2, hd2⟩ : ∃ d2, d.drop (6 + q) = d2 := ⟨_, rfl⟩
      rw [hd2] at hst
      obtain ⟨t, ht⟩ : ∃ t, textS d = t := ⟨_, rfl⟩
      rw [ht] at hst
      have HTL : Hid (t.length = q) := by unfold Hid; rw [← ht, ← hq]; exact text_length (by rw [hq, HDL.out]; exact g3)
      obtain ⟨E, hE⟩ : ∃ E, 2 + q = E := ⟨_, rfl⟩
      have HE := Lib.hid hE
      have hgt : (0 : Int) < ((n - k : Nat) : Int) := by omega
      have HW4 : Hid (wrap64 ((E : Int) + 4) = (E : Int) + 4) := by unfold Hid wrap64; omega
      obtain ⟨A2, hA2⟩ : ∃ A2, (if E = 2 then A1 else A1.map (·.add (2 * 1))) = A2 := ⟨_, rfl⟩
      have hs1 : ∀ W, (Instr.slice 22 (.slice A1 (n - k) c1) (some (.int .i64 2)) (some (.int .i64 (E : Int))) (some (.int .i64 (E : Int)))).run Tryd.prog W = .ok (.slice A2 q q) W := fun W => by
        have he : Tryd.prog.elem 22 = 5 := by simp [Program.elem, Tryd.underlying22]
        rw [run_slice_lhm W 22 A1 (n - k) c1 (by rw [he]; exact Tryd.underlying22) .i64 .i64 .i64 2 (E : Int) (E : Int) (by omega) (by omega) (by omega) (by omega), he, size_uint8]
        simp only [Result.andThen, sliced, Int.toNat_natCast]
        have e2 : (2 : Int).toNat = 2 := rfl
        rw [e2, hA2, show E - 2 = q by omega]
      have HA2 : Hid (∀ W, Rd vB W A b → Rd vB W A2 t) := fun W h => by
        have h1 := ((HA.out W h).take E).drop 2 E (by rw [List.length_take]; omega)
        rw [hA2] at h1
        have e : (d.take E).drop 2 = t := by
          rw [← ht, ← hE, List.drop_take]
          unfold textS
          rw [hq, show 2 + q - 2 = q by omega]
        rw [e] at h1
        exact h1
      obtain ⟨A3, hcut, hrd⟩ := cut_from (P := Tryd.prog) 22 5 Tryd.underlying22 size_uint8 A1 (n - k) c1 (6 + q) (by omega) hc1
      have hs2 : ∀ W, (Instr.slice 22 (.slice A1 (n - k) c1) (some (.int .i64 ((E : Int) + 4))) none none).run Tryd.prog W = .ok (.slice A3 (n - (k + (6 + q))) (c1 - (6 + q))) W := fun W => by
        have := hcut W
        rw [show ((6 + q : Nat) : Int) = (E : Int) + 4 by omega, show n - k - (6 + q) = n - (k + (6 + q)) by omega] at this
        exact this
      have HA3 : Hid (∀ W, Rd vB W A b → Rd vB W A3 d2) := fun W h => by rw [← hd2]; exact hrd vB W d HDL.out (HA.out W h)
      have HSA : Hid (∀ W, Rd vB W A1 d → Calls Tryd.prog 25 #[.slice A1 (n - k) c1] W fun e w' => e = .returned (.int .i64 (E : Int)) ∧ Below W.heap.size W w') := fun W h => by
        have := sumat_any d (n - k) q A1 c1 W HDL HQ h (by omega)
        rw [hE] at this
        exact this
      have hrel2 : Hid (∀ l w1, w1.ownsRow w.heap.size 22 1 l (ps.length + 1) (ps.map vPart ++ [.slice A2 q q]) → Below w.heap.size w w1 → TextsR b n A w (.slice A3 (n - (k + (6 + q))) (c1 - (6 + q))) l w1) := fun l w1 ho hb => by
        refine ⟨k + (6 + q), d2, ps ++ [⟨A2, q, t⟩], A3, c1 - (6 + q), rfl, by omega, by omega, ?_, HA3.out, ?_, ?_, ?_, ?_, ?_, hb⟩
        · unfold Hid
          rw [← hd2, HDK.out, List.drop_drop]
        · unfold Hid
          rw [List.map_append, ← HT.out, hst, List.append_assoc]
          rfl
        · have := HWd.out
          unfold Hid
          rw [hst] at this
          dsimp only at this
          rw [← hd2, List.length_drop] at *
          omega
        · rw [List.length_append]
          simp only [List.length_cons, List.length_nil]
          omega
        · intro p hp W h
          rcases List.mem_append.1 hp with hp | hp
          · exact HP.out p hp W h
          · rw [List.mem_singleton.1 hp]
            exact HA2.out W h
        · rw [List.length_append, List.map_append]
          have : [(⟨A2, q, t⟩ : Part)].map vPart = [.slice A2 q q] := by simp [vPart, HTL.out]
          rw [this]
          exact ho
      have HSZ : Hid (n - (k + (6 + q)) < n - k) := by unfold Hid; omega
      have hrw := HA.out w hr
      clear hst hG g4 hd2 ht hE hA2 hcut hrd hq
      go_wp2_with fail
      refine (HSA.out _ (hrw.keep hB)).mono ?_
      rintro e w1 ⟨rfl, hb1⟩
      replace hown := ownsRow_later hown hb1
      replace hB := below_step hB hb1
      have hbs := hB.size
      have hw4 := HW4.out
      go_wp2_with (at_builtin; refine wpList_append_own _ rfl _ _ 27 rfl w.heap.size 22 i0 (.slice none 0 0) 1 24 Tryd.underlying27 hi hz0 hz1 hz2 rfl (by decide) _ _ _ rfl (hown.alloc _) ⟨w1.heap.size, 0, none⟩ 1 1 [.slice A2 q q] rfl rfl (cell_one18 _ _ _) (by intro u hu; simp at hu; subst hu; rfl) (by unfold maxLen; omega) (by omega) (by simp; omega) ?_; intro v' w3 hown' hgrow' _)
      have HR := Lib.hid (hrel2.out _ _ hown' ((hB.alloc hB.size _).grown hgrow' (by simp; omega) (fun g hk => (hown.lt g hk).1)))
      clear hown' hgrow' hown hB hrel2 hb1
      go_roundw
      case rel => exact HR.out
      case measure => have := HSZ.out; simp [sliceLen]; omega
    · have hkk : k = n := by omega
      subst hkk
      have hd0 : d = [] := List.eq_nil_of_length_eq_zero (by rw [HDL.out]; omega)
      have hT := HT.out
      have e0 : rowSl fS ([] : List UInt8) = ([], 0) := rowS_bad (by rfl)
      rw [hd0, e0] at hT
      dsimp only at hT
      rw [List.append_nil] at hT
      have hle : ¬ (0 : Int) < ((k - k : Nat) : Int) := by omega
      have HTT := Lib.hid hT
      have HRR : Hid (∀ p ∈ ps, Rd vB wr p.A p.l) := fun p hp => HP.out p hp wr (hr.keep hB)
      clear hT e0
      go_wp2_with fail
      go_ret
      exact ⟨_, rfl, ⟨ps, hown, HTT.out, HRR.out⟩, hB⟩

/-! ### Row -/
theorem TxIn.base {w : World} {b1 b2 : Nat} {v : Value} {ts : List (List UInt8)} (h : TxIn w b1 v ts) (hb : b2 ≤ b1) : TxIn w b2 v ts := by
  obtain ⟨ps, h1, h2, h3⟩ := h
  exact ⟨ps, own_base h1 hb, h2, h3⟩
theorem TxIn.later {w w' : World} {b1 : Nat} {v : Value} {ts : List (List UInt8)} (h : TxIn w b1 v ts) (hb : Below w.heap.size w w') : TxIn w' b1 v ts := by
  obtain ⟨ps, h1, h2, h3⟩ := h
  exact ⟨ps, ownsRow_later h1 hb, h2, fun p hp => (h3 p hp).keep hb⟩
/-- A call that hands back texts and a number. -/
def RetRow (w : World) (ts : List (List UInt8)) (m : Nat) (e : Ending) (w' : World) : Prop := ∃ v, e = .returned (.tuple #[v, .int .i64 (m : Int)]) ∧ TxIn w' w.heap.size v ts ∧ Below w.heap.size w w'
theorem row18_any [Inhabited Tab] (b : List UInt8) (n : Nat) (A : Option Addr) (c : Nat) (w : World) (HN : Hid (b.length = n)) (hr : Rd vB w A b) (hc : n ≤ c) (hn : n ≤ 1000000000) (HK : Hid (KTab w)) :
    Calls Tryd.prog 9 #[.slice A n c] w (RetRow w (rowSl fS b).1 (rowSl fS b).2) := by
  obtain ⟨h1, h2⟩ := row_cut fS_length b
  have hle := row_le (f := fS) b
  rw [HN.out] at hle
  have HZ := Lib.hid (rowsize_any b n A c w HN hr hc hn HK)
  generalize (rowSl fS b).1 = ts at *
  generalize (rowSl fS b).2 = m at *
  have hr2 : Rd vB w A (b.take m) := hr.take m
  generalize b.take m = s at h1 h2 hr2
  have H1 := Lib.hid h1
  have H2 := Lib.hid h2
  have hcut : ∀ W, (Instr.slice 22 (.slice A n c) none (some (.int .i64 (m : Int))) none).run Tryd.prog W = .ok (.slice A m c) W := fun W => run_cut_to (P := Tryd.prog) 22 5 Tryd.underlying22 size_uint8 A n c m (by omega) W
  have HTX : Hid (∀ A2 c2 W, Rd vB W A2 s → m ≤ c2 → Calls Tryd.prog 19 #[.slice A2 m c2] W (RetTx W ts)) := fun A2 c2 W h3 h4 => by
    have := texts_any s m A2 c2 W H2 h3 h4 (by omega) (by unfold Hid; rw [H1.out])
    rw [H1.out] at this
    exact this
  have HCL : Hid (∀ W, Below w.heap.size w W → Calls Tryd.prog 17 #[.slice A m c] W (RetN vB W s)) := fun W hW => by
    have := clone_b s A c W (hr2.keep hW) (by rw [H2.out]; omega)
    rw [H2.out] at this
    exact this
  clear h1 h2 hr2 hr HK
  go_enter Tryd.func9, Tryd.ntmps9
  go_wp2_with fail
  refine HZ.out.mono ?_
  rintro e w1 ⟨rfl, hB⟩
  go_wp2_with fail
  refine (HCL.out _ hB).mono ?_
  rintro e w2 ⟨A2, c2, rfl, hc2, hr2, _, hb2⟩
  rw [H2.out] at hc2 ⊢
  replace hB := below_step hB hb2
  have hz := hB.size
  go_wp2_with fail
  refine (HTX.out A2 c2 _ hr2 hc2).mono ?_
  rintro e w3 ⟨v3, rfl, htx, hb3⟩
  replace hB := below_step hB hb3
  go_wp2_with fail
  go_ret2
  exact ⟨v3, rfl, htx.base hz, hB⟩

/-! ### Put -/
/-- A call that hands back bytes of its own, and an error. -/
def RetPut18 (w : World) (l : List UInt8) (k : Int) (e : Ending) (w' : World) : Prop := ∃ v, e = .returned (.tuple #[v, .int .i64 k]) ∧ w'.ownsRow w.heap.size 5 1 v l.length (l.map vB) ∧ Below w.heap.size w w'
theorem put18_long (n : Nat) (A : Option Addr) (c : Nat) (w : World) (hn : 60000 < n) (hm : n ≤ 9223372036854775807) :
    Calls Tryd.prog 8 #[.slice A n c] w (RetPut18 w [] 4) := by
  have i1 : (60000 : Int) < (n : Int) := by omega
  go_enter Tryd.func8, Tryd.ntmps8
  go_wp2_with fail
  go_ret2
  exact ⟨_, rfl, World.ownsRow_nil _ _ _ _, Below.refl _ _⟩
theorem put18_any [Inhabited Tab] (t : List UInt8) (n : Nat) (A : Option Addr) (c : Nat) (w : World) (HN : Hid (t.length = n)) (hr : Rd vB w A t) (hn : n ≤ 60000) (HK : Hid (KTab w)) :
    Calls Tryd.prog 8 #[.slice A n c] w (RetPut18 w (slipS fS t) 0) := by
  obtain ⟨i0, hi, hz0, hz1, hz2⟩ := info_parts info_u8
  have i1 : ¬ (60000 : Int) < (n : Int) := by omega
  obtain ⟨T, hT⟩ : ∃ T, hdS t ++ t = T := ⟨_, rfl⟩
  have HS : Hid (slipS fS t = T ++ fS T) := by unfold Hid slipS; rw [hT]
  have HT : Hid (T = hdS t ++ t) := hT.symm
  have H2 : Hid ((hdS t).length = 2) := rfl
  have HTL : Hid (T.length = n + 2) := by unfold Hid; rw [← hT, List.length_append, H2.out, HN.out, Nat.add_comm]
  have HHD := Lib.hid (fun W => head18_any t n W HN hn)
  have H4 : Hid ((fS T).length = 4) := fS_length T
  generalize hdS t = hd at HT H2 HHD
  clear hT
  go_enter Tryd.func8, Tryd.ntmps8
  go_wp2_with fail
  refine (HHD.out _).mono ?_
  rintro e w1 ⟨A1, c1, rfl, hc1, hr1, hB⟩
  go_wp2_with fail
  have hP : Rd vPart (w1.alloc (.cells #[.slice A1 2 c1, .slice A n c] 22)) (some ⟨w1.heap.size, 0, none⟩) [⟨A1, c1, hd⟩, ⟨A, c, t⟩] := Rd.new_at w1 _ rfl _ _ _ (by simp [vPart, H2.out, HN.out])
  have hb2 := below_new (Below.refl _ w1) (.cells #[.slice A1 2 c1, .slice A n c] 22)
  refine (concat_two_own hd t T A1 A c1 c _ _ _ HT hP (hr1.keep hb2) (hr.keep (below_step hB hb2)) (by rw [HTL.out]; omega)).mono ?_
  rintro e w3 ⟨v3, rfl, hown, hb3⟩
  replace hown := own_base hown (Nat.le_trans hB.size hb2.size)
  replace hB := below_step (below_step hB hb2) hb3
  clear hP hb2 hb3 hr1
  obtain ⟨A3, c3, rfl, hc3, hr3⟩ := own_slice hown
  rw [HTL.out] at hc3 hown ⊢
  go_wp2_with fail
  refine (sum18_any T (n + 2) A3 c3 _ HTL hr3 hc3 (by omega) (Lib.hid (HK.out.keep hB))).mono ?_
  rintro e w4 ⟨A4, c4, rfl, hc4, hr4, hb4⟩
  replace hown := ownsRow_later hown hb4
  replace hB := below_step hB hb4
  have hbs := hB.size
  clear hr3 hb4
  generalize fS T = F at hr4 H4 HS
  go_wp2_with (at_builtin; refine wpList_append_rd _ rfl (.tmp 14) (.tmp 16) 22 rfl w.heap.size 5 i0 (.int .u8 0) 1 Tryd.underlying22 hi hz0 hz1 hz2 rfl _ _ _ rfl hown A4 F c4 (by rw [H4.out]; rfl) hr4 vB_one (by rw [H4.out]; unfold maxLen; omega) (by rw [H4.out]; omega) hbs ?_; intro v5 w5 hown5 hgrow5)
  have hB5 := hB.grown hgrow5 hbs (fun g hk => (hown.lt g hk).1)
  go_ret2
  refine ⟨v5, rfl, ?_, hB5⟩
  rw [HS.out, List.length_append, List.map_append, HTL.out]
  exact hown5
end Go.Proofs.YtfalghmgibnjdaaDoor
/-
  A literal's bytes, converted to their own type: a row with a frozen mark reads as the bytes did (no program is named here). No conditions but those typed.
-/
namespace Go.Proofs.YtfalghmgibnjdaaDoor
set_option maxRecDepth 100000
open Go.RowKit

theorem Rd.new_fr {α : Type} {f : α → Value} (w : World) (g : Nat) (hg : g = w.heap.size) (l : List α) (cs : Array Value) (e : TypeId) (fr : Nat × Nat) (h : cs = (l.map f).toArray) : Rd f (w.alloc (.cells cs e fr)) (some ⟨g, 0, none⟩) l := fun _ => by
  subst hg
  refine ⟨w.heap.size, 0, rfl, fun i hi => ?_⟩
  subst h
  rw [cell_of_row _ w.heap.size (0 + i) _ e fr (heap_alloc_new w _)]
  simp [hi]
end Go.Proofs.YtfalghmgibnjdaaDoor
/-
  What the call awake of layer 18's statements answers: true. Condition: the package's table holds the sixty-four constants.
-/
namespace Go.Proofs.YtfalghmgibnjdaaDoor
set_option maxRecDepth 100000
open Go.RowKit
set_option linter.unusedSimpArgs false
set_option linter.unusedVariables false

def oneB : List UInt8 := [111, 110, 101]
theorem awake18_row [Inhabited Tab] (S1 S2 : List UInt8) (h1 : slipS fS oneB = S1) (h2 : slipS fS [] = S2) :
    S1.length = 9 ∧ S2.length = 6 ∧ rowSl fS (S1 ++ S2 ++ [0, 3, 120]) = ([oneB, []], 15) ∧ (rowSl fS (S1 ++ S2)).2 = 15 ∧ (rowSl fS ((S1 ++ S2).take 14)).2 = 9 ∧ S1[1]? = some 3 := by
  subst h1 h2
  have l1 : (slipS fS oneB).length = 9 := slip_length fS_length oneB
  have l2 : (slipS fS ([] : List UInt8)).length = 6 := slip_length fS_length []
  have hm : mayS [oneB, []] := fun t ht => by
    simp only [List.mem_cons, List.not_mem_nil, or_false] at ht
    rcases ht with rfl | rfl
    · decide
    · decide
  have hm1 : mayS [oneB] := fun t ht => by
    simp only [List.mem_cons, List.not_mem_nil, or_false] at ht
    subst ht
    decide
  have e2 : slipS fS oneB ++ slipS fS [] = flatS fS [oneB, []] := by
    rw [flatS_cons, flatS_cons]
    show _ = _ ++ (_ ++ [])
    rw [List.append_nil]
  have e1 : slipS fS oneB = flatS fS [oneB] := by
    rw [flatS_cons]
    show _ = _ ++ []
    rw [List.append_nil]
  have lf : (flatS fS [oneB, []]).length = 15 := by rw [← e2, List.length_append, l1, l2]
  have lf1 : (flatS fS [oneB]).length = 9 := by rw [← e1, l1]
  refine ⟨l1, l2, ?_, ?_, ?_, rfl⟩
  · have e0 : rowSl fS ([0, 3, 120] : List UInt8) = ([], 0) := rowS_bad (by rfl)
    rw [e2, row_flat fS_length _ _ hm, e0, lf]
    rfl
  · rw [e2, row_all fS_length _ hm, lf]
  · have : (slipS fS oneB ++ slipS fS []).take 14 = flatS fS [oneB] ++ (slipS fS []).take 5 := by
      rw [← e1, List.take_append, l1, List.take_of_length_le (by rw [l1]; omega)]
    rw [this, row_flat fS_length _ _ hm1, row_torn fS_length [] 5 (by decide) (by rw [l2]; omega), lf1]
    rfl

set_option maxRecDepth 100000 in
set_option maxHeartbeats 2000000 in
theorem awake18_any [Inhabited Tab] (w : World) (HK : Hid (KTab w)) : Calls Tryd.prog 7 #[] w fun e w' => e = .returned (.bool true) ∧ Below w.heap.size w w' := by
  obtain ⟨i0, hi, hz0, hz1, hz2⟩ := info_parts info_u8
  obtain ⟨S1, hS1⟩ : ∃ S1, slipS fS oneB = S1 := ⟨_, rfl⟩
  obtain ⟨S2, hS2⟩ : ∃ S2, slipS fS ([] : List UInt8) = S2 := ⟨_, rfl⟩
  obtain ⟨l1, l2, r1, r2, r3, r4⟩ := awake18_row S1 S2 hS1 hS2
  have HS1 := Lib.hid hS1
  have HS2 := Lib.hid hS2
  have HL1 := Lib.hid l1
  have HL2 := Lib.hid l2
  have HR1 := Lib.hid r1
  have HR2 := Lib.hid r2
  have HR3 := Lib.hid r3
  have HR4 := Lib.hid r4
  clear hS1 hS2 l1 l2 r1 r2 r3 r4
  have hcv := Lib.run_convert_bytes_const (P := Tryd.prog) w 22 5 #[.int .u8 111, .int .u8 110, .int .u8 101] 3 3 Tryd.underlying22 Tryd.underlying5
  have hb0 := below_new (Below.refl _ w) (.cells #[.int .u8 111, .int .u8 110, .int .u8 101] 5 (3, 4))
  have hr0 : Rd vB (w.alloc (.cells #[.int .u8 111, .int .u8 110, .int .u8 101] 5 (3, 4))) (some ⟨w.heap.size, 0, none⟩) oneB := Rd.new_fr w _ rfl _ _ _ _ rfl
  go_enter Tryd.func7, Tryd.ntmps7
  go_wp2_with fail
  refine (put18_any oneB 3 _ _ _ rfl hr0 (by omega) (Lib.hid (HK.out.keep hb0))).mono ?_
  rintro e w1 ⟨v1, rfl, hown1, hb1⟩
  rw [HS1.out] at hown1
  obtain ⟨A1, c1, rfl, hc1, hr1⟩ := own_slice hown1
  rw [HL1.out] at hc1 ⊢
  have hB1 := below_step hb0 hb1
  clear hb0 hb1 hr0 hcv hown1
  go_wp2_with fail
  refine (put18_any [] 0 none 0 w1 rfl Rd.nil (by omega) (Lib.hid (HK.out.keep hB1))).mono ?_
  rintro e w2 ⟨v2, rfl, hown2, hb2⟩
  rw [HS2.out] at hown2
  obtain ⟨A2, c2, rfl, hc2, hr2⟩ := own_slice hown2
  rw [HL2.out] at hc2 ⊢
  replace hr1 := hr1.keep hb2
  have hB2 := below_step hB1 hb2
  clear hb2 hB1 hown2
  have hown3 : (w2.alloc (.cells #[] 5)).ownsRow w2.heap.size 5 1 (.slice (some ⟨w2.heap.size, 0, none⟩) 0 0) 0 [] := World.ownsRow_made w2 #[] 0 (Nat.le_refl _) (by unfold maxLen; omega) rfl
  have hb3 := below_new (Below.refl _ w2) (.cells #[] 5)
  have hz3 := hb3.size
  go_upto_region 4 with (first
    | (at_builtin; refine wpList_append_rd _ rfl (.tmp 18) (.tmp 19) 22 rfl w2.heap.size 5 i0 (.int .u8 0) 1 Tryd.underlying22 hi hz0 hz1 hz2 rfl _ _ _ rfl hown3 A1 S1 c1 (by rw [HL1.out]; rfl) (hr1.keep hb3) vB_one (by rw [HL1.out]; unfold maxLen; omega) (by rw [HL1.out]; omega) hz3 ?_; intro v4 w4 hown4 hgrow4; have hb4 := hb3.grown hgrow4 hz3 (fun g hk => (hown3.lt g hk).1); have hz4 := hb4.size; rw [HL1.out] at hown4)
    | (at_builtin; refine wpList_append_rd _ rfl (.tmp 20) (.tmp 21) 22 rfl w2.heap.size 5 i0 (.int .u8 0) 1 Tryd.underlying22 hi hz0 hz1 hz2 rfl _ _ _ rfl hown4 A2 S2 c2 (by rw [HL2.out]; rfl) (hr2.keep hb4) vB_one (by rw [HL2.out]; unfold maxLen; omega) (by rw [HL2.out]; omega) hz4 ?_; intro v5 w5 hown5 hgrow5; have hb5 := hb4.grown hgrow5 hz4 (fun g hk => (hown4.lt g hk).1)))
  have hB5 := below_step hB2 hb5
  have hr15 := hr1.keep hb5
  obtain ⟨T, hT⟩ : ∃ T, S1 ++ S2 = T := ⟨_, rfl⟩
  have HTL : Hid (T.length = 15) := by unfold Hid; rw [← hT, List.length_append, HL1.out, HL2.out]
  have hown6 : w5.ownsRow w2.heap.size 5 1 v5 T.length (T.map vB) := by
    rw [HTL.out, ← hT, List.map_append]
    rw [HL2.out] at hown5
    exact hown5
  obtain ⟨A5, c5, rfl, hc5, hr5⟩ := own_slice hown6
  unfold Hid at HR1 HR2 HR3
  rw [hT] at HR1 HR2 HR3
  rw [HTL.out] at hc5 ⊢
  have HU1 := Lib.hid HR1
  have HU2 := Lib.hid HR2
  have HU3 := Lib.hid HR3
  clear hT HR1 HR2 HR3 hown3 hown4 hown5 hown6 hgrow4 hgrow5 hb3 hb4 hb5 hz3 hz4 hr1 hr2 hB2
  have hown7 : (w5.alloc (.cells #[] 5)).ownsRow w5.heap.size 5 1 (.slice (some ⟨w5.heap.size, 0, none⟩) 0 0) 0 [] := World.ownsRow_made w5 #[] 0 (Nat.le_refl _) (by unfold maxLen; omega) rfl
  have hb7 := below_new (Below.refl _ w5) (.cells #[] 5)
  have hz7 := hb7.size
  go_wp2_with (first
    | (at_builtin; refine wpList_append_rd _ rfl (.tmp 24) (.tmp 25) 22 rfl w5.heap.size 5 i0 (.int .u8 0) 1 Tryd.underlying22 hi hz0 hz1 hz2 rfl _ _ _ rfl hown7 A5 T c5 (by rw [HTL.out]; rfl) (hr5.keep hb7) vB_one (by rw [HTL.out]; unfold maxLen; omega) (by rw [HTL.out]; omega) hz7 ?_; intro v8 w8 hown8 hgrow8; have hb8 := hb7.grown hgrow8 hz7 (fun g hk => (hown7.lt g hk).1); rw [HTL.out] at hown8; have hown9 := ownsRow_later hown8 (below_new (Below.refl _ w8) (.cells #[.int .u8 0, .int .u8 3, .int .u8 120] 5)); have hb9 := below_new hb8 (.cells #[.int .u8 0, .int .u8 3, .int .u8 120] 5); have hz9 := hb9.size; have hr9 : Rd vB (w8.alloc (.cells #[.int .u8 0, .int .u8 3, .int .u8 120] 5)) (some ⟨w8.heap.size, 0, none⟩) [0, 3, 120] := Rd.new_at w8 _ rfl _ _ _ rfl)
    | (at_builtin; refine wpList_append_rd _ rfl (.tmp 26) (.tmp 27) 22 rfl w5.heap.size 5 i0 (.int .u8 0) 1 Tryd.underlying22 hi hz0 hz1 hz2 rfl _ _ _ rfl hown9 (some ⟨w8.heap.size, 0, none⟩) [0, 3, 120] 3 rfl hr9 vB_one (by show 15 + 3 ≤ maxLen; unfold maxLen; omega) (by show (15 + 3) * 1 ≤ 140737488355328; omega) hz9 ?_; intro v10 w10 hown10 hgrow10; have hb10 := hb9.grown hgrow10 hz9 (fun g hk => (hown9.lt g hk).1); obtain ⟨U, hU⟩ : ∃ U, T ++ [0, 3, 120] = U := ⟨_, rfl⟩; have HUL : Hid (U.length = 18) := (by unfold Hid; rw [← hU, List.length_append, HTL.out]; rfl); have hown11 : w10.ownsRow w5.heap.size 5 1 v10 U.length (U.map vB) := (by rw [HUL.out, ← hU, List.map_append]; exact hown10); obtain ⟨A10, c10, hv10, hc10, hr10⟩ := own_slice hown11; subst hv10; rw [HUL.out] at hc10 ⊢; rw [hU] at HU1))
  have hB10 := below_step hB5 hb10
  replace hr15 := hr15.keep hb10
  replace hr5 := hr5.keep hb10
  clear hown7 hown8 hown9 hown10 hown11 hgrow8 hgrow10 hb7 hb8 hb9 hb10 hz7 hz9 hr9 hU hB5
  refine (row18_any U 18 A10 c10 _ HUL hr10 hc10 (by omega) (Lib.hid (HK.out.keep hB10))).mono ?_
  rintro e w11 ⟨v11, rfl, htx, hb11⟩
  rw [HU1.out] at htx ⊢
  have hB11 := below_step hB10 hb11
  replace hr15 := hr15.keep hb11
  replace hr5 := hr5.keep hb11
  clear hB10 hb11 hr10
  obtain ⟨ps, ho, hps, hpr⟩ := htx
  have hp2 : ps.length = 2 := by have := congrArg List.length hps; simpa using this
  obtain ⟨p0, p1, rfl⟩ : ∃ p0 p1, ps = [p0, p1] := by
    match ps, hp2 with
    | [p0, p1], _ => exact ⟨p0, p1, rfl⟩
  have hp0 : p0.l = oneB := by
    simp only [List.map_cons, List.map_nil, List.cons.injEq] at hps
    exact hps.1
  obtain ⟨A12, c12, rfl, hc12, hr12⟩ := own_slice ho
  have hx0 := hpr p0 (List.mem_cons_self ..)
  obtain ⟨blk, o, rfl, hblk, hcell⟩ := hr12.at (k := 0) (by simp)
  have hc0 : ∀ W, Below w11.heap.size w11 W → W.cell? ⟨blk, o, none⟩ = some (vPart p0) := fun W hW => (hW.cell (p := ⟨blk, o, none⟩) hblk).trans (hcell 0 (by simp))
  obtain ⟨pA, pc, pl⟩ := p0
  dsimp only at hp0 hx0
  subst hp0
  have hc1 : ∀ W, Below w11.heap.size w11 W → W.cell? ⟨blk, o, none⟩ = some (.slice pA 3 pc) := hc0
  have hs0 : ∀ W, Below w11.heap.size w11 W → (convert 22 9 (.slice pA 3 pc)).run Tryd.prog W = .ok (.string (strL oneB)) W := run_str_later Tryd.underlying22 Tryd.underlying5 Tryd.underlying9 hx0
  obtain ⟨b1, o1, rfl, hb1, hcell1⟩ := hr15.at (k := 0) (by rw [HL1.out]; omega)
  have hc2 : w11.cell? ⟨b1, o1 + 1, none⟩ = some (.int .u8 3) := by
    have h1 := hcell1 1 (by rw [HL1.out]; omega)
    have h2 := HR4.out
    rw [List.getElem?_eq_getElem (by rw [HL1.out]; omega)] at h2
    injection h2 with h2
    rw [h2] at h1
    exact h1
  have hc3 := hc1 w11 (Below.refl _ _)
  have hs3 := hs0 w11 (Below.refl _ _)
  have hst : (strL oneB).toList = [111, 110, 101] := strL_toList oneB
  clear hc0 hcell hcell1 hps hpr hp2 ho hr12 hc12
  have HW1 := Lib.hid (fun W hW => whole_any T 15 A5 c5 W HTL (hr5.keep hW) hc5 (by omega))
  have HW2 := Lib.hid (fun W hW => whole_any (T.take 14) 14 A5 c5 W (by unfold Hid; rw [List.length_take, HTL.out]; rfl) ((hr5.keep hW).take 14) (by omega) (by omega))
  unfold Hid at HW1 HW2
  rw [HU2.out] at HW1
  rw [HU3.out] at HW2
  replace HW1 := Lib.hid HW1
  replace HW2 := Lib.hid HW2
  go_wp2_with fail
  refine (HW1.out _ (Below.refl _ _) (Lib.hid (HK.out.keep hB11))).mono ?_
  rintro e w12 ⟨rfl, hb12⟩
  have hB12 := below_step hB11 hb12
  go_wp2_with fail
  refine (HW2.out _ hb12 (Lib.hid (HK.out.keep hB12))).mono ?_
  rintro e w13 ⟨rfl, hb13⟩
  have hB13 := below_step hB12 hb13
  go_wp2_with fail
  go_ret
  exact ⟨rfl, hB13⟩
end Go.Proofs.YtfalghmgibnjdaaDoor
/-
  What the reference's calls Put and Same of layer 18 answer. No conditions but those typed.
-/
namespace Go.Proofs.YtfalghmgibnjdaaDoor
set_option maxRecDepth 100000
open Go.RowKit
set_option linter.unusedSimpArgs false
set_option linter.unusedVariables false

set_option maxHeartbeats 1000000 in
theorem refput18_any (t : List UInt8) (n : Nat) (A : Option Addr) (c : Nat) (w : World) (HN : Hid (t.length = n)) (hr : Rd vB w A t) (hn : n ≤ 60000) :
    Calls Tryd.prog 11 #[.slice A n c] w (RetLn (n + 6) w (slipS fS t)) := by
  obtain ⟨i0, hi, hz0, hz1, hz2⟩ := info_parts info_u8
  obtain ⟨x, hx⟩ : ∃ x, n / 256 = x := ⟨_, rfl⟩
  obtain ⟨y, hy⟩ : ∃ y, n % 256 = y := ⟨_, rfl⟩
  have q1 : (n : Int) / 256 = (x : Int) := by omega
  have q2 : (n : Int).tdiv 256 = (x : Int) := by rw [Int.tdiv_eq_ediv_of_nonneg (by omega)]; exact q1
  have q3 : (x : Int) % 256 = (x : Int) := by omega
  have q4 : (n : Int) % 256 = (y : Int) := by omega
  have q5 : (n : Int).tmod 256 = (y : Int) := by rw [Int.tmod_eq_emod_of_nonneg (by omega)]; exact q4
  have q6 : (y : Int) % 256 = (y : Int) := by omega
  have q7 : IntKind.u8.wrap (x : Int) = (x : Int) := by rw [IntKind.wrap_u8']; omega
  have q8 : IntKind.u8.wrap (y : Int) = (y : Int) := by rw [IntKind.wrap_u8']; omega
  obtain ⟨T, hT⟩ : ∃ T, hdS t ++ t = T := ⟨_, rfl⟩
  have HS : Hid (slipS fS t = T ++ fS T) := by unfold Hid slipS; rw [hT]
  have HT : Hid (T.map vB = [.int .u8 (x : Int), .int .u8 (y : Int)] ++ t.map vB) := by
    unfold Hid
    rw [← hT, List.map_append]
    unfold hdS
    rw [HN.out, hx, hy]
    simp [vB]
    omega
  have HTL : Hid (T.length = n + 2) := by unfold Hid; rw [← hT, List.length_append, HN.out, Nat.add_comm]; rfl
  have h4 : (fS T).length = 4 := fS_length T
  have h32 : (sumL T).length = 32 := sumL_len32 T
  have hF : (sumL T).take 4 = fS T := rfl
  have hSR : ∀ A3 c3 w1, Rd vB w1 A3 T → Calls Tryd.prog 20 #[.slice A3 (n + 2) c3] w1 (RetS vB w1 (sumL T)) := fun A3 c3 w1 hr3 => by
    have := sum_ref T A3 c3 w1 hr3 (by rw [HTL.out]; omega)
    rw [HTL.out] at this
    exact this
  generalize sumL T = S at h32 hF hSR
  generalize fS T = F at h4 hF HS
  have H4 := Lib.hid h4
  have H32 := Lib.hid h32
  have HF := Lib.hid hF
  have HSR := Lib.hid hSR
  clear h4 h32 hF hSR
  have hown0 : (w.alloc (.cells #[.int .u8 (x : Int), .int .u8 (y : Int)] 5)).ownsRow w.heap.size 5 1 (.slice (some ⟨w.heap.size, 0, none⟩) 2 2) 2 [.int .u8 (x : Int), .int .u8 (y : Int)] := World.ownsRow_lit w #[.int .u8 (x : Int), .int .u8 (y : Int)] 2 (Nat.le_refl _) (by unfold maxLen; omega) rfl
  have hb0 := below_new (Below.refl _ w) (.cells #[.int .u8 (x : Int), .int .u8 (y : Int)] 5)
  clear hT hx hy
  go_enter Tryd.func11, Tryd.ntmps11
  go_wp2_with (at_builtin; refine wpList_append_rd _ rfl (.tmp 12) (.tmp 13) 22 rfl w.heap.size 5 i0 (.int .u8 0) 1 Tryd.underlying22 hi hz0 hz1 hz2 rfl _ _ _ rfl hown0 A t c (by rw [HN.out]; rfl) (hr.keep hb0) vB_one (by rw [HN.out]; unfold maxLen; omega) (by rw [HN.out]; omega) (by simp) ?_; intro v1 w1 hown1 hgrow1)
  have hB1 := hb0.grown hgrow1 (by simp) (fun g hk => (hown0.lt g hk).1)
  have hown2 : w1.ownsRow w.heap.size 5 1 v1 T.length (T.map vB) := by rw [HTL.out, HT.out, Nat.add_comm n 2]; rw [HN.out] at hown1; exact hown1
  obtain ⟨A3, c3, rfl, hc3, hr3⟩ := own_slice hown2
  rw [HTL.out] at hc3 hown2 ⊢
  clear hown1 hgrow1 hown0 hb0
  go_wp2_with fail
  refine (HSR.out _ _ _ hr3).mono ?_
  rintro e w4 ⟨A4, c4, rfl, hc4, hr4, hb4⟩
  rw [H32.out] at hc4 ⊢
  have hcut : ∀ W, (Instr.slice 22 (.slice A4 32 c4) none (some (.int .i64 4)) none).run Tryd.prog W = .ok (.slice A4 4 c4) W := fun W => run_cut_to (P := Tryd.prog) 22 5 Tryd.underlying22 size_uint8 A4 32 c4 4 (by omega) W
  have hr5 := hr4.take 4
  rw [HF.out] at hr5
  replace hown2 := ownsRow_later hown2 hb4
  have hB := below_step hB1 hb4
  have hbs := hB.size
  clear hr4 hr3 hb4
  go_wp2_with (at_builtin; refine wpList_append_rd _ rfl (.tmp 15) (.tmp 18) 22 rfl w.heap.size 5 i0 (.int .u8 0) 1 Tryd.underlying22 hi hz0 hz1 hz2 rfl _ _ _ rfl hown2 A4 F c4 (by rw [H4.out]; rfl) hr5 vB_one (by rw [H4.out]; unfold maxLen; omega) (by rw [H4.out]; omega) hbs ?_; intro v5 w5 hown5 hgrow5)
  have hB5 := hB.grown hgrow5 hbs (fun g hk => (hown2.lt g hk).1)
  have HL6 : Hid ((slipS fS t).length = n + 6) := by unfold Hid; rw [HS.out, List.length_append, HTL.out, H4.out]
  have hown6 : w5.ownsRow w.heap.size 5 1 v5 (slipS fS t).length ((slipS fS t).map vB) := by
    rw [HL6.out, HS.out, List.map_append]
    rw [H4.out] at hown5
    exact hown5
  obtain ⟨A6, c6, rfl, hc6, hr6⟩ := own_slice hown6
  rw [HL6.out] at hc6 ⊢
  go_ret
  exact ⟨A6, c6, rfl, hc6, hr6, hB5⟩

/-! ### Same -/
def sameTx (a b : List (List UInt8)) : Bool := decide (a = b)
def SameR (ps qs : List Part) (w : World) (i : Value) (wr : World) : Prop :=
  ∃ k : Nat, k ≤ ps.length ∧ i = .int .i64 (k : Int) ∧ Hid ((ps.take k).map (·.l) = (qs.take k).map (·.l)) ∧ Below w.heap.size w wr
set_option maxHeartbeats 1000000 in
theorem refsame18_any (ps qs : List Part) (n m : Nat) (A B : Option Addr) (c d : Nat) (w : World) (HN : Hid (ps.length = n)) (HM : Hid (qs.length = m)) (hp : Rd vPart w A ps) (hq : Rd vPart w B qs) (hpr : ∀ p ∈ ps, Rd vB w p.A p.l) (hqr : ∀ p ∈ qs, Rd vB w p.A p.l) (hn : n ≤ 1000000000) (hm : m ≤ 1000000000) :
    Calls Tryd.prog 12 #[.slice A n c, .slice B m d] w fun e w' => e = .returned (.bool (decide (ps.map (·.l) = qs.map (·.l)))) ∧ Below w.heap.size w w' := by
  by_cases hnm : n = m
  · subst hnm
    have i1 : ((n : Int) != (n : Int)) = false := by simp
    have HPR := Lib.hid hpr
    have HQR := Lib.hid hqr
    clear hpr hqr
    go_enter Tryd.func12, Tryd.ntmps12
    go_wp2_with fail
    go_loopw [5] (fun i wr => SameR ps qs w i wr) (fun i _ => n - (intOf i).toNat)
    case atStart => exact ⟨0, Nat.zero_le _, rfl, rfl, Below.refl _ _⟩
    case round =>
      obtain ⟨k, hk, rfl, HE, hB⟩ := hrel
      rw [HN.out] at hk
      by_cases hlt : k < n
      · obtain ⟨b1, o1, rfl, hb1, hcell1⟩ := hp.at (show k < ps.length by rw [HN.out]; exact hlt)
        obtain ⟨b2, o2, rfl, hb2, hcell2⟩ := hq.at (show k < qs.length by rw [HM.out]; exact hlt)
        have hc1 : ∀ W, Below w.heap.size w W → W.cell? ⟨b1, o1 + k, none⟩ = some (vPart (ps[k]'(by rw [HN.out]; exact hlt))) := fun W hW => (hW.cell (p := ⟨b1, o1 + k, none⟩) hb1).trans (hcell1 k _)
        have hc2 : ∀ W, Below w.heap.size w W → W.cell? ⟨b2, o2 + k, none⟩ = some (vPart (qs[k]'(by rw [HM.out]; exact hlt))) := fun W hW => (hW.cell (p := ⟨b2, o2 + k, none⟩) hb2).trans (hcell2 k _)
        have hx1 := HPR.out (ps[k]'(by rw [HN.out]; exact hlt)) (List.getElem_mem _)
        have hx2 := HQR.out (qs[k]'(by rw [HM.out]; exact hlt)) (List.getElem_mem _)
        have hE1 : ps.take (k + 1) = ps.take k ++ [ps[k]'(by rw [HN.out]; exact hlt)] := List.take_succ_eq_append_getElem _
        have hE2 : qs.take (k + 1) = qs.take k ++ [qs[k]'(by rw [HM.out]; exact hlt)] := List.take_succ_eq_append_getElem _
        have hF1 : ps[k]? = some (ps[k]'(by rw [HN.out]; exact hlt)) := List.getElem?_eq_getElem _
        have hF2 : qs[k]? = some (qs[k]'(by rw [HM.out]; exact hlt)) := List.getElem?_eq_getElem _
        generalize ps[k]'(by rw [HN.out]; exact hlt) = p at hc1 hx1 hE1 hF1
        generalize qs[k]'(by rw [HM.out]; exact hlt) = q at hc2 hx2 hE2 hF2
        obtain ⟨pA, pc, pl⟩ := p
        obtain ⟨qA, qc, ql⟩ := q
        unfold vPart at hc1 hc2
        dsimp only at hc1 hc2 hx1 hx2
        have HE1 := Lib.hid hE1
        have HE2 := Lib.hid hE2
        have HF1 := Lib.hid hF1
        have HF2 := Lib.hid hF2
        have i2 : (0 : Int) ≤ (k : Int) := by omega
        have i3 : (k : Int) < (n : Int) := by omega
        have hs1 : ∀ W, Below w.heap.size w W → (convert 22 9 (.slice pA pl.length pc)).run Tryd.prog W = .ok (.string (strL pl)) W := run_str_later Tryd.underlying22 Tryd.underlying5 Tryd.underlying9 hx1
        have hs2 : ∀ W, Below w.heap.size w W → (convert 22 9 (.slice qA ql.length qc)).run Tryd.prog W = .ok (.string (strL ql)) W := run_str_later Tryd.underlying22 Tryd.underlying5 Tryd.underlying9 hx2
        clear hcell1 hcell2 hE1 hE2 hF1 hF2 hx1 hx2
        have he := str_beq pl ql
        have hBase : Below w.heap.size w wr.drew := hB.drew
        by_cases hpq : pl = ql
        · rw [decide_eq_true hpq] at he
          have HNX : Hid (SameR ps qs w (.int .i64 ((k : Int) + 1)) wr.drew) := by
            refine ⟨k + 1, by rw [HN.out]; omega, by go_num, ?_, hBase⟩
            unfold Hid
            rw [HE1.out, HE2.out, List.map_append, List.map_append, HE.out, List.map_cons, List.map_cons, hpq]
          generalize strL pl = SA at hs1 he
          generalize strL ql = SB at hs2 he
          clear hpq
          go_wp2_with fail
          refine wp_region_plan_of (fun W => Below w.heap.size w W) (.step 0 false (.step 1 false (.step 2 false (.step 3 false (.step 4 false (.step 5 false (.step 6 false (.step 7 false (.step 8 false (.step 9 false (.step 10 false (.nil)))))))))))) hBase (by kernel_rfl) (by kernel_rfl) (by rfl) (by kernel_rfl) ?_
          iterate 11 (refine plan_read rfl (by rfl) (v := ?_) ?_ ?_; rotate_left 1; (intro W hW; go_simp <;> with_reducible rfl); simp only [List.getElem_toArray, List.getElem_cons_zero, List.getElem_cons_succ, Act.put, List.setIfInBounds_toArray, List.set_cons_zero, List.set_cons_succ])
          refine plan_done ?_
          clear hs1 hs2 hc1 hc2 he
          go_wp2_with fail
          go_roundw
          case rel => exact HNX.out
          case measure => simp [intOf]; omega
        · rw [decide_eq_false hpq] at he
          have HNE : Hid (decide (ps.map (·.l) = qs.map (·.l)) = false) := by
            unfold Hid
            rw [decide_eq_false_iff_not]
            intro h
            have h2 := congrArg (·[k]?) h
            simp only [List.getElem?_map, HF1.out, HF2.out, Option.map_some, Option.some.injEq] at h2
            exact hpq h2
          generalize strL pl = SA at hs1 he
          generalize strL ql = SB at hs2 he
          clear hpq
          go_wp2_with fail
          refine wp_region_plan_of (fun W => Below w.heap.size w W) (.step 0 false (.step 1 false (.step 2 false (.step 3 false (.step 4 false (.step 5 false (.step 6 false (.step 7 false (.step 8 false (.step 9 false (.step 10 false (.nil)))))))))))) hBase (by kernel_rfl) (by kernel_rfl) (by rfl) (by kernel_rfl) ?_
          iterate 11 (refine plan_read rfl (by rfl) (v := ?_) ?_ ?_; rotate_left 1; (intro W hW; go_simp <;> with_reducible rfl); simp only [List.getElem_toArray, List.getElem_cons_zero, List.getElem_cons_succ, Act.put, List.setIfInBounds_toArray, List.set_cons_zero, List.set_cons_succ])
          refine plan_done ?_
          clear hs1 hs2 hc1 hc2 he
          go_wp2_with fail
          go_ret
          exact ⟨by rw [HNE.out]; rfl, hBase⟩
      · have hkn : k = n := by omega
        subst hkn
        have hEQ := HE.out
        rw [List.take_of_length_le (by rw [HN.out]; exact Nat.le_refl _), List.take_of_length_le (by rw [HM.out]; exact Nat.le_refl _)] at hEQ
        have HEQ := Lib.hid hEQ
        have i3 : ¬ (k : Int) < (k : Int) := by omega
        clear hEQ
        go_wp2_with fail
        go_ret
        exact ⟨by rw [decide_eq_true HEQ.out]; rfl, hB⟩
  · have i1 : ((n : Int) != (m : Int)) = true := bne_iff_ne.2 (by omega)
    have hne : decide (ps.map (·.l) = qs.map (·.l)) = false := by
      rw [decide_eq_false_iff_not]
      intro h
      have := congrArg List.length h
      rw [List.length_map, List.length_map, HN.out, HM.out] at this
      exact hnm this
    rw [hne]
    clear hne
    go_enter Tryd.func12, Tryd.ntmps12
    go_wp2_with fail
    go_ret
    exact ⟨rfl, Below.refl _ _⟩
end Go.Proofs.YtfalghmgibnjdaaDoor
/-
  What the reference's call Row of layer 18 answers. No conditions but those typed.
-/
namespace Go.Proofs.YtfalghmgibnjdaaDoor
set_option maxRecDepth 100000
open Go.RowKit
set_option linter.unusedSimpArgs false
set_option linter.unusedVariables false

/-- Texts in memory of their own, behind a row of slices of the call's own that lies apart. -/
structure TxO (w : World) (base : Nat) (v : Value) (ps : List Part) : Prop where
  own : w.ownsRow base 22 1 v ps.length (ps.map vPart)
  rows : ∀ p ∈ ps, Rd vB w p.A p.l
  ne : ∀ p ∈ ps, ∀ a, p.A = some a → v.ownBlock ≠ some a.block ∧ a.block < w.heap.size
theorem TxO.later {w w' : World} {base : Nat} {v : Value} {ps : List Part} (h : TxO w base v ps) (hb : Below w.heap.size w w') : TxO w' base v ps :=
  ⟨ownsRow_later h.own hb, fun p hp => (h.rows p hp).keep hb, fun p hp a ha => ⟨(h.ne p hp a ha).1, Nat.lt_of_lt_of_le (h.ne p hp a ha).2 hb.size⟩⟩
theorem TxO.txin {w : World} {base : Nat} {v : Value} {ps : List Part} (h : TxO w base v ps) : TxIn w base v (ps.map (·.l)) := ⟨ps, h.own, rfl, h.rows⟩
/-- One more, that lies apart. -/
theorem TxO.more {w w' : World} {base : Nat} {v v' : Value} {ps : List Part} {p : Part} (h : TxO w base v ps) (hr : Rd vB w p.A p.l) (hne : ∀ a, p.A = some a → v.ownBlock ≠ some a.block ∧ a.block < w.heap.size)
    (ho : w'.ownsRow base 22 1 v' (ps.length + 1) (ps.map vPart ++ [vPart p])) (hg : w.grownBy w' v.ownBlock) (hat : v'.ownBlock = v.ownBlock ∨ v'.ownBlock = some w.heap.size) : TxO w' base v' (ps ++ [p]) := by
  have hsz : w.heap.size ≤ w'.heap.size := by obtain ⟨_, _, _, h4, _⟩ := hg; exact h4
  have hn : ∀ a : Addr, v.ownBlock ≠ some a.block ∧ a.block < w.heap.size → v'.ownBlock ≠ some a.block ∧ a.block < w'.heap.size := fun a ⟨h1, h2⟩ => ⟨apart_of h1 h2 hat, by omega⟩
  refine ⟨by rw [List.length_append, List.map_append]; exact ho, fun q hq => ?_, fun q hq a ha => ?_⟩
  · rcases List.mem_append.1 hq with hq | hq
    · exact (h.rows q hq).grown hg (fun a ha => (h.ne q hq a ha).1)
    · rw [List.mem_singleton.1 hq]
      exact hr.grown hg (fun a ha => (hne a ha).1)
  · rcases List.mem_append.1 hq with hq | hq
    · exact hn a (h.ne q hq a ha)
    · rw [List.mem_singleton.1 hq] at ha
      exact hn a (hne a ha)
theorem own_apart {α : Type} {f : α → Value} {w : World} {base : Nat} {e : TypeId} {v : Value} {l : List α} (h : w.ownsRow base e 1 v l.length (l.map f)) : ∃ A cap, v = .slice A l.length cap ∧ l.length ≤ cap ∧ Rd f w A l ∧ ∀ a, A = some a → base ≤ a.block ∧ a.block < w.heap.size := by
  rcases h.2 with ⟨rfl, h0⟩ | ⟨g, cap, cur, rfl, hg, hb, hc, _⟩
  · have hl : l = [] := List.eq_nil_of_length_eq_zero h0
    subst hl
    exact ⟨none, 0, rfl, Nat.le_refl _, Rd.nil, fun a h => by cases h⟩
  · refine ⟨_, cap, rfl, hc, Rd.own h, fun a ha => ?_⟩
    injection ha with ha
    subst ha
    exact ⟨hg, (Array.getElem?_eq_some_iff.1 hb).1⟩

theorem Rd.part {α : Type} {f : α → Value} {w : World} {g o : Nat} {l : List α} (h : Rd f w (some ⟨g, o, none⟩) l) (k m : Nat) : Rd f w (some ⟨g, o + k, none⟩) ((l.drop k).take m) := by
  have := (h.drop k (l.length + k + 1) (by omega)).take m
  rw [if_neg (by omega)] at this
  have e : (some (⟨g, o, none⟩ : Addr)).map (·.add (k * 1)) = some ⟨g, o + k, none⟩ := by
    by_cases h0 : k = 0
    · subst h0; rfl
    · simp [Addr.add, h0]
  rw [e] at this
  exact this

theorem vPart_one (p : Part) : (vPart p).oneCell' = true := rfl
def RefRowR (b : List UInt8) (n : Nat) (w : World) (v i : Value) (wr : World) : Prop :=
  ∃ (k : Nat) (ps : List Part), i = .int .i64 (k : Int) ∧ k ≤ n ∧ ps.length ≤ k ∧ Hid (ps.map (·.l) ++ (rowSl fS (b.drop k)).1 = (rowSl fS b).1) ∧ Hid (k + (rowSl fS (b.drop k)).2 = (rowSl fS b).2) ∧ TxO wr w.heap.size v ps ∧ Below w.heap.size w wr
set_option maxHeartbeats 2000000 in
theorem refrow18_any (b : List UInt8) (n : Nat) (A : Option Addr) (c : Nat) (w : World) (HN : Hid (b.length = n)) (hr : Rd vB w A b) (hc : n ≤ c) (hn : n ≤ 1000000) :
    Calls Tryd.prog 10 #[.slice A n c] w (RetRow w (rowSl fS b).1 (rowSl fS b).2) := by
  obtain ⟨i0, hi, hz0, hz1, hz2⟩ := info_parts info_u8
  obtain ⟨s0, si, sz0, sz1, sz2⟩ := info_parts info_sl18
  go_enter Tryd.func10, Tryd.ntmps10
  go_wp2_with fail
  go_loopw [4, 5] (fun v i wr => RefRowR b n w v i wr) (fun _ i _ => n - (intOf i).toNat)
  case atStart => exact ⟨0, [], rfl, Nat.zero_le _, Nat.le_refl _, rfl, by unfold Hid; rw [Nat.zero_add]; rfl, ⟨World.ownsRow_nil _ _ _ _, (fun p hp => by cases hp), (fun p hp => by cases hp)⟩, Below.refl _ _⟩
  case round =>
    obtain ⟨k, ps, rfl, hk, hpk, HT, HS, hO, hB⟩ := hrel
    obtain ⟨d, hd⟩ : ∃ d, b.drop k = d := ⟨_, rfl⟩
    have HD := Lib.hid hd
    have HDL : Hid (d.length = n - k) := by unfold Hid; rw [← hd, List.length_drop, HN.out]
    unfold Hid at HT HS
    rw [hd] at HT HS
    have HOUT : Hid (goodS fS d = false → ps.map (·.l) = (rowSl fS b).1 ∧ k = (rowSl fS b).2) := fun hG => by
      rw [rowS_bad hG] at HT HS
      exact ⟨by rw [← HT, List.append_nil], HS⟩
    have HTT := Lib.hid HT
    have HSS := Lib.hid HS
    clear HT HS hd
    have w1 : wrap64 ((n : Int) - (k : Int)) = (n : Int) - (k : Int) := by unfold wrap64; omega
    by_cases h6 : 6 ≤ n - k
    · have i1 : (6 : Int) ≤ (n : Int) - (k : Int) := by omega
      obtain ⟨blk, o, rfl, hblk, hcell⟩ := hr.at (k := k) (by rw [HN.out]; omega)
      have hcx := hcell k (by rw [HN.out]; omega)
      have hcy := hcell (k + 1) (by rw [HN.out]; omega)
      obtain ⟨q, hq⟩ : ∃ q, cntS d = q := ⟨_, rfl⟩
      have HQ := Lib.hid hq
      have hcn : q = 256 * (b[k]'(by rw [HN.out]; omega)).toNat + (b[k + 1]'(by rw [HN.out]; omega)).toNat := by
        rw [← hq, ← HD.out]
        unfold cntS
        rw [List.getD_eq_getElem?_getD, List.getElem?_drop, List.getElem?_eq_getElem (by rw [HN.out]; omega), List.getD_eq_getElem?_getD, List.getElem?_drop, List.getElem?_eq_getElem (by rw [HN.out]; omega)]
        rfl
      unfold vB at hcx hcy
      have hx := (b[k]'(by rw [HN.out]; omega)).toNat_lt
      have hy := (b[k + 1]'(by rw [HN.out]; omega)).toNat_lt
      generalize (b[k]'(by rw [HN.out]; omega)).toNat = x at hcx hcn hx
      generalize (b[k + 1]'(by rw [HN.out]; omega)).toNat = y at hcy hcn hy
      have hc0 : ∀ W, Below w.heap.size w W → W.cell? ⟨blk, o + k, none⟩ = some (.int .u8 (x : Int)) := fun W hW => (hW.cell (p := ⟨blk, o + k, none⟩) hblk).trans hcx
      have hc1 : ∀ W, Below w.heap.size w W → W.cell? ⟨blk, o + (k + 1), none⟩ = some (.int .u8 (y : Int)) := fun W hW => (hW.cell (p := ⟨blk, o + (k + 1), none⟩) hblk).trans hcy
      have HCN := Lib.hid hcn
      clear hcell hcx hcy hcn hq
      have hBase : Below w.heap.size w wr.drew := hB.drew
      have j1 : (0 : Int) ≤ (k : Int) := by omega
      have j2 : k < n := by omega
      have j3 : (0 : Int) ≤ (k : Int) + 1 := by omega
      have j5 : (k : Int) + 1 < (n : Int) := by omega
      have j4 : IntKind.i64.wrap ((k : Int) + 1) = ((k + 1 : Nat) : Int) := by rw [IntKind.wrap_i64]; omega
      go_wp2_with fail
      refine wp_region_plan_of (fun W => Below w.heap.size w W) (.step 0 false (.step 1 false (.step 2 false (.step 3 false (.step 4 false (.step 5 false (.step 6 false (.step 7 false (.step 8 false (.step 9 false (.step 10 false (.step 11 false (.step 12 false (.step 13 false (.nil))))))))))))))) hBase (by kernel_rfl) (by kernel_rfl) (by rfl) (by kernel_rfl) ?_
      iterate 14 (refine plan_read rfl (by rfl) (v := ?_) ?_ ?_; rotate_left 1; (intro W hW; go_simp <;> with_reducible rfl); simp only [List.getElem_toArray, List.getElem_cons_zero, List.getElem_cons_succ, Act.put, List.setIfInBounds_toArray, List.set_cons_zero, List.set_cons_succ])
      have u1 : IntKind.i64.wrap (x : Int) = (x : Int) := by rw [IntKind.wrap_i64]; omega
      have u2 : IntKind.i64.wrap (256 * (x : Int)) = 256 * (x : Int) := by rw [IntKind.wrap_i64]; omega
      have u3 : IntKind.i64.wrap (y : Int) = (y : Int) := by rw [IntKind.wrap_i64]; omega
      have u4 : IntKind.i64.wrap (256 * (x : Int) + (y : Int)) = (q : Int) := by rw [IntKind.wrap_i64]; have := HCN.out; omega
      have e : IntKind.i64.wrap (IntKind.i64.wrap (256 * IntKind.i64.wrap (x : Int)) + IntKind.i64.wrap (y : Int)) = (q : Int) := by rw [u1, u2, u3, u4]
      rw [e]
      have hq2 : q < 65536 := by have := HCN.out; omega
      clear u1 u2 u3 u4 e hc0 hc1 hx hy
      refine plan_done ?_
      have hO2 := hO.later (Below.refl _ wr).drew
      generalize wr.drew = wd at hBase hO2 ⊢
      clear hO hB j4
      have w2 : wrap64 ((n : Int) - (k : Int) - 6) = (n : Int) - (k : Int) - 6 := by unfold wrap64; omega
      by_cases h60 : q ≤ 60000
      · have i2 : ¬ (60000 : Int) < (q : Int) := by omega
        by_cases hlen : 6 + q ≤ n - k
        · have i3 : ¬ (n : Int) - (k : Int) - 6 < (q : Int) := by omega
          have hrT : Rd vB w (some ⟨blk, o + (k + 2), none⟩) (textS d) := by
            have := hr.part (k + 2) q
            have e : (b.drop (k + 2)).take q = textS d := by
              rw [← HQ.out, ← HD.out]
              unfold textS
              rw [List.drop_drop]
            rw [e] at this
            exact this
          have hrS : Rd vB w (some ⟨blk, o + k, none⟩) (d.take (6 + q)) := by
            have := hr.part k (6 + q)
            rw [HD.out] at this
            exact this
          have HTL : Hid ((textS d).length = q) := by rw [← HQ.out]; exact text_length (by rw [HQ.out, HDL.out]; exact hlen)
          have HSL : Hid ((d.take (6 + q)).length = 6 + q) := by unfold Hid; rw [List.length_take, HDL.out]; omega
          have hgd : goodS fS d = decide (slipS fS (textS d) = d.take (6 + q)) := by
            unfold goodS
            rw [HQ.out, HDL.out, decide_eq_true h6, decide_eq_true h60, decide_eq_true hlen]
            rfl
          have HRP := Lib.hid (fun W hW => refput18_any (textS d) q (some ⟨blk, o + (k + 2), none⟩) (c - (k + 2)) W HTL hW h60)
          have HX6 : Hid ((slipS fS (textS d)).length = q + 6) := by unfold Hid; rw [slip_length fS_length, HTL.out, Nat.add_comm]
          have HGO : Hid (goodS fS d = true → (textS d) :: (rowSl fS (d.drop (6 + q))).1 = (rowSl fS d).1 ∧ 6 + q + (rowSl fS (d.drop (6 + q))).2 = (rowSl fS d).2) := fun hG => by
            have := rowS_good hG
            rw [HQ.out] at this
            rw [this]
            exact ⟨rfl, rfl⟩
          obtain ⟨G, hG⟩ : ∃ G, goodS fS d = G := ⟨_, rfl⟩
          rw [hG] at hgd HOUT HGO
          have he := str_beq (slipS fS (textS d)) (d.take (6 + q))
          rw [← hgd] at he
          generalize slipS fS (textS d) = X at HRP HX6 he
          generalize d.take (6 + q) = Y at hrS HSL he
          generalize textS d = t at hrT HTL HRP HGO
          have HRT := Lib.hid hrT
          have HRS := Lib.hid hrS
          have j7 : IntKind.i64.wrap ((k : Int) + 6) = (k : Int) + 6 := by rw [IntKind.wrap_i64]; omega
          have j8 : IntKind.i64.wrap ((k : Int) + 6 + (q : Int)) = (k : Int) + 6 + (q : Int) := by rw [IntKind.wrap_i64]; omega
          have hs2 : ∀ W, (Instr.slice 22 (.slice (some ⟨blk, o, none⟩) n c) (some (.int .i64 (k : Int))) (some (.int .i64 ((k : Int) + 6 + (q : Int)))) none).run Tryd.prog W = .ok (.slice (some ⟨blk, o + k, none⟩) (6 + q) (c - k)) W := fun W => by
            have hel : Tryd.prog.elem 22 = 5 := by simp [Program.elem, Tryd.underlying22]
            rw [run_slice_lh W 22 _ n c (by rw [hel]; exact Tryd.underlying22) .i64 .i64 (k : Int) ((k : Int) + 6 + (q : Int)) (by omega) (by omega) (by omega), hel, size_uint8]
            simp only [Result.andThen, sliced, Int.toNat_natCast]
            rw [show ((k : Int) + 6 + (q : Int)).toNat - k = 6 + q by omega, if_neg (by omega)]
            simp [Addr.add]
          clear hgd hG hrT hrS hr
          go_wp2_with fail
          have hb0 : Below wd.heap.size wd wd.drew := (Below.refl _ _).drew
          have hs3 : ∀ W, Below wd.heap.size wd W → (convert 22 9 (.slice (some ⟨blk, o + k, none⟩) (6 + q) (c - k))).run Tryd.prog W = .ok (.string (strL Y)) W := fun W hW => run_str W _ _ _ Tryd.underlying22 Tryd.underlying5 Tryd.underlying9 _ Y _ _ HSL.out (HRS.out.keep (below_step hBase hW))
          generalize strL Y = SB at hs3 he
          have hBase0 := hBase
          clear hBase
          have hBase := hb0
          clear hb0
          refine wp_region_plan (.step 0 false (.step 3 false (.step 4 false (.step 5 false (.step 6 false (.step 7 false (.step 8 false (.step 9 false (.step 10 false (.step 1 true (.step 2 false (.step 11 false (.nil))))))))))))) (by kernel_rfl) (by kernel_rfl) (by rfl) (by kernel_rfl) ?_
          iterate 9 (refine plan_read rfl (by rfl) (v := ?_) ?_ ?_; rotate_left 1; (intro W hW; have hW0 := below_step hBase hW; (try dsimp only at hW); go_simp <;> with_reducible rfl); simp only [List.getElem_toArray, List.getElem_cons_zero, List.getElem_cons_succ, Act.put, List.setIfInBounds_toArray, List.set_cons_zero, List.set_cons_succ])
          (refine plan_make rfl (by rfl) (fun K hK => ?_); go_simp; (refine (HRP.out _ (HRT.out.keep (below_step hBase0 hBase))).mono ?_; rintro e' w7 ⟨A7, c7, rfl, hc7, hr7, hbx⟩); refine hK.out _ _ hbx ?_; clear hK K; replace hBase := below_step hBase hbx)
          have hs4 : ∀ W, Below w7.heap.size w7 W → (convert 22 9 (.slice A7 (q + 6) c7)).run Tryd.prog W = .ok (.string (strL X)) W := fun W hW => run_str W _ _ _ Tryd.underlying22 Tryd.underlying5 Tryd.underlying9 _ X _ _ HX6.out (hr7.keep hW)
          generalize strL X = SA at hs4 he
          iterate 2 (refine plan_read rfl (by rfl) (v := ?_) ?_ ?_; rotate_left 1; (intro W hW; have hW0 := below_step hBase hW; (try dsimp only at hW); go_simp <;> with_reducible rfl); simp only [List.getElem_toArray, List.getElem_cons_zero, List.getElem_cons_succ, Act.put, List.setIfInBounds_toArray, List.set_cons_zero, List.set_cons_succ])
          refine plan_done ?_
          have hO3 := hO2.later hBase
          have hB3 := below_step hBase0 hBase
          clear hs4 hs3 hs2 j7 j8 hBase hBase0 hO2 hr7 hc7
          cases G with
          | false =>
            obtain ⟨e1, e2⟩ := HOUT.out rfl
            have HE1 := Lib.hid e1
            have HE2 := Lib.hid e2
            clear e1 e2
            go_wp2_with fail
            go_ret2
            exact ⟨_, by rw [← HE2.out]; rfl, by rw [← HE1.out]; exact hO3.txin, hB3⟩
          | true =>
            have HRL : Hid (∀ v9 w9 A8 c8, TxO w9 w.heap.size v9 (ps ++ [⟨A8, c8, t⟩]) → Below w.heap.size w w9 → RefRowR b n w v9 (.int .i64 ((k : Int) + 6 + (q : Int))) w9) := fun v9 w9 A8 c8 h1 h2 => by
              obtain ⟨e1, e2⟩ := HGO.out rfl
              refine ⟨k + (6 + q), ps ++ [⟨A8, c8, t⟩], by go_num, by omega, ?_, ?_, ?_, h1, h2⟩
              · rw [List.length_append]
                simp only [List.length_cons, List.length_nil]
                omega
              · unfold Hid
                rw [List.map_append, ← HTT.out, ← e1, List.append_assoc, ← HD.out, List.drop_drop]
                rfl
              · unfold Hid
                rw [← HSS.out, ← e2, ← HD.out, List.drop_drop]
                omega
            have hsz3 := hB3.size
            have hown0 : (w7.alloc (.cells #[] 5)).ownsRow w7.heap.size 5 1 (.slice (some ⟨w7.heap.size, 0, none⟩) 0 0) 0 [] := World.ownsRow_made w7 #[] 0 (Nat.le_refl _) (by unfold maxLen; omega) rfl
            have hbn := below_new (Below.refl _ w7) (.cells #[] 5)
            have hrt := HRT.out.keep (below_step hB3 hbn)
            go_wp2_with (first
              | (at_builtin; refine wpList_append_rd _ rfl (.tmp 58) (.tmp 59) 22 rfl w7.heap.size 5 i0 (.int .u8 0) 1 Tryd.underlying22 hi hz0 hz1 hz2 rfl _ _ _ rfl hown0 (some ⟨blk, o + (k + 2), none⟩) t (c - (k + 2)) (by rw [HTL.out]; rfl) hrt vB_one (by rw [HTL.out]; unfold maxLen; omega) (by rw [HTL.out]; omega) (by simp) ?_; intro v8 w8 hown8 hgrow8; have hb8 := hbn.grown hgrow8 (by simp) (fun g hk => (hown0.lt g hk).1); have hown8' : w8.ownsRow w7.heap.size 5 1 v8 t.length (t.map vB) := (by rw [Nat.zero_add] at hown8; exact hown8); clear hown8 hgrow8; obtain ⟨A8, c8, hv8, hc8, hr8, hn8⟩ := own_apart hown8'; subst hv8; rw [HTL.out] at hc8 ⊢; have hO8 := hO3.later hb8; have hO9 := hO8.later (below_new (Below.refl _ w8) (.cells #[.slice A8 q c8] 22)); have hP9 : Rd vPart (w8.alloc (.cells #[.slice A8 q c8] 22)) (some ⟨w8.heap.size, 0, none⟩) [⟨A8, c8, t⟩] := Rd.new_at w8 _ rfl _ _ _ (by simp [vPart, HTL.out]); have hB8 := below_step hB3 hb8; have hB9 := below_new hB8 (.cells #[.slice A8 q c8] 22); have hsz8 := hB9.size)
              | (at_builtin; refine wpList_append_apart _ rfl (.tmp 57) (.tmp 61) 27 rfl w.heap.size 22 s0 (.slice none 0 0) 24 Tryd.underlying27 si sz0 sz1 sz2 rfl u4 ps.length (ps.map vPart) rfl hO9.own (some ⟨w8.heap.size, 0, none⟩) [⟨A8, c8, t⟩] 1 rfl hP9 vPart_one (by show ps.length + 1 ≤ maxLen; unfold maxLen; omega) (by show (ps.length + 1) * 24 ≤ 140737488355328; omega) hsz8 ?_; intro v9 w9 hown9 hgrow9 hat9))
            have hlt3 := fun k hk => (hO3.own.lt k hk).2
            have hO10 := hO9.more (p := ⟨A8, c8, t⟩) (hr8.keep (below_new (Below.refl _ w8) _)) (fun a ha => ⟨fun h => by have := hlt3 _ h; have := (hn8 a ha).1; omega, by have := (hn8 a ha).2; simp; omega⟩) hown9 hgrow9 hat9
            have hB10 := hB9.grown hgrow9 hsz8 (fun g hk => (hO9.own.lt g hk).1)
            refine ⟨HRL.out _ _ _ _ hO10 hB10, ?_⟩
            simp [intOf]
            omega
        · have hG : goodS fS d = false := by
            cases hg : goodS fS d with
            | false => rfl
            | true => have := (good_parts hg).2.2.1; rw [HDL.out, HQ.out] at this; omega
          obtain ⟨e1, e2⟩ := HOUT.out hG
          have HE1 := Lib.hid e1
          have HE2 := Lib.hid e2
          have i3 : (n : Int) - (k : Int) - 6 < (q : Int) := by omega
          clear e1 e2 hG
          go_wp2_with fail
          go_ret2
          exact ⟨_, by rw [← HE2.out]; rfl, by rw [← HE1.out]; exact hO2.txin, hBase⟩
      · have hG : goodS fS d = false := by
          cases hg : goodS fS d with
          | false => rfl
          | true => have := (good_parts hg).2.1; rw [HQ.out] at this; omega
        obtain ⟨e1, e2⟩ := HOUT.out hG
        have HE1 := Lib.hid e1
        have HE2 := Lib.hid e2
        have i2 : (60000 : Int) < (q : Int) := by omega
        clear e1 e2 hG
        go_wp2_with fail
        go_ret2
        exact ⟨_, by rw [← HE2.out]; rfl, by rw [← HE1.out]; exact hO2.txin, hBase⟩
    · have hG : goodS fS d = false := by
        cases hg : goodS fS d with
        | false => rfl
        | true => have := (good_parts hg).1; rw [HDL.out] at this; omega
      obtain ⟨e1, e2⟩ := HOUT.out hG
      have HE1 := Lib.hid e1
      have HE2 := Lib.hid e2
      have i1 : ¬ (6 : Int) ≤ (n : Int) - (k : Int) := by omega
      clear e1 e2 hG
      go_wp2_with fail
      go_ret2
      exact ⟨_, by rw [← HE2.out]; rfl, by rw [← HE1.out]; exact hO.txin, hB⟩
end Go.Proofs.YtfalghmgibnjdaaDoor
