/-
  What the program's call lastBlocks of layer 2 answers: the state behind a rest that is filled up. Conditions: the rest is less than a block; the package's table holds the sixty-four constants.
-/
import Derived.Test.YtcejbofdgljemaaQ2
import Derived.Deep.Cut
import Derived.Deep.DeepCutAuto
import Derived.Laws.Concat
import Derived.Laws.Strings
namespace Go.Proofs.Ytcejbofdgljemaa
set_option maxRecDepth 100000
open Go.RowKit
set_option linter.unusedSimpArgs false
set_option linter.unusedVariables false

/-- A rest with the mark behind it. -/
def markL (r : List UInt8) : List UInt8 := r ++ 128 :: List.replicate (63 - r.length) 0
theorem markL_length (r : List UInt8) (h : r.length < 64) : (markL r).length = 64 := by simp [markL]; omega
theorem markL_set (r : List UInt8) (h : r.length < 64) : (r ++ List.replicate (64 - r.length) 0).set r.length 128 = markL r := by
  rw [List.set_append_right _ _ (Nat.le_refl _), Nat.sub_self, show 64 - r.length = (63 - r.length) + 1 by omega, List.replicate_succ, List.set_cons_zero]
  rfl
theorem fill_short (r : List UInt8) (many : Nat) (h : r.length < 56) : fillL r many = (markL r).take 56 ++ putL (8 * many % 18446744073709551616) := by
  unfold fillL markL
  congr 1
  rw [List.take_append, List.take_of_length_le (by omega), show 56 - r.length = (55 - r.length) + 1 by omega, List.take_succ_cons, List.take_replicate,
    show (119 - r.length % 64) % 64 = 55 - r.length by omega, show min (55 - r.length) (63 - r.length) = 55 - r.length by omega]
theorem fill_long (r : List UInt8) (many : Nat) (h : 56 ≤ r.length) (h64 : r.length < 64) : fillL r many = markL r ++ ((List.replicate 64 0).take 56 ++ putL (8 * many % 18446744073709551616)) := by
  unfold fillL markL
  rw [← List.append_assoc]
  congr 1
  rw [List.append_assoc]
  congr 1
  rw [List.take_replicate, show min 56 64 = 56 by omega, show (119 - r.length % 64) % 64 = (63 - r.length) + 56 by omega, List.cons_append, List.replicate_append_replicate]
theorem from_one [Inhabited Tab] (s : St) (M : List UInt8) (h : M.length = 64) : s.from M = s.block M := by
  rw [from_step s M (by omega), List.take_of_length_le (by omega), List.drop_of_length_le (by omega)]
  exact from_stop _ _ (by simp)
theorem from_two [Inhabited Tab] (s : St) (M N : List UInt8) (h : M.length = 64) (h' : N.length = 64) : s.from (M ++ N) = (s.block M).block N := by
  rw [from_step s _ (by simp; omega), List.take_left' h, List.drop_left' h]
  exact from_one _ _ h'
theorem last_short [Inhabited Tab] (s : St) (r : List UInt8) (many : Nat) (h : r.length < 56) : s.from (fillL r many) = s.block ((markL r).take 56 ++ putL (8 * many % 18446744073709551616)) := by
  rw [fill_short r many h]
  exact from_one _ _ (by have := markL_length r (by omega); simp [putL_length]; omega)
theorem last_long [Inhabited Tab] (s : St) (r : List UInt8) (many : Nat) (h : 56 ≤ r.length) (h64 : r.length < 64) : s.from (fillL r many) = (s.block (markL r)).block ((List.replicate 64 0).take 56 ++ putL (8 * many % 18446744073709551616)) := by
  rw [fill_long r many h h64]
  exact from_two _ _ _ (markL_length r h64) (by simp [putL_length])

def manyS (g many : Nat) (W : World) : Prop := W.cell? ⟨g, 9, none⟩ = some (.int .u64 (many : Int)) ∧ True

set_option maxRecDepth 100000 in
set_option maxHeartbeats 1000000 in
theorem last_any [Inhabited Tab] (s : St) (r : List UInt8) (A : Option Addr) (c many : Nat) (w : World) (hr : Rd vB w A r) (hn : r.length < 64) (hm : many < 18446744073709551616) (HK : Hid (KTab w)) :
    Calls Try.prog 65 #[.agg #[.int .u32 (s.a.toNat : Int), .int .u32 (s.b.toNat : Int), .int .u32 (s.c.toNat : Int), .int .u32 (s.d.toNat : Int), .int .u32 (s.e.toNat : Int), .int .u32 (s.f.toNat : Int), .int .u32 (s.g.toNat : Int), .int .u32 (s.h.toNat : Int), .slice A r.length c, .int .u64 (many : Int)]] w (RetS vW w (s.from (fillL r many)).toL) := by
  have hmk : ∀ w, (Instr.makeSlice 25 (.int .i64 64) (.int .i64 64)).run Try.prog w = .ok (.slice (some ⟨w.heap.size, 0, none⟩) 64 64) (w.alloc (.cells (List.replicate 64 (.int .u8 0)).toArray 5)) := fun _ => by kernel_rfl
  obtain ⟨p, hp⟩ : ∃ p, p = 8 * many % 18446744073709551616 := ⟨_, rfl⟩
  have HP1 : Hid (IntKind.u64.wrap (8 * (many : Int)) = (p : Int)) := by unfold Hid; rw [IntKind.wrap_u64, hp]; omega
  have HP2 : Hid (8 * (many : Int) % 18446744073709551616 = (p : Int)) := by unfold Hid; rw [hp]; omega
  have HPm : Hid (p < 18446744073709551616) := by unfold Hid; rw [hp]; exact Nat.mod_lt _ (by omega)
  have HP := Lib.hid hp
  clear hp
  go_enter Try.func65, Try.ntmps65
  go_upto_region 4 with (first
    | (refine wpList_load_part rfl 89 (.tmp 6) rfl w.heap.size 0 rfl _ _ (Row.new w _ _ _ rfl) [.int .u32 (s.a.toNat : Int), .int .u32 (s.b.toNat : Int), .int .u32 (s.c.toNat : Int), .int .u32 (s.d.toNat : Int), .int .u32 (s.e.toNat : Int), .int .u32 (s.f.toNat : Int), .int .u32 (s.g.toNat : Int), .int .u32 (s.h.toNat : Int)] (by rfl) _ Try.underlying89 rfl (by exact size_st) ?_)
    | (refine wpList_copy_row rfl (.tmp 9) (.tmp 11) 25 25 rfl 5 Try.underlying25 (by kernel_rfl) (w.heap.size + 2) 0 64 64 A r c rfl rfl (List.replicate 64 (.int .u8 0)) 5 (by exact Row.new_at _ _ (by simp) _ _ _ rfl) (by exact hr.keep (below_new (below_new (below_new (Below.refl _ _) _) _) _)) vB_one (by omega) (by simp; omega) ?_))
  refine at_world (Q := Code.wp _ _ _ _) (fun W => Row W w.heap.size 93 [.int .u32 (s.a.toNat : Int), .int .u32 (s.b.toNat : Int), .int .u32 (s.c.toNat : Int), .int .u32 (s.d.toNat : Int), .int .u32 (s.e.toNat : Int), .int .u32 (s.f.toNat : Int), .int .u32 (s.g.toNat : Int), .int .u32 (s.h.toNat : Int), .slice A r.length c, .int .u64 (many : Int)] ∧ Row W (w.heap.size + 1) 89 [.int .u32 (s.a.toNat : Int), .int .u32 (s.b.toNat : Int), .int .u32 (s.c.toNat : Int), .int .u32 (s.d.toNat : Int), .int .u32 (s.e.toNat : Int), .int .u32 (s.f.toNat : Int), .int .u32 (s.g.toNat : Int), .int .u32 (s.h.toNat : Int)] ∧ Row W (w.heap.size + 1 + 1) 5 ((r ++ List.replicate (64 - r.length) 0).map vB) ∧ Below w.heap.size w W)
    ⟨(((Row.new w _ _ _ rfl).alloc _).alloc _).setRow_other (by omega) _, ((Row.new_at _ _ (by simp) _ _ _ rfl).alloc _).setRow_other (by omega) _, ?_, below_setRow (below_new (below_new (below_new (Below.refl _ _) _) _) _) (by omega) _⟩ ?_
  · refine Row.setRow_at (Row.new_at _ _ (by simp) _ _ _ rfl) _ _ ?_
    show (r.map vB ++ (List.replicate 64 (Value.int .u8 0)).drop r.length).toArray = _
    rw [List.drop_replicate, List.map_append, List.map_replicate]
    rfl
  clear hmk hr
  rintro W ⟨hR0, hR1, hR2, hB⟩
  have hcn : W.cell? ⟨w.heap.size + 1 + 1, r.length, none⟩ = some (.int .u8 0) := hR2.cell (by
    rw [List.map_append, List.getElem?_append_right (by simp), List.length_map, Nat.sub_self, List.map_replicate, List.getElem?_replicate, if_pos (by omega)]
    rfl)
  have hfz : W.frozen? ⟨w.heap.size + 1 + 1, r.length, none⟩ = false := hR2.frozen _
  have n0 : (0 : Int) ≤ (r.length : Int) := by omega
  have n1 : (r.length : Int) < 64 := by omega
  go_upto_region 5 with fail
  refine at_world (Q := Code.wp _ _ _ _) (fun W => Row W w.heap.size 93 [.int .u32 (s.a.toNat : Int), .int .u32 (s.b.toNat : Int), .int .u32 (s.c.toNat : Int), .int .u32 (s.d.toNat : Int), .int .u32 (s.e.toNat : Int), .int .u32 (s.f.toNat : Int), .int .u32 (s.g.toNat : Int), .int .u32 (s.h.toNat : Int), .slice A r.length c, .int .u64 (many : Int)] ∧ Row W (w.heap.size + 1) 89 [.int .u32 (s.a.toNat : Int), .int .u32 (s.b.toNat : Int), .int .u32 (s.c.toNat : Int), .int .u32 (s.d.toNat : Int), .int .u32 (s.e.toNat : Int), .int .u32 (s.f.toNat : Int), .int .u32 (s.g.toNat : Int), .int .u32 (s.h.toNat : Int)] ∧ Row W (w.heap.size + 1 + 1) 5 ((markL r).map vB) ∧ Below w.heap.size w W)
    ⟨hR0.setCell_other (by simp; omega) _, hR1.setCell_other (by simp) _, ?_, hB.setCell (by simp; omega) _⟩ ?_
  · have := hR2.setCell r.length (vB 128)
    rw [← List.map_set, markL_set r hn] at this
    exact this
  clear hR0 hR1 hR2 hB hcn hfz W
  rintro W ⟨hR0, hR1, hR2, hB⟩
  by_cases h56 : r.length < 56
  · have hd : decide ((56 : Int) ≤ (r.length : Int)) = false := by simp; omega
    have HE : Hid (s.from (fillL r many) = s.block ((markL r).take 56 ++ putL p)) := by unfold Hid; rw [HP.out]; exact last_short s r many h56
    have HM : Hid ((markL r).length = 64) := markL_length r hn
    generalize markL r = M at hR2 HE HM
    obtain ⟨S, hS⟩ : ∃ S, S = s := ⟨_, rfl⟩
    replace hR1 : Row W (w.heap.size + 1) 89 [.int .u32 (S.a.toNat : Int), .int .u32 (S.b.toNat : Int), .int .u32 (S.c.toNat : Int), .int .u32 (S.d.toNat : Int), .int .u32 (S.e.toNat : Int), .int .u32 (S.f.toNat : Int), .int .u32 (S.g.toNat : Int), .int .u32 (S.h.toNat : Int)] := by rw [hS]; exact hR1
    replace HE : Hid (s.from (fillL r many) = S.block (M.take 56 ++ putL p)) := by rw [hS]; exact HE
    clear hS
    go_upto_region 8 with fail
    clear hd h56
    have h8 := putL_length p
    generalize hpl : putL p = Pl at HE h8
    have HPl := Lib.hid hpl
    have H8 := Lib.hid h8
    clear hpl h8
    have hP1 := HP1.out
    have hP2 := HP2.out
    refine wp_region_plan_of (manyS w.heap.size many) (.step 0 false (.step 1 false (.step 2 false (.step 3 false (.step 4 false (.step 5 true (.step 6 true (.nil)))))))) ⟨hR0.drew.cell rfl, trivial⟩ (by kernel_rfl) (by kernel_rfl) (by rfl) (by kernel_rfl) ?_
    iterate 5 (refine plan_read rfl (by rfl) (v := ?_) ?_ ?_; rotate_left 1; (intro W hW; (try dsimp only at hW); obtain ⟨hW0, hW1⟩ := hW; go_simp <;> with_reducible rfl); simp only [List.getElem_toArray, List.getElem_cons_zero, List.getElem_cons_succ, Act.put, List.setIfInBounds_toArray, List.set_cons_zero, List.set_cons_succ])
    clear hP1 hP2
    refine plan_make_of rfl (by rfl) (fun K hK => ?_)
    go_simp
    refine (put_any p HPm.out _).mono ?_
    rintro e w1 ⟨A1, c1, rfl, hc1, hr1, hb1⟩
    rw [HPl.out] at hc1 hr1 ⊢
    refine hK.out _ _ ⟨(hR0.drew.later hb1).cell rfl, trivial⟩ ?_
    clear hK K
    replace hR0 := hR0.drew.later hb1
    replace hR1 := hR1.drew.later hb1
    replace hR2 := hR2.drew.later hb1
    replace hB := below_step hB.drew hb1
    clear hb1
    refine plan_make_of rfl (by rfl) (fun K hK => ?_)
    refine wp_copy_row (.tmp 24) (.tmp 28) 25 25 (by rfl) 5 Try.underlying25 (by kernel_rfl) (w.heap.size + 1 + 1) 56 8 8 A1 Pl c1 (by rfl) (by rfl) (M.map vB) _ hR2 hr1 vB_one (by have := H8.out; omega) (by rw [List.length_map, HM.out, H8.out]; omega) ?_
    simp only [List.getElem_toArray, List.getElem_cons_zero, List.getElem_cons_succ, Act.put, List.setIfInBounds_toArray, List.set_cons_zero, List.set_cons_succ]
    refine hK.out _ _ ⟨(hR0.setRow_other (by omega) _).cell rfl, trivial⟩ ?_
    clear hK K
    refine plan_done ?_
    refine at_world (Q := _) (fun W => Row W (w.heap.size + 1) 89 [.int .u32 (S.a.toNat : Int), .int .u32 (S.b.toNat : Int), .int .u32 (S.c.toNat : Int), .int .u32 (S.d.toNat : Int), .int .u32 (S.e.toNat : Int), .int .u32 (S.f.toNat : Int), .int .u32 (S.g.toNat : Int), .int .u32 (S.h.toNat : Int)] ∧ Row W (w.heap.size + 1 + 1) 5 ((M.take 56 ++ Pl).map vB) ∧ Below w.heap.size w W)
      ⟨hR1.setRow_other (by omega) _, Row.setRow_at hR2 _ _ ?_, below_setRow hB (by omega) _⟩ ?_
    · rw [List.drop_of_length_le (by rw [List.length_map, HM.out, H8.out]; omega), List.append_nil, List.map_append, List.map_take]
    have HM2 : Hid ((M.take 56 ++ Pl).length = 64) := by unfold Hid; rw [List.length_append, List.length_take, HM.out, H8.out]; rfl
    generalize M.take 56 ++ Pl = N at HE HM2
    clear hR0 hR1 hR2 hB hr1 hc1 HM
    rintro W ⟨hR1, hR2, hB⟩
    have hr2 : Rd vB W (some ⟨w.heap.size + 1 + 1, 0, none⟩) N := hR2.rd
    go_wp2_with (refine wpList_load_part rfl 89 (.tmp 3) rfl (w.heap.size + 1) 0 rfl _ _ hR1 [.int .u32 (S.a.toNat : Int), .int .u32 (S.b.toNat : Int), .int .u32 (S.c.toNat : Int), .int .u32 (S.d.toNat : Int), .int .u32 (S.e.toNat : Int), .int .u32 (S.f.toNat : Int), .int .u32 (S.g.toNat : Int), .int .u32 (S.h.toNat : Int)] (by rfl) _ Try.underlying89 rfl (by exact size_st) ?_)
    refine (behind_any S N _ _ _ HM2 hr2 (Nat.le_refl _) (Lib.hid (HK.out.keep hB))).mono ?_
    rintro e w2 ⟨T, HT, rfl, hb2⟩
    replace hR1 := hR1.later hb2
    replace hB := below_step hB hb2
    clear hr2 hR2 hb2
    go_wp2_with (refine wpList_store_row rfl 89 (.tmp 3) (.tmp 32) rfl (w.heap.size + 1) rfl [.int .u32 (T.a.toNat : Int), .int .u32 (T.b.toNat : Int), .int .u32 (T.c.toNat : Int), .int .u32 (T.d.toNat : Int), .int .u32 (T.e.toNat : Int), .int .u32 (T.f.toNat : Int), .int .u32 (T.g.toNat : Int), .int .u32 (T.h.toNat : Int)] rfl _ _ hR1 (by exact size_st) (by rfl) (by exact one_st _ _ _ _ _ _ _ _) ?_)
    go_ret
    rw [HE.out, ← HT.out]
    exact ⟨_, 8, rfl, Nat.le_refl _, Row.rd (f := vW) (L := T.toL) (hR1.setRow _), below_setRow hB (by omega) _⟩
  · have hd : decide ((56 : Int) ≤ (r.length : Int)) = true := by simp; omega
    have HE : Hid (s.from (fillL r many) = (s.block (markL r)).block ((List.replicate 64 0).take 56 ++ putL p)) := by unfold Hid; rw [HP.out]; exact last_long s r many (by omega) hn
    have HM : Hid ((markL r).length = 64) := markL_length r hn
    generalize markL r = M at hR2 HE HM
    have hr2 : Rd vB W (some ⟨w.heap.size + 1 + 1, 0, none⟩) M := hR2.rd
    go_wp2_with (refine wpList_load_part rfl 89 (.tmp 3) rfl (w.heap.size + 1) 0 rfl _ _ hR1 [.int .u32 (s.a.toNat : Int), .int .u32 (s.b.toNat : Int), .int .u32 (s.c.toNat : Int), .int .u32 (s.d.toNat : Int), .int .u32 (s.e.toNat : Int), .int .u32 (s.f.toNat : Int), .int .u32 (s.g.toNat : Int), .int .u32 (s.h.toNat : Int)] (by rfl) _ Try.underlying89 rfl (by exact size_st) ?_)
    refine (behind_any s M _ _ _ HM hr2 (Nat.le_refl _) (Lib.hid (HK.out.keep hB))).mono ?_
    rintro e w1 ⟨S, HS, rfl, hb1⟩
    replace hR0 := hR0.later hb1
    replace hR1 := hR1.later hb1
    replace hR2 := hR2.later hb1
    replace hB := below_step hB hb1
    clear hr2 hb1
    go_upto_region 7 with (refine wpList_store_row rfl 89 (.tmp 3) (.tmp 21) rfl (w.heap.size + 1) rfl [.int .u32 (S.a.toNat : Int), .int .u32 (S.b.toNat : Int), .int .u32 (S.c.toNat : Int), .int .u32 (S.d.toNat : Int), .int .u32 (S.e.toNat : Int), .int .u32 (S.f.toNat : Int), .int .u32 (S.g.toNat : Int), .int .u32 (S.h.toNat : Int)] rfl _ _ hR1 (by exact size_st) (by rfl) (by exact one_st _ _ _ _ _ _ _ _) ?_)
    refine at_world (Q := Code.wp _ _ _ _) (fun W => Row W w.heap.size 93 [.int .u32 (s.a.toNat : Int), .int .u32 (s.b.toNat : Int), .int .u32 (s.c.toNat : Int), .int .u32 (s.d.toNat : Int), .int .u32 (s.e.toNat : Int), .int .u32 (s.f.toNat : Int), .int .u32 (s.g.toNat : Int), .int .u32 (s.h.toNat : Int), .slice A r.length c, .int .u64 (many : Int)] ∧ Row W (w.heap.size + 1) 89 [.int .u32 (S.a.toNat : Int), .int .u32 (S.b.toNat : Int), .int .u32 (S.c.toNat : Int), .int .u32 (S.d.toNat : Int), .int .u32 (S.e.toNat : Int), .int .u32 (S.f.toNat : Int), .int .u32 (S.g.toNat : Int), .int .u32 (S.h.toNat : Int)] ∧ Row W (w.heap.size + 1 + 1) 5 (M.map vB) ∧ Below w.heap.size w W)
      ⟨hR0.setRow_other (by omega) _, hR1.setRow _, hR2.setRow_other (by omega) _, below_setRow hB (by omega) _⟩ ?_
    clear hR0 hR1 hR2 hB w1 W
    rintro W ⟨hR0, hR1, hR2, hB⟩
    have hcl : (Builtin.clear_ #[25] 0 #[.slice (some ⟨w.heap.size + 1 + 1, 0, none⟩) 64 64]).run Try.prog W = .ok (.tuple #[]) (W.setCells (w.heap.size + 1 + 1) 0 (List.replicate 64 (.int .u8 0))) :=
      Lib.run_clear_slice W _ 5 _ (.int .u8 0) Try.underlying25 (fun _ => by kernel_rfl) rfl rfl _ 0 64 64 (by omega) (fun j hj => by rw [hR2.cell?]; have := HM.out; simp [this, hj]) (fun j _ => hR2.frozen _)
    go_upto_region 8 with fail
    refine at_world (Q := Code.wp _ _ _ _) (fun W => Row W w.heap.size 93 [.int .u32 (s.a.toNat : Int), .int .u32 (s.b.toNat : Int), .int .u32 (s.c.toNat : Int), .int .u32 (s.d.toNat : Int), .int .u32 (s.e.toNat : Int), .int .u32 (s.f.toNat : Int), .int .u32 (s.g.toNat : Int), .int .u32 (s.h.toNat : Int), .slice A r.length c, .int .u64 (many : Int)] ∧ Row W (w.heap.size + 1) 89 [.int .u32 (S.a.toNat : Int), .int .u32 (S.b.toNat : Int), .int .u32 (S.c.toNat : Int), .int .u32 (S.d.toNat : Int), .int .u32 (S.e.toNat : Int), .int .u32 (S.f.toNat : Int), .int .u32 (S.g.toNat : Int), .int .u32 (S.h.toNat : Int)] ∧ Row W (w.heap.size + 1 + 1) 5 ((List.replicate 64 (0 : UInt8)).map vB) ∧ Below w.heap.size w W)
      ⟨hR0.setCells_other (by omega) _ _, hR1.setCells_other (by omega) _ _, ?_, below_setCells (by omega) _ _ hB⟩ ?_
    · have h0 : 0 + (List.replicate 64 (Value.int .u8 0)).length ≤ (M.map vB).length := by rw [List.length_map, HM.out]; simp
      have h1 : (M.map vB).take 0 ++ List.replicate 64 (Value.int .u8 0) ++ (M.map vB).drop (0 + (List.replicate 64 (Value.int .u8 0)).length) = (List.replicate 64 (0 : UInt8)).map vB := by
        rw [List.drop_of_length_le (by rw [List.length_map, HM.out]; simp), List.map_replicate]
        rfl
      have := Row.setCells _ 0 hR2 h0
      rw [h1] at this
      exact this
    replace HE : Hid (s.from (fillL r many) = S.block ((List.replicate 64 0).take 56 ++ putL p)) := by unfold Hid; rw [HE.out, HS.out]
    clear hR0 hR1 hR2 hB hcl HM HS W M hd h56
    rintro W ⟨hR0, hR1, hR2, hB⟩
    have HM : Hid ((List.replicate 64 (0 : UInt8)).length = 64) := List.length_replicate
    generalize List.replicate 64 (0 : UInt8) = M at HE HM hR2
    have h8 := putL_length p
    generalize hpl : putL p = Pl at HE h8
    have HPl := Lib.hid hpl
    have H8 := Lib.hid h8
    clear hpl h8
    have hP1 := HP1.out
    have hP2 := HP2.out
    refine wp_region_plan_of (manyS w.heap.size many) (.step 0 false (.step 1 false (.step 2 false (.step 3 false (.step 4 false (.step 5 true (.step 6 true (.nil)))))))) ⟨hR0.drew.cell rfl, trivial⟩ (by kernel_rfl) (by kernel_rfl) (by rfl) (by kernel_rfl) ?_
    iterate 5 (refine plan_read rfl (by rfl) (v := ?_) ?_ ?_; rotate_left 1; (intro W hW; (try dsimp only at hW); obtain ⟨hW0, hW1⟩ := hW; go_simp <;> with_reducible rfl); simp only [List.getElem_toArray, List.getElem_cons_zero, List.getElem_cons_succ, Act.put, List.setIfInBounds_toArray, List.set_cons_zero, List.set_cons_succ])
    clear hP1 hP2
    refine plan_make_of rfl (by rfl) (fun K hK => ?_)
    go_simp
    refine (put_any p HPm.out _).mono ?_
    rintro e w1 ⟨A1, c1, rfl, hc1, hr1, hb1⟩
    rw [HPl.out] at hc1 hr1 ⊢
    refine hK.out _ _ ⟨(hR0.drew.later hb1).cell rfl, trivial⟩ ?_
    clear hK K
    replace hR0 := hR0.drew.later hb1
    replace hR1 := hR1.drew.later hb1
    replace hR2 := hR2.drew.later hb1
    replace hB := below_step hB.drew hb1
    clear hb1
    refine plan_make_of rfl (by rfl) (fun K hK => ?_)
    refine wp_copy_row (.tmp 24) (.tmp 28) 25 25 (by rfl) 5 Try.underlying25 (by kernel_rfl) (w.heap.size + 1 + 1) 56 8 8 A1 Pl c1 (by rfl) (by rfl) (M.map vB) _ hR2 hr1 vB_one (by have := H8.out; omega) (by rw [List.length_map, HM.out, H8.out]; omega) ?_
    simp only [List.getElem_toArray, List.getElem_cons_zero, List.getElem_cons_succ, Act.put, List.setIfInBounds_toArray, List.set_cons_zero, List.set_cons_succ]
    refine hK.out _ _ ⟨(hR0.setRow_other (by omega) _).cell rfl, trivial⟩ ?_
    clear hK K
    refine plan_done ?_
    refine at_world (Q := _) (fun W => Row W (w.heap.size + 1) 89 [.int .u32 (S.a.toNat : Int), .int .u32 (S.b.toNat : Int), .int .u32 (S.c.toNat : Int), .int .u32 (S.d.toNat : Int), .int .u32 (S.e.toNat : Int), .int .u32 (S.f.toNat : Int), .int .u32 (S.g.toNat : Int), .int .u32 (S.h.toNat : Int)] ∧ Row W (w.heap.size + 1 + 1) 5 ((M.take 56 ++ Pl).map vB) ∧ Below w.heap.size w W)
      ⟨hR1.setRow_other (by omega) _, Row.setRow_at hR2 _ _ ?_, below_setRow hB (by omega) _⟩ ?_
    · rw [List.drop_of_length_le (by rw [List.length_map, HM.out, H8.out]; omega), List.append_nil, List.map_append, List.map_take]
    have HM2 : Hid ((M.take 56 ++ Pl).length = 64) := by unfold Hid; rw [List.length_append, List.length_take, HM.out, H8.out]; rfl
    generalize M.take 56 ++ Pl = N at HE HM2
    clear hR0 hR1 hR2 hB hr1 hc1 HM
    rintro W ⟨hR1, hR2, hB⟩
    have hr2 : Rd vB W (some ⟨w.heap.size + 1 + 1, 0, none⟩) N := hR2.rd
    go_wp2_with (refine wpList_load_part rfl 89 (.tmp 3) rfl (w.heap.size + 1) 0 rfl _ _ hR1 [.int .u32 (S.a.toNat : Int), .int .u32 (S.b.toNat : Int), .int .u32 (S.c.toNat : Int), .int .u32 (S.d.toNat : Int), .int .u32 (S.e.toNat : Int), .int .u32 (S.f.toNat : Int), .int .u32 (S.g.toNat : Int), .int .u32 (S.h.toNat : Int)] (by rfl) _ Try.underlying89 rfl (by exact size_st) ?_)
    refine (behind_any S N _ _ _ HM2 hr2 (Nat.le_refl _) (Lib.hid (HK.out.keep hB))).mono ?_
    rintro e w2 ⟨T, HT, rfl, hb2⟩
    replace hR1 := hR1.later hb2
    replace hB := below_step hB hb2
    clear hr2 hR2 hb2
    go_wp2_with (refine wpList_store_row rfl 89 (.tmp 3) (.tmp 32) rfl (w.heap.size + 1) rfl [.int .u32 (T.a.toNat : Int), .int .u32 (T.b.toNat : Int), .int .u32 (T.c.toNat : Int), .int .u32 (T.d.toNat : Int), .int .u32 (T.e.toNat : Int), .int .u32 (T.f.toNat : Int), .int .u32 (T.g.toNat : Int), .int .u32 (T.h.toNat : Int)] rfl _ _ hR1 (by exact size_st) (by rfl) (by exact one_st _ _ _ _ _ _ _ _) ?_)
    go_ret
    rw [HE.out, ← HT.out]
    exact ⟨_, 8, rfl, Nat.le_refl _, Row.rd (f := vW) (L := T.toL) (hR1.setRow _), below_setRow hB (by omega) _⟩
end Go.Proofs.Ytcejbofdgljemaa
/-
  What the program's calls Block, End and Sum of layer 2 answer. Condition: the package's table holds the sixty-four constants.
-/
namespace Go.Proofs.Ytcejbofdgljemaa
set_option maxRecDepth 100000
open Go.RowKit
set_option linter.unusedSimpArgs false
set_option linter.unusedVariables false

theorem fillL_step (b : List UInt8) (many : Nat) (h : 64 ≤ b.length) : fillL b many = b.take 64 ++ fillL (b.drop 64) many := by
  unfold fillL
  rw [List.length_drop, show (b.length - 64) % 64 = b.length % 64 by omega, ← List.append_assoc, ← List.append_assoc, List.take_append_drop]
theorem from_fill [Inhabited Tab] (many : Nat) : ∀ (n : Nat) (s : St) (b : List UInt8), b.length ≤ n → s.from (fillL b many) = (s.from b).from (fillL (restL b) many)
  | n, s, b, hn => by
    by_cases h : 64 ≤ b.length
    · match n, hn with
      | 0, hn => omega
      | n + 1, hn =>
        rw [fillL_step b many h, from_step s _ (by simp; omega), List.take_left' (by simp; omega), List.drop_left' (by simp; omega), from_fill many n _ (b.drop 64) (by simp; omega), from_step s b h, restL_step b h]
    · rw [from_stop s b h, restL_short b (by omega)]

theorem hash_state (S : St) (x y : Value) (W : World) : (Instr.field 93 (.agg #[.int .u32 (S.a.toNat : Int), .int .u32 (S.b.toNat : Int), .int .u32 (S.c.toNat : Int), .int .u32 (S.d.toNat : Int), .int .u32 (S.e.toNat : Int), .int .u32 (S.f.toNat : Int), .int .u32 (S.g.toNat : Int), .int .u32 (S.h.toNat : Int), x, y]) 0).run Try.prog W = .ok (.agg #[.int .u32 (S.a.toNat : Int), .int .u32 (S.b.toNat : Int), .int .u32 (S.c.toNat : Int), .int .u32 (S.d.toNat : Int), .int .u32 (S.e.toNat : Int), .int .u32 (S.f.toNat : Int), .int .u32 (S.g.toNat : Int), .int .u32 (S.h.toNat : Int)]) W := by kernel_rfl
theorem hash_rest (S : St) (x y : Value) (W : World) : (Instr.field 93 (.agg #[.int .u32 (S.a.toNat : Int), .int .u32 (S.b.toNat : Int), .int .u32 (S.c.toNat : Int), .int .u32 (S.d.toNat : Int), .int .u32 (S.e.toNat : Int), .int .u32 (S.f.toNat : Int), .int .u32 (S.g.toNat : Int), .int .u32 (S.h.toNat : Int), x, y]) 1).run Try.prog W = .ok x W := by kernel_rfl
theorem hash_many (S : St) (x y : Value) (W : World) : (Instr.field 93 (.agg #[.int .u32 (S.a.toNat : Int), .int .u32 (S.b.toNat : Int), .int .u32 (S.c.toNat : Int), .int .u32 (S.d.toNat : Int), .int .u32 (S.e.toNat : Int), .int .u32 (S.f.toNat : Int), .int .u32 (S.g.toNat : Int), .int .u32 (S.h.toNat : Int), x, y]) 2).run Try.prog W = .ok y W := by kernel_rfl
/-- A call that hands back a list and how it went. -/
def RetE (w : World) (l : List UInt8) (n : Int) (e : Ending) (w' : World) : Prop := ∃ A cap, e = .returned (.tuple #[.slice A l.length cap, .int .i64 n]) ∧ l.length ≤ cap ∧ Rd vB w' A l ∧ Below w.heap.size w w'

set_option maxHeartbeats 600000 in
theorem sum_any [Inhabited Tab] (b : List UInt8) (A : Option Addr) (c : Nat) (w : World) (hr : Rd vB w A b) (hc : b.length ≤ c) (hl : b.length ≤ 9223372036854775807) (HK : Hid (KTab w)) :
    Calls Try.prog 58 #[.slice A b.length c] w (RetS vB w (sumL b)) := by
  go_enter Try.func58, Try.ntmps58
  go_wp2_with fail
  refine (start_any _).mono ?_
  rintro e w1 ⟨S0, HS0, rfl, hb1⟩
  have hfd := hash_state S0 (.slice none 0 0) (.int .u64 0)
  go_wp2_with fail
  clear hfd
  refine (wholeBlocks_any S0 b _ _ _ (hr.keep hb1) hc hl (Lib.hid (HK.out.keep hb1))).mono ?_
  rintro e w2 ⟨S, A2, c2, HS, rfl, hc2, hall, hb2⟩
  have hB := below_step hb1 hb2
  have hr2 := hall w2 (hr.keep hB)
  clear hall
  have HE : Hid (sumL b = bytesL (S.from (fillL (restL b) b.length)).toL) := by unfold Hid sumL; rw [from_fill b.length b.length startSt b (Nat.le_refl _), HS.out, HS0.out]
  have h64 : (restL b).length < 64 := by rw [restL_length]; omega
  generalize restL b = R at hc2 hr2 HE h64
  have h8 : (S.from (fillL R b.length)).toL.length = 8 := rfl
  generalize hL : (S.from (fillL R b.length)).toL = L at h8 HE
  have HL := Lib.hid hL
  have H8 := Lib.hid h8
  clear hL h8 hb1 hb2 HS
  go_wp2_with fail
  have hb3 : Below w2.heap.size w2 (w2.alloc (.cells #[.int .u32 (S.a.toNat : Int), .int .u32 (S.b.toNat : Int), .int .u32 (S.c.toNat : Int), .int .u32 (S.d.toNat : Int), .int .u32 (S.e.toNat : Int), .int .u32 (S.f.toNat : Int), .int .u32 (S.g.toNat : Int), .int .u32 (S.h.toNat : Int)] 89)) := below_new (Below.refl _ _) _
  refine (last_any S R _ _ _ _ (hr2.keep hb3) h64 (by omega) (Lib.hid (HK.out.keep (below_step hB hb3)))).mono ?_
  replace hB := below_step hB hb3
  rintro e w3 ⟨A3, c3, rfl, hc3, hr3, hb4⟩
  rw [HL.out] at hc3 hr3 ⊢
  replace hB := below_step hB hb4
  clear hb3 hb4 hr2
  go_wp2_with fail
  refine (bytes_any L _ _ _ hr3 (by have := H8.out; omega)).mono ?_
  rintro e w4 ⟨A4, c4, rfl, hc4, hr4, hb5⟩
  go_wp2_with fail
  go_ret
  rw [HE.out]
  exact ⟨A4, c4, rfl, hc4, hr4, below_step hB hb5⟩
end Go.Proofs.Ytcejbofdgljemaa
/-
  What the program's call More of layer 2 answers. Condition: the package's table holds the sixty-four constants.
-/
namespace Go.Proofs.Ytcejbofdgljemaa
set_option maxRecDepth 100000
open Go.RowKit
set_option linter.unusedSimpArgs false
set_option linter.unusedVariables false

/-- A whole block, or a part of it, read in a region that draws its order. -/
theorem plan_load {P : Program} {ops : Array Oper} {Q : Exit → Act → World → Prop} {i : Nat} {rest : Plan} {S : World → Prop} {o : Oper} {a : Act} {w : World} (ho : ops[i]? = some o) (hw : Region.wanted o (yielded ops a.tmps) = true) (ty : TypeId) (x : Operand) (hop : o.op = .load ty x)
    (b off : Nat) (hx : a.eval x = .pointer (some ⟨b, off, none⟩)) (cs : List Value) (d : TypeDesc) (hS : ∀ W, S W → W.rangeAt b off cs) (hu : P.underlying ty = some d) (hd : d.isRow = true) (hi : (P.info? ty).map (·.size) = some cs.length)
    (h : wpPlan P ops Q rest S (a.put o.dst (.agg cs.toArray)) w) : wpPlan P ops Q (.step i false rest) S a w :=
  plan_read ho hw (fun W hW => by
    unfold execOp
    simp only [hop, hx, Instr.loadAt, Instr.sureAddr, Sem.run_bind, Sem.run_pure, Result.andThen_ok, run_loadVar_mid W b off ty cs d (hS W hW) hu hd hi]) h

abbrev hashL (s : St) (x y : Value) : List Value := [.int .u32 (s.a.toNat : Int), .int .u32 (s.b.toNat : Int), .int .u32 (s.c.toNat : Int), .int .u32 (s.d.toNat : Int), .int .u32 (s.e.toNat : Int), .int .u32 (s.f.toNat : Int), .int .u32 (s.g.toNat : Int), .int .u32 (s.h.toNat : Int), x, y]
abbrev zeroL : List Value := [.int .u32 0, .int .u32 0, .int .u32 0, .int .u32 0, .int .u32 0, .int .u32 0, .int .u32 0, .int .u32 0, .slice none 0 0, .int .u64 0]
theorem size_hash : (Try.prog.info? 93).map (·.size) = some 10 := by kernel_rfl
theorem one_hash (s : St) (A : Option Addr) (n c : Nat) (m : Int) : ∀ v ∈ ([.int .u32 (s.a.toNat : Int), .int .u32 (s.b.toNat : Int), .int .u32 (s.c.toNat : Int), .int .u32 (s.d.toNat : Int), .int .u32 (s.e.toNat : Int), .int .u32 (s.f.toNat : Int), .int .u32 (s.g.toNat : Int), .int .u32 (s.h.toNat : Int), .slice A n c, .int .u64 m] : List Value), v.oneCell' = true := by
  intro v hv
  simp only [List.mem_cons, List.not_mem_nil, or_false] at hv
  rcases hv with rfl | rfl | rfl | rfl | rfl | rfl | rfl | rfl | rfl | rfl <;> rfl
/-- What the reads of More lean on: the box that came in (and, behind the blocks, the state's own). -/
def boxS (g : Nat) (l : List Value) (W : World) : Prop := W.cell? ⟨g, 8, none⟩ = l[8]? ∧ W.cell? ⟨g, 9, none⟩ = l[9]? ∧ W.rangeAt g 0 (l.take 8)
theorem boxS_of {g : Nat} {t : TypeId} {l : List Value} {W : World} (h : Row W g t l) : boxS g l W := ⟨h.cell? 8, h.cell? 9, fun j v hv => by
  rw [Nat.zero_add]
  refine h.cell ?_
  rw [List.getElem?_take] at hv
  split at hv
  · exact hv
  · cases hv⟩
/-- A call that hands back a hash that goes on, and how it went. -/
def RetH [Inhabited Tab] (w : World) (s : St) (r : List UInt8) (many : Nat) (n : Int) (e : Ending) (w' : World) : Prop :=
  ∃ (S : St) (A : Option Addr) (c m : Nat), Hid (S = s) ∧ Hid (m = many) ∧ e = .returned (.tuple #[.agg #[.int .u32 (S.a.toNat : Int), .int .u32 (S.b.toNat : Int), .int .u32 (S.c.toNat : Int), .int .u32 (S.d.toNat : Int), .int .u32 (S.e.toNat : Int), .int .u32 (S.f.toNat : Int), .int .u32 (S.g.toNat : Int), .int .u32 (S.h.toNat : Int), .slice A r.length c, .int .u64 (m : Int)], .int .i64 n]) ∧ r.length ≤ c ∧ Rd vB w' A r ∧ (∀ a, A = some a → w.heap.size ≤ a.block) ∧ Below w.heap.size w w'


def MoreRel [Inhabited Tab] (s : St) (T : List UInt8) (w : World) (l : List Value) (v u : Value) (W : World) : Prop :=
  ∃ (gs : Nat) (S : St) (A : Option Addr) (c : Nat), v = .pointer (some ⟨gs, 0, none⟩) ∧ u = .slice A (restL T).length c ∧ Hid (S = s.from T) ∧ (restL T).length ≤ c ∧ Rd vB W A (restL T) ∧ Row W gs 89 [.int .u32 (S.a.toNat : Int), .int .u32 (S.b.toNat : Int), .int .u32 (S.c.toNat : Int), .int .u32 (S.d.toNat : Int), .int .u32 (S.e.toNat : Int), .int .u32 (S.f.toNat : Int), .int .u32 (S.g.toNat : Int), .int .u32 (S.h.toNat : Int)] ∧ Row W w.heap.size 93 l ∧ Row W (w.heap.size + 1) 93 zeroL ∧ Below w.heap.size w W ∧ w.heap.size + 1 < gs
theorem more_rel [Inhabited Tab] {s S : St} {T : List UInt8} {w W : World} {l : List Value} {gs : Nat} {A : Option Addr} {c : Nat} (HS : Hid (S = s.from T)) (hc : (restL T).length ≤ c) (hr : Rd vB W A (restL T)) (hs : Row W gs 89 [.int .u32 (S.a.toNat : Int), .int .u32 (S.b.toNat : Int), .int .u32 (S.c.toNat : Int), .int .u32 (S.d.toNat : Int), .int .u32 (S.e.toNat : Int), .int .u32 (S.f.toNat : Int), .int .u32 (S.g.toNat : Int), .int .u32 (S.h.toNat : Int)]) (h0 : Row W w.heap.size 93 l) (h1 : Row W (w.heap.size + 1) 93 zeroL) (hB : Below w.heap.size w W) (hg : w.heap.size + 1 < gs) :
    MoreRel s T w l (.pointer (some ⟨gs, 0, none⟩)) (.slice A (restL T).length c) W := ⟨gs, S, A, c, rfl, rfl, HS, hc, hr, hs, h0, h1, hB, hg⟩
def moreS (g gs : Nat) (l m : List Value) (W : World) : Prop := W.cell? ⟨g, 9, none⟩ = l[9]? ∧ W.rangeAt gs 0 m


end Go.Proofs.Ytcejbofdgljemaa
/-
  What the program's calls More and End of layer 2 answer, said of the text that came: a text in parts has the state, the rest and the hash of the whole. Condition: the package's table holds the sixty-four constants.
-/
namespace Go.Proofs.Ytcejbofdgljemaa
set_option maxRecDepth 100000
open Go.RowKit
set_option linter.unusedSimpArgs false
set_option linter.unusedVariables false

theorem from_append [Inhabited Tab] : ∀ (n : Nat) (s : St) (t b : List UInt8), t.length ≤ n → s.from (t ++ b) = (s.from t).from (restL t ++ b) ∧ restL (t ++ b) = restL (restL t ++ b)
  | n, s, t, b, hn => by
    by_cases h : 64 ≤ t.length
    · match n, hn with
      | 0, hn => omega
      | n + 1, hn =>
        have ih := from_append n (s.block (t.take 64)) (t.drop 64) b (by simp; omega)
        have e1 : (t ++ b).take 64 = t.take 64 := List.take_append_of_le_length h
        have e2 : (t ++ b).drop 64 = t.drop 64 ++ b := List.drop_append_of_le_length h
        rw [from_step s (t ++ b) (by simp; omega), e1, e2, from_step s t h, restL_step t h, restL_step (t ++ b) (by simp; omega), e2]
        exact ih
    · rw [from_stop s t h, restL_short t (by omega)]
      exact ⟨rfl, rfl⟩

/-- The hash of a text that goes on. -/
def HashOf [Inhabited Tab] (s : St) (t : List UInt8) (S : St) (R : List UInt8) (m : Nat) : Prop := S = s.from t ∧ R = restL t ∧ m = t.length % 18446744073709551616
theorem HashOf.more [Inhabited Tab] {s : St} {t b : List UInt8} {S : St} {R : List UInt8} {m : Nat} (h : HashOf s t S R m) : HashOf s (t ++ b) (S.from (R ++ b)) (restL (R ++ b)) ((m + b.length) % 18446744073709551616) := by
  obtain ⟨rfl, rfl, rfl⟩ := h
  obtain ⟨e1, e2⟩ := from_append t.length s t b (Nat.le_refl _)
  exact ⟨e1.symm, e2.symm, by rw [List.length_append]; omega⟩
theorem HashOf.none [Inhabited Tab] (s : St) : HashOf s [] s [] 0 := ⟨(from_stop s [] (by simp)).symm, rfl, rfl⟩
theorem HashOf.rest [Inhabited Tab] {s : St} {t : List UInt8} {S : St} {R : List UInt8} {m : Nat} (h : HashOf s t S R m) : R.length < 64 ∧ m < 18446744073709551616 := by
  obtain ⟨rfl, rfl, rfl⟩ := h
  exact ⟨by rw [restL_length]; omega, Nat.mod_lt _ (by omega)⟩


theorem sumL_length [Inhabited Tab] (b : List UInt8) : (sumL b).length = 32 := by rw [sumL, bytesL_length]; rfl


end Go.Proofs.Ytcejbofdgljemaa
/-
  HMAC as plain functions on bytes: a key's block, a block each byte of which is turned by one, the tag; a byte turned, as the walk spells it. No conditions but those typed.
-/
namespace Go.Proofs.Ytcejbofdgljemaa
set_option maxRecDepth 100000
open Go.RowKit

def turnL (x : UInt8) (b : List UInt8) : List UInt8 := b.map fun c => xorB c x
theorem turnL_length (x : UInt8) (b : List UInt8) : (turnL x b).length = b.length := by simp [turnL]
theorem turnL_getElem (x : UInt8) (b : List UInt8) (i : Nat) (h : i < b.length) : (turnL x b)[i]'(by rw [turnL_length]; exact h) = xorB b[i] x := by simp [turnL]
theorem turnL_take (x : UInt8) (b : List UInt8) (k : Nat) (h : k < b.length) : turnL x (b.take (k + 1)) = turnL x (b.take k) ++ [xorB b[k] x] := by
  rw [List.take_succ_eq_append_getElem h, turnL, turnL, List.map_append]
  rfl

def fillK (k : List UInt8) : List UInt8 := k ++ List.replicate (64 - k.length) 0
def hblk [Inhabited Tab] (key : List UInt8) : List UInt8 := if 64 < key.length then fillK (sumL key) else fillK key
def macL [Inhabited Tab] (key msg : List UInt8) : List UInt8 := sumL (turnL 92 (hblk key) ++ sumL (turnL 54 (hblk key) ++ msg))
theorem fillK_length (k : List UInt8) (h : k.length ≤ 64) : (fillK k).length = 64 := by simp [fillK]; omega
theorem hblk_length [Inhabited Tab] (key : List UInt8) : (hblk key).length = 64 := by
  unfold hblk
  split
  · exact fillK_length _ (by rw [sumL_length]; omega)
  · exact fillK_length _ (by omega)
theorem hblk_short [Inhabited Tab] (key : List UInt8) (h : key.length ≤ 64) : hblk key = fillK key := by rw [hblk, if_neg (by omega)]
theorem hblk_long [Inhabited Tab] (key : List UInt8) (h : 64 < key.length) : hblk key = fillK (sumL key) := by rw [hblk, if_pos h]
theorem hblk_whole [Inhabited Tab] (key : List UInt8) (h : key.length = 64) : hblk key = key := by rw [hblk_short key (by omega), fillK, h]; simp
theorem hblk_hblk [Inhabited Tab] (key : List UInt8) : hblk (hblk key) = hblk key := hblk_whole _ (hblk_length key)
theorem hblk_sum [Inhabited Tab] (key : List UInt8) (h : 64 < key.length) : hblk (sumL key) = hblk key := by
  rw [hblk_long key h, hblk_short _ (by rw [sumL_length]; omega)]
theorem hblk_zero [Inhabited Tab] (key : List UInt8) (h : key.length < 64) : hblk (key ++ [0]) = hblk key := by
  rw [hblk_short key (by omega), hblk_short _ (by simp; omega), fillK, fillK, List.length_append, List.append_assoc]
  congr 1
  rw [show 64 - key.length = (64 - (key.length + 1)) + 1 by omega, List.replicate_succ]
  rfl
theorem macL_hblk [Inhabited Tab] (key msg : List UInt8) : macL (hblk key) msg = macL key msg := by rw [macL, hblk_hblk]; rfl
theorem macL_sum [Inhabited Tab] (key msg : List UInt8) (h : 64 < key.length) : macL (sumL key) msg = macL key msg := by rw [macL, hblk_sum key h]; rfl
theorem macL_zero [Inhabited Tab] (key msg : List UInt8) (h : key.length < 64) : macL (key ++ [0]) msg = macL key msg := by rw [macL, hblk_zero key h]; rfl
theorem macL_length [Inhabited Tab] (key msg : List UInt8) : (macL key msg).length = 32 := sumL_length _
end Go.Proofs.Ytcejbofdgljemaa
/-
  Layer 6 as plain functions: an engine is its kind and its terms; whether it is right, a text's tag by it, the terms behind it, whether a tag fits. No conditions but those typed.
-/
namespace Go.Proofs.Ytcejbofdgljemaa
set_option maxRecDepth 100000
set_option linter.unusedVariables false
set_option linter.unusedSimpArgs false

def rightE (K : Int) (cs : List Tm) : Bool := decide (K = 1 ∧ cs = []) || (decide (K = 2) && rightT cs)
/-- The terms behind a tag, and the tag. -/
def termsE (K : Int) (cs : List Tm) (x : Tm) : List Tm := if K = 2 then putT cs x else cs
def bytesE [Inhabited Tab] (K : Int) (cs : List Tm) (x : Tm) : List UInt8 := if K = 2 then tagT cs x else (macL x.1 x.2).take 8
def fitsE [Inhabited Tab] (K : Int) (cs : List Tm) (x : Tm) (tag : List UInt8) : Bool := rightE K cs && ((!decide (K = 2) || decide (x ∈ cs)) && decide (bytesE K cs x = tag))

theorem rightE_cases {K : Int} {cs : List Tm} (h : rightE K cs = true) : (K = 1 ∧ cs = []) ∨ (K = 2 ∧ rightT cs = true) := by
  unfold rightE at h
  simpa using h
theorem rightE_one : rightE 1 [] = true := by decide
theorem bytesE_length [Inhabited Tab] (K : Int) (cs : List Tm) (x : Tm) : (bytesE K cs x).length = 8 := by
  unfold bytesE
  split
  · rfl
  · rw [List.length_take, macL_length]
    rfl
theorem termsE_right {K : Int} {cs : List Tm} (x : Tm) (h : rightE K cs = true) : rightE K (termsE K cs x) = true := by
  rcases rightE_cases h with ⟨rfl, rfl⟩ | ⟨rfl, h⟩
  · exact rightE_one
  · have := putT_right cs x h
    simp [rightE, termsE, this]
theorem termsE_le {K : Int} {cs : List Tm} (x : Tm) : (termsE K cs x).length ≤ cs.length + 1 := by
  unfold termsE
  split
  · exact (putT_length cs x).2
  · omega
/-- What is behind other tags is there. -/
def behindE (K : Int) (cs ds : List Tm) : Prop := ds = cs ∨ (K = 2 ∧ ∃ m, ds = cs ++ m)
theorem termsE_behind (K : Int) (cs : List Tm) (x : Tm) : behindE K cs (termsE K cs x) := by
  unfold termsE behindE
  by_cases h : K = 2
  · rw [if_pos h]
    exact .inr ⟨h, putT_pre cs x⟩
  · rw [if_neg h]
    exact .inl rfl
/-- The tag that was made, by whatever engine behind. -/
theorem bytesE_behind [Inhabited Tab] {K : Int} {cs ds : List Tm} (x : Tm) (hx : K = 2 → x ∈ cs) (h : behindE K cs ds) : bytesE K ds x = bytesE K cs x := by
  rcases h with rfl | ⟨rfl, m, rfl⟩
  · rfl
  · simp only [bytesE, if_pos]
    exact tagT_app cs m x (hx rfl)
theorem bytesE_put [Inhabited Tab] (K : Int) (cs : List Tm) (x : Tm) : bytesE K (termsE K cs x) x = bytesE K cs x := by
  unfold bytesE termsE
  by_cases h : K = 2
  · simp only [if_pos h]
    exact (tagT_put cs x).symm
  · simp only [if_neg h]
theorem termsE_mem (K : Int) (cs : List Tm) (x : Tm) (h : K = 2) : x ∈ termsE K cs x := by
  unfold termsE
  rw [if_pos h]
  exact putT_mem cs x
theorem fitsE_made [Inhabited Tab] {K : Int} {cs ds : List Tm} (x : Tm) (tag : List UInt8) (hr : rightE K ds = true) (h : behindE K (termsE K cs x) ds) : fitsE K ds x tag = decide (bytesE K cs x = tag) := by
  have h1 : bytesE K ds x = bytesE K cs x := by rw [bytesE_behind x (termsE_mem K cs x) h, bytesE_put]
  have h2 : K = 2 → x ∈ ds := fun hK => by
    rcases h with rfl | ⟨_, m, rfl⟩
    · exact termsE_mem K cs x hK
    · exact List.mem_append_left _ (termsE_mem K cs x hK)
  unfold fitsE
  rw [hr, h1, Bool.true_and]
  by_cases hK : K = 2
  · simp [h2 hK]
  · simp [hK]
theorem fitsE_wrong [Inhabited Tab] {K : Int} {cs : List Tm} (x : Tm) (tag : List UInt8) (hr : rightE K cs = false) : fitsE K cs x tag = false := by unfold fitsE; rw [hr]; rfl
theorem fitsE_sym [Inhabited Tab] {cs : List Tm} (x : Tm) (tag : List UInt8) : fitsE 2 cs x tag = true → x ∈ cs ∧ tagT cs x = tag := by
  unfold fitsE bytesE
  simp
/-- A tag that fits one text and key fits no other. -/
theorem fitsE_one [Inhabited Tab] {cs : List Tm} (x y : Tm) (tag : List UInt8) (hl : cs.length ≤ 100000000) (hx : fitsE 2 cs x tag = true) (hy : fitsE 2 cs y tag = true) : x = y := by
  obtain ⟨h1, h2⟩ := fitsE_sym x tag hx
  obtain ⟨h3, h4⟩ := fitsE_sym y tag hy
  exact tagT_inj cs x y h1 h3 (by omega) (by rw [h2, h4])
end Go.Proofs.Ytcejbofdgljemaa
/-
  Rows of the call's own: their form, what is left of them behind other steps, two that stay apart, one known whole; one step more for plans (no program is named here). No conditions but those typed.
-/
namespace Go.Proofs.Ytcejbofdgljemaa
set_option maxRecDepth 100000
open Go.RowKit
set_option linter.unusedSimpArgs false
set_option linter.unusedVariables false

theorem ownsRow_same {w w' : World} {base : Nat} {e : TypeId} {v : Value} {n : Nat} {xs : List Value} (h : w.ownsRow base e 1 v n xs) (hh : ∀ b, base ≤ b → b < w.heap.size → w'.heap[b]? = w.heap[b]?) : w'.ownsRow base e 1 v n xs := by
  refine ⟨h.1, ?_⟩
  rcases h.2 with h0 | ⟨g, cap, cur, hv, hg, hc, r⟩
  · exact .inl h0
  · exact .inr ⟨g, cap, cur, hv, hg, (hh g hg (Array.getElem?_eq_some_iff.1 hc).1).trans hc, r⟩
theorem ownsRow_later {w w' : World} {base : Nat} {e : TypeId} {v : Value} {n : Nat} {xs : List Value} (h : w.ownsRow base e 1 v n xs) (hb : Below w.heap.size w w') : w'.ownsRow base e 1 v n xs := ownsRow_same h (fun b _ hb' => hb.block b hb')
theorem Rd.grown {α : Type} {f : α → Value} {w w' : World} {row : Option Nat} {A : Option Addr} {L : List α} (h : Rd f w A L) (hg : w.grownBy w' row) (hA : ∀ a, A = some a → row ≠ some a.block) : Rd f w' A L := fun hn => by
  obtain ⟨b, o, rfl, hc⟩ := h hn
  refine ⟨b, o, rfl, fun i hi => ?_⟩
  obtain ⟨_, _, _, _, h5⟩ := hg
  have hk := hc i hi
  have hlt : b < w.heap.size := World.block_lt_of_cell? w _ hk
  exact (World.cell?_of_block (w := w) (a := ⟨b, o + i, none⟩) (h5 b hlt (fun e => hA ⟨b, o, none⟩ rfl e.symm))).trans hk
theorem own_slice {α : Type} {f : α → Value} {w : World} {base : Nat} {e : TypeId} {v : Value} {l : List α} (h : w.ownsRow base e 1 v l.length (l.map f)) : ∃ A cap, v = .slice A l.length cap ∧ l.length ≤ cap ∧ Rd f w A l := by
  rcases h.2 with ⟨rfl, h0⟩ | ⟨g, cap, cur, rfl, _, _, hc, _⟩
  · have hl : l = [] := List.eq_nil_of_length_eq_zero h0
    subst hl
    exact ⟨none, 0, rfl, Nat.le_refl _, Rd.nil⟩
  · exact ⟨_, cap, rfl, hc, Rd.own h⟩

theorem Row.range_part {w : World} {g : Nat} {t : TypeId} {l : List Value} (h : Row w g t l) (o : Nat) (m : List Value) (hm : (l.drop o).take m.length = m) : w.rangeAt g o m := fun j v hv => by
  have hj : j < m.length := (List.getElem?_eq_some_iff.1 hv).1
  have := congrArg (·[j]?) hm
  simp only [List.getElem?_take, List.getElem?_drop, hj, if_true] at this
  exact h.cell (this.trans hv)

theorem own_form {w : World} {base : Nat} {e : TypeId} {v : Value} {n : Nat} {xs : List Value} (h : w.ownsRow base e 1 v n xs) : ∃ A cap, v = .slice A n cap ∧ n ≤ cap := by
  rcases h.2 with ⟨rfl, rfl⟩ | ⟨g, cap, cur, rfl, _, _, hc, _⟩
  · exact ⟨none, 0, rfl, Nat.le_refl _⟩
  · exact ⟨_, cap, rfl, hc⟩

theorem apart_symm {u v : Value} (h : u.ownBlock = none ∨ u.ownBlock ≠ v.ownBlock) : v.ownBlock = none ∨ v.ownBlock ≠ u.ownBlock := by
  rcases h with h | h
  · by_cases hv : v.ownBlock = none
    · exact .inl hv
    · exact .inr (by rw [h]; exact hv)
  · exact .inr (Ne.symm h)
/-- Apart, behind the growth of the second one. -/
theorem apart_grown {w : World} {base : Nat} {e : TypeId} {u v v' : Value} {n : Nat} {xs : List Value} (h : u.ownBlock = none ∨ u.ownBlock ≠ v.ownBlock) (ho : w.ownsRow base e 1 u n xs) (hat : v'.ownBlock = v.ownBlock ∨ v'.ownBlock = some w.heap.size) : u.ownBlock = none ∨ u.ownBlock ≠ v'.ownBlock := by
  rcases hat with hat | hat
  · rw [hat]; exact h
  · right
    rw [hat]
    intro hu
    have := (ho.lt _ hu).2
    omega
section
variable {P : Program} {ops : Array Oper} {Q : Exit → Act → World → Prop}
/-- One that makes memory; behind it a condition of one's own, which may speak of the new world. -/
theorem plan_make_to {i : Nat} {rest : Plan} {S : World → Prop} {o : Oper} {a : Act} {w : World} (ho : ops[i]? = some o) (hw : Region.wanted o (yielded ops a.tmps) = true)
    (h : ∀ K : Act → World → Prop, Shut (∀ (T : World → Prop) a' w', (∀ W, T W → S W) → T w' → wpPlan P ops Q rest T a' w' → K a' w') → o.wp P a w K Q) : wpPlan P ops Q (.step i true rest) S a w :=
  ⟨o, ho, .inr (.inr ⟨hw, rfl, h _ (fun T _ _ hT hb hr => ⟨T, hT, hb, hr⟩)⟩)⟩
end

/-- A row of the call's own, one place of it set. -/
theorem own_set {α : Type} {f : α → Value} {w : World} {base : Nat} {e : TypeId} {v : Value} {l : List α} {q : Nat} (h : w.ownsRow base e 1 v l.length (l.map f)) (hq : q < l.length) :
    ∃ g cap, v = .slice (some ⟨g, 0, none⟩) l.length cap ∧ base ≤ g ∧ g < w.heap.size ∧ l.length ≤ cap ∧ w.cell? ⟨g, q, none⟩ = some (f l[q]) ∧ w.frozen? ⟨g, q, none⟩ = false ∧ ∀ z : α, Rd f (w.setCell ⟨g, q, none⟩ (f z)) (some ⟨g, 0, none⟩) (l.set q z) := by
  rcases h.2 with ⟨rfl, h0⟩ | ⟨g, cap, cur, rfl, hg, hgg, hc, hm, hs, ht⟩
  · omega
  · have hR : Row w g e cur.toList := hgg
    rw [Nat.mul_one] at ht
    have hcell : w.cell? ⟨g, q, none⟩ = some (f l[q]) := by
      rw [hR.cell? q]
      have := congrArg (·[q]?) ht
      simpa [List.getElem?_take, hq] using this
    refine ⟨g, cap, rfl, hg, hR.lt, hc, hcell, hR.frozen _, fun z => ?_⟩
    refine Row.rd_at (hR.setCell q (f z)) ?_
    rw [List.drop_zero, List.length_set, List.take_set, ht, List.map_set]
end Go.Proofs.Ytcejbofdgljemaa
/-
  A string as a list of bytes: its length, one byte of it, the end of it, two held together (no program is named here). No conditions but those typed.
-/
namespace Go.Proofs.Ytcejbofdgljemaa
set_option maxRecDepth 100000
open Go.RowKit
set_option linter.unusedSimpArgs false

def strL (l : List UInt8) : ByteArray := ⟨l.toArray⟩
theorem strL_size (l : List UInt8) : (strL l).size = l.length := by simp [strL, ByteArray.size]
theorem strL_toList (l : List UInt8) : (strL l).toList = l := by unfold strL; exact ByteArray.toList_mk l
theorem strL_append (a b : List UInt8) : strL a ++ strL b = strL (a ++ b) := by
  unfold strL
  apply ByteArray.ext
  rw [ByteArray.data_append]
  simp
theorem strL_inj {a b : List UInt8} (h : strL a = strL b) : a = b := by
  have := congrArg ByteArray.toList h
  rwa [strL_toList, strL_toList] at this
theorem strL_drop (l : List UInt8) (k : Nat) : (strL l).extract k (strL l).size = strL (l.drop k) := by
  apply ByteArray.ext
  rw [ByteArray.data_extract, strL_size]
  simp [strL]
  exact List.take_of_length_le (by simp)
theorem run_index_strL {P : Program} (t : TypeId) (l : List UInt8) (i : Nat) (h : i < l.length) (ht : P.underlying t = some .string) (w : World) :
    (Instr.index t (.string (strL l)) (.int .i64 (i : Int))).run P w = .ok (.int .u8 (l[i].toNat : Int)) w := by
  rw [run_index_string w t (strL l) .i64 (i : Int) ht, dif_pos (by rw [strL_size]; omega)]
  simp [strL, ByteArray.getElem_eq_getElem_data]
theorem run_slice_strL {P : Program} (t : TypeId) (l : List UInt8) (k : Nat) (h : k ≤ l.length) (ht : P.underlying t = some .string) (w : World) :
    (Instr.slice t (.string (strL l)) (some (.int .i64 (k : Int))) none none).run P w = .ok (.string (strL (l.drop k))) w := by
  rw [run_slice_string_l w t (strL l) ht .i64 (k : Int) (by omega) (by rw [strL_size]; omega), Int.toNat_natCast, strL_drop]
end Go.Proofs.Ytcejbofdgljemaa
/-
  What bytes.Equal answers. No conditions but those typed.
-/
namespace Go.Proofs.Ytcejbofdgljemaa
set_option maxRecDepth 100000
open Go.RowKit
set_option linter.unusedSimpArgs false
set_option linter.unusedVariables false

theorem str_beq (a b : List UInt8) : ((strL a).toList == (strL b).toList) = decide (a = b) := by
  unfold strL
  rw [ByteArray.toList_mk, ByteArray.toList_mk]
  by_cases h : a = b <;> simp [h]

theorem equal_any (a b : List UInt8) (n m : Nat) (A B : Option Addr) (c d : Nat) (w : World) (HN : Hid (a.length = n)) (HM : Hid (b.length = m)) (ha : Rd vB w A a) (hb : Rd vB w B b) :
    Calls Try.prog 90 #[.slice A n c, .slice B m d] w fun e w' => e = .returned (.bool (decide (a = b))) ∧ w = w' := by
  have s0 : (convert 25 9 (.slice A n c)).run Try.prog w = .ok (.string (strL a)) w := run_str _ _ _ _ Try.underlying25 Try.underlying5 Try.underlying9 _ a _ _ HN.out ha
  have s1 : (convert 25 9 (.slice B m d)).run Try.prog w = .ok (.string (strL b)) w := run_str _ _ _ _ Try.underlying25 Try.underlying5 Try.underlying9 _ b _ _ HM.out hb
  have b0 := str_beq a b
  obtain ⟨r, hr⟩ : ∃ r, r = decide (a = b) := ⟨_, rfl⟩
  rw [← hr] at b0 ⊢
  generalize strL a = SA at s0 b0
  generalize strL b = SB at s1 b0
  clear hr ha hb
  go_enter Try.func90, Try.ntmps90
  go_wp2_with fail
  go_ret
  exact ⟨rfl, rfl⟩
end Go.Proofs.Ytcejbofdgljemaa
/-
  Terms in memory: a slice of structs of two byte slices read as a list; kept, cut, joined. No conditions but those typed.
-/
namespace Go.Proofs.Ytcejbofdgljemaa
set_option maxRecDepth 100000
open Go.RowKit
set_option linter.unusedSimpArgs false
set_option linter.unusedVariables false

/-- A term that lies somewhere: where its key and its text lie, their rooms, and what they are. -/
structure TD where
  kA : Option Addr
  kc : Nat
  k : List UInt8
  mA : Option Addr
  mc : Nat
  m : List UInt8
def TD.at0 (x : TD) : Value := .slice x.kA x.k.length x.kc
def TD.at1 (x : TD) : Value := .slice x.mA x.m.length x.mc
def TD.cells (x : TD) : List Value := [x.at0, x.at1]
def TD.c (x : TD) : Tm := (x.k, x.m)
/-- What a term's two slices point to, is there. -/
def TD.ok (w : World) (x : TD) : Prop := x.k.length ≤ x.kc ∧ x.m.length ≤ x.mc ∧ Rd vB w x.kA x.k ∧ Rd vB w x.mA x.m
def cellsT (ts : List TD) : List Value := ts.flatMap TD.cells
def conT (ts : List TD) : List Tm := ts.map TD.c

/-- The slice with address A has these terms' cells, one behind the other. -/
def RdT (w : World) (A : Option Addr) (ts : List TD) : Prop :=
  ts ≠ [] → ∃ b o, A = some ⟨b, o, none⟩ ∧ ∀ i (h : i < ts.length), w.cell? ⟨b, o + i * 2, none⟩ = some ts[i].at0 ∧ w.cell? ⟨b, o + i * 2 + 1, none⟩ = some ts[i].at1
def okT (w : World) (ts : List TD) : Prop := ∀ x ∈ ts, x.ok w

theorem conT_length (ts : List TD) : (conT ts).length = ts.length := by simp [conT]
theorem cellsT_length : ∀ ts : List TD, (cellsT ts).length = ts.length * 2
  | [] => rfl
  | x :: ts => by
    have := cellsT_length ts
    unfold cellsT at *
    rw [List.flatMap_cons, List.length_append, this, List.length_cons]
    simp [TD.cells]
    omega
theorem cellsT_get : ∀ (ts : List TD) (i : Nat) (h : i < ts.length), (cellsT ts)[i * 2]? = some ts[i].at0 ∧ (cellsT ts)[i * 2 + 1]? = some ts[i].at1
  | x :: ts, 0, _ => ⟨rfl, rfl⟩
  | x :: ts, i + 1, h => by
    have ih := cellsT_get ts i (by simpa using h)
    have e : cellsT (x :: ts) = x.at0 :: x.at1 :: cellsT ts := rfl
    rw [e, show (i + 1) * 2 = i * 2 + 1 + 1 by omega, List.getElem?_cons_succ, List.getElem?_cons_succ, List.getElem?_cons_succ, List.getElem?_cons_succ]
    exact ih
theorem conT_get (ts : List TD) (i : Nat) (h : i < ts.length) : (conT ts)[i]'(by rw [conT_length]; exact h) = ts[i].c := by simp [conT]
theorem TD.ok.keep {w w' : World} {x : TD} (h : x.ok w) (hb : Below w.heap.size w w') : x.ok w' := ⟨h.1, h.2.1, h.2.2.1.keep hb, h.2.2.2.keep hb⟩
theorem okT.keep {w w' : World} {ts : List TD} (h : okT w ts) (hb : Below w.heap.size w w') : okT w' ts := fun x hx => (h x hx).keep hb
theorem okT.app {w : World} {ts us : List TD} (h : okT w ts) (k : okT w us) : okT w (ts ++ us) := fun x hx => (List.mem_append.1 hx).elim (h x) (k x)
theorem okT.take {w : World} {ts : List TD} (h : okT w ts) (n : Nat) : okT w (ts.take n) := fun x hx => h x (List.mem_of_mem_take hx)
section
variable {w w' : World} {A : Option Addr} {ts : List TD}
theorem RdT.nil : RdT w A [] := fun h => absurd rfl h
theorem RdT.at (h : RdT w A ts) {k : Nat} (hk : k < ts.length) : ∃ b o, A = some ⟨b, o, none⟩ ∧ b < w.heap.size ∧ ∀ i (h : i < ts.length), w.cell? ⟨b, o + i * 2, none⟩ = some ts[i].at0 ∧ w.cell? ⟨b, o + i * 2 + 1, none⟩ = some ts[i].at1 := by
  obtain ⟨b, o, e, hc⟩ := h (by rintro rfl; simp at hk)
  exact ⟨b, o, e, World.block_lt_of_cell? w _ (hc k hk).1, hc⟩
theorem RdT.keep (h : RdT w A ts) (hb : Below w.heap.size w w') : RdT w' A ts := fun hn => by
  obtain ⟨b, o, e, hc⟩ := h hn
  refine ⟨b, o, e, fun i hi => ?_⟩
  obtain ⟨h0, h1⟩ := hc i hi
  have hlt := World.block_lt_of_cell? w _ h0
  exact ⟨(hb.cell (p := ⟨b, o + i * 2, none⟩) hlt).trans h0, (hb.cell (p := ⟨b, o + i * 2 + 1, none⟩) hlt).trans h1⟩
theorem RdT.take (h : RdT w A ts) (n : Nat) : RdT w A (ts.take n) := fun hn => by
  obtain ⟨b, o, e, hc⟩ := h (by rintro rfl; simp at hn)
  refine ⟨b, o, e, fun i hi => ?_⟩
  have hi' : i < ts.length := by simp at hi; omega
  have := hc i hi'
  simpa using this
theorem RdT.range {b o : Nat} (h : RdT w (some ⟨b, o, none⟩) ts) : ∀ j u, (cellsT ts)[j]? = some u → w.cell? ((⟨b, o, none⟩ : Addr).add j) = some u := fun j u hu => by
  have hj : j < ts.length * 2 := by
    rw [← cellsT_length]
    exact (List.getElem?_eq_some_iff.1 hu).1
  have hi : j / 2 < ts.length := by omega
  obtain ⟨b', o', e, hc⟩ := h (by rintro rfl; simp at hi)
  injection e with e
  injection e with e1 e2 _
  subst e1 e2
  obtain ⟨h0, h1⟩ := hc (j / 2) hi
  obtain ⟨g0, g1⟩ := cellsT_get ts (j / 2) hi
  have e1 : (⟨b, o, none⟩ : Addr).add j = ⟨b, o + j, none⟩ := by unfold Addr.add; split <;> simp_all
  rw [e1]
  by_cases hp : j % 2 = 0
  · have e2 : j / 2 * 2 = j := by omega
    rw [e2] at h0 g0
    rw [h0, ← g0, hu]
  · have e2 : j / 2 * 2 + 1 = j := by omega
    rw [Nat.add_assoc, e2] at h1
    rw [e2] at g1
    rw [h1, ← g1, hu]
theorem RdT.own {base : Nat} {e : TypeId} {n c : Nat} (h : w.ownsRow base e 2 (.slice A n c) n (cellsT ts)) : RdT w A ts := fun hn => by
  have hl : ts.length = n := by
    have := h.1
    rw [cellsT_length] at this
    omega
  have hpos : 0 < n := by
    rcases Nat.eq_zero_or_pos n with h0 | h0
    · exact absurd (List.eq_nil_of_length_eq_zero (by omega)) hn
    · exact h0
  obtain ⟨g, cap, hv, _, hlt⟩ := h.form hpos
  have hA : A = some ⟨g, 0, none⟩ := by injection hv
  subst hA
  refine ⟨g, 0, rfl, fun i hi => ?_⟩
  obtain ⟨g0, g1⟩ := cellsT_get ts i hi
  have h0 := h.cells (g := g) rfl _ _ g0
  have h1 := h.cells (g := g) rfl _ _ g1
  have e1 : ∀ j, (⟨g, 0, none⟩ : Addr).add j = ⟨g, 0 + j, none⟩ := fun j => by unfold Addr.add; split <;> simp_all
  rw [e1] at h0 h1
  exact ⟨h0, h1⟩
theorem own_sliceT {base : Nat} {e : TypeId} {v : Value} (h : w.ownsRow base e 2 v ts.length (cellsT ts)) : ∃ A cap, v = .slice A ts.length cap ∧ ts.length ≤ cap ∧ RdT w A ts := by
  rcases h.2 with ⟨rfl, h0⟩ | ⟨g, cap, cur, rfl, _, _, hc, _⟩
  · have hl : ts = [] := List.eq_nil_of_length_eq_zero h0
    subst hl
    exact ⟨none, 0, rfl, Nat.le_refl _, RdT.nil⟩
  · exact ⟨_, cap, rfl, hc, RdT.own h⟩
end
theorem cellsT_one : ∀ (ts : List TD), ∀ u ∈ cellsT ts, u.oneCell' = true := fun ts u hu => by
  obtain ⟨x, _, hx⟩ := List.mem_flatMap.1 hu
  simp [TD.cells, TD.at0, TD.at1] at hx
  rcases hx with rfl | rfl <;> rfl
theorem rangeAt_keep {w w' : World} {g o : Nat} {l : List Value} (h : w.rangeAt g o l) (hb : Below w.heap.size w w') (hg : g < w.heap.size) : w'.rangeAt g o l := fun j v hv => (hb.cell (p := ⟨g, o + j, none⟩) hg).trans (h j v hv)
/-- What lies below block B is there behind a store to a block not below it. -/
theorem Rd.setRow_old {α : Type} {f : α → Value} {w w' : World} {A : Option Addr} {L : List α} (h : Rd f w A L) (hb : Below w.heap.size w w') {g : Nat} (hg : w.heap.size ≤ g) (cs : Array Value) : Rd f (w'.setRow g cs) A L := fun hn => by
  obtain ⟨b, o, rfl, hc⟩ := h hn
  refine ⟨b, o, rfl, fun i hi => ?_⟩
  have hk := hc i hi
  have hlt : b < w.heap.size := World.block_lt_of_cell? w _ hk
  rw [cell_setRow_other w' g cs ⟨b, o + i, none⟩ (by show b ≠ g; omega), hb.cell (p := ⟨b, o + i, none⟩) hlt]
  exact hk
theorem TD.ok.setRow_old {w w' : World} {x : TD} (h : x.ok w) (hb : Below w.heap.size w w') {g : Nat} (hg : w.heap.size ≤ g) (cs : Array Value) : x.ok (w'.setRow g cs) := ⟨h.1, h.2.1, h.2.2.1.setRow_old hb hg cs, h.2.2.2.setRow_old hb hg cs⟩

/-! ### A store into a block that holds no bytes, and no terms -/
theorem vB_inj {a b : UInt8} (h : vB a = vB b) : a = b := by
  unfold vB at h
  injection h with _ h
  exact UInt8.toNat_inj.1 (by omega)
theorem Rd.setRow_row {w : World} {A : Option Addr} {L : List UInt8} (h : Rd vB w A L) {g : Nat} {t : TypeId} {l : List Value} (hR : Row w g t l) (hl : ∀ v ∈ l, ∀ x, v ≠ vB x) (cs : Array Value) : Rd vB (w.setRow g cs) A L := fun hn => by
  obtain ⟨b, o, rfl, hc⟩ := h hn
  refine ⟨b, o, rfl, fun i hi => ?_⟩
  have hne : b ≠ g := by
    rintro rfl
    have h1 := hc i hi
    rw [hR.cell? (o + i)] at h1
    exact hl _ (List.mem_of_getElem? h1) _ rfl
  exact (cell_setRow_other w g cs ⟨b, o + i, none⟩ hne).trans (hc i hi)
theorem TD.ok.setRow_row {w : World} {x : TD} (h : x.ok w) {g : Nat} {t : TypeId} {l : List Value} (hR : Row w g t l) (hl : ∀ v ∈ l, ∀ x, v ≠ vB x) (cs : Array Value) : x.ok (w.setRow g cs) := ⟨h.1, h.2.1, h.2.2.1.setRow_row hR hl cs, h.2.2.2.setRow_row hR hl cs⟩
theorem okT.setRow_row {w : World} {ts : List TD} (h : okT w ts) {g : Nat} {t : TypeId} {l : List Value} (hR : Row w g t l) (hl : ∀ v ∈ l, ∀ x, v ≠ vB x) (cs : Array Value) : okT (w.setRow g cs) ts := fun x hx => (h x hx).setRow_row hR hl cs
/-- A number and a slice are no bytes; and no term is a number. -/
theorem two_no_byte (k : Int) (v : Value) (hv : ∀ x, v ≠ vB x) : ∀ u ∈ ([.int .i64 k, v] : List Value), ∀ x, u ≠ vB x := fun u hu x e => by
  simp at hu
  rcases hu with rfl | rfl
  · unfold vB at e
    injection e with e _
    cases e
  · exact hv x e
theorem slice_no_byte (A : Option Addr) (n c : Nat) : ∀ x, (Value.slice A n c) ≠ vB x := fun x e => by unfold vB at e; cases e
theorem RdT.setRow_row {w : World} {A : Option Addr} {ts : List TD} (h : RdT w A ts) {g : Nat} {t : TypeId} {k : Int} {v : Value} (hR : Row w g t [.int .i64 k, v]) (cs : Array Value) : RdT (w.setRow g cs) A ts := fun hn => by
  obtain ⟨b, o, rfl, hc⟩ := h hn
  refine ⟨b, o, rfl, fun i hi => ?_⟩
  obtain ⟨h0, h1⟩ := hc i hi
  have hne : b ≠ g := by
    rintro rfl
    rw [hR.cell? (o + i * 2)] at h0
    rw [hR.cell? (o + i * 2 + 1)] at h1
    rcases Nat.eq_zero_or_pos (o + i * 2) with e | e
    · rw [e] at h0
      injection h0 with h0
      unfold TD.at0 at h0
      cases h0
    · rw [List.getElem?_eq_none (by simp; omega)] at h1
      cases h1
  exact ⟨(cell_setRow_other w g cs ⟨b, o + i * 2, none⟩ hne).trans h0, (cell_setRow_other w g cs ⟨b, o + i * 2 + 1, none⟩ hne).trans h1⟩

/-! ### append, elements of any size -/
section
variable {P : Program} (w : World)
theorem run_append_gen (base : Nat) (t ty e : TypeId) (i : TypeInfo) (z : Value) (size bytes : Nat) (ht : P.underlying t = some (.slice e)) (hi : P.info? e = some i) (hz : i.zero = some z)
    (hsize : i.size = size) (hby : i.bytes = bytes) (hzs : z.cells.size = size) (hsz : 0 < size) (v : Value) (n : Nat) (xs : List Value) (hown : w.ownsRow base e size v n xs)
    (A : Option Addr) (m c : Nat) (news : List Value) (hl : news.length = m * size) (hr : news ≠ [] → ∃ b o, A = some ⟨b, o, none⟩ ∧ ∀ j u, news[j]? = some u → w.cell? ((⟨b, o, none⟩ : Addr).add j) = some u) (h1 : ∀ u ∈ news, u.oneCell' = true)
    (h63 : n + m ≤ maxLen) (hbytes : (n + m) * bytes ≤ 140737488355328) (hbase : base ≤ w.heap.size) :
    ∃ v' w', (Builtin.append_ #[t, t] ty #[v, .slice A m c]).run P w = .ok v' w' ∧ w'.ownsRow base e size v' (n + m) (xs ++ news) ∧ w.grownBy w' v.ownBlock := by
  by_cases hm : m = 0
  · subst hm
    have e0 : news = [] := List.eq_nil_of_length_eq_zero (by omega)
    subst e0
    cases A with
    | none =>
      refine ⟨v, w, ?_, by simpa using hown, ⟨rfl, rfl, rfl, Nat.le_refl _, fun _ _ _ => rfl⟩⟩
      rcases hown.2 with ⟨rfl, rfl⟩ | ⟨g, cap, cur, rfl, _, _, hnc, _⟩
      · simp [Builtin.append_, run_underlying ht, sizeOf, typeInfo, hi, Builtin.lenOf, Builtin.firstCells]
      · simp [Builtin.append_, run_underlying ht, sizeOf, typeInfo, hi, Builtin.lenOf, Builtin.firstCells, hnc, storeCells]
    | some ad =>
      obtain ⟨v', w', hrun, h2, h3, _⟩ := run_append_own (P := P) w base t ty e i z size bytes ht hi hz hsize hby hzs hsz v n xs hown ad 0 c [] (by simp) (fun j u h => by simp at h) (fun u h => by simp at h) h63 hbytes hbase
      exact ⟨v', w', hrun, h2, h3⟩
  · have hne : news ≠ [] := by
      rintro rfl
      have h0 : m * size = 0 := by rw [← hl]; rfl
      rcases Nat.mul_eq_zero.1 h0 with h | h <;> omega
    obtain ⟨b, o, rfl, hc⟩ := hr hne
    obtain ⟨v', w', hrun, h2, h3, _⟩ := run_append_own (P := P) w base t ty e i z size bytes ht hi hz hsize hby hzs hsz v n xs hown ⟨b, o, none⟩ m c news hl hc h1 h63 hbytes hbase
    exact ⟨v', w', hrun, h2, h3⟩
theorem wpList_append_gen {ops : Array Oper} {rest : List Oper} {o : Oper} {a : Act} {Q : Exit → Act → World → Prop} (hgd : o.guard = none) (s x : Operand) (t : TypeId)
    (ho : o.op = .call { callee := .builtin .append, args := #[s, x], argTypes := #[t, t] })
    (base : Nat) (e : TypeId) (i : TypeInfo) (z : Value) (size bytes : Nat) (ht : P.underlying t = some (.slice e)) (hi : P.info? e = some i) (hz : i.zero = some z)
    (hsize : i.size = size) (hby : i.bytes = bytes) (hzs : z.cells.size = size) (hsz : 0 < size) (v : Value) (n : Nat) (xs : List Value) (hs : a.eval s = v) (hown : w.ownsRow base e size v n xs)
    (A : Option Addr) (m c : Nat) (news : List Value) (hx : a.eval x = .slice A m c) (hl : news.length = m * size) (hr : news ≠ [] → ∃ b o, A = some ⟨b, o, none⟩ ∧ ∀ j u, news[j]? = some u → w.cell? ((⟨b, o, none⟩ : Addr).add j) = some u) (h1 : ∀ u ∈ news, u.oneCell' = true)
    (h63 : n + m ≤ maxLen) (hbytes : (n + m) * bytes ≤ 140737488355328) (hbase : base ≤ w.heap.size)
    (h : ∀ v' w', w'.ownsRow base e size v' (n + m) (xs ++ news) → w.grownBy w' v.ownBlock → wpList P ops Q rest (a.put o.dst v') w') : wpList P ops Q (o :: rest) a w := by
  refine wpList_plain hgd fun K hK => ?_
  obtain ⟨v', w', hr, h2, h3⟩ := run_append_gen (P := P) w base t o.type e i z size bytes ht hi hz hsize hby hzs hsz v n xs hown A m c news hl hr h1 h63 hbytes hbase
  unfold Oper.wp execOp
  simp only [ho, resolve, invoke, builtin, Sem.run_bind, Sem.run_pure, Result.andThen_ok, List.map_toArray, List.map_cons, List.map_nil, hs, hx, hr]
  exact hK _ _ (h v' w' h2 h3)
end
theorem RdT.news {w : World} {A : Option Addr} {ts : List TD} (h : RdT w A ts) : cellsT ts ≠ [] → ∃ b o, A = some ⟨b, o, none⟩ ∧ ∀ j u, (cellsT ts)[j]? = some u → w.cell? ((⟨b, o, none⟩ : Addr).add j) = some u := fun hn => by
  have hne : ts ≠ [] := by
    rintro rfl
    exact hn rfl
  obtain ⟨b, o, e, _⟩ := h hne
  subst e
  exact ⟨b, o, rfl, h.range⟩
/-- A row of bytes of the call's own, as a slice; its block is none of the older ones. -/
theorem own_sliceN {α : Type} {f : α → Value} {w : World} {base : Nat} {e : TypeId} {v : Value} {l : List α} (h : w.ownsRow base e 1 v l.length (l.map f)) : ∃ A cap, v = .slice A l.length cap ∧ l.length ≤ cap ∧ Rd f w A l ∧ ∀ a, A = some a → base ≤ a.block := by
  rcases h.2 with ⟨rfl, h0⟩ | ⟨g, cap, cur, rfl, hg, _, hc, _⟩
  · have hl : l = [] := List.eq_nil_of_length_eq_zero h0
    subst hl
    exact ⟨none, 0, rfl, Nat.le_refl _, Rd.nil, fun a h => by cases h⟩
  · exact ⟨_, cap, rfl, hc, Rd.own h, fun a ha => by injection ha with ha; subst ha; exact hg⟩
theorem info_term : (Try.prog.info? 40).map (fun i => (i.zero, i.size, i.bytes)) = some (some (.agg #[.slice none 0 0, .slice none 0 0]), 2, 48) := by kernel_rfl
end Go.Proofs.Ytcejbofdgljemaa
/-
  What the reference's call Place of layer 5 answers. No conditions but those typed.
-/
namespace Go.Proofs.Ytcejbofdgljemaa
set_option maxRecDepth 100000
open Go.RowKit
set_option linter.unusedSimpArgs false
set_option linter.unusedVariables false

def PlRel (cs : List Tm) (x : Tm) (w : World) (i : Value) (wr : World) : Prop :=
  ∃ k : Nat, k ≤ cs.length ∧ i = .int .i64 (k : Int) ∧ (∀ j (h : j < k) (h' : j < cs.length), cs[j] ≠ x) ∧ Below w.heap.size w wr
theorem PlRel.next {cs : List Tm} {x : Tm} {k : Nat} (hk : k < cs.length) (h : ∀ j (h : j < k) (h' : j < cs.length), cs[j] ≠ x) (hn : cs[k] ≠ x) : ∀ j (h : j < k + 1) (h' : j < cs.length), cs[j] ≠ x := fun j hj h' => by
  rcases Nat.lt_or_ge j k with h1 | h1
  · exact h j h1 h'
  · have : j = k := by omega
    subst this
    exact hn

set_option maxHeartbeats 1000000 in
theorem refplace_any (ts : List TD) (key msg : List UInt8) (p n m : Nat) (A B C : Option Addr) (c d e : Nat) (w : World) (HP : Hid (ts.length = p)) (HN : Hid (key.length = n)) (HM : Hid (msg.length = m)) (ht : RdT w A ts) (hok : okT w ts) (hk : Rd vB w B key) (hm : Rd vB w C msg) (hp : p ≤ 1000000000) :
    Calls Try.prog 21 #[.slice A p c, .slice B n d, .slice C m e] w fun e w' => e = .returned (.int .i64 (plI (conT ts) (key, msg))) ∧ Below w.heap.size w w' := by
  have e1 := HP.out
  have e2 := HN.out
  have e3 := HM.out
  subst e1 e2 e3
  have HOK := Lib.hid hok
  clear hok HP HN HM
  go_enter Try.func21, Try.ntmps21
  go_wp2_with fail
  go_loopw [7] (fun i wr => PlRel (conT ts) (key, msg) w i wr) (fun i _ => ts.length - (intOf i).toNat)
  case atStart => exact ⟨0, Nat.zero_le _, rfl, fun j h => absurd h (by omega), Below.refl _ _⟩
  case round =>
    obtain ⟨k, hk1, rfl, hbef, hB⟩ := hrel
    by_cases hlt : k < ts.length
    · obtain ⟨blk, o, rfl, hblk, hcell⟩ := ht.at hlt
      have hx := HOK.out ts[k] (List.getElem_mem hlt)
      have hg := conT_get ts k hlt
      have hlc : k < (conT ts).length := by rw [conT_length]; exact hlt
      have HBE : Hid (ts[k].c ≠ (key, msg) → ∀ j (h : j < k + 1) (h' : j < (conT ts).length), (conT ts)[j] ≠ (key, msg)) := fun hn => PlRel.next hlc hbef (by rw [hg]; exact hn)
      have HEQ : Hid (ts[k].c = (key, msg) → plI (conT ts) (key, msg) = (k : Int)) := fun h => by
        have hi := idx_of (key, msg) (conT ts) k (by omega) hbef (.inr ⟨hlc, by rw [hg]; exact h⟩)
        rw [plI_in _ _ ((idx_lt _ _).1 (by omega)), hi]
      obtain ⟨h0, h1⟩ := hcell k hlt
      have hc0 : ∀ W, Below wr.heap.size wr W → W.cell? ⟨blk, o + k * 2, none⟩ = some ts[k].at0 := fun W hW => ((below_step hB hW).cell (p := ⟨blk, o + k * 2, none⟩) hblk).trans h0
      have hc1 : ∀ W, Below wr.heap.size wr W → W.cell? ⟨blk, o + k * 2 + 1, none⟩ = some ts[k].at1 := fun W hW => ((below_step hB hW).cell (p := ⟨blk, o + k * 2 + 1, none⟩) hblk).trans h1
      generalize ts[k] = x at hx HBE HEQ hc0 hc1
      obtain ⟨kA, kc, K, mA, mc, M⟩ := x
      obtain ⟨_, _, hK, hM⟩ := hx
      unfold TD.at0 TD.at1 at *
      unfold TD.c at HBE HEQ
      dsimp only at hK hM HBE HEQ hc0 hc1
      have hs0 : ∀ W, Below wr.heap.size wr W → (convert 25 9 (.slice kA K.length kc)).run Try.prog W = .ok (.string (strL K)) W := run_str_later Try.underlying25 Try.underlying5 Try.underlying9 (hK.keep hB)
      have hs1 : ∀ W, Below wr.heap.size wr W → (convert 25 9 (.slice B key.length d)).run Try.prog W = .ok (.string (strL key)) W := run_str_later Try.underlying25 Try.underlying5 Try.underlying9 (hk.keep hB)
      have hs2 : ∀ W, Below wr.heap.size wr W → (convert 25 9 (.slice mA M.length mc)).run Try.prog W = .ok (.string (strL M)) W := run_str_later Try.underlying25 Try.underlying5 Try.underlying9 (hM.keep hB)
      have hs3 : ∀ W, Below wr.heap.size wr W → (convert 25 9 (.slice C msg.length e)).run Try.prog W = .ok (.string (strL msg)) W := run_str_later Try.underlying25 Try.underlying5 Try.underlying9 (hm.keep hB)
      have b0 := str_beq K key
      have b1 := str_beq M msg
      have i0 : (0 : Int) ≤ (k : Int) := by omega
      have i1 : (k : Int) < (ts.length : Int) := by omega
      have hBase : Below wr.heap.size wr wr.drew := (Below.refl _ _).drew
      have HB := Lib.hid hB
      by_cases ek : K = key
      · have d0 : decide (K = key) = true := by simp [ek]
        rw [d0] at b0
        by_cases em : M = msg
        · have d1 : decide (M = msg) = true := by simp [em]
          rw [d1] at b1
          have HQ := Lib.hid (HEQ.out (by rw [ek, em]))
          generalize strL K = SK at b0 hs0
          generalize strL key = Skey at b0 hs1
          generalize strL M = SM at b1 hs2
          generalize strL msg = Smsg at b1 hs3
          clear hcell h0 h1 hK hM HBE HEQ hbef ht hk hm hg hlc hk1 ek em d0 d1 hB
          go_wp2_with fail
          refine wp_region_plan (.step 0 false (.step 1 false (.step 2 false (.step 3 false (.step 4 false (.step 5 false (.step 6 false (.step 7 false (.step 8 false (.step 9 false (.step 10 false (.step 11 false (.step 12 false (.step 13 false (.step 14 false (.step 15 false (.step 16 false (.step 17 false (.step 18 false (.step 19 false (.nil))))))))))))))))))))) (by kernel_rfl) (by kernel_rfl) (by rfl) (by kernel_rfl) ?_
          iterate 20 (refine plan_read rfl (by rfl) (v := ?_) ?_ ?_; rotate_left 1; (intro W hW; have hW0 := below_step hBase hW; (try dsimp only at hW); go_simp <;> with_reducible rfl); simp only [List.getElem_toArray, List.getElem_cons_zero, List.getElem_cons_succ, Act.put, List.setIfInBounds_toArray, List.set_cons_zero, List.set_cons_succ])
          refine plan_done ?_
          go_wp2_with fail
          go_ret
          exact ⟨by rw [HQ.out]; rfl, HB.out.drew⟩
        · have d1 : decide (M = msg) = false := by simp [em]
          rw [d1] at b1
          have HR : Hid (PlRel (conT ts) (key, msg) w (.int .i64 ((k : Int) + 1)) wr.drew) := ⟨k + 1, hlc, by go_num, HBE.out (fun e => em (Prod.mk.inj e).2), hB.drew⟩
          generalize strL K = SK at b0 hs0
          generalize strL key = Skey at b0 hs1
          generalize strL M = SM at b1 hs2
          generalize strL msg = Smsg at b1 hs3
          clear hcell h0 h1 hK hM HBE HEQ hbef ht hk hm hg hlc hk1 ek em d0 d1 hB
          go_wp2_with fail
          refine wp_region_plan (.step 0 false (.step 1 false (.step 2 false (.step 3 false (.step 4 false (.step 5 false (.step 6 false (.step 7 false (.step 8 false (.step 9 false (.step 10 false (.step 11 false (.step 12 false (.step 13 false (.step 14 false (.step 15 false (.step 16 false (.step 17 false (.step 18 false (.step 19 false (.nil))))))))))))))))))))) (by kernel_rfl) (by kernel_rfl) (by rfl) (by kernel_rfl) ?_
          iterate 20 (refine plan_read rfl (by rfl) (v := ?_) ?_ ?_; rotate_left 1; (intro W hW; have hW0 := below_step hBase hW; (try dsimp only at hW); go_simp <;> with_reducible rfl); simp only [List.getElem_toArray, List.getElem_cons_zero, List.getElem_cons_succ, Act.put, List.setIfInBounds_toArray, List.set_cons_zero, List.set_cons_succ])
          refine plan_done ?_
          go_wp2_with fail
          go_roundw
          case rel => exact HR.out
          case measure => simp [intOf]; omega
      · have d0 : decide (K = key) = false := by simp [ek]
        rw [d0] at b0
        have HR : Hid (PlRel (conT ts) (key, msg) w (.int .i64 ((k : Int) + 1)) wr.drew) := ⟨k + 1, hlc, by go_num, HBE.out (fun e => ek (Prod.mk.inj e).1), hB.drew⟩
        generalize strL K = SK at b0 hs0
        generalize strL key = Skey at b0 hs1
        clear hcell h0 h1 hK hM HBE HEQ hbef ht hk hm hg hlc hk1 ek d0 hB b1
        go_wp2_with fail
        refine wp_region_plan (.step 0 false (.step 1 false (.step 2 false (.step 3 false (.step 4 false (.step 5 false (.step 6 false (.step 7 false (.step 8 false (.step 9 false (.step 10 false (.step 11 false (.step 12 false (.step 13 false (.step 14 false (.step 15 false (.step 16 false (.step 17 false (.step 18 false (.step 19 false (.nil))))))))))))))))))))) (by kernel_rfl) (by kernel_rfl) (by rfl) (by kernel_rfl) ?_
        iterate 10 (refine plan_read rfl (by rfl) (v := ?_) ?_ ?_; rotate_left 1; (intro W hW; have hW0 := below_step hBase hW; (try dsimp only at hW); go_simp <;> with_reducible rfl); simp only [List.getElem_toArray, List.getElem_cons_zero, List.getElem_cons_succ, Act.put, List.setIfInBounds_toArray, List.set_cons_zero, List.set_cons_succ])
        iterate 9 (refine plan_skip rfl (by rfl) ?_; simp only [List.getElem_toArray, List.getElem_cons_zero, List.getElem_cons_succ, Act.put, List.setIfInBounds_toArray, List.set_cons_zero, List.set_cons_succ])
        iterate 1 (refine plan_read rfl (by rfl) (v := ?_) ?_ ?_; rotate_left 1; (intro W hW; have hW0 := below_step hBase hW; (try dsimp only at hW); go_simp <;> with_reducible rfl); simp only [List.getElem_toArray, List.getElem_cons_zero, List.getElem_cons_succ, Act.put, List.setIfInBounds_toArray, List.set_cons_zero, List.set_cons_succ])
        refine plan_done ?_
        go_wp2_with fail
        go_roundw
        case rel => exact HR.out
        case measure => simp [intOf]; omega
    · have hn : plI (conT ts) (key, msg) = -1 := by
        refine plI_out _ _ (fun hx => ?_)
        have h1 := (idx_lt _ _).2 hx
        exact hbef _ (by rw [conT_length] at h1; omega) h1 (idx_get _ _ h1)
      have j1 : ¬ (k : Int) < (ts.length : Int) := by omega
      have HN := Lib.hid hn
      clear hn hbef hk1
      go_wp2_with fail
      go_ret
      exact ⟨by rw [HN.out]; rfl, hB⟩

end Go.Proofs.Ytcejbofdgljemaa
/-
  What the reference's calls Right, Same and Short of layer 5 answer. No conditions but those typed.
-/
namespace Go.Proofs.Ytcejbofdgljemaa
set_option maxRecDepth 100000
open Go.RowKit
set_option linter.unusedSimpArgs false
set_option linter.unusedVariables false

/-! ### Right -/
def RiRel (cs : List Tm) (w : World) (i : Value) (wr : World) : Prop :=
  ∃ k : Nat, k ≤ cs.length ∧ i = .int .i64 (k : Int) ∧ (∀ j (h : j < k) (h' : j < cs.length), idx cs[j] cs = j) ∧ Below w.heap.size w wr

set_option maxHeartbeats 1000000 in
theorem refright_any (ts : List TD) (p : Nat) (A : Option Addr) (c : Nat) (w : World) (HP : Hid (ts.length = p)) (ht : RdT w A ts) (hok : okT w ts) (hp : p ≤ 1000000000) :
    Calls Try.prog 16 #[.slice A p c] w fun e w' => e = .returned (.bool (rightT (conT ts))) ∧ Below w.heap.size w w' := by
  have e1 := HP.out
  subst e1
  have HOK := Lib.hid hok
  have HT := Lib.hid ht
  clear hok HP
  go_enter Try.func16, Try.ntmps16
  go_wp2_with fail
  go_loopw [3] (fun i wr => RiRel (conT ts) w i wr) (fun i _ => ts.length - (intOf i).toNat)
  case atStart => exact ⟨0, Nat.zero_le _, rfl, fun j h => absurd h (by omega), Below.refl _ _⟩
  case round =>
    obtain ⟨k, hk1, rfl, hbef, hB⟩ := hrel
    by_cases hlt : k < ts.length
    · obtain ⟨blk, o, rfl, hblk, hcell⟩ := ht.at hlt
      have hx := HOK.out ts[k] (List.getElem_mem hlt)
      have hg := conT_get ts k hlt
      have hlc : k < (conT ts).length := by rw [conT_length]; exact hlt
      have hin : ts[k].c ∈ conT ts := by rw [← hg]; exact List.getElem_mem hlc
      obtain ⟨h0, h1⟩ := hcell k hlt
      have hc0 : ∀ W, Below wr.heap.size wr W → W.cell? ⟨blk, o + k * 2, none⟩ = some ts[k].at0 := fun W hW => ((below_step hB hW).cell (p := ⟨blk, o + k * 2, none⟩) hblk).trans h0
      have hc1 : ∀ W, Below wr.heap.size wr W → W.cell? ⟨blk, o + k * 2 + 1, none⟩ = some ts[k].at1 := fun W hW => ((below_step hB hW).cell (p := ⟨blk, o + k * 2 + 1, none⟩) hblk).trans h1
      have hpl := plI_in _ _ hin
      have HNE : Hid (idx ts[k].c (conT ts) ≠ k → rightT (conT ts) = false) := fun hn => by
        rw [Bool.eq_false_iff]
        intro hr
        have := (right_iff _).1 hr k hlc
        rw [hg] at this
        exact hn this
      have HEQ : Hid (idx ts[k].c (conT ts) = k → ∀ j (h : j < k + 1) (h' : j < (conT ts).length), idx (conT ts)[j] (conT ts) = j) := fun he j hj h' => by
        rcases Nat.lt_or_ge j k with h1 | h1
        · exact hbef j h1 h'
        · have : j = k := by omega
          subst this
          rw [hg]
          exact he
      have hle := idx_le ts[k].c (conT ts)
      rw [conT_length] at hle
      obtain ⟨q, hq⟩ : ∃ q, q = idx ts[k].c (conT ts) := ⟨_, rfl⟩
      rw [← hq] at hpl HNE HEQ hle
      have HPL := Lib.hid hpl
      generalize ts[k] = x at hx hc0 hc1 HPL
      clear hq hpl hin h0 h1 hcell hg
      obtain ⟨kA, kc, kl, mA, mc, ml⟩ := x
      obtain ⟨_, _, hkl, hml⟩ := hx
      unfold TD.at0 TD.at1 at *
      unfold TD.c at HPL
      dsimp only at hkl hml HPL hc0 hc1
      have i0 : (0 : Int) ≤ (k : Int) := by omega
      have i1 : (k : Int) < (ts.length : Int) := by omega
      have hBase : Below wr.heap.size wr wr.drew := (Below.refl _ _).drew
      have HB := Lib.hid hB
      by_cases e : q = k
      · have HR : Hid (∀ W, Below wr.heap.size wr W → RiRel (conT ts) w (.int .i64 ((k : Int) + 1)) W) := fun W hW => ⟨k + 1, hlc, by go_num, HEQ.out e, below_step HB.out hW⟩
        have hne : ((q : Int) != (k : Int)) = false := by simp; omega
        clear HEQ HNE hbef hlc hk1 e hB hle
        go_wp2_with fail
        refine wp_region_plan (.step 0 false (.step 1 false (.step 2 false (.step 3 false (.step 4 false (.step 5 false (.step 6 false (.step 7 false (.step 8 false (.step 9 false (.step 10 false (.step 12 false (.step 11 true (.step 13 false (.nil))))))))))))))) (by kernel_rfl) (by kernel_rfl) (by rfl) (by kernel_rfl) ?_
        iterate 12 (refine plan_read rfl (by rfl) (v := ?_) ?_ ?_; rotate_left 1; (intro W hW; have hW0 := below_step hBase hW; (try dsimp only at hW); go_simp <;> with_reducible rfl); simp only [List.getElem_toArray, List.getElem_cons_zero, List.getElem_cons_succ, Act.put, List.setIfInBounds_toArray, List.set_cons_zero, List.set_cons_succ])
        (refine plan_make rfl (by rfl) (fun K hK => ?_); go_simp; (refine (refplace_any ts kl ml _ _ _ _ _ _ _ _ _ _ (Lib.hid rfl) (Lib.hid rfl) (Lib.hid rfl) (HT.out.keep (below_step HB.out hBase)) (HOK.out.keep (below_step HB.out hBase)) (hkl.keep (below_step HB.out hBase)) (hml.keep (below_step HB.out hBase)) hp).mono ?_; rintro e w' ⟨rfl, hbx⟩; rw [HPL.out]); refine hK.out _ _ hbx ?_; clear hK K; replace hBase := below_step hBase hbx)
        iterate 1 (refine plan_read rfl (by rfl) (v := ?_) ?_ ?_; rotate_left 1; (intro W hW; have hW0 := below_step hBase hW; (try dsimp only at hW); go_simp <;> with_reducible rfl); simp only [List.getElem_toArray, List.getElem_cons_zero, List.getElem_cons_succ, Act.put, List.setIfInBounds_toArray, List.set_cons_zero, List.set_cons_succ])
        refine plan_done ?_
        go_wp2_with fail
        go_roundw
        case rel => exact HR.out _ hBase
        case measure => simp [intOf]; omega
      · have HF := Lib.hid (HNE.out e)
        have hne : ((q : Int) != (k : Int)) = true := by simp; omega
        clear HEQ HNE hbef hlc hk1 e hB hle
        go_wp2_with fail
        refine wp_region_plan (.step 0 false (.step 1 false (.step 2 false (.step 3 false (.step 4 false (.step 5 false (.step 6 false (.step 7 false (.step 8 false (.step 9 false (.step 10 false (.step 12 false (.step 11 true (.step 13 false (.nil))))))))))))))) (by kernel_rfl) (by kernel_rfl) (by rfl) (by kernel_rfl) ?_
        iterate 12 (refine plan_read rfl (by rfl) (v := ?_) ?_ ?_; rotate_left 1; (intro W hW; have hW0 := below_step hBase hW; (try dsimp only at hW); go_simp <;> with_reducible rfl); simp only [List.getElem_toArray, List.getElem_cons_zero, List.getElem_cons_succ, Act.put, List.setIfInBounds_toArray, List.set_cons_zero, List.set_cons_succ])
        (refine plan_make rfl (by rfl) (fun K hK => ?_); go_simp; (refine (refplace_any ts kl ml _ _ _ _ _ _ _ _ _ _ (Lib.hid rfl) (Lib.hid rfl) (Lib.hid rfl) (HT.out.keep (below_step HB.out hBase)) (HOK.out.keep (below_step HB.out hBase)) (hkl.keep (below_step HB.out hBase)) (hml.keep (below_step HB.out hBase)) hp).mono ?_; rintro e w' ⟨rfl, hbx⟩; rw [HPL.out]); refine hK.out _ _ hbx ?_; clear hK K; replace hBase := below_step hBase hbx)
        iterate 1 (refine plan_read rfl (by rfl) (v := ?_) ?_ ?_; rotate_left 1; (intro W hW; have hW0 := below_step hBase hW; (try dsimp only at hW); go_simp <;> with_reducible rfl); simp only [List.getElem_toArray, List.getElem_cons_zero, List.getElem_cons_succ, Act.put, List.setIfInBounds_toArray, List.set_cons_zero, List.set_cons_succ])
        refine plan_done ?_
        go_wp2_with fail
        go_ret
        exact ⟨by rw [HF.out]; rfl, below_step HB.out hBase⟩
    · have HN : Hid (rightT (conT ts) = true) := (right_iff _).2 (fun i hi => hbef i (by rw [conT_length] at hi; omega) hi)
      have j1 : ¬ (k : Int) < (ts.length : Int) := by omega
      clear hbef hk1
      go_wp2_with fail
      go_ret
      exact ⟨by rw [HN.out]; rfl, hB⟩

/-! ### Same -/
def SaRel (cs ds : List Tm) (w : World) (i : Value) (wr : World) : Prop :=
  ∃ k : Nat, k ≤ cs.length ∧ i = .int .i64 (k : Int) ∧ (∀ j (h : j < k) (h1 : j < cs.length) (h2 : j < ds.length), cs[j] = ds[j]) ∧ Below w.heap.size w wr
theorem str_bne (a b : List UInt8) : ((strL a).toList != (strL b).toList) = !decide (a = b) := by rw [bne, str_beq]

set_option maxHeartbeats 1000000 in
theorem refsame_same (ts us : List TD) (p : Nat) (A B : Option Addr) (c d : Nat) (w : World) (HP : Hid (ts.length = p)) (HQ : Hid (us.length = p)) (ht : RdT w A ts) (hok : okT w ts) (hu : RdT w B us) (hoku : okT w us) (hp : p ≤ 1000000000) :
    Calls Try.prog 15 #[.slice A p c, .slice B p d] w fun e w' => e = .returned (.bool (decide (conT ts = conT us))) ∧ Below w.heap.size w w' := by
  have e1 := HP.out
  subst e1
  have HOK := Lib.hid hok
  have HOU := Lib.hid hoku
  have hlen : us.length = ts.length := HQ.out
  clear hok hoku HP
  go_enter Try.func15, Try.ntmps15
  go_wp2_with fail
  go_loopw [5] (fun i wr => SaRel (conT ts) (conT us) w i wr) (fun i _ => ts.length - (intOf i).toNat)
  case atStart => exact ⟨0, Nat.zero_le _, rfl, fun j h => absurd h (by omega), Below.refl _ _⟩
  case round =>
    obtain ⟨k, hk1, rfl, hbef, hB⟩ := hrel
    by_cases hlt : k < ts.length
    · have hlu : k < us.length := by omega
      obtain ⟨blk, o, rfl, hblk, hcell1⟩ := ht.at hlt
      obtain ⟨blk2, o2, rfl, hblk2, hcell2⟩ := hu.at hlu
      have hx := HOK.out ts[k] (List.getElem_mem hlt)
      have hy := HOU.out us[k] (List.getElem_mem hlu)
      have hg1 := conT_get ts k hlt
      have hg2 := conT_get us k hlu
      have hlc : k < (conT ts).length := by rw [conT_length]; exact hlt
      have hld : k < (conT us).length := by rw [conT_length]; exact hlu
      obtain ⟨h0, h1⟩ := hcell1 k hlt
      obtain ⟨g0, g1⟩ := hcell2 k hlu
      have hc0 : ∀ W, Below wr.heap.size wr W → W.cell? ⟨blk, o + k * 2, none⟩ = some ts[k].at0 := fun W hW => ((below_step hB hW).cell (p := ⟨blk, o + k * 2, none⟩) hblk).trans h0
      have hc1 : ∀ W, Below wr.heap.size wr W → W.cell? ⟨blk, o + k * 2 + 1, none⟩ = some ts[k].at1 := fun W hW => ((below_step hB hW).cell (p := ⟨blk, o + k * 2 + 1, none⟩) hblk).trans h1
      have hd0 : ∀ W, Below wr.heap.size wr W → W.cell? ⟨blk2, o2 + k * 2, none⟩ = some us[k].at0 := fun W hW => ((below_step hB hW).cell (p := ⟨blk2, o2 + k * 2, none⟩) hblk2).trans g0
      have hd1 : ∀ W, Below wr.heap.size wr W → W.cell? ⟨blk2, o2 + k * 2 + 1, none⟩ = some us[k].at1 := fun W hW => ((below_step hB hW).cell (p := ⟨blk2, o2 + k * 2 + 1, none⟩) hblk2).trans g1
      have HNE : Hid (ts[k].c ≠ us[k].c → decide (conT ts = conT us) = false) := fun hn => by
        rw [decide_eq_false_iff_not]
        intro e
        apply hn
        rw [← hg1, ← hg2]
        simp only [e]
      have HEQ : Hid (ts[k].c = us[k].c → ∀ j (h : j < k + 1) (h1 : j < (conT ts).length) (h2 : j < (conT us).length), (conT ts)[j] = (conT us)[j]) := fun he j hj h1 h2 => by
        rcases Nat.lt_or_ge j k with h | h
        · exact hbef j h h1 h2
        · have : j = k := by omega
          subst this
          rw [hg1, hg2]
          exact he
      clear hg1 hg2
      generalize ts[k] = x at hx hc0 hc1 HNE HEQ
      generalize us[k] = y at hy hd0 hd1 HNE HEQ
      obtain ⟨kA, kc, kl, mA, mc, ml⟩ := x
      obtain ⟨rA, rc, kr, sA, sc, mr⟩ := y
      obtain ⟨_, _, hkl, hml⟩ := hx
      obtain ⟨_, _, hkr, hmr⟩ := hy
      unfold TD.at0 TD.at1 at *
      unfold TD.c at HNE HEQ
      dsimp only at hkl hml hkr hmr HNE HEQ hc0 hc1 hd0 hd1
      have hs0 : ∀ W, Below wr.heap.size wr W → (convert 25 9 (.slice kA kl.length kc)).run Try.prog W = .ok (.string (strL kl)) W := run_str_later Try.underlying25 Try.underlying5 Try.underlying9 (hkl.keep hB)
      have hs1 : ∀ W, Below wr.heap.size wr W → (convert 25 9 (.slice rA kr.length rc)).run Try.prog W = .ok (.string (strL kr)) W := run_str_later Try.underlying25 Try.underlying5 Try.underlying9 (hkr.keep hB)
      have hs2 : ∀ W, Below wr.heap.size wr W → (convert 25 9 (.slice mA ml.length mc)).run Try.prog W = .ok (.string (strL ml)) W := run_str_later Try.underlying25 Try.underlying5 Try.underlying9 (hml.keep hB)
      have hs3 : ∀ W, Below wr.heap.size wr W → (convert 25 9 (.slice sA mr.length sc)).run Try.prog W = .ok (.string (strL mr)) W := run_str_later Try.underlying25 Try.underlying5 Try.underlying9 (hmr.keep hB)
      have b0 := str_beq kl kr
      have b1 := str_beq ml mr
      have i0 : (0 : Int) ≤ (k : Int) := by omega
      have i1 : (k : Int) < (ts.length : Int) := by omega
      have hBase : Below wr.heap.size wr wr.drew := (Below.refl _ _).drew
      have HB := Lib.hid hB
      by_cases ek : kl = kr
      · have d0 : decide (kl = kr) = true := by simp [ek]
        rw [d0] at b0
        by_cases em : ml = mr
        · have d1 : decide (ml = mr) = true := by simp [em]
          rw [d1] at b1
          have HR : Hid (SaRel (conT ts) (conT us) w (.int .i64 ((k : Int) + 1)) wr.drew) := ⟨k + 1, hlc, by go_num, HEQ.out (by rw [ek, em]), hB.drew⟩
          generalize strL kl = S0 at b0 hs0
          generalize strL kr = S1 at b0 hs1
          generalize strL ml = S2 at b1 hs2
          generalize strL mr = S3 at b1 hs3
          clear ek em d0 d1
          clear h0 h1 g0 g1 hcell1 hcell2 hkl hml hkr hmr hbef ht hu hk1 hB HNE HEQ
          go_wp2_with fail
          refine wp_region_plan (.step 0 false (.step 1 false (.step 2 false (.step 3 false (.step 4 false (.step 5 false (.step 6 false (.step 7 false (.step 8 false (.step 9 false (.step 10 false (.step 11 false (.step 12 false (.step 13 false (.step 14 false (.step 15 false (.step 16 false (.step 17 false (.step 18 false (.step 19 false (.step 20 false (.step 21 false (.step 22 false (.step 23 false (.step 24 false (.step 25 false (.step 26 false (.step 27 false (.nil))))))))))))))))))))))))))))) (by kernel_rfl) (by kernel_rfl) (by rfl) (by kernel_rfl) ?_
          iterate 28 (refine plan_read rfl (by rfl) (v := ?_) ?_ ?_; rotate_left 1; (intro W hW; have hW0 := below_step hBase hW; (try dsimp only at hW); go_simp <;> with_reducible rfl); simp only [List.getElem_toArray, List.getElem_cons_zero, List.getElem_cons_succ, Act.put, List.setIfInBounds_toArray, List.set_cons_zero, List.set_cons_succ])
          refine plan_done ?_
          go_wp2_with fail
          go_roundw
          case rel => exact HR.out
          case measure => simp [intOf]; omega
        · have d1 : decide (ml = mr) = false := by simp [em]
          rw [d1] at b1
          have HF := Lib.hid (HNE.out (fun e => em (Prod.mk.inj e).2))
          generalize strL kl = S0 at b0 hs0
          generalize strL kr = S1 at b0 hs1
          generalize strL ml = S2 at b1 hs2
          generalize strL mr = S3 at b1 hs3
          clear ek em d0 d1
          clear h0 h1 g0 g1 hcell1 hcell2 hkl hml hkr hmr hbef ht hu hk1 hB HNE HEQ
          go_wp2_with fail
          refine wp_region_plan (.step 0 false (.step 1 false (.step 2 false (.step 3 false (.step 4 false (.step 5 false (.step 6 false (.step 7 false (.step 8 false (.step 9 false (.step 10 false (.step 11 false (.step 12 false (.step 13 false (.step 14 false (.step 15 false (.step 16 false (.step 17 false (.step 18 false (.step 19 false (.step 20 false (.step 21 false (.step 22 false (.step 23 false (.step 24 false (.step 25 false (.step 26 false (.step 27 false (.nil))))))))))))))))))))))))))))) (by kernel_rfl) (by kernel_rfl) (by rfl) (by kernel_rfl) ?_
          iterate 28 (refine plan_read rfl (by rfl) (v := ?_) ?_ ?_; rotate_left 1; (intro W hW; have hW0 := below_step hBase hW; (try dsimp only at hW); go_simp <;> with_reducible rfl); simp only [List.getElem_toArray, List.getElem_cons_zero, List.getElem_cons_succ, Act.put, List.setIfInBounds_toArray, List.set_cons_zero, List.set_cons_succ])
          refine plan_done ?_
          go_wp2_with fail
          go_ret
          exact ⟨by rw [HF.out]; rfl, HB.out.drew⟩
      · have d0 : decide (kl = kr) = false := by simp [ek]
        rw [d0] at b0
        have HF := Lib.hid (HNE.out (fun e => ek (Prod.mk.inj e).1))
        generalize strL kl = S0 at b0 hs0
        generalize strL kr = S1 at b0 hs1
        · clear ek d0 b1
          clear h0 h1 g0 g1 hcell1 hcell2 hkl hml hkr hmr hbef ht hu hk1 hB HNE HEQ
          go_wp2_with fail
          refine wp_region_plan (.step 0 false (.step 1 false (.step 2 false (.step 3 false (.step 4 false (.step 5 false (.step 6 false (.step 7 false (.step 8 false (.step 9 false (.step 10 false (.step 11 false (.step 12 false (.step 13 false (.step 14 false (.step 15 false (.step 16 false (.step 17 false (.step 18 false (.step 19 false (.step 20 false (.step 21 false (.step 22 false (.step 23 false (.step 24 false (.step 25 false (.step 26 false (.step 27 false (.nil))))))))))))))))))))))))))))) (by kernel_rfl) (by kernel_rfl) (by rfl) (by kernel_rfl) ?_
          iterate 14 (refine plan_read rfl (by rfl) (v := ?_) ?_ ?_; rotate_left 1; (intro W hW; have hW0 := below_step hBase hW; (try dsimp only at hW); go_simp <;> with_reducible rfl); simp only [List.getElem_toArray, List.getElem_cons_zero, List.getElem_cons_succ, Act.put, List.setIfInBounds_toArray, List.set_cons_zero, List.set_cons_succ])
          iterate 13 (refine plan_skip rfl (by rfl) ?_; simp only [List.getElem_toArray, List.getElem_cons_zero, List.getElem_cons_succ, Act.put, List.setIfInBounds_toArray, List.set_cons_zero, List.set_cons_succ])
          iterate 1 (refine plan_read rfl (by rfl) (v := ?_) ?_ ?_; rotate_left 1; (intro W hW; have hW0 := below_step hBase hW; (try dsimp only at hW); go_simp <;> with_reducible rfl); simp only [List.getElem_toArray, List.getElem_cons_zero, List.getElem_cons_succ, Act.put, List.setIfInBounds_toArray, List.set_cons_zero, List.set_cons_succ])
          refine plan_done ?_
          go_wp2_with fail
          go_ret
          exact ⟨by rw [HF.out]; rfl, HB.out.drew⟩
    · have HN : Hid (decide (conT ts = conT us) = true) := by
        unfold Hid
        rw [decide_eq_true_eq]
        refine List.ext_getElem (by rw [conT_length, conT_length]; omega) (fun i h1 h2 => hbef i (by rw [conT_length] at h1; omega) h1 h2)
      have j1 : ¬ (k : Int) < (ts.length : Int) := by omega
      clear hbef hk1
      go_wp2_with fail
      go_ret
      exact ⟨by rw [HN.out]; rfl, hB⟩
theorem refsame_any (ts us : List TD) (p q : Nat) (A B : Option Addr) (c d : Nat) (w : World) (HP : Hid (ts.length = p)) (HQ : Hid (us.length = q)) (ht : RdT w A ts) (hok : okT w ts) (hu : RdT w B us) (hoku : okT w us) (hp : p ≤ 1000000000) (hq : q ≤ 1000000000) :
    Calls Try.prog 15 #[.slice A p c, .slice B q d] w fun e w' => e = .returned (.bool (decide (conT ts = conT us))) ∧ Below w.heap.size w w' := by
  by_cases h : p = q
  · subst h
    exact refsame_same ts us p A B c d w HP HQ ht hok hu hoku hp
  · have HF : Hid (decide (conT ts = conT us) = false) := by
      unfold Hid
      rw [decide_eq_false_iff_not]
      intro e
      have := congrArg List.length e
      rw [conT_length, conT_length, HP.out, HQ.out] at this
      exact h this
    have hne : ((p : Int) != (q : Int)) = true := by simp; omega
    have hne2 : ¬ (p : Int) = (q : Int) := by omega
    go_enter Try.func15, Try.ntmps15
    go_wp2_with fail
    go_ret
    exact ⟨by rw [HF.out]; rfl, Below.refl _ _⟩

/-! ### Short -/
def shortT (cs : List Tm) : Bool := decide (cs.length ≤ 400 ∧ ∀ x ∈ cs, x.1.length ≤ 3000 ∧ x.2.length ≤ 3000)
def ShRel (cs : List Tm) (w : World) (i : Value) (wr : World) : Prop :=
  ∃ k : Nat, k ≤ cs.length ∧ k ≤ 400 ∧ i = .int .i64 (k : Int) ∧ (∀ j (h : j < k) (h' : j < cs.length), cs[j].1.length ≤ 3000 ∧ cs[j].2.length ≤ 3000) ∧ w = wr

set_option maxHeartbeats 1000000 in
theorem refshort_any (ts : List TD) (p : Nat) (A : Option Addr) (c : Nat) (w : World) (HP : Hid (ts.length = p)) (ht : RdT w A ts) (hml : ∀ x ∈ ts, x.k.length ≤ 9223372036854775807 ∧ x.m.length ≤ 9223372036854775807) (hp : p ≤ 9223372036854775807) :
    Calls Try.prog 6 #[.slice A p c] w fun e w' => e = .returned (.bool (shortT (conT ts))) ∧ w = w' := by
  have e1 := HP.out
  subst e1
  have HML := Lib.hid hml
  clear HP hml
  go_enter Try.func6, Try.ntmps6
  go_wp2_with fail
  go_loopw [3] (fun i wr => ShRel (conT ts) w i wr) (fun i _ => 400 - (intOf i).toNat)
  case atStart => exact ⟨0, Nat.zero_le _, Nat.zero_le _, rfl, fun j h => absurd h (by omega), rfl⟩
  case round =>
    obtain ⟨k, hk1, hk4, rfl, hbef, rfl⟩ := hrel
    by_cases hlt : k < ts.length
    · have i1 : (k : Int) < (ts.length : Int) := by omega
      by_cases h4 : k < 400
      · obtain ⟨blk, o, rfl, hblk, hcell⟩ := ht.at hlt
        have hg := conT_get ts k hlt
        have hlc : k < (conT ts).length := by rw [conT_length]; exact hlt
        obtain ⟨hc0, hc1⟩ := hcell k hlt
        have HNE : Hid (¬ (ts[k].k.length ≤ 3000 ∧ ts[k].m.length ≤ 3000) → shortT (conT ts) = false) := fun hn => by
          unfold shortT
          rw [decide_eq_false_iff_not]
          rintro ⟨_, h⟩
          have := h _ (List.getElem_mem hlc)
          rw [hg] at this
          exact hn this
        have HEQ : Hid (ts[k].k.length ≤ 3000 ∧ ts[k].m.length ≤ 3000 → ∀ j (h : j < k + 1) (h' : j < (conT ts).length), (conT ts)[j].1.length ≤ 3000 ∧ (conT ts)[j].2.length ≤ 3000) := fun he j hj h' => by
          rcases Nat.lt_or_ge j k with h | h
          · exact hbef j h h'
          · have : j = k := by omega
            subst this
            rw [hg]
            exact he
        have hb := HML.out _ (List.getElem_mem hlt)
        clear hg hbef hcell
        generalize ts[k] = x at hb hc0 hc1 HNE HEQ
        obtain ⟨kA, kc, kl, mA, mc, ml⟩ := x
        unfold TD.at0 TD.at1 at *
        dsimp only at hb HNE HEQ hc0 hc1
        obtain ⟨hkb, hmb⟩ := hb
        generalize kl.length = n at *
        generalize ml.length = m at *
        have i0 : (0 : Int) ≤ (k : Int) := by omega
        have i4 : (k : Int) < 400 := by omega
        by_cases hn : n ≤ 3000
        · have n1 : ¬ (3000 : Int) < (n : Int) := by omega
          by_cases hm : m ≤ 3000
          · have n2 : ¬ (3000 : Int) < (m : Int) := by omega
            have HR : Hid (ShRel (conT ts) w (.int .i64 ((k : Int) + 1)) w) := ⟨k + 1, hlc, by omega, by go_num, HEQ.out ⟨hn, hm⟩, rfl⟩
            clear HEQ HNE hk1 hlc
            go_wp2_with fail
            go_roundw
            case rel => exact HR.out
            case measure => simp [intOf]; omega
          · have n2 : (3000 : Int) < (m : Int) := by omega
            have HF := Lib.hid (HNE.out (fun h => hm h.2))
            clear HEQ HNE hk1 hlc
            go_wp2_with fail
            go_ret
            exact ⟨by rw [HF.out]; rfl, rfl⟩
        · have n1 : (3000 : Int) < (n : Int) := by omega
          have HF := Lib.hid (HNE.out (fun h => hn h.1))
          clear HEQ HNE hk1 hlc
          go_wp2_with fail
          go_ret
          exact ⟨by rw [HF.out]; rfl, rfl⟩
      · have i4 : ¬ (k : Int) < 400 := by omega
        have i5 : ¬ (ts.length : Int) ≤ 400 := by omega
        have HF : Hid (shortT (conT ts) = false) := by
          unfold Hid shortT
          rw [decide_eq_false_iff_not]
          rintro ⟨h, _⟩
          rw [conT_length] at h
          omega
        clear hbef hk1
        go_wp2_with fail
        go_ret
        exact ⟨by simp [HF.out], rfl⟩
    · have i1 : ¬ (k : Int) < (ts.length : Int) := by omega
      have i5 : (ts.length : Int) ≤ 400 := by omega
      have HT : Hid (shortT (conT ts) = true) := by
        unfold Hid shortT
        rw [decide_eq_true_eq]
        refine ⟨by rw [conT_length]; omega, fun x hx => ?_⟩
        obtain ⟨i, hi, rfl⟩ := List.getElem_of_mem hx
        exact hbef i (by rw [conT_length] at hi; omega) hi
      clear hbef hk1
      go_wp2_with fail
      go_ret
      exact ⟨by simp [HT.out], rfl⟩
end Go.Proofs.Ytcejbofdgljemaa
/-
  What the reference's calls Put and Of of layer 5 answer. No conditions but those typed.
-/
namespace Go.Proofs.Ytcejbofdgljemaa
set_option maxRecDepth 100000
open Go.RowKit
set_option linter.unusedSimpArgs false
set_option linter.unusedVariables false

theorem Rd.newsB {α : Type} {f : α → Value} {w : World} {A : Option Addr} {l : List α} (h : Rd f w A l) : l.map f ≠ [] → ∃ b o, A = some ⟨b, o, none⟩ ∧ ∀ j u, (l.map f)[j]? = some u → w.cell? ((⟨b, o, none⟩ : Addr).add j) = some u := fun hn => by
  obtain ⟨b, o, e, _⟩ := h (by rintro rfl; exact hn rfl)
  subst e
  exact ⟨b, o, rfl, h.news⟩
theorem ownsRow2_later {w w' : World} {base m : Nat} {e : TypeId} {v : Value} {n : Nat} {xs : List Value} (h : w.ownsRow base e m v n xs) (hb : Below w.heap.size w w') : w'.ownsRow base e m v n xs := by
  refine ⟨h.1, ?_⟩
  rcases h.2 with h0 | ⟨g, cap, cur, hv, hg, hc, r⟩
  · exact .inl h0
  · exact .inr ⟨g, cap, cur, hv, hg, (hb.block g (Array.getElem?_eq_some_iff.1 hc).1).trans hc, r⟩

/-- What Put hands back. -/
def PutRes (ts : List TD) (x : Tm) (w : World) (e : Ending) (w' : World) : Prop :=
  ∃ (us : List TD) (p : Nat) (A : Option Addr) (c : Nat) (tA : Option Addr) (tc : Nat), e = .returned (.tuple #[.slice A p c, .slice tA 8 tc]) ∧ Hid (us.length = p) ∧ p ≤ c ∧ 8 ≤ tc ∧ RdT w' A us ∧ okT w' us ∧ Hid (conT us = putT (conT ts) x) ∧ Rd vB w' tA (tagT (conT ts) x) ∧ Below w.heap.size w w'

theorem refput_at (v : Nat) (l : List UInt8) (hv : v < 18446744073709551616) (HL : Hid (putL v = l)) (w : World) :
    Calls Try.prog 25 #[.int .u64 (v : Int)] w fun e w' => ∃ A c, e = .returned (.slice A 8 c) ∧ 8 ≤ c ∧ Rd vB w' A l ∧ Below w.heap.size w w' := by
  refine (refput_any v hv w).mono ?_
  rintro e w' ⟨A, c, rfl, hc, hr, hb⟩
  rw [HL.out] at hr
  exact ⟨A, c, rfl, hc, hr, hb⟩

set_option maxRecDepth 100000 in
set_option maxHeartbeats 1000000 in
theorem refputT_any (ts : List TD) (key msg : List UInt8) (p n m : Nat) (A B C : Option Addr) (c d e : Nat) (w : World) (HP : Hid (ts.length = p)) (HN : Hid (key.length = n)) (HM : Hid (msg.length = m)) (ht : RdT w A ts) (hok : okT w ts) (hk : Rd vB w B key) (hm : Rd vB w C msg) (hp : p ≤ 1000000000) (hc : p ≤ c) (hn : n ≤ 1000000000) (hmm : m ≤ 1000000000) :
    Calls Try.prog 20 #[.slice A p c, .slice B n d, .slice C m e] w (PutRes ts (key, msg) w) := by
  have HOK := Lib.hid hok
  clear hok
  by_cases hin : (key, msg) ∈ conT ts
  · have hlt := (idx_lt _ _).2 hin
    rw [conT_length, HP.out] at hlt
    have hpl := plI_in _ _ hin
    have HC : Hid (conT ts = putT (conT ts) (key, msg)) := (putT_twice _ _ hin).symm
    obtain ⟨tg, htg⟩ : ∃ tg, tg = tagT (conT ts) (key, msg) := ⟨_, rfl⟩
    have HT : Hid (putL (idx (key, msg) (conT ts) + 1) = tg) := htg.symm
    have HTG := Lib.hid htg
    clear htg
    generalize idx (key, msg) (conT ts) = q at hlt hpl HT
    have HPL := Lib.hid hpl
    have hge : (0 : Int) ≤ (q : Int) := by omega
    have hqw : IntKind.u64.wrap ((q : Int) + 1) = ((q + 1 : Nat) : Int) := by rw [IntKind.wrap_u64]; omega
    clear hpl hin
    go_enter Try.func20, Try.ntmps20
    go_wp2_with fail
    refine (refplace_any ts key msg p n m A B C c d e _ HP HN HM ht HOK.out hk hm hp).mono ?_
    rintro e' w1 ⟨rfl, hb1⟩
    rw [HPL.out]
    go_wp2_with fail
    refine (refput_at (q + 1) tg (by omega) HT _).mono ?_
    rintro e' w2 ⟨tA, tc, rfl, htc, htr, hb2⟩
    go_wp2_with fail
    go_ret2
    have hB := below_step hb1 hb2
    exact ⟨ts, p, A, c, tA, tc, rfl, HP, hc, htc, ht.keep hB, HOK.out.keep hB, HC, by rw [← HTG.out]; exact htr, hB⟩
  · obtain ⟨i0, hi, hz0, hz1, hz2⟩ := info_parts info_u8
    obtain ⟨j0, hj, gz0, gz1, gz2⟩ := info_parts info_term
    have HPL := Lib.hid (plI_out _ _ hin)
    have HC : Hid (conT ts ++ [(key, msg)] = putT (conT ts) (key, msg)) := (if_neg hin).symm
    have HT : Hid (putL (p + 1) = tagT (conT ts) (key, msg)) := by unfold Hid tagT; rw [idx_none _ _ hin, conT_length, HP.out]
    clear hin
    go_enter Try.func20, Try.ntmps20
    go_wp2_with fail
    refine (refplace_any ts key msg p n m A B C c d e _ HP HN HM ht HOK.out hk hm hp).mono ?_
    rintro e' w1 ⟨rfl, hb1⟩
    rw [HPL.out]
    have hown0 : (w1.alloc (.cells #[] 40)).ownsRow w.heap.size 40 2 (.slice (some ⟨w1.heap.size, 0, none⟩) 0 0) 0 [] := World.ownsRow_made w1 #[] 0 hb1.size (by unfold maxLen; omega) rfl
    have hB1 := below_new hb1 (.cells #[] 40)
    go_upto_region 5 with (at_builtin; refine wpList_append_gen _ rfl (.tmp 21) (.tmp 22) 22 rfl w.heap.size 40 j0 (.agg #[.slice none 0 0, .slice none 0 0]) 2 48 Try.underlying22 hj gz0 gz1 gz2 rfl (by decide) _ _ _ rfl hown0 A p c (cellsT ts) rfl (by rw [cellsT_length, HP.out]) (ht.keep hB1).news (cellsT_one ts) (by unfold maxLen; omega) (by omega) hB1.size ?_; intro v2 w2 hown2 hgrow2)
    rw [Nat.zero_add, List.nil_append] at hown2
    have hB2 : Below w.heap.size w w2 := hB1.grown hgrow2 (by have := hb1.size; simp; omega) (fun k hk => (hown0.lt k hk).1)
    clear hown0 hgrow2 hB1
    have hlt2 : ∀ k, v2.ownBlock = some k → k < w2.heap.size := fun k hk => (hown2.lt k hk).2
    have hn0 : (w2.alloc (.cells #[] 5)).ownsRow w2.heap.size 5 1 (.slice (some ⟨w2.heap.size, 0, none⟩) 0 0) 0 [] := World.ownsRow_made w2 #[] 0 (Nat.le_refl _) (by unfold maxLen; omega) rfl
    have hN0 := below_new (Below.refl _ w2) (.cells #[] 5)
    have hk2 : Rd vB (w2.alloc (.cells #[] 5)) B key := hk.keep (below_step hB2 hN0)
    go_upto_region 6 with (first
      | (at_builtin; refine wpList_append_gen _ rfl (.tmp 25) (.tmp 26) 25 rfl w2.heap.size 5 i0 (.int .u8 0) 1 1 Try.underlying25 hi hz0 hz1 hz2 rfl (by decide) _ _ _ rfl hn0 B n d (key.map vB) rfl (by rw [List.length_map, HN.out, Nat.mul_one]) hk2.newsB (map_one vB_one key) (by unfold maxLen; omega) (by omega) (by simp) ?_; intro v3 w3 hown3 hgrow3
         rw [Nat.zero_add, List.nil_append] at hown3
         have hS3 : Below w2.heap.size w2 w3 := hN0.grown hgrow3 (by simp) (fun k hk => (hn0.lt k hk).1)
         clear hn0 hN0 hk2 hgrow3
         have hn3 : (w3.alloc (.cells #[] 5)).ownsRow w3.heap.size 5 1 (.slice (some ⟨w3.heap.size, 0, none⟩) 0 0) 0 [] := World.ownsRow_made w3 #[] 0 (Nat.le_refl _) (by unfold maxLen; omega) rfl
         have hN3 := below_new (Below.refl _ w3) (.cells #[] 5)
         have hm3 : Rd vB (w3.alloc (.cells #[] 5)) C msg := hm.keep (below_step (below_step hB2 hS3) hN3))
      | (at_builtin; refine wpList_append_gen _ rfl (.tmp 28) (.tmp 29) 25 rfl w3.heap.size 5 i0 (.int .u8 0) 1 1 Try.underlying25 hi hz0 hz1 hz2 rfl (by decide) _ _ _ rfl hn3 C m e (msg.map vB) rfl (by rw [List.length_map, HM.out, Nat.mul_one]) hm3.newsB (map_one vB_one msg) (by unfold maxLen; omega) (by omega) (by simp) ?_; intro v4 w4 hown4 hgrow4
         rw [Nat.zero_add, List.nil_append] at hown4
         have hS4 : Below w3.heap.size w3 w4 := hN3.grown hgrow4 (by simp) (fun k hk => (hn3.lt k hk).1)
         clear hn3 hN3 hm3 hgrow4
         rw [← HN.out] at hown3
         rw [← HM.out] at hown4
         obtain ⟨A3, c3, rfl, hc3, hr3, hN3⟩ := own_sliceN hown3
         obtain ⟨A4, c4, rfl, hc4, hr4, hN4⟩ := own_sliceN hown4
         replace hr3 := hr3.keep hS4
         replace hown2 := ownsRow2_later hown2 (below_step hS3 hS4)
         replace hB2 := below_step hB2 (below_step hS3 hS4)
         have hz2 := hS3.size
         have hz3 := hS4.size
         clear hown3 hown4 hS3 hS4)
      | (at_builtin; refine wpList_append_gen _ rfl (.tmp 24) (.tmp 32) 22 rfl w.heap.size 40 j0 (.agg #[.slice none 0 0, .slice none 0 0]) 2 48 Try.underlying22 hj gz0 gz1 gz2 rfl (by decide) _ _ _ rfl (ownsRow2_later hown2 (below_new (Below.refl _ _) _)) (some ⟨w4.heap.size, 0, none⟩) 1 1 (TD.cells ⟨A3, c3, key, A4, c4, msg⟩) rfl rfl (fun _ => ⟨_, _, rfl, cells_new _ _ _⟩) (by intro u hu; simp [TD.cells, TD.at0, TD.at1] at hu; rcases hu with rfl | rfl <;> rfl) (by unfold maxLen; omega) (by omega) (by have := hB2.size; simp; omega) ?_; intro v5 w5 hown5 hgrow5))
    obtain ⟨X, hX⟩ : ∃ X : TD, X = ⟨A3, c3, key, A4, c4, msg⟩ := ⟨_, rfl⟩
    rw [← hX] at hown5
    have hXc : X.c = (key, msg) := by rw [hX]; rfl
    have hB5 : Below w.heap.size w w5 := (below_new hB2 (.cells (TD.cells ⟨A3, c3, key, A4, c4, msg⟩).toArray 40)).grown hgrow5 (by have := hB2.size; simp; omega) (fun k hk => (hown2.lt k hk).1)
    have hr3' := (hr3.keep (below_new (Below.refl _ w4) (.cells (TD.cells ⟨A3, c3, key, A4, c4, msg⟩).toArray 40))).grown hgrow5 (fun a ha e => by have := hlt2 _ e; have := hN3 _ ha; omega)
    have hr4' := (hr4.keep (below_new (Below.refl _ w4) (.cells (TD.cells ⟨A3, c3, key, A4, c4, msg⟩).toArray 40))).grown hgrow5 (fun a ha e => by have := hlt2 _ e; have := hN4 _ ha; omega)
    have hXok : X.ok w5 := by rw [hX]; exact ⟨hc3, hc4, hr3', hr4'⟩
    obtain ⟨us, hus⟩ : ∃ us, us = ts ++ [X] := ⟨_, rfl⟩
    have hul : us.length = p + 1 := by rw [hus, List.length_append, HP.out]; rfl
    have hcu : cellsT ts ++ TD.cells X = cellsT us := by rw [hus]; simp [cellsT]
    have HCU : Hid (conT us = putT (conT ts) (key, msg)) := by unfold Hid; rw [← HC.out, hus, ← hXc]; simp [conT]
    have HUO : Hid (okT w5 us) := by
      unfold Hid
      rw [hus]
      exact (HOK.out.keep hB5).app (fun x hx => by simp at hx; subst hx; exact hXok)
    rw [hcu, ← hul] at hown5
    obtain ⟨A5, c5, rfl, hc5, hr5⟩ := own_sliceT hown5
    have HUL := Lib.hid hul
    rw [hul] at hc5 ⊢
    clear hown5 hcu hus hul hXok hXc hX hr3 hr4 hr3' hr4' hgrow5 hown2 hlt2 hN3 hN4 hB2 hc3 hc4 hz2 hz3
    have hpw : IntKind.u64.wrap ((p : Int) + 1) = ((p + 1 : Nat) : Int) := by rw [IntKind.wrap_u64]; omega
    obtain ⟨tg, htg⟩ : ∃ tg, tg = tagT (conT ts) (key, msg) := ⟨_, rfl⟩
    rw [← htg] at HT
    have HTG := Lib.hid htg
    clear htg
    go_wp2_with fail
    refine (refput_at (p + 1) tg (by omega) HT _).mono ?_
    rintro e' w6 ⟨tA, tc, rfl, htc, htr, hb6⟩
    go_wp2_with fail
    go_ret2
    exact ⟨us, p + 1, A5, c5, tA, tc, rfl, HUL, hc5, htc, hr5.keep hb6, HUO.out.keep hb6, HCU, by rw [← HTG.out]; exact htr, below_step hB5 hb6⟩
end Go.Proofs.Ytcejbofdgljemaa
/-
  What the reference's call Of of layer 5 answers. No conditions but those typed.
-/
namespace Go.Proofs.Ytcejbofdgljemaa
set_option maxRecDepth 100000
open Go.RowKit
set_option linter.unusedSimpArgs false
set_option linter.unusedVariables false

/-- What Of hands back. -/
def OfRes (ts : List TD) (tag : List UInt8) (w : World) (e : Ending) (w' : World) : Prop :=
  ∃ (x : TD) (u : Int), e = .returned (.tuple #[.agg #[x.at0, x.at1], .int .i64 u]) ∧ x.ok w' ∧ Hid ((x.c, u) = ofT (conT ts) tag) ∧ Below w.heap.size w w'
/-- .. and it is one of those that came in, or none. -/
def OfResS (ts : List TD) (tag : List UInt8) (w : World) (e : Ending) (w' : World) : Prop :=
  ∃ (x : TD) (u : Int), e = .returned (.tuple #[.agg #[x.at0, x.at1], .int .i64 u]) ∧ (x ∈ ts ∨ x = ⟨none, 0, [], none, 0, []⟩) ∧ Hid ((x.c, u) = ofT (conT ts) tag) ∧ Below w.heap.size w w'
def noTD : TD := ⟨none, 0, [], none, 0, []⟩
theorem noTD_ok (w : World) : noTD.ok w := ⟨Nat.le_refl _, Nat.le_refl _, Rd.nil, Rd.nil⟩
theorem OfResS.ok {ts : List TD} {w : World} {x : TD} (hok : okT w ts) (h : x ∈ ts ∨ x = ⟨none, 0, [], none, 0, []⟩) : x.ok w := by
  rcases h with h | rfl
  · exact hok x h
  · exact noTD_ok w
theorem OfResS.res {ts : List TD} {tag : List UInt8} {w w' : World} {e : Ending} (hok : okT w ts) (h : OfResS ts tag w e w') : OfRes ts tag w e w' := by
  obtain ⟨x, u, he, hx, HO, hb⟩ := h
  exact ⟨x, u, he, (OfResS.ok hok hx).keep hb, HO, hb⟩
theorem ofT_bad (cs : List Tm) (tag : List UInt8) (h : tag.length ≠ 8) : ofT cs tag = (([], []), 1) := if_pos h
theorem ofT_none (cs : List Tm) (tag : List UInt8) (h : tag.length = 8) (hn : ∀ j, j < cs.length → putL (j + 1) ≠ tag) (hl : cs.length ≤ 1000000000) : ofT cs tag = (([], []), 7) := by
  unfold ofT
  rw [if_neg (by simp [h]), if_neg]
  rintro ⟨h1, h2⟩
  refine hn (valN tag - 1) (by omega) ?_
  rw [show valN tag - 1 + 1 = valN tag by omega, putL_valN tag h]
theorem ofT_at (cs : List Tm) (tag : List UInt8) (h : tag.length = 8) (k : Nat) (hk : k < cs.length) (he : putL (k + 1) = tag) (hl : cs.length ≤ 1000000000) : ofT cs tag = (cs[k], 0) := by
  have e : valN tag = k + 1 := (putL_eq (k + 1) tag h (by omega)).1 he
  unfold ofT
  rw [if_neg (by simp [h]), e, if_pos (by omega), Nat.add_sub_cancel, List.getD_eq_getElem?_getD, List.getElem?_eq_getElem hk]
  rfl
theorem refput_ati (V : Int) (v : Nat) (l : List UInt8) (hV : V = (v : Int)) (hv : v < 18446744073709551616) (HL : Hid (putL v = l)) (w : World) :
    Calls Try.prog 25 #[.int .u64 V] w fun e w' => ∃ A c, e = .returned (.slice A 8 c) ∧ 8 ≤ c ∧ Rd vB w' A l ∧ Below w.heap.size w w' := by
  subst hV
  exact refput_at v l hv HL w
def OfRel (ts : List TD) (tag : List UInt8) (w : World) (i : Value) (wr : World) : Prop :=
  ∃ k : Nat, k ≤ ts.length ∧ i = .int .i64 (k : Int) ∧ (∀ j, j < k → putL (j + 1) ≠ tag) ∧ Row wr w.heap.size 40 [.slice none 0 0, .slice none 0 0] ∧ Below w.heap.size w wr
theorem size_term : (Try.prog.info? 40).map (·.size) = some 2 := by kernel_rfl
theorem one_two (a b : Value) (ha : a.oneCell' = true) (hb : b.oneCell' = true) : ∀ v ∈ [a, b], v.oneCell' = true := fun v hv => by
  simp at hv
  rcases hv with rfl | rfl
  · exact ha
  · exact hb

end Go.Proofs.Ytcejbofdgljemaa
/-
  What the program's calls copied and tagOf of layer 5 answer. No conditions but those typed.
-/
namespace Go.Proofs.Ytcejbofdgljemaa
set_option maxRecDepth 100000
open Go.RowKit
set_option linter.unusedSimpArgs false
set_option linter.unusedVariables false

/-- Keys and texts that are not too long. -/
def lenT (cs : List Tm) : Prop := ∀ x ∈ cs, x.1.length ≤ 1000000000 ∧ x.2.length ≤ 1000000000
theorem lenT.nil : lenT [] := fun x hx => by cases hx
theorem lenT.put {cs : List Tm} {key msg : List UInt8} (h : lenT cs) (hk : key.length ≤ 1000000000) (hm : msg.length ≤ 1000000000) : lenT (putT cs (key, msg)) := by
  unfold putT
  split
  · exact h
  · intro x hx
    rcases List.mem_append.1 hx with hx | hx
    · exact h x hx
    · simp at hx
      subst hx
      exact ⟨hk, hm⟩
theorem lenT.short {cs : List Tm} (h : shortT cs = true) : lenT cs := by
  unfold shortT at h
  rw [decide_eq_true_eq] at h
  intro x hx
  have := h.2 x hx
  omega
theorem lenT.at {ts : List TD} (h : lenT (conT ts)) {x : TD} (hx : x ∈ ts) : x.k.length ≤ 1000000000 ∧ x.m.length ≤ 1000000000 := h x.c (List.mem_map_of_mem hx)

/-- A term whose key and text lie in new memory. -/
def TD.new (B : Nat) (x : TD) : Prop := (∀ a, x.kA = some a → B ≤ a.block) ∧ (∀ a, x.mA = some a → B ≤ a.block)
/-- What copied hands back. -/
def CopRes (x : TD) (w : World) (e : Ending) (w' : World) : Prop :=
  ∃ y : TD, e = .returned (.agg #[y.at0, y.at1]) ∧ y.ok w' ∧ y.c = x.c ∧ y.new w.heap.size ∧ Below w.heap.size w w'

set_option maxHeartbeats 1000000 in
theorem copied_any (x : TD) (w : World) (hkr : Rd vB w x.kA x.k) (hmr : Rd vB w x.mA x.m) (hk : x.k.length ≤ 1000000000) (hm : x.m.length ≤ 1000000000) :
    Calls Try.prog 85 #[.agg #[x.at0, x.at1]] w (CopRes x w) := by
  obtain ⟨kA, kc, k, mA, mc, m⟩ := x
  unfold TD.at0 TD.at1 at *
  dsimp only at hkr hmr hk hm ⊢
  have hR0 : Row (w.alloc (.cells #[.slice kA k.length kc, .slice mA m.length mc] 40)) w.heap.size 40 [.slice kA k.length kc, .slice mA m.length mc] := Row.new w _ _ _ rfl
  have hB0 := below_new (Below.refl _ w) (.cells #[.slice kA k.length kc, .slice mA m.length mc] 40)
  have hR1 := hR0.alloc (.cells #[.slice none 0 0, .slice none 0 0] 40)
  have hB1 := below_new hB0 (.cells #[.slice none 0 0, .slice none 0 0] 40)
  have hR2 : Row ((w.alloc (.cells #[.slice kA k.length kc, .slice mA m.length mc] 40)).alloc (.cells #[.slice none 0 0, .slice none 0 0] 40)) (w.heap.size + 1) 40 [.slice none 0 0, .slice none 0 0] := Row.new_at _ _ (by simp) _ _ _ rfl
  go_enter Try.func85, Try.ntmps85
  go_upto_region 1 with fail
  generalize (w.alloc (.cells #[.slice kA k.length kc, .slice mA m.length mc] 40)).alloc (.cells #[.slice none 0 0, .slice none 0 0] 40) = W2 at hR1 hB1 hR2 ⊢
  have hc0 : ∀ W, Below (w.heap.size + 1) W2 W → W.cell? ⟨w.heap.size, 0, none⟩ = some (.slice kA k.length kc) := fun W hW => (hR1.keep hW (by omega)).cell rfl
  have hc1 : ∀ W, Below (w.heap.size + 1) W2 W → W.cell? ⟨w.heap.size, 1, none⟩ = some (.slice mA m.length mc) := fun W hW => (hR1.keep hW (by omega)).cell rfl
  have hlt := hR2.lt
  have hBase : Below (w.heap.size + 1) W2 W2.drew := (Below.refl _ _).drew
  have hk2 : Rd vB W2.drew kA k := hkr.keep hB1.drew
  clear hR0 hB0
  refine wp_region_plan_at (w.heap.size + 1) (.step 0 false (.step 1 false (.step 3 false (.step 4 false (.step 2 true (.step 5 true (.step 6 false (.step 7 true .nil)))))))) (by kernel_rfl) (by kernel_rfl) (by rfl) (by kernel_rfl) ?_
  iterate 4 (refine plan_read rfl (by rfl) (v := ?_) ?_ ?_; rotate_left 1; (intro W hW; have hW0 := Below.trans hBase hW; (try dsimp only at hW); go_simp <;> with_reducible rfl); simp only [List.getElem_toArray, List.getElem_cons_zero, List.getElem_cons_succ, Act.put, List.setIfInBounds_toArray, List.set_cons_zero, List.set_cons_succ])
  (refine plan_make_at rfl (by rfl) (fun K hK => ?_); go_simp; refine (clone_b k kA kc _ hk2 (by omega)).mono ?_; rintro e w3 ⟨A3, c3, rfl, hc3, hr3, hN3, hb3⟩; have hz3 : W2.heap.size ≤ w3.heap.size := hb3.size; refine hK.out _ _ (hb3.mono (Nat.le_of_lt hlt)) ?_; clear hK K; replace hBase := hBase.trans (hb3.mono (Nat.le_of_lt hlt)))
  have hB3 := below_step hB1.drew hb3
  have hR3 := hR2.drew.later hb3
  have hm3 : Rd vB w3 mA m := hmr.keep hB3
  (refine plan_make_at rfl (by rfl) (fun K hK => ?_); go_simp; refine (clone_b m mA mc _ hm3 (by omega)).mono ?_; rintro e w4 ⟨A4, c4, rfl, hc4, hr4, hN4, hb4⟩; have hz4 : w3.heap.size ≤ w4.heap.size := hb4.size; refine hK.out _ _ (hb4.mono (by omega)) ?_; clear hK K; replace hBase := hBase.trans (hb4.mono (by omega)))
  have hB4 := below_step hB3 hb4
  have hR4 := hR3.later hb4
  have hr3' := hr3.keep hb4
  iterate 1 (refine plan_read rfl (by rfl) (v := ?_) ?_ ?_; rotate_left 1; (intro W hW; have hW0 := hBase.trans hW; (try dsimp only at hW); go_simp <;> with_reducible rfl); simp only [List.getElem_toArray, List.getElem_cons_zero, List.getElem_cons_succ, Act.put, List.setIfInBounds_toArray, List.set_cons_zero, List.set_cons_succ])
  (refine plan_make_at rfl (by rfl) (fun K hK => ?_); refine Row.wp_store 40 (.tmp 2) (.tmp 9) rfl rfl [.slice A3 k.length c3, .slice A4 m.length c4] rfl hR4 (by exact size_term) rfl (one_two _ _ rfl rfl) ?_; refine hK.out _ _ (below_setRow (Below.refl _ _) (Nat.le_refl _) _) ?_; clear hK K)
  refine plan_done ?_
  have hd : W2.drew.heap.size = W2.heap.size := rfl
  have hr3'' := hr3'.setRow (g := w.heap.size + 1) [.slice A3 k.length c3, .slice A4 m.length c4].toArray (fun a ha e => by have := hN3 a ha; omega)
  have hr4'' := hr4.setRow (g := w.heap.size + 1) [.slice A3 k.length c3, .slice A4 m.length c4].toArray (fun a ha e => by have := hN4 a ha; omega)
  have hR5 := hR4.setRow [.slice A3 k.length c3, .slice A4 m.length c4]
  have hB5 := below_setRow hB4 (Nat.le_succ w.heap.size) [.slice A3 k.length c3, .slice A4 m.length c4].toArray
  generalize w4.setRow (w.heap.size + 1) [.slice A3 k.length c3, .slice A4 m.length c4].toArray = w5 at hr3'' hr4'' hR5 hB5 ⊢
  go_wp2_with fail
  refine bodyPost_ret (results_cell_row (p := 2) (ty := 40) (by rfl) _ _ (w.heap.size + 1) 40 _ (0, 0) _ (by rfl) (by exact hR5) Try.underlying40 (by rfl) (by exact size_term)) (by rfl) ?_
  exact ⟨⟨A3, c3, k, A4, c4, m⟩, rfl, ⟨hc3, hc4, hr3'', hr4''⟩, rfl, ⟨fun a ha => by have := hN3 a ha; omega, fun a ha => by have := hN4 a ha; omega⟩, hB5⟩

theorem tagof_any (q : Nat) (T : List UInt8) (w : World) (hq : q ≤ 1000000000) (HT : Hid (putL (q + 1) = T)) :
    Calls Try.prog 87 #[.int .i64 (q : Int)] w fun e w' => ∃ A c, e = .returned (.slice A 8 c) ∧ 8 ≤ c ∧ Rd vB w' A T ∧ Below w.heap.size w w' := by
  have h1 : IntKind.u64.wrap (q : Int) = (q : Int) := by rw [IntKind.wrap_u64]; omega
  have h2 : IntKind.u64.wrap ((q : Int) + 1) = ((q + 1 : Nat) : Int) := by rw [IntKind.wrap_u64]; omega
  go_enter Try.func87, Try.ntmps87
  go_wp2_with fail
  refine (put_any (q + 1) (by omega) _).mono ?_
  rintro e' w2 ⟨A, c, rfl, hc, hr, hb⟩
  rw [HT.out] at hr
  go_wp2_with fail
  go_ret
  exact ⟨A, c, rfl, hc, hr, hb⟩
end Go.Proofs.Ytcejbofdgljemaa
