/-
  What the program's calls Start, Block and wholeBlocks of layer 2 answer. Condition: the package's table holds the sixty-four constants.
-/
import Derived.Test.YteppocjgodmpdaaGreatDoorQO9
import Derived.Deep.Cut
set_option linter.unusedSimpArgs false
set_option linter.unusedVariables false
set_option maxRecDepth 100000
namespace Go.Proofs.YteppocjgodmpdaaGreatDoor
open Go.RowKit
def restL (b : List UInt8) : List UInt8 := b.drop (b.length / 64 * 64)
theorem restL_length (b : List UInt8) : (restL b).length = b.length % 64 := by rw [restL, List.length_drop]; omega
theorem restL_short (b : List UInt8) (h : b.length < 64) : restL b = b := by rw [restL, show b.length / 64 * 64 = 0 by omega]; rfl
theorem restL_step (b : List UInt8) (h : 64 ≤ b.length) : restL b = restL (b.drop 64) := by
  rw [restL, restL, List.drop_drop, List.length_drop, show 64 + (b.length - 64) / 64 * 64 = b.length / 64 * 64 by omega]
theorem start_any (w : World) : Calls Tryz.prog 268 #[] w fun e w' => ∃ S : St, Hid (S = startSt) ∧ e = .returned (.agg #[.int .u32 (S.a.toNat : Int), .int .u32 (S.b.toNat : Int), .int .u32 (S.c.toNat : Int), .int .u32 (S.d.toNat : Int), .int .u32 (S.e.toNat : Int), .int .u32 (S.f.toNat : Int), .int .u32 (S.g.toNat : Int), .int .u32 (S.h.toNat : Int), .slice none 0 0, .int .u64 0]) ∧ Below w.heap.size w w' := by
  go_enter Tryz.func268, Tryz.ntmps268
  go_wp2_with fail
  refine bodyPost_ret (results_cell_row (p := 0) (ty := 330) (by rfl) _ _ w.heap.size 330 _ (0, 0) _ (by rfl) (by exact Row.new w _ _ _ rfl) Tryz.underlying330 (by rfl) (by kernel_rfl)) (by rfl) ?_
  exact ⟨startSt, rfl, rfl, below_new (Below.refl _ _) _⟩
def BlocksRel [Inhabited Tab] (s : St) (b : List UInt8) (A0 : Option Addr) (w : World) (v : Value) (wr : World) : Prop :=
  ∃ (S : St) (M : List UInt8) (A : Option Addr) (c : Nat), v = .slice A M.length c ∧ M.length ≤ c ∧ M.length ≤ b.length ∧ (∀ W, Rd vB W A0 b → Rd vB W A M) ∧ s.from b = S.from M ∧ restL b = restL M ∧
    Row wr w.heap.size 326 [.int .u32 (S.a.toNat : Int), .int .u32 (S.b.toNat : Int), .int .u32 (S.c.toNat : Int), .int .u32 (S.d.toNat : Int), .int .u32 (S.e.toNat : Int), .int .u32 (S.f.toNat : Int), .int .u32 (S.g.toNat : Int), .int .u32 (S.h.toNat : Int)] ∧ Row wr (w.heap.size + 1) 326 (List.replicate 8 (.int .u32 0)) ∧ Below w.heap.size w wr
set_option maxHeartbeats 1000000 in
theorem wholeBlocks_any [Inhabited Tab] (s : St) (b : List UInt8) (A : Option Addr) (c : Nat) (w : World) (hr : Rd vB w A b) (hc : b.length ≤ c) (hl : b.length ≤ 9223372036854775807) (HK : Hid (KTab w)) :
    Calls Tryz.prog 267 #[.agg #[.int .u32 (s.a.toNat : Int), .int .u32 (s.b.toNat : Int), .int .u32 (s.c.toNat : Int), .int .u32 (s.d.toNat : Int), .int .u32 (s.e.toNat : Int), .int .u32 (s.f.toNat : Int), .int .u32 (s.g.toNat : Int), .int .u32 (s.h.toNat : Int)], .slice A b.length c] w fun e w' => ∃ (S : St) (A' : Option Addr) (c' : Nat), Hid (S = s.from b) ∧ e = .returned (.tuple #[.agg #[.int .u32 (S.a.toNat : Int), .int .u32 (S.b.toNat : Int), .int .u32 (S.c.toNat : Int), .int .u32 (S.d.toNat : Int), .int .u32 (S.e.toNat : Int), .int .u32 (S.f.toNat : Int), .int .u32 (S.g.toNat : Int), .int .u32 (S.h.toNat : Int)], .slice A' (restL b).length c']) ∧ (restL b).length ≤ c' ∧ (∀ W, Rd vB W A b → Rd vB W A' (restL b)) ∧ Below w.heap.size w w' := by
  go_enter Tryz.func267, Tryz.ntmps267
  go_wp2_with fail
  refine at_world (Q := Code.wp _ _ _ _) (fun W => Row W w.heap.size 326 [.int .u32 (s.a.toNat : Int), .int .u32 (s.b.toNat : Int), .int .u32 (s.c.toNat : Int), .int .u32 (s.d.toNat : Int), .int .u32 (s.e.toNat : Int), .int .u32 (s.f.toNat : Int), .int .u32 (s.g.toNat : Int), .int .u32 (s.h.toNat : Int)] ∧ Row W (w.heap.size + 1) 326 (List.replicate 8 (.int .u32 0)) ∧ Below w.heap.size w W)
    ⟨(Row.new w _ _ _ rfl).alloc _, Row.new_at _ _ (by simp) _ _ _ rfl, below_new (below_new (Below.refl _ _) _) _⟩ ?_
  rintro W ⟨hR0, hR1, hB⟩
  go_loopw [1] (fun v wr => BlocksRel s b A w v wr) (fun v _ => sliceLen v)
  case atStart => exact ⟨s, b, A, c, rfl, hc, Nat.le_refl _, fun _ h => h, rfl, rfl, hR0, hR1, hB⟩
  case round =>
    clear hR0 hR1 hB hc
    obtain ⟨S, M, A1, c1, rfl, hc1, hMl, hall, hfr, hrs, hR0, hR1, hB⟩ := hrel
    have HA := Lib.hid hall
    have hr1 := hall w hr
    clear hall
    have HF := Lib.hid hfr
    have HR := Lib.hid hrs
    clear hfr hrs
    by_cases h64 : 64 ≤ M.length
    · obtain ⟨blk, o, rfl, hb, _⟩ := hr1.at (k := 0) (by omega)
      have hr64 : Rd vB w (some ⟨blk, o, none⟩) (M.take 64) := hr1.take 64
      have HL : Hid ((M.take 64).length = 64) := by unfold Hid; rw [List.length_take]; omega
      have hrd : Hid (∀ W, Rd vB W A b → Rd vB W (if c1 = 64 then some ⟨blk, o, none⟩ else some ⟨blk, o + 64, none⟩) (M.drop 64)) := fun W h => by
        have := (HA.out W h).drop 64 c1 hc1
        simpa [Addr.add] using this
      have HF2 : Hid (s.from b = (S.block (M.take 64)).from (M.drop 64)) := by unfold Hid; rw [HF.out]; exact from_step S M h64
      have HR2 : Hid (restL b = restL (M.drop 64)) := by unfold Hid; rw [HR.out]; exact restL_step M h64
      have hmd : (M.drop 64).length = M.length - 64 := List.length_drop
      obtain ⟨D, hD⟩ : ∃ D, D = M.drop 64 := ⟨_, rfl⟩
      rw [← hD] at hrd HF2 HR2 hmd
      have HD := Lib.hid hmd
      generalize M.take 64 = T at hr64 HL HF2
      clear hD hmd hr1 HF HR HA
      have hc64 : 64 ≤ c1 := by omega
      have hc64' : (64 : Int) ≤ (c1 : Int) := by omega
      go_wp2_with fail
      refine wp_region_plan_of (fun _ => True) (.step 1 false (.step 2 false (.step 0 true (.step 3 true (.step 4 true (.nil)))))) trivial (by kernel_rfl) (by kernel_rfl) (by rfl) (by kernel_rfl) ?_
      iterate 2 (refine plan_read rfl (by rfl) (v := ?_) ?_ ?_; rotate_left 1; (intro W hW; go_simp <;> with_reducible rfl); simp only [List.getElem_toArray, List.getElem_cons_zero, List.getElem_cons_succ, Act.put, List.setIfInBounds_toArray, List.set_cons_zero, List.set_cons_succ])
      refine plan_make_of rfl (by rfl) (fun K hK => ?_)
      refine wp_load_mid 326 (.tmp 2) (by rfl) w.heap.size 0 (by rfl) [.int .u32 (S.a.toNat : Int), .int .u32 (S.b.toNat : Int), .int .u32 (S.c.toNat : Int), .int .u32 (S.d.toNat : Int), .int .u32 (S.e.toNat : Int), .int .u32 (S.f.toNat : Int), .int .u32 (S.g.toNat : Int), .int .u32 (S.h.toNat : Int)] _ hR0.drew.range Tryz.underlying326 (by rfl) (by exact size_st) ?_
      simp only [List.getElem_toArray, List.getElem_cons_zero, List.getElem_cons_succ, Act.put, List.setIfInBounds_toArray, List.set_cons_zero, List.set_cons_succ]
      refine hK.out _ _ trivial ?_
      clear hK K
      refine plan_make_of rfl (by rfl) (fun K hK => ?_)
      go_simp
      refine (behind_any S T _ _ _ HL (by exact hr64.keep hB.drew) hc64 (by exact Lib.hid (HK.out.keep hB.drew))).mono ?_
      rintro e w1 ⟨S1, HS1, rfl, hb1⟩
      refine hK.out _ _ trivial ?_
      clear hK K
      replace hR0 := hR0.drew.later hb1
      replace hR1 := hR1.drew.later hb1
      replace hB := below_step hB.drew hb1
      clear hb1
      refine plan_make_of rfl (by rfl) (fun K hK => ?_)
      refine hR0.wp_store 326 (.tmp 2) (.tmp 12) (by rfl) (by rfl) [.int .u32 (S1.a.toNat : Int), .int .u32 (S1.b.toNat : Int), .int .u32 (S1.c.toNat : Int), .int .u32 (S1.d.toNat : Int), .int .u32 (S1.e.toNat : Int), .int .u32 (S1.f.toNat : Int), .int .u32 (S1.g.toNat : Int), .int .u32 (S1.h.toNat : Int)] (by rfl) (by exact size_st) (by rfl) (by exact one_st _ _ _ _ _ _ _ _) ?_
      simp only [List.getElem_toArray, List.getElem_cons_zero, List.getElem_cons_succ, Act.put, List.setIfInBounds_toArray, List.set_cons_zero, List.set_cons_succ]
      refine hK.out _ _ trivial ?_
      clear hK K
      refine plan_done ?_
      refine at_world (Q := _) (fun W => Row W w.heap.size 326 [.int .u32 (S1.a.toNat : Int), .int .u32 (S1.b.toNat : Int), .int .u32 (S1.c.toNat : Int), .int .u32 (S1.d.toNat : Int), .int .u32 (S1.e.toNat : Int), .int .u32 (S1.f.toNat : Int), .int .u32 (S1.g.toNat : Int), .int .u32 (S1.h.toNat : Int)] ∧ Row W (w.heap.size + 1) 326 (List.replicate 8 (.int .u32 0)) ∧ Below w.heap.size w W)
        ⟨hR0.setRow _, hR1.setRow_other (by omega) _, below_setRow hB (Nat.le_refl _) _⟩ ?_
      clear hR0 hR1 hB
      rintro W2 ⟨hR0, hR1, hB⟩
      have HRel : Hid (BlocksRel s b A w (.slice (if c1 = 64 then some ⟨blk, o, none⟩ else some ⟨blk, o + 64, none⟩) (M.length - 64) (c1 - 64)) W2) := by
        have e := HD.out
        refine ⟨S1, D, _, c1 - 64, by rw [e], by omega, by omega, hrd.out, ?_, HR2.out, hR0, hR1, hB⟩
        rw [HS1.out]
        exact HF2.out
      clear hrd HF2 HR2 hR0 hR1 hB HS1 HD HL hr64
      go_wp2_with fail
      go_roundw
      case rel => exact HRel.out
      case measure => simp [sliceLen]; omega
    · have HF2 : Hid (S = s.from b) := by unfold Hid; rw [HF.out]; exact (from_stop S M h64).symm
      have HR2 : Hid (restL b = M) := by unfold Hid; rw [HR.out]; exact restL_short M (by omega)
      clear HF HR
      go_wp2_with (first
        | (refine wpList_load_part rfl 326 (.tmp 2) rfl w.heap.size 0 rfl _ _ hR0 [.int .u32 (S.a.toNat : Int), .int .u32 (S.b.toNat : Int), .int .u32 (S.c.toNat : Int), .int .u32 (S.d.toNat : Int), .int .u32 (S.e.toNat : Int), .int .u32 (S.f.toNat : Int), .int .u32 (S.g.toNat : Int), .int .u32 (S.h.toNat : Int)] (by rfl) _ Tryz.underlying326 rfl (by exact size_st) ?_)
        | (refine wpList_store_row rfl 326 (.tmp 4) (.tmp 15) rfl (w.heap.size + 1) rfl [.int .u32 (S.a.toNat : Int), .int .u32 (S.b.toNat : Int), .int .u32 (S.c.toNat : Int), .int .u32 (S.d.toNat : Int), .int .u32 (S.e.toNat : Int), .int .u32 (S.f.toNat : Int), .int .u32 (S.g.toNat : Int), .int .u32 (S.h.toNat : Int)] rfl _ _ hR1 (by exact size_st) (by exact List.length_replicate) (by exact one_st _ _ _ _ _ _ _ _) ?_))
      refine bodyPost_ret (results_row_tmp (p := 4) (u := 5) (ty := 326) (by rfl) _ _ (w.heap.size + 1) 326 _ _ (by rfl) (by exact hR1.setRow _) Tryz.underlying326 (by rfl) (by exact size_st)) (by rfl) ?_
      refine ⟨S, A1, c1, HF2.out, ?_, ?_, ?_, below_setRow hB (Nat.le_succ _) _⟩
      · rw [HR2.out]; rfl
      · rw [HR2.out]; exact hc1
      · rw [HR2.out]; exact HA.out
end Go.Proofs.YteppocjgodmpdaaGreatDoor
namespace Go.Proofs.YteppocjgodmpdaaGreatDoor
open Go.RowKit
def markL (r : List UInt8) : List UInt8 := r ++ 128 :: List.replicate (63 - r.length) 0
theorem markL_length (r : List UInt8) (h : r.length < 64) : (markL r).length = 64 := by simp [markL]; omega
theorem markL_set (r : List UInt8) (h : r.length < 64) : (r ++ List.replicate (64 - r.length) 0).set r.length 128 = markL r := by
  rw [List.set_append_right _ _ (Nat.le_refl _), Nat.sub_self, show 64 - r.length = (63 - r.length) + 1 by omega, List.replicate_succ, List.set_cons_zero]
  rfl
theorem fill_short (r : List UInt8) (many : Nat) (h : r.length < 56) : fillL r many = (markL r).take 56 ++ putL (8 * many % 18446744073709551616) := by
  unfold fillL markL
  congr 1
  rw [List.take_append, List.take_of_length_le (by omega), show 56 - r.length = (55 - r.length) + 1 by omega, List.take_succ_cons, List.take_replicate,
    show (119 - r.length % 64) % 64 = 55 - r.length by omega, show min (55 - r.length) (63 - r.length) = 55 - r.length by omega]
theorem fill_long (r : List UInt8) (many : Nat) (h : 56 ≤ r.length) (h64 : r.length < 64) : fillL r many = markL r ++ ((List.replicate 64 0).take 56 ++ putL (8 * many % 18446744073709551616)) := by
  unfold fillL markL
  rw [← List.append_assoc]
  congr 1
  rw [List.append_assoc]
  congr 1
  rw [List.take_replicate, show min 56 64 = 56 by omega, show (119 - r.length % 64) % 64 = (63 - r.length) + 56 by omega, List.cons_append, List.replicate_append_replicate]
theorem from_one [Inhabited Tab] (s : St) (M : List UInt8) (h : M.length = 64) : s.from M = s.block M := by
  rw [from_step s M (by omega), List.take_of_length_le (by omega), List.drop_of_length_le (by omega)]
  exact from_stop _ _ (by simp)
theorem from_two [Inhabited Tab] (s : St) (M N : List UInt8) (h : M.length = 64) (h' : N.length = 64) : s.from (M ++ N) = (s.block M).block N := by
  rw [from_step s _ (by simp; omega), List.take_left' h, List.drop_left' h]
  exact from_one _ _ h'
theorem last_short [Inhabited Tab] (s : St) (r : List UInt8) (many : Nat) (h : r.length < 56) : s.from (fillL r many) = s.block ((markL r).take 56 ++ putL (8 * many % 18446744073709551616)) := by
  rw [fill_short r many h]
  exact from_one _ _ (by have := markL_length r (by omega); simp [putL_length]; omega)
theorem last_long [Inhabited Tab] (s : St) (r : List UInt8) (many : Nat) (h : 56 ≤ r.length) (h64 : r.length < 64) : s.from (fillL r many) = (s.block (markL r)).block ((List.replicate 64 0).take 56 ++ putL (8 * many % 18446744073709551616)) := by
  rw [fill_long r many h h64]
  exact from_two _ _ _ (markL_length r h64) (by simp [putL_length])
def manyS (g many : Nat) (W : World) : Prop := W.cell? ⟨g, 9, none⟩ = some (.int .u64 (many : Int)) ∧ True
set_option maxRecDepth 100000 in
set_option maxHeartbeats 1000000 in
theorem last_any [Inhabited Tab] (s : St) (r : List UInt8) (A : Option Addr) (c many : Nat) (w : World) (hr : Rd vB w A r) (hn : r.length < 64) (hm : many < 18446744073709551616) (HK : Hid (KTab w)) :
    Calls Tryz.prog 270 #[.agg #[.int .u32 (s.a.toNat : Int), .int .u32 (s.b.toNat : Int), .int .u32 (s.c.toNat : Int), .int .u32 (s.d.toNat : Int), .int .u32 (s.e.toNat : Int), .int .u32 (s.f.toNat : Int), .int .u32 (s.g.toNat : Int), .int .u32 (s.h.toNat : Int), .slice A r.length c, .int .u64 (many : Int)]] w (RetS vW w (s.from (fillL r many)).toL) := by
  have hmk : ∀ w, (Instr.makeSlice 22 (.int .i64 64) (.int .i64 64)).run Tryz.prog w = .ok (.slice (some ⟨w.heap.size, 0, none⟩) 64 64) (w.alloc (.cells (List.replicate 64 (.int .u8 0)).toArray 5)) := fun _ => by kernel_rfl
  obtain ⟨p, hp⟩ : ∃ p, p = 8 * many % 18446744073709551616 := ⟨_, rfl⟩
  have HP1 : Hid (IntKind.u64.wrap (8 * (many : Int)) = (p : Int)) := by unfold Hid; rw [IntKind.wrap_u64, hp]; omega
  have HP2 : Hid (8 * (many : Int) % 18446744073709551616 = (p : Int)) := by unfold Hid; rw [hp]; omega
  have HPm : Hid (p < 18446744073709551616) := by unfold Hid; rw [hp]; exact Nat.mod_lt _ (by omega)
  have HP := Lib.hid hp
  clear hp
  go_enter Tryz.func270, Tryz.ntmps270
  go_upto_region 4 with (first
    | (refine wpList_load_part rfl 326 (.tmp 6) rfl w.heap.size 0 rfl _ _ (Row.new w _ _ _ rfl) [.int .u32 (s.a.toNat : Int), .int .u32 (s.b.toNat : Int), .int .u32 (s.c.toNat : Int), .int .u32 (s.d.toNat : Int), .int .u32 (s.e.toNat : Int), .int .u32 (s.f.toNat : Int), .int .u32 (s.g.toNat : Int), .int .u32 (s.h.toNat : Int)] (by rfl) _ Tryz.underlying326 rfl (by exact size_st) ?_)
    | (refine wpList_copy_row rfl (.tmp 9) (.tmp 11) 22 22 rfl 5 Tryz.underlying22 (by kernel_rfl) (w.heap.size + 2) 0 64 64 A r c rfl rfl (List.replicate 64 (.int .u8 0)) 5 (by exact Row.new_at _ _ (by simp) _ _ _ rfl) (by exact hr.keep (below_new (below_new (below_new (Below.refl _ _) _) _) _)) vB_one (by omega) (by simp; omega) ?_))
  refine at_world (Q := Code.wp _ _ _ _) (fun W => Row W w.heap.size 330 [.int .u32 (s.a.toNat : Int), .int .u32 (s.b.toNat : Int), .int .u32 (s.c.toNat : Int), .int .u32 (s.d.toNat : Int), .int .u32 (s.e.toNat : Int), .int .u32 (s.f.toNat : Int), .int .u32 (s.g.toNat : Int), .int .u32 (s.h.toNat : Int), .slice A r.length c, .int .u64 (many : Int)] ∧ Row W (w.heap.size + 1) 326 [.int .u32 (s.a.toNat : Int), .int .u32 (s.b.toNat : Int), .int .u32 (s.c.toNat : Int), .int .u32 (s.d.toNat : Int), .int .u32 (s.e.toNat : Int), .int .u32 (s.f.toNat : Int), .int .u32 (s.g.toNat : Int), .int .u32 (s.h.toNat : Int)] ∧ Row W (w.heap.size + 1 + 1) 5 ((r ++ List.replicate (64 - r.length) 0).map vB) ∧ Below w.heap.size w W)
    ⟨(((Row.new w _ _ _ rfl).alloc _).alloc _).setRow_other (by omega) _, ((Row.new_at _ _ (by simp) _ _ _ rfl).alloc _).setRow_other (by omega) _, ?_, below_setRow (below_new (below_new (below_new (Below.refl _ _) _) _) _) (by omega) _⟩ ?_
  · refine Row.setRow_at (Row.new_at _ _ (by simp) _ _ _ rfl) _ _ ?_
    show (r.map vB ++ (List.replicate 64 (Value.int .u8 0)).drop r.length).toArray = _
    rw [List.drop_replicate, List.map_append, List.map_replicate]
    rfl
  clear hmk hr
  rintro W ⟨hR0, hR1, hR2, hB⟩
  have hcn : W.cell? ⟨w.heap.size + 1 + 1, r.length, none⟩ = some (.int .u8 0) := hR2.cell (by
    rw [List.map_append, List.getElem?_append_right (by simp), List.length_map, Nat.sub_self, List.map_replicate, List.getElem?_replicate, if_pos (by omega)]
    rfl)
  have hfz : W.frozen? ⟨w.heap.size + 1 + 1, r.length, none⟩ = false := hR2.frozen _
  have n0 : (0 : Int) ≤ (r.length : Int) := by omega
  have n1 : (r.length : Int) < 64 := by omega
  go_upto_region 5 with fail
  refine at_world (Q := Code.wp _ _ _ _) (fun W => Row W w.heap.size 330 [.int .u32 (s.a.toNat : Int), .int .u32 (s.b.toNat : Int), .int .u32 (s.c.toNat : Int), .int .u32 (s.d.toNat : Int), .int .u32 (s.e.toNat : Int), .int .u32 (s.f.toNat : Int), .int .u32 (s.g.toNat : Int), .int .u32 (s.h.toNat : Int), .slice A r.length c, .int .u64 (many : Int)] ∧ Row W (w.heap.size + 1) 326 [.int .u32 (s.a.toNat : Int), .int .u32 (s.b.toNat : Int), .int .u32 (s.c.toNat : Int), .int .u32 (s.d.toNat : Int), .int .u32 (s.e.toNat : Int), .int .u32 (s.f.toNat : Int), .int .u32 (s.g.toNat : Int), .int .u32 (s.h.toNat : Int)] ∧ Row W (w.heap.size + 1 + 1) 5 ((markL r).map vB) ∧ Below w.heap.size w W)
    ⟨hR0.setCell_other (by simp; omega) _, hR1.setCell_other (by simp) _, ?_, hB.setCell (by simp; omega) _⟩ ?_
  · have := hR2.setCell r.length (vB 128)
    rw [← List.map_set, markL_set r hn] at this
    exact this
  clear hR0 hR1 hR2 hB hcn hfz W
  rintro W ⟨hR0, hR1, hR2, hB⟩
  by_cases h56 : r.length < 56
  · have hd : decide ((56 : Int) ≤ (r.length : Int)) = false := by simp; omega
    have HE : Hid (s.from (fillL r many) = s.block ((markL r).take 56 ++ putL p)) := by unfold Hid; rw [HP.out]; exact last_short s r many h56
    have HM : Hid ((markL r).length = 64) := markL_length r hn
    generalize markL r = M at hR2 HE HM
    obtain ⟨S, hS⟩ : ∃ S, S = s := ⟨_, rfl⟩
    replace hR1 : Row W (w.heap.size + 1) 326 [.int .u32 (S.a.toNat : Int), .int .u32 (S.b.toNat : Int), .int .u32 (S.c.toNat : Int), .int .u32 (S.d.toNat : Int), .int .u32 (S.e.toNat : Int), .int .u32 (S.f.toNat : Int), .int .u32 (S.g.toNat : Int), .int .u32 (S.h.toNat : Int)] := by rw [hS]; exact hR1
    replace HE : Hid (s.from (fillL r many) = S.block (M.take 56 ++ putL p)) := by rw [hS]; exact HE
    clear hS
    go_upto_region 8 with fail
    clear hd h56
    have h8 := putL_length p
    generalize hpl : putL p = Pl at HE h8
    have HPl := Lib.hid hpl
    have H8 := Lib.hid h8
    clear hpl h8
    have hP1 := HP1.out
    have hP2 := HP2.out
    refine wp_region_plan_of (manyS w.heap.size many) (.step 0 false (.step 1 false (.step 2 false (.step 3 false (.step 4 false (.step 5 true (.step 6 true (.nil)))))))) ⟨hR0.drew.cell rfl, trivial⟩ (by kernel_rfl) (by kernel_rfl) (by rfl) (by kernel_rfl) ?_
    iterate 5 (refine plan_read rfl (by rfl) (v := ?_) ?_ ?_; rotate_left 1; (intro W hW; (try dsimp only at hW); obtain ⟨hW0, hW1⟩ := hW; go_simp <;> with_reducible rfl); simp only [List.getElem_toArray, List.getElem_cons_zero, List.getElem_cons_succ, Act.put, List.setIfInBounds_toArray, List.set_cons_zero, List.set_cons_succ])
    clear hP1 hP2
    refine plan_make_of rfl (by rfl) (fun K hK => ?_)
    go_simp
    refine (put_any p HPm.out _).mono ?_
    rintro e w1 ⟨A1, c1, rfl, hc1, hr1, hb1⟩
    rw [HPl.out] at hc1 hr1 ⊢
    refine hK.out _ _ ⟨(hR0.drew.later hb1).cell rfl, trivial⟩ ?_
    clear hK K
    replace hR0 := hR0.drew.later hb1
    replace hR1 := hR1.drew.later hb1
    replace hR2 := hR2.drew.later hb1
    replace hB := below_step hB.drew hb1
    clear hb1
    refine plan_make_of rfl (by rfl) (fun K hK => ?_)
    refine wp_copy_row (.tmp 24) (.tmp 28) 22 22 (by rfl) 5 Tryz.underlying22 (by kernel_rfl) (w.heap.size + 1 + 1) 56 8 8 A1 Pl c1 (by rfl) (by rfl) (M.map vB) _ hR2 hr1 vB_one (by have := H8.out; omega) (by rw [List.length_map, HM.out, H8.out]; omega) ?_
    simp only [List.getElem_toArray, List.getElem_cons_zero, List.getElem_cons_succ, Act.put, List.setIfInBounds_toArray, List.set_cons_zero, List.set_cons_succ]
    refine hK.out _ _ ⟨(hR0.setRow_other (by omega) _).cell rfl, trivial⟩ ?_
    clear hK K
    refine plan_done ?_
    refine at_world (Q := _) (fun W => Row W (w.heap.size + 1) 326 [.int .u32 (S.a.toNat : Int), .int .u32 (S.b.toNat : Int), .int .u32 (S.c.toNat : Int), .int .u32 (S.d.toNat : Int), .int .u32 (S.e.toNat : Int), .int .u32 (S.f.toNat : Int), .int .u32 (S.g.toNat : Int), .int .u32 (S.h.toNat : Int)] ∧ Row W (w.heap.size + 1 + 1) 5 ((M.take 56 ++ Pl).map vB) ∧ Below w.heap.size w W)
      ⟨hR1.setRow_other (by omega) _, Row.setRow_at hR2 _ _ ?_, below_setRow hB (by omega) _⟩ ?_
    · rw [List.drop_of_length_le (by rw [List.length_map, HM.out, H8.out]; omega), List.append_nil, List.map_append, List.map_take]
    have HM2 : Hid ((M.take 56 ++ Pl).length = 64) := by unfold Hid; rw [List.length_append, List.length_take, HM.out, H8.out]; rfl
    generalize M.take 56 ++ Pl = N at HE HM2
    clear hR0 hR1 hR2 hB hr1 hc1 HM
    rintro W ⟨hR1, hR2, hB⟩
    have hr2 : Rd vB W (some ⟨w.heap.size + 1 + 1, 0, none⟩) N := hR2.rd
    go_wp2_with (refine wpList_load_part rfl 326 (.tmp 3) rfl (w.heap.size + 1) 0 rfl _ _ hR1 [.int .u32 (S.a.toNat : Int), .int .u32 (S.b.toNat : Int), .int .u32 (S.c.toNat : Int), .int .u32 (S.d.toNat : Int), .int .u32 (S.e.toNat : Int), .int .u32 (S.f.toNat : Int), .int .u32 (S.g.toNat : Int), .int .u32 (S.h.toNat : Int)] (by rfl) _ Tryz.underlying326 rfl (by exact size_st) ?_)
    refine (behind_any S N _ _ _ HM2 hr2 (Nat.le_refl _) (Lib.hid (HK.out.keep hB))).mono ?_
    rintro e w2 ⟨T, HT, rfl, hb2⟩
    replace hR1 := hR1.later hb2
    replace hB := below_step hB hb2
    clear hr2 hR2 hb2
    go_wp2_with (refine wpList_store_row rfl 326 (.tmp 3) (.tmp 32) rfl (w.heap.size + 1) rfl [.int .u32 (T.a.toNat : Int), .int .u32 (T.b.toNat : Int), .int .u32 (T.c.toNat : Int), .int .u32 (T.d.toNat : Int), .int .u32 (T.e.toNat : Int), .int .u32 (T.f.toNat : Int), .int .u32 (T.g.toNat : Int), .int .u32 (T.h.toNat : Int)] rfl _ _ hR1 (by exact size_st) (by rfl) (by exact one_st _ _ _ _ _ _ _ _) ?_)
    go_ret
    rw [HE.out, ← HT.out]
    exact ⟨_, 8, rfl, Nat.le_refl _, Row.rd (f := vW) (L := T.toL) (hR1.setRow _), below_setRow hB (by omega) _⟩
  · have hd : decide ((56 : Int) ≤ (r.length : Int)) = true := by simp; omega
    have HE : Hid (s.from (fillL r many) = (s.block (markL r)).block ((List.replicate 64 0).take 56 ++ putL p)) := by unfold Hid; rw [HP.out]; exact last_long s r many (by omega) hn
    have HM : Hid ((markL r).length = 64) := markL_length r hn
    generalize markL r = M at hR2 HE HM
    have hr2 : Rd vB W (some ⟨w.heap.size + 1 + 1, 0, none⟩) M := hR2.rd
    go_wp2_with (refine wpList_load_part rfl 326 (.tmp 3) rfl (w.heap.size + 1) 0 rfl _ _ hR1 [.int .u32 (s.a.toNat : Int), .int .u32 (s.b.toNat : Int), .int .u32 (s.c.toNat : Int), .int .u32 (s.d.toNat : Int), .int .u32 (s.e.toNat : Int), .int .u32 (s.f.toNat : Int), .int .u32 (s.g.toNat : Int), .int .u32 (s.h.toNat : Int)] (by rfl) _ Tryz.underlying326 rfl (by exact size_st) ?_)
    refine (behind_any s M _ _ _ HM hr2 (Nat.le_refl _) (Lib.hid (HK.out.keep hB))).mono ?_
    rintro e w1 ⟨S, HS, rfl, hb1⟩
    replace hR0 := hR0.later hb1
    replace hR1 := hR1.later hb1
    replace hR2 := hR2.later hb1
    replace hB := below_step hB hb1
    clear hr2 hb1
    go_upto_region 7 with (refine wpList_store_row rfl 326 (.tmp 3) (.tmp 21) rfl (w.heap.size + 1) rfl [.int .u32 (S.a.toNat : Int), .int .u32 (S.b.toNat : Int), .int .u32 (S.c.toNat : Int), .int .u32 (S.d.toNat : Int), .int .u32 (S.e.toNat : Int), .int .u32 (S.f.toNat : Int), .int .u32 (S.g.toNat : Int), .int .u32 (S.h.toNat : Int)] rfl _ _ hR1 (by exact size_st) (by rfl) (by exact one_st _ _ _ _ _ _ _ _) ?_)
    refine at_world (Q := Code.wp _ _ _ _) (fun W => Row W w.heap.size 330 [.int .u32 (s.a.toNat : Int), .int .u32 (s.b.toNat : Int), .int .u32 (s.c.toNat : Int), .int .u32 (s.d.toNat : Int), .int .u32 (s.e.toNat : Int), .int .u32 (s.f.toNat : Int), .int .u32 (s.g.toNat : Int), .int .u32 (s.h.toNat : Int), .slice A r.length c, .int .u64 (many : Int)] ∧ Row W (w.heap.size + 1) 326 [.int .u32 (S.a.toNat : Int), .int .u32 (S.b.toNat : Int), .int .u32 (S.c.toNat : Int), .int .u32 (S.d.toNat : Int), .int .u32 (S.e.toNat : Int), .int .u32 (S.f.toNat : Int), .int .u32 (S.g.toNat : Int), .int .u32 (S.h.toNat : Int)] ∧ Row W (w.heap.size + 1 + 1) 5 (M.map vB) ∧ Below w.heap.size w W)
      ⟨hR0.setRow_other (by omega) _, hR1.setRow _, hR2.setRow_other (by omega) _, below_setRow hB (by omega) _⟩ ?_
    clear hR0 hR1 hR2 hB w1 W
    rintro W ⟨hR0, hR1, hR2, hB⟩
    have hcl : (Builtin.clear_ #[22] 0 #[.slice (some ⟨w.heap.size + 1 + 1, 0, none⟩) 64 64]).run Tryz.prog W = .ok (.tuple #[]) (W.setCells (w.heap.size + 1 + 1) 0 (List.replicate 64 (.int .u8 0))) :=
      Lib.run_clear_slice W _ 5 _ (.int .u8 0) Tryz.underlying22 (fun _ => by kernel_rfl) rfl rfl _ 0 64 64 (by omega) (fun j hj => by rw [hR2.cell?]; have := HM.out; simp [this, hj]) (fun j _ => hR2.frozen _)
    go_upto_region 8 with fail
    refine at_world (Q := Code.wp _ _ _ _) (fun W => Row W w.heap.size 330 [.int .u32 (s.a.toNat : Int), .int .u32 (s.b.toNat : Int), .int .u32 (s.c.toNat : Int), .int .u32 (s.d.toNat : Int), .int .u32 (s.e.toNat : Int), .int .u32 (s.f.toNat : Int), .int .u32 (s.g.toNat : Int), .int .u32 (s.h.toNat : Int), .slice A r.length c, .int .u64 (many : Int)] ∧ Row W (w.heap.size + 1) 326 [.int .u32 (S.a.toNat : Int), .int .u32 (S.b.toNat : Int), .int .u32 (S.c.toNat : Int), .int .u32 (S.d.toNat : Int), .int .u32 (S.e.toNat : Int), .int .u32 (S.f.toNat : Int), .int .u32 (S.g.toNat : Int), .int .u32 (S.h.toNat : Int)] ∧ Row W (w.heap.size + 1 + 1) 5 ((List.replicate 64 (0 : UInt8)).map vB) ∧ Below w.heap.size w W)
      ⟨hR0.setCells_other (by omega) _ _, hR1.setCells_other (by omega) _ _, ?_, below_setCells (by omega) _ _ hB⟩ ?_
    · have h0 : 0 + (List.replicate 64 (Value.int .u8 0)).length ≤ (M.map vB).length := by rw [List.length_map, HM.out]; simp
      have h1 : (M.map vB).take 0 ++ List.replicate 64 (Value.int .u8 0) ++ (M.map vB).drop (0 + (List.replicate 64 (Value.int .u8 0)).length) = (List.replicate 64 (0 : UInt8)).map vB := by
        rw [List.drop_of_length_le (by rw [List.length_map, HM.out]; simp), List.map_replicate]
        rfl
      have := Row.setCells _ 0 hR2 h0
      rw [h1] at this
      exact this
    replace HE : Hid (s.from (fillL r many) = S.block ((List.replicate 64 0).take 56 ++ putL p)) := by unfold Hid; rw [HE.out, HS.out]
    clear hR0 hR1 hR2 hB hcl HM HS W M hd h56
    rintro W ⟨hR0, hR1, hR2, hB⟩
    have HM : Hid ((List.replicate 64 (0 : UInt8)).length = 64) := List.length_replicate
    generalize List.replicate 64 (0 : UInt8) = M at HE HM hR2
    have h8 := putL_length p
    generalize hpl : putL p = Pl at HE h8
    have HPl := Lib.hid hpl
    have H8 := Lib.hid h8
    clear hpl h8
    have hP1 := HP1.out
    have hP2 := HP2.out
    refine wp_region_plan_of (manyS w.heap.size many) (.step 0 false (.step 1 false (.step 2 false (.step 3 false (.step 4 false (.step 5 true (.step 6 true (.nil)))))))) ⟨hR0.drew.cell rfl, trivial⟩ (by kernel_rfl) (by kernel_rfl) (by rfl) (by kernel_rfl) ?_
    iterate 5 (refine plan_read rfl (by rfl) (v := ?_) ?_ ?_; rotate_left 1; (intro W hW; (try dsimp only at hW); obtain ⟨hW0, hW1⟩ := hW; go_simp <;> with_reducible rfl); simp only [List.getElem_toArray, List.getElem_cons_zero, List.getElem_cons_succ, Act.put, List.setIfInBounds_toArray, List.set_cons_zero, List.set_cons_succ])
    clear hP1 hP2
    refine plan_make_of rfl (by rfl) (fun K hK => ?_)
    go_simp
    refine (put_any p HPm.out _).mono ?_
    rintro e w1 ⟨A1, c1, rfl, hc1, hr1, hb1⟩
    rw [HPl.out] at hc1 hr1 ⊢
    refine hK.out _ _ ⟨(hR0.drew.later hb1).cell rfl, trivial⟩ ?_
    clear hK K
    replace hR0 := hR0.drew.later hb1
    replace hR1 := hR1.drew.later hb1
    replace hR2 := hR2.drew.later hb1
    replace hB := below_step hB.drew hb1
    clear hb1
    refine plan_make_of rfl (by rfl) (fun K hK => ?_)
    refine wp_copy_row (.tmp 24) (.tmp 28) 22 22 (by rfl) 5 Tryz.underlying22 (by kernel_rfl) (w.heap.size + 1 + 1) 56 8 8 A1 Pl c1 (by rfl) (by rfl) (M.map vB) _ hR2 hr1 vB_one (by have := H8.out; omega) (by rw [List.length_map, HM.out, H8.out]; omega) ?_
    simp only [List.getElem_toArray, List.getElem_cons_zero, List.getElem_cons_succ, Act.put, List.setIfInBounds_toArray, List.set_cons_zero, List.set_cons_succ]
    refine hK.out _ _ ⟨(hR0.setRow_other (by omega) _).cell rfl, trivial⟩ ?_
    clear hK K
    refine plan_done ?_
    refine at_world (Q := _) (fun W => Row W (w.heap.size + 1) 326 [.int .u32 (S.a.toNat : Int), .int .u32 (S.b.toNat : Int), .int .u32 (S.c.toNat : Int), .int .u32 (S.d.toNat : Int), .int .u32 (S.e.toNat : Int), .int .u32 (S.f.toNat : Int), .int .u32 (S.g.toNat : Int), .int .u32 (S.h.toNat : Int)] ∧ Row W (w.heap.size + 1 + 1) 5 ((M.take 56 ++ Pl).map vB) ∧ Below w.heap.size w W)
      ⟨hR1.setRow_other (by omega) _, Row.setRow_at hR2 _ _ ?_, below_setRow hB (by omega) _⟩ ?_
    · rw [List.drop_of_length_le (by rw [List.length_map, HM.out, H8.out]; omega), List.append_nil, List.map_append, List.map_take]
    have HM2 : Hid ((M.take 56 ++ Pl).length = 64) := by unfold Hid; rw [List.length_append, List.length_take, HM.out, H8.out]; rfl
    generalize M.take 56 ++ Pl = N at HE HM2
    clear hR0 hR1 hR2 hB hr1 hc1 HM
    rintro W ⟨hR1, hR2, hB⟩
    have hr2 : Rd vB W (some ⟨w.heap.size + 1 + 1, 0, none⟩) N := hR2.rd
    go_wp2_with (refine wpList_load_part rfl 326 (.tmp 3) rfl (w.heap.size + 1) 0 rfl _ _ hR1 [.int .u32 (S.a.toNat : Int), .int .u32 (S.b.toNat : Int), .int .u32 (S.c.toNat : Int), .int .u32 (S.d.toNat : Int), .int .u32 (S.e.toNat : Int), .int .u32 (S.f.toNat : Int), .int .u32 (S.g.toNat : Int), .int .u32 (S.h.toNat : Int)] (by rfl) _ Tryz.underlying326 rfl (by exact size_st) ?_)
    refine (behind_any S N _ _ _ HM2 hr2 (Nat.le_refl _) (Lib.hid (HK.out.keep hB))).mono ?_
    rintro e w2 ⟨T, HT, rfl, hb2⟩
    replace hR1 := hR1.later hb2
    replace hB := below_step hB hb2
    clear hr2 hR2 hb2
    go_wp2_with (refine wpList_store_row rfl 326 (.tmp 3) (.tmp 32) rfl (w.heap.size + 1) rfl [.int .u32 (T.a.toNat : Int), .int .u32 (T.b.toNat : Int), .int .u32 (T.c.toNat : Int), .int .u32 (T.d.toNat : Int), .int .u32 (T.e.toNat : Int), .int .u32 (T.f.toNat : Int), .int .u32 (T.g.toNat : Int), .int .u32 (T.h.toNat : Int)] rfl _ _ hR1 (by exact size_st) (by rfl) (by exact one_st _ _ _ _ _ _ _ _) ?_)
    go_ret
    rw [HE.out, ← HT.out]
    exact ⟨_, 8, rfl, Nat.le_refl _, Row.rd (f := vW) (L := T.toL) (hR1.setRow _), below_setRow hB (by omega) _⟩
end Go.Proofs.YteppocjgodmpdaaGreatDoor
namespace Go.Proofs.YteppocjgodmpdaaGreatDoor
open Go.RowKit
theorem fillL_step (b : List UInt8) (many : Nat) (h : 64 ≤ b.length) : fillL b many = b.take 64 ++ fillL (b.drop 64) many := by
  unfold fillL
  rw [List.length_drop, show (b.length - 64) % 64 = b.length % 64 by omega, ← List.append_assoc, ← List.append_assoc, List.take_append_drop]
theorem from_fill [Inhabited Tab] (many : Nat) : ∀ (n : Nat) (s : St) (b : List UInt8), b.length ≤ n → s.from (fillL b many) = (s.from b).from (fillL (restL b) many)
  | n, s, b, hn => by
    by_cases h : 64 ≤ b.length
    · match n, hn with
      | 0, hn => omega
      | n + 1, hn =>
        rw [fillL_step b many h, from_step s _ (by simp; omega), List.take_left' (by simp; omega), List.drop_left' (by simp; omega), from_fill many n _ (b.drop 64) (by simp; omega), from_step s b h, restL_step b h]
    · rw [from_stop s b h, restL_short b (by omega)]
theorem hash_state (S : St) (x y : Value) (W : World) : (Instr.field 330 (.agg #[.int .u32 (S.a.toNat : Int), .int .u32 (S.b.toNat : Int), .int .u32 (S.c.toNat : Int), .int .u32 (S.d.toNat : Int), .int .u32 (S.e.toNat : Int), .int .u32 (S.f.toNat : Int), .int .u32 (S.g.toNat : Int), .int .u32 (S.h.toNat : Int), x, y]) 0).run Tryz.prog W = .ok (.agg #[.int .u32 (S.a.toNat : Int), .int .u32 (S.b.toNat : Int), .int .u32 (S.c.toNat : Int), .int .u32 (S.d.toNat : Int), .int .u32 (S.e.toNat : Int), .int .u32 (S.f.toNat : Int), .int .u32 (S.g.toNat : Int), .int .u32 (S.h.toNat : Int)]) W := by kernel_rfl
set_option maxHeartbeats 600000 in
theorem sum_any [Inhabited Tab] (b : List UInt8) (A : Option Addr) (c : Nat) (w : World) (hr : Rd vB w A b) (hc : b.length ≤ c) (hl : b.length ≤ 9223372036854775807) (HK : Hid (KTab w)) :
    Calls Tryz.prog 258 #[.slice A b.length c] w (RetS vB w (sumL b)) := by
  go_enter Tryz.func258, Tryz.ntmps258
  go_wp2_with fail
  refine (start_any _).mono ?_
  rintro e w1 ⟨S0, HS0, rfl, hb1⟩
  have hfd := hash_state S0 (.slice none 0 0) (.int .u64 0)
  go_wp2_with fail
  clear hfd
  refine (wholeBlocks_any S0 b _ _ _ (hr.keep hb1) hc hl (Lib.hid (HK.out.keep hb1))).mono ?_
  rintro e w2 ⟨S, A2, c2, HS, rfl, hc2, hall, hb2⟩
  have hB := below_step hb1 hb2
  have hr2 := hall w2 (hr.keep hB)
  clear hall
  have HE : Hid (sumL b = bytesL (S.from (fillL (restL b) b.length)).toL) := by unfold Hid sumL; rw [from_fill b.length b.length startSt b (Nat.le_refl _), HS.out, HS0.out]
  have h64 : (restL b).length < 64 := by rw [restL_length]; omega
  generalize restL b = R at hc2 hr2 HE h64
  have h8 : (S.from (fillL R b.length)).toL.length = 8 := rfl
  generalize hL : (S.from (fillL R b.length)).toL = L at h8 HE
  have HL := Lib.hid hL
  have H8 := Lib.hid h8
  clear hL h8 hb1 hb2 HS
  go_wp2_with fail
  have hb3 : Below w2.heap.size w2 (w2.alloc (.cells #[.int .u32 (S.a.toNat : Int), .int .u32 (S.b.toNat : Int), .int .u32 (S.c.toNat : Int), .int .u32 (S.d.toNat : Int), .int .u32 (S.e.toNat : Int), .int .u32 (S.f.toNat : Int), .int .u32 (S.g.toNat : Int), .int .u32 (S.h.toNat : Int)] 326)) := below_new (Below.refl _ _) _
  refine (last_any S R _ _ _ _ (hr2.keep hb3) h64 (by omega) (Lib.hid (HK.out.keep (below_step hB hb3)))).mono ?_
  replace hB := below_step hB hb3
  rintro e w3 ⟨A3, c3, rfl, hc3, hr3, hb4⟩
  rw [HL.out] at hc3 hr3 ⊢
  replace hB := below_step hB hb4
  clear hb3 hb4 hr2
  go_wp2_with fail
  refine (bytes_any L _ _ _ hr3 (by have := H8.out; omega)).mono ?_
  rintro e w4 ⟨A4, c4, rfl, hc4, hr4, hb5⟩
  go_wp2_with fail
  go_ret
  rw [HE.out]
  exact ⟨A4, c4, rfl, hc4, hr4, below_step hB hb5⟩
end Go.Proofs.YteppocjgodmpdaaGreatDoor
namespace Go.Proofs.YteppocjgodmpdaaGreatDoor
open Go.RowKit
def fS [Inhabited Tab] (b : List UInt8) : List UInt8 := (sumL b).take 4
theorem sumL_len32 [Inhabited Tab] (b : List UInt8) : (sumL b).length = 32 := rfl
theorem fS_length [Inhabited Tab] (b : List UInt8) : (fS b).length = 4 := by unfold fS; rw [List.length_take, sumL_len32]; rfl
def RetLn (n : Nat) (w : World) (l : List UInt8) (e : Ending) (w' : World) : Prop := ∃ A cap, e = .returned (.slice A n cap) ∧ n ≤ cap ∧ Rd vB w' A l ∧ Below w.heap.size w w'
theorem put_low (n : Nat) (h : n ≤ 60000) : (putL n).drop 6 = [UInt8.ofNat (n / 256), UInt8.ofNat (n % 256)] := by
  have e : (putL n).drop 6 = [UInt8.ofNat (n / 256 ^ 1), UInt8.ofNat (n / 256 ^ 0)] := rfl
  rw [e, Nat.pow_one, Nat.pow_zero, Nat.div_one]
  congr 2
  apply UInt8.toNat_inj.1
  rw [UInt8.toNat_ofNat', UInt8.toNat_ofNat']
  omega
theorem head18_any (t : List UInt8) (n : Nat) (w : World) (HN : Hid (t.length = n)) (hn : n ≤ 60000) : Calls Tryz.prog 229 #[.int .i64 (n : Int)] w (RetLn 2 w (hdS t)) := by
  have h1 : IntKind.u64.wrap (n : Int) = (n : Int) := by rw [IntKind.wrap_u64]; omega
  have HP : Hid ((putL n).drop 6 = hdS t) := by unfold Hid hdS; rw [HN.out]; exact put_low n hn
  have H8 : Hid ((putL n).length = 8) := rfl
  go_enter Tryz.func229, Tryz.ntmps229
  go_wp2_with fail
  refine (put_any n (by omega) _).mono ?_
  rintro e' w2 ⟨A, c, rfl, hc, hr, hb⟩
  rw [H8.out] at hc ⊢
  obtain ⟨A1, hcut0, hrd⟩ := cut_from (P := Tryz.prog) 22 5 Tryz.underlying22 size_uint8 A 8 c 6 (by omega) hc
  have hcut : ∀ W, (Instr.slice 22 (.slice A 8 c) (some (.int .i64 6)) none none).run Tryz.prog W = .ok (.slice A1 2 (c - 6)) W := hcut0
  have hr1 := hrd vB w2 _ H8.out hr
  rw [HP.out] at hr1
  clear hcut0 hrd hr
  go_wp2_with fail
  go_ret
  exact ⟨A1, c - 6, rfl, by omega, hr1, hb⟩
theorem sum18_any [Inhabited Tab] (b : List UInt8) (n : Nat) (A : Option Addr) (c : Nat) (w : World) (HN : Hid (b.length = n)) (hr : Rd vB w A b) (hc : n ≤ c) (hl : n ≤ 1000000000) (HK : Hid (KTab w)) :
    Calls Tryz.prog 230 #[.slice A n c] w (RetLn 4 w (fS b)) := by
  have e := HN.out
  subst e
  have H32 : Hid ((sumL b).length = 32) := sumL_len32 b
  have HF : Hid ((sumL b).take 4 = fS b) := rfl
  go_enter Tryz.func230, Tryz.ntmps230
  go_wp2_with fail
  refine (sum_any b A c w hr hc (by omega) HK).mono ?_
  rintro e' w2 ⟨A2, c2, rfl, hc2, hr2, hb⟩
  rw [H32.out] at hc2 ⊢
  have hcut : ∀ W, (Instr.slice 22 (.slice A2 32 c2) none (some (.int .i64 4)) none).run Tryz.prog W = .ok (.slice A2 4 c2) W := fun W => run_cut_to (P := Tryz.prog) 22 5 Tryz.underlying22 size_uint8 A2 32 c2 4 (by omega) W
  have hr4 := hr2.take 4
  rw [HF.out] at hr4
  clear hr2
  go_wp2_with fail
  go_ret
  exact ⟨A2, c2, rfl, by omega, hr4, hb⟩
theorem sumat_any (b : List UInt8) (n cn : Nat) (A : Option Addr) (c : Nat) (w : World) (HN : Hid (b.length = n)) (HC : Hid (cntS b = cn)) (hr : Rd vB w A b) (h2 : 2 ≤ n) :
    Calls Tryz.prog 248 #[.slice A n c] w fun e w' => e = .returned (.int .i64 ((2 + cn : Nat) : Int)) ∧ Below w.heap.size w w' := by
  have hlen := HN.out
  obtain ⟨blk, o, rfl, hblk, hcell⟩ := hr.at (k := 0) (by omega)
  have hc0 := hcell 0 (by omega)
  have hc1 := hcell 1 (by omega)
  have hcn : cn = 256 * (b[0]'(by omega)).toNat + (b[1]'(by omega)).toNat := by
    rw [← HC.out]
    unfold cntS
    rw [List.getD_eq_getElem?_getD, List.getElem?_eq_getElem (by omega), List.getD_eq_getElem?_getD, List.getElem?_eq_getElem (by omega)]
    rfl
  rw [Nat.add_zero] at hc0
  unfold vB at hc0 hc1
  have hx := b[0].toNat_lt
  have hy := b[1].toNat_lt
  generalize b[0].toNat = x at hc0 hcn hx
  generalize b[1].toNat = y at hc1 hcn hy
  have i1 : 0 < n := by omega
  have i2 : (1 : Int) < (n : Int) := by omega
  have i3 : 1 < n := by omega
  have HE : Hid (2 + (x : Int) * 256 + (y : Int) = ((2 + cn : Nat) : Int)) := by unfold Hid; omega
  have hc0' : ∀ W, Below w.heap.size w W → W.cell? ⟨blk, o, none⟩ = some (.int .u8 (x : Int)) := fun W hW => (hW.cell (p := ⟨blk, o, none⟩) hblk).trans hc0
  have hc1' : ∀ W, Below w.heap.size w W → W.cell? ⟨blk, o + 1, none⟩ = some (.int .u8 (y : Int)) := fun W hW => (hW.cell (p := ⟨blk, o + 1, none⟩) hblk).trans hc1
  clear hcell hr hcn hlen
  go_enter Tryz.func248, Tryz.ntmps248
  go_wp2_with fail
  have hBase : Below w.heap.size w w.drew := (Below.refl _ _).drew
  refine wp_region_plan (.step 0 false (.step 1 false (.step 2 false (.step 3 false (.step 4 false (.step 5 false (.step 6 false (.step 7 false (.step 8 false (.step 9 false (.step 10 false (.step 11 false (.nil))))))))))))) (by kernel_rfl) (by kernel_rfl) (by rfl) (by kernel_rfl) ?_
  iterate 12 (refine plan_read rfl (by rfl) (v := ?_) ?_ ?_; rotate_left 1; (intro W hW; have hW0 := below_step hBase hW; (try dsimp only at hW); go_simp <;> with_reducible rfl); simp only [List.getElem_toArray, List.getElem_cons_zero, List.getElem_cons_succ, Act.put, List.setIfInBounds_toArray, List.set_cons_zero, List.set_cons_succ])
  have w1 : IntKind.i64.wrap (x : Int) = (x : Int) := by rw [IntKind.wrap_i64]; omega
  have w2 : IntKind.i64.wrap ((x : Int) * 256) = (x : Int) * 256 := by rw [IntKind.wrap_i64]; omega
  have w3 : IntKind.i64.wrap (2 + (x : Int) * 256) = 2 + (x : Int) * 256 := by rw [IntKind.wrap_i64]; omega
  have w4 : IntKind.i64.wrap (y : Int) = (y : Int) := by rw [IntKind.wrap_i64]; omega
  have w5 : IntKind.i64.wrap (2 + (x : Int) * 256 + (y : Int)) = 2 + (x : Int) * 256 + (y : Int) := by rw [IntKind.wrap_i64]; omega
  have e : IntKind.i64.wrap (IntKind.i64.wrap (2 + IntKind.i64.wrap (IntKind.i64.wrap (x : Int) * 256)) + IntKind.i64.wrap (y : Int)) = ((2 + cn : Nat) : Int) := by
    rw [w1, w2, w3, w4, w5]
    exact HE.out
  clear w1 w2 w3 w4 w5
  rw [e]
  clear e
  refine plan_done ?_
  go_wp2_with fail
  go_ret
  exact ⟨rfl, hBase⟩
theorem stands_any [Inhabited Tab] (b : List UInt8) (n : Nat) (A : Option Addr) (c : Nat) (w : World) (HN : Hid (b.length = n)) (hr : Rd vB w A b) (hc : n ≤ c) (hn : n ≤ 1000000000) (HK : Hid (KTab w)) :
    Calls Tryz.prog 247 #[.slice A n c] w fun e w' => e = .returned (.bool (goodS fS b)) ∧ Below w.heap.size w w' := by
  have HG : Hid (goodS fS b = _) := good_way (f := fS) b
  have hcl := cnt_lt b
  obtain ⟨G, hG⟩ : ∃ G, goodS fS b = G := ⟨_, rfl⟩
  obtain ⟨cn, hcn⟩ : ∃ cn, cntS b = cn := ⟨_, rfl⟩
  have HCN := Lib.hid hcn
  unfold Hid at HG
  rw [hG, hcn, HN.out] at HG
  rw [hG]
  rw [hcn] at hcl
  clear hG hcn
  by_cases h2 : 2 ≤ n
  · have i1 : ¬ (n : Int) < 2 := by omega
    rw [decide_eq_true h2, Bool.true_and] at HG
    have HSA := Lib.hid (sumat_any b n cn A c w HN HCN hr h2)
    by_cases h6 : cn ≤ 60000
    · rw [decide_eq_true h6, Bool.true_and] at HG
      have i2 : ¬ (60002 : Int) < ((2 + cn : Nat) : Int) := by omega
      by_cases h4 : 6 + cn ≤ n
      · rw [decide_eq_true h4, Bool.true_and] at HG
        obtain ⟨E, hE⟩ : ∃ E, 2 + cn = E := ⟨_, rfl⟩
        have HE := Lib.hid hE
        rw [hE] at HG i2
        unfold Hid at HSA
        rw [hE] at HSA
        replace HSA := Lib.hid HSA
        have i3 : ¬ (n : Int) < (E : Int) + 4 := by omega
        have hT : Rd vB w A (b.take E) := hr.take E
        have HTL : Hid ((b.take E).length = E) := by unfold Hid; rw [List.length_take, HN.out]; omega
        obtain ⟨A2, hA2⟩ : ∃ A2, (if c = E then A else A.map (·.add (E * 1))) = A2 := ⟨_, rfl⟩
        have hD : Rd vB w A2 ((b.drop E).take 4) := by rw [← hA2]; exact (hr.drop E c (by rw [HN.out]; exact hc)).take 4
        have HDL : Hid (((b.drop E).take 4).length = 4) := by unfold Hid; rw [List.length_take, List.length_drop, HN.out]; omega
        have hc1 : ∀ W, (Instr.slice 22 (.slice A n c) none (some (.int .i64 (E : Int))) none).run Tryz.prog W = .ok (.slice A E c) W := fun W => run_cut_to (P := Tryz.prog) 22 5 Tryz.underlying22 size_uint8 A n c E (by omega) W
        have hc2 : ∀ W, (Instr.slice 22 (.slice A n c) (some (.int .i64 (E : Int))) (some (.int .i64 ((E : Int) + 4))) none).run Tryz.prog W = .ok (.slice A2 4 (c - E)) W := fun W => by
          have he : Tryz.prog.elem 22 = 5 := by simp [Program.elem, Tryz.underlying22]
          rw [run_slice_lh W 22 A n c (by rw [he]; exact Tryz.underlying22) .i64 .i64 (E : Int) ((E : Int) + 4) (by omega) (by omega) (by omega), he, size_uint8]
          simp only [Result.andThen, sliced, Int.toNat_natCast]
          rw [show ((E : Int) + 4).toNat - E = 4 by omega, hA2]
        have hw4 : IntKind.i64.wrap ((E : Int) + 4) = (E : Int) + 4 := by rw [IntKind.wrap_i64]; omega
        generalize b.take E = T at hT HTL HG
        generalize (b.drop E).take 4 = D at hD HDL HG
        have HGG := Lib.hid HG
        have HFL : Hid ((fS T).length = 4) := fS_length T
        clear HG hA2 hcl h2 h6 h4 hE hr
        go_enter Tryz.func247, Tryz.ntmps247
        go_wp2_with fail
        refine HSA.out.mono ?_
        rintro e w1 ⟨rfl, hb1⟩
        replace hT := hT.keep hb1
        replace hD := hD.keep hb1
        have HK1 := Lib.hid (HK.out.keep hb1)
        go_wp2_with fail
        have hBase : Below w1.heap.size w1 w1.drew := (Below.refl _ _).drew
        refine wp_region_plan (.step 0 false (.step 1 false (.step 2 false (.step 4 false (.step 5 false (.step 6 false (.step 7 false (.step 8 false (.step 3 true (.step 9 true (.step 10 false (.nil)))))))))))) (by kernel_rfl) (by kernel_rfl) (by rfl) (by kernel_rfl) ?_
        iterate 8 (refine plan_read rfl (by rfl) (v := ?_) ?_ ?_; rotate_left 1; (intro W hW; have hW0 := below_step hBase hW; (try dsimp only at hW); go_simp <;> with_reducible rfl); simp only [List.getElem_toArray, List.getElem_cons_zero, List.getElem_cons_succ, Act.put, List.setIfInBounds_toArray, List.set_cons_zero, List.set_cons_succ])
        (refine plan_make rfl (by rfl) (fun K hK => ?_); go_simp; (refine (sum18_any T E _ _ _ HTL (hT.keep hBase) (by omega) (by omega) (Lib.hid (HK1.out.keep hBase))).mono ?_; rintro e w2 ⟨A3, c3, rfl, hc3, hr3, hbx⟩); refine hK.out _ _ hbx ?_; clear hK K; replace hBase := below_step hBase hbx)
        generalize fS T = X at hr3 HGG HFL
        (refine plan_make rfl (by rfl) (fun K hK => ?_); go_simp; (refine (equal_any X D 4 4 _ _ _ _ _ HFL HDL hr3 (hD.keep hBase)).mono ?_; rintro e w3 ⟨rfl, rfl⟩; have hbx := Below.refl w2.heap.size w2); refine hK.out _ _ hbx ?_; clear hK K; replace hBase := below_step hBase hbx)
        rw [← HGG.out]
        iterate 1 (refine plan_read rfl (by rfl) (v := ?_) ?_ ?_; rotate_left 1; (intro W hW; have hW0 := below_step hBase hW; (try dsimp only at hW); go_simp <;> with_reducible rfl); simp only [List.getElem_toArray, List.getElem_cons_zero, List.getElem_cons_succ, Act.put, List.setIfInBounds_toArray, List.set_cons_zero, List.set_cons_succ])
        refine plan_done ?_
        go_wp2_with fail
        go_ret
        exact ⟨rfl, below_step hb1 hBase⟩
      · have i3 : (n : Int) < ((2 + cn : Nat) : Int) + 4 := by omega
        have hGf : G = false := by rw [HG, decide_eq_false h4, Bool.false_and]
        subst hGf
        generalize ((2 + cn : Nat) : Int) = E at i2 i3 HSA
        clear HG hcl h2 h6 h4
        go_enter Tryz.func247, Tryz.ntmps247
        go_wp2_with fail
        refine HSA.out.mono ?_
        rintro e w1 ⟨rfl, hb1⟩
        go_wp2_with fail
        go_ret
        exact ⟨rfl, hb1⟩
    · have i2 : (60002 : Int) < ((2 + cn : Nat) : Int) := by omega
      have hGf : G = false := by rw [HG, decide_eq_false h6, Bool.false_and]
      subst hGf
      generalize ((2 + cn : Nat) : Int) = E at i2 HSA
      clear HG hcl h2 h6
      go_enter Tryz.func247, Tryz.ntmps247
      go_wp2_with fail
      refine HSA.out.mono ?_
      rintro e w1 ⟨rfl, hb1⟩
      go_wp2_with fail
      go_ret
      exact ⟨rfl, hb1⟩
  · have i1 : (n : Int) < 2 := by omega
    have hGf : G = false := by rw [HG, decide_eq_false h2, Bool.false_and]
    subst hGf
    clear HG hcl
    go_enter Tryz.func247, Tryz.ntmps247
    go_wp2_with fail
    go_ret
    exact ⟨rfl, Below.refl _ _⟩
end Go.Proofs.YteppocjgodmpdaaGreatDoor
namespace Go.Proofs.YteppocjgodmpdaaGreatDoor
open Go.RowKit
def SizeR [Inhabited Tab] (b : List UInt8) (w : World) (i : Value) (wr : World) : Prop :=
  ∃ k : Nat, i = .int .i64 (k : Int) ∧ k + (rowSl fS (b.drop k)).2 = (rowSl fS b).2 ∧ Below w.heap.size w wr
theorem rowsize_any [Inhabited Tab] (b : List UInt8) (n : Nat) (A : Option Addr) (c : Nat) (w : World) (HN : Hid (b.length = n)) (hr : Rd vB w A b) (hc : n ≤ c) (hn : n ≤ 1000000000) (HK : Hid (KTab w)) :
    Calls Tryz.prog 213 #[.slice A n c] w fun e w' => e = .returned (.int .i64 ((rowSl fS b).2 : Int)) ∧ Below w.heap.size w w' := by
  have HLE : Hid ((rowSl fS b).2 ≤ n) := by have := row_le (f := fS) b; rw [HN.out] at this; exact this
  go_enter Tryz.func213, Tryz.ntmps213
  go_wp2_with fail
  go_loopw [3] (fun i wr => SizeR b w i wr) (fun i _ => n - (intOf i).toNat)
  case atStart => exact ⟨0, rfl, by rw [Nat.zero_add]; rfl, Below.refl _ _⟩
  case round =>
    obtain ⟨k, rfl, hk, hB⟩ := hrel
    have hkn : k ≤ n := by have := HLE.out; omega
    obtain ⟨A2, hcut, hrd⟩ := cut_from (P := Tryz.prog) 22 5 Tryz.underlying22 size_uint8 A n c k hkn hc
    have hr2 := (hrd vB w b HN.out hr).keep hB
    obtain ⟨d, hd⟩ : ∃ d, b.drop k = d := ⟨_, rfl⟩
    have HD : Hid (d.length = n - k) := by unfold Hid; rw [← hd, List.length_drop, HN.out]
    have HDD := Lib.hid hd
    rw [hd] at hk hr2
    have HST := Lib.hid (stands_any d (n - k) A2 (c - k) wr HD hr2 (by omega) (by omega) (Lib.hid (HK.out.keep hB)))
    have HR2 := Lib.hid hr2
    cases hG : goodS fS d with
    | true =>
      have hst := rowS_good hG
      obtain ⟨g1, g2, g3, g4⟩ := good_parts hG
      rw [HD.out] at g1 g3
      rw [hst] at hk
      obtain ⟨q, hq⟩ : ∃ q, cntS d = q := ⟨_, rfl⟩
      rw [hq] at hk g2 g3
      have HQ := Lib.hid hq
      rw [hG] at HST
      have HNX : Hid (∀ w1, Below w.heap.size w w1 → SizeR b w (.int .i64 ((k : Int) + (((2 + q : Nat) : Int) + 4))) w1) := fun w1 hw1 => by
        refine ⟨k + (6 + q), by go_num, ?_, hw1⟩
        rw [← hk, ← List.drop_drop, HDD.out, Nat.add_assoc]
      clear hk hst hG hd hrd g4 hr2 hr hq
      go_wp2_with fail
      refine HST.out.mono ?_
      rintro e w1 ⟨rfl, hb1⟩
      have hr3 := HR2.out.keep hb1
      replace hB := below_step hB hb1
      go_wp2_with fail
      refine (sumat_any d (n - k) q A2 (c - k) _ HD HQ hr3 (by omega)).mono ?_
      rintro e w2 ⟨rfl, hb2⟩
      replace hB := below_step hB hb2
      have HX := Lib.hid (HNX.out _ hB)
      have HM : Hid (n - (k + (6 + q)) < n - k) := by unfold Hid; omega
      clear HNX hr3 hB hb1 hb2
      go_wp2_with fail
      go_roundw
      case rel => exact HX.out
      case measure => have := HM.out; simp [intOf]; omega
    | false =>
      rw [rowS_bad hG, Nat.add_zero] at hk
      subst hk
      rw [hG] at HST
      clear hG hd hrd hr2 hr
      go_wp2_with fail
      refine HST.out.mono ?_
      rintro e w1 ⟨rfl, hb1⟩
      replace hB := below_step hB hb1
      go_wp2_with fail
      go_ret
      exact ⟨rfl, hB⟩
theorem info_sl18 : (Tryz.prog.info? 22).map (fun i => (i.zero, i.size, i.bytes)) = some (some (.slice none 0 0), 1, 24) := by kernel_rfl
theorem cell_one18 (w : World) (v : Value) (e : TypeId) (j : Nat) (u : Value) (h : [v][j]? = some u) : (w.alloc (.cells #[v] e)).cell? ((⟨w.heap.size, 0, none⟩ : Addr).add j) = some u := cells_new w #[v] e j u h
def TxC (w : World) (base : Nat) (v : Value) (ts : List (List UInt8)) : Prop :=
  ∃ ps : List Part, w.ownsRow base 22 1 v ps.length (ps.map vPart) ∧ ps.map (·.l) = ts ∧ (∀ p ∈ ps, Rd vB w p.A p.l) ∧ ∀ p ∈ ps, p.l.length ≤ p.cap
def RetTx (w : World) (ts : List (List UInt8)) (e : Ending) (w' : World) : Prop := ∃ v, e = .returned v ∧ TxC w' w.heap.size v ts ∧ Below w.heap.size w w'
def TextsR [Inhabited Tab] (b : List UInt8) (n : Nat) (A0 : Option Addr) (w : World) (s l : Value) (wr : World) : Prop :=
  ∃ (k : Nat) (d : List UInt8) (ps : List Part) (A : Option Addr) (c : Nat), s = .slice A (n - k) c ∧ k ≤ n ∧ n - k ≤ c ∧ Hid (d = b.drop k) ∧ Hid (∀ W, Rd vB W A0 b → Rd vB W A d) ∧ Hid (ps.map (·.l) ++ (rowSl fS d).1 = (rowSl fS b).1) ∧ Hid ((rowSl fS d).2 = d.length) ∧
    ps.length ≤ k ∧ Hid (∀ p ∈ ps, ∀ W, Rd vB W A0 b → Rd vB W p.A p.l) ∧ Hid (∀ p ∈ ps, p.l.length ≤ p.cap) ∧ wr.ownsRow w.heap.size 22 1 l ps.length (ps.map vPart) ∧ Below w.heap.size w wr
set_option maxHeartbeats 1000000 in
theorem texts_any [Inhabited Tab] (b : List UInt8) (n : Nat) (A : Option Addr) (c : Nat) (w : World) (HN : Hid (b.length = n)) (hr : Rd vB w A b) (hc : n ≤ c) (hn : n ≤ 1000000000) (HW : Hid ((rowSl fS b).2 = n)) :
    Calls Tryz.prog 214 #[.slice A n c] w (RetTx w (rowSl fS b).1) := by
  obtain ⟨i0, hi, hz0, hz1, hz2⟩ := info_parts info_sl18
  go_enter Tryz.func214, Tryz.ntmps214
  go_wp2_with fail
  go_loopw [0, 3] (fun s l wr => TextsR b n A w s l wr) (fun s _ _ => sliceLen s)
  case atStart => exact ⟨0, b, [], A, c, rfl, Nat.zero_le _, hc, rfl, fun _ h => h, rfl, by unfold Hid; rw [HW.out, HN.out], Nat.le_refl _, (fun p hp => by cases hp), (fun p hp => by cases hp), World.ownsRow_nil _ _ _ _, Below.refl _ _⟩
  case round =>
    clear hc
    obtain ⟨k, d, ps, A1, c1, rfl, hk, hc1, HDK, HA, HT, HWd, hpk, HP, HPC, hown, hB⟩ := hrel
    have HDL : Hid (d.length = n - k) := by unfold Hid; rw [HDK.out, List.length_drop, HN.out]
    by_cases hkn : k < n
    · have hG : goodS fS d = true := whole_good HWd.out (by rw [HDL.out]; omega)
      have hst := rowS_good hG
      obtain ⟨g1, g2, g3, g4⟩ := good_parts hG
      rw [HDL.out] at g1 g3
      obtain ⟨q, hq⟩ : ∃ q, cntS d = q := ⟨_, rfl⟩
      have HQ := Lib.hid hq
      rw [hq] at hst g2 g3
      obtain ⟨d2, hd2⟩ : ∃ d2, d.drop (6 + q) = d2 := ⟨_, rfl⟩
      rw [hd2] at hst
      obtain ⟨t, ht⟩ : ∃ t, textS d = t := ⟨_, rfl⟩
      rw [ht] at hst
      have HTL : Hid (t.length = q) := by unfold Hid; rw [← ht, ← hq]; exact text_length (by rw [hq, HDL.out]; exact g3)
      obtain ⟨E, hE⟩ : ∃ E, 2 + q = E := ⟨_, rfl⟩
      have HE := Lib.hid hE
      have hgt : (0 : Int) < ((n - k : Nat) : Int) := by omega
      have HW4 : Hid (wrap64 ((E : Int) + 4) = (E : Int) + 4) := by unfold Hid wrap64; omega
      obtain ⟨A2, hA2⟩ : ∃ A2, (if E = 2 then A1 else A1.map (·.add (2 * 1))) = A2 := ⟨_, rfl⟩
      have hs1 : ∀ W, (Instr.slice 22 (.slice A1 (n - k) c1) (some (.int .i64 2)) (some (.int .i64 (E : Int))) (some (.int .i64 (E : Int)))).run Tryz.prog W = .ok (.slice A2 q q) W := fun W => by
        have he : Tryz.prog.elem 22 = 5 := by simp [Program.elem, Tryz.underlying22]
        rw [run_slice_lhm W 22 A1 (n - k) c1 (by rw [he]; exact Tryz.underlying22) .i64 .i64 .i64 2 (E : Int) (E : Int) (by omega) (by omega) (by omega) (by omega), he, size_uint8]
        simp only [Result.andThen, sliced, Int.toNat_natCast]
        have e2 : (2 : Int).toNat = 2 := rfl
        rw [e2, hA2, show E - 2 = q by omega]
      have HA2 : Hid (∀ W, Rd vB W A b → Rd vB W A2 t) := fun W h => by
        have h1 := ((HA.out W h).take E).drop 2 E (by rw [List.length_take]; omega)
        rw [hA2] at h1
        have e : (d.take E).drop 2 = t := by
          rw [← ht, ← hE, List.drop_take]
          unfold textS
          rw [hq, show 2 + q - 2 = q by omega]
        rw [e] at h1
        exact h1
      obtain ⟨A3, hcut, hrd⟩ := cut_from (P := Tryz.prog) 22 5 Tryz.underlying22 size_uint8 A1 (n - k) c1 (6 + q) (by omega) hc1
      have hs2 : ∀ W, (Instr.slice 22 (.slice A1 (n - k) c1) (some (.int .i64 ((E : Int) + 4))) none none).run Tryz.prog W = .ok (.slice A3 (n - (k + (6 + q))) (c1 - (6 + q))) W := fun W => by
        have := hcut W
        rw [show ((6 + q : Nat) : Int) = (E : Int) + 4 by omega, show n - k - (6 + q) = n - (k + (6 + q)) by omega] at this
        exact this
      have HA3 : Hid (∀ W, Rd vB W A b → Rd vB W A3 d2) := fun W h => by rw [← hd2]; exact hrd vB W d HDL.out (HA.out W h)
      have HSA : Hid (∀ W, Rd vB W A1 d → Calls Tryz.prog 248 #[.slice A1 (n - k) c1] W fun e w' => e = .returned (.int .i64 (E : Int)) ∧ Below W.heap.size W w') := fun W h => by
        have := sumat_any d (n - k) q A1 c1 W HDL HQ h (by omega)
        rw [hE] at this
        exact this
      have hrel2 : Hid (∀ l w1, w1.ownsRow w.heap.size 22 1 l (ps.length + 1) (ps.map vPart ++ [.slice A2 q q]) → Below w.heap.size w w1 → TextsR b n A w (.slice A3 (n - (k + (6 + q))) (c1 - (6 + q))) l w1) := fun l w1 ho hb => by
        refine ⟨k + (6 + q), d2, ps ++ [⟨A2, q, t⟩], A3, c1 - (6 + q), rfl, by omega, by omega, ?_, HA3.out, ?_, ?_, ?_, ?_, ?_, ?_, hb⟩
        · unfold Hid
          rw [← hd2, HDK.out, List.drop_drop]
        · unfold Hid
          rw [List.map_append, ← HT.out, hst, List.append_assoc]
          rfl
        · have := HWd.out
          unfold Hid
          rw [hst] at this
          dsimp only at this
          rw [← hd2, List.length_drop] at *
          omega
        · rw [List.length_append]
          simp only [List.length_cons, List.length_nil]
          omega
        · intro p hp W h
          rcases List.mem_append.1 hp with hp | hp
          · exact HP.out p hp W h
          · rw [List.mem_singleton.1 hp]
            exact HA2.out W h
        · intro p hp
          rcases List.mem_append.1 hp with hp | hp
          · exact HPC.out p hp
          · rw [List.mem_singleton.1 hp]
            exact Nat.le_of_eq HTL.out
        · rw [List.length_append, List.map_append]
          have : [(⟨A2, q, t⟩ : Part)].map vPart = [.slice A2 q q] := by simp [vPart, HTL.out]
          rw [this]
          exact ho
      have HSZ : Hid (n - (k + (6 + q)) < n - k) := by unfold Hid; omega
      have hrw := HA.out w hr
      clear hst hG g4 hd2 ht hE hA2 hcut hrd hq
      go_wp2_with fail
      refine (HSA.out _ (hrw.keep hB)).mono ?_
      rintro e w1 ⟨rfl, hb1⟩
      replace hown := ownsRow_later hown hb1
      replace hB := below_step hB hb1
      have hbs := hB.size
      have hw4 := HW4.out
      go_wp2_with (at_builtin; refine wpList_append_own _ rfl _ _ 149 rfl w.heap.size 22 i0 (.slice none 0 0) 1 24 Tryz.underlying149 hi hz0 hz1 hz2 rfl (by decide) _ _ _ rfl (hown.alloc _) ⟨w1.heap.size, 0, none⟩ 1 1 [.slice A2 q q] rfl rfl (cell_one18 _ _ _) (by intro u hu; simp at hu; subst hu; rfl) (by unfold maxLen; omega) (by omega) (by simp; omega) ?_; intro v' w3 hown' hgrow' _)
      have HR := Lib.hid (hrel2.out _ _ hown' ((hB.alloc hB.size _).grown hgrow' (by simp; omega) (fun g hk => (hown.lt g hk).1)))
      clear hown' hgrow' hown hB hrel2 hb1
      go_roundw
      case rel => exact HR.out
      case measure => have := HSZ.out; simp [sliceLen]; omega
    · have hkk : k = n := by omega
      subst hkk
      have hd0 : d = [] := List.eq_nil_of_length_eq_zero (by rw [HDL.out]; omega)
      have hT := HT.out
      have e0 : rowSl fS ([] : List UInt8) = ([], 0) := rowS_bad (by rfl)
      rw [hd0, e0] at hT
      dsimp only at hT
      rw [List.append_nil] at hT
      have hle : ¬ (0 : Int) < ((k - k : Nat) : Int) := by omega
      have HTT := Lib.hid hT
      have HRR : Hid (∀ p ∈ ps, Rd vB wr p.A p.l) := fun p hp => HP.out p hp wr (hr.keep hB)
      clear hT e0
      go_wp2_with fail
      go_ret
      exact ⟨_, rfl, ⟨ps, hown, HTT.out, HRR.out, HPC.out⟩, hB⟩
theorem TxC.base {w : World} {b1 b2 : Nat} {v : Value} {ts : List (List UInt8)} (h : TxC w b1 v ts) (hb : b2 ≤ b1) : TxC w b2 v ts := by
  obtain ⟨ps, h1, h2, h3, h4⟩ := h
  exact ⟨ps, own_base h1 hb, h2, h3, h4⟩
def RetRowC (w : World) (ts : List (List UInt8)) (m : Nat) (e : Ending) (w' : World) : Prop := ∃ v, e = .returned (.tuple #[v, .int .i64 (m : Int)]) ∧ TxC w' w.heap.size v ts ∧ Below w.heap.size w w'
theorem row18c_any [Inhabited Tab] (b : List UInt8) (n : Nat) (A : Option Addr) (c : Nat) (w : World) (HN : Hid (b.length = n)) (hr : Rd vB w A b) (hc : n ≤ c) (hn : n ≤ 1000000000) (HK : Hid (KTab w)) :
    Calls Tryz.prog 148 #[.slice A n c] w (RetRowC w (rowSl fS b).1 (rowSl fS b).2) := by
  obtain ⟨h1, h2⟩ := row_cut fS_length b
  have hle := row_le (f := fS) b
  rw [HN.out] at hle
  have HZ := Lib.hid (rowsize_any b n A c w HN hr hc hn HK)
  generalize (rowSl fS b).1 = ts at *
  generalize (rowSl fS b).2 = m at *
  have hr2 : Rd vB w A (b.take m) := hr.take m
  generalize b.take m = s at h1 h2 hr2
  have H1 := Lib.hid h1
  have H2 := Lib.hid h2
  have hcut : ∀ W, (Instr.slice 22 (.slice A n c) none (some (.int .i64 (m : Int))) none).run Tryz.prog W = .ok (.slice A m c) W := fun W => run_cut_to (P := Tryz.prog) 22 5 Tryz.underlying22 size_uint8 A n c m (by omega) W
  have HTX : Hid (∀ A2 c2 W, Rd vB W A2 s → m ≤ c2 → Calls Tryz.prog 214 #[.slice A2 m c2] W (RetTx W ts)) := fun A2 c2 W h3 h4 => by
    have := texts_any s m A2 c2 W H2 h3 h4 (by omega) (by unfold Hid; rw [H1.out])
    rw [H1.out] at this
    exact this
  have HCL : Hid (∀ W, Below w.heap.size w W → Calls Tryz.prog 112 #[.slice A m c] W (RetN vB W s)) := fun W hW => by
    have := clone_b s A c W (hr2.keep hW) (by rw [H2.out]; omega)
    rw [H2.out] at this
    exact this
  clear h1 h2 hr2 hr HK
  go_enter Tryz.func148, Tryz.ntmps148
  go_wp2_with fail
  refine HZ.out.mono ?_
  rintro e w1 ⟨rfl, hB⟩
  go_wp2_with fail
  refine (HCL.out _ hB).mono ?_
  rintro e w2 ⟨A2, c2, rfl, hc2, hr2, _, hb2⟩
  rw [H2.out] at hc2 ⊢
  replace hB := below_step hB hb2
  have hz := hB.size
  go_wp2_with fail
  refine (HTX.out A2 c2 _ hr2 hc2).mono ?_
  rintro e w3 ⟨v3, rfl, htx, hb3⟩
  replace hB := below_step hB hb3
  go_wp2_with fail
  go_ret2
  exact ⟨v3, rfl, htx.base hz, hB⟩
def RetPut18 (w : World) (l : List UInt8) (k : Int) (e : Ending) (w' : World) : Prop := ∃ v, e = .returned (.tuple #[v, .int .i64 k]) ∧ w'.ownsRow w.heap.size 5 1 v l.length (l.map vB) ∧ Below w.heap.size w w'
theorem put18_any [Inhabited Tab] (t : List UInt8) (n : Nat) (A : Option Addr) (c : Nat) (w : World) (HN : Hid (t.length = n)) (hr : Rd vB w A t) (hn : n ≤ 60000) (HK : Hid (KTab w)) :
    Calls Tryz.prog 159 #[.slice A n c] w (RetPut18 w (slipS fS t) 0) := by
  obtain ⟨i0, hi, hz0, hz1, hz2⟩ := info_parts info_u8
  have i1 : ¬ (60000 : Int) < (n : Int) := by omega
  obtain ⟨T, hT⟩ : ∃ T, hdS t ++ t = T := ⟨_, rfl⟩
  have HS : Hid (slipS fS t = T ++ fS T) := by unfold Hid slipS; rw [hT]
  have HT : Hid (T = hdS t ++ t) := hT.symm
  have H2 : Hid ((hdS t).length = 2) := rfl
  have HTL : Hid (T.length = n + 2) := by unfold Hid; rw [← hT, List.length_append, H2.out, HN.out, Nat.add_comm]
  have HHD := Lib.hid (fun W => head18_any t n W HN hn)
  have H4 : Hid ((fS T).length = 4) := fS_length T
  generalize hdS t = hd at HT H2 HHD
  clear hT
  go_enter Tryz.func159, Tryz.ntmps159
  go_wp2_with fail
  refine (HHD.out _).mono ?_
  rintro e w1 ⟨A1, c1, rfl, hc1, hr1, hB⟩
  go_wp2_with fail
  have hP : Rd vPart (w1.alloc (.cells #[.slice A1 2 c1, .slice A n c] 22)) (some ⟨w1.heap.size, 0, none⟩) [⟨A1, c1, hd⟩, ⟨A, c, t⟩] := Rd.new_at w1 _ rfl _ _ _ (by simp [vPart, H2.out, HN.out])
  have hb2 := below_new (Below.refl _ w1) (.cells #[.slice A1 2 c1, .slice A n c] 22)
  refine (concat_two_own hd t T A1 A c1 c _ _ _ HT hP (hr1.keep hb2) (hr.keep (below_step hB hb2)) (by rw [HTL.out]; omega)).mono ?_
  rintro e w3 ⟨v3, rfl, hown, hb3⟩
  replace hown := own_base hown (Nat.le_trans hB.size hb2.size)
  replace hB := below_step (below_step hB hb2) hb3
  clear hP hb2 hb3 hr1
  obtain ⟨A3, c3, rfl, hc3, hr3⟩ := own_slice hown
  rw [HTL.out] at hc3 hown ⊢
  go_wp2_with fail
  refine (sum18_any T (n + 2) A3 c3 _ HTL hr3 hc3 (by omega) (Lib.hid (HK.out.keep hB))).mono ?_
  rintro e w4 ⟨A4, c4, rfl, hc4, hr4, hb4⟩
  replace hown := ownsRow_later hown hb4
  replace hB := below_step hB hb4
  have hbs := hB.size
  clear hr3 hb4
  generalize fS T = F at hr4 H4 HS
  go_wp2_with (at_builtin; refine wpList_append_rd _ rfl (.tmp 14) (.tmp 16) 22 rfl w.heap.size 5 i0 (.int .u8 0) 1 Tryz.underlying22 hi hz0 hz1 hz2 rfl _ _ _ rfl hown A4 F c4 (by rw [H4.out]; rfl) hr4 vB_one (by rw [H4.out]; unfold maxLen; omega) (by rw [H4.out]; omega) hbs ?_; intro v5 w5 hown5 hgrow5)
  have hB5 := hB.grown hgrow5 hbs (fun g hk => (hown.lt g hk).1)
  go_ret2
  refine ⟨v5, rfl, ?_, hB5⟩
  rw [HS.out, List.length_append, List.map_append, HTL.out]
  exact hown5
end Go.Proofs.YteppocjgodmpdaaGreatDoor
namespace Go.Proofs.YteppocjgodmpdaaGreatDoor
open Go.RowKit
theorem useG_goes (m : MemK) (r : List UInt8) : goesM m (85 :: r) = useG m r := goes_useK
theorem bunG_goes (m : MemK) (r : List UInt8) : goesM m (78 :: r) = bunG m r := by
  rw [goes_bunK]
  unfold bunG
  cases allB r <;> rfl
def RetGo (w : World) (x : WM) (G : Option MemK) (e : Ending) (w' : World) : Prop :=
  ∃ x' m' er, e = .returned (.tuple #[aggM x' m', .int .i64 er]) ∧ InM w' x' m' ∧ (∀ lo hi, hi ≤ w.heap.size → OffM lo hi x → OffM lo hi x') ∧ Hid (er = 0 → G = some m') ∧ Hid (er ≠ 0 → G = none) ∧ Below w.heap.size w w'
set_option maxHeartbeats 8000000 in
theorem onward_any (x : WM) (m : MemK) (b : List UInt8) (n : Nat) (A : Option Addr) (c : Nat) (w : World) (h : InM w x m) (HN : Hid (b.length = n)) (hr : Rd vB w A b) (hc : n ≤ c) (hn : n ≤ 1000000) :
    Calls Tryz.prog 150 #[aggM x m, .slice A n c] w (RetGo w x (goesM m b)) := by
  have hA := hr.off
  have HI := Lib.hid h
  have HOF := Lib.hid (fun hi => h.off hi)
  obtain ⟨hR0, hR1, hR2, hB⟩ := three_boxes w 37 37 220 (lM x m) l0M [.slice A n c, .int .i64 0] _ _ _ rfl rfl rfl
  clear h
  unfold aggM
  go_enter Tryz.func150, Tryz.ntmps150
  go_upto_region 2 with fail
  generalize ((w.alloc (.cells (lM x m).toArray 37)).alloc (.cells l0M.toArray 37)).alloc (.cells [.slice A n c, .int .i64 0].toArray 220) = W0 at hR0 hR1 hR2 hB ⊢
  have hT : RdRF (w.heap.size + 1 + 1) 0 b W0 := ⟨b, n, ⟨A, c, hR2, HN, hc, hr.keep hB, fun h0 a ha => by have := hA h0 a ha; omega⟩, hn, fun _ => rfl⟩
  clear hr hA hR2
  obtain ⟨g, hg⟩ : ∃ g, g = w.heap.size + 1 + 1 := ⟨_, rfl⟩
  rw [← hg] at hT ⊢
  have hgw : w.heap.size + 1 < g := by omega
  have HGE := Lib.hid hg
  clear hg
  cases b with
  | nil =>
    have HGN : Hid (goesM m [] = none) := goes_no (by decide) (by decide)
    have HON := Lib.hid (one_any g 0 [] W0 hT)
    rw [oneK_nil] at HON
    clear hT
    go_wp2_with fail
    refine HON.out.mono ?_
    rintro e w1 ⟨rfl, hT1, hO⟩
    dsimp only
    replace hR0 := hR0.only hO (by omega)
    replace hR1 := hR1.only hO (by omega)
    replace hB := hB.trans (hO.below.mono (by omega))
    clear hT1 hO HON
    go_wp2_with (first
      | (refine wpList_load_part rfl 37 (.tmp 2) rfl (w.heap.size) 0 rfl _ _ (hR0) ((lM x m)) (by rfl) _ Tryz.underlying37 rfl (by exact size_memory) ?_)
      | (refine wpList_store_row rfl 37 (.tmp 4) (.tmp 26) rfl (w.heap.size + 1) rfl ((lM x m)) rfl _ _ (hR1) (by exact size_memory) rfl (one_memory x m) ?_))
    refine bodyPost_ret (results_row_tmp (p := 4) (u := 5) (ty := 37) (by rfl) _ _ (w.heap.size + 1) 37 _ _ (by rfl) (by exact hR1.setRow _) Tryz.underlying37 (by rfl) (by exact size_memory)) (by rfl) ?_
    have hBf := below_setRow hB (show w.heap.size ≤ w.heap.size + 1 by omega) (lM x m).toArray
    refine ⟨x, m, 3, rfl, HI.out.keep hBf, (fun _ _ _ ho => ho), fun h0 => absurd h0 (by decide), fun _ => HGN.out, hBf⟩
  | cons y r =>
    have HON := Lib.hid (one_any g 0 (y :: r) W0 hT)
    rw [oneK_cons] at HON
    clear hT
    by_cases h85 : y = 85
    · subst h85
      have HG := Lib.hid (useG_goes m r)
      rw [show (85 : UInt8).toNat = 85 from rfl] at HON
      go_wp2_with fail
      refine HON.out.mono ?_
      rintro e w1 ⟨rfl, hT1, hO⟩
      dsimp only at hT1 ⊢
      replace hR0 := hR0.only hO (by omega)
      replace hR1 := hR1.only hO (by omega)
      replace hB := hB.trans (hO.below.mono (by omega))
      have hgl := hT1.lt
      have HUS := Lib.hid (onuse_any x m w.heap.size g r w1 (HI.out.keep hB) (HOF.out _) (by omega) hT1)
      unfold aggM at HUS
      clear hT1 hO HON
      go_wp2_with (refine wpList_load_part rfl 37 (.tmp 2) rfl (w.heap.size) 0 rfl _ _ (hR0) ((lM x m)) (by rfl) _ Tryz.underlying37 rfl (by exact size_memory) ?_)
      refine HUS.out.mono ?_
      rintro e w2 ⟨x', m', er, rfl, hI2, hf2, he1, he2, hO⟩
      unfold aggM
      replace hR1 := hR1.only hO (by omega)
      have hoff2 := hf2 w.heap.size _ (Nat.le_refl _) (HOF.out _)
      have hB2 := hB.trans (hO.below.mono (by omega))
      clear hR0 HUS hO hB
      go_wp2_with (refine wpList_store_row rfl 37 (.tmp 4) (.tmp 17) rfl (w.heap.size + 1) rfl ((lM x' m')) rfl _ _ (hR1) (by exact size_memory) rfl (one_memory x' m') ?_)
      refine bodyPost_ret (results_row_tmp (p := 4) (u := 5) (ty := 37) (by rfl) _ _ (w.heap.size + 1) 37 _ _ (by rfl) (by exact hR1.setRow _) Tryz.underlying37 (by rfl) (by exact size_memory)) (by rfl) ?_
      have hO7 := (Only.refl (w.heap.size + 1) w2).setRow (lM x' m').toArray
      refine ⟨x', m', er, rfl, hI2.at_only hO7 hoff2 (by omega) (by omega), (fun lo hi hh ho => hf2 lo hi (by omega) ho), fun h0 => by rw [HG.out]; exact he1.out h0, fun h0 => by rw [HG.out]; exact he2.out h0, below_setRow hB2 (by omega) _⟩
    · by_cases h78 : y = 78
      · subst h78
        have HG := Lib.hid (bunG_goes m r)
        rw [show (78 : UInt8).toNat = 78 from rfl] at HON
        clear h85
        go_wp2_with fail
        refine HON.out.mono ?_
        rintro e w1 ⟨rfl, hT1, hO⟩
        dsimp only at hT1 ⊢
        replace hR0 := hR0.only hO (by omega)
        replace hR1 := hR1.only hO (by omega)
        replace hB := hB.trans (hO.below.mono (by omega))
        have hgl := hT1.lt
        have HUS := Lib.hid (onbun_any x m w.heap.size g r w1 (HI.out.keep hB) (HOF.out _) (by omega) hT1)
        unfold aggM at HUS
        clear hT1 hO HON
        go_wp2_with (refine wpList_load_part rfl 37 (.tmp 2) rfl (w.heap.size) 0 rfl _ _ (hR0) ((lM x m)) (by rfl) _ Tryz.underlying37 rfl (by exact size_memory) ?_)
        refine HUS.out.mono ?_
        rintro e w2 ⟨x', m', er, rfl, hI2, hf2, he1, he2, hO⟩
        unfold aggM
        replace hR1 := hR1.only hO (by omega)
        have hoff2 := hf2 w.heap.size _ (Nat.le_refl _) (HOF.out _)
        have hB2 := hB.trans (hO.below.mono (by omega))
        clear hR0 HUS hO hB
        go_wp2_with (refine wpList_store_row rfl 37 (.tmp 4) (.tmp 24) rfl (w.heap.size + 1) rfl ((lM x' m')) rfl _ _ (hR1) (by exact size_memory) rfl (one_memory x' m') ?_)
        refine bodyPost_ret (results_row_tmp (p := 4) (u := 5) (ty := 37) (by rfl) _ _ (w.heap.size + 1) 37 _ _ (by rfl) (by exact hR1.setRow _) Tryz.underlying37 (by rfl) (by exact size_memory)) (by rfl) ?_
        have hO7 := (Only.refl (w.heap.size + 1) w2).setRow (lM x' m').toArray
        refine ⟨x', m', er, rfl, hI2.at_only hO7 hoff2 (by omega) (by omega), (fun lo hi hh ho => hf2 lo hi (by omega) ho), fun h0 => by rw [HG.out]; exact he1.out h0, fun h0 => by rw [HG.out]; exact he2.out h0, below_setRow hB2 (by omega) _⟩
      · have HGN : Hid (goesM m (y :: r) = none) := goes_no (fun e => h85 e) (fun e => h78 e)
        have h85n : y.toNat ≠ 85 := fun e => h85 (UInt8.toNat_inj.1 e)
        have h78n : y.toNat ≠ 78 := fun e => h78 (UInt8.toNat_inj.1 e)
        generalize y.toNat = q at HON h85n h78n
        have j1 : ((q : Int) == 85) = false := beq_eq_false_iff_ne.2 (by omega)
        have j2 : ((q : Int) == 78) = false := beq_eq_false_iff_ne.2 (by omega)
        clear h85 h78 h85n h78n
        go_wp2_with fail
        refine HON.out.mono ?_
        rintro e w1 ⟨rfl, hT1, hO⟩
        dsimp only
        replace hR0 := hR0.only hO (by omega)
        replace hR1 := hR1.only hO (by omega)
        replace hB := hB.trans (hO.below.mono (by omega))
        clear hT1 hO HON
        go_wp2_with (first
          | (refine wpList_load_part rfl 37 (.tmp 2) rfl (w.heap.size) 0 rfl _ _ (hR0) ((lM x m)) (by rfl) _ Tryz.underlying37 rfl (by exact size_memory) ?_)
          | (refine wpList_store_row rfl 37 (.tmp 4) (.tmp 26) rfl (w.heap.size + 1) rfl ((lM x m)) rfl _ _ (hR1) (by exact size_memory) rfl (one_memory x m) ?_))
        refine bodyPost_ret (results_row_tmp (p := 4) (u := 5) (ty := 37) (by rfl) _ _ (w.heap.size + 1) 37 _ _ (by rfl) (by exact hR1.setRow _) Tryz.underlying37 (by rfl) (by exact size_memory)) (by rfl) ?_
        have hBf := below_setRow hB (show w.heap.size ≤ w.heap.size + 1 by omega) (lM x m).toArray
        refine ⟨x, m, 3, rfl, HI.out.keep hBf, (fun _ _ _ ho => ho), fun h0 => absurd h0 (by decide), fun _ => HGN.out, hBf⟩
theorem size_held : (Tryz.prog.info? 94).map (·.size) = some 10 := by kernel_rfl
theorem size_sl8 : ∀ w, (sizeOf 22).run Tryz.prog w = .ok 1 w := fun w => by kernel_rfl
def heldC (s : Bool) (n : Nat) (x : WM) (m : MemK) (a : Bool) : List Value := [.bool s, .int .u64 (n : Int), .int .u64 (m.clock : Int), .int .u64 (m.b.1 : Int), .slice x.b.eA x.b.n x.b.ec, .slice x.b.gA x.b.g x.b.gc, .int .i64 m.c.1, .int .u64 (m.c.2.1 : Int), .slice x.c.A x.c.s x.c.c, .bool a]
theorem one_held (s : Bool) (n : Nat) (x : WM) (m : MemK) (a : Bool) : ∀ v ∈ heldC s n x m a, v.oneCell' = true := fun v hv => by
  simp [heldC] at hv
  rcases hv with rfl | rfl | rfl | rfl | rfl | rfl | rfl | rfl | rfl | rfl <;> rfl
theorem area_nil2 {b : List UInt8} {f : List UInt8 → List UInt8} (h : (rowSl f b).1 = []) : areaK f b = none := by
  unfold areaK
  rw [h]
theorem area_bad {b t : List UInt8} {ts : List (List UInt8)} {f : List UInt8 → List UInt8} (h : (rowSl f b).1 = t :: ts) (h2 : readMem t = none) : areaK f b = none := by
  unfold areaK
  rw [h]
  dsimp only
  rw [h2]
theorem area_good {b t : List UInt8} {ts : List (List UInt8)} {f : List UInt8 → List UInt8} {n : Nat} {m : MemK} (h : (rowSl f b).1 = t :: ts) (h2 : readMem t = some (n, m)) : areaK f b = some (n, goOn m (t.length + 6) ts) := by
  unfold areaK
  rw [h]
  dsimp only
  rw [h2]
theorem row_sum {f : List UInt8 → List UInt8} (h4 : ∀ b, (f b).length = 4) (b : List UInt8) : ((rowSl f b).1.map (fun t => t.length + 6)).sum = (rowSl f b).2 ∧ (rowSl f b).2 ≤ b.length ∧ mayS (rowSl f b).1 := by
  obtain ⟨r1, r2, r3⟩ := row_back (f := f) b.length b (Nat.le_refl _)
  have := congrArg List.length r2
  rw [flatS_len h4, List.length_take, Nat.min_eq_left r1] at this
  exact ⟨this, r1, r3⟩
theorem len_sum : ∀ ts : List (List UInt8), ts.length ≤ (ts.map (fun t => t.length + 6)).sum
  | [] => Nat.le_refl _
  | t :: ts => by
    have ih := len_sum ts
    rw [List.map_cons, List.sum_cons, List.length_cons]
    omega
def RetHo (w : World) (G : Option (Nat × MemK × Nat)) (n : Nat) (e : Ending) (w' : World) : Prop :=
  ((G = none ∧ e = .returned (.agg #[.bool false, .int .u64 0, .int .u64 0, .int .u64 0, .slice none 0 0, .slice none 0 0, .int .i64 0, .int .u64 0, .slice none 0 0, .bool false])) ∨
    ∃ x m num z a, G = some (num, m, z) ∧ e = .returned (.agg #[.bool true, .int .u64 ((num : Nat) : Int), .int .u64 (m.clock : Int), .int .u64 (m.b.1 : Int), .slice x.b.eA x.b.n x.b.ec, .slice x.b.gA x.b.g x.b.gc, .int .i64 m.c.1, .int .u64 (m.c.2.1 : Int), .slice x.c.A x.c.s x.c.c, .bool a]) ∧ InM w' x m ∧ OffM 0 w.heap.size x ∧ num < 18446744073709551616 ∧ (a = true ↔ z = n)) ∧ Below w.heap.size w w'
def HoI (w W1 : World) (num : Nat) (B : Nat) (g6 : Nat) (M0 : MemK) (s0 : Nat) (ts : List (List UInt8)) (i : Value) (wr : World) : Prop :=
  ∃ (k : Nat) (x : WM) (m : MemK), i = .int .i64 (k : Int) ∧ k ≤ ts.length ∧ Hid (goOn M0 s0 ts = goOn m (s0 + ((ts.take k).map (fun t => t.length + 6)).sum) (ts.drop k)) ∧ Row wr w.heap.size 94 [.bool false, .int .u64 0, .int .u64 0, .int .u64 0, .slice none 0 0, .slice none 0 0, .int .i64 0, .int .u64 0, .slice none 0 0, .bool false] ∧ Row wr g6 37 (lM x m) ∧ InM wr x m ∧ OffM 0 B x ∧ OffM g6 (g6 + 1) x ∧ Below w.heap.size w wr ∧ Below B W1 wr
set_option maxHeartbeats 16000000 in
theorem hold_any [Inhabited Tab] (b : List UInt8) (n : Nat) (A : Option Addr) (c : Nat) (w : World) (HN : Hid (b.length = n)) (hr : Rd vB w A b) (hc : n ≤ c) (hn : n ≤ 1000000000) (HK : Hid (KTab w)) :
    Calls Tryz.prog 82 #[.slice A n c] w (RetHo w (areaK fS b) n) := by
  obtain ⟨hR0, hB⟩ := box_of w 94 [.bool false, .int .u64 0, .int .u64 0, .int .u64 0, .slice none 0 0, .slice none 0 0, .int .i64 0, .int .u64 0, .slice none 0 0, .bool false] _ rfl
  obtain ⟨hsum, hle, hmay⟩ := row_sum fS_length b
  obtain ⟨T, N, hTN⟩ : ∃ T N, rowSl fS b = (T, N) := ⟨_, _, rfl⟩
  have HRW := Lib.hid (fun W (hb : Below w.heap.size w W) => row18c_any b n A c W HN (hr.keep hb) hc hn (Lib.hid (HK.out.keep hb)))
  rw [hTN] at hsum hle hmay HRW
  dsimp only at hsum hle hmay HRW
  rw [HN.out] at hle
  have HT1 : Hid ((rowSl fS b).1 = T) := by unfold Hid; rw [hTN]
  obtain ⟨G, hG⟩ : ∃ G, areaK fS b = G := ⟨_, rfl⟩
  have HG := Lib.hid hG
  rw [hG]
  clear hG hTN hr
  go_enter Tryz.func82, Tryz.ntmps82
  go_upto_region 1 with fail
  generalize (w.alloc (.cells #[.bool false, .int .u64 0, .int .u64 0, .int .u64 0, .slice none 0 0, .slice none 0 0, .int .i64 0, .int .u64 0, .slice none 0 0, .bool false] 94)) = W0 at hR0 hB ⊢
  go_wp2_with fail
  refine (HRW.out _ hB).mono ?_
  rintro e w1 ⟨v1, rfl, ⟨ps, hown, hps, hprd, hpc⟩, hb1⟩
  obtain ⟨A1, c1, rfl, hc1, hrd1⟩ := own_slice hown
  replace hR0 := hR0.later hb1
  replace hB := below_step hB hb1
  clear hown hb1 HRW
  cases ps with
  | nil =>
    have hGN : G = none := by rw [← HG.out]; exact area_nil2 (by rw [HT1.out, ← hps]; rfl)
    subst hGN
    clear hps hsum hmay hprd hpc hrd1
    go_wp2_with (refine wpList_store_row rfl 94 (.tmp 2) (.tmp 20) rfl (w.heap.size) rfl ([.bool false, .int .u64 0, .int .u64 0, .int .u64 0, .slice none 0 0, .slice none 0 0, .int .i64 0, .int .u64 0, .slice none 0 0, .bool false]) rfl _ _ (hR0) (by exact size_held) rfl (one_held false 0 zeroWM zeroMem false) ?_)
    refine bodyPost_ret (results_cell_row (p := 2) (ty := 94) (by rfl) _ _ w.heap.size 94 _ (0, 0) _ (by rfl) (by exact hR0.setRow _) Tryz.underlying94 (by rfl) (by exact size_held)) (by rfl) ?_
    exact ⟨.inl ⟨rfl, rfl⟩, below_setRow hB (Nat.le_refl _) _⟩
  | cons p ps =>
    obtain ⟨pA, pc, pl⟩ := p
    have hpr := hprd ⟨pA, pc, pl⟩ (List.mem_cons_self ..)
    have hpcc := hpc ⟨pA, pc, pl⟩ (List.mem_cons_self ..)
    dsimp only at hpr hpcc
    have hpm : pl.length ≤ 60000 := hmay pl (by rw [← hps]; exact List.mem_cons_self ..)
    obtain ⟨ts, hts⟩ : ∃ ts, ps.map (·.l) = ts := ⟨_, rfl⟩
    have hT : T = pl :: ts := by rw [← hps, List.map_cons, hts]
    obtain ⟨b1, o1, rfl, hb1, hcell⟩ := hrd1.at (k := 0) (by simp)
    have hc0 : w1.cell? ⟨b1, o1, none⟩ = some (.slice pA pl.length pc) := hcell 0 (by simp)
    obtain ⟨q, hq⟩ : ∃ q, ps.length = q := ⟨_, rfl⟩
    obtain ⟨pn, hpn⟩ : ∃ q, pl.length = q := ⟨_, rfl⟩
    have HPN := Lib.hid hpn
    have HQ := Lib.hid hq
    rw [hpn] at hc0 hpcc hpm
    rw [List.length_cons, hq] at hc1 ⊢
    obtain ⟨A33, hcut, hrd33⟩ := cut_from (P := Tryz.prog) 149 22 Tryz.underlying149 size_sl8 (some ⟨b1, o1, none⟩) (q + 1) c1 1 (by omega) hc1
    have hrdp := hrd33 vPart w1 _ (by rw [List.length_cons, hq]) hrd1
    rw [List.drop_one, List.tail_cons] at hrdp
    rw [Nat.add_sub_cancel] at hcut
    have hcut' : ∀ W, (Instr.slice 149 (.slice (some ⟨b1, o1, none⟩) (q + 1) c1) (some (.int .i64 1)) none none).run Tryz.prog W = .ok (.slice A33 q (c1 - 1)) W := hcut
    have HRM := Lib.hid (readmem_any pl pn pA pc w1 HPN hpr hpcc (by omega))
    have hprs : ∀ p ∈ ps, Rd vB w1 p.A p.l := fun p hp => hprd p (List.mem_cons_of_mem _ hp)
    have hpcs : ∀ p ∈ ps, p.l.length ≤ p.cap := fun p hp => hpc p (List.mem_cons_of_mem _ hp)
    have HMAY : Hid (∀ p ∈ ps, p.l.length ≤ 60000) := fun p hp => hmay p.l (by rw [hT, ← hts]; exact List.mem_cons_of_mem _ (List.mem_map.2 ⟨p, hp, rfl⟩))
    have HT := Lib.hid hT
    have HTS := Lib.hid hts
    have HSUM : Hid ((pl.length + 6) + (ts.map (fun t => t.length + 6)).sum = N) := by unfold Hid; rw [← hsum, hT, List.map_cons, List.sum_cons]
    have HPRS := Lib.hid hprs
    have HPCS := Lib.hid hpcs
    have HRDP := Lib.hid hrdp
    have j0 : (((q + 1 : Nat) : Int) == 0) = false := beq_eq_false_iff_ne.2 (by omega)
    have j1 : (0 : Int) < ((q + 1 : Nat) : Int) := by omega
    have HLE := Lib.hid hle
    clear hcut hrd33 hrd1 hprd hpc hpr hmay hps hsum hT hts hq hpn hprs hpcs hrdp hcell hle
    go_wp2_with fail
    refine HRM.out.mono ?_
    rintro e w2 ⟨x0, m0, num, er, rfl, hI0, hF0, hnum, he1, he2, hb2⟩
    unfold aggM
    have hlt1 := hR0.lt
    have hs2 := hb2.size
    replace hR0 := hR0.later hb2
    replace hB := below_step hB hb2
    have HB12 := Lib.hid hb2
    obtain ⟨hR6, hB6⟩ := box_of w2 37 l0M _ rfl
    clear hb2 HRM hc0
    go_upto_region 5 with (refine wpList_store_row rfl 37 (.tmp 6) (.tmp 27) rfl (w2.heap.size) rfl ((lM x0 m0)) rfl _ _ (hR6) (by exact size_memory) rfl (one_memory x0 m0) ?_)
    have hR62 := hR6.setRow (lM x0 m0)
    have hbn := below_setRow hB6 (Nat.le_refl _) (lM x0 m0).toArray
    clear hR6 hB6
    generalize (w2.alloc (.cells l0M.toArray 37)).setRow w2.heap.size (lM x0 m0).toArray = w3 at hR62 hbn ⊢
    have hoffg : OffM w2.heap.size (w2.heap.size + 1) x0 := hI0.off _
    replace hI0 := hI0.keep hbn
    replace hR0 := hR0.later hbn
    replace hB := below_step hB hbn
    have HB13 := Lib.hid (below_step HB12.out hbn)
    have hg6 : w1.heap.size ≤ w2.heap.size := hs2
    have hg63 := hR62.lt
    clear hbn HB12 hs2
    generalize w2.heap.size = g6 at hR62 hg6 hg63 hoffg ⊢
    by_cases hz : er = 0
    · subst hz
      have hGG : G = some (num, goOn m0 (pl.length + 6) ts) := by rw [← HG.out]; exact area_good (HT1.out.trans HT.out) (he1.out rfl)
      have HGG := Lib.hid hGG
      have hoff1 : OffM 0 w1.heap.size x0 := hF0.off 0
      clear hGG he1 he2 hF0 HG
      go_upto_region 8 with fail
      go_loopw [35] (fun i wr => HoI w w1 num w1.heap.size g6 m0 (pl.length + 6) ts i wr) (fun i _ => q - (intOf i).toNat)
      case atStart => exact ⟨0, x0, m0, rfl, Nat.zero_le _, Lib.hid rfl, hR0, hR62, hI0, hoff1, hoffg, hB, HB13.out⟩
      case round =>
        clear hR0 hR62 hI0 hoff1 hoffg hB HB13
        obtain ⟨k, x, m, rfl, hk, HGO, hR0, hR6, hI, hoA, hoB, hB, hBw⟩ := hrel
        have HTL : Hid (ts.length = q) := by unfold Hid; rw [← HTS.out, List.length_map, HQ.out]
        have hwl := hR6.lt
        have hw1 := hBw.size
        have hkq' : k ≤ q := by rw [← HTL.out]; exact hk
        have hq9 : q ≤ 1000000000 := by
          have h1 := len_sum ts
          have h2 := HSUM.out
          have h3 := HLE.out
          rw [HTL.out] at h1
          omega
        by_cases hlt : k < q
        · have hkp : k < ps.length := by rw [HQ.out]; exact hlt
          have hkt : k < ts.length := by rw [HTL.out]; exact hlt
          obtain ⟨b3, o3, rfl, hb3, hcell3⟩ := (HRDP.out.keep hBw).at hkp
          have hc3 := hcell3 k hkp
          have hget : ts[k] = ps[k].l := by simp only [← HTS.out, List.getElem_map]
          have HGOK : Hid (ts.drop k = ps[k].l :: ts.drop (k + 1)) := by unfold Hid; rw [List.drop_eq_getElem_cons hkt, hget]
          have HTK : Hid (((ts.take (k + 1)).map (fun t => t.length + 6)).sum = ((ts.take k).map (fun t => t.length + 6)).sum + (ps[k].l.length + 6)) := by
            unfold Hid
            rw [List.take_succ_eq_append_getElem hkt, List.map_append, List.sum_append, hget]
            rfl
          have hpr := (HPRS.out _ (List.getElem_mem hkp)).keep hBw
          have hpcc := HPCS.out _ (List.getElem_mem hkp)
          have hpm := HMAY.out _ (List.getElem_mem hkp)
          clear hcell3 hget
          generalize ps[k] = pk at hc3 HGOK HTK hpr hpcc hpm
          obtain ⟨kA, kc, kl⟩ := pk
          unfold vPart at hc3
          dsimp only at hc3 HGOK HTK hpr hpcc hpm
          obtain ⟨kn, hkn⟩ : ∃ z, kl.length = z := ⟨_, rfl⟩
          have HKN := Lib.hid hkn
          rw [hkn] at hc3 hpcc hpm
          have HON := Lib.hid (onward_any x m kl kn kA kc wr hI HKN hpr hpcc (by omega))
          unfold aggM at HON
          have i2 : (0 : Int) ≤ (k : Int) := by omega
          have i3 : (k : Int) < (q : Int) := by omega
          clear hkn hpr hpcc hkp hkt
          go_upto_region 10 with fail
          go_wp2_with (refine wpList_load_part rfl 37 (.tmp 6) rfl (g6) 0 rfl _ _ (hR6) ((lM x m)) (by rfl) _ Tryz.underlying37 rfl (by exact size_memory) ?_)
          refine HON.out.mono ?_
          rintro e w4 ⟨x', m', er, rfl, hI4, hf4, he1, he2, hb4⟩
          unfold aggM
          have hoA4 := hf4 0 w1.heap.size hw1 hoA
          have hoB4 := hf4 g6 (g6 + 1) (by omega) hoB
          replace hR0 := hR0.later hb4
          replace hR6 := hR6.later hb4
          have hIm := hI.keep hb4
          replace hB := below_step hB hb4
          replace hBw := below_step hBw hb4
          have hs4 := hb4.size
          obtain ⟨hR10, hB10⟩ := box_of w4 37 l0M _ rfl
          clear hb4 HON hI hc3
          go_upto_region 11 with (refine wpList_store_row rfl 37 (.tmp 10) (.tmp 43) rfl (w4.heap.size) rfl ((lM x' m')) rfl _ _ (hR10) (by exact size_memory) rfl (one_memory x' m') ?_)
          have hR11 := hR10.setRow (lM x' m')
          have hbn := below_setRow hB10 (Nat.le_refl _) (lM x' m').toArray
          clear hR10 hB10
          generalize (w4.alloc (.cells l0M.toArray 37)).setRow w4.heap.size (lM x' m').toArray = w5 at hR11 hbn ⊢
          replace hI4 := hI4.keep hbn
          replace hR0 := hR0.later hbn
          replace hR6 := hR6.later hbn
          have hIm5 := hIm.keep hbn
          replace hB := below_step hB hbn
          replace hBw := below_step hBw hbn
          clear hbn hIm
          have hgx : g6 < w4.heap.size := by omega
          generalize w4.heap.size = gx at hR11 hgx ⊢
          by_cases hz : er = 0
          · subst hz
            have HG1 := Lib.hid (he1.out rfl)
            clear he1 he2
            go_upto_region 13 with fail
            have hO6 := (Only.refl g6 w5).setRow (lM x' m').toArray
            have hR66 := hR6.setRow (lM x' m')
            have hR06 := hR0.only hO6 (by have := hR0.lt; omega)
            have hI6 := hI4.at_only hO6 hoB4 (Nat.le_refl _) (Nat.lt_succ_self _)
            have hB6 := hB.trans (hO6.below.mono (by omega))
            have hBw6 := hBw.trans (hO6.below.mono (by omega))
            go_wp2_with (first
              | (refine wpList_load_part rfl 37 (.tmp 10) rfl (gx) 0 rfl _ _ (hR11) ((lM x' m')) (by rfl) _ Tryz.underlying37 rfl (by exact size_memory) ?_)
              | (refine wpList_store_row rfl 37 (.tmp 6) (.tmp 50) rfl (g6) rfl ((lM x' m')) rfl _ _ (hR6) (by exact size_memory) rfl (one_memory x' m') ?_))
            clear hR6 hR0 hI4 hB hBw hO6 hR11 hIm5
            generalize w5.setRow g6 (lM x' m').toArray = w6 at hR66 hR06 hI6 hB6 hBw6 ⊢
            go_roundw
            case rel =>
              refine ⟨k + 1, x', m', by go_num, by rw [HTL.out]; omega, ?_, hR06, hR66, hI6, hoA4, hoB4, hB6, hBw6⟩
              unfold Hid
              rw [HGO.out, HGOK.out, HTK.out, ← Nat.add_assoc]
              conv => lhs; unfold goOn
              rw [HG1.out]
            case measure => simp [intOf]; omega
          · have HG2 := Lib.hid (he2.out hz)
            have hz1 : (er == 0) = false := beq_eq_false_iff_ne.2 hz
            have hz2 : (er != 0) = true := by rw [bne, hz1]; rfl
            clear he1 he2
            go_wp2_with (first
              | (refine wpList_load_part rfl 37 (.tmp 6) rfl (g6) 0 rfl _ _ (hR6) ((lM x m)) (by rfl) _ Tryz.underlying37 rfl (by exact size_memory) ?_)
              | (refine wpList_store_row rfl 94 (.tmp 2) (.tmp 49) rfl (w.heap.size) rfl ([.bool true, .int .u64 (num : Int), .int .u64 (m.clock : Int), .int .u64 (m.b.1 : Int), .slice x.b.eA x.b.n x.b.ec, .slice x.b.gA x.b.g x.b.gc, .int .i64 m.c.1, .int .u64 (m.c.2.1 : Int), .slice x.c.A x.c.s x.c.c, .bool false]) rfl _ _ (hR0) (by exact size_held) rfl (one_held true num x m false) ?_))
            refine bodyPost_ret (results_cell_row (p := 2) (ty := 94) (by rfl) _ _ w.heap.size 94 _ (0, 0) _ (by rfl) (by exact hR0.setRow _) Tryz.underlying94 (by rfl) (by exact size_held)) (by rfl) ?_
            have hO6 := (Only.refl w.heap.size w5).setRow [.bool true, .int .u64 (num : Int), .int .u64 (m.clock : Int), .int .u64 (m.b.1 : Int), .slice x.b.eA x.b.n x.b.ec, .slice x.b.gA x.b.g x.b.gc, .int .i64 m.c.1, .int .u64 (m.c.2.1 : Int), .slice x.c.A x.c.s x.c.c, .bool false].toArray
            have hfin : goOn m0 (pl.length + 6) ts = (m, pl.length + 6 + ((ts.take k).map (fun t => t.length + 6)).sum) := by
              rw [HGO.out, HGOK.out]
              unfold goOn
              rw [HG2.out]
            have hlt2 : pl.length + 6 + ((ts.take k).map (fun t => t.length + 6)).sum < n := by
              have h1 : (ts.map (fun t => t.length + 6)).sum = ((ts.take k).map (fun t => t.length + 6)).sum + ((ts.drop k).map (fun t => t.length + 6)).sum := by
                rw [← List.sum_append, ← List.map_append, List.take_append_drop]
              have h2 := HSUM.out
              have h3 := HLE.out
              rw [HGOK.out, List.map_cons, List.sum_cons] at h1
              omega
            refine ⟨.inr ⟨x, m, num, pl.length + 6 + ((ts.take k).map (fun t => t.length + 6)).sum, false, ?_, rfl, hIm5.at_only hO6 hoA (Nat.zero_le _) (by omega), hoA.mono (Nat.le_refl _) (by omega), hnum, ?_⟩, below_setRow hB (Nat.le_refl _) _⟩
            · rw [HGG.out, hfin]
            · constructor
              · intro h; cases h
              · intro h; omega
        · have hkq : k = q := by omega
          subst hkq
          have hi1 : ¬ (k : Int) < (k : Int) := by omega
          have hfin : Hid (goOn m0 (pl.length + 6) ts = (m, N)) := by
            unfold Hid
            rw [HGO.out, ← HTL.out, List.take_length, List.drop_length, HSUM.out]
            rfl
          obtain ⟨a, ha⟩ : ∃ a, ((N : Int) == (n : Int)) = a := ⟨_, rfl⟩
          have HAA : Hid (a = true ↔ N = n) := by
            unfold Hid
            rw [← ha, beq_iff_eq]
            omega
          clear HGO HRDP HPRS HPCS HMAY
          go_wp2_with (first
            | (refine wpList_load_part rfl 37 (.tmp 6) rfl (g6) 0 rfl _ _ (hR6) ((lM x m)) (by rfl) _ Tryz.underlying37 rfl (by exact size_memory) ?_)
            | (refine wpList_store_row rfl 94 (.tmp 2) (.tmp 58) rfl (w.heap.size) rfl ([.bool true, .int .u64 (num : Int), .int .u64 (m.clock : Int), .int .u64 (m.b.1 : Int), .slice x.b.eA x.b.n x.b.ec, .slice x.b.gA x.b.g x.b.gc, .int .i64 m.c.1, .int .u64 (m.c.2.1 : Int), .slice x.c.A x.c.s x.c.c, .bool a]) rfl _ _ (hR0) (by exact size_held) rfl (one_held true num x m a) ?_))
          refine bodyPost_ret (results_cell_row (p := 2) (ty := 94) (by rfl) _ _ w.heap.size 94 _ (0, 0) _ (by rfl) (by exact hR0.setRow _) Tryz.underlying94 (by rfl) (by exact size_held)) (by rfl) ?_
          have hO6 := (Only.refl w.heap.size wr).setRow [.bool true, .int .u64 (num : Int), .int .u64 (m.clock : Int), .int .u64 (m.b.1 : Int), .slice x.b.eA x.b.n x.b.ec, .slice x.b.gA x.b.g x.b.gc, .int .i64 m.c.1, .int .u64 (m.c.2.1 : Int), .slice x.c.A x.c.s x.c.c, .bool a].toArray
          exact ⟨.inr ⟨x, m, num, N, a, by rw [HGG.out, hfin.out], rfl, hI.at_only hO6 hoA (Nat.zero_le _) (by omega), hoA.mono (Nat.le_refl _) (by omega), hnum, HAA.out⟩, below_setRow hB (Nat.le_refl _) _⟩
    · have hGN : G = none := by rw [← HG.out]; exact area_bad (HT1.out.trans HT.out) (he2.out hz)
      subst hGN
      have hz1 : (er == 0) = false := beq_eq_false_iff_ne.2 hz
      have hz2 : (er != 0) = true := by rw [bne, hz1]; rfl
      clear he1 he2
      go_wp2_with (refine wpList_store_row rfl 94 (.tmp 2) (.tmp 31) rfl (w.heap.size) rfl ([.bool false, .int .u64 0, .int .u64 0, .int .u64 0, .slice none 0 0, .slice none 0 0, .int .i64 0, .int .u64 0, .slice none 0 0, .bool false]) rfl _ _ (hR0) (by exact size_held) rfl (one_held false 0 zeroWM zeroMem false) ?_)
      refine bodyPost_ret (results_cell_row (p := 2) (ty := 94) (by rfl) _ _ w.heap.size 94 _ (0, 0) _ (by rfl) (by exact hR0.setRow _) Tryz.underlying94 (by rfl) (by exact size_held)) (by rfl) ?_
      exact ⟨.inl ⟨rfl, rfl⟩, below_setRow hB (Nat.le_refl _) _⟩
end Go.Proofs.YteppocjgodmpdaaGreatDoor
