/-
  What the program's calls Start, Block and wholeBlocks of layer 2 answer. Condition: the package's table holds the sixty-four constants.
-/
import Derived.Test.YtdokbhcoekffpaaDoorShaBehind
import Derived.Test.YtdokbhcoekffpaaDoorSlices
namespace Go.Proofs.YtdokbhcoekffpaaDoor
open Go.RowKit
set_option linter.unusedSimpArgs false

/-- What is left of a text behind its whole blocks. -/
def restL (b : List UInt8) : List UInt8 := b.drop (b.length / 64 * 64)
theorem restL_length (b : List UInt8) : (restL b).length = b.length % 64 := by rw [restL, List.length_drop]; omega
theorem restL_short (b : List UInt8) (h : b.length < 64) : restL b = b := by rw [restL, show b.length / 64 * 64 = 0 by omega]; rfl
theorem restL_step (b : List UInt8) (h : 64 ≤ b.length) : restL b = restL (b.drop 64) := by
  rw [restL, restL, List.drop_drop, List.length_drop, show 64 + (b.length - 64) / 64 * 64 = b.length / 64 * 64 by omega]

theorem start_any (w : World) : Calls Tryd.prog 24 #[] w fun e w' => ∃ S : St, Hid (S = startSt) ∧ e = .returned (.agg #[.int .u32 (S.a.toNat : Int), .int .u32 (S.b.toNat : Int), .int .u32 (S.c.toNat : Int), .int .u32 (S.d.toNat : Int), .int .u32 (S.e.toNat : Int), .int .u32 (S.f.toNat : Int), .int .u32 (S.g.toNat : Int), .int .u32 (S.h.toNat : Int), .slice none 0 0, .int .u64 0]) ∧ Below w.heap.size w w' := by
  go_enter Tryd.func24, Tryd.ntmps24
  go_wp2_with fail
  refine bodyPost_ret (results_cell_row (p := 0) (ty := 27) (by rfl) _ _ w.heap.size 27 _ (0, 0) _ (by rfl) (by exact Row.new w _ _ _ rfl) Tryd.underlying27 (by rfl) (by kernel_rfl)) (by rfl) ?_
  exact ⟨startSt, rfl, rfl, below_new (Below.refl _ _) _⟩

def BlocksRel (s : St) (b : List UInt8) (A0 : Option Addr) (w : World) (v : Value) (wr : World) : Prop :=
  ∃ (S : St) (M : List UInt8) (A : Option Addr) (c : Nat), v = .slice A M.length c ∧ M.length ≤ c ∧ M.length ≤ b.length ∧ (∀ W, Rd vB W A0 b → Rd vB W A M) ∧ s.from b = S.from M ∧ restL b = restL M ∧
    Row wr w.heap.size 23 [.int .u32 (S.a.toNat : Int), .int .u32 (S.b.toNat : Int), .int .u32 (S.c.toNat : Int), .int .u32 (S.d.toNat : Int), .int .u32 (S.e.toNat : Int), .int .u32 (S.f.toNat : Int), .int .u32 (S.g.toNat : Int), .int .u32 (S.h.toNat : Int)] ∧ Row wr (w.heap.size + 1) 23 (List.replicate 8 (.int .u32 0)) ∧ Below w.heap.size w wr

set_option maxHeartbeats 1000000 in
theorem wholeBlocks_any (s : St) (b : List UInt8) (A : Option Addr) (c : Nat) (w : World) (hr : Rd vB w A b) (hc : b.length ≤ c) (hl : b.length ≤ 9223372036854775807) (HK : Hid (KTab w)) :
    Calls Tryd.prog 25 #[.agg #[.int .u32 (s.a.toNat : Int), .int .u32 (s.b.toNat : Int), .int .u32 (s.c.toNat : Int), .int .u32 (s.d.toNat : Int), .int .u32 (s.e.toNat : Int), .int .u32 (s.f.toNat : Int), .int .u32 (s.g.toNat : Int), .int .u32 (s.h.toNat : Int)], .slice A b.length c] w fun e w' => ∃ (S : St) (A' : Option Addr) (c' : Nat), Hid (S = s.from b) ∧ e = .returned (.tuple #[.agg #[.int .u32 (S.a.toNat : Int), .int .u32 (S.b.toNat : Int), .int .u32 (S.c.toNat : Int), .int .u32 (S.d.toNat : Int), .int .u32 (S.e.toNat : Int), .int .u32 (S.f.toNat : Int), .int .u32 (S.g.toNat : Int), .int .u32 (S.h.toNat : Int)], .slice A' (restL b).length c']) ∧ (restL b).length ≤ c' ∧ (∀ W, Rd vB W A b → Rd vB W A' (restL b)) ∧ Below w.heap.size w w' := by
  go_enter Tryd.func25, Tryd.ntmps25
  go_wp2_with fail
  refine at_world (Q := Code.wp _ _ _ _) (fun W => Row W w.heap.size 23 [.int .u32 (s.a.toNat : Int), .int .u32 (s.b.toNat : Int), .int .u32 (s.c.toNat : Int), .int .u32 (s.d.toNat : Int), .int .u32 (s.e.toNat : Int), .int .u32 (s.f.toNat : Int), .int .u32 (s.g.toNat : Int), .int .u32 (s.h.toNat : Int)] ∧ Row W (w.heap.size + 1) 23 (List.replicate 8 (.int .u32 0)) ∧ Below w.heap.size w W)
    ⟨(Row.new w _ _ _ rfl).alloc _, Row.new_at _ _ (by simp) _ _ _ rfl, below_new (below_new (Below.refl _ _) _) _⟩ ?_
  rintro W ⟨hR0, hR1, hB⟩
  go_loopw [1] (fun v wr => BlocksRel s b A w v wr) (fun v _ => sliceLen v)
  case atStart => exact ⟨s, b, A, c, rfl, hc, Nat.le_refl _, fun _ h => h, rfl, rfl, hR0, hR1, hB⟩
  case round =>
    clear hR0 hR1 hB hc
    obtain ⟨S, M, A1, c1, rfl, hc1, hMl, hall, hfr, hrs, hR0, hR1, hB⟩ := hrel
    have HA := Lib.hid hall
    have hr1 := hall w hr
    clear hall
    have HF := Lib.hid hfr
    have HR := Lib.hid hrs
    clear hfr hrs
    by_cases h64 : 64 ≤ M.length
    · obtain ⟨blk, o, rfl, hb, _⟩ := hr1.at (k := 0) (by omega)
      have hr64 : Rd vB w (some ⟨blk, o, none⟩) (M.take 64) := hr1.take 64
      have HL : Hid ((M.take 64).length = 64) := by unfold Hid; rw [List.length_take]; omega
      have hrd : Hid (∀ W, Rd vB W A b → Rd vB W (if c1 = 64 then some ⟨blk, o, none⟩ else some ⟨blk, o + 64, none⟩) (M.drop 64)) := fun W h => by
        have := (HA.out W h).drop 64 c1 hc1
        simpa [Addr.add] using this
      have HF2 : Hid (s.from b = (S.block (M.take 64)).from (M.drop 64)) := by unfold Hid; rw [HF.out]; exact from_step S M h64
      have HR2 : Hid (restL b = restL (M.drop 64)) := by unfold Hid; rw [HR.out]; exact restL_step M h64
      have hmd : (M.drop 64).length = M.length - 64 := List.length_drop
      obtain ⟨D, hD⟩ : ∃ D, D = M.drop 64 := ⟨_, rfl⟩
      rw [← hD] at hrd HF2 HR2 hmd
      have HD := Lib.hid hmd
      generalize M.take 64 = T at hr64 HL HF2
      clear hD hmd hr1 HF HR HA
      have hc64 : 64 ≤ c1 := by omega
      have hc64' : (64 : Int) ≤ (c1 : Int) := by omega
      go_wp2_with fail
      refine wp_region_plan_of (fun _ => True) (.step 1 false (.step 2 false (.step 0 true (.step 3 true (.step 4 true (.nil)))))) trivial (by kernel_rfl) (by kernel_rfl) (by rfl) (by kernel_rfl) ?_
      iterate 2 (refine plan_read rfl (by rfl) (v := ?_) ?_ ?_; rotate_left 1; (intro W hW; go_simp <;> with_reducible rfl); simp only [List.getElem_toArray, List.getElem_cons_zero, List.getElem_cons_succ, Act.put, List.setIfInBounds_toArray, List.set_cons_zero, List.set_cons_succ])
      refine plan_make_of rfl (by rfl) (fun K hK => ?_)
      refine wp_load_mid 23 (.tmp 2) (by rfl) w.heap.size 0 (by rfl) [.int .u32 (S.a.toNat : Int), .int .u32 (S.b.toNat : Int), .int .u32 (S.c.toNat : Int), .int .u32 (S.d.toNat : Int), .int .u32 (S.e.toNat : Int), .int .u32 (S.f.toNat : Int), .int .u32 (S.g.toNat : Int), .int .u32 (S.h.toNat : Int)] _ hR0.drew.range Tryd.underlying23 (by rfl) (by exact size_st) ?_
      simp only [List.getElem_toArray, List.getElem_cons_zero, List.getElem_cons_succ, Act.put, List.setIfInBounds_toArray, List.set_cons_zero, List.set_cons_succ]
      refine hK.out _ _ trivial ?_
      clear hK K
      refine plan_make_of rfl (by rfl) (fun K hK => ?_)
      go_simp
      refine (behind_any S T _ _ _ HL (by exact hr64.keep hB.drew) hc64 (by exact Lib.hid (HK.out.keep hB.drew))).mono ?_
      rintro e w1 ⟨S1, HS1, rfl, hb1⟩
      refine hK.out _ _ trivial ?_
      clear hK K
      replace hR0 := hR0.drew.later hb1
      replace hR1 := hR1.drew.later hb1
      replace hB := below_step hB.drew hb1
      clear hb1
      refine plan_make_of rfl (by rfl) (fun K hK => ?_)
      refine hR0.wp_store 23 (.tmp 2) (.tmp 12) (by rfl) (by rfl) [.int .u32 (S1.a.toNat : Int), .int .u32 (S1.b.toNat : Int), .int .u32 (S1.c.toNat : Int), .int .u32 (S1.d.toNat : Int), .int .u32 (S1.e.toNat : Int), .int .u32 (S1.f.toNat : Int), .int .u32 (S1.g.toNat : Int), .int .u32 (S1.h.toNat : Int)] (by rfl) (by exact size_st) (by rfl) (by exact one_st _ _ _ _ _ _ _ _) ?_
      simp only [List.getElem_toArray, List.getElem_cons_zero, List.getElem_cons_succ, Act.put, List.setIfInBounds_toArray, List.set_cons_zero, List.set_cons_succ]
      refine hK.out _ _ trivial ?_
      clear hK K
      refine plan_done ?_
      refine at_world (Q := _) (fun W => Row W w.heap.size 23 [.int .u32 (S1.a.toNat : Int), .int .u32 (S1.b.toNat : Int), .int .u32 (S1.c.toNat : Int), .int .u32 (S1.d.toNat : Int), .int .u32 (S1.e.toNat : Int), .int .u32 (S1.f.toNat : Int), .int .u32 (S1.g.toNat : Int), .int .u32 (S1.h.toNat : Int)] ∧ Row W (w.heap.size + 1) 23 (List.replicate 8 (.int .u32 0)) ∧ Below w.heap.size w W)
        ⟨hR0.setRow _, hR1.setRow_other (by omega) _, below_setRow hB (Nat.le_refl _) _⟩ ?_
      clear hR0 hR1 hB
      rintro W2 ⟨hR0, hR1, hB⟩
      have HRel : Hid (BlocksRel s b A w (.slice (if c1 = 64 then some ⟨blk, o, none⟩ else some ⟨blk, o + 64, none⟩) (M.length - 64) (c1 - 64)) W2) := by
        have e := HD.out
        refine ⟨S1, D, _, c1 - 64, by rw [e], by omega, by omega, hrd.out, ?_, HR2.out, hR0, hR1, hB⟩
        rw [HS1.out]
        exact HF2.out
      clear hrd HF2 HR2 hR0 hR1 hB HS1 HD HL hr64
      go_wp2_with fail
      go_roundw
      case rel => exact HRel.out
      case measure => simp [sliceLen]; omega
    · have HF2 : Hid (S = s.from b) := by unfold Hid; rw [HF.out]; exact (from_stop S M h64).symm
      have HR2 : Hid (restL b = M) := by unfold Hid; rw [HR.out]; exact restL_short M (by omega)
      clear HF HR
      go_wp2_with (first
        | (refine wpList_load_part rfl 23 (.tmp 2) rfl w.heap.size 0 rfl _ _ hR0 [.int .u32 (S.a.toNat : Int), .int .u32 (S.b.toNat : Int), .int .u32 (S.c.toNat : Int), .int .u32 (S.d.toNat : Int), .int .u32 (S.e.toNat : Int), .int .u32 (S.f.toNat : Int), .int .u32 (S.g.toNat : Int), .int .u32 (S.h.toNat : Int)] (by rfl) _ Tryd.underlying23 rfl (by exact size_st) ?_)
        | (refine wpList_store_row rfl 23 (.tmp 4) (.tmp 15) rfl (w.heap.size + 1) rfl [.int .u32 (S.a.toNat : Int), .int .u32 (S.b.toNat : Int), .int .u32 (S.c.toNat : Int), .int .u32 (S.d.toNat : Int), .int .u32 (S.e.toNat : Int), .int .u32 (S.f.toNat : Int), .int .u32 (S.g.toNat : Int), .int .u32 (S.h.toNat : Int)] rfl _ _ hR1 (by exact size_st) (by exact List.length_replicate) (by exact one_st _ _ _ _ _ _ _ _) ?_))
      refine bodyPost_ret (results_row_tmp (p := 4) (u := 5) (ty := 23) (by rfl) _ _ (w.heap.size + 1) 23 _ _ (by rfl) (by exact hR1.setRow _) Tryd.underlying23 (by rfl) (by exact size_st)) (by rfl) ?_
      refine ⟨S, A1, c1, HF2.out, ?_, ?_, ?_, below_setRow hB (Nat.le_succ _) _⟩
      · rw [HR2.out]; rfl
      · rw [HR2.out]; exact hc1
      · rw [HR2.out]; exact HA.out
end Go.Proofs.YtdokbhcoekffpaaDoor
