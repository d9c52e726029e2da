/-
  The walk of the law ShaBlocks: a text of whole blocks goes on by its blocks alone. Condition: the package's table holds the sixty-four constants.
-/
import Derived.Test.YtdadnmnhaeohaaaDoorShaAwake
import Derived.ChangeKeysEq
namespace Go.Proofs.YtdadnmnhaeohaaaDoor
open Go.RowKit
set_option linter.unusedSimpArgs false
set_option linter.unusedVariables false

/-- Two arrays of the same words are alike. -/
theorem eql_words {P : Program} (w : World) (t e : TypeId) (n : Nat) {i : TypeInfo} (ht : P.underlying t = some (.array n e)) (he : P.underlying e = some (.int .u32)) (hi : P.info? e = some i) (hc : P.cellsOf e = 1) (L : List UInt32) (hl : L.length = n) :
    (Op.equalIn 10000 t (.agg (L.map vW).toArray) (.agg (L.map vW).toArray)).run P w = .ok true w := by
  rw [run_equalIn_array w 9999 _ _ ht hi, hc]
  have hr : ∀ j ∈ List.range n, j < n := fun j hj => by simpa using hj
  generalize List.range n = is at hr
  induction is with
  | nil => simp [Op.eqItems]
  | cons j is ih =>
    have hj : j < n := hr j (by simp)
    have px : (part e (L.map vW).toArray (j * 1)).run P w = .ok (vW (L.getD j 0)) w := by
      simp [part, isAgg, run_underlying he, List.getD, List.getElem?_eq_getElem (show j < L.length by omega)]
    have pe : (Op.equalIn 9999 e (vW (L.getD j 0)) (vW (L.getD j 0))).run P w = .ok true w := by
      rw [vW, run_equalIn_int w 9998 e .u32 .u32 _ _ he]
      simp
    simp only [Op.eqItems, Sem.run_bind, px, pe, Result.andThen_ok, Bool.not_true, Bool.false_eq_true, if_false]
    exact ih fun k hk => hr k (by simp [hk])
theorem eqIn_st (S : St) (W : World) : (Op.equalIn 10000 23 (.agg #[.int .u32 (S.a.toNat : Int), .int .u32 (S.b.toNat : Int), .int .u32 (S.c.toNat : Int), .int .u32 (S.d.toNat : Int), .int .u32 (S.e.toNat : Int), .int .u32 (S.f.toNat : Int), .int .u32 (S.g.toNat : Int), .int .u32 (S.h.toNat : Int)]) (.agg #[.int .u32 (S.a.toNat : Int), .int .u32 (S.b.toNat : Int), .int .u32 (S.c.toNat : Int), .int .u32 (S.d.toNat : Int), .int .u32 (S.e.toNat : Int), .int .u32 (S.f.toNat : Int), .int .u32 (S.g.toNat : Int), .int .u32 (S.h.toNat : Int)])).run Tryd.prog W = .ok true W := by
  obtain ⟨i0, hi, _, _, _⟩ := info_parts info_u32
  have := eql_words W 23 22 8 Tryd.underlying23 Tryd.underlying22 hi (by kernel_rfl) S.toL rfl
  exact this
theorem eql_st (S : St) (W : World) : (binOp .eql 23 (.agg #[.int .u32 (S.a.toNat : Int), .int .u32 (S.b.toNat : Int), .int .u32 (S.c.toNat : Int), .int .u32 (S.d.toNat : Int), .int .u32 (S.e.toNat : Int), .int .u32 (S.f.toNat : Int), .int .u32 (S.g.toNat : Int), .int .u32 (S.h.toNat : Int)]) (.agg #[.int .u32 (S.a.toNat : Int), .int .u32 (S.b.toNat : Int), .int .u32 (S.c.toNat : Int), .int .u32 (S.d.toNat : Int), .int .u32 (S.e.toNat : Int), .int .u32 (S.f.toNat : Int), .int .u32 (S.g.toNat : Int), .int .u32 (S.h.toNat : Int)])).run Tryd.prog W = .ok (.bool true) W := by
  rw [run_eql_struct, eqIn_st]
  rfl

def ShBRel (s : St) (M : List UInt8) (H : List Value) (w : World) (g : Nat) (i : Value) (wr : World) : Prop :=
  ∃ (q : Nat) (S : St), 64 * q ≤ M.length ∧ i = .int .i64 ((64 * q : Nat) : Int) ∧ s.from M = S.from (M.drop (64 * q)) ∧ Row wr (g + 1) 23 [.int .u32 (S.a.toNat : Int), .int .u32 (S.b.toNat : Int), .int .u32 (S.c.toNat : Int), .int .u32 (S.d.toNat : Int), .int .u32 (S.e.toNat : Int), .int .u32 (S.f.toNat : Int), .int .u32 (S.g.toNat : Int), .int .u32 (S.h.toNat : Int)] ∧ Row wr g 27 H ∧ Below w.heap.size w wr
/-- Behind the call of Block. -/
def ShBCut (S : St) (D : List UInt8) (H : List Value) (w : World) (g : Nat) (v f : Value) (wr : World) : Prop :=
  ∃ (gu : Nat) (T : St), v = .pointer (some ⟨gu, 0, none⟩) ∧ f = .int .i64 0 ∧ Hid (T = S.block D) ∧ Row wr gu 23 [.int .u32 (T.a.toNat : Int), .int .u32 (T.b.toNat : Int), .int .u32 (T.c.toNat : Int), .int .u32 (T.d.toNat : Int), .int .u32 (T.e.toNat : Int), .int .u32 (T.f.toNat : Int), .int .u32 (T.g.toNat : Int), .int .u32 (T.h.toNat : Int)] ∧ Row wr (g + 1) 23 [.int .u32 (S.a.toNat : Int), .int .u32 (S.b.toNat : Int), .int .u32 (S.c.toNat : Int), .int .u32 (S.d.toNat : Int), .int .u32 (S.e.toNat : Int), .int .u32 (S.f.toNat : Int), .int .u32 (S.g.toNat : Int), .int .u32 (S.h.toNat : Int)] ∧ Row wr g 27 H ∧ Below w.heap.size w wr
def rangeS (g : Nat) (l : List Value) (W : World) : Prop := W.rangeAt g 0 l ∧ True

set_option maxRecDepth 100000 in
set_option maxHeartbeats 1000000 in
theorem shablocks_core (s : St) (b : List UInt8) (A : Option Addr) (c : Nat) (w : World) (hr : Rd vB w A b) (hc : b.length ≤ c) (hl : b.length ≤ 1280) (HK : Hid (KTab w)) :
    Calls Tryd.prog 5 #[.agg #[.int .u32 (s.a.toNat : Int), .int .u32 (s.b.toNat : Int), .int .u32 (s.c.toNat : Int), .int .u32 (s.d.toNat : Int), .int .u32 (s.e.toNat : Int), .int .u32 (s.f.toNat : Int), .int .u32 (s.g.toNat : Int), .int .u32 (s.h.toNat : Int)], .slice A b.length c] w fun e w' => e = .returned (.bool true) ∧ Below w.heap.size w w' := by
  go_enter Tryd.func5, Tryd.ntmps5
  go_wp2_with fail
  have hB0 : Below w.heap.size w (w.alloc (.cells #[.int .u32 (s.a.toNat : Int), .int .u32 (s.b.toNat : Int), .int .u32 (s.c.toNat : Int), .int .u32 (s.d.toNat : Int), .int .u32 (s.e.toNat : Int), .int .u32 (s.f.toNat : Int), .int .u32 (s.g.toNat : Int), .int .u32 (s.h.toNat : Int)] 23)) := below_new (Below.refl _ _) _
  refine (awake_any _ (Lib.hid (HK.out.keep hB0))).mono ?_
  rintro e w1 ⟨rfl, hb1⟩
  have hR0 : Row w1 w.heap.size 23 [.int .u32 (s.a.toNat : Int), .int .u32 (s.b.toNat : Int), .int .u32 (s.c.toNat : Int), .int .u32 (s.d.toNat : Int), .int .u32 (s.e.toNat : Int), .int .u32 (s.f.toNat : Int), .int .u32 (s.g.toNat : Int), .int .u32 (s.h.toNat : Int)] := (Row.new w _ _ _ rfl).later hb1
  have hB1 := below_step hB0 hb1
  clear hB0 hb1
  obtain ⟨q, hq⟩ : ∃ q, q = b.length / 64 := ⟨_, rfl⟩
  obtain ⟨M, hM⟩ : ∃ M, M = b.take (q * 64) := ⟨_, rfl⟩
  have hml : M.length = q * 64 := by rw [hM, List.length_take, hq]; omega
  have hrM : Rd vB w A M := by rw [hM]; exact hr.take _
  have hsl : ∀ W, (Instr.slice 24 (.slice A b.length c) none (some (.int .i64 ((b.length : Int) / 64 * 64))) none).run Tryd.prog W = .ok (.slice A M.length c) W := fun W => by
    have := run_cut_to (P := Tryd.prog) 24 5 Tryd.underlying24 size_uint8 A b.length c (b.length / 64 * 64) (by omega) W
    rw [hml, hq]
    simpa using this
  have hmc : M.length ≤ c := by omega
  have hm2 : M.length ≤ 1280 := by omega
  have HM64 : Hid (M.length % 64 = 0) := by unfold Hid; omega
  clear hM hr hml hq
  go_wp2_with (refine wpList_load_part rfl 23 (.tmp 2) rfl w.heap.size 0 rfl _ _ hR0 [.int .u32 (s.a.toNat : Int), .int .u32 (s.b.toNat : Int), .int .u32 (s.c.toNat : Int), .int .u32 (s.d.toNat : Int), .int .u32 (s.e.toNat : Int), .int .u32 (s.f.toNat : Int), .int .u32 (s.g.toNat : Int), .int .u32 (s.h.toNat : Int)] (by rfl) _ Tryd.underlying23 rfl (by exact size_st) ?_)
  clear hsl
  refine (more_text s [] M s [] none A 0 c 0 _ (Lib.hid (HashOf.none s)) Rd.nil (hrM.keep hB1) (by omega) (Lib.hid (HK.out.keep hB1))).mono ?_
  rintro e w2 ⟨S2, R2, A2, c2, m2, HH2, rfl, hc2, hn2, hr2, hN2, hb2⟩
  replace hR0 := hR0.later hb2
  have hB2 := below_step hB1 hb2
  have h0 : R2.length = 0 := by
    have := HH2.out.2.1
    rw [this, restL_length, List.nil_append]
    exact HM64.out
  have HS2 : Hid (s.from M = S2) := by have := HH2.out.1; rw [List.nil_append] at this; exact this.symm
  rw [h0]
  clear hB1 hb2 HH2 hr2 hN2 hc2 h0 hn2
  go_upto_region 8 with (refine wpList_load_part rfl 23 (.tmp 2) rfl w.heap.size 0 rfl _ _ (hR0.alloc _) [.int .u32 (s.a.toNat : Int), .int .u32 (s.b.toNat : Int), .int .u32 (s.c.toNat : Int), .int .u32 (s.d.toNat : Int), .int .u32 (s.e.toNat : Int), .int .u32 (s.f.toNat : Int), .int .u32 (s.g.toNat : Int), .int .u32 (s.h.toNat : Int)] (by rfl) _ Tryd.underlying23 rfl (by exact size_st) ?_)
  refine at_world (Q := Code.wp _ _ _ _) (fun W => Row W (w2.heap.size + 1) 23 [.int .u32 (s.a.toNat : Int), .int .u32 (s.b.toNat : Int), .int .u32 (s.c.toNat : Int), .int .u32 (s.d.toNat : Int), .int .u32 (s.e.toNat : Int), .int .u32 (s.f.toNat : Int), .int .u32 (s.g.toNat : Int), .int .u32 (s.h.toNat : Int)] ∧ Row W w2.heap.size 27 [.int .u32 (S2.a.toNat : Int), .int .u32 (S2.b.toNat : Int), .int .u32 (S2.c.toNat : Int), .int .u32 (S2.d.toNat : Int), .int .u32 (S2.e.toNat : Int), .int .u32 (S2.f.toNat : Int), .int .u32 (S2.g.toNat : Int), .int .u32 (S2.h.toNat : Int), .slice A2 0 c2, .int .u64 (m2 : Int)] ∧ Below w.heap.size w W)
    ⟨Row.new_at _ _ (by simp) _ _ _ rfl, (Row.new w2 _ _ _ rfl).alloc _, below_new (below_new hB2 _) _⟩ ?_
  have hz := hB2.size
  clear hR0 hB2
  rintro W ⟨hR1, hR2, hB⟩
  go_wp2_with fail
  go_loopw [8] (fun i wr => ShBRel s M [.int .u32 (S2.a.toNat : Int), .int .u32 (S2.b.toNat : Int), .int .u32 (S2.c.toNat : Int), .int .u32 (S2.d.toNat : Int), .int .u32 (S2.e.toNat : Int), .int .u32 (S2.f.toNat : Int), .int .u32 (S2.g.toNat : Int), .int .u32 (S2.h.toNat : Int), .slice A2 0 c2, .int .u64 (m2 : Int)] w w2.heap.size i wr) (fun i _ => M.length - (intOf i).toNat)
  case atStart => exact ⟨0, s, by omega, rfl, rfl, hR1, hR2, hB⟩
  case round =>
    clear hR1 hR2 hB
    obtain ⟨k, S, hk, rfl, hfr, hR1, hR2, hB⟩ := hrel
    have HF := Lib.hid hfr
    clear hfr
    by_cases hlt : 64 * k < M.length
    · obtain ⟨blk, o, rfl, hblk, _⟩ := hrM.at hlt
      have hmid := hrM.mid (64 * k) (64 * k + 64) c hmc
      have hlm : ((M.drop (64 * k)).take (64 * k + 64 - 64 * k)).length = 64 := by have := HM64.out; simp; omega
      have HS := Lib.hid (from_step S (M.drop (64 * k)) (by have := HM64.out; simp; omega))
      rw [if_neg (by have := HM64.out; omega), show 64 * k + 64 - 64 * k = 64 by omega] at hmid
      rw [show 64 * k + 64 - 64 * k = 64 by omega] at hlm
      obtain ⟨j, hj⟩ : ∃ j, j = 64 * k := ⟨_, rfl⟩
      have HJ := Lib.hid hj
      have i4 : j + 64 ≤ M.length := by have := HM64.out; omega
      rw [← hj] at hmid hlm HS HF hlt ⊢
      obtain ⟨D, hD⟩ : ∃ D, D = (M.drop j).take 64 := ⟨_, rfl⟩
      rw [← hD] at hmid hlm HS
      have HL := Lib.hid hlm
      clear hj hD hlm
      have i1 : (0 : Int) ≤ (j : Int) := by omega
      have i2 : (j : Int) + 64 ≤ (c : Int) := by omega
      have i5 : (j : Int) ≤ (j : Int) + 64 := by omega
      have i3 : ¬ c = j := by omega
      have i6 : IntKind.i64.wrap ((j : Int) + 64) = (j : Int) + 64 := by rw [IntKind.wrap_i64]; omega
      have e1 : (some (⟨blk, o, none⟩ : Addr)).map (·.add (j * 1)) = some ⟨blk, o + j, none⟩ := by
        simp only [Option.map_some, Nat.mul_one, Addr.add]
        split <;> simp_all
      rw [e1] at hmid
      have hcc : 64 ≤ c - j := by omega
      have hsl : ∀ W, (Instr.slice 24 (.slice (some ⟨blk, o, none⟩) M.length c) (some (.int .i64 (j : Int))) (some (.int .i64 ((j : Int) + 64))) none).run Tryd.prog W = .ok (.slice (some ⟨blk, o + j, none⟩) 64 (c - j)) W := fun W => by
        have he : Tryd.prog.elem 24 = 5 := by simp [Program.elem, Tryd.underlying24]
        rw [run_slice_lh W 24 (some ⟨blk, o, none⟩) M.length c (by rw [he]; exact Tryd.underlying24) .i64 .i64 (j : Int) ((j : Int) + 64) i1 i5 i2, he, size_uint8]
        simp only [Result.andThen, sliced, Int.toNat_natCast]
        rw [if_neg i3, e1, show ((j : Int) + 64).toNat - j = 64 by omega]
      clear e1
      go_upto_region 11 with fail
      go_cut [9, 10] (fun v f wx => ShBCut S D [.int .u32 (S2.a.toNat : Int), .int .u32 (S2.b.toNat : Int), .int .u32 (S2.c.toNat : Int), .int .u32 (S2.d.toNat : Int), .int .u32 (S2.e.toNat : Int), .int .u32 (S2.f.toNat : Int), .int .u32 (S2.g.toNat : Int), .int .u32 (S2.h.toNat : Int), .slice A2 0 c2, .int .u64 (m2 : Int)] w w2.heap.size v f wx)
      case first =>
        refine wp_region_plan_of (rangeS (w2.heap.size + 1) [.int .u32 (S.a.toNat : Int), .int .u32 (S.b.toNat : Int), .int .u32 (S.c.toNat : Int), .int .u32 (S.d.toNat : Int), .int .u32 (S.e.toNat : Int), .int .u32 (S.f.toNat : Int), .int .u32 (S.g.toNat : Int), .int .u32 (S.h.toNat : Int)]) (.step 0 false (.step 1 false (.step 2 false (.step 3 false (.step 4 false (.step 5 false (.fork 6 (.step 7 false (.step 8 false (.step 9 false (.step 10 true (.step 11 true (.step 12 false .nil)))))) 10 (.step 6 true (.step 7 false (.step 8 false (.step 9 false (.step 11 true (.step 12 false .nil)))))))))))))
          ⟨hR1.drew.range, trivial⟩ (by kernel_rfl) (by kernel_rfl) (by rfl) (by kernel_rfl) ?_
        refine at_world (Q := wpPlan _ _ _ _ _ _) (fun W => Row W (w2.heap.size + 1) 23 [.int .u32 (S.a.toNat : Int), .int .u32 (S.b.toNat : Int), .int .u32 (S.c.toNat : Int), .int .u32 (S.d.toNat : Int), .int .u32 (S.e.toNat : Int), .int .u32 (S.f.toNat : Int), .int .u32 (S.g.toNat : Int), .int .u32 (S.h.toNat : Int)] ∧ Row W w2.heap.size 27 [.int .u32 (S2.a.toNat : Int), .int .u32 (S2.b.toNat : Int), .int .u32 (S2.c.toNat : Int), .int .u32 (S2.d.toNat : Int), .int .u32 (S2.e.toNat : Int), .int .u32 (S2.f.toNat : Int), .int .u32 (S2.g.toNat : Int), .int .u32 (S2.h.toNat : Int), .slice A2 0 c2, .int .u64 (m2 : Int)] ∧ Below w.heap.size w W) ⟨hR1.drew, hR2.drew, hB.drew⟩ ?_
        clear hR1 hR2 hB
        rintro W0 ⟨hR1, hR2, hB⟩
        refine plan_load rfl (by rfl) 23 (.tmp 7) (by rfl) (w2.heap.size + 1) 0 (by rfl) [.int .u32 (S.a.toNat : Int), .int .u32 (S.b.toNat : Int), .int .u32 (S.c.toNat : Int), .int .u32 (S.d.toNat : Int), .int .u32 (S.e.toNat : Int), .int .u32 (S.f.toNat : Int), .int .u32 (S.g.toNat : Int), .int .u32 (S.h.toNat : Int)] _ (fun W hW => hW.1) Tryd.underlying23 rfl (by exact size_st) ?_
        simp only [List.getElem_toArray, List.getElem_cons_zero, List.getElem_cons_succ, Act.put, List.setIfInBounds_toArray, List.set_cons_zero, List.set_cons_succ]
        iterate 5 (refine plan_read rfl (by rfl) (v := ?_) ?_ ?_; rotate_left 1; (intro W hW; go_simp <;> with_reducible rfl); simp only [List.getElem_toArray, List.getElem_cons_zero, List.getElem_cons_succ, Act.put, List.setIfInBounds_toArray, List.set_cons_zero, List.set_cons_succ])
        clear hsl i6
        refine plan_fork rfl rfl (by rfl) (by rfl) (fun K hK => ?_) (fun K hK => ?_)
        · go_simp
          refine (block_any S D _ _ _ HL (hmid.keep hB) hcc (Lib.hid (HK.out.keep hB))).mono ?_
          rintro e W1 ⟨T, HT, rfl, hb1⟩
          replace hR1 := hR1.later hb1
          replace hR2 := hR2.later hb1
          replace hB := below_step hB hb1
          refine hK.out _ _ ⟨hR1.range, trivial⟩ ?_
          clear hK K hb1
          iterate 3 (refine plan_read rfl (by rfl) (v := ?_) ?_ ?_; rotate_left 1; (intro W hW; go_simp <;> with_reducible rfl); simp only [List.getElem_toArray, List.getElem_cons_zero, List.getElem_cons_succ, Act.put, List.setIfInBounds_toArray, List.set_cons_zero, List.set_cons_succ])
          refine plan_make_of rfl (by rfl) (fun K hK => ?_)
          go_simp
          refine hK.out _ _ ⟨(hR1.alloc _).range, trivial⟩ ?_
          clear hK K
          have hRu := Row.new W1 23 (List.replicate 8 (.int .u32 0)) #[.int .u32 0, .int .u32 0, .int .u32 0, .int .u32 0, .int .u32 0, .int .u32 0, .int .u32 0, .int .u32 0] rfl
          refine plan_make_of rfl (by rfl) (fun K hK => ?_)
          refine hRu.wp_store 23 (.tmp 9) (.tmp 44) (by rfl) (by rfl) [.int .u32 (T.a.toNat : Int), .int .u32 (T.b.toNat : Int), .int .u32 (T.c.toNat : Int), .int .u32 (T.d.toNat : Int), .int .u32 (T.e.toNat : Int), .int .u32 (T.f.toNat : Int), .int .u32 (T.g.toNat : Int), .int .u32 (T.h.toNat : Int)] (by rfl) (by exact size_st) (by simp) (by exact one_st _ _ _ _ _ _ _ _) ?_
          simp only [List.getElem_toArray, List.getElem_cons_zero, List.getElem_cons_succ, Act.put, List.setIfInBounds_toArray, List.set_cons_zero, List.set_cons_succ]
          have hl1 := hR1.lt
          have hl2 := hR2.lt
          replace hR1 := (hR1.alloc (.cells #[.int .u32 0, .int .u32 0, .int .u32 0, .int .u32 0, .int .u32 0, .int .u32 0, .int .u32 0, .int .u32 0] 23)).setRow_other (k := W1.heap.size) (by omega) [.int .u32 (T.a.toNat : Int), .int .u32 (T.b.toNat : Int), .int .u32 (T.c.toNat : Int), .int .u32 (T.d.toNat : Int), .int .u32 (T.e.toNat : Int), .int .u32 (T.f.toNat : Int), .int .u32 (T.g.toNat : Int), .int .u32 (T.h.toNat : Int)].toArray
          replace hR2 := (hR2.alloc (.cells #[.int .u32 0, .int .u32 0, .int .u32 0, .int .u32 0, .int .u32 0, .int .u32 0, .int .u32 0, .int .u32 0] 23)).setRow_other (k := W1.heap.size) (by omega) [.int .u32 (T.a.toNat : Int), .int .u32 (T.b.toNat : Int), .int .u32 (T.c.toNat : Int), .int .u32 (T.d.toNat : Int), .int .u32 (T.e.toNat : Int), .int .u32 (T.f.toNat : Int), .int .u32 (T.g.toNat : Int), .int .u32 (T.h.toNat : Int)].toArray
          replace hB := below_setRow (below_new hB (.cells #[.int .u32 0, .int .u32 0, .int .u32 0, .int .u32 0, .int .u32 0, .int .u32 0, .int .u32 0, .int .u32 0] 23)) (g := W1.heap.size) hB.size [.int .u32 (T.a.toNat : Int), .int .u32 (T.b.toNat : Int), .int .u32 (T.c.toNat : Int), .int .u32 (T.d.toNat : Int), .int .u32 (T.e.toNat : Int), .int .u32 (T.f.toNat : Int), .int .u32 (T.g.toNat : Int), .int .u32 (T.h.toNat : Int)].toArray
          refine hK.out _ _ ⟨hR1.range, trivial⟩ ?_
          clear hK K
          iterate 1 (refine plan_read rfl (by rfl) (v := ?_) ?_ ?_; rotate_left 1; (intro W hW; go_simp <;> with_reducible rfl); simp only [List.getElem_toArray, List.getElem_cons_zero, List.getElem_cons_succ, Act.put, List.setIfInBounds_toArray, List.set_cons_zero, List.set_cons_succ])
          refine plan_done ?_
          have HR : Hid (ShBCut S D [.int .u32 (S2.a.toNat : Int), .int .u32 (S2.b.toNat : Int), .int .u32 (S2.c.toNat : Int), .int .u32 (S2.d.toNat : Int), .int .u32 (S2.e.toNat : Int), .int .u32 (S2.f.toNat : Int), .int .u32 (S2.g.toNat : Int), .int .u32 (S2.h.toNat : Int), .slice A2 0 c2, .int .u64 (m2 : Int)] w w2.heap.size (.pointer (some ⟨W1.heap.size, 0, none⟩)) (.int .i64 0) _) := ⟨W1.heap.size, T, rfl, rfl, HT, hRu.setRow _, hR1, hR2, hB⟩
          clear hR1 hR2 hB hRu
          go_wp2_with fail
          go_meet
          case rel => exact HR.out
        · go_simp
          refine hK.out _ _ ⟨(hR1.alloc _).range, trivial⟩ ?_
          clear hK K
          refine at_world (Q := wpPlan _ _ _ _ _ _) (fun W => Row W W0.heap.size 23 (List.replicate 8 (.int .u32 0)) ∧ Row W (w2.heap.size + 1) 23 [.int .u32 (S.a.toNat : Int), .int .u32 (S.b.toNat : Int), .int .u32 (S.c.toNat : Int), .int .u32 (S.d.toNat : Int), .int .u32 (S.e.toNat : Int), .int .u32 (S.f.toNat : Int), .int .u32 (S.g.toNat : Int), .int .u32 (S.h.toNat : Int)] ∧ Row W w2.heap.size 27 [.int .u32 (S2.a.toNat : Int), .int .u32 (S2.b.toNat : Int), .int .u32 (S2.c.toNat : Int), .int .u32 (S2.d.toNat : Int), .int .u32 (S2.e.toNat : Int), .int .u32 (S2.f.toNat : Int), .int .u32 (S2.g.toNat : Int), .int .u32 (S2.h.toNat : Int), .slice A2 0 c2, .int .u64 (m2 : Int)] ∧ Below w.heap.size w W) ⟨Row.new W0 _ _ _ rfl, hR1.alloc _, hR2.alloc _, below_new hB _⟩ ?_
          have hl1 := hR1.lt
          have hl2 := hR2.lt
          have hl3 := hB.size
          clear hR1 hR2 hB
          rintro W1 ⟨hRu, hR1, hR2, hB⟩
          refine plan_make_of rfl (by rfl) (fun K hK => ?_)
          go_simp
          refine (block_any S D _ _ _ HL (hmid.keep hB) hcc (Lib.hid (HK.out.keep hB))).mono ?_
          rintro e W2 ⟨T, HT, rfl, hb1⟩
          replace hRu := hRu.later hb1
          replace hR1 := hR1.later hb1
          replace hR2 := hR2.later hb1
          replace hB := below_step hB hb1
          refine hK.out _ _ ⟨hR1.range, trivial⟩ ?_
          clear hK K hb1
          iterate 3 (refine plan_read rfl (by rfl) (v := ?_) ?_ ?_; rotate_left 1; (intro W hW; go_simp <;> with_reducible rfl); simp only [List.getElem_toArray, List.getElem_cons_zero, List.getElem_cons_succ, Act.put, List.setIfInBounds_toArray, List.set_cons_zero, List.set_cons_succ])
          refine plan_make_of rfl (by rfl) (fun K hK => ?_)
          refine hRu.wp_store 23 (.tmp 9) (.tmp 44) (by rfl) (by rfl) [.int .u32 (T.a.toNat : Int), .int .u32 (T.b.toNat : Int), .int .u32 (T.c.toNat : Int), .int .u32 (T.d.toNat : Int), .int .u32 (T.e.toNat : Int), .int .u32 (T.f.toNat : Int), .int .u32 (T.g.toNat : Int), .int .u32 (T.h.toNat : Int)] (by rfl) (by exact size_st) (by simp) (by exact one_st _ _ _ _ _ _ _ _) ?_
          simp only [List.getElem_toArray, List.getElem_cons_zero, List.getElem_cons_succ, Act.put, List.setIfInBounds_toArray, List.set_cons_zero, List.set_cons_succ]
          replace hR1 := hR1.setRow_other (k := W0.heap.size) (by omega) [.int .u32 (T.a.toNat : Int), .int .u32 (T.b.toNat : Int), .int .u32 (T.c.toNat : Int), .int .u32 (T.d.toNat : Int), .int .u32 (T.e.toNat : Int), .int .u32 (T.f.toNat : Int), .int .u32 (T.g.toNat : Int), .int .u32 (T.h.toNat : Int)].toArray
          replace hR2 := hR2.setRow_other (k := W0.heap.size) (by omega) [.int .u32 (T.a.toNat : Int), .int .u32 (T.b.toNat : Int), .int .u32 (T.c.toNat : Int), .int .u32 (T.d.toNat : Int), .int .u32 (T.e.toNat : Int), .int .u32 (T.f.toNat : Int), .int .u32 (T.g.toNat : Int), .int .u32 (T.h.toNat : Int)].toArray
          replace hB := below_setRow hB (g := W0.heap.size) hl3 [.int .u32 (T.a.toNat : Int), .int .u32 (T.b.toNat : Int), .int .u32 (T.c.toNat : Int), .int .u32 (T.d.toNat : Int), .int .u32 (T.e.toNat : Int), .int .u32 (T.f.toNat : Int), .int .u32 (T.g.toNat : Int), .int .u32 (T.h.toNat : Int)].toArray
          refine hK.out _ _ ⟨hR1.range, trivial⟩ ?_
          clear hK K
          iterate 1 (refine plan_read rfl (by rfl) (v := ?_) ?_ ?_; rotate_left 1; (intro W hW; go_simp <;> with_reducible rfl); simp only [List.getElem_toArray, List.getElem_cons_zero, List.getElem_cons_succ, Act.put, List.setIfInBounds_toArray, List.set_cons_zero, List.set_cons_succ])
          refine plan_done ?_
          have HR : Hid (ShBCut S D [.int .u32 (S2.a.toNat : Int), .int .u32 (S2.b.toNat : Int), .int .u32 (S2.c.toNat : Int), .int .u32 (S2.d.toNat : Int), .int .u32 (S2.e.toNat : Int), .int .u32 (S2.f.toNat : Int), .int .u32 (S2.g.toNat : Int), .int .u32 (S2.h.toNat : Int), .slice A2 0 c2, .int .u64 (m2 : Int)] w w2.heap.size (.pointer (some ⟨W0.heap.size, 0, none⟩)) (.int .i64 0) _) := ⟨W0.heap.size, T, rfl, rfl, HT, hRu.setRow _, hR1, hR2, hB⟩
          clear hR1 hR2 hB hRu
          go_wp2_with fail
          go_meet
          case rel => exact HR.out
      case rest =>
        clear hR1 hR2 hB hsl
        obtain ⟨gu, T, rfl, rfl, HT, hRu, hR1, hR2, hB⟩ := hcut
        go_upto_region 10 with (first
          | (refine wpList_load_part rfl 23 (.tmp 9) rfl gu 0 rfl _ _ hRu [.int .u32 (T.a.toNat : Int), .int .u32 (T.b.toNat : Int), .int .u32 (T.c.toNat : Int), .int .u32 (T.d.toNat : Int), .int .u32 (T.e.toNat : Int), .int .u32 (T.f.toNat : Int), .int .u32 (T.g.toNat : Int), .int .u32 (T.h.toNat : Int)] (by rfl) _ Tryd.underlying23 rfl (by exact size_st) ?_)
          | (refine wpList_store_row rfl 23 (.tmp 7) (.tmp 48) rfl (w2.heap.size + 1) rfl [.int .u32 (T.a.toNat : Int), .int .u32 (T.b.toNat : Int), .int .u32 (T.c.toNat : Int), .int .u32 (T.d.toNat : Int), .int .u32 (T.e.toNat : Int), .int .u32 (T.f.toNat : Int), .int .u32 (T.g.toNat : Int), .int .u32 (T.h.toNat : Int)] rfl _ _ hR1 (by exact size_st) (by rfl) (by exact one_st _ _ _ _ _ _ _ _) ?_))
        refine at_world (Q := Code.wp _ _ _ _) (fun W => ShBRel s M [.int .u32 (S2.a.toNat : Int), .int .u32 (S2.b.toNat : Int), .int .u32 (S2.c.toNat : Int), .int .u32 (S2.d.toNat : Int), .int .u32 (S2.e.toNat : Int), .int .u32 (S2.f.toNat : Int), .int .u32 (S2.g.toNat : Int), .int .u32 (S2.h.toNat : Int), .slice A2 0 c2, .int .u64 (m2 : Int)] w w2.heap.size (.int .i64 ((j : Int) + 64)) W) ?_ ?_
        · have ej := HJ.out
          refine ⟨k + 1, T, by omega, by congr 1; omega, ?_, hR1.setRow _, hR2.setRow_other (by omega) _, below_setRow hB (by omega) _⟩
          rw [HF.out, HS.out, HT.out, List.drop_drop, show 64 * (k + 1) = j + 64 by omega]
        intro W HR
        replace HR := Lib.hid HR
        clear hRu hR1 hR2 hB HF HS HT
        go_wp2_with fail
        go_roundw
        case rel => exact HR.out
        case measure => simp [intOf]; omega
    · have hkk : 64 * k = M.length := by omega
      have HT : Hid (S = S2) := by
        have := HF.out
        rw [HS2.out, hkk, List.drop_length, from_stop S [] (by simp)] at this
        exact this.symm
      have e := HT.out
      subst e
      have heq := eql_st S
      have heq2 := eqIn_st S
      have c8 : wr.cell? ⟨w2.heap.size, 8, none⟩ = some (.slice A2 0 c2) := hR2.cell rfl
      have c0 : wr.cell? ⟨w2.heap.size, 0, none⟩ = some (.int .u32 (S.a.toNat : Int)) := hR2.cell rfl
      have d0 : wr.cell? ⟨w2.heap.size + 1, 0, none⟩ = some (.int .u32 (S.a.toNat : Int)) := hR1.cell rfl
      have c1 : wr.cell? ⟨w2.heap.size, 1, none⟩ = some (.int .u32 (S.b.toNat : Int)) := hR2.cell rfl
      have d1 : wr.cell? ⟨w2.heap.size + 1, 1, none⟩ = some (.int .u32 (S.b.toNat : Int)) := hR1.cell rfl
      have c2 : wr.cell? ⟨w2.heap.size, 2, none⟩ = some (.int .u32 (S.c.toNat : Int)) := hR2.cell rfl
      have d2 : wr.cell? ⟨w2.heap.size + 1, 2, none⟩ = some (.int .u32 (S.c.toNat : Int)) := hR1.cell rfl
      have c3 : wr.cell? ⟨w2.heap.size, 3, none⟩ = some (.int .u32 (S.d.toNat : Int)) := hR2.cell rfl
      have d3 : wr.cell? ⟨w2.heap.size + 1, 3, none⟩ = some (.int .u32 (S.d.toNat : Int)) := hR1.cell rfl
      have c4 : wr.cell? ⟨w2.heap.size, 4, none⟩ = some (.int .u32 (S.e.toNat : Int)) := hR2.cell rfl
      have d4 : wr.cell? ⟨w2.heap.size + 1, 4, none⟩ = some (.int .u32 (S.e.toNat : Int)) := hR1.cell rfl
      have c5 : wr.cell? ⟨w2.heap.size, 5, none⟩ = some (.int .u32 (S.f.toNat : Int)) := hR2.cell rfl
      have d5 : wr.cell? ⟨w2.heap.size + 1, 5, none⟩ = some (.int .u32 (S.f.toNat : Int)) := hR1.cell rfl
      have c6 : wr.cell? ⟨w2.heap.size, 6, none⟩ = some (.int .u32 (S.g.toNat : Int)) := hR2.cell rfl
      have d6 : wr.cell? ⟨w2.heap.size + 1, 6, none⟩ = some (.int .u32 (S.g.toNat : Int)) := hR1.cell rfl
      have c7 : wr.cell? ⟨w2.heap.size, 7, none⟩ = some (.int .u32 (S.h.toNat : Int)) := hR2.cell rfl
      have d7 : wr.cell? ⟨w2.heap.size + 1, 7, none⟩ = some (.int .u32 (S.h.toNat : Int)) := hR1.cell rfl
      clear HT HS2 HF
      go_wp2_with fail
      go_ret
      exact ⟨rfl, hB⟩
end Go.Proofs.YtdadnmnhaeohaaaDoor
