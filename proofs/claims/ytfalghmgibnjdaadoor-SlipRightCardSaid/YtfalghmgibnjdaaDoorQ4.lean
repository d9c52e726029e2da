/-
  The walk of the law SlipRight: any text's slip, and the row of any bytes, is what the document says. Condition: the package's table holds the sixty-four constants.
-/
import Derived.Test.YtfalghmgibnjdaaDoorQ3
import Derived.ProofKit
import Derived.OpenShut
import Derived.Deep.Slices
import Derived.Deep.Strs
import Derived.Test.YtfalghmgibnjdaaDoorRows
import Derived.Lib.LaidTab
import Derived.MakeChecks
namespace Go.Proofs.YtfalghmgibnjdaaDoor
set_option maxRecDepth 100000
open Go.RowKit
set_option linter.unusedSimpArgs false
set_option linter.unusedVariables false

set_option maxRecDepth 100000 in
set_option maxHeartbeats 4000000 in
theorem slipright_core (t b : List UInt8) (n1 n2 : Nat) (A1 A2 : Option Addr) (c1 c2 : Nat) (w : World) (HN1 : Hid (t.length = n1)) (HN2 : Hid (b.length = n2)) (hr1 : Rd vB w A1 t) (hr2 : Rd vB w A2 b) (hc1 : n1 ≤ c1) (hc2 : n2 ≤ c2) (hn1 : n1 ≤ 3000) (hn2 : n2 ≤ 3000) (HK : Hid (KTab w)) :
    Calls Tryd.prog 3 #[.slice A1 n1 c1, .slice A2 n2 c2] w fun e w' => e = .returned (.bool true) ∧ Below w.heap.size w w' := by
  have i1 : ¬ (3000 : Int) < (n1 : Int) := by omega
  have i2 : ¬ (3000 : Int) < (n2 : Int) := by omega
  have HPU := Lib.hid (fun W hW hK => put18_any t n1 A1 c1 W HN1 (hr1.keep hW) (by omega) hK)
  have HRP := Lib.hid (fun W hW => refput18_any t n1 A1 c1 W HN1 (hr1.keep hW) (by omega))
  have HRW := Lib.hid (fun W hW hK => row18_any b n2 A2 c2 W HN2 (hr2.keep hW) hc2 (by omega) hK)
  have HRR := Lib.hid (fun W hW => refrow18_any b n2 A2 c2 W HN2 (hr2.keep hW) hc2 (by omega))
  have HWH := Lib.hid (fun W hW hK => whole_any b n2 A2 c2 W HN2 (hr2.keep hW) hc2 (by omega) hK)
  have hXl : (slipS fS t).length = n1 + 6 := by rw [slip_length fS_length, HN1.out, Nat.add_comm]
  unfold Hid at HPU HRP HRW HRR HWH
  generalize slipS fS t = X at HPU HRP hXl
  obtain ⟨ts, hts⟩ : ∃ ts, (rowSl fS b).1 = ts := ⟨_, rfl⟩
  obtain ⟨m, hm⟩ : ∃ m, (rowSl fS b).2 = m := ⟨_, rfl⟩
  have hml := row_le (f := fS) b
  rw [hm, HN2.out] at hml
  have htl : ts.length ≤ n2 := by
    obtain ⟨_, h4, _⟩ := row_back (f := fS) b.length b (Nat.le_refl _)
    have e2 := congrArg List.length h4
    rw [List.length_take, hts] at e2
    have e3 : ∀ l : List (List UInt8), l.length ≤ (flatS fS l).length := fun l => by
      induction l with
      | nil => exact Nat.le_refl _
      | cons x l ih => rw [flatS_cons, List.length_append, List.length_cons, slip_length fS_length]; omega
    have e4 := e3 ts
    have := HN2.out
    omega
  rw [hts, hm] at HRW HRR
  rw [hm] at HWH
  obtain ⟨B, hBB⟩ : ∃ B, decide (m = n2) = B := ⟨_, rfl⟩
  rw [hBB] at HWH
  have hEB : ((m : Int) == (n2 : Int)) = B := by
    rw [← hBB, Bool.eq_iff_iff, beq_iff_eq, decide_eq_true_iff]
    omega
  replace HPU := Lib.hid HPU
  replace HRP := Lib.hid HRP
  replace HRW := Lib.hid HRW
  replace HRR := Lib.hid HRR
  replace HWH := Lib.hid HWH
  have HXL := Lib.hid hXl
  have HTL := Lib.hid htl
  have HEB := Lib.hid hEB
  clear hts hm hBB hEB hXl htl hml hr1 hr2
  go_enter Tryd.func3, Tryd.ntmps3
  go_wp2_with fail
  refine (awake18_any w HK).mono ?_
  rintro e w1 ⟨rfl, hB1⟩
  go_wp2_with fail
  refine (HPU.out _ hB1 (Lib.hid (HK.out.keep hB1))).mono ?_
  rintro e w2 ⟨v2, rfl, hown2, hb2⟩
  obtain ⟨A3, c3, rfl, hc3, hr3⟩ := own_slice hown2
  rw [HXL.out] at hc3 ⊢
  have hB2 := below_step hB1 hb2
  clear hown2 hb2 hB1
  go_wp2_with fail
  refine (HRW.out _ hB2 (Lib.hid (HK.out.keep hB2))).mono ?_
  rintro e w3 ⟨v3, rfl, htx3, hb3⟩
  obtain ⟨ps, ho3, hps, hpr⟩ := htx3
  obtain ⟨A4, c4, rfl, hc4, hr4⟩ := own_slice ho3
  obtain ⟨q, hq⟩ : ∃ q, ps.length = q := ⟨_, rfl⟩
  rw [hq] at hc4 ⊢
  have hB3 := below_step hB2 hb3
  replace hr3 := hr3.keep hb3
  clear ho3 hb3 hB2
  go_wp2_with fail
  refine (HRR.out _ hB3).mono ?_
  rintro e w4 ⟨v4, rfl, htx4, hb4⟩
  obtain ⟨qs, ho4, hqs, hqr⟩ := htx4
  obtain ⟨A5, c5, rfl, hc5, hr5⟩ := own_slice ho4
  have hql : qs.length = q := by have h6 := congrArg List.length hqs; have h7 := congrArg List.length hps; rw [List.length_map] at h6 h7; rw [h6, ← h7]; exact hq
  rw [hql] at hc5 ⊢
  have hB4 := below_step hB3 hb4
  replace hr3 := hr3.keep hb4
  replace hr4 := hr4.keep hb4
  have hpr4 : ∀ p ∈ ps, Rd vB w4 p.A p.l := fun p hp => (hpr p hp).keep hb4
  have HQ := Lib.hid hq
  have HQ2 := Lib.hid hql
  have hqb : q ≤ 3000 := by have h7 := congrArg List.length hps; rw [List.length_map, hq] at h7; have := HTL.out; omega
  have HSM := Lib.hid (fun W hW => refsame18_any ps qs q q A4 A5 c4 c5 W HQ HQ2 (hr4.keep hW) (hr5.keep hW) (fun p hp => (hpr4 p hp).keep hW) (fun p hp => (hqr p hp).keep hW) (by omega) (by omega))
  unfold Hid at HSM
  rw [hps, hqs, decide_eq_true rfl] at HSM
  replace HSM := Lib.hid HSM
  have hs1 : ∀ W, Below w4.heap.size w4 W → (convert 22 9 (.slice A3 (n1 + 6) c3)).run Tryd.prog W = .ok (.string (strL X)) W := fun W hW => run_str W _ _ _ Tryd.underlying22 Tryd.underlying5 Tryd.underlying9 A3 X (n1 + 6) c3 HXL.out (hr3.keep hW)
  have he := str_beq X X
  rw [decide_eq_true rfl] at he
  clear ho4 hb4 hB3 hql hq hpr hpr4 hqr hps hqs hr3 hr4 hr5
  go_wp2_with fail
  have hBase : Below w4.heap.size w4 w4.drew := (Below.refl _ _).drew
  have hEB := HEB.out
  refine wp_region_plan (.step 0 false (.step 1 false (.step 2 false (.step 3 false (.step 4 false (.step 5 false (.step 6 true (.step 7 false (.step 8 false (.step 9 false (.step 10 false (.step 11 false (.step 12 false (.step 13 true (.step 14 false (.step 15 false (.step 16 false (.step 17 false (.step 18 false (.step 19 false (.step 20 false (.step 21 false (.step 23 false (.step 24 false (.step 25 false (.step 26 false (.step 22 true (.step 27 false (.step 28 false (.step 29 false (.nil))))))))))))))))))))))))))))))) (by kernel_rfl) (by kernel_rfl) (by rfl) (by kernel_rfl) ?_
  iterate 6 (refine plan_read rfl (by rfl) (v := ?_) ?_ ?_; rotate_left 1; (intro W hW; have hW0 := below_step hBase hW; (try dsimp only at hW); go_simp <;> with_reducible rfl); simp only [List.getElem_toArray, List.getElem_cons_zero, List.getElem_cons_succ, Act.put, List.setIfInBounds_toArray, List.set_cons_zero, List.set_cons_succ])
  (refine plan_make rfl (by rfl) (fun K hK => ?_); go_simp; (refine (HRP.out _ (below_step hB4 hBase)).mono ?_; rintro e w7 ⟨A7, c7, rfl, hc7, hr7, hbx⟩); refine hK.out _ _ hbx ?_; clear hK K; replace hBase := below_step hBase hbx)
  have hs2 : ∀ W, Below w7.heap.size w7 W → (convert 22 9 (.slice A7 (n1 + 6) c7)).run Tryd.prog W = .ok (.string (strL X)) W := fun W hW => run_str W _ _ _ Tryd.underlying22 Tryd.underlying5 Tryd.underlying9 A7 X (n1 + 6) c7 HXL.out (hr7.keep hW)
  generalize strL X = SA at hs1 hs2 he ⊢
  iterate 6 (refine plan_read rfl (by rfl) (v := ?_) ?_ ?_; rotate_left 1; (intro W hW; have hW0 := below_step hBase hW; (try dsimp only at hW); go_simp <;> with_reducible rfl); simp only [List.getElem_toArray, List.getElem_cons_zero, List.getElem_cons_succ, Act.put, List.setIfInBounds_toArray, List.set_cons_zero, List.set_cons_succ])
  (refine plan_make rfl (by rfl) (fun K hK => ?_); go_simp; (refine (HSM.out _ hBase).mono ?_; rintro e w8 ⟨rfl, hbx⟩); refine hK.out _ _ hbx ?_; clear hK K; replace hBase := below_step hBase hbx)
  iterate 12 (refine plan_read rfl (by rfl) (v := ?_) ?_ ?_; rotate_left 1; (intro W hW; have hW0 := below_step hBase hW; (try dsimp only at hW); go_simp <;> with_reducible rfl); simp only [List.getElem_toArray, List.getElem_cons_zero, List.getElem_cons_succ, Act.put, List.setIfInBounds_toArray, List.set_cons_zero, List.set_cons_succ])
  (refine plan_make rfl (by rfl) (fun K hK => ?_); go_simp; (refine (HWH.out _ (below_step hB4 hBase) (Lib.hid (HK.out.keep (below_step hB4 hBase)))).mono ?_; rintro e w9 ⟨rfl, hbx⟩); refine hK.out _ _ hbx ?_; clear hK K; replace hBase := below_step hBase hbx)
  iterate 3 (refine plan_read rfl (by rfl) (v := ?_) ?_ ?_; rotate_left 1; (intro W hW; have hW0 := below_step hBase hW; (try dsimp only at hW); go_simp <;> with_reducible rfl); simp only [List.getElem_toArray, List.getElem_cons_zero, List.getElem_cons_succ, Act.put, List.setIfInBounds_toArray, List.set_cons_zero, List.set_cons_succ])
  refine plan_done ?_
  clear hs1 hs2
  go_wp2_with fail
  go_ret
  exact ⟨rfl, below_step hB4 hBase⟩
end Go.Proofs.YtfalghmgibnjdaaDoor
/-
  The walk of the law SlipLong: texts have slips up to 60000 bytes, and no longer ones. Condition: the package's table holds the sixty-four constants.
-/
namespace Go.Proofs.YtfalghmgibnjdaaDoor
set_option maxRecDepth 100000
open Go.RowKit
set_option linter.unusedSimpArgs false
set_option linter.unusedVariables false

theorem make_zeros18 (n : Nat) (hn : n ≤ 2000000) (w : World) : (Instr.makeSlice 22 (.int .i64 (n : Int)) (.int .i64 (n : Int))).run Tryd.prog w = .ok (.slice (some ⟨w.heap.size, 0, none⟩) n n) (w.alloc (.cells ((List.replicate n (0 : UInt8)).map vB).toArray 5)) := by
  obtain ⟨i0, hi, hz0, hz1, hz2⟩ := info_parts info_u8
  have e : madeCells (Value.int .u8 0).cells n = ((List.replicate n (0 : UInt8)).map vB).toArray := by
    apply Array.toList_inj.1
    apply List.ext_getElem
    · simp [madeCells]
    · intro i h1 h2
      simp [madeCells, Value.cells, vB, Nat.mod_one]
  have := run_makeSlice (P := Tryd.prog) (w := w) 22 5 i0 (.int .u8 0) Tryd.underlying22 hi hz0 .i64 .i64 (n : Int) (n : Int) (by omega) (Int.le_refl _) (by rw [hz1]; omega) (by rw [hz2]; omega) (by omega)
  rw [hz1, Int.toNat_natCast, Nat.mul_one, e] at this
  exact this
theorem row_one [Inhabited Tab] (t : List UInt8) (h : t.length ≤ 60000) : rowSl fS (slipS fS t) = ([t], t.length + 6) := by
  have e1 : slipS fS t = flatS fS [t] := by
    rw [flatS_cons]
    show _ = _ ++ []
    rw [List.append_nil]
  have hl := slip_length fS_length t
  rw [e1, row_all fS_length _ (fun x hx => by rw [List.mem_singleton.1 hx]; exact h), ← e1, hl, Nat.add_comm]

set_option maxHeartbeats 2000000 in
theorem sliplong_core [Inhabited Tab] (y : Nat) (w : World) (hy : y < 65536) (HK : Hid (KTab w)) :
    Calls Tryd.prog 4 #[.int .u16 (y : Int)] w fun e w' => e = .returned (.bool true) ∧ Below w.heap.size w w' := by
  obtain ⟨r, hr⟩ : ∃ r, y % 200 = r := ⟨_, rfl⟩
  obtain ⟨n, hn⟩ : ∃ n, 59900 + r = n := ⟨_, rfl⟩
  have q1 : (y : Int) % 200 = (r : Int) := by omega
  have q2 : (y : Int).tmod 200 = (r : Int) := by rw [Int.tmod_eq_emod_of_nonneg (by omega)]; exact q1
  have q3 : (59900 : Int) + (r : Int) = (n : Int) := by omega
  have hnb : n ≤ 60099 := by omega
  have hna : 59900 ≤ n := by omega
  have hmk := make_zeros18 n (by omega)
  obtain ⟨Z, hZ⟩ : ∃ Z, List.replicate n (0 : UInt8) = Z := ⟨_, rfl⟩
  have hZl : Z.length = n := by rw [← hZ, List.length_replicate]
  rw [hZ] at hmk
  clear hr hn hZ
  go_enter Tryd.func4, Tryd.ntmps4
  go_wp2_with fail
  refine (awake18_any w HK).mono ?_
  rintro e w1 ⟨rfl, hB1⟩
  go_upto_region 4 with fail
  clear q1 q2 q3 hy
  have hb2 := below_new (Below.refl _ w1) (.cells (Z.map vB).toArray 5)
  have hrZ : Rd vB (w1.alloc (.cells (Z.map vB).toArray 5)) (some ⟨w1.heap.size, 0, none⟩) Z := Rd.new w1 Z _ _ rfl
  have hB2 := below_step hB1 hb2
  have HZL := Lib.hid hZl
  have hmk1 := hmk w1
  by_cases h60 : 60000 < n
  · have i1 : (60000 : Int) < (n : Int) := by omega
    have HP := Lib.hid (put18_long n (some ⟨w1.heap.size, 0, none⟩) n (w1.alloc (.cells (Z.map vB).toArray 5)) h60 (by omega))
    clear hmk hZl hb2 hB1 hrZ
    generalize w1.alloc (.cells (Z.map vB).toArray 5) = w2 at hB2 HP hmk1
    go_wp2_with fail
    refine HP.out.mono ?_
    rintro e w3 ⟨v3, rfl, hown3, hb3⟩
    have hB3 := below_step hB2 hb3
    obtain ⟨A3, c3, rfl, hc3⟩ := own_form hown3
    go_wp2_with fail
    go_ret
    exact ⟨rfl, hB3⟩
  · have i1 : ¬ (60000 : Int) < (n : Int) := by omega
    have HP := Lib.hid (put18_any Z n (some ⟨w1.heap.size, 0, none⟩) n (w1.alloc (.cells (Z.map vB).toArray 5)) HZL hrZ (by omega) (Lib.hid (HK.out.keep hB2)))
    have hX1 := row_one Z (by omega)
    have hX2 := slip_length fS_length Z
    rw [hZl] at hX1 hX2
    obtain ⟨X, hX⟩ : ∃ X, slipS fS Z = X := ⟨_, rfl⟩
    rw [hX] at HP hX1 hX2
    obtain ⟨m, hm⟩ : ∃ m, n + 6 = m := ⟨_, rfl⟩
    rw [Nat.add_comm 6 n, hm] at hX2
    rw [hm] at hX1
    have q4 : (n : Int) + 6 = (m : Int) := by omega
    have HX1 := Lib.hid hX1
    have HX2 := Lib.hid hX2
    clear hmk hZl hb2 hB1 hrZ hX1 hX2 hX hm
    generalize w1.alloc (.cells (Z.map vB).toArray 5) = w2 at hB2 HP hmk1
    go_wp2_with fail
    refine HP.out.mono ?_
    rintro e w3 ⟨v3, rfl, hown3, hb3⟩
    have hB3 := below_step hB2 hb3
    obtain ⟨A3, c3, rfl, hc3, hr3⟩ := own_slice hown3
    rw [HX2.out] at hc3 ⊢
    clear hmk1 hown3 hb3 hB2
    go_wp2_with fail
    refine (row18_any X m A3 c3 _ HX2 hr3 hc3 (by omega) (Lib.hid (HK.out.keep hB3))).mono ?_
    rintro e w4 ⟨v4, rfl, htx, hb4⟩
    have hB4 := below_step hB3 hb4
    rw [HX1.out] at htx ⊢
    obtain ⟨ps, ho, hps, hpr⟩ := htx
    have hp2 : ps.length = 1 := by have := congrArg List.length hps; simpa using this
    obtain ⟨p0, rfl⟩ : ∃ p0, ps = [p0] := by
      match ps, hp2 with
      | [p0], _ => exact ⟨p0, rfl⟩
    have hp0 : p0.l = Z := by
      simp only [List.map_cons, List.map_nil, List.cons.injEq] at hps
      exact hps.1
    obtain ⟨A5, c5, rfl, hc5, hr5⟩ := own_slice ho
    obtain ⟨blk, o, rfl, hblk, hcell⟩ := hr5.at (k := 0) (by simp)
    have hc0 : w4.cell? ⟨blk, o, none⟩ = some (vPart p0) := hcell 0 (by simp)
    obtain ⟨pA, pc, pl⟩ := p0
    dsimp only at hp0
    subst hp0
    have hc1 : w4.cell? ⟨blk, o, none⟩ = some (.slice pA n pc) := by rw [← HZL.out]; exact hc0
    clear hc0 hcell hps hpr hp2 ho hr5 hc5
    go_wp2_with fail
    go_ret
    exact ⟨rfl, hB4⟩
end Go.Proofs.YtfalghmgibnjdaaDoor
/-
  The walk of the law SlipRow: what is a row's beginning is whole, and is a row of the same texts; these, each in a slip, are these bytes. Condition: the package's table holds the sixty-four constants.
-/
namespace Go.Proofs.YtfalghmgibnjdaaDoor
set_option maxRecDepth 100000
open Go.RowKit
set_option linter.unusedSimpArgs false
set_option linter.unusedVariables false

theorem flatS_app {f : List UInt8 → List UInt8} (a b : List (List UInt8)) : flatS f (a ++ b) = flatS f a ++ flatS f b := by unfold flatS; rw [List.flatMap_append]
theorem flat_take_le {f : List UInt8 → List UInt8} (ts : List (List UInt8)) (k : Nat) : (flatS f (ts.take k)).length ≤ (flatS f ts).length := by
  conv => rhs; rw [← List.take_append_drop k ts]
  rw [flatS_app, List.length_append]
  omega
theorem flat_take_succ {f : List UInt8 → List UInt8} (ps : List Part) (k : Nat) (h : k < ps.length) : flatS f ((ps.take (k + 1)).map (·.l)) = flatS f ((ps.take k).map (·.l)) ++ slipS f ps[k].l := by
  rw [List.take_succ_eq_append_getElem h, List.map_append, flatS_app]
  congr 1
  show slipS f ps[k].l ++ [] = _
  rw [List.append_nil]

/-- Slips of the first texts, in memory of the call's own. -/
def PutsR (ps : List Part) (W0 : World) (v i : Value) (wr : World) : Prop :=
  ∃ (k : Nat) (T : List UInt8), k ≤ ps.length ∧ i = .int .i64 (k : Int) ∧ Hid (T = flatS fS ((ps.take k).map (·.l))) ∧ wr.ownsRow W0.heap.size 5 1 v T.length (T.map vB) ∧ Below W0.heap.size W0 wr

set_option maxRecDepth 100000 in
set_option maxHeartbeats 4000000 in
theorem sliprow_core (b : List UInt8) (n : Nat) (A : Option Addr) (c : Nat) (w : World) (HN : Hid (b.length = n)) (hr : Rd vB w A b) (hc : n ≤ c) (hn : n ≤ 3000) (HK : Hid (KTab w)) :
    Calls Tryd.prog 6 #[.slice A n c] w fun e w' => e = .returned (.bool true) ∧ Below w.heap.size w w' := by
  obtain ⟨i0, hi, hz0, hz1, hz2⟩ := info_parts info_u8
  obtain ⟨h1, h2⟩ := row_cut fS_length b
  obtain ⟨h3, h4, h5⟩ := row_back (f := fS) b.length b (Nat.le_refl _)
  rw [HN.out] at h3
  have HR0 := Lib.hid (fun W hW hK => row18_any b n A c W HN (hr.keep hW) hc (by omega) hK)
  unfold Hid at HR0
  obtain ⟨ts, hts⟩ : ∃ ts, (rowSl fS b).1 = ts := ⟨_, rfl⟩
  obtain ⟨m, hm⟩ : ∃ m, (rowSl fS b).2 = m := ⟨_, rfl⟩
  rw [hts, hm] at HR0 h1
  rw [hm] at h2 h3 h4
  rw [hts] at h4 h5
  obtain ⟨d, hd⟩ : ∃ d, b.take m = d := ⟨_, rfl⟩
  rw [hd] at h1 h2 h4
  have hrd : Rd vB w A d := by rw [← hd]; exact hr.take m
  have HD := Lib.hid h2
  have HF := Lib.hid h4
  have HM := Lib.hid h5
  have HW0 := Lib.hid (fun W hW hK => whole_any d m A c W HD (hrd.keep hW) (by omega) (by omega) hK)
  have HR2 := Lib.hid (fun W hW hK => row18_any d m A c W HD (hrd.keep hW) (by omega) (by omega) hK)
  unfold Hid at HW0 HR2
  rw [h1] at HW0 HR2
  dsimp only at HW0 HR2
  rw [decide_eq_true rfl] at HW0
  replace HR0 := Lib.hid HR0
  replace HW0 := Lib.hid HW0
  replace HR2 := Lib.hid HR2
  have HRD := Lib.hid hrd
  have hcut : ∀ W, (Instr.slice 22 (.slice A n c) none (some (.int .i64 (m : Int))) none).run Tryd.prog W = .ok (.slice A m c) W := fun W => run_cut_to (P := Tryd.prog) 22 5 Tryd.underlying22 size_uint8 A n c m (by omega) W
  have i1 : ¬ (3000 : Int) < (n : Int) := by omega
  have i2 : ¬ (m : Int) < 0 := by omega
  have i3 : ¬ (n : Int) < (m : Int) := by omega
  clear hts hm hd hrd h1 h2 h4 h5 hr
  go_enter Tryd.func6, Tryd.ntmps6
  go_wp2_with fail
  refine (awake18_any w HK).mono ?_
  rintro e w1 ⟨rfl, hB1⟩
  go_wp2_with fail
  refine (HR0.out _ hB1 (Lib.hid (HK.out.keep hB1))).mono ?_
  rintro e w2 ⟨v2, rfl, htx2, hb2⟩
  have hB2 := below_step hB1 hb2
  obtain ⟨ps, ho2, hps, hpr⟩ := htx2
  obtain ⟨A2, c2, rfl, hc2, hr2⟩ := own_slice ho2
  obtain ⟨q, hq⟩ : ∃ q, ps.length = q := ⟨_, rfl⟩
  have HQ := Lib.hid hq
  rw [hq] at hc2 ⊢
  clear ho2 hq hB1 hb2
  go_wp2_with fail
  refine (HW0.out _ hB2 (Lib.hid (HK.out.keep hB2))).mono ?_
  rintro e w3 ⟨rfl, hb3⟩
  have hB3 := below_step hB2 hb3
  go_wp2_with fail
  refine (HR2.out _ hB3 (Lib.hid (HK.out.keep hB3))).mono ?_
  rintro e w4 ⟨v4, rfl, htx4, hb4⟩
  have hB4 := below_step hB3 hb4
  obtain ⟨qs, ho4, hqs, hqr⟩ := htx4
  obtain ⟨A4, c4, rfl, hc4, hr4⟩ := own_slice ho4
  have hql : qs.length = q := by have h6 := congrArg List.length hqs; have h7 := congrArg List.length hps; rw [List.length_map] at h6 h7; rw [h6, ← h7]; exact HQ.out
  have HQ4 := Lib.hid hql
  rw [hql] at hc4 ⊢
  replace hr2 := hr2.keep (below_step hb3 hb4)
  have hpr4 : ∀ p ∈ ps, Rd vB w4 p.A p.l := fun p hp => (hpr p hp).keep (below_step hb3 hb4)
  have HPS := Lib.hid hps
  have HQS := Lib.hid hqs
  have HPR := Lib.hid hpr4
  have HQR := Lib.hid hqr
  clear hps hqs hpr hpr4 hqr ho4 hql hB2 hB3 hb3 hb4
  have hqb : q ≤ 3000 := by
    have e1 := HF.out
    have e2 := congrArg List.length e1
    rw [HD.out] at e2
    have e3 : ∀ l : List (List UInt8), l.length ≤ (flatS fS l).length := fun l => by
      induction l with
      | nil => exact Nat.le_refl _
      | cons x l ih => rw [flatS_cons, List.length_append, List.length_cons, slip_length fS_length]; omega
    have e4 := e3 ts
    have e5 := congrArg List.length HPS.out
    rw [List.length_map, HQ.out] at e5
    omega
  clear h3
  go_wp2_with fail
  have HALL : Hid (flatS fS (ps.map (·.l)) = d) := by unfold Hid; rw [HPS.out]; exact HF.out
  have HMAY : Hid (∀ p ∈ ps, p.l.length ≤ 60000) := fun p hp => HM.out p.l (by rw [← HPS.out]; exact List.mem_map_of_mem hp)
  go_loopw [7, 8] (fun v i wr => PutsR ps w4 v i wr) (fun _ i _ => q - (intOf i).toNat)
  case atStart => exact ⟨0, [], Nat.zero_le _, rfl, rfl, World.ownsRow_nil _ _ _ _, Below.refl _ _⟩
  case round =>
    obtain ⟨k, T, hk, rfl, HT, hown, hbr⟩ := hrel
    rw [HQ.out] at hk
    by_cases hlt : k < q
    · have hltp : k < ps.length := by rw [HQ.out]; exact hlt
      obtain ⟨blk, o, rfl, hblk, hcell⟩ := hr2.at hltp
      have hc0 : wr.cell? ⟨blk, o + k, none⟩ = some (vPart ps[k]) := (hbr.cell (p := ⟨blk, o + k, none⟩) hblk).trans (hcell k hltp)
      have hpk := (HPR.out ps[k] (List.getElem_mem hltp)).keep hbr
      have hpm := HMAY.out ps[k] (List.getElem_mem hltp)
      have hst := flat_take_succ (f := fS) ps k hltp
      have hle := flat_take_le (f := fS) (ps.map (·.l)) (k + 1)
      rw [HALL.out, HD.out, ← List.map_take] at hle
      rw [← HT.out] at hst
      rw [hst, List.length_append] at hle
      generalize ps[k] = p at hc0 hpk hpm hst hle
      obtain ⟨pA, pc, pl⟩ := p
      unfold vPart at hc0
      dsimp only at hc0 hpk hpm hst hle
      have HST := Lib.hid hst
      have HPU := Lib.hid (put18_any pl pl.length pA pc wr rfl hpk hpm (Lib.hid (HK.out.keep (below_step hB4 hbr))))
      obtain ⟨X, hX⟩ : ∃ X, slipS fS pl = X := ⟨_, rfl⟩
      unfold Hid at HPU HST
      rw [hX] at HPU HST hle
      replace HPU := Lib.hid HPU
      replace HST := Lib.hid HST
      have j1 : (0 : Int) ≤ (k : Int) := by omega
      have j2 : (k : Int) < (q : Int) := by omega
      have hT3 : T.length + X.length ≤ 3000 := by omega
      clear hcell hst hX hpk hpm hle
      go_wp2_with fail
      refine HPU.out.mono ?_
      rintro e w5 ⟨v5, rfl, hown5, hb5⟩
      obtain ⟨A5, c5, rfl, hc5, hr5⟩ := own_slice hown5
      replace hown := ownsRow_later hown hb5
      have hbr5 := below_step hbr hb5
      have hz5 := hbr5.size
      clear hown5 hb5
      go_wp2_with (at_builtin; refine wpList_append_rd _ rfl (.tmp 59) (.tmp 60) 22 rfl w4.heap.size 5 i0 (.int .u8 0) 1 Tryd.underlying22 hi hz0 hz1 hz2 rfl _ _ _ rfl hown A5 X c5 rfl hr5 vB_one (by unfold maxLen; omega) (by omega) hz5 ?_; intro v6 w6 hown6 hgrow6)
      have hb6 := hbr5.grown hgrow6 hz5 (fun g hg => (hown.lt g hg).1)
      refine ⟨⟨k + 1, T ++ X, by rw [HQ.out]; omega, by go_num, HST.out.symm, ?_, hb6⟩, ?_⟩
      · rw [List.length_append, List.map_append]
        exact hown6
      · simp [intOf]
        omega
    · have hkq : k = q := by omega
      subst hkq
      have i4 : ¬ (k : Int) < (k : Int) := by omega
      have hTd : T = d := by rw [HT.out, ← HALL.out, List.take_of_length_le (by rw [HQ.out]; exact Nat.le_refl _)]
      subst hTd
      obtain ⟨A6, c6, rfl, hc6, hr6⟩ := own_slice hown
      have hB6 := below_step hB4 hbr
      have HSM := Lib.hid (fun W hW => refsame18_any ps qs k k A2 A4 c2 c4 W HQ HQ4 ((hr2.keep hbr).keep hW) ((hr4.keep hbr).keep hW) (fun p hp => ((HPR.out p hp).keep hbr).keep hW) (fun p hp => ((HQR.out p hp).keep hbr).keep hW) (by omega) (by omega))
      unfold Hid at HSM
      rw [HPS.out, HQS.out, decide_eq_true rfl] at HSM
      replace HSM := Lib.hid HSM
      have hs6 : ∀ W, Below wr.heap.size wr W → (convert 22 9 (.slice A6 T.length c6)).run Tryd.prog W = .ok (.string (strL T)) W := run_str_later Tryd.underlying22 Tryd.underlying5 Tryd.underlying9 hr6
      have hs7 : ∀ W, Below wr.heap.size wr W → (convert 22 9 (.slice A m c)).run Tryd.prog W = .ok (.string (strL T)) W := fun W hW => run_str W _ _ _ Tryd.underlying22 Tryd.underlying5 Tryd.underlying9 A T m c HD.out ((HRD.out.keep hB6).keep hW)
      have he := str_beq T T
      rw [decide_eq_true rfl] at he
      rw [HD.out] at hs6 ⊢
      generalize strL T = SA at hs6 hs7 he
      clear hown hr6 hr2 hr4
      go_wp2_with fail
      have hBase : Below wr.heap.size wr wr.drew := (Below.refl _ _).drew
      refine wp_region_plan (.step 0 false (.step 1 false (.step 2 true (.step 3 false (.step 4 false (.step 5 false (.step 6 false (.step 7 false (.step 8 false (.step 9 false (.step 10 false (.step 11 false (.step 12 false (.step 13 false (.step 14 false (.step 15 false (.step 16 false (.step 17 false (.nil))))))))))))))))))) (by kernel_rfl) (by kernel_rfl) (by rfl) (by kernel_rfl) ?_
      iterate 2 (refine plan_read rfl (by rfl) (v := ?_) ?_ ?_; rotate_left 1; (intro W hW; have hW0 := below_step hBase hW; (try dsimp only at hW); go_simp <;> with_reducible rfl); simp only [List.getElem_toArray, List.getElem_cons_zero, List.getElem_cons_succ, Act.put, List.setIfInBounds_toArray, List.set_cons_zero, List.set_cons_succ])
      (refine plan_make rfl (by rfl) (fun K hK => ?_); go_simp; (refine (HSM.out _ hBase).mono ?_; rintro e w7 ⟨rfl, hbx⟩); refine hK.out _ _ hbx ?_; clear hK K; replace hBase := below_step hBase hbx)
      iterate 15 (refine plan_read rfl (by rfl) (v := ?_) ?_ ?_; rotate_left 1; (intro W hW; have hW0 := below_step hBase hW; (try dsimp only at hW); go_simp <;> with_reducible rfl); simp only [List.getElem_toArray, List.getElem_cons_zero, List.getElem_cons_succ, Act.put, List.setIfInBounds_toArray, List.set_cons_zero, List.set_cons_succ])
      refine plan_done ?_
      clear hs6 hs7
      go_wp2_with fail
      go_ret
      exact ⟨rfl, below_step hB6 hBase⟩
end Go.Proofs.YtfalghmgibnjdaaDoor
/-
  The walk of the law SlipTorn: slips one behind the other are a row of their texts; cut anywhere it has just the texts whose slips are whole. Condition: the package's table holds the sixty-four constants.
-/
namespace Go.Proofs.YtfalghmgibnjdaaDoor
set_option maxRecDepth 100000
open Go.RowKit
set_option linter.unusedSimpArgs false
set_option linter.unusedVariables false

theorem torn_at {f : List UInt8 → List UInt8} (h4 : ∀ b, (f b).length = 4) (ts : List (List UInt8)) (hm : mayS ts) (many kk : Nat) (hmy : many ≤ ts.length) (h1 : (flatS f (ts.take many)).length ≤ kk) (h2 : many < ts.length → kk < (flatS f (ts.take (many + 1))).length) (hk : kk ≤ (flatS f ts).length) :
    rowSl f ((flatS f ts).take kk) = (ts.take many, (flatS f (ts.take many)).length) := by
  have hsp : flatS f ts = flatS f (ts.take many) ++ flatS f (ts.drop many) := by rw [← flatS_app, List.take_append_drop]
  have hma : mayS (ts.take many) := fun t ht => hm t (List.mem_of_mem_take ht)
  have e1 : (flatS f ts).take kk = flatS f (ts.take many) ++ (flatS f (ts.drop many)).take (kk - (flatS f (ts.take many)).length) := by
    rw [hsp, List.take_append, List.take_of_length_le h1]
  have e2 : rowSl f ((flatS f (ts.drop many)).take (kk - (flatS f (ts.take many)).length)) = ([], 0) := by
    by_cases hlt : many < ts.length
    · have hd : ts.drop many = ts[many] :: ts.drop (many + 1) := List.drop_eq_getElem_cons hlt
      have h3 := h2 hlt
      rw [List.take_succ_eq_append_getElem hlt, flatS_app, List.length_append] at h3
      have e3 : (flatS f [ts[many]]) = slipS f ts[many] := by
        rw [flatS_cons]
        show _ ++ [] = _
        rw [List.append_nil]
      rw [e3] at h3
      rw [hd, flatS_cons, List.take_append_of_le_length (by omega)]
      exact row_torn h4 _ _ (hm _ (List.getElem_mem hlt)) (by omega)
    · rw [List.drop_of_length_le (by omega)]
      show rowSl f (([] : List UInt8).take _) = _
      rw [List.take_nil]
      exact rowS_bad (by rfl)
  rw [e1, row_flat h4 _ _ hma, e2]
  simp

def vN18 (k : Nat) : Value := .int .i64 (k : Int)
theorem info_int18 : (Tryd.prog.info? 3).map (fun i => (i.zero, i.size, i.bytes)) = some (some (.int .i64 0), 1, 8) := by kernel_rfl
/-- How many bytes the first texts' slips have. -/
def endS [Inhabited Tab] (ps : List Part) (j : Nat) : Nat := (flatS fS ((ps.take j).map (·.l))).length
def endsL [Inhabited Tab] (ps : List Part) (k : Nat) : List Nat := (List.range k).map (fun j => endS ps (j + 1))
theorem endsL_succ [Inhabited Tab] (ps : List Part) (k : Nat) : endsL ps (k + 1) = endsL ps k ++ [endS ps (k + 1)] := by unfold endsL; rw [List.range_succ, List.map_append]; rfl
theorem endsL_length [Inhabited Tab] (ps : List Part) (k : Nat) : (endsL ps k).length = k := by unfold endsL; simp
theorem endsL_get [Inhabited Tab] (ps : List Part) (k j : Nat) (h : j < (endsL ps k).length) : (endsL ps k)[j] = endS ps (j + 1) := by
  have hk : j < k := by rw [endsL_length] at h; exact h
  have e : (endsL ps k)[j]? = some (endS ps (j + 1)) := by
    unfold endsL
    rw [List.getElem?_map, List.getElem?_range hk]
    rfl
  rw [List.getElem?_eq_getElem h] at e
  exact Option.some.inj e
def TornR (ps : List Part) (W0 : World) (a e i : Value) (wr : World) : Prop :=
  ∃ (k : Nat) (T : List UInt8), k ≤ ps.length ∧ i = .int .i64 (k : Int) ∧ Hid (T = flatS fS ((ps.take k).map (·.l))) ∧ T.length ≤ 306 * k ∧ Hid (∀ p ∈ ps.take k, p.l.length ≤ 300) ∧
    wr.ownsRow W0.heap.size 5 1 a T.length (T.map vB) ∧ wr.ownsRow W0.heap.size 3 1 e k ((endsL ps k).map vN18) ∧ (a.ownBlock = none ∨ a.ownBlock ≠ e.ownBlock) ∧ Below W0.heap.size W0 wr
/-- How far the cut has come. -/
theorem size_sl18 (w : World) : (sizeOf 22).run Tryd.prog w = .ok 1 w := by kernel_rfl
def CutR (ps : List Part) (kk : Nat) (m a : Value) : Prop := ∃ j : Nat, j ≤ ps.length ∧ m = .int .i64 (j : Int) ∧ a = .int .i64 (endS ps j : Int) ∧ endS ps j ≤ kk
theorem endS_zero [Inhabited Tab] (ps : List Part) : endS ps 0 = 0 := rfl

set_option maxRecDepth 100000 in
set_option maxHeartbeats 4000000 in
theorem sliptorn_core (ps : List Part) (q y : Nat) (A0 : Option Addr) (c0 : Nat) (w : World) (HQ : Hid (ps.length = q)) (hps : Rd vPart w A0 ps) (hp : ∀ p ∈ ps, Rd vB w p.A p.l) (hpl : ∀ p ∈ ps, p.l.length ≤ 9223372036854775807) (hc0 : q ≤ c0) (hq : q ≤ 12) (hy : y < 65536) (HK : Hid (KTab w)) :
    Calls Tryd.prog 5 #[.slice A0 q c0, .int .u16 (y : Int)] w fun e w' => e = .returned (.bool true) ∧ Below w.heap.size w w' := by
  obtain ⟨i0, hi, hz0, hz1, hz2⟩ := info_parts info_u8
  obtain ⟨j0, hj, gz0, gz1, gz2⟩ := info_parts info_int18
  have HP := Lib.hid hp
  have HPL := Lib.hid hpl
  have i1 : ¬ (12 : Int) < (q : Int) := by omega
  clear hp hpl
  go_enter Tryd.func5, Tryd.ntmps5
  go_wp2_with fail
  refine (awake18_any w HK).mono ?_
  rintro e w1 ⟨rfl, hB1⟩
  go_wp2_with fail
  have hps1 := hps.keep hB1
  go_loopw [5, 6, 7] (fun a e i wr => TornR ps w1 a e i wr) (fun _ _ i _ => q - (intOf i).toNat)
  case atStart => exact ⟨0, [], Nat.zero_le _, rfl, rfl, Nat.le_refl _, (fun p hp => by cases hp), World.ownsRow_nil _ _ _ _, World.ownsRow_nil _ _ _ _, .inl rfl, Below.refl _ _⟩
  case round =>
    obtain ⟨k, T, hk, rfl, HT, hTl, H3, hoa, hoe, hap, hbr⟩ := hrel
    rw [HQ.out] at hk
    by_cases hlt : k < q
    · have hltp : k < ps.length := by rw [HQ.out]; exact hlt
      obtain ⟨blk, o, rfl, hblk, hcell⟩ := hps1.at hltp
      have hcl : ∀ W, Below w1.heap.size w1 W → W.cell? ⟨blk, o + k, none⟩ = some (vPart ps[k]) := fun W hW => (hW.cell (p := ⟨blk, o + k, none⟩) hblk).trans (hcell k hltp)
      have hpk := (HP.out ps[k] (List.getElem_mem hltp)).keep (below_step hB1 hbr)
      have hpm := HPL.out ps[k] (List.getElem_mem hltp)
      have hst := flat_take_succ (f := fS) ps k hltp
      have htk := List.take_succ_eq_append_getElem hltp
      rw [← HT.out] at hst
      generalize ps[k] = p at hcl hpk hpm hst htk
      obtain ⟨pA, pc, pl⟩ := p
      unfold vPart at hcl
      dsimp only at hcl hpk hpm hst
      have hcw := hcl wr hbr
      have j1 : (0 : Int) ≤ (k : Int) := by omega
      have j2 : (k : Int) < (q : Int) := by omega
      by_cases h300 : pl.length ≤ 300
      · have j3 : ¬ (300 : Int) < (pl.length : Int) := by omega
        have hXl := slip_length fS_length pl
        obtain ⟨X, hX⟩ : ∃ X, slipS fS pl = X := ⟨_, rfl⟩
        have HPU := Lib.hid (put18_any pl pl.length pA pc wr rfl hpk (by omega) (Lib.hid (HK.out.keep (below_step hB1 hbr))))
        unfold Hid at HPU
        rw [hX] at HPU hXl hst
        replace HPU := Lib.hid HPU
        have HCL := Lib.hid hcl
        have HTS : Hid (flatS fS ((ps.take (k + 1)).map (·.l)) = T ++ X) := hst
        have HES : Hid (endS ps (k + 1) = T.length + X.length) := by unfold Hid endS; rw [hst, List.length_append]
        have H3S : Hid (∀ p ∈ ps.take (k + 1), p.l.length ≤ 300) := fun p hp => by
          rw [htk] at hp
          rcases List.mem_append.1 hp with hp | hp
          · exact H3.out p hp
          · rw [List.mem_singleton.1 hp]
            exact h300
        clear hcell hst hX hcl htk
        go_wp2_with fail
        refine HPU.out.mono ?_
        rintro e w2 ⟨v2, rfl, hown2, hb2⟩
        obtain ⟨A2, c2, rfl, hc2, hr2⟩ := own_slice hown2
        rw [hXl] at hc2 ⊢
        have hbr2 := below_step hbr hb2
        replace hoa := ownsRow_later hoa hb2
        replace hoe := ownsRow_later hoe hb2
        have hcw2 := HCL.out w2 hbr2
        have hsz2 := hbr2.size
        have j4 : (6 + (pl.length : Int)) = (pl.length : Int) + 6 := by omega
        clear hown2 hb2 hbr hcw hpk
        go_upto_region 16 with (at_builtin; refine wpList_append_apart _ rfl (.tmp 53) (.tmp 54) 22 rfl w1.heap.size 5 i0 (.int .u8 0) 1 Tryd.underlying22 hi hz0 hz1 hz2 rfl _ _ _ rfl hoa A2 X c2 (by rw [hXl]; rfl) hr2 vB_one (by rw [hXl]; unfold maxLen; omega) (by rw [hXl]; omega) hsz2 ?_; intro v3 w3 hoa3 hga3 hat3)
        obtain ⟨N, hN⟩ : ∃ N, T.length + X.length = N := ⟨_, rfl⟩
        rw [hN] at hoa3
        obtain ⟨A3, c3, rfl, hc3⟩ := own_form hoa3
        have hb3 := hbr2.grown hga3 hsz2 (fun g hk => (hoa.lt g hk).1)
        have hsz3 := hb3.size
        have hoe3 := hoe.kept hga3 (apart_symm hap)
        have hap1 := apart_grown (apart_symm hap) hoe hat3
        have HESN : Hid (endS ps (k + 1) = N) := by unfold Hid; rw [HES.out, hN]
        have hNb : N ≤ 306 * (k + 1) := by omega
        have HTX : Hid ((T ++ X).length = N) := by unfold Hid; rw [List.length_append, hN]
        clear hN hXl j4 hc2 hr2 hsz2 hcw2 HCL
        go_wp2_with (at_builtin; refine wpList_append_own_at _ rfl (.tmp 56) (.tmp 59) 36 rfl w1.heap.size 3 j0 (.int .i64 0) 1 8 Tryd.underlying36 hj gz0 gz1 gz2 rfl (by decide) _ _ _ rfl (hoe3.alloc _) ⟨w3.heap.size, 0, none⟩ 1 1 [.int .i64 (N : Int)] rfl rfl (cell_one18 _ _ _) (by intro u hu; simp at hu; subst hu; rfl) (by unfold maxLen; omega) (by omega) (by simp; omega) ?_; intro v5 w5 hoe5 hge5 _ hat5)
        have hoa5 := (hoa3.alloc (.cells #[.int .i64 (N : Int)] 3)).kept hge5 (apart_symm hap1)
        have hap5 := apart_grown (apart_symm hap1) (hoa3.alloc (.cells #[.int .i64 (N : Int)] 3)) hat5
        have hb5 := (below_new hb3 (.cells #[.int .i64 (N : Int)] 3)).grown hge5 (by simp; omega) (fun g hk => (hoe3.lt g hk).1)
        refine ⟨⟨k + 1, T ++ X, by rw [HQ.out]; omega, by go_num, HTS.out.symm, by rw [HTX.out]; exact hNb, H3S.out, ?_, ?_, hap5, hb5⟩, ?_⟩
        · rw [HTX.out, List.map_append]
          exact hoa5
        · rw [endsL_succ, List.map_append, HESN.out]
          exact hoe5
        · simp [intOf]
          omega
      · have j3 : (300 : Int) < (pl.length : Int) := by omega
        clear hcell hst hcl htk
        go_wp2_with fail
        go_ret
        exact ⟨rfl, below_step hB1 hbr⟩
    · have hkq : k = q := by omega
      subst hkq
      have i4 : ¬ (k : Int) < (k : Int) := by omega
      have htk : ps.take k = ps := List.take_of_length_le (by rw [HQ.out]; exact Nat.le_refl _)
      unfold Hid at HT H3
      rw [htk] at HT H3
      have HTA : Hid (T = flatS fS (ps.map (·.l))) := HT
      have HMAY : Hid (mayS (ps.map (·.l))) := fun t ht => by
        obtain ⟨p, hp, rfl⟩ := List.mem_map.1 ht
        have := H3 p hp
        omega
      have hra := row_all fS_length (ps.map (·.l)) HMAY.out
      rw [← HT] at hra
      obtain ⟨A3, c3, rfl, hc3, hr3⟩ := own_slice hoa
      obtain ⟨N, hN⟩ : ∃ N, T.length = N := ⟨_, rfl⟩
      rw [hN] at hra hc3 hTl ⊢
      have HTN := Lib.hid hN
      have HRA := Lib.hid hra
      have hoe' : wr.ownsRow w1.heap.size 3 1 u6 (endsL ps k).length ((endsL ps k).map vN18) := by rw [endsL_length]; exact hoe
      obtain ⟨A4, c4, rfl, hc4, hr4⟩ := own_slice hoe'
      rw [endsL_length] at hc4 ⊢
      have hpsr := hps1.keep hbr
      have hB := below_step hB1 hbr
      have HPW : Hid (∀ p ∈ ps, Rd vB wr p.A p.l) := fun p hp => (HP.out p hp).keep hB
      clear hoa hoe hoe' hap htk HT H3 hra hN hbr hps1 hps hB1
      go_wp2_with fail
      refine (row18_any T N A3 c3 _ HTN hr3 hc3 (by omega) (Lib.hid (HK.out.keep hB))).mono ?_
      rintro e w2 ⟨v2, rfl, htx, hb2⟩
      rw [HRA.out] at htx ⊢
      obtain ⟨qs, ho, hqs, hqr⟩ := htx
      have hql : qs.length = k := by have h6 := congrArg List.length hqs; rw [List.length_map, List.length_map, HQ.out] at h6; exact h6
      obtain ⟨A5, c5, rfl, hc5, hr5⟩ := own_slice ho
      have HQL := Lib.hid hql
      rw [hql] at hc5 ⊢
      replace hB := below_step hB hb2
      replace hr3 := hr3.keep hb2
      replace hr4 := hr4.keep hb2
      replace hpsr := hpsr.keep hb2
      replace HPW : Hid (∀ p ∈ ps, Rd vB w2 p.A p.l) := fun p hp => (HPW.out p hp).keep hb2
      have HSM := Lib.hid (refsame18_any qs ps k k A5 A0 c5 c0 w2 HQL HQ hr5 hpsr hqr HPW.out (by omega) (by omega))
      unfold Hid at HSM
      rw [hqs, decide_eq_true rfl] at HSM
      replace HSM := Lib.hid HSM
      have HWH := Lib.hid (fun W hW hK => whole_any T N A3 c3 W HTN (hr3.keep hW) hc3 (by omega) hK)
      unfold Hid at HWH
      rw [HRA.out] at HWH
      dsimp only at HWH
      rw [decide_eq_true rfl] at HWH
      replace HWH := Lib.hid HWH
      clear ho hqs hqr hql hr5 hb2
      go_wp2_with fail
      refine HSM.out.mono ?_
      rintro e w3 ⟨rfl, hb3⟩
      have hB3 := below_step hB hb3
      go_wp2_with fail
      refine (HWH.out _ hb3 (Lib.hid (HK.out.keep hB3))).mono ?_
      rintro e w4 ⟨rfl, hb4⟩
      replace hB := below_step hB3 hb4
      replace hr3 := (hr3.keep hb3).keep hb4
      replace hr4 := (hr4.keep hb3).keep hb4
      replace hpsr := (hpsr.keep hb3).keep hb4
      replace HPW : Hid (∀ p ∈ ps, Rd vB w4 p.A p.l) := fun p hp => ((HPW.out p hp).keep hb3).keep hb4
      obtain ⟨kk, hkk⟩ : ∃ kk, y % (N + 1) = kk := ⟨_, rfl⟩
      have hkN : kk ≤ N := by have := Nat.mod_lt y (show 0 < N + 1 by omega); omega
      have q1 : (y : Int) % ((N : Int) + 1) = (kk : Int) := by exact_mod_cast hkk
      have q2 : (y : Int).tmod ((N : Int) + 1) = (kk : Int) := by rw [Int.tmod_eq_emod_of_nonneg (by omega)]; exact q1
      have q3 : ¬ (N : Int) + 1 = 0 := by omega
      clear hb3 hb4 hB3 HWH HSM hkk
      go_wp2_with fail
      clear q1 q2 q3
      go_loop [13, 14] (fun m a => CutR ps kk m a) (fun m _ => k - (intOf m).toNat)
      case atStart => exact ⟨0, Nat.zero_le _, rfl, rfl, by rw [endS_zero]; exact Nat.zero_le _⟩
      case round =>
        obtain ⟨j, hjk, rfl, rfl, hE0⟩ := hrel
        rw [HQ.out] at hjk
        obtain ⟨E0, he0⟩ : ∃ E0, endS ps j = E0 := ⟨_, rfl⟩
        rw [he0] at hE0 ⊢
        have HE0 : Hid ((flatS fS ((ps.take j).map (·.l))).length = E0) := he0
        have HENDS : Hid ((flatS fS ((ps.take j).map (·.l))).length ≤ kk) := by unfold Hid; rw [HE0.out]; exact hE0
        have j1 : (0 : Int) ≤ (j : Int) := by omega
        by_cases hjq : j < k
        · obtain ⟨ge, oe, rfl, hge, hce⟩ := hr4.at (k := j) (by rw [endsL_length]; exact hjq)
          have hc0' := hce j (by rw [endsL_length]; exact hjq)
          rw [endsL_get] at hc0'
          unfold vN18 at hc0'
          have j2 : (j : Int) < (k : Int) := by omega
          obtain ⟨E1, he1⟩ : ∃ E1, endS ps (j + 1) = E1 := ⟨_, rfl⟩
          rw [he1] at hc0'
          have HE1 := Lib.hid he1
          by_cases hle : E1 ≤ kk
          · have j3 : (E1 : Int) ≤ (kk : Int) := by omega
            have HCR : Hid (CutR ps kk (.int .i64 ((j : Int) + 1)) (.int .i64 (E1 : Int))) := ⟨j + 1, by rw [HQ.out]; omega, by go_num, by rw [HE1.out], by rw [HE1.out]; exact hle⟩
            clear hce he1 he0
            go_wp2_with fail
            go_round
            case rel => exact HCR.out
            case measure => simp [intOf]; omega
          · have j3 : ¬ (E1 : Int) ≤ (kk : Int) := by omega
            have HENDB : Hid (j < ps.length → kk < (flatS fS ((ps.take (j + 1)).map (·.l))).length) := fun _ => by
              show kk < endS ps (j + 1)
              rw [HE1.out]
              omega
            clear hce he1 he0
            have HRW : Hid (rowSl fS (T.take kk) = ((ps.take j).map (·.l), E0)) := by
              have h1 := torn_at fS_length (ps.map (·.l)) HMAY.out j kk (by rw [List.length_map, HQ.out]; exact hjk) (by rw [← List.map_take]; exact HENDS.out) (fun hlt => by rw [← List.map_take]; exact HENDB.out (by rw [List.length_map] at hlt; exact hlt)) (by rw [← HTA.out, HTN.out]; exact hkN)
              rw [← HTA.out, ← List.map_take] at h1
              unfold Hid
              rw [← HE0.out]
              exact h1
            have HKL : Hid ((T.take kk).length = kk) := by unfold Hid; rw [List.length_take, HTN.out]; omega
            have HJL : Hid ((ps.take j).length = j) := by unfold Hid; rw [List.length_take, HQ.out]; omega
            have hrk := hr3.take kk
            have hpj := hpsr.take j
            have HRK := Lib.hid (fun W hW hK => row18_any (T.take kk) kk A3 c3 W HKL (hrk.keep hW) (by omega) (by omega) hK)
            unfold Hid at HRK
            rw [HRW.out] at HRK
            replace HRK := Lib.hid HRK
            clear hr4 hpsr hr3
            go_wp2_with fail
            refine (HRK.out _ (Below.refl _ _) (Lib.hid (HK.out.keep hB))).mono ?_
            rintro e w4 ⟨v6, rfl, htx6, hb6⟩
            have hB6 := below_step hB hb6
            obtain ⟨rs, ho6, hrs, hrr⟩ := htx6
            have hrl : rs.length = j := by have h6 := congrArg List.length hrs; rw [List.length_map, List.length_map, HJL.out] at h6; exact h6
            obtain ⟨A6, c6, rfl, hc6, hr6⟩ := own_slice ho6
            rw [hrl] at hc6 ⊢
            have HRL := Lib.hid hrl
            have HSM := Lib.hid (refsame18_any rs (ps.take j) j j A6 A0 c6 c0 w4 HRL HJL hr6 (hpj.keep hb6) hrr (fun p hp => (HPW.out p (List.mem_of_mem_take hp)).keep hb6) (by omega) (by omega))
            unfold Hid at HSM
            rw [hrs, decide_eq_true rfl] at HSM
            replace HSM := Lib.hid HSM
            clear ho6 hrs hrr hrl hr6 hpj
            have hcutl : ∀ W, (Instr.slice 27 (.slice A0 k c0) none (some (.int .i64 (j : Int))) none).run Tryd.prog W = .ok (.slice A0 j c0) W := fun W => run_cut_to (P := Tryd.prog) 27 22 Tryd.underlying27 size_sl18 A0 k c0 j (by omega) W
            go_wp2_with fail
            refine HSM.out.mono ?_
            rintro e w5 ⟨rfl, hb7⟩
            have hB7 := below_step hB6 hb7
            go_wp2_with fail
            go_ret
            exact ⟨rfl, hB7⟩
        · have j2 : ¬ (j : Int) < (k : Int) := by omega
          have HENDB : Hid (j < ps.length → kk < (flatS fS ((ps.take (j + 1)).map (·.l))).length) := fun h => by
            rw [HQ.out] at h
            omega
          clear he0
          have HRW : Hid (rowSl fS (T.take kk) = ((ps.take j).map (·.l), E0)) := by
            have h1 := torn_at fS_length (ps.map (·.l)) HMAY.out j kk (by rw [List.length_map, HQ.out]; exact hjk) (by rw [← List.map_take]; exact HENDS.out) (fun hlt => by rw [← List.map_take]; exact HENDB.out (by rw [List.length_map] at hlt; exact hlt)) (by rw [← HTA.out, HTN.out]; exact hkN)
            rw [← HTA.out, ← List.map_take] at h1
            unfold Hid
            rw [← HE0.out]
            exact h1
          have HKL : Hid ((T.take kk).length = kk) := by unfold Hid; rw [List.length_take, HTN.out]; omega
          have HJL : Hid ((ps.take j).length = j) := by unfold Hid; rw [List.length_take, HQ.out]; omega
          have hrk := hr3.take kk
          have hpj := hpsr.take j
          have HRK := Lib.hid (fun W hW hK => row18_any (T.take kk) kk A3 c3 W HKL (hrk.keep hW) (by omega) (by omega) hK)
          unfold Hid at HRK
          rw [HRW.out] at HRK
          replace HRK := Lib.hid HRK
          clear hr4 hpsr hr3
          go_wp2_with fail
          refine (HRK.out _ (Below.refl _ _) (Lib.hid (HK.out.keep hB))).mono ?_
          rintro e w4 ⟨v6, rfl, htx6, hb6⟩
          have hB6 := below_step hB hb6
          obtain ⟨rs, ho6, hrs, hrr⟩ := htx6
          have hrl : rs.length = j := by have h6 := congrArg List.length hrs; rw [List.length_map, List.length_map, HJL.out] at h6; exact h6
          obtain ⟨A6, c6, rfl, hc6, hr6⟩ := own_slice ho6
          rw [hrl] at hc6 ⊢
          have HRL := Lib.hid hrl
          have HSM := Lib.hid (refsame18_any rs (ps.take j) j j A6 A0 c6 c0 w4 HRL HJL hr6 (hpj.keep hb6) hrr (fun p hp => (HPW.out p (List.mem_of_mem_take hp)).keep hb6) (by omega) (by omega))
          unfold Hid at HSM
          rw [hrs, decide_eq_true rfl] at HSM
          replace HSM := Lib.hid HSM
          clear ho6 hrs hrr hrl hr6 hpj
          have hcutl : ∀ W, (Instr.slice 27 (.slice A0 k c0) none (some (.int .i64 (j : Int))) none).run Tryd.prog W = .ok (.slice A0 j c0) W := fun W => run_cut_to (P := Tryd.prog) 27 22 Tryd.underlying27 size_sl18 A0 k c0 j (by omega) W
          go_wp2_with fail
          refine HSM.out.mono ?_
          rintro e w5 ⟨rfl, hb7⟩
          have hB7 := below_step hB6 hb7
          go_wp2_with fail
          go_ret
          exact ⟨rfl, hB7⟩
end Go.Proofs.YtfalghmgibnjdaaDoor
/-
  What comes in, opened by its type's shape (no program is named here): numbers, slices of whatever, arrays, structs. No conditions but those typed.
-/
namespace Go.Proofs.YtfalghmgibnjdaaDoor
set_option maxRecDepth 100000
open Go.RowKit Go.Deep Go.WideShapes Go.ChangeShapes

/-- Cells of type t that can be read as data are a reading R of something. -/
def Opens (P : Program) (t : TypeId) {α : Type} (R : World → List Value → α → Prop) : Prop :=
  ∀ {H : Type} (enc : TypeId × Value → H) (w : World) (base : Nat) (spare : Nat → Bool) (held : Bool) (fuel : Nat) (cs : List Value) (x : DataW H × List MemPlace), DataW.trod enc P w base spare held fuel t cs = some x → ∃ a : α, R w cs a

def RByte : World → List Value → UInt8 → Prop := fun _ cs c => cs = [vB c]
def RWord : World → List Value → UInt32 → Prop := fun _ cs c => cs = [vW c]
def RNum : World → List Value → Nat → Prop := fun _ cs v => cs = [.int .u64 (v : Int)] ∧ v < 18446744073709551616
def RInt : World → List Value → Int → Prop := fun _ cs n => cs = [.int .i64 n] ∧ -9223372036854775808 ≤ n ∧ n ≤ 9223372036854775807
def RBool : World → List Value → Bool → Prop := fun _ cs b => cs = [.bool b]

section
variable {P : Program} {t e : TypeId}
theorem opens_byte (ht : P.underlying t = some (.int .u8)) : Opens P t RByte := fun enc w base spare held fuel cs x h => by
  obtain ⟨n, rfl, _, hw⟩ := DataW.trod_int ht h
  simp [Lit.wf, IntKind.min, IntKind.max, IntKind.signed, IntKind.bits] at hw
  refine ⟨UInt8.ofNat n.toNat, ?_⟩
  unfold RByte vB
  rw [UInt8.toNat_ofNat']
  congr 2
  omega
theorem opens_word (ht : P.underlying t = some (.int .u32)) : Opens P t RWord := fun enc w base spare held fuel cs x h => by
  obtain ⟨n, rfl, _, hw⟩ := DataW.trod_int ht h
  simp [Lit.wf, IntKind.min, IntKind.max, IntKind.signed, IntKind.bits] at hw
  refine ⟨UInt32.ofNat n.toNat, ?_⟩
  unfold RWord vW
  rw [UInt32.toNat_ofNat']
  congr 2
  omega
theorem opens_num (ht : P.underlying t = some (.int .u64)) : Opens P t RNum := fun enc w base spare held fuel cs x h => by
  obtain ⟨n, rfl, _, hw⟩ := DataW.trod_int ht h
  obtain ⟨v, hv, rfl⟩ := u64_of_wf hw
  exact ⟨v, rfl, hv⟩
theorem opens_int (ht : P.underlying t = some (.int .i64)) : Opens P t RInt := fun enc w base spare held fuel cs x h => by
  obtain ⟨n, rfl, _, hw⟩ := DataW.trod_int ht h
  exact ⟨n, rfl, i64_of_wf hw⟩

/-- A slice: its elements, of m cells each, lie one behind the other. -/
def RSlice (m : Nat) {α : Type} (R : World → List Value → α → Prop) : World → List Value → List α → Prop := fun w cs l =>
  ∃ (A : Option Addr) (cap : Nat), cs = [.slice A l.length cap] ∧ l.length ≤ cap ∧ cap ≤ 9223372036854775807 ∧
    (l ≠ [] → ∃ b o, A = some ⟨b, o, none⟩ ∧ ∀ i (h : i < l.length), ∃ ecs : List Value, ecs.length = m ∧ (∀ j (hj : j < ecs.length), w.cell? ⟨b, o + i * m + j, none⟩ = some ecs[j]) ∧ R w ecs l[i])

theorem cells_at {w : World} {base : Nat} {a : Addr} {n : Nat} {cs : List Value} (h : w.cells? base a n = some cs) : cs.length = n ∧ ∀ j (hj : j < cs.length), w.cell? (a.add j) = some cs[j] := by
  obtain ⟨_, hl, hc⟩ := World.cells?_some h
  refine ⟨hl, fun j hj => ?_⟩
  have := hc j (by omega)
  rw [this]
  exact List.getElem?_eq_getElem hj

theorem choose_list {α : Type} (n : Nat) (p : Nat → α → Prop) (h : ∀ i, i < n → ∃ a, p i a) : ∃ l : List α, l.length = n ∧ ∀ i (hi : i < l.length), p i l[i] := by
  induction n with
  | zero => exact ⟨[], rfl, fun i hi => by simp at hi⟩
  | succ n ih =>
    obtain ⟨l, hl, hp⟩ := ih (fun i hi => h i (by omega))
    obtain ⟨a, ha⟩ := h n (by omega)
    refine ⟨l ++ [a], by simp [hl], fun i hi => ?_⟩
    by_cases hin : i < l.length
    · rw [List.getElem_append_left hin]; exact hp i hin
    · have : i = n := by simp at hi; omega
      subst this
      rw [List.getElem_append_right (by omega)]
      simpa [hl] using ha

theorem opens_slice {α : Type} {R : World → List Value → α → Prop} {m : Nat} (ht : P.underlying t = some (.slice e)) (hc : P.cellsOf e = m) (hm : 0 < m) (he : Opens P e R) : Opens P t (RSlice m R) := fun enc w base spare held fuel cs x h => by
  rcases open_slice ht h with ⟨rfl, _⟩ | ⟨a, len, cap, mm, n, D, Pl, rfl, hb, hl, hcap, hmm, rfl, hx⟩
  · exact ⟨[], none, 0, rfl, Nat.le_refl _, by omega, fun h => absurd rfl h⟩
  · have hlm : len ≤ mm := by rw [hmm]; split <;> omega
    unfold maxLen at hcap
    obtain ⟨l, hll, hp⟩ := choose_list len (fun i (y : α) => ∃ ecs : List Value, ecs.length = m ∧ (∀ j (hj : j < ecs.length), w.cell? ((a.add (i * m)).add j) = some ecs[j]) ∧ R w ecs y) (fun i hi => by
      obtain ⟨ecs, h1, h2⟩ := hx i (by omega)
      rw [hc] at h1
      obtain ⟨h3, h4⟩ := cells_at h1
      obtain ⟨y, hy⟩ := he enc w base spare held n ecs _ h2
      exact ⟨y, ecs, h3, h4, hy⟩)
    refine ⟨l, some a, cap, by rw [hll], by omega, by omega, fun hn => ?_⟩
    have h0 : 0 < l.length := by
      rcases Nat.eq_zero_or_pos l.length with h | h
      · exact absurd (List.eq_nil_of_length_eq_zero h) hn
      · exact h
    obtain ⟨b, o, spot⟩ := a
    obtain ⟨ecs, h3, h4, _⟩ := hp 0 h0
    have hc0 := h4 0 (by omega)
    have hspot : spot = none := by simpa [Addr.add] using World.cell?_spot hc0
    subst hspot
    have hadd : ∀ i j, ((⟨b, o, none⟩ : Addr).add i).add j = ⟨b, o + i + j, none⟩ := fun i j => by unfold Addr.add; split <;> split <;> simp_all
    refine ⟨b, o, rfl, fun i hi => ?_⟩
    obtain ⟨ecs, h3, h4, h5⟩ := hp i hi
    exact ⟨ecs, h3, fun j hj => by rw [← hadd]; exact h4 j hj, h5⟩

/-- An array: its elements' cells one behind the other (elements of one cell). -/
def RArr (n : Nat) {α : Type} (R : World → List Value → α → Prop) : World → List Value → List α → Prop := fun w cs l => l.length = n ∧ cs.length = n ∧ ∀ i (h : i < l.length), R w ((cs.drop i).take 1) l[i]
theorem opens_arr {α : Type} {R : World → List Value → α → Prop} {n : Nat} (ht : P.underlying t = some (.array n e)) (hc : P.cellsOf e = 1) (hn : P.cellsOf t = n) (he : Opens P e R) : Opens P t (RArr n R) := fun enc w base spare held fuel cs x h => by
  obtain ⟨xs, m, _, _, hl, hxl, hx⟩ := DataW.trod_array ht h
  obtain ⟨l, hll, hp⟩ := choose_list n (fun i (y : α) => R w ((cs.drop i).take 1) y) (fun i hi => by
    have := hx i hi
    rw [hc, Nat.mul_one, List.getElem?_eq_getElem (by omega)] at this
    exact he enc w base spare held m _ _ this)
  exact ⟨l, hll, by omega, hp⟩

/-- Structs of two to four fields: each field's cells. -/
def RTwo (a0 n0 a1 n1 : Nat) {α β : Type} (R : World → List Value → α → Prop) (S : World → List Value → β → Prop) : World → List Value → α × β → Prop := fun w cs x => cs.length = n0 + n1 ∧ R w ((cs.drop a0).take n0) x.1 ∧ S w ((cs.drop a1).take n1) x.2
def RThree (a0 n0 a1 n1 a2 n2 : Nat) {α β γ : Type} (R : World → List Value → α → Prop) (S : World → List Value → β → Prop) (T : World → List Value → γ → Prop) : World → List Value → α × β × γ → Prop := fun w cs x => cs.length = n0 + n1 + n2 ∧ R w ((cs.drop a0).take n0) x.1 ∧ S w ((cs.drop a1).take n1) x.2.1 ∧ T w ((cs.drop a2).take n2) x.2.2
theorem opens_two {α β : Type} {R : World → List Value → α → Prop} {S : World → List Value → β → Prop} {f0 f1 : Field} {a0 n0 a1 n1 : Nat} (ht : P.underlying t = some (.struct #[f0, f1])) (e0 : f0.offset = a0) (e1 : f1.offset = a1) (c0 : P.cellsOf f0.type = n0) (c1 : P.cellsOf f1.type = n1) (hn : P.cellsOf t = n0 + n1)
    (h0 : Opens P f0.type R) (h1 : Opens P f1.type S) : Opens P t (RTwo a0 n0 a1 n1 R S) := fun enc w base spare held fuel cs x h => by
  obtain ⟨xs, n, _, _, hl, hxl, hx⟩ := DataW.trod_struct ht h
  have k0 := hx 0 f0 rfl
  have k1 := hx 1 f1 rfl
  simp only [List.size_toArray, List.length_cons, List.length_nil, Nat.zero_add, Nat.reduceAdd] at hxl
  rw [List.getElem?_eq_getElem (by omega), e0, c0] at k0
  rw [List.getElem?_eq_getElem (by omega), e1, c1] at k1
  obtain ⟨x0, r0⟩ := h0 enc w base spare held n _ _ k0
  obtain ⟨x1, r1⟩ := h1 enc w base spare held n _ _ k1
  exact ⟨(x0, x1), by omega, r0, r1⟩
theorem opens_three {α β γ : Type} {R : World → List Value → α → Prop} {S : World → List Value → β → Prop} {T : World → List Value → γ → Prop} {f0 f1 f2 : Field} {a0 n0 a1 n1 a2 n2 : Nat} (ht : P.underlying t = some (.struct #[f0, f1, f2])) (e0 : f0.offset = a0) (e1 : f1.offset = a1) (e2 : f2.offset = a2)
    (c0 : P.cellsOf f0.type = n0) (c1 : P.cellsOf f1.type = n1) (c2 : P.cellsOf f2.type = n2) (hn : P.cellsOf t = n0 + n1 + n2) (h0 : Opens P f0.type R) (h1 : Opens P f1.type S) (h2 : Opens P f2.type T) : Opens P t (RThree a0 n0 a1 n1 a2 n2 R S T) := fun enc w base spare held fuel cs x h => by
  obtain ⟨xs, n, _, _, hl, hxl, hx⟩ := DataW.trod_struct ht h
  have k0 := hx 0 f0 rfl
  have k1 := hx 1 f1 rfl
  have k2 := hx 2 f2 rfl
  simp only [List.size_toArray, List.length_cons, List.length_nil, Nat.zero_add, Nat.reduceAdd] at hxl
  rw [List.getElem?_eq_getElem (by omega), e0, c0] at k0
  rw [List.getElem?_eq_getElem (by omega), e1, c1] at k1
  rw [List.getElem?_eq_getElem (by omega), e2, c2] at k2
  obtain ⟨x0, r0⟩ := h0 enc w base spare held n _ _ k0
  obtain ⟨x1, r1⟩ := h1 enc w base spare held n _ _ k1
  obtain ⟨x2, r2⟩ := h2 enc w base spare held n _ _ k2
  exact ⟨(x0, x1, x2), by omega, r0, r1, r2⟩
end

/-! ### Back to the words that the walks go by -/
theorem rd_of_rslice {α : Type} {f : α → Value} {R : World → List Value → α → Prop} {w : World} {cs : List Value} {l : List α} (hR : ∀ ecs x, R w ecs x → ecs = [f x]) (h : RSlice 1 R w cs l) : ∃ A cap, cs = [.slice A l.length cap] ∧ l.length ≤ cap ∧ cap ≤ 9223372036854775807 ∧ Rd f w A l := by
  obtain ⟨A, cap, e, h1, h2, h3⟩ := h
  refine ⟨A, cap, e, h1, h2, fun hn => ?_⟩
  obtain ⟨b, o, rfl, hc⟩ := h3 hn
  refine ⟨b, o, rfl, fun i hi => ?_⟩
  obtain ⟨ecs, _, h5, h6⟩ := hc i hi
  have := hR _ _ h6
  subst this
  have := h5 0 (by simp)
  simpa using this
theorem bytes_of_r {w : World} {cs : List Value} {l : List UInt8} (h : RSlice 1 RByte w cs l) : ∃ A cap, cs = [.slice A l.length cap] ∧ l.length ≤ cap ∧ cap ≤ 9223372036854775807 ∧ Rd vB w A l := rd_of_rslice (fun _ _ h => h) h
theorem words_of_r {w : World} {cs : List Value} {l : List UInt32} (h : RSlice 1 RWord w cs l) : ∃ A cap, cs = [.slice A l.length cap] ∧ l.length ≤ cap ∧ cap ≤ 9223372036854775807 ∧ Rd vW w A l := rd_of_rslice (fun _ _ h => h) h
theorem arr_words {n : Nat} {w : World} {cs : List Value} {l : List UInt32} (h : RArr n RWord w cs l) : cs = l.map vW ∧ l.length = n := by
  obtain ⟨h1, h2, h3⟩ := h
  refine ⟨?_, h1⟩
  apply List.ext_getElem
  · simp; omega
  · intro i hi hi'
    have := h3 i (by omega)
    unfold RWord at this
    have h4 := congrArg (fun l => l[0]?) this
    simp only [List.getElem?_take, List.getElem?_drop, Nat.add_zero, List.getElem?_eq_getElem hi, Nat.zero_lt_one, if_true, List.getElem?_cons_zero, Option.some.injEq] at h4
    rw [h4]
    simp

/-! ### A value and its cells -/
theorem okWide_arr {P : Program} {w : World} {r : Reach} {base n : Nat} {t e : TypeId} {v : Value} (ht : P.underlying t = some (.array n e)) (h : Value.okWide P w r base t v) : ∃ cs, v = .agg cs ∧ cs.size = P.cellsOf t := by
  simp only [Value.okWide, ht] at h
  obtain ⟨cs, h1, h2, _⟩ := h
  exact ⟨cs, h1, h2⟩

end Go.Proofs.YtfalghmgibnjdaaDoor
/-
  A parameter that is a slice of bytes, opened. No conditions.
-/
namespace Go.Proofs.YtfalghmgibnjdaaDoor
set_option maxRecDepth 100000
open Go.RowKit Go.WideShapes
set_option linter.unusedSimpArgs false
set_option linter.unusedVariables false

theorem opens_bytes : Opens Tryd.prog 22 (RSlice 1 RByte) := opens_slice Tryd.underlying22 (by kernel_rfl) (by omega) (opens_byte Tryd.underlying5)
section
variable {H : Type} {enc : TypeId × Value → H} {W : World} {base b1 : Nat} {spare : Nat → Bool} {held : Bool} {r : Reach} {v : Value} {d : DataW H} {p : List MemPlace}
theorem open_bytes (hv : Value.okWide Tryd.prog W r base 22 v) (ht : DataW.Trod enc Tryd.prog W b1 spare held 22 v d p) : ∃ (l : List UInt8) (A : Option Addr) (cap : Nat), v = .slice A l.length cap ∧ l.length ≤ cap ∧ cap ≤ 9223372036854775807 ∧ Rd vB W A l := by
  obtain ⟨a, len, cap, rfl⟩ := okWide_slice Tryd.underlying22 hv
  obtain ⟨fuel, hf⟩ := ht
  obtain ⟨l, hl⟩ := opens_bytes enc W _ _ _ _ _ _ hf
  obtain ⟨A, c, e, h1, h2, h3⟩ := bytes_of_r hl
  simp [Value.cells] at e
  obtain ⟨rfl, rfl, rfl⟩ := e
  exact ⟨l, _, _, rfl, h1, h2, h3⟩
end
end Go.Proofs.YtfalghmgibnjdaaDoor
/-
  A parameter that is a list of slices of bytes, opened. No conditions.
-/
namespace Go.Proofs.YtfalghmgibnjdaaDoor
set_option maxRecDepth 100000
open Go.RowKit Go.WideShapes
set_option linter.unusedSimpArgs false
set_option linter.unusedVariables false

theorem opens_lists : Opens Tryd.prog 27 (RSlice 1 (RSlice 1 RByte)) := opens_slice Tryd.underlying27 (by kernel_rfl) (by omega) opens_bytes
theorem parts_of_r {w : World} {cs : List Value} {ls : List (List UInt8)} (h : RSlice 1 (RSlice 1 RByte) w cs ls) : ∃ (ps : List Part) (A : Option Addr) (cap : Nat), cs = [.slice A ps.length cap] ∧ ps.length ≤ cap ∧ cap ≤ 9223372036854775807 ∧ Rd vPart w A ps ∧ (∀ p ∈ ps, Rd vB w p.A p.l) ∧ ∀ p ∈ ps, p.l.length ≤ 9223372036854775807 := by
  obtain ⟨A, cap, e, h1, h2, h3⟩ := h
  by_cases hn : ls = []
  · subst hn
    exact ⟨[], A, cap, e, h1, h2, Rd.nil, by simp, by simp⟩
  · obtain ⟨b, o, rfl, hc⟩ := h3 hn
    obtain ⟨ps, hl, hp⟩ := choose_list ls.length (fun i p => w.cell? ⟨b, o + i, none⟩ = some (vPart p) ∧ Rd vB w p.A p.l ∧ p.l.length ≤ 9223372036854775807) (fun i hi => by
      obtain ⟨ecs, h4, h5, h6⟩ := hc i hi
      obtain ⟨A1, c1, e1, h7, h8, h9⟩ := bytes_of_r h6
      subst e1
      have := h5 0 (by simp)
      exact ⟨⟨A1, c1, ls[i]⟩, by simpa [vPart] using this, h9, by show ls[i].length ≤ _; omega⟩)
    refine ⟨ps, some ⟨b, o, none⟩, cap, by rw [hl]; exact e, by omega, h2, fun _ => ⟨b, o, rfl, fun i hi => (hp i hi).1⟩, fun p hpm => ?_, fun p hpm => ?_⟩
    · obtain ⟨i, hi, rfl⟩ := List.getElem_of_mem hpm
      exact (hp i hi).2.1
    · obtain ⟨i, hi, rfl⟩ := List.getElem_of_mem hpm
      exact (hp i hi).2.2

theorem open_lists {H : Type} {enc : TypeId × Value → H} {W : World} {base b1 : Nat} {spare : Nat → Bool} {held : Bool} {r : Reach} {v : Value} {d : DataW H} {p : List MemPlace} (hv : Value.okWide Tryd.prog W r base 27 v) (ht : DataW.Trod enc Tryd.prog W b1 spare held 27 v d p) :
    ∃ (ps : List Part) (A : Option Addr) (cap : Nat), v = .slice A ps.length cap ∧ ps.length ≤ cap ∧ cap ≤ 9223372036854775807 ∧ Rd vPart W A ps ∧ (∀ p ∈ ps, Rd vB W p.A p.l) ∧ ∀ p ∈ ps, p.l.length ≤ 9223372036854775807 := by
  obtain ⟨a, len, cap, rfl⟩ := okWide_slice Tryd.underlying27 hv
  obtain ⟨fuel, hf⟩ := ht
  obtain ⟨l, hl⟩ := opens_lists enc W _ _ _ _ _ _ hf
  obtain ⟨ps, A, c, e, h⟩ := parts_of_r hl
  simp [Value.cells] at e
  obtain ⟨rfl, rfl, rfl⟩ := e
  exact ⟨ps, _, _, rfl, h⟩

end Go.Proofs.YtfalghmgibnjdaaDoor
/-
  What the rows' condition on package-level variables gives the walks: the table of sixty-four constants. Condition: the table reads as the rows list it.
-/
namespace Go.Proofs.YtfalghmgibnjdaaDoor
set_option maxRecDepth 100000
open Go.RowKit

theorem ktab_of_laid {W : World} (h : laidMetH Tryd.prog [("wristband/sha.constants", Rows.laid_wristband_sha_constants)] W) : KTab W := by
  rw [MakeChecks.laidMetH_plain _ _ _ (by kernel_rfl)] at h
  have e : (Rows.laid_wristband_sha_constants : DataW Unit) = Lib.tabData .u32 (kL.map fun x => (x.toNat : Int)) := by kernel_rfl
  rw [e] at h
  have hT := Lib.tabIs_of_head (P := Tryd.prog) (g := 0) (t := 63) (e := 50) (n := 64) (by kernel_rfl) (by kernel_rfl) Tryd.underlying63 Tryd.underlying50 (by kernel_rfl) (by kernel_rfl) h
  intro i hi
  have h64 : kL.length = 64 := rfl
  have := hT.cell (g := 0) (by kernel_rfl) i (by simp [h64, hi])
  show _ = some (Value.int .u32 ((kL.getD i 0).toNat : Int))
  rw [this]
  simp [List.getD, h64, hi]
end Go.Proofs.YtfalghmgibnjdaaDoor
/-
  The laws SlipRight, SlipLong, SlipTorn and SlipRow, at whatever comes in: each answers true, and writes nothing that was there. Condition: the package's table holds the sixty-four constants, as the rows list it.
-/
namespace Go.Proofs.YtfalghmgibnjdaaDoor
set_option maxRecDepth 100000
open Go.RowKit Go.WideShapes
set_option linter.unusedSimpArgs false
set_option linter.unusedVariables false

section
variable {H : Type} {enc : TypeId × Value → H} {W : World} {base b1 : Nat} {spare : Nat → Bool} {held : Bool} {r : Reach} {v : Value} {d : DataW H} {p : List MemPlace}
theorem open_u16s (hv : Value.okWide Tryd.prog W r base 34 v) (ht : DataW.Trod enc Tryd.prog W b1 spare held 34 v d p) : ∃ y : Nat, v = .int .u16 (y : Int) ∧ y < 65536 := by
  obtain ⟨n, rfl⟩ := okWide_int Tryd.underlying34 hv
  obtain ⟨fuel, hf⟩ := ht
  obtain ⟨m, e, _, hw⟩ := DataW.trod_int Tryd.underlying34 hf
  simp [Value.cells] at e
  simp [Lit.wf, IntKind.min, IntKind.max, IntKind.signed, IntKind.bits] at hw
  exact ⟨n.toNat, by congr 1; omega, by omega⟩
end

theorem slipright_big (n m : Nat) (A B : Option Addr) (c d : Nat) (w : World) (h : ¬ (n ≤ 3000 ∧ m ≤ 3000)) (hn : n ≤ 9223372036854775807) (hm : m ≤ 9223372036854775807) (HK : Hid (KTab w)) :
    Calls Tryd.prog 3 #[.slice A n c, .slice B m d] w fun e w' => e = .returned (.bool true) ∧ Below w.heap.size w w' := by
  by_cases h1 : n ≤ 3000
  · have i1 : ¬ (3000 : Int) < (n : Int) := by omega
    have i2 : (3000 : Int) < (m : Int) := by omega
    clear h
    go_enter Tryd.func3, Tryd.ntmps3
    go_wp2_with fail
    refine (awake18_any _ HK).mono ?_
    rintro e w1 ⟨rfl, hb1⟩
    go_wp2_with fail
    go_ret
    exact ⟨rfl, hb1⟩
  · have i1 : (3000 : Int) < (n : Int) := by omega
    clear h
    go_enter Tryd.func3, Tryd.ntmps3
    go_wp2_with fail
    refine (awake18_any _ HK).mono ?_
    rintro e w1 ⟨rfl, hb1⟩
    go_wp2_with fail
    go_ret
    exact ⟨rfl, hb1⟩
theorem sliprow_big (n : Nat) (A : Option Addr) (c : Nat) (w : World) (h : ¬ n ≤ 3000) (hn : n ≤ 9223372036854775807) (HK : Hid (KTab w)) :
    Calls Tryd.prog 6 #[.slice A n c] w fun e w' => e = .returned (.bool true) ∧ Below w.heap.size w w' := by
  have i1 : (3000 : Int) < (n : Int) := by omega
  go_enter Tryd.func6, Tryd.ntmps6
  go_wp2_with fail
  refine (awake18_any _ HK).mono ?_
  rintro e w1 ⟨rfl, hb1⟩
  go_wp2_with fail
  go_ret
  exact ⟨rfl, hb1⟩
theorem sliptorn_big (q y : Nat) (A : Option Addr) (c : Nat) (w : World) (h : ¬ q ≤ 12) (hq : q ≤ 9223372036854775807) (HK : Hid (KTab w)) :
    Calls Tryd.prog 5 #[.slice A q c, .int .u16 (y : Int)] w fun e w' => e = .returned (.bool true) ∧ Below w.heap.size w w' := by
  have i1 : (12 : Int) < (q : Int) := by omega
  go_enter Tryd.func5, Tryd.ntmps5
  go_wp2_with fail
  refine (awake18_any _ HK).mono ?_
  rintro e w1 ⟨rfl, hb1⟩
  go_wp2_with fail
  go_ret
  exact ⟨rfl, hb1⟩

theorem slipright_any (v0 v1 : Value) (W : World) {H : Type} {enc : TypeId × Value → H} {base : Nat} {d0 d1 : DataW H} {p0 p1 : List MemPlace} (hv0 : Value.okWide Tryd.prog W .any base 22 v0) (ht0 : DataW.Trod enc Tryd.prog W 0 (fun _ => true) true 22 v0 d0 p0)
    (hv1 : Value.okWide Tryd.prog W .any base 22 v1) (ht1 : DataW.Trod enc Tryd.prog W 0 (fun _ => true) true 22 v1 d1 p1) (hk : KTab W) :
    Calls Tryd.prog 3 #[v0, v1] W fun e w' => e = .returned (.bool true) ∧ Below W.heap.size W w' := by
  obtain ⟨t, A, c, rfl, hc, hm, hr⟩ := open_bytes hv0 ht0
  obtain ⟨b, B, d, rfl, hc1, hm1, hr1⟩ := open_bytes hv1 ht1
  by_cases h : t.length ≤ 3000 ∧ b.length ≤ 3000
  · exact slipright_core t b _ _ A B c d W rfl rfl hr hr1 hc hc1 h.1 h.2 (Lib.hid hk)
  · exact slipright_big _ _ A B c d W h (by omega) (by omega) (Lib.hid hk)
theorem sliprow_any (v0 : Value) (W : World) {H : Type} {enc : TypeId × Value → H} {base : Nat} {d0 : DataW H} {p0 : List MemPlace} (hv0 : Value.okWide Tryd.prog W .any base 22 v0) (ht0 : DataW.Trod enc Tryd.prog W 0 (fun _ => true) true 22 v0 d0 p0) (hk : KTab W) :
    Calls Tryd.prog 6 #[v0] W fun e w' => e = .returned (.bool true) ∧ Below W.heap.size W w' := by
  obtain ⟨b, A, c, rfl, hc, hm, hr⟩ := open_bytes hv0 ht0
  by_cases h : b.length ≤ 3000
  · exact sliprow_core b _ A c W rfl hr hc h (Lib.hid hk)
  · exact sliprow_big _ A c W h (by omega) (Lib.hid hk)
theorem sliplong_any (v0 : Value) (W : World) {H : Type} {enc : TypeId × Value → H} {base : Nat} {d0 : DataW H} {p0 : List MemPlace} (hv0 : Value.okWide Tryd.prog W .any base 34 v0) (ht0 : DataW.Trod enc Tryd.prog W 0 (fun _ => true) true 34 v0 d0 p0) (hk : KTab W) :
    Calls Tryd.prog 4 #[v0] W fun e w' => e = .returned (.bool true) ∧ Below W.heap.size W w' := by
  obtain ⟨y, rfl, hy⟩ := open_u16s hv0 ht0
  exact sliplong_core y W hy (Lib.hid hk)
theorem sliptorn_any (v0 v1 : Value) (W : World) {H : Type} {enc : TypeId × Value → H} {base : Nat} {d0 d1 : DataW H} {p0 p1 : List MemPlace} (hv0 : Value.okWide Tryd.prog W .any base 27 v0) (ht0 : DataW.Trod enc Tryd.prog W 0 (fun _ => true) true 27 v0 d0 p0)
    (hv1 : Value.okWide Tryd.prog W .any base 34 v1) (ht1 : DataW.Trod enc Tryd.prog W 0 (fun _ => true) true 34 v1 d1 p1) (hk : KTab W) :
    Calls Tryd.prog 5 #[v0, v1] W fun e w' => e = .returned (.bool true) ∧ Below W.heap.size W w' := by
  obtain ⟨ps, A, c, rfl, hc, hm, hr, hp, hpl⟩ := open_lists hv0 ht0
  obtain ⟨y, rfl, hy⟩ := open_u16s hv1 ht1
  by_cases h : ps.length ≤ 12
  · exact sliptorn_core ps _ y A c W rfl hr hp hpl hc h hy (Lib.hid hk)
  · exact sliptorn_big _ y A c W h (by omega) (Lib.hid hk)
end Go.Proofs.YtfalghmgibnjdaaDoor
