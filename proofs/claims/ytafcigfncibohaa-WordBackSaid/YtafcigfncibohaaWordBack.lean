/-
  The walk of the law WordBack: it answers true for any bytes, words and two numbers, and writes nothing that was there.
-/
import Derived.Test.YtafcigfncibohaaWordSame
import Derived.Test.YtafcigfncibohaaWordNums
import Derived.Test.YtafcigfncibohaaGrow
import Derived.Deep.RegionHeld3
import Derived.Deep.DeepCutAuto
namespace Go.Proofs.Ytafcigfncibohaa
open Go.RowKit
set_option linter.unusedSimpArgs false

theorem get_put (v : Nat) (hv : v < 18446744073709551616) (A : Option Addr) (cap : Nat) (w : World) (hr : Rd vB w A (putL v)) :
    Calls Try.prog 14 #[.slice A (putL v).length cap] w fun e w' => e = .returned (.tuple #[.int .u64 (v : Int), .int .i64 0]) ∧ w = w' :=
  (get_any (putL v) A cap w hr (by rw [putL_length]; omega)).mono fun _ _ ⟨he, hw⟩ => ⟨by rw [he, getR_putL v hv], hw⟩
theorem from_least (v : Nat) (hv : v < 18446744073709551616) (A : Option Addr) (cap : Nat) (w : World) (hr : Rd vB w A (leastL v)) :
    Calls Try.prog 16 #[.slice A (leastL v).length cap] w fun e w' => e = .returned (.tuple #[.int .u64 (v : Int), .int .i64 0]) ∧ w = w' :=
  (from_any (leastL v) A cap w hr (by have := leastL_length v; omega)).mono fun _ _ ⟨he, hw⟩ => ⟨by rw [he, fromR_leastL v hv], hw⟩

theorem words_bytes (l : List UInt32) (A : Option Addr) (cap : Nat) (w : World) (hr : Rd vB w A (bytesL l)) (hc : (bytesL l).length ≤ cap) (hl : l.length ≤ 3000) :
    Calls Try.prog 10 #[.slice A (bytesL l).length cap] w (RetS vW w l) := by
  have := words_any (bytesL l) A cap w hr hc (by rw [bytesL_length]; omega)
  rwa [wordsL_bytesL] at this
theorem wordsL_length (l : List UInt8) : 4 * (wordsL l).length ≤ l.length := by
  have := congrArg List.length (bytesL_wordsL l)
  rw [bytesL_length, List.length_take] at this
  omega
theorem bytes_words (l t : List UInt8) (A : Option Addr) (cap : Nat) (w : World) (ht : Hid (t = l.take (l.length / 4 * 4))) (hr : Rd vW w A (wordsL l)) (hl : l.length ≤ 3000) :
    Calls Try.prog 12 #[.slice A (wordsL l).length cap] w (RetS vB w t) := by
  have h4 := wordsL_length l
  have := bytes_any (wordsL l) A cap w hr (by omega)
  rwa [bytesL_wordsL, ← ht.out] at this

theorem least_is (l : List UInt8) (z : Nat) (hz : z < 18446744073709551616) (w : World) (HG : Hid (leastL z = l)) : Calls Try.prog 20 #[.int .u64 (z : Int)] w (RetS vB w l) := by
  have := least_any z hz w
  rwa [HG.out] at this
theorem from_is (l : List UInt8) (z : Nat) (c : Int) (A : Option Addr) (cap : Nat) (w : World) (HF : Hid (fromR l = (z, c))) (hr : Rd vB w A l) (hl : l.length ≤ 9223372036854775807) :
    Calls Try.prog 16 #[.slice A l.length cap] w fun e w' => e = .returned (.tuple #[.int .u64 (z : Int), .int .i64 c]) ∧ w = w' :=
  (from_any l A cap w hr hl).mono fun _ _ ⟨he, hw⟩ => ⟨by rw [he, HF.out], hw⟩

set_option maxRecDepth 100000 in
set_option maxHeartbeats 1000000 in
theorem back_core (b : List UInt8) (l : List UInt32) (A0 A1 : Option Addr) (c0 c1 v v2 : Nat) (w : World) (hb : Rd vB w A0 b) (hl : Rd vW w A1 l) (hbc : b.length ≤ c0) (hlc : l.length ≤ c1)
    (hb3 : b.length ≤ 3000) (hl3 : l.length ≤ 3000) (hv : v < 18446744073709551616) (hv2 : v2 < 18446744073709551616) :
    Calls Try.prog 4 #[.slice A0 b.length c0, .slice A1 l.length c1, .int .u64 (v : Int), .int .u64 (v2 : Int)] w fun e w' => e = .returned (.bool true) ∧ Below w.heap.size w w' := by
  go_enter Try.func4, Try.ntmps4
  go_wp2_with fail
  refine (awake_any _).mono ?_
  rintro e w1 ⟨rfl, hB1⟩
  go_wp2_with fail
  refine (put_any v hv _).mono ?_
  rintro e w2 ⟨A2, cap2, rfl, _, hr2, hb2⟩
  have hB2 := below_step hB1 hb2
  clear hB1 hb2
  go_wp2_with fail
  refine (get_put v hv _ _ _ hr2).mono ?_
  rintro e w' ⟨rfl, rfl⟩
  clear hr2
  go_wp2_with fail
  refine (least_any v hv _).mono ?_
  rintro e w3 ⟨A3, cap3, rfl, _, hr3, hb3'⟩
  have hB3 := below_step hB2 hb3'
  clear hB2 hb3'
  go_wp2_with fail
  refine (from_least v hv _ _ _ hr3).mono ?_
  rintro e w' ⟨rfl, rfl⟩
  clear hr3
  go_wp2_with fail
  have hb' := hb.keep hB3
  have hl' := hl.keep hB3
  obtain ⟨q, hq⟩ : ∃ q, q = b.length / 4 := ⟨_, rfl⟩
  have HQ := Lib.hid hq
  have hq4 : q * 4 ≤ b.length := by omega
  have e1 : (b.length : Int).tdiv 4 = (q : Int) := by rw [hq, Int.tdiv_eq_ediv_of_nonneg (by omega)]; omega
  have e2 : IntKind.i64.wrap (q : Int) = (q : Int) := by rw [IntKind.wrap_i64]; omega
  have e3 : IntKind.i64.wrap ((q : Int) * 4) = (q : Int) * 4 := by rw [IntKind.wrap_i64]; omega
  clear hq
  have hsl : ∀ W, (Instr.slice 23 (.slice A0 b.length c0) none (some (.int .i64 ((q : Int) * 4))) none).run Try.prog W = .ok (.slice A0 (q * 4) c0) W := fun W => by
    have := run_cut_to (P := Try.prog) 23 5 Try.underlying23 size_uint8 A0 b.length c0 (q * 4) (by omega) W
    simpa using this
  obtain ⟨t, ht⟩ : ∃ t, t = b.take (b.length / 4 * 4) := ⟨_, rfl⟩
  have HT := Lib.hid ht
  clear ht
  have hstr : ∀ W, Below w3.heap.size w3 W → (convert 23 9 (.slice A0 (q * 4) c0)).run Try.prog W = .ok (.string ⟨t.toArray⟩) W := fun W hW =>
    run_str W 23 5 9 Try.underlying23 Try.underlying5 Try.underlying9 A0 _ _ c0 (by rw [HT.out, List.length_take, ← HQ.out]; omega) (by rw [HT.out]; exact (hb'.keep hW).take _)
  go_cut [74] (fun s wx => s = .bool false ∧ Below w3.heap.size w3 wx)
  case first =>
    have hBase : Below w3.heap.size w3 w3.drew := (Below.refl _ _).drew
    refine wp_region_plan [(0, false), (1, false), (2, false), (3, false), (4, false), (5, false), (6, false), (7, false), (8, false), (9, false), (10, false), (11, false), (12, false), (13, false), (14, false), (15, false), (16, false), (17, false), (20, false), (18, true), (19, true), (21, true), (22, false), (23, false), (24, false), (25, false), (29, false), (30, false), (31, false), (32, false), (33, false), (34, false), (35, false), (26, true), (27, true), (28, false), (36, false), (37, false)] (by kernel_rfl) (by kernel_rfl) (by rfl) (by kernel_rfl) ?_
    iterate 19 (refine plan_read rfl (by rfl) (v := ?_) ?_ ?_; rotate_left 1; (intro W hW; have hW0 := below_step hBase hW; go_simp <;> with_reducible rfl); simp only [List.getElem_toArray, List.getElem_cons_zero, List.getElem_cons_succ, Act.put, List.setIfInBounds_toArray, List.set_cons_zero, List.set_cons_succ])
    (refine plan_make rfl (by rfl) (fun K hK => ?_); go_simp; refine (bytes_any l _ _ _ (hl'.keep hBase) (by omega)).mono ?_; rintro e w' ⟨Ax, cx, rfl, hcx, hrx, hbx⟩; refine hK.out _ _ hbx ?_; clear hK K; replace hBase := below_step hBase hbx)
    (refine plan_make rfl (by rfl) (fun K hK => ?_); go_simp; refine (words_bytes l _ _ _ hrx hcx hl3).mono ?_; rintro e w' ⟨Ax, cx, rfl, hcx, hrx, hbx⟩; refine hK.out _ _ hbx ?_; clear hK K; replace hBase := below_step hBase hbx)
    (refine plan_make rfl (by rfl) (fun K hK => ?_); go_simp; refine (same_true l _ _ _ _ _ hrx (hl'.keep hBase) (by omega)).mono ?_; rintro e w' ⟨rfl, hbx⟩; refine hK.out _ _ hbx ?_; clear hK K; replace hBase := below_step hBase hbx)
    iterate 11 (refine plan_read rfl (by rfl) (v := ?_) ?_ ?_; rotate_left 1; (intro W hW; have hW0 := below_step hBase hW; go_simp <;> with_reducible rfl); simp only [List.getElem_toArray, List.getElem_cons_zero, List.getElem_cons_succ, Act.put, List.setIfInBounds_toArray, List.set_cons_zero, List.set_cons_succ])
    (refine plan_make rfl (by rfl) (fun K hK => ?_); go_simp; refine (words_any b _ _ _ (hb'.keep hBase) hbc (by omega)).mono ?_; rintro e w' ⟨Ax, cx, rfl, hcx, hrx, hbx⟩; refine hK.out _ _ hbx ?_; clear hK K; replace hBase := below_step hBase hbx)
    (refine plan_make rfl (by rfl) (fun K hK => ?_); go_simp; refine (bytes_words b t _ _ _ HT hrx hb3).mono ?_; rintro e w' ⟨Ax, cx, rfl, hcx, hrx, hbx⟩; have hs := run_str_later (P := Try.prog) (dst := 9) (cap := cx) Try.underlying23 Try.underlying5 Try.underlying9 hrx; refine hK.out _ _ hbx ?_; clear hK K; replace hBase := below_step hBase hbx)
    iterate 3 (refine plan_read rfl (by rfl) (v := ?_) ?_ ?_; rotate_left 1; (intro W hW; have hW0 := below_step hBase hW; go_simp <;> with_reducible rfl); simp only [List.getElem_toArray, List.getElem_cons_zero, List.getElem_cons_succ, Act.put, List.setIfInBounds_toArray, List.set_cons_zero, List.set_cons_succ])
    refine plan_done ?_
    go_wp2_with fail
    go_meet
    exact ⟨rfl, hBase⟩
  case rest =>
    obtain ⟨rfl, hB4⟩ := hcut
    have hB := below_step hB3 hB4
    have hb4 := hb.keep hB
    clear hstr hsl e1 e2 e3 HT HQ hq4 hl' hb' hB3 hB4
    go_wp2_with fail
    go_cut [99] (fun s wx => s = .bool false ∧ Below wc.heap.size wc wx)
    case first =>
      have hBase : Below wc.heap.size wc wc.drew := (Below.refl _ _).drew
      by_cases hvv : v = v2
      · subst hvv
        refine wp_region_plan [(0, false), (3, false), (7, false), (8, false), (9, false), (1, true), (2, false), (4, true), (5, false), (6, false), (10, false), (11, false), (12, false), (13, false), (14, false), (15, false), (16, false), (19, false), (17, true), (18, false), (20, true), (21, false), (22, false), (23, false), (24, false)] (by kernel_rfl) (by kernel_rfl) (by rfl) (by kernel_rfl) ?_
        iterate 5 (refine plan_read rfl (by rfl) (v := ?_) ?_ ?_; rotate_left 1; (intro W hW; have hW0 := below_step hBase hW; go_simp <;> with_reducible rfl); simp only [List.getElem_toArray, List.getElem_cons_zero, List.getElem_cons_succ, Act.put, List.setIfInBounds_toArray, List.set_cons_zero, List.set_cons_succ])
        (refine plan_make rfl (by rfl) (fun K hK => ?_); go_simp; refine (least_any v hv _).mono ?_; rintro e w' ⟨Ax, cx, rfl, hcx, hrx, hbx⟩; have hs := run_str_later (P := Try.prog) (dst := 9) (cap := cx) Try.underlying23 Try.underlying5 Try.underlying9 hrx; refine hK.out _ _ hbx ?_; clear hK K; replace hBase := below_step hBase hbx)
        iterate 1 (refine plan_read rfl (by rfl) (v := ?_) ?_ ?_; rotate_left 1; (intro W hW; have hW0 := below_step hBase hW; go_simp <;> with_reducible rfl); simp only [List.getElem_toArray, List.getElem_cons_zero, List.getElem_cons_succ, Act.put, List.setIfInBounds_toArray, List.set_cons_zero, List.set_cons_succ])
        (refine plan_make rfl (by rfl) (fun K hK => ?_); go_simp; refine (least_any v hv _).mono ?_; rintro e w' ⟨Ax, cx, rfl, hcx, hrx, hbx⟩; have hs := run_str_later (P := Try.prog) (dst := 9) (cap := cx) Try.underlying23 Try.underlying5 Try.underlying9 hrx; refine hK.out _ _ hbx ?_; clear hK K; replace hBase := below_step hBase hbx)
        iterate 10 (refine plan_read rfl (by rfl) (v := ?_) ?_ ?_; rotate_left 1; (intro W hW; have hW0 := below_step hBase hW; go_simp <;> with_reducible rfl); simp only [List.getElem_toArray, List.getElem_cons_zero, List.getElem_cons_succ, Act.put, List.setIfInBounds_toArray, List.set_cons_zero, List.set_cons_succ])
        (refine plan_make rfl (by rfl) (fun K hK => ?_); go_simp; refine (least_any v hv _).mono ?_; rintro e w' ⟨Ax, cx, rfl, hcx, hrx, hbx⟩; have hs := run_str_later (P := Try.prog) (dst := 9) (cap := cx) Try.underlying23 Try.underlying5 Try.underlying9 hrx; refine hK.out _ _ hbx ?_; clear hK K; replace hBase := below_step hBase hbx)
        iterate 1 (refine plan_read rfl (by rfl) (v := ?_) ?_ ?_; rotate_left 1; (intro W hW; have hW0 := below_step hBase hW; go_simp <;> with_reducible rfl); simp only [List.getElem_toArray, List.getElem_cons_zero, List.getElem_cons_succ, Act.put, List.setIfInBounds_toArray, List.set_cons_zero, List.set_cons_succ])
        (refine plan_make rfl (by rfl) (fun K hK => ?_); go_simp; refine (least_any v hv _).mono ?_; rintro e w' ⟨Ax, cx, rfl, hcx, hrx, hbx⟩; have hs := run_str_later (P := Try.prog) (dst := 9) (cap := cx) Try.underlying23 Try.underlying5 Try.underlying9 hrx; refine hK.out _ _ hbx ?_; clear hK K; replace hBase := below_step hBase hbx)
        iterate 4 (refine plan_read rfl (by rfl) (v := ?_) ?_ ?_; rotate_left 1; (intro W hW; have hW0 := below_step hBase hW; go_simp <;> with_reducible rfl); simp only [List.getElem_toArray, List.getElem_cons_zero, List.getElem_cons_succ, Act.put, List.setIfInBounds_toArray, List.set_cons_zero, List.set_cons_succ])
        refine plan_done ?_
        go_wp2_with fail
        go_meet
        exact ⟨rfl, hBase⟩
      · have hne : ((v : Int) == (v2 : Int)) = false := by simp; omega
        have hst : ((leastL v) == (leastL v2)) = false := by
          have := leastL_inj v v2 hv hv2
          simp [this, hvv]
        have hlen : v ≤ v2 → (leastL v).length ≤ (leastL v2).length := leastL_mono v v2 hv hv2
        by_cases hle : v ≤ v2
        · have hlen' : decide ((leastL v2).length < (leastL v).length) = false := by
            have := hlen hle
            simp
            omega
          clear hlen
          refine wp_region_plan [(0, false), (3, false), (7, false), (8, false), (9, false), (1, true), (2, false), (4, true), (5, false), (6, false), (10, false), (11, false), (12, false), (13, false), (14, false), (15, false), (16, false), (19, false), (17, true), (18, false), (20, true), (21, false), (22, false), (23, false), (24, false)] (by kernel_rfl) (by kernel_rfl) (by rfl) (by kernel_rfl) ?_
          iterate 5 (refine plan_read rfl (by rfl) (v := ?_) ?_ ?_; rotate_left 1; (intro W hW; have hW0 := below_step hBase hW; go_simp <;> with_reducible rfl); simp only [List.getElem_toArray, List.getElem_cons_zero, List.getElem_cons_succ, Act.put, List.setIfInBounds_toArray, List.set_cons_zero, List.set_cons_succ])
          (refine plan_make rfl (by rfl) (fun K hK => ?_); go_simp; refine (least_any v hv _).mono ?_; rintro e w' ⟨Ax, cx, rfl, hcx, hrx, hbx⟩; have hs := run_str_later (P := Try.prog) (dst := 9) (cap := cx) Try.underlying23 Try.underlying5 Try.underlying9 hrx; refine hK.out _ _ hbx ?_; clear hK K; replace hBase := below_step hBase hbx)
          iterate 1 (refine plan_read rfl (by rfl) (v := ?_) ?_ ?_; rotate_left 1; (intro W hW; have hW0 := below_step hBase hW; go_simp <;> with_reducible rfl); simp only [List.getElem_toArray, List.getElem_cons_zero, List.getElem_cons_succ, Act.put, List.setIfInBounds_toArray, List.set_cons_zero, List.set_cons_succ])
          (refine plan_make rfl (by rfl) (fun K hK => ?_); go_simp; refine (least_any v2 hv2 _).mono ?_; rintro e w' ⟨Ax, cx, rfl, hcx, hrx, hbx⟩; have hs := run_str_later (P := Try.prog) (dst := 9) (cap := cx) Try.underlying23 Try.underlying5 Try.underlying9 hrx; refine hK.out _ _ hbx ?_; clear hK K; replace hBase := below_step hBase hbx)
          iterate 10 (refine plan_read rfl (by rfl) (v := ?_) ?_ ?_; rotate_left 1; (intro W hW; have hW0 := below_step hBase hW; go_simp <;> with_reducible rfl); simp only [List.getElem_toArray, List.getElem_cons_zero, List.getElem_cons_succ, Act.put, List.setIfInBounds_toArray, List.set_cons_zero, List.set_cons_succ])
          (refine plan_make rfl (by rfl) (fun K hK => ?_); go_simp; refine (least_any v hv _).mono ?_; rintro e w' ⟨Ax, cx, rfl, hcx, hrx, hbx⟩; have hs := run_str_later (P := Try.prog) (dst := 9) (cap := cx) Try.underlying23 Try.underlying5 Try.underlying9 hrx; refine hK.out _ _ hbx ?_; clear hK K; replace hBase := below_step hBase hbx)
          iterate 1 (refine plan_read rfl (by rfl) (v := ?_) ?_ ?_; rotate_left 1; (intro W hW; have hW0 := below_step hBase hW; go_simp <;> with_reducible rfl); simp only [List.getElem_toArray, List.getElem_cons_zero, List.getElem_cons_succ, Act.put, List.setIfInBounds_toArray, List.set_cons_zero, List.set_cons_succ])
          (refine plan_make rfl (by rfl) (fun K hK => ?_); go_simp; refine (least_any v2 hv2 _).mono ?_; rintro e w' ⟨Ax, cx, rfl, hcx, hrx, hbx⟩; have hs := run_str_later (P := Try.prog) (dst := 9) (cap := cx) Try.underlying23 Try.underlying5 Try.underlying9 hrx; refine hK.out _ _ hbx ?_; clear hK K; replace hBase := below_step hBase hbx)
          iterate 4 (refine plan_read rfl (by rfl) (v := ?_) ?_ ?_; rotate_left 1; (intro W hW; have hW0 := below_step hBase hW; go_simp <;> with_reducible rfl); simp only [List.getElem_toArray, List.getElem_cons_zero, List.getElem_cons_succ, Act.put, List.setIfInBounds_toArray, List.set_cons_zero, List.set_cons_succ])
          refine plan_done ?_
          go_wp2_with fail
          go_meet
          exact ⟨rfl, hBase⟩
        · have hle' : decide (v ≤ v2) = false := by simpa using hle
          clear hlen
          refine wp_region_plan [(0, false), (3, false), (7, false), (8, false), (9, false), (1, true), (2, false), (4, true), (5, false), (6, false), (10, false), (11, false), (12, false), (13, false), (14, false), (15, false), (16, false), (19, false), (17, true), (18, false), (20, true), (21, false), (22, false), (23, false), (24, false)] (by kernel_rfl) (by kernel_rfl) (by rfl) (by kernel_rfl) ?_
          iterate 5 (refine plan_read rfl (by rfl) (v := ?_) ?_ ?_; rotate_left 1; (intro W hW; have hW0 := below_step hBase hW; go_simp <;> with_reducible rfl); simp only [List.getElem_toArray, List.getElem_cons_zero, List.getElem_cons_succ, Act.put, List.setIfInBounds_toArray, List.set_cons_zero, List.set_cons_succ])
          (refine plan_make rfl (by rfl) (fun K hK => ?_); go_simp; refine (least_any v hv _).mono ?_; rintro e w' ⟨Ax, cx, rfl, hcx, hrx, hbx⟩; have hs := run_str_later (P := Try.prog) (dst := 9) (cap := cx) Try.underlying23 Try.underlying5 Try.underlying9 hrx; refine hK.out _ _ hbx ?_; clear hK K; replace hBase := below_step hBase hbx)
          iterate 1 (refine plan_read rfl (by rfl) (v := ?_) ?_ ?_; rotate_left 1; (intro W hW; have hW0 := below_step hBase hW; go_simp <;> with_reducible rfl); simp only [List.getElem_toArray, List.getElem_cons_zero, List.getElem_cons_succ, Act.put, List.setIfInBounds_toArray, List.set_cons_zero, List.set_cons_succ])
          (refine plan_make rfl (by rfl) (fun K hK => ?_); go_simp; refine (least_any v2 hv2 _).mono ?_; rintro e w' ⟨Ax, cx, rfl, hcx, hrx, hbx⟩; have hs := run_str_later (P := Try.prog) (dst := 9) (cap := cx) Try.underlying23 Try.underlying5 Try.underlying9 hrx; refine hK.out _ _ hbx ?_; clear hK K; replace hBase := below_step hBase hbx)
          iterate 8 (refine plan_read rfl (by rfl) (v := ?_) ?_ ?_; rotate_left 1; (intro W hW; have hW0 := below_step hBase hW; go_simp <;> with_reducible rfl); simp only [List.getElem_toArray, List.getElem_cons_zero, List.getElem_cons_succ, Act.put, List.setIfInBounds_toArray, List.set_cons_zero, List.set_cons_succ])
          iterate 7 (refine plan_skip rfl (by rfl) ?_; simp only [List.getElem_toArray, List.getElem_cons_zero, List.getElem_cons_succ, Act.put, List.setIfInBounds_toArray, List.set_cons_zero, List.set_cons_succ])
          iterate 2 (refine plan_read rfl (by rfl) (v := ?_) ?_ ?_; rotate_left 1; (intro W hW; have hW0 := below_step hBase hW; go_simp <;> with_reducible rfl); simp only [List.getElem_toArray, List.getElem_cons_zero, List.getElem_cons_succ, Act.put, List.setIfInBounds_toArray, List.set_cons_zero, List.set_cons_succ])
          refine plan_done ?_
          go_wp2_with fail
          go_meet
          exact ⟨rfl, hBase⟩
    case rest =>
      obtain ⟨rfl, hB5⟩ := hcut
      have hB' := below_step hB hB5
      have hb5 := hb.keep hB'
      clear hB hB5 hb4
      go_wp2_with fail
      by_cases hz : (fromR b).2 = 0
      · obtain ⟨hg, hlt⟩ := fromR_good b hz
        have HF := Lib.hid (show fromR b = ((fromR b).1, 0) by rw [← hz])
        obtain ⟨z, hzz⟩ : ∃ z, z = (fromR b).1 := ⟨_, rfl⟩
        rw [← hzz] at hg hlt HF
        have HG := Lib.hid hg
        clear hz hg hzz
        refine (from_is b z 0 _ _ _ HF hb5 (by omega)).mono ?_
        rintro e w' ⟨rfl, rfl⟩
        go_wp2_with fail
        have hstr := run_str_later (P := Try.prog) (dst := 9) (cap := c0) Try.underlying23 Try.underlying5 Try.underlying9 hb5
        have hBase : Below wc.heap.size wc wc.drew := (Below.refl _ _).drew
        refine wp_region_plan [(0, false), (1, false), (2, false), (3, false), (4, false), (5, false), (6, false), (7, false), (8, false), (9, false), (10, false), (13, false), (14, false), (11, true), (12, false), (15, false), (16, false), (17, false), (18, false)] (by kernel_rfl) (by kernel_rfl) (by rfl) (by kernel_rfl) ?_
        iterate 3 (refine plan_read rfl (by rfl) (v := ?_) ?_ ?_; rotate_left 1; (intro W hW; have hW0 := below_step hBase hW; go_simp <;> with_reducible rfl); simp only [List.getElem_toArray, List.getElem_cons_zero, List.getElem_cons_succ, Act.put, List.setIfInBounds_toArray, List.set_cons_zero, List.set_cons_succ])
        iterate 2 (refine plan_skip rfl (by rfl) ?_; simp only [List.getElem_toArray, List.getElem_cons_zero, List.getElem_cons_succ, Act.put, List.setIfInBounds_toArray, List.set_cons_zero, List.set_cons_succ])
        iterate 8 (refine plan_read rfl (by rfl) (v := ?_) ?_ ?_; rotate_left 1; (intro W hW; have hW0 := below_step hBase hW; go_simp <;> with_reducible rfl); simp only [List.getElem_toArray, List.getElem_cons_zero, List.getElem_cons_succ, Act.put, List.setIfInBounds_toArray, List.set_cons_zero, List.set_cons_succ])
        (refine plan_make rfl (by rfl) (fun K hK => ?_); go_simp; refine (least_is b z hlt _ HG).mono ?_; rintro e w' ⟨Ax, cx, rfl, hcx, hrx, hbx⟩; have hs := run_str_later (P := Try.prog) (dst := 9) (cap := cx) Try.underlying23 Try.underlying5 Try.underlying9 hrx; refine hK.out _ _ hbx ?_; clear hK K; replace hBase := below_step hBase hbx)
        iterate 5 (refine plan_read rfl (by rfl) (v := ?_) ?_ ?_; rotate_left 1; (intro W hW; have hW0 := below_step hBase hW; go_simp <;> with_reducible rfl); simp only [List.getElem_toArray, List.getElem_cons_zero, List.getElem_cons_succ, Act.put, List.setIfInBounds_toArray, List.set_cons_zero, List.set_cons_succ])
        refine plan_done ?_
        go_wp2_with fail
        go_ret
        exact ⟨rfl, below_step hB' hBase⟩
      · have HF := Lib.hid (show fromR b = (0, (fromR b).2) by rw [← fromR_bad b hz])
        obtain ⟨c, hc⟩ : ∃ c, c = (fromR b).2 := ⟨_, rfl⟩
        rw [← hc] at hz HF
        have hne : (c != 0) = true := by simpa using hz
        clear hz hc
        refine (from_is b 0 c _ _ _ HF hb5 (by omega)).mono ?_
        rintro e w' ⟨rfl, rfl⟩
        go_wp2_with fail
        have hBase : Below wc.heap.size wc wc.drew := (Below.refl _ _).drew
        refine wp_region_plan [(0, false), (1, false), (2, false), (3, false), (4, false), (5, false), (6, false), (7, false), (8, false), (9, false), (10, false), (13, false), (14, false), (11, true), (12, false), (15, false), (16, false), (17, false), (18, false)] (by kernel_rfl) (by kernel_rfl) (by rfl) (by kernel_rfl) ?_
        iterate 7 (refine plan_read rfl (by rfl) (v := ?_) ?_ ?_; rotate_left 1; (intro W hW; have hW0 := below_step hBase hW; go_simp <;> with_reducible rfl); simp only [List.getElem_toArray, List.getElem_cons_zero, List.getElem_cons_succ, Act.put, List.setIfInBounds_toArray, List.set_cons_zero, List.set_cons_succ])
        iterate 10 (refine plan_skip rfl (by rfl) ?_; simp only [List.getElem_toArray, List.getElem_cons_zero, List.getElem_cons_succ, Act.put, List.setIfInBounds_toArray, List.set_cons_zero, List.set_cons_succ])
        iterate 2 (refine plan_read rfl (by rfl) (v := ?_) ?_ ?_; rotate_left 1; (intro W hW; have hW0 := below_step hBase hW; go_simp <;> with_reducible rfl); simp only [List.getElem_toArray, List.getElem_cons_zero, List.getElem_cons_succ, Act.put, List.setIfInBounds_toArray, List.set_cons_zero, List.set_cons_succ])
        refine plan_done ?_
        go_wp2_with fail
        go_ret
        exact ⟨rfl, below_step hB' hBase⟩
end Go.Proofs.Ytafcigfncibohaa
