/-
  The walk of the law WordRight: it answers true for any word and count, bytes, words and number, and writes nothing that was there.
-/
import Derived.Test.YtafcigfncibohaaWordRefWords
import Derived.Test.YtafcigfncibohaaWordRefLeast
import Derived.Deep.DeepCutAuto
namespace Go.Proofs.Ytafcigfncibohaa
open Go.RowKit
set_option linter.unusedSimpArgs false

theorem grow_of_same {P : Program} {f : FuncId} {args : Array Value} {w : World} {v : Value} (h : Calls P f args w fun e w' => e = .returned v ∧ w = w') : Calls P f args w fun e w' => e = .returned v ∧ Below w.heap.size w w' :=
  h.mono fun _ _ ⟨he, hw⟩ => ⟨he, by rw [← hw]; exact Below.refl _ _⟩

theorem get_is (l : List UInt8) (z : Nat) (c : Int) (A : Option Addr) (cap : Nat) (w : World) (HF : Hid (getR l = (z, c))) (hr : Rd vB w A l) (hl : l.length ≤ 9223372036854775807) :
    Calls Try.prog 14 #[.slice A l.length cap] w fun e w' => e = .returned (.tuple #[.int .u64 (z : Int), .int .i64 c]) ∧ w = w' :=
  (get_any l A cap w hr hl).mono fun _ _ ⟨he, hw⟩ => ⟨by rw [he, HF.out], hw⟩
theorem value_is (l : List UInt8) (A : Option Addr) (cap : Nat) (w : World) (hr : Rd vB w A l) (hl : l.length ≤ 8) :
    Calls Try.prog 15 #[.slice A l.length cap] w fun e w' => e = .returned (.int .u64 (valN l : Int)) ∧ w = w' :=
  (value_any l A cap w hr (by omega)).mono fun _ _ ⟨he, hw⟩ => ⟨by rw [he, Nat.mod_eq_of_lt (valN_lt8 l hl)], hw⟩
theorem fromBoth (l : List UInt8) : ∃ z c, fromR l = (z, c) := ⟨_, _, rfl⟩
theorem from_both (l : List UInt8) (z : Nat) (c : Int) (A : Option Addr) (cap : Nat) (w : World) (HF : Hid (fromR l = (z, c))) (hr : Rd vB w A l) (hl : l.length ≤ 9223372036854775807) :
    (Calls Try.prog 16 #[.slice A l.length cap] w fun e w' => e = .returned (.tuple #[.int .u64 (z : Int), .int .i64 c]) ∧ w = w') ∧
    (Calls Try.prog 17 #[.slice A l.length cap] w fun e w' => e = .returned (.tuple #[.int .u64 (z : Int), .int .i64 c]) ∧ w = w') :=
  ⟨(from_any l A cap w hr hl).mono fun _ _ ⟨he, hw⟩ => ⟨by rw [he, HF.out], hw⟩, (reffrom_any l A cap w hr hl).mono fun _ _ ⟨he, hw⟩ => ⟨by rw [he, HF.out], hw⟩⟩

set_option maxRecDepth 100000 in
set_option maxHeartbeats 1000000 in
theorem right_core (x : UInt32) (n : Int) (b : List UInt8) (l : List UInt32) (A0 A1 : Option Addr) (c0 c1 v : Nat) (w : World) (hb : Rd vB w A0 b) (hl : Rd vW w A1 l) (hbc : b.length ≤ c0)
    (hb3 : b.length ≤ 3000) (hl3 : l.length ≤ 3000) (hv : v < 18446744073709551616) :
    Calls Try.prog 3 #[.int .u32 (x.toNat : Int), .int .i64 n, .slice A0 b.length c0, .slice A1 l.length c1, .int .u64 (v : Int)] w fun e w' => e = .returned (.bool true) ∧ Below w.heap.size w w' := by
  go_enter Try.func3, Try.ntmps3
  go_wp2_with fail
  refine (awake_any _).mono ?_
  rintro e w3 ⟨rfl, hB3⟩
  go_wp2_with fail
  have hb' := hb.keep hB3
  have hl' := hl.keep hB3
  go_cut [50] (fun s wx => s = .bool false ∧ Below w3.heap.size w3 wx)
  case first =>
    have hBase : Below w3.heap.size w3 w3.drew := (Below.refl _ _).drew
    refine wp_region_plan [(0, false), (1, false), (3, false), (4, false), (2, true), (5, true), (6, false), (7, false), (8, false), (10, false), (9, true), (11, true), (12, true), (13, false), (14, false), (15, false), (16, false), (19, false), (17, true), (18, false), (20, true), (21, false), (22, false), (23, false)] (by kernel_rfl) (by kernel_rfl) (by rfl) (by kernel_rfl) ?_
    iterate 4 (refine plan_read rfl (by rfl) (v := ?_) ?_ ?_; rotate_left 1; (intro W hW; have hW0 := below_step hBase hW; go_simp <;> with_reducible rfl); simp only [List.getElem_toArray, List.getElem_cons_zero, List.getElem_cons_succ, Act.put, List.setIfInBounds_toArray, List.set_cons_zero, List.set_cons_succ])
    (refine plan_make rfl (by rfl) (fun K hK => ?_); go_simp; refine (grow_of_same (rot_any x n _)).mono ?_; rintro e w' ⟨rfl, hbx⟩; refine hK.out _ _ hbx ?_; clear hK K; replace hBase := below_step hBase hbx)
    (refine plan_make rfl (by rfl) (fun K hK => ?_); go_simp; refine (grow_of_same (refrot_any x n _)).mono ?_; rintro e w' ⟨rfl, hbx⟩; refine hK.out _ _ hbx ?_; clear hK K; replace hBase := below_step hBase hbx)
    iterate 4 (refine plan_read rfl (by rfl) (v := ?_) ?_ ?_; rotate_left 1; (intro W hW; have hW0 := below_step hBase hW; go_simp <;> with_reducible rfl); simp only [List.getElem_toArray, List.getElem_cons_zero, List.getElem_cons_succ, Act.put, List.setIfInBounds_toArray, List.set_cons_zero, List.set_cons_succ])
    (refine plan_make rfl (by rfl) (fun K hK => ?_); go_simp; refine (words_any b _ _ _ (hb'.keep hBase) hbc (by omega)).mono ?_; rintro e w' ⟨Ay, cy, rfl, hcy, hry, hbx⟩; refine hK.out _ _ hbx ?_; clear hK K; replace hBase := below_step hBase hbx)
    (refine plan_make rfl (by rfl) (fun K hK => ?_); go_simp; refine (refwords_any b _ _ _ (hb'.keep hBase) (by omega)).mono ?_; rintro e w' ⟨Ax, cx, rfl, hcx, hrx, hbx⟩; refine hK.out _ _ hbx ?_; clear hK K; replace hBase := below_step hBase hbx)
    (refine plan_make rfl (by rfl) (fun K hK => ?_); go_simp; refine (same_true (wordsL b) _ _ _ _ _ (hry.keep hbx) hrx (by have := wordsL_length b; omega)).mono ?_; rintro e w' ⟨rfl, hbx⟩; refine hK.out _ _ hbx ?_; clear hK K; replace hBase := below_step hBase hbx)
    iterate 5 (refine plan_read rfl (by rfl) (v := ?_) ?_ ?_; rotate_left 1; (intro W hW; have hW0 := below_step hBase hW; go_simp <;> with_reducible rfl); simp only [List.getElem_toArray, List.getElem_cons_zero, List.getElem_cons_succ, Act.put, List.setIfInBounds_toArray, List.set_cons_zero, List.set_cons_succ])
    (refine plan_make rfl (by rfl) (fun K hK => ?_); go_simp; refine (bytes_any l _ _ _ (hl'.keep hBase) (by omega)).mono ?_; rintro e w' ⟨Ax, cx, rfl, hcx, hrx, hbx⟩; have hs := run_str_later (P := Try.prog) (dst := 9) (cap := cx) Try.underlying23 Try.underlying5 Try.underlying9 hrx; refine hK.out _ _ hbx ?_; clear hK K; replace hBase := below_step hBase hbx)
    iterate 1 (refine plan_read rfl (by rfl) (v := ?_) ?_ ?_; rotate_left 1; (intro W hW; have hW0 := below_step hBase hW; go_simp <;> with_reducible rfl); simp only [List.getElem_toArray, List.getElem_cons_zero, List.getElem_cons_succ, Act.put, List.setIfInBounds_toArray, List.set_cons_zero, List.set_cons_succ])
    (refine plan_make rfl (by rfl) (fun K hK => ?_); go_simp; refine (refbytes_any l _ _ _ (hl'.keep hBase) (by omega)).mono ?_; rintro e w' ⟨Ax, cx, rfl, hcx, hrx, hbx⟩; have hs := run_str_later (P := Try.prog) (dst := 9) (cap := cx) Try.underlying23 Try.underlying5 Try.underlying9 hrx; refine hK.out _ _ hbx ?_; clear hK K; replace hBase := below_step hBase hbx)
    iterate 3 (refine plan_read rfl (by rfl) (v := ?_) ?_ ?_; rotate_left 1; (intro W hW; have hW0 := below_step hBase hW; go_simp <;> with_reducible rfl); simp only [List.getElem_toArray, List.getElem_cons_zero, List.getElem_cons_succ, Act.put, List.setIfInBounds_toArray, List.set_cons_zero, List.set_cons_succ])
    refine plan_done ?_
    go_wp2_with fail
    go_meet
    exact ⟨rfl, hBase⟩
  case rest =>
    obtain ⟨rfl, hB4⟩ := hcut
    have hB := below_step hB3 hB4
    have hb4 := hb.keep hB
    clear hl' hb' hB3 hB4 hl
    obtain ⟨z, c, hf⟩ := fromBoth b
    have HF := Lib.hid hf
    clear hf
    go_wp2_with fail
    by_cases h8 : b.length = 8
    · have HG : Hid (getR b = (valN b, 0)) := by unfold Hid getR; rw [if_pos h8]
      have h8' : ((b.length : Int) == 8) = true := by simp; omega
      have hle : b.length ≤ 8 := by omega
      clear h8
      refine (get_is b _ 0 _ _ _ HG hb4 (by omega)).mono ?_
      rintro e w' ⟨rfl, rfl⟩
      go_wp2_with fail
      refine (value_is b _ _ _ hb4 hle).mono ?_
      rintro e w' ⟨rfl, rfl⟩
      go_wp2_with fail
      refine (from_both b z c _ _ _ HF hb4 (by omega)).1.mono ?_
      rintro e w' ⟨rfl, rfl⟩
      go_wp2_with fail
      refine (from_both b z c _ _ _ HF hb4 (by omega)).2.mono ?_
      rintro e w' ⟨rfl, rfl⟩
      go_wp2_with fail
      have hBase : Below wc.heap.size wc wc.drew := (Below.refl _ _).drew
      clear hb4 hb
      refine wp_region_plan [(0, false), (1, false), (2, false), (3, false), (4, false), (5, false), (6, false), (7, false), (8, false), (9, false), (12, false), (10, true), (11, false), (13, true), (14, false), (15, false), (16, false), (17, false), (18, false), (21, false), (19, true), (20, false), (22, true), (23, false), (24, false), (25, false), (26, false)] (by kernel_rfl) (by kernel_rfl) (by rfl) (by kernel_rfl) ?_
      iterate 11 (refine plan_read rfl (by rfl) (v := ?_) ?_ ?_; rotate_left 1; (intro W hW; have hW0 := below_step hBase hW; go_simp <;> with_reducible rfl); simp only [List.getElem_toArray, List.getElem_cons_zero, List.getElem_cons_succ, Act.put, List.setIfInBounds_toArray, List.set_cons_zero, List.set_cons_succ])
      (refine plan_make rfl (by rfl) (fun K hK => ?_); go_simp; refine (put_any v hv _).mono ?_; rintro e w' ⟨Ax, cx, rfl, hcx, hrx, hbx⟩; have hs := run_str_later (P := Try.prog) (dst := 9) (cap := cx) Try.underlying23 Try.underlying5 Try.underlying9 hrx; refine hK.out _ _ hbx ?_; clear hK K; replace hBase := below_step hBase hbx)
      iterate 1 (refine plan_read rfl (by rfl) (v := ?_) ?_ ?_; rotate_left 1; (intro W hW; have hW0 := below_step hBase hW; go_simp <;> with_reducible rfl); simp only [List.getElem_toArray, List.getElem_cons_zero, List.getElem_cons_succ, Act.put, List.setIfInBounds_toArray, List.set_cons_zero, List.set_cons_succ])
      (refine plan_make rfl (by rfl) (fun K hK => ?_); go_simp; refine (refput_any v hv _).mono ?_; rintro e w' ⟨Ax, cx, rfl, hcx, hrx, hbx⟩; have hs := run_str_later (P := Try.prog) (dst := 9) (cap := cx) Try.underlying23 Try.underlying5 Try.underlying9 hrx; refine hK.out _ _ hbx ?_; clear hK K; replace hBase := below_step hBase hbx)
      iterate 6 (refine plan_read rfl (by rfl) (v := ?_) ?_ ?_; rotate_left 1; (intro W hW; have hW0 := below_step hBase hW; go_simp <;> with_reducible rfl); simp only [List.getElem_toArray, List.getElem_cons_zero, List.getElem_cons_succ, Act.put, List.setIfInBounds_toArray, List.set_cons_zero, List.set_cons_succ])
      (refine plan_make rfl (by rfl) (fun K hK => ?_); go_simp; refine (least_any v hv _).mono ?_; rintro e w' ⟨Ax, cx, rfl, hcx, hrx, hbx⟩; have hs := run_str_later (P := Try.prog) (dst := 9) (cap := cx) Try.underlying23 Try.underlying5 Try.underlying9 hrx; refine hK.out _ _ hbx ?_; clear hK K; replace hBase := below_step hBase hbx)
      iterate 1 (refine plan_read rfl (by rfl) (v := ?_) ?_ ?_; rotate_left 1; (intro W hW; have hW0 := below_step hBase hW; go_simp <;> with_reducible rfl); simp only [List.getElem_toArray, List.getElem_cons_zero, List.getElem_cons_succ, Act.put, List.setIfInBounds_toArray, List.set_cons_zero, List.set_cons_succ])
      (refine plan_make rfl (by rfl) (fun K hK => ?_); go_simp; refine (refleast_any v hv _).mono ?_; rintro e w' ⟨Ax, cx, rfl, hcx, hrx, hbx⟩; have hs := run_str_later (P := Try.prog) (dst := 9) (cap := cx) Try.underlying23 Try.underlying5 Try.underlying9 hrx; refine hK.out _ _ hbx ?_; clear hK K; replace hBase := below_step hBase hbx)
      iterate 4 (refine plan_read rfl (by rfl) (v := ?_) ?_ ?_; rotate_left 1; (intro W hW; have hW0 := below_step hBase hW; go_simp <;> with_reducible rfl); simp only [List.getElem_toArray, List.getElem_cons_zero, List.getElem_cons_succ, Act.put, List.setIfInBounds_toArray, List.set_cons_zero, List.set_cons_succ])
      refine plan_done ?_
      go_wp2_with fail
      go_ret
      exact ⟨rfl, below_step hB hBase⟩
    · have HG : Hid (getR b = (0, 1)) := by unfold Hid getR; rw [if_neg h8]
      have h8' : ((b.length : Int) == 8) = false := by simp; omega
      clear h8
      refine (get_is b _ 1 _ _ _ HG hb4 (by omega)).mono ?_
      rintro e w' ⟨rfl, rfl⟩
      go_wp2_with fail
      refine (from_both b z c _ _ _ HF hb4 (by omega)).1.mono ?_
      rintro e w' ⟨rfl, rfl⟩
      go_wp2_with fail
      refine (from_both b z c _ _ _ HF hb4 (by omega)).2.mono ?_
      rintro e w' ⟨rfl, rfl⟩
      go_wp2_with fail
      have hBase : Below wc.heap.size wc wc.drew := (Below.refl _ _).drew
      clear hb4 hb
      refine wp_region_plan [(0, false), (1, false), (2, false), (3, false), (4, false), (5, false), (6, false), (7, false), (8, false), (9, false), (12, false), (10, true), (11, false), (13, true), (14, false), (15, false), (16, false), (17, false), (18, false), (21, false), (19, true), (20, false), (22, true), (23, false), (24, false), (25, false), (26, false)] (by kernel_rfl) (by kernel_rfl) (by rfl) (by kernel_rfl) ?_
      iterate 11 (refine plan_read rfl (by rfl) (v := ?_) ?_ ?_; rotate_left 1; (intro W hW; have hW0 := below_step hBase hW; go_simp <;> with_reducible rfl); simp only [List.getElem_toArray, List.getElem_cons_zero, List.getElem_cons_succ, Act.put, List.setIfInBounds_toArray, List.set_cons_zero, List.set_cons_succ])
      (refine plan_make rfl (by rfl) (fun K hK => ?_); go_simp; refine (put_any v hv _).mono ?_; rintro e w' ⟨Ax, cx, rfl, hcx, hrx, hbx⟩; have hs := run_str_later (P := Try.prog) (dst := 9) (cap := cx) Try.underlying23 Try.underlying5 Try.underlying9 hrx; refine hK.out _ _ hbx ?_; clear hK K; replace hBase := below_step hBase hbx)
      iterate 1 (refine plan_read rfl (by rfl) (v := ?_) ?_ ?_; rotate_left 1; (intro W hW; have hW0 := below_step hBase hW; go_simp <;> with_reducible rfl); simp only [List.getElem_toArray, List.getElem_cons_zero, List.getElem_cons_succ, Act.put, List.setIfInBounds_toArray, List.set_cons_zero, List.set_cons_succ])
      (refine plan_make rfl (by rfl) (fun K hK => ?_); go_simp; refine (refput_any v hv _).mono ?_; rintro e w' ⟨Ax, cx, rfl, hcx, hrx, hbx⟩; have hs := run_str_later (P := Try.prog) (dst := 9) (cap := cx) Try.underlying23 Try.underlying5 Try.underlying9 hrx; refine hK.out _ _ hbx ?_; clear hK K; replace hBase := below_step hBase hbx)
      iterate 6 (refine plan_read rfl (by rfl) (v := ?_) ?_ ?_; rotate_left 1; (intro W hW; have hW0 := below_step hBase hW; go_simp <;> with_reducible rfl); simp only [List.getElem_toArray, List.getElem_cons_zero, List.getElem_cons_succ, Act.put, List.setIfInBounds_toArray, List.set_cons_zero, List.set_cons_succ])
      (refine plan_make rfl (by rfl) (fun K hK => ?_); go_simp; refine (least_any v hv _).mono ?_; rintro e w' ⟨Ax, cx, rfl, hcx, hrx, hbx⟩; have hs := run_str_later (P := Try.prog) (dst := 9) (cap := cx) Try.underlying23 Try.underlying5 Try.underlying9 hrx; refine hK.out _ _ hbx ?_; clear hK K; replace hBase := below_step hBase hbx)
      iterate 1 (refine plan_read rfl (by rfl) (v := ?_) ?_ ?_; rotate_left 1; (intro W hW; have hW0 := below_step hBase hW; go_simp <;> with_reducible rfl); simp only [List.getElem_toArray, List.getElem_cons_zero, List.getElem_cons_succ, Act.put, List.setIfInBounds_toArray, List.set_cons_zero, List.set_cons_succ])
      (refine plan_make rfl (by rfl) (fun K hK => ?_); go_simp; refine (refleast_any v hv _).mono ?_; rintro e w' ⟨Ax, cx, rfl, hcx, hrx, hbx⟩; have hs := run_str_later (P := Try.prog) (dst := 9) (cap := cx) Try.underlying23 Try.underlying5 Try.underlying9 hrx; refine hK.out _ _ hbx ?_; clear hK K; replace hBase := below_step hBase hbx)
      iterate 4 (refine plan_read rfl (by rfl) (v := ?_) ?_ ?_; rotate_left 1; (intro W hW; have hW0 := below_step hBase hW; go_simp <;> with_reducible rfl); simp only [List.getElem_toArray, List.getElem_cons_zero, List.getElem_cons_succ, Act.put, List.setIfInBounds_toArray, List.set_cons_zero, List.set_cons_succ])
      refine plan_done ?_
      go_wp2_with fail
      go_ret
      exact ⟨rfl, below_step hB hBase⟩
end Go.Proofs.Ytafcigfncibohaa
