/-
  What the call awake of layer 12's statements answers: true. No conditions.
-/
import Derived.Test.YtobeaoooaagdkaaFrameCalls
import Derived.Test.YtobeaoooaagdkaaNewFr
import Derived.Lib.SlBytesConst
import Derived.Deep.DeepCutAuto
namespace Go.Proofs.Ytobeaoooaagdkaa
set_option maxRecDepth 100000
open Go.RowKit
set_option linter.unusedSimpArgs false
set_option linter.unusedVariables false

def tag8 : List UInt8 := [49, 50, 51, 52, 53, 54, 55, 56]
theorem aw_write : writeF 258 1 0 tag8 = [87, 2, 1, 2, 1, 1, 0, 49, 50, 51, 52, 53, 54, 55, 56] := by decide +kernel
theorem aw_read : readF [87, 2, 1, 2, 1, 1, 0, 49, 50, 51, 52, 53, 54, 55, 56] = (0, 258, 1, 0, tag8) := by decide +kernel
theorem aw_long : readF [87, 2, 1, 2, 1, 1, 0, 49, 50, 51, 52, 53, 54, 55, 56, 0] = (4, 0, 0, 0, []) := by decide +kernel
theorem aw_same : sameF 258 1 0 tag8 258 1 0 tag8 = true := by decide +kernel
theorem aw_msg : (msgF 1 2 3).length = 25 ∧ (msgF 1 2 3)[24]? = some 3 := by decide +kernel

set_option maxRecDepth 100000 in
set_option maxHeartbeats 4000000 in
theorem awake12_any (w : World) : Calls Try.prog 5 #[] w fun e w' => e = .returned (.bool true) ∧ Below w.heap.size w w' := by
  obtain ⟨i8, hi8, hy0, hy1, hy2⟩ := info_parts info_u8
  go_enter Try.func5, Try.ntmps5
  have hcv := Lib.run_convert_bytes_const (P := Try.prog) w 23 5 #[.int .u8 49, .int .u8 50, .int .u8 51, .int .u8 52, .int .u8 53, .int .u8 54, .int .u8 55, .int .u8 56] 8 8 Try.underlying23 Try.underlying5
  have hrt := Rd.new_fr (f := vB) w _ rfl tag8 #[.int .u8 49, .int .u8 50, .int .u8 51, .int .u8 52, .int .u8 53, .int .u8 54, .int .u8 55, .int .u8 56] 5 (8, 9) rfl
  have hR0 : Row ((w.alloc (.cells #[.int .u8 49, .int .u8 50, .int .u8 51, .int .u8 52, .int .u8 53, .int .u8 54, .int .u8 55, .int .u8 56] 5 (8, 9))).alloc (.cells #[.int .u64 0, .int .u64 0, .int .u64 0, .slice none 0 0] 25)) (w.heap.size + 1) 25 [.int .u64 0, .int .u64 0, .int .u64 0, .slice none 0 0] := Row.new_at _ _ (by simp) _ _ _ rfl
  go_upto_region 2 with (refine wpList_store_row rfl 25 (.tmp 1) (.tmp 10) rfl (w.heap.size + 1) rfl [.int .u64 258, .int .u64 1, .int .u64 0, .slice (some ⟨w.heap.size, 0, none⟩) 8 8] rfl _ _ hR0 (by exact size_pay) rfl (one_four _ _ _ _ rfl rfl rfl rfl) ?_)
  have hRp := hR0.setRow [.int .u64 258, .int .u64 1, .int .u64 0, .slice (some ⟨w.heap.size, 0, none⟩) 8 8]
  have hB1 := below_new (Below.refl w.heap.size w) (.cells #[.int .u8 49, .int .u8 50, .int .u8 51, .int .u8 52, .int .u8 53, .int .u8 54, .int .u8 55, .int .u8 56] 5 (8, 9))
  have hs1 : (w.alloc (.cells #[.int .u8 49, .int .u8 50, .int .u8 51, .int .u8 52, .int .u8 53, .int .u8 54, .int .u8 55, .int .u8 56] 5 (8, 9))).heap.size = w.heap.size + 1 := by simp
  generalize w.alloc (.cells #[.int .u8 49, .int .u8 50, .int .u8 51, .int .u8 52, .int .u8 53, .int .u8 54, .int .u8 55, .int .u8 56] 5 (8, 9)) = W1 at hrt hR0 hRp hB1 hs1 ⊢
  have hb2 : Below W1.heap.size W1 ((W1.alloc (.cells #[.int .u64 0, .int .u64 0, .int .u64 0, .slice none 0 0] 25)).setRow (w.heap.size + 1) [.int .u64 258, .int .u64 1, .int .u64 0, .slice (some ⟨w.heap.size, 0, none⟩) 8 8].toArray) := below_setRow (below_new (Below.refl _ _) _) (by omega) _
  replace hrt := hrt.keep hb2
  have hB := below_step hB1 hb2
  generalize (W1.alloc (.cells #[.int .u64 0, .int .u64 0, .int .u64 0, .slice none 0 0] 25)).setRow (w.heap.size + 1) [.int .u64 258, .int .u64 1, .int .u64 0, .slice (some ⟨w.heap.size, 0, none⟩) 8 8].toArray = W2 at hrt hRp hB ⊢
  clear hcv hR0 hB1 hs1 hb2
  go_wp2_with (refine wpList_load_part rfl 25 (.tmp 1) rfl (w.heap.size + 1) 0 rfl _ _ hRp [.int .u64 258, .int .u64 1, .int .u64 0, .slice (some ⟨w.heap.size, 0, none⟩) 8 8] (by rfl) _ Try.underlying25 rfl (by exact size_pay) ?_)
  refine (writeP_ok 258 1 0 tag8 _ 8 _ (by omega) (by omega) (by omega) (Lib.hid rfl) hrt (Nat.le_refl _)).mono ?_
  rintro e w1 ⟨A1, n1, c1, rfl, HN1, hc1, hr1, hb⟩
  rw [aw_write] at HN1 hr1
  have en1 : n1 = 15 := HN1.out.symm
  subst en1
  replace hrt := hrt.keep hb
  replace hRp := hRp.later hb
  replace hB := below_step hB hb
  clear hb
  go_upto_region 3 with fail
  go_wp2_with fail
  refine (readP_any [87, 2, 1, 2, 1, 1, 0, 49, 50, 51, 52, 53, 54, 55, 56] 15 A1 c1 _ (Lib.hid rfl) hr1 hc1 (by omega)).mono ?_
  rw [aw_read]
  rintro e w3 ⟨A3, n3, c3, rfl, HN3, hc3, hr3, hb⟩
  have en3 : n3 = 8 := HN3.out.symm
  subst en3
  have hr3' : Rd vB w3 A3 tag8 := hr3
  replace hrt := hrt.keep hb
  replace hr1 := hr1.keep hb
  replace hRp := hRp.later hb
  replace hB := below_step hB hb
  clear hb hr3 HN3
  have hR0 : Row (w3.alloc (.cells #[.int .u64 0, .int .u64 0, .int .u64 0, .slice none 0 0] 25)) w3.heap.size 25 [.int .u64 0, .int .u64 0, .int .u64 0, .slice none 0 0] := Row.new w3 _ _ _ rfl
  go_upto_region 4 with (refine wpList_store_row rfl 25 (.tmp 4) (.tmp 19) rfl w3.heap.size rfl [.int .u64 258, .int .u64 1, .int .u64 0, .slice A3 8 c3] rfl _ _ hR0 (by exact size_pay) rfl (one_four _ _ _ _ rfl rfl rfl rfl) ?_)
  have hRq := hR0.setRow [.int .u64 258, .int .u64 1, .int .u64 0, .slice A3 8 c3]
  have hb2 : Below w3.heap.size w3 ((w3.alloc (.cells #[.int .u64 0, .int .u64 0, .int .u64 0, .slice none 0 0] 25)).setRow w3.heap.size [.int .u64 258, .int .u64 1, .int .u64 0, .slice A3 8 c3].toArray) := below_setRow (below_new (Below.refl _ _) _) (Nat.le_refl _) _
  replace hrt := hrt.keep hb2
  replace hr1 := hr1.keep hb2
  replace hr3' := hr3'.keep hb2
  replace hRp := hRp.later hb2
  replace hB := below_step hB hb2
  generalize (w3.alloc (.cells #[.int .u64 0, .int .u64 0, .int .u64 0, .slice none 0 0] 25)).setRow w3.heap.size [.int .u64 258, .int .u64 1, .int .u64 0, .slice A3 8 c3].toArray = w4 at hrt hr1 hr3' hRp hRq hB ⊢
  clear hR0 hb2
  generalize w3.heap.size = gq at hRq ⊢
  have hown0 : (w4.alloc (.cells #[] 5)).ownsRow w4.heap.size 5 1 (.slice (some ⟨w4.heap.size, 0, none⟩) 0 0) 0 [] := World.ownsRow_made w4 #[] 0 (Nat.le_refl _) (by unfold maxLen; omega) rfl
  have hbn := below_new (Below.refl w4.heap.size w4) (.cells #[] 5)
  have hrn := hr1.keep hbn
  go_wp2_with (at_builtin; first
    | (refine wpList_append_rd _ rfl (.tmp 22) (.tmp 23) 23 rfl w4.heap.size 5 i8 (.int .u8 0) 1 Try.underlying23 hi8 hy0 hy1 hy2 rfl _ _ _ rfl hown0 A1 [87, 2, 1, 2, 1, 1, 0, 49, 50, 51, 52, 53, 54, 55, 56] c1 rfl hrn vB_one (by unfold maxLen; simp) (by simp) (by simp) ?_; intro v5 w5 hown5 hgrow5)
    | (refine wpList_append_own _ rfl (.tmp 24) (.tmp 25) 23 rfl w4.heap.size 5 i8 (.int .u8 0) 1 1 Try.underlying23 hi8 hy0 hy1 hy2 rfl (by decide) _ _ _ rfl (hown5.alloc _) ⟨w5.heap.size, 0, none⟩ 1 1 [.int .u8 0] rfl rfl (cell_one_new _ _ _) (by intro u hu; simp at hu; subst hu; rfl) (by unfold maxLen; simp) (by simp) (by have := hgrow5.size; simp at this ⊢; omega) ?_; intro v6 w6 hown6 hgrow6 _))
  have hb5 : Below w4.heap.size w4 w5 := hbn.grown hgrow5 (by simp) (fun k hk => (hown0.lt k hk).1)
  have hb6 : Below w4.heap.size w4 w6 := (hb5.alloc hb5.size _).grown hgrow6 (by have := hb5.size; simp; omega) (fun k hk => (hown5.lt k hk).1)
  have hown7 : w6.ownsRow w4.heap.size 5 1 v6 ([87, 2, 1, 2, 1, 1, 0, 49, 50, 51, 52, 53, 54, 55, 56, 0] : List UInt8).length (([87, 2, 1, 2, 1, 1, 0, 49, 50, 51, 52, 53, 54, 55, 56, 0] : List UInt8).map vB) := hown6
  obtain ⟨A6, c6, rfl, hc6, hr6⟩ := own_slice hown7
  replace hrt := hrt.keep hb6
  replace hr1 := hr1.keep hb6
  replace hr3' := hr3'.keep hb6
  replace hRp := hRp.later hb6
  replace hRq := hRq.later hb6
  replace hB := below_step hB hb6
  clear hown0 hbn hrn hown5 hgrow5 hown6 hgrow6 hb5 hb6 hown7
  refine (readP_any [87, 2, 1, 2, 1, 1, 0, 49, 50, 51, 52, 53, 54, 55, 56, 0] 16 A6 c6 _ (Lib.hid rfl) hr6 hc6 (by omega)).mono ?_
  rw [aw_long]
  rintro e w7 ⟨A7, n7, c7, rfl, HN7, hc7, hr7, hb⟩
  have en7 : n7 = 0 := HN7.out.symm
  subst en7
  replace hrt := hrt.keep hb
  replace hr1 := hr1.keep hb
  replace hr3' := hr3'.keep hb
  replace hRp := hRp.later hb
  replace hRq := hRq.later hb
  replace hB := below_step hB hb
  clear hb hr7 HN7 hr6
  have hR0 : Row (w7.alloc (.cells #[.int .u64 0, .int .u64 0, .int .u64 0, .slice none 0 0] 25)) w7.heap.size 25 [.int .u64 0, .int .u64 0, .int .u64 0, .slice none 0 0] := Row.new w7 _ _ _ rfl
  go_upto_region 5 with (refine wpList_store_row rfl 25 (.tmp 6) (.tmp 28) rfl w7.heap.size rfl [.int .u64 0, .int .u64 0, .int .u64 0, .slice A7 0 c7] rfl _ _ hR0 (by exact size_pay) rfl (one_four _ _ _ _ rfl rfl rfl rfl) ?_)
  have hb2 : Below w7.heap.size w7 ((w7.alloc (.cells #[.int .u64 0, .int .u64 0, .int .u64 0, .slice none 0 0] 25)).setRow w7.heap.size [.int .u64 0, .int .u64 0, .int .u64 0, .slice A7 0 c7].toArray) := below_setRow (below_new (Below.refl _ _) _) (Nat.le_refl _) _
  replace hrt := hrt.keep hb2
  replace hr1 := hr1.keep hb2
  replace hr3' := hr3'.keep hb2
  replace hRp := hRp.later hb2
  replace hRq := hRq.later hb2
  replace hB := below_step hB hb2
  generalize (w7.alloc (.cells #[.int .u64 0, .int .u64 0, .int .u64 0, .slice none 0 0] 25)).setRow w7.heap.size [.int .u64 0, .int .u64 0, .int .u64 0, .slice A7 0 c7].toArray = w8 at hrt hr1 hr3' hRp hRq hB ⊢
  clear hR0 hb2
  have hs1 : (convert 23 9 (.slice A1 15 c1)).run Try.prog w8 = .ok (.string ⟨#[87, 2, 1, 2, 1, 1, 0, 49, 50, 51, 52, 53, 54, 55, 56]⟩) w8 := run_str _ _ _ _ Try.underlying23 Try.underlying5 Try.underlying9 _ [87, 2, 1, 2, 1, 1, 0, 49, 50, 51, 52, 53, 54, 55, 56] 15 c1 rfl hr1
  have cp0 : w8.cell? ⟨w.heap.size + 1, 0, none⟩ = some (.int .u64 258) := hRp.cell rfl
  have cp1 : w8.cell? ⟨w.heap.size + 1, 1, none⟩ = some (.int .u64 1) := hRp.cell rfl
  have cp2 : w8.cell? ⟨w.heap.size + 1, 2, none⟩ = some (.int .u64 0) := hRp.cell rfl
  have cp3 : w8.cell? ⟨w.heap.size + 1, 3, none⟩ = some (.slice (some ⟨w.heap.size, 0, none⟩) 8 8) := hRp.cell rfl
  have cq0 : w8.cell? ⟨gq, 0, none⟩ = some (.int .u64 258) := hRq.cell rfl
  have cq1 : w8.cell? ⟨gq, 1, none⟩ = some (.int .u64 1) := hRq.cell rfl
  have cq2 : w8.cell? ⟨gq, 2, none⟩ = some (.int .u64 0) := hRq.cell rfl
  have cq3 : w8.cell? ⟨gq, 3, none⟩ = some (.slice A3 8 c3) := hRq.cell rfl
  go_wp2_with fail
  refine (refsame_pay 258 1 0 258 1 0 tag8 tag8 8 8 _ A3 8 c3 _ (Lib.hid rfl) (Lib.hid rfl) hrt hr3').mono ?_
  rintro e w9 ⟨rfl, hb⟩
  rw [aw_same]
  replace hrt := hrt.keep hb
  replace hRp := hRp.later hb
  replace hB := below_step hB hb
  clear hb hs1 cp0 cp1 cp2 cp3 cq0 cq1 cq2 cq3
  go_wp2_with fail
  refine (msgP_any 1 2 3 _ (by omega) (by omega) (by omega)).mono ?_
  rintro e w10 ⟨A10, n10, c10, rfl, HN10, hc10, hr10, hb⟩
  have en10 : n10 = 25 := by rw [← HN10.out]; exact aw_msg.1
  subst en10
  replace hrt := hrt.keep hb
  replace hRp := hRp.later hb
  replace hB := below_step hB hb
  clear hb hr10
  go_wp2_with fail
  refine (msgP_any 1 2 3 _ (by omega) (by omega) (by omega)).mono ?_
  rintro e w11 ⟨A11, n11, c11, rfl, HN11, hc11, hr11, hb⟩
  have en11 : n11 = 25 := by rw [← HN11.out]; exact aw_msg.1
  subst en11
  replace hrt := hrt.keep hb
  replace hRp := hRp.later hb
  replace hB := below_step hB hb
  have h24 : 24 < (msgF 1 2 3).length := by rw [aw_msg.1]; omega
  obtain ⟨gm, om, rfl, hgm, hcm⟩ := hr11.at h24
  have hc24 : w11.cell? ⟨gm, om + 24, none⟩ = some (.int .u8 3) := by
    have := hcm 24 h24
    rw [this]
    have e3 := aw_msg.2
    rw [List.getElem?_eq_getElem h24] at e3
    injection e3 with e3
    rw [e3]
    rfl
  clear hb hr11 hcm
  have cp0 : w11.cell? ⟨w.heap.size + 1, 0, none⟩ = some (.int .u64 258) := hRp.cell rfl
  have cp1 : w11.cell? ⟨w.heap.size + 1, 1, none⟩ = some (.int .u64 1) := hRp.cell rfl
  have cp2 : w11.cell? ⟨w.heap.size + 1, 2, none⟩ = some (.int .u64 0) := hRp.cell rfl
  have cp3 : w11.cell? ⟨w.heap.size + 1, 3, none⟩ = some (.slice (some ⟨w.heap.size, 0, none⟩) 8 8) := hRp.cell rfl
  go_wp2_with fail
  refine (rightP_any 258 1 0 tag8 8 _ 8 _ (Lib.hid rfl) hrt (Nat.le_refl _) (by omega)).mono ?_
  rintro e w12 ⟨rfl, hb⟩
  replace hB := below_step hB hb
  have hd : decide ((8 : Nat) = 8) = true := rfl
  rw [hd]
  go_wp2_with fail
  go_ret
  exact ⟨rfl, hB⟩
end Go.Proofs.Ytobeaoooaagdkaa
