/-
  What the call awake of layer 5's statements answers: true. No conditions.
-/
import Derived.Test.YtppdfldmbfddnaaTermCalls
import Derived.Test.YtppdfldmbfddnaaNewFr
import Derived.Lib.SmallJoins
import Derived.Lib.SlBytesConst
import Derived.Deep.DeepCutAuto
namespace Go.Proofs.Ytppdfldmbfddnaa
open Go.RowKit
set_option linter.unusedSimpArgs false
set_option linter.unusedVariables false

def aK : List UInt8 := [107]
def aM : List UInt8 := [109]
def aN : List UInt8 := [110]
theorem aw_1 : putT [] (aK, aM) = [(aK, aM)] := by decide +kernel
theorem aw_2 : putT [(aK, aM)] (aK, aN) = [(aK, aM), (aK, aN)] := by decide +kernel
theorem aw_3 : putT [(aK, aM), (aK, aN)] (aK, aM) = [(aK, aM), (aK, aN)] := by decide +kernel
theorem aw_t1 : tagT [] (aK, aM) = [0, 0, 0, 0, 0, 0, 0, 1] := by decide +kernel
theorem aw_t2 : tagT [(aK, aM)] (aK, aN) = [0, 0, 0, 0, 0, 0, 0, 2] := by decide +kernel
theorem aw_t3 : tagT [(aK, aM), (aK, aN)] (aK, aM) = [0, 0, 0, 0, 0, 0, 0, 1] := by decide +kernel
theorem aw_o : ofT [(aK, aM), (aK, aN)] [0, 0, 0, 0, 0, 0, 0, 2] = ((aK, aN), 0) := by decide +kernel
theorem aw_z : ofT [(aK, aM), (aK, aN)] (List.replicate 8 0) = (([], []), 7) := by decide +kernel
theorem aw_r : rightT [(aK, aM), (aK, aN)] = true := by decide +kernel
theorem aw_p : plI [(aK, aM), (aK, aN)] (aK, aN) = 1 := by decide +kernel
theorem aw_l1 : lenT [(aK, aM)] := by
  intro x hx
  simp at hx
  subst hx
  decide
theorem aw_l2 : lenT [(aK, aM), (aK, aN)] := by
  intro x hx
  simp at hx
  rcases hx with rfl | rfl <;> decide
theorem aw_s1 : strL [0, 0, 0, 0, 0, 0, 0, 1] = ⟨#[0, 0, 0, 0, 0, 0, 0, 1]⟩ := rfl
/-- Two small texts, each a literal of its own. -/
def two1 (w : World) (a : UInt8) : World := w.alloc (.cells #[vB a] 5 (1, 2))
theorem two_rd (w : World) (a b : UInt8) : Rd vB ((w.alloc (.cells #[vB a] 5 (1, 2))).alloc (.cells #[vB b] 5 (1, 2))) (some ⟨w.heap.size, 0, none⟩) [a] ∧ Rd vB ((w.alloc (.cells #[vB a] 5 (1, 2))).alloc (.cells #[vB b] 5 (1, 2))) (some ⟨w.heap.size + 1, 0, none⟩) [b] ∧ Below w.heap.size w ((w.alloc (.cells #[vB a] 5 (1, 2))).alloc (.cells #[vB b] 5 (1, 2))) :=
  ⟨(Rd.new_fr w _ rfl _ _ _ _ rfl).keep (below_new (Below.refl _ _) _), Rd.new_fr _ _ (by simp) _ _ _ _ rfl, below_new (below_new (Below.refl _ _) _) _⟩

set_option maxRecDepth 100000 in
set_option maxHeartbeats 1000000 in
theorem awake5_any (w : World) : Calls Try.prog 5 #[] w fun e w' => e = .returned (.bool true) ∧ Below w.heap.size w w' := by
  have hcv1 := Lib.run_convert_bytes_const (P := Try.prog) w 23 5 #[.int .u8 107] 1 1 Try.underlying23 Try.underlying5
  have hcv2 := Joins.run_convert_bytes_const_at (P := Try.prog) (w.alloc (.cells #[.int .u8 107] 5 (1, 2))) 23 5 #[.int .u8 109] 1 1 (w.heap.size + 1) (by simp) Try.underlying23 Try.underlying5
  go_enter Try.func5, Try.ntmps5
  go_wp2_with fail
  clear hcv1 hcv2
  obtain ⟨hk, hm, hB⟩ := two_rd w 107 109
  refine (put_anyT [] aK aM 0 1 1 none _ _ 0 _ _ _ (Lib.hid rfl) (Lib.hid rfl) (Lib.hid rfl) (Lib.hid lenT.nil) RdT.nil (fun x hx => by cases hx) (by exact hk) (by exact hm) (by omega) (by omega) (by omega) (by omega)).mono ?_
  rintro e w1 ⟨us1, p1, A1, c1, tA1, tc1, rfl, HP1, hc1, htc1, ht1, hok1, HC1, hg1, hb1⟩
  have hC1 : conT us1 = [(aK, aM)] := by rw [HC1.out]; exact aw_1
  have hp1 : p1 = 1 := by rw [← HP1.out, ← conT_length, hC1]; rfl
  subst hp1
  have hg1' : Rd vB w1 tA1 [0, 0, 0, 0, 0, 0, 0, 1] := by rw [← aw_t1]; exact hg1
  replace hB := below_step hB hb1
  clear hb1 HC1 hk hm hg1
  have hcv1 := Lib.run_convert_bytes_const (P := Try.prog) w1 23 5 #[.int .u8 107] 1 1 Try.underlying23 Try.underlying5
  have hcv2 := Joins.run_convert_bytes_const_at (P := Try.prog) (w1.alloc (.cells #[.int .u8 107] 5 (1, 2))) 23 5 #[.int .u8 110] 1 1 (w1.heap.size + 1) (by simp) Try.underlying23 Try.underlying5
  go_wp2_with fail
  clear hcv1 hcv2
  obtain ⟨hk, hm, hbx⟩ := two_rd w1 107 110
  refine (put_anyT us1 aK aN 1 1 1 A1 _ _ c1 _ _ _ HP1 (Lib.hid rfl) (Lib.hid rfl) (by unfold Hid; rw [hC1]; exact aw_l1) (ht1.keep hbx) (hok1.keep hbx) (by exact hk) (by exact hm) (by omega) hc1 (by omega) (by omega)).mono ?_
  rintro e w2 ⟨us2, p2, A2, c2, tA2, tc2, rfl, HP2, hc2, htc2, ht2, hok2, HC2, hg2, hb2⟩
  have hC2 : conT us2 = [(aK, aM), (aK, aN)] := by rw [HC2.out, hC1]; exact aw_2
  have hp2 : p2 = 2 := by rw [← HP2.out, ← conT_length, hC2]; rfl
  subst hp2
  have hg2' : Rd vB w2 tA2 [0, 0, 0, 0, 0, 0, 0, 2] := by rw [← aw_t2, ← hC1]; exact hg2
  have hb := below_step hbx hb2
  replace hg1' := hg1'.keep hb
  replace hB := below_step hB hb
  clear hb hb2 hbx HC2 hC1 hk hm hg2 ht1 hok1 HP1 hc1
  have hcv1 := Lib.run_convert_bytes_const (P := Try.prog) w2 23 5 #[.int .u8 107] 1 1 Try.underlying23 Try.underlying5
  have hcv2 := Joins.run_convert_bytes_const_at (P := Try.prog) (w2.alloc (.cells #[.int .u8 107] 5 (1, 2))) 23 5 #[.int .u8 109] 1 1 (w2.heap.size + 1) (by simp) Try.underlying23 Try.underlying5
  go_wp2_with fail
  clear hcv1 hcv2
  obtain ⟨hk, hm, hbx⟩ := two_rd w2 107 109
  refine (put_anyT us2 aK aM 2 1 1 A2 _ _ c2 _ _ _ HP2 (Lib.hid rfl) (Lib.hid rfl) (by unfold Hid; rw [hC2]; exact aw_l2) (ht2.keep hbx) (hok2.keep hbx) (by exact hk) (by exact hm) (by omega) hc2 (by omega) (by omega)).mono ?_
  rintro e w3 ⟨us3, p3, A3, c3, tA3, tc3, rfl, HP3, hc3, htc3, ht3, hok3, HC3, hg3, hb3⟩
  have hC3 : conT us3 = [(aK, aM), (aK, aN)] := by rw [HC3.out, hC2]; exact aw_3
  have hp3 : p3 = 2 := by rw [← HP3.out, ← conT_length, hC3]; rfl
  subst hp3
  have hg3' : Rd vB w3 tA3 [0, 0, 0, 0, 0, 0, 0, 1] := by rw [← aw_t3, ← hC2]; exact hg3
  have hb := below_step hbx hb3
  replace hg1' := hg1'.keep hb
  replace hg2' := hg2'.keep hb
  replace hB := below_step hB hb
  clear hb hb3 hbx HC3 hC2 hk hm hg3 ht2 hok2 HP2 hc2
  go_wp2_with fail
  refine (of_anyT us3 [0, 0, 0, 0, 0, 0, 0, 2] 2 8 A3 tA2 c3 tc2 _ HP3 (Lib.hid rfl) (by unfold Hid; rw [hC3]; exact aw_l2) ht3 hok3 hg2' (by omega) (by omega)).mono ?_
  rintro e w4 ⟨x, u, rfl, hx, HO, hb4⟩
  have hO := HO.out
  rw [hC3, aw_o] at hO
  injection hO with hxc hu
  subst hu
  replace ht3 := ht3.keep hb4
  replace hok3 := hok3.keep hb4
  replace hg1' := hg1'.keep hb4
  replace hg3' := hg3'.keep hb4
  replace hB := below_step hB hb4
  clear hb4 HO hg2'
  obtain ⟨xkA, xkc, xk, xmA, xmc, xm⟩ := x
  injection hxc with hxk hxm
  dsimp only at hxk hxm
  subst hxk hxm
  have hxm4 : Rd vB w4 xmA aN := hx.2.2.2
  clear hx
  unfold TD.at0 TD.at1
  dsimp only
  have hR0 : Row (w4.alloc (.cells #[.slice none 0 0, .slice none 0 0] 29)) w4.heap.size 29 [.slice none 0 0, .slice none 0 0] := Row.new w4 _ _ _ rfl
  go_upto_region 5 with (refine wpList_store_row rfl 29 (.tmp 5) (.tmp 39) rfl w4.heap.size rfl [.slice xkA aK.length xkc, .slice xmA aN.length xmc] rfl _ _ hR0 (by exact size_term) rfl (one_two _ _ rfl rfl) ?_)
  have hR1 := hR0.setRow [.slice xkA aK.length xkc, .slice xmA aN.length xmc]
  have hbn : Below w4.heap.size w4 ((w4.alloc (.cells #[.slice none 0 0, .slice none 0 0] 29)).setRow w4.heap.size [.slice xkA aK.length xkc, .slice xmA aN.length xmc].toArray) := below_setRow (below_new (Below.refl _ _) _) (Nat.le_refl _) _
  generalize (w4.alloc (.cells #[.slice none 0 0, .slice none 0 0] 29)).setRow w4.heap.size [.slice xkA aK.length xkc, .slice xmA aN.length xmc].toArray = w5 at hR1 hbn ⊢
  have hg5 := hR1.lt
  replace ht3 := ht3.keep hbn
  replace hok3 := hok3.keep hbn
  replace hg1' := hg1'.keep hbn
  replace hg3' := hg3'.keep hbn
  replace hxm4 := hxm4.keep hbn
  replace hB := below_step hB hbn
  clear hbn hR0
  generalize w4.heap.size = g5 at hR1 hg5 ⊢
  have hmk : ∀ w, (Instr.makeSlice 23 (.int .i64 8) (.int .i64 8)).run Try.prog w = .ok (.slice (some ⟨w.heap.size, 0, none⟩) 8 8) (w.alloc (.cells #[.int .u8 0, .int .u8 0, .int .u8 0, .int .u8 0, .int .u8 0, .int .u8 0, .int .u8 0, .int .u8 0] 5)) := fun _ => by kernel_rfl
  have hb6 := below_new (Below.refl _ w5) (.cells #[.int .u8 0, .int .u8 0, .int .u8 0, .int .u8 0, .int .u8 0, .int .u8 0, .int .u8 0, .int .u8 0] 5)
  have hz : Rd vB (w5.alloc (.cells #[.int .u8 0, .int .u8 0, .int .u8 0, .int .u8 0, .int .u8 0, .int .u8 0, .int .u8 0, .int .u8 0] 5)) (some ⟨w5.heap.size, 0, none⟩) (List.replicate 8 0) := Rd.new w5 _ _ _ rfl
  go_wp2_with fail
  clear hmk
  refine (of_anyT us3 (List.replicate 8 0) 2 8 A3 _ c3 _ _ HP3 (Lib.hid rfl) (by unfold Hid; rw [hC3]; exact aw_l2) (ht3.keep hb6) (hok3.keep hb6) hz (by omega) (by omega)).mono ?_
  rintro e w6 ⟨y, v, rfl, hy, HO, hb7⟩
  have hO := HO.out
  rw [hC3, aw_z] at hO
  injection hO with hyc hv
  subst hv
  have hb := below_step hb6 hb7
  replace hR1 := hR1.keep hb (by omega)
  replace ht3 := ht3.keep hb
  replace hok3 := hok3.keep hb
  replace hg1' := hg1'.keep hb
  replace hg3' := hg3'.keep hb
  replace hxm4 := hxm4.keep hb
  replace hB := below_step hB hb
  clear hb hb6 hb7 hz HO hg5 hy hyc
  have hRy : Row (w6.alloc (.cells #[.slice none 0 0, .slice none 0 0] 29)) w6.heap.size 29 [.slice none 0 0, .slice none 0 0] := Row.new w6 _ _ _ rfl
  go_upto_region 6 with (refine wpList_store_row rfl 29 (.tmp 7) (.tmp 45) rfl w6.heap.size rfl [y.at0, y.at1] rfl _ _ hRy (by exact size_term) rfl (one_two _ _ rfl rfl) ?_)
  have hbn : Below w6.heap.size w6 ((w6.alloc (.cells #[.slice none 0 0, .slice none 0 0] 29)).setRow w6.heap.size [y.at0, y.at1].toArray) := below_setRow (below_new (Below.refl _ _) _) (Nat.le_refl _) _
  generalize (w6.alloc (.cells #[.slice none 0 0, .slice none 0 0] 29)).setRow w6.heap.size [y.at0, y.at1].toArray = w7 at hbn ⊢
  replace hR1 := hR1.later hbn
  replace ht3 := ht3.keep hbn
  replace hok3 := hok3.keep hbn
  replace hg1' := hg1'.keep hbn
  replace hg3' := hg3'.keep hbn
  replace hxm4 := hxm4.keep hbn
  replace hB := below_step hB hbn
  clear hbn hRy
  have hc5 : w7.cell? ⟨g5, 1, none⟩ = some (.slice xmA aN.length xmc) := hR1.cell rfl
  have hs1 : (convert 23 9 (.slice tA1 8 tc1)).run Try.prog w7 = .ok (.string ⟨#[0, 0, 0, 0, 0, 0, 0, 1]⟩) w7 := run_str _ _ _ _ Try.underlying23 Try.underlying5 Try.underlying9 _ _ 8 tc1 rfl hg1'
  have hs3 : (convert 23 9 (.slice tA3 8 tc3)).run Try.prog w7 = .ok (.string ⟨#[0, 0, 0, 0, 0, 0, 0, 1]⟩) w7 := run_str _ _ _ _ Try.underlying23 Try.underlying5 Try.underlying9 _ _ 8 tc3 rfl hg3'
  have hsx : (convert 23 9 (.slice xmA aN.length xmc)).run Try.prog w7 = .ok (.string ⟨#[110]⟩) w7 := run_str _ _ _ _ Try.underlying23 Try.underlying5 Try.underlying9 _ aN _ xmc rfl hxm4
  clear hR1 hg1' hg3' hxm4
  go_wp2_with fail
  refine (right_anyT us3 2 A3 c3 _ HP3 (by unfold Hid; rw [hC3]; exact aw_l2) ht3 hok3 (by omega) (by omega)).mono ?_
  rintro e w8 ⟨rfl, hb8⟩
  rw [hC3, aw_r]
  replace ht3 := ht3.keep hb8
  replace hok3 := hok3.keep hb8
  replace hB := below_step hB hb8
  clear hb8 hs1 hs3 hsx hc5
  have hcv1 := Lib.run_convert_bytes_const (P := Try.prog) w8 23 5 #[.int .u8 107] 1 1 Try.underlying23 Try.underlying5
  have hcv2 := Joins.run_convert_bytes_const_at (P := Try.prog) (w8.alloc (.cells #[.int .u8 107] 5 (1, 2))) 23 5 #[.int .u8 110] 1 1 (w8.heap.size + 1) (by simp) Try.underlying23 Try.underlying5
  go_wp2_with fail
  clear hcv1 hcv2
  obtain ⟨hk, hm, hbx⟩ := two_rd w8 107 110
  refine (place_anyT us3 aK aN 2 1 1 A3 _ _ c3 _ _ _ HP3 (Lib.hid rfl) (Lib.hid rfl) (ht3.keep hbx) (hok3.keep hbx) (by exact hk) (by exact hm) (by omega) (by omega) (by omega)).mono ?_
  rintro e w9 ⟨rfl, hb9⟩
  rw [hC3, aw_p]
  replace hB := below_step hB (below_step hbx hb9)
  go_wp2_with fail
  go_ret
  exact ⟨rfl, hB⟩
end Go.Proofs.Ytppdfldmbfddnaa
