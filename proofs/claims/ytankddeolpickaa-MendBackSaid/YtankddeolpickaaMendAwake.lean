/-
  What the call awake of layer 10's statements answers: true. No conditions.
-/
import Derived.Test.YtankddeolpickaaMendCalls
import Derived.Test.YtankddeolpickaaStr
import Derived.Test.YtankddeolpickaaNewFr
import Derived.Lib.SmallJoins
import Derived.Lib.SlBytesConst
namespace Go.Proofs.Ytankddeolpickaa
set_option maxRecDepth 100000
open Go.RowKit
set_option linter.unusedSimpArgs false
set_option linter.unusedVariables false

theorem mw_put : putS [103, 97, 116, 101] 4 = [103, 97, 116, 101, 78, 216, 62, 31] := by decide +kernel
theorem mw_mend : mendS [103, 102, 116, 101, 78, 216, 246, 31] 4 = ([103, 97, 116, 101, 78, 216, 62, 31], 2, 0) := by
  have h := putS_fine [103, 97, 116, 101] 4 (by decide)
  rw [mw_put] at h
  have hd : difL [103, 102, 116, 101, 78, 216, 246, 31] [103, 97, 116, 101, 78, 216, 62, 31] = 2 := by decide +kernel
  have := mendS_near (b := [103, 102, 116, 101, 78, 216, 246, 31]) (a := [103, 97, 116, 101, 78, 216, 62, 31]) (n := 4) (by decide) (by decide) ⟨rfl, h, by rw [hd]; decide⟩
  rw [hd] at this
  exact this
theorem mw_bad : mendS [103, 102, 116, 100, 78, 216, 246, 31] 66 = ([], 0, 1) := mendS_bad (b := [103, 102, 116, 100, 78, 216, 246, 31]) (n := 66) (by decide)
theorem mw_most : mostN 10 = 5 := by decide
theorem strS (n : Nat) {w : World} {A : Option Addr} {l : List UInt8} {c : Nat} (H : Hid (l.length = n)) (h : Rd vB w A l) : ∀ W, Below w.heap.size w W → (convert 22 9 (.slice A n c)).run Try.prog W = .ok (.string (strL l)) W :=
  fun W hW => run_str W _ _ _ Try.underlying22 Try.underlying5 Try.underlying9 A l n c H.out (h.keep hW)

set_option maxRecDepth 100000 in
set_option maxHeartbeats 2000000 in
theorem awake10_any (w : World) : Calls Try.prog 6 #[] w fun e w' => e = .returned (.bool true) ∧ Below w.heap.size w w' := by
  obtain ⟨i0, hi, hz0, hz1, hz2⟩ := info_parts info_u8
  have hcv := Lib.run_convert_bytes_const (P := Try.prog) w 22 5 #[.int .u8 103, .int .u8 97, .int .u8 116, .int .u8 101] 4 4 Try.underlying22 Try.underlying5
  go_enter Try.func6, Try.ntmps6
  go_wp2_with fail
  clear hcv
  have hl0 : Rd vB (w.alloc (.cells #[.int .u8 103, .int .u8 97, .int .u8 116, .int .u8 101] 5 (4, 5))) (some ⟨w.heap.size, 0, none⟩) [103, 97, 116, 101] := Rd.new_fr w _ rfl _ _ _ _ rfl
  have hb0 := below_new (Below.refl _ w) (.cells #[.int .u8 103, .int .u8 97, .int .u8 116, .int .u8 101] 5 (4, 5))
  refine (putS_ok [103, 97, 116, 101] 4 4 _ _ _ (Lib.hid rfl) hl0 (by omega) (by omega) (by omega) (by omega)).mono ?_
  rintro e w1 ⟨A1, n1, c1, rfl, HN1, hc1, hr1, hb1⟩
  rw [mw_put] at HN1 hr1
  have en1 : n1 = 8 := HN1.out.symm
  subst en1
  have hB := below_step hb0 hb1
  clear hb0 hb1 hl0
  have hown0 : (w1.alloc (.cells #[] 5)).ownsRow w1.heap.size 5 1 (.slice (some ⟨w1.heap.size, 0, none⟩) 0 0) 0 [] := World.ownsRow_made w1 #[] 0 (Nat.le_refl _) (by unfold maxLen; omega) rfl
  have hB0 := below_new (Below.refl _ w1) (.cells #[] 5)
  have hrX0 := hr1.keep hB0
  go_upto_region 5 with (at_builtin; refine wpList_append_rd _ rfl (.tmp 19) (.tmp 20) 22 rfl w1.heap.size 5 i0 (.int .u8 0) 1 Try.underlying22 hi hz0 hz1 hz2 rfl _ _ _ rfl hown0 A1 [103, 97, 116, 101, 78, 216, 62, 31] c1 rfl hrX0 vB_one (by unfold maxLen; simp) (by simp) (by simp) ?_; intro v4 w4 hown4 hgrow4)
  have hown5 : w4.ownsRow w1.heap.size 5 1 v4 8 (([103, 97, 116, 101, 78, 216, 62, 31] : List UInt8).map vB) := hown4
  have hb4 : Below w1.heap.size w1 w4 := hB0.grown hgrow4 (by simp) (fun k hk => (hown0.lt k hk).1)
  obtain ⟨A4, c4, rfl, hc4⟩ := own_form hown5
  obtain ⟨g, rfl, hg, hcel0⟩ := cel_of_own hown5 rfl (by decide)
  have q1 : w4.cell? ⟨g, 1, none⟩ = some (.int .u8 97) := hcel0.get 1 (by decide)
  have f1 := hcel0.frozen 1
  have hcel1 : Cel (w4.setCell ⟨g, 1, none⟩ (.int .u8 102)) g 5 [103, 102, 116, 101, 78, 216, 62, 31] := hcel0.set 1 102
  have q2 : (w4.setCell ⟨g, 1, none⟩ (.int .u8 102)).cell? ⟨g, 6, none⟩ = some (.int .u8 62) := hcel1.get 6 (by decide)
  have f2 := hcel1.frozen 6
  have hcel2 : Cel ((w4.setCell ⟨g, 1, none⟩ (.int .u8 102)).setCell ⟨g, 6, none⟩ (.int .u8 246)) g 5 [103, 102, 116, 101, 78, 216, 246, 31] := hcel1.set 6 246
  have hb6 : Below w1.heap.size w1 ((w4.setCell ⟨g, 1, none⟩ (.int .u8 102)).setCell ⟨g, 6, none⟩ (.int .u8 246)) := (hb4.setCell (p := ⟨g, 1, none⟩) hg _).setCell (p := ⟨g, 6, none⟩) hg _
  have x1 : bits .xor .u8 97 7 = 102 := by decide
  have x2 : bits .xor .u8 62 200 = 246 := by decide
  have HX := Lib.hid hcel2
  clear hown0 hown4 hown5 hgrow4 hB0 hrX0 hcel0 hcel1 hb4 hcel2
  go_wp2_with fail
  clear q1 q2 f1 f2 x1 x2
  generalize (w4.setCell ⟨g, 1, none⟩ (.int .u8 102)).setCell ⟨g, 6, none⟩ (.int .u8 246) = w6 at HX hb6 ⊢
  have hgs : g < w6.heap.size := HX.out.lt
  have hB6 := below_step hB hb6
  have hgw : w.heap.size ≤ g := Nat.le_trans hB.size hg
  refine ((mendM_any [103, 102, 116, 101, 78, 216, 246, 31] 8 4 (some ⟨g, 0, none⟩) c4 w6 (Lib.hid rfl) HX.out.rd hc4 (by omega)).mono (fun _ _ h => h.to _ 2 2 0 mw_mend rfl)).mono ?_
  rintro e w7 ⟨A7, n7, c7, rfl, HN7, hc7, hr7, hb7, ha7⟩
  have en7 : n7 = 8 := HN7.out.symm
  subst en7
  have hcel7 := HX.out.later hb7
  have hb17 := below_step hb6 hb7
  have hB7 := below_step hB6 hb7
  clear hb6 hb7 HX hB6
  have q1 : w7.cell? ⟨g, 3, none⟩ = some (.int .u8 101) := hcel7.get 3 (by decide)
  have f1 := hcel7.frozen 3
  have hcel8 : Cel (w7.setCell ⟨g, 3, none⟩ (.int .u8 100)) g 5 [103, 102, 116, 100, 78, 216, 246, 31] := hcel7.set 3 100
  have x1 : bits .xor .u8 101 1 = 100 := by decide
  have hO : Only g w7 (w7.setCell ⟨g, 3, none⟩ (.int .u8 100)) := (Only.refl g w7).setCell 3 _
  have hr7' := hr7.only hO (fun _ a ha => by have := ha7 a ha; omega)
  have hb8 : Below w1.heap.size w1 (w7.setCell ⟨g, 3, none⟩ (.int .u8 100)) := hb17.setCell (p := ⟨g, 3, none⟩) hg _
  have hB8 : Below w.heap.size w (w7.setCell ⟨g, 3, none⟩ (.int .u8 100)) := hB7.setCell (p := ⟨g, 3, none⟩) hgw _
  have hgs8 : g < (w7.setCell ⟨g, 3, none⟩ (.int .u8 100)).heap.size := hcel8.lt
  clear hcel7 hO ha7 hr7 hb17 hB7 hgs
  go_wp2_with fail
  clear q1 f1 x1
  generalize w7.setCell ⟨g, 3, none⟩ (.int .u8 100) = w8 at hcel8 hr7' hb8 hB8 ⊢
  refine ((mendM_any [103, 102, 116, 100, 78, 216, 246, 31] 8 66 (some ⟨g, 0, none⟩) c4 w8 (Lib.hid rfl) hcel8.rd hc4 (by omega)).mono (fun _ _ h => h.to _ 0 0 1 mw_bad rfl)).mono ?_
  rintro e w9 ⟨A9, n9, c9, rfl, HN9, hc9, hr9, hb9, ha9⟩
  have en9 : n9 = 0 := HN9.out.symm
  subst en9
  have hB9 := below_step hB8 hb9
  have hrA := hr1.keep (below_step hb8 hb9)
  have hrB := hr7'.keep hb9
  have hs1 : (convert 22 9 (.slice A1 8 c1)).run Try.prog w9 = .ok (.string ⟨#[103, 97, 116, 101, 78, 216, 62, 31]⟩) w9 := run_str _ _ _ _ Try.underlying22 Try.underlying5 Try.underlying9 _ [103, 97, 116, 101, 78, 216, 62, 31] 8 c1 rfl hrA
  have hs2 : (convert 22 9 (.slice A7 8 c7)).run Try.prog w9 = .ok (.string ⟨#[103, 97, 116, 101, 78, 216, 62, 31]⟩) w9 := run_str _ _ _ _ Try.underlying22 Try.underlying5 Try.underlying9 _ [103, 97, 116, 101, 78, 216, 62, 31] 8 c7 rfl hrB
  have hmo := mostM_any 10 w9
  rw [mw_most] at hmo
  have HMO := Lib.hid hmo
  clear hmo hb8 hb9 hB8 hr9 hr1 hr7' hcel8
  go_wp2_with fail
  clear hs1 hs2
  refine HMO.out.mono ?_
  rintro e w10 ⟨rfl, rfl⟩
  go_wp2_with fail
  go_ret
  exact ⟨rfl, hB9⟩
end Go.Proofs.Ytankddeolpickaa
