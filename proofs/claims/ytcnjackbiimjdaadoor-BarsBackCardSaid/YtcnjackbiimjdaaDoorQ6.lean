/-
  What the call awake of layer 13's statements answers: true. Condition: errors.errorType holds the handle of the type error (EtC).
-/
import Derived.Test.YtcnjackbiimjdaaDoorQ5
import Derived.Lib.SlBytesConst
import Derived.Deep.DeepCutAuto
import Derived.StillTailTactics
import Derived.BigQuiet
import Derived.ProofKit
import Derived.OpenShut
import Derived.Deep.Slices
import Derived.Deep.Strs
import Derived.Test.YtcnjackbiimjdaaDoorRows
import Derived.LaidLaws
import Derived.LaidHandle
namespace Go.Proofs.YtcnjackbiimjdaaDoor
set_option maxRecDepth 100000
open Go.RowKit
set_option linter.unusedSimpArgs false
set_option linter.unusedVariables false

def tag8B : List UInt8 := [49, 50, 51, 52, 53, 54, 55, 56]
theorem bw_make : barL 7 1 300 tag8B = [87, 1, 131, 128, 128, 129, 1, 75, 12, 76, 140, 205, 13, 77, 141, 206, 63, 201, 218, 207, 117, 13, 72, 16, 108, 238, 59] := by decide +kernel
theorem bw_read : barsL [86, 1, 131, 128, 128, 129, 1, 75, 12, 179, 140, 205, 13, 77, 141, 206, 63, 201, 218, 207, 117, 13, 72, 16, 108, 238, 59] = ((0, 7, 1, 300, tag8B), 2, 0) := by
  have hd : difL [86, 1, 131, 128, 128, 129, 1, 75, 12, 179, 140, 205, 13, 77, 141, 206, 63, 201, 218, 207, 117, 13, 72, 16, 108, 238, 59] [87, 1, 131, 128, 128, 129, 1, 75, 12, 76, 140, 205, 13, 77, 141, 206, 63, 201, 218, 207, 117, 13, 72, 16, 108, 238, 59] = 2 := by decide +kernel
  have h := bars_near (t := 7) (e := 1) (c := 300) (tag := tag8B) (by decide) (by decide) (by decide) rfl [86, 1, 131, 128, 128, 129, 1, 75, 12, 179, 140, 205, 13, 77, 141, 206, 63, 201, 218, 207, 117, 13, 72, 16, 108, 238, 59] (by rw [bw_make]; rfl) (by rw [bw_make, hd]; decide)
  rw [bw_make, hd] at h
  exact h
theorem bw_none : barsL [] = ((2, 0, 0, 0, []), 0, 1) := by
  have h := mendS_bad (b := []) (n := 10) (by decide)
  unfold barsL
  rw [h]
  rfl
theorem bw_same : sameF 7 1 300 tag8B 7 1 300 tag8B = true := by decide +kernel

set_option maxRecDepth 100000 in
set_option maxHeartbeats 8000000 in
theorem awake13_any (w : World) (hg : EtC w) : Calls Tryd.prog 5 #[] w fun e w' => e = .returned (.bool true) ∧ Below w.heap.size w w' := by
  obtain ⟨i0, hi, hz0, hz1, hz2⟩ := info_parts info_u8
  go_enter Tryd.func5, Tryd.ntmps5
  have hcv := Lib.run_convert_bytes_const (P := Tryd.prog) w 23 5 #[.int .u8 49, .int .u8 50, .int .u8 51, .int .u8 52, .int .u8 53, .int .u8 54, .int .u8 55, .int .u8 56] 8 8 Tryd.underlying23 Tryd.underlying5
  have hrt := Rd.new_fr (f := vB) w _ rfl tag8B #[.int .u8 49, .int .u8 50, .int .u8 51, .int .u8 52, .int .u8 53, .int .u8 54, .int .u8 55, .int .u8 56] 5 (8, 9) rfl
  have hR0 : Row ((w.alloc (.cells #[.int .u8 49, .int .u8 50, .int .u8 51, .int .u8 52, .int .u8 53, .int .u8 54, .int .u8 55, .int .u8 56] 5 (8, 9))).alloc (.cells #[.int .u64 0, .int .u64 0, .int .u64 0, .slice none 0 0] 25)) (w.heap.size + 1) 25 [.int .u64 0, .int .u64 0, .int .u64 0, .slice none 0 0] := Row.new_at _ _ (by simp) _ _ _ rfl
  go_upto_region 2 with (refine wpList_store_row rfl 25 (.tmp 1) (.tmp 15) rfl (w.heap.size + 1) rfl [.int .u64 7, .int .u64 1, .int .u64 300, .slice (some ⟨w.heap.size, 0, none⟩) 8 8] rfl _ _ hR0 (by exact size_pay') rfl (one_four _ _ _ _ rfl rfl rfl rfl) ?_)
  have hRp := hR0.setRow [.int .u64 7, .int .u64 1, .int .u64 300, .slice (some ⟨w.heap.size, 0, none⟩) 8 8]
  have hB1 := below_new (Below.refl w.heap.size w) (.cells #[.int .u8 49, .int .u8 50, .int .u8 51, .int .u8 52, .int .u8 53, .int .u8 54, .int .u8 55, .int .u8 56] 5 (8, 9))
  have hs1 : (w.alloc (.cells #[.int .u8 49, .int .u8 50, .int .u8 51, .int .u8 52, .int .u8 53, .int .u8 54, .int .u8 55, .int .u8 56] 5 (8, 9))).heap.size = w.heap.size + 1 := by simp
  generalize w.alloc (.cells #[.int .u8 49, .int .u8 50, .int .u8 51, .int .u8 52, .int .u8 53, .int .u8 54, .int .u8 55, .int .u8 56] 5 (8, 9)) = W1 at hrt hR0 hRp hB1 hs1 ⊢
  have hb2 : Below W1.heap.size W1 ((W1.alloc (.cells #[.int .u64 0, .int .u64 0, .int .u64 0, .slice none 0 0] 25)).setRow (w.heap.size + 1) [.int .u64 7, .int .u64 1, .int .u64 300, .slice (some ⟨w.heap.size, 0, none⟩) 8 8].toArray) := below_setRow (below_new (Below.refl _ _) _) (by omega) _
  replace hrt := hrt.keep hb2
  have hB := below_step hB1 hb2
  generalize (W1.alloc (.cells #[.int .u64 0, .int .u64 0, .int .u64 0, .slice none 0 0] 25)).setRow (w.heap.size + 1) [.int .u64 7, .int .u64 1, .int .u64 300, .slice (some ⟨w.heap.size, 0, none⟩) 8 8].toArray = W2 at hrt hRp hB ⊢
  clear hcv hR0 hB1 hs1 hb2
  replace hg := hg.later hB
  go_wp2_with (refine wpList_load_part rfl 25 (.tmp 1) rfl (w.heap.size + 1) 0 rfl _ _ hRp [.int .u64 7, .int .u64 1, .int .u64 300, .slice (some ⟨w.heap.size, 0, none⟩) 8 8] (by rfl) _ Tryd.underlying25 rfl (by exact size_pay') ?_)
  refine (makeB_ok 7 1 300 tag8B _ 8 _ (by omega) (by omega) (by omega) (Lib.hid rfl) hrt (Nat.le_refl _) hg).mono ?_
  rintro e w1 ⟨A1, n1, c1, rfl, HN1, hc1, hr1, hb⟩
  rw [bw_make] at HN1 hr1
  have en1 : n1 = 27 := HN1.out.symm
  subst en1
  replace hg := hg.later hb
  replace hrt := hrt.keep hb
  replace hRp := hRp.later hb
  replace hB := below_step hB hb
  clear hb
  have hown0 : (w1.alloc (.cells #[] 5)).ownsRow w1.heap.size 5 1 (.slice (some ⟨w1.heap.size, 0, none⟩) 0 0) 0 [] := World.ownsRow_made w1 #[] 0 (Nat.le_refl _) (by unfold maxLen; omega) rfl
  have hB0 := below_new (Below.refl _ w1) (.cells #[] 5)
  have hrX0 := hr1.keep hB0
  go_upto_region 6 with (at_builtin; refine wpList_append_rd _ rfl (.tmp 24) (.tmp 25) 23 rfl w1.heap.size 5 i0 (.int .u8 0) 1 Tryd.underlying23 hi hz0 hz1 hz2 rfl _ _ _ rfl hown0 A1 [87, 1, 131, 128, 128, 129, 1, 75, 12, 76, 140, 205, 13, 77, 141, 206, 63, 201, 218, 207, 117, 13, 72, 16, 108, 238, 59] c1 rfl hrX0 vB_one (by unfold maxLen; simp) (by simp) (by simp) ?_; intro v4 w4 hown4 hgrow4)
  have hown5 : w4.ownsRow w1.heap.size 5 1 v4 27 (([87, 1, 131, 128, 128, 129, 1, 75, 12, 76, 140, 205, 13, 77, 141, 206, 63, 201, 218, 207, 117, 13, 72, 16, 108, 238, 59] : List UInt8).map vB) := hown4
  have hb4 : Below w1.heap.size w1 w4 := hB0.grown hgrow4 (by simp) (fun k hk => (hown0.lt k hk).1)
  obtain ⟨A4, c4, rfl, hc4⟩ := own_form hown5
  obtain ⟨g, rfl, hgg, hcel0⟩ := cel_of_own hown5 rfl (by decide)
  have q1 : w4.cell? ⟨g, 0, none⟩ = some (.int .u8 87) := hcel0.get 0 (by decide)
  have f1 := hcel0.frozen 0
  have hcel1 : Cel (w4.setCell ⟨g, 0, none⟩ (.int .u8 86)) g 5 [86, 1, 131, 128, 128, 129, 1, 75, 12, 76, 140, 205, 13, 77, 141, 206, 63, 201, 218, 207, 117, 13, 72, 16, 108, 238, 59] := hcel0.set 0 86
  have q2 : (w4.setCell ⟨g, 0, none⟩ (.int .u8 86)).cell? ⟨g, 9, none⟩ = some (.int .u8 76) := hcel1.get 9 (by decide)
  have f2 := hcel1.frozen 9
  have hcel2 : Cel ((w4.setCell ⟨g, 0, none⟩ (.int .u8 86)).setCell ⟨g, 9, none⟩ (.int .u8 179)) g 5 [86, 1, 131, 128, 128, 129, 1, 75, 12, 179, 140, 205, 13, 77, 141, 206, 63, 201, 218, 207, 117, 13, 72, 16, 108, 238, 59] := hcel1.set 9 179
  have hb6 : Below w1.heap.size w1 ((w4.setCell ⟨g, 0, none⟩ (.int .u8 86)).setCell ⟨g, 9, none⟩ (.int .u8 179)) := (hb4.setCell (p := ⟨g, 0, none⟩) hgg _).setCell (p := ⟨g, 9, none⟩) hgg _
  have x1 : bits .xor .u8 87 1 = 86 := by decide
  have x2 : bits .xor .u8 76 255 = 179 := by decide
  have HX := Lib.hid hcel2
  clear hown0 hown4 hown5 hgrow4 hB0 hrX0 hcel0 hcel1 hb4 hcel2
  go_upto_region 8 with fail
  clear q1 q2 f1 f2 x1 x2
  generalize (w4.setCell ⟨g, 0, none⟩ (.int .u8 86)).setCell ⟨g, 9, none⟩ (.int .u8 179) = w6 at HX hb6 ⊢
  replace hg := hg.later hb6
  replace hrt := hrt.keep hb6
  replace hRp := hRp.later hb6
  replace hB := below_step hB hb6
  clear hb6
  go_wp2_with fail
  refine (readB_ok [86, 1, 131, 128, 128, 129, 1, 75, 12, 179, 140, 205, 13, 77, 141, 206, 63, 201, 218, 207, 117, 13, 72, 16, 108, 238, 59] 7 1 300 tag8B 2 27 (some ⟨g, 0, none⟩) c4 w6 (Lib.hid rfl) HX.out.rd hc4 (by omega) hg (Lib.hid bw_read)).mono ?_
  rintro e w7 ⟨A7, m7, k7, rfl, HN7, hk7, hr7, hb⟩
  have em7 : m7 = 8 := HN7.out.symm
  subst em7
  replace hg := hg.later hb
  replace hrt := hrt.keep hb
  replace hRp := hRp.later hb
  replace hB := below_step hB hb
  clear hb HX hr1
  have hR0 : Row (w7.alloc (.cells #[.int .u64 0, .int .u64 0, .int .u64 0, .slice none 0 0] 25)) w7.heap.size 25 [.int .u64 0, .int .u64 0, .int .u64 0, .slice none 0 0] := Row.new w7 _ _ _ rfl
  go_upto_region 9 with (refine wpList_store_row rfl 25 (.tmp 5) (.tmp 40) rfl w7.heap.size rfl [.int .u64 7, .int .u64 1, .int .u64 300, .slice A7 8 k7] rfl _ _ hR0 (by exact size_pay') rfl (one_four _ _ _ _ rfl rfl rfl rfl) ?_)
  have hRq := hR0.setRow [.int .u64 7, .int .u64 1, .int .u64 300, .slice A7 8 k7]
  have hb2 : Below w7.heap.size w7 ((w7.alloc (.cells #[.int .u64 0, .int .u64 0, .int .u64 0, .slice none 0 0] 25)).setRow w7.heap.size [.int .u64 7, .int .u64 1, .int .u64 300, .slice A7 8 k7].toArray) := below_setRow (below_new (Below.refl _ _) _) (Nat.le_refl _) _
  replace hg := hg.later hb2
  replace hrt := hrt.keep hb2
  replace hr7 := hr7.keep hb2
  replace hRp := hRp.later hb2
  replace hB := below_step hB hb2
  generalize (w7.alloc (.cells #[.int .u64 0, .int .u64 0, .int .u64 0, .slice none 0 0] 25)).setRow w7.heap.size [.int .u64 7, .int .u64 1, .int .u64 300, .slice A7 8 k7].toArray = w8 at hg hrt hr7 hRp hRq hB ⊢
  clear hR0 hb2
  generalize w7.heap.size = gq at hRq ⊢
  go_wp2_with fail
  refine (readB_no [] 2 1 0 none 0 w8 (Lib.hid rfl) Rd.nil (Nat.le_refl _) (by omega) hg (Lib.hid bw_none) (by omega)).mono ?_
  rintro e w9 ⟨A9, k9, g9, rfl, hF, hb⟩
  replace hg := hg.later hb
  replace hrt := hrt.keep hb
  replace hr7 := hr7.keep hb
  replace hRp := hRp.later hb
  replace hRq := hRq.later hb
  replace hB := below_step hB hb
  clear hb
  have hR0 : Row (w9.alloc (.cells #[.int .u64 0, .int .u64 0, .int .u64 0, .slice none 0 0] 25)) w9.heap.size 25 [.int .u64 0, .int .u64 0, .int .u64 0, .slice none 0 0] := Row.new w9 _ _ _ rfl
  go_upto_region 10 with (refine wpList_store_row rfl 25 (.tmp 8) (.tmp 45) rfl w9.heap.size rfl [.int .u64 0, .int .u64 0, .int .u64 0, .slice A9 0 k9] rfl _ _ hR0 (by exact size_pay') rfl (one_four _ _ _ _ rfl rfl rfl rfl) ?_)
  have hb2 : Below w9.heap.size w9 ((w9.alloc (.cells #[.int .u64 0, .int .u64 0, .int .u64 0, .slice none 0 0] 25)).setRow w9.heap.size [.int .u64 0, .int .u64 0, .int .u64 0, .slice A9 0 k9].toArray) := below_setRow (below_new (Below.refl _ _) _) (Nat.le_refl _) _
  replace hg := hg.later hb2
  replace hF := hF.later hb2
  replace hrt := hrt.keep hb2
  replace hr7 := hr7.keep hb2
  replace hRp := hRp.later hb2
  replace hRq := hRq.later hb2
  replace hB := below_step hB hb2
  generalize (w9.alloc (.cells #[.int .u64 0, .int .u64 0, .int .u64 0, .slice none 0 0] 25)).setRow w9.heap.size [.int .u64 0, .int .u64 0, .int .u64 0, .slice A9 0 k9].toArray = w10 at hg hF hrt hr7 hRp hRq hB ⊢
  clear hR0 hb2
  generalize w9.heap.size = gz
  go_wp2_with fail
  refine (told_flt g9 1 2 _ hg hF).mono ?_
  rintro e w11 ⟨rfl, hb⟩
  replace hrt := hrt.keep hb
  replace hr7 := hr7.keep hb
  replace hRp := hRp.later hb
  replace hRq := hRq.later hb
  replace hB := below_step hB hb
  clear hb hF hg
  have cp0 : w11.cell? ⟨w.heap.size + 1, 0, none⟩ = some (.int .u64 7) := hRp.cell rfl
  have cp1 : w11.cell? ⟨w.heap.size + 1, 1, none⟩ = some (.int .u64 1) := hRp.cell rfl
  have cp2 : w11.cell? ⟨w.heap.size + 1, 2, none⟩ = some (.int .u64 300) := hRp.cell rfl
  have cp3 : w11.cell? ⟨w.heap.size + 1, 3, none⟩ = some (.slice (some ⟨w.heap.size, 0, none⟩) 8 8) := hRp.cell rfl
  have cq0 : w11.cell? ⟨gq, 0, none⟩ = some (.int .u64 7) := hRq.cell rfl
  have cq1 : w11.cell? ⟨gq, 1, none⟩ = some (.int .u64 1) := hRq.cell rfl
  have cq2 : w11.cell? ⟨gq, 2, none⟩ = some (.int .u64 300) := hRq.cell rfl
  have cq3 : w11.cell? ⟨gq, 3, none⟩ = some (.slice A7 8 k7) := hRq.cell rfl
  go_wp2_with fail
  refine (refsame_pay 7 1 300 7 1 300 tag8B tag8B 8 8 _ A7 8 k7 _ (Lib.hid rfl) HN7 hrt hr7).mono ?_
  rintro e w12 ⟨rfl, hb⟩
  rw [bw_same]
  replace hB := below_step hB hb
  clear hb cp0 cp1 cp2 cp3 cq0 cq1 cq2 cq3
  go_wp2_with fail
  go_ret
  exact ⟨rfl, hB⟩
end Go.Proofs.YtcnjackbiimjdaaDoor
/-
  Counting in how many places two are unlike, place by place. No conditions but those typed.
-/
namespace Go.Proofs.YtcnjackbiimjdaaDoor
set_option maxRecDepth 100000
open Go.RowKit
set_option linter.unusedSimpArgs false
set_option linter.unusedVariables false

theorem dif_take (a b : List UInt8) (hl : a.length = b.length) (j : Nat) (h : j < a.length) : difL (a.take (j + 1)) (b.take (j + 1)) = difL (a.take j) (b.take j) + (if co a j = co b j then 0 else 1) := by
  unfold difL
  rw [← List.take_zipWith, ← List.take_zipWith, wt_take _ _ (by rw [List.length_zipWith]; omega), co_zip _ _ _ h (by omega)]
  congr 1
  by_cases e : co a j = co b j
  · rw [if_pos e, if_pos (by rw [e, add_self])]
  · rw [if_neg e, if_neg (fun h0 => e (add_zero_eq h0))]
def CntR (a b : List UInt8) (wb : World) (pv kv : Value) (wr : World) : Prop :=
  ∃ j : Nat, j ≤ a.length ∧ kv = .int .i64 (j : Int) ∧ pv = .int .i64 ((difL (a.take j) (b.take j) : Nat) : Int) ∧ Below wb.heap.size wb wr
theorem cnt_round {X y : List UInt8} {q : Nat} (HY : y.length = X.length) (h255 : X.length ≤ 255) (hq : q < X.length) {wb wr : World} {gs os gy : Nat} (hgs : gs < wb.heap.size)
    (hcs : ∀ i (hi : i < X.length), wb.cell? ⟨gs, os + i, none⟩ = some (vB X[i])) (hry : Rd vB wb (some ⟨gy, 0, none⟩) y) (hb : Below wb.heap.size wb wr) :
    wr.cell? ⟨gs, os + q, none⟩ = some (.int .u8 (X[q].toNat : Int)) ∧ wr.cell? ⟨gy, q, none⟩ = some (.int .u8 ((y[q]'(by rw [HY]; exact hq)).toNat : Int)) ∧
    ((X[q] = y[q]'(by rw [HY]; exact hq) → difL (X.take (q + 1)) (y.take (q + 1)) = difL (X.take q) (y.take q)) ∧
      (X[q] ≠ y[q]'(by rw [HY]; exact hq) → ((difL (X.take q) (y.take q) : Nat) : Int) + 1 = ((difL (X.take (q + 1)) (y.take (q + 1)) : Nat) : Int)) ∧
      difL (X.take (q + 1)) (y.take (q + 1)) ≤ 255 ∧
      ∀ nq, CntR X y wb (.int .i64 ((difL (X.take (q + 1)) (y.take (q + 1)) : Nat) : Int)) (.int .i64 ((q : Int) + 1)) (wr.drewN nq)) := by
  have hqy : q < y.length := by rw [HY]; exact hq
  obtain ⟨gb, ob, e, hgb, hcb⟩ := hry.at (k := q) hqy
  have e1 : gb = gy := by injection e with e; injection e with e _; exact e.symm
  have e2 : ob = 0 := by injection e with e; injection e with _ e; exact e.symm
  subst e1
  subst e2
  have hdt := dif_take X y HY.symm q hq
  rw [co_lt X q hq, co_lt y q hqy] at hdt
  refine ⟨(hb.cell (p := ⟨gs, os + q, none⟩) hgs).trans (hcs q hq), ?_, fun e => ?_, fun e => ?_, ?_, fun nq => ⟨q + 1, hq, by go_num, rfl, below_drewN hb nq⟩⟩
  · have := (hb.cell (p := ⟨gb, 0 + q, none⟩) hgb).trans (hcb q hqy)
    rw [Nat.zero_add] at this
    exact this
  · rw [hdt, if_pos e, Nat.add_zero]
  · rw [hdt, if_neg e]
    omega
  · have := wt_le (List.zipWith addB (X.take (q + 1)) (y.take (q + 1)))
    rw [List.length_zipWith, List.length_take] at this
    unfold difL
    omega
end Go.Proofs.YtcnjackbiimjdaaDoor
/-
  The walk of the law BarsMend: a barcode that is spoilt in at most five places is read as it was. Condition: errors.errorType holds the handle of the type error (EtC).
-/
namespace Go.Proofs.YtcnjackbiimjdaaDoor
set_option maxRecDepth 100000
open Go.RowKit
set_option linter.unusedSimpArgs false
set_option linter.unusedVariables false

def SpoilR (x : List UInt8) (gy : Nat) (wb : World) (iv : Value) (wr : World) : Prop :=
  ∃ (j : Nat) (y : List UInt8), j ≤ 5 ∧ iv = .int .i64 (j : Int) ∧ y.length = x.length ∧ difL x y ≤ j ∧ Cel wr gy 5 y ∧ Below wb.heap.size wb wr
theorem same_selfB (t e c : Nat) (g : List UInt8) : sameF t e c g t e c g = true := by unfold sameF; simp

set_option maxRecDepth 100000 in
set_option maxHeartbeats 8000000 in
theorem barsmend_core (t e c : Nat) (tag : List UInt8) (n : Nat) (A : Option Addr) (k : Nat) (s b : List UInt8) (ns nb : Nat) (B C : Option Addr) (cs cb : Nat) (w : World)
    (ht : t < 18446744073709551616) (he : e < 18446744073709551616) (hc : c < 18446744073709551616) (HN : Hid (tag.length = n)) (hrt : Rd vB w A tag) (hk : n ≤ k) (hn : n ≤ 300)
    (HS : Hid (s.length = ns)) (HB : Hid (b.length = nb)) (hrs : Rd vB w B s) (hrb : Rd vB w C b) (hg : EtC w) :
    Calls Tryd.prog 3 #[aggP t e c A n k, .slice B ns cs, .slice C nb cb] w fun e₁ w' => e₁ = .returned (.bool true) ∧ Below w.heap.size w w' := by
  obtain ⟨i0, hi, hz0, hz1, hz2⟩ := info_parts info_u8
  have g1 : decide ((300 : Int) < (n : Int)) = false := decide_eq_false (by omega)
  have n1 : ¬ 300 < n := by omega
  obtain ⟨hR0, hB0⟩ := box_pay w 25 (.int .u64 (t : Int)) (.int .u64 (e : Int)) (.int .u64 (c : Int)) (.slice A n k)
  unfold aggP
  go_enter Tryd.func3, Tryd.ntmps3
  go_upto_region 1 with fail
  generalize (w.alloc (.cells #[.int .u64 (t : Int), .int .u64 (e : Int), .int .u64 (c : Int), .slice A n k] 25)) = W0 at hR0 hB0 ⊢
  have HT := Lib.hid (And.intro ht (And.intro he hc))
  clear ht he hc
  replace hrt := hrt.keep hB0
  replace hrs := hrs.keep hB0
  replace hrb := hrb.keep hB0
  replace hg := hg.later hB0
  go_wp2_with fail
  refine (awake13_any _ hg).mono ?_
  rintro e₁ w1 ⟨rfl, hb⟩
  replace hrt := hrt.keep hb
  replace hrs := hrs.keep hb
  replace hrb := hrb.keep hb
  replace hg := hg.later hb
  replace hR0 := hR0.later hb
  replace hB0 := below_step hB0 hb
  clear hb
  have c3 : w1.cell? ⟨w.heap.size, 3, none⟩ = some (.slice A n k) := hR0.cell rfl
  go_upto_region 5 with fail
  clear g1 n1 c3
  by_cases h8 : n = 8
  · subst h8
    go_wp2_with (refine wpList_load_part rfl 25 (.tmp 3) rfl w.heap.size 0 rfl _ _ hR0 (cellsP t e c A 8 k) (by rfl) _ Tryd.underlying25 rfl (by exact size_pay') ?_)
    refine (makeB_ok t e c tag A k _ HT.out.1 HT.out.2.1 HT.out.2.2 HN hrt hk hg).mono ?_
    rintro e₁ w2 ⟨A2, n2, c2, rfl, HN2, hc2, hr2, hb⟩
    replace hrt := hrt.keep hb
    replace hrs := hrs.keep hb
    replace hrb := hrb.keep hb
    replace hg := hg.later hb
    replace hR0 := hR0.later hb
    replace hB0 := below_step hB0 hb
    clear hb
    have hlen := bar_length (t := t) (e := e) (c := c) HN.out
    have HNEAR : Hid (∀ x : List UInt8, x.length = (barL t e c tag).length → difL x (barL t e c tag) ≤ 5 → barsL x = ((0, t, e, c, tag), difL x (barL t e c tag), 0)) := fun x => bars_near HT.out.1 HT.out.2.1 HT.out.2.2 HN.out x
    generalize barL t e c tag = X at HN2 hr2 hlen HNEAR
    have e2 := HN2.out
    subst e2
    clear HN2
    obtain ⟨hx1, hx2⟩ := hlen
    have hX0 : 0 < X.length := by omega
    have hXne : X ≠ [] := List.length_pos_iff.1 hX0
    have hX1 : ((X.length : Int) == 0) = false := beq_eq_false_iff_ne.2 (by omega)
    have hX2 : ¬ (52 : Int) < (X.length : Int) := by omega
    have hX3 : decide ((52 : Int) < (X.length : Int)) = false := decide_eq_false hX2
    have hown0 : (w2.alloc (.cells #[] 5)).ownsRow w2.heap.size 5 1 (.slice (some ⟨w2.heap.size, 0, none⟩) 0 0) 0 [] := World.ownsRow_made w2 #[] 0 (Nat.le_refl _) (by unfold maxLen; omega) rfl
    have hbn := below_new (Below.refl _ w2) (.cells #[] 5)
    have hrX0 := hr2.keep hbn
    go_upto_region 11 with (at_builtin; refine wpList_append_rd _ rfl (.tmp 45) (.tmp 46) 23 rfl w2.heap.size 5 i0 (.int .u8 0) 1 Tryd.underlying23 hi hz0 hz1 hz2 rfl _ _ _ rfl hown0 A2 X c2 rfl hrX0 vB_one (by unfold maxLen; omega) (by omega) (by simp) ?_; intro v4 w4 hown4 hgrow4)
    rw [Nat.zero_add, List.nil_append] at hown4
    have hb4 : Below w2.heap.size w2 w4 := hbn.grown hgrow4 (by simp) (fun k hk => (hown0.lt k hk).1)
    obtain ⟨A4, c4, rfl, hc4⟩ := own_form hown4
    obtain ⟨g4, rfl, hg4, hcel0⟩ := cel_of_own hown4 rfl (by omega)
    clear hown0 hbn hrX0 hgrow4 hown4
    go_wp2_with fail
    go_loopw [10] (fun i wr => SpoilR X g4 w2 i wr) (fun i _ => 5 - (intOf i).toNat)
    case atStart => exact ⟨0, X, by omega, rfl, rfl, by rw [dif_self]; omega, hcel0, hb4⟩
    case round =>
      clear hcel0 hb4
      obtain ⟨j, y, hj5, rfl, hy, hd, hcel, hbr⟩ := hrel
      have j0 : (0 : Int) ≤ (j : Int) := by omega
      obtain ⟨T, hT⟩ : ∃ T, decide (j < ns ∧ j < nb ∧ j < 5) = T := ⟨_, rfl⟩
      have HTT := Lib.hid hT
      clear hT
      go_upto_region 12 with fail
      go_cut [61] (fun v wx => v = .bool T ∧ wr = wx)
      case first =>
        by_cases hj1 : j < ns
        · have k1 : (j : Int) < (ns : Int) := by omega
          by_cases hj2 : j < nb
          · have k2 : (j : Int) < (nb : Int) := by omega
            by_cases hj3 : j < 5
            · have k3 : (j : Int) < 5 := by omega
              have eT : T = true := by rw [← HTT.out]; exact decide_eq_true ⟨hj1, hj2, hj3⟩
              subst eT
              clear HTT
              go_wp2_with fail
              go_meet
              case rel => exact ⟨rfl, rfl⟩
            · have k3 : ¬ (j : Int) < 5 := by omega
              have eT : T = false := by rw [← HTT.out]; exact decide_eq_false (fun h => hj3 h.2.2)
              subst eT
              clear HTT
              go_wp2_with fail
              go_meet
              case rel => exact ⟨rfl, rfl⟩
          · have k2 : ¬ (j : Int) < (nb : Int) := by omega
            have eT : T = false := by rw [← HTT.out]; exact decide_eq_false (fun h => hj2 h.2.1)
            subst eT
            clear HTT
            go_wp2_with fail
            go_meet
            case rel => exact ⟨rfl, rfl⟩
        · have k1 : ¬ (j : Int) < (ns : Int) := by omega
          have eT : T = false := by rw [← HTT.out]; exact decide_eq_false (fun h => hj1 h.1)
          subst eT
          clear HTT
          go_wp2_with fail
          go_meet
          case rel => exact ⟨rfl, rfl⟩
      obtain ⟨rfl, rfl⟩ := hcut
      cases T with
      | true =>
        obtain ⟨hj1, hj2, hj3⟩ := of_decide_eq_true HTT.out
        have hjs : j < s.length := by rw [HS.out]; exact hj1
        have hjb : j < b.length := by rw [HB.out]; exact hj2
        obtain ⟨gs, os, rfl, hgs, hcs'⟩ := hrs.at hjs
        obtain ⟨gb, ob, rfl, hgb, hcb'⟩ := hrb.at hjb
        have j1 : (j : Int) < (ns : Int) := by omega
        have j2 : (j : Int) < (nb : Int) := by omega
        have hc1 : wr.cell? ⟨gs, os + j, none⟩ = some (.int .u8 (s[j].toNat : Int)) := (hbr.cell (p := ⟨gs, os + j, none⟩) hgs).trans (hcs' j hjs)
        have hc2' : wr.cell? ⟨gb, ob + j, none⟩ = some (.int .u8 (b[j].toNat : Int)) := (hbr.cell (p := ⟨gb, ob + j, none⟩) hgb).trans (hcb' j hjb)
        have htl := s[j].toNat_lt
        generalize s[j].toNat = q0 at hc1 htl
        generalize b[j] = z at hc2'
        obtain ⟨q, hq⟩ : ∃ q, q = q0 % X.length := ⟨_, rfl⟩
        have hqX : q < X.length := by rw [hq]; exact Nat.mod_lt _ hX0
        have hcq : wr.cell? ⟨g4, q, none⟩ = some (.int .u8 ((co y q).toNat : Int)) := hcel.get q (by omega)
        have hfq : wr.frozen? ⟨g4, q, none⟩ = false := hcel.frozen q
        have hx := u8_xor_b (co y q) z
        have hcs2 := hcel.drew.set q (xorB (co y q) z)
        have hd2 := dif_set X y q (xorB (co y q) z)
        generalize xorB (co y q) z = u at hx hcs2 hd2
        generalize co y q = v at hcq hx
        have m1 : (q0 : Int) % (X.length : Int) = (q : Int) := by rw [hq]; omega
        have m2 : (q0 : Int).tmod (X.length : Int) = (q : Int) := by rw [Int.tmod_eq_emod_of_nonneg (by omega)]; exact m1
        have m3 : (0 : Int) ≤ (q : Int) := by omega
        have m4 : (q : Int) < (X.length : Int) := by omega
        have m5 : IntKind.i64.wrap (q0 : Int) = (q0 : Int) := by rw [IntKind.wrap_i64]; omega
        have HREL : Hid (SpoilR X g4 w2 (.int .i64 ((j : Int) + 1)) (wr.drew.setCell ⟨g4, q, none⟩ (.int .u8 (u.toNat : Int)))) :=
          ⟨j + 1, y.set q u, by omega, by go_num, by rw [List.length_set]; exact hy, by omega, hcs2, (hbr.drew).setCell (p := ⟨g4, q, none⟩) hg4 _⟩
        clear hcs2 hd2 hd hcel hbr hcs' hcb' hq hj1 hj2 HTT
        go_upto_region 14 with fail
        refine wp_region_still_tail 17 (by kernel_rfl) (by kernel_rfl) ?_
        simp only [List.take_succ_cons, List.take_zero, List.drop_succ_cons, List.drop_zero]
        repeat still_step
        try refine wpStill_nil ?_
        change wpList _ _ _ _ _ wr.drew
        go_wp2_with fail
        go_roundw
        case rel => exact HREL.out
        case measure => simp [intOf] <;> omega
      | false =>
        have hry := hcel.rd
        replace hr2 := hr2.keep hbr
        replace hrt := hrt.keep hbr
        replace hg := hg.later hbr
        replace hR0 := hR0.later hbr
        replace hB0 := below_step hB0 hbr
        have HY : Hid (y.length = X.length) := hy
        have HYR := Lib.hid (HNEAR.out y hy (by rw [dif_comm]; omega))
        clear hcel hrs hrb hbr HTT HNEAR
        go_upto_region 16 with fail
        go_wp2_with fail
        go_loopw [11, 12] (fun p i wr' => CntR X y wr p i wr') (fun _ i _ => X.length - (intOf i).toNat)
        case atStart => exact ⟨0, Nat.zero_le _, rfl, rfl, Below.refl _ _⟩
        case round =>
          obtain ⟨q, hq, rfl, rfl, hbq⟩ := hrel
          by_cases hql : q < X.length
          · have k1 : (q : Int) < (X.length : Int) := by omega
            have k0 : (0 : Int) ≤ (q : Int) := by omega
            obtain ⟨gs, os, rfl, hgs, hcs'⟩ := hr2.at hql
            obtain ⟨hc1, hc2', HR⟩ := cnt_round HY.out (by omega) hql hgs hcs' hry hbq
            generalize X[q] = x at hc1 HR
            generalize y[q]'(by rw [HY.out]; exact hql) = z at hc2' HR
            generalize difL (X.take (q + 1)) (y.take (q + 1)) = P1 at HR
            generalize difL (X.take q) (y.take q) = P0 at HR ⊢
            have HRR := Lib.hid HR
            clear HR hcs' hgs hry hbq hr2
            by_cases exy : x = z
            · subst exy
              have hP := HRR.out.1 rfl
              subst hP
              have HR3 := Lib.hid HRR.out.2.2.2
              clear HRR
              go_upto_region 19 with fail
              go_quiet (fail)
              go_wp2_with fail
              go_roundw
              case rel => exact HR3.out _
              case measure => simp [intOf] <;> omega
            · have hne : ((x.toNat : Int) != (z.toNat : Int)) = true := bne_iff_ne.2 (fun e => exy (UInt8.toNat_inj.1 (by omega)))
              have hP := HRR.out.2.1 exy
              have hP1 := HRR.out.2.2.1
              have HR3 := Lib.hid HRR.out.2.2.2
              clear HRR
              go_upto_region 19 with fail
              go_quiet (fail)
              go_wp2_with fail
              go_roundw
              case rel => exact HR3.out _
              case measure => simp [intOf] <;> omega
          · have eq : q = X.length := by omega
            subst eq
            have k1 : ¬ (X.length : Int) < (X.length : Int) := by omega
            obtain ⟨D, hD⟩ : ∃ D, difL X y = D := ⟨_, rfl⟩
            have hDD : difL (X.take X.length) (y.take X.length) = D := by rw [List.take_length, ← HY.out, List.take_length]; exact hD
            rw [hDD]
            have HYD := HYR.out
            rw [dif_comm, hD] at HYD
            replace HYD := Lib.hid HYD
            replace hry := hry.keep hbq
            replace hrt := hrt.keep hbq
            replace hg := hg.later hbq
            replace hR0 := hR0.later hbq
            replace hB0 := below_step hB0 hbq
            clear hbq hDD hD HYR hr2
            go_upto_region 21 with fail
            go_wp2_with fail
            refine (readB_ok y t e c tag D X.length _ c4 _ HY hry hc4 (by omega) hg HYD).mono ?_
            rintro e₁ w7 ⟨A7, m7, k7, rfl, HN7, hk7, hr7, hb⟩
            have em7 : m7 = 8 := HN7.out.symm.trans HN.out
            subst em7
            replace hrt := hrt.keep hb
            replace hR0 := hR0.later hb
            replace hB0 := below_step hB0 hb
            clear hb hry hg
            have hRn : Row (w7.alloc (.cells #[.int .u64 0, .int .u64 0, .int .u64 0, .slice none 0 0] 25)) w7.heap.size 25 [.int .u64 0, .int .u64 0, .int .u64 0, .slice none 0 0] := Row.new w7 _ _ _ rfl
            go_upto_region 22 with (refine wpList_store_row rfl 25 (.tmp 13) (.tmp 101) rfl w7.heap.size rfl [.int .u64 (t : Int), .int .u64 (e : Int), .int .u64 (c : Int), .slice A7 8 k7] rfl _ _ hRn (by exact size_pay') rfl (one_four _ _ _ _ rfl rfl rfl rfl) ?_)
            have hRq := hRn.setRow [.int .u64 (t : Int), .int .u64 (e : Int), .int .u64 (c : Int), .slice A7 8 k7]
            have hb2 : Below w7.heap.size w7 ((w7.alloc (.cells #[.int .u64 0, .int .u64 0, .int .u64 0, .slice none 0 0] 25)).setRow w7.heap.size [.int .u64 (t : Int), .int .u64 (e : Int), .int .u64 (c : Int), .slice A7 8 k7].toArray) := below_setRow (below_new (Below.refl _ _) _) (Nat.le_refl _) _
            replace hrt := hrt.keep hb2
            replace hr7 := hr7.keep hb2
            replace hR0 := hR0.later hb2
            replace hB0 := below_step hB0 hb2
            generalize (w7.alloc (.cells #[.int .u64 0, .int .u64 0, .int .u64 0, .slice none 0 0] 25)).setRow w7.heap.size [.int .u64 (t : Int), .int .u64 (e : Int), .int .u64 (c : Int), .slice A7 8 k7].toArray = w8 at hrt hr7 hR0 hRq hB0 ⊢
            clear hRn hb2
            generalize w7.heap.size = gq at hRq ⊢
            have cp0 : w8.cell? ⟨w.heap.size, 0, none⟩ = some (.int .u64 (t : Int)) := hR0.cell rfl
            have cp1 : w8.cell? ⟨w.heap.size, 1, none⟩ = some (.int .u64 (e : Int)) := hR0.cell rfl
            have cp2 : w8.cell? ⟨w.heap.size, 2, none⟩ = some (.int .u64 (c : Int)) := hR0.cell rfl
            have cp3 : w8.cell? ⟨w.heap.size, 3, none⟩ = some (.slice A 8 k) := hR0.cell rfl
            have cq0 : w8.cell? ⟨gq, 0, none⟩ = some (.int .u64 (t : Int)) := hRq.cell rfl
            have cq1 : w8.cell? ⟨gq, 1, none⟩ = some (.int .u64 (e : Int)) := hRq.cell rfl
            have cq2 : w8.cell? ⟨gq, 2, none⟩ = some (.int .u64 (c : Int)) := hRq.cell rfl
            have cq3 : w8.cell? ⟨gq, 3, none⟩ = some (.slice A7 8 k7) := hRq.cell rfl
            go_wp2_with fail
            refine (refsame_pay t e c t e c tag tag 8 8 A A7 k k7 _ HN HN7 hrt hr7).mono ?_
            rintro e₁ w9 ⟨rfl, hb⟩
            rw [same_selfB]
            replace hB0 := below_step hB0 hb
            clear hb cp0 cp1 cp2 cp3 cq0 cq1 cq2 cq3
            go_wp2_with fail
            go_ret
            exact ⟨rfl, hB0⟩
  · go_wp2_with (refine wpList_load_part rfl 25 (.tmp 3) rfl w.heap.size 0 rfl _ _ hR0 (cellsP t e c A n k) (by rfl) _ Tryd.underlying25 rfl (by exact size_pay') ?_)
    refine (makeB_no t e c tag n A k _ HT.out.1 HT.out.2.1 HT.out.2.2 HN hrt hk (by omega) h8 hg).mono ?_
    rintro e₁ w2 ⟨g, rfl, hF, hb⟩
    replace hrt := hrt.keep hb
    replace hR0 := hR0.later hb
    replace hB0 := below_step hB0 hb
    clear hb hF hg
    go_upto_region 7 with fail
    go_wp2_with (refine wpList_load_part rfl 25 (.tmp 3) rfl w.heap.size 0 rfl _ _ hR0 (cellsP t e c A n k) (by rfl) _ Tryd.underlying25 rfl (by exact size_pay') ?_)
    refine (rightP_any t e c tag n A k _ HN hrt hk (by omega)).mono ?_
    rw [show decide (n = 8) = false from decide_eq_false h8]
    rintro e₁ w8 ⟨rfl, hb⟩
    replace hB0 := below_step hB0 hb
    clear hb
    go_wp2_with fail
    go_ret
    exact ⟨rfl, hB0⟩
end Go.Proofs.YtcnjackbiimjdaaDoor
/-
  What comes in, opened by its type's shape (no program is named here): numbers, slices of whatever, arrays, structs. No conditions but those typed.
-/
namespace Go.Proofs.YtcnjackbiimjdaaDoor
set_option maxRecDepth 100000
open Go.RowKit Go.Deep Go.WideShapes Go.ChangeShapes

/-- Cells of type t that can be read as data are a reading R of something. -/
def Opens (P : Program) (t : TypeId) {α : Type} (R : World → List Value → α → Prop) : Prop :=
  ∀ {H : Type} (enc : TypeId × Value → H) (w : World) (base : Nat) (spare : Nat → Bool) (held : Bool) (fuel : Nat) (cs : List Value) (x : DataW H × List MemPlace), DataW.trod enc P w base spare held fuel t cs = some x → ∃ a : α, R w cs a

def RByte : World → List Value → UInt8 → Prop := fun _ cs c => cs = [vB c]
def RWord : World → List Value → UInt32 → Prop := fun _ cs c => cs = [vW c]
def RNum : World → List Value → Nat → Prop := fun _ cs v => cs = [.int .u64 (v : Int)] ∧ v < 18446744073709551616
def RInt : World → List Value → Int → Prop := fun _ cs n => cs = [.int .i64 n] ∧ -9223372036854775808 ≤ n ∧ n ≤ 9223372036854775807
def RBool : World → List Value → Bool → Prop := fun _ cs b => cs = [.bool b]

section
variable {P : Program} {t e : TypeId}
theorem opens_byte (ht : P.underlying t = some (.int .u8)) : Opens P t RByte := fun enc w base spare held fuel cs x h => by
  obtain ⟨n, rfl, _, hw⟩ := DataW.trod_int ht h
  simp [Lit.wf, IntKind.min, IntKind.max, IntKind.signed, IntKind.bits] at hw
  refine ⟨UInt8.ofNat n.toNat, ?_⟩
  unfold RByte vB
  rw [UInt8.toNat_ofNat']
  congr 2
  omega
theorem opens_word (ht : P.underlying t = some (.int .u32)) : Opens P t RWord := fun enc w base spare held fuel cs x h => by
  obtain ⟨n, rfl, _, hw⟩ := DataW.trod_int ht h
  simp [Lit.wf, IntKind.min, IntKind.max, IntKind.signed, IntKind.bits] at hw
  refine ⟨UInt32.ofNat n.toNat, ?_⟩
  unfold RWord vW
  rw [UInt32.toNat_ofNat']
  congr 2
  omega
theorem opens_num (ht : P.underlying t = some (.int .u64)) : Opens P t RNum := fun enc w base spare held fuel cs x h => by
  obtain ⟨n, rfl, _, hw⟩ := DataW.trod_int ht h
  obtain ⟨v, hv, rfl⟩ := u64_of_wf hw
  exact ⟨v, rfl, hv⟩
theorem opens_int (ht : P.underlying t = some (.int .i64)) : Opens P t RInt := fun enc w base spare held fuel cs x h => by
  obtain ⟨n, rfl, _, hw⟩ := DataW.trod_int ht h
  exact ⟨n, rfl, i64_of_wf hw⟩

/-- A slice: its elements, of m cells each, lie one behind the other. -/
def RSlice (m : Nat) {α : Type} (R : World → List Value → α → Prop) : World → List Value → List α → Prop := fun w cs l =>
  ∃ (A : Option Addr) (cap : Nat), cs = [.slice A l.length cap] ∧ l.length ≤ cap ∧ cap ≤ 9223372036854775807 ∧
    (l ≠ [] → ∃ b o, A = some ⟨b, o, none⟩ ∧ ∀ i (h : i < l.length), ∃ ecs : List Value, ecs.length = m ∧ (∀ j (hj : j < ecs.length), w.cell? ⟨b, o + i * m + j, none⟩ = some ecs[j]) ∧ R w ecs l[i])

theorem cells_at {w : World} {base : Nat} {a : Addr} {n : Nat} {cs : List Value} (h : w.cells? base a n = some cs) : cs.length = n ∧ ∀ j (hj : j < cs.length), w.cell? (a.add j) = some cs[j] := by
  obtain ⟨_, hl, hc⟩ := World.cells?_some h
  refine ⟨hl, fun j hj => ?_⟩
  have := hc j (by omega)
  rw [this]
  exact List.getElem?_eq_getElem hj

theorem choose_list {α : Type} (n : Nat) (p : Nat → α → Prop) (h : ∀ i, i < n → ∃ a, p i a) : ∃ l : List α, l.length = n ∧ ∀ i (hi : i < l.length), p i l[i] := by
  induction n with
  | zero => exact ⟨[], rfl, fun i hi => by simp at hi⟩
  | succ n ih =>
    obtain ⟨l, hl, hp⟩ := ih (fun i hi => h i (by omega))
    obtain ⟨a, ha⟩ := h n (by omega)
    refine ⟨l ++ [a], by simp [hl], fun i hi => ?_⟩
    by_cases hin : i < l.length
    · rw [List.getElem_append_left hin]; exact hp i hin
    · have : i = n := by simp at hi; omega
      subst this
      rw [List.getElem_append_right (by omega)]
      simpa [hl] using ha

theorem opens_slice {α : Type} {R : World → List Value → α → Prop} {m : Nat} (ht : P.underlying t = some (.slice e)) (hc : P.cellsOf e = m) (hm : 0 < m) (he : Opens P e R) : Opens P t (RSlice m R) := fun enc w base spare held fuel cs x h => by
  rcases open_slice ht h with ⟨rfl, _⟩ | ⟨a, len, cap, mm, n, D, Pl, rfl, hb, hl, hcap, hmm, rfl, hx⟩
  · exact ⟨[], none, 0, rfl, Nat.le_refl _, by omega, fun h => absurd rfl h⟩
  · have hlm : len ≤ mm := by rw [hmm]; split <;> omega
    unfold maxLen at hcap
    obtain ⟨l, hll, hp⟩ := choose_list len (fun i (y : α) => ∃ ecs : List Value, ecs.length = m ∧ (∀ j (hj : j < ecs.length), w.cell? ((a.add (i * m)).add j) = some ecs[j]) ∧ R w ecs y) (fun i hi => by
      obtain ⟨ecs, h1, h2⟩ := hx i (by omega)
      rw [hc] at h1
      obtain ⟨h3, h4⟩ := cells_at h1
      obtain ⟨y, hy⟩ := he enc w base spare held n ecs _ h2
      exact ⟨y, ecs, h3, h4, hy⟩)
    refine ⟨l, some a, cap, by rw [hll], by omega, by omega, fun hn => ?_⟩
    have h0 : 0 < l.length := by
      rcases Nat.eq_zero_or_pos l.length with h | h
      · exact absurd (List.eq_nil_of_length_eq_zero h) hn
      · exact h
    obtain ⟨b, o, spot⟩ := a
    obtain ⟨ecs, h3, h4, _⟩ := hp 0 h0
    have hc0 := h4 0 (by omega)
    have hspot : spot = none := by simpa [Addr.add] using World.cell?_spot hc0
    subst hspot
    have hadd : ∀ i j, ((⟨b, o, none⟩ : Addr).add i).add j = ⟨b, o + i + j, none⟩ := fun i j => by unfold Addr.add; split <;> split <;> simp_all
    refine ⟨b, o, rfl, fun i hi => ?_⟩
    obtain ⟨ecs, h3, h4, h5⟩ := hp i hi
    exact ⟨ecs, h3, fun j hj => by rw [← hadd]; exact h4 j hj, h5⟩

/-- An array: its elements' cells one behind the other (elements of one cell). -/
def RArr (n : Nat) {α : Type} (R : World → List Value → α → Prop) : World → List Value → List α → Prop := fun w cs l => l.length = n ∧ cs.length = n ∧ ∀ i (h : i < l.length), R w ((cs.drop i).take 1) l[i]
theorem opens_arr {α : Type} {R : World → List Value → α → Prop} {n : Nat} (ht : P.underlying t = some (.array n e)) (hc : P.cellsOf e = 1) (hn : P.cellsOf t = n) (he : Opens P e R) : Opens P t (RArr n R) := fun enc w base spare held fuel cs x h => by
  obtain ⟨xs, m, _, _, hl, hxl, hx⟩ := DataW.trod_array ht h
  obtain ⟨l, hll, hp⟩ := choose_list n (fun i (y : α) => R w ((cs.drop i).take 1) y) (fun i hi => by
    have := hx i hi
    rw [hc, Nat.mul_one, List.getElem?_eq_getElem (by omega)] at this
    exact he enc w base spare held m _ _ this)
  exact ⟨l, hll, by omega, hp⟩

/-- Structs of two to four fields: each field's cells. -/
def RTwo (a0 n0 a1 n1 : Nat) {α β : Type} (R : World → List Value → α → Prop) (S : World → List Value → β → Prop) : World → List Value → α × β → Prop := fun w cs x => cs.length = n0 + n1 ∧ R w ((cs.drop a0).take n0) x.1 ∧ S w ((cs.drop a1).take n1) x.2
def RThree (a0 n0 a1 n1 a2 n2 : Nat) {α β γ : Type} (R : World → List Value → α → Prop) (S : World → List Value → β → Prop) (T : World → List Value → γ → Prop) : World → List Value → α × β × γ → Prop := fun w cs x => cs.length = n0 + n1 + n2 ∧ R w ((cs.drop a0).take n0) x.1 ∧ S w ((cs.drop a1).take n1) x.2.1 ∧ T w ((cs.drop a2).take n2) x.2.2
theorem opens_two {α β : Type} {R : World → List Value → α → Prop} {S : World → List Value → β → Prop} {f0 f1 : Field} {a0 n0 a1 n1 : Nat} (ht : P.underlying t = some (.struct #[f0, f1])) (e0 : f0.offset = a0) (e1 : f1.offset = a1) (c0 : P.cellsOf f0.type = n0) (c1 : P.cellsOf f1.type = n1) (hn : P.cellsOf t = n0 + n1)
    (h0 : Opens P f0.type R) (h1 : Opens P f1.type S) : Opens P t (RTwo a0 n0 a1 n1 R S) := fun enc w base spare held fuel cs x h => by
  obtain ⟨xs, n, _, _, hl, hxl, hx⟩ := DataW.trod_struct ht h
  have k0 := hx 0 f0 rfl
  have k1 := hx 1 f1 rfl
  simp only [List.size_toArray, List.length_cons, List.length_nil, Nat.zero_add, Nat.reduceAdd] at hxl
  rw [List.getElem?_eq_getElem (by omega), e0, c0] at k0
  rw [List.getElem?_eq_getElem (by omega), e1, c1] at k1
  obtain ⟨x0, r0⟩ := h0 enc w base spare held n _ _ k0
  obtain ⟨x1, r1⟩ := h1 enc w base spare held n _ _ k1
  exact ⟨(x0, x1), by omega, r0, r1⟩
theorem opens_three {α β γ : Type} {R : World → List Value → α → Prop} {S : World → List Value → β → Prop} {T : World → List Value → γ → Prop} {f0 f1 f2 : Field} {a0 n0 a1 n1 a2 n2 : Nat} (ht : P.underlying t = some (.struct #[f0, f1, f2])) (e0 : f0.offset = a0) (e1 : f1.offset = a1) (e2 : f2.offset = a2)
    (c0 : P.cellsOf f0.type = n0) (c1 : P.cellsOf f1.type = n1) (c2 : P.cellsOf f2.type = n2) (hn : P.cellsOf t = n0 + n1 + n2) (h0 : Opens P f0.type R) (h1 : Opens P f1.type S) (h2 : Opens P f2.type T) : Opens P t (RThree a0 n0 a1 n1 a2 n2 R S T) := fun enc w base spare held fuel cs x h => by
  obtain ⟨xs, n, _, _, hl, hxl, hx⟩ := DataW.trod_struct ht h
  have k0 := hx 0 f0 rfl
  have k1 := hx 1 f1 rfl
  have k2 := hx 2 f2 rfl
  simp only [List.size_toArray, List.length_cons, List.length_nil, Nat.zero_add, Nat.reduceAdd] at hxl
  rw [List.getElem?_eq_getElem (by omega), e0, c0] at k0
  rw [List.getElem?_eq_getElem (by omega), e1, c1] at k1
  rw [List.getElem?_eq_getElem (by omega), e2, c2] at k2
  obtain ⟨x0, r0⟩ := h0 enc w base spare held n _ _ k0
  obtain ⟨x1, r1⟩ := h1 enc w base spare held n _ _ k1
  obtain ⟨x2, r2⟩ := h2 enc w base spare held n _ _ k2
  exact ⟨(x0, x1, x2), by omega, r0, r1, r2⟩
end

/-! ### Back to the words that the walks go by -/
theorem rd_of_rslice {α : Type} {f : α → Value} {R : World → List Value → α → Prop} {w : World} {cs : List Value} {l : List α} (hR : ∀ ecs x, R w ecs x → ecs = [f x]) (h : RSlice 1 R w cs l) : ∃ A cap, cs = [.slice A l.length cap] ∧ l.length ≤ cap ∧ cap ≤ 9223372036854775807 ∧ Rd f w A l := by
  obtain ⟨A, cap, e, h1, h2, h3⟩ := h
  refine ⟨A, cap, e, h1, h2, fun hn => ?_⟩
  obtain ⟨b, o, rfl, hc⟩ := h3 hn
  refine ⟨b, o, rfl, fun i hi => ?_⟩
  obtain ⟨ecs, _, h5, h6⟩ := hc i hi
  have := hR _ _ h6
  subst this
  have := h5 0 (by simp)
  simpa using this
theorem bytes_of_r {w : World} {cs : List Value} {l : List UInt8} (h : RSlice 1 RByte w cs l) : ∃ A cap, cs = [.slice A l.length cap] ∧ l.length ≤ cap ∧ cap ≤ 9223372036854775807 ∧ Rd vB w A l := rd_of_rslice (fun _ _ h => h) h
theorem words_of_r {w : World} {cs : List Value} {l : List UInt32} (h : RSlice 1 RWord w cs l) : ∃ A cap, cs = [.slice A l.length cap] ∧ l.length ≤ cap ∧ cap ≤ 9223372036854775807 ∧ Rd vW w A l := rd_of_rslice (fun _ _ h => h) h
theorem arr_words {n : Nat} {w : World} {cs : List Value} {l : List UInt32} (h : RArr n RWord w cs l) : cs = l.map vW ∧ l.length = n := by
  obtain ⟨h1, h2, h3⟩ := h
  refine ⟨?_, h1⟩
  apply List.ext_getElem
  · simp; omega
  · intro i hi hi'
    have := h3 i (by omega)
    unfold RWord at this
    have h4 := congrArg (fun l => l[0]?) this
    simp only [List.getElem?_take, List.getElem?_drop, Nat.add_zero, List.getElem?_eq_getElem hi, Nat.zero_lt_one, if_true, List.getElem?_cons_zero, Option.some.injEq] at h4
    rw [h4]
    simp

/-! ### A value and its cells -/
theorem okWide_arr {P : Program} {w : World} {r : Reach} {base n : Nat} {t e : TypeId} {v : Value} (ht : P.underlying t = some (.array n e)) (h : Value.okWide P w r base t v) : ∃ cs, v = .agg cs ∧ cs.size = P.cellsOf t := by
  simp only [Value.okWide, ht] at h
  obtain ⟨cs, h1, h2, _⟩ := h
  exact ⟨cs, h1, h2⟩

end Go.Proofs.YtcnjackbiimjdaaDoor
/-
  A parameter that is a slice of bytes, opened. No conditions.
-/
namespace Go.Proofs.YtcnjackbiimjdaaDoor
set_option maxRecDepth 100000
open Go.RowKit Go.WideShapes
set_option linter.unusedSimpArgs false
set_option linter.unusedVariables false

theorem opens_bytes : Opens Tryd.prog 23 (RSlice 1 RByte) := opens_slice Tryd.underlying23 (by kernel_rfl) (by omega) (opens_byte Tryd.underlying5)
section
variable {H : Type} {enc : TypeId × Value → H} {W : World} {base b1 : Nat} {spare : Nat → Bool} {held : Bool} {r : Reach} {v : Value} {d : DataW H} {p : List MemPlace}
theorem open_bytes (hv : Value.okWide Tryd.prog W r base 23 v) (ht : DataW.Trod enc Tryd.prog W b1 spare held 23 v d p) : ∃ (l : List UInt8) (A : Option Addr) (cap : Nat), v = .slice A l.length cap ∧ l.length ≤ cap ∧ cap ≤ 9223372036854775807 ∧ Rd vB W A l := by
  obtain ⟨a, len, cap, rfl⟩ := okWide_slice Tryd.underlying23 hv
  obtain ⟨fuel, hf⟩ := ht
  obtain ⟨l, hl⟩ := opens_bytes enc W _ _ _ _ _ _ hf
  obtain ⟨A, c, e, h1, h2, h3⟩ := bytes_of_r hl
  simp [Value.cells] at e
  obtain ⟨rfl, rfl, rfl⟩ := e
  exact ⟨l, _, _, rfl, h1, h2, h3⟩
end
end Go.Proofs.YtcnjackbiimjdaaDoor
/-
  A parameter that is a payload, opened. No conditions.
-/
namespace Go.Proofs.YtcnjackbiimjdaaDoor
set_option maxRecDepth 100000
open Go.RowKit Go.Deep Go.WideShapes Go.ChangeShapes
set_option linter.unusedSimpArgs false
set_option linter.unusedVariables false

/-- Structs of four fields: each field's cells. -/
def RFour (a0 n0 a1 n1 a2 n2 a3 n3 : Nat) {α β γ δ : Type} (R : World → List Value → α → Prop) (S : World → List Value → β → Prop) (T : World → List Value → γ → Prop) (U : World → List Value → δ → Prop) : World → List Value → α × β × γ × δ → Prop := fun w cs x => cs.length = n0 + n1 + n2 + n3 ∧ R w ((cs.drop a0).take n0) x.1 ∧ S w ((cs.drop a1).take n1) x.2.1 ∧ T w ((cs.drop a2).take n2) x.2.2.1 ∧ U w ((cs.drop a3).take n3) x.2.2.2
theorem opens_four {P : Program} {t : TypeId} {α β γ δ : Type} {R : World → List Value → α → Prop} {S : World → List Value → β → Prop} {T : World → List Value → γ → Prop} {U : World → List Value → δ → Prop} {f0 f1 f2 f3 : Field} {a0 n0 a1 n1 a2 n2 a3 n3 : Nat} (ht : P.underlying t = some (.struct #[f0, f1, f2, f3])) (e0 : f0.offset = a0) (e1 : f1.offset = a1) (e2 : f2.offset = a2) (e3 : f3.offset = a3)
    (c0 : P.cellsOf f0.type = n0) (c1 : P.cellsOf f1.type = n1) (c2 : P.cellsOf f2.type = n2) (c3 : P.cellsOf f3.type = n3) (hn : P.cellsOf t = n0 + n1 + n2 + n3) (h0 : Opens P f0.type R) (h1 : Opens P f1.type S) (h2 : Opens P f2.type T) (h3 : Opens P f3.type U) : Opens P t (RFour a0 n0 a1 n1 a2 n2 a3 n3 R S T U) := fun enc w base spare held fuel cs x h => by
  obtain ⟨xs, n, _, _, hl, hxl, hx⟩ := DataW.trod_struct ht h
  have k0 := hx 0 f0 rfl
  have k1 := hx 1 f1 rfl
  have k2 := hx 2 f2 rfl
  have k3 := hx 3 f3 rfl
  simp only [List.size_toArray, List.length_cons, List.length_nil, Nat.zero_add, Nat.reduceAdd] at hxl
  rw [List.getElem?_eq_getElem (by omega), e0, c0] at k0
  rw [List.getElem?_eq_getElem (by omega), e1, c1] at k1
  rw [List.getElem?_eq_getElem (by omega), e2, c2] at k2
  rw [List.getElem?_eq_getElem (by omega), e3, c3] at k3
  obtain ⟨x0, r0⟩ := h0 enc w base spare held n _ _ k0
  obtain ⟨x1, r1⟩ := h1 enc w base spare held n _ _ k1
  obtain ⟨x2, r2⟩ := h2 enc w base spare held n _ _ k2
  obtain ⟨x3, r3⟩ := h3 enc w base spare held n _ _ k3
  exact ⟨(x0, x1, x2, x3), by omega, r0, r1, r2, r3⟩
theorem opens_payload : Opens Tryd.prog 25 (RFour 0 1 1 1 2 1 3 1 RNum RNum RNum (RSlice 1 RByte)) := opens_four Tryd.underlying25 rfl rfl rfl rfl (by kernel_rfl) (by kernel_rfl) (by kernel_rfl) (by kernel_rfl) (by kernel_rfl) (opens_num Tryd.underlying22) (opens_num Tryd.underlying22) (opens_num Tryd.underlying22) opens_bytes
section
variable {H : Type} {enc : TypeId × Value → H} {W : World} {base b1 : Nat} {spare : Nat → Bool} {held : Bool} {r : Reach} {v : Value} {d : DataW H} {p : List MemPlace}
theorem open_payload (hv : Value.okWide Tryd.prog W r base 25 v) (ht : DataW.Trod enc Tryd.prog W b1 spare held 25 v d p) : ∃ (t e c : Nat) (l : List UInt8) (A : Option Addr) (cap : Nat), v = aggP t e c A l.length cap ∧ t < 18446744073709551616 ∧ e < 18446744073709551616 ∧ c < 18446744073709551616 ∧ l.length ≤ cap ∧ cap ≤ 9223372036854775807 ∧ Rd vB W A l := by
  obtain ⟨cs, rfl, _⟩ := okWide_struct Tryd.underlying25 hv
  obtain ⟨fuel, hf⟩ := ht
  obtain ⟨⟨t, e, c, l⟩, hl, h0, h1, h2, h3⟩ := opens_payload enc W _ _ _ _ _ _ hf
  obtain ⟨A, k, e3, h4, h5, h6⟩ := bytes_of_r h3
  obtain ⟨e0, g0⟩ := h0
  obtain ⟨e1, g1⟩ := h1
  obtain ⟨e2, g2⟩ := h2
  refine ⟨t, e, c, l, A, k, ?_, g0, g1, g2, h4, h5, h6⟩
  unfold aggP
  congr 1
  apply Array.toList_inj.1
  simp only [Value.cells] at hl e0 e1 e2 e3
  match hcs : cs.toList, hl with
  | [x0, x1, x2, x3], _ =>
    rw [hcs] at e0 e1 e2 e3
    simp at e0 e1 e2 e3
    rw [e0, e1, e2, e3]
end
end Go.Proofs.YtcnjackbiimjdaaDoor
/-
  What the rows' condition on the package-level variable errors.errorType gives the walks: its one cell, the handle of the type error. Condition: the variable reads as the rows list it.
-/
namespace Go.Proofs.YtcnjackbiimjdaaDoor
set_option maxRecDepth 100000
open Go.RowKit

theorem etc_global : Tryd.prog.globalNamed "errors.errorType" = some 0 := by kernel_rfl
theorem etc_rtype : (Tryd.prog.cutTypes.find? (·.1 == "internal/reflectlite.rtype")).map (·.2) = some 107 := by kernel_rfl
theorem etc_one : ((List.range Tryd.prog.types.size).filter fun t => Tryd.prog.rowNamed t [101, 114, 114, 111, 114]) = [28] := by kernel_rfl
theorem etc_of_handles {l : List (String × DataW Unit)} {W : World} (h : handlesMet Tryd.prog l W) (hm : ("errors.errorType", Rows.laid_errors_errorType) ∈ l) : EtC W := by
  obtain ⟨name, u, ty, e1, e2, e3, e4, e5⟩ := h _ hm
  have en : name = [101, 114, 114, 111, 114] := (Option.some.inj e1).symm
  subst en
  obtain rfl := Option.some.inj (etc_rtype.symm.trans e2)
  have hmem : ty ∈ (List.range Tryd.prog.types.size).filter fun t => Tryd.prog.rowNamed t [101, 114, 114, 111, 114] := List.mem_filter.2 ⟨List.mem_range.2 e3, e4⟩
  rw [etc_one] at hmem
  obtain rfl := List.mem_singleton.1 hmem
  have hh : typeHandle Tryd.prog 28 = .pointer (some ⟨1, 28, none⟩) := by kernel_rfl
  rw [hh] at e5
  unfold EtC
  simpa using World.var?_cell etc_global e5 0
theorem etc_of_laid {W : World} (h : laidMetH Tryd.prog [("errors.errorType", Rows.laid_errors_errorType)] W) : EtC W := by
  have h' : laidMet Tryd.prog [] W ∧ handlesMet Tryd.prog [("errors.errorType", Rows.laid_errors_errorType)] W := h
  exact etc_of_handles h'.2 (List.mem_singleton.2 rfl)
end Go.Proofs.YtcnjackbiimjdaaDoor
/-
  The law BarsMend, at whatever comes in: it answers true, and writes nothing that was there. Condition: errors.errorType holds the handle of the type error (EtC).
-/
namespace Go.Proofs.YtcnjackbiimjdaaDoor
set_option maxRecDepth 100000
open Go.RowKit Go.WideShapes
set_option linter.unusedSimpArgs false
set_option linter.unusedVariables false

theorem barsmend_big (t e c : Nat) (n : Nat) (A : Option Addr) (k : Nat) (ns nb : Nat) (B C : Option Addr) (cs cb : Nat) (w : World) (h : ¬ n ≤ 300) (hn : n ≤ 9223372036854775807) (hg : EtC w) :
    Calls Tryd.prog 3 #[aggP t e c A n k, .slice B ns cs, .slice C nb cb] w fun e₁ w' => e₁ = .returned (.bool true) ∧ Below w.heap.size w w' := by
  have g1 : decide ((300 : Int) < (n : Int)) = true := decide_eq_true (by omega)
  have n1 : 300 < n := by omega
  obtain ⟨hR0, hB0⟩ := box_pay w 25 (.int .u64 (t : Int)) (.int .u64 (e : Int)) (.int .u64 (c : Int)) (.slice A n k)
  unfold aggP
  go_enter Tryd.func3, Tryd.ntmps3
  go_upto_region 1 with fail
  generalize (w.alloc (.cells #[.int .u64 (t : Int), .int .u64 (e : Int), .int .u64 (c : Int), .slice A n k] 25)) = W0 at hR0 hB0 ⊢
  go_wp2_with fail
  refine (awake13_any _ (hg.later hB0)).mono ?_
  rintro e₁ w1 ⟨rfl, hb⟩
  replace hR0 := hR0.later hb
  replace hB0 := below_step hB0 hb
  clear hb h
  have c3 : w1.cell? ⟨w.heap.size, 3, none⟩ = some (.slice A n k) := hR0.cell rfl
  go_wp2_with fail
  go_ret
  exact ⟨rfl, hB0⟩
theorem barsmend_any (v0 v1 v2 : Value) (W : World) {H : Type} {enc : TypeId × Value → H} {base : Nat} {d0 d1 d2 : DataW H} {p0 p1 p2 : List MemPlace}
    (hv0 : Value.okWide Tryd.prog W .any base 25 v0) (ht0 : DataW.Trod enc Tryd.prog W 0 (fun _ => true) true 25 v0 d0 p0) (hv1 : Value.okWide Tryd.prog W .any base 23 v1) (ht1 : DataW.Trod enc Tryd.prog W 0 (fun _ => true) true 23 v1 d1 p1) (hv2 : Value.okWide Tryd.prog W .any base 23 v2) (ht2 : DataW.Trod enc Tryd.prog W 0 (fun _ => true) true 23 v2 d2 p2) (hg : EtC W) :
    Calls Tryd.prog 3 #[v0, v1, v2] W fun e w' => e = .returned (.bool true) ∧ Below W.heap.size W w' := by
  obtain ⟨t, e, c, tag, A, k, rfl, ht, he, hc, hk, hkm, hr⟩ := open_payload hv0 ht0
  obtain ⟨s, B, cs, rfl, hs, hsm, hrs⟩ := open_bytes hv1 ht1
  obtain ⟨b, C, cb, rfl, hb, hbm, hrb⟩ := open_bytes hv2 ht2
  by_cases h : tag.length ≤ 300
  · exact barsmend_core t e c tag _ A k s b _ _ B C cs cb W ht he hc (Lib.hid rfl) hr hk h (Lib.hid rfl) (Lib.hid rfl) hrs hrb hg
  · exact barsmend_big t e c _ A k _ _ B C cs cb W h (by omega) hg
end Go.Proofs.YtcnjackbiimjdaaDoor
/-
  Barcodes of any payloads, made; two payloads in their blocks. Condition: errors.errorType holds the handle of the type error (EtC).
-/
namespace Go.Proofs.YtcnjackbiimjdaaDoor
set_option maxRecDepth 100000
open Go.RowKit
set_option linter.unusedSimpArgs false
set_option linter.unusedVariables false

def MakH (n : Nat) (t e c : Nat) (tag X : List UInt8) (ev : Value) : Prop := (n = 8 ∧ X = barL t e c tag ∧ ev = .nilIface) ∨ (n ≠ 8 ∧ X = [] ∧ ∃ g, ev = errV g)
theorem makeB_any (t e c : Nat) (tag : List UInt8) (n : Nat) (A : Option Addr) (k : Nat) (w : World) (ht : t < 18446744073709551616) (he : e < 18446744073709551616) (hc : c < 18446744073709551616) (HN : Hid (tag.length = n)) (hr : Rd vB w A tag) (hk : n ≤ k) (hn : n ≤ 100000) (hg : EtC w) :
    Calls Tryd.prog 6 #[aggP t e c A n k] w fun e₁ w' => ∃ X ev A' m c', e₁ = .returned (.tuple #[.slice A' m c', ev]) ∧ Hid (X.length = m) ∧ m ≤ c' ∧ Rd vB w' A' X ∧ Below w.heap.size w w' ∧ Hid (MakH n t e c tag X ev) := by
  by_cases h8 : n = 8
  · subst h8
    refine (makeB_ok t e c tag A k w ht he hc HN hr hk hg).mono ?_
    rintro e₁ w' ⟨A', m, c', h1, h2, h3, h4, h5⟩
    exact ⟨_, _, A', m, c', h1, h2, h3, h4, h5, .inl ⟨rfl, rfl, rfl⟩⟩
  · refine (makeB_no t e c tag n A k w ht he hc HN hr hk hn h8 hg).mono ?_
    rintro e₁ w' ⟨g, h1, h2, h3⟩
    exact ⟨[], _, none, 0, 0, h1, Lib.hid rfl, Nat.le_refl _, Rd.nil, h3, .inr ⟨h8, rfl, g, rfl⟩⟩
/-- Two payloads in their blocks. -/
def TwoB (g : Nat) (cp cq : List Value) (w W : World) : Prop := Row W g 25 cp ∧ Row W (g + 1) 25 cq ∧ Below w.heap.size w W
theorem TwoB.later {g : Nat} {cp cq : List Value} {w W W' : World} (h : TwoB g cp cq w W) (hb : Below W.heap.size W W') : TwoB g cp cq w W' := ⟨h.1.later hb, h.2.1.later hb, below_step h.2.2 hb⟩
theorem two_box (w : World) (a b c d a' b' c' d' : Value) (ty : TypeId) (hty : ty = 25) : TwoB w.heap.size [a, b, c, d] [a', b', c', d'] w ((w.alloc (.cells #[a, b, c, d] ty)).alloc (.cells #[a', b', c', d'] ty)) := by
  subst hty
  have h0 := Row.new w 25 [a, b, c, d] _ rfl
  have h1 := Row.new_at (w.alloc (.cells #[a, b, c, d] 25)) (w.heap.size + 1) (by simp) 25 [a', b', c', d'] _ rfl
  exact ⟨h0.alloc _, h1, below_new (below_new (Below.refl _ _) _) _⟩
theorem strBz (n : Nat) {w : World} {A : Option Addr} {l : List UInt8} {c : Nat} (H : Hid (l.length = n)) (h : Rd vB w A l) : ∀ W, Below w.heap.size w W → (convert 23 9 (.slice A n c)).run Tryd.prog W = .ok (.string (strL l)) W :=
  fun W hW => run_str W _ _ _ Tryd.underlying23 Tryd.underlying5 Tryd.underlying9 A l n c H.out (h.keep hW)
theorem str_sameB (a b : List UInt8) (S : Bool) (h : (a = b) ↔ S = true) : ((strL a).toList == (strL b).toList) = S := by
  rw [strL_toList, strL_toList, Bool.eq_iff_iff, beq_iff_eq]
  exact h
theorem same_selfP (t e c : Nat) (g : List UInt8) : sameF t e c g t e c g = true := by unfold sameF; simp
end Go.Proofs.YtcnjackbiimjdaaDoor
/-
  The walk of the law BarsBack: what is read of any bytes is right, and has a barcode near them; unlike payloads have unlike barcodes. Condition: errors.errorType holds the handle of the type error (EtC).
-/
namespace Go.Proofs.YtcnjackbiimjdaaDoor
set_option maxRecDepth 100000
open Go.RowKit
set_option linter.unusedSimpArgs false
set_option linter.unusedVariables false

/-- One place more is counted. -/
theorem cnt_step (X y : List UInt8) (hl : X.length = y.length) (h255 : X.length ≤ 255) (q : Nat) (hq : q < X.length) (wb wr : World) (hb : Below wb.heap.size wb wr) :
    (X[q] = y[q]'(by rw [← hl]; exact hq) → difL (X.take (q + 1)) (y.take (q + 1)) = difL (X.take q) (y.take q)) ∧
      (X[q] ≠ y[q]'(by rw [← hl]; exact hq) → ((difL (X.take q) (y.take q) : Nat) : Int) + 1 = ((difL (X.take (q + 1)) (y.take (q + 1)) : Nat) : Int)) ∧
      difL (X.take (q + 1)) (y.take (q + 1)) ≤ 255 ∧
      ∀ nq, CntR X y wb (.int .i64 ((difL (X.take (q + 1)) (y.take (q + 1)) : Nat) : Int)) (.int .i64 ((q : Int) + 1)) (wr.drewN nq) := by
  have hqy : q < y.length := by rw [← hl]; exact hq
  have hdt := dif_take X y hl q hq
  rw [co_lt X q hq, co_lt y q hqy] at hdt
  refine ⟨fun e => ?_, fun e => ?_, ?_, fun nq => ⟨q + 1, hq, by go_num, rfl, below_drewN hb nq⟩⟩
  · rw [hdt, if_pos e, Nat.add_zero]
  · rw [hdt, if_neg e]
    omega
  · have := wt_le (List.zipWith addB (X.take (q + 1)) (y.take (q + 1)))
    rw [List.length_zipWith, List.length_take] at this
    unfold difL
    omega
set_option maxRecDepth 100000 in
set_option maxHeartbeats 8000000 in
theorem barsback_core (b : List UInt8) (m : Nat) (B : Option Addr) (d : Nat) (t e c : Nat) (tag : List UInt8) (n : Nat) (A : Option Addr) (k : Nat) (t' e' c' : Nat) (tag' : List UInt8) (n' : Nat) (A' : Option Addr) (k' : Nat) (w : World)
    (HM : Hid (b.length = m)) (hrb : Rd vB w B b) (hd : m ≤ d) (hm : m ≤ 255)
    (ht : t < 18446744073709551616) (he : e < 18446744073709551616) (hc : c < 18446744073709551616) (HN : Hid (tag.length = n)) (hrt : Rd vB w A tag) (hk : n ≤ k) (hn : n ≤ 300)
    (ht' : t' < 18446744073709551616) (he' : e' < 18446744073709551616) (hc' : c' < 18446744073709551616) (HN' : Hid (tag'.length = n')) (hrt' : Rd vB w A' tag') (hk' : n' ≤ k') (hn' : n' ≤ 300) (hg : EtC w) :
    Calls Tryd.prog 4 #[.slice B m d, aggP t e c A n k, aggP t' e' c' A' n' k'] w fun e₁ w' => e₁ = .returned (.bool true) ∧ Below w.heap.size w w' := by
  have g1 : decide ((255 : Int) < (m : Int)) = false := decide_eq_false (by omega)
  have g2 : decide ((300 : Int) < (n : Int)) = false := decide_eq_false (by omega)
  have g3 : decide ((300 : Int) < (n' : Int)) = false := decide_eq_false (by omega)
  have n1 : ¬ 255 < m := by omega
  have n2 : ¬ 300 < n := by omega
  have n3 : ¬ 300 < n' := by omega
  have hT := two_box w (.int .u64 (t : Int)) (.int .u64 (e : Int)) (.int .u64 (c : Int)) (.slice A n k) (.int .u64 (t' : Int)) (.int .u64 (e' : Int)) (.int .u64 (c' : Int)) (.slice A' n' k') _ rfl
  unfold aggP
  go_enter Tryd.func4, Tryd.ntmps4
  go_upto_region 1 with fail
  generalize (w.alloc (.cells #[.int .u64 (t : Int), .int .u64 (e : Int), .int .u64 (c : Int), .slice A n k] 25)).alloc (.cells #[.int .u64 (t' : Int), .int .u64 (e' : Int), .int .u64 (c' : Int), .slice A' n' k'] 25) = W0 at hT ⊢
  have HT := Lib.hid (And.intro ht (And.intro he hc))
  have HT' := Lib.hid (And.intro ht' (And.intro he' hc'))
  clear ht he hc ht' he' hc'
  replace hrt := hrt.keep hT.2.2
  replace hrt' := hrt'.keep hT.2.2
  replace hrb := hrb.keep hT.2.2
  replace hg := hg.later hT.2.2
  go_wp2_with fail
  refine (awake13_any _ hg).mono ?_
  rintro e₁ w1 ⟨rfl, hb⟩
  replace hrt := hrt.keep hb
  replace hrt' := hrt'.keep hb
  replace hrb := hrb.keep hb
  replace hg := hg.later hb
  replace hT := hT.later hb
  clear hb
  have c3 : w1.cell? ⟨w.heap.size, 3, none⟩ = some (.slice A n k) := hT.1.cell rfl
  have d3 : w1.cell? ⟨w.heap.size + 1, 3, none⟩ = some (.slice A' n' k') := hT.2.1.cell rfl
  go_upto_region 5 with fail
  clear g1 g2 g3 n1 n2 n3 c3 d3
  go_wp2_with (refine wpList_load_part rfl 25 (.tmp 4) rfl w.heap.size 0 rfl _ _ hT.1 (cellsP t e c A n k) (by rfl) _ Tryd.underlying25 rfl (by exact size_pay') ?_)
  refine (makeB_any t e c tag n A k _ HT.out.1 HT.out.2.1 HT.out.2.2 HN hrt hk (by omega) hg).mono ?_
  rintro e₁ w2 ⟨X, ex, A1, m1, c1, rfl, HX, hc1, hrx, hb, HWX⟩
  replace hrt := hrt.keep hb
  replace hrt' := hrt'.keep hb
  replace hrb := hrb.keep hb
  replace hg := hg.later hb
  replace hT := hT.later hb
  clear hb
  go_upto_region 6 with fail
  go_wp2_with (refine wpList_load_part rfl 25 (.tmp 5) rfl (w.heap.size + 1) 0 rfl _ _ hT.2.1 (cellsP t' e' c' A' n' k') (by rfl) _ Tryd.underlying25 rfl (by exact size_pay') ?_)
  refine (makeB_any t' e' c' tag' n' A' k' _ HT'.out.1 HT'.out.2.1 HT'.out.2.2 HN' hrt' hk' (by omega) hg).mono ?_
  rintro e₁ w3 ⟨Y, ey, A2, m2, c2, rfl, HY, hc2, hry, hb, HWY⟩
  replace hrt := hrt.keep hb
  replace hrt' := hrt'.keep hb
  replace hrb := hrb.keep hb
  replace hrx := hrx.keep hb
  replace hg := hg.later hb
  replace hT := hT.later hb
  clear hb
  go_upto_region 7 with fail
  go_cut [63] (fun v wx => v = .bool false ∧ Below w3.heap.size w3 wx)
  case first =>
    have cp0 : ∀ W, Below w3.heap.size w3 W → W.cell? ⟨w.heap.size, 0, none⟩ = some (.int .u64 (t : Int)) := fun W hW => (hT.1.later hW).cell rfl
    have cp1 : ∀ W, Below w3.heap.size w3 W → W.cell? ⟨w.heap.size, 1, none⟩ = some (.int .u64 (e : Int)) := fun W hW => (hT.1.later hW).cell rfl
    have cp2 : ∀ W, Below w3.heap.size w3 W → W.cell? ⟨w.heap.size, 2, none⟩ = some (.int .u64 (c : Int)) := fun W hW => (hT.1.later hW).cell rfl
    have cp3 : ∀ W, Below w3.heap.size w3 W → W.cell? ⟨w.heap.size, 3, none⟩ = some (.slice A n k) := fun W hW => (hT.1.later hW).cell rfl
    have cq0 : ∀ W, Below w3.heap.size w3 W → W.cell? ⟨w.heap.size + 1, 0, none⟩ = some (.int .u64 (t' : Int)) := fun W hW => (hT.2.1.later hW).cell rfl
    have cq1 : ∀ W, Below w3.heap.size w3 W → W.cell? ⟨w.heap.size + 1, 1, none⟩ = some (.int .u64 (e' : Int)) := fun W hW => (hT.2.1.later hW).cell rfl
    have cq2 : ∀ W, Below w3.heap.size w3 W → W.cell? ⟨w.heap.size + 1, 2, none⟩ = some (.int .u64 (c' : Int)) := fun W hW => (hT.2.1.later hW).cell rfl
    have cq3 : ∀ W, Below w3.heap.size w3 W → W.cell? ⟨w.heap.size + 1, 3, none⟩ = some (.slice A' n' k') := fun W hW => (hT.2.1.later hW).cell rfl
    have hs1 := strBz (c := c1) m1 HX hrx
    have hs2 := strBz (c := c2) m2 HY hry
    have HRT := Lib.hid (And.intro hrt hrt')
    clear hrx hry hrt hrt' hT hrb hg
    have hBase := (Below.refl w3.heap.size w3).drew
    rcases HWX.out with ⟨h8, hXe, rfl⟩ | ⟨h8, hXe, gx, rfl⟩
    · rcases HWY.out with ⟨h8', hYe, rfl⟩ | ⟨h8', hYe, gy, rfl⟩
      · subst h8
        subst h8'
        have hst : ((strL X).toList == (strL Y).toList) = sameF t e c tag t' e' c' tag' := str_sameB X Y _ (by
          rw [hXe, hYe, bar_inj HT.out.1 HT.out.2.1 HT.out.2.2 HT'.out.1 HT'.out.2.1 HT'.out.2.2 HN.out HN'.out]
          unfold sameF
          rw [decide_eq_true_iff])
        generalize hSM : sameF t e c tag t' e' c' tag' = SM at hst
        have HSM := Lib.hid hSM
        generalize strL X = SX at hs1 hst
        generalize strL Y = SY at hs2 hst
        clear hSM hXe hYe HWX HWY
        refine wp_region_plan (.step 0 false (.step 1 false (.step 2 false (.step 3 false (.step 4 false (.step 5 false (.step 6 false (.step 7 false (.step 8 false (.step 9 false (.step 10 false (.step 11 false (.step 12 false (.step 13 false (.step 14 true (.step 15 false (.step 16 false (.nil)))))))))))))))))) (by kernel_rfl) (by kernel_rfl) (by rfl) (by kernel_rfl) ?_
        iterate 14 (refine plan_read rfl (by rfl) (v := ?_) ?_ ?_; rotate_left 1; (intro W hW; have hW0 := below_step hBase hW; (try dsimp only at hW); go_simp <;> with_reducible rfl); simp only [List.getElem_toArray, List.getElem_cons_zero, List.getElem_cons_succ, Act.put, List.setIfInBounds_toArray, List.set_cons_zero, List.set_cons_succ])
        (refine plan_make rfl (by rfl) (fun K hK => ?_); go_simp; (refine (refsame_pay t e c t' e' c' tag tag' 8 8 A A' k k' _ HN HN' (HRT.out.1.keep hBase) (HRT.out.2.keep hBase)).mono ?_; rintro e₁ w7 ⟨rfl, hbx⟩; rw [HSM.out]); refine hK.out _ _ hbx ?_; clear hK K; replace hBase := below_step hBase hbx)
        iterate 2 (refine plan_read rfl (by rfl) (v := ?_) ?_ ?_; rotate_left 1; (intro W hW; have hW0 := below_step hBase hW; (try dsimp only at hW); go_simp <;> with_reducible rfl); simp only [List.getElem_toArray, List.getElem_cons_zero, List.getElem_cons_succ, Act.put, List.setIfInBounds_toArray, List.set_cons_zero, List.set_cons_succ])
        refine plan_done ?_
        go_wp2_with fail
        go_meet
        case rel => exact ⟨rfl, hBase⟩
      · generalize strL X = SX at hs1
        generalize strL Y = SY at hs2
        clear HWX HWY hXe hYe h8 h8'
        refine wp_region_plan (.step 0 false (.step 1 false (.step 2 false (.step 3 false (.step 4 false (.step 5 false (.step 6 false (.step 7 false (.step 8 false (.step 9 false (.step 10 false (.step 11 false (.step 12 false (.step 13 false (.step 14 true (.step 15 false (.step 16 false (.nil)))))))))))))))))) (by kernel_rfl) (by kernel_rfl) (by rfl) (by kernel_rfl) ?_
        iterate 7 (refine plan_read rfl (by rfl) (v := ?_) ?_ ?_; rotate_left 1; (intro W hW; have hW0 := below_step hBase hW; (try dsimp only at hW); go_simp <;> with_reducible rfl); simp only [List.getElem_toArray, List.getElem_cons_zero, List.getElem_cons_succ, Act.put, List.setIfInBounds_toArray, List.set_cons_zero, List.set_cons_succ])
        iterate 9 (refine plan_skip rfl (by rfl) ?_; simp only [List.getElem_toArray, List.getElem_cons_zero, List.getElem_cons_succ, Act.put, List.setIfInBounds_toArray, List.set_cons_zero, List.set_cons_succ])
        iterate 1 (refine plan_read rfl (by rfl) (v := ?_) ?_ ?_; rotate_left 1; (intro W hW; have hW0 := below_step hBase hW; (try dsimp only at hW); go_simp <;> with_reducible rfl); simp only [List.getElem_toArray, List.getElem_cons_zero, List.getElem_cons_succ, Act.put, List.setIfInBounds_toArray, List.set_cons_zero, List.set_cons_succ])
        refine plan_done ?_
        go_wp2_with fail
        go_meet
        case rel => exact ⟨rfl, hBase⟩
    · have HEY : Hid (ey = .nilIface ∨ ∃ g, ey = errV g) := by
        rcases HWY.out with ⟨_, _, h⟩ | ⟨_, _, g, h⟩
        · exact .inl h
        · exact .inr ⟨g, h⟩
      generalize strL X = SX at hs1
      generalize strL Y = SY at hs2
      clear HWX HWY hXe h8
      refine wp_region_plan (.step 0 false (.step 1 false (.step 2 false (.step 3 false (.step 4 false (.step 5 false (.step 6 false (.step 7 false (.step 8 false (.step 9 false (.step 10 false (.step 11 false (.step 12 false (.step 13 false (.step 14 true (.step 15 false (.step 16 false (.nil)))))))))))))))))) (by kernel_rfl) (by kernel_rfl) (by rfl) (by kernel_rfl) ?_
      iterate 3 (refine plan_read rfl (by rfl) (v := ?_) ?_ ?_; rotate_left 1; (intro W hW; have hW0 := below_step hBase hW; (try dsimp only at hW); go_simp <;> with_reducible rfl); simp only [List.getElem_toArray, List.getElem_cons_zero, List.getElem_cons_succ, Act.put, List.setIfInBounds_toArray, List.set_cons_zero, List.set_cons_succ])
      iterate 2 (refine plan_skip rfl (by rfl) ?_; simp only [List.getElem_toArray, List.getElem_cons_zero, List.getElem_cons_succ, Act.put, List.setIfInBounds_toArray, List.set_cons_zero, List.set_cons_succ])
      iterate 2 (refine plan_read rfl (by rfl) (v := ?_) ?_ ?_; rotate_left 1; (intro W hW; have hW0 := below_step hBase hW; (try dsimp only at hW); go_simp <;> with_reducible rfl); simp only [List.getElem_toArray, List.getElem_cons_zero, List.getElem_cons_succ, Act.put, List.setIfInBounds_toArray, List.set_cons_zero, List.set_cons_succ])
      iterate 9 (refine plan_skip rfl (by rfl) ?_; simp only [List.getElem_toArray, List.getElem_cons_zero, List.getElem_cons_succ, Act.put, List.setIfInBounds_toArray, List.set_cons_zero, List.set_cons_succ])
      iterate 1 (refine plan_read rfl (by rfl) (v := ?_) ?_ ?_; rotate_left 1; (intro W hW; have hW0 := below_step hBase hW; (try dsimp only at hW); go_simp <;> with_reducible rfl); simp only [List.getElem_toArray, List.getElem_cons_zero, List.getElem_cons_succ, Act.put, List.setIfInBounds_toArray, List.set_cons_zero, List.set_cons_succ])
      refine plan_done ?_
      go_wp2_with fail
      go_meet
      case rel => exact ⟨rfl, hBase⟩
  case rest =>
  obtain ⟨rfl, hb⟩ := hcut
  replace hrb := hrb.keep hb
  replace hg := hg.later hb
  have hB := below_step hT.2.2 hb
  clear hb hry hrt hrt' hrx hT HWX HWY HX HY
  go_upto_region 9 with fail
  rcases bars_cases b with ⟨t2, e2, c2, tg, D, hF, h8, ht2, he2, hc2', hbl, hbd, hD5⟩ | ⟨kf, sf, hF, hk1, hk2, hs1, hs2⟩
  · have HF := Lib.hid hF
    have HL := Lib.hid (And.intro ht2 (And.intro he2 hc2'))
    clear hF ht2 he2 hc2'
    go_wp2_with fail
    refine (readB_ok b t2 e2 c2 tg D m B d _ HM hrb hd (by omega) hg HF).mono ?_
    rintro e₁ w5 ⟨A5, m5, k5, rfl, HN5, hk5, hr5, hb⟩
    have em5 : m5 = 8 := HN5.out.symm.trans h8
    subst em5
    replace hrb := hrb.keep hb
    replace hg := hg.later hb
    replace hB := below_step hB hb
    clear hb HF h8
    have hRn : Row (w5.alloc (.cells #[.int .u64 0, .int .u64 0, .int .u64 0, .slice none 0 0] 25)) w5.heap.size 25 [.int .u64 0, .int .u64 0, .int .u64 0, .slice none 0 0] := Row.new w5 _ _ _ rfl
    go_upto_region 10 with (refine wpList_store_row rfl 25 (.tmp 11) (.tmp 67) rfl w5.heap.size rfl [.int .u64 (t2 : Int), .int .u64 (e2 : Int), .int .u64 (c2 : Int), .slice A5 8 k5] rfl _ _ hRn (by exact size_pay') rfl (one_four _ _ _ _ rfl rfl rfl rfl) ?_)
    have hRq := hRn.setRow [.int .u64 (t2 : Int), .int .u64 (e2 : Int), .int .u64 (c2 : Int), .slice A5 8 k5]
    have hb2 : Below w5.heap.size w5 ((w5.alloc (.cells #[.int .u64 0, .int .u64 0, .int .u64 0, .slice none 0 0] 25)).setRow w5.heap.size [.int .u64 (t2 : Int), .int .u64 (e2 : Int), .int .u64 (c2 : Int), .slice A5 8 k5].toArray) := below_setRow (below_new (Below.refl _ _) _) (Nat.le_refl _) _
    replace hrb := hrb.keep hb2
    replace hr5 := hr5.keep hb2
    replace hg := hg.later hb2
    replace hB := below_step hB hb2
    generalize (w5.alloc (.cells #[.int .u64 0, .int .u64 0, .int .u64 0, .slice none 0 0] 25)).setRow w5.heap.size [.int .u64 (t2 : Int), .int .u64 (e2 : Int), .int .u64 (c2 : Int), .slice A5 8 k5].toArray = w6 at hrb hr5 hg hRq hB ⊢
    clear hRn hb2
    generalize w5.heap.size = gq at hRq ⊢
    go_wp2_with (refine wpList_load_part rfl 25 (.tmp 11) rfl gq 0 rfl _ _ hRq [.int .u64 (t2 : Int), .int .u64 (e2 : Int), .int .u64 (c2 : Int), .slice A5 8 k5] (by rfl) _ Tryd.underlying25 rfl (by exact size_pay') ?_)
    refine (makeB_ok t2 e2 c2 tg A5 k5 _ HL.out.1 HL.out.2.1 HL.out.2.2 HN5 hr5 hk5 hg).mono ?_
    rintro e₁ w7 ⟨A7, n7, k7, rfl, HN7, hk7, hr7, hb⟩
    replace hrb := hrb.keep hb
    replace hB := below_step hB hb
    clear hb hr5 hRq hg
    generalize barL t2 e2 c2 tg = Z at hbl hbd HN7 hr7
    have hnm : n7 = m := by rw [← HN7.out, hbl, HM.out]
    have eM := HM.out
    subst eM
    subst hnm
    have HY : Hid (Z.length = b.length) := hbl
    have HD := Lib.hid hbd
    clear hbl hbd HN7 HM
    have hbne : ((b.length : Int) != (b.length : Int)) = false := by simp
    go_upto_region 17 with fail
    go_wp2_with fail
    go_loopw [18, 19] (fun p i wr' => CntR b Z w7 p i wr') (fun _ i _ => b.length - (intOf i).toNat)
    case atStart => exact ⟨0, Nat.zero_le _, rfl, rfl, Below.refl _ _⟩
    case round =>
      obtain ⟨q, hq, rfl, rfl, hbq⟩ := hrel
      by_cases hql : q < b.length
      · have k1 : (q : Int) < (b.length : Int) := by omega
        have k0 : (0 : Int) ≤ (q : Int) := by omega
        obtain ⟨gs, os, rfl, hgs, hcs'⟩ := hrb.at hql
        obtain ⟨gz, oz, rfl, hgz, hcz⟩ := hr7.at (k := q) (by rw [HY.out]; exact hql)
        have hc1 : wr.cell? ⟨gs, os + q, none⟩ = some (.int .u8 (b[q].toNat : Int)) := (hbq.cell (p := ⟨gs, os + q, none⟩) hgs).trans (hcs' q hql)
        have hqz : q < Z.length := by rw [HY.out]; exact hql
        have hc2' : wr.cell? ⟨gz, oz + q, none⟩ = some (.int .u8 (Z[q].toNat : Int)) := (hbq.cell (p := ⟨gz, oz + q, none⟩) hgz).trans (hcz q hqz)
        have HR := cnt_step b Z HY.out.symm (by omega) q hql w7 wr hbq
        generalize b[q] = x at hc1 HR
        generalize Z[q] = z at hc2' HR
        generalize difL (b.take (q + 1)) (Z.take (q + 1)) = P1 at HR
        generalize difL (b.take q) (Z.take q) = P0 at HR ⊢
        have HRR := Lib.hid HR
        clear HR hcs' hgs hgz hcz hbq hrb hr7
        by_cases exy : x = z
        · subst exy
          have hP := HRR.out.1 rfl
          subst hP
          have HR3 := Lib.hid HRR.out.2.2.2
          clear HRR
          go_upto_region 20 with fail
          go_quiet (fail)
          go_wp2_with fail
          go_roundw
          case rel => exact HR3.out _
          case measure => simp [intOf] <;> omega
        · have hne : ((x.toNat : Int) != (z.toNat : Int)) = true := bne_iff_ne.2 (fun e => exy (UInt8.toNat_inj.1 (by omega)))
          have hP := HRR.out.2.1 exy
          have hP1 := HRR.out.2.2.1
          have HR3 := Lib.hid HRR.out.2.2.2
          clear HRR
          go_upto_region 20 with fail
          go_quiet (fail)
          go_wp2_with fail
          go_roundw
          case rel => exact HR3.out _
          case measure => simp [intOf] <;> omega
      · have eq : q = b.length := by omega
        subst eq
        have k1 : ¬ (b.length : Int) < (b.length : Int) := by omega
        have hDD : difL (b.take b.length) (Z.take b.length) = D := by
          rw [List.take_length, ← HY.out, List.take_length]
          exact HD.out
        rw [hDD]
        replace hB := below_step hB hbq
        clear hDD HD hbq hr7 hrb HY
        have hd5 : decide ((D : Int) ≤ 5) = true := decide_eq_true (by omega)
        go_wp2_with fail
        go_ret
        exact ⟨by first | rfl | (rw [← hd5]; rfl), hB⟩
  · have HF := Lib.hid hF
    clear hF
    go_wp2_with fail
    refine (readB_no b kf sf m B d _ HM hrb hd (by omega) hg HF (by omega)).mono ?_
    rintro e₁ w5 ⟨A5, k5, g5, rfl, hFl, hb⟩
    replace hg := hg.later hb
    replace hB := below_step hB hb
    clear hb hrb HF
    have hRn : Row (w5.alloc (.cells #[.int .u64 0, .int .u64 0, .int .u64 0, .slice none 0 0] 25)) w5.heap.size 25 [.int .u64 0, .int .u64 0, .int .u64 0, .slice none 0 0] := Row.new w5 _ _ _ rfl
    go_upto_region 10 with (refine wpList_store_row rfl 25 (.tmp 11) (.tmp 67) rfl w5.heap.size rfl [.int .u64 0, .int .u64 0, .int .u64 0, .slice A5 0 k5] rfl _ _ hRn (by exact size_pay') rfl (one_four _ _ _ _ rfl rfl rfl rfl) ?_)
    have hRq := hRn.setRow [.int .u64 0, .int .u64 0, .int .u64 0, .slice A5 0 k5]
    have hb2 : Below w5.heap.size w5 ((w5.alloc (.cells #[.int .u64 0, .int .u64 0, .int .u64 0, .slice none 0 0] 25)).setRow w5.heap.size [.int .u64 0, .int .u64 0, .int .u64 0, .slice A5 0 k5].toArray) := below_setRow (below_new (Below.refl _ _) _) (Nat.le_refl _) _
    replace hFl := hFl.later hb2
    replace hg := hg.later hb2
    replace hB := below_step hB hb2
    generalize (w5.alloc (.cells #[.int .u64 0, .int .u64 0, .int .u64 0, .slice none 0 0] 25)).setRow w5.heap.size [.int .u64 0, .int .u64 0, .int .u64 0, .slice A5 0 k5].toArray = w6 at hFl hg hRq hB ⊢
    clear hRn hb2
    generalize w5.heap.size = gq at hRq ⊢
    go_upto_region 11 with fail
    go_wp2_with fail
    refine (told_flt g5 sf kf _ hg hFl).mono ?_
    rintro e₁ w7 ⟨rfl, hb⟩
    replace hRq := hRq.later hb
    replace hB := below_step hB hb
    clear hb hFl hg
    have cq0 : w7.cell? ⟨gq, 0, none⟩ = some (.int .u64 0) := hRq.cell rfl
    have cq1 : w7.cell? ⟨gq, 1, none⟩ = some (.int .u64 0) := hRq.cell rfl
    have cq2 : w7.cell? ⟨gq, 2, none⟩ = some (.int .u64 0) := hRq.cell rfl
    have cq3 : w7.cell? ⟨gq, 3, none⟩ = some (.slice A5 0 k5) := hRq.cell rfl
    go_wp2_with fail
    refine (refsame_pay 0 0 0 0 0 0 [] [] 0 0 A5 none k5 0 _ (Lib.hid rfl) (Lib.hid rfl) Rd.nil Rd.nil).mono ?_
    rintro e₁ w8 ⟨rfl, hb⟩
    rw [same_selfP]
    replace hB := below_step hB hb
    clear hb cq0 cq1 cq2 cq3
    go_wp2_with fail
    go_ret
    exact ⟨rfl, hB⟩
end Go.Proofs.YtcnjackbiimjdaaDoor
/-
  The law BarsBack, at whatever comes in: it answers true, and writes nothing that was there. Condition: errors.errorType holds the handle of the type error (EtC).
-/
namespace Go.Proofs.YtcnjackbiimjdaaDoor
set_option maxRecDepth 100000
open Go.RowKit Go.WideShapes
set_option linter.unusedSimpArgs false
set_option linter.unusedVariables false

theorem barsback_big (m : Nat) (B : Option Addr) (d : Nat) (t e c : Nat) (n : Nat) (A : Option Addr) (k : Nat) (t' e' c' : Nat) (n' : Nat) (A' : Option Addr) (k' : Nat) (w : World) (h : ¬ (m ≤ 255 ∧ n ≤ 300 ∧ n' ≤ 300)) (hm : m ≤ 9223372036854775807) (hn : n ≤ 9223372036854775807) (hn' : n' ≤ 9223372036854775807) (hg : EtC w) :
    Calls Tryd.prog 4 #[.slice B m d, aggP t e c A n k, aggP t' e' c' A' n' k'] w fun e₁ w' => e₁ = .returned (.bool true) ∧ Below w.heap.size w w' := by
  have hT := two_box w (.int .u64 (t : Int)) (.int .u64 (e : Int)) (.int .u64 (c : Int)) (.slice A n k) (.int .u64 (t' : Int)) (.int .u64 (e' : Int)) (.int .u64 (c' : Int)) (.slice A' n' k') _ rfl
  unfold aggP
  go_enter Tryd.func4, Tryd.ntmps4
  go_upto_region 1 with fail
  generalize (w.alloc (.cells #[.int .u64 (t : Int), .int .u64 (e : Int), .int .u64 (c : Int), .slice A n k] 25)).alloc (.cells #[.int .u64 (t' : Int), .int .u64 (e' : Int), .int .u64 (c' : Int), .slice A' n' k'] 25) = W0 at hT ⊢
  go_wp2_with fail
  refine (awake13_any _ (hg.later hT.2.2)).mono ?_
  rintro e₁ w1 ⟨rfl, hb⟩
  replace hT := hT.later hb
  clear hb hg
  have c3 : w1.cell? ⟨w.heap.size, 3, none⟩ = some (.slice A n k) := hT.1.cell rfl
  have d3 : w1.cell? ⟨w.heap.size + 1, 3, none⟩ = some (.slice A' n' k') := hT.2.1.cell rfl
  by_cases h0 : m ≤ 255
  · have g0 : decide ((255 : Int) < (m : Int)) = false := decide_eq_false (by omega)
    have n0 : ¬ 255 < m := by omega
    by_cases h1 : n ≤ 300
    · have g1 : decide ((300 : Int) < (n : Int)) = false := decide_eq_false (by omega)
      have n1 : ¬ 300 < n := by omega
      have g2 : decide ((300 : Int) < (n' : Int)) = true := decide_eq_true (by omega)
      have n2 : 300 < n' := by omega
      clear h
      go_wp2_with fail
      go_ret
      exact ⟨rfl, hT.2.2⟩
    · have g1 : decide ((300 : Int) < (n : Int)) = true := decide_eq_true (by omega)
      have n1 : 300 < n := by omega
      clear h
      go_wp2_with fail
      go_ret
      exact ⟨rfl, hT.2.2⟩
  · have g0 : decide ((255 : Int) < (m : Int)) = true := decide_eq_true (by omega)
    have n0 : 255 < m := by omega
    clear h
    go_wp2_with fail
    go_ret
    exact ⟨rfl, hT.2.2⟩
theorem barsback_any (v0 v1 v2 : Value) (W : World) {H : Type} {enc : TypeId × Value → H} {base : Nat} {d0 d1 d2 : DataW H} {p0 p1 p2 : List MemPlace}
    (hv0 : Value.okWide Tryd.prog W .any base 23 v0) (ht0 : DataW.Trod enc Tryd.prog W 0 (fun _ => true) true 23 v0 d0 p0) (hv1 : Value.okWide Tryd.prog W .any base 25 v1) (ht1 : DataW.Trod enc Tryd.prog W 0 (fun _ => true) true 25 v1 d1 p1) (hv2 : Value.okWide Tryd.prog W .any base 25 v2) (ht2 : DataW.Trod enc Tryd.prog W 0 (fun _ => true) true 25 v2 d2 p2) (hg : EtC W) :
    Calls Tryd.prog 4 #[v0, v1, v2] W fun e w' => e = .returned (.bool true) ∧ Below W.heap.size W w' := by
  obtain ⟨b, B, d, rfl, hd, hdm, hrb⟩ := open_bytes hv0 ht0
  obtain ⟨t, e, c, tag, A, k, rfl, ht, he, hc, hk, hkm, hr⟩ := open_payload hv1 ht1
  obtain ⟨t', e', c', tag', A', k', rfl, ht', he', hc', hk', hkm', hr'⟩ := open_payload hv2 ht2
  by_cases h : b.length ≤ 255 ∧ tag.length ≤ 300 ∧ tag'.length ≤ 300
  · exact barsback_core b _ B d t e c tag _ A k t' e' c' tag' _ A' k' W (Lib.hid rfl) hrb hd h.1 ht he hc (Lib.hid rfl) hr hk h.2.1 ht' he' hc' (Lib.hid rfl) hr' hk' h.2.2 hg
  · exact barsback_big _ B d t e c _ A k t' e' c' _ A' k' W h (by omega) (by omega) (by omega) hg
end Go.Proofs.YtcnjackbiimjdaaDoor
