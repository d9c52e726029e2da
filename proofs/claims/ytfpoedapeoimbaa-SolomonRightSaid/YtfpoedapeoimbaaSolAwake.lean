/-
  What the call awake of layer 9's statements answers: true. No conditions.
-/
import Derived.Test.YtfpoedapeoimbaaSolCalls
import Derived.Test.YtfpoedapeoimbaaStr
namespace Go.Proofs.Ytfpoedapeoimbaa
set_option maxRecDepth 100000
open Go.RowKit
set_option linter.unusedSimpArgs false
set_option linter.unusedVariables false

theorem sw_put : putS [1] 1 = [1, 2] := by decide +kernel
theorem sw_signs : signsL [1, 0] 1 = [2] := by decide +kernel
theorem sw_fine : fineS [1, 2] 1 = true := by decide +kernel
theorem sw_not : fineS [1, 0] 1 = false := by decide +kernel
theorem sone_lit (w : World) (l : List UInt8) (g : Nat) (hg : g = w.heap.size) (cs : Array Value) (h : cs = (l.map vB).toArray) : Rd vB (w.alloc (.cells cs 5)) (some ⟨g, 0, none⟩) l ∧ Below w.heap.size w (w.alloc (.cells cs 5)) := ⟨Rd.new_at w g hg l _ _ h, below_new (Below.refl _ _) _⟩
theorem strS (n : Nat) {w : World} {A : Option Addr} {l : List UInt8} {c : Nat} (H : Hid (l.length = n)) (h : Rd vB w A l) : ∀ W, Below w.heap.size w W → (convert 22 9 (.slice A n c)).run Try.prog W = .ok (.string (strL l)) W :=
  fun W hW => run_str W _ _ _ Try.underlying22 Try.underlying5 Try.underlying9 A l n c H.out (h.keep hW)
theorem below_same {w w' : World} (h : w = w') : Below w.heap.size w w' := by
  subst h
  exact Below.refl _ _
/-- A new slice of zeros, read as bytes. -/
theorem rd_zeros (w w' : World) (n c : Nat) (A : Option Addr) (base : Nat) (h : w'.ownsRow base 5 1 (.slice A n c) n (madeCells (Value.int .u8 0).cells n).toList) : Rd vB w' A (List.replicate n (0 : UInt8)) ∧ w'.ownsRow base 5 1 (.slice A n c) n ((List.replicate n (0 : UInt8)).map vB) := by
  have e0 : (List.replicate n (Value.int .u8 0)) = (List.replicate n (0 : UInt8)).map vB := by
    rw [List.map_replicate]
    rfl
  have e : (Value.int .u8 0).cells = #[.int .u8 0] := rfl
  rw [e, toList_madeCells_one, e0] at h
  exact ⟨Rd.own h, h⟩

set_option maxRecDepth 100000 in
set_option maxHeartbeats 2000000 in
theorem awake9_any (w : World) : Calls Try.prog 6 #[] w fun e w' => e = .returned (.bool true) ∧ Below w.heap.size w w' := by
  obtain ⟨i0, hi, hz0, hz1, hz2⟩ := info_parts info_u8
  go_enter Try.func6, Try.ntmps6
  go_wp2_with fail
  obtain ⟨hl0, hb0⟩ := sone_lit w [1] (w.heap.size) rfl #[.int .u8 1] rfl
  refine (putS_ok [1] 1 1 _ _ _ (Lib.hid rfl) hl0 (by omega) (by omega) (by omega) (by omega)).mono ?_
  rintro e w1 ⟨A1, n1, c1, rfl, HN1, hc1, hr1, hb1⟩
  rw [sw_put] at HN1 hr1
  have en1 : n1 = 2 := HN1.out.symm
  subst en1
  have hB := below_step hb0 hb1
  clear hb0 hb1 hl0
  go_wp2_with fail
  obtain ⟨hl0, hb0⟩ := sone_lit w1 [1, 0] (w1.heap.size) rfl #[.int .u8 1, .int .u8 0] rfl
  refine (signsS_ok [1, 0] 2 1 _ _ _ (Lib.hid rfl) hl0 (by omega) (by omega) (by omega) (by omega) (by omega)).mono ?_
  rintro e w2 ⟨A2, n2, c2, rfl, HN2, hc2, hr2, hb2⟩
  rw [sw_signs] at HN2 hr2
  have en2 : n2 = 1 := HN2.out.symm
  subst en2
  have hb := below_step hb0 hb2
  replace hr1 := hr1.keep hb
  replace hB := below_step hB hb
  clear hb0 hb2 hb hl0
  go_wp2_with (at_make; refine wpList_make_full _ rfl _ _ 22 rfl w2.heap.size 5 i0 (.int .u8 0) 1 Try.underlying22 hi hz0 hz1 .i64 .i64 _ _ 246 rfl rfl rfl rfl (by rw [hz2]; omega) (by unfold maxLen; omega) (Nat.le_refl _) ?_; intro w3 hown3 hgrow3)
  obtain ⟨hz, _⟩ := rd_zeros w2 w3 246 246 _ _ hown3
  have hb := (Below.refl w2.heap.size w2).grown hgrow3 (Nat.le_refl _) (by simp)
  replace hr1 := hr1.keep hb
  replace hr2 := hr2.keep hb
  replace hB := below_step hB hb
  clear hown3 hgrow3 hb
  refine (putS_long (List.replicate 246 (0 : UInt8)) 246 10 _ _ _ (Lib.hid (List.length_replicate)) hz (by omega) (by omega) (by omega) (by omega) (by omega)).mono ?_
  rintro e w4 ⟨A4, n4, c4, rfl, HN4, hc4, hr4, hb⟩
  replace hr1 := hr1.keep hb
  replace hr2 := hr2.keep hb
  replace hB := below_step hB hb
  clear hb hz hr4 HN4 hc4
  have hs1 : (convert 22 9 (.slice A1 2 c1)).run Try.prog w4 = .ok (.string ⟨#[1, 2]⟩) w4 := run_str _ _ _ _ Try.underlying22 Try.underlying5 Try.underlying9 _ [1, 2] 2 c1 rfl hr1
  have hs2 : (convert 22 9 (.slice A2 1 c2)).run Try.prog w4 = .ok (.string ⟨#[2]⟩) w4 := run_str _ _ _ _ Try.underlying22 Try.underlying5 Try.underlying9 _ [2] 1 c2 rfl hr2
  go_wp2_with fail
  clear hs1 hs2
  refine (fineS_any [1, 2] 2 1 _ _ _ (Lib.hid rfl) hr1 hc1 (by omega)).mono ?_
  rintro e w5 ⟨rfl, hb⟩
  rw [sw_fine]
  replace hB := below_step hB hb
  clear hb
  go_wp2_with fail
  obtain ⟨hl0, hb0⟩ := sone_lit w5 [1, 0] (w5.heap.size) rfl #[.int .u8 1, .int .u8 0] rfl
  refine (fineS_any [1, 0] 2 1 _ _ _ (Lib.hid rfl) hl0 (by omega) (by omega)).mono ?_
  rintro e w6 ⟨rfl, hb⟩
  rw [sw_not]
  replace hB := below_step (below_step hB hb0) hb
  clear hb hb0 hl0
  go_wp2_with fail
  go_ret
  exact ⟨rfl, hB⟩
end Go.Proofs.Ytfpoedapeoimbaa
