/-
  What the call awake of layer 3's statements answers: true. Condition: the package's table holds the sixty-four constants.
-/
import Derived.Test.YtdokbhcoekffpaaDoorHmacCalls
import Derived.Test.YtdokbhcoekffpaaDoorHmacHi
import Derived.Test.YtdokbhcoekffpaaDoorShaAwake
namespace Go.Proofs.YtdokbhcoekffpaaDoor
open Go.RowKit
set_option linter.unusedSimpArgs false
set_option linter.unusedVariables false

def hiKey : List UInt8 := [11, 11, 11, 11, 11, 11, 11, 11, 11, 11, 11, 11, 11, 11, 11, 11, 11, 11, 11, 11]
def hiMsg : List UInt8 := [72, 105, 32, 84, 104, 101, 114, 101]
theorem hi_inner : turnL 54 (hblk hiKey) ++ hiMsg = hiIT := by
  rw [hblk_short hiKey (by decide)]
  decide +kernel
theorem hi_outer : turnL 92 (hblk hiKey) ++ hiIS = hiOT := by
  rw [hblk_short hiKey (by decide)]
  decide +kernel
theorem hi_mac : macL hiKey hiMsg = hiOS := by rw [macL, hi_inner, hiI_sum, hi_outer, hiO_sum]

def ElevRel (w : World) (i : Value) (wr : World) : Prop :=
  ∃ k : Nat, k ≤ 20 ∧ i = .int .i64 (k : Int) ∧ Row wr w.heap.size 5 ((List.replicate k (11 : UInt8) ++ List.replicate (20 - k) 0).map vB) ∧ Below w.heap.size w wr
theorem elev_set (k : Nat) (hk : k < 20) : ((List.replicate k (11 : UInt8) ++ List.replicate (20 - k) 0).map vB).set k (vB 11) = (List.replicate (k + 1) (11 : UInt8) ++ List.replicate (20 - (k + 1)) 0).map vB := by
  rw [← List.map_set, List.set_append_right _ _ (by simp), List.length_replicate, Nat.sub_self, show 20 - k = (20 - (k + 1)) + 1 by omega, List.replicate_succ, List.set_cons_zero, List.replicate_succ', List.append_assoc]
  rfl

set_option maxRecDepth 100000 in
set_option maxHeartbeats 1000000 in
theorem awake3_any (w : World) (HK : Hid (KTab w)) : Calls Tryd.prog 19 #[] w fun e w' => e = .returned (.bool true) ∧ Below w.heap.size w w' := by
  have hmk : ∀ w, (Instr.makeSlice 24 (.int .i64 20) (.int .i64 20)).run Tryd.prog w = .ok (.slice (some ⟨w.heap.size, 0, none⟩) 20 20) (w.alloc (.cells (List.replicate 20 (.int .u8 0)).toArray 5)) := fun _ => by kernel_rfl
  have hR0 : Row (w.alloc (.cells (List.replicate 20 (.int .u8 0)).toArray 5)) w.heap.size 5 (List.replicate 20 (.int .u8 0)) := Row.new w _ _ _ rfl
  have hB0 : Below w.heap.size w (w.alloc (.cells (List.replicate 20 (.int .u8 0)).toArray 5)) := below_new (Below.refl _ _) _
  go_enter Tryd.func19, Tryd.ntmps19
  go_wp2_with fail
  clear hmk
  go_loopw [2] (fun i wr => ElevRel w i wr) (fun i _ => 20 - (intOf i).toNat)
  case atStart => exact ⟨0, by omega, rfl, by simpa [vB] using hR0, hB0⟩
  case round =>
    clear hR0 hB0
    obtain ⟨k, hk, rfl, hR, hB⟩ := hrel
    by_cases hlt : k < 20
    · have HS := Lib.hid (elev_set k hlt)
      have hkl : k < ((List.replicate k (11 : UInt8) ++ List.replicate (20 - k) 0).map vB).length := by simp; omega
      obtain ⟨vk, hcn⟩ : ∃ v, wr.cell? ⟨w.heap.size, k, none⟩ = some v := ⟨_, hR.cell (List.getElem?_eq_getElem hkl)⟩
      have hfz : wr.frozen? ⟨w.heap.size, k, none⟩ = false := hR.frozen _
      have i1 : (0 : Int) ≤ (k : Int) := by omega
      have i2 : (k : Int) < 20 := by omega
      have HRel : Hid (ElevRel w (.int .i64 ((k : Int) + 1)) (wr.setCell ⟨w.heap.size, k, none⟩ (.int .u8 11))) :=
        ⟨k + 1, by omega, by go_num, by have := hR.setCell k (vB 11); rw [HS.out] at this; exact this, hB.setCell (by simp) _⟩
      clear hR hB HS hkl
      go_wp2_with fail
      go_roundw
      case rel => exact HRel.out
      case measure => simp [intOf]; omega
    · have hk20 : k = 20 := by omega
      subst hk20
      have hr : Rd vB wr (some ⟨w.heap.size, 0, none⟩) hiKey := Row.rd (L := hiKey) hR
      have hcv := Lib.run_convert_bytes_const (P := Tryd.prog) wr 24 5 #[.int .u8 72, .int .u8 105, .int .u8 32, .int .u8 84, .int .u8 104, .int .u8 101, .int .u8 114, .int .u8 101] 8 8 Tryd.underlying24 Tryd.underlying5
      have hb1 := below_new hB (.cells #[.int .u8 72, .int .u8 105, .int .u8 32, .int .u8 84, .int .u8 104, .int .u8 101, .int .u8 114, .int .u8 101] 5 (8, 9))
      have hb2 := below_new (Below.refl _ wr) (.cells #[.int .u8 72, .int .u8 105, .int .u8 32, .int .u8 84, .int .u8 104, .int .u8 101, .int .u8 114, .int .u8 101] 5 (8, 9))
      have hm : Rd vB (wr.alloc (.cells #[.int .u8 72, .int .u8 105, .int .u8 32, .int .u8 84, .int .u8 104, .int .u8 101, .int .u8 114, .int .u8 101] 5 (8, 9))) (some ⟨wr.heap.size, 0, none⟩) hiMsg := Rd.new_fr wr _ rfl _ _ _ _ rfl
      clear hR
      go_wp2_with fail
      clear hcv
      refine (mac_any 20 8 hiKey hiMsg _ _ _ _ _ (Lib.hid rfl) (Lib.hid rfl) (hr.keep hb2) hm (by omega) (by omega) (by omega) (Lib.hid (HK.out.keep hb1))).mono ?_
      rintro e w1 ⟨A1, c1, rfl, hc1, hr1, hb3⟩
      rw [hi_mac] at hr1
      have hs1 := run_str (P := Tryd.prog) w1 24 5 9 Tryd.underlying24 Tryd.underlying5 Tryd.underlying9 A1 hiOS 32 c1 rfl hr1
      unfold hiOS at hs1
      replace hr := hr.keep (below_step hb2 hb3)
      replace hB := below_step hb1 hb3
      clear hr1 hb1 hb2 hb3 hm
      go_wp2_with fail
      clear hs1
      refine (hblock_any 20 hiKey _ _ _ (Lib.hid rfl) hr (by omega) (by omega) (Lib.hid (HK.out.keep hB))).mono ?_
      rintro e w2 ⟨A2, c2, rfl, hc2, hr2, hb4⟩
      go_wp2_with fail
      go_ret
      exact ⟨rfl, below_step hB hb4⟩
end Go.Proofs.YtdokbhcoekffpaaDoor
