/-
  What the program's calls turned, Block and Mac of layer 3 answer. Condition: the package's table holds the sixty-four constants.
-/
import Derived.Test.YtdokbhcoekffpaaDoorShaGoes
import Derived.Test.YtdokbhcoekffpaaDoorHmacMath
namespace Go.Proofs.YtdokbhcoekffpaaDoor
open Go.RowKit
set_option linter.unusedSimpArgs false
set_option linter.unusedVariables false

/-- A call that hands back n bytes. -/
def RetL (n : Nat) (w : World) (l : List UInt8) (e : Ending) (w' : World) : Prop := ∃ A cap, e = .returned (.slice A n cap) ∧ n ≤ cap ∧ Rd vB w' A l ∧ Below w.heap.size w w'
theorem RetL.of {n : Nat} {w w' : World} {l : List UInt8} {e : Ending} (hl : l.length = n) (h : RetS vB w l e w') : RetL n w l e w' := by
  obtain ⟨A, c, he, hc, hr, hb⟩ := h
  rw [hl] at he hc
  exact ⟨A, c, he, hc, hr, hb⟩

theorem sum_at (n : Nat) (b : List UInt8) (A : Option Addr) (c : Nat) (w : World) (HN : Hid (b.length = n)) (hr : Rd vB w A b) (hc : n ≤ c) (hn : n ≤ 9223372036854775807) (HK : Hid (KTab w)) :
    Calls Tryd.prog 7 #[.slice A n c] w (RetL 32 w (sumL b)) := by
  have e := HN.out
  subst e
  exact (sum_any b A c w hr hc hn HK).mono fun _ _ h => RetL.of (sumL_length b) h
theorem refsum_at (n : Nat) (b : List UInt8) (A : Option Addr) (c : Nat) (w : World) (HN : Hid (b.length = n)) (hr : Rd vB w A b) (hn : n ≤ 70368744177664) :
    Calls Tryd.prog 8 #[.slice A n c] w (RetL 32 w (sumL b)) := by
  have e := HN.out
  subst e
  exact (sum_ref b A c w hr hn).mono fun _ _ h => RetL.of (sumL_length b) h

/-! ### turned -/
def TurnRel (x : UInt8) (b : List UInt8) (w : World) (i : Value) (wr : World) : Prop :=
  ∃ k : Nat, k ≤ 64 ∧ i = .int .i64 (k : Int) ∧ Row wr w.heap.size 5 ((turnL x (b.take k) ++ List.replicate (64 - k) 0).map vB) ∧ Below w.heap.size w wr
theorem turn_set (x : UInt8) (b : List UInt8) (k : Nat) (h : b.length = 64) (hk : k < 64) :
    ((turnL x (b.take k) ++ List.replicate (64 - k) 0).map vB).set k (vB (xorB (b[k]'(by omega)) x)) = (turnL x (b.take (k + 1)) ++ List.replicate (64 - (k + 1)) 0).map vB := by
  have hl : (turnL x (b.take k)).length = k := by rw [turnL_length, List.length_take]; omega
  rw [← List.map_set, List.set_append_right _ _ (by omega), hl, Nat.sub_self, show 64 - k = (64 - (k + 1)) + 1 by omega, List.replicate_succ, List.set_cons_zero, turnL_take x b k (by omega), List.append_assoc]
  rfl

set_option maxHeartbeats 1000000 in
theorem turned_any8 (x : UInt8) (b : List UInt8) (A : Option Addr) (c : Nat) (w : World) (H : Hid (b.length = 64)) (hr : Rd vB w A b) :
    Calls Tryd.prog 38 #[.slice A 64 c, .int .u8 (x.toNat : Int)] w (RetL 64 w (turnL x b)) := by
  have hmk : ∀ w, (Instr.makeSlice 24 (.int .i64 64) (.int .i64 64)).run Tryd.prog w = .ok (.slice (some ⟨w.heap.size, 0, none⟩) 64 64) (w.alloc (.cells (List.replicate 64 (.int .u8 0)).toArray 5)) := fun _ => by kernel_rfl
  go_enter Tryd.func38, Tryd.ntmps38
  go_wp2_with fail
  have hR0 : Row (w.alloc (.cells (List.replicate 64 (.int .u8 0)).toArray 5)) w.heap.size 5 (List.replicate 64 (.int .u8 0)) := Row.new w _ _ _ rfl
  have hB0 : Below w.heap.size w (w.alloc (.cells (List.replicate 64 (.int .u8 0)).toArray 5)) := below_new (Below.refl _ _) _
  clear hmk
  go_loopw [13] (fun i wr => TurnRel x b w i wr) (fun i _ => 64 - (intOf i).toNat)
  case atStart => exact ⟨0, by omega, rfl, by simpa [turnL, vB] using hR0, hB0⟩
  case round =>
    clear hR0 hB0
    obtain ⟨k, hk, rfl, hR, hB⟩ := hrel
    by_cases hlt : k < 64
    · have hkb : k < b.length := by have := H.out; omega
      obtain ⟨blk, o, rfl, hb, hcell⟩ := hr.at hkb
      have hc0 : wr.cell? ⟨blk, o + k, none⟩ = some (.int .u8 (b[k].toNat : Int)) := (hB.cell (p := ⟨blk, o + k, none⟩) hb).trans (hcell k hkb)
      have HS := Lib.hid (turn_set x b k H.out hlt)
      have hxor := u8_xor_b b[k] x
      generalize b[k] = y at hc0 HS hxor
      have hkl : k < ((turnL x (b.take k) ++ List.replicate (64 - k) 0).map vB).length := by rw [List.length_map, List.length_append, turnL_length, List.length_take, List.length_replicate]; omega
      obtain ⟨vk, hcn⟩ : ∃ v, wr.cell? ⟨w.heap.size, k, none⟩ = some v := ⟨_, hR.cell (List.getElem?_eq_getElem hkl)⟩
      have hfz : wr.frozen? ⟨w.heap.size, k, none⟩ = false := hR.frozen _
      have i1 : (0 : Int) ≤ (k : Int) := by omega
      have i2 : (k : Int) < 64 := by omega
      have HRel : Hid (TurnRel x b w (.int .i64 ((k : Int) + 1)) (wr.setCell ⟨w.heap.size, k, none⟩ (.int .u8 ((xorB y x).toNat : Int)))) :=
        ⟨k + 1, by omega, by go_num, by have := hR.setCell k (vB (xorB y x)); rw [HS.out] at this; exact this, hB.setCell (by simp) _⟩
      clear hcell hR hB HS hkl hr hkb
      go_wp2_with fail
      go_roundw
      case rel => exact HRel.out
      case measure => simp [intOf]; omega
    · have hk64 : k = 64 := by omega
      subst hk64
      have HT : Hid ((turnL x (b.take 64) ++ List.replicate (64 - 64) 0) = turnL x b) := by
        unfold Hid
        rw [List.take_of_length_le (by have := H.out; omega)]
        simp
      rw [HT.out] at hR
      go_wp2_with fail
      go_ret
      exact ⟨some ⟨w.heap.size, 0, none⟩, 64, rfl, Nat.le_refl _, hR.rd, hB⟩

/-! ### Block -/
theorem fill_row (k : List UInt8) : (k.map vB ++ (List.replicate 64 (Value.int .u8 0)).drop k.length).toArray = ((fillK k).map vB).toArray := by
  rw [List.drop_replicate, fillK, List.map_append, List.map_replicate]
  rfl

set_option maxHeartbeats 1000000 in
theorem hblock_any (n : Nat) (key : List UInt8) (A : Option Addr) (c : Nat) (w : World) (HN : Hid (key.length = n)) (hr : Rd vB w A key) (hc : n ≤ c) (hl : n ≤ 9223372036854775807) (HK : Hid (KTab w)) :
    Calls Tryd.prog 20 #[.slice A n c] w (RetL 64 w (hblk key)) := by
  have hmk : ∀ w, (Instr.makeSlice 24 (.int .i64 64) (.int .i64 64)).run Tryd.prog w = .ok (.slice (some ⟨w.heap.size, 0, none⟩) 64 64) (w.alloc (.cells (List.replicate 64 (.int .u8 0)).toArray 5)) := fun _ => by kernel_rfl
  by_cases h64 : 64 < n
  · have hgt : (64 : Int) < (n : Int) := by omega
    have HE : Hid (hblk key = fillK (sumL key)) := hblk_long key (by rw [HN.out]; exact h64)
    have H32 : Hid ((sumL key).length = 32) := sumL_length key
    go_enter Tryd.func20, Tryd.ntmps20
    go_wp2_with fail
    refine (sum_at n key _ _ _ HN hr hc hl HK).mono ?_
    rintro e w1 ⟨A1, c1, rfl, hc1, hr1, hb1⟩
    generalize sumL key = K at hr1 HE H32
    have hB := below_new hb1 (.cells (List.replicate 64 (.int .u8 0)).toArray 5)
    go_wp2_with (refine wpList_copy_row rfl (.tmp 10) (.tmp 11) 24 24 rfl 5 Tryd.underlying24 (by kernel_rfl) w1.heap.size 0 64 64 A1 K c1 rfl (by rw [H32.out]; rfl) (List.replicate 64 (.int .u8 0)) 5 (by exact Row.new_at _ _ (by simp) _ _ _ rfl) (by exact hr1.keep (below_new (Below.refl _ _) _)) vB_one (by rw [H32.out]; omega) (by rw [H32.out]; simp) ?_)
    go_ret
    have hR : Row (w1.alloc (.cells (List.replicate 64 (.int .u8 0)).toArray 5)) w1.heap.size 5 (List.replicate 64 (.int .u8 0)) := Row.new w1 _ _ _ rfl
    rw [HE.out]
    exact ⟨some ⟨w1.heap.size, 0, none⟩, 64, rfl, Nat.le_refl _, (Row.setRow_at hR _ _ (fill_row K)).rd, below_setRow hB hb1.size _⟩
  · have hgt : ¬ (64 : Int) < (n : Int) := by omega
    have HE : Hid (hblk key = fillK key) := hblk_short key (by rw [HN.out]; omega)
    have hB := below_new (Below.refl _ w) (.cells (List.replicate 64 (.int .u8 0)).toArray 5)
    go_enter Tryd.func20, Tryd.ntmps20
    go_wp2_with (refine wpList_copy_row rfl (.tmp 10) (.tmp 11) 24 24 rfl 5 Tryd.underlying24 (by kernel_rfl) w.heap.size 0 64 64 A key c rfl (by rw [HN.out]; rfl) (List.replicate 64 (.int .u8 0)) 5 (by exact Row.new_at _ _ (by simp) _ _ _ rfl) (by exact hr.keep (below_new (Below.refl _ _) _)) vB_one (by rw [HN.out]; omega) (by rw [HN.out]; simp; omega) ?_)
    go_ret
    have hR : Row (w.alloc (.cells (List.replicate 64 (.int .u8 0)).toArray 5)) w.heap.size 5 (List.replicate 64 (.int .u8 0)) := Row.new w _ _ _ rfl
    rw [HE.out]
    exact ⟨some ⟨w.heap.size, 0, none⟩, 64, rfl, Nat.le_refl _, (Row.setRow_at hR _ _ (fill_row key)).rd, below_setRow hB (Nat.le_refl _) _⟩

/-! ### Mac -/
set_option maxHeartbeats 1000000 in
theorem mac_any (n m : Nat) (key msg : List UInt8) (A B : Option Addr) (c d : Nat) (w : World) (HN : Hid (key.length = n)) (HM : Hid (msg.length = m)) (hr : Rd vB w A key) (hm : Rd vB w B msg) (hc : n ≤ c) (hl : n ≤ 35184372088832) (hml : m ≤ 35184372088832) (HK : Hid (KTab w)) :
    Calls Tryd.prog 22 #[.slice A n c, .slice B m d] w (RetL 32 w (macL key msg)) := by
  obtain ⟨I, hI⟩ : ∃ I, I = turnL 54 (hblk key) ++ msg := ⟨_, rfl⟩
  obtain ⟨O, hO⟩ : ∃ O, O = turnL 92 (hblk key) ++ sumL I := ⟨_, rfl⟩
  have HE : Hid (macL key msg = sumL O) := by unfold Hid macL; rw [hO, hI]
  have HIl : Hid (I.length = 64 + m) := by unfold Hid; rw [hI, List.length_append, turnL_length, hblk_length, HM.out]
  have HOl : Hid (O.length = 96) := by unfold Hid; rw [hO, List.length_append, turnL_length, hblk_length, sumL_length]
  have HI := Lib.hid hI
  have HO := Lib.hid hO
  have HB64 : Hid ((hblk key).length = 64) := hblk_length key
  have HT1 : Hid ((turnL 54 (hblk key)).length = 64) := by unfold Hid; rw [turnL_length]; exact hblk_length key
  have HT2 : Hid ((turnL 92 (hblk key)).length = 64) := by unfold Hid; rw [turnL_length]; exact hblk_length key
  have HS32 : Hid ((sumL I).length = 32) := sumL_length I
  clear hI hO
  go_enter Tryd.func22, Tryd.ntmps22
  go_wp2_with fail
  refine (hblock_any n key _ _ _ HN hr hc (by omega) HK).mono ?_
  rintro e w1 ⟨A1, c1, rfl, hc1, hr1, hB⟩
  generalize hblk key = Bk at hr1 HB64 HI HO HT1 HT2
  go_wp2_with fail
  refine (turned_any8 54 Bk _ _ _ HB64 hr1).mono ?_
  rintro e w2 ⟨A2, c2, rfl, hc2, hr2, hb2⟩
  generalize turnL 54 Bk = T1 at hr2 HI HT1
  replace hr1 := hr1.keep hb2
  replace hB := below_step hB hb2
  clear hb2
  go_wp2_with fail
  have hP : Rd vPart (w2.alloc (.cells #[.slice A2 64 c2, .slice B m d] 24)) (some ⟨w2.heap.size, 0, none⟩) [⟨A2, c2, T1⟩, ⟨B, d, msg⟩] := Rd.new_at w2 _ rfl _ _ _ (by simp [vPart, HT1.out, HM.out])
  have hb3 := below_new (Below.refl _ w2) (.cells #[.slice A2 64 c2, .slice B m d] 24)
  refine (concat_two T1 msg I A2 B c2 d _ _ _ HI hP (hr2.keep hb3) (hm.keep (below_step hB hb3)) (by rw [HIl.out]; omega)).mono ?_
  rintro e w3 ⟨A3, c3, rfl, hc3, hr3, hN3, hb4⟩
  rw [HIl.out] at hc3 ⊢
  replace hr1 := hr1.keep (below_step hb3 hb4)
  replace hB := below_step (below_step hB hb3) hb4
  clear hP hb3 hb4 hN3 hr2 hc2
  go_wp2_with fail
  refine (sum_at (64 + m) I _ _ _ HIl hr3 hc3 (by omega) (Lib.hid (HK.out.keep hB))).mono ?_
  rintro e w4 ⟨A4, c4, rfl, hc4, hr4, hb5⟩
  generalize sumL I = Sm at hr4 HO HS32
  replace hr1 := hr1.keep hb5
  replace hB := below_step hB hb5
  clear hb5 hr3
  go_wp2_with fail
  refine (turned_any8 92 Bk _ _ _ HB64 hr1).mono ?_
  rintro e w5 ⟨A5, c5, rfl, hc5, hr5, hb6⟩
  generalize turnL 92 Bk = T2 at hr5 HO HT2
  replace hr4 := hr4.keep hb6
  replace hB := below_step hB hb6
  clear hb6 hr1
  go_wp2_with fail
  have hP : Rd vPart (w5.alloc (.cells #[.slice A5 64 c5, .slice A4 32 c4] 24)) (some ⟨w5.heap.size, 0, none⟩) [⟨A5, c5, T2⟩, ⟨A4, c4, Sm⟩] := Rd.new_at w5 _ rfl _ _ _ (by simp [vPart, HT2.out, HS32.out])
  have hb7 := below_new (Below.refl _ w5) (.cells #[.slice A5 64 c5, .slice A4 32 c4] 24)
  refine (concat_two T2 Sm O A5 A4 c5 c4 _ _ _ HO hP (hr5.keep hb7) (hr4.keep hb7) (by rw [HOl.out]; omega)).mono ?_
  rintro e w6 ⟨A6, c6, rfl, hc6, hr6, hN6, hb8⟩
  rw [HOl.out] at hc6 ⊢
  replace hB := below_step (below_step hB hb7) hb8
  clear hP hb7 hb8 hN6 hr5 hr4
  go_wp2_with fail
  refine (sum_at 96 O _ _ _ HOl hr6 hc6 (by omega) (Lib.hid (HK.out.keep hB))).mono ?_
  rintro e w7 ⟨A7, c7, rfl, hc7, hr7, hb9⟩
  go_wp2_with fail
  go_ret
  rw [HE.out]
  exact ⟨A7, c7, rfl, hc7, hr7, below_step hB hb9⟩

end Go.Proofs.YtdokbhcoekffpaaDoor
