/-
  What the reference's calls Eval, shift and Times of layer 8 answer. No conditions but those typed.
-/
import Derived.Test.YtojegpoilildaaaPolyRef
namespace Go.Proofs.Ytojegpoilildaaa
set_option maxRecDepth 100000
open Go.RowKit
set_option linter.unusedSimpArgs false
set_option linter.unusedVariables false

/-! ### Eval -/
def EvRel (p : List UInt8) (x : UInt8) (w : World) (v t i : Value) (wr : World) : Prop :=
  ∃ k : Nat, k ≤ p.length ∧ i = .int .i64 (k : Int) ∧ v = .int .u8 ((evalL (p.take k) x).toNat : Int) ∧ t = .int .u8 ((powB x k).toNat : Int) ∧ w = wr
theorem eval_take (p : List UInt8) (x : UInt8) (k : Nat) (h : k < p.length) : evalL (p.take (k + 1)) x = xorB (evalL (p.take k) x) (mulB p[k] (powB x k)) := by
  rw [List.take_succ_eq_append_getElem h, eval_snoc, List.length_take, Nat.min_eq_left (by omega)]
  rfl
theorem refeval_any (p : List UInt8) (x : UInt8) (n : Nat) (A : Option Addr) (c : Nat) (w : World) (HN : Hid (p.length = n)) (hr : Rd vB w A p) (hn : n ≤ 1000000) :
    Calls Try.prog 17 #[.slice A n c, .int .u8 (x.toNat : Int)] w fun e w' => e = .returned (.int .u8 ((evalL p x).toNat : Int)) ∧ w = w' := by
  have e1 := HN.out
  subst e1
  go_enter Try.func17, Try.ntmps17
  go_wp2_with fail
  go_loopw [5, 6, 7] (fun v t i wr => EvRel p x w v t i wr) (fun _ _ i _ => p.length - (intOf i).toNat)
  case atStart => exact ⟨0, Nat.zero_le _, rfl, rfl, rfl, rfl⟩
  case round =>
    obtain ⟨k, hk, rfl, rfl, rfl, rfl⟩ := hrel
    by_cases h : k < p.length
    · obtain ⟨b, o, rfl, hb, hcell⟩ := hr.at h
      have hc0 := hcell k h
      unfold vB at hc0
      have HE := Lib.hid (eval_take p x k h)
      have HP : Hid (powB x (k + 1) = mulB (powB x k) x) := rfl
      obtain ⟨y, hy⟩ : ∃ y, p[k] = y := ⟨_, rfl⟩
      rw [hy] at hc0 HE
      obtain ⟨V, hV⟩ : ∃ V, evalL (p.take k) x = V := ⟨_, rfl⟩
      obtain ⟨T, hT⟩ : ∃ T, powB x k = T := ⟨_, rfl⟩
      rw [hV, hT] at HE ⊢
      rw [hT] at HP
      have hxr := u8_xor_b V (mulB y T)
      have HR : Hid (EvRel p x w (.int .u8 ((xorB V (mulB y T)).toNat : Int)) (.int .u8 ((mulB T x).toNat : Int)) (.int .i64 ((k : Int) + 1)) w) := ⟨k + 1, h, by go_num, by rw [HE.out], by rw [HP.out], rfl⟩
      have i0 : (0 : Int) ≤ (k : Int) := by omega
      have i1 : (k : Int) < (p.length : Int) := by omega
      have hm1 : ∀ w, Calls Try.prog 29 #[.int .u8 (y.toNat : Int), .int .u8 (T.toNat : Int)] w fun e w' => e = .returned (.int .u8 ((mulB y T).toNat : Int)) ∧ w = w' := fun w => refmul_any y T w
      have hm2 : ∀ w, Calls Try.prog 29 #[.int .u8 (T.toNat : Int), .int .u8 (x.toNat : Int)] w fun e w' => e = .returned (.int .u8 ((mulB T x).toNat : Int)) ∧ w = w' := fun w => refmul_any T x w
      have HM1 := Lib.hid hm1
      have HM2 := Lib.hid hm2
      generalize mulB y T = M at hxr HR HM1
      generalize mulB T x = M2 at HR HM2
      generalize xorB V M = X at hxr HR
      clear hm1 hm2 hcell hV hT hy HE HP
      go_wp2_with fail
      refine (HM1.out _).mono ?_
      rintro e w' ⟨rfl, rfl⟩
      go_wp2_with fail
      refine (HM2.out _).mono ?_
      rintro e w' ⟨rfl, rfl⟩
      go_wp2_with fail
      go_roundw
      case rel => exact HR.out
      case measure => simp [intOf]; omega
    · have j1 : ¬ (k : Int) < (p.length : Int) := by omega
      have HT : Hid (evalL (p.take k) x = evalL p x) := by unfold Hid; rw [List.take_of_length_le (by omega)]
      go_wp2_with fail
      go_ret
      exact ⟨by rw [← HT.out]; rfl, rfl⟩

/-! ### shift -/
def ShiRel (a : UInt8) (j : Nat) (p : List UInt8) (w : World) (v i : Value) (wr : World) : Prop :=
  ∃ k : Nat, k ≤ p.length ∧ i = .int .i64 (k : Int) ∧ wr.ownsRow w.heap.size 5 1 v (j + k) ((shiftL j (scaleL a (p.take k))).map vB) ∧ Below w.heap.size w wr
theorem shi_take (a : UInt8) (j : Nat) (p : List UInt8) (k : Nat) (h : k < p.length) : shiftL j (scaleL a (p.take (k + 1))) = shiftL j (scaleL a (p.take k)) ++ [mulB p[k] a] := by
  rw [List.take_succ_eq_append_getElem h, scaleL, scaleL, List.map_append, shiftL, shiftL, List.append_assoc, mul_comm p[k] a]
  rfl
theorem shi_zero (j : Nat) : (List.replicate j (Value.int .u8 0)) = (shiftL j ([] : List UInt8)).map vB := by
  rw [shiftL, List.append_nil, List.map_replicate]
  rfl
set_option maxHeartbeats 1000000 in
theorem refshift_any (a : UInt8) (p : List UInt8) (j n : Nat) (A : Option Addr) (c : Nat) (w : World) (HN : Hid (p.length = n)) (hr : Rd vB w A p) (hn : n ≤ 1000000) (hj : j ≤ 1000000) :
    Calls Try.prog 30 #[.slice A n c, .int .i64 (j : Int), .int .u8 (a.toNat : Int)] w (RetQ w (shiftL j (scaleL a p))) := by
  obtain ⟨i0, hi, hz0, hz1, hz2⟩ := info_parts info_u8
  have e1 := HN.out
  subst e1
  go_enter Try.func30, Try.ntmps30
  go_wp2_with (at_make; refine wpList_make_full _ rfl _ _ 22 rfl w.heap.size 5 i0 (.int .u8 0) 1 Try.underlying22 hi hz0 hz1 .i64 .i64 _ _ j rfl rfl rfl rfl (by rw [hz2]; omega) (by unfold maxLen; omega) (Nat.le_refl _) ?_; intro w0 hown0 hgrow0)
  have hown1 : w0.ownsRow w.heap.size 5 1 (.slice (some ⟨w.heap.size, 0, none⟩) j j) j ((shiftL j ([] : List UInt8)).map vB) := by
    rw [← shi_zero]
    have := hown0
    rw [Nat.mul_one] at this
    have e : (Value.int .u8 0).cells = #[.int .u8 0] := rfl
    rw [e, toList_madeCells_one] at this
    exact this
  have hB0 : Below w.heap.size w w0 := (Below.refl _ _).grown hgrow0 (Nat.le_refl _) (by simp)
  clear hown0 hgrow0
  go_loopw [7, 8] (fun v i wr => ShiRel a j p w v i wr) (fun _ i _ => p.length - (intOf i).toNat)
  case atStart => exact ⟨0, Nat.zero_le _, rfl, hown1, hB0⟩
  case round =>
    clear hown1 hB0
    obtain ⟨k, hk, rfl, hown, hbel⟩ := hrel
    by_cases h : k < p.length
    · obtain ⟨b, o, rfl, hb, hcell⟩ := hr.at h
      have hc0 : wr.cell? ⟨b, o + k, none⟩ = some (.int .u8 (p[k].toNat : Int)) := (hbel.cell (p := ⟨b, o + k, none⟩) hb).trans (hcell k h)
      have HE := Lib.hid (shi_take a j p k h)
      obtain ⟨y, hy⟩ : ∃ y, p[k] = y := ⟨_, rfl⟩
      rw [hy] at hc0 HE
      have i0' : (0 : Int) ≤ (k : Int) := by omega
      have i1 : (k : Int) < (p.length : Int) := by omega
      have hm1 : ∀ w, Calls Try.prog 29 #[.int .u8 (y.toNat : Int), .int .u8 (a.toNat : Int)] w fun e w' => e = .returned (.int .u8 ((mulB y a).toNat : Int)) ∧ w = w' := fun w => refmul_any y a w
      have HM1 := Lib.hid hm1
      have hle := hbel.size
      generalize mulB y a = M at HE HM1
      clear hm1 hcell hy
      go_wp2_with fail
      refine (HM1.out _).mono ?_
      rintro e w' ⟨rfl, rfl⟩
      go_wp2_with (at_builtin; refine wpList_append_own _ rfl _ _ 22 rfl w.heap.size 5 i0 (.int .u8 0) 1 1 Try.underlying22 hi hz0 hz1 hz2 rfl (by decide) _ _ _ rfl (hown.alloc _) ⟨wr.heap.size, 0, none⟩ 1 1 [.int .u8 (M.toNat : Int)] rfl rfl (cell_one_new _ _ _) (by intro u hu; simp at hu; subst hu; rfl) (by unfold maxLen; omega) (by omega) (by simp; omega) ?_; intro v' w1 hown' hgrow' _)
      have hB1 : Below w.heap.size w w1 := (hbel.alloc hbel.size _).grown hgrow' (by simp; omega) (fun g hk => (hown.lt g hk).1)
      have HR : Hid (ShiRel a j p w v' (.int .i64 ((k : Int) + 1)) w1) := ⟨k + 1, h, by go_num, by rw [HE.out, List.map_append]; exact hown', hB1⟩
      clear hown' hgrow' hown hbel hB1
      go_wp2_with fail
      go_roundw
      case rel => exact HR.out
      case measure => simp [intOf]; omega
    · have j1 : ¬ (k : Int) < (p.length : Int) := by omega
      have ek : k = p.length := by omega
      subst ek
      have HL : Hid ((shiftL j (scaleL a p)).length = j + p.length) := by unfold Hid; rw [shift_length, scaleL, List.length_map]
      rw [List.take_length] at hown
      go_wp2_with fail
      go_ret
      exact RetQ.own HL.out hown hbel

theorem reftimes_any (a : UInt8) (p : List UInt8) (n : Nat) (A : Option Addr) (c : Nat) (w : World) (HN : Hid (p.length = n)) (hr : Rd vB w A p) (hn : n ≤ 1000000) :
    Calls Try.prog 15 #[.slice A n c, .int .u8 (a.toNat : Int)] w (RetQ w (plainL (scaleL a p))) := by
  have hsh : Calls Try.prog 30 #[.slice A n c, .int .i64 0, .int .u8 (a.toNat : Int)] w (RetQ w (scaleL a p)) := refshift_any a p 0 n A c w HN hr hn (by omega)
  have HL : Hid ((scaleL a p).length = n) := by unfold Hid; rw [scaleL, List.length_map]; exact HN.out
  go_enter Try.func15, Try.ntmps15
  go_wp2_with fail
  refine hsh.mono ?_
  rintro e w1 ⟨A1, n1, c1, rfl, HN1, hc1, hr1, hb1⟩
  have e1 : n1 = n := by rw [← HN1.out, HL.out]
  subst e1
  go_wp2_with fail
  refine (refplain_any (scaleL a p) n1 A1 c1 _ HN1 hr1 hc1 hn).mono ?_
  rintro e w2 ⟨A2, n2, c2, rfl, HN2, hc2, hr2, hb2⟩
  go_wp2_with fail
  go_ret
  exact ⟨A2, n2, c2, rfl, HN2, hc2, hr2, below_step hb1 hb2⟩
end Go.Proofs.Ytojegpoilildaaa
