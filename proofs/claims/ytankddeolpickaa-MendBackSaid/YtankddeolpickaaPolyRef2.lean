/-
  What the reference's calls Eval, shift and Times of layer 8 answer. No conditions but those typed.
-/
import Derived.Test.YtankddeolpickaaPolyRef
namespace Go.Proofs.Ytankddeolpickaa
set_option maxRecDepth 100000
open Go.RowKit
set_option linter.unusedSimpArgs false
set_option linter.unusedVariables false

/-! ### Eval -/
def EvRel (p : List UInt8) (x : UInt8) (w : World) (v t i : Value) (wr : World) : Prop :=
  ∃ k : Nat, k ≤ p.length ∧ i = .int .i64 (k : Int) ∧ v = .int .u8 ((evalL (p.take k) x).toNat : Int) ∧ t = .int .u8 ((powB x k).toNat : Int) ∧ w = wr
theorem eval_take (p : List UInt8) (x : UInt8) (k : Nat) (h : k < p.length) : evalL (p.take (k + 1)) x = xorB (evalL (p.take k) x) (mulB p[k] (powB x k)) := by
  rw [List.take_succ_eq_append_getElem h, eval_snoc, List.length_take, Nat.min_eq_left (by omega)]
  rfl
theorem refeval_any (p : List UInt8) (x : UInt8) (n : Nat) (A : Option Addr) (c : Nat) (w : World) (HN : Hid (p.length = n)) (hr : Rd vB w A p) (hn : n ≤ 1000000) :
    Calls Try.prog 45 #[.slice A n c, .int .u8 (x.toNat : Int)] w fun e w' => e = .returned (.int .u8 ((evalL p x).toNat : Int)) ∧ w = w' := by
  have e1 := HN.out
  subst e1
  go_enter Try.func45, Try.ntmps45
  go_wp2_with fail
  go_loopw [5, 6, 7] (fun v t i wr => EvRel p x w v t i wr) (fun _ _ i _ => p.length - (intOf i).toNat)
  case atStart => exact ⟨0, Nat.zero_le _, rfl, rfl, rfl, rfl⟩
  case round =>
    obtain ⟨k, hk, rfl, rfl, rfl, rfl⟩ := hrel
    by_cases h : k < p.length
    · obtain ⟨b, o, rfl, hb, hcell⟩ := hr.at h
      have hc0 := hcell k h
      unfold vB at hc0
      have HE := Lib.hid (eval_take p x k h)
      have HP : Hid (powB x (k + 1) = mulB (powB x k) x) := rfl
      obtain ⟨y, hy⟩ : ∃ y, p[k] = y := ⟨_, rfl⟩
      rw [hy] at hc0 HE
      obtain ⟨V, hV⟩ : ∃ V, evalL (p.take k) x = V := ⟨_, rfl⟩
      obtain ⟨T, hT⟩ : ∃ T, powB x k = T := ⟨_, rfl⟩
      rw [hV, hT] at HE ⊢
      rw [hT] at HP
      have hxr := u8_xor_b V (mulB y T)
      have HR : Hid (EvRel p x w (.int .u8 ((xorB V (mulB y T)).toNat : Int)) (.int .u8 ((mulB T x).toNat : Int)) (.int .i64 ((k : Int) + 1)) w) := ⟨k + 1, h, by go_num, by rw [HE.out], by rw [HP.out], rfl⟩
      have i0 : (0 : Int) ≤ (k : Int) := by omega
      have i1 : (k : Int) < (p.length : Int) := by omega
      have hm1 : ∀ w, Calls Try.prog 52 #[.int .u8 (y.toNat : Int), .int .u8 (T.toNat : Int)] w fun e w' => e = .returned (.int .u8 ((mulB y T).toNat : Int)) ∧ w = w' := fun w => refmul_any y T w
      have hm2 : ∀ w, Calls Try.prog 52 #[.int .u8 (T.toNat : Int), .int .u8 (x.toNat : Int)] w fun e w' => e = .returned (.int .u8 ((mulB T x).toNat : Int)) ∧ w = w' := fun w => refmul_any T x w
      have HM1 := Lib.hid hm1
      have HM2 := Lib.hid hm2
      generalize mulB y T = M at hxr HR HM1
      generalize mulB T x = M2 at HR HM2
      generalize xorB V M = X at hxr HR
      clear hm1 hm2 hcell hV hT hy HE HP
      go_wp2_with fail
      refine (HM1.out _).mono ?_
      rintro e w' ⟨rfl, rfl⟩
      go_wp2_with fail
      refine (HM2.out _).mono ?_
      rintro e w' ⟨rfl, rfl⟩
      go_wp2_with fail
      go_roundw
      case rel => exact HR.out
      case measure => simp [intOf]; omega
    · have j1 : ¬ (k : Int) < (p.length : Int) := by omega
      have HT : Hid (evalL (p.take k) x = evalL p x) := by unfold Hid; rw [List.take_of_length_le (by omega)]
      go_wp2_with fail
      go_ret
      exact ⟨by rw [← HT.out]; rfl, rfl⟩

/-! ### shift -/
def ShiRel (a : UInt8) (j : Nat) (p : List UInt8) (w : World) (v i : Value) (wr : World) : Prop :=
  ∃ k : Nat, k ≤ p.length ∧ i = .int .i64 (k : Int) ∧ wr.ownsRow w.heap.size 5 1 v (j + k) ((shiftL j (scaleL a (p.take k))).map vB) ∧ Below w.heap.size w wr
theorem shi_take (a : UInt8) (j : Nat) (p : List UInt8) (k : Nat) (h : k < p.length) : shiftL j (scaleL a (p.take (k + 1))) = shiftL j (scaleL a (p.take k)) ++ [mulB p[k] a] := by
  rw [List.take_succ_eq_append_getElem h, scaleL, scaleL, List.map_append, shiftL, shiftL, List.append_assoc, mul_comm p[k] a]
  rfl
theorem shi_zero (j : Nat) : (List.replicate j (Value.int .u8 0)) = (shiftL j ([] : List UInt8)).map vB := by
  rw [shiftL, List.append_nil, List.map_replicate]
  rfl
end Go.Proofs.Ytankddeolpickaa
