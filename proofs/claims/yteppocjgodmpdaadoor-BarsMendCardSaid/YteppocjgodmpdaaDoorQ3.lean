/-
  What the reference's calls of layer 8 answer: At, Plain, Add, Eval, shift, Times. No conditions but those typed.
-/
import Derived.Test.YteppocjgodmpdaaDoorQ2
import Derived.Deep.DeepCutAuto
import Derived.StillTailTactics
import Derived.Laws.Concat
import Derived.Laws.Strings
import Derived.Test.YteppocjgodmpdaaDoorChecked
import Derived.Maps.AppendAt
namespace Go.Proofs.YteppocjgodmpdaaDoor
set_option maxRecDepth 100000
open Go.RowKit
set_option linter.unusedSimpArgs false
set_option linter.unusedVariables false

/-- A call that hands back a list of bytes. -/
def RetQ (w : World) (l : List UInt8) (e : Ending) (w' : World) : Prop := ∃ A n c, e = .returned (.slice A n c) ∧ Hid (l.length = n) ∧ n ≤ c ∧ Rd vB w' A l ∧ Below w.heap.size w w'
theorem RetQ.own {w w' : World} {l : List UInt8} {base : Nat} {e : TypeId} {v : Value} {n : Nat} (hn : l.length = n) (h : w'.ownsRow base e 1 v n (l.map vB)) (hb : Below w.heap.size w w') : RetQ w l (.returned v) w' := by
  subst hn
  obtain ⟨A, c, rfl, hc, hr⟩ := own_slice h
  exact ⟨A, l.length, c, rfl, rfl, hc, hr, hb⟩

/-! ### Plain -/
/-! ### Add -/
def TabRel (f : Nat → UInt8) (lo hi : Nat) (w : World) (v i : Value) (wr : World) : Prop :=
  ∃ k : Nat, k ≤ hi ∧ i = .int .i64 ((k + lo : Nat) : Int) ∧ wr.ownsRow w.heap.size 5 1 v k ((tabL f k).map vB) ∧ Below w.heap.size w wr
theorem tab_round {f : Nat → UInt8} {lo hi k : Nat} {w wr w1 : World} {u v : Value} {o : Obj} {x : UInt8} (hk : k < hi) (ho : wr.ownsRow w.heap.size 5 1 u k ((tabL f k).map vB)) (hb : Below w.heap.size w wr) (hx : f k = x)
    (hg : (wr.alloc o).grownBy w1 u.ownBlock) (ho' : w1.ownsRow w.heap.size 5 1 v (k + 1) ((tabL f k).map vB ++ [Value.int .u8 (x.toNat : Int)])) : TabRel f lo hi w v (.int .i64 ((k + 1 + lo : Nat) : Int)) w1 :=
  ⟨k + 1, hk, rfl, by subst hx; rw [tabL, List.map_append]; exact ho', (hb.alloc hb.size o).grown hg (by have := hb.size; simp; omega) (fun g hk => (ho.lt g hk).1)⟩

end Go.Proofs.YteppocjgodmpdaaDoor
/-
  What the reference's calls Eval, shift and Times of layer 8 answer. No conditions but those typed.
-/
namespace Go.Proofs.YteppocjgodmpdaaDoor
set_option maxRecDepth 100000
open Go.RowKit
set_option linter.unusedSimpArgs false
set_option linter.unusedVariables false

/-! ### Eval -/
def EvRel (p : List UInt8) (x : UInt8) (w : World) (v t i : Value) (wr : World) : Prop :=
  ∃ k : Nat, k ≤ p.length ∧ i = .int .i64 (k : Int) ∧ v = .int .u8 ((evalL (p.take k) x).toNat : Int) ∧ t = .int .u8 ((powB x k).toNat : Int) ∧ w = wr
theorem eval_take (p : List UInt8) (x : UInt8) (k : Nat) (h : k < p.length) : evalL (p.take (k + 1)) x = xorB (evalL (p.take k) x) (mulB p[k] (powB x k)) := by
  rw [List.take_succ_eq_append_getElem h, eval_snoc, List.length_take, Nat.min_eq_left (by omega)]
  rfl
/-! ### shift -/
def ShiRel (a : UInt8) (j : Nat) (p : List UInt8) (w : World) (v i : Value) (wr : World) : Prop :=
  ∃ k : Nat, k ≤ p.length ∧ i = .int .i64 (k : Int) ∧ wr.ownsRow w.heap.size 5 1 v (j + k) ((shiftL j (scaleL a (p.take k))).map vB) ∧ Below w.heap.size w wr
theorem shi_take (a : UInt8) (j : Nat) (p : List UInt8) (k : Nat) (h : k < p.length) : shiftL j (scaleL a (p.take (k + 1))) = shiftL j (scaleL a (p.take k)) ++ [mulB p[k] a] := by
  rw [List.take_succ_eq_append_getElem h, scaleL, scaleL, List.map_append, shiftL, shiftL, List.append_assoc, mul_comm p[k] a]
  rfl
theorem shi_zero (j : Nat) : (List.replicate j (Value.int .u8 0)) = (shiftL j ([] : List UInt8)).map vB := by
  rw [shiftL, List.append_nil, List.map_replicate]
  rfl
end Go.Proofs.YteppocjgodmpdaaDoor
/-
  What the reference's calls Mul and Slope of layer 8 answer. No conditions but those typed.
-/
namespace Go.Proofs.YteppocjgodmpdaaDoor
set_option maxRecDepth 100000
open Go.RowKit
set_option linter.unusedSimpArgs false
set_option linter.unusedVariables false

def InRel (f : Nat → UInt8) (hi : Nat) (w : World) (v i : Value) (wr : World) : Prop :=
  ∃ k : Nat, k ≤ hi ∧ i = .int .i64 (k : Int) ∧ v = .int .u8 ((f k).toNat : Int) ∧ Below w.heap.size w wr

end Go.Proofs.YteppocjgodmpdaaDoor
/-
  What the reference's calls Slope and Quo of layer 8 answer. No conditions but those typed.
-/
namespace Go.Proofs.YteppocjgodmpdaaDoor
set_option maxRecDepth 100000
open Go.RowKit
set_option linter.unusedSimpArgs false
set_option linter.unusedVariables false

def addN (x : UInt8) : Nat → UInt8
  | 0 => 0
  | n + 1 => xorB (addN x n) x
theorem addN_parity (x : UInt8) : ∀ n, addN x n = if n % 2 = 0 then 0 else x
  | 0 => rfl
  | n + 1 => by
    rw [addN, addN_parity x n]
    by_cases h : n % 2 = 0
    · rw [if_pos h, if_neg (by omega)]
      exact UInt8.zero_xor
    · rw [if_neg h, if_pos (by omega)]
      exact UInt8.xor_self
theorem slope_addN (p : List UInt8) (k : Nat) : co (slopeL p) k = addN (co p (k + 1)) (k + 1) := by
  rw [co_slope, addN_parity]
  by_cases h : k % 2 = 0
  · rw [if_pos h, if_neg (by omega)]
  · rw [if_neg h, if_pos (by omega)]
theorem slope_length (p : List UInt8) (k : Nat) (h : p.length ≤ k + 1) : co (slopeL p) k = 0 := by
  rw [co_slope, co_ge p (k + 1) h]
  split <;> rfl
theorem slope_tab (p : List UInt8) : plainL (tabL (co (slopeL p)) (p.length - 1)) = plainL (slopeL p) := plain_congr fun k => by
  rw [co_tab]
  split
  · rfl
  · rw [slope_length p k (by omega)]

end Go.Proofs.YteppocjgodmpdaaDoor
/-
  What the reference's call Quo of layer 8 answers. No conditions but those typed.
-/
namespace Go.Proofs.YteppocjgodmpdaaDoor
set_option maxRecDepth 100000
open Go.RowKit
set_option linter.unusedSimpArgs false
set_option linter.unusedVariables false

/-- What a division hands back: both plain. -/
def QuoRes (p q : List UInt8) (w : World) (e : Ending) (w' : World) : Prop :=
  ∃ (a r : List UInt8) (A B : Option Addr) (n m c d : Nat), e = .returned (.tuple #[.slice A n c, .slice B m d]) ∧ Hid (a.length = n) ∧ Hid (r.length = m) ∧ n ≤ c ∧ m ≤ d ∧ Rd vB w' A a ∧ Rd vB w' B r ∧ Below w.heap.size w w' ∧ Hid (IsQuo p q a r ∧ plainL a = a ∧ plainL r = r)
def DivRel (p q : List UInt8) (w : World) (u v : Value) (wr : World) : Prop :=
  ∃ (a l : List UInt8) (A B : Option Addr) (n m c d : Nat), u = .slice B m d ∧ v = .slice A n c ∧ Hid (a.length = n) ∧ Hid (l.length = m) ∧ n ≤ c ∧ m ≤ d ∧ n ≤ 50001 ∧ m ≤ 50000 ∧ Rd vB wr A a ∧ Rd vB wr B l ∧ Below w.heap.size w wr ∧ Hid (Eqv (addL (mulL a q) l) p ∧ plainL a = a ∧ plainL l = l)
theorem plain_mul_nil (q l : List UInt8) : Eqv (addL (mulL [] q) l) l := fun k => by
  rw [mulL, addL]
theorem quo_often_len (a : List UInt8) (n : Nat) (t : UInt8) : (plainL (addL a (shiftL n [t]))).length ≤ max a.length (n + 1) := by
  refine Nat.le_trans (plain_len _) ?_
  rw [addL_length, shift_length]
  exact Nat.le_refl _

theorem scale_one_shift (t : UInt8) (j : Nat) : shiftL j (scaleL t [1]) = shiftL j [t] := by
  rw [scaleL, List.map_cons, List.map_nil, mul_one]
end Go.Proofs.YteppocjgodmpdaaDoor
/-
  Layer 7: how the program reckons: products by doubling, powers by squaring. Plain.
-/
namespace Go.Proofs.YteppocjgodmpdaaDoor
set_option maxRecDepth 100000

/-! ### A product by doubling: the bits of the second one below j -/
def lowB (b : UInt8) (j : Nat) : UInt8 := UInt8.ofNat (b.toNat % 2 ^ j)
def dblB (a : UInt8) (j : Nat) : UInt8 := mulB a (powB 2 j)
theorem lowB_zero (b : UInt8) : lowB b 0 = 0 := by
  unfold lowB
  rw [Nat.pow_zero, Nat.mod_one]
  rfl
theorem lowB_eight (b : UInt8) : lowB b 8 = b := by
  have h : b.toNat % 2 ^ 8 = b.toNat := Nat.mod_eq_of_lt b.toNat_lt
  unfold lowB
  rw [h, UInt8.ofNat_toNat]
theorem low_table : ∀ j, j < 8 → ∀ n, n < 256 → UInt8.ofNat (n % 2 ^ (j + 1)) = addB (UInt8.ofNat (n % 2 ^ j)) (if n / 2 ^ j % 2 = 1 then powB 2 j else 0) := by decide +kernel
theorem low_step (b : UInt8) (j : Nat) (hj : j < 8) : lowB b (j + 1) = addB (lowB b j) (if b.toNat / 2 ^ j % 2 = 1 then powB 2 j else 0) :=
  low_table j hj b.toNat b.toNat_lt
theorem dbl_zero (a : UInt8) : dblB a 0 = a := mul_one a
theorem dbl_step (a : UInt8) (j : Nat) : mulB (dblB a j) 2 = dblB a (j + 1) := by
  unfold dblB
  rw [mul_assoc]
  rfl
theorem mul_step (a b : UInt8) (j : Nat) (hj : j < 8) : addB (mulB a (lowB b j)) (if b.toNat / 2 ^ j % 2 = 1 then dblB a j else 0) = mulB a (lowB b (j + 1)) := by
  rw [low_step b j hj, mul_add_right]
  congr 1
  split
  · rfl
  · rw [mul_zero]
theorem mul_start (a b : UInt8) : mulB a (lowB b 0) = 0 := by rw [lowB_zero, mul_zero]
theorem mul_end (a b : UInt8) : mulB a (lowB b 8) = mulB a b := by rw [lowB_eight]
/-- Twice an element. -/
theorem times_table : ∀ n, n < 256 → (mulB (UInt8.ofNat n) 2).toNat = (n * 2 % 256) ^^^ (n / 128 * 45) := by decide +kernel
theorem times_any (a : UInt8) : (mulB a 2).toNat = (a.toNat * 2 % 256) ^^^ (a.toNat / 128 * 45) := by
  have := times_table a.toNat a.toNat_lt
  rwa [UInt8.ofNat_toNat] at this

/-! ### A power by squaring -/
def sqB (a : UInt8) (j : Nat) : UInt8 := powB a (2 ^ j)
theorem sq_zero (a : UInt8) : sqB a 0 = a := by
  unfold sqB
  rw [Nat.pow_zero]
  show mulB 1 a = a
  exact one_mul a
theorem sq_step (a : UInt8) (j : Nat) : mulB (sqB a j) (sqB a j) = sqB a (j + 1) := by
  unfold sqB
  rw [← pow_add, Nat.pow_succ, Nat.mul_two]
theorem pow_start (a : UInt8) (r : Nat) : powB a (r % 2 ^ 0) = 1 := by rw [Nat.pow_zero, Nat.mod_one]; rfl
theorem pow_bit (a : UInt8) (r j : Nat) (h : r / 2 ^ j % 2 = 1) : mulB (powB a (r % 2 ^ j)) (sqB a j) = powB a (r % 2 ^ (j + 1)) := by
  unfold sqB
  rw [← pow_add, Nat.mod_pow_succ, h, Nat.mul_one]
theorem pow_none (a : UInt8) (r j : Nat) (h : ¬ r / 2 ^ j % 2 = 1) : powB a (r % 2 ^ j) = powB a (r % 2 ^ (j + 1)) := by
  have h0 : r / 2 ^ j % 2 = 0 := by omega
  rw [Nat.mod_pow_succ, h0, Nat.mul_zero, Nat.add_zero]
theorem pow_end (a : UInt8) (r : Nat) (h : r < 255) : powB a (r % 2 ^ 8) = powB a r := by rw [Nat.mod_eq_of_lt (by omega)]

/-! ### A logarithm by trying -/
theorem log_not (a : UInt8) (j : Nat) (ha : a ≠ 0) (hj : j < logB a) : powB 2 j ≠ a := by
  intro e
  have hl := log_lt a ha
  have := log_exp j (by omega)
  rw [e] at this
  omega
end Go.Proofs.YteppocjgodmpdaaDoor
/-
  What the program's calls of layer 7 answer, over the landed code: products by doubling, powers by squaring, logarithms by trying.
-/
namespace Go.Proofs.YteppocjgodmpdaaDoor
set_option maxRecDepth 100000
open Go.RowKit
set_option linter.unusedSimpArgs false
set_option linter.unusedVariables false

theorem gfadd_any (a b : UInt8) (w : World) : Calls Tryd.prog 28 #[.int .u8 (a.toNat : Int), .int .u8 (b.toNat : Int)] w fun e w' => e = .returned (.int .u8 ((addB a b).toNat : Int)) ∧ w = w' := by
  have hx := u8_xor_b a b
  have HE : Hid (addB a b = xorB a b) := rfl
  rw [HE.out]
  generalize xorB a b = z at hx
  go_enter Tryd.func28, Tryd.ntmps28
  go_wp2_with fail
  go_ret
  exact ⟨rfl, rfl⟩
theorem times_val (a : UInt8) : bits .xor .u8 ((a.toNat : Int) * 2 % 256) ((a.toNat : Int) / 128 * 45 % 256) = ((mulB a 2).toNat : Int) := by
  have h := a.toNat_lt
  have e1 : (a.toNat : Int) * 2 % 256 = ((a.toNat * 2 % 256 : Nat) : Int) := by omega
  have e2 : (a.toNat : Int) / 128 * 45 % 256 = ((a.toNat / 128 * 45 : Nat) : Int) := by omega
  rw [e1, e2, u8_xor_nat _ _ (by omega) (by omega), times_any]
theorem gftimes_any (a : UInt8) (w : World) : Calls Tryd.prog 65 #[.int .u8 (a.toNat : Int)] w fun e w' => e = .returned (.int .u8 ((mulB a 2).toNat : Int)) ∧ w = w' := by
  have hx := times_val a
  generalize (mulB a 2).toNat = z at hx ⊢
  go_enter Tryd.func65, Tryd.ntmps65
  go_wp2_with fail
  go_ret
  exact ⟨rfl, rfl⟩
theorem and_table : ∀ n : Nat, n < 256 → bits .and .u8 (n : Int) 1 = ((n % 2 : Nat) : Int) := by decide +kernel
theorem bit_val (b : UInt8) (j : Nat) : bits .and .u8 ((b.toNat : Int) / 2 ^ j) 1 = ((b.toNat / 2 ^ j % 2 : Nat) : Int) := by
  have e : (b.toNat : Int) / 2 ^ j = ((b.toNat / 2 ^ j : Nat) : Int) := by rw [Int.natCast_ediv, Int.natCast_pow]; rfl
  have h : b.toNat / 2 ^ j ≤ b.toNat := Nat.div_le_self _ _
  have h2 := b.toNat_lt
  rw [e, and_table _ (by omega)]
theorem mul_val (a b : UInt8) (j : Nat) (hj : j < 8) : bits .xor .u8 ((mulB a (lowB b j)).toNat : Int) (((dblB a j).toNat : Int) * bits .and .u8 ((b.toNat : Int) / 2 ^ j) 1 % 256) = ((mulB a (lowB b (j + 1))).toNat : Int) := by
  rw [bit_val, ← mul_step a b j hj]
  have e : ((dblB a j).toNat : Int) * ((b.toNat / 2 ^ j % 2 : Nat) : Int) % 256 = ((if b.toNat / 2 ^ j % 2 = 1 then dblB a j else 0 : UInt8).toNat : Int) := by
    have h := (dblB a j).toNat_lt
    by_cases hb : b.toNat / 2 ^ j % 2 = 1
    · rw [if_pos hb, hb]; omega
    · rw [if_neg hb, show b.toNat / 2 ^ j % 2 = 0 by omega]; show _ = ((0 : Nat) : Int); omega
  rw [e, u8_xor_b]
  rfl
set_option maxRecDepth 100000 in
theorem gfmul_any (a b : UInt8) (w : World) : Calls Tryd.prog 48 #[.int .u8 (a.toNat : Int), .int .u8 (b.toNat : Int)] w fun e w' => e = .returned (.int .u8 ((mulB a b).toNat : Int)) ∧ w = w' := by
  have HD : Hid (dblB a 0 = a) := dbl_zero a
  have HM : Hid (mulB a (lowB b 0) = 0) := mul_start a b
  have HE : Hid (mulB a (lowB b 8) = mulB a b) := mul_end a b
  go_enter Tryd.func48, Tryd.ntmps48
  go_wp2_with fail
  go_loop [0, 5, 7] (fun x p i => ∃ j : Nat, j ≤ 8 ∧ i = .int .i64 (j : Int) ∧ x = .int .u8 ((dblB a j).toNat : Int) ∧ p = .int .u8 ((mulB a (lowB b j)).toNat : Int)) (fun _ _ i => 8 - (intOf i).toNat)
  case atStart => exact ⟨0, by omega, rfl, by rw [HD.out], by rw [HM.out]; rfl⟩
  case round =>
    obtain ⟨j, hj, rfl, rfl, rfl⟩ := hrel
    by_cases hlt : j < 8
    · have i1 : (j : Int) < 8 := by omega
      have i0 : (0 : Int) ≤ (j : Int) := by omega
      have HT : Hid (mulB (dblB a j) 2 = dblB a (j + 1)) := dbl_step a j
      have hv := mul_val a b j hlt
      generalize hx : dblB a j = x at HT hv ⊢
      have HX := Lib.hid hx
      generalize hp : mulB a (lowB b j) = p at hv ⊢
      have HP := Lib.hid hp
      generalize hq : mulB a (lowB b (j + 1)) = q at hv
      have HQ := Lib.hid hq
      clear hx hp hq
      go_wp2_with fail
      refine (gftimes_any x _).mono ?_
      rintro e w' ⟨rfl, rfl⟩
      rw [HT.out]
      generalize hy : dblB a (j + 1) = y
      have HY := Lib.hid hy
      clear hy
      go_wp2_with fail
      go_round
      case rel => exact ⟨j + 1, by omega, by go_num, by rw [HY.out], by rw [HQ.out]⟩
      case measure => simp [intOf]; omega
    · have hj8 : j = 8 := by omega
      subst hj8
      rw [HE.out]
      generalize hp : mulB a b = p
      have HP := Lib.hid hp
      clear hp
      go_wp2_with fail
      go_ret
      exact ⟨ret_int (by rw [HP.out]), rfl⟩

theorem gfreckon_any (n : Int) (r : Nat) (w : World) (hr : (r : Int) = n % 255) : Calls Tryd.prog 68 #[.int .i64 n] w fun e w' => e = .returned (.int .i64 (r : Int)) ∧ w = w' := by
  have h1 : (n.tmod 255 + 255).tmod 255 = (r : Int) := by
    rw [Int.tmod_eq_emod, Int.tmod_eq_emod]
    split <;> split <;> omega
  have h2 : -255 < n.tmod 255 ∧ n.tmod 255 < 255 := by
    rw [Int.tmod_eq_emod]
    split <;> omega
  have h3 : wrap64 (n.tmod 255 + 255) = n.tmod 255 + 255 := by
    unfold wrap64
    omega
  clear hr h2
  go_enter Tryd.func68, Tryd.ntmps68
  go_wp2_with fail
  rw [h3]
  go_ret
  exact ⟨rfl, rfl⟩
theorem gfnone_zero (w : World) : Calls Tryd.prog 67 #[.int .i64 0] w fun e w' => e = .returned (.int .u8 1) ∧ w = w' := by
  go_enter Tryd.func67, Tryd.ntmps67
  go_wp2_with fail
  go_ret
  exact ⟨rfl, rfl⟩
theorem gfnone_any (n : Int) (w : World) (hn : n ≠ 0) : Calls Tryd.prog 67 #[.int .i64 n] w fun e w' => e = .returned (.int .u8 0) ∧ w = w' := by
  have z : (n == 0) = false := beq_eq_false_iff_ne.2 hn
  clear hn
  go_enter Tryd.func67, Tryd.ntmps67
  go_wp2_with fail
  go_ret
  exact ⟨rfl, rfl⟩
theorem i64_bit (r j : Nat) (hr : r < 256) : bits .and .i64 ((r : Int) / 2 ^ j) 1 = ((r / 2 ^ j % 2 : Nat) : Int) := by
  have e : (r : Int) / 2 ^ j = ((r / 2 ^ j : Nat) : Int) := by rw [Int.natCast_ediv, Int.natCast_pow]; rfl
  have h : r / 2 ^ j ≤ r := Nat.div_le_self _ _
  have t : ∀ n : Nat, n < 256 → bits .and .i64 (n : Int) 1 = ((n % 2 : Nat) : Int) := by decide +kernel
  rw [e, t _ (by omega)]
set_option maxRecDepth 100000 in
theorem gfpow_any (a : UInt8) (n : Int) (w : World) : Calls Tryd.prog 63 #[.int .u8 (a.toNat : Int), .int .i64 n] w fun e w' => e = .returned (.int .u8 ((powZ a n).toNat : Int)) ∧ w = w' := by
  by_cases ha : a = 0
  · subst ha
    by_cases hn : n = 0
    · subst hn
      have HE : Hid (powZ 0 0 = 1) := rfl
      rw [HE.out]
      go_enter Tryd.func63, Tryd.ntmps63
      go_wp2_with fail
      refine (gfnone_zero _).mono ?_
      rintro e w' ⟨rfl, rfl⟩
      go_wp2_with fail
      go_ret
      exact ⟨rfl, rfl⟩
    · have HE : Hid (powZ 0 n = 0) := by unfold Hid powZ; rw [if_pos rfl, if_neg hn]
      rw [HE.out]
      have HN := Lib.hid hn
      clear hn
      go_enter Tryd.func63, Tryd.ntmps63
      go_wp2_with fail
      refine (gfnone_any n _ HN.out).mono ?_
      rintro e w' ⟨rfl, rfl⟩
      go_wp2_with fail
      go_ret
      exact ⟨rfl, rfl⟩
  · obtain ⟨r, hr⟩ : ∃ r : Nat, r = (n % 255).toNat := ⟨_, rfl⟩
    have hr1 : (r : Int) = n % 255 := by omega
    have hr2 : r < 255 := by omega
    have HE : Hid (powZ a n = powB a r) := by unfold Hid powZ; rw [if_neg ha, hr]
    rw [HE.out]
    have hne : a.toNat ≠ 0 := fun e => ha (UInt8.toNat_inj.1 e)
    have z1 : ((a.toNat : Int) == 0) = false := beq_eq_false_iff_ne.2 (fun h => hne (by omega))
    have HR := Lib.hid hr1
    have HR2 := Lib.hid hr2
    have HS : Hid (powB a (r % 2 ^ 0) = 1) := pow_start a r
    have HQ0 : Hid (sqB a 0 = a) := sq_zero a
    have HF : Hid (powB a (r % 2 ^ 8) = powB a r) := pow_end a r hr2
    clear ha hne hr hr1 hr2
    go_enter Tryd.func63, Tryd.ntmps63
    go_wp2_with fail
    refine (gfreckon_any n r _ HR.out).mono ?_
    rintro e w' ⟨rfl, rfl⟩
    go_wp2_with fail
    go_loop [0, 5, 13] (fun x p i => ∃ j : Nat, j ≤ 8 ∧ i = .int .i64 (j : Int) ∧ x = .int .u8 ((sqB a j).toNat : Int) ∧ p = .int .u8 ((powB a (r % 2 ^ j)).toNat : Int)) (fun _ _ i => 8 - (intOf i).toNat)
    case atStart => exact ⟨0, by omega, rfl, by rw [HQ0.out], by rw [HS.out]; rfl⟩
    case round =>
      obtain ⟨j, hj, rfl, rfl, rfl⟩ := hrel
      have hr2 := HR2.out
      by_cases hlt : j < 8
      · have i1 : (j : Int) < 8 := by omega
        have i0 : (0 : Int) ≤ (j : Int) := by omega
        have HT : Hid (mulB (sqB a j) (sqB a j) = sqB a (j + 1)) := sq_step a j
        have hb := i64_bit r j (by omega)
        by_cases hbit : r / 2 ^ j % 2 = 1
        · have HB : Hid (mulB (powB a (r % 2 ^ j)) (sqB a j) = powB a (r % 2 ^ (j + 1))) := pow_bit a r j hbit
          rw [hbit] at hb
          generalize sqB a j = x at HT HB ⊢
          generalize powB a (r % 2 ^ j) = p at HB ⊢
          clear hbit
          go_wp2_with fail
          refine (gfmul_any p x _).mono ?_
          rintro e w' ⟨rfl, rfl⟩
          rw [HB.out]
          generalize hq : powB a (r % 2 ^ (j + 1)) = q
          have HQ := Lib.hid hq
          clear hq
          go_wp2_with fail
          refine (gfmul_any x x _).mono ?_
          rintro e w' ⟨rfl, rfl⟩
          rw [HT.out]
          generalize hy : sqB a (j + 1) = y
          have HY := Lib.hid hy
          clear hy
          go_wp2_with fail
          go_round
          case rel => exact ⟨j + 1, by omega, by go_num, by rw [HY.out], by rw [HQ.out]⟩
          case measure => simp [intOf]; omega
        · have HB : Hid (powB a (r % 2 ^ j) = powB a (r % 2 ^ (j + 1))) := pow_none a r j hbit
          rw [show r / 2 ^ j % 2 = 0 by omega] at hb
          generalize sqB a j = x at HT ⊢
          generalize powB a (r % 2 ^ j) = p at HB ⊢
          clear hbit
          go_wp2_with fail
          refine (gfmul_any x x _).mono ?_
          rintro e w' ⟨rfl, rfl⟩
          rw [HT.out]
          generalize hy : sqB a (j + 1) = y
          have HY := Lib.hid hy
          clear hy
          go_wp2_with fail
          go_round
          case rel => exact ⟨j + 1, by omega, by go_num, by rw [HY.out], by rw [HB.out]⟩
          case measure => simp [intOf]; omega
      · have hj8 : j = 8 := by omega
        subst hj8
        rw [HF.out]
        generalize hp : powB a r = p
        have HP := Lib.hid hp
        clear hp
        go_wp2_with fail
        go_ret
        exact ⟨ret_int (by rw [HP.out]), rfl⟩
theorem gfexp_any (n : Int) (w : World) : Calls Tryd.prog 55 #[.int .i64 n] w fun e w' => e = .returned (.int .u8 ((powZ 2 n).toNat : Int)) ∧ w = w' := by
  go_enter Tryd.func55, Tryd.ntmps55
  go_wp2_with fail
  refine (gfpow_any 2 n _).mono ?_
  rintro e w' ⟨rfl, rfl⟩
  go_wp2_with fail
  go_ret
  exact ⟨rfl, rfl⟩
theorem gfinv_zero (w : World) : Calls Tryd.prog 45 #[.int .u8 0] w fun e w' => e = .returned (.tuple #[.int .u8 0, .int .i64 1]) ∧ w = w' := by
  go_enter Tryd.func45, Tryd.ntmps45
  go_wp2_with fail
  go_ret2
  exact ⟨rfl, rfl⟩
theorem gfinv_any (a : UInt8) (w : World) (ha : a ≠ 0) : Calls Tryd.prog 45 #[.int .u8 (a.toNat : Int)] w fun e w' => e = .returned (.tuple #[.int .u8 ((invB a).toNat : Int), .int .i64 0]) ∧ w = w' := by
  have hne : a.toNat ≠ 0 := fun e => ha (UInt8.toNat_inj.1 e)
  have z1 : ((a.toNat : Int) == 0) = false := beq_eq_false_iff_ne.2 (fun h => hne (by omega))
  have HI : Hid (powZ a (-1) = invB a) := by unfold Hid powZ; rw [if_neg ha]; rfl
  clear ha hne
  go_enter Tryd.func45, Tryd.ntmps45
  go_wp2_with fail
  refine (gfpow_any a (-1) _).mono ?_
  rintro e w' ⟨rfl, rfl⟩
  rw [HI.out]
  go_wp2_with fail
  go_ret2
  exact ⟨rfl, rfl⟩
theorem ex_inv : mulB (invB 2) 2 = 1 := by rw [mul_comm]; exact mul_inv 2 (by decide)
theorem ex_log : logB 45 = 8 := by decide +kernel
theorem ex_mul : mulB 128 2 = 45 := by decide +kernel
theorem ex_add : addB 5 3 = 6 := by decide +kernel
theorem ex_exp : powZ 2 8 = 45 := by decide +kernel
theorem ex_pow : powZ 0 0 = 1 := rfl
end Go.Proofs.YteppocjgodmpdaaDoor
/-
  What the program's calls Degree, cut and Eval of layer 8 answer. No conditions but those typed.
-/
namespace Go.Proofs.YteppocjgodmpdaaDoor
set_option maxRecDepth 100000
open Go.RowKit Go.Shelf
set_option linter.unusedSimpArgs false
set_option linter.unusedVariables false

attribute [local go_sem] Oper.semAt_some

theorem back_all_zero {p : List UInt8} {n : Nat} (hn : p.length = n) {xs : List (Bk n fun j c => c = co p j)} (hS : backS xs) (h : ∀ x ∈ xs, x.val = 0) : plainL p = [] := by
  refine plain_nil (fun k => ?_)
  rw [co_nil]
  rcases Nat.lt_or_ge k n with hk | hk
  · have hm : k ∈ xs.map Bk.at := by rw [hS, mem_back n n k (Nat.le_refl _)]; omega
    obtain ⟨x, hx, rfl⟩ := List.mem_map.1 hm
    rw [← x.is, h x hx]
  · rw [co_ge p k (by omega)]
theorem back_first {p : List UInt8} {n : Nat} (hn : p.length = n) {ini : List (Bk n fun j c => c = co p j)} {last : Bk n fun j c => c = co p j} (hS : backP (ini ++ [last])) (h : ∀ x ∈ ini, x.val = 0) (hl : last.val ≠ 0) : (plainL p).length = last.at + 1 := by
  obtain ⟨k, hk, hm⟩ := hS
  rw [List.map_append, List.map_cons, List.map_nil] at hm
  obtain ⟨k', rfl⟩ : ∃ k', k = k' + 1 := by
    cases k with
    | zero => simp [backN] at hm
    | succ k' => exact ⟨k', rfl⟩
  rw [back_succ] at hm
  obtain ⟨e1, e2⟩ := List.append_inj' hm rfl
  have e3 : last.at = n - 1 - k' := by simpa using e2
  have h1 := plain_take p (last.at + 1) (by have := last.lt; omega) (fun j hj => by
    rcases Nat.lt_or_ge j n with hjn | hjn
    · have hm : j ∈ ini.map Bk.at := by rw [e1, mem_back n k' j (by omega)]; omega
      obtain ⟨x, hx, rfl⟩ := List.mem_map.1 hm
      rw [← x.is, h x hx]
    · rw [co_ge p j (by omega)]) (.inr (by rw [Nat.add_sub_cancel, ← last.is]; exact hl))
  rw [h1, List.length_take, hn]
  have := last.lt
  omega

/-- What a round keeps: what lay below, and the iterator's own box. -/
def KpB (n₀ Bs : Nat) (W W' : World) : Prop := Below n₀ W W' ∧ W'.heap[Bs]? = W.heap[Bs]?
theorem KpB.refl (n₀ Bs : Nat) (W : World) : KpB n₀ Bs W W := ⟨Below.refl _ _, rfl⟩
theorem KpB.trans {n₀ Bs : Nat} {X Y Z : World} (h : KpB n₀ Bs X Y) (k : KpB n₀ Bs Y Z) : KpB n₀ Bs X Z := ⟨h.1.trans k.1, k.2.trans h.2⟩
theorem KpB.own {n₀ Bs : Nat} {w : World} (hn : n₀ ≤ w.heap.size) (hB : Bs < w.heap.size) (W : World) (l : Nat) (o o' : Obj) (hl : w.heap.size ≤ l) (h : W.heap[l]? = some o) (h1 : o.isCells = false) (h2 : o.isWalk = false) : KpB n₀ Bs W (W.putObj l o') :=
  ⟨belowK_b hn W l o o' hl h h1 h2, World.putObj_heap_other (by omega)⟩

theorem boxed_turn {W W' : World} {row : Option Nat} {B : Nat} {t : TypeId} {v : Value} (h : Boxed W B t v) (hg : W.grownBy W' row) (hr : ∀ r, row = some r → ∃ o : Obj, W.heap[r]? = some o ∧ o.isCells = false) : Boxed W' B t v := boxed_own B t (fun _ : Unit => v) () W W' row h hg hr
theorem cel_turn {W W' : World} {row : Option Nat} {g : Nat} {e : TypeId} {l : List UInt8} (h : Cel W g e l) (hg : W.grownBy W' row) (hr : ∀ r, row = some r → ∃ o : Obj, W.heap[r]? = some o ∧ o.isCells = false) : Cel W' g e l := by
  obtain ⟨L, h1, h2⟩ := h
  refine ⟨L, (hg.block g h1.lt (fun e => ?_)).trans h1, h2⟩
  obtain ⟨o, ho, hc⟩ := hr g e.symm
  have h1' : W.heap[g]? = some (.cells L.toArray _ (0, 0)) := h1
  rw [h1'] at ho
  injection ho with ho
  subst ho
  cases hc

/-- Between two rounds: nothing but 0 has come, and the result's box holds 0; behind one that leaves: what has come last isn't 0, and its place lies there. -/
def DegI (w : World) {n : Nat} {V : Nat → UInt8 → Prop} (pre : List (Bk n V)) (W : World) : Prop := ((∀ x ∈ pre, x.val = 0) ∧ Boxed W w.heap.size 3 (.int .i64 0)) ∧ Below w.heap.size w W
def DegX (w : World) {n : Nat} {V : Nat → UInt8 → Prop} (c : Code) (pre : List (Bk n V)) (W : World) : Prop := (c = .ret ∧ ∃ ini last, pre = ini ++ [last] ∧ (∀ x ∈ ini, x.val = 0) ∧ last.val ≠ 0 ∧ Boxed W w.heap.size 3 (.int .i64 (last.at : Int))) ∧ Below w.heap.size w W
theorem degI_own (w : World) {n : Nat} {V : Nat → UInt8 → Prop} (B : Nat) (hB : w.heap.size ≤ B) : OwnFrom B (DegI w (n := n) (V := V)) :=
  OwnFrom.and (Own.from (fun s A B row hs hg hr => ⟨hs.1, boxed_turn hs.2 hg hr⟩) _) (ownFrom_below (Nat.le_refl _) hB)
theorem degX_own (w : World) {n : Nat} {V : Nat → UInt8 → Prop} (c : Code) (B : Nat) (hB : w.heap.size ≤ B) : OwnFrom B (DegX w c (n := n) (V := V)) :=
  OwnFrom.and (Own.from (fun s A B row hs hg hr => by obtain ⟨hc, ini, last, e1, e2, e3, e4⟩ := hs; exact ⟨hc, ini, last, e1, e2, e3, boxed_turn e4 hg hr⟩) _) (ownFrom_below (Nat.le_refl _) hB)

set_option maxHeartbeats 2000000 in
theorem degP_any (p : List UInt8) (n : Nat) (A : Option Addr) (c : Nat) (w : World) (HN : Hid (p.length = n)) (hr : Rd vB w A p) (hc : n ≤ c) (hn : n ≤ 100000) :
    Calls Tryd.prog 52 #[.slice A n c] w fun e w' => e = .returned (.int .i64 (((plainL p).length : Int) - 1)) ∧ Below w.heap.size w w' := by
  refine (callsIn_wide (n := 3)).1 ?_
  refine callsIn_of_wp_marks Tryd.func52 rfl trivial ?_ rfl
  simp only [Tryd.ntmps52, List.size_toArray, List.length_cons, List.length_nil, Nat.reduceAdd, Nat.reduceSub, Array.replicate_succ, Array.replicate_zero, List.push_toArray, List.append_toArray, List.nil_append, List.cons_append]
  gi_wp2_with (refine ⟨trivial, ?_⟩; gi_at_call 47; refine (callsIn_wide.2 (backward_any _ _ _ _)).mono ?_; rintro e w' ⟨rfl, rfl⟩)
  have bR := Boxed.new w 3 (.int .i64 0)
  have bN := Boxed.new (w.alloc (.cells #[.int .i64 0] 3)) 23 (.slice A n c)
  rw [World.size_alloc] at bN
  have bR' := bR.alloc (.cells #[.slice A n c] 23)
  have hB0 : Below w.heap.size w ((w.alloc (.cells #[.int .i64 0] 3)).alloc (.cells #[.slice A n c] 23)) := ((Below.refl _ w).alloc (Nat.le_refl _) _).alloc (by simp) _
  have hsz : ((w.alloc (.cells #[.int .i64 0] 3)).alloc (.cells #[.slice A n c] 23)).heap.size = w.heap.size + 2 := by simp
  generalize (w.alloc (.cells #[.int .i64 0] 3)).alloc (.cells #[.slice A n c] 23) = W0 at bN bR' hB0 hsz ⊢
  clear bR
  refine wpIn_rangeFunc_ownG rfl (by omega) (gf := 64) (lb := #[.pointer (some ⟨w.heap.size + 1, 0, none⟩)]) rfl trivial (enters_of Tryd.func64 (by kernel_rfl) rfl)
    (back_stops Fence.wide _ trivial rfl (by omega) (w.heap.size + 1) n c A (fun j c => c = co p j) (KpB w.heap.size (w.heap.size + 1)) (by omega) W0 (KpB.refl _ _) (fun _ _ _ => KpB.trans)
      (fun W hW W' hK => ⟨by
        have h1 : W'.heap[w.heap.size + 1]? = W0.heap[w.heap.size + 1]? := hK.2.trans (hW.block _ (by omega))
        exact Boxed.cell (t := 23) (h1.trans bN), p, HN.out, (hr.keep (hB0.trans ((hW.mono (by omega)).trans hK.1))), fun j _ => rfl⟩))
    (fun h k => KpB.trans h k) (KpB.own (by omega) (by omega)) (Below.refl _ _) (fun _ => rfl)
    (DegI w) (DegX w) (degI_own w _ (by omega)) (fun c => degX_own w c _ (by omega))
    ⟨⟨by simp, bR'⟩, hB0⟩
    (fun x => { tmps := #[.slice A n c, undef, .pointer (some ⟨w.heap.size, 0, none⟩), .int .i64 (x.at : Int), .int .u8 (x.val.toNat : Int), .slice A n c, .func (.func 64) #[] #[.pointer (some ⟨w.heap.size + 1, 0, none⟩)], .int .i64 (x.at : Int), .int .u8 (x.val.toNat : Int), undef, undef, undef], defers := [] }) ?assign ?body ?done ?stop
  case assign =>
    intro l x W K hK
    unfold Bk.enc
    gi_wp2
    exact hK
  case body =>
    rintro l pre x W ⟨⟨hp, hcr⟩, hB⟩ _
    have hcc := hcr.cell
    have hff := hcr.frozen
    obtain ⟨y, hy⟩ : ∃ y, x.val = y := ⟨_, rfl⟩
    obtain ⟨q, hq⟩ : ∃ q, x.at = q := ⟨_, rfl⟩
    rw [hy, hq]
    by_cases hx : y = 0
    · subst hx
      have HR : Hid (DegI w (pre ++ [x]) W) := ⟨⟨fun z hz => (List.mem_append.1 hz).elim (hp z) (fun e => by simp at e; subst e; exact hy), hcr⟩, hB⟩
      have e0 : ((0 : UInt8).toNat : Int) = 0 := rfl
      rw [e0]
      clear hp hB hcr hq hy
      gi_wp2
      exact ⟨KeepsFrom.refl _ _, KpB.refl _ _ _, HR.out⟩
    · have hne : ((y.toNat : Int) == 0) = false := by
        have : y.toNat ≠ 0 := fun e => hx (UInt8.toNat_inj.1 e)
        simp
        omega
      have hy0 : x.val ≠ 0 := by rw [hy]; exact hx
      have HR : Hid (DegX w .ret (pre ++ [x]) (W.setCell ⟨w.heap.size, 0, none⟩ (.int .i64 (q : Int)))) :=
        ⟨⟨rfl, pre, x, rfl, hp, hy0, by rw [hq]; exact hcr.set _⟩, hB.setCell (p := ⟨w.heap.size, 0, none⟩) (Nat.le_refl _) _⟩
      clear hp hB hcr hq hy hx hy0
      gi_wp2
      exact ⟨(KeepsOthers.setCell _ _ _).from _, HR.out⟩
  case done =>
    rintro D ys W hD hS ⟨⟨hz, hcr⟩, hB⟩ hK
    have hP := back_all_zero HN.out hS hz
    have hcc := hcr.cell
    have hff := hcr.frozen
    gi_wp2
    have hK' := (KeepsOthers.setCell W ⟨w.heap.size, 0, none⟩ (.int .i64 (-1))).same D _ hK rfl
    refine ⟨by simp, .inl ⟨_, _, rfl, run_takeDeferred hK', ?_⟩⟩
    have hc5 := cell_kept (World.cell?_setCell_same' W ⟨w.heap.size, 0, none⟩ (.int .i64 (-1)) (by rw [hcc]; rfl)) (grownBy_putObj' _ D (.deferred none)) (fun r e => by cases e; exact ⟨_, hK', rfl⟩)
    refine ⟨.int .i64 (-1), ?_, by rw [hP]; rfl, (hB.setCell (p := ⟨w.heap.size, 0, none⟩) (Nat.le_refl _) _).trans (belowK_b (w := w) (Nat.le_refl _) _ D _ _ (by omega) hK' rfl rfl)⟩
    simp [results, Tryd.f52, go_sem, hc5]
  case stop =>
    rintro D c pre W hD hS ⟨⟨rfl, ini, last, rfl, hz, hl, hcr⟩, hB⟩ hK
    have hP := back_first HN.out hS hz hl
    have hcc := hcr.cell
    gi_wp2
    refine ⟨by simp, .inl ⟨_, _, rfl, run_takeDeferred hK, ?_⟩⟩
    have hc5 := cell_kept hcc (grownBy_putObj' _ D (.deferred none)) (fun r e => by cases e; exact ⟨_, hK, rfl⟩)
    refine ⟨.int .i64 (last.at : Int), ?_, by rw [hP, show (((last.at + 1 : Nat) : Int) - 1) = (last.at : Int) by omega], hB.trans (belowK_b (w := w) (Nat.le_refl _) W D _ _ (by omega) hK rfl rfl)⟩
    simp [results, Tryd.f52, go_sem, hc5]

theorem plain_is_take (p : List UInt8) : plainL p = p.take (plainL p).length := by
  by_cases h : plainL p = []
  · rw [h]
    simp
  · have h1 := plain_take p (plainL p).length (plain_len p) (fun k hk => plain_ge p k hk) (.inr (plain_top p h))
    exact h1
theorem Rd.plain {w : World} {A : Option Addr} {p : List UInt8} (h : Rd vB w A p) : Rd vB w A (plainL p) := by
  rw [plain_is_take]
  exact h.take _

/-- cut: the same memory, as far as the plain one goes. -/
theorem cutP_any (p : List UInt8) (n : Nat) (A : Option Addr) (c : Nat) (w : World) (HN : Hid (p.length = n)) (hr : Rd vB w A p) (hc : n ≤ c) (hn : n ≤ 100000) :
    Calls Tryd.prog 44 #[.slice A n c] w fun e w' => ∃ k, e = .returned (.slice A k c) ∧ Hid ((plainL p).length = k) ∧ k ≤ n ∧ Below w.heap.size w w' := by
  obtain ⟨k, hk⟩ : ∃ k, (plainL p).length = k := ⟨_, rfl⟩
  have hkn : k ≤ n := by rw [← hk, ← HN.out]; exact plain_len p
  have hd := degP_any p n A c w HN hr hc hn
  have e1 : ((k : Int) - 1) + 1 = (k : Int) := by omega
  rw [hk] at hd
  have HD := Lib.hid hd
  have HK := Lib.hid hk
  have hcut := fun W => run_cut_to (P := Tryd.prog) 23 5 Tryd.underlying23 size_uint8 A n c k (by omega) W
  clear hd hk
  go_enter Tryd.func44, Tryd.ntmps44
  go_wp2_with fail
  refine HD.out.mono ?_
  rintro e w1 ⟨rfl, hb1⟩
  go_wp2_with fail
  go_ret
  exact ⟨k, rfl, HK, hkn, hb1⟩

/-! ### Eval -/
def hornB {n : Nat} {V : Nat → UInt8 → Prop} (x : UInt8) (pre : List (Bk n V)) : UInt8 := (pre.map Bk.val).foldl (fun v c => addB (mulB v x) c) 0
theorem horn_snoc {n : Nat} {V : Nat → UInt8 → Prop} (x : UInt8) (pre : List (Bk n V)) (y : Bk n V) : hornB x (pre ++ [y]) = addB (mulB (hornB x pre) x) y.val := by
  unfold hornB
  rw [List.map_append, List.foldl_append]
  rfl
theorem back_vals {p : List UInt8} {n : Nat} (hn : p.length = n) {xs : List (Bk n fun j c => c = co p j)} (hS : backS xs) : xs.map Bk.val = p.reverse := by
  have h1 : xs.map Bk.val = (xs.map Bk.at).map (co p) := by
    rw [List.map_map]
    exact List.map_congr_left fun x _ => x.is
  rw [h1, hS]
  apply List.ext_getElem
  · rw [List.length_map, back_length, List.length_reverse, hn]
  · intro i h2 h3
    rw [List.length_reverse] at h3
    rw [List.getElem_map, List.getElem_reverse]
    unfold backN
    rw [List.getElem_map, List.getElem_range, co_lt p _ (by omega)]
    congr 1
    omega
theorem horn_all {p : List UInt8} {n : Nat} (hn : p.length = n) (x : UInt8) {xs : List (Bk n fun j c => c = co p j)} (hS : backS xs) : hornB x xs = evalL p x := by
  unfold hornB
  rw [back_vals hn hS, List.foldl_reverse]
  clear hS hn
  induction p with
  | nil => rfl
  | cons a p ih => rw [List.foldr_cons, ih (xs := []), evalL, add_comm, mul_comm]
def EvI (w : World) (x : UInt8) {n : Nat} {V : Nat → UInt8 → Prop} (pre : List (Bk n V)) (W : World) : Prop :=
  (Boxed W (w.heap.size + 1) 5 (.int .u8 ((hornB x pre).toNat : Int)) ∧ Boxed W w.heap.size 5 (.int .u8 (x.toNat : Int))) ∧ Below w.heap.size w W
theorem evI_own (w : World) (x : UInt8) {n : Nat} {V : Nat → UInt8 → Prop} (B : Nat) (hB : w.heap.size ≤ B) : OwnFrom B (EvI w x (n := n) (V := V)) :=
  OwnFrom.and (Own.from (fun s A B row hs hg hr => ⟨boxed_turn hs.1 hg hr, boxed_turn hs.2 hg hr⟩) _) (ownFrom_below (Nat.le_refl _) hB)

set_option maxHeartbeats 2000000 in
theorem evalP_any (p : List UInt8) (x : UInt8) (n : Nat) (A : Option Addr) (c : Nat) (w : World) (HN : Hid (p.length = n)) (hr : Rd vB w A p) (hc : n ≤ c) (hn : n ≤ 50000) :
    Calls Tryd.prog 51 #[.slice A n c, .int .u8 (x.toNat : Int)] w fun e w' => e = .returned (.int .u8 ((evalL p x).toNat : Int)) ∧ Below w.heap.size w w' := by
  refine (callsIn_wide (n := 3)).1 ?_
  refine callsIn_of_wp_marks Tryd.func51 rfl trivial ?_ rfl
  simp only [Tryd.ntmps51, List.size_toArray, List.length_cons, List.length_nil, Nat.reduceAdd, Nat.reduceSub, Array.replicate_succ, Array.replicate_zero, List.push_toArray, List.append_toArray, List.nil_append, List.cons_append]
  gi_wp2_with (refine ⟨trivial, ?_⟩; gi_at_call 47; refine (callsIn_wide.2 (backward_any _ _ _ _)).mono ?_; rintro e w' ⟨rfl, rfl⟩)
  have bX := ((Boxed.new w 5 (.int .u8 (x.toNat : Int))).alloc (.cells #[.int .u8 0] 5)).alloc (.cells #[.slice A n c] 23)
  have bV := (Boxed.new (w.alloc (.cells #[.int .u8 (x.toNat : Int)] 5)) 5 (.int .u8 0)).alloc (.cells #[.slice A n c] 23)
  have bN := Boxed.new ((w.alloc (.cells #[.int .u8 (x.toNat : Int)] 5)).alloc (.cells #[.int .u8 0] 5)) 23 (.slice A n c)
  simp only [World.size_alloc] at bN bV
  have hB0 : Below w.heap.size w (((w.alloc (.cells #[.int .u8 (x.toNat : Int)] 5)).alloc (.cells #[.int .u8 0] 5)).alloc (.cells #[.slice A n c] 23)) := (((Below.refl _ w).alloc (Nat.le_refl _) _).alloc (by simp) _).alloc (by simp; omega) _
  have hsz : (((w.alloc (.cells #[.int .u8 (x.toNat : Int)] 5)).alloc (.cells #[.int .u8 0] 5)).alloc (.cells #[.slice A n c] 23)).heap.size = w.heap.size + 3 := by simp
  generalize ((w.alloc (.cells #[.int .u8 (x.toNat : Int)] 5)).alloc (.cells #[.int .u8 0] 5)).alloc (.cells #[.slice A n c] 23) = W0 at bX bV bN hB0 hsz ⊢
  refine wpIn_rangeFunc_ownG rfl (by omega) (gf := 64) (lb := #[.pointer (some ⟨w.heap.size + 1 + 1, 0, none⟩)]) rfl trivial (enters_of Tryd.func64 (by kernel_rfl) rfl)
    (back_stops Fence.wide _ trivial rfl (by omega) (w.heap.size + 1 + 1) n c A (fun j c => c = co p j) (KpB w.heap.size (w.heap.size + 1 + 1)) (by omega) W0 (KpB.refl _ _) (fun _ _ _ => KpB.trans)
      (fun W hW W' hK => ⟨by
        have h1 : W'.heap[w.heap.size + 1 + 1]? = W0.heap[w.heap.size + 1 + 1]? := hK.2.trans (hW.block _ (by omega))
        exact Boxed.cell (t := 23) (h1.trans bN), p, HN.out, (hr.keep (hB0.trans ((hW.mono (by omega)).trans hK.1))), fun j _ => rfl⟩))
    (fun h k => KpB.trans h k) (KpB.own (by omega) (by omega)) (Below.refl _ _) (fun _ => rfl)
    (EvI w x) (fun _ _ _ => False) (evI_own w x _ (by omega)) (fun _ _ _ _ _ hs _ _ => hs)
    ⟨⟨bV, bX⟩, hB0⟩
    (fun y => { tmps := #[.slice A n c, .int .u8 (x.toNat : Int), undef, .pointer (some ⟨w.heap.size, 0, none⟩), .int .u8 0, .pointer (some ⟨w.heap.size + 1, 0, none⟩), undef, .int .u8 (y.val.toNat : Int), .slice A n c, .func (.func 64) #[] #[.pointer (some ⟨w.heap.size + 1 + 1, 0, none⟩)], .int .i64 (y.at : Int), .int .u8 (y.val.toNat : Int), undef, undef, undef, undef, undef, undef], defers := [] }) ?assign ?body ?done ?stop
  case assign =>
    intro l x W K hK
    unfold Bk.enc
    gi_wp2
    exact hK
  case body =>
    rintro l pre y W ⟨⟨hv, hx⟩, hB⟩ _
    have hvc := hv.cell
    have hvf := hv.frozen
    have hxc := hx.cell
    have HH : Hid (hornB x (pre ++ [y]) = addB (mulB (hornB x pre) x) y.val) := horn_snoc x pre y
    generalize hornB x pre = v at hv hvc HH
    generalize y.val = b at HH ⊢
    have hM : ∀ W, Calls Tryd.prog 48 #[.int .u8 (v.toNat : Int), .int .u8 (x.toNat : Int)] W fun e w'' => e = .returned (.int .u8 ((mulB v x).toNat : Int)) ∧ W = w'' := fun W => gfmul_any v x W
    generalize mulB v x = m at HH hM
    have hA : ∀ W, Calls Tryd.prog 28 #[.int .u8 (m.toNat : Int), .int .u8 (b.toNat : Int)] W fun e w'' => e = .returned (.int .u8 ((addB m b).toNat : Int)) ∧ W = w'' := fun W => gfadd_any m b W
    generalize addB m b = z at HH hA
    have HR : Hid (KeepsFrom W0.heap.size W (W.setCell ⟨w.heap.size + 1, 0, none⟩ (.int .u8 (z.toNat : Int))) ∧ KpB w.heap.size (w.heap.size + 1 + 1) W (W.setCell ⟨w.heap.size + 1, 0, none⟩ (.int .u8 (z.toNat : Int))) ∧ EvI w x (pre ++ [y]) (W.setCell ⟨w.heap.size + 1, 0, none⟩ (.int .u8 (z.toNat : Int)))) :=
      ⟨(KeepsOthers.setCell _ _ _).from _, ⟨(Below.refl _ W).setCell (p := ⟨w.heap.size + 1, 0, none⟩) (Nat.le_succ _) _, Below.heap_setCell W ⟨w.heap.size + 1, 0, none⟩ _ _ (by simp)⟩,
        ⟨by rw [HH.out]; exact hv.set _, hx.kept (grownBy_setCell' W (w.heap.size + 1) _) (by simp)⟩, hB.setCell (p := ⟨w.heap.size + 1, 0, none⟩) (Nat.le_succ _) _⟩
    have HM := Lib.hid hM
    have HA := Lib.hid hA
    clear hM hA hv hx hB HH bX bV bN
    gi_wp2_with (refine ⟨trivial, ?_⟩; first | (gi_at_call 48; refine (CallsIn.inRound l (callsIn_wide.2 (HM.out _))).mono ?_; rintro e w' ⟨rfl, rfl⟩) | (gi_at_call 28; refine (CallsIn.inRound l (callsIn_wide.2 (HA.out _))).mono ?_; rintro e w' ⟨rfl, rfl⟩))
    exact HR.out
  case done =>
    rintro D ys W hD hS ⟨⟨hv, hx⟩, hB⟩ hK
    rw [horn_all HN.out x hS] at hv
    have hvc := hv.cell
    gi_wp2
    refine ⟨by simp, .inl ⟨_, _, rfl, run_takeDeferred hK, ?_⟩⟩
    exact ⟨_, results_tmp rfl _ _ _, rfl, hB.trans (belowK_b (w := w) (Nat.le_refl _) W D _ _ (by omega) hK rfl rfl)⟩
  case stop =>
    rintro D c pre W _ _ h _
    exact h.elim
end Go.Proofs.YteppocjgodmpdaaDoor
/-
  What the program's call addTimes of layer 8 leaves: a polynomial to which another one, times an element, is added from a place on. No conditions but those typed.
-/
namespace Go.Proofs.YteppocjgodmpdaaDoor
set_option maxRecDepth 100000
open Go.RowKit
set_option linter.unusedSimpArgs false
set_option linter.unusedVariables false

theorem co_ext {p q : List UInt8} (hl : p.length = q.length) (h : ∀ k, k < p.length → co p k = co q k) : p = q := by
  apply List.ext_getElem hl
  intro i h1 h2
  have := h i h1
  rwa [co_lt p i h1, co_lt q i h2] at this
theorem co_set (l : List UInt8) (i k : Nat) (x : UInt8) (hi : i < l.length) : co (l.set i x) k = if k = i then x else co l k := by
  unfold co
  rw [List.getD_eq_getElem?_getD, List.getD_eq_getElem?_getD, List.getElem?_set]
  by_cases h : i = k
  · subst h
    rw [if_pos rfl, if_pos hi, if_pos rfl]
    rfl
  · rw [if_neg h, if_neg (fun e => h e.symm)]

/-- z added from place o on. -/
def atL (l : List UInt8) (o : Nat) (z : List UInt8) : List UInt8 := addL l (shiftL o z)
theorem at_length (l : List UInt8) (o : Nat) (z : List UInt8) (h : o + z.length ≤ l.length) : (atL l o z).length = l.length := by
  unfold atL
  rw [addL_length, shift_length]
  omega
theorem co_shift_low : ∀ (o : Nat) (z : List UInt8) (k : Nat), k < o → co (shiftL o z) k = 0
  | 0, _, _, h => absurd h (Nat.not_lt_zero _)
  | o + 1, z, 0, _ => rfl
  | o + 1, z, k + 1, h => by
    rw [shift_succ, co_succ]
    exact co_shift_low o z k (by omega)
theorem co_at (l : List UInt8) (o : Nat) (z : List UInt8) (k : Nat) : co (atL l o z) k = addB (co l k) (if k < o then 0 else co z (k - o)) := by
  unfold atL
  rw [co_add]
  split
  · next h => rw [co_shift_low o z k h]
  · next h =>
    have e : k = o + (k - o) := by omega
    conv => lhs; rw [e, co_shift, ← e]
theorem at_nil (l : List UInt8) (o : Nat) (h : o ≤ l.length) : atL l o [] = l := by
  refine co_ext (at_length l o [] (by simpa using h)) (fun k hk => ?_)
  rw [co_at]
  split
  · rw [add_zero]
  · rw [co_nil, add_zero]
theorem at_snoc (l : List UInt8) (o : Nat) (z : List UInt8) (x : UInt8) (h : o + z.length < l.length) :
    (atL l o z).set (o + z.length) (addB (co (atL l o z) (o + z.length)) x) = atL l o (z ++ [x]) := by
  have hl := at_length l o z (by omega)
  refine co_ext (by rw [List.length_set, hl, at_length l o (z ++ [x]) (by rw [List.length_append, List.length_singleton]; omega)]) (fun k hk => ?_)
  rw [co_set _ _ _ _ (by omega), co_at, co_at, co_at]
  split
  · next e =>
    subst e
    rw [if_neg (by omega), if_neg (by omega), Nat.add_sub_cancel_left, co_ge z _ (Nat.le_refl _), add_zero, co_snoc, if_neg (by omega), if_pos rfl]
  · next e =>
    split
    · rfl
    · rw [co_snoc]
      split
      · rfl
      · rw [if_neg (by omega), co_ge z _ (by omega)]

theorem co_pad (P : List UInt8) (r : Nat) (k : Nat) : co (P ++ List.replicate r 0) k = co P k := by
  rcases Nat.lt_or_ge k P.length with h | h
  · unfold co
    rw [List.getD_eq_getElem?_getD, List.getD_eq_getElem?_getD, List.getElem?_append_left h]
  · rw [co_ge P k h]
    unfold co
    rw [List.getD_eq_getElem?_getD, List.getElem?_append_right h, List.getElem?_replicate]
    split <;> rfl
/-- What a copy to the beginning of zeros leaves. -/
theorem pad_is (P : List UInt8) (M : Nat) (h : P.length ≤ M) : ((List.replicate M (0 : UInt8)).take 0 ++ P ++ (List.replicate M 0).drop (0 + P.length)).length = M ∧ Eqv ((List.replicate M (0 : UInt8)).take 0 ++ P ++ (List.replicate M 0).drop (0 + P.length)) P := by
  rw [List.take_zero, List.nil_append, List.drop_replicate]
  refine ⟨by rw [List.length_append, List.length_replicate]; omega, fun k => co_pad P _ k⟩
theorem at_one {T P Q p q : List UInt8} (h1 : Eqv T P) (h2 : Eqv P p) (h3 : Eqv Q q) : plainL (atL T 0 (scaleL 1 Q)) = plainL (addL p q) := plain_congr fun k => by
  rw [co_at, if_neg (Nat.not_lt_zero k), Nat.sub_zero, scale_one, h1 k, h2 k, h3 k, co_add]

theorem mul_snoc (c : UInt8) (Q : List UInt8) : ∀ A : List UInt8, Eqv (mulL (A ++ [c]) Q) (addL (mulL A Q) (shiftL A.length (scaleL c Q)))
  | [] => by
    rw [List.nil_append, mulL, mulL]
    exact (add_congr (Eqv.refl _) zero_cons).trans (addL_nil _)
  | a :: A => by
    rw [List.cons_append, mulL, mulL, List.length_cons, shift_succ]
    exact (add_congr (Eqv.refl _) (((mul_snoc c Q A).cons 0).trans (shift_add _ _))).trans (addL_assoc _ _ _).symm
/-- One round of a product. -/
theorem mul_round {T P Q : List UInt8} {k : Nat} (h : Eqv T (mulL (P.take k) Q)) (hk : k < P.length) : Eqv (atL T k (scaleL P[k] Q)) (mulL (P.take (k + 1)) Q) := by
  rw [List.take_succ_eq_append_getElem hk]
  refine Eqv.trans ?_ (mul_snoc P[k] Q (P.take k)).symm
  have : (P.take k).length = k := by rw [List.length_take]; omega
  rw [this]
  exact add_congr h (Eqv.refl _)
/-- The product of plain ones is plain. -/
theorem mul_plain_is {p q T : List UInt8} (hp : plainL p ≠ []) (hq : plainL q ≠ []) (hl : T.length = (plainL p).length + (plainL q).length - 1) (h : Eqv T (mulL (plainL p) (plainL q))) : T = plainL (mulL p q) := by
  have h1 : plainL (mulL p q) = plainL T := plain_congr (((mul_congr (plain_eqv p) (plain_eqv q)).symm).trans h.symm)
  have h2 := mul_plain_len p q hp hq
  rw [h1] at h2 ⊢
  have h3 := plain_is_take T
  rw [h2, ← hl, List.take_length] at h3
  exact h3.symm
/-- 's[k:]' of a slice whose block is known. -/
theorem run_cut_at {P : Program} (t e : TypeId) (ht : P.underlying t = some (.slice e)) (hz : ∀ w, (sizeOf e).run P w = .ok 1 w) (g o n cap k : Nat) (hk : k ≤ n) (hc : n ≤ cap) (hkc : k < cap) (w : World) :
    (Instr.slice t (.slice (some ⟨g, o, none⟩) n cap) (some (.int .i64 (k : Int))) none none).run P w = .ok (.slice (some ⟨g, o + k, none⟩) (n - k) (cap - k)) w := by
  have ht' : P.underlying t = some (.slice (P.elem t)) := by simp [Program.elem, ht]
  have he : P.elem t = e := by simp [Program.elem, ht]
  rw [run_slice_l w t (some ⟨g, o, none⟩) n cap ht' .i64 (k : Int) (by omega) (by omega), he, hz]
  have : ¬ cap = k := by omega
  simp [Result.andThen, sliced, this, Addr.add]

def AtRel (l q : List UInt8) (a : UInt8) (cap g o m : Nat) (w : World) (i : Value) (wr : World) : Prop :=
  ∃ k : Nat, k ≤ m ∧ i = .int .i64 (k : Int) ∧ CelN wr g 5 cap (atL l o (scaleL a (q.take k))) ∧ Only g w wr

set_option maxHeartbeats 2000000 in
theorem addtimes_cap (l q : List UInt8) (a : UInt8) (cap g o n c m : Nat) (B : Option Addr) (d : Nat) (w : World) (HM : Hid (q.length = m)) (hcel : CelN w g 5 cap l) (hq : Rd vB w B q) (hB : q ≠ [] → ∀ ad, B = some ad → ad.block ≠ g) (hmn : m ≤ n) (hnc : n ≤ c) (hn : o + n ≤ l.length) (hl : l.length ≤ 200000) :
    Calls Tryd.prog 49 #[.slice (some ⟨g, o, none⟩) n c, .slice B m d, .int .u8 (a.toNat : Int)] w fun e w' => (∃ v, e = .returned v) ∧ CelN w' g 5 cap (atL l o (scaleL a q)) ∧ Only g w w' := by
  go_enter Tryd.func49, Tryd.ntmps49
  go_wp2_with fail
  go_loopw [10] (fun i wr => AtRel l q a cap g o m w i wr) (fun i _ => m - (intOf i).toNat)
  case atStart => exact ⟨0, Nat.zero_le _, rfl, by rw [List.take_zero, scaleL, List.map_nil, at_nil l o (by omega)]; exact hcel, Only.refl _ _⟩
  case round =>
    obtain ⟨k, hk, rfl, hc, ho⟩ := hrel
    by_cases h : k < m
    · have j1 : (k : Int) < (m : Int) := by omega
      have j0 : (0 : Int) ≤ (k : Int) := by omega
      have j2 : (k : Int) < (n : Int) := by omega
      have hkq : k < q.length := by rw [HM.out]; exact h
      obtain ⟨b, ob, rfl, hb, hcell⟩ := (hq.only ho hB).at hkq
      have hc0 := hcell k hkq
      unfold vB at hc0
      have hz : (scaleL a (q.take k)).length = k := by unfold scaleL; rw [List.length_map, List.length_take]; omega
      have hs : (atL l o (scaleL a (q.take k))).set (o + k) (addB (co (atL l o (scaleL a (q.take k))) (o + k)) (mulB a q[k])) = atL l o (scaleL a (q.take (k + 1))) := by
        have := at_snoc l o (scaleL a (q.take k)) (mulB a q[k]) (by rw [hz]; omega)
        rw [hz] at this
        rw [this, List.take_succ_eq_append_getElem hkq]
        unfold scaleL
        rw [List.map_append]
        rfl
      have hco := hc.cel.get (o + k) (by rw [at_length l o _ (by rw [hz]; omega)]; omega)
      have hfr := hc.cel.frozen (o + k)
      generalize atL l o (scaleL a (q.take k)) = T at hc hco hs
      generalize q[k] = x at hc0 hs
      have hset := hc.drew.set (o + k) (addB (co T (o + k)) (mulB a x))
      rw [hs] at hset
      generalize co T (o + k) = y at hco hset
      rw [mul_comm a x] at hset
      have hM : ∀ W, Calls Tryd.prog 48 #[.int .u8 (x.toNat : Int), .int .u8 (a.toNat : Int)] W fun e w'' => e = .returned (.int .u8 ((mulB x a).toNat : Int)) ∧ w'' = W := fun W => (gfmul_any x a W).mono fun _ _ h => ⟨h.1, h.2.symm⟩
      generalize mulB x a = z at hM hset
      have hA : ∀ W, Calls Tryd.prog 28 #[.int .u8 (y.toNat : Int), .int .u8 (z.toNat : Int)] W fun e w'' => e = .returned (.int .u8 ((addB y z).toNat : Int)) ∧ w'' = W := fun W => (gfadd_any y z W).mono fun _ _ h => ⟨h.1, h.2.symm⟩
      generalize addB y z = u at hA hset
      have HREL : Hid (AtRel l q a cap g o m w (.int .i64 ((k : Int) + 1)) (wr.drew.setCell ⟨g, o + k, none⟩ (.int .u8 (u.toNat : Int)))) := ⟨k + 1, h, by go_num, hset, (ho.drew).setCell _ _⟩
      have HMu := Lib.hid hM
      have HAd := Lib.hid hA
      clear hset hc ho hs hcell hkq hM hA
      go_wp2_with fail
      refine wp_region_still_tail 11 (by kernel_rfl) (by kernel_rfl) ?_
      simp only [List.take_succ_cons, List.take_zero, List.drop_succ_cons, List.drop_zero]
      iterate 8 still_step
      still_call (HMu.out _)
      still_call (HAd.out _)
      still_step
      refine wpStill_nil ?_
      change wpList _ _ _ _ _ wr.drew
      go_wp2_with fail
      go_roundw
      case rel => exact HREL.out
      case measure => simp [intOf] <;> omega
    · have hkm : k = m := by omega
      subst hkm
      have j1 : ¬ (k : Int) < (k : Int) := by omega
      rw [List.take_of_length_le (by rw [HM.out]; exact Nat.le_refl _)] at hc
      go_wp2_with fail
      go_end0
      exact ⟨⟨_, rfl⟩, hc, ho⟩
theorem addtimes_any (l q : List UInt8) (a : UInt8) (g o n c m : Nat) (B : Option Addr) (d : Nat) (w : World) (HM : Hid (q.length = m)) (hcel : Cel w g 5 l) (hq : Rd vB w B q) (hB : q ≠ [] → ∀ ad, B = some ad → ad.block ≠ g) (hmn : m ≤ n) (hnc : n ≤ c) (hn : o + n ≤ l.length) (hl : l.length ≤ 200000) :
    Calls Tryd.prog 49 #[.slice (some ⟨g, o, none⟩) n c, .slice B m d, .int .u8 (a.toNat : Int)] w fun e w' => (∃ v, e = .returned v) ∧ Cel w' g 5 (atL l o (scaleL a q)) ∧ Only g w w' := by
  obtain ⟨cap, h⟩ := hcel.some_cap
  exact (addtimes_cap l q a cap g o n c m B d w HM h hq hB hmn hnc hn hl).mono fun e w' hh => ⟨hh.1, hh.2.1.cel, hh.2.2⟩
end Go.Proofs.YteppocjgodmpdaaDoor
/-
  In how many places two are unlike (plain). No conditions but those typed.
-/
namespace Go.Proofs.YteppocjgodmpdaaDoor
set_option maxRecDepth 100000
set_option linter.unusedVariables false
set_option linter.unusedSimpArgs false

theorem wt_cons (c : UInt8) (b : List UInt8) : wtL (c :: b) = (if c = 0 then 0 else 1) + wtL b := by
  unfold wtL
  by_cases h : c = 0
  · subst h
    rw [List.filter_cons_of_neg (by simp), if_pos rfl, Nat.zero_add]
  · rw [List.filter_cons_of_pos (by simpa using h), if_neg h, List.length_cons, Nat.add_comm]
theorem dif_nil_left (b : List UInt8) : difL [] b = 0 := by simp [difL, wtL]
theorem dif_cons (x y : UInt8) (a b : List UInt8) : difL (x :: a) (y :: b) = (if addB x y = 0 then 0 else 1) + difL a b := by
  unfold difL
  rw [List.zipWith_cons_cons, wt_cons]
theorem dif_set : ∀ (a b : List UInt8) (q : Nat) (z : UInt8), difL a (b.set q z) ≤ difL a b + 1
  | [], b, q, z => by rw [dif_nil_left]; omega
  | x :: a, [], q, z => by simp [difL, wtL]
  | x :: a, y :: b, 0, z => by
    rw [List.set_cons_zero, dif_cons, dif_cons]
    split <;> split <;> omega
  | x :: a, y :: b, q + 1, z => by
    rw [List.set_cons_succ, dif_cons, dif_cons]
    have := dif_set a b q z
    omega
theorem dif_self (a : List UInt8) : difL a a = 0 := by
  unfold difL
  rw [zip_self, wt_zeros]
end Go.Proofs.YteppocjgodmpdaaDoor
/-
  Layer 10 as plain mathematics: what bytes are mended to is told by Euclid's way to a finder, and Forney's values at its roots. No conditions but those typed.
-/
namespace Go.Proofs.YteppocjgodmpdaaDoor
set_option maxRecDepth 100000
set_option linter.unusedVariables false
set_option linter.unusedSimpArgs false

/-! ### Mended -/
/-- These are fine, and near enough. -/
def Near (b : List UInt8) (n : Nat) (a : List UInt8) : Prop := a.length = b.length ∧ fineP a n ∧ difL b a ≤ n / 2
theorem dif_comm (a b : List UInt8) : difL a b = difL b a := by
  unfold difL
  rw [List.zipWith_comm]
  congr 1
  congr 1
  funext x y
  exact add_comm _ _
theorem dif_tri : ∀ a b c : List UInt8, a.length = b.length → b.length = c.length → difL a c ≤ difL a b + difL b c
  | [], [], [], _, _ => by simp [difL, wtL]
  | [], _ :: _, _, h, _ => by simp at h
  | [], [], _ :: _, _, h => by simp at h
  | _ :: _, [], _, h, _ => by simp at h
  | _ :: _, _ :: _, [], _, h => by simp at h
  | x :: a, y :: b, z :: c, h, g => by
    have ih := dif_tri a b c (by simpa using h) (by simpa using g)
    rw [dif_cons, dif_cons, dif_cons]
    by_cases h1 : addB x y = 0
    · by_cases h2 : addB y z = 0
      · have e1 := add_zero_eq h1
        have e2 := add_zero_eq h2
        rw [if_pos (by rw [e1, e2, add_self])]
        omega
      · rw [if_pos h1, if_neg h2]
        split <;> omega
    · rw [if_neg h1]
      split <;> split <;> omega
theorem dif_zero {a b : List UInt8} (hl : a.length = b.length) (h : difL a b = 0) : a = b := by
  refine zip_zero a b hl (fun c hc => ?_)
  unfold difL wtL at h
  have := List.eq_nil_of_length_eq_zero h
  rw [List.filter_eq_nil_iff] at this
  simpa using this c hc
theorem near_unique {b a c : List UInt8} {n : Nat} (hl : b.length ≤ 255) (h : Near b n a) (g : Near b n c) : a = c := by
  obtain ⟨h1, h2, h3⟩ := h
  obtain ⟨g1, g2, g3⟩ := g
  refine fine_unique a c n (by omega) (by omega) h2 g2 ?_
  have := dif_tri a b c h1 (by omega)
  rw [dif_comm a b] at this
  omega
theorem near_self {b : List UInt8} {n : Nat} (h : fineP b n) : Near b n b := ⟨rfl, h, by rw [dif_self]; omega⟩

/-! ### Products, so far as some power -/
/-- Alike below a power. -/
def Low (n : Nat) (p q : List UInt8) : Prop := ∀ k, k < n → co p k = co q k
theorem Low.trans {n : Nat} {p q r : List UInt8} (h : Low n p q) (g : Low n q r) : Low n p r := fun k hk => (h k hk).trans (g k hk)
theorem Low.symm {n : Nat} {p q : List UInt8} (h : Low n p q) : Low n q p := fun k hk => (h k hk).symm
theorem Eqv.low {p q : List UInt8} (h : Eqv p q) (n : Nat) : Low n p q := fun k _ => h k
theorem Low.add {n : Nat} {p q p' q' : List UInt8} (h : Low n p p') (g : Low n q q') : Low n (addL p q) (addL p' q') := fun k hk => by rw [co_add, co_add, h k hk, g k hk]
theorem Low.cons {n : Nat} (a : UInt8) {p q : List UInt8} (h : Low n p q) : Low n (a :: p) (a :: q) := fun k hk => by
  cases k with
  | zero => rfl
  | succ k => rw [co_succ, co_succ, h k (by omega)]
theorem Low.scale {n : Nat} (a : UInt8) {p q : List UInt8} (h : Low n p q) : Low n (scaleL a p) (scaleL a q) := fun k hk => by rw [co_scale, co_scale, h k hk]
theorem Low.mul {n : Nat} {q q' : List UInt8} (h : Low n q q') : ∀ p : List UInt8, Low n (mulL p q) (mulL p q')
  | [] => fun _ _ => rfl
  | a :: p => (h.scale a).add ((h.mul p).cons 0)
/-- How many coefficients. -/
def pl (p : List UInt8) : Nat := (plainL p).length
theorem pl_le_iff (p : List UInt8) (n : Nat) : pl p ≤ n ↔ ∀ k, n ≤ k → co p k = 0 := plain_le_iff p n
theorem pl_congr {p q : List UInt8} (h : Eqv p q) : pl p = pl q := by unfold pl; rw [plain_congr h]
theorem pl_len (p : List UInt8) : pl p ≤ p.length := plain_len p
theorem pl_zero {p : List UInt8} (h : pl p = 0) : Eqv p [] := fun k => by rw [co_nil]; exact (pl_le_iff p 0).1 (by omega) k (Nat.zero_le _)
theorem pl_add (p q : List UInt8) : pl (addL p q) ≤ max (pl p) (pl q) := plain_add_len p q
theorem pl_mul (p q : List UInt8) : pl (mulL p q) ≤ pl p + pl q - 1 := by
  by_cases hp : plainL p = []
  · have : Eqv (mulL p q) [] := (mul_congr (pl_zero (p := p) (by unfold pl; rw [hp]; rfl)) (Eqv.refl q)).trans (Eqv.refl _)
    rw [pl_congr this]
    exact Nat.zero_le _
  · by_cases hq : plainL q = []
    · have : Eqv (mulL p q) [] := (mul_congr (Eqv.refl p) (pl_zero (p := q) (by unfold pl; rw [hq]; rfl))).trans (mulL_nil p)
      rw [pl_congr this]
      exact Nat.zero_le _
    · exact Nat.le_of_eq (mul_plain_len p q hp hq)
theorem pl_mul_eq (p q : List UInt8) (hp : 0 < pl p) (hq : 0 < pl q) : pl (mulL p q) = pl p + pl q - 1 := mul_plain_len p q (List.length_pos_iff.1 hp) (List.length_pos_iff.1 hq)

/-! ### Roots -/
/-- Divided by 'r + x'. -/
def synL (r : UInt8) : List UInt8 → List UInt8
  | [] => []
  | [_] => []
  | _ :: d :: p => evalL (d :: p) r :: synL r (d :: p)
theorem syn_is (r : UInt8) : ∀ p : List UInt8, p ≠ [] → (synL r p).length + 1 = p.length ∧ ∀ x, evalL p x = addB (mulB (addB r x) (evalL (synL r p) x)) (evalL p r)
  | [], h => absurd rfl h
  | [c], _ => ⟨rfl, fun x => by simp only [synL, evalL, mul_zero, add_zero, zero_add]⟩
  | c :: d :: p, _ => by
    obtain ⟨h1, h2⟩ := syn_is r (d :: p) (by simp)
    refine ⟨by simp only [synL, List.length_cons] at h1 ⊢; omega, fun x => ?_⟩
    have e := h2 x
    have hs : synL r (c :: d :: p) = evalL (d :: p) r :: synL r (d :: p) := rfl
    rw [hs]
    generalize synL r (d :: p) = q at e
    generalize d :: p = dp at e
    rw [evalL, evalL, evalL, e]
    generalize evalL dp r = v
    generalize evalL q x = y
    simp only [mul_add_right, mul_add_left]
    have e1 : mulB x (mulB r y) = mulB r (mulB x y) := by rw [← mul_assoc, mul_comm x r, mul_assoc]
    rw [e1]
    generalize mulB r (mulB x y) = A
    generalize mulB x (mulB x y) = B
    generalize mulB x v = C
    generalize mulB r v = D
    unfold addB
    have h : C ^^^ (D ^^^ (A ^^^ (B ^^^ (c ^^^ D)))) = c ^^^ (A ^^^ (B ^^^ C)) ^^^ (D ^^^ D) := by ac_rfl
    rw [UInt8.xor_self, UInt8.xor_zero] at h
    calc c ^^^ (A ^^^ B ^^^ C) = c ^^^ (A ^^^ (B ^^^ C)) := by ac_rfl
      _ = C ^^^ (D ^^^ (A ^^^ (B ^^^ (c ^^^ D)))) := h.symm
      _ = _ := by ac_rfl
theorem eval_all_zero : ∀ (R : List UInt8) (p : List UInt8), R.Nodup → p.length ≤ R.length → (∀ r ∈ R, evalL p r = 0) → ∀ x, evalL p x = 0
  | _, [], _, _, _, x => rfl
  | [], c :: p, _, h, _, _ => by simp at h
  | r :: R, c :: p, hd, hl, h, x => by
    obtain ⟨h1, h2⟩ := syn_is r (c :: p) (by simp)
    have hr := h r List.mem_cons_self
    rw [List.nodup_cons] at hd
    have hq : ∀ s ∈ R, evalL (synL r (c :: p)) s = 0 := fun s hs => by
      have e := h2 s
      rw [hr, add_zero, h s (List.mem_cons_of_mem _ hs)] at e
      rcases (mul_eq_zero _ _).1 e.symm with g | g
      · exact absurd (add_zero_eq g ▸ hs) hd.1
      · exact g
    rw [h2 x, hr, add_zero, eval_all_zero R _ hd.2 (by simp only [List.length_cons] at hl h1; omega) hq x, mul_zero]
theorem eqv_all_zero : ∀ (R : List UInt8) (p : List UInt8), R.Nodup → p.length ≤ R.length → (∀ r ∈ R, evalL p r = 0) → ∀ k, co p k = 0
  | _, [], _, _, _, k => co_nil k
  | [], c :: p, _, h, _, _ => by simp at h
  | r :: R, c :: p, hd, hl, h, k => by
    have hr := h r List.mem_cons_self
    have hd' := List.nodup_cons.1 hd
    obtain ⟨h1, h2⟩ := syn_is r (c :: p) (by simp)
    have hq : ∀ s ∈ R, evalL (synL r (c :: p)) s = 0 := fun s hs => by
      have e := h2 s
      rw [hr, add_zero, h s (List.mem_cons_of_mem _ hs)] at e
      rcases (mul_eq_zero _ _).1 e.symm with g | g
      · exact absurd (add_zero_eq g ▸ hs) hd'.1
      · exact g
    have hs := eqv_all_zero R _ hd'.2 (by simp only [List.length_cons] at hl h1; omega) hq
    -- the coefficients of what is divided are told by those of the quotient
    have key : ∀ (p : List UInt8), evalL p r = 0 → (∀ j, co (synL r p) j = 0) → ∀ j, co p j = 0 := by
      intro p
      induction p with
      | nil => intro _ _ j; exact co_nil j
      | cons a p ih =>
        intro he hz j
        match p, ih, he, hz with
        | [], _, he, _ =>
          rw [evalL, evalL, mul_zero, add_zero] at he
          rw [he]
          rw [zero_cons j, co_nil]
        | d :: p, ih, he, hz =>
          have h0 : evalL (d :: p) r = 0 := hz 0
          have hz' : ∀ j, co (synL r (d :: p)) j = 0 := fun j => by
            have := hz (j + 1)
            rwa [synL, co_succ] at this
          rw [evalL, h0, mul_zero, add_zero] at he
          cases j with
          | zero => rw [co_zero]; exact he
          | succ j => rw [co_succ]; exact ih h0 hz' j
    exact key _ hr hs k
/-- No more roots than coefficients but one, or it is nothing. -/
theorem roots_zero (R : List UInt8) (p : List UInt8) (hd : R.Nodup) (hl : pl p ≤ R.length) (h : ∀ r ∈ R, evalL p r = 0) : Eqv p [] := fun k => by
  rw [← plain_eqv p k, co_nil]
  exact eqv_all_zero R (plainL p) hd hl (fun r hr => by rw [eval_congr (plain_eqv p) r]; exact h r hr) k

/-! ### Euclid's way -/
def xN (n : Nat) : List UInt8 := List.replicate n 0 ++ [1]
theorem xN_eval (n : Nat) (r : UInt8) : evalL (xN n) r = powB r n := by
  unfold xN
  rw [eval_snoc, eval_zeros, zero_add, one_mul, List.length_replicate]
theorem xN_low (n : Nat) : Low n (xN n) [] := fun k hk => by
  unfold xN co
  rw [List.getD_eq_getElem?_getD, List.getElem?_append_left (by simpa using hk), List.getElem?_replicate, if_pos hk]
  rfl
theorem xN_length (n : Nat) : (xN n).length = n + 1 := by simp [xN]
theorem xN_pl (n : Nat) : pl (xN n) = n + 1 := by
  unfold pl
  rw [plain_of_top (xN n) (.inr ?_), xN_length]
  rw [xN_length, Nat.add_sub_cancel]
  unfold xN co
  rw [List.getD_eq_getElem?_getD, List.getElem?_append_right (by simp), List.length_replicate, Nat.sub_self]
  decide
/-- What is kept on the way. -/
structure Euc (n : Nat) (S ahead left fa f : List UInt8) : Prop where
  key : Low n (mulL f S) left
  keyA : Low n (mulL fa S) ahead
  det : Eqv (addL (mulL f ahead) (mulL fa left)) (xN n)
  deg : pl f + pl ahead ≤ n + 2
  degA : pl fa + pl ahead ≤ n + 2
  less : pl left < pl ahead
  big : n - n / 2 < pl ahead
theorem euc_start (n : Nat) (S : List UInt8) (hS : S.length = n) : Euc n S (xN n) S [] [1] where
  key := fun k _ => by rw [mulL_comm [1] S k, mulL_one_right 1 S k, scale_one]
  keyA := fun k hk => by rw [xN_low n k hk]; rfl
  det := fun k => by
    rw [co_add, mulL_comm [1] _ k, mulL_one_right 1 _ k, scale_one]
    show addB _ (co [] k) = _
    rw [co_nil, add_zero]
  deg := by rw [xN_pl]; exact Nat.le_of_eq (by show (plainL [1]).length + _ = _; rw [show plainL [1] = [1] by decide]; simp; omega)
  degA := by rw [xN_pl]; show (plainL []).length + _ ≤ _; rw [show plainL [] = [] by rfl]; simp
  less := by rw [xN_pl]; have := pl_len S; omega
  big := by rw [xN_pl]; omega
theorem Euc.step {n : Nat} {S ahead left fa f a r f' : List UInt8} (h : Euc n S ahead left fa f) (hq : IsQuo ahead left a r) (hl : n - n / 2 < pl left) (hf : Eqv f' (addL fa (mulL a f))) : Euc n S left r f f' := by
  have hr : pl r < pl left := hq.2
  have h1 := h.less
  have h2 := h.deg
  have h3 := h.degA
  -- what is left is what is ahead, and so often what was left
  have er : Eqv r (addL ahead (mulL a left)) := fun k => by
    have := hq.1 k
    rw [co_add] at this
    rw [co_add, ← this, add_comm (co (mulL a left) k), add_assoc, add_self, add_zero]
  have ea : pl a + pl left ≤ pl ahead + 1 := by
    by_cases h0 : pl a = 0
    · omega
    · have e1 : pl (mulL a left) = pl a + pl left - 1 := pl_mul_eq a left (by omega) (by omega)
      have e2 : Eqv (mulL a left) (addL ahead r) := fun k => by
        have := hq.1 k
        rw [co_add] at this
        rw [co_add, ← this, add_assoc, add_self, add_zero]
      have e3 := pl_add ahead r
      rw [pl_congr e2] at e1
      omega
  constructor
  · refine Low.trans ((mul_congr hf (Eqv.refl S)).low n) (Low.trans ((mulL_add_left fa (mulL a f) S).low n) (Low.trans ?_ (er.symm.low n)))
    refine h.keyA.add (Low.trans ((mulL_assoc a f S).low n) (h.key.mul a))
  · exact h.key
  · -- the determinant
    intro k
    have e1 : co (mulL f' left) k = addB (co (mulL fa left) k) (co (mulL (mulL a f) left) k) := by
      rw [mul_congr hf (Eqv.refl left) k, mulL_add_left fa (mulL a f) left k, co_add]
    have e2 : co (mulL f r) k = addB (co (mulL f ahead) k) (co (mulL f (mulL a left)) k) := by
      rw [mul_congr (Eqv.refl f) er k, mulL_add_right f ahead (mulL a left) k, co_add]
    have e3 : co (mulL f (mulL a left)) k = co (mulL (mulL a f) left) k := by
      rw [← mulL_assoc f a left k]
      exact mul_congr (mulL_comm f a) (Eqv.refl left) k
    have e4 := h.det k
    rw [co_add] at e4
    rw [co_add, e1, e2, e3, ← e4]
    generalize co (mulL (mulL a f) left) k = u
    generalize co (mulL f ahead) k = x
    generalize co (mulL fa left) k = y
    rw [add_comm x u, ← add_assoc, add_assoc y u u, add_self, add_zero, add_comm]
  · have e1 : pl f' ≤ max (pl fa) (pl a + pl f - 1) := by
      rw [pl_congr hf]
      exact Nat.le_trans (pl_add _ _) (by have := pl_mul a f; omega)
    omega
  · omega
  · exact hr
  · exact hl
/-- There is always more to it than nothing. -/
theorem Euc.notzero {n : Nat} {S ahead left fa f : List UInt8} (h : Euc n S ahead left fa f) (r : UInt8) (hr : r ≠ 0) (h1 : evalL f r = 0) (h2 : evalL left r = 0) : False := by
  have e := eval_congr h.det r
  rw [eval_add, eval_mul, eval_mul, h1, h2, zero_mul, mul_zero, add_zero, xN_eval] at e
  exact pow_ne r hr n e.symm

/-! ### The finder of some places, and what their values are -/
def sigL : List (UInt8 × UInt8) → List UInt8
  | [] => [1]
  | (_, x) :: t => mulL [1, x] (sigL t)
def omL : List (UInt8 × UInt8) → List UInt8
  | [] => []
  | (e, x) :: t => addL (scaleL (mulB e x) (sigL t)) (mulL [1, x] (omL t))
def sumsL (E : List (UInt8 × UInt8)) (n : Nat) : List UInt8 := (List.range n).map fun i => sumV E (i + 1)
theorem co_range (f : Nat → UInt8) (n k : Nat) (h : k < n) : co ((List.range n).map f) k = f k := by
  rw [co_lt _ k (by simpa using h)]
  simp
theorem co_lin (x : UInt8) (p : List UInt8) (k : Nat) : co (mulL [1, x] p) k = addB (co p k) (if k = 0 then 0 else mulB x (co p (k - 1))) := by
  have e : Eqv (mulL [1, x] p) (addL p (0 :: scaleL x p)) := fun j => by
    rw [mulL, co_add, co_add, co_scale, one_mul]
    congr 1
    cases j with
    | zero => rfl
    | succ j =>
      rw [co_succ, co_succ, mulL_comm [x] p j, mulL_one_right x p j]
  rw [e k, co_add]
  cases k with
  | zero => rfl
  | succ k => rw [co_succ, co_scale, if_neg (by omega), Nat.add_sub_cancel]
theorem sig_pl : ∀ E : List (UInt8 × UInt8), pl (sigL E) ≤ E.length + 1
  | [] => by show (plainL [1]).length ≤ 1; decide
  | (e, x) :: t => by
    have h1 := sig_pl t
    have h2 := pl_mul [1, x] (sigL t)
    have h3 := pl_len [1, x]
    simp only [List.length_cons, List.length_nil] at h3 ⊢
    show pl (mulL [1, x] (sigL t)) ≤ _
    omega
theorem om_pl : ∀ E : List (UInt8 × UInt8), pl (omL E) ≤ E.length
  | [] => Nat.le_refl 0
  | (e, x) :: t => by
    have h1 := om_pl t
    have h2 := pl_mul [1, x] (omL t)
    have h3 := pl_len [1, x]
    have h4 := sig_pl t
    have h5 := pl_add (scaleL (mulB e x) (sigL t)) (mulL [1, x] (omL t))
    have h6 : pl (scaleL (mulB e x) (sigL t)) ≤ pl (sigL t) := (pl_le_iff _ _).2 fun k hk => by rw [co_scale, (pl_le_iff _ _).1 (Nat.le_refl _) k hk, mul_zero]
    simp only [List.length_cons, List.length_nil] at h3 ⊢
    show pl (addL (scaleL (mulB e x) (sigL t)) (mulL [1, x] (omL t))) ≤ _
    omega
/-- The finder times the signs is the values' polynomial, below as many powers as there are signs. -/
theorem key_eq (n : Nat) : ∀ E : List (UInt8 × UInt8), Low n (mulL (sigL E) (sumsL E n)) (omL E)
  | [] => fun k hk => by
    rw [sigL, mulL_comm [1] _ k, mulL_one_right 1 _ k, scale_one, omL, co_nil]
    unfold sumsL
    rw [co_range _ _ _ hk]
    rfl
  | (e, x) :: t => by
    have ih := key_eq n t
    -- the sums of one more
    have hs : Low n (sumsL ((e, x) :: t) n) (addL (scaleL e ((List.range n).map fun i => powB x (i + 1))) (sumsL t n)) := fun k hk => by
      unfold sumsL
      rw [co_range _ _ _ hk, co_add, co_scale, co_range _ _ _ hk, co_range _ _ _ hk]
      rfl
    have hg : Low n (mulL [1, x] (scaleL e ((List.range n).map fun i => powB x (i + 1)))) [mulB e x] := fun k hk => by
      rw [co_lin, co_scale, co_range _ _ _ hk]
      cases k with
      | zero =>
        rw [if_pos rfl, add_zero, co_zero]
        show mulB e (mulB 1 x) = _
        rw [one_mul]
      | succ k =>
        rw [if_neg (by omega), Nat.add_sub_cancel, co_scale, co_range _ _ _ (by omega), co_succ, co_nil]
        have e1 : mulB x (mulB e (powB x (k + 1))) = mulB e (powB x (k + 1 + 1)) := by
          rw [pow_succ' x (k + 1), ← mul_assoc, mul_comm x e, mul_assoc, mul_comm x]
        rw [e1, add_self]
    show Low n (mulL (mulL [1, x] (sigL t)) _) (addL (scaleL (mulB e x) (sigL t)) (mulL [1, x] (omL t)))
    refine Low.trans ((hs.mul _)) (Low.trans ((mulL_add_right _ _ _).low n) (Low.add ?_ ?_))
    · -- [1, x] * sigma * G
      refine Low.trans ((mul_congr (mulL_comm [1, x] (sigL t)) (Eqv.refl _)).low n) (Low.trans ((mulL_assoc _ _ _).low n) (Low.trans (hg.mul _) ?_))
      exact (mulL_one_right (mulB e x) (sigL t)).low n
    · exact Low.trans ((mulL_assoc _ _ _).low n) (ih.mul _)
/-- At a power whose inverse is no place the finder isn't 0; at a place it is, and the values' polynomial is as often its slope as the value there. -/
theorem sig_ne (r : UInt8) : ∀ E : List (UInt8 × UInt8), (∀ p ∈ E, mulB p.2 r ≠ 1) → evalL (sigL E) r ≠ 0
  | [], _ => by
    show addB 1 (mulB r 0) ≠ 0
    rw [mul_zero, add_zero]
    decide
  | (e, x) :: t, h => by
    show evalL (mulL [1, x] (sigL t)) r ≠ 0
    rw [eval_mul]
    refine mul_ne _ _ ?_ (sig_ne r t (fun p hp => h p (List.mem_cons_of_mem _ hp)))
    intro e0
    simp only [evalL, mul_zero, add_zero] at e0
    exact h (e, x) List.mem_cons_self (by rw [mul_comm, ← add_zero_eq e0])
theorem lin_eval (x r : UInt8) : evalL [1, x] r = addB 1 (mulB r x) := by simp only [evalL, mul_zero, add_zero]
theorem lin_slope (x r : UInt8) : evalL (slopeL [1, x]) r = x := by
  have e : Eqv (slopeL [1, x]) [x] := fun k => by
    rw [co_slope]
    cases k with
    | zero => rfl
    | succ k =>
      rw [co_succ, co_succ, co_nil]
      split <;> rfl
  rw [eval_congr e]
  simp only [evalL, mul_zero, add_zero]
theorem at_place (Y X r : UInt8) (hX : X ≠ 0) (hr : mulB X r = 1) : ∀ E : List (UInt8 × UInt8), (E.map Prod.snd).Nodup → (Y, X) ∈ E →
    evalL (sigL E) r = 0 ∧ evalL (omL E) r = mulB Y (evalL (slopeL (sigL E)) r) ∧ evalL (slopeL (sigL E)) r ≠ 0
  | [], _, h => by cases h
  | (e, x) :: t, hd, hm => by
    rw [List.map_cons, List.nodup_cons] at hd
    have hsl : evalL (slopeL (sigL ((e, x) :: t))) r = addB (mulB x (evalL (sigL t) r)) (mulB (addB 1 (mulB r x)) (evalL (slopeL (sigL t)) r)) := by
      show evalL (slopeL (mulL [1, x] (sigL t))) r = _
      rw [eval_congr (slope_mul [1, x] (sigL t)) r, eval_add, eval_mul, eval_mul, lin_slope, lin_eval]
    have hom : evalL (omL ((e, x) :: t)) r = addB (mulB (mulB e x) (evalL (sigL t) r)) (mulB (addB 1 (mulB r x)) (evalL (omL t) r)) := by
      show evalL (addL (scaleL (mulB e x) (sigL t)) (mulL [1, x] (omL t))) r = _
      rw [eval_add, eval_scale, eval_mul, lin_eval]
    have hsg : evalL (sigL ((e, x) :: t)) r = mulB (addB 1 (mulB r x)) (evalL (sigL t) r) := by
      show evalL (mulL [1, x] (sigL t)) r = _
      rw [eval_mul, lin_eval]
    rcases List.mem_cons.1 hm with h | h
    · obtain ⟨rfl, rfl⟩ : Y = e ∧ X = x := by simpa using h
      have e0 : addB 1 (mulB r X) = 0 := by rw [mul_comm r X, hr, add_self]
      have hne : evalL (sigL t) r ≠ 0 := sig_ne r t (fun p hp e1 => hd.1 (List.mem_map.2 ⟨p, hp, by
        have : mulB r p.2 = mulB r X := by rw [mul_comm r, mul_comm r, e1, hr]
        refine mul_cancel r _ _ (fun h0 => ?_) this
        rw [h0, mul_zero] at hr
        exact absurd hr (by decide)⟩))
      rw [hsl, hom, hsg, e0, zero_mul, zero_mul, zero_mul, add_zero, add_zero]
      exact ⟨rfl, mul_assoc _ _ _, mul_ne _ _ hX hne⟩
    · obtain ⟨h1, h2, h3⟩ := at_place Y X r hX hr t hd.2 h
      have hne : addB 1 (mulB r x) ≠ 0 := fun e0 => by
        have e1 := add_zero_eq e0
        have : mulB r x = mulB r X := by rw [← e1, mul_comm r X, hr]
        have ex : x = X := mul_cancel r _ _ (fun h0 => by rw [h0, mul_zero] at hr; exact absurd hr (by decide)) this
        exact hd.1 (List.mem_map.2 ⟨(Y, X), h, ex.symm⟩)
      rw [hsl, hom, hsg, h1, h2, mul_zero, mul_zero, mul_zero, zero_add, zero_add]
      refine ⟨rfl, ?_, mul_ne _ _ hne h3⟩
      rw [← mul_assoc, ← mul_assoc, mul_comm Y]

/-! ### What a place is amiss by -/
/-- 2 to the power of so many less than nothing. -/
def rootB (p : Nat) : UInt8 := invB (powB 2 p)
theorem root_mul (p : Nat) : mulB (powB 2 p) (rootB p) = 1 := mul_inv _ (exp_ne p)
theorem root_ne (p : Nat) : rootB p ≠ 0 := inv_ne _ (exp_ne p)
theorem root_inj {i j : Nat} (hi : i < 255) (hj : j < 255) (h : rootB i = rootB j) : i = j := by
  refine powB_inj hi hj ?_
  refine mul_cancel (rootB i) _ _ (root_ne i) ?_
  rw [mul_comm, root_mul, h, mul_comm, root_mul]
def amB (f left : List UInt8) (p : Nat) : UInt8 :=
  if evalL f (rootB p) = 0 then (if evalL (slopeL f) (rootB p) = 0 then 0 else mulB (evalL left (rootB p)) (invB (evalL (slopeL f) (rootB p)))) else 0
/-- The bytes' own, the first one that of the greatest power. -/
def amL (f left : List UInt8) (len : Nat) : List UInt8 := (List.range len).map fun k => amB f left (len - 1 - k)
theorem am_length (f left : List UInt8) (len : Nat) : (amL f left len).length = len := by simp [amL]
theorem co_am (f left : List UInt8) (len k : Nat) (h : k < len) : co (amL f left len) k = amB f left (len - 1 - k) := co_range _ _ _ h
theorem wt_range (g : Nat → UInt8) (n : Nat) : wtL ((List.range n).map g) = ((List.range n).filter fun k => g k != 0).length := by
  unfold wtL
  rw [List.filter_map, List.length_map]
  rfl
theorem am_few (f left : List UInt8) (len d : Nat) (hl : len ≤ 255) (hf : pl f ≤ d + 1) : wtL (amL f left len) ≤ d := by
  refine Nat.le_of_not_lt fun h => ?_
  unfold amL at h
  rw [wt_range] at h
  have hz : ∀ k ∈ ((List.range len).filter fun k => amB f left (len - 1 - k) != 0).map (fun k => rootB (len - 1 - k)), evalL f k = 0 := fun x hx => by
    obtain ⟨k, hk, rfl⟩ := List.mem_map.1 hx
    have := (List.mem_filter.1 hk).2
    unfold amB at this
    by_cases h0 : evalL f (rootB (len - 1 - k)) = 0
    · exact h0
    · rw [if_neg h0] at this
      simp at this
  have hnd : (((List.range len).filter fun k => amB f left (len - 1 - k) != 0).map (fun k => rootB (len - 1 - k))).Nodup := by
    refine nodup_map_on (List.filter_sublist.nodup List.nodup_range) (fun x hx y hy e => ?_)
    have h1 := List.mem_range.1 (List.mem_filter.1 hx).1
    have h2 := List.mem_range.1 (List.mem_filter.1 hy).1
    have := root_inj (by omega) (by omega) e
    omega
  have e := roots_zero _ f hnd (by rw [List.length_map]; omega) hz
  have e2 : ∀ x, evalL (slopeL f) x = 0 := fun x => by
    rw [eval_congr (slope_congr e) x]
    rfl
  have e3 : ((List.range len).filter fun k => amB f left (len - 1 - k) != 0) = [] := List.filter_eq_nil_iff.2 fun k _ => by
    unfold amB
    rw [e2, if_pos rfl]
    split <;> simp
  rw [e3] at h
  simp at h

/-! ### Just what was spoilt -/
theorem co_val_pairs : ∀ (e : List UInt8) (k : Nat), k < e.length → (co e k, powB 2 (e.length - 1 - k)) ∈ pairsL e
  | [], k, h => by simp at h
  | c :: e, 0, _ => by
    rw [pairsL, co_zero, List.length_cons, Nat.sub_zero, Nat.add_sub_cancel]
    exact List.mem_cons_self
  | c :: e, k + 1, h => by
    have h' : k < e.length := by simpa using h
    rw [pairsL, co_succ, List.length_cons, show e.length + 1 - 1 - (k + 1) = e.length - 1 - k by omega]
    exact List.mem_cons_of_mem _ (co_val_pairs e k h')
theorem pairs_at : ∀ (e : List UInt8) (p : UInt8 × UInt8), p ∈ pairsL e → ∃ k, k < e.length ∧ p = (co e k, powB 2 (e.length - 1 - k))
  | [], p, h => by cases h
  | c :: e, p, h => by
    rw [pairsL] at h
    rcases List.mem_cons.1 h with rfl | h
    · exact ⟨0, by simp, by rw [co_zero, List.length_cons, Nat.sub_zero, Nat.add_sub_cancel]⟩
    · obtain ⟨k, hk, rfl⟩ := pairs_at e p h
      exact ⟨k + 1, by simpa using hk, by rw [co_succ, List.length_cons, show e.length + 1 - 1 - (k + 1) = e.length - 1 - k by omega]⟩
def errE (e : List UInt8) : List (UInt8 × UInt8) := (pairsL e).filter fun p => p.1 != 0
theorem signs_err (b a : List UInt8) (n : Nat) (hl : a.length = b.length) (hf : fineP a n) : signsL b n = sumsL (errE (List.zipWith addB b a)) n := by
  unfold signsL sumsL errE
  refine List.map_congr_left fun i hi => ?_
  have hi' := List.mem_range.1 hi
  rw [sumV_filter, ← val_pairs, val_xor _ _ _ hl.symm, hf (i + 1) (by omega) (by omega), add_zero]
/-- What is found is just what was spoilt. -/
theorem am_right {b a : List UInt8} {n : Nat} (h255 : b.length ≤ 255) (hn : Near b n a) {ahead left fa f : List UInt8} (h : Euc n (signsL b n) ahead left fa f) (hd : pl left ≤ n - n / 2) : amL f left b.length = List.zipWith addB b a := by
  obtain ⟨hl, hfine, hdif⟩ := hn
  have hel : (List.zipWith addB b a).length = b.length := by rw [List.length_zipWith]; omega
  have hS := signs_err b a n hl hfine
  have hw : (errE (List.zipWith addB b a)).length ≤ n / 2 := by
    have := pairs_wt (List.zipWith addB b a)
    unfold errE
    rw [this]
    exact hdif
  have hnd : ((errE (List.zipWith addB b a)).map Prod.snd).Nodup := (List.filter_sublist.map Prod.snd).nodup (locs_nodup _ (by omega))
  generalize hee : List.zipWith addB b a = e at hel hS hw hnd
  have hf := h.deg
  have hb := h.big
  have hE1 := sig_pl (errE e)
  have hE2 := om_pl (errE e)
  -- the two are alike, one against the other
  have cross : Eqv (mulL (sigL (errE e)) left) (mulL f (omL (errE e))) := fun k => by
    by_cases hk : k < n
    · have h1 : Low n (mulL (sigL (errE e)) left) (mulL (sigL (errE e)) (mulL f (signsL b n))) := (h.key.symm).mul _
      have h2 : Low n (mulL f (mulL (sigL (errE e)) (signsL b n))) (mulL f (omL (errE e))) := by rw [hS]; exact (key_eq n (errE e)).mul f
      rw [h1 k hk, ← h2 k hk, ← mulL_assoc _ _ _ k, ← mulL_assoc _ _ _ k]
      exact mul_congr (mulL_comm _ _) (Eqv.refl _) k
    · have h1 := pl_mul (sigL (errE e)) left
      have h2 := pl_mul f (omL (errE e))
      rw [(pl_le_iff _ (pl (mulL (sigL (errE e)) left))).1 (Nat.le_refl _) k (by omega), (pl_le_iff _ (pl (mulL f (omL (errE e))))).1 (Nat.le_refl _) k (by omega)]
  have ev : ∀ r, mulB (evalL (sigL (errE e)) r) (evalL left r) = mulB (evalL f r) (evalL (omL (errE e)) r) := fun r => by
    rw [← eval_mul, ← eval_mul]
    exact eval_congr cross r
  have es : ∀ r, addB (mulB (evalL (slopeL (sigL (errE e))) r) (evalL left r)) (mulB (evalL (sigL (errE e)) r) (evalL (slopeL left) r)) = addB (mulB (evalL (slopeL f) r) (evalL (omL (errE e)) r)) (mulB (evalL f r) (evalL (slopeL (omL (errE e))) r)) := fun r => by
    rw [← eval_mul, ← eval_mul, ← eval_mul, ← eval_mul, ← eval_add, ← eval_add, ← eval_congr (slope_mul _ _) r, ← eval_congr (slope_mul _ _) r]
    exact eval_congr (slope_congr cross) r
  refine co_ext (by rw [am_length, hel]) (fun k hk => ?_)
  rw [am_length] at hk
  rw [co_am _ _ _ _ hk]
  have hke : k < e.length := by omega
  obtain ⟨p, hp⟩ : ∃ p, p = b.length - 1 - k := ⟨_, rfl⟩
  rw [← hp]
  have hr := root_ne p
  have hm := root_mul p
  by_cases hc : co e k = 0
  · rw [hc]
    have hsig : evalL (sigL (errE e)) (rootB p) ≠ 0 := by
      refine sig_ne _ _ (fun q hq e1 => ?_)
      obtain ⟨hq1, hq2⟩ := List.mem_filter.1 hq
      obtain ⟨j, hj, rfl⟩ := pairs_at e q hq1
      have e2 : powB 2 (e.length - 1 - j) = powB 2 p := mul_cancel (rootB p) _ _ hr (by rw [mul_comm, e1, mul_comm, hm])
      have := powB_inj (by omega) (by omega) e2
      have ej : j = k := by omega
      rw [ej] at hq2
      simp [hc] at hq2
    unfold amB
    by_cases h0 : evalL f (rootB p) = 0
    · have := ev (rootB p)
      rw [h0, zero_mul] at this
      rcases (mul_eq_zero _ _).1 this with g | g
      · exact absurd g hsig
      · exact absurd (h.notzero _ hr h0 g) id
    · rw [if_neg h0]
  · have hmem : (co e k, powB 2 p) ∈ errE e := by
      refine List.mem_filter.2 ⟨?_, by simpa using hc⟩
      have := co_val_pairs e k hke
      rwa [show e.length - 1 - k = p by omega] at this
    obtain ⟨s1, s2, s3⟩ := at_place _ _ _ (exp_ne p) hm (errE e) hnd hmem
    have hv := ev (rootB p)
    rw [s1, zero_mul, s2] at hv
    have hf0 : evalL f (rootB p) = 0 := by
      rcases (mul_eq_zero _ _).1 hv.symm with g | g
      · exact g
      · exact absurd g (mul_ne _ _ hc s3)
    have hs := es (rootB p)
    rw [s1, hf0, zero_mul, zero_mul, add_zero, add_zero, s2] at hs
    have hleft : evalL left (rootB p) = mulB (co e k) (evalL (slopeL f) (rootB p)) := by
      refine mul_cancel (evalL (slopeL (sigL (errE e))) (rootB p)) _ _ s3 ?_
      rw [hs, ← mul_assoc, mul_comm (evalL (slopeL f) (rootB p)) (co e k), mul_comm (evalL (slopeL (sigL (errE e))) (rootB p)) (mulB _ _)]
    have hsf : evalL (slopeL f) (rootB p) ≠ 0 := fun h0 => h.notzero _ hr hf0 (by rw [hleft, h0, mul_zero])
    unfold amB
    rw [if_pos hf0, if_neg hsf, hleft, mul_assoc, mul_inv _ hsf, mul_one]
/-- What any finder on the way mends. -/
theorem mended_right {b : List UInt8} {n : Nat} (h255 : b.length ≤ 255) {ahead left fa f : List UInt8} (h : Euc n (signsL b n) ahead left fa f) (hd : pl left ≤ n - n / 2) :
    ∃ m, m = List.zipWith addB b (amL f left b.length) ∧ m.length = b.length ∧ difL b m = wtL (amL f left b.length) ∧ (fineP m n → Near b n m) ∧ (∀ a, Near b n a → a = m) := by
  have hal := am_length f left b.length
  have hx : ∀ (x y : List UInt8), x.length = y.length → List.zipWith addB x (List.zipWith addB x y) = y := by
    intro x
    induction x with
    | nil =>
      intro y hy
      have : y = [] := List.eq_nil_of_length_eq_zero (by simpa using hy.symm)
      rw [this]
      rfl
    | cons c x ih =>
      intro y hy
      match y, hy with
      | d :: y, hy =>
        rw [List.zipWith_cons_cons, List.zipWith_cons_cons, ih y (by simpa using hy), ← add_assoc, add_self, zero_add]
  have hdif : difL b (List.zipWith addB b (amL f left b.length)) = wtL (amL f left b.length) := by
    unfold difL
    rw [hx _ _ hal.symm]
  have hlen : (List.zipWith addB b (amL f left b.length)).length = b.length := by rw [List.length_zipWith, hal]; omega
  have hf := h.deg
  have hb := h.big
  refine ⟨_, rfl, hlen, hdif, fun hfine => ⟨hlen, hfine, ?_⟩, fun a ha => ?_⟩
  · rw [hdif]
    exact am_few f left b.length (n / 2) h255 (by omega)
  · rw [am_right h255 ha h hd, hx b a ha.1.symm]

/-! ### The answer -/
open Classical in
noncomputable def mendS (b : List UInt8) (n : Int) : List UInt8 × Nat × Int :=
  if errS b.length n = 0 then (if h : ∃ a, Near b n.toNat a then (h.choose, difL b h.choose, 0) else ([], 0, 6)) else ([], 0, errS b.length n)
theorem mendS_bad {b : List UInt8} {n : Int} (h : errS b.length n ≠ 0) : mendS b n = ([], 0, errS b.length n) := by
  unfold mendS
  rw [if_neg h]
theorem mendS_near {b a : List UInt8} {n : Nat} (h : errS b.length n = 0) (hl : b.length ≤ 255) (ha : Near b n a) : mendS b n = (a, difL b a, 0) := by
  unfold mendS
  have he : ∃ a, Near b ((n : Int)).toNat a := ⟨a, by rw [Int.toNat_natCast]; exact ha⟩
  rw [if_pos h, dif_pos he]
  have hc : Near b n he.choose := he.choose_spec
  rw [near_unique hl hc ha]
theorem mendS_many {b : List UInt8} {n : Nat} (h : errS b.length n = 0) (ha : ∀ a, ¬ Near b n a) : mendS b n = ([], 0, 6) := by
  unfold mendS
  rw [if_pos h, dif_neg (fun ⟨a, h2⟩ => ha a (by rw [Int.toNat_natCast] at h2; exact h2))]
theorem wt_take (l : List UInt8) (j : Nat) (h : j < l.length) : wtL (l.take (j + 1)) = wtL (l.take j) + (if co l j = 0 then 0 else 1) := by
  have e : l.take (j + 1) = l.take j ++ [co l j] := by
    rw [co_lt l j h, List.take_append_getElem h]
  rw [e, wt_append]
  congr 1
  rw [wt_cons]
  show _ + 0 = _
  rw [Nat.add_zero]
end Go.Proofs.YteppocjgodmpdaaDoor
/-
  What the reference's calls Gen, Turned, Error, Signs and Fine of layer 9 answer. No conditions but those typed.
-/
namespace Go.Proofs.YteppocjgodmpdaaDoor
set_option maxRecDepth 100000
open Go.RowKit
set_option linter.unusedSimpArgs false
set_option linter.unusedVariables false

/-! ### Gen -/
def GenRel (n : Nat) (w : World) (g i : Value) (wr : World) : Prop :=
  ∃ (j : Nat) (A : Option Addr) (k c : Nat), j ≤ n ∧ i = .int .i64 ((j : Int) + 1) ∧ g = .slice A k c ∧ Hid ((genL j).length = k) ∧ k ≤ c ∧ Rd vB wr A (genL j) ∧ Below w.heap.size w wr
/-! ### Turned -/
def TurRel (b : List UInt8) (w : World) (v i : Value) (wr : World) : Prop :=
  ∃ k : Nat, k ≤ b.length ∧ i = .int .i64 ((b.length : Int) - 1 - (k : Int)) ∧ wr.ownsRow w.heap.size 5 1 v k ((b.reverse.take k).map vB) ∧ Below w.heap.size w wr
theorem rev_take (b : List UInt8) (k : Nat) (h : k < b.length) : b.reverse.take (k + 1) = b.reverse.take k ++ [b[b.length - 1 - k]'(by omega)] := by
  rw [List.take_succ_eq_append_getElem (by rw [List.length_reverse]; exact h), List.getElem_reverse]
/-! ### Error -/
end Go.Proofs.YteppocjgodmpdaaDoor
/-
  What the reference's calls Signs and Fine of layer 9 answer. No conditions but those typed.
-/
namespace Go.Proofs.YteppocjgodmpdaaDoor
set_option maxRecDepth 100000
open Go.RowKit
set_option linter.unusedSimpArgs false
set_option linter.unusedVariables false

def sigF (b : List UInt8) (i : Nat) : UInt8 := valB b (powB 2 (i + 1))
theorem range_snoc {α : Type} (f : Nat → α) (n : Nat) : (List.range (n + 1)).map f = (List.range n).map f ++ [f n] := by rw [List.range_succ, List.map_append]; rfl
theorem tab_range (f : Nat → UInt8) : ∀ n, tabL f n = (List.range n).map f
  | 0 => rfl
  | n + 1 => by rw [tabL, tab_range f n, range_snoc]
theorem signs_tab (b : List UInt8) (n : Nat) : tabL (sigF b) n = signsL b n := tab_range _ n

/-! ### Fine -/
theorem all_false_at (l : List UInt8) (k : Nat) (h : k < l.length) (hx : l[k] ≠ 0) : l.all (· == 0) = false := by
  rw [List.all_eq_false]
  exact ⟨l[k], List.getElem_mem h, by simpa using hx⟩
theorem all_true_of (l : List UInt8) (h : ∀ i (hi : i < l.length), l[i] = 0) : l.all (· == 0) = true := by
  rw [List.all_eq_true]
  intro x hx
  obtain ⟨i, hi, e⟩ := List.getElem_of_mem hx
  rw [← e, h i hi]
  rfl
def FinRel (l : List UInt8) (i : Value) : Prop := ∃ j : Nat, j ≤ l.length ∧ i = .int .i64 (j : Int) ∧ ∀ q (hq : q < l.length), q < j → l[q] = 0
theorem errS_cases (n : Nat) (k : Int) : errS n k = 0 → ∃ m : Nat, k = (m : Int) ∧ 1 ≤ m ∧ m ≤ 64 ∧ m ≤ n ∧ n ≤ 255 := by
  unfold errS
  intro h
  split at h
  · omega
  · split at h
    · omega
    · split at h
      · omega
      · exact ⟨k.toNat, by omega, by omega, by omega, by omega, by omega⟩
end Go.Proofs.YteppocjgodmpdaaDoor
/-
  Layer 13 as plain functions: a payload's barcode, what any bytes are read as; spoilt, and read back. No conditions but those typed.
-/
namespace Go.Proofs.YteppocjgodmpdaaDoor
set_option maxRecDepth 100000
set_option linter.unusedVariables false
set_option linter.unusedSimpArgs false

/-- What is ahead of the checks. -/
def dataL (m : List UInt8) : List UInt8 := m.take (m.length - 10)
/-- A payload's barcode. -/
def barL (t e c : Nat) (tag : List UInt8) : List UInt8 := putS (putSt (writeF t e c tag)) 10
/-- What stuffed bytes with their mended places are read as. -/
def gotL (d : List UInt8) (n : Nat) : (Int × Nat × Nat × Nat × List UInt8) × Nat × Int :=
  if putSt (candL d) = d then (if (readF (candL d)).1 = 0 then (readF (candL d), n, 0) else (readF (candL d), 0, 3)) else ((3, 0, 0, 0, []), 0, 2)
/-- What bytes are read as: the code and the payload, in how many places they were mended, and the step. -/
noncomputable def barsL (b : List UInt8) : (Int × Nat × Nat × Nat × List UInt8) × Nat × Int :=
  if (mendS b 10).2.2 = 0 then gotL (dataL (mendS b 10).1) (mendS b 10).2.1 else (((mendS b 10).2.2, 0, 0, 0, []), 0, 1)

/-! ### Codes -/
theorem errS_pos (len : Nat) (n : Int) : 0 ≤ errS len n ∧ errS len n ≤ 4 := by
  unfold errS
  split
  · omega
  · split
    · omega
    · split <;> omega
theorem mendS_code (b : List UInt8) (n : Int) : 0 ≤ (mendS b n).2.2 ∧ (mendS b n).2.2 ≤ 6 := by
  have h := errS_pos b.length n
  unfold mendS
  split
  · split
    · constructor <;> simp
    · constructor <;> simp
  · dsimp only
    omega
theorem readN_code (b : List UInt8) : 0 ≤ (readN b).1 ∧ (readN b).1 ≤ 4 := by
  cases b with
  | nil => exact ⟨by decide, by decide⟩
  | cons n r =>
    rw [readN_cons]
    split
    · constructor <;> simp
    · split
      · constructor <;> simp
      · split
        · constructor <;> simp
        · constructor <;> simp
theorem readF_code (b : List UInt8) : 0 ≤ (readF b).1 ∧ (readF b).1 ≤ 4 := by
  cases b with
  | nil => exact ⟨by decide, by decide⟩
  | cons x r =>
    rw [readF_cons]
    split
    · constructor <;> simp
    · unfold readB
      split
      · unfold readE
        split
        · unfold readC
          split
          · unfold readT
            split
            · constructor <;> simp
            · split
              · constructor <;> simp
              · constructor <;> simp
          · exact readN_code _
        · exact readN_code _
      · exact readN_code _
theorem readF_bad (b : List UInt8) (h : (readF b).1 ≠ 0) : readF b = ((readF b).1, 0, 0, 0, []) := by
  cases b with
  | nil => rfl
  | cons x r =>
    rw [readF_cons] at h ⊢
    split
    · rfl
    · rename_i hx
      rw [if_neg hx] at h
      unfold readB at h ⊢
      split
      · rename_i h1
        rw [if_pos h1] at h
        unfold readE at h ⊢
        split
        · rename_i h2
          rw [if_pos h2] at h
          unfold readC at h ⊢
          split
          · rename_i h3
            rw [if_pos h3] at h
            unfold readT at h ⊢
            split
            · rfl
            · rename_i h4
              rw [if_neg h4] at h
              split
              · rfl
              · rename_i h5
                rw [if_neg h5] at h
                exact absurd rfl h
          · rfl
        · rfl
      · rfl

/-! ### Barcodes -/
section
variable {t e c : Nat} {tag : List UInt8}
theorem stuffed_length (h8 : tag.length = 8) : 12 ≤ (putSt (writeF t e c tag)).length ∧ (putSt (writeF t e c tag)).length ≤ 42 := by
  have h1 := write_length t e c tag h8
  have h2 := put_length (writeF t e c tag)
  omega
theorem bar_length (h8 : tag.length = 8) : 22 ≤ (barL t e c tag).length ∧ (barL t e c tag).length ≤ 52 := by
  have := stuffed_length (t := t) (e := e) (c := c) h8
  unfold barL
  rw [putS_length _ _ (by decide)]
  omega
theorem bar_fine : fineP (barL t e c tag) 10 := putS_fine _ _ (by decide)
theorem bar_data : dataL (barL t e c tag) = putSt (writeF t e c tag) := by
  have h := putS_length (putSt (writeF t e c tag)) 10 (by decide)
  unfold dataL barL
  rw [h, Nat.add_sub_cancel]
  unfold putS
  rw [List.take_left]
variable (ht : t < 18446744073709551616) (he : e < 18446744073709551616) (hc : c < 18446744073709551616)
include ht he hc
theorem got_bar (h8 : tag.length = 8) (n : Nat) : gotL (putSt (writeF t e c tag)) n = ((0, t, e, c, tag), n, 0) := by
  unfold gotL
  rw [cand_put, if_pos rfl, read_write ht he hc h8, if_pos rfl]
/-- Spoilt in a few places, it is read as it was. -/
theorem bars_near (h8 : tag.length = 8) (x : List UInt8) (hx : x.length = (barL t e c tag).length) (hd : difL x (barL t e c tag) ≤ 5) : barsL x = ((0, t, e, c, tag), difL x (barL t e c tag), 0) := by
  have hl := bar_length (t := t) (e := e) (c := c) h8
  have h0 : errS x.length ((10 : Nat) : Int) = 0 := by
    unfold errS
    rw [if_neg (by omega), if_neg (by omega), if_neg (by omega)]
  have hm := mendS_near h0 (by omega) (⟨hx.symm, bar_fine, by omega⟩ : Near x 10 (barL t e c tag))
  have hm' : mendS x 10 = (barL t e c tag, difL x (barL t e c tag), 0) := hm
  unfold barsL
  rw [hm', if_pos rfl]
  dsimp only
  rw [bar_data, got_bar ht he hc h8]
end
theorem bar_inj {t e c t' e' c' : Nat} {tag tag' : List UInt8} (ht : t < 18446744073709551616) (he : e < 18446744073709551616) (hc : c < 18446744073709551616) (ht' : t' < 18446744073709551616) (he' : e' < 18446744073709551616) (hc' : c' < 18446744073709551616) (h8 : tag.length = 8) (h8' : tag'.length = 8) :
    barL t e c tag = barL t' e' c' tag' ↔ t = t' ∧ e = e' ∧ c = c' ∧ tag = tag' := by
  constructor
  · intro h
    have h1 := congrArg dataL h
    rw [bar_data, bar_data] at h1
    exact (write_inj ht he hc ht' he' hc' h8 h8').1 (put_inj h1)
  · rintro ⟨rfl, rfl, rfl, rfl⟩
    rfl
/-- What bytes are read as: a payload, whose barcode they are near to; or a fault. -/
theorem bars_cases (b : List UInt8) :
    (∃ t e c tag n, barsL b = ((0, t, e, c, tag), n, 0) ∧ tag.length = 8 ∧ t < 18446744073709551616 ∧ e < 18446744073709551616 ∧ c < 18446744073709551616 ∧ (barL t e c tag).length = b.length ∧ difL b (barL t e c tag) = n ∧ n ≤ 5) ∨
    ∃ k s : Int, barsL b = ((k, 0, 0, 0, []), 0, s) ∧ 0 < k ∧ k ≤ 6 ∧ 1 ≤ s ∧ s ≤ 3 := by
  by_cases h0 : (mendS b 10).2.2 = 0
  · have he : errS b.length 10 = 0 := by
      refine Classical.byContradiction fun h => ?_
      rw [mendS_bad h] at h0
      exact h h0
    obtain ⟨m, e1, h1, h2, h3, h4⟩ := errS_cases b.length 10 he
    obtain rfl : m = 10 := by omega
    by_cases ha : ∃ a, Near b 10 a
    · obtain ⟨a, ha⟩ := ha
      have hm := mendS_near (n := 10) he h4 ha
      have hm' : mendS b 10 = (a, difL b a, 0) := hm
      have hb : barsL b = gotL (dataL a) (difL b a) := by
        unfold barsL
        rw [hm', if_pos rfl]
      rw [hb]
      unfold gotL
      by_cases hp : putSt (candL (dataL a)) = dataL a
      · rw [if_pos hp]
        by_cases hf : (readF (candL (dataL a))).1 = 0
        · rw [if_pos hf]
          left
          obtain ⟨k, t, e, c, tag, hF⟩ : ∃ k t e c tag, readF (candL (dataL a)) = (k, t, e, c, tag) := ⟨_, _, _, _, _, rfl⟩
          rw [hF] at hf
          have hk : k = 0 := hf
          subst hk
          obtain ⟨hw, h8, ht, he', hc⟩ := read_good _ t e c tag hF
          have hbar : barL t e c tag = a := by
            unfold barL
            rw [← hw, hp]
            have hs : a = dataL a ++ a.drop (a.length - 10) := by unfold dataL; rw [List.take_append_drop]
            have hal := ha.1
            have hdl : (dataL a).length = a.length - 10 := by unfold dataL; rw [List.length_take]; omega
            have := putS_only (dataL a) (a.drop (a.length - 10)) 10 (by decide) (by rw [List.length_drop]; omega) (by omega) (by rw [← hs]; exact ha.2.1)
            rw [← this, ← hs]
          refine ⟨t, e, c, tag, difL b a, by rw [hF], h8, ht, he', hc, by rw [hbar]; exact ha.1, by rw [hbar], ?_⟩
          have := ha.2.2
          omega
        · rw [if_neg hf, readF_bad _ hf]
          have := readF_code (candL (dataL a))
          exact .inr ⟨_, _, rfl, by omega, by omega, by decide, by decide⟩
      · rw [if_neg hp]
        exact .inr ⟨_, _, rfl, by decide, by decide, by decide, by decide⟩
    · have hm := mendS_many (n := 10) he (fun a h => ha ⟨a, h⟩)
      have hm' : mendS b 10 = ([], 0, 6) := hm
      rw [hm'] at h0
      exact absurd h0 (by decide)
  · have := mendS_code b 10
    unfold barsL
    rw [if_neg h0]
    exact .inr ⟨_, _, rfl, by omega, by omega, by decide, by decide⟩
/-- What is mended has its checks. -/
theorem mend_length (b : List UInt8) (h : (mendS b 10).2.2 = 0) : 10 ≤ (mendS b 10).1.length ∧ (mendS b 10).1.length = b.length ∧ b.length ≤ 255 := by
  have he : errS b.length 10 = 0 := by
    refine Classical.byContradiction fun h' => ?_
    rw [mendS_bad h'] at h
    exact h' h
  obtain ⟨m, e1, h1, h2, h3, h4⟩ := errS_cases b.length 10 he
  obtain rfl : m = 10 := by omega
  by_cases ha : ∃ a, Near b 10 a
  · obtain ⟨a, ha⟩ := ha
    have hm := mendS_near (n := 10) he h4 ha
    have hm' : mendS b 10 = (a, difL b a, 0) := hm
    rw [hm']
    have := ha.1
    exact ⟨by show 10 ≤ a.length; omega, ha.1, h4⟩
  · have hm := mendS_many (n := 10) he (fun a h => ha ⟨a, h⟩)
    have hm' : mendS b 10 = ([], 0, 6) := hm
    rw [hm'] at h
    exact absurd h (by decide)
end Go.Proofs.YteppocjgodmpdaaDoor
/-
  What the reference's calls Rot, Value, FromLeast, Put and Bytes answer: the same as the program's, for whatever is given.
-/
namespace Go.Proofs.YteppocjgodmpdaaDoor
set_option maxRecDepth 100000
open Go.RowKit

theorem wordsL_length (l : List UInt8) : 4 * (wordsL l).length ≤ l.length := by
  have := congrArg List.length (bytesL_wordsL l)
  rw [bytesL_length, List.length_take] at this
  omega
theorem rot_one (x : UInt32) : (rotR x 1).toNat = x.toNat / 2 + x.toNat % 2 * 2147483648 := by
  have hx := u32_lt x
  have e : (rotR x 1).toNat = (x.toBitVec >>> 1 ||| x.toBitVec <<< 31).toNat := by
    show (x.toBitVec.rotateRight 1).toNat = _
    rw [BitVec.rotateRight_def]
  rw [e, BitVec.toNat_or, BitVec.toNat_shiftLeft, BitVec.toNat_ushiftRight, Nat.shiftLeft_eq, Nat.shiftRight_eq_div_pow]
  show x.toNat / 2 ^ 1 ||| x.toNat * 2 ^ 31 % 2 ^ 32 = _
  have e2 : x.toNat * 2 ^ 31 % 2 ^ 32 = 2 ^ 31 * (x.toNat % 2) := by omega
  rw [e2, Nat.or_comm, ← Nat.two_pow_add_eq_or_of_lt (by omega)]
  omega
theorem rot_next (x : UInt32) (k : Nat) : rotR x (k + 1) = rotR (rotR x k) 1 := (rotR_rotR x k 1).symm
theorem rot_even (x y : UInt32) (h : x.toNat % 2 = 0) (e : y = rotR x 1) : y.toNat = x.toNat / 2 := by
  rw [e, rot_one]
  omega
theorem rot_odd (x y : UInt32) (h : x.toNat % 2 = 1) (e : y = rotR x 1) : y.toNat = x.toNat / 2 + 2147483648 := by
  rw [e, rot_one]
  omega

def RotRel (x : UInt32) (n : Nat) (u i : Value) : Prop := ∃ k : Nat, k ≤ n ∧ i = .int .i64 k ∧ u = .int .u32 ((rotR x k).toNat : Int)



theorem value_step (a c : Nat) : IntKind.u64.wrap (IntKind.u64.wrap (256 * ((a : Int) % 18446744073709551616)) + (c : Int)) = (((a * 256 + c) % 18446744073709551616 : Nat) : Int) := by
  rw [IntKind.wrap_u64, IntKind.wrap_u64]
  omega
def ValueRel (l : List UInt8) (v i : Value) : Prop := ∃ k : Nat, k ≤ l.length ∧ i = .int .i64 k ∧ v = .int .u64 ((valN (l.take k) % 18446744073709551616 : Nat) : Int)



theorem refput_cells (v : Nat) (hv : v < 18446744073709551616) :
    #[Value.int IntKind.u8 ((v : Int) / 256 / 256 / 256 / 256 / 256 / 256 / 256 % 256), Value.int IntKind.u8 ((v : Int) / 256 / 256 / 256 / 256 / 256 / 256 % 256), Value.int IntKind.u8 ((v : Int) / 256 / 256 / 256 / 256 / 256 % 256), Value.int IntKind.u8 ((v : Int) / 256 / 256 / 256 / 256 % 256),
      Value.int IntKind.u8 ((v : Int) / 256 / 256 / 256 % 256), Value.int IntKind.u8 ((v : Int) / 256 / 256 % 256), Value.int IntKind.u8 ((v : Int) / 256 % 256), Value.int IntKind.u8 ((v : Int) % 256)] = ((putL v).map vB).toArray := by
  rw [← put_cells v hv]
  have e7 : (v : Int) / 256 / 256 / 256 / 256 / 256 / 256 / 256 % 256 = (v : Int) / 72057594037927936 := by omega
  have e6 : (v : Int) / 256 / 256 / 256 / 256 / 256 / 256 % 256 = (v : Int) / 281474976710656 % 256 := by omega
  have e5 : (v : Int) / 256 / 256 / 256 / 256 / 256 % 256 = (v : Int) / 1099511627776 % 256 := by omega
  have e4 : (v : Int) / 256 / 256 / 256 / 256 % 256 = (v : Int) / 4294967296 % 256 := by omega
  have e3 : (v : Int) / 256 / 256 / 256 % 256 = (v : Int) / 16777216 % 256 := by omega
  have e2 : (v : Int) / 256 / 256 % 256 = (v : Int) / 65536 % 256 := by omega
  rw [e7, e6, e5, e4, e3, e2]



end Go.Proofs.YteppocjgodmpdaaDoor
/-
  What the reference's call Least answers, for any number: the same as the program's.
-/
namespace Go.Proofs.YteppocjgodmpdaaDoor
set_option maxRecDepth 100000
open Go.RowKit

def RefLeastRel (L : List UInt8) (w : World) (s : Value) : Prop := ∃ (M : List UInt8) (b o cap : Nat), s = .slice (some ⟨b, o, none⟩) M.length cap ∧ M.length ≤ cap ∧ M.length ≤ 8 ∧ Rd vB w (some ⟨b, o, none⟩) M ∧ L.dropWhile (· == 0) = M.dropWhile (· == 0)

end Go.Proofs.YteppocjgodmpdaaDoor
/-
  A string as a list of bytes: its length, one byte of it, the end of it, two held together (no program is named here). No conditions but those typed.
-/
namespace Go.Proofs.YteppocjgodmpdaaDoor
set_option maxRecDepth 100000
open Go.RowKit
set_option linter.unusedSimpArgs false

def strL (l : List UInt8) : ByteArray := ⟨l.toArray⟩
theorem strL_size (l : List UInt8) : (strL l).size = l.length := by simp [strL, ByteArray.size]
theorem strL_toList (l : List UInt8) : (strL l).toList = l := by unfold strL; exact ByteArray.toList_mk l
theorem strL_append (a b : List UInt8) : strL a ++ strL b = strL (a ++ b) := by
  unfold strL
  apply ByteArray.ext
  rw [ByteArray.data_append]
  simp
theorem strL_inj {a b : List UInt8} (h : strL a = strL b) : a = b := by
  have := congrArg ByteArray.toList h
  rwa [strL_toList, strL_toList] at this
theorem strL_drop (l : List UInt8) (k : Nat) : (strL l).extract k (strL l).size = strL (l.drop k) := by
  apply ByteArray.ext
  rw [ByteArray.data_extract, strL_size]
  simp [strL]
  exact List.take_of_length_le (by simp)
theorem run_index_strL {P : Program} (t : TypeId) (l : List UInt8) (i : Nat) (h : i < l.length) (ht : P.underlying t = some .string) (w : World) :
    (Instr.index t (.string (strL l)) (.int .i64 (i : Int))).run P w = .ok (.int .u8 (l[i].toNat : Int)) w := by
  rw [run_index_string w t (strL l) .i64 (i : Int) ht, dif_pos (by rw [strL_size]; omega)]
  simp [strL, ByteArray.getElem_eq_getElem_data]
theorem run_slice_strL {P : Program} (t : TypeId) (l : List UInt8) (k : Nat) (h : k ≤ l.length) (ht : P.underlying t = some .string) (w : World) :
    (Instr.slice t (.string (strL l)) (some (.int .i64 (k : Int))) none none).run P w = .ok (.string (strL (l.drop k))) w := by
  rw [run_slice_string_l w t (strL l) ht .i64 (k : Int) (by omega) (by rw [strL_size]; omega), Int.toNat_natCast, strL_drop]
end Go.Proofs.YteppocjgodmpdaaDoor
/-
  Structs of three numbers and a slice of bytes (payloads, activations): as cells, as a value, in a block of their own; calls that hand back a list of bytes. No conditions but those typed.
-/
namespace Go.Proofs.YteppocjgodmpdaaDoor
set_option maxRecDepth 100000
open Go.RowKit
set_option linter.unusedSimpArgs false
set_option linter.unusedVariables false

/-- A payload as its cells. -/
def cellsP (t e c : Nat) (A : Option Addr) (n k : Nat) : List Value := [.int .u64 (t : Int), .int .u64 (e : Int), .int .u64 (c : Int), .slice A n k]
def aggP (t e c : Nat) (A : Option Addr) (n k : Nat) : Value := .agg #[.int .u64 (t : Int), .int .u64 (e : Int), .int .u64 (c : Int), .slice A n k]
theorem box_pay (w : World) (ty : TypeId) (a b c d : Value) : Row (w.alloc (.cells #[a, b, c, d] ty)) w.heap.size ty [a, b, c, d] ∧ Below w.heap.size w (w.alloc (.cells #[a, b, c, d] ty)) := ⟨Row.new w ty _ _ rfl, below_new (Below.refl _ _) _⟩
def sameF (t e c : Nat) (g : List UInt8) (t' e' c' : Nat) (g' : List UInt8) : Bool := decide (t = t' ∧ e = e' ∧ c = c' ∧ g = g')
/-- A call that hands back a list of bytes. -/
def RetZ (w : World) (l : List UInt8) (e : Ending) (w' : World) : Prop := ∃ A n c, e = .returned (.slice A n c) ∧ Hid (l.length = n) ∧ n ≤ c ∧ Rd vB w' A l ∧ Below w.heap.size w w'
theorem RetZ.own {w w' : World} {l : List UInt8} {base : Nat} {e : TypeId} {v : Value} {n : Nat} (hn : l.length = n) (h : w'.ownsRow base e 1 v n (l.map vB)) (hb : Below w.heap.size w w') : RetZ w l (.returned v) w' := by
  subst hn
  obtain ⟨A, c, rfl, hc, hr⟩ := own_slice h
  exact ⟨A, l.length, c, rfl, rfl, hc, hr, hb⟩

theorem own_lit (w : World) (e : TypeId) (l : List Value) (cs : Array Value) (h : cs = l.toArray) (hm : l.length ≤ maxLen) : (w.alloc (.cells cs e)).ownsRow w.heap.size e 1 (.slice (some ⟨w.heap.size, 0, none⟩) l.length l.length) l.length l :=
  ⟨by simp, .inr ⟨w.heap.size, l.length, cs, rfl, Nat.le_refl _, heap_alloc_new w _, Nat.le_refl _, hm, by subst h; simp, by subst h; simp⟩⟩
theorem one_four (a b c d : Value) (ha : a.oneCell' = true) (hb : b.oneCell' = true) (hc : c.oneCell' = true) (hd : d.oneCell' = true) : ∀ v ∈ [a, b, c, d], v.oneCell' = true := fun v hv => by
  simp at hv
  rcases hv with rfl | rfl | rfl | rfl <;> assumption
theorem strBz (n : Nat) {w : World} {A : Option Addr} {l : List UInt8} {c : Nat} (H : Hid (l.length = n)) (h : Rd vB w A l) : ∀ W, Below w.heap.size w W → (convert 23 9 (.slice A n c)).run Tryd.prog W = .ok (.string (strL l)) W :=
  fun W hW => run_str W _ _ _ Tryd.underlying23 Tryd.underlying5 Tryd.underlying9 A l n c H.out (h.keep hW)
theorem str_sameB (a b : List UInt8) (S : Bool) (h : (a = b) ↔ S = true) : ((strL a).toList == (strL b).toList) = S := by
  rw [strL_toList, strL_toList, Bool.eq_iff_iff, beq_iff_eq]
  exact h
theorem same_selfP (t e c : Nat) (g : List UInt8) : sameF t e c g t e c g = true := by unfold sameF; simp
end Go.Proofs.YteppocjgodmpdaaDoor
/-
  What the reference's calls Same, Msg and Write of layer 12 answer. No conditions but those typed.
-/
namespace Go.Proofs.YteppocjgodmpdaaDoor
set_option maxRecDepth 100000
open Go.RowKit
set_option linter.unusedSimpArgs false
set_option linter.unusedVariables false

set_option maxRecDepth 100000 in
set_option maxHeartbeats 1000000 in
theorem refsame_pay (t e c t' e' c' : Nat) (g g' : List UInt8) (n n' : Nat) (A A' : Option Addr) (k k' : Nat) (w : World) (HN : Hid (g.length = n)) (HN' : Hid (g'.length = n')) (hr : Rd vB w A g) (hr' : Rd vB w A' g') :
    Calls Tryd.prog 9 #[aggP t e c A n k, aggP t' e' c' A' n' k'] w fun e₁ w' => e₁ = .returned (.bool (sameF t e c g t' e' c' g')) ∧ Below w.heap.size w w' := by
  obtain ⟨hR0, hB0⟩ := box_pay w 25 (.int .u64 (t : Int)) (.int .u64 (e : Int)) (.int .u64 (c : Int)) (.slice A n k)
  obtain ⟨hR1, hB1⟩ := box_pay (w.alloc (.cells #[.int .u64 (t : Int), .int .u64 (e : Int), .int .u64 (c : Int), .slice A n k] 25)) 25 (.int .u64 (t' : Int)) (.int .u64 (e' : Int)) (.int .u64 (c' : Int)) (.slice A' n' k')
  replace hR0 := hR0.later hB1
  have hsz : (w.alloc (.cells #[.int .u64 (t : Int), .int .u64 (e : Int), .int .u64 (c : Int), .slice A n k] 25)).heap.size = w.heap.size + 1 := by simp
  rw [hsz] at hR1
  have hB := below_step hB0 hB1
  replace hr := hr.keep hB
  replace hr' := hr'.keep hB
  obtain ⟨E, hE⟩ : ∃ E, sameF t e c g t' e' c' g' = E := ⟨_, rfl⟩
  rw [hE]
  unfold aggP
  go_enter Tryd.func9, Tryd.ntmps9
  go_upto_region 1 with fail
  generalize (w.alloc (.cells #[.int .u64 (t : Int), .int .u64 (e : Int), .int .u64 (c : Int), .slice A n k] 25)).alloc (.cells #[.int .u64 (t' : Int), .int .u64 (e' : Int), .int .u64 (c' : Int), .slice A' n' k'] 25) = W at hR0 hR1 hB hr hr' ⊢
  have c0 : W.cell? ⟨w.heap.size, 0, none⟩ = some (.int .u64 (t : Int)) := hR0.cell rfl
  have c1 : W.cell? ⟨w.heap.size, 1, none⟩ = some (.int .u64 (e : Int)) := hR0.cell rfl
  have c2 : W.cell? ⟨w.heap.size, 2, none⟩ = some (.int .u64 (c : Int)) := hR0.cell rfl
  have c3 : W.cell? ⟨w.heap.size, 3, none⟩ = some (.slice A n k) := hR0.cell rfl
  have d0 : W.cell? ⟨w.heap.size + 1, 0, none⟩ = some (.int .u64 (t' : Int)) := hR1.cell rfl
  have d1 : W.cell? ⟨w.heap.size + 1, 1, none⟩ = some (.int .u64 (e' : Int)) := hR1.cell rfl
  have d2 : W.cell? ⟨w.heap.size + 1, 2, none⟩ = some (.int .u64 (c' : Int)) := hR1.cell rfl
  have d3 : W.cell? ⟨w.heap.size + 1, 3, none⟩ = some (.slice A' n' k') := hR1.cell rfl
  clear hR0 hR1 hB0 hB1 hsz
  by_cases h0 : t = t'
  · subst h0
    by_cases h1 : e = e'
    · subst h1
      by_cases h2 : c = c'
      · subst h2
        have hs1 : (convert 23 9 (.slice A n k)).run Tryd.prog W = .ok (.string (strL g)) W := run_str W _ _ _ Tryd.underlying23 Tryd.underlying5 Tryd.underlying9 A g n k HN.out hr
        have hs2 : (convert 23 9 (.slice A' n' k')).run Tryd.prog W = .ok (.string (strL g')) W := run_str W _ _ _ Tryd.underlying23 Tryd.underlying5 Tryd.underlying9 A' g' n' k' HN'.out hr'
        have hst : ((strL g).toList == (strL g').toList) = E := by
          rw [strL_toList, strL_toList, ← hE]
          unfold sameF
          rw [Bool.eq_iff_iff, beq_iff_eq, decide_eq_true_iff]
          simp
        clear hE
        go_wp2_with fail
        go_ret
        exact ⟨rfl, hB⟩
      · have eE : E = false := by rw [← hE]; unfold sameF; exact decide_eq_false (fun h => h2 h.2.2.1)
        have hne : ((c : Int) == (c' : Int)) = false := beq_eq_false_iff_ne.2 (by omega)
        clear hE
        subst eE
        go_wp2_with fail
        go_ret
        exact ⟨rfl, hB⟩
    · have eE : E = false := by rw [← hE]; unfold sameF; exact decide_eq_false (fun h => h1 h.2.1)
      have hne : ((e : Int) == (e' : Int)) = false := beq_eq_false_iff_ne.2 (by omega)
      clear hE
      subst eE
      go_wp2_with fail
      go_ret
      exact ⟨rfl, hB⟩
  · have eE : E = false := by rw [← hE]; unfold sameF; exact decide_eq_false (fun h => h0 h.1)
    have hne : ((t : Int) == (t' : Int)) = false := beq_eq_false_iff_ne.2 (by omega)
    clear hE
    subst eE
    go_wp2_with fail
    go_ret
    exact ⟨rfl, hB⟩

/-! ### Msg -/
end Go.Proofs.YteppocjgodmpdaaDoor
/-
  append of what reads as a list onto a row of the call's own: the row's block behind it is the one it was, or a new one; blocks known whole stay (no program is named here). No conditions but those typed.
-/
namespace Go.Proofs.YteppocjgodmpdaaDoor
set_option maxRecDepth 100000
open Go.RowKit

theorem Row.grown {w w' : World} {g : Nat} {t : TypeId} {l : List Value} {row : Option Nat} (h : Row w g t l) (hg : w.grownBy w' row) (hn : row ≠ some g) : Row w' g t l :=
  (hg.block g h.lt (fun e => hn e.symm)).trans h
/-- Apart from a block that was there. -/
theorem apart_of {w : World} {v v' : Value} {g : Nat} (h : v.ownBlock ≠ some g) (hg : g < w.heap.size) (hat : v'.ownBlock = v.ownBlock ∨ v'.ownBlock = some w.heap.size) : v'.ownBlock ≠ some g := by
  rcases hat with e | e
  · rw [e]; exact h
  · rw [e]
    intro h
    injection h with h
    omega
section
variable {P : Program} (w : World)
theorem run_append_apart {α : Type} {f : α → Value} (base : Nat) (t ty e : TypeId) (i : TypeInfo) (z : Value) (bytes : Nat) (ht : P.underlying t = some (.slice e)) (hi : P.info? e = some i) (hz : i.zero = some z)
    (hsize : i.size = 1) (hby : i.bytes = bytes) (hzs : z.cells.size = 1) (v : Value) (n : Nat) (xs : List Value) (hown : w.ownsRow base e 1 v n xs)
    (A : Option Addr) (l : List α) (c : Nat) (hr : Rd f w A l) (h1 : ∀ x, (f x).oneCell' = true)
    (h63 : n + l.length ≤ maxLen) (hbytes : (n + l.length) * bytes ≤ 140737488355328) (hbase : base ≤ w.heap.size) :
    ∃ v' w', (Builtin.append_ #[t, t] ty #[v, .slice A l.length c]).run P w = .ok v' w' ∧ w'.ownsRow base e 1 v' (n + l.length) (xs ++ l.map f) ∧ w.grownBy w' v.ownBlock ∧ (v'.ownBlock = v.ownBlock ∨ v'.ownBlock = some w.heap.size) := by
  have hone : ∀ u ∈ l.map f, u.oneCell' = true := by
    intro u hu
    simp only [List.mem_map] at hu
    obtain ⟨x, _, rfl⟩ := hu
    exact h1 x
  by_cases hl : l = []
  · subst hl
    cases A with
    | none => exact ⟨v, w, run_append_nothing_of w base t ty e i ht hi v n xs hown c, by simpa using hown, ⟨rfl, rfl, rfl, Nat.le_refl _, fun _ _ _ => rfl⟩, .inl rfl⟩
    | some ad =>
      obtain ⟨v', w', hrun, h2, h3, _, h4⟩ := run_append_own_at (P := P) w base t ty e i z 1 bytes ht hi hz hsize hby hzs (by omega) v n xs hown ad 0 c [] rfl (fun j u h => by simp at h) (fun u h => by simp at h) h63 hbytes hbase
      exact ⟨v', w', hrun, h2, h3, h4⟩
  · obtain ⟨b, o, rfl, _⟩ := hr hl
    obtain ⟨v', w', hrun, h2, h3, _, h4⟩ := run_append_own_at (P := P) w base t ty e i z 1 bytes ht hi hz hsize hby hzs (by omega) v n xs hown ⟨b, o, none⟩ l.length c (l.map f) (by simp) hr.news hone h63 hbytes hbase
    exact ⟨v', w', hrun, h2, h3, h4⟩

theorem wp_append_apart {α : Type} {f : α → Value} {o : Oper} {a : Act} {K : Act → World → Prop} {Q : Exit → Act → World → Prop} (s x : Operand) (t : TypeId)
    (ho : o.op = .call { callee := .builtin .append, args := #[s, x], argTypes := #[t, t] })
    (base : Nat) (e : TypeId) (i : TypeInfo) (z : Value) (bytes : Nat) (ht : P.underlying t = some (.slice e)) (hi : P.info? e = some i) (hz : i.zero = some z)
    (hsize : i.size = 1) (hby : i.bytes = bytes) (hzs : z.cells.size = 1) (v : Value) (n : Nat) (xs : List Value) (hs : a.eval s = v) (hown : w.ownsRow base e 1 v n xs)
    (A : Option Addr) (l : List α) (c : Nat) (hx : a.eval x = .slice A l.length c) (hr : Rd f w A l) (h1 : ∀ x, (f x).oneCell' = true)
    (h63 : n + l.length ≤ maxLen) (hbytes : (n + l.length) * bytes ≤ 140737488355328) (hbase : base ≤ w.heap.size)
    (h : ∀ v' w', w'.ownsRow base e 1 v' (n + l.length) (xs ++ l.map f) → w.grownBy w' v.ownBlock → (v'.ownBlock = v.ownBlock ∨ v'.ownBlock = some w.heap.size) → K (a.put o.dst v') w') : o.wp P a w K Q := by
  obtain ⟨v', w', hr, h2, h3, h4⟩ := run_append_apart (P := P) w base t o.type e i z bytes ht hi hz hsize hby hzs v n xs hown A l c hr h1 h63 hbytes hbase
  unfold Oper.wp execOp
  simp only [ho, resolve, invoke, builtin, Sem.run_bind, Sem.run_pure, Result.andThen_ok, List.map_toArray, List.map_cons, List.map_nil, hs, hx, hr]
  exact h v' w' h2 h3 h4

theorem wpList_append_apart {α : Type} {f : α → Value} {ops : Array Oper} {rest : List Oper} {o : Oper} {a : Act} {Q : Exit → Act → World → Prop} (hgd : o.guard = none) (s x : Operand) (t : TypeId)
    (ho : o.op = .call { callee := .builtin .append, args := #[s, x], argTypes := #[t, t] })
    (base : Nat) (e : TypeId) (i : TypeInfo) (z : Value) (bytes : Nat) (ht : P.underlying t = some (.slice e)) (hi : P.info? e = some i) (hz : i.zero = some z)
    (hsize : i.size = 1) (hby : i.bytes = bytes) (hzs : z.cells.size = 1) (v : Value) (n : Nat) (xs : List Value) (hs : a.eval s = v) (hown : w.ownsRow base e 1 v n xs)
    (A : Option Addr) (l : List α) (c : Nat) (hx : a.eval x = .slice A l.length c) (hr : Rd f w A l) (h1 : ∀ x, (f x).oneCell' = true)
    (h63 : n + l.length ≤ maxLen) (hbytes : (n + l.length) * bytes ≤ 140737488355328) (hbase : base ≤ w.heap.size)
    (h : ∀ v' w', w'.ownsRow base e 1 v' (n + l.length) (xs ++ l.map f) → w.grownBy w' v.ownBlock → (v'.ownBlock = v.ownBlock ∨ v'.ownBlock = some w.heap.size) → wpList P ops Q rest (a.put o.dst v') w') : wpList P ops Q (o :: rest) a w :=
  wpList_plain hgd fun _ hK => wp_append_apart w s x t ho base e i z bytes ht hi hz hsize hby hzs v n xs hs hown A l c hx hr h1 h63 hbytes hbase fun v' w' h2 h3 h4 => hK _ _ (h v' w' h2 h3 h4)
end
end Go.Proofs.YteppocjgodmpdaaDoor
/-
  What the reference's call Write of layer 12 answers. No conditions but those typed.
-/
namespace Go.Proofs.YteppocjgodmpdaaDoor
set_option maxRecDepth 100000
open Go.RowKit
set_option linter.unusedSimpArgs false
set_option linter.unusedVariables false

def preF (N : List Nat) (i : Nat) : List UInt8 := 87 :: (N.take i).flatMap numF
theorem pre_next (N : List Nat) (i : Nat) (h : i < N.length) : preF N (i + 1) = preF N i ++ numF N[i] := by
  unfold preF
  rw [List.take_succ_eq_append_getElem h, List.flatMap_append, List.cons_append]
  simp
theorem pre_length (N : List Nat) (i : Nat) : (preF N i).length ≤ 1 + 9 * i := by
  induction i with
  | zero => simp [preF]
  | succ i ih =>
    rcases Nat.lt_or_ge i N.length with h | h
    · rw [pre_next N i h, List.length_append]
      have := (num_length N[i]).2
      omega
    · have e : preF N (i + 1) = preF N i := by unfold preF; rw [List.take_of_length_le (by omega), List.take_of_length_le h]
      rw [e]
      omega
theorem pre_write (t e c : Nat) (tag : List UInt8) : preF [t, e, c] 3 ++ tag = writeF t e c tag := by simp [preF, writeF]
def uV (x : Nat) : Value := .int .u64 (x : Int)
def WrR (N : List Nat) (cp : List Value) (w : World) (v iv : Value) (wr : World) : Prop :=
  ∃ i : Nat, i ≤ 3 ∧ iv = .int .i64 (i : Int) ∧ wr.ownsRow (w.heap.size + 1) 5 1 v (preF N i).length ((preF N i).map vB) ∧ v.ownBlock ≠ some (w.heap.size + 2) ∧ Row wr w.heap.size 25 cp ∧ Row wr (w.heap.size + 2) 22 (N.map uV) ∧ Below w.heap.size w wr

end Go.Proofs.YteppocjgodmpdaaDoor
