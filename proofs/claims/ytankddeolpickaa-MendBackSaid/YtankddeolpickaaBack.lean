/-
  What slices.Backward answers at slices of bytes: a range over a function, from the last place to the first; its contract for whatever body keeps the slice readable. Conditions: bounds on lengths, as typed.
-/
import Derived.Test.YtankddeolpickaaCel
import Derived.Test.YtankddeolpickaaWordWords
import Derived.RangeFuncNested
import Derived.RangeFuncBound
import Derived.RangeFuncCalls
import Derived.RangeFuncLeaves
import Derived.Shelf.Abstract
import Derived.Shelf.RegionOpen
import Derived.WalkKit
import Derived.OwnWalkIn
import Derived.TacticsInMore
import Derived.LoopNIn
import Derived.LoopIn
namespace Go.Proofs.Ytankddeolpickaa
set_option maxRecDepth 100000
open Go.RowKit Go.Shelf
set_option linter.unusedSimpArgs false
set_option linter.unusedVariables false

attribute [local go_sem] Oper.semAt_some

/-- The places from the last one on, as far as k rounds come. -/
def backN (n k : Nat) : List Nat := (List.range k).map fun j => n - 1 - j
theorem back_succ (n k : Nat) : backN n (k + 1) = backN n k ++ [n - 1 - k] := by simp [backN, List.range_succ]
theorem back_length (n k : Nat) : (backN n k).length = k := by simp [backN]
theorem mem_back (n k i : Nat) (hk : k ≤ n) : i ∈ backN n k ↔ n - k ≤ i ∧ i < n := by
  unfold backN
  rw [List.mem_map]
  constructor
  · rintro ⟨j, hj, rfl⟩
    rw [List.mem_range] at hj
    omega
  · rintro ⟨h1, h2⟩
    exact ⟨n - 1 - i, by rw [List.mem_range]; omega, by omega⟩

/-- What comes to a round: a place, and the byte there. -/
abbrev Bk (n : Nat) (V : Nat → UInt8 → Prop) := { x : Nat × UInt8 // x.1 < n ∧ V x.1 x.2 }
def Bk.at {n : Nat} {V : Nat → UInt8 → Prop} (x : Bk n V) : Nat := x.1.1
def Bk.val {n : Nat} {V : Nat → UInt8 → Prop} (x : Bk n V) : UInt8 := x.1.2
def Bk.enc {n : Nat} {V : Nat → UInt8 → Prop} (x : Bk n V) : Array Value := #[.int .i64 (x.at : Int), .int .u8 (x.val.toNat : Int)]
theorem Bk.lt {n : Nat} {V : Nat → UInt8 → Prop} (x : Bk n V) : x.at < n := x.2.1
theorem Bk.is {n : Nat} {V : Nat → UInt8 → Prop} (x : Bk n V) : V x.at x.val := x.2.2
def backS {n : Nat} {V : Nat → UInt8 → Prop} (xs : List (Bk n V)) : Prop := xs.map Bk.at = backN n n
def backP {n : Nat} {V : Nat → UInt8 → Prop} (xs : List (Bk n V)) : Prop := ∃ k, k ≤ n ∧ xs.map Bk.at = backN n k

theorem backward_any (A : Option Addr) (n c : Nat) (w : World) :
    Calls Try.prog 40 #[.slice A n c] w fun e w' => e = .returned (.func (.func 49) #[] #[.pointer (some ⟨w.heap.size, 0, none⟩)]) ∧ w' = w.alloc (.cells #[.slice A n c] 22) := by
  go_enter Try.func40, Try.ntmps40
  go_wp2_with fail
  go_ret
  exact ⟨rfl, rfl⟩

set_option maxHeartbeats 2000000 in
theorem back1_in (F : Fence) (n : Nat) (h7 : F.fn 49) (hro : F.round = none) (hn : 1 ≤ n) (l Bs len cap : Nat) (A : Option Addr) (V : Nat → UInt8 → Prop) (Kp : World → World → Prop) (hlen : len ≤ 140737488351232) (J Jx : List (Bk len V) → World → Prop)
    (hY : ∀ pre x W, J pre W → pre.length < len → YieldAt F (n - 1) Try.prog l (Bk.enc x) W fun e W' => (e = .returned (.bool true) ∧ J (pre ++ [x]) W' ∧ Kp W W') ∨ (e = .returned (.bool false) ∧ Jx (pre ++ [x]) W'))
    (W : World) (hKr : Kp W W) (hKt : ∀ X Y, Kp W X → Kp X Y → Kp W Y) (hread : ∀ W', Kp W W' → W'.cell? ⟨Bs, 0, none⟩ = some (.slice A len cap) ∧ ∃ p : List UInt8, p.length = len ∧ Rd vB W' A p ∧ ∀ j, j < len → V j (co p j)) (h0 : J [] W) :
    CallsIn F n Try.prog 49 #[.func (.yield l) #[] #[], .pointer (some ⟨Bs, 0, none⟩)] W fun e W' => (∃ v, e = .returned v) ∧ ((∃ xs, backS xs ∧ J xs W') ∨ (∃ pre, backP pre ∧ Jx pre W')) := by
  have hc0 := (hread W hKr).1
  refine callsIn_of_wp Try.func49 rfl h7 ?_ hro
  simp only [Try.ntmps49, List.size_toArray, List.length_cons, List.length_nil, Nat.reduceAdd, Nat.reduceSub, Array.replicate_succ, Array.replicate_zero, List.push_toArray, List.append_toArray, List.nil_append, List.cons_append]
  gi_wp2
  gi_loopw [3] (fun i wr => ∃ m : Nat, m ≤ len ∧ i = .int .i64 ((m : Int) - 1) ∧ (∃ pre : List (Bk len V), pre.length = len - m ∧ pre.map Bk.at = backN len (len - m) ∧ J pre wr) ∧ Kp W wr)
    (fun i _ => (intOf i + 1).toNat)
  case atStart => exact ⟨len, Nat.le_refl _, rfl, ⟨[], by simp, by rw [Nat.sub_self]; rfl, h0⟩, hKr⟩
  case round =>
    obtain ⟨m, hm, rfl, ⟨pre, hpl, hpm, hJs⟩, hK⟩ := hrel
    obtain ⟨hcb, p, hp, hrd, hV⟩ := hread wr hK
    by_cases h0 : m = 0
    · subst h0
      rw [Nat.sub_zero] at hpm
      have HPM := Lib.hid hpm
      clear hpm hpl hV
      gi_wp2
      go_end0
      exact ⟨⟨_, rfl⟩, .inl ⟨_, HPM.out, hJs⟩⟩
    · obtain ⟨q, rfl⟩ : ∃ q, m = q + 1 := ⟨m - 1, by omega⟩
      have hq : q < p.length := by omega
      obtain ⟨b, o, rfl, hb, hcell⟩ := hrd.at hq
      have hc1 := hcell q hq
      have hv := hV q (by omega)
      rw [co_lt p q hq] at hv
      unfold vB at hc1
      generalize p[q] = y at hc1 hv
      obtain ⟨fn, tmps, assign, body, hy, hR⟩ := hY pre ⟨(q, y), by omega, hv⟩ wr hJs (by omega)
      unfold Bk.enc Bk.at Bk.val at hy
      dsimp only at hy
      have HPM : Hid ((pre ++ [(⟨(q, y), by omega, hv⟩ : Bk len V)]).map Bk.at = backN len (len - q)) := by
        unfold Hid
        rw [show len - q = (len - (q + 1)) + 1 by omega, back_succ, List.map_append, hpm, List.map_cons, List.map_nil]
        unfold Bk.at
        dsimp only
        rw [show len - 1 - (len - (q + 1)) = q by omega]
      have HPL : Hid ((pre ++ [(⟨(q, y), by omega, hv⟩ : Bk len V)]).length = len - q) := by
        unfold Hid
        rw [List.length_append, hpl, List.length_singleton]
        omega
      have e1 : ((q + 1 : Nat) : Int) - 1 = (q : Int) := by omega
      rw [e1]
      have i0 : (0 : Int) ≤ (q : Int) := by omega
      have i1 : (q : Int) < (len : Int) := by omega
      clear hpm hpl hV hcell hrd e1
      gi_wp2
      refine hR.mono ?_
      rintro e W3 (⟨rfl, hJ3, hk3⟩ | ⟨rfl, hJx3⟩)
      · gi_wp2
        go_roundw
        case rel => exact ⟨q, by omega, by go_num, ⟨_, HPL.out, HPM.out, hJ3⟩, hKt _ _ hK hk3⟩
        case measure => simp [intOf] <;> omega
      · gi_wp2
        refine bodyPost_ret (results_none rfl _ _ _) rfl ?_
        exact ⟨⟨_, rfl⟩, .inr ⟨_, ⟨len - q, by omega, HPM.out⟩, hJx3⟩⟩

/-- What 'slices.Backward(s)' hands back, as a loop's iterator. -/
theorem back_stops (F : Fence) (n : Nat) (h7 : F.fn 49) (hro : F.round = none) (hn : 1 ≤ n) (Bs len cap : Nat) (A : Option Addr) (V : Nat → UInt8 → Prop) (Kp : World → World → Prop) (hlen : len ≤ 140737488351232) (w : World)
    (hKr : ∀ W, Kp W W) (hKt : ∀ X Y Z, Kp X Y → Kp Y Z → Kp X Z) (hread : ∀ W, Below w.heap.size w W → ∀ W', Kp W W' → W'.cell? ⟨Bs, 0, none⟩ = some (.slice A len cap) ∧ ∃ p : List UInt8, p.length = len ∧ Rd vB W' A p ∧ ∀ j, j < len → V j (co p j)) :
    SeqStopsK F n Try.prog 49 #[.pointer (some ⟨Bs, 0, none⟩)] (Bk.enc (n := len) (V := V)) Kp backS backP len w := fun l J Jx W hW _ _ hY h0 =>
  back1_in F n h7 hro hn l Bs len cap A V Kp hlen J Jx hY W (hKr W) (fun X Y h k => hKt _ _ _ h k) (hread W hW) h0
end Go.Proofs.Ytankddeolpickaa
