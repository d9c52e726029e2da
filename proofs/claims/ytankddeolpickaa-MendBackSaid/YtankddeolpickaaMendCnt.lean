/-
  Counting in how many places two are unlike, place by place. No conditions but those typed.
-/
import Derived.Test.YtankddeolpickaaMendCalls
namespace Go.Proofs.Ytankddeolpickaa
set_option maxRecDepth 100000
open Go.RowKit
set_option linter.unusedSimpArgs false
set_option linter.unusedVariables false

theorem dif_take (a b : List UInt8) (hl : a.length = b.length) (j : Nat) (h : j < a.length) : difL (a.take (j + 1)) (b.take (j + 1)) = difL (a.take j) (b.take j) + (if co a j = co b j then 0 else 1) := by
  unfold difL
  rw [← List.take_zipWith, ← List.take_zipWith, wt_take _ _ (by rw [List.length_zipWith]; omega), co_zip _ _ _ h (by omega)]
  congr 1
  by_cases e : co a j = co b j
  · rw [if_pos e, if_pos (by rw [e, add_self])]
  · rw [if_neg e, if_neg (fun h0 => e (add_zero_eq h0))]
def CntR (a b : List UInt8) (wb : World) (pv kv : Value) (wr : World) : Prop :=
  ∃ j : Nat, j ≤ a.length ∧ kv = .int .i64 (j : Int) ∧ pv = .int .i64 ((difL (a.take j) (b.take j) : Nat) : Int) ∧ Below wb.heap.size wb wr
theorem cnt_round {X y : List UInt8} {q : Nat} (HY : y.length = X.length) (h255 : X.length ≤ 255) (hq : q < X.length) {wb wr : World} {gs os gy : Nat} (hgs : gs < wb.heap.size)
    (hcs : ∀ i (hi : i < X.length), wb.cell? ⟨gs, os + i, none⟩ = some (vB X[i])) (hry : Rd vB wb (some ⟨gy, 0, none⟩) y) (hb : Below wb.heap.size wb wr) :
    wr.cell? ⟨gs, os + q, none⟩ = some (.int .u8 (X[q].toNat : Int)) ∧ wr.cell? ⟨gy, q, none⟩ = some (.int .u8 ((y[q]'(by rw [HY]; exact hq)).toNat : Int)) ∧
    ((X[q] = y[q]'(by rw [HY]; exact hq) → difL (X.take (q + 1)) (y.take (q + 1)) = difL (X.take q) (y.take q)) ∧
      (X[q] ≠ y[q]'(by rw [HY]; exact hq) → ((difL (X.take q) (y.take q) : Nat) : Int) + 1 = ((difL (X.take (q + 1)) (y.take (q + 1)) : Nat) : Int)) ∧
      difL (X.take (q + 1)) (y.take (q + 1)) ≤ 255 ∧
      ∀ nq, CntR X y wb (.int .i64 ((difL (X.take (q + 1)) (y.take (q + 1)) : Nat) : Int)) (.int .i64 ((q : Int) + 1)) (wr.drewN nq)) := by
  have hqy : q < y.length := by rw [HY]; exact hq
  obtain ⟨gb, ob, e, hgb, hcb⟩ := hry.at (k := q) hqy
  have e1 : gb = gy := by injection e with e; injection e with e _; exact e.symm
  have e2 : ob = 0 := by injection e with e; injection e with _ e; exact e.symm
  subst e1
  subst e2
  have hdt := dif_take X y HY.symm q hq
  rw [co_lt X q hq, co_lt y q hqy] at hdt
  refine ⟨(hb.cell (p := ⟨gs, os + q, none⟩) hgs).trans (hcs q hq), ?_, fun e => ?_, fun e => ?_, ?_, fun nq => ⟨q + 1, hq, by go_num, rfl, below_drewN hb nq⟩⟩
  · have := (hb.cell (p := ⟨gb, 0 + q, none⟩) hgb).trans (hcb q hqy)
    rw [Nat.zero_add] at this
    exact this
  · rw [hdt, if_pos e, Nat.add_zero]
  · rw [hdt, if_neg e]
    omega
  · have := wt_le (List.zipWith addB (X.take (q + 1)) (y.take (q + 1)))
    rw [List.length_zipWith, List.length_take] at this
    unfold difL
    omega
end Go.Proofs.Ytankddeolpickaa
