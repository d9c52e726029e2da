/-
  What the reference's call Put of layer 9 answers: checks by a register, which is set place by place. No conditions but those typed.
-/
import Derived.Test.YtankddeolpickaaSolRef2
import Derived.Test.YtankddeolpickaaCel
import Derived.Deep.QuietTactic
namespace Go.Proofs.Ytankddeolpickaa
set_option maxRecDepth 100000
open Go.RowKit
set_option linter.unusedSimpArgs false
set_option linter.unusedVariables false

/-! ### The register, place by place -/
theorem co_zip (a b : List UInt8) (i : Nat) (ha : i < a.length) (hb : i < b.length) : co (List.zipWith addB a b) i = addB (co a i) (co b i) := by
  rw [co_lt _ _ (by rw [List.length_zipWith]; omega), co_lt _ _ ha, co_lt _ _ hb, List.getElem_zipWith]
theorem co_take (l : List UInt8) (n i : Nat) (h : i < n) : co (l.take n) i = co l i := by
  unfold co
  rw [List.getD_eq_getElem?_getD, List.getD_eq_getElem?_getD, List.getElem?_take, if_pos h]
theorem co_map_mul (t : UInt8) (l : List UInt8) (i : Nat) : co (l.map (mulB t)) i = mulB t (co l i) := co_scale t l i
theorem reg_get (g reg : List UInt8) (top : UInt8) (i : Nat) (hi : i + 1 < reg.length) (hg : reg.length ≤ g.length) : co (regL g reg top) (i + 1) = addB (co reg i) (mulB top (co g (i + 1))) := by
  unfold regL
  rw [co_zip _ _ _ (by rw [List.length_cons, List.length_dropLast]; omega) (by rw [List.length_map, List.length_take]; omega), co_succ, co_map_mul, co_take _ _ _ hi, List.dropLast_eq_take, co_take _ _ _ (by omega)]
theorem reg_get0 (g reg : List UInt8) (top : UInt8) (hi : 0 < reg.length) (hg : reg.length ≤ g.length) : co (regL g reg top) 0 = mulB top (co g 0) := by
  unfold regL
  rw [co_zip _ _ _ (by rw [List.length_cons]; omega) (by rw [List.length_map, List.length_take]; omega), co_zero, zero_add, co_map_mul, co_take _ _ _ hi]
def mixL (L R : List UInt8) (k : Nat) : List UInt8 := L.take k ++ R.drop k
theorem mix_length (L R : List UInt8) (k : Nat) (h : L.length = R.length) : (mixL L R k).length = L.length := by
  unfold mixL
  rw [List.length_append, List.length_take, List.length_drop]
  omega
theorem mix_low (L R : List UInt8) (k i : Nat) (hi : i < k) (hk : k ≤ L.length) : co (mixL L R k) i = co L i := by
  unfold mixL co
  rw [List.getD_eq_getElem?_getD, List.getD_eq_getElem?_getD, List.getElem?_append_left (by rw [List.length_take]; omega), List.getElem?_take, if_pos hi]
theorem mix_set (L R : List UInt8) (k : Nat) (h : L.length = R.length) (hk : k < L.length) : (mixL L R (k + 1)).set k (co R k) = mixL L R k := by
  unfold mixL
  have e : L.take (k + 1) = L.take k ++ [L[k]] := List.take_succ_eq_append_getElem hk
  have e2 : R.drop k = R[k]'(by omega) :: R.drop (k + 1) := List.drop_eq_getElem_cons (by omega)
  have hl : (L.take k).length = k := by rw [List.length_take]; omega
  rw [e, e2, List.append_assoc, List.set_append_right _ _ (by omega), hl, Nat.sub_self, co_lt R k (by omega)]
  rfl
theorem mix_all (L R : List UInt8) (h : L.length = R.length) : mixL L R L.length = L := by
  unfold mixL
  rw [List.take_length, List.drop_of_length_le (by omega), List.append_nil]
theorem mix_none (L R : List UInt8) : mixL L R 0 = R := rfl

def InnR (L R : List UInt8) (gr : Nat) (wb : World) (kv : Value) (wx : World) : Prop :=
  ∃ k : Nat, k + 1 ≤ L.length ∧ kv = .int .i64 (k : Int) ∧ Cel wx gr 5 (mixL L R (k + 1)) ∧ Below wb.heap.size wb wx
def PutR (d G : List UInt8) (n gr : Nat) (wb : World) (iv : Value) (wr : World) : Prop :=
  ∃ j : Nat, j ≤ d.length ∧ iv = .int .i64 (j : Int) ∧ Cel wr gr 5 (runL G n (d.take j)) ∧ Below wb.heap.size wb wr
def twoC (p q : Addr) (a b : Value) (W : World) : Prop := W.cell? p = some a ∧ W.cell? q = some b
theorem run_take (G d : List UInt8) (n j : Nat) (h : j < d.length) : runL G n (d.take (j + 1)) = regL G (runL G n (d.take j)) (xorB (co d j) (co (runL G n (d.take j)) (n - 1))) := by
  rw [List.take_succ_eq_append_getElem h, run_snoc, co_lt d j h]
  rfl

end Go.Proofs.Ytankddeolpickaa
