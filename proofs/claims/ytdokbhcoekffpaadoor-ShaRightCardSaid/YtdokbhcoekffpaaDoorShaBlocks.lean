/-
  The walk of the law ShaBlocks: a text of whole blocks goes on by its blocks alone. Condition: the package's table holds the sixty-four constants.
-/
import Derived.Test.YtdokbhcoekffpaaDoorShaAwake
import Derived.ChangeKeysEq
namespace Go.Proofs.YtdokbhcoekffpaaDoor
open Go.RowKit
set_option linter.unusedSimpArgs false
set_option linter.unusedVariables false

/-- Two arrays of the same words are alike. -/
theorem eql_words {P : Program} (w : World) (t e : TypeId) (n : Nat) {i : TypeInfo} (ht : P.underlying t = some (.array n e)) (he : P.underlying e = some (.int .u32)) (hi : P.info? e = some i) (hc : P.cellsOf e = 1) (L : List UInt32) (hl : L.length = n) :
    (Op.equalIn 10000 t (.agg (L.map vW).toArray) (.agg (L.map vW).toArray)).run P w = .ok true w := by
  rw [run_equalIn_array w 9999 _ _ ht hi, hc]
  have hr : ∀ j ∈ List.range n, j < n := fun j hj => by simpa using hj
  generalize List.range n = is at hr
  induction is with
  | nil => simp [Op.eqItems]
  | cons j is ih =>
    have hj : j < n := hr j (by simp)
    have px : (part e (L.map vW).toArray (j * 1)).run P w = .ok (vW (L.getD j 0)) w := by
      simp [part, isAgg, run_underlying he, List.getD, List.getElem?_eq_getElem (show j < L.length by omega)]
    have pe : (Op.equalIn 9999 e (vW (L.getD j 0)) (vW (L.getD j 0))).run P w = .ok true w := by
      rw [vW, run_equalIn_int w 9998 e .u32 .u32 _ _ he]
      simp
    simp only [Op.eqItems, Sem.run_bind, px, pe, Result.andThen_ok, Bool.not_true, Bool.false_eq_true, if_false]
    exact ih fun k hk => hr k (by simp [hk])
theorem eqIn_st (S : St) (W : World) : (Op.equalIn 10000 23 (.agg #[.int .u32 (S.a.toNat : Int), .int .u32 (S.b.toNat : Int), .int .u32 (S.c.toNat : Int), .int .u32 (S.d.toNat : Int), .int .u32 (S.e.toNat : Int), .int .u32 (S.f.toNat : Int), .int .u32 (S.g.toNat : Int), .int .u32 (S.h.toNat : Int)]) (.agg #[.int .u32 (S.a.toNat : Int), .int .u32 (S.b.toNat : Int), .int .u32 (S.c.toNat : Int), .int .u32 (S.d.toNat : Int), .int .u32 (S.e.toNat : Int), .int .u32 (S.f.toNat : Int), .int .u32 (S.g.toNat : Int), .int .u32 (S.h.toNat : Int)])).run Tryd.prog W = .ok true W := by
  obtain ⟨i0, hi, _, _, _⟩ := info_parts info_u32
  have := eql_words W 23 22 8 Tryd.underlying23 Tryd.underlying22 hi (by kernel_rfl) S.toL rfl
  exact this
theorem eql_st (S : St) (W : World) : (binOp .eql 23 (.agg #[.int .u32 (S.a.toNat : Int), .int .u32 (S.b.toNat : Int), .int .u32 (S.c.toNat : Int), .int .u32 (S.d.toNat : Int), .int .u32 (S.e.toNat : Int), .int .u32 (S.f.toNat : Int), .int .u32 (S.g.toNat : Int), .int .u32 (S.h.toNat : Int)]) (.agg #[.int .u32 (S.a.toNat : Int), .int .u32 (S.b.toNat : Int), .int .u32 (S.c.toNat : Int), .int .u32 (S.d.toNat : Int), .int .u32 (S.e.toNat : Int), .int .u32 (S.f.toNat : Int), .int .u32 (S.g.toNat : Int), .int .u32 (S.h.toNat : Int)])).run Tryd.prog W = .ok (.bool true) W := by
  rw [run_eql_struct, eqIn_st]
  rfl

def ShBRel (s : St) (M : List UInt8) (H : List Value) (w : World) (g : Nat) (i : Value) (wr : World) : Prop :=
  ∃ (q : Nat) (S : St), 64 * q ≤ M.length ∧ i = .int .i64 ((64 * q : Nat) : Int) ∧ s.from M = S.from (M.drop (64 * q)) ∧ Row wr (g + 1) 23 [.int .u32 (S.a.toNat : Int), .int .u32 (S.b.toNat : Int), .int .u32 (S.c.toNat : Int), .int .u32 (S.d.toNat : Int), .int .u32 (S.e.toNat : Int), .int .u32 (S.f.toNat : Int), .int .u32 (S.g.toNat : Int), .int .u32 (S.h.toNat : Int)] ∧ Row wr g 27 H ∧ Below w.heap.size w wr
/-- Behind the call of Block. -/
def ShBCut (S : St) (D : List UInt8) (H : List Value) (w : World) (g : Nat) (v f : Value) (wr : World) : Prop :=
  ∃ (gu : Nat) (T : St), v = .pointer (some ⟨gu, 0, none⟩) ∧ f = .int .i64 0 ∧ Hid (T = S.block D) ∧ Row wr gu 23 [.int .u32 (T.a.toNat : Int), .int .u32 (T.b.toNat : Int), .int .u32 (T.c.toNat : Int), .int .u32 (T.d.toNat : Int), .int .u32 (T.e.toNat : Int), .int .u32 (T.f.toNat : Int), .int .u32 (T.g.toNat : Int), .int .u32 (T.h.toNat : Int)] ∧ Row wr (g + 1) 23 [.int .u32 (S.a.toNat : Int), .int .u32 (S.b.toNat : Int), .int .u32 (S.c.toNat : Int), .int .u32 (S.d.toNat : Int), .int .u32 (S.e.toNat : Int), .int .u32 (S.f.toNat : Int), .int .u32 (S.g.toNat : Int), .int .u32 (S.h.toNat : Int)] ∧ Row wr g 27 H ∧ Below w.heap.size w wr
def rangeS (g : Nat) (l : List Value) (W : World) : Prop := W.rangeAt g 0 l ∧ True

end Go.Proofs.YtdokbhcoekffpaaDoor
