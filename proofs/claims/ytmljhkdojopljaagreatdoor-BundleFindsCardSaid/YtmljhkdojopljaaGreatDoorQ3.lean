/-
  What was revoked, in memory: a slice of structs of two numbers read as a list; kept, cut, its cells one by one. No conditions but those typed.
-/
import Derived.Test.YtmljhkdojopljaaGreatDoorQ2
import Derived.Maps.AppendAt
import Derived.Laws.Concat
import Derived.Laws.Strings
import Derived.Test.YtmljhkdojopljaaGreatDoorRows
import Derived.WalkKit
import Derived.WalkSpells
import Derived.Lib.Hide
import Derived.LoopTactic
import Derived.Test.YtmljhkdojopljaaGreatDoorChecked
import Derived.Lib.AppendZeros
import Derived.Deep.DeepCutAuto
import Derived.Laws.StructEq
import Derived.RangeFuncNested
import Derived.RangeFuncBound
import Derived.RangeFuncCalls
import Derived.RangeFuncLeaves
import Derived.Shelf.Abstract
import Derived.Shelf.RegionOpen
import Derived.OwnWalkIn
import Derived.TacticsInMore
import Derived.LoopNIn
import Derived.LoopIn
namespace Go.Proofs.YtmljhkdojopljaaGreatDoor
set_option maxRecDepth 100000
open Go.RowKit
set_option linter.unusedSimpArgs false
set_option linter.unusedVariables false

def vNG (n : Nat) : Value := .int .u64 (n : Int)
def cellG (g : Gn) : List Value := [vNG g.1, vNG g.2]
def aggG (g : Gn) : Value := .agg #[vNG g.1, vNG g.2]
def cellsG (l : List Gn) : List Value := l.flatMap cellG

/-- The slice with address A has these pairs' cells, one behind the other. -/
def RdG (w : World) (A : Option Addr) (l : List Gn) : Prop :=
  l ≠ [] → ∃ b o, A = some ⟨b, o, none⟩ ∧ ∀ i (h : i < l.length), w.cell? ⟨b, o + i * 2, none⟩ = some (vNG l[i].1) ∧ w.cell? ⟨b, o + i * 2 + 1, none⟩ = some (vNG l[i].2)

theorem cellsG_length : ∀ l : List Gn, (cellsG l).length = l.length * 2
  | [] => rfl
  | x :: l => by
    have := cellsG_length l
    unfold cellsG at *
    rw [List.flatMap_cons, List.length_append, this, List.length_cons]
    simp [cellG]
    omega
theorem cellsG_get : ∀ (l : List Gn) (i : Nat) (h : i < l.length), (cellsG l)[i * 2]? = some (vNG l[i].1) ∧ (cellsG l)[i * 2 + 1]? = some (vNG l[i].2)
  | x :: l, 0, _ => ⟨rfl, rfl⟩
  | x :: l, i + 1, h => by
    have ih := cellsG_get l i (by simpa using h)
    have e : cellsG (x :: l) = vNG x.1 :: vNG x.2 :: cellsG l := rfl
    rw [e, show (i + 1) * 2 = i * 2 + 1 + 1 by omega, List.getElem?_cons_succ, List.getElem?_cons_succ, List.getElem?_cons_succ, List.getElem?_cons_succ]
    exact ih
theorem cellsG_app (l m : List Gn) : cellsG (l ++ m) = cellsG l ++ cellsG m := by unfold cellsG; rw [List.flatMap_append]
theorem cellsG_one : ∀ (l : List Gn), ∀ u ∈ cellsG l, u.oneCell' = true := fun l u hu => by
  obtain ⟨x, _, hx⟩ := List.mem_flatMap.1 hu
  simp [cellG, vNG] at hx
  rcases hx with rfl | rfl <;> rfl
section
variable {w w' : World} {A : Option Addr} {l : List Gn}
theorem RdG.nil : RdG w A [] := fun h => absurd rfl h
theorem RdG.at (h : RdG w A l) {k : Nat} (hk : k < l.length) : ∃ b o, A = some ⟨b, o, none⟩ ∧ b < w.heap.size ∧ ∀ i (h : i < l.length), w.cell? ⟨b, o + i * 2, none⟩ = some (vNG l[i].1) ∧ w.cell? ⟨b, o + i * 2 + 1, none⟩ = some (vNG l[i].2) := by
  obtain ⟨b, o, e, hc⟩ := h (by rintro rfl; simp at hk)
  exact ⟨b, o, e, World.block_lt_of_cell? w _ (hc k hk).1, hc⟩
theorem RdG.keep (h : RdG w A l) (hb : Below w.heap.size w w') : RdG w' A l := fun hn => by
  obtain ⟨b, o, e, hc⟩ := h hn
  refine ⟨b, o, e, fun i hi => ?_⟩
  obtain ⟨h0, h1⟩ := hc i hi
  have hlt := World.block_lt_of_cell? w _ h0
  exact ⟨(hb.cell (p := ⟨b, o + i * 2, none⟩) hlt).trans h0, (hb.cell (p := ⟨b, o + i * 2 + 1, none⟩) hlt).trans h1⟩
theorem RdG.take (h : RdG w A l) (n : Nat) : RdG w A (l.take n) := fun hn => by
  obtain ⟨b, o, e, hc⟩ := h (by rintro rfl; simp at hn)
  refine ⟨b, o, e, fun i hi => ?_⟩
  have hi' : i < l.length := by simp at hi; omega
  have := hc i hi'
  simpa using this
theorem RdG.drop (h : RdG w A l) (k : Nat) (cap : Nat) (hc : l.length ≤ cap) : RdG w (if cap = k then A else A.map (·.add (k * 2))) (l.drop k) := fun hn => by
  have hk : k < l.length := by
    rcases Nat.lt_or_ge k l.length with h | h
    · exact h
    · exact absurd (List.drop_eq_nil_of_le h) hn
  obtain ⟨b, o, e, hcell⟩ := h (by rintro rfl; simp at hk)
  subst e
  rw [if_neg (by omega)]
  refine ⟨b, o + k * 2, by simp [Addr.add], fun i hi => ?_⟩
  have hi' : k + i < l.length := by simp at hi; omega
  obtain ⟨h0, h1⟩ := hcell (k + i) hi'
  rw [Nat.add_mul, ← Nat.add_assoc] at h0 h1
  rw [h0, h1]
  simp
theorem RdG.range {b o : Nat} (h : RdG w (some ⟨b, o, none⟩) l) : ∀ j u, (cellsG l)[j]? = some u → w.cell? ((⟨b, o, none⟩ : Addr).add j) = some u := fun j u hu => by
  have hj : j < l.length * 2 := by
    rw [← cellsG_length]
    exact (List.getElem?_eq_some_iff.1 hu).1
  have hi : j / 2 < l.length := by omega
  obtain ⟨b', o', e, hc⟩ := h (by rintro rfl; simp at hi)
  injection e with e
  injection e with e1 e2 _
  subst e1 e2
  obtain ⟨h0, h1⟩ := hc (j / 2) hi
  obtain ⟨g0, g1⟩ := cellsG_get l (j / 2) hi
  have e1 : (⟨b, o, none⟩ : Addr).add j = ⟨b, o + j, none⟩ := by unfold Addr.add; split <;> simp_all
  rw [e1]
  by_cases hp : j % 2 = 0
  · have e2 : j / 2 * 2 = j := by omega
    rw [e2] at h0 g0
    rw [h0, ← g0, hu]
  · have e2 : j / 2 * 2 + 1 = j := by omega
    rw [Nat.add_assoc, e2] at h1
    rw [e2] at g1
    rw [h1, ← g1, hu]
/-- One pair's two cells. -/
theorem RdG.pair (h : RdG w A l) {k : Nat} (hk : k < l.length) : ∃ b o, A = some ⟨b, o, none⟩ ∧ b < w.heap.size ∧ w.rangeAt b (o + k * 2) (cellG l[k]) ∧ w.cell? ⟨b, o + k * 2, none⟩ = some (vNG l[k].1) ∧ w.cell? ⟨b, o + k * 2 + 1, none⟩ = some (vNG l[k].2) := by
  obtain ⟨b, o, e, hb, hc⟩ := h.at hk
  obtain ⟨h0, h1⟩ := hc k hk
  refine ⟨b, o, e, hb, fun j u hu => ?_, h0, h1⟩
  match j, hu with
  | 0, hu => injection hu with hu; subst hu; exact h0
  | 1, hu => injection hu with hu; subst hu; exact h1
theorem RdG.own {base : Nat} {e : TypeId} {n c : Nat} (h : w.ownsRow base e 2 (.slice A n c) n (cellsG l)) : RdG w A l := fun hn => by
  have hl : l.length = n := by
    have := h.1
    rw [cellsG_length] at this
    omega
  have hpos : 0 < n := by
    rcases Nat.eq_zero_or_pos n with h0 | h0
    · exact absurd (List.eq_nil_of_length_eq_zero (by omega)) hn
    · exact h0
  obtain ⟨g, cap, hv, _, hlt⟩ := h.form hpos
  have hA : A = some ⟨g, 0, none⟩ := by injection hv
  subst hA
  refine ⟨g, 0, rfl, fun i hi => ?_⟩
  obtain ⟨g0, g1⟩ := cellsG_get l i hi
  have h0 := h.cells (g := g) rfl _ _ g0
  have h1 := h.cells (g := g) rfl _ _ g1
  have e1 : ∀ j, (⟨g, 0, none⟩ : Addr).add j = ⟨g, 0 + j, none⟩ := fun j => by unfold Addr.add; split <;> simp_all
  rw [e1] at h0 h1
  exact ⟨h0, h1⟩
theorem own_sliceG {base : Nat} {e : TypeId} {v : Value} (h : w.ownsRow base e 2 v l.length (cellsG l)) : ∃ A cap, v = .slice A l.length cap ∧ l.length ≤ cap ∧ RdG w A l ∧ ∀ a, A = some a → base ≤ a.block := by
  rcases h.2 with ⟨rfl, h0⟩ | ⟨g, cap, cur, rfl, hg, _, hc, _⟩
  · have hl : l = [] := List.eq_nil_of_length_eq_zero h0
    subst hl
    exact ⟨none, 0, rfl, Nat.le_refl _, RdG.nil, fun a h => by cases h⟩
  · exact ⟨_, cap, rfl, hc, RdG.own h, fun a ha => by injection ha with ha; subst ha; exact hg⟩
theorem ownsRowG_same {base : Nat} {e : TypeId} {v : Value} {n : Nat} {xs : List Value} (h : w.ownsRow base e 2 v n xs) (hh : ∀ b, base ≤ b → b < w.heap.size → w'.heap[b]? = w.heap[b]?) : w'.ownsRow base e 2 v n xs := by
  refine ⟨h.1, ?_⟩
  rcases h.2 with h0 | ⟨g, cap, cur, hv, hg, hc, r⟩
  · exact .inl h0
  · exact .inr ⟨g, cap, cur, hv, hg, (hh g hg (Array.getElem?_eq_some_iff.1 hc).1).trans hc, r⟩
theorem ownsRowG_later {base : Nat} {e : TypeId} {v : Value} {n : Nat} {xs : List Value} (h : w.ownsRow base e 2 v n xs) (hb : Below w.heap.size w w') : w'.ownsRow base e 2 v n xs := ownsRowG_same h (fun b _ hb' => hb.block b hb')
theorem ownsRowG_base {base b' : Nat} {e : TypeId} {v : Value} {n : Nat} {xs : List Value} (h : w.ownsRow base e 2 v n xs) (hb : b' ≤ base) : w.ownsRow b' e 2 v n xs :=
  ⟨h.1, h.2.imp id fun ⟨g, cap, cur, h1, h2, h3⟩ => ⟨g, cap, cur, h1, Nat.le_trans hb h2, h3⟩⟩
/-- A pair in a block of its own. -/
theorem Row.gone {g : Nat} {t : TypeId} {x : Gn} (h : Row w g t (cellG x)) : w.cell? ⟨g, 0, none⟩ = some (vNG x.1) ∧ w.cell? ⟨g, 1, none⟩ = some (vNG x.2) := ⟨h.cell rfl, h.cell rfl⟩
end
theorem cellG_one (g : Gn) : ∀ v ∈ cellG g, v.oneCell' = true := fun v hv => by
  simp [cellG, vNG] at hv
  rcases hv with rfl | rfl <;> rfl

/-! ### append of pairs onto a row of the call's own -/
section
variable {P : Program} (w : World)
theorem run_append_nothingG (base : Nat) (t ty e : TypeId) (i : TypeInfo) (ht : P.underlying t = some (.slice e)) (hi : P.info? e = some i)
    (v : Value) (n : Nat) (xs : List Value) (hown : w.ownsRow base e 2 v n xs) (c : Nat) : (Builtin.append_ #[t, t] ty #[v, .slice none 0 c]).run P w = .ok v w := by
  rcases hown.2 with ⟨rfl, rfl⟩ | ⟨g, cap, cur, rfl, _, _, hnc, _⟩
  · simp [Builtin.append_, run_underlying ht, sizeOf, typeInfo, hi, Builtin.lenOf, Builtin.firstCells]
  · simp [Builtin.append_, run_underlying ht, sizeOf, typeInfo, hi, Builtin.lenOf, Builtin.firstCells, hnc, storeCells]
theorem run_append_rdG (base : Nat) (t ty e : TypeId) (i : TypeInfo) (z : Value) (bytes : Nat) (ht : P.underlying t = some (.slice e)) (hi : P.info? e = some i) (hz : i.zero = some z)
    (hsize : i.size = 2) (hby : i.bytes = bytes) (hzs : z.cells.size = 2) (v : Value) (n : Nat) (xs : List Value) (hown : w.ownsRow base e 2 v n xs)
    (A : Option Addr) (l : List Gn) (c : Nat) (hr : RdG w A l)
    (h63 : n + l.length ≤ maxLen) (hbytes : (n + l.length) * bytes ≤ 140737488355328) (hbase : base ≤ w.heap.size) :
    ∃ v' w', (Builtin.append_ #[t, t] ty #[v, .slice A l.length c]).run P w = .ok v' w' ∧ w'.ownsRow base e 2 v' (n + l.length) (xs ++ cellsG l) ∧ w.grownBy w' v.ownBlock ∧ (v'.ownBlock = v.ownBlock ∨ v'.ownBlock = some w.heap.size) := by
  by_cases hl : l = []
  · subst hl
    cases A with
    | none => exact ⟨v, w, run_append_nothingG w base t ty e i ht hi v n xs hown c, by simpa [cellsG] using hown, ⟨rfl, rfl, rfl, Nat.le_refl _, fun _ _ _ => rfl⟩, .inl rfl⟩
    | some ad =>
      obtain ⟨v', w', hrun, h2, h3, _, h4⟩ := run_append_own_at (P := P) w base t ty e i z 2 bytes ht hi hz hsize hby hzs (by omega) v n xs hown ad 0 c [] rfl (fun j u h => by simp at h) (fun u h => by simp at h) h63 hbytes hbase
      exact ⟨v', w', hrun, h2, h3, h4⟩
  · obtain ⟨b, o, rfl, _⟩ := hr hl
    obtain ⟨v', w', hrun, h2, h3, _, h4⟩ := run_append_own_at (P := P) w base t ty e i z 2 bytes ht hi hz hsize hby hzs (by omega) v n xs hown ⟨b, o, none⟩ l.length c (cellsG l) (cellsG_length l) hr.range (cellsG_one l) h63 hbytes hbase
    exact ⟨v', w', hrun, h2, h3, h4⟩
theorem wp_append_rdG {o : Oper} {a : Act} {K : Act → World → Prop} {Q : Exit → Act → World → Prop} (s x : Operand) (t : TypeId)
    (ho : o.op = .call { callee := .builtin .append, args := #[s, x], argTypes := #[t, t] })
    (base : Nat) (e : TypeId) (i : TypeInfo) (z : Value) (bytes : Nat) (ht : P.underlying t = some (.slice e)) (hi : P.info? e = some i) (hz : i.zero = some z)
    (hsize : i.size = 2) (hby : i.bytes = bytes) (hzs : z.cells.size = 2) (v : Value) (n : Nat) (xs : List Value) (hs : a.eval s = v) (hown : w.ownsRow base e 2 v n xs)
    (A : Option Addr) (l : List Gn) (c : Nat) (hx : a.eval x = .slice A l.length c) (hr : RdG w A l)
    (h63 : n + l.length ≤ maxLen) (hbytes : (n + l.length) * bytes ≤ 140737488355328) (hbase : base ≤ w.heap.size)
    (h : ∀ v' w', w'.ownsRow base e 2 v' (n + l.length) (xs ++ cellsG l) → w.grownBy w' v.ownBlock → (v'.ownBlock = v.ownBlock ∨ v'.ownBlock = some w.heap.size) → K (a.put o.dst v') w') : o.wp P a w K Q := by
  obtain ⟨v', w', hr, h2, h3, h4⟩ := run_append_rdG (P := P) w base t o.type e i z bytes ht hi hz hsize hby hzs v n xs hown A l c hr h63 hbytes hbase
  unfold Oper.wp execOp
  simp only [ho, resolve, invoke, builtin, Sem.run_bind, Sem.run_pure, Result.andThen_ok, List.map_toArray, List.map_cons, List.map_nil, hs, hx, hr]
  exact h v' w' h2 h3 h4
theorem wpList_append_rdG {ops : Array Oper} {rest : List Oper} {o : Oper} {a : Act} {Q : Exit → Act → World → Prop} (hgd : o.guard = none) (s x : Operand) (t : TypeId)
    (ho : o.op = .call { callee := .builtin .append, args := #[s, x], argTypes := #[t, t] })
    (base : Nat) (e : TypeId) (i : TypeInfo) (z : Value) (bytes : Nat) (ht : P.underlying t = some (.slice e)) (hi : P.info? e = some i) (hz : i.zero = some z)
    (hsize : i.size = 2) (hby : i.bytes = bytes) (hzs : z.cells.size = 2) (v : Value) (n : Nat) (xs : List Value) (hs : a.eval s = v) (hown : w.ownsRow base e 2 v n xs)
    (A : Option Addr) (l : List Gn) (c : Nat) (hx : a.eval x = .slice A l.length c) (hr : RdG w A l)
    (h63 : n + l.length ≤ maxLen) (hbytes : (n + l.length) * bytes ≤ 140737488355328) (hbase : base ≤ w.heap.size)
    (h : ∀ v' w', w'.ownsRow base e 2 v' (n + l.length) (xs ++ cellsG l) → w.grownBy w' v.ownBlock → (v'.ownBlock = v.ownBlock ∨ v'.ownBlock = some w.heap.size) → wpList P ops Q rest (a.put o.dst v') w') : wpList P ops Q (o :: rest) a w :=
  wpList_plain hgd fun _ hK => wp_append_rdG w s x t ho base e i z bytes ht hi hz hsize hby hzs v n xs hs hown A l c hx hr h63 hbytes hbase fun v' w' h2 h3 h4 => hK _ _ (h v' w' h2 h3 h4)
end
end Go.Proofs.YtmljhkdojopljaaGreatDoor
/-
  A string as a list of bytes: its length, one byte of it, the end of it, two held together (no program is named here). No conditions but those typed.
-/
namespace Go.Proofs.YtmljhkdojopljaaGreatDoor
set_option maxRecDepth 100000
open Go.RowKit
set_option linter.unusedSimpArgs false

def strL (l : List UInt8) : ByteArray := ⟨l.toArray⟩
theorem strL_size (l : List UInt8) : (strL l).size = l.length := by simp [strL, ByteArray.size]
theorem strL_toList (l : List UInt8) : (strL l).toList = l := by unfold strL; exact ByteArray.toList_mk l
theorem strL_append (a b : List UInt8) : strL a ++ strL b = strL (a ++ b) := by
  unfold strL
  apply ByteArray.ext
  rw [ByteArray.data_append]
  simp
theorem strL_inj {a b : List UInt8} (h : strL a = strL b) : a = b := by
  have := congrArg ByteArray.toList h
  rwa [strL_toList, strL_toList] at this
theorem strL_drop (l : List UInt8) (k : Nat) : (strL l).extract k (strL l).size = strL (l.drop k) := by
  apply ByteArray.ext
  rw [ByteArray.data_extract, strL_size]
  simp [strL]
  exact List.take_of_length_le (by simp)
theorem run_index_strL {P : Program} (t : TypeId) (l : List UInt8) (i : Nat) (h : i < l.length) (ht : P.underlying t = some .string) (w : World) :
    (Instr.index t (.string (strL l)) (.int .i64 (i : Int))).run P w = .ok (.int .u8 (l[i].toNat : Int)) w := by
  rw [run_index_string w t (strL l) .i64 (i : Int) ht, dif_pos (by rw [strL_size]; omega)]
  simp [strL, ByteArray.getElem_eq_getElem_data]
theorem run_slice_strL {P : Program} (t : TypeId) (l : List UInt8) (k : Nat) (h : k ≤ l.length) (ht : P.underlying t = some .string) (w : World) :
    (Instr.slice t (.string (strL l)) (some (.int .i64 (k : Int))) none none).run P w = .ok (.string (strL (l.drop k))) w := by
  rw [run_slice_string_l w t (strL l) ht .i64 (k : Int) (by omega) (by rw [strL_size]; omega), Int.toNat_natCast, strL_drop]
end Go.Proofs.YtmljhkdojopljaaGreatDoor
/-
  Entries in memory: a slice of structs of two numbers and a byte slice read as a list; bundles. No conditions but those typed.
-/
namespace Go.Proofs.YtmljhkdojopljaaGreatDoor
set_option maxRecDepth 100000
open Go.RowKit
set_option linter.unusedSimpArgs false
set_option linter.unusedVariables false

/-- An entry that lies somewhere: its numbers, where its seed lies, its room, and what it is. -/
structure ED where
  t : Nat
  e : Nat
  A : Option Addr
  c : Nat
  s : List UInt8
def ED.at2 (x : ED) : Value := .slice x.A x.s.length x.c
def ED.cells (x : ED) : List Value := [vNG x.t, vNG x.e, x.at2]
def ED.con (x : ED) : En := (x.t, x.e, x.s)
def ED.ok (w : World) (x : ED) : Prop := x.s.length ≤ x.c ∧ Rd vB w x.A x.s
def cellsE (xs : List ED) : List Value := xs.flatMap ED.cells
def conE (xs : List ED) : List En := xs.map ED.con
/-- The slice with address A has these entries' cells, one behind the other. -/
def RdE (w : World) (A : Option Addr) (xs : List ED) : Prop :=
  xs ≠ [] → ∃ b o, A = some ⟨b, o, none⟩ ∧ ∀ i (h : i < xs.length), w.cell? ⟨b, o + i * 3, none⟩ = some (vNG xs[i].t) ∧ w.cell? ⟨b, o + i * 3 + 1, none⟩ = some (vNG xs[i].e) ∧ w.cell? ⟨b, o + i * 3 + 2, none⟩ = some xs[i].at2
def okD (w : World) (xs : List ED) : Prop := ∀ x ∈ xs, x.ok w
theorem conE_length (xs : List ED) : (conE xs).length = xs.length := by simp [conE]
theorem conE_get (xs : List ED) (i : Nat) (h : i < xs.length) : (conE xs)[i]'(by rw [conE_length]; exact h) = xs[i].con := by simp [conE]
theorem conE_snoc (xs : List ED) (x : ED) : conE (xs ++ [x]) = conE xs ++ [x.con] := by simp [conE]
theorem cellsE_snoc (xs : List ED) (x : ED) : cellsE (xs ++ [x]) = cellsE xs ++ x.cells := by simp [cellsE]
theorem cellsE_length : ∀ xs : List ED, (cellsE xs).length = xs.length * 3
  | [] => rfl
  | x :: xs => by
    have := cellsE_length xs
    unfold cellsE at *
    rw [List.flatMap_cons, List.length_append, this, List.length_cons]
    simp [ED.cells]
    omega
theorem cellsE_get : ∀ (xs : List ED) (i : Nat) (h : i < xs.length), (cellsE xs)[i * 3]? = some (vNG xs[i].t) ∧ (cellsE xs)[i * 3 + 1]? = some (vNG xs[i].e) ∧ (cellsE xs)[i * 3 + 2]? = some xs[i].at2
  | x :: xs, 0, _ => ⟨rfl, rfl, rfl⟩
  | x :: xs, i + 1, h => by
    have ih := cellsE_get xs i (by simpa using h)
    have e : cellsE (x :: xs) = vNG x.t :: vNG x.e :: x.at2 :: cellsE xs := rfl
    rw [e, show (i + 1) * 3 = i * 3 + 1 + 1 + 1 by omega]
    simp only [List.getElem?_cons_succ]
    exact ih
theorem cellsE_one : ∀ (xs : List ED), ∀ u ∈ cellsE xs, u.oneCell' = true := fun xs u hu => by
  obtain ⟨x, _, hx⟩ := List.mem_flatMap.1 hu
  simp [ED.cells, vNG, ED.at2] at hx
  rcases hx with rfl | rfl | rfl <;> rfl
theorem ED.ok.keep {w w' : World} {x : ED} (h : x.ok w) (hb : Below w.heap.size w w') : x.ok w' := ⟨h.1, h.2.keep hb⟩
theorem okD.keep {w w' : World} {xs : List ED} (h : okD w xs) (hb : Below w.heap.size w w') : okD w' xs := fun x hx => (h x hx).keep hb
theorem okD.app {w : World} {xs ys : List ED} (h : okD w xs) (k : okD w ys) : okD w (xs ++ ys) := fun x hx => (List.mem_append.1 hx).elim (h x) (k x)
theorem okD.nil (w : World) : okD w [] := fun x hx => by cases hx
section
variable {w w' : World} {A : Option Addr} {xs : List ED}
theorem RdE.nil : RdE w A [] := fun h => absurd rfl h
theorem RdE.at (h : RdE w A xs) {k : Nat} (hk : k < xs.length) : ∃ b o, A = some ⟨b, o, none⟩ ∧ b < w.heap.size ∧ ∀ i (h : i < xs.length), w.cell? ⟨b, o + i * 3, none⟩ = some (vNG xs[i].t) ∧ w.cell? ⟨b, o + i * 3 + 1, none⟩ = some (vNG xs[i].e) ∧ w.cell? ⟨b, o + i * 3 + 2, none⟩ = some xs[i].at2 := by
  obtain ⟨b, o, e, hc⟩ := h (by rintro rfl; simp at hk)
  exact ⟨b, o, e, World.block_lt_of_cell? w _ (hc k hk).1, hc⟩
theorem RdE.keep (h : RdE w A xs) (hb : Below w.heap.size w w') : RdE w' A xs := fun hn => by
  obtain ⟨b, o, e, hc⟩ := h hn
  refine ⟨b, o, e, fun i hi => ?_⟩
  obtain ⟨h0, h1, h2⟩ := hc i hi
  have hlt := World.block_lt_of_cell? w _ h0
  exact ⟨(hb.cell (p := ⟨b, o + i * 3, none⟩) hlt).trans h0, (hb.cell (p := ⟨b, o + i * 3 + 1, none⟩) hlt).trans h1, (hb.cell (p := ⟨b, o + i * 3 + 2, none⟩) hlt).trans h2⟩
theorem RdE.range {b o : Nat} (h : RdE w (some ⟨b, o, none⟩) xs) : ∀ j u, (cellsE xs)[j]? = some u → w.cell? ((⟨b, o, none⟩ : Addr).add j) = some u := fun j u hu => by
  have hj : j < xs.length * 3 := by
    rw [← cellsE_length]
    exact (List.getElem?_eq_some_iff.1 hu).1
  have hi : j / 3 < xs.length := by omega
  obtain ⟨b', o', e, hc⟩ := h (by rintro rfl; simp at hi)
  injection e with e
  injection e with e1 e2 _
  subst e1 e2
  obtain ⟨h0, h1, h2⟩ := hc (j / 3) hi
  obtain ⟨g0, g1, g2⟩ := cellsE_get xs (j / 3) hi
  have e1 : (⟨b, o, none⟩ : Addr).add j = ⟨b, o + j, none⟩ := by unfold Addr.add; split <;> simp_all
  rw [e1]
  rcases (by omega : j % 3 = 0 ∨ j % 3 = 1 ∨ j % 3 = 2) with hp | hp | hp
  · have e2 : j / 3 * 3 = j := by omega
    rw [e2] at h0 g0
    rw [h0, ← g0, hu]
  · have e2 : j / 3 * 3 + 1 = j := by omega
    rw [Nat.add_assoc, e2] at h1
    rw [e2] at g1
    rw [h1, ← g1, hu]
  · have e2 : j / 3 * 3 + 2 = j := by omega
    rw [Nat.add_assoc, e2] at h2
    rw [e2] at g2
    rw [h2, ← g2, hu]
/-- One entry's three cells. -/
theorem RdE.one (h : RdE w A xs) {k : Nat} (hk : k < xs.length) : ∃ b o, A = some ⟨b, o, none⟩ ∧ b < w.heap.size ∧ w.rangeAt b (o + k * 3) xs[k].cells ∧ w.cell? ⟨b, o + k * 3, none⟩ = some (vNG xs[k].t) ∧ w.cell? ⟨b, o + k * 3 + 1, none⟩ = some (vNG xs[k].e) ∧ w.cell? ⟨b, o + k * 3 + 2, none⟩ = some xs[k].at2 := by
  obtain ⟨b, o, e, hb, hc⟩ := h.at hk
  obtain ⟨h0, h1, h2⟩ := hc k hk
  refine ⟨b, o, e, hb, fun j u hu => ?_, h0, h1, h2⟩
  match j, hu with
  | 0, hu => injection hu with hu; subst hu; exact h0
  | 1, hu => injection hu with hu; subst hu; exact h1
  | 2, hu => injection hu with hu; subst hu; exact h2
theorem RdE.own {base : Nat} {e : TypeId} {n c : Nat} (h : w.ownsRow base e 3 (.slice A n c) n (cellsE xs)) : RdE w A xs := fun hn => by
  have hl : xs.length = n := by
    have := h.1
    rw [cellsE_length] at this
    omega
  have hpos : 0 < n := by
    rcases Nat.eq_zero_or_pos n with h0 | h0
    · exact absurd (List.eq_nil_of_length_eq_zero (by omega)) hn
    · exact h0
  obtain ⟨g, cap, hv, _, hlt⟩ := h.form hpos
  have hA : A = some ⟨g, 0, none⟩ := by injection hv
  subst hA
  refine ⟨g, 0, rfl, fun i hi => ?_⟩
  obtain ⟨g0, g1, g2⟩ := cellsE_get xs i hi
  have h0 := h.cells (g := g) rfl _ _ g0
  have h1 := h.cells (g := g) rfl _ _ g1
  have h2 := h.cells (g := g) rfl _ _ g2
  have e1 : ∀ j, (⟨g, 0, none⟩ : Addr).add j = ⟨g, 0 + j, none⟩ := fun j => by unfold Addr.add; split <;> simp_all
  rw [e1] at h0 h1 h2
  exact ⟨h0, h1, h2⟩
theorem own_formE {base : Nat} {e : TypeId} {v : Value} {n : Nat} {ys : List Value} (h : w.ownsRow base e 3 v n ys) : ∃ A cap, v = .slice A n cap ∧ n ≤ cap := by
  rcases h.2 with ⟨rfl, rfl⟩ | ⟨g, cap, cur, rfl, _, _, hc, _⟩
  · exact ⟨none, 0, rfl, Nat.le_refl _⟩
  · exact ⟨_, cap, rfl, hc⟩
theorem ownsRowE_same {base : Nat} {e : TypeId} {v : Value} {n : Nat} {ys : List Value} (h : w.ownsRow base e 3 v n ys) (hh : ∀ b, base ≤ b → b < w.heap.size → w'.heap[b]? = w.heap[b]?) : w'.ownsRow base e 3 v n ys := by
  refine ⟨h.1, ?_⟩
  rcases h.2 with h0 | ⟨g, cap, cur, hv, hg, hc, r⟩
  · exact .inl h0
  · exact .inr ⟨g, cap, cur, hv, hg, (hh g hg (Array.getElem?_eq_some_iff.1 hc).1).trans hc, r⟩
theorem ownsRowE_later {base : Nat} {e : TypeId} {v : Value} {n : Nat} {ys : List Value} (h : w.ownsRow base e 3 v n ys) (hb : Below w.heap.size w w') : w'.ownsRow base e 3 v n ys := ownsRowE_same h (fun b _ hb' => hb.block b hb')
end

/-! ### Bundles -/
/-- A bundle that lies somewhere: its version, where its entries lie, and what it is. -/
structure BD where
  v : Nat
  eA : Option Addr
  ec : Nat
  es : List ED
  gA : Option Addr
  gc : Nat
  gs : List Gn
def BD.cells (x : BD) : List Value := [vNG x.v, .slice x.eA x.es.length x.ec, .slice x.gA x.gs.length x.gc]
def BD.agg (x : BD) : Value := .agg #[vNG x.v, .slice x.eA x.es.length x.ec, .slice x.gA x.gs.length x.gc]
structure BD.ok (w : World) (x : BD) : Prop where
  re : RdE w x.eA x.es
  oe : okD w x.es
  rg : RdG w x.gA x.gs
  ce : x.es.length ≤ x.ec
  cg : x.gs.length ≤ x.gc
theorem BD.ok.keep {w w' : World} {x : BD} (h : x.ok w) (hb : Below w.heap.size w w') : x.ok w' := ⟨h.re.keep hb, h.oe.keep hb, h.rg.keep hb, h.ce, h.cg⟩
theorem BD.one (x : BD) : ∀ v ∈ x.cells, v.oneCell' = true := fun v hv => by
  simp [BD.cells, vNG] at hv
  rcases hv with rfl | rfl | rfl <;> rfl
theorem ED.one (x : ED) : ∀ v ∈ x.cells, v.oneCell' = true := fun v hv => by
  simp [ED.cells, vNG, ED.at2] at hv
  rcases hv with rfl | rfl | rfl <;> rfl
/-- The numbers are numbers. -/
structure BD.fit (x : BD) : Prop where
  fv : x.v < 18446744073709551616
  fe : fitE (conE x.es)
  fg : fitG x.gs
end Go.Proofs.YtmljhkdojopljaaGreatDoor
/-
  What cmp.Compare answers at two numbers. No conditions but those typed.
-/
namespace Go.Proofs.YtmljhkdojopljaaGreatDoor
set_option maxRecDepth 100000
open Go.RowKit
set_option linter.unusedSimpArgs false
set_option linter.unusedVariables false

def cmpN (a b : Nat) : Int := if a < b then -1 else if b < a then 1 else 0
theorem isnan_any (a : Nat) (w : World) : Calls Tryz.prog 75 #[.int .u64 (a : Int)] w fun e w' => e = .returned (.bool false) ∧ w = w' := by
  go_enter Tryz.func75, Tryz.ntmps75
  go_wp2_with fail
  go_ret
  exact ⟨rfl, rfl⟩
theorem cmp_any (a b : Nat) (w : World) (ha : a < 18446744073709551616) (hb : b < 18446744073709551616) : Calls Tryz.prog 69 #[.int .u64 (a : Int), .int .u64 (b : Int)] w fun e w' => e = .returned (.int .i64 (cmpN a b)) ∧ w = w' := by
  go_enter Tryz.func69, Tryz.ntmps69
  go_wp2_with (go_at_call 75; refine (isnan_any _ _).mono ?_; rintro e w' ⟨rfl, rfl⟩)
  all_goals go_ret
  all_goals (unfold cmpN; refine ⟨?_, rfl⟩; (repeat' split) <;> first | rfl | omega)
end Go.Proofs.YtmljhkdojopljaaGreatDoor
/-
  What the program's order of two, and the check that a list rises, answer (layer 15). No conditions but those typed.
-/
namespace Go.Proofs.YtmljhkdojopljaaGreatDoor
set_option maxRecDepth 100000
open Go.RowKit
set_option linter.unusedSimpArgs false
set_option linter.unusedVariables false

def ordG (a b : Gn) : Int := if cmpN a.1 b.1 ≠ 0 then cmpN a.1 b.1 else cmpN a.2 b.2
theorem ord_neg (a b : Gn) : ordG a b < 0 ↔ ltG a b = true := by
  rw [ltG_iff]
  unfold ordG cmpN
  split <;> (try split at *) <;> (try split at *) <;> (try split at *) <;> (try split at *) <;> omega
theorem ord_zero (a b : Gn) : ordG a b = 0 ↔ a = b := by
  obtain ⟨a1, a2⟩ := a
  obtain ⟨b1, b2⟩ := b
  rw [Prod.mk.injEq]
  unfold ordG cmpN
  dsimp only
  split <;> (try split at *) <;> (try split at *) <;> (try split at *) <;> (try split at *) <;> omega
theorem ord_small (a b : Gn) : -1 ≤ ordG a b ∧ ordG a b ≤ 1 := by
  unfold ordG cmpN
  split <;> (try split) <;> (try split) <;> omega

/-- The first of two that isn't 0. -/
theorem or_any (x y : Int) (g : Nat) (w : World) (t : TypeId) (hR : Row w g t [.int .i64 x, .int .i64 y]) : Calls Tryz.prog 68 #[.slice (some ⟨g, 0, none⟩) 2 2] w fun e w' => e = .returned (.int .i64 (if x ≠ 0 then x else y)) ∧ w = w' := by
  have c0 := hR.cell (i := 0) rfl
  have c1 := hR.cell (i := 1) rfl
  by_cases hx : x = 0
  · subst hx
    by_cases hy : y = 0
    · subst hy
      go_enter Tryz.func68, Tryz.ntmps68
      go_wp2_with fail
      refine wp_loop_rounds 3 ?_
      iterate 3 (rw [rounds_succ]; go_wp2)
      go_ret
      exact ⟨rfl, rfl⟩
    · go_enter Tryz.func68, Tryz.ntmps68
      go_wp2_with fail
      refine wp_loop_rounds 3 ?_
      iterate 2 (rw [rounds_succ]; go_wp2)
      go_ret
      exact ⟨rfl, rfl⟩
  · go_enter Tryz.func68, Tryz.ntmps68
    go_wp2_with fail
    refine wp_loop_rounds 3 ?_
    rw [rounds_succ]
    go_wp2
    go_ret
    exact ⟨by simp [hx], rfl⟩

theorem order_any (a b : Gn) (w : World) (ha : a.1 < 18446744073709551616 ∧ a.2 < 18446744073709551616) (hb : b.1 < 18446744073709551616 ∧ b.2 < 18446744073709551616) : Calls Tryz.prog 56 #[aggG a, aggG b] w fun e w' => e = .returned (.int .i64 (ordG a b)) ∧ Below w.heap.size w w' := by
  obtain ⟨a1, a2⟩ := a
  obtain ⟨b1, b2⟩ := b
  obtain ⟨ha1, ha2⟩ := ha
  obtain ⟨hb1, hb2⟩ := hb
  dsimp only at ha1 ha2 hb1 hb2
  obtain ⟨r, hr⟩ : ∃ r, ordG (a1, a2) (b1, b2) = r := ⟨_, rfl⟩
  rw [hr]
  have HX := Lib.hid hr
  clear hr
  unfold ordG at HX
  unfold aggG vNG
  dsimp only at HX ⊢
  go_enter Tryz.func56, Tryz.ntmps56
  go_wp2_with fail
  have hR0 : Row (w.alloc (.cells #[.int .u64 (a1 : Int), .int .u64 (a2 : Int)] 60)) w.heap.size 60 [.int .u64 (a1 : Int), .int .u64 (a2 : Int)] := Row.new w _ _ _ rfl
  have hR1 : Row ((w.alloc (.cells #[.int .u64 (a1 : Int), .int .u64 (a2 : Int)] 60)).alloc (.cells #[.int .u64 (b1 : Int), .int .u64 (b2 : Int)] 60)) (w.heap.size + 1) 60 [.int .u64 (b1 : Int), .int .u64 (b2 : Int)] := Row.new_at _ _ (by simp) _ _ _ rfl
  replace hR0 := hR0.alloc (.cells #[.int .u64 (b1 : Int), .int .u64 (b2 : Int)] 60)
  have hB : Below w.heap.size w ((w.alloc (.cells #[.int .u64 (a1 : Int), .int .u64 (a2 : Int)] 60)).alloc (.cells #[.int .u64 (b1 : Int), .int .u64 (b2 : Int)] 60)) := below_new (below_new (Below.refl _ _) _) _
  generalize (w.alloc (.cells #[.int .u64 (a1 : Int), .int .u64 (a2 : Int)] 60)).alloc (.cells #[.int .u64 (b1 : Int), .int .u64 (b2 : Int)] 60) = w3 at hR0 hR1 hB ⊢
  have c0 : ∀ W, Below w3.heap.size w3 W → W.cell? ⟨w.heap.size, 0, none⟩ = some (.int .u64 (a1 : Int)) := fun W hW => (hR0.later hW).cell rfl
  have c1 : ∀ W, Below w3.heap.size w3 W → W.cell? ⟨w.heap.size, 1, none⟩ = some (.int .u64 (a2 : Int)) := fun W hW => (hR0.later hW).cell rfl
  have c2 : ∀ W, Below w3.heap.size w3 W → W.cell? ⟨w.heap.size + 1, 0, none⟩ = some (.int .u64 (b1 : Int)) := fun W hW => (hR1.later hW).cell rfl
  have c3 : ∀ W, Below w3.heap.size w3 W → W.cell? ⟨w.heap.size + 1, 1, none⟩ = some (.int .u64 (b2 : Int)) := fun W hW => (hR1.later hW).cell rfl
  have hBase := (Below.refl w3.heap.size w3).drew
  refine wp_region_plan (.step 0 false (.step 1 false (.step 2 false (.step 3 false (.step 5 false (.step 6 false (.step 7 false (.step 8 false (.step 4 true (.step 9 true (.step 10 true (.step 11 true (.step 12 false (.nil)))))))))))))) (by kernel_rfl) (by kernel_rfl) (by rfl) (by kernel_rfl) ?_
  iterate 8 (refine plan_read rfl (by rfl) (v := ?_) ?_ ?_; rotate_left 1; (intro W hW; have hW0 := below_step hBase hW; (try dsimp only at hW); go_simp <;> with_reducible rfl); simp only [List.getElem_toArray, List.getElem_cons_zero, List.getElem_cons_succ, Act.put, List.setIfInBounds_toArray, List.set_cons_zero, List.set_cons_succ])
  (refine plan_make rfl (by rfl) (fun K hK => ?_); go_simp; (refine (cmp_any a1 b1 _ ha1 hb1).mono ?_; rintro e₁ w4 ⟨rfl, rfl⟩; have hbx := Below.refl w3.drew.heap.size w3.drew); refine hK.out _ _ hbx ?_; clear hK K; replace hBase := below_step hBase hbx)
  (refine plan_make rfl (by rfl) (fun K hK => ?_); go_simp; (refine (cmp_any a2 b2 _ ha2 hb2).mono ?_; rintro e₁ w4 ⟨rfl, rfl⟩; have hbx := Below.refl w3.drew.heap.size w3.drew); refine hK.out _ _ hbx ?_; clear hK K; replace hBase := below_step hBase hbx)
  generalize cmpN a1 b1 = x at HX ⊢
  generalize cmpN a2 b2 = y at HX ⊢
  have hR2 := Row.new w3.drew 3 [.int .i64 x, .int .i64 y] _ rfl
  (refine plan_make rfl (by rfl) (fun K hK => ?_); go_simp; (have hbx := below_new (Below.refl _ w3.drew) (.cells #[.int .i64 x, .int .i64 y] 3)); refine hK.out _ _ hbx ?_; clear hK K; replace hBase := below_step hBase hbx)
  have hor := or_any x y _ _ _ hR2
  rw [HX.out] at hor
  (refine plan_make rfl (by rfl) (fun K hK => ?_); go_simp; (refine hor.mono ?_; clear hor; rintro e₁ w4 ⟨rfl, rfl⟩; have hbx := Below.refl (w3.drew.alloc (.cells #[.int .i64 x, .int .i64 y] 3)).heap.size (w3.drew.alloc (.cells #[.int .i64 x, .int .i64 y] 3))); refine hK.out _ _ hbx ?_; clear hK K; replace hBase := below_step hBase hbx)
  iterate 1 (refine plan_read rfl (by rfl) (v := ?_) ?_ ?_; rotate_left 1; (intro W hW; have hW0 := below_step hBase hW; (try dsimp only at hW); go_simp <;> with_reducible rfl); simp only [List.getElem_toArray, List.getElem_cons_zero, List.getElem_cons_succ, Act.put, List.setIfInBounds_toArray, List.set_cons_zero, List.set_cons_succ])
  refine plan_done ?_
  go_wp2_with fail
  go_ret
  exact ⟨rfl, below_step hB hBase⟩
end Go.Proofs.YtmljhkdojopljaaGreatDoor
/-
  What the program's call Right of layer 15 answers. No conditions but those typed.
-/
namespace Go.Proofs.YtmljhkdojopljaaGreatDoor
set_option maxRecDepth 100000
open Go.RowKit
set_option linter.unusedSimpArgs false
set_option linter.unusedVariables false

theorem sort_at : ∀ l : List Gn, sortG l = true ↔ ∀ k (h : k + 1 < l.length), ltG l[k] l[k + 1] = true
  | [] => by simp [sortG]
  | [a] => by simp [sortG]
  | a :: b :: l => by
    have ih := sort_at (b :: l)
    unfold sortG
    rw [Bool.and_eq_true, ih]
    constructor
    · rintro ⟨h1, h2⟩ k hk
      cases k with
      | zero => exact h1
      | succ k => exact h2 k (by simpa using hk)
    · intro h
      exact ⟨h 0 (by simp), fun k hk => h (k + 1) (by simpa using hk)⟩
abbrev fitN (g : Gn) : Prop := g.1 < 18446744073709551616 ∧ g.2 < 18446744073709551616

set_option maxHeartbeats 1000000 in
theorem rises_any (l : List Gn) (n c : Nat) (A : Option Addr) (w : World) (HN : Hid (l.length = n)) (hr : RdG w A l) (HF : Hid (fitG l)) (hn : n ≤ 1000000000) :
    Calls Tryz.prog 55 #[.slice A n c, .func (.func 56) #[] #[]] w fun e w' => e = .returned (.bool (sortG l)) ∧ Below w.heap.size w w' := by
  go_enter Tryz.func55, Tryz.ntmps55
  go_wp2_with fail
  go_loopw [5] (fun i wr => (∃ k : Nat, 1 ≤ k ∧ i = .int .i64 (k : Int) ∧ k ≤ max 1 n ∧ ∀ j (h : j + 1 < l.length), j + 1 < k → ltG l[j] l[j + 1] = true) ∧ Below w.heap.size w wr) (fun i _ => n - (intOf i).toNat)
  case atStart => exact ⟨⟨1, Nat.le_refl _, rfl, by omega, fun j _ hj => by omega⟩, Below.refl _ _⟩
  case round =>
    obtain ⟨⟨k, hk1, rfl, hk2, hs⟩, hB⟩ := hrel
    by_cases hlt : k < n
    · obtain ⟨m, hm⟩ : ∃ m, m = k - 1 := ⟨_, rfl⟩
      have hw : IntKind.i64.wrap ((k : Int) - 1) = (m : Int) := by rw [IntKind.wrap_i64]; omega
      have hlen := HN.out
      have hka : k - 1 < l.length := by omega
      have hkb : k < l.length := by omega
      obtain ⟨b, o, rfl, hb, hcell⟩ := hr.at hkb
      obtain ⟨p0, p1⟩ := hcell (k - 1) hka
      obtain ⟨q0, q1⟩ := hcell k hkb
      have HP : Hid (fitN l[k - 1]) := HF.out _ (List.getElem_mem hka)
      have HQ : Hid (fitN l[k]) := HF.out _ (List.getElem_mem hkb)
      have HS : Hid (∀ j (h : j + 1 < l.length), j + 1 < k + 1 → (ltG l[k - 1] l[k] = true → ltG l[j] l[j + 1] = true)) := by
        intro j hj hjk h
        by_cases e : j + 1 = k
        · subst e
          exact h
        · exact hs j hj (by omega)
      have HE : Hid (ltG l[k - 1] l[k] = false → sortG l = false) := by
        intro h
        rw [Bool.eq_false_iff]
        intro h2
        have h3 := (sort_at l).1 h2 (k - 1) (by omega)
        have e : k - 1 + 1 = k := by omega
        simp only [e] at h3
        rw [h] at h3
        cases h3
      generalize l[k - 1] = x at p0 p1 HP HS HE
      generalize l[k] = y at q0 q1 HQ HS HE
      obtain ⟨x0, x1⟩ := x
      obtain ⟨y0, y1⟩ := y
      rw [← hm] at p0 p1
      have HM := Lib.hid hm
      unfold vNG at p0 p1 q0 q1
      dsimp only at p0 p1 q0 q1
      have d0 : ∀ W, Below wr.heap.size wr W → W.cell? ⟨b, o + m * 2, none⟩ = some (.int .u64 (x0 : Int)) := fun W hW => ((hB.trans (hW.mono hB.size)).cell (p := ⟨b, o + m * 2, none⟩) hb).trans p0
      have d1 : ∀ W, Below wr.heap.size wr W → W.cell? ⟨b, o + m * 2 + 1, none⟩ = some (.int .u64 (x1 : Int)) := fun W hW => ((hB.trans (hW.mono hB.size)).cell (p := ⟨b, o + m * 2 + 1, none⟩) hb).trans p1
      have d2 : ∀ W, Below wr.heap.size wr W → W.cell? ⟨b, o + k * 2, none⟩ = some (.int .u64 (y0 : Int)) := fun W hW => ((hB.trans (hW.mono hB.size)).cell (p := ⟨b, o + k * 2, none⟩) hb).trans q0
      have d3 : ∀ W, Below wr.heap.size wr W → W.cell? ⟨b, o + k * 2 + 1, none⟩ = some (.int .u64 (y1 : Int)) := fun W hW => ((hB.trans (hW.mono hB.size)).cell (p := ⟨b, o + k * 2 + 1, none⟩) hb).trans q1
      have i0 : (0 : Int) ≤ (m : Int) := by omega
      have i1 : (m : Int) < (n : Int) := by omega
      have i2 : (0 : Int) ≤ (k : Int) := by omega
      have i3 : (k : Int) < (n : Int) := by omega
      have HB := Lib.hid hB
      clear hcell hs p0 p1 q0 q1 hB hlen hm
      go_wp2_with fail
      have hBase := (Below.refl wr.heap.size wr).drew
      refine wp_region_plan (.step 0 false (.step 1 false (.step 2 false (.step 3 false (.step 4 false (.step 5 false (.step 6 false (.step 7 false (.step 8 false (.step 9 false (.step 10 true (.step 11 false (.nil))))))))))))) (by kernel_rfl) (by kernel_rfl) (by rfl) (by kernel_rfl) ?_
      iterate 10 (refine plan_read rfl (by rfl) (v := ?_) ?_ ?_; rotate_left 1; (intro W hW; have hW0 := below_step hBase hW; (try dsimp only at hW); go_simp <;> with_reducible rfl); simp only [List.getElem_toArray, List.getElem_cons_zero, List.getElem_cons_succ, Act.put, List.setIfInBounds_toArray, List.set_cons_zero, List.set_cons_succ])
      (refine plan_make rfl (by rfl) (fun K hK => ?_); go_simp; (refine (order_any (x0, x1) (y0, y1) _ HP.out HQ.out).mono ?_; rintro e₁ w4 ⟨rfl, hbx⟩); refine hK.out _ _ hbx ?_; clear hK K; replace hBase := below_step hBase hbx)
      have hneg := ord_neg (x0, x1) (y0, y1)
      generalize ordG (x0, x1) (y0, y1) = r at hneg ⊢
      by_cases hr0 : 0 ≤ r
      · have hS : sortG l = false := HE.out (by rw [Bool.eq_false_iff]; intro h; have := hneg.2 h; omega)
        have HSR := Lib.hid hS
        clear hneg HS HE hS
        have hd : decide (0 ≤ r) = true := decide_eq_true hr0
        iterate 1 (refine plan_read rfl (by rfl) (v := ?_) ?_ ?_; rotate_left 1; (intro W hW; have hW0 := below_step hBase hW; (try dsimp only at hW); go_simp <;> with_reducible rfl); simp only [List.getElem_toArray, List.getElem_cons_zero, List.getElem_cons_succ, Act.put, List.setIfInBounds_toArray, List.set_cons_zero, List.set_cons_succ])
        refine plan_done ?_
        go_wp2_with fail
        go_ret
        exact ⟨by rw [HSR.out]; rfl, below_step HB.out hBase⟩
      · have hL : ltG (x0, x1) (y0, y1) = true := hneg.1 (by omega)
        clear hneg
        have HB2 := Lib.hid (below_step HB.out hBase)
        have hd : decide (0 ≤ r) = false := decide_eq_false hr0
        iterate 1 (refine plan_read rfl (by rfl) (v := ?_) ?_ ?_; rotate_left 1; (intro W hW; have hW0 := below_step hBase hW; (try dsimp only at hW); go_simp <;> with_reducible rfl); simp only [List.getElem_toArray, List.getElem_cons_zero, List.getElem_cons_succ, Act.put, List.setIfInBounds_toArray, List.set_cons_zero, List.set_cons_succ])
        refine plan_done ?_
        go_wp2_with fail
        go_roundw
        case rel => exact ⟨⟨k + 1, by omega, by go_num, by omega, fun j hj hjk => HS.out j hj hjk hL⟩, HB2.out⟩
        case measure => simp [intOf]; omega
    · have hS : sortG l = true := (sort_at l).2 (fun j hj => hs j hj (by have := HN.out; omega))
      have HSR := Lib.hid hS
      have HB := Lib.hid hB
      have j1 : ¬ (k : Int) < (n : Int) := by omega
      clear hs hB hS
      go_wp2_with fail
      go_ret
      exact ⟨by rw [HSR.out]; rfl, HB.out⟩

theorem right15_any (l : List Gn) (n c : Nat) (A : Option Addr) (w : World) (HN : Hid (l.length = n)) (hr : RdG w A l) (HF : Hid (fitG l)) (hn : n ≤ 1000000000) :
    Calls Tryz.prog 40 #[.slice A n c] w fun e w' => e = .returned (.bool (rightG l)) ∧ Below w.heap.size w w' := by
  by_cases h : n ≤ 64
  · have hR : rightG l = sortG l := by
      unfold rightG
      rw [HN.out, decide_eq_true h, Bool.and_true]
    rw [hR]
    generalize hS : sortG l = S
    have hri := rises_any l n c A
    rw [hS] at hri
    clear hS hR
    go_enter Tryz.func40, Tryz.ntmps40
    go_wp2_with fail
    refine (hri _ HN hr HF hn).mono ?_
    rintro e w1 ⟨rfl, hb1⟩
    go_wp2_with fail
    go_ret
    exact ⟨rfl, hb1⟩
  · have hR : rightG l = false := by
      unfold rightG
      rw [HN.out, decide_eq_false h, Bool.and_false]
    rw [hR]
    go_enter Tryz.func40, Tryz.ntmps40
    go_wp2_with fail
    go_ret
    exact ⟨rfl, Below.refl _ _⟩
end Go.Proofs.YtmljhkdojopljaaGreatDoor
/-
  Structs of three numbers and a slice of bytes (payloads, activations): as cells, as a value, in a block of their own; calls that hand back a list of bytes. No conditions but those typed.
-/
namespace Go.Proofs.YtmljhkdojopljaaGreatDoor
set_option maxRecDepth 100000
open Go.RowKit
set_option linter.unusedSimpArgs false
set_option linter.unusedVariables false

/-- A payload as its cells. -/
def cellsP (t e c : Nat) (A : Option Addr) (n k : Nat) : List Value := [.int .u64 (t : Int), .int .u64 (e : Int), .int .u64 (c : Int), .slice A n k]
def aggP (t e c : Nat) (A : Option Addr) (n k : Nat) : Value := .agg #[.int .u64 (t : Int), .int .u64 (e : Int), .int .u64 (c : Int), .slice A n k]
theorem box_pay (w : World) (ty : TypeId) (a b c d : Value) : Row (w.alloc (.cells #[a, b, c, d] ty)) w.heap.size ty [a, b, c, d] ∧ Below w.heap.size w (w.alloc (.cells #[a, b, c, d] ty)) := ⟨Row.new w ty _ _ rfl, below_new (Below.refl _ _) _⟩
def sameF (t e c : Nat) (g : List UInt8) (t' e' c' : Nat) (g' : List UInt8) : Bool := decide (t = t' ∧ e = e' ∧ c = c' ∧ g = g')
/-- A call that hands back a list of bytes. -/
def RetZ (w : World) (l : List UInt8) (e : Ending) (w' : World) : Prop := ∃ A n c, e = .returned (.slice A n c) ∧ Hid (l.length = n) ∧ n ≤ c ∧ Rd vB w' A l ∧ Below w.heap.size w w'
theorem RetZ.own {w w' : World} {l : List UInt8} {base : Nat} {e : TypeId} {v : Value} {n : Nat} (hn : l.length = n) (h : w'.ownsRow base e 1 v n (l.map vB)) (hb : Below w.heap.size w w') : RetZ w l (.returned v) w' := by
  subst hn
  obtain ⟨A, c, rfl, hc, hr⟩ := own_slice h
  exact ⟨A, l.length, c, rfl, rfl, hc, hr, hb⟩

theorem own_lit (w : World) (e : TypeId) (l : List Value) (cs : Array Value) (h : cs = l.toArray) (hm : l.length ≤ maxLen) : (w.alloc (.cells cs e)).ownsRow w.heap.size e 1 (.slice (some ⟨w.heap.size, 0, none⟩) l.length l.length) l.length l :=
  ⟨by simp, .inr ⟨w.heap.size, l.length, cs, rfl, Nat.le_refl _, heap_alloc_new w _, Nat.le_refl _, hm, by subst h; simp, by subst h; simp⟩⟩
theorem one_four (a b c d : Value) (ha : a.oneCell' = true) (hb : b.oneCell' = true) (hc : c.oneCell' = true) (hd : d.oneCell' = true) : ∀ v ∈ [a, b, c, d], v.oneCell' = true := fun v hv => by
  simp at hv
  rcases hv with rfl | rfl | rfl | rfl <;> assumption
theorem strBz (n : Nat) {w : World} {A : Option Addr} {l : List UInt8} {c : Nat} (H : Hid (l.length = n)) (h : Rd vB w A l) : ∀ W, Below w.heap.size w W → (convert 27 9 (.slice A n c)).run Tryz.prog W = .ok (.string (strL l)) W :=
  fun W hW => run_str W _ _ _ Tryz.underlying27 Tryz.underlying5 Tryz.underlying9 A l n c H.out (h.keep hW)
theorem str_sameB (a b : List UInt8) (S : Bool) (h : (a = b) ↔ S = true) : ((strL a).toList == (strL b).toList) = S := by
  rw [strL_toList, strL_toList, Bool.eq_iff_iff, beq_iff_eq]
  exact h
theorem same_selfP (t e c : Nat) (g : List UInt8) : sameF t e c g t e c g = true := by unfold sameF; simp
end Go.Proofs.YtmljhkdojopljaaGreatDoor
/-
  What word.Put answers, in memory of its own; an array of three numbers, at a place; calls that hand back a list of bytes and an error. No conditions but those typed.
-/
namespace Go.Proofs.YtmljhkdojopljaaGreatDoor
set_option maxRecDepth 100000
open Go.RowKit
set_option linter.unusedSimpArgs false
set_option linter.unusedVariables false

/-- A call that hands back a list of bytes and an error. -/
def RetV (w : World) (l : List UInt8) (k : Int) (e : Ending) (w' : World) : Prop := ∃ A n c, e = .returned (.tuple #[.slice A n c, .int .i64 k]) ∧ Hid (l.length = n) ∧ n ≤ c ∧ Rd vB w' A l ∧ Below w.heap.size w w'

theorem put_new (v : Nat) (hv : v < 18446744073709551616) (w : World) :
    Calls Tryz.prog 24 #[.int .u64 (v : Int)] w (RetN vB w (putL v)) := by
  have hmk : ∀ w, (Instr.makeSlice 27 (.int .i64 8) (.int .i64 8)).run Tryz.prog w = .ok (.slice (some ⟨w.heap.size, 0, none⟩) 8 8) (w.alloc (.cells #[.int .u8 0, .int .u8 0, .int .u8 0, .int .u8 0, .int .u8 0, .int .u8 0, .int .u8 0, .int .u8 0] 5)) := fun _ => by kernel_rfl
  go_enter Tryz.func24, Tryz.ntmps24
  go_wp2
  refine wp_loop_rounds 9 ?_
  iterate 9 (rw [rounds_succ]; go_wp2)
  go_ret
  exact ⟨_, 8, rfl, Nat.le_refl _, Rd.new _ _ _ _ (put_cells v hv), (fun a ha => by injection ha with ha; subst ha; exact Nat.le_refl _), (Below.refl _ _).alloc (Nat.le_refl _) _⟩
theorem put_at (v : Nat) (hv : v < 18446744073709551616) (w : World) : Calls Tryz.prog 24 #[.int .u64 (v : Int)] w fun e w' => ∃ A c, e = .returned (.slice A 8 c) ∧ 8 ≤ c ∧ Rd vB w' A (putL v) ∧ Below w.heap.size w w' :=
  (put_new v hv w).mono fun e w' ⟨A, c, h1, h2, h3, _, h4⟩ => ⟨A, c, h1, h2, h3, h4⟩
theorem cut_mid (A : Option Addr) (n cap lo m : Nat) (h : lo + m ≤ cap) (W : World) : (Instr.slice 27 (.slice A n cap) (some (.int .i64 (lo : Int))) (some (.int .i64 ((lo : Int) + (m : Int)))) none).run Tryz.prog W = .ok (.slice (if cap = lo then A else A.map (·.add (lo * 1))) m (cap - lo)) W := by
  have he : Tryz.prog.elem 27 = 5 := by simp [Program.elem, Tryz.underlying27]
  rw [run_slice_lh W 27 A n cap (by rw [he]; exact Tryz.underlying27) .i64 .i64 (lo : Int) ((lo : Int) + (m : Int)) (by omega) (by omega) (by omega), he, size_uint8]
  simp only [Result.andThen, sliced, Int.toNat_natCast]
  rw [show ((lo : Int) + (m : Int)).toNat - lo = m by omega]
end Go.Proofs.YtmljhkdojopljaaGreatDoor
/-
  append of what reads as a list onto a row of the call's own: the row's block behind it is the one it was, or a new one; blocks known whole stay (no program is named here). No conditions but those typed.
-/
namespace Go.Proofs.YtmljhkdojopljaaGreatDoor
set_option maxRecDepth 100000
open Go.RowKit

theorem Row.grown {w w' : World} {g : Nat} {t : TypeId} {l : List Value} {row : Option Nat} (h : Row w g t l) (hg : w.grownBy w' row) (hn : row ≠ some g) : Row w' g t l :=
  (hg.block g h.lt (fun e => hn e.symm)).trans h
/-- Apart from a block that was there. -/
theorem apart_of {w : World} {v v' : Value} {g : Nat} (h : v.ownBlock ≠ some g) (hg : g < w.heap.size) (hat : v'.ownBlock = v.ownBlock ∨ v'.ownBlock = some w.heap.size) : v'.ownBlock ≠ some g := by
  rcases hat with e | e
  · rw [e]; exact h
  · rw [e]
    intro h
    injection h with h
    omega
section
variable {P : Program} (w : World)
theorem run_append_apart {α : Type} {f : α → Value} (base : Nat) (t ty e : TypeId) (i : TypeInfo) (z : Value) (bytes : Nat) (ht : P.underlying t = some (.slice e)) (hi : P.info? e = some i) (hz : i.zero = some z)
    (hsize : i.size = 1) (hby : i.bytes = bytes) (hzs : z.cells.size = 1) (v : Value) (n : Nat) (xs : List Value) (hown : w.ownsRow base e 1 v n xs)
    (A : Option Addr) (l : List α) (c : Nat) (hr : Rd f w A l) (h1 : ∀ x, (f x).oneCell' = true)
    (h63 : n + l.length ≤ maxLen) (hbytes : (n + l.length) * bytes ≤ 140737488355328) (hbase : base ≤ w.heap.size) :
    ∃ v' w', (Builtin.append_ #[t, t] ty #[v, .slice A l.length c]).run P w = .ok v' w' ∧ w'.ownsRow base e 1 v' (n + l.length) (xs ++ l.map f) ∧ w.grownBy w' v.ownBlock ∧ (v'.ownBlock = v.ownBlock ∨ v'.ownBlock = some w.heap.size) := by
  have hone : ∀ u ∈ l.map f, u.oneCell' = true := by
    intro u hu
    simp only [List.mem_map] at hu
    obtain ⟨x, _, rfl⟩ := hu
    exact h1 x
  by_cases hl : l = []
  · subst hl
    cases A with
    | none => exact ⟨v, w, run_append_nothing_of w base t ty e i ht hi v n xs hown c, by simpa using hown, ⟨rfl, rfl, rfl, Nat.le_refl _, fun _ _ _ => rfl⟩, .inl rfl⟩
    | some ad =>
      obtain ⟨v', w', hrun, h2, h3, _, h4⟩ := run_append_own_at (P := P) w base t ty e i z 1 bytes ht hi hz hsize hby hzs (by omega) v n xs hown ad 0 c [] rfl (fun j u h => by simp at h) (fun u h => by simp at h) h63 hbytes hbase
      exact ⟨v', w', hrun, h2, h3, h4⟩
  · obtain ⟨b, o, rfl, _⟩ := hr hl
    obtain ⟨v', w', hrun, h2, h3, _, h4⟩ := run_append_own_at (P := P) w base t ty e i z 1 bytes ht hi hz hsize hby hzs (by omega) v n xs hown ⟨b, o, none⟩ l.length c (l.map f) (by simp) hr.news hone h63 hbytes hbase
    exact ⟨v', w', hrun, h2, h3, h4⟩

theorem wp_append_apart {α : Type} {f : α → Value} {o : Oper} {a : Act} {K : Act → World → Prop} {Q : Exit → Act → World → Prop} (s x : Operand) (t : TypeId)
    (ho : o.op = .call { callee := .builtin .append, args := #[s, x], argTypes := #[t, t] })
    (base : Nat) (e : TypeId) (i : TypeInfo) (z : Value) (bytes : Nat) (ht : P.underlying t = some (.slice e)) (hi : P.info? e = some i) (hz : i.zero = some z)
    (hsize : i.size = 1) (hby : i.bytes = bytes) (hzs : z.cells.size = 1) (v : Value) (n : Nat) (xs : List Value) (hs : a.eval s = v) (hown : w.ownsRow base e 1 v n xs)
    (A : Option Addr) (l : List α) (c : Nat) (hx : a.eval x = .slice A l.length c) (hr : Rd f w A l) (h1 : ∀ x, (f x).oneCell' = true)
    (h63 : n + l.length ≤ maxLen) (hbytes : (n + l.length) * bytes ≤ 140737488355328) (hbase : base ≤ w.heap.size)
    (h : ∀ v' w', w'.ownsRow base e 1 v' (n + l.length) (xs ++ l.map f) → w.grownBy w' v.ownBlock → (v'.ownBlock = v.ownBlock ∨ v'.ownBlock = some w.heap.size) → K (a.put o.dst v') w') : o.wp P a w K Q := by
  obtain ⟨v', w', hr, h2, h3, h4⟩ := run_append_apart (P := P) w base t o.type e i z bytes ht hi hz hsize hby hzs v n xs hown A l c hr h1 h63 hbytes hbase
  unfold Oper.wp execOp
  simp only [ho, resolve, invoke, builtin, Sem.run_bind, Sem.run_pure, Result.andThen_ok, List.map_toArray, List.map_cons, List.map_nil, hs, hx, hr]
  exact h v' w' h2 h3 h4

theorem wpList_append_apart {α : Type} {f : α → Value} {ops : Array Oper} {rest : List Oper} {o : Oper} {a : Act} {Q : Exit → Act → World → Prop} (hgd : o.guard = none) (s x : Operand) (t : TypeId)
    (ho : o.op = .call { callee := .builtin .append, args := #[s, x], argTypes := #[t, t] })
    (base : Nat) (e : TypeId) (i : TypeInfo) (z : Value) (bytes : Nat) (ht : P.underlying t = some (.slice e)) (hi : P.info? e = some i) (hz : i.zero = some z)
    (hsize : i.size = 1) (hby : i.bytes = bytes) (hzs : z.cells.size = 1) (v : Value) (n : Nat) (xs : List Value) (hs : a.eval s = v) (hown : w.ownsRow base e 1 v n xs)
    (A : Option Addr) (l : List α) (c : Nat) (hx : a.eval x = .slice A l.length c) (hr : Rd f w A l) (h1 : ∀ x, (f x).oneCell' = true)
    (h63 : n + l.length ≤ maxLen) (hbytes : (n + l.length) * bytes ≤ 140737488355328) (hbase : base ≤ w.heap.size)
    (h : ∀ v' w', w'.ownsRow base e 1 v' (n + l.length) (xs ++ l.map f) → w.grownBy w' v.ownBlock → (v'.ownBlock = v.ownBlock ∨ v'.ownBlock = some w.heap.size) → wpList P ops Q rest (a.put o.dst v') w') : wpList P ops Q (o :: rest) a w :=
  wpList_plain hgd fun _ hK => wp_append_apart w s x t ho base e i z bytes ht hi hz hsize hby hzs v n xs hs hown A l c hx hr h1 h63 hbytes hbase fun v' w' h2 h3 h4 => hK _ _ (h v' w' h2 h3 h4)
end
end Go.Proofs.YtmljhkdojopljaaGreatDoor
/-
  What the reference's calls Rot, Value, FromLeast, Put and Bytes answer: the same as the program's, for whatever is given.
-/
namespace Go.Proofs.YtmljhkdojopljaaGreatDoor
set_option maxRecDepth 100000
open Go.RowKit

theorem wordsL_length (l : List UInt8) : 4 * (wordsL l).length ≤ l.length := by
  have := congrArg List.length (bytesL_wordsL l)
  rw [bytesL_length, List.length_take] at this
  omega
theorem rot_one (x : UInt32) : (rotR x 1).toNat = x.toNat / 2 + x.toNat % 2 * 2147483648 := by
  have hx := u32_lt x
  have e : (rotR x 1).toNat = (x.toBitVec >>> 1 ||| x.toBitVec <<< 31).toNat := by
    show (x.toBitVec.rotateRight 1).toNat = _
    rw [BitVec.rotateRight_def]
  rw [e, BitVec.toNat_or, BitVec.toNat_shiftLeft, BitVec.toNat_ushiftRight, Nat.shiftLeft_eq, Nat.shiftRight_eq_div_pow]
  show x.toNat / 2 ^ 1 ||| x.toNat * 2 ^ 31 % 2 ^ 32 = _
  have e2 : x.toNat * 2 ^ 31 % 2 ^ 32 = 2 ^ 31 * (x.toNat % 2) := by omega
  rw [e2, Nat.or_comm, ← Nat.two_pow_add_eq_or_of_lt (by omega)]
  omega
theorem rot_next (x : UInt32) (k : Nat) : rotR x (k + 1) = rotR (rotR x k) 1 := (rotR_rotR x k 1).symm
theorem rot_even (x y : UInt32) (h : x.toNat % 2 = 0) (e : y = rotR x 1) : y.toNat = x.toNat / 2 := by
  rw [e, rot_one]
  omega
theorem rot_odd (x y : UInt32) (h : x.toNat % 2 = 1) (e : y = rotR x 1) : y.toNat = x.toNat / 2 + 2147483648 := by
  rw [e, rot_one]
  omega

def RotRel (x : UInt32) (n : Nat) (u i : Value) : Prop := ∃ k : Nat, k ≤ n ∧ i = .int .i64 k ∧ u = .int .u32 ((rotR x k).toNat : Int)



theorem value_step (a c : Nat) : IntKind.u64.wrap (IntKind.u64.wrap (256 * ((a : Int) % 18446744073709551616)) + (c : Int)) = (((a * 256 + c) % 18446744073709551616 : Nat) : Int) := by
  rw [IntKind.wrap_u64, IntKind.wrap_u64]
  omega
def ValueRel (l : List UInt8) (v i : Value) : Prop := ∃ k : Nat, k ≤ l.length ∧ i = .int .i64 k ∧ v = .int .u64 ((valN (l.take k) % 18446744073709551616 : Nat) : Int)

theorem value_any (l : List UInt8) (A : Option Addr) (cap : Nat) (w : World) (hr : Rd vB w A l) (hl : l.length ≤ 9223372036854775807) :
    Calls Tryz.prog 38 #[.slice A l.length cap] w fun e w' => e = .returned (.int .u64 ((valN l % 18446744073709551616 : Nat) : Int)) ∧ w = w' := by
  go_enter Tryz.func38, Tryz.ntmps38
  go_wp2
  go_loop [3, 4] (fun v i => ValueRel l v i) (fun _ i => l.length - (intOf i).toNat)
  case atStart => exact ⟨0, Nat.zero_le _, rfl, rfl⟩
  case round =>
    obtain ⟨k, hk, rfl, rfl⟩ := hrel
    by_cases hlt : k < l.length
    · obtain ⟨b, o, rfl, hb, hcell⟩ := hr.at hlt
      have hc : w.cell? ⟨b, o + k, none⟩ = some (.int .u8 (l[k].toNat : Int)) := hcell k hlt
      have hb8 : l[k].toNat < 256 := l[k].toNat_lt
      have HT : Hid _ := valN_take l k hlt
      generalize l[k] = c at hc hb8 HT
      clear hcell hr
      go_wp2
      go_round
      case rel =>
        refine ⟨k + 1, by omega, by go_num, ?_⟩
        rw [HT.out, value_step]
      case measure => simp [intOf]; omega
    · have hk' : k = l.length := by omega
      have HK : Hid (l.take k = l) := by rw [hk']; exact List.take_length
      clear hk'
      go_wp2
      go_ret
      exact ⟨ret_int (by rw [HK.out]), rfl⟩


theorem refput_cells (v : Nat) (hv : v < 18446744073709551616) :
    #[Value.int IntKind.u8 ((v : Int) / 256 / 256 / 256 / 256 / 256 / 256 / 256 % 256), Value.int IntKind.u8 ((v : Int) / 256 / 256 / 256 / 256 / 256 / 256 % 256), Value.int IntKind.u8 ((v : Int) / 256 / 256 / 256 / 256 / 256 % 256), Value.int IntKind.u8 ((v : Int) / 256 / 256 / 256 / 256 % 256),
      Value.int IntKind.u8 ((v : Int) / 256 / 256 / 256 % 256), Value.int IntKind.u8 ((v : Int) / 256 / 256 % 256), Value.int IntKind.u8 ((v : Int) / 256 % 256), Value.int IntKind.u8 ((v : Int) % 256)] = ((putL v).map vB).toArray := by
  rw [← put_cells v hv]
  have e7 : (v : Int) / 256 / 256 / 256 / 256 / 256 / 256 / 256 % 256 = (v : Int) / 72057594037927936 := by omega
  have e6 : (v : Int) / 256 / 256 / 256 / 256 / 256 / 256 % 256 = (v : Int) / 281474976710656 % 256 := by omega
  have e5 : (v : Int) / 256 / 256 / 256 / 256 / 256 % 256 = (v : Int) / 1099511627776 % 256 := by omega
  have e4 : (v : Int) / 256 / 256 / 256 / 256 % 256 = (v : Int) / 4294967296 % 256 := by omega
  have e3 : (v : Int) / 256 / 256 / 256 % 256 = (v : Int) / 16777216 % 256 := by omega
  have e2 : (v : Int) / 256 / 256 % 256 = (v : Int) / 65536 % 256 := by omega
  rw [e7, e6, e5, e4, e3, e2]

theorem refput_any (v : Nat) (hv : v < 18446744073709551616) (w : World) :
    Calls Tryz.prog 26 #[.int .u64 (v : Int)] w (RetS vB w (putL v)) := by
  have hmk : ∀ w, (Instr.makeSlice 27 (.int .i64 8) (.int .i64 8)).run Tryz.prog w = .ok (.slice (some ⟨w.heap.size, 0, none⟩) 8 8) (w.alloc (.cells #[.int .u8 0, .int .u8 0, .int .u8 0, .int .u8 0, .int .u8 0, .int .u8 0, .int .u8 0, .int .u8 0] 5)) := fun _ => by kernel_rfl
  go_enter Tryz.func26, Tryz.ntmps26
  go_wp2
  refine wp_loop_rounds 9 ?_
  iterate 9 (rw [rounds_succ]; go_wp2)
  go_ret
  exact ⟨_, 8, rfl, Nat.le_refl _, Rd.new _ _ _ _ (refput_cells v hv), (Below.refl _ _).alloc (Nat.le_refl _) _⟩


end Go.Proofs.YtmljhkdojopljaaGreatDoor
/-
  What slices.Clone, slices.Grow (of nil) and slices.Concat answer at lists of what was revoked: new memory that reads as they did. Conditions: bounds on lengths, as typed.
-/
namespace Go.Proofs.YtmljhkdojopljaaGreatDoor
set_option maxRecDepth 100000
open Go.RowKit
set_option linter.unusedSimpArgs false
set_option linter.unusedVariables false

theorem info_gone : (Tryz.prog.info? 60).map (fun i => (i.zero, i.size, i.bytes)) = some (some (.agg #[.int .u64 0, .int .u64 0]), 2, 16) := by kernel_rfl
theorem size_gone : (Tryz.prog.info? 60).map (·.size) = some 2 := by kernel_rfl
/-- A call that hands back a list in memory of its own. -/
def RetGn (w : World) (l : List Gn) (e : Ending) (w' : World) : Prop := ∃ v, e = .returned v ∧ w'.ownsRow w.heap.size 60 2 v l.length (cellsG l) ∧ Below w.heap.size w w'



/-- A part of what is put together: its memory, its room, its pairs. -/
structure PartG where
  A : Option Addr
  cap : Nat
  l : List Gn
def vPartG (p : PartG) : Value := .slice p.A p.l.length p.cap
def flatP (ps : List PartG) : List Gn := ps.flatMap (·.l)
theorem flatP_take (ps : List PartG) (k : Nat) (h : k < ps.length) : flatP (ps.take (k + 1)) = flatP (ps.take k) ++ ps[k].l := by
  unfold flatP
  rw [List.take_succ_eq_append_getElem h, List.flatMap_append]
  simp
theorem flatP_le (ps : List PartG) (k : Nat) : (flatP (ps.take k)).length ≤ (flatP ps).length := by
  conv => rhs; rw [← List.take_append_drop k ps]
  unfold flatP
  rw [List.flatMap_append, List.length_append]
  omega


end Go.Proofs.YtmljhkdojopljaaGreatDoor
/-
  What the call Bytes of layer 15 answers, the program's and the reference's. No conditions but those typed.
-/
namespace Go.Proofs.YtmljhkdojopljaaGreatDoor
set_option maxRecDepth 100000
open Go.RowKit
set_option linter.unusedSimpArgs false
set_option linter.unusedVariables false

theorem putL_8 (v : Nat) : (putL v).length = 8 := rfl
/-- The number of pairs, and the first k of them. -/
def beG (l : List Gn) (k : Nat) : List UInt8 := UInt8.ofNat l.length :: flatG (l.take k)
theorem beG_length (l : List Gn) (k : Nat) (hk : k ≤ l.length) : (beG l k).length = 1 + 16 * k := by
  unfold beG
  rw [List.length_cons, flat_length, List.length_take]
  omega
theorem beG_next (l : List Gn) (k : Nat) (h : k < l.length) : beG l (k + 1) = beG l k ++ putL l[k].1 ++ putL l[k].2 := by
  unfold beG flatG
  rw [List.take_succ_eq_append_getElem h, List.flatMap_append]
  simp
theorem beG_all (l : List Gn) : beG l l.length = bytesG l := by unfold beG bytesG; rw [List.take_length]
def ByG (l : List Gn) (w : World) (v i : Value) (wr : World) : Prop := ∃ k : Nat, k ≤ l.length ∧ i = .int .i64 (k : Int) ∧ wr.ownsRow w.heap.size 5 1 v (beG l k).length ((beG l k).map vB) ∧ Below w.heap.size w wr
theorem byG_next {l : List Gn} {w wr : World} {v : Value} {k : Nat} (h : k < l.length) (ho : wr.ownsRow w.heap.size 5 1 v ((beG l k).length + 8 + 8) ((beG l k).map vB ++ (putL l[k].1).map vB ++ (putL l[k].2).map vB)) (hB : Below w.heap.size w wr) : ByG l w v (.int .i64 ((k : Int) + 1)) wr := by
  refine ⟨k + 1, by omega, by go_num, ?_, hB⟩
  rw [beG_next l k h, List.map_append, List.map_append, List.length_append, List.length_append, putL_8, putL_8]
  exact ho
theorem byte_len (l : List Gn) (n : Nat) (HN : l.length = n) (h : n ≤ 64) : #[Value.int .u8 (n : Int)] = ((beG l 0).map vB).toArray := by
  unfold beG
  rw [HN]
  simp [flatG, vB, UInt8.toNat_ofNat']
  omega
/-- What Bytes hands back: the bytes, and why there are none. -/
def bytesR (l : List Gn) : List UInt8 × Int := if rightG l = true then (bytesG l, 0) else ([], 1)
theorem bytesR_ok {l : List Gn} (h : rightG l = true) : bytesR l = (bytesG l, 0) := by unfold bytesR; rw [if_pos h]
theorem bytesR_no {l : List Gn} (h : rightG l = false) : bytesR l = ([], 1) := by unfold bytesR; rw [h]; rfl
def RetBy (w : World) (L : List UInt8) (k : Int) (e : Ending) (w' : World) : Prop := ∃ v, e = .returned (.tuple #[v, .int .i64 k]) ∧ w'.ownsRow w.heap.size 5 1 v L.length (L.map vB) ∧ Below w.heap.size w w'
theorem putG_at (v : Nat) (L : List UInt8) (hv : v < 18446744073709551616) (HL : Hid (putL v = L)) (w : World) : Calls Tryz.prog 24 #[.int .u64 (v : Int)] w fun e w' => ∃ A c, e = .returned (.slice A 8 c) ∧ 8 ≤ c ∧ Rd vB w' A L ∧ Below w.heap.size w w' :=
  (put_any v hv w).mono fun e w' ⟨A, c, h1, h2, h3, h4⟩ => ⟨A, c, h1, h2, by rw [← HL.out]; exact h3, h4⟩
theorem refputG_at (v : Nat) (L : List UInt8) (hv : v < 18446744073709551616) (HL : Hid (putL v = L)) (w : World) : Calls Tryz.prog 26 #[.int .u64 (v : Int)] w fun e w' => ∃ A c, e = .returned (.slice A 8 c) ∧ 8 ≤ c ∧ Rd vB w' A L ∧ Below w.heap.size w w' :=
  (refput_any v hv w).mono fun e w' ⟨A, c, h1, h2, h3, h4⟩ => ⟨A, c, h1, h2, by rw [← HL.out]; exact h3, h4⟩

theorem own_apart {w : World} {base : Nat} {e : TypeId} {v : Value} {n : Nat} {xs : List Value} (h : w.ownsRow base e 1 v n xs) : v.ownBlock ≠ some w.heap.size := fun e => by have := (h.lt _ e).2; omega
set_option maxHeartbeats 1000000 in
theorem bytes15_any (l : List Gn) (n c : Nat) (A : Option Addr) (w : World) (HN : Hid (l.length = n)) (hr : RdG w A l) (HF : Hid (fitG l)) (hn : n ≤ 1000000000) :
    Calls Tryz.prog 25 #[.slice A n c] w (RetBy w (bytesR l).1 (bytesR l).2) := by
  obtain ⟨i0, hi, hz0, hz1, hz2⟩ := info_parts info_u8
  obtain ⟨P, hP⟩ : ∃ P, P = bytesR l := ⟨_, rfl⟩
  rw [← hP]
  have HP := Lib.hid hP
  clear hP
  go_enter Tryz.func25, Tryz.ntmps25
  go_wp2_with fail
  refine (right15_any l n c A _ HN hr HF hn).mono ?_
  rintro e w1 ⟨rfl, hb1⟩
  obtain ⟨R, hR⟩ : ∃ R, R = rightG l := ⟨_, rfl⟩
  rw [← hR]
  cases R with
  | false =>
    have HPP : Hid (P = ([], 1)) := HP.out.trans (bytesR_no hR.symm)
    clear hR
    go_wp2_with fail
    go_ret2
    exact ⟨_, by rw [HPP.out]; rfl, by rw [HPP.out]; exact World.ownsRow_nil _ _ _ _, hb1⟩
  | true =>
    have hl64 : l.length ≤ 64 := (right_parts.1 hR.symm).2
    have HPP : Hid (P = (bytesG l, 0)) := HP.out.trans (bytesR_ok hR.symm)
    have e1 := HN.out
    subst e1
    clear hR HN
    have hby := byte_len l l.length rfl hl64
    have HO : Hid ((w1.alloc (.cells #[Value.int .u8 (l.length : Int)] 5)).ownsRow w.heap.size 5 1 (.slice (some ⟨w1.heap.size, 0, none⟩) 1 1) (beG l 0).length ((beG l 0).map vB)) := own_base (own_lit w1 5 ((beG l 0).map vB) _ hby (by unfold maxLen; simp [beG, flatG])) hb1.size
    have HB : Hid (Below w.heap.size w (w1.alloc (.cells #[Value.int .u8 (l.length : Int)] 5))) := below_new hb1 _
    clear hby
    go_upto_region 4 with fail
    generalize w1.alloc (.cells #[Value.int .u8 (l.length : Int)] 5) = w2 at HO HB ⊢
    go_wp2_with fail
    go_loopw [4, 16] (fun v i wr => ByG l w v i wr) (fun _ i _ => l.length - (intOf i).toNat)
    case atStart => exact ⟨0, Nat.zero_le _, rfl, HO.out, HB.out⟩
    case round =>
      clear HO HB
      obtain ⟨k, hk, rfl, hown, hbel⟩ := hrel
      by_cases hlt : k < l.length
      · obtain ⟨b, o, rfl, hb, hrng, _, _⟩ := (hr.keep hbel).pair hlt
        have hx := HF.out _ (List.getElem_mem hlt)
        have HNX := Lib.hid (fun (v : Value) (wr : World) (h) hB => byG_next (w := w) (wr := wr) (v := v) hlt h hB)
        have hbl := beG_length l k hk
        generalize l[k] = x at hrng hx HNX
        obtain ⟨x0, x1⟩ := x
        dsimp only at hx HNX
        generalize beG l k = Lk at hown HNX hbl
        have i2 : (0 : Int) ≤ (k : Int) := by omega
        have i3 : (k : Int) < (l.length : Int) := by omega
        have hR0 : Row (wr.alloc (.cells #[.int .u64 0, .int .u64 0] 60)) wr.heap.size 60 [.int .u64 0, .int .u64 0] := Row.new wr _ _ _ rfl
        unfold cellG vNG at hrng
        dsimp only at hrng
        go_upto_region 7 with (first
          | (refine wpList_load_mid rfl 60 (.tmp 18) rfl b (o + k * 2) rfl [.int .u64 (x0 : Int), .int .u64 (x1 : Int)] _ hrng Tryz.underlying60 rfl (by exact size_gone) ?_)
          | (refine wpList_store_row rfl 60 (.tmp 6) (.tmp 19) rfl wr.heap.size rfl [.int .u64 (x0 : Int), .int .u64 (x1 : Int)] rfl _ _ hR0 (by exact size_gone) rfl (cellG_one (x0, x1)) ?_))
        have hR1 := hR0.setRow [.int .u64 (x0 : Int), .int .u64 (x1 : Int)]
        have hbn : Below wr.heap.size wr ((wr.alloc (.cells #[.int .u64 0, .int .u64 0] 60)).setRow wr.heap.size [.int .u64 (x0 : Int), .int .u64 (x1 : Int)].toArray) := below_setRow (below_new (Below.refl _ _) _) (Nat.le_refl _) _
        generalize (wr.alloc (.cells #[.int .u64 0, .int .u64 0] 60)).setRow wr.heap.size [.int .u64 (x0 : Int), .int .u64 (x1 : Int)].toArray = w3 at hR1 hbn ⊢
        have hap := own_apart hown
        replace hown := ownsRow_later hown hbn
        replace hbel := below_step hbel hbn
        have HBB := Lib.hid hbel
        have hg3 := hR1.lt
        clear hbn hR0 hrng
        generalize wr.heap.size = g1 at hR1 hap hg3 ⊢
        have c0 : w3.cell? ⟨g1, 0, none⟩ = some (.int .u64 (x0 : Int)) := hR1.cell rfl
        have hv1 := hx.1
        have hv2 := hx.2
        have HX := Lib.hid hx
        obtain ⟨L1, hL1⟩ : ∃ L, putL x0 = L := ⟨_, rfl⟩
        obtain ⟨L2, hL2⟩ : ∃ L, putL x1 = L := ⟨_, rfl⟩
        have hl1 : L1.length = 8 := by rw [← hL1]; rfl
        have hl2 : L2.length = 8 := by rw [← hL2]; rfl
        rw [hL1, hL2] at HNX
        have HL1 := Lib.hid hL1
        have HL2 := Lib.hid hL2
        have HN1 := Lib.hid hl1
        have HN2 := Lib.hid hl2
        clear hL1 hL2 hl1 hl2 hx hbel
        go_wp2_with fail
        refine (putG_at x0 L1 HX.out.1 HL1 _).mono ?_
        rintro ee w4 ⟨A1, c1, rfl, hc1, hr1, hb1⟩
        have hown4 := ownsRow_later hown hb1
        have hR4 := hR1.later hb1
        have hB4 := below_step HBB.out hb1
        have hsz4 := hB4.size
        have hg4 := hR4.lt
        clear hown hb1 c0 hR1
        go_wp2_with (at_builtin; refine wpList_append_apart _ rfl (.tmp 20) (.tmp 23) 27 rfl w.heap.size 5 i0 (.int .u8 0) 1 Tryz.underlying27 hi hz0 hz1 hz2 rfl _ _ _ rfl hown4 A1 L1 c1 (by rw [HN1.out]; rfl) hr1 vB_one (by rw [HN1.out]; unfold maxLen; omega) (by rw [HN1.out]; omega) (by omega) ?_; intro v5 w5 hown5 hgrow5 hat5; have hR5 := hR4.grown hgrow5 hap; have hap5 := apart_of hap hg4 hat5; have hB5 := hB4.grown hgrow5 hsz4 (fun k hk => (hown4.lt k hk).1); have c1' : w5.cell? ⟨g1, 1, none⟩ = some (.int .u64 (x1 : Int)) := hR5.cell rfl)
        refine (putG_at x1 L2 HX.out.2 HL2 _).mono ?_
        rintro ee w6 ⟨A2, c2, rfl, hc2, hr2, hb2⟩
        have hown6 := ownsRow_later hown5 hb2
        have hB6 := below_step hB5 hb2
        have hsz6 := hB6.size
        clear hown5 hb2 c1' hR5 hgrow5 hown4 hB4 hat5
        go_wp2_with (at_builtin; refine wpList_append_apart _ rfl (.tmp 25) (.tmp 28) 27 rfl w.heap.size 5 i0 (.int .u8 0) 1 Tryz.underlying27 hi hz0 hz1 hz2 rfl _ _ _ rfl hown6 A2 L2 c2 (by rw [HN2.out]; rfl) hr2 vB_one (by rw [HN2.out, HN1.out]; unfold maxLen; omega) (by rw [HN2.out, HN1.out]; omega) (by omega) ?_; intro v7 w7 hown7 hgrow7 hat7)
        have hB7 := hB6.grown hgrow7 hsz6 (fun k hk => (hown6.lt k hk).1)
        go_roundw
        case rel => exact HNX.out _ _ (by rw [HN1.out, HN2.out] at hown7; exact hown7) hB7
        case measure => simp [intOf]; omega
      · have hkl : k = l.length := by omega
        subst hkl
        rw [beG_all] at hown
        have HOW := Lib.hid hown
        have HB := Lib.hid hbel
        clear hown hbel
        go_wp2_with fail
        go_ret2
        exact ⟨_, by rw [HPP.out]; rfl, by rw [HPP.out]; exact HOW.out, HB.out⟩
end Go.Proofs.YtmljhkdojopljaaGreatDoor
/-
  Two that were revoked held against each other, and what the program's call Has of layer 15 answers. No conditions but those typed.
-/
namespace Go.Proofs.YtmljhkdojopljaaGreatDoor
set_option maxRecDepth 100000
open Go.RowKit
set_option linter.unusedSimpArgs false
set_option linter.unusedVariables false

theorem eq_gone (a b c d : Nat) (w : World) : (binOp .eql 60 (.agg #[.int .u64 (a : Int), .int .u64 (b : Int)]) (.agg #[.int .u64 (c : Int), .int .u64 (d : Int)])).run Tryz.prog w = .ok (.bool (decide ((a, b) = (c, d)))) w := by
  have u3 := Tryz.underlying22
  have a3 := Tryz.isAgg22
  have z3 := Tryz.sizeOf22
  have hS : Tryz.prog.underlying 60 = some (.struct (Tryz.prog.fieldsOf 60)) := by kernel_rfl
  have hp : Tryz.prog.stoodInHeld 60 = false := by kernel_rfl
  rw [run_eql_struct, show (10000 : Nat) = 9999 + 1 from rfl, run_equalIn_agg w 9999 60 _ _ hS hp]
  simp only [Program.fieldsOf, Tryz.underlying60]
  go_simp
  by_cases h1 : a = c <;> by_cases h2 : b = d <;> simp [h1, h2] <;> omega
theorem neq_gone (a b c d : Nat) (w : World) : (binOp .neq 60 (.agg #[.int .u64 (a : Int), .int .u64 (b : Int)]) (.agg #[.int .u64 (c : Int), .int .u64 (d : Int)])).run Tryz.prog w = .ok (.bool (!decide ((a, b) = (c, d)))) w := by
  have u3 := Tryz.underlying22
  have a3 := Tryz.isAgg22
  have z3 := Tryz.sizeOf22
  have hS : Tryz.prog.underlying 60 = some (.struct (Tryz.prog.fieldsOf 60)) := by kernel_rfl
  have hp : Tryz.prog.stoodInHeld 60 = false := by kernel_rfl
  rw [run_neq_struct, show (10000 : Nat) = 9999 + 1 from rfl, run_equalIn_agg w 9999 60 _ _ hS hp]
  simp only [Program.fieldsOf, Tryz.underlying60]
  go_simp
  by_cases h1 : a = c <;> by_cases h2 : b = d <;> simp [h1, h2] <;> omega
theorem guard_gone (op : BinOp) (x y : Operand) (xs ys : Array Value) (w : World) : (eqGuard op 60 x y (.agg xs) (.agg ys)).run Tryz.prog w = .ok () w := run_eqGuard_agg w op 60 x y xs ys (by kernel_rfl)

end Go.Proofs.YtmljhkdojopljaaGreatDoor
/-
  What the reference of layer 15 answers: Less, Right, Has, Same, Bytes. No conditions but those typed.
-/
namespace Go.Proofs.YtmljhkdojopljaaGreatDoor
set_option maxRecDepth 100000
open Go.RowKit
set_option linter.unusedSimpArgs false
set_option linter.unusedVariables false

theorem less_any (a b : Gn) (w : World) : Calls Tryz.prog 49 #[aggG a, aggG b] w fun e w' => e = .returned (.bool (ltG a b)) ∧ Below w.heap.size w w' := by
  obtain ⟨a1, a2⟩ := a
  obtain ⟨b1, b2⟩ := b
  obtain ⟨r, hr⟩ : ∃ r, ltG (a1, a2) (b1, b2) = r := ⟨_, rfl⟩
  rw [hr]
  have HX := Lib.hid hr
  clear hr
  unfold aggG vNG
  dsimp only
  have hR0 : Row (w.alloc (.cells #[.int .u64 (a1 : Int), .int .u64 (a2 : Int)] 60)) w.heap.size 60 [.int .u64 (a1 : Int), .int .u64 (a2 : Int)] := Row.new w _ _ _ rfl
  have hR1 : Row ((w.alloc (.cells #[.int .u64 (a1 : Int), .int .u64 (a2 : Int)] 60)).alloc (.cells #[.int .u64 (b1 : Int), .int .u64 (b2 : Int)] 60)) (w.heap.size + 1) 60 [.int .u64 (b1 : Int), .int .u64 (b2 : Int)] := Row.new_at _ _ (by simp) _ _ _ rfl
  replace hR0 := hR0.alloc (.cells #[.int .u64 (b1 : Int), .int .u64 (b2 : Int)] 60)
  have hB : Below w.heap.size w ((w.alloc (.cells #[.int .u64 (a1 : Int), .int .u64 (a2 : Int)] 60)).alloc (.cells #[.int .u64 (b1 : Int), .int .u64 (b2 : Int)] 60)) := below_new (below_new (Below.refl _ _) _) _
  go_enter Tryz.func49, Tryz.ntmps49
  go_upto_region 1 with fail
  generalize (w.alloc (.cells #[.int .u64 (a1 : Int), .int .u64 (a2 : Int)] 60)).alloc (.cells #[.int .u64 (b1 : Int), .int .u64 (b2 : Int)] 60) = w3 at hR0 hR1 hB ⊢
  have c0 := hR0.cell (i := 0) rfl
  have c1 := hR0.cell (i := 1) rfl
  have c2 := hR1.cell (i := 0) rfl
  have c3 := hR1.cell (i := 1) rfl
  have HB := Lib.hid hB
  clear hR0 hR1 hB
  by_cases h1 : a1 < b1
  · have HT : Hid (r = true) := by unfold Hid; rw [← HX.out, ltG_iff]; exact .inl h1
    go_wp2_with fail
    go_ret
    exact ⟨by rw [HT.out]; rfl, HB.out⟩
  · by_cases h2 : a1 = b1
    · by_cases h3 : a2 < b2
      · have HT : Hid (r = true) := by unfold Hid; rw [← HX.out, ltG_iff]; exact .inr ⟨h2, h3⟩
        go_wp2_with fail
        go_ret
        exact ⟨by rw [HT.out]; rfl, HB.out⟩
      · have HT : Hid (r = false) := by
          unfold Hid
          rw [← HX.out, Bool.eq_false_iff, Ne, ltG_iff]
          dsimp only
          omega
        go_wp2_with fail
        go_ret
        exact ⟨by rw [HT.out]; rfl, HB.out⟩
    · have HT : Hid (r = false) := by
        unfold Hid
        rw [← HX.out, Bool.eq_false_iff, Ne, ltG_iff]
        dsimp only
        omega
      go_wp2_with fail
      go_ret
      exact ⟨by rw [HT.out]; rfl, HB.out⟩

set_option maxHeartbeats 1000000 in
theorem refright15_any (l : List Gn) (n c : Nat) (A : Option Addr) (w : World) (HN : Hid (l.length = n)) (hr : RdG w A l) (hn : n ≤ 1000000000) :
    Calls Tryz.prog 23 #[.slice A n c] w fun e w' => e = .returned (.bool (rightG l)) ∧ Below w.heap.size w w' := by
  obtain ⟨P, hP⟩ : ∃ P, rightG l = P := ⟨_, rfl⟩
  rw [hP]
  have HP := Lib.hid hP
  clear hP
  go_enter Tryz.func23, Tryz.ntmps23
  go_wp2_with fail
  go_loopw [3] (fun i wr => (∃ k : Nat, 1 ≤ k ∧ i = .int .i64 (k : Int) ∧ k ≤ max 1 n ∧ ∀ j (h : j + 1 < l.length), j + 1 < k → ltG l[j] l[j + 1] = true) ∧ Below w.heap.size w wr) (fun i _ => n - (intOf i).toNat)
  case atStart => exact ⟨⟨1, Nat.le_refl _, rfl, by omega, fun j _ hj => by omega⟩, Below.refl _ _⟩
  case round =>
    obtain ⟨⟨k, hk1, rfl, hk2, hs⟩, hB⟩ := hrel
    by_cases hlt : k < n
    · obtain ⟨m, hm⟩ : ∃ m, m = k - 1 := ⟨_, rfl⟩
      have hw : IntKind.i64.wrap ((k : Int) - 1) = (m : Int) := by rw [IntKind.wrap_i64]; omega
      have hlen := HN.out
      have hka : k - 1 < l.length := by omega
      have hkb : k < l.length := by omega
      obtain ⟨b, o, rfl, hb, hcell⟩ := hr.at hkb
      obtain ⟨p0, p1⟩ := hcell (k - 1) hka
      obtain ⟨q0, q1⟩ := hcell k hkb
      have HS : Hid (∀ j (h : j + 1 < l.length), j + 1 < k + 1 → (ltG l[k - 1] l[k] = true → ltG l[j] l[j + 1] = true)) := by
        intro j hj hjk h
        by_cases e : j + 1 = k
        · subst e
          exact h
        · exact hs j hj (by omega)
      have HE : Hid (ltG l[k - 1] l[k] = false → rightG l = false) := by
        intro h
        rw [Bool.eq_false_iff]
        intro h2
        unfold rightG at h2
        rw [Bool.and_eq_true] at h2
        have h3 := (sort_at l).1 h2.1 (k - 1) (by omega)
        have e : k - 1 + 1 = k := by omega
        simp only [e] at h3
        rw [h] at h3
        cases h3
      generalize l[k - 1] = x at p0 p1 HS HE
      generalize l[k] = y at q0 q1 HS HE
      obtain ⟨x0, x1⟩ := x
      obtain ⟨y0, y1⟩ := y
      rw [← hm] at p0 p1
      have HM := Lib.hid hm
      unfold vNG at p0 p1 q0 q1
      dsimp only at p0 p1 q0 q1
      have d0 : ∀ W, Below wr.heap.size wr W → W.cell? ⟨b, o + m * 2, none⟩ = some (.int .u64 (x0 : Int)) := fun W hW => ((hB.trans (hW.mono hB.size)).cell (p := ⟨b, o + m * 2, none⟩) hb).trans p0
      have d1 : ∀ W, Below wr.heap.size wr W → W.cell? ⟨b, o + m * 2 + 1, none⟩ = some (.int .u64 (x1 : Int)) := fun W hW => ((hB.trans (hW.mono hB.size)).cell (p := ⟨b, o + m * 2 + 1, none⟩) hb).trans p1
      have d2 : ∀ W, Below wr.heap.size wr W → W.cell? ⟨b, o + k * 2, none⟩ = some (.int .u64 (y0 : Int)) := fun W hW => ((hB.trans (hW.mono hB.size)).cell (p := ⟨b, o + k * 2, none⟩) hb).trans q0
      have d3 : ∀ W, Below wr.heap.size wr W → W.cell? ⟨b, o + k * 2 + 1, none⟩ = some (.int .u64 (y1 : Int)) := fun W hW => ((hB.trans (hW.mono hB.size)).cell (p := ⟨b, o + k * 2 + 1, none⟩) hb).trans q1
      have i0 : (0 : Int) ≤ (m : Int) := by omega
      have i1 : (m : Int) < (n : Int) := by omega
      have i2 : (0 : Int) ≤ (k : Int) := by omega
      have i3 : (k : Int) < (n : Int) := by omega
      have HB := Lib.hid hB
      clear hcell hs p0 p1 q0 q1 hB hlen hm
      go_wp2_with fail
      have hBase := (Below.refl wr.heap.size wr).drew
      refine wp_region_plan (.step 0 false (.step 1 false (.step 2 false (.step 3 false (.step 4 false (.step 5 false (.step 6 false (.step 7 false (.step 8 false (.step 9 true (.step 10 false (.nil)))))))))))) (by kernel_rfl) (by kernel_rfl) (by rfl) (by kernel_rfl) ?_
      iterate 9 (refine plan_read rfl (by rfl) (v := ?_) ?_ ?_; rotate_left 1; (intro W hW; have hW0 := below_step hBase hW; (try dsimp only at hW); go_simp <;> with_reducible rfl); simp only [List.getElem_toArray, List.getElem_cons_zero, List.getElem_cons_succ, Act.put, List.setIfInBounds_toArray, List.set_cons_zero, List.set_cons_succ])
      (refine plan_make rfl (by rfl) (fun K hK => ?_); go_simp; (refine (less_any (x0, x1) (y0, y1) _).mono ?_; rintro e₁ w4 ⟨rfl, hbx⟩); refine hK.out _ _ hbx ?_; clear hK K; replace hBase := below_step hBase hbx)
      obtain ⟨r, hr0⟩ : ∃ r, ltG (x0, x1) (y0, y1) = r := ⟨_, rfl⟩
      rw [hr0] at HS HE ⊢
      clear hr0
      have HB2 := Lib.hid (below_step HB.out hBase)
      cases r with
      | false =>
        have HSR : Hid (P = false) := HP.out.symm.trans (HE.out rfl)
        iterate 1 (refine plan_read rfl (by rfl) (v := ?_) ?_ ?_; rotate_left 1; (intro W hW; have hW0 := below_step hBase hW; (try dsimp only at hW); go_simp <;> with_reducible rfl); simp only [List.getElem_toArray, List.getElem_cons_zero, List.getElem_cons_succ, Act.put, List.setIfInBounds_toArray, List.set_cons_zero, List.set_cons_succ])
        refine plan_done ?_
        go_wp2_with fail
        go_ret
        exact ⟨by rw [HSR.out]; rfl, HB2.out⟩
      | true =>
        have HS2 := Lib.hid (fun j hj hjk => HS.out j hj hjk rfl)
        iterate 1 (refine plan_read rfl (by rfl) (v := ?_) ?_ ?_; rotate_left 1; (intro W hW; have hW0 := below_step hBase hW; (try dsimp only at hW); go_simp <;> with_reducible rfl); simp only [List.getElem_toArray, List.getElem_cons_zero, List.getElem_cons_succ, Act.put, List.setIfInBounds_toArray, List.set_cons_zero, List.set_cons_succ])
        refine plan_done ?_
        go_wp2_with fail
        go_roundw
        case rel => exact ⟨⟨k + 1, by omega, by go_num, by omega, fun j hj hjk => HS2.out j hj hjk⟩, HB2.out⟩
        case measure => simp [intOf]; omega
    · have HSR : Hid (P = decide ((n : Int) < 65)) := by
        unfold Hid
        have : sortG l = true := (sort_at l).2 (fun j hj => hs j hj (by have := HN.out; omega))
        rw [← HP.out]
        unfold rightG
        rw [this, HN.out, Bool.true_and, decide_eq_decide]
        omega
      have HB := Lib.hid hB
      have j1 : ¬ (k : Int) < (n : Int) := by omega
      clear hs hB
      go_wp2_with fail
      go_ret
      exact ⟨by rw [HSR.out]; rfl, HB.out⟩


set_option maxHeartbeats 1000000 in
theorem same15_any (l m : List Gn) (n k c d : Nat) (A B : Option Addr) (w : World) (HN : Hid (l.length = n)) (HM : Hid (m.length = k)) (hr : RdG w A l) (hs : RdG w B m) (hn : n ≤ 1000000000) :
    Calls Tryz.prog 41 #[.slice A n c, .slice B k d] w fun e w' => e = .returned (.bool (decide (l = m))) ∧ Below w.heap.size w w' := by
  obtain ⟨P, hP⟩ : ∃ P, decide (l = m) = P := ⟨_, rfl⟩
  rw [hP]
  have HP := Lib.hid hP
  clear hP
  by_cases hnk : n = k
  · subst hnk
    go_enter Tryz.func41, Tryz.ntmps41
    go_wp2_with fail
    go_loopw [5] (fun i wr => (∃ j : Nat, i = .int .i64 (j : Int) ∧ j ≤ n ∧ l.take j = m.take j) ∧ Below w.heap.size w wr) (fun i _ => n - (intOf i).toNat)
    case atStart => exact ⟨⟨0, rfl, by omega, by simp⟩, Below.refl _ _⟩
    case round =>
      obtain ⟨⟨j, rfl, hj, htk⟩, hB⟩ := hrel
      by_cases hlt : j < n
      · have hjl : j < l.length := by rw [HN.out]; exact hlt
        have hjm : j < m.length := by rw [HM.out]; exact hlt
        obtain ⟨b, o, rfl, hb, _, p0, p1⟩ := hr.pair hjl
        obtain ⟨b2, o2, rfl, hb2, _, q0, q1⟩ := hs.pair hjm
        replace p0 := (hB.cell (p := ⟨b, o + j * 2, none⟩) hb).trans p0
        replace p1 := (hB.cell (p := ⟨b, o + j * 2 + 1, none⟩) hb).trans p1
        replace q0 := (hB.cell (p := ⟨b2, o2 + j * 2, none⟩) hb2).trans q0
        replace q1 := (hB.cell (p := ⟨b2, o2 + j * 2 + 1, none⟩) hb2).trans q1
        have HT : Hid (l[j] = m[j] → l.take (j + 1) = m.take (j + 1)) := fun h => by
          rw [List.take_succ_eq_append_getElem hjl, List.take_succ_eq_append_getElem hjm, htk, h]
        have HI : Hid (¬ l[j] = m[j] → decide (l = m) = false) := fun h => by
          rw [decide_eq_false_iff_not]
          intro e
          subst e
          exact h rfl
        generalize l[j] = x at p0 p1 HT HI
        generalize m[j] = y at q0 q1 HT HI
        obtain ⟨x0, x1⟩ := x
        obtain ⟨y0, y1⟩ := y
        unfold vNG at p0 p1 q0 q1
        dsimp only at p0 p1 q0 q1
        have d0 : ∀ W, Below wr.heap.size wr W → W.cell? ⟨b, o + j * 2, none⟩ = some (.int .u64 (x0 : Int)) := fun W hW => (hW.cell (p := ⟨b, o + j * 2, none⟩) (World.block_lt_of_cell? wr _ p0)).trans p0
        have d1 : ∀ W, Below wr.heap.size wr W → W.cell? ⟨b, o + j * 2 + 1, none⟩ = some (.int .u64 (x1 : Int)) := fun W hW => (hW.cell (p := ⟨b, o + j * 2 + 1, none⟩) (World.block_lt_of_cell? wr _ p1)).trans p1
        have d2 : ∀ W, Below wr.heap.size wr W → W.cell? ⟨b2, o2 + j * 2, none⟩ = some (.int .u64 (y0 : Int)) := fun W hW => (hW.cell (p := ⟨b2, o2 + j * 2, none⟩) (World.block_lt_of_cell? wr _ q0)).trans q0
        have d3 : ∀ W, Below wr.heap.size wr W → W.cell? ⟨b2, o2 + j * 2 + 1, none⟩ = some (.int .u64 (y1 : Int)) := fun W hW => (hW.cell (p := ⟨b2, o2 + j * 2 + 1, none⟩) (World.block_lt_of_cell? wr _ q1)).trans q1
        have i2 : (0 : Int) ≤ (j : Int) := by omega
        have i3 : (j : Int) < (n : Int) := by omega
        have hq := fun W => neq_gone x0 x1 y0 y1 W
        have HQ : Hid (decide ((x0, x1) = (y0, y1)) = true ↔ (x0, x1) = (y0, y1)) := by unfold Hid; rw [decide_eq_true_iff]
        generalize decide ((x0, x1) = (y0, y1)) = r at hq HQ
        have hgd := fun op x y xs ys W => guard_gone op x y xs ys W
        have HB := Lib.hid hB
        clear hB htk p0 p1 q0 q1
        go_wp2_with fail
        have hBase := (Below.refl wr.heap.size wr).drew
        refine wp_region_plan (.step 0 false (.step 1 false (.step 2 false (.step 3 false (.step 4 false (.step 5 false (.step 6 false (.step 7 false (.step 8 false (.nil)))))))))) (by kernel_rfl) (by kernel_rfl) (by rfl) (by kernel_rfl) ?_
        iterate 9 (refine plan_read rfl (by rfl) (v := ?_) ?_ ?_; rotate_left 1; (intro W hW; have hW0 := below_step hBase hW; (try dsimp only at hW); go_simp <;> with_reducible rfl); simp only [List.getElem_toArray, List.getElem_cons_zero, List.getElem_cons_succ, Act.put, List.setIfInBounds_toArray, List.set_cons_zero, List.set_cons_succ])
        refine plan_done ?_
        have HB2 := Lib.hid (below_step HB.out hBase)
        cases r with
        | true =>
          have HT2 := Lib.hid (HT.out (HQ.out.1 rfl))
          go_wp2_with fail
          go_roundw
          case rel => exact ⟨⟨j + 1, by go_num, by omega, HT2.out⟩, HB2.out⟩
          case measure => simp [intOf]; omega
        | false =>
          have HH : Hid (P = false) := HP.out.symm.trans (HI.out (fun h => by have := HQ.out.2 h; cases this))
          go_wp2_with fail
          go_ret
          exact ⟨by rw [HH.out]; rfl, HB2.out⟩
      · have HH : Hid (P = true) := by
          unfold Hid
          rw [← HP.out, decide_eq_true_iff]
          have : j = n := by omega
          subst this
          have h1 := List.take_of_length_le (l := l) (i := j) (by rw [HN.out]; exact Nat.le_refl _)
          have h2 := List.take_of_length_le (l := m) (i := j) (by rw [HM.out]; exact Nat.le_refl _)
          rw [← h1, ← h2, htk]
        have j1 : ¬ (j : Int) < (n : Int) := by omega
        have HB := Lib.hid hB
        clear hB htk
        go_wp2_with fail
        go_ret
        exact ⟨by rw [HH.out]; rfl, HB.out⟩
  · have HH : Hid (P = false) := by
      unfold Hid
      rw [← HP.out, decide_eq_false_iff_not]
      rintro rfl
      exact hnk (HN.out.symm.trans HM.out)
    have hne : ((n : Int) != (k : Int)) = true := by simp; omega
    go_enter Tryz.func41, Tryz.ntmps41
    go_wp2_with fail
    go_ret
    exact ⟨by rw [HH.out]; rfl, Below.refl _ _⟩

set_option maxHeartbeats 1000000 in
theorem refbytes15_any (l : List Gn) (c : Nat) (A : Option Addr) (w : World) (hr : RdG w A l) (HF : Hid (fitG l)) (hl64 : l.length ≤ 64) :
    Calls Tryz.prog 27 #[.slice A l.length c] w (RetO 5 vB w (bytesG l)) := by
  obtain ⟨i0, hi, hz0, hz1, hz2⟩ := info_parts info_u8
  have hby := byte_len l l.length rfl hl64
  have HO : Hid ((w.alloc (.cells #[Value.int .u8 (l.length : Int)] 5)).ownsRow w.heap.size 5 1 (.slice (some ⟨w.heap.size, 0, none⟩) 1 1) (beG l 0).length ((beG l 0).map vB)) := own_lit w 5 ((beG l 0).map vB) _ hby (by unfold maxLen; simp [beG, flatG])
  have HB : Hid (Below w.heap.size w (w.alloc (.cells #[Value.int .u8 (l.length : Int)] 5))) := below_new (Below.refl _ _) _
  clear hby
  go_enter Tryz.func27, Tryz.ntmps27
  go_upto_region 2 with fail
  generalize w.alloc (.cells #[Value.int .u8 (l.length : Int)] 5) = w2 at HO HB ⊢
  go_wp2_with fail
  go_loopw [3, 4] (fun v i wr => ByG l w v i wr) (fun _ i _ => l.length - (intOf i).toNat)
  case atStart => exact ⟨0, Nat.zero_le _, rfl, HO.out, HB.out⟩
  case round =>
    clear HO HB
    obtain ⟨k, hk, rfl, hown, hbel⟩ := hrel
    by_cases hlt : k < l.length
    · obtain ⟨b, o, rfl, hb, hrng, p0, p1⟩ := hr.pair hlt
      have hx := HF.out _ (List.getElem_mem hlt)
      have HNX := Lib.hid (fun (v : Value) (wr : World) (h) hB => byG_next (w := w) (wr := wr) (v := v) hlt h hB)
      have hbl := beG_length l k hk
      generalize l[k] = x at p0 p1 hx HNX
      obtain ⟨x0, x1⟩ := x
      dsimp only at hx HNX
      generalize beG l k = Lk at hown HNX hbl
      have i2 : (0 : Int) ≤ (k : Int) := by omega
      have i3 : (k : Int) < (l.length : Int) := by omega
      unfold vNG at p0 p1
      dsimp only at p0 p1
      have c0 : wr.cell? ⟨b, o + k * 2, none⟩ = some (.int .u64 (x0 : Int)) := (hbel.cell (p := ⟨b, o + k * 2, none⟩) hb).trans p0
      have HP1 := Lib.hid p1
      have HX := Lib.hid hx
      obtain ⟨L1, hL1⟩ : ∃ L, putL x0 = L := ⟨_, rfl⟩
      obtain ⟨L2, hL2⟩ : ∃ L, putL x1 = L := ⟨_, rfl⟩
      have hl1 : L1.length = 8 := by rw [← hL1]; rfl
      have hl2 : L2.length = 8 := by rw [← hL2]; rfl
      rw [hL1, hL2] at HNX
      have HL1 := Lib.hid hL1
      have HL2 := Lib.hid hL2
      have HN1 := Lib.hid hl1
      have HN2 := Lib.hid hl2
      have HBB := Lib.hid hbel
      clear hL1 hL2 hl1 hl2 hx hbel hrng p0 p1
      go_wp2_with fail
      refine (refputG_at x0 L1 HX.out.1 HL1 _).mono ?_
      rintro ee w4 ⟨A1, c1, rfl, hc1, hr1, hb1⟩
      have hown4 := ownsRow_later hown hb1
      have hB4 := below_step HBB.out hb1
      have hsz4 := hB4.size
      clear hown hb1 c0
      go_wp2_with (at_builtin; refine wpList_append_apart _ rfl (.tmp 15) (.tmp 21) 27 rfl w.heap.size 5 i0 (.int .u8 0) 1 Tryz.underlying27 hi hz0 hz1 hz2 rfl _ _ _ rfl hown4 A1 L1 c1 (by rw [HN1.out]; rfl) hr1 vB_one (by rw [HN1.out]; unfold maxLen; omega) (by rw [HN1.out]; omega) (by omega) ?_; intro v5 w5 hown5 hgrow5 hat5; have hB5 := hB4.grown hgrow5 hsz4 (fun k hk => (hown4.lt k hk).1); have c1' : w5.cell? ⟨b, o + k * 2 + 1, none⟩ = some (.int .u64 (x1 : Int)) := (hB5.cell (p := ⟨b, o + k * 2 + 1, none⟩) hb).trans HP1.out)
      refine (refputG_at x1 L2 HX.out.2 HL2 _).mono ?_
      rintro ee w6 ⟨A2, c2, rfl, hc2, hr2, hb2⟩
      have hown6 := ownsRow_later hown5 hb2
      have hB6 := below_step hB5 hb2
      have hsz6 := hB6.size
      clear hown5 hb2 c1' hgrow5 hown4 hB4 hat5
      go_wp2_with (at_builtin; refine wpList_append_apart _ rfl (.tmp 23) (.tmp 29) 27 rfl w.heap.size 5 i0 (.int .u8 0) 1 Tryz.underlying27 hi hz0 hz1 hz2 rfl _ _ _ rfl hown6 A2 L2 c2 (by rw [HN2.out]; rfl) hr2 vB_one (by rw [HN2.out, HN1.out]; unfold maxLen; omega) (by rw [HN2.out, HN1.out]; omega) (by omega) ?_; intro v7 w7 hown7 hgrow7 hat7)
      have hB7 := hB6.grown hgrow7 hsz6 (fun k hk => (hown6.lt k hk).1)
      go_roundw
      case rel => exact HNX.out _ _ (by rw [HN1.out, HN2.out] at hown7; exact hown7) hB7
      case measure => simp [intOf]; omega
    · have hkl : k = l.length := by omega
      subst hkl
      rw [beG_all] at hown
      have HOW := Lib.hid hown
      have HB := Lib.hid hbel
      clear hown hbel
      go_wp2_with fail
      go_ret
      exact ⟨_, rfl, HOW.out, HB.out⟩
end Go.Proofs.YtmljhkdojopljaaGreatDoor
/-
  What the reference of layer 16 answers: Short, Right, Find, Entry, Same. No conditions but those typed.
-/
namespace Go.Proofs.YtmljhkdojopljaaGreatDoor
set_option maxRecDepth 100000
open Go.RowKit
set_option linter.unusedSimpArgs false
set_option linter.unusedVariables false

def aggB (v : Nat) (eA : Option Addr) (n ec : Nat) (gA : Option Addr) (m gc : Nat) : Value := .agg #[.int .u64 (v : Int), .slice eA n ec, .slice gA m gc]
def cellsB (v : Nat) (eA : Option Addr) (n ec : Nat) (gA : Option Addr) (m gc : Nat) : List Value := [.int .u64 (v : Int), .slice eA n ec, .slice gA m gc]
theorem box_three (w : World) (ty : TypeId) (a b c : Value) : Row (w.alloc (.cells #[a, b, c] ty)) w.heap.size ty [a, b, c] ∧ Below w.heap.size w (w.alloc (.cells #[a, b, c] ty)) := ⟨Row.new w ty _ _ rfl, below_new (Below.refl _ _) _⟩
theorem size_bundle : (Tryz.prog.info? 26).map (·.size) = some 3 := by kernel_rfl
theorem size_entry : (Tryz.prog.info? 35).map (·.size) = some 3 := by kernel_rfl
theorem one_three (a b c : Value) (ha : a.oneCell' = true) (hb : b.oneCell' = true) (hc : c.oneCell' = true) : ∀ v ∈ [a, b, c], v.oneCell' = true := fun v hv => by
  simp at hv
  rcases hv with rfl | rfl | rfl <;> assumption

/-! ### Short -/
def shortB (xs : List ED) (m : Nat) : Bool := decide (∀ x ∈ xs.take 99, x.s.length ≤ 99) && (decide (xs.length ≤ 99) && decide (m ≤ 99))
set_option maxHeartbeats 1000000 in
theorem refshortB_any (v : Nat) (es : List ED) (n ec m gc : Nat) (eA gA : Option Addr) (w : World) (HN : Hid (es.length = n)) (hre : RdE w eA es) (hn : n ≤ 9223372036854775807) (hml : ∀ x ∈ es, x.s.length ≤ 9223372036854775807) (hm : m ≤ 9223372036854775807) :
    Calls Tryz.prog 7 #[aggB v eA n ec gA m gc] w fun e w' => e = .returned (.bool (shortB es m)) ∧ Below w.heap.size w w' := by
  obtain ⟨hR, hB⟩ := box_three w 26 (.int .u64 (v : Int)) (.slice eA n ec) (.slice gA m gc)
  obtain ⟨P, hP⟩ : ∃ P, shortB es m = P := ⟨_, rfl⟩
  rw [hP]
  have HP := Lib.hid hP
  have HML := Lib.hid hml
  clear hP hml
  unfold aggB
  go_enter Tryz.func7, Tryz.ntmps7
  go_upto_region 1 with fail
  generalize (w.alloc (.cells #[.int .u64 (v : Int), .slice eA n ec, .slice gA m gc] 26)) = w1 at hR hB ⊢
  have c1 : w1.cell? ⟨w.heap.size, 1, none⟩ = some (.slice eA n ec) := hR.cell rfl
  have c2 : w1.cell? ⟨w.heap.size, 2, none⟩ = some (.slice gA m gc) := hR.cell rfl
  have HB := Lib.hid hB
  have hre1 := hre.keep hB
  clear hB hR hre
  go_wp2_with fail
  go_loop [3] (fun i => ∃ k : Nat, i = .int .i64 (k : Int) ∧ k ≤ n ∧ k ≤ 99 ∧ ∀ j (h : j < es.length), j < k → es[j].s.length ≤ 99) (fun i => 99 - (intOf i).toNat)
  case atStart => exact ⟨0, rfl, by omega, by omega, fun j _ hj => by omega⟩
  case round =>
    obtain ⟨k, rfl, hk1, hk2, hs⟩ := hrel
    by_cases hlt : k < n ∧ k < 99
    · obtain ⟨hltn, hlt9⟩ := hlt
      have hkl : k < es.length := by rw [HN.out]; exact hltn
      obtain ⟨b, o, rfl, hb, _, _, _, p2⟩ := hre1.one hkl
      have HS : Hid (es[k].s.length ≤ 99 → ∀ j (h : j < es.length), j < k + 1 → es[j].s.length ≤ 99) := fun h j hj hjk => by
        by_cases e : j = k
        · subst e; exact h
        · exact hs j hj (by omega)
      have HE : Hid (¬ es[k].s.length ≤ 99 → shortB es m = false) := fun h => by
        unfold shortB
        rw [Bool.and_eq_false_iff]
        left
        rw [decide_eq_false_iff_not]
        intro hall
        exact h (hall es[k] (List.mem_take_iff_getElem.2 ⟨k, by omega, rfl⟩))
      have hxl := HML.out _ (List.getElem_mem hkl)
      generalize es[k] = x at p2 HS HE hxl
      unfold ED.at2 at p2
      have i0 : (0 : Int) ≤ (k : Int) := by omega
      have i1 : (k : Int) < (n : Int) := by omega
      have i2 : (k : Int) < 99 := by omega
      generalize hxs : x.s.length = q at p2 HS HE hxl
      clear hxs hs
      by_cases hq : q ≤ 99
      · have HS2 := Lib.hid (HS.out hq)
        have q1 : ¬ (99 : Int) < (q : Int) := by omega
        go_wp2_with fail
        go_round
        case rel => exact ⟨k + 1, by go_num, by omega, by omega, HS2.out⟩
        case measure => simp [intOf]; omega
      · have HPF : Hid (P = false) := HP.out.symm.trans (HE.out hq)
        have q1 : (99 : Int) < (q : Int) := by omega
        go_wp2_with fail
        go_ret
        exact ⟨by rw [HPF.out]; rfl, HB.out⟩
    · have hall : ∀ x ∈ es.take 99, x.s.length ≤ 99 := fun x hx => by
        obtain ⟨j, hj, rfl⟩ := List.mem_take_iff_getElem.1 hx
        have := HN.out
        exact hs j (by omega) (by omega)
      have HPT : Hid (P = (decide ((n : Int) ≤ 99) && decide ((m : Int) ≤ 99))) := by
        unfold Hid
        rw [← HP.out]
        unfold shortB
        rw [decide_eq_true hall, Bool.true_and, HN.out]
        congr 1 <;> rw [decide_eq_decide] <;> omega
      clear hs hall
      by_cases hn9 : k < n
      · have hk9 : ¬ (k : Int) < 99 := by omega
        have hkn : (k : Int) < (n : Int) := by omega
        have n9 : ¬ (n : Int) ≤ 99 := by omega
        have HPF : Hid (P = false) := by unfold Hid; rw [HPT.out, decide_eq_false n9]; rfl
        clear hlt
        go_wp2_with fail
        go_ret
        exact ⟨by rw [HPF.out]; rfl, HB.out⟩
      · have hkn : ¬ (k : Int) < (n : Int) := by omega
        have n9 : (n : Int) ≤ 99 := by omega
        have HPF : Hid (P = decide ((m : Int) ≤ 99)) := by unfold Hid; rw [HPT.out, decide_eq_true n9]; rfl
        clear hlt
        go_wp2_with fail
        go_ret
        exact ⟨by rw [HPF.out]; rfl, HB.out⟩
end Go.Proofs.YtmljhkdojopljaaGreatDoor
/-
  What the reference of layer 16 answers: Find, Entry, Same. No conditions but those typed.
-/
namespace Go.Proofs.YtmljhkdojopljaaGreatDoor
set_option maxRecDepth 100000
open Go.RowKit
set_option linter.unusedSimpArgs false
set_option linter.unusedVariables false

/-- The place of a ticket's first entry, or -1. -/
def IsAt (xs : List ED) (t : Nat) (i : Int) : Prop := (∃ k, ∃ h : k < xs.length, i = (k : Int) ∧ xs[k].t = t ∧ ∀ j (h' : j < xs.length), j < k → xs[j].t ≠ t) ∨ (i = -1 ∧ ∀ x ∈ xs, x.t ≠ t)
set_option maxHeartbeats 1000000 in
theorem reffindB_any (v : Nat) (es : List ED) (n ec m gc tk : Nat) (eA gA : Option Addr) (w : World) (HN : Hid (es.length = n)) (hre : RdE w eA es) (hn : n ≤ 1000000000) :
    Calls Tryz.prog 12 #[aggB v eA n ec gA m gc, .int .u64 (tk : Int)] w fun e w' => (∃ i : Int, e = .returned (.int .i64 i) ∧ IsAt es tk i) ∧ Below w.heap.size w w' := by
  obtain ⟨hR, hB⟩ := box_three w 26 (.int .u64 (v : Int)) (.slice eA n ec) (.slice gA m gc)
  unfold aggB
  go_enter Tryz.func12, Tryz.ntmps12
  go_upto_region 1 with fail
  generalize (w.alloc (.cells #[.int .u64 (v : Int), .slice eA n ec, .slice gA m gc] 26)) = w1 at hR hB ⊢
  have c1 : w1.cell? ⟨w.heap.size, 1, none⟩ = some (.slice eA n ec) := hR.cell rfl
  have HB := Lib.hid hB
  have hre1 := hre.keep hB
  clear hB hR hre
  go_wp2_with fail
  go_loop [5] (fun i => ∃ k : Nat, i = .int .i64 (k : Int) ∧ k ≤ n ∧ ∀ j (h : j < es.length), j < k → es[j].t ≠ tk) (fun i => n - (intOf i).toNat)
  case atStart => exact ⟨0, rfl, by omega, fun j _ hj => by omega⟩
  case round =>
    obtain ⟨k, rfl, hk, hs⟩ := hrel
    by_cases hlt : k < n
    · have hkl : k < es.length := by rw [HN.out]; exact hlt
      obtain ⟨b, o, rfl, hb, _, p0, _, _⟩ := hre1.one hkl
      have HS : Hid (es[k].t ≠ tk → ∀ j (h : j < es.length), j < k + 1 → es[j].t ≠ tk) := fun h j hj hjk => by
        by_cases e : j = k
        · subst e; exact h
        · exact hs j hj (by omega)
      have HI : Hid (es[k].t = tk → IsAt es tk (k : Int)) := fun h => .inl ⟨k, hkl, rfl, h, hs⟩
      generalize es[k].t = x at p0 HS HI
      unfold vNG at p0
      have i0 : (0 : Int) ≤ (k : Int) := by omega
      have i1 : (k : Int) < (n : Int) := by omega
      clear hs
      by_cases hx : x = tk
      · have HI2 := Lib.hid (HI.out hx)
        subst hx
        go_wp2_with fail
        go_ret
        exact ⟨⟨(k : Int), rfl, HI2.out⟩, HB.out⟩
      · have HS2 := Lib.hid (HS.out hx)
        have hxd : decide (x = tk) = false := decide_eq_false hx
        have hxi : ((x : Int) == (tk : Int)) = false := beq_eq_false_iff_ne.2 (by omega)
        go_wp2_with fail
        go_round
        case rel => exact ⟨k + 1, by go_num, by omega, HS2.out⟩
        case measure => simp [intOf]; omega
    · have HI : Hid (IsAt es tk (-1)) := .inr ⟨rfl, fun x hx => by
        obtain ⟨j, hj, rfl⟩ := List.getElem_of_mem hx
        exact hs j hj (by have := HN.out; omega)⟩
      have hkn : ¬ (k : Int) < (n : Int) := by omega
      clear hs
      go_wp2_with fail
      go_ret
      exact ⟨⟨-1, rfl, HI.out⟩, HB.out⟩

def aggN (t e : Nat) (A : Option Addr) (n c : Nat) : Value := .agg #[.int .u64 (t : Int), .int .u64 (e : Int), .slice A n c]
set_option maxHeartbeats 1000000 in
theorem refentryB_any (t e t' e' : Nat) (s s' : List UInt8) (n c n' c' : Nat) (A A' : Option Addr) (w : World) (HN : Hid (s.length = n)) (HM : Hid (s'.length = n')) (hr : Rd vB w A s) (hr' : Rd vB w A' s') :
    Calls Tryz.prog 13 #[aggN t e A n c, aggN t' e' A' n' c'] w fun e₁ w' => e₁ = .returned (.bool (decide ((t, e, s) = (t', e', s')))) ∧ Below w.heap.size w w' := by
  obtain ⟨P, hP⟩ : ∃ P, decide ((t, e, s) = (t', e', s')) = P := ⟨_, rfl⟩
  rw [hP]
  have HP := Lib.hid hP
  clear hP
  have hR0 : Row (w.alloc (.cells #[.int .u64 (t : Int), .int .u64 (e : Int), .slice A n c] 35)) w.heap.size 35 [.int .u64 (t : Int), .int .u64 (e : Int), .slice A n c] := Row.new w _ _ _ rfl
  have hR1 : Row ((w.alloc (.cells #[.int .u64 (t : Int), .int .u64 (e : Int), .slice A n c] 35)).alloc (.cells #[.int .u64 (t' : Int), .int .u64 (e' : Int), .slice A' n' c'] 35)) (w.heap.size + 1) 35 [.int .u64 (t' : Int), .int .u64 (e' : Int), .slice A' n' c'] := Row.new_at _ _ (by simp) _ _ _ rfl
  replace hR0 := hR0.alloc (.cells #[.int .u64 (t' : Int), .int .u64 (e' : Int), .slice A' n' c'] 35)
  have hB : Below w.heap.size w ((w.alloc (.cells #[.int .u64 (t : Int), .int .u64 (e : Int), .slice A n c] 35)).alloc (.cells #[.int .u64 (t' : Int), .int .u64 (e' : Int), .slice A' n' c'] 35)) := below_new (below_new (Below.refl _ _) _) _
  unfold aggN
  go_enter Tryz.func13, Tryz.ntmps13
  go_upto_region 1 with fail
  generalize (w.alloc (.cells #[.int .u64 (t : Int), .int .u64 (e : Int), .slice A n c] 35)).alloc (.cells #[.int .u64 (t' : Int), .int .u64 (e' : Int), .slice A' n' c'] 35) = w3 at hR0 hR1 hB ⊢
  have c0 : w3.cell? ⟨w.heap.size, 0, none⟩ = some (.int .u64 (t : Int)) := hR0.cell rfl
  have c1 : w3.cell? ⟨w.heap.size, 1, none⟩ = some (.int .u64 (e : Int)) := hR0.cell rfl
  have c2 : w3.cell? ⟨w.heap.size, 2, none⟩ = some (.slice A n c) := hR0.cell rfl
  have d0 : w3.cell? ⟨w.heap.size + 1, 0, none⟩ = some (.int .u64 (t' : Int)) := hR1.cell rfl
  have d1 : w3.cell? ⟨w.heap.size + 1, 1, none⟩ = some (.int .u64 (e' : Int)) := hR1.cell rfl
  have d2 : w3.cell? ⟨w.heap.size + 1, 2, none⟩ = some (.slice A' n' c') := hR1.cell rfl
  have hs1 := run_str (P := Tryz.prog) w3 27 5 9 Tryz.underlying27 Tryz.underlying5 Tryz.underlying9 A s n c HN.out (hr.keep hB)
  have hs2 := run_str (P := Tryz.prog) w3 27 5 9 Tryz.underlying27 Tryz.underlying5 Tryz.underlying9 A' s' n' c' HM.out (hr'.keep hB)
  have HB := Lib.hid hB
  clear hB hR0 hR1 hr hr'
  by_cases h1 : t = t'
  · subst h1
    by_cases h2 : e = e'
    · subst h2
      have hq := str_sameB s s' P (by rw [← HP.out]; simp)
      unfold strL at hq
      generalize (⟨s.toArray⟩ : ByteArray) = S at hs1 hq
      generalize (⟨s'.toArray⟩ : ByteArray) = S' at hs2 hq
      go_wp2_with fail
      go_ret
      exact ⟨rfl, HB.out⟩
    · have HPF : Hid (P = false) := by unfold Hid; rw [← HP.out]; simp [h2]
      have h2d : decide (e = e') = false := decide_eq_false h2
      have h2i : ((e : Int) == (e' : Int)) = false := beq_eq_false_iff_ne.2 (by omega)
      go_wp2_with fail
      go_ret
      exact ⟨by rw [HPF.out]; rfl, HB.out⟩
  · have HPF : Hid (P = false) := by unfold Hid; rw [← HP.out]; simp [h1]
    have h1d : decide (t = t') = false := decide_eq_false h1
    have h1i : ((t : Int) == (t' : Int)) = false := beq_eq_false_iff_ne.2 (by omega)
    go_wp2_with fail
    go_ret
    exact ⟨by rw [HPF.out]; rfl, HB.out⟩
end Go.Proofs.YtmljhkdojopljaaGreatDoor
/-
  What slices.BinarySearchFunc answers at a list that is right, by the program's order. No conditions but those typed.
-/
namespace Go.Proofs.YtmljhkdojopljaaGreatDoor
set_option maxRecDepth 100000
open Go.RowKit
set_option linter.unusedSimpArgs false
set_option linter.unusedVariables false

theorem sort_lt {l : List Gn} (h : sortG l = true) {i j : Nat} (hij : i < j) (hj : j < l.length) : ltG l[i] l[j] = true := by
  have hp := (sort_pair l).1 h
  exact List.pairwise_iff_getElem.1 hp i j (by omega) hj hij
/-- What is less than g stands ahead of place i, and nothing else. -/
def PlG (l : List Gn) (g : Gn) (i : Nat) : Prop := (∀ k (h : k < l.length), k < i → ltG l[k] g = true) ∧ ∀ k (h : k < l.length), i ≤ k → ltG l[k] g = false
theorem pl_ins : ∀ {l : List Gn} {g : Gn} {i : Nat}, PlG l g i → i ≤ l.length → insG l g = l.take i ++ g :: l.drop i
  | [], g, i, _, hi => by
    have : i = 0 := by simpa using hi
    subst this
    rfl
  | a :: l, g, 0, h, _ => by
    have := h.2 0 (by simp) (Nat.le_refl _)
    unfold insG
    simp only [List.getElem_cons_zero] at this
    rw [this]
    rfl
  | a :: l, g, i + 1, h, hi => by
    have h0 := h.1 0 (by simp) (by omega)
    simp only [List.getElem_cons_zero] at h0
    have ih : insG l g = l.take i ++ g :: l.drop i := pl_ins ⟨fun k hk hki => h.1 (k + 1) (by simpa using hk) (by omega), fun k hk hki => h.2 (k + 1) (by simpa using hk) (by omega)⟩ (by simpa using hi)
    unfold insG
    rw [h0, if_pos rfl, ih]
    rfl
/-- It is there just if it stands at that place. -/
theorem pl_mem {l : List Gn} {g : Gn} {i : Nat} (h : PlG l g i) (hs : sortG l = true) : g ∈ l ↔ ∃ hi : i < l.length, l[i] = g := by
  constructor
  · intro hg
    obtain ⟨k, hk, rfl⟩ := List.getElem_of_mem hg
    have hki : ¬ k < i := fun hlt => by
      have := h.1 k hk hlt
      rw [ltG_irr] at this
      cases this
    have hik : ¬ i < k := fun hlt => by
      have h1 := sort_lt hs hlt hk
      have h2 := h.2 i (by omega) (Nat.le_refl _)
      rw [h1] at h2
      cases h2
    have : k = i := by omega
    subst this
    exact ⟨hk, rfl⟩
  · rintro ⟨hi, rfl⟩
    exact List.getElem_mem hi
/-- At the place: less than g, it, or greater. -/
theorem plG_zero {l : List Gn} {g : Gn} {i : Nat} (h : PlG l g i) (hi : i < l.length) : (ordG l[i] g = 0) ↔ l[i] = g := ord_zero _ _
theorem pl_left {l : List Gn} {g : Gn} {m : Nat} (hs : sortG l = true) (hm : m < l.length) (h : ltG l[m] g = true) : ∀ k (h : k < l.length), k < m + 1 → ltG l[k] g = true := fun k hk hkm => by
  by_cases e : k = m
  · subst e; exact h
  · exact ltG_trans (sort_lt hs (by omega) hm) h
theorem pl_right {l : List Gn} {g : Gn} {m : Nat} (hs : sortG l = true) (hm : m < l.length) (h : ltG l[m] g = false) : ∀ k (h : k < l.length), m ≤ k → ltG l[k] g = false := fun k hk hkm => by
  by_cases e : k = m
  · subst e; exact h
  · rw [Bool.eq_false_iff]
    intro h2
    have := ltG_trans (sort_lt hs (by omega : m < k) hk) h2
    rw [h] at this
    cases this

end Go.Proofs.YtmljhkdojopljaaGreatDoor
/-
  What the program's call Put of layer 15 answers. No conditions but those typed.
-/
namespace Go.Proofs.YtmljhkdojopljaaGreatDoor
set_option maxRecDepth 100000
open Go.RowKit
set_option linter.unusedSimpArgs false
set_option linter.unusedVariables false

theorem run_cut_to2 {P : Program} (t e : TypeId) (ht : P.underlying t = some (.slice e)) (hz : ∀ w, (sizeOf e).run P w = .ok 2 w) (A : Option Addr) (n cap k : Nat) (hk : k ≤ cap) (w : World) :
    (Instr.slice t (.slice A n cap) none (some (.int .i64 (k : Int))) none).run P w = .ok (.slice A k cap) w := by
  have ht' : P.underlying t = some (.slice (P.elem t)) := by simp [Program.elem, ht]
  have he : P.elem t = e := by simp [Program.elem, ht]
  have e2 : (if cap = 0 then A else A.map (·.add 0)) = A := by
    split
    · rfl
    · cases A <;> simp [Addr.add]
  rw [run_slice_h w t A n cap ht' .i64 (k : Int) (by omega) (by omega), he, hz]
  simp only [Result.andThen, sliced, Nat.zero_mul, Nat.sub_zero, Int.toNat_natCast, e2]
theorem cut_from2 {P : Program} (t e : TypeId) (ht : P.underlying t = some (.slice e)) (hz : ∀ w, (sizeOf e).run P w = .ok 2 w) (A : Option Addr) (n cap k : Nat) (hk : k ≤ n) (hc : n ≤ cap) :
    ∃ A', (∀ w, (Instr.slice t (.slice A n cap) (some (.int .i64 (k : Int))) none none).run P w = .ok (.slice A' (n - k) (cap - k)) w) ∧
      ∀ (w : World) (l : List Gn), l.length = n → RdG w A l → RdG w A' (l.drop k) := by
  have ht' : P.underlying t = some (.slice (P.elem t)) := by simp [Program.elem, ht]
  have he : P.elem t = e := by simp [Program.elem, ht]
  refine ⟨if cap = k then A else A.map (·.add (k * 2)), fun w => ?_, fun w l hl h => h.drop k cap (by omega)⟩
  rw [run_slice_l w t A n cap ht' .i64 (k : Int) (by omega) (by omega), he, hz]
  simp [Result.andThen, sliced]

/-- A list and a code, handed back. -/
def RetPut (w : World) (l : List Gn) (k : Int) (e : Ending) (w' : World) : Prop := ∃ v, e = .returned (.tuple #[v, .int .i64 k]) ∧ w'.ownsRow w.heap.size 60 2 v l.length (cellsG l) ∧ Below w.heap.size w w'

end Go.Proofs.YtmljhkdojopljaaGreatDoor
/-
  What the reference's Put of layer 15 answers. No conditions but those typed.
-/
namespace Go.Proofs.YtmljhkdojopljaaGreatDoor
set_option maxRecDepth 100000
open Go.RowKit
set_option linter.unusedSimpArgs false
set_option linter.unusedVariables false

/-- A pair in a new block, as a list of one. -/
theorem rdG_one (w : World) (a b : Nat) (t : TypeId) : RdG (w.alloc (.cells #[.int .u64 (a : Int), .int .u64 (b : Int)] t)) (some ⟨w.heap.size, 0, none⟩) [(a, b)] := fun _ => by
  refine ⟨w.heap.size, 0, rfl, fun i hi => ?_⟩
  have hi0 : i = 0 := by simpa using hi
  subst hi0
  have hRn : Row (w.alloc (.cells #[.int .u64 (a : Int), .int .u64 (b : Int)] t)) w.heap.size t [.int .u64 (a : Int), .int .u64 (b : Int)] := Row.new w _ _ _ rfl
  exact ⟨hRn.cell rfl, hRn.cell rfl⟩
def RPut (l : List Gn) (g : Gn) (n : Nat) (w1 : World) (base : Nat) (v i : Value) (wr : World) : Prop :=
  ∃ k : Nat, i = .int .i64 (k : Int) ∧ k ≤ n ∧ (∀ j (h : j < l.length), j < k → ltG l[j] g = true) ∧ wr.ownsRow base 60 2 v k (cellsG (l.take k)) ∧ Below w1.heap.size w1 wr
theorem cellsG_takeS (l : List Gn) (k : Nat) (h : k < l.length) : cellsG (l.take (k + 1)) = cellsG (l.take k) ++ cellsG [l[k]] := by rw [List.take_succ_eq_append_getElem h, cellsG_app]

end Go.Proofs.YtmljhkdojopljaaGreatDoor
/-
  What slices.Chunk answers at slices of bytes, in parts of sixteen that leave nothing: a range over a function; its contract for whatever body keeps the iterator's boxes. Conditions: bounds on lengths, as typed.
-/
namespace Go.Proofs.YtmljhkdojopljaaGreatDoor
set_option maxRecDepth 100000
open Go.RowKit Go.Shelf
set_option linter.unusedSimpArgs false
set_option linter.unusedVariables false

attribute [local go_sem] Oper.semAt_some

/-- Where a part begins. -/
def chA (A : Option Addr) (i : Nat) : Option Addr := A.map (·.add (i * 1))
abbrev Ck (cnt : Nat) := { j : Nat // j < cnt }
def Ck.enc (A : Option Addr) {cnt : Nat} (x : Ck cnt) : Array Value := #[.slice (chA A (16 * x.1)) 16 16]
def chS {cnt : Nat} (xs : List (Ck cnt)) : Prop := xs.map (·.1) = List.range cnt
def chP {cnt : Nat} (xs : List (Ck cnt)) : Prop := ∃ k, k ≤ cnt ∧ xs.map (·.1) = List.range k

theorem cut_lhm (A : Option Addr) (n c i : Nat) (h : i + 16 ≤ c) (W : World) : (Instr.slice 27 (.slice A n c) (some (.int .i64 (i : Int))) (some (.int .i64 ((i : Int) + 16))) (some (.int .i64 ((i : Int) + 16)))).run Tryz.prog W = .ok (.slice (chA A i) 16 16) W := by
  have he : Tryz.prog.elem 27 = 5 := by simp [Program.elem, Tryz.underlying27]
  have hz : (sizeOf 5).run Tryz.prog W = .ok 1 W := by kernel_rfl
  rw [run_slice_lhm W 27 A n c (by rw [he]; exact Tryz.underlying27) .i64 .i64 .i64 (i : Int) ((i : Int) + 16) ((i : Int) + 16) (by omega) (by omega) (by omega) (by omega), he, hz]
  simp only [Result.andThen, sliced, Int.toNat_natCast]
  rw [show ((i : Int) + 16).toNat - i = 16 by omega, if_neg (by omega)]
  rfl

theorem chunk_any (A : Option Addr) (n c : Nat) (w : World) :
    Calls Tryz.prog 66 #[.slice A n c, .int .i64 16] w fun e w' => e = .returned (.func (.func 74) #[] #[.pointer (some ⟨w.heap.size, 0, none⟩), .pointer (some ⟨w.heap.size + 1, 0, none⟩)]) ∧ w' = (w.alloc (.cells #[.slice A n c] 27)).alloc (.cells #[.int .i64 16] 3) := by
  go_enter Tryz.func66, Tryz.ntmps66
  go_wp2_with fail
  go_ret
  exact ⟨rfl, rfl⟩

set_option maxHeartbeats 2000000 in
theorem chunk1_in (n : Nat) (hn : 1 ≤ n) (l Bs Bz cnt len cap : Nat) (A : Option Addr) (Kp : World → World → Prop) (HL : Hid (len = 16 * cnt)) (hlen : len ≤ 140737488351232) (hcap : len ≤ cap) (J Jx : List (Ck cnt) → World → Prop)
    (hY : ∀ pre x W, J pre W → pre.length < cnt → YieldAt Fence.wide (n - 1) Tryz.prog l (Ck.enc A x) W fun e W' => (e = .returned (.bool true) ∧ J (pre ++ [x]) W' ∧ Kp W W') ∨ (e = .returned (.bool false) ∧ Jx (pre ++ [x]) W'))
    (W : World) (hKr : Kp W W) (hKt : ∀ X Y, Kp W X → Kp X Y → Kp W Y) (hJd : ∀ pre W, J pre W → J pre W.drew) (hKd : ∀ X, Kp W X → Kp W X.drew) (hread : ∀ W', Kp W W' → W'.cell? ⟨Bs, 0, none⟩ = some (.slice A len cap) ∧ W'.cell? ⟨Bz, 0, none⟩ = some (.int .i64 16)) (h0 : J [] W) :
    CallsIn Fence.wide n Tryz.prog 74 #[.func (.yield l) #[] #[], .pointer (some ⟨Bs, 0, none⟩), .pointer (some ⟨Bz, 0, none⟩)] W fun e W' => (∃ v, e = .returned v) ∧ ((∃ xs, chS xs ∧ J xs W') ∨ (∃ pre, chP pre ∧ Jx pre W')) := by
  refine callsIn_of_wp Tryz.func74 rfl trivial ?_ rfl
  simp only [Tryz.ntmps74, List.size_toArray, List.length_cons, List.length_nil, Nat.reduceAdd, Nat.reduceSub, Array.replicate_succ, Array.replicate_zero, List.push_toArray, List.append_toArray, List.nil_append, List.cons_append]
  gi_wp2
  gi_loopw [4] (fun i wr => ∃ k m : Nat, k ≤ cnt ∧ m = 16 * k ∧ i = .int .i64 (m : Int) ∧ (∃ pre : List (Ck cnt), pre.length = k ∧ pre.map (·.1) = List.range k ∧ J pre wr) ∧ Kp W wr)
    (fun i _ => len - (intOf i).toNat)
  case atStart => exact ⟨0, 0, Nat.zero_le _, rfl, rfl, ⟨[], rfl, rfl, h0⟩, hKr⟩
  case round =>
    obtain ⟨k, m, hk, hm, rfl, ⟨pre, hpl, hpm, hJs⟩, hK⟩ := hrel
    obtain ⟨hcb, hcz⟩ := hread wr hK
    by_cases hkc : k = cnt
    · have HPM : Hid (chS pre) := by unfold Hid chS; rw [hpm, hkc]
      have hml : ¬ (m : Int) < (len : Int) := by have := HL.out; omega
      clear hpm hpl hm
      gi_wp2
      go_end0
      exact ⟨⟨_, rfl⟩, .inl ⟨_, HPM.out, hJs⟩⟩
    · have hkl : k < cnt := by omega
      have hml : (m : Int) < (len : Int) := by have := HL.out; omega
      have HM : Hid (m = 16 * k ∧ m + 16 ≤ len) := ⟨hm, by have := HL.out; omega⟩
      have hcut := fun W => cut_lhm A len cap m (by have := HM.out; omega) W
      obtain ⟨A', hcf, _⟩ := cut_from (P := Tryz.prog) 27 5 Tryz.underlying27 (fun w => by kernel_rfl) A len cap m (by have := HM.out; omega) hcap
      obtain ⟨fn, tmps, assign, body, hy, hR⟩ := hY pre ⟨k, hkl⟩ wr.drew (hJd _ _ hJs) (by omega)
      unfold Ck.enc at hy
      dsimp only at hy
      rw [← HM.out.1] at hy
      have HPM : Hid ((pre ++ [(⟨k, hkl⟩ : Ck cnt)]).map (·.1) = List.range (k + 1)) := by
        unfold Hid
        rw [List.map_append, hpm, List.range_succ]
        rfl
      have HPL : Hid ((pre ++ [(⟨k, hkl⟩ : Ck cnt)]).length = k + 1) := by
        unfold Hid
        rw [List.length_append, hpl, List.length_singleton]
      have HKD := Lib.hid (hKd _ hK)
      have hKl : ∀ W, Below wr.heap.size wr W → True := fun _ _ => trivial
      have cb : ∀ W, Below wr.heap.size wr W → W.cell? ⟨Bs, 0, none⟩ = some (.slice A len cap) := fun W hW => (hW.cell (p := ⟨Bs, 0, none⟩) (World.block_lt_of_cell? wr _ hcb)).trans hcb
      have cz : ∀ W, Below wr.heap.size wr W → W.cell? ⟨Bz, 0, none⟩ = some (.int .i64 16) := fun W hW => (hW.cell (p := ⟨Bz, 0, none⟩) (World.block_lt_of_cell? wr _ hcz)).trans hcz
      have hmin : ¬ ((len - m : Nat) : Int) < 16 := by have := HM.out; omega
      have hm16 : (m : Int) + 16 ≤ (len : Int) := by have := HM.out; omega
      clear hpm hpl hm hK hJs hcut
      gi_wp2
      refine wpIn_wide.2 ?_
      have hBase := (Below.refl wr.heap.size wr).drew
      refine wp_region_plan (.step 0 false (.step 1 false (.step 2 false (.step 3 false (.step 4 false (.step 5 false (.step 6 false (.nil)))))))) (by kernel_rfl) (by kernel_rfl) (by rfl) (by kernel_rfl) ?_
      iterate 7 (refine plan_read rfl (by rfl) (v := ?_) ?_ ?_; rotate_left 1; (intro W hW; have hW0 := below_step hBase hW; (try dsimp only at hW); go_simp <;> with_reducible rfl); simp only [List.getElem_toArray, List.getElem_cons_zero, List.getElem_cons_succ, Act.put, List.setIfInBounds_toArray, List.set_cons_zero, List.set_cons_succ])
      refine plan_done ?_
      have cb1 := cb _ hBase
      have cz1 := cz _ hBase
      have hcut := cut_lhm A len cap m (by have := HM.out; omega) wr.drew
      generalize wr.drew = wd at hBase hy hR HKD cb1 cz1 hcut ⊢
      clear cb cz hcf
      gi_wp2
      refine hR.mono ?_
      rintro e W3 (⟨rfl, hJ3, hk3⟩ | ⟨rfl, hJx3⟩)
      · have hK3 := hKt _ _ HKD.out hk3
        have cz3 := (hread _ hK3).2
        have HK3 := Lib.hid hK3
        clear cb1 cz1 hcut hy hR hK3
        gi_wp2
        go_roundw
        case rel => exact ⟨k + 1, m + 16, by omega, by have := HM.out; omega, by go_num, ⟨_, HPL.out, HPM.out, hJ3⟩, HK3.out⟩
        case measure => have := HM.out; simp [intOf] <;> omega
      · clear cb1 cz1 hcut hy hR
        gi_wp2
        refine bodyPost_ret (results_none rfl _ _ _) rfl ?_
        exact ⟨⟨_, rfl⟩, .inr ⟨_, ⟨k + 1, by omega, HPM.out⟩, hJx3⟩⟩

theorem chunk_stops (n : Nat) (hn : 1 ≤ n) (Bs Bz cnt len cap : Nat) (A : Option Addr) (Kp : World → World → Prop) (HL : Hid (len = 16 * cnt)) (hlen : len ≤ 140737488351232) (hcap : len ≤ cap) (w : World)
    (hKr : ∀ W, Kp W W) (hKt : ∀ X Y Z, Kp X Y → Kp Y Z → Kp X Z) (hKd : ∀ X, Kp X X.drew) (hread : ∀ W, Below w.heap.size w W → ∀ W', Kp W W' → W'.cell? ⟨Bs, 0, none⟩ = some (.slice A len cap) ∧ W'.cell? ⟨Bz, 0, none⟩ = some (.int .i64 16)) :
    SeqStopsK Fence.wide n Tryz.prog 74 #[.pointer (some ⟨Bs, 0, none⟩), .pointer (some ⟨Bz, 0, none⟩)] (Ck.enc A (cnt := cnt)) Kp chS chP cnt w := fun l J Jx W hW hJ _ hY h0 =>
  chunk1_in n hn l Bs Bz cnt len cap A Kp HL hlen hcap J Jx hY W (hKr W) (fun X Y h k => hKt _ _ _ h k) (fun pre X h => hJ pre X X.drew none h ⟨rfl, rfl, rfl, Nat.le_refl _, fun _ _ _ => rfl⟩ (fun r e => by cases e)) (fun X h => hKt _ _ _ h (hKd X)) (hread W hW) h0
end Go.Proofs.YtmljhkdojopljaaGreatDoor
