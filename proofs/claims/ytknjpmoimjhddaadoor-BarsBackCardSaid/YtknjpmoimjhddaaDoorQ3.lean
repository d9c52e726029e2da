/-
  Terms in memory: a slice of structs of two byte slices read as a list; kept, cut, joined. No conditions but those typed.
-/
import Derived.Test.YtknjpmoimjhddaaDoorQ2
import Derived.Deep.DeepCutAuto
import Derived.Maps.AppendAt
import Derived.Deep.QuietTactic
import Derived.BigQuiet
namespace Go.Proofs.YtknjpmoimjhddaaDoor
set_option maxRecDepth 100000
open Go.RowKit
set_option linter.unusedSimpArgs false
set_option linter.unusedVariables false

/-- A term that lies somewhere: where its key and its text lie, their rooms, and what they are. -/
structure TD where
  kA : Option Addr
  kc : Nat
  k : List UInt8
  mA : Option Addr
  mc : Nat
  m : List UInt8
def TD.at0 (x : TD) : Value := .slice x.kA x.k.length x.kc
def TD.at1 (x : TD) : Value := .slice x.mA x.m.length x.mc
def TD.cells (x : TD) : List Value := [x.at0, x.at1]
def TD.c (x : TD) : Tm := (x.k, x.m)
/-- What a term's two slices point to, is there. -/
def TD.ok (w : World) (x : TD) : Prop := x.k.length ≤ x.kc ∧ x.m.length ≤ x.mc ∧ Rd vB w x.kA x.k ∧ Rd vB w x.mA x.m
def cellsT (ts : List TD) : List Value := ts.flatMap TD.cells
def conT (ts : List TD) : List Tm := ts.map TD.c

/-- The slice with address A has these terms' cells, one behind the other. -/
def RdT (w : World) (A : Option Addr) (ts : List TD) : Prop :=
  ts ≠ [] → ∃ b o, A = some ⟨b, o, none⟩ ∧ ∀ i (h : i < ts.length), w.cell? ⟨b, o + i * 2, none⟩ = some ts[i].at0 ∧ w.cell? ⟨b, o + i * 2 + 1, none⟩ = some ts[i].at1
def okT (w : World) (ts : List TD) : Prop := ∀ x ∈ ts, x.ok w

theorem conT_length (ts : List TD) : (conT ts).length = ts.length := by simp [conT]
theorem cellsT_length : ∀ ts : List TD, (cellsT ts).length = ts.length * 2
  | [] => rfl
  | x :: ts => by
    have := cellsT_length ts
    unfold cellsT at *
    rw [List.flatMap_cons, List.length_append, this, List.length_cons]
    simp [TD.cells]
    omega
theorem cellsT_get : ∀ (ts : List TD) (i : Nat) (h : i < ts.length), (cellsT ts)[i * 2]? = some ts[i].at0 ∧ (cellsT ts)[i * 2 + 1]? = some ts[i].at1
  | x :: ts, 0, _ => ⟨rfl, rfl⟩
  | x :: ts, i + 1, h => by
    have ih := cellsT_get ts i (by simpa using h)
    have e : cellsT (x :: ts) = x.at0 :: x.at1 :: cellsT ts := rfl
    rw [e, show (i + 1) * 2 = i * 2 + 1 + 1 by omega, List.getElem?_cons_succ, List.getElem?_cons_succ, List.getElem?_cons_succ, List.getElem?_cons_succ]
    exact ih
theorem conT_get (ts : List TD) (i : Nat) (h : i < ts.length) : (conT ts)[i]'(by rw [conT_length]; exact h) = ts[i].c := by simp [conT]
theorem TD.ok.keep {w w' : World} {x : TD} (h : x.ok w) (hb : Below w.heap.size w w') : x.ok w' := ⟨h.1, h.2.1, h.2.2.1.keep hb, h.2.2.2.keep hb⟩
theorem okT.keep {w w' : World} {ts : List TD} (h : okT w ts) (hb : Below w.heap.size w w') : okT w' ts := fun x hx => (h x hx).keep hb
theorem okT.app {w : World} {ts us : List TD} (h : okT w ts) (k : okT w us) : okT w (ts ++ us) := fun x hx => (List.mem_append.1 hx).elim (h x) (k x)
theorem okT.take {w : World} {ts : List TD} (h : okT w ts) (n : Nat) : okT w (ts.take n) := fun x hx => h x (List.mem_of_mem_take hx)
section
variable {w w' : World} {A : Option Addr} {ts : List TD}
theorem RdT.nil : RdT w A [] := fun h => absurd rfl h
theorem RdT.at (h : RdT w A ts) {k : Nat} (hk : k < ts.length) : ∃ b o, A = some ⟨b, o, none⟩ ∧ b < w.heap.size ∧ ∀ i (h : i < ts.length), w.cell? ⟨b, o + i * 2, none⟩ = some ts[i].at0 ∧ w.cell? ⟨b, o + i * 2 + 1, none⟩ = some ts[i].at1 := by
  obtain ⟨b, o, e, hc⟩ := h (by rintro rfl; simp at hk)
  exact ⟨b, o, e, World.block_lt_of_cell? w _ (hc k hk).1, hc⟩
theorem RdT.keep (h : RdT w A ts) (hb : Below w.heap.size w w') : RdT w' A ts := fun hn => by
  obtain ⟨b, o, e, hc⟩ := h hn
  refine ⟨b, o, e, fun i hi => ?_⟩
  obtain ⟨h0, h1⟩ := hc i hi
  have hlt := World.block_lt_of_cell? w _ h0
  exact ⟨(hb.cell (p := ⟨b, o + i * 2, none⟩) hlt).trans h0, (hb.cell (p := ⟨b, o + i * 2 + 1, none⟩) hlt).trans h1⟩
theorem RdT.take (h : RdT w A ts) (n : Nat) : RdT w A (ts.take n) := fun hn => by
  obtain ⟨b, o, e, hc⟩ := h (by rintro rfl; simp at hn)
  refine ⟨b, o, e, fun i hi => ?_⟩
  have hi' : i < ts.length := by simp at hi; omega
  have := hc i hi'
  simpa using this
theorem RdT.range {b o : Nat} (h : RdT w (some ⟨b, o, none⟩) ts) : ∀ j u, (cellsT ts)[j]? = some u → w.cell? ((⟨b, o, none⟩ : Addr).add j) = some u := fun j u hu => by
  have hj : j < ts.length * 2 := by
    rw [← cellsT_length]
    exact (List.getElem?_eq_some_iff.1 hu).1
  have hi : j / 2 < ts.length := by omega
  obtain ⟨b', o', e, hc⟩ := h (by rintro rfl; simp at hi)
  injection e with e
  injection e with e1 e2 _
  subst e1 e2
  obtain ⟨h0, h1⟩ := hc (j / 2) hi
  obtain ⟨g0, g1⟩ := cellsT_get ts (j / 2) hi
  have e1 : (⟨b, o, none⟩ : Addr).add j = ⟨b, o + j, none⟩ := by unfold Addr.add; split <;> simp_all
  rw [e1]
  by_cases hp : j % 2 = 0
  · have e2 : j / 2 * 2 = j := by omega
    rw [e2] at h0 g0
    rw [h0, ← g0, hu]
  · have e2 : j / 2 * 2 + 1 = j := by omega
    rw [Nat.add_assoc, e2] at h1
    rw [e2] at g1
    rw [h1, ← g1, hu]
theorem RdT.own {base : Nat} {e : TypeId} {n c : Nat} (h : w.ownsRow base e 2 (.slice A n c) n (cellsT ts)) : RdT w A ts := fun hn => by
  have hl : ts.length = n := by
    have := h.1
    rw [cellsT_length] at this
    omega
  have hpos : 0 < n := by
    rcases Nat.eq_zero_or_pos n with h0 | h0
    · exact absurd (List.eq_nil_of_length_eq_zero (by omega)) hn
    · exact h0
  obtain ⟨g, cap, hv, _, hlt⟩ := h.form hpos
  have hA : A = some ⟨g, 0, none⟩ := by injection hv
  subst hA
  refine ⟨g, 0, rfl, fun i hi => ?_⟩
  obtain ⟨g0, g1⟩ := cellsT_get ts i hi
  have h0 := h.cells (g := g) rfl _ _ g0
  have h1 := h.cells (g := g) rfl _ _ g1
  have e1 : ∀ j, (⟨g, 0, none⟩ : Addr).add j = ⟨g, 0 + j, none⟩ := fun j => by unfold Addr.add; split <;> simp_all
  rw [e1] at h0 h1
  exact ⟨h0, h1⟩
theorem own_sliceT {base : Nat} {e : TypeId} {v : Value} (h : w.ownsRow base e 2 v ts.length (cellsT ts)) : ∃ A cap, v = .slice A ts.length cap ∧ ts.length ≤ cap ∧ RdT w A ts := by
  rcases h.2 with ⟨rfl, h0⟩ | ⟨g, cap, cur, rfl, _, _, hc, _⟩
  · have hl : ts = [] := List.eq_nil_of_length_eq_zero h0
    subst hl
    exact ⟨none, 0, rfl, Nat.le_refl _, RdT.nil⟩
  · exact ⟨_, cap, rfl, hc, RdT.own h⟩
end
theorem cellsT_one : ∀ (ts : List TD), ∀ u ∈ cellsT ts, u.oneCell' = true := fun ts u hu => by
  obtain ⟨x, _, hx⟩ := List.mem_flatMap.1 hu
  simp [TD.cells, TD.at0, TD.at1] at hx
  rcases hx with rfl | rfl <;> rfl
theorem rangeAt_keep {w w' : World} {g o : Nat} {l : List Value} (h : w.rangeAt g o l) (hb : Below w.heap.size w w') (hg : g < w.heap.size) : w'.rangeAt g o l := fun j v hv => (hb.cell (p := ⟨g, o + j, none⟩) hg).trans (h j v hv)
/-- What lies below block B is there behind a store to a block not below it. -/
theorem Rd.setRow_old {α : Type} {f : α → Value} {w w' : World} {A : Option Addr} {L : List α} (h : Rd f w A L) (hb : Below w.heap.size w w') {g : Nat} (hg : w.heap.size ≤ g) (cs : Array Value) : Rd f (w'.setRow g cs) A L := fun hn => by
  obtain ⟨b, o, rfl, hc⟩ := h hn
  refine ⟨b, o, rfl, fun i hi => ?_⟩
  have hk := hc i hi
  have hlt : b < w.heap.size := World.block_lt_of_cell? w _ hk
  rw [cell_setRow_other w' g cs ⟨b, o + i, none⟩ (by show b ≠ g; omega), hb.cell (p := ⟨b, o + i, none⟩) hlt]
  exact hk
theorem TD.ok.setRow_old {w w' : World} {x : TD} (h : x.ok w) (hb : Below w.heap.size w w') {g : Nat} (hg : w.heap.size ≤ g) (cs : Array Value) : x.ok (w'.setRow g cs) := ⟨h.1, h.2.1, h.2.2.1.setRow_old hb hg cs, h.2.2.2.setRow_old hb hg cs⟩

/-! ### A store into a block that holds no bytes, and no terms -/
theorem vB_inj {a b : UInt8} (h : vB a = vB b) : a = b := by
  unfold vB at h
  injection h with _ h
  exact UInt8.toNat_inj.1 (by omega)
theorem Rd.setRow_row {w : World} {A : Option Addr} {L : List UInt8} (h : Rd vB w A L) {g : Nat} {t : TypeId} {l : List Value} (hR : Row w g t l) (hl : ∀ v ∈ l, ∀ x, v ≠ vB x) (cs : Array Value) : Rd vB (w.setRow g cs) A L := fun hn => by
  obtain ⟨b, o, rfl, hc⟩ := h hn
  refine ⟨b, o, rfl, fun i hi => ?_⟩
  have hne : b ≠ g := by
    rintro rfl
    have h1 := hc i hi
    rw [hR.cell? (o + i)] at h1
    exact hl _ (List.mem_of_getElem? h1) _ rfl
  exact (cell_setRow_other w g cs ⟨b, o + i, none⟩ hne).trans (hc i hi)
theorem TD.ok.setRow_row {w : World} {x : TD} (h : x.ok w) {g : Nat} {t : TypeId} {l : List Value} (hR : Row w g t l) (hl : ∀ v ∈ l, ∀ x, v ≠ vB x) (cs : Array Value) : x.ok (w.setRow g cs) := ⟨h.1, h.2.1, h.2.2.1.setRow_row hR hl cs, h.2.2.2.setRow_row hR hl cs⟩
theorem okT.setRow_row {w : World} {ts : List TD} (h : okT w ts) {g : Nat} {t : TypeId} {l : List Value} (hR : Row w g t l) (hl : ∀ v ∈ l, ∀ x, v ≠ vB x) (cs : Array Value) : okT (w.setRow g cs) ts := fun x hx => (h x hx).setRow_row hR hl cs
/-- A number and a slice are no bytes; and no term is a number. -/
theorem two_no_byte (k : Int) (v : Value) (hv : ∀ x, v ≠ vB x) : ∀ u ∈ ([.int .i64 k, v] : List Value), ∀ x, u ≠ vB x := fun u hu x e => by
  simp at hu
  rcases hu with rfl | rfl
  · unfold vB at e
    injection e with e _
    cases e
  · exact hv x e
theorem slice_no_byte (A : Option Addr) (n c : Nat) : ∀ x, (Value.slice A n c) ≠ vB x := fun x e => by unfold vB at e; cases e
theorem RdT.setRow_row {w : World} {A : Option Addr} {ts : List TD} (h : RdT w A ts) {g : Nat} {t : TypeId} {k : Int} {v : Value} (hR : Row w g t [.int .i64 k, v]) (cs : Array Value) : RdT (w.setRow g cs) A ts := fun hn => by
  obtain ⟨b, o, rfl, hc⟩ := h hn
  refine ⟨b, o, rfl, fun i hi => ?_⟩
  obtain ⟨h0, h1⟩ := hc i hi
  have hne : b ≠ g := by
    rintro rfl
    rw [hR.cell? (o + i * 2)] at h0
    rw [hR.cell? (o + i * 2 + 1)] at h1
    rcases Nat.eq_zero_or_pos (o + i * 2) with e | e
    · rw [e] at h0
      injection h0 with h0
      unfold TD.at0 at h0
      cases h0
    · rw [List.getElem?_eq_none (by simp; omega)] at h1
      cases h1
  exact ⟨(cell_setRow_other w g cs ⟨b, o + i * 2, none⟩ hne).trans h0, (cell_setRow_other w g cs ⟨b, o + i * 2 + 1, none⟩ hne).trans h1⟩

/-! ### append, elements of any size -/
section
variable {P : Program} (w : World)
theorem run_append_gen (base : Nat) (t ty e : TypeId) (i : TypeInfo) (z : Value) (size bytes : Nat) (ht : P.underlying t = some (.slice e)) (hi : P.info? e = some i) (hz : i.zero = some z)
    (hsize : i.size = size) (hby : i.bytes = bytes) (hzs : z.cells.size = size) (hsz : 0 < size) (v : Value) (n : Nat) (xs : List Value) (hown : w.ownsRow base e size v n xs)
    (A : Option Addr) (m c : Nat) (news : List Value) (hl : news.length = m * size) (hr : news ≠ [] → ∃ b o, A = some ⟨b, o, none⟩ ∧ ∀ j u, news[j]? = some u → w.cell? ((⟨b, o, none⟩ : Addr).add j) = some u) (h1 : ∀ u ∈ news, u.oneCell' = true)
    (h63 : n + m ≤ maxLen) (hbytes : (n + m) * bytes ≤ 140737488355328) (hbase : base ≤ w.heap.size) :
    ∃ v' w', (Builtin.append_ #[t, t] ty #[v, .slice A m c]).run P w = .ok v' w' ∧ w'.ownsRow base e size v' (n + m) (xs ++ news) ∧ w.grownBy w' v.ownBlock := by
  by_cases hm : m = 0
  · subst hm
    have e0 : news = [] := List.eq_nil_of_length_eq_zero (by omega)
    subst e0
    cases A with
    | none =>
      refine ⟨v, w, ?_, by simpa using hown, ⟨rfl, rfl, rfl, Nat.le_refl _, fun _ _ _ => rfl⟩⟩
      rcases hown.2 with ⟨rfl, rfl⟩ | ⟨g, cap, cur, rfl, _, _, hnc, _⟩
      · simp [Builtin.append_, run_underlying ht, sizeOf, typeInfo, hi, Builtin.lenOf, Builtin.firstCells]
      · simp [Builtin.append_, run_underlying ht, sizeOf, typeInfo, hi, Builtin.lenOf, Builtin.firstCells, hnc, storeCells]
    | some ad =>
      obtain ⟨v', w', hrun, h2, h3, _⟩ := run_append_own (P := P) w base t ty e i z size bytes ht hi hz hsize hby hzs hsz v n xs hown ad 0 c [] (by simp) (fun j u h => by simp at h) (fun u h => by simp at h) h63 hbytes hbase
      exact ⟨v', w', hrun, h2, h3⟩
  · have hne : news ≠ [] := by
      rintro rfl
      have h0 : m * size = 0 := by rw [← hl]; rfl
      rcases Nat.mul_eq_zero.1 h0 with h | h <;> omega
    obtain ⟨b, o, rfl, hc⟩ := hr hne
    obtain ⟨v', w', hrun, h2, h3, _⟩ := run_append_own (P := P) w base t ty e i z size bytes ht hi hz hsize hby hzs hsz v n xs hown ⟨b, o, none⟩ m c news hl hc h1 h63 hbytes hbase
    exact ⟨v', w', hrun, h2, h3⟩
theorem wpList_append_gen {ops : Array Oper} {rest : List Oper} {o : Oper} {a : Act} {Q : Exit → Act → World → Prop} (hgd : o.guard = none) (s x : Operand) (t : TypeId)
    (ho : o.op = .call { callee := .builtin .append, args := #[s, x], argTypes := #[t, t] })
    (base : Nat) (e : TypeId) (i : TypeInfo) (z : Value) (size bytes : Nat) (ht : P.underlying t = some (.slice e)) (hi : P.info? e = some i) (hz : i.zero = some z)
    (hsize : i.size = size) (hby : i.bytes = bytes) (hzs : z.cells.size = size) (hsz : 0 < size) (v : Value) (n : Nat) (xs : List Value) (hs : a.eval s = v) (hown : w.ownsRow base e size v n xs)
    (A : Option Addr) (m c : Nat) (news : List Value) (hx : a.eval x = .slice A m c) (hl : news.length = m * size) (hr : news ≠ [] → ∃ b o, A = some ⟨b, o, none⟩ ∧ ∀ j u, news[j]? = some u → w.cell? ((⟨b, o, none⟩ : Addr).add j) = some u) (h1 : ∀ u ∈ news, u.oneCell' = true)
    (h63 : n + m ≤ maxLen) (hbytes : (n + m) * bytes ≤ 140737488355328) (hbase : base ≤ w.heap.size)
    (h : ∀ v' w', w'.ownsRow base e size v' (n + m) (xs ++ news) → w.grownBy w' v.ownBlock → wpList P ops Q rest (a.put o.dst v') w') : wpList P ops Q (o :: rest) a w := by
  refine wpList_plain hgd fun K hK => ?_
  obtain ⟨v', w', hr, h2, h3⟩ := run_append_gen (P := P) w base t o.type e i z size bytes ht hi hz hsize hby hzs hsz v n xs hown A m c news hl hr h1 h63 hbytes hbase
  unfold Oper.wp execOp
  simp only [ho, resolve, invoke, builtin, Sem.run_bind, Sem.run_pure, Result.andThen_ok, List.map_toArray, List.map_cons, List.map_nil, hs, hx, hr]
  exact hK _ _ (h v' w' h2 h3)
end
theorem RdT.news {w : World} {A : Option Addr} {ts : List TD} (h : RdT w A ts) : cellsT ts ≠ [] → ∃ b o, A = some ⟨b, o, none⟩ ∧ ∀ j u, (cellsT ts)[j]? = some u → w.cell? ((⟨b, o, none⟩ : Addr).add j) = some u := fun hn => by
  have hne : ts ≠ [] := by
    rintro rfl
    exact hn rfl
  obtain ⟨b, o, e, _⟩ := h hne
  subst e
  exact ⟨b, o, rfl, h.range⟩
/-- A row of bytes of the call's own, as a slice; its block is none of the older ones. -/
theorem own_sliceN {α : Type} {f : α → Value} {w : World} {base : Nat} {e : TypeId} {v : Value} {l : List α} (h : w.ownsRow base e 1 v l.length (l.map f)) : ∃ A cap, v = .slice A l.length cap ∧ l.length ≤ cap ∧ Rd f w A l ∧ ∀ a, A = some a → base ≤ a.block := by
  rcases h.2 with ⟨rfl, h0⟩ | ⟨g, cap, cur, rfl, hg, _, hc, _⟩
  · have hl : l = [] := List.eq_nil_of_length_eq_zero h0
    subst hl
    exact ⟨none, 0, rfl, Nat.le_refl _, Rd.nil, fun a h => by cases h⟩
  · exact ⟨_, cap, rfl, hc, Rd.own h, fun a ha => by injection ha with ha; subst ha; exact hg⟩
theorem info_term : (Tryd.prog.info? 47).map (fun i => (i.zero, i.size, i.bytes)) = some (some (.agg #[.slice none 0 0, .slice none 0 0]), 2, 48) := by kernel_rfl
end Go.Proofs.YtknjpmoimjhddaaDoor
/-
  What the reference's calls Rot, Value, FromLeast, Put and Bytes answer: the same as the program's, for whatever is given.
-/
namespace Go.Proofs.YtknjpmoimjhddaaDoor
set_option maxRecDepth 100000
open Go.RowKit

theorem wordsL_length (l : List UInt8) : 4 * (wordsL l).length ≤ l.length := by
  have := congrArg List.length (bytesL_wordsL l)
  rw [bytesL_length, List.length_take] at this
  omega
theorem rot_one (x : UInt32) : (rotR x 1).toNat = x.toNat / 2 + x.toNat % 2 * 2147483648 := by
  have hx := u32_lt x
  have e : (rotR x 1).toNat = (x.toBitVec >>> 1 ||| x.toBitVec <<< 31).toNat := by
    show (x.toBitVec.rotateRight 1).toNat = _
    rw [BitVec.rotateRight_def]
  rw [e, BitVec.toNat_or, BitVec.toNat_shiftLeft, BitVec.toNat_ushiftRight, Nat.shiftLeft_eq, Nat.shiftRight_eq_div_pow]
  show x.toNat / 2 ^ 1 ||| x.toNat * 2 ^ 31 % 2 ^ 32 = _
  have e2 : x.toNat * 2 ^ 31 % 2 ^ 32 = 2 ^ 31 * (x.toNat % 2) := by omega
  rw [e2, Nat.or_comm, ← Nat.two_pow_add_eq_or_of_lt (by omega)]
  omega
theorem rot_next (x : UInt32) (k : Nat) : rotR x (k + 1) = rotR (rotR x k) 1 := (rotR_rotR x k 1).symm
theorem rot_even (x y : UInt32) (h : x.toNat % 2 = 0) (e : y = rotR x 1) : y.toNat = x.toNat / 2 := by
  rw [e, rot_one]
  omega
theorem rot_odd (x y : UInt32) (h : x.toNat % 2 = 1) (e : y = rotR x 1) : y.toNat = x.toNat / 2 + 2147483648 := by
  rw [e, rot_one]
  omega

def RotRel (x : UInt32) (n : Nat) (u i : Value) : Prop := ∃ k : Nat, k ≤ n ∧ i = .int .i64 k ∧ u = .int .u32 ((rotR x k).toNat : Int)



theorem value_step (a c : Nat) : IntKind.u64.wrap (IntKind.u64.wrap (256 * ((a : Int) % 18446744073709551616)) + (c : Int)) = (((a * 256 + c) % 18446744073709551616 : Nat) : Int) := by
  rw [IntKind.wrap_u64, IntKind.wrap_u64]
  omega
def ValueRel (l : List UInt8) (v i : Value) : Prop := ∃ k : Nat, k ≤ l.length ∧ i = .int .i64 k ∧ v = .int .u64 ((valN (l.take k) % 18446744073709551616 : Nat) : Int)



theorem refput_cells (v : Nat) (hv : v < 18446744073709551616) :
    #[Value.int IntKind.u8 ((v : Int) / 256 / 256 / 256 / 256 / 256 / 256 / 256 % 256), Value.int IntKind.u8 ((v : Int) / 256 / 256 / 256 / 256 / 256 / 256 % 256), Value.int IntKind.u8 ((v : Int) / 256 / 256 / 256 / 256 / 256 % 256), Value.int IntKind.u8 ((v : Int) / 256 / 256 / 256 / 256 % 256),
      Value.int IntKind.u8 ((v : Int) / 256 / 256 / 256 % 256), Value.int IntKind.u8 ((v : Int) / 256 / 256 % 256), Value.int IntKind.u8 ((v : Int) / 256 % 256), Value.int IntKind.u8 ((v : Int) % 256)] = ((putL v).map vB).toArray := by
  rw [← put_cells v hv]
  have e7 : (v : Int) / 256 / 256 / 256 / 256 / 256 / 256 / 256 % 256 = (v : Int) / 72057594037927936 := by omega
  have e6 : (v : Int) / 256 / 256 / 256 / 256 / 256 / 256 % 256 = (v : Int) / 281474976710656 % 256 := by omega
  have e5 : (v : Int) / 256 / 256 / 256 / 256 / 256 % 256 = (v : Int) / 1099511627776 % 256 := by omega
  have e4 : (v : Int) / 256 / 256 / 256 / 256 % 256 = (v : Int) / 4294967296 % 256 := by omega
  have e3 : (v : Int) / 256 / 256 / 256 % 256 = (v : Int) / 16777216 % 256 := by omega
  have e2 : (v : Int) / 256 / 256 % 256 = (v : Int) / 65536 % 256 := by omega
  rw [e7, e6, e5, e4, e3, e2]



end Go.Proofs.YtknjpmoimjhddaaDoor
/-
  What the reference's call Place of layer 5 answers. No conditions but those typed.
-/
namespace Go.Proofs.YtknjpmoimjhddaaDoor
set_option maxRecDepth 100000
open Go.RowKit
set_option linter.unusedSimpArgs false
set_option linter.unusedVariables false

def PlRel (cs : List Tm) (x : Tm) (w : World) (i : Value) (wr : World) : Prop :=
  ∃ k : Nat, k ≤ cs.length ∧ i = .int .i64 (k : Int) ∧ (∀ j (h : j < k) (h' : j < cs.length), cs[j] ≠ x) ∧ Below w.heap.size w wr
theorem PlRel.next {cs : List Tm} {x : Tm} {k : Nat} (hk : k < cs.length) (h : ∀ j (h : j < k) (h' : j < cs.length), cs[j] ≠ x) (hn : cs[k] ≠ x) : ∀ j (h : j < k + 1) (h' : j < cs.length), cs[j] ≠ x := fun j hj h' => by
  rcases Nat.lt_or_ge j k with h1 | h1
  · exact h j h1 h'
  · have : j = k := by omega
    subst this
    exact hn

end Go.Proofs.YtknjpmoimjhddaaDoor
/-
  What the reference's calls Right, Same and Short of layer 5 answer. No conditions but those typed.
-/
namespace Go.Proofs.YtknjpmoimjhddaaDoor
set_option maxRecDepth 100000
open Go.RowKit
set_option linter.unusedSimpArgs false
set_option linter.unusedVariables false

/-! ### Right -/
def RiRel (cs : List Tm) (w : World) (i : Value) (wr : World) : Prop :=
  ∃ k : Nat, k ≤ cs.length ∧ i = .int .i64 (k : Int) ∧ (∀ j (h : j < k) (h' : j < cs.length), idx cs[j] cs = j) ∧ Below w.heap.size w wr

/-! ### Same -/
def SaRel (cs ds : List Tm) (w : World) (i : Value) (wr : World) : Prop :=
  ∃ k : Nat, k ≤ cs.length ∧ i = .int .i64 (k : Int) ∧ (∀ j (h : j < k) (h1 : j < cs.length) (h2 : j < ds.length), cs[j] = ds[j]) ∧ Below w.heap.size w wr
theorem str_bne (a b : List UInt8) : ((strL a).toList != (strL b).toList) = !decide (a = b) := by rw [bne, str_beq]

/-! ### Short -/
def shortT (cs : List Tm) : Bool := decide (cs.length ≤ 400 ∧ ∀ x ∈ cs, x.1.length ≤ 3000 ∧ x.2.length ≤ 3000)
def ShRel (cs : List Tm) (w : World) (i : Value) (wr : World) : Prop :=
  ∃ k : Nat, k ≤ cs.length ∧ k ≤ 400 ∧ i = .int .i64 (k : Int) ∧ (∀ j (h : j < k) (h' : j < cs.length), cs[j].1.length ≤ 3000 ∧ cs[j].2.length ≤ 3000) ∧ w = wr

set_option maxHeartbeats 1000000 in
theorem refshort_any (ts : List TD) (p : Nat) (A : Option Addr) (c : Nat) (w : World) (HP : Hid (ts.length = p)) (ht : RdT w A ts) (hml : ∀ x ∈ ts, x.k.length ≤ 9223372036854775807 ∧ x.m.length ≤ 9223372036854775807) (hp : p ≤ 9223372036854775807) :
    Calls Tryd.prog 21 #[.slice A p c] w fun e w' => e = .returned (.bool (shortT (conT ts))) ∧ w = w' := by
  have e1 := HP.out
  subst e1
  have HML := Lib.hid hml
  clear HP hml
  go_enter Tryd.func21, Tryd.ntmps21
  go_wp2_with fail
  go_loopw [3] (fun i wr => ShRel (conT ts) w i wr) (fun i _ => 400 - (intOf i).toNat)
  case atStart => exact ⟨0, Nat.zero_le _, Nat.zero_le _, rfl, fun j h => absurd h (by omega), rfl⟩
  case round =>
    obtain ⟨k, hk1, hk4, rfl, hbef, rfl⟩ := hrel
    by_cases hlt : k < ts.length
    · have i1 : (k : Int) < (ts.length : Int) := by omega
      by_cases h4 : k < 400
      · obtain ⟨blk, o, rfl, hblk, hcell⟩ := ht.at hlt
        have hg := conT_get ts k hlt
        have hlc : k < (conT ts).length := by rw [conT_length]; exact hlt
        obtain ⟨hc0, hc1⟩ := hcell k hlt
        have HNE : Hid (¬ (ts[k].k.length ≤ 3000 ∧ ts[k].m.length ≤ 3000) → shortT (conT ts) = false) := fun hn => by
          unfold shortT
          rw [decide_eq_false_iff_not]
          rintro ⟨_, h⟩
          have := h _ (List.getElem_mem hlc)
          rw [hg] at this
          exact hn this
        have HEQ : Hid (ts[k].k.length ≤ 3000 ∧ ts[k].m.length ≤ 3000 → ∀ j (h : j < k + 1) (h' : j < (conT ts).length), (conT ts)[j].1.length ≤ 3000 ∧ (conT ts)[j].2.length ≤ 3000) := fun he j hj h' => by
          rcases Nat.lt_or_ge j k with h | h
          · exact hbef j h h'
          · have : j = k := by omega
            subst this
            rw [hg]
            exact he
        have hb := HML.out _ (List.getElem_mem hlt)
        clear hg hbef hcell
        generalize ts[k] = x at hb hc0 hc1 HNE HEQ
        obtain ⟨kA, kc, kl, mA, mc, ml⟩ := x
        unfold TD.at0 TD.at1 at *
        dsimp only at hb HNE HEQ hc0 hc1
        obtain ⟨hkb, hmb⟩ := hb
        generalize kl.length = n at *
        generalize ml.length = m at *
        have i0 : (0 : Int) ≤ (k : Int) := by omega
        have i4 : (k : Int) < 400 := by omega
        by_cases hn : n ≤ 3000
        · have n1 : ¬ (3000 : Int) < (n : Int) := by omega
          by_cases hm : m ≤ 3000
          · have n2 : ¬ (3000 : Int) < (m : Int) := by omega
            have HR : Hid (ShRel (conT ts) w (.int .i64 ((k : Int) + 1)) w) := ⟨k + 1, hlc, by omega, by go_num, HEQ.out ⟨hn, hm⟩, rfl⟩
            clear HEQ HNE hk1 hlc
            go_wp2_with fail
            go_roundw
            case rel => exact HR.out
            case measure => simp [intOf]; omega
          · have n2 : (3000 : Int) < (m : Int) := by omega
            have HF := Lib.hid (HNE.out (fun h => hm h.2))
            clear HEQ HNE hk1 hlc
            go_wp2_with fail
            go_ret
            exact ⟨by rw [HF.out]; rfl, rfl⟩
        · have n1 : (3000 : Int) < (n : Int) := by omega
          have HF := Lib.hid (HNE.out (fun h => hn h.1))
          clear HEQ HNE hk1 hlc
          go_wp2_with fail
          go_ret
          exact ⟨by rw [HF.out]; rfl, rfl⟩
      · have i4 : ¬ (k : Int) < 400 := by omega
        have i5 : ¬ (ts.length : Int) ≤ 400 := by omega
        have HF : Hid (shortT (conT ts) = false) := by
          unfold Hid shortT
          rw [decide_eq_false_iff_not]
          rintro ⟨h, _⟩
          rw [conT_length] at h
          omega
        clear hbef hk1
        go_wp2_with fail
        go_ret
        exact ⟨by simp [HF.out], rfl⟩
    · have i1 : ¬ (k : Int) < (ts.length : Int) := by omega
      have i5 : (ts.length : Int) ≤ 400 := by omega
      have HT : Hid (shortT (conT ts) = true) := by
        unfold Hid shortT
        rw [decide_eq_true_eq]
        refine ⟨by rw [conT_length]; omega, fun x hx => ?_⟩
        obtain ⟨i, hi, rfl⟩ := List.getElem_of_mem hx
        exact hbef i (by rw [conT_length] at hi; omega) hi
      clear hbef hk1
      go_wp2_with fail
      go_ret
      exact ⟨by simp [HT.out], rfl⟩
end Go.Proofs.YtknjpmoimjhddaaDoor
/-
  What the reference's calls Put and Of of layer 5 answer. No conditions but those typed.
-/
namespace Go.Proofs.YtknjpmoimjhddaaDoor
set_option maxRecDepth 100000
open Go.RowKit
set_option linter.unusedSimpArgs false
set_option linter.unusedVariables false

theorem Rd.newsB {α : Type} {f : α → Value} {w : World} {A : Option Addr} {l : List α} (h : Rd f w A l) : l.map f ≠ [] → ∃ b o, A = some ⟨b, o, none⟩ ∧ ∀ j u, (l.map f)[j]? = some u → w.cell? ((⟨b, o, none⟩ : Addr).add j) = some u := fun hn => by
  obtain ⟨b, o, e, _⟩ := h (by rintro rfl; exact hn rfl)
  subst e
  exact ⟨b, o, rfl, h.news⟩
theorem ownsRow2_later {w w' : World} {base m : Nat} {e : TypeId} {v : Value} {n : Nat} {xs : List Value} (h : w.ownsRow base e m v n xs) (hb : Below w.heap.size w w') : w'.ownsRow base e m v n xs := by
  refine ⟨h.1, ?_⟩
  rcases h.2 with h0 | ⟨g, cap, cur, hv, hg, hc, r⟩
  · exact .inl h0
  · exact .inr ⟨g, cap, cur, hv, hg, (hb.block g (Array.getElem?_eq_some_iff.1 hc).1).trans hc, r⟩

/-- What Put hands back. -/
def PutRes (ts : List TD) (x : Tm) (w : World) (e : Ending) (w' : World) : Prop :=
  ∃ (us : List TD) (p : Nat) (A : Option Addr) (c : Nat) (tA : Option Addr) (tc : Nat), e = .returned (.tuple #[.slice A p c, .slice tA 8 tc]) ∧ Hid (us.length = p) ∧ p ≤ c ∧ 8 ≤ tc ∧ RdT w' A us ∧ okT w' us ∧ Hid (conT us = putT (conT ts) x) ∧ Rd vB w' tA (tagT (conT ts) x) ∧ Below w.heap.size w w'

end Go.Proofs.YtknjpmoimjhddaaDoor
/-
  What the reference's call Of of layer 5 answers. No conditions but those typed.
-/
namespace Go.Proofs.YtknjpmoimjhddaaDoor
set_option maxRecDepth 100000
open Go.RowKit
set_option linter.unusedSimpArgs false
set_option linter.unusedVariables false

/-- What Of hands back. -/
def OfRes (ts : List TD) (tag : List UInt8) (w : World) (e : Ending) (w' : World) : Prop :=
  ∃ (x : TD) (u : Int), e = .returned (.tuple #[.agg #[x.at0, x.at1], .int .i64 u]) ∧ x.ok w' ∧ Hid ((x.c, u) = ofT (conT ts) tag) ∧ Below w.heap.size w w'
/-- .. and it is one of those that came in, or none. -/
def OfResS (ts : List TD) (tag : List UInt8) (w : World) (e : Ending) (w' : World) : Prop :=
  ∃ (x : TD) (u : Int), e = .returned (.tuple #[.agg #[x.at0, x.at1], .int .i64 u]) ∧ (x ∈ ts ∨ x = ⟨none, 0, [], none, 0, []⟩) ∧ Hid ((x.c, u) = ofT (conT ts) tag) ∧ Below w.heap.size w w'
def noTD : TD := ⟨none, 0, [], none, 0, []⟩
theorem noTD_ok (w : World) : noTD.ok w := ⟨Nat.le_refl _, Nat.le_refl _, Rd.nil, Rd.nil⟩
theorem OfResS.ok {ts : List TD} {w : World} {x : TD} (hok : okT w ts) (h : x ∈ ts ∨ x = ⟨none, 0, [], none, 0, []⟩) : x.ok w := by
  rcases h with h | rfl
  · exact hok x h
  · exact noTD_ok w
theorem OfResS.res {ts : List TD} {tag : List UInt8} {w w' : World} {e : Ending} (hok : okT w ts) (h : OfResS ts tag w e w') : OfRes ts tag w e w' := by
  obtain ⟨x, u, he, hx, HO, hb⟩ := h
  exact ⟨x, u, he, (OfResS.ok hok hx).keep hb, HO, hb⟩
theorem ofT_bad (cs : List Tm) (tag : List UInt8) (h : tag.length ≠ 8) : ofT cs tag = (([], []), 1) := if_pos h
theorem ofT_none (cs : List Tm) (tag : List UInt8) (h : tag.length = 8) (hn : ∀ j, j < cs.length → putL (j + 1) ≠ tag) (hl : cs.length ≤ 1000000000) : ofT cs tag = (([], []), 7) := by
  unfold ofT
  rw [if_neg (by simp [h]), if_neg]
  rintro ⟨h1, h2⟩
  refine hn (valN tag - 1) (by omega) ?_
  rw [show valN tag - 1 + 1 = valN tag by omega, putL_valN tag h]
theorem ofT_at (cs : List Tm) (tag : List UInt8) (h : tag.length = 8) (k : Nat) (hk : k < cs.length) (he : putL (k + 1) = tag) (hl : cs.length ≤ 1000000000) : ofT cs tag = (cs[k], 0) := by
  have e : valN tag = k + 1 := (putL_eq (k + 1) tag h (by omega)).1 he
  unfold ofT
  rw [if_neg (by simp [h]), e, if_pos (by omega), Nat.add_sub_cancel, List.getD_eq_getElem?_getD, List.getElem?_eq_getElem hk]
  rfl
def OfRel (ts : List TD) (tag : List UInt8) (w : World) (i : Value) (wr : World) : Prop :=
  ∃ k : Nat, k ≤ ts.length ∧ i = .int .i64 (k : Int) ∧ (∀ j, j < k → putL (j + 1) ≠ tag) ∧ Row wr w.heap.size 47 [.slice none 0 0, .slice none 0 0] ∧ Below w.heap.size w wr
theorem size_term : (Tryd.prog.info? 47).map (·.size) = some 2 := by kernel_rfl
theorem one_two (a b : Value) (ha : a.oneCell' = true) (hb : b.oneCell' = true) : ∀ v ∈ [a, b], v.oneCell' = true := fun v hv => by
  simp at hv
  rcases hv with rfl | rfl
  · exact ha
  · exact hb

end Go.Proofs.YtknjpmoimjhddaaDoor
/-
  What the program's calls copied and tagOf of layer 5 answer. No conditions but those typed.
-/
namespace Go.Proofs.YtknjpmoimjhddaaDoor
set_option maxRecDepth 100000
open Go.RowKit
set_option linter.unusedSimpArgs false
set_option linter.unusedVariables false

/-- Keys and texts that are not too long. -/
def lenT (cs : List Tm) : Prop := ∀ x ∈ cs, x.1.length ≤ 1000000000 ∧ x.2.length ≤ 1000000000
theorem lenT.nil : lenT [] := fun x hx => by cases hx
theorem lenT.put {cs : List Tm} {key msg : List UInt8} (h : lenT cs) (hk : key.length ≤ 1000000000) (hm : msg.length ≤ 1000000000) : lenT (putT cs (key, msg)) := by
  unfold putT
  split
  · exact h
  · intro x hx
    rcases List.mem_append.1 hx with hx | hx
    · exact h x hx
    · simp at hx
      subst hx
      exact ⟨hk, hm⟩
theorem lenT.short {cs : List Tm} (h : shortT cs = true) : lenT cs := by
  unfold shortT at h
  rw [decide_eq_true_eq] at h
  intro x hx
  have := h.2 x hx
  omega
theorem lenT.at {ts : List TD} (h : lenT (conT ts)) {x : TD} (hx : x ∈ ts) : x.k.length ≤ 1000000000 ∧ x.m.length ≤ 1000000000 := h x.c (List.mem_map_of_mem hx)

/-- A term whose key and text lie in new memory. -/
def TD.new (B : Nat) (x : TD) : Prop := (∀ a, x.kA = some a → B ≤ a.block) ∧ (∀ a, x.mA = some a → B ≤ a.block)
/-- What copied hands back. -/
def CopRes (x : TD) (w : World) (e : Ending) (w' : World) : Prop :=
  ∃ y : TD, e = .returned (.agg #[y.at0, y.at1]) ∧ y.ok w' ∧ y.c = x.c ∧ y.new w.heap.size ∧ Below w.heap.size w w'

set_option maxHeartbeats 1000000 in
theorem copied_any (x : TD) (w : World) (hkr : Rd vB w x.kA x.k) (hmr : Rd vB w x.mA x.m) (hk : x.k.length ≤ 1000000000) (hm : x.m.length ≤ 1000000000) :
    Calls Tryd.prog 146 #[.agg #[x.at0, x.at1]] w (CopRes x w) := by
  obtain ⟨kA, kc, k, mA, mc, m⟩ := x
  unfold TD.at0 TD.at1 at *
  dsimp only at hkr hmr hk hm ⊢
  have hR0 : Row (w.alloc (.cells #[.slice kA k.length kc, .slice mA m.length mc] 47)) w.heap.size 47 [.slice kA k.length kc, .slice mA m.length mc] := Row.new w _ _ _ rfl
  have hB0 := below_new (Below.refl _ w) (.cells #[.slice kA k.length kc, .slice mA m.length mc] 47)
  have hR1 := hR0.alloc (.cells #[.slice none 0 0, .slice none 0 0] 47)
  have hB1 := below_new hB0 (.cells #[.slice none 0 0, .slice none 0 0] 47)
  have hR2 : Row ((w.alloc (.cells #[.slice kA k.length kc, .slice mA m.length mc] 47)).alloc (.cells #[.slice none 0 0, .slice none 0 0] 47)) (w.heap.size + 1) 47 [.slice none 0 0, .slice none 0 0] := Row.new_at _ _ (by simp) _ _ _ rfl
  go_enter Tryd.func146, Tryd.ntmps146
  go_upto_region 1 with fail
  generalize (w.alloc (.cells #[.slice kA k.length kc, .slice mA m.length mc] 47)).alloc (.cells #[.slice none 0 0, .slice none 0 0] 47) = W2 at hR1 hB1 hR2 ⊢
  have hc0 : ∀ W, Below (w.heap.size + 1) W2 W → W.cell? ⟨w.heap.size, 0, none⟩ = some (.slice kA k.length kc) := fun W hW => (hR1.keep hW (by omega)).cell rfl
  have hc1 : ∀ W, Below (w.heap.size + 1) W2 W → W.cell? ⟨w.heap.size, 1, none⟩ = some (.slice mA m.length mc) := fun W hW => (hR1.keep hW (by omega)).cell rfl
  have hlt := hR2.lt
  have hBase : Below (w.heap.size + 1) W2 W2.drew := (Below.refl _ _).drew
  have hk2 : Rd vB W2.drew kA k := hkr.keep hB1.drew
  clear hR0 hB0
  refine wp_region_plan_at (w.heap.size + 1) (.step 0 false (.step 1 false (.step 3 false (.step 4 false (.step 2 true (.step 5 true (.step 6 false (.step 7 true .nil)))))))) (by kernel_rfl) (by kernel_rfl) (by rfl) (by kernel_rfl) ?_
  iterate 4 (refine plan_read rfl (by rfl) (v := ?_) ?_ ?_; rotate_left 1; (intro W hW; have hW0 := Below.trans hBase hW; (try dsimp only at hW); go_simp <;> with_reducible rfl); simp only [List.getElem_toArray, List.getElem_cons_zero, List.getElem_cons_succ, Act.put, List.setIfInBounds_toArray, List.set_cons_zero, List.set_cons_succ])
  (refine plan_make_at rfl (by rfl) (fun K hK => ?_); go_simp; refine (clone_b k kA kc _ hk2 (by omega)).mono ?_; rintro e w3 ⟨A3, c3, rfl, hc3, hr3, hN3, hb3⟩; have hz3 : W2.heap.size ≤ w3.heap.size := hb3.size; refine hK.out _ _ (hb3.mono (Nat.le_of_lt hlt)) ?_; clear hK K; replace hBase := hBase.trans (hb3.mono (Nat.le_of_lt hlt)))
  have hB3 := below_step hB1.drew hb3
  have hR3 := hR2.drew.later hb3
  have hm3 : Rd vB w3 mA m := hmr.keep hB3
  (refine plan_make_at rfl (by rfl) (fun K hK => ?_); go_simp; refine (clone_b m mA mc _ hm3 (by omega)).mono ?_; rintro e w4 ⟨A4, c4, rfl, hc4, hr4, hN4, hb4⟩; have hz4 : w3.heap.size ≤ w4.heap.size := hb4.size; refine hK.out _ _ (hb4.mono (by omega)) ?_; clear hK K; replace hBase := hBase.trans (hb4.mono (by omega)))
  have hB4 := below_step hB3 hb4
  have hR4 := hR3.later hb4
  have hr3' := hr3.keep hb4
  iterate 1 (refine plan_read rfl (by rfl) (v := ?_) ?_ ?_; rotate_left 1; (intro W hW; have hW0 := hBase.trans hW; (try dsimp only at hW); go_simp <;> with_reducible rfl); simp only [List.getElem_toArray, List.getElem_cons_zero, List.getElem_cons_succ, Act.put, List.setIfInBounds_toArray, List.set_cons_zero, List.set_cons_succ])
  (refine plan_make_at rfl (by rfl) (fun K hK => ?_); refine Row.wp_store 47 (.tmp 2) (.tmp 9) rfl rfl [.slice A3 k.length c3, .slice A4 m.length c4] rfl hR4 (by exact size_term) rfl (one_two _ _ rfl rfl) ?_; refine hK.out _ _ (below_setRow (Below.refl _ _) (Nat.le_refl _) _) ?_; clear hK K)
  refine plan_done ?_
  have hd : W2.drew.heap.size = W2.heap.size := rfl
  have hr3'' := hr3'.setRow (g := w.heap.size + 1) [.slice A3 k.length c3, .slice A4 m.length c4].toArray (fun a ha e => by have := hN3 a ha; omega)
  have hr4'' := hr4.setRow (g := w.heap.size + 1) [.slice A3 k.length c3, .slice A4 m.length c4].toArray (fun a ha e => by have := hN4 a ha; omega)
  have hR5 := hR4.setRow [.slice A3 k.length c3, .slice A4 m.length c4]
  have hB5 := below_setRow hB4 (Nat.le_succ w.heap.size) [.slice A3 k.length c3, .slice A4 m.length c4].toArray
  generalize w4.setRow (w.heap.size + 1) [.slice A3 k.length c3, .slice A4 m.length c4].toArray = w5 at hr3'' hr4'' hR5 hB5 ⊢
  go_wp2_with fail
  refine bodyPost_ret (results_cell_row (p := 2) (ty := 47) (by rfl) _ _ (w.heap.size + 1) 47 _ (0, 0) _ (by rfl) (by exact hR5) Tryd.underlying47 (by rfl) (by exact size_term)) (by rfl) ?_
  exact ⟨⟨A3, c3, k, A4, c4, m⟩, rfl, ⟨hc3, hc4, hr3'', hr4''⟩, rfl, ⟨fun a ha => by have := hN3 a ha; omega, fun a ha => by have := hN4 a ha; omega⟩, hB5⟩

theorem tagof_any (q : Nat) (T : List UInt8) (w : World) (hq : q ≤ 1000000000) (HT : Hid (putL (q + 1) = T)) :
    Calls Tryd.prog 148 #[.int .i64 (q : Int)] w fun e w' => ∃ A c, e = .returned (.slice A 8 c) ∧ 8 ≤ c ∧ Rd vB w' A T ∧ Below w.heap.size w w' := by
  have h1 : IntKind.u64.wrap (q : Int) = (q : Int) := by rw [IntKind.wrap_u64]; omega
  have h2 : IntKind.u64.wrap ((q : Int) + 1) = ((q + 1 : Nat) : Int) := by rw [IntKind.wrap_u64]; omega
  go_enter Tryd.func148, Tryd.ntmps148
  go_wp2_with fail
  refine (put_any (q + 1) (by omega) _).mono ?_
  rintro e' w2 ⟨A, c, rfl, hc, hr, hb⟩
  rw [HT.out] at hr
  go_wp2_with fail
  go_ret
  exact ⟨A, c, rfl, hc, hr, hb⟩
end Go.Proofs.YtknjpmoimjhddaaDoor
/-
  What the program's calls of layer 14 answer that use no tag (landed code): rightSize, Right, Bytes, endOf, number, read. No conditions but those typed.
-/
namespace Go.Proofs.YtknjpmoimjhddaaDoor
set_option maxRecDepth 100000
open Go.RowKit
set_option linter.unusedSimpArgs false
set_option linter.unusedVariables false

theorem size_act : (Tryd.prog.info? 28).map (·.size) = some 4 := by kernel_rfl
theorem rightsize_any (n : Int) (w : World) : Calls Tryd.prog 29 #[.int .i64 n] w fun e w' => e = .returned (.bool (decide (1 ≤ n ∧ n ≤ 32))) ∧ Below w.heap.size w w' := by
  by_cases h1 : 1 ≤ n
  · by_cases h2 : n ≤ 32
    · have hd : Hid (decide (1 ≤ n ∧ n ≤ 32) = true) := decide_eq_true ⟨h1, h2⟩
      rw [hd.out]
      go_enter Tryd.func29, Tryd.ntmps29
      go_wp2_with fail
      go_ret
      exact ⟨rfl, Below.refl _ _⟩
    · have hd : Hid (decide (1 ≤ n ∧ n ≤ 32) = false) := decide_eq_false (fun h => h2 h.2)
      rw [hd.out]
      go_enter Tryd.func29, Tryd.ntmps29
      go_wp2_with fail
      go_ret
      exact ⟨rfl, Below.refl _ _⟩
  · have hd : Hid (decide (1 ≤ n ∧ n ≤ 32) = false) := decide_eq_false (fun h => h1 h.1)
    rw [hd.out]
    go_enter Tryd.func29, Tryd.ntmps29
    go_wp2_with fail
    go_ret
    exact ⟨rfl, Below.refl _ _⟩
/-- Right, at an activation whose Seed has n bytes. -/
theorem rightA_any (t e d n : Nat) (A : Option Addr) (k : Nat) (w : World) :
    Calls Tryd.prog 13 #[aggP t e d A n k] w fun e₁ w' => e₁ = .returned (.bool (decide (1 ≤ n ∧ n ≤ 32))) ∧ Below w.heap.size w w' := by
  obtain ⟨hR0, hB0⟩ := box_pay w 28 (.int .u64 (t : Int)) (.int .u64 (e : Int)) (.int .u64 (d : Int)) (.slice A n k)
  have hd : decide (1 ≤ n ∧ n ≤ 32) = decide (1 ≤ (n : Int) ∧ (n : Int) ≤ 32) := by
    by_cases h : 1 ≤ n ∧ n ≤ 32
    · rw [decide_eq_true h, decide_eq_true (by omega)]
    · rw [decide_eq_false h, decide_eq_false (by omega)]
  rw [hd]
  clear hd
  unfold aggP
  go_enter Tryd.func13, Tryd.ntmps13
  go_upto_region 1 with fail
  generalize (w.alloc (.cells #[.int .u64 (t : Int), .int .u64 (e : Int), .int .u64 (d : Int), .slice A n k] 28)) = W0 at hR0 hB0 ⊢
  have c3 : W0.cell? ⟨w.heap.size, 3, none⟩ = some (.slice A n k) := hR0.cell rfl
  go_wp2_with fail
  refine (rightsize_any (n : Int) W0).mono ?_
  rintro e₁ w1 ⟨rfl, hb⟩
  go_wp2_with fail
  go_ret
  exact ⟨by rw [Bool.decide_and]; rfl, below_step hB0 hb⟩

/-! ### Bytes -/
theorem bytesA_no (t e d n : Nat) (A : Option Addr) (k : Nat) (w : World) (h : ¬ (1 ≤ n ∧ n ≤ 32)) :
    Calls Tryd.prog 15 #[aggP t e d A n k] w (RetV w [] 1) := by
  obtain ⟨hR0, hB0⟩ := box_pay w 28 (.int .u64 (t : Int)) (.int .u64 (e : Int)) (.int .u64 (d : Int)) (.slice A n k)
  have hd := Lib.hid (decide_eq_false h)
  clear h
  unfold aggP
  go_enter Tryd.func15, Tryd.ntmps15
  go_upto_region 1 with fail
  generalize (w.alloc (.cells #[.int .u64 (t : Int), .int .u64 (e : Int), .int .u64 (d : Int), .slice A n k] 28)) = W0 at hR0 hB0 ⊢
  go_wp2_with (refine wpList_load_part rfl 28 (.tmp 1) rfl w.heap.size 0 rfl _ _ hR0 [.int .u64 (t : Int), .int .u64 (e : Int), .int .u64 (d : Int), .slice A n k] (by rfl) _ Tryd.underlying28 rfl (by exact size_act) ?_)
  refine (rightA_any t e d n A k _).mono ?_
  rw [hd.out]
  rintro e₁ w1 ⟨rfl, hb⟩
  go_wp2_with fail
  go_ret2
  exact ⟨none, 0, 0, rfl, Lib.hid rfl, Nat.le_refl _, Rd.nil, below_step hB0 hb⟩
def areF (N : List Nat) (i : Nat) : List UInt8 := 65 :: (N.take i).flatMap putL
theorem are_next (N : List Nat) (i : Nat) (h : i < N.length) : areF N (i + 1) = areF N i ++ putL N[i] := by
  unfold areF
  rw [List.take_succ_eq_append_getElem h, List.flatMap_append, List.cons_append]
  simp
theorem putL_eight (v : Nat) : (putL v).length = 8 := rfl
theorem are_length (N : List Nat) (i : Nat) : (areF N i).length ≤ 1 + 8 * i := by
  induction i with
  | zero => simp [areF]
  | succ i ih =>
    rcases Nat.lt_or_ge i N.length with h | h
    · rw [are_next N i h, List.length_append, putL_eight]
      omega
    · have e : areF N (i + 1) = areF N i := by unfold areF; rw [List.take_of_length_le (by omega), List.take_of_length_le h]
      rw [e]
      omega
def ArV (N : List Nat) (cp : List Value) (w : World) (v iv : Value) (wr : World) : Prop :=
  ∃ i : Nat, i ≤ 3 ∧ iv = .int .i64 (i : Int) ∧ wr.ownsRow (w.heap.size + 1) 5 1 v (areF N i).length ((areF N i).map vB) ∧ Row wr w.heap.size 28 cp ∧ Below w.heap.size w wr
set_option maxRecDepth 100000 in
set_option maxHeartbeats 2000000 in
theorem bytesA_ok (t e d : Nat) (s : List UInt8) (n : Nat) (A : Option Addr) (k : Nat) (w : World) (ht : t < 18446744073709551616) (he : e < 18446744073709551616) (hdd : d < 18446744073709551616) (HN : Hid (s.length = n)) (hr : Rd vB w A s) (hk : n ≤ k) (h1 : 1 ≤ n) (h2 : n ≤ 32) :
    Calls Tryd.prog 15 #[aggP t e d A n k] w (RetV w (actB t e d s) 0) := by
  obtain ⟨i0, hi, hz0, hz1, hz2⟩ := info_parts info_u8
  obtain ⟨hR0, hB0⟩ := box_pay w 28 (.int .u64 (t : Int)) (.int .u64 (e : Int)) (.int .u64 (d : Int)) (.slice A n k)
  have HALL : Hid (∀ x ∈ [t, e, d], x < 18446744073709551616) := fun x hx => by
    simp at hx
    rcases hx with rfl | rfl | rfl <;> assumption
  have hd : Hid (decide (1 ≤ n ∧ n ≤ 32) = true) := decide_eq_true ⟨h1, h2⟩
  unfold aggP
  go_enter Tryd.func15, Tryd.ntmps15
  go_upto_region 1 with fail
  generalize (w.alloc (.cells #[.int .u64 (t : Int), .int .u64 (e : Int), .int .u64 (d : Int), .slice A n k] 28)) = W0 at hR0 hB0 ⊢
  go_wp2_with (refine wpList_load_part rfl 28 (.tmp 1) rfl w.heap.size 0 rfl _ _ hR0 [.int .u64 (t : Int), .int .u64 (e : Int), .int .u64 (d : Int), .slice A n k] (by rfl) _ Tryd.underlying28 rfl (by exact size_act) ?_)
  refine (rightA_any t e d n A k _).mono ?_
  rw [hd.out]
  rintro e₁ W1 ⟨rfl, hb⟩
  replace hR0 := hR0.later hb
  replace hB0 := below_step hB0 hb
  clear hb hd
  go_upto_region 3 with fail
  have hgl0 := hR0.lt
  have hown0 : (W1.alloc (.cells #[.int .u8 65] 5)).ownsRow (w.heap.size + 1) 5 1 (.slice (some ⟨W1.heap.size, 0, none⟩) 1 1) 1 ([(65 : UInt8)].map vB) := own_base (own_lit W1 5 ([(65 : UInt8)].map vB) #[.int .u8 65] rfl (by unfold maxLen; simp)) (by omega)
  have hbn := below_new (Below.refl W1.heap.size W1) (.cells #[.int .u8 65] 5)
  replace hR0 := hR0.later hbn
  replace hB0 := below_step hB0 hbn
  go_upto_region 4 with fail
  generalize W1.alloc (.cells #[.int .u8 65] 5) = W2 at hown0 hR0 hB0 ⊢
  have c0 : W2.cell? ⟨w.heap.size, 0, none⟩ = some (.int .u64 (t : Int)) := hR0.cell rfl
  have c1 : W2.cell? ⟨w.heap.size, 1, none⟩ = some (.int .u64 (e : Int)) := hR0.cell rfl
  have c2 : W2.cell? ⟨w.heap.size, 2, none⟩ = some (.int .u64 (d : Int)) := hR0.cell rfl
  generalize W1.heap.size = g1 at *
  clear hbn hgl0
  go_wp2_with fail
  clear c0 c1 c2
  have HPW : Hid (areF [t, e, d] 3 ++ (UInt8.ofNat s.length :: s) = actB t e d s) := by unfold Hid areF actB; simp
  obtain ⟨N, hN⟩ : ∃ N, N = [t, e, d] := ⟨_, rfl⟩
  have HIX := Lib.hid (index_three N t e d hN)
  have hN3 : N.length = 3 := by rw [hN]; rfl
  rw [← hN] at HALL HPW
  have HPR : Hid (w.heap.size ≤ W2.heap.size) := hB0.size
  have hown0' : W2.ownsRow (w.heap.size + 1) 5 1 (.slice (some ⟨g1, 0, none⟩) 1 1) (areF N 0).length ((areF N 0).map vB) := by
    have : areF N 0 = [65] := by simp [areF]
    rw [this]
    exact hown0
  clear hN hown0
  go_loopw [4, 18] (fun v iv wr => ArV N [.int .u64 (t : Int), .int .u64 (e : Int), .int .u64 (d : Int), .slice A n k] w v iv wr) (fun _ i _ => 3 - (intOf i).toNat)
  case atStart => exact ⟨0, by omega, rfl, hown0', hR0, hB0⟩
  case round =>
    clear hown0' hR0 hB0
    obtain ⟨i, hi3, rfl, hown, hRp, hbel⟩ := hrel
    have hpl := are_length N i
    by_cases h : i < 3
    · have hiN : i < N.length := by omega
      have HPN := Lib.hid (are_next N i hiN)
      have hx := HALL.out N[i] (List.getElem_mem hiN)
      have hix := HIX.out i hiN
      have i1 : (i : Int) < 3 := by omega
      have i0' : (0 : Int) ≤ (i : Int) := by omega
      generalize N[i] = x at hx hix HPN
      have HX := Lib.hid hx
      generalize areF N i = P at hown hpl HPN
      clear hx
      go_wp2_with fail
      refine (put_at x HX.out _).mono ?_
      rintro ee w1 ⟨A1, c1, rfl, hc1, hr1, hb1⟩
      have hll := putL_eight x
      generalize putL x = L at hr1 hll HPN
      have HL := Lib.hid hll
      have hown1 := ownsRow_later hown hb1
      have hRp1 := hRp.later hb1
      have hB1 := below_step hbel hb1
      have hsz1 := hB1.size
      have hgl := hRp1.lt
      clear hown hbel hb1 hll hRp
      go_wp2_with (at_builtin; refine wpList_append_apart _ rfl (.tmp 21) (.tmp 23) 25 rfl (w.heap.size + 1) 5 i0 (.int .u8 0) 1 Tryd.underlying25 hi hz0 hz1 hz2 rfl _ _ _ rfl hown1 A1 L c1 (by rw [HL.out]; rfl) hr1 vB_one (by rw [HL.out]; unfold maxLen; omega) (by rw [HL.out]; omega) (by omega) ?_; intro v4 w4 hown4 hgrow4 hat4)
      have hB4 : Below w.heap.size w w4 := hB1.grown hgrow4 hB1.size (fun k hk => by have := (hown1.lt k hk).1; omega)
      have HREL : Hid (ArV N [.int .u64 (t : Int), .int .u64 (e : Int), .int .u64 (d : Int), .slice A n k] w v4 (.int .i64 ((i : Int) + 1)) w4) :=
        ⟨i + 1, by omega, by go_num, by rw [HPN.out, List.length_append, List.map_append]; exact hown4, hRp1.grown hgrow4 (fun e => by have := (hown1.lt _ e).1; omega), hB4⟩
      clear hown4 hgrow4 hown1 hB4 hB1 hRp1
      go_wp2_with fail
      go_roundw
      case rel => exact HREL.out
      case measure => simp [intOf] <;> omega
    · have ei : i = 3 := by omega
      subst ei
      have hcell : wr.cell? ⟨w.heap.size, 3, none⟩ = some (.slice A n k) := hRp.cell rfl
      have hrt := hr.keep hbel
      have i1 : ¬ (3 : Int) < 3 := by omega
      have hgl := hRp.lt
      have hy : (UInt8.ofNat n).toNat = n := by rw [UInt8.toNat_ofNat']; omega
      rw [HN.out] at HPW
      generalize UInt8.ofNat n = y at hy HPW
      have hyi : IntKind.u8.wrap (n : Int) = (y.toNat : Int) := by rw [IntKind.wrap_u8', hy]; omega
      have hyj : (n : Int) % 256 = (y.toNat : Int) := by rw [hy]; omega
      have hry : Rd vB (wr.alloc (.cells #[.int .u8 (y.toNat : Int)] 5)) (some ⟨wr.heap.size, 0, none⟩) [y] := Rd.new wr [y] _ _ rfl
      have hbn := below_new (Below.refl wr.heap.size wr) (.cells #[.int .u8 (y.toNat : Int)] 5)
      have hbs := hbn.size
      have hown1 := ownsRow_later hown hbn
      have hRp1 := hRp.later hbn
      have hrt1 := hrt.keep hbn
      have hB1 := below_step hbel hbn
      have hsz1 := hB1.size
      clear hown hRp hrt hbel hbn hy
      generalize areF N 3 = P at hown1 hpl HPW
      go_upto_region 10 with (at_builtin; refine wpList_append_apart _ rfl (.tmp 26) (.tmp 31) 25 rfl (w.heap.size + 1) 5 i0 (.int .u8 0) 1 Tryd.underlying25 hi hz0 hz1 hz2 rfl _ _ _ rfl hown1 _ ([y]) 1 rfl hry vB_one (by show P.length + 1 ≤ maxLen; unfold maxLen; omega) (by show (P.length + 1) * 1 ≤ _; omega) (by omega) ?_; intro v3 w3 hown3 hgrow3 hat3)
      have hB3 : Below w.heap.size w w3 := hB1.grown hgrow3 (by omega) (fun k hk => by have := (hown1.lt k hk).1; omega)
      have hRp3 := hRp1.grown hgrow3 (fun e => by have := (hown1.lt _ e).1; omega)
      have hrt3 : Rd vB w3 A s := hr.keep hB3
      clear hown1 hgrow3 hRp1 hrt1 hB1
      have e1 : P.length + [y].length = (P ++ [y]).length := by rw [List.length_append]
      have e2 : P.map vB ++ [y].map vB = (P ++ [y]).map vB := by rw [List.map_append]
      rw [e1, e2] at hown3
      have hP1 : (P ++ [y]).length ≤ 100 := by rw [List.length_append]; simp; omega
      have HPP : Hid ((P ++ [y]) ++ s = actB t e d s) := by unfold Hid; rw [← HPW.out]; simp
      generalize P ++ [y] = P1 at hown3 hP1 HPP
      clear e1 e2 hcell
      have hgl3 := hRp3.lt
      have hcell : w3.cell? ⟨w.heap.size, 3, none⟩ = some (.slice A n k) := hRp3.cell rfl
      have hs3 := hB3.size
      go_wp2_with (at_builtin; refine wpList_append_apart _ rfl (.tmp 33) (.tmp 35) 25 rfl (w.heap.size + 1) 5 i0 (.int .u8 0) 1 Tryd.underlying25 hi hz0 hz1 hz2 rfl _ _ _ rfl hown3 A s k (by rw [HN.out]; rfl) hrt3 vB_one (by rw [HN.out]; unfold maxLen; omega) (by rw [HN.out]; omega) (by omega) ?_; intro v4 w4 hown4 hgrow4 hat4)
      have hB4 : Below w.heap.size w w4 := hB3.grown hgrow4 hB3.size (fun k hk => by have := (hown3.lt k hk).1; omega)
      rw [← List.map_append, ← List.length_append, HPP.out] at hown4
      obtain ⟨A4, c4, rfl, hc4, hr4⟩ := own_slice hown4
      clear hown4 hgrow4
      go_wp2_with fail
      go_ret2
      exact ⟨A4, _, c4, rfl, Lib.hid rfl, hc4, hr4, hB4⟩

/-! ### endOf -/
/-- Where an activation's bytes end, and what is wrong with their form. -/
def endA (b : List UInt8) : Nat × Int := if b.length = 0 then (0, 2) else if b.getD 0 0 ≠ 65 then (0, 3) else if b.length < 26 then (0, 2) else if seedN b = 0 ∨ 32 < seedN b then (0, 3) else (26 + seedN b, 0)
set_option maxHeartbeats 2000000 in
theorem endRec_any (b : List UInt8) (len : Nat) (A : Option Addr) (c : Nat) (w : World) (HN : Hid (b.length = len)) (hr : Rd vB w A b) (hl : len ≤ 1000000) :
    Calls Tryd.prog 25 #[.slice A len c] w fun e w' => e = .returned (.tuple #[.int .i64 ((endA b).1 : Int), .int .i64 (endA b).2]) ∧ Below w.heap.size w w' := by
  by_cases h0 : len = 0
  · subst h0
    have HF : Hid (endA b = (0, 2)) := by unfold Hid endA; rw [if_pos HN.out]
    rw [HF.out]
    go_enter Tryd.func25, Tryd.ntmps25
    go_wp2_with fail
    go_ret2
    exact ⟨rfl, Below.refl _ _⟩
  · have hp : 0 < b.length := by rw [HN.out]; omega
    obtain ⟨g, o, rfl, hg, hcell⟩ := hr.at hp
    have hc0 := hcell 0 hp
    have hg0 : b.getD 0 0 = b[0] := by rw [List.getD_eq_getElem?_getD, List.getElem?_eq_getElem hp]; rfl
    unfold vB at hc0
    rw [Nat.add_zero] at hc0
    have hn0 : ((len : Int) == 0) = false := beq_eq_false_iff_ne.2 (by omega)
    by_cases h65 : b[0] = 65
    · have hc0' : w.cell? ⟨g, o, none⟩ = some (.int .u8 65) := by rw [hc0, h65]; rfl
      by_cases h26 : len < 26
      · have HF : Hid (endA b = (0, 2)) := by unfold Hid endA; rw [if_neg (by omega), hg0, h65, if_neg (by simp), if_pos (by rw [HN.out]; exact h26)]
        rw [HF.out]
        clear hcell hc0 h65 hg0 hp
        go_enter Tryd.func25, Tryd.ntmps25
        go_wp2_with fail
        go_ret2
        exact ⟨rfl, Below.refl _ _⟩
      · have hp25 : 25 < b.length := by rw [HN.out]; omega
        have hc25 := hcell 25 hp25
        have hg25 : seedN b = b[25].toNat := by unfold seedN; rw [List.getD_eq_getElem?_getD, List.getElem?_eq_getElem hp25]; rfl
        unfold vB at hc25
        have hlt := b[25].toNat_lt
        have HFF : Hid (endA b = if b[25].toNat = 0 ∨ 32 < b[25].toNat then (0, (3 : Int)) else (26 + b[25].toNat, 0)) := by
          unfold Hid endA
          rw [if_neg (by omega), hg0, h65, if_neg (by simp), if_neg (by rw [HN.out]; exact h26), hg25]
        generalize b[25].toNat = m at hc25 hlt HFF
        have m26 : ¬ (len : Int) < 26 := by omega
        clear hcell hc0 h65 hg0 hp hp25 hg25
        have hrs := rightsize_any (m : Int)
        by_cases hm : m = 0 ∨ 32 < m
        · have HF : Hid (endA b = (0, 3)) := by unfold Hid; rw [HFF.out, if_pos hm]
          have hd : Hid (decide (1 ≤ (m : Int) ∧ (m : Int) ≤ 32) = false) := decide_eq_false (by omega)
          rw [hd.out] at hrs
          rw [HF.out]
          clear HFF hm
          go_enter Tryd.func25, Tryd.ntmps25
          go_wp2_with fail
          refine (hrs _).mono ?_
          rintro e₁ w1 ⟨rfl, hb⟩
          go_wp2_with fail
          go_ret2
          exact ⟨rfl, hb⟩
        · have hd : Hid (decide (1 ≤ (m : Int) ∧ (m : Int) ≤ 32) = true) := decide_eq_true (by omega)
          rw [hd.out] at hrs
          have HF : Hid (endA b = (26 + m, 0)) := by unfold Hid; rw [HFF.out, if_neg hm]
          rw [HF.out]
          clear HFF hm
          go_enter Tryd.func25, Tryd.ntmps25
          go_wp2_with fail
          refine (hrs _).mono ?_
          rintro e₁ w1 ⟨rfl, hb⟩
          go_wp2_with fail
          go_ret2
          exact ⟨by simp, hb⟩
    · have hc0' : (((b[0].toNat : Nat) : Int) != 65) = true := bne_iff_ne.2 (fun e => h65 (UInt8.toNat_inj.1 (by show b[0].toNat = 65; omega)))
      have HF : Hid (endA b = (0, 3)) := by unfold Hid endA; rw [if_neg (by omega), hg0, if_pos h65]
      rw [HF.out]
      generalize b[0].toNat = q at hc0 hc0'
      clear hcell h65 hg0 hp
      go_enter Tryd.func25, Tryd.ntmps25
      go_wp2_with fail
      go_ret2
      exact ⟨rfl, Below.refl _ _⟩

/-! ### number, read -/
set_option maxHeartbeats 2000000 in
theorem numberA_any (j p : Nat) (hp : 1 + j * 8 = p) (x : List UInt8) (n : Nat) (A : Option Addr) (c : Nat) (w : World) (HN : Hid (x.length = n)) (hr : Rd vB w A x) (hn : p + 8 ≤ n) (hc : n ≤ c) (hl : n ≤ 1000000) :
    Calls Tryd.prog 43 #[.slice A n c, .int .i64 (j : Int)] w fun e w' => e = .returned (.int .u64 (valN ((x.drop p).take 8) : Int)) ∧ w = w' := by
  have hrm : Rd vB w (A.map (·.add (1 + j * 8))) ((x.drop p).take 8) := by
    have := (hr.drop p c (by rw [HN.out]; exact hc)).take 8
    rw [if_neg (by omega), Nat.mul_one, ← hp] at this
    rw [← hp]
    exact this
  have HL : Hid (((x.drop p).take 8).length = 8) := by unfold Hid; rw [List.length_take, List.length_drop, HN.out]; omega
  generalize (x.drop p).take 8 = y at hrm HL ⊢
  have HG : Hid (getR y = (valN y, 0)) := by unfold Hid getR; rw [if_pos HL.out]
  have hj : 1 + j * 8 + 8 ≤ n := by omega
  clear hr HN hp hn
  go_enter Tryd.func43, Tryd.ntmps43
  go_wp2_with fail
  have hget := get_any y (A.map (·.add (1 + j * 8))) (c - (1 + j * 8)) w hrm (by rw [HL.out]; omega)
  rw [HL.out, HG.out] at hget
  refine hget.mono ?_
  rintro e₁ w1 ⟨rfl, rfl⟩
  clear hget
  go_wp2_with fail
  go_ret
  exact ⟨rfl, rfl⟩
theorem clone_len (n : Nat) (b : List UInt8) (A : Option Addr) (c : Nat) (w : World) (HN : Hid (b.length = n)) (hr : Rd vB w A b) (hl : n ≤ 70368744177664) :
    Calls Tryd.prog 39 #[.slice A n c] w fun e w' => ∃ A' c', e = .returned (.slice A' n c') ∧ n ≤ c' ∧ Rd vB w' A' b ∧ (∀ a, A' = some a → w.heap.size ≤ a.block) ∧ Below w.heap.size w w' := by
  have e := HN.out
  subst e
  exact clone_b b A c w hr hl
set_option maxHeartbeats 2000000 in
theorem readA_any (x : List UInt8) (n m : Nat) (A : Option Addr) (c : Nat) (w : World) (HN : Hid (x.length = n)) (HM : Hid (n = m + 26)) (hr : Rd vB w A x) (hc : n ≤ c) (hl : m ≤ 900000) :
    Calls Tryd.prog 27 #[.slice A n c] w fun e w' => ∃ A' c', e = .returned (aggP (valN ((x.drop 1).take 8)) (valN ((x.drop 9).take 8)) (valN ((x.drop 17).take 8)) A' m c') ∧ m ≤ c' ∧ Rd vB w' A' (x.drop 26) ∧ Below w.heap.size w w' := by
  obtain ⟨hR0, hB0⟩ := box_pay w 28 (.int .u64 0) (.int .u64 0) (.int .u64 0) (.slice none 0 0)
  obtain ⟨A2, hcut, hdr⟩ := cut_from 25 5 Tryd.underlying25 size_uint8 A n c 26 (by have := HM.out; omega) hc
  rw [show n - 26 = m by have := HM.out; omega] at hcut
  have hr2 := hdr vB w x HN.out hr
  replace hcut : ∀ W, (Instr.slice 25 (.slice A n c) (some (.int .i64 26)) none none).run Tryd.prog W = .ok (.slice A2 m (c - 26)) W := hcut
  have HY : Hid ((x.drop 26).length = m) := by unfold Hid; rw [List.length_drop, HN.out, HM.out]; omega
  clear hdr
  obtain ⟨v1, hv1⟩ : ∃ v, valN ((x.drop 1).take 8) = v := ⟨_, rfl⟩
  obtain ⟨v2, hv2⟩ : ∃ v, valN ((x.drop 9).take 8) = v := ⟨_, rfl⟩
  obtain ⟨v3, hv3⟩ : ∃ v, valN ((x.drop 17).take 8) = v := ⟨_, rfl⟩
  have Q1 := Lib.hid (fun W (h : Rd vB W A x) => numberA_any 0 1 rfl x n A c W HN h (by have := HM.out; omega) hc (by have := HM.out; omega))
  have Q2 := Lib.hid (fun W (h : Rd vB W A x) => numberA_any 1 9 rfl x n A c W HN h (by have := HM.out; omega) hc (by have := HM.out; omega))
  have Q3 := Lib.hid (fun W (h : Rd vB W A x) => numberA_any 2 17 rfl x n A c W HN h (by have := HM.out; omega) hc (by have := HM.out; omega))
  rw [hv1] at Q1
  rw [hv2] at Q2
  rw [hv3] at Q3
  rw [hv1, hv2, hv3]
  generalize x.drop 26 = y at hr2 HY ⊢
  clear hv1 hv2 hv3
  go_enter Tryd.func27, Tryd.ntmps27
  go_upto_region 1 with fail
  generalize (w.alloc (.cells #[.int .u64 0, .int .u64 0, .int .u64 0, .slice none 0 0] 28)) = W0 at hR0 hB0 ⊢
  have hrx : Rd vB W0.drew A x := hr.keep hB0.drew
  have hrd : Rd vB W0.drew A2 y := hr2.keep hB0.drew
  have hRd := hR0.drew
  have hBd := hB0.drew
  refine wp_region_plan_of (fun _ => True) (.step 0 false (.step 2 false (.step 4 false (.step 6 false (.step 7 false (.step 1 true (.step 3 true (.step 5 true (.step 8 true (.step 9 false (.step 10 true (.nil)))))))))))) trivial (by kernel_rfl) (by kernel_rfl) (by rfl) (by kernel_rfl) ?_
  generalize W0.drew = W1 at hrx hrd hRd hBd ⊢
  clear hR0 hB0 hr hr2
  iterate 5 (refine plan_read rfl (by rfl) (v := ?_) ?_ ?_; rotate_left 1; (intro W hW; go_simp <;> with_reducible rfl); simp only [List.getElem_toArray, List.getElem_cons_zero, List.getElem_cons_succ, Act.put, List.setIfInBounds_toArray, List.set_cons_zero, List.set_cons_succ])
  (refine plan_make_of rfl (by rfl) (fun K hK => ?_); go_simp; refine (Q1.out _ hrx).mono ?_; rintro e' w2 ⟨rfl, rfl⟩; refine hK.out _ _ trivial ?_; clear hK K)
  (refine plan_make_of rfl (by rfl) (fun K hK => ?_); go_simp; refine (Q2.out _ hrx).mono ?_; rintro e' w2 ⟨rfl, rfl⟩; refine hK.out _ _ trivial ?_; clear hK K)
  (refine plan_make_of rfl (by rfl) (fun K hK => ?_); go_simp; refine (Q3.out _ hrx).mono ?_; rintro e' w2 ⟨rfl, rfl⟩; refine hK.out _ _ trivial ?_; clear hK K)
  (refine plan_make_of rfl (by rfl) (fun K hK => ?_); go_simp; refine (clone_len m y A2 (c - 26) _ HY hrd (by omega)).mono ?_; rintro e' w3 ⟨A3, c3, rfl, hc3, hr3, hN3, hb3⟩; refine hK.out _ _ trivial ?_; clear hK K)
  have hlt := hRd.lt
  replace hRd := hRd.later hb3
  replace hBd := below_step hBd hb3
  iterate 1 (refine plan_read rfl (by rfl) (v := ?_) ?_ ?_; rotate_left 1; (intro W hW; go_simp <;> with_reducible rfl); simp only [List.getElem_toArray, List.getElem_cons_zero, List.getElem_cons_succ, Act.put, List.setIfInBounds_toArray, List.set_cons_zero, List.set_cons_succ])
  (refine plan_make_of rfl (by rfl) (fun K hK => ?_); refine Row.wp_store 28 (.tmp 2) (.tmp 12) rfl rfl [.int .u64 (v1 : Int), .int .u64 (v2 : Int), .int .u64 (v3 : Int), .slice A3 m c3] rfl hRd (by exact size_act) rfl (one_four _ _ _ _ rfl rfl rfl rfl) ?_; refine hK.out _ _ trivial ?_; clear hK K)
  refine plan_done ?_
  have hr4 := hr3.setRow (g := w.heap.size) [.int .u64 (v1 : Int), .int .u64 (v2 : Int), .int .u64 (v3 : Int), .slice A3 m c3].toArray (fun a ha e => by have := hN3 a ha; omega)
  have hR4 := hRd.setRow [.int .u64 (v1 : Int), .int .u64 (v2 : Int), .int .u64 (v3 : Int), .slice A3 m c3]
  have hB4 := below_setRow hBd (Nat.le_refl _) [.int .u64 (v1 : Int), .int .u64 (v2 : Int), .int .u64 (v3 : Int), .slice A3 m c3].toArray
  generalize w3.setRow w.heap.size [.int .u64 (v1 : Int), .int .u64 (v2 : Int), .int .u64 (v3 : Int), .slice A3 m c3].toArray = w5 at hr4 hR4 hB4 ⊢
  go_wp2_with fail
  refine bodyPost_ret (results_cell_row (p := 2) (ty := 28) (by rfl) _ _ w.heap.size 28 _ (0, 0) _ (by rfl) (by exact hR4) Tryd.underlying28 (by rfl) (by exact size_act)) (by rfl) ?_
  exact ⟨A3, c3, rfl, hc3, hr4, hB4⟩
end Go.Proofs.YtknjpmoimjhddaaDoor
/-
  SHA-256 as plain functions on words and bytes, and what the program's operations on words are in their terms (no program is named here). No conditions but those typed.
-/
namespace Go.Proofs.YtknjpmoimjhddaaDoor
set_option maxRecDepth 100000
open Go.RowKit

/-! ### The operations on words, as the walk spells them (each behind a name of its own: 'simp' would take 'toNat' apart) -/
def xorW (x y : UInt32) : UInt32 := x ^^^ y
def andW (x y : UInt32) : UInt32 := x &&& y
def orW (x y : UInt32) : UInt32 := x ||| y
def addW (x y : UInt32) : UInt32 := x + y
def notW (x : UInt32) : UInt32 := ~~~x
theorem u32_xor_w (x y : UInt32) : bits .xor .u32 (x.toNat : Int) (y.toNat : Int) = ((xorW x y).toNat : Int) := by
  rw [u32_xor_nat _ _ (u32_lt x) (u32_lt y)]
  rfl
theorem u32_and_w (x y : UInt32) : bits .and .u32 (x.toNat : Int) (y.toNat : Int) = ((andW x y).toNat : Int) := by
  rw [u32_and_nat _ _ (u32_lt x) (u32_lt y)]
  rfl
theorem u32_or_w (x y : UInt32) : bits .or .u32 (x.toNat : Int) (y.toNat : Int) = ((orW x y).toNat : Int) := by
  rw [u32_or_nat _ _ (u32_lt x) (u32_lt y)]
  rfl
theorem addW_toNat (x y : UInt32) : (addW x y).toNat = (x.toNat + y.toNat) % 4294967296 := UInt32.toNat_add x y
theorem u32_add_w (x y : UInt32) : IntKind.u32.wrap ((x.toNat : Int) + (y.toNat : Int)) = ((addW x y).toNat : Int) := by
  rw [IntKind.wrap_u32', addW_toNat]
  omega
theorem u32_add_m (x y : UInt32) : ((x.toNat : Int) + (y.toNat : Int)) % 4294967296 = ((addW x y).toNat : Int) := by
  rw [addW_toNat]
  omega
theorem u32_not_w (x : UInt32) : 4294967295 - (x.toNat : Int) = ((notW x).toNat : Int) := by
  have hx := u32_lt x
  have : (notW x).toNat = 4294967295 - x.toNat := by
    show (~~~x.toBitVec).toNat = _
    rw [BitVec.toNat_not]
    rfl
  rw [this]
  omega
theorem u32_not_ww (x : UInt32) : IntKind.u32.wrap (4294967295 - (x.toNat : Int)) = ((notW x).toNat : Int) := by
  rw [← u32_not_w, IntKind.wrap_u32']
  have hx := u32_lt x
  omega

theorem u32_mod_w (x : UInt32) : (x.toNat : Int) % 4294967296 = (x.toNat : Int) := by
  have hx := u32_lt x
  omega
theorem u32_wrap_w (x : UInt32) : IntKind.u32.wrap (x.toNat : Int) = (x.toNat : Int) := by
  rw [IntKind.wrap_u32']
  exact u32_mod_w x

/-- A word moved down. -/
def dn (x : UInt32) (k : Nat) : UInt32 := UInt32.ofNat (x.toNat / 2 ^ k)
theorem dn_toNat (x : UInt32) (k : Nat) : (dn x k).toNat = x.toNat / 2 ^ k := by
  have hx := u32_lt x
  have h : x.toNat / 2 ^ k ≤ x.toNat := Nat.div_le_self _ _
  rw [dn, UInt32.toNat_ofNat']
  exact Nat.mod_eq_of_lt (by omega)
theorem dn_zero (x : UInt32) : dn x 0 = x := UInt32.toNat_inj.1 (by rw [dn_toNat]; simp)
theorem dn_succ (x : UInt32) (k : Nat) : (dn x (k + 1)).toNat = (dn x k).toNat / 2 := by
  rw [dn_toNat, dn_toNat, Nat.pow_succ, Nat.div_div_eq_div_mul]

/-! ### SHA-256 -/
def kL : List UInt32 := [1116352408, 1899447441, 3049323471, 3921009573, 961987163, 1508970993, 2453635748, 2870763221, 3624381080, 310598401, 607225278, 1426881987, 1925078388, 2162078206, 2614888103, 3248222580, 3835390401, 4022224774, 264347078, 604807628, 770255983, 1249150122, 1555081692, 1996064986, 2554220882, 2821834349, 2952996808, 3210313671, 3336571891, 3584528711, 113926993, 338241895, 666307205, 773529912, 1294757372, 1396182291, 1695183700, 1986661051, 2177026350, 2456956037, 2730485921, 2820302411, 3259730800, 3345764771, 3516065817, 3600352804, 4094571909, 275423344, 430227734, 506948616, 659060556, 883997877, 958139571, 1322822218, 1537002063, 1747873779, 1955562222, 2024104815, 2227730452, 2361852424, 2428436474, 2756734187, 3204031479, 3329325298]
def firstL : List UInt32 := [1779033703, 3144134277, 1013904242, 2773480762, 1359893119, 2600822924, 528734635, 1541459225]
def sig0 (x : UInt32) : UInt32 := xorW (xorW (rotR x 7) (rotR x 18)) (dn x 3)
def sig1 (x : UInt32) : UInt32 := xorW (xorW (rotR x 17) (rotR x 19)) (dn x 10)
def Sig0 (x : UInt32) : UInt32 := xorW (xorW (rotR x 2) (rotR x 13)) (rotR x 22)
def Sig1 (x : UInt32) : UInt32 := xorW (xorW (rotR x 6) (rotR x 11)) (rotR x 25)
def chW (e f g : UInt32) : UInt32 := orW (andW e f) (andW (notW e) g)
def majW (a b c : UInt32) : UInt32 := orW (orW (andW a b) (andW a c)) (andW b c)
/-- One word more behind those that are there. -/
def nextW (l : List UInt32) : UInt32 := addW (addW (addW (sig1 (l.getD (l.length - 2) 0)) (l.getD (l.length - 7) 0)) (sig0 (l.getD (l.length - 15) 0))) (l.getD (l.length - 16) 0)
def moreW : Nat → List UInt32 → List UInt32
  | 0, l => l
  | n + 1, l => moreW n l ++ [nextW (moreW n l)]
theorem moreW_length (n : Nat) (l : List UInt32) : (moreW n l).length = l.length + n := by
  induction n with
  | zero => rfl
  | succ n ih => rw [moreW, List.length_append, ih]; rfl

structure St where
  a : UInt32
  b : UInt32
  c : UInt32
  d : UInt32
  e : UInt32
  f : UInt32
  g : UInt32
  h : UInt32
def St.toL (s : St) : List UInt32 := [s.a, s.b, s.c, s.d, s.e, s.f, s.g, s.h]
def tW (s : St) (k w : UInt32) : UInt32 := addW (addW (addW (addW s.h (Sig1 s.e)) (chW s.e s.f s.g)) k) w
def uW (s : St) : UInt32 := addW (Sig0 s.a) (majW s.a s.b s.c)
def St.round (s : St) (k w : UInt32) : St := ⟨addW (tW s k w) (uW s), s.a, s.b, s.c, addW s.d (tW s k w), s.e, s.f, s.g⟩
/-- The table that stands in the place of the sixty-four constants (kL): in the program it is a package's variable; where no row lists it, whichever words it holds. -/
structure Tab where
  k : List UInt32
def kT [I : Inhabited Tab] : List UInt32 := I.default.k
def St.rounds [Inhabited Tab] (l : List UInt32) : Nat → St → St
  | 0, s => s
  | n + 1, s => (St.rounds l n s).round (kT.getD n 0) (l.getD n 0)
def St.plus (s t : St) : St := ⟨addW s.a t.a, addW s.b t.b, addW s.c t.c, addW s.d t.d, addW s.e t.e, addW s.f t.f, addW s.g t.g, addW s.h t.h⟩
/-- The state behind a block of 64 bytes. -/
def St.block [Inhabited Tab] (s : St) (b : List UInt8) : St := s.plus (St.rounds (moreW 48 (wordsL b)) 64 s)
/-- The state behind the whole blocks of some bytes. -/
def St.from [Inhabited Tab] (s : St) (b : List UInt8) : St := if 64 ≤ b.length then St.from (s.block (b.take 64)) (b.drop 64) else s
termination_by b.length
decreasing_by simp; omega
def fillL (b : List UInt8) (many : Nat) : List UInt8 := b ++ 128 :: List.replicate ((119 - b.length % 64) % 64) 0 ++ putL (8 * many % 18446744073709551616)
def startSt : St := ⟨1779033703, 3144134277, 1013904242, 2773480762, 1359893119, 2600822924, 528734635, 1541459225⟩
def sumL [Inhabited Tab] (b : List UInt8) : List UInt8 := bytesL (startSt.from (fillL b b.length)).toL

end Go.Proofs.YtknjpmoimjhddaaDoor
/-
  The table of SHA-256's own constants, where nothing else is said. No conditions.
-/
namespace Go.Proofs.YtknjpmoimjhddaaDoor
set_option maxRecDepth 100000
instance tabK : Inhabited Tab := ⟨⟨kL⟩⟩
theorem kT_kL : kT = kL := rfl
end Go.Proofs.YtknjpmoimjhddaaDoor
/-
  What the reference's call Words answers, for any bytes (up to 2^47): the same as the program's.
-/
namespace Go.Proofs.YtknjpmoimjhddaaDoor
set_option maxRecDepth 100000
open Go.RowKit
set_option linter.unusedSimpArgs false

theorem wordsL_take (L : List UInt8) (k : Nat) (h : 4 * k + 3 < L.length) :
    wordsL (L.take (4 * k + 4)) = wordsL (L.take (4 * k)) ++ [UInt32.ofNat (valN [L[4 * k], L[4 * k + 1], L[4 * k + 2], L[4 * k + 3]])] := by
  induction k generalizing L with
  | zero =>
    match L, h with
    | a :: b :: c :: d :: r, h => simp [wordsL]
    | [], h => simp at h
    | [_], h => simp at h
    | [_, _], h => simp at h
    | [_, _, _], h => simp at h
  | succ k ih =>
    match L, h with
    | a :: b :: c :: d :: r, h =>
      have h' : 4 * k + 3 < r.length := by simp at h; omega
      have := ih r h'
      have e1 : (a :: b :: c :: d :: r).take (4 * (k + 1) + 4) = a :: b :: c :: d :: r.take (4 * k + 4) := by
        rw [show 4 * (k + 1) + 4 = (4 * k + 4) + 1 + 1 + 1 + 1 by omega]; simp
      have e2 : (a :: b :: c :: d :: r).take (4 * (k + 1)) = a :: b :: c :: d :: r.take (4 * k) := by
        rw [show 4 * (k + 1) = (4 * k) + 1 + 1 + 1 + 1 by omega]; simp
      rw [e1, e2, wordsL, wordsL, this]
      simp [show 4 * (k + 1) = 4 * k + 4 by omega]
    | [], h => simp at h
    | [_], h => simp at h
    | [_, _], h => simp at h; omega
    | [_, _, _], h => simp at h; omega

theorem wordsL_end (L : List UInt8) (k : Nat) (h1 : 4 * k ≤ L.length) (h2 : L.length < 4 * k + 4) : wordsL L = wordsL (L.take (4 * k)) := by
  induction k generalizing L with
  | zero => rw [wordsL_short L (by omega)]; rfl
  | succ k ih =>
    match L, h1, h2 with
    | a :: b :: c :: d :: r, h1, h2 =>
      have e2 : (a :: b :: c :: d :: r).take (4 * (k + 1)) = a :: b :: c :: d :: r.take (4 * k) := by
        rw [show 4 * (k + 1) = (4 * k) + 1 + 1 + 1 + 1 by omega]; simp
      rw [e2, wordsL, wordsL, ← ih r (by simp at h1; omega) (by simp at h2; omega)]
    | [], h1, _ => simp at h1
    | [_], h1, _ => simp at h1; omega
    | [_, _], h1, _ => simp at h1; omega
    | [_, _, _], h1, _ => simp at h1; omega

def RefWordsRel (L : List UInt8) (w : World) (v i : Value) (wr : World) : Prop :=
  ∃ k : Nat, 4 * k ≤ L.length ∧ i = .int .i64 ((4 * k : Nat) : Int) ∧ wr.ownsRow w.heap.size 177 1 v k ((wordsL (L.take (4 * k))).map vW) ∧ Below w.heap.size w wr

theorem words_value (a b c d : Nat) (ha : a < 256) (hb : b < 256) (hc : c < 256) (hd : d < 256) :
    IntKind.u32.wrap (IntKind.u32.wrap (IntKind.u32.wrap (IntKind.u32.wrap (16777216 * IntKind.u32.wrap (a : Int)) + IntKind.u32.wrap (65536 * IntKind.u32.wrap (b : Int))) + IntKind.u32.wrap (256 * IntKind.u32.wrap (c : Int))) + IntKind.u32.wrap (d : Int)) =
      ((((a * 256 + b) * 256 + c) * 256 + d : Nat) : Int) := by
  simp only [IntKind.wrap_u32']
  omega
theorem refwords_round {L : List UInt8} {w wr wx w1 : World} {k V : Nat} {u v : Value} (hL : 4 * k + 4 ≤ L.length) (ho : wr.ownsRow w.heap.size 177 1 u k ((wordsL (L.take (4 * k))).map vW)) (hb : Below w.heap.size w wx) (hV : V < 4294967296)
    (HT : Hid (wordsL (L.take (4 * k + 4)) = wordsL (L.take (4 * k)) ++ [UInt32.ofNat V])) (ho' : w1.ownsRow w.heap.size 177 1 v (k + 1) ((wordsL (L.take (4 * k))).map vW ++ [.int .u32 (V : Int)])) (hg : wx.grownBy w1 u.ownBlock) :
    RefWordsRel L w v (.int .i64 (((4 * k : Nat) : Int) + 4)) w1 := by
  have e : Value.int .u32 (V : Int) = vW (UInt32.ofNat V) := by unfold vW; rw [UInt32.toNat_ofNat', Nat.mod_eq_of_lt hV]
  refine ⟨k + 1, by omega, ?_, ?_, hb.grown hg hb.size (fun g hk => (ho.lt g hk).1)⟩
  · congr 1
  · rw [show 4 * (k + 1) = 4 * k + 4 by omega, HT.out]
    rw [e] at ho'
    simpa using ho'



end Go.Proofs.YtknjpmoimjhddaaDoor
/-
  What the reference's calls down, constant and First of layer 2 answer.
-/
namespace Go.Proofs.YtknjpmoimjhddaaDoor
set_option maxRecDepth 100000
open Go.RowKit
set_option linter.unusedSimpArgs false

end Go.Proofs.YtknjpmoimjhddaaDoor
/-
  What the reference's call Block of layer 2 answers: the state behind a block of 64 bytes.
-/
namespace Go.Proofs.YtknjpmoimjhddaaDoor
set_option maxRecDepth 100000
open Go.RowKit
set_option linter.unusedSimpArgs false
attribute [local go_sem] u32_xor_w u32_and_w u32_or_w u32_add_w u32_add_m u32_not_w u32_not_ww u32_mod_w u32_wrap_w

def SchedRel (W0 : List UInt32) (w : World) (v t : Value) (wr : World) : Prop :=
  ∃ k : Nat, k ≤ 48 ∧ t = .int .i64 ((16 + k : Nat) : Int) ∧ wr.ownsRow w.heap.size 177 1 v (16 + k) ((moreW k W0).map vW) ∧ Below w.heap.size w wr

def RoundRel [Inhabited Tab] (s : St) (L : List UInt32) (w : World) (a b c d e f g h i : Value) (wr : World) : Prop :=
  ∃ n : Nat, n ≤ 64 ∧ i = .int .i64 (n : Int) ∧ a = .int .u32 ((St.rounds L n s).a.toNat : Int) ∧ b = .int .u32 ((St.rounds L n s).b.toNat : Int) ∧ c = .int .u32 ((St.rounds L n s).c.toNat : Int) ∧ d = .int .u32 ((St.rounds L n s).d.toNat : Int) ∧
    e = .int .u32 ((St.rounds L n s).e.toNat : Int) ∧ f = .int .u32 ((St.rounds L n s).f.toNat : Int) ∧ g = .int .u32 ((St.rounds L n s).g.toNat : Int) ∧ h = .int .u32 ((St.rounds L n s).h.toNat : Int) ∧ Below w.heap.size w wr

theorem round_next [Inhabited Tab] {s : St} {L : List UInt32} {w wr : World} {n : Nat} {S : St} (hn : n < 64) (HS : Hid (St.rounds L (n + 1) s = S.round (kT.getD n 0) (L.getD n 0))) (hb : Below w.heap.size w wr) :
    RoundRel s L w (.int .u32 ((addW (tW S (kT.getD n 0) (L.getD n 0)) (uW S)).toNat : Int)) (.int .u32 (S.a.toNat : Int)) (.int .u32 (S.b.toNat : Int)) (.int .u32 (S.c.toNat : Int)) (.int .u32 ((addW S.d (tW S (kT.getD n 0) (L.getD n 0))).toNat : Int)) (.int .u32 (S.e.toNat : Int)) (.int .u32 (S.f.toNat : Int)) (.int .u32 (S.g.toNat : Int)) (.int .i64 ((n : Int) + 1)) wr :=
  ⟨n + 1, by omega, rfl, by rw [HS.out]; rfl, by rw [HS.out]; rfl, by rw [HS.out]; rfl, by rw [HS.out]; rfl, by rw [HS.out]; rfl, by rw [HS.out]; rfl, by rw [HS.out]; rfl, by rw [HS.out]; rfl, hb⟩

theorem sched_round {W0 : List UInt32} {w wx w1 : World} {k n : Nat} {g cap : Nat} {v : Value} {y : UInt32} (hk : k < 48) (HK : Hid (n = 16 + k)) (hown : wx.ownsRow w.heap.size 177 1 (.slice (some ⟨g, 0, none⟩) n cap) n ((moreW k W0).map vW)) (hb : Below w.heap.size w wx)
    (HN : Hid (nextW (moreW k W0) = y)) (hown' : w1.ownsRow w.heap.size 177 1 v (n + 1) ((moreW k W0).map vW ++ [.int .u32 (y.toNat : Int)])) (hg : wx.grownBy w1 (Value.ownBlock (.slice (some ⟨g, 0, none⟩) n cap))) :
    SchedRel W0 w v (.int .i64 ((n : Int) + 1)) w1 := by
  have e := HK.out
  refine ⟨k + 1, by omega, by congr 1; omega, ?_, hb.grown hg hb.size (fun x hx => (hown.lt x hx).1)⟩
  rw [show 16 + (k + 1) = n + 1 by omega, moreW, List.map_append, HN.out]
  exact hown'

end Go.Proofs.YtknjpmoimjhddaaDoor
/-
  What the reference's calls Fill, From and Sum of layer 2 answer: the text filled up, the state behind whole blocks, the hash.
-/
namespace Go.Proofs.YtknjpmoimjhddaaDoor
set_option maxRecDepth 100000
open Go.RowKit
set_option linter.unusedSimpArgs false

def padJ (n : Nat) : Nat := (119 - n % 64) % 64
theorem padJ_end (n : Nat) : (n + 1 + padJ n) % 64 = 56 := by unfold padJ; omega
theorem padJ_not (n j : Nat) (h : j < padJ n) : (n + 1 + j) % 64 ≠ 56 := by unfold padJ at h; omega
theorem padJ_lt (n : Nat) : padJ n < 64 := by unfold padJ; omega

def FillRel (b : List UInt8) (w : World) (v : Value) (wr : World) : Prop :=
  ∃ j : Nat, j ≤ padJ b.length ∧ wr.ownsRow w.heap.size 5 1 v (b.length + 1 + j) ((b ++ 128 :: List.replicate j 0).map vB) ∧ Below w.heap.size w wr

theorem fill_start {b : List UInt8} {w w1 w2 : World} {u v : Value} (ho : w1.ownsRow w.heap.size 5 1 u (0 + b.length) ([] ++ b.map vB)) (hg1 : (w.alloc (.cells #[] 5)).grownBy w1 (some w.heap.size))
    (ho' : w2.ownsRow w.heap.size 5 1 v (0 + b.length + 1) ([] ++ b.map vB ++ [.int .u8 128])) (hg2 : (w1.alloc (.cells #[.int .u8 128] 5)).grownBy w2 u.ownBlock) : FillRel b w v w2 := by
  have hb1 : Below w.heap.size w w1 := (below_new (Below.refl _ w) _).grown hg1 (by simp) (fun k hk => by injection hk with hk; omega)
  refine ⟨0, Nat.zero_le _, ?_, (below_new hb1 _).grown hg2 (by have := hb1.size; simp; omega) (fun k hk => (ho.lt k hk).1)⟩
  simpa [vB] using ho'
theorem fill_round {b : List UInt8} {w wr w1 : World} {j : Nat} {u v : Value} (hj : j < padJ b.length) (ho : wr.ownsRow w.heap.size 5 1 u (b.length + 1 + j) ((b ++ 128 :: List.replicate j 0).map vB)) (hb : Below w.heap.size w wr)
    (ho' : w1.ownsRow w.heap.size 5 1 v (b.length + 1 + j + 1) ((b ++ 128 :: List.replicate j 0).map vB ++ [.int .u8 0])) (hg : (wr.alloc (.cells #[.int .u8 0] 5)).grownBy w1 u.ownBlock) : FillRel b w v w1 := by
  refine ⟨j + 1, by omega, ?_, (below_new hb _).grown hg (by have := hb.size; simp; omega) (fun k hk => (ho.lt k hk).1)⟩
  have e : (b ++ 128 :: List.replicate (j + 1) 0).map vB = (b ++ 128 :: List.replicate j 0).map vB ++ [.int .u8 0] := by
    rw [List.replicate_succ']
    simp [vB]
  rw [e]
  exact ho'

theorem from_step [Inhabited Tab] (s : St) (b : List UInt8) (h : 64 ≤ b.length) : s.from b = (s.block (b.take 64)).from (b.drop 64) := by
  rw [St.from, if_pos h]
theorem from_stop [Inhabited Tab] (s : St) (b : List UInt8) (h : ¬ 64 ≤ b.length) : s.from b = s := by
  rw [St.from, if_neg h]

def FromRel (s : St) (b : List UInt8) (w : World) (v i : Value) (wr : World) : Prop :=
  ∃ (q : Nat) (S : St) (A : Option Addr) (c : Nat), 64 * q ≤ b.length ∧ i = .int .i64 ((64 * q : Nat) : Int) ∧ v = .slice A 8 c ∧ 8 ≤ c ∧ Rd vW wr A S.toL ∧ s.from b = S.from (b.drop (64 * q)) ∧ Below w.heap.size w wr

theorem fillL_length (b : List UInt8) (many : Nat) : (fillL b many).length ≤ b.length + 72 := by
  have := padJ_lt b.length
  have e : (fillL b many).length = b.length + (1 + padJ b.length) + 8 := by
    unfold fillL
    rw [List.length_append, List.length_append, List.length_cons, List.length_replicate]
    show b.length + (padJ b.length + 1) + 8 = _
    omega
  omega
end Go.Proofs.YtknjpmoimjhddaaDoor
/-
  What the small calls of the statements of layer 2 answer: words of a state, whether a state is some words, a number of four bytes, the bytes of words.
-/
namespace Go.Proofs.YtknjpmoimjhddaaDoor
set_option maxRecDepth 100000
open Go.RowKit
set_option linter.unusedSimpArgs false

/-- A state as an array. -/
def St.cells (s : St) : Array Value := #[.int .u32 (s.a.toNat : Int), .int .u32 (s.b.toNat : Int), .int .u32 (s.c.toNat : Int), .int .u32 (s.d.toNat : Int), .int .u32 (s.e.toNat : Int), .int .u32 (s.f.toNat : Int), .int .u32 (s.g.toNat : Int), .int .u32 (s.h.toNat : Int)]
theorem St.cells_eq (s : St) : s.cells = (s.toL.map vW).toArray := rfl

def WordsOfRel (s : St) (w w0 : World) (v i : Value) (wr : World) : Prop :=
  ∃ k : Nat, k ≤ 8 ∧ i = .int .i64 (k : Int) ∧ wr.ownsRow (w.heap.size + 1) 177 1 v k ((s.toL.take k).map vW) ∧ Below (w.heap.size + 1) w0 wr

theorem words_round8 {s : St} {w w0 wr w1 : World} {k : Nat} {u v : Value} {o : Obj} {x : UInt32} (hk : k < 8) (hx : Hid (s.toL.take (k + 1) = s.toL.take k ++ [x])) (ho : wr.ownsRow (w.heap.size + 1) 177 1 u k ((s.toL.take k).map vW)) (hb : Below (w.heap.size + 1) w0 wr) (hz : w.heap.size + 1 ≤ wr.heap.size)
    (ho' : w1.ownsRow (w.heap.size + 1) 177 1 v (k + 1) ((s.toL.take k).map vW ++ [.int .u32 (x.toNat : Int)])) (hg : (wr.alloc o).grownBy w1 u.ownBlock) : WordsOfRel s w w0 v (.int .i64 ((k : Int) + 1)) w1 :=
  ⟨k + 1, by omega, by go_num, by rw [hx.out]; simpa [vW] using ho', (hb.alloc hz o).grown hg (by simp; omega) (fun g hk => (ho.lt g hk).1)⟩

theorem or4 (a b c d : Nat) (ha : a < 256) (hb : b < 256) (hc : c < 256) (hd : d < 256) :
    bits .or .u32 (bits .or .u32 (bits .or .u32 ((a : Int) * 16777216) ((b : Int) * 65536)) ((c : Int) * 256)) (d : Int) = ((((a * 256 + b) * 256 + c) * 256 + d : Nat) : Int) := by
  have e1 : bits .or .u32 ((a : Int) * 16777216) ((b : Int) * 65536) = ((2 ^ 16 * (a * 256 + b) : Nat) : Int) := by
    rw [show (a : Int) * 16777216 = ((2 ^ 24 * a : Nat) : Int) by omega, show (b : Int) * 65536 = ((b * 65536 : Nat) : Int) by omega, u32_or_nat _ _ (by omega) (by omega), ← Nat.two_pow_add_eq_or_of_lt (by omega)]
    omega
  have e2 : bits .or .u32 ((2 ^ 16 * (a * 256 + b) : Nat) : Int) ((c : Int) * 256) = ((2 ^ 8 * ((a * 256 + b) * 256 + c) : Nat) : Int) := by
    rw [show (c : Int) * 256 = ((c * 256 : Nat) : Int) by omega, u32_or_nat _ _ (by omega) (by omega), ← Nat.two_pow_add_eq_or_of_lt (by omega)]
    omega
  rw [e1, e2, u32_or_nat _ _ (by omega) (by omega), ← Nat.two_pow_add_eq_or_of_lt (by omega)]
  omega

theorem bytes_round_at {L : List UInt32} {w wr wx w1 : World} {k : Nat} {x : UInt32} {u v : Value} (hk : k < L.length) (ho : wr.ownsRow w.heap.size 5 1 u (bytesL (L.take k)).length ((bytesL (L.take k)).map vB))
    (hb : Below w.heap.size w wx) (HT : Hid (bytesL (L.take (k + 1)) = bytesL (L.take k) ++ bytesW x)) (hg : wx.grownBy w1 u.ownBlock)
    (ho' : w1.ownsRow w.heap.size 5 1 v ((bytesL (L.take k)).length + 4) ((bytesL (L.take k)).map vB ++ [Value.int .u8 ((x.toNat : Int) / 16777216), Value.int .u8 ((x.toNat : Int) / 65536 % 256), Value.int .u8 ((x.toNat : Int) / 256 % 256), Value.int .u8 ((x.toNat : Int) % 256)])) :
    BytesRel L w v (.int .i64 ((k : Int) + 1)) w1 :=
  ⟨k + 1, by omega, by go_num, by rw [HT.out]; rw [bytesW_cells, ← List.map_append] at ho'; simpa [bytesW] using ho', hb.grown hg hb.size (fun k hk => (ho.lt k hk).1)⟩

end Go.Proofs.YtknjpmoimjhddaaDoor
/-
  What the small calls of the program's layer 2 answer: words turned, mixed, chosen; the state at first. No conditions but those typed.
-/
namespace Go.Proofs.YtknjpmoimjhddaaDoor
set_option maxRecDepth 100000
open Go.RowKit
set_option linter.unusedSimpArgs false

theorem ch_xor (e f g : UInt32) : xorW (andW e f) (andW (notW e) g) = chW e f g := by
  unfold chW xorW andW notW orW
  apply UInt32.toBitVec_inj.1
  apply BitVec.eq_of_getLsbD_eq
  intro i hi
  simp only [UInt32.toBitVec_xor, UInt32.toBitVec_and, UInt32.toBitVec_not, UInt32.toBitVec_or, BitVec.getLsbD_xor, BitVec.getLsbD_and, BitVec.getLsbD_or, BitVec.getLsbD_not, hi, decide_true, Bool.true_and]
  cases e.toBitVec.getLsbD i <;> simp
theorem maj_xor (a b c : UInt32) : xorW (xorW (andW a b) (andW a c)) (andW b c) = majW a b c := by
  unfold majW xorW andW orW
  apply UInt32.toBitVec_inj.1
  apply BitVec.eq_of_getLsbD_eq
  intro i hi
  simp only [UInt32.toBitVec_xor, UInt32.toBitVec_and, UInt32.toBitVec_or, BitVec.getLsbD_xor, BitVec.getLsbD_and, BitVec.getLsbD_or]
  cases a.toBitVec.getLsbD i <;> cases b.toBitVec.getLsbD i <;> simp

theorem not_xor (x : UInt32) : xorW 4294967295 x = notW x := by
  unfold xorW notW
  apply UInt32.toBitVec_inj.1
  apply BitVec.eq_of_getLsbD_eq
  intro i hi
  have h1 : (4294967295 : UInt32).toBitVec = BitVec.allOnes 32 := rfl
  simp only [UInt32.toBitVec_xor, UInt32.toBitVec_not, h1, BitVec.getLsbD_xor, BitVec.getLsbD_not, BitVec.getLsbD_allOnes, hi, decide_true, Bool.true_and, Bool.true_xor]
theorem u32_not_x (x : UInt32) : bits .xor .u32 IntKind.u32.max (x.toNat : Int) = ((notW x).toNat : Int) := by
  have := u32_xor_w 4294967295 x
  rw [not_xor] at this
  exact this

theorem rot_c (x : UInt32) (c : Nat) (hc : c < 32) (w : World) :
    Calls Tryd.prog 138 #[.int .u32 (x.toNat : Int), .int .i64 (c : Int)] w fun e w' => e = .returned (.int .u32 ((rotR x c).toNat : Int)) ∧ w = w' :=
  (rot_any x c w).mono fun _ _ ⟨he, hw⟩ => ⟨by rw [he, show ((c : Int) % 32).toNat = c by omega], hw⟩

section
attribute [local go_sem] u32_xor_w u32_and_w u32_or_w u32_add_w u32_add_m u32_not_w u32_not_ww u32_not_x u32_mod_w u32_wrap_w

theorem turned_any (x : UInt32) (i j k : Nat) (hi : i < 32) (hj : j < 32) (hk : k < 32) (w : World) :
    Calls Tryd.prog 133 #[.int .u32 (x.toNat : Int), .int .i64 (i : Int), .int .i64 (j : Int), .int .i64 (k : Int)] w fun e w' => e = .returned (.int .u32 ((xorW (xorW (rotR x i) (rotR x j)) (rotR x k)).toNat : Int)) ∧ w = w' := by
  go_enter Tryd.func133, Tryd.ntmps133
  go_wp2_with fail
  refine (rot_c x i hi _).mono ?_
  rintro e w' ⟨rfl, rfl⟩
  go_wp2_with fail
  refine (rot_c x j hj _).mono ?_
  rintro e w' ⟨rfl, rfl⟩
  go_wp2_with fail
  refine (rot_c x k hk _).mono ?_
  rintro e w' ⟨rfl, rfl⟩
  go_wp2_with fail
  go_ret
  exact ⟨rfl, rfl⟩

theorem mixed_any (x : UInt32) (i j k : Nat) (hi : i < 32) (hj : j < 32) (hk : k < 32) (w : World) :
    Calls Tryd.prog 137 #[.int .u32 (x.toNat : Int), .int .i64 (i : Int), .int .i64 (j : Int), .int .u64 (k : Int)] w fun e w' => e = .returned (.int .u32 ((xorW (xorW (rotR x i) (rotR x j)) (dn x k)).toNat : Int)) ∧ w = w' := by
  have hd : (x.toNat : Int) / 2 ^ k = ((dn x k).toNat : Int) := by rw [dn_toNat, Int.natCast_ediv, Int.natCast_pow]; rfl
  go_enter Tryd.func137, Tryd.ntmps137
  go_wp2_with fail
  refine (rot_c x i hi _).mono ?_
  rintro e w' ⟨rfl, rfl⟩
  go_wp2_with fail
  refine (rot_c x j hj _).mono ?_
  rintro e w' ⟨rfl, rfl⟩
  go_wp2_with fail
  go_ret
  exact ⟨rfl, rfl⟩

theorem choice_any (x y z : UInt32) (w : World) :
    Calls Tryd.prog 134 #[.int .u32 (x.toNat : Int), .int .u32 (y.toNat : Int), .int .u32 (z.toNat : Int)] w fun e w' => e = .returned (.int .u32 ((chW x y z).toNat : Int)) ∧ w = w' := by
  have H := Lib.hid (ch_xor x y z)
  go_enter Tryd.func134, Tryd.ntmps134
  go_wp2_with fail
  go_ret
  rw [← H.out]
  exact ⟨rfl, rfl⟩

theorem majority_any (x y z : UInt32) (w : World) :
    Calls Tryd.prog 135 #[.int .u32 (x.toNat : Int), .int .u32 (y.toNat : Int), .int .u32 (z.toNat : Int)] w fun e w' => e = .returned (.int .u32 ((majW x y z).toNat : Int)) ∧ w = w' := by
  have H := Lib.hid (maj_xor x y z)
  go_enter Tryd.func135, Tryd.ntmps135
  go_wp2_with fail
  go_ret
  rw [← H.out]
  exact ⟨rfl, rfl⟩
end
end Go.Proofs.YtknjpmoimjhddaaDoor
/-
  What the program's call spread of layer 2 answers: a block's sixteen words, and 48 more. No conditions but those typed.
-/
namespace Go.Proofs.YtknjpmoimjhddaaDoor
set_option maxRecDepth 100000
open Go.RowKit
set_option linter.unusedSimpArgs false

theorem words_64 (b : List UInt8) (A : Option Addr) (c : Nat) (w : World) (H : Hid (b.length = 64)) (hr : Rd vB w A b) (hc : 64 ≤ c) : Calls Tryd.prog 136 #[.slice A 64 c] w (RetS vW w (wordsL b)) := by
  have h := H.out
  have := words_any b A c w hr (by omega) (by omega)
  rwa [h] at this
theorem wordsL_64 (b : List UInt8) (h : b.length = 64) : (wordsL b).length = 16 := by
  have := congrArg List.length (bytesL_wordsL b)
  rw [bytesL_length, List.length_take, h] at this
  omega

/-- The words that are there, and as many zeros as are still to come. -/
def schedL (W0 : List UInt32) (k : Nat) : List UInt32 := moreW k W0 ++ List.replicate (48 - k) 0
theorem schedL_length (W0 : List UInt32) (k : Nat) (h : W0.length = 16) (hk : k ≤ 48) : (schedL W0 k).length = 64 := by
  rw [schedL, List.length_append, moreW_length, List.length_replicate]
  omega
theorem schedL_next (W0 : List UInt32) (k : Nat) (h : W0.length = 16) (hk : k < 48) : (schedL W0 k).set (16 + k) (nextW (moreW k W0)) = schedL W0 (k + 1) := by
  have e : (moreW k W0).length = 16 + k := by rw [moreW_length, h]
  unfold schedL
  rw [List.set_append_right _ _ (by omega), e, Nat.sub_self, moreW, show 48 - k = (48 - (k + 1)) + 1 by omega, List.replicate_succ, List.set_cons_zero]
  simp
theorem schedL_at (W0 : List UInt32) (k j : Nat) (h : W0.length = 16) (hj : j < 16 + k) : ((schedL W0 k).map vW)[j]? = some (.int .u32 (((moreW k W0).getD j 0).toNat : Int)) := by
  have e : (moreW k W0).length = 16 + k := by rw [moreW_length, h]
  rw [schedL, List.map_append, List.getElem?_append_left (by simp; omega)]
  simp [List.getD, e, hj, vW]
theorem schedL_zero (W0 : List UInt32) : schedL W0 0 = W0 ++ List.replicate 48 0 := rfl
theorem schedL_end (W0 : List UInt32) : schedL W0 48 = moreW 48 W0 := by simp [schedL]

def SpreadRel (W0 : List UInt32) (w : World) (i : Value) (wr : World) : Prop :=
  ∃ k : Nat, k ≤ 48 ∧ i = .int .i64 ((16 + k : Nat) : Int) ∧ Row wr (w.heap.size + 1) 200 ((schedL W0 k).map vW) ∧ Row wr w.heap.size 200 (List.replicate 64 (.int .u32 0)) ∧ Below w.heap.size w wr

/-- What a round reads. -/
def SprS (g n : Nat) (x2 x7 x15 x16 : UInt32) (W : World) : Prop :=
  W.cell? ⟨g, n - 2, none⟩ = some (.int .u32 (x2.toNat : Int)) ∧ W.cell? ⟨g, n - 7, none⟩ = some (.int .u32 (x7.toNat : Int)) ∧ W.cell? ⟨g, n - 15, none⟩ = some (.int .u32 (x15.toNat : Int)) ∧ W.cell? ⟨g, n - 16, none⟩ = some (.int .u32 (x16.toNat : Int))

theorem SprS.set {g n : Nat} {x2 x7 x15 x16 : UInt32} {w : World} (hn : 16 ≤ n) (h : SprS g n x2 x7 x15 x16 w) (v : Value) : SprS g n x2 x7 x15 x16 (w.setCell ⟨g, n, none⟩ v) := by
  obtain ⟨h1, h2, h3, h4⟩ := h
  have e : ∀ j, j < n → (w.setCell ⟨g, n, none⟩ v).cell? ⟨g, j, none⟩ = w.cell? ⟨g, j, none⟩ := fun j hj => World.cell?_setCell_other _ _ _ _ (by intro e; injection e with _ e2 _; omega)
  exact ⟨(e _ (by omega)).trans h1, (e _ (by omega)).trans h2, (e _ (by omega)).trans h3, (e _ (by omega)).trans h4⟩
theorem spread_round {W0 : List UInt32} {w wr : World} {k n : Nat} {y : UInt32} (hk : k < 48) (HK : Hid (n = 16 + k)) (HX : Hid ((schedL W0 k).set n y = schedL W0 (k + 1))) (hR1 : Row wr (w.heap.size + 1) 200 ((schedL W0 k).map vW))
    (hR0 : Row wr w.heap.size 200 (List.replicate 64 (.int .u32 0))) (hB : Below w.heap.size w wr) : SpreadRel W0 w (.int .i64 ((n : Int) + 1)) (wr.setCell ⟨w.heap.size + 1, n, none⟩ (.int .u32 (y.toNat : Int))) := by
  have e := HK.out
  refine ⟨k + 1, by omega, by congr 1; omega, ?_, hR0.setCell_other (by simp) _, hB.setCell (by simp) _⟩
  rw [← HX.out, List.map_set]
  exact hR1.setCell n _

section
attribute [local go_sem] u32_add_w u32_add_m u32_mod_w u32_wrap_w
set_option maxRecDepth 100000 in
set_option maxHeartbeats 600000 in
theorem spread_any (b : List UInt8) (A : Option Addr) (c : Nat) (w : World) (HL : Hid (b.length = 64)) (hr : Rd vB w A b) (hc : 64 ≤ c) :
    Calls Tryd.prog 132 #[.slice A 64 c] w fun e w' => e = .returned (.agg ((moreW 48 (wordsL b)).map vW).toArray) ∧ Below w.heap.size w w' := by
  have H16 := Lib.hid (wordsL_64 b HL.out)
  go_enter Tryd.func132, Tryd.ntmps132
  go_wp2_with fail
  refine at_world (Q := Code.wp _ _ _ _) (fun W => Row W w.heap.size 200 (List.replicate 64 (.int .u32 0)) ∧ Row W (w.heap.size + 1) 200 (List.replicate 64 (.int .u32 0)) ∧ Below w.heap.size w W)
    ⟨(Row.new w _ _ _ rfl).alloc _, Row.new_at _ _ (by simp) _ _ _ rfl, below_new (below_new (Below.refl _ _) _) _⟩ ?_
  rintro W ⟨hR0, hR1, hB⟩
  have hrW := hr.keep hB
  clear hr
  refine wp_region_plan_at w.heap.size (.step 0 false (.step 1 false (.step 2 true (.step 3 true (.nil))))) (by kernel_rfl) (by kernel_rfl) (by rfl) (by kernel_rfl) ?_
  have hBase : Below w.heap.size W W.drew := (Below.refl _ _).drew
  iterate 2 (refine plan_read rfl (by rfl) (v := ?_) ?_ ?_; rotate_left 1; (intro W hW; have hW0 := Below.trans hBase hW; (try dsimp only at hW); go_simp <;> with_reducible rfl); simp only [List.getElem_toArray, List.getElem_cons_zero, List.getElem_cons_succ, Act.put, List.setIfInBounds_toArray, List.set_cons_zero, List.set_cons_succ])
  refine plan_make_at rfl (by rfl) (fun K hK => ?_)
  go_simp
  refine (words_64 b _ _ _ HL (by exact hrW) hc).mono ?_
  rintro e w1 ⟨A1, c1, rfl, hc1, hr1, hb1⟩
  refine hK.out _ _ (hb1.mono hB.size) ?_
  clear hK K
  replace hR0 := hR0.drew.later hb1
  replace hR1 := hR1.drew.later hb1
  replace hB := below_step hB.drew hb1
  clear hb1 hrW hBase W
  obtain ⟨W0, e⟩ : ∃ W0, W0 = wordsL b := ⟨_, rfl⟩
  have HE : Hid (wordsL b = W0) := e.symm
  rw [← e] at H16 hr1 hc1 ⊢
  clear e
  refine plan_make_at rfl (by rfl) (fun K hK => ?_)
  refine wp_copy_row (.tmp 5) (.tmp 7) 197 197 (by rfl) 177 Tryd.underlying197 (by kernel_rfl) (w.heap.size + 1) 0 64 64 A1 W0 c1 (by rfl) (by rfl) _ _ hR1 hr1 vW_one (by have := H16.out; omega) (by have := H16.out; simp; omega) ?_
  simp only [List.getElem_toArray, List.getElem_cons_zero, List.getElem_cons_succ, Act.put, List.setIfInBounds_toArray, List.set_cons_zero, List.set_cons_succ]
  refine hK.out _ _ (below_setRow (Below.refl _ _) (by omega) _) ?_
  clear hK K
  refine plan_done ?_
  refine at_world (Q := _) (fun W => Row W w.heap.size 200 (List.replicate 64 (.int .u32 0)) ∧ Row W (w.heap.size + 1) 200 ((schedL W0 0).map vW) ∧ Below w.heap.size w W)
    ⟨hR0.setRow_other (by omega) _, ?_, below_setRow hB (by omega) _⟩ ?_
  · have e : (List.replicate 64 (Value.int .u32 0)).take 0 ++ W0.map vW ++ (List.replicate 64 (Value.int .u32 0)).drop (0 + W0.length) = (schedL W0 0).map vW := by
      rw [H16.out, schedL_zero, List.map_append, List.map_replicate]
      rfl
    rw [e]
    exact hR1.setRow _
  clear hR0 hR1 hB hr1
  rintro W ⟨hR0, hR1, hB⟩
  go_wp2_with fail
  go_loopw [4] (fun i wr => SpreadRel W0 w i wr) (fun i _ => 64 - (intOf i).toNat)
  case atStart => exact ⟨0, by omega, rfl, hR1, hR0, hB⟩
  case round =>
    clear hR0 hR1 hB
    obtain ⟨k, hk, rfl, hR1, hR0, hB⟩ := hrel
    by_cases hlt : k < 48
    · have h16 := H16.out
      have HN : Hid (nextW (moreW k W0) = addW (addW (addW (sig1 ((moreW k W0).getD (16 + k - 2) 0)) ((moreW k W0).getD (16 + k - 7) 0)) (sig0 ((moreW k W0).getD (16 + k - 15) 0))) ((moreW k W0).getD (16 + k - 16) 0)) := by unfold Hid nextW; rw [moreW_length, h16]
      have h15 := hR1.cell (schedL_at W0 k (16 + k - 15) h16 (by omega))
      have h2 := hR1.cell (schedL_at W0 k (16 + k - 2) h16 (by omega))
      have h7 := hR1.cell (schedL_at W0 k (16 + k - 7) h16 (by omega))
      have hh16 := hR1.cell (schedL_at W0 k (16 + k - 16) h16 (by omega))
      have HX : Hid ((schedL W0 k).set (16 + k) (nextW (moreW k W0)) = schedL W0 (k + 1)) := schedL_next W0 k h16 hlt
      have HLn : Hid ((schedL W0 k).length = 64) := schedL_length W0 k h16 hk
      rw [HN.out] at HX
      obtain ⟨n, hn⟩ : ∃ n, n = 16 + k := ⟨_, rfl⟩
      have HK := Lib.hid hn
      rw [← hn] at h15 h2 h7 hh16 HX ⊢
      have hn1 : 16 ≤ n := by omega
      have hn2 : n < 64 := by omega
      clear hn h16 HN
      generalize (moreW k W0).getD (n - 15) 0 = x15 at h15 HX
      generalize (moreW k W0).getD (n - 2) 0 = x2 at h2 HX
      generalize (moreW k W0).getD (n - 7) 0 = x7 at h7 HX
      generalize (moreW k W0).getD (n - 16) 0 = x16 at hh16 HX
      have HS1 : Hid (sig1 x2 = xorW (xorW (rotR x2 17) (rotR x2 19)) (dn x2 10)) := rfl
      have HS0 : Hid (sig0 x15 = xorW (xorW (rotR x15 7) (rotR x15 18)) (dn x15 3)) := rfl
      have hcn : wr.cell? ⟨w.heap.size + 1, n, none⟩ = some (((schedL W0 k).map vW).getD n undef) := hR1.cell (by have := HLn.out; simp [List.getD, this, hn2])
      have hfz : wr.frozen? ⟨w.heap.size + 1, n, none⟩ = false := hR1.frozen n
      have j2 : IntKind.i64.wrap ((n : Int) - 2) = (n : Int) - 2 := by rw [IntKind.wrap_i64]; omega
      have j7 : IntKind.i64.wrap ((n : Int) - 7) = (n : Int) - 7 := by rw [IntKind.wrap_i64]; omega
      have j15 : IntKind.i64.wrap ((n : Int) - 15) = (n : Int) - 15 := by rw [IntKind.wrap_i64]; omega
      have j16 : IntKind.i64.wrap ((n : Int) - 16) = (n : Int) - 16 := by rw [IntKind.wrap_i64]; omega
      have m2 : (2 : Int) ≤ (n : Int) := by omega
      have m7 : (7 : Int) ≤ (n : Int) := by omega
      have m15 : (15 : Int) ≤ (n : Int) := by omega
      have m16 : (16 : Int) ≤ (n : Int) := by omega
      have k2 : (0 : Int) ≤ (n : Int) - 2 := by omega
      have k7 : (0 : Int) ≤ (n : Int) - 7 := by omega
      have k15 : (0 : Int) ≤ (n : Int) - 15 := by omega
      have k16 : (0 : Int) ≤ (n : Int) - 16 := by omega
      have l0 : (n : Int) < 64 := by omega
      have l2 : (n : Int) - 2 < 64 := by omega
      have l7 : (n : Int) - 7 < 64 := by omega
      have l15 : (n : Int) - 15 < 64 := by omega
      have l16 : (n : Int) - 16 < 64 := by omega
      have t2 : ((n : Int) - 2).toNat = n - 2 := by omega
      have t7 : ((n : Int) - 7).toNat = n - 7 := by omega
      have t15 : ((n : Int) - 15).toNat = n - 15 := by omega
      have t16 : ((n : Int) - 16).toNat = n - 16 := by omega
      have p0 : (0 : Int) ≤ (n : Int) := by omega
      have hS : SprS (w.heap.size + 1) n x2 x7 x15 x16 wr.drew := ⟨h2, h7, h15, hh16⟩
      clear h2 h7 h15 hh16
      go_wp2_with fail
      refine wp_region_plan_of (SprS (w.heap.size + 1) n x2 x7 x15 x16) (.step 0 false (.step 1 false (.step 2 false (.step 3 false (.step 4 false (.step 6 false (.step 7 false (.step 8 false (.step 9 false (.step 11 false (.step 12 false (.step 13 false (.step 14 false (.step 17 false (.step 18 false (.step 19 false (.step 20 false (.step 5 true (.step 10 false (.step 15 true (.step 16 false (.step 21 false (.step 22 false (.step 23 true (.nil))))))))))))))))))))))))) hS (by kernel_rfl) (by kernel_rfl) (by rfl) (by kernel_rfl) ?_
      iterate 17 (refine plan_read rfl (by rfl) (v := ?_) ?_ ?_; rotate_left 1; (intro W hW; (try dsimp only at hW); obtain ⟨hW0, hW1⟩ := hW; go_simp <;> with_reducible rfl); simp only [List.getElem_toArray, List.getElem_cons_zero, List.getElem_cons_succ, Act.put, List.setIfInBounds_toArray, List.set_cons_zero, List.set_cons_succ])
      (refine plan_make_of rfl (by rfl) (fun K hK => ?_); go_simp; (refine (mixed_any x2 17 19 10 (by omega) (by omega) (by omega) _).mono ?_; rintro e w' ⟨rfl, rfl⟩); refine hK.out _ _ hS ?_; clear hK K)
      iterate 1 (refine plan_read rfl (by rfl) (v := ?_) ?_ ?_; rotate_left 1; (intro W hW; (try dsimp only at hW); obtain ⟨hW0, hW1⟩ := hW; go_simp <;> with_reducible rfl); simp only [List.getElem_toArray, List.getElem_cons_zero, List.getElem_cons_succ, Act.put, List.setIfInBounds_toArray, List.set_cons_zero, List.set_cons_succ])
      (refine plan_make_of rfl (by rfl) (fun K hK => ?_); go_simp; (refine (mixed_any x15 7 18 3 (by omega) (by omega) (by omega) _).mono ?_; rintro e w' ⟨rfl, rfl⟩); refine hK.out _ _ hS ?_; clear hK K)
      iterate 3 (refine plan_read rfl (by rfl) (v := ?_) ?_ ?_; rotate_left 1; (intro W hW; (try dsimp only at hW); obtain ⟨hW0, hW1⟩ := hW; go_simp <;> with_reducible rfl); simp only [List.getElem_toArray, List.getElem_cons_zero, List.getElem_cons_succ, Act.put, List.setIfInBounds_toArray, List.set_cons_zero, List.set_cons_succ])
      clear j2 j7 j15 j16 m2 m7 m15 m16 k2 k7 k15 k16 l2 l7 l15 l16 t2 t7 t15 t16
      refine plan_make_of rfl (by rfl) (fun K hK => ?_)
      go_simp
      refine hK.out _ _ (hS.set hn1 _) ?_
      clear hK K hcn hfz
      refine plan_done ?_
      refine at_world (Q := _) (fun W => SpreadRel W0 w (.int .i64 ((n : Int) + 1)) W) (spread_round hlt HK HX hR1.drew hR0.drew hB.drew) ?_
      intro W HR
      replace HR := Lib.hid HR
      clear hR1 hR0 hB hS HX
      go_wp2_with fail
      go_roundw
      case rel => exact HR.out
      case measure => simp [intOf]; omega
    · have hk48 : k = 48 := by omega
      subst hk48
      have h64 : (moreW 48 W0).length = 64 := by rw [moreW_length, H16.out]
      have HR : Hid (moreW 48 (wordsL b) = moreW 48 W0) := by unfold Hid; rw [HE.out]
      rw [schedL_end] at hR1
      generalize moreW 48 W0 = L at hR1 h64 HR
      have H64 := Lib.hid h64
      have hmo := map_one vW_one L
      have HMO := Lib.hid hmo
      clear h64 hmo
      go_wp2_with (first
        | (with_reducible refine wpList_load_part rfl 200 (.tmp 3) rfl (w.heap.size + 1) 0 rfl _ _ hR1 (L.map vW) List.take_length _ Tryd.underlying200 rfl (by rw [List.length_map, H64.out]; kernel_rfl) ?_)
        | (with_reducible refine wpList_store_row rfl 200 (.tmp 2) (.tmp 36) rfl w.heap.size rfl (L.map vW) rfl _ _ hR0 (by rw [List.length_map, H64.out]; kernel_rfl) (by simp [H64.out]) HMO.out ?_))
      refine bodyPost_ret (results_cell_row (p := 2) (ty := 200) rfl _ _ w.heap.size 200 (L.map vW).toArray (0, 0) _ rfl (hR0.setRow _) Tryd.underlying200 rfl (by rw [List.size_toArray, List.length_map, H64.out]; kernel_rfl)) rfl ⟨by rw [HR.out], below_setRow hB (Nat.le_refl _) _⟩
end
end Go.Proofs.YtknjpmoimjhddaaDoor
/-
  What the program's call behind of layer 2 answers: the state behind a block of 64 bytes. Condition: the package's table holds the sixty-four constants.
-/
namespace Go.Proofs.YtknjpmoimjhddaaDoor
set_option maxRecDepth 100000
open Go.RowKit
set_option linter.unusedSimpArgs false

/-- The package's table. -/
def KTab [Inhabited Tab] (w : World) : Prop := ∀ i, i < 64 → w.cell? ⟨1, i, none⟩ = some (.int .u32 ((kT.getD i 0).toNat : Int))
theorem KTab.keep [Inhabited Tab] {w w' : World} (h : KTab w) (hb : Below w.heap.size w w') : KTab w' := fun i hi => by
  rw [hb.cell (p := ⟨1, i, none⟩) (World.block_lt_of_cell? w _ (h i hi))]
  exact h i hi
theorem KTab.drew [Inhabited Tab] {w : World} (h : KTab w) : KTab w.drew := h
theorem KTab.lt [Inhabited Tab] {w : World} (h : KTab w) : 1 < w.heap.size := World.block_lt_of_cell? w _ (h 0 (by omega))
def kcS (n : Nat) (kc : UInt32) (W : World) : Prop := W.cell? ⟨1, n, none⟩ = some (.int .u32 (kc.toNat : Int)) ∧ True

theorem run_index_agg {P : Program} (w : World) (t e : TypeId) (n : Nat) (cs : Array Value) (i : Nat) (v : Value) (ht : P.underlying t = some (.array n e)) (hz : (sizeOf e).run P w = .ok 1 w) (ha : (isAgg e).run P w = .ok false w) (hi : i < n) (hc : cs[i]? = some v) :
    (Instr.index t (.agg cs) (.int .i64 (i : Int))).run P w = .ok v w := by
  have h1 : (0 : Int) ≤ (i : Int) ∧ (i : Int) < (n : Int) := by omega
  simp [Instr.index, asIntOf, Sem.run_bind, run_underlying ht, h1, hz, part, ha, hc]
  omega

theorem size_st : (Tryd.prog.info? 190).map (·.size) = some 8 := by kernel_rfl
theorem one_st (a b c d e f g h : UInt32) : ∀ v ∈ [Value.int .u32 (a.toNat : Int), .int .u32 (b.toNat : Int), .int .u32 (c.toNat : Int), .int .u32 (d.toNat : Int), .int .u32 (e.toNat : Int), .int .u32 (f.toNat : Int), .int .u32 (g.toNat : Int), .int .u32 (h.toNat : Int)], v.oneCell' = true := map_one vW_one [a, b, c, d, e, f, g, h]

/-- A call that hands back a state. -/
def RetSt (w : World) (s : St) (e : Ending) (w' : World) : Prop := ∃ S : St, Hid (S = s) ∧ e = .returned (.agg #[.int .u32 (S.a.toNat : Int), .int .u32 (S.b.toNat : Int), .int .u32 (S.c.toNat : Int), .int .u32 (S.d.toNat : Int), .int .u32 (S.e.toNat : Int), .int .u32 (S.f.toNat : Int), .int .u32 (S.g.toNat : Int), .int .u32 (S.h.toNat : Int)]) ∧ Below w.heap.size w w'

section
attribute [local go_sem] u32_add_w u32_add_m u32_mod_w u32_wrap_w
set_option maxRecDepth 100000 in
set_option maxHeartbeats 1000000 in
theorem behind_any [Inhabited Tab] (s : St) (b : List UInt8) (A : Option Addr) (c : Nat) (w : World) (HL : Hid (b.length = 64)) (hr : Rd vB w A b) (hc : 64 ≤ c) (HK : Hid (KTab w)) :
    Calls Tryd.prog 131 #[.agg #[.int .u32 (s.a.toNat : Int), .int .u32 (s.b.toNat : Int), .int .u32 (s.c.toNat : Int), .int .u32 (s.d.toNat : Int), .int .u32 (s.e.toNat : Int), .int .u32 (s.f.toNat : Int), .int .u32 (s.g.toNat : Int), .int .u32 (s.h.toNat : Int)], .slice A 64 c] w (RetSt w (s.block b)) := by
  have HB : Hid (s.block b = s.plus (St.rounds (moreW 48 (wordsL b)) 64 s)) := rfl
  have h64 : (moreW 48 (wordsL b)).length = 64 := by rw [moreW_length, wordsL_64 b HL.out]
  go_enter Tryd.func131, Tryd.ntmps131
  go_wp2_with fail
  refine at_world (Q := Code.wp _ _ _ _) (fun W => Row W w.heap.size 190 [.int .u32 (s.a.toNat : Int), .int .u32 (s.b.toNat : Int), .int .u32 (s.c.toNat : Int), .int .u32 (s.d.toNat : Int), .int .u32 (s.e.toNat : Int), .int .u32 (s.f.toNat : Int), .int .u32 (s.g.toNat : Int), .int .u32 (s.h.toNat : Int)] ∧ Row W (w.heap.size + 1) 190 (List.replicate 8 (.int .u32 0)) ∧ Below w.heap.size w W)
    ⟨(Row.new w _ _ _ rfl).alloc _, Row.new_at _ _ (by simp) _ _ _ rfl, below_new (below_new (Below.refl _ _) _) _⟩ ?_
  rintro W ⟨hR0, hR1, hB⟩
  have st0 : ∀ W', Below W.heap.size W W' → W'.cell? ⟨w.heap.size, 0, none⟩ = some (.int .u32 (s.a.toNat : Int)) := fun W' h => (hR0.later h).cell rfl
  have st1 : ∀ W', Below W.heap.size W W' → W'.cell? ⟨w.heap.size, 1, none⟩ = some (.int .u32 (s.b.toNat : Int)) := fun W' h => (hR0.later h).cell rfl
  have st2 : ∀ W', Below W.heap.size W W' → W'.cell? ⟨w.heap.size, 2, none⟩ = some (.int .u32 (s.c.toNat : Int)) := fun W' h => (hR0.later h).cell rfl
  have st3 : ∀ W', Below W.heap.size W W' → W'.cell? ⟨w.heap.size, 3, none⟩ = some (.int .u32 (s.d.toNat : Int)) := fun W' h => (hR0.later h).cell rfl
  have hBase : Below W.heap.size W W.drew := (Below.refl _ _).drew
  refine wp_region_plan (.step 0 false (.step 1 false (.step 2 false (.step 3 false (.step 4 false (.step 5 false (.step 6 false (.step 7 false (.step 8 false (.step 9 false (.step 10 false (.step 11 false (.nil))))))))))))) (by kernel_rfl) (by kernel_rfl) (by rfl) (by kernel_rfl) ?_
  iterate 12 (refine plan_read rfl (by rfl) (v := ?_) ?_ ?_; rotate_left 1; (intro W hW; have hW0 := below_step hBase hW; (try dsimp only at hW); go_simp <;> with_reducible rfl); simp only [List.getElem_toArray, List.getElem_cons_zero, List.getElem_cons_succ, Act.put, List.setIfInBounds_toArray, List.set_cons_zero, List.set_cons_succ])
  refine plan_done ?_
  clear st0 st1 st2 st3 hBase
  go_wp2_with fail
  have st4 : ∀ W', Below W.heap.size W W' → W'.cell? ⟨w.heap.size, 4, none⟩ = some (.int .u32 (s.e.toNat : Int)) := fun W' h => (hR0.later h).cell rfl
  have st5 : ∀ W', Below W.heap.size W W' → W'.cell? ⟨w.heap.size, 5, none⟩ = some (.int .u32 (s.f.toNat : Int)) := fun W' h => (hR0.later h).cell rfl
  have st6 : ∀ W', Below W.heap.size W W' → W'.cell? ⟨w.heap.size, 6, none⟩ = some (.int .u32 (s.g.toNat : Int)) := fun W' h => (hR0.later h).cell rfl
  have st7 : ∀ W', Below W.heap.size W W' → W'.cell? ⟨w.heap.size, 7, none⟩ = some (.int .u32 (s.h.toNat : Int)) := fun W' h => (hR0.later h).cell rfl
  have hBase : Below W.heap.size W W.drew.drew := (Below.refl _ _).drew.drew
  refine wp_region_plan (.step 0 false (.step 1 false (.step 2 false (.step 3 false (.step 4 false (.step 5 false (.step 6 false (.step 7 false (.step 8 false (.step 9 false (.step 10 false (.step 11 false (.nil))))))))))))) (by kernel_rfl) (by kernel_rfl) (by rfl) (by kernel_rfl) ?_
  iterate 12 (refine plan_read rfl (by rfl) (v := ?_) ?_ ?_; rotate_left 1; (intro W hW; have hW0 := below_step hBase hW; (try dsimp only at hW); go_simp <;> with_reducible rfl); simp only [List.getElem_toArray, List.getElem_cons_zero, List.getElem_cons_succ, Act.put, List.setIfInBounds_toArray, List.set_cons_zero, List.set_cons_succ])
  refine plan_done ?_
  clear st4 st5 st6 st7 hBase
  go_wp2_with fail
  refine (spread_any b _ _ _ HL (by exact hr.keep hB.drew.drew) hc).mono ?_
  rintro e wx ⟨rfl, hbx⟩
  replace hR0 := hR0.drew.drew.later hbx
  replace hR1 := hR1.drew.drew.later hbx
  replace hB := below_step hB.drew.drew hbx
  have HKx := Lib.hid (HK.out.keep hB)
  generalize moreW 48 (wordsL b) = L at h64 HB
  have H64 := Lib.hid h64
  clear hbx h64 hr HK W
  go_wp2_with fail
  go_loopw [5, 6, 7, 8, 9, 10, 11, 12, 35] (fun a b c d e f g h i wr => RoundRel s L wx a b c d e f g h i wr) (fun _ _ _ _ _ _ _ _ i _ => 64 - (intOf i).toNat)
  case atStart => exact ⟨0, by omega, rfl, rfl, rfl, rfl, rfl, rfl, rfl, rfl, rfl, Below.refl _ _⟩
  case round =>
    obtain ⟨n, hn, rfl, rfl, rfl, rfl, rfl, rfl, rfl, rfl, rfl, hbr⟩ := hrel
    by_cases hlt : n < 64
    · have hkc : kcS n (kT.getD n 0) wr.drew := ⟨(HKx.out.keep hbr) n hlt, trivial⟩
      have HS : Hid (St.rounds L (n + 1) s = (St.rounds L n s).round (kT.getD n 0) (L.getD n 0)) := rfl
      generalize St.rounds L n s = S at HS
      have HS2 : Hid (∀ wr, Below wx.heap.size wx wr → RoundRel s L wx (.int .u32 ((addW (tW S (kT.getD n 0) (L.getD n 0)) (uW S)).toNat : Int)) (.int .u32 (S.a.toNat : Int)) (.int .u32 (S.b.toNat : Int)) (.int .u32 (S.c.toNat : Int)) (.int .u32 ((addW S.d (tW S (kT.getD n 0) (L.getD n 0))).toNat : Int)) (.int .u32 (S.e.toNat : Int)) (.int .u32 (S.f.toNat : Int)) (.int .u32 (S.g.toNat : Int)) (.int .i64 ((n : Int) + 1)) wr) := fun wr hb => round_next hlt HS hb
      clear HS
      generalize kT.getD n 0 = kc at hkc HS2
      have hix : ∀ W, (Instr.index 200 (.agg (L.map vW).toArray) (.int .i64 (n : Int))).run Tryd.prog W = .ok (.int .u32 ((L.getD n 0).toNat : Int)) W := fun W => run_index_agg W _ 177 64 _ n _ Tryd.underlying200 (by kernel_rfl) (by kernel_rfl) hlt (by have := H64.out; simp [List.getD, this, hlt, vW])
      generalize L.getD n 0 = x at hix HS2
      obtain ⟨sa, sb, sc, sd, se, sf, sg, sh⟩ := S
      dsimp only at HS2 ⊢
      have i0' : (0 : Int) ≤ (n : Int) := by omega
      have i1' : (n : Int) < 64 := by omega
      have hS := hkc
      clear hkc
      go_wp2_with fail
      refine wp_region_plan_of (kcS n kc) (.step 0 false (.step 1 false (.step 4 false (.step 5 false (.step 6 false (.step 9 false (.step 10 false (.step 11 false (.step 13 false (.step 2 true (.step 3 false (.step 7 true (.step 8 false (.step 12 false (.step 14 false (.step 15 false (.nil))))))))))))))))) hS (by kernel_rfl) (by kernel_rfl) (by rfl) (by kernel_rfl) ?_
      iterate 9 (refine plan_read rfl (by rfl) (v := ?_) ?_ ?_; rotate_left 1; (intro W hW; (try dsimp only at hW); obtain ⟨hW0, hW1⟩ := hW; go_simp <;> with_reducible rfl); simp only [List.getElem_toArray, List.getElem_cons_zero, List.getElem_cons_succ, Act.put, List.setIfInBounds_toArray, List.set_cons_zero, List.set_cons_succ])
      (refine plan_make_of rfl (by rfl) (fun K hK => ?_); go_simp; (refine (turned_any se 6 11 25 (by omega) (by omega) (by omega) _).mono ?_; rintro e w' ⟨rfl, rfl⟩); refine hK.out _ _ hS ?_; clear hK K)
      iterate 1 (refine plan_read rfl (by rfl) (v := ?_) ?_ ?_; rotate_left 1; (intro W hW; (try dsimp only at hW); obtain ⟨hW0, hW1⟩ := hW; go_simp <;> with_reducible rfl); simp only [List.getElem_toArray, List.getElem_cons_zero, List.getElem_cons_succ, Act.put, List.setIfInBounds_toArray, List.set_cons_zero, List.set_cons_succ])
      (refine plan_make_of rfl (by rfl) (fun K hK => ?_); go_simp; (refine (choice_any se sf sg _).mono ?_; rintro e w' ⟨rfl, rfl⟩); refine hK.out _ _ hS ?_; clear hK K)
      iterate 4 (refine plan_read rfl (by rfl) (v := ?_) ?_ ?_; rotate_left 1; (intro W hW; (try dsimp only at hW); obtain ⟨hW0, hW1⟩ := hW; go_simp <;> with_reducible rfl); simp only [List.getElem_toArray, List.getElem_cons_zero, List.getElem_cons_succ, Act.put, List.setIfInBounds_toArray, List.set_cons_zero, List.set_cons_succ])
      refine plan_done ?_
      clear hS hix
      go_wp2_with fail
      refine (turned_any sa 2 13 22 (by omega) (by omega) (by omega) _).mono ?_
      rintro e w' ⟨rfl, rfl⟩
      go_wp2_with fail
      refine (majority_any sa sb sc _).mono ?_
      rintro e w' ⟨rfl, rfl⟩
      have HR := Lib.hid (HS2.out _ hbr.drew)
      clear HS2 hbr
      go_wp2_with fail
      go_roundw
      case rel => first | exact HR.out | ((repeat apply Exists.intro); exact ⟨HR.out, rfl⟩)
      case measure => simp [intOf]; omega
    · have hn64 : n = 64 := by omega
      subst hn64
      have HE : Hid (s.block b = s.plus (St.rounds L 64 s)) := HB.out
      generalize St.rounds L 64 s = S at HE
      obtain ⟨sa, sb, sc, sd, se, sf, sg, sh⟩ := S
      dsimp only
      replace hR0 := hR0.later hbr
      replace hR1 := hR1.later hbr
      replace hB := below_step hB hbr
      have c0 : wr.cell? ⟨w.heap.size, 0, none⟩ = some (.int .u32 (s.a.toNat : Int)) := hR0.cell rfl
      have c1 : wr.cell? ⟨w.heap.size, 1, none⟩ = some (.int .u32 (s.b.toNat : Int)) := hR0.cell rfl
      have c2 : wr.cell? ⟨w.heap.size, 2, none⟩ = some (.int .u32 (s.c.toNat : Int)) := hR0.cell rfl
      have c3 : wr.cell? ⟨w.heap.size, 3, none⟩ = some (.int .u32 (s.d.toNat : Int)) := hR0.cell rfl
      have c4 : wr.cell? ⟨w.heap.size, 4, none⟩ = some (.int .u32 (s.e.toNat : Int)) := hR0.cell rfl
      have c5 : wr.cell? ⟨w.heap.size, 5, none⟩ = some (.int .u32 (s.f.toNat : Int)) := hR0.cell rfl
      have c6 : wr.cell? ⟨w.heap.size, 6, none⟩ = some (.int .u32 (s.g.toNat : Int)) := hR0.cell rfl
      have c7 : wr.cell? ⟨w.heap.size, 7, none⟩ = some (.int .u32 (s.h.toNat : Int)) := hR0.cell rfl
      clear hbr
      go_wp2_with (refine wpList_store_row rfl 190 (.tmp 4) (.tmp 106) rfl (w.heap.size + 1) rfl [.int .u32 ((addW s.a sa).toNat : Int), .int .u32 ((addW s.b sb).toNat : Int), .int .u32 ((addW s.c sc).toNat : Int), .int .u32 ((addW s.d sd).toNat : Int), .int .u32 ((addW s.e se).toNat : Int), .int .u32 ((addW s.f sf).toNat : Int), .int .u32 ((addW s.g sg).toNat : Int), .int .u32 ((addW s.h sh).toNat : Int)] rfl _ _ hR1 (by exact size_st) (by exact List.length_replicate) (by exact one_st _ _ _ _ _ _ _ _) ?_)
      refine bodyPost_ret (results_cell_row (p := 4) (ty := 190) (by rfl) _ _ (w.heap.size + 1) 190 _ (0, 0) _ (by rfl) (by exact hR1.setRow _) Tryd.underlying190 (by rfl) (by exact size_st)) (by rfl) ?_
      exact ⟨St.plus s ⟨sa, sb, sc, sd, se, sf, sg, sh⟩, HE.out.symm, rfl, below_setRow hB (by omega) _⟩
end
end Go.Proofs.YtknjpmoimjhddaaDoor
