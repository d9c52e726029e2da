/-
  Terms in memory: a slice of structs of two byte slices read as a list; kept, cut, joined. No conditions but those typed.
-/
import Derived.Test.YtppdfldmbfddnaaTermMath
import Derived.Test.YtppdfldmbfddnaaOwn
import Derived.Test.YtppdfldmbfddnaaStr
import Derived.Test.YtppdfldmbfddnaaSlices
namespace Go.Proofs.Ytppdfldmbfddnaa
open Go.RowKit
set_option linter.unusedSimpArgs false
set_option linter.unusedVariables false

/-- A term that lies somewhere: where its key and its text lie, their rooms, and what they are. -/
structure TD where
  kA : Option Addr
  kc : Nat
  k : List UInt8
  mA : Option Addr
  mc : Nat
  m : List UInt8
def TD.at0 (x : TD) : Value := .slice x.kA x.k.length x.kc
def TD.at1 (x : TD) : Value := .slice x.mA x.m.length x.mc
def TD.cells (x : TD) : List Value := [x.at0, x.at1]
def TD.c (x : TD) : Tm := (x.k, x.m)
/-- What a term's two slices point to, is there. -/
def TD.ok (w : World) (x : TD) : Prop := x.k.length ≤ x.kc ∧ x.m.length ≤ x.mc ∧ Rd vB w x.kA x.k ∧ Rd vB w x.mA x.m
def cellsT (ts : List TD) : List Value := ts.flatMap TD.cells
def conT (ts : List TD) : List Tm := ts.map TD.c

/-- The slice with address A has these terms' cells, one behind the other. -/
def RdT (w : World) (A : Option Addr) (ts : List TD) : Prop :=
  ts ≠ [] → ∃ b o, A = some ⟨b, o, none⟩ ∧ ∀ i (h : i < ts.length), w.cell? ⟨b, o + i * 2, none⟩ = some ts[i].at0 ∧ w.cell? ⟨b, o + i * 2 + 1, none⟩ = some ts[i].at1
def okT (w : World) (ts : List TD) : Prop := ∀ x ∈ ts, x.ok w

theorem conT_length (ts : List TD) : (conT ts).length = ts.length := by simp [conT]
theorem cellsT_length : ∀ ts : List TD, (cellsT ts).length = ts.length * 2
  | [] => rfl
  | x :: ts => by
    have := cellsT_length ts
    unfold cellsT at *
    rw [List.flatMap_cons, List.length_append, this, List.length_cons]
    simp [TD.cells]
    omega
theorem cellsT_get : ∀ (ts : List TD) (i : Nat) (h : i < ts.length), (cellsT ts)[i * 2]? = some ts[i].at0 ∧ (cellsT ts)[i * 2 + 1]? = some ts[i].at1
  | x :: ts, 0, _ => ⟨rfl, rfl⟩
  | x :: ts, i + 1, h => by
    have ih := cellsT_get ts i (by simpa using h)
    have e : cellsT (x :: ts) = x.at0 :: x.at1 :: cellsT ts := rfl
    rw [e, show (i + 1) * 2 = i * 2 + 1 + 1 by omega, List.getElem?_cons_succ, List.getElem?_cons_succ, List.getElem?_cons_succ, List.getElem?_cons_succ]
    exact ih
theorem conT_get (ts : List TD) (i : Nat) (h : i < ts.length) : (conT ts)[i]'(by rw [conT_length]; exact h) = ts[i].c := by simp [conT]
theorem TD.ok.keep {w w' : World} {x : TD} (h : x.ok w) (hb : Below w.heap.size w w') : x.ok w' := ⟨h.1, h.2.1, h.2.2.1.keep hb, h.2.2.2.keep hb⟩
theorem okT.keep {w w' : World} {ts : List TD} (h : okT w ts) (hb : Below w.heap.size w w') : okT w' ts := fun x hx => (h x hx).keep hb
theorem okT.app {w : World} {ts us : List TD} (h : okT w ts) (k : okT w us) : okT w (ts ++ us) := fun x hx => (List.mem_append.1 hx).elim (h x) (k x)
theorem okT.take {w : World} {ts : List TD} (h : okT w ts) (n : Nat) : okT w (ts.take n) := fun x hx => h x (List.mem_of_mem_take hx)
section
variable {w w' : World} {A : Option Addr} {ts : List TD}
theorem RdT.nil : RdT w A [] := fun h => absurd rfl h
theorem RdT.at (h : RdT w A ts) {k : Nat} (hk : k < ts.length) : ∃ b o, A = some ⟨b, o, none⟩ ∧ b < w.heap.size ∧ ∀ i (h : i < ts.length), w.cell? ⟨b, o + i * 2, none⟩ = some ts[i].at0 ∧ w.cell? ⟨b, o + i * 2 + 1, none⟩ = some ts[i].at1 := by
  obtain ⟨b, o, e, hc⟩ := h (by rintro rfl; simp at hk)
  exact ⟨b, o, e, World.block_lt_of_cell? w _ (hc k hk).1, hc⟩
theorem RdT.keep (h : RdT w A ts) (hb : Below w.heap.size w w') : RdT w' A ts := fun hn => by
  obtain ⟨b, o, e, hc⟩ := h hn
  refine ⟨b, o, e, fun i hi => ?_⟩
  obtain ⟨h0, h1⟩ := hc i hi
  have hlt := World.block_lt_of_cell? w _ h0
  exact ⟨(hb.cell (p := ⟨b, o + i * 2, none⟩) hlt).trans h0, (hb.cell (p := ⟨b, o + i * 2 + 1, none⟩) hlt).trans h1⟩
theorem RdT.take (h : RdT w A ts) (n : Nat) : RdT w A (ts.take n) := fun hn => by
  obtain ⟨b, o, e, hc⟩ := h (by rintro rfl; simp at hn)
  refine ⟨b, o, e, fun i hi => ?_⟩
  have hi' : i < ts.length := by simp at hi; omega
  have := hc i hi'
  simpa using this
theorem RdT.range {b o : Nat} (h : RdT w (some ⟨b, o, none⟩) ts) : ∀ j u, (cellsT ts)[j]? = some u → w.cell? ((⟨b, o, none⟩ : Addr).add j) = some u := fun j u hu => by
  have hj : j < ts.length * 2 := by
    rw [← cellsT_length]
    exact (List.getElem?_eq_some_iff.1 hu).1
  have hi : j / 2 < ts.length := by omega
  obtain ⟨b', o', e, hc⟩ := h (by rintro rfl; simp at hi)
  injection e with e
  injection e with e1 e2 _
  subst e1 e2
  obtain ⟨h0, h1⟩ := hc (j / 2) hi
  obtain ⟨g0, g1⟩ := cellsT_get ts (j / 2) hi
  have e1 : (⟨b, o, none⟩ : Addr).add j = ⟨b, o + j, none⟩ := by unfold Addr.add; split <;> simp_all
  rw [e1]
  by_cases hp : j % 2 = 0
  · have e2 : j / 2 * 2 = j := by omega
    rw [e2] at h0 g0
    rw [h0, ← g0, hu]
  · have e2 : j / 2 * 2 + 1 = j := by omega
    rw [Nat.add_assoc, e2] at h1
    rw [e2] at g1
    rw [h1, ← g1, hu]
theorem RdT.own {base : Nat} {e : TypeId} {n c : Nat} (h : w.ownsRow base e 2 (.slice A n c) n (cellsT ts)) : RdT w A ts := fun hn => by
  have hl : ts.length = n := by
    have := h.1
    rw [cellsT_length] at this
    omega
  have hpos : 0 < n := by
    rcases Nat.eq_zero_or_pos n with h0 | h0
    · exact absurd (List.eq_nil_of_length_eq_zero (by omega)) hn
    · exact h0
  obtain ⟨g, cap, hv, _, hlt⟩ := h.form hpos
  have hA : A = some ⟨g, 0, none⟩ := by injection hv
  subst hA
  refine ⟨g, 0, rfl, fun i hi => ?_⟩
  obtain ⟨g0, g1⟩ := cellsT_get ts i hi
  have h0 := h.cells (g := g) rfl _ _ g0
  have h1 := h.cells (g := g) rfl _ _ g1
  have e1 : ∀ j, (⟨g, 0, none⟩ : Addr).add j = ⟨g, 0 + j, none⟩ := fun j => by unfold Addr.add; split <;> simp_all
  rw [e1] at h0 h1
  exact ⟨h0, h1⟩
theorem own_sliceT {base : Nat} {e : TypeId} {v : Value} (h : w.ownsRow base e 2 v ts.length (cellsT ts)) : ∃ A cap, v = .slice A ts.length cap ∧ ts.length ≤ cap ∧ RdT w A ts := by
  rcases h.2 with ⟨rfl, h0⟩ | ⟨g, cap, cur, rfl, _, _, hc, _⟩
  · have hl : ts = [] := List.eq_nil_of_length_eq_zero h0
    subst hl
    exact ⟨none, 0, rfl, Nat.le_refl _, RdT.nil⟩
  · exact ⟨_, cap, rfl, hc, RdT.own h⟩
end
theorem cellsT_one : ∀ (ts : List TD), ∀ u ∈ cellsT ts, u.oneCell' = true := fun ts u hu => by
  obtain ⟨x, _, hx⟩ := List.mem_flatMap.1 hu
  simp [TD.cells, TD.at0, TD.at1] at hx
  rcases hx with rfl | rfl <;> rfl
theorem str_beq (a b : List UInt8) : ((strL a).toList == (strL b).toList) = decide (a = b) := by
  unfold strL
  rw [ByteArray.toList_mk, ByteArray.toList_mk]
  by_cases h : a = b <;> simp [h]

theorem rangeAt_keep {w w' : World} {g o : Nat} {l : List Value} (h : w.rangeAt g o l) (hb : Below w.heap.size w w') (hg : g < w.heap.size) : w'.rangeAt g o l := fun j v hv => (hb.cell (p := ⟨g, o + j, none⟩) hg).trans (h j v hv)
/-- What lies below block B is there behind a store to a block not below it. -/
theorem Rd.setRow_old {α : Type} {f : α → Value} {w w' : World} {A : Option Addr} {L : List α} (h : Rd f w A L) (hb : Below w.heap.size w w') {g : Nat} (hg : w.heap.size ≤ g) (cs : Array Value) : Rd f (w'.setRow g cs) A L := fun hn => by
  obtain ⟨b, o, rfl, hc⟩ := h hn
  refine ⟨b, o, rfl, fun i hi => ?_⟩
  have hk := hc i hi
  have hlt : b < w.heap.size := World.block_lt_of_cell? w _ hk
  rw [cell_setRow_other w' g cs ⟨b, o + i, none⟩ (by show b ≠ g; omega), hb.cell (p := ⟨b, o + i, none⟩) hlt]
  exact hk
theorem TD.ok.setRow_old {w w' : World} {x : TD} (h : x.ok w) (hb : Below w.heap.size w w') {g : Nat} (hg : w.heap.size ≤ g) (cs : Array Value) : x.ok (w'.setRow g cs) := ⟨h.1, h.2.1, h.2.2.1.setRow_old hb hg cs, h.2.2.2.setRow_old hb hg cs⟩

/-! ### A store into a block that holds no bytes, and no terms -/
theorem vB_inj {a b : UInt8} (h : vB a = vB b) : a = b := by
  unfold vB at h
  injection h with _ h
  exact UInt8.toNat_inj.1 (by omega)
theorem Rd.setRow_row {w : World} {A : Option Addr} {L : List UInt8} (h : Rd vB w A L) {g : Nat} {t : TypeId} {l : List Value} (hR : Row w g t l) (hl : ∀ v ∈ l, ∀ x, v ≠ vB x) (cs : Array Value) : Rd vB (w.setRow g cs) A L := fun hn => by
  obtain ⟨b, o, rfl, hc⟩ := h hn
  refine ⟨b, o, rfl, fun i hi => ?_⟩
  have hne : b ≠ g := by
    rintro rfl
    have h1 := hc i hi
    rw [hR.cell? (o + i)] at h1
    exact hl _ (List.mem_of_getElem? h1) _ rfl
  exact (cell_setRow_other w g cs ⟨b, o + i, none⟩ hne).trans (hc i hi)
theorem TD.ok.setRow_row {w : World} {x : TD} (h : x.ok w) {g : Nat} {t : TypeId} {l : List Value} (hR : Row w g t l) (hl : ∀ v ∈ l, ∀ x, v ≠ vB x) (cs : Array Value) : x.ok (w.setRow g cs) := ⟨h.1, h.2.1, h.2.2.1.setRow_row hR hl cs, h.2.2.2.setRow_row hR hl cs⟩
theorem okT.setRow_row {w : World} {ts : List TD} (h : okT w ts) {g : Nat} {t : TypeId} {l : List Value} (hR : Row w g t l) (hl : ∀ v ∈ l, ∀ x, v ≠ vB x) (cs : Array Value) : okT (w.setRow g cs) ts := fun x hx => (h x hx).setRow_row hR hl cs
/-- A number and a slice are no bytes; and no term is a number. -/
theorem two_no_byte (k : Int) (v : Value) (hv : ∀ x, v ≠ vB x) : ∀ u ∈ ([.int .i64 k, v] : List Value), ∀ x, u ≠ vB x := fun u hu x e => by
  simp at hu
  rcases hu with rfl | rfl
  · unfold vB at e
    injection e with e _
    cases e
  · exact hv x e
theorem slice_no_byte (A : Option Addr) (n c : Nat) : ∀ x, (Value.slice A n c) ≠ vB x := fun x e => by unfold vB at e; cases e
theorem RdT.setRow_row {w : World} {A : Option Addr} {ts : List TD} (h : RdT w A ts) {g : Nat} {t : TypeId} {k : Int} {v : Value} (hR : Row w g t [.int .i64 k, v]) (cs : Array Value) : RdT (w.setRow g cs) A ts := fun hn => by
  obtain ⟨b, o, rfl, hc⟩ := h hn
  refine ⟨b, o, rfl, fun i hi => ?_⟩
  obtain ⟨h0, h1⟩ := hc i hi
  have hne : b ≠ g := by
    rintro rfl
    rw [hR.cell? (o + i * 2)] at h0
    rw [hR.cell? (o + i * 2 + 1)] at h1
    rcases Nat.eq_zero_or_pos (o + i * 2) with e | e
    · rw [e] at h0
      injection h0 with h0
      unfold TD.at0 at h0
      cases h0
    · rw [List.getElem?_eq_none (by simp; omega)] at h1
      cases h1
  exact ⟨(cell_setRow_other w g cs ⟨b, o + i * 2, none⟩ hne).trans h0, (cell_setRow_other w g cs ⟨b, o + i * 2 + 1, none⟩ hne).trans h1⟩

/-! ### append, elements of any size -/
section
variable {P : Program} (w : World)
theorem run_append_gen (base : Nat) (t ty e : TypeId) (i : TypeInfo) (z : Value) (size bytes : Nat) (ht : P.underlying t = some (.slice e)) (hi : P.info? e = some i) (hz : i.zero = some z)
    (hsize : i.size = size) (hby : i.bytes = bytes) (hzs : z.cells.size = size) (hsz : 0 < size) (v : Value) (n : Nat) (xs : List Value) (hown : w.ownsRow base e size v n xs)
    (A : Option Addr) (m c : Nat) (news : List Value) (hl : news.length = m * size) (hr : news ≠ [] → ∃ b o, A = some ⟨b, o, none⟩ ∧ ∀ j u, news[j]? = some u → w.cell? ((⟨b, o, none⟩ : Addr).add j) = some u) (h1 : ∀ u ∈ news, u.oneCell' = true)
    (h63 : n + m ≤ maxLen) (hbytes : (n + m) * bytes ≤ 140737488355328) (hbase : base ≤ w.heap.size) :
    ∃ v' w', (Builtin.append_ #[t, t] ty #[v, .slice A m c]).run P w = .ok v' w' ∧ w'.ownsRow base e size v' (n + m) (xs ++ news) ∧ w.grownBy w' v.ownBlock := by
  by_cases hm : m = 0
  · subst hm
    have e0 : news = [] := List.eq_nil_of_length_eq_zero (by omega)
    subst e0
    cases A with
    | none =>
      refine ⟨v, w, ?_, by simpa using hown, ⟨rfl, rfl, rfl, Nat.le_refl _, fun _ _ _ => rfl⟩⟩
      rcases hown.2 with ⟨rfl, rfl⟩ | ⟨g, cap, cur, rfl, _, _, hnc, _⟩
      · simp [Builtin.append_, run_underlying ht, sizeOf, typeInfo, hi, Builtin.lenOf, Builtin.firstCells]
      · simp [Builtin.append_, run_underlying ht, sizeOf, typeInfo, hi, Builtin.lenOf, Builtin.firstCells, hnc, storeCells]
    | some ad =>
      obtain ⟨v', w', hrun, h2, h3, _⟩ := run_append_own (P := P) w base t ty e i z size bytes ht hi hz hsize hby hzs hsz v n xs hown ad 0 c [] (by simp) (fun j u h => by simp at h) (fun u h => by simp at h) h63 hbytes hbase
      exact ⟨v', w', hrun, h2, h3⟩
  · have hne : news ≠ [] := by
      rintro rfl
      have h0 : m * size = 0 := by rw [← hl]; rfl
      rcases Nat.mul_eq_zero.1 h0 with h | h <;> omega
    obtain ⟨b, o, rfl, hc⟩ := hr hne
    obtain ⟨v', w', hrun, h2, h3, _⟩ := run_append_own (P := P) w base t ty e i z size bytes ht hi hz hsize hby hzs hsz v n xs hown ⟨b, o, none⟩ m c news hl hc h1 h63 hbytes hbase
    exact ⟨v', w', hrun, h2, h3⟩
theorem wpList_append_gen {ops : Array Oper} {rest : List Oper} {o : Oper} {a : Act} {Q : Exit → Act → World → Prop} (hgd : o.guard = none) (s x : Operand) (t : TypeId)
    (ho : o.op = .call { callee := .builtin .append, args := #[s, x], argTypes := #[t, t] })
    (base : Nat) (e : TypeId) (i : TypeInfo) (z : Value) (size bytes : Nat) (ht : P.underlying t = some (.slice e)) (hi : P.info? e = some i) (hz : i.zero = some z)
    (hsize : i.size = size) (hby : i.bytes = bytes) (hzs : z.cells.size = size) (hsz : 0 < size) (v : Value) (n : Nat) (xs : List Value) (hs : a.eval s = v) (hown : w.ownsRow base e size v n xs)
    (A : Option Addr) (m c : Nat) (news : List Value) (hx : a.eval x = .slice A m c) (hl : news.length = m * size) (hr : news ≠ [] → ∃ b o, A = some ⟨b, o, none⟩ ∧ ∀ j u, news[j]? = some u → w.cell? ((⟨b, o, none⟩ : Addr).add j) = some u) (h1 : ∀ u ∈ news, u.oneCell' = true)
    (h63 : n + m ≤ maxLen) (hbytes : (n + m) * bytes ≤ 140737488355328) (hbase : base ≤ w.heap.size)
    (h : ∀ v' w', w'.ownsRow base e size v' (n + m) (xs ++ news) → w.grownBy w' v.ownBlock → wpList P ops Q rest (a.put o.dst v') w') : wpList P ops Q (o :: rest) a w := by
  refine wpList_plain hgd fun K hK => ?_
  obtain ⟨v', w', hr, h2, h3⟩ := run_append_gen (P := P) w base t o.type e i z size bytes ht hi hz hsize hby hzs hsz v n xs hown A m c news hl hr h1 h63 hbytes hbase
  unfold Oper.wp execOp
  simp only [ho, resolve, invoke, builtin, Sem.run_bind, Sem.run_pure, Result.andThen_ok, List.map_toArray, List.map_cons, List.map_nil, hs, hx, hr]
  exact hK _ _ (h v' w' h2 h3)
end
theorem RdT.news {w : World} {A : Option Addr} {ts : List TD} (h : RdT w A ts) : cellsT ts ≠ [] → ∃ b o, A = some ⟨b, o, none⟩ ∧ ∀ j u, (cellsT ts)[j]? = some u → w.cell? ((⟨b, o, none⟩ : Addr).add j) = some u := fun hn => by
  have hne : ts ≠ [] := by
    rintro rfl
    exact hn rfl
  obtain ⟨b, o, e, _⟩ := h hne
  subst e
  exact ⟨b, o, rfl, h.range⟩
/-- A row of bytes of the call's own, as a slice; its block is none of the older ones. -/
theorem own_sliceN {α : Type} {f : α → Value} {w : World} {base : Nat} {e : TypeId} {v : Value} {l : List α} (h : w.ownsRow base e 1 v l.length (l.map f)) : ∃ A cap, v = .slice A l.length cap ∧ l.length ≤ cap ∧ Rd f w A l ∧ ∀ a, A = some a → base ≤ a.block := by
  rcases h.2 with ⟨rfl, h0⟩ | ⟨g, cap, cur, rfl, hg, _, hc, _⟩
  · have hl : l = [] := List.eq_nil_of_length_eq_zero h0
    subst hl
    exact ⟨none, 0, rfl, Nat.le_refl _, Rd.nil, fun a h => by cases h⟩
  · exact ⟨_, cap, rfl, hc, Rd.own h, fun a ha => by injection ha with ha; subst ha; exact hg⟩
theorem info_term : (Try.prog.info? 29).map (fun i => (i.zero, i.size, i.bytes)) = some (some (.agg #[.slice none 0 0, .slice none 0 0]), 2, 48) := by kernel_rfl
end Go.Proofs.Ytppdfldmbfddnaa
