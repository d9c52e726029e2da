/-
  A block whose first cells are bytes, and worlds in which all but one block lies as it lay (no program is named here). No conditions but those typed.
-/
import Derived.Test.YtobeaoooaagdkaaPolyMath
import Derived.Test.YtobeaoooaagdkaaOwn
import Derived.RangeFuncBox
namespace Go.Proofs.Ytobeaoooaagdkaa
set_option maxRecDepth 100000
open Go.RowKit
set_option linter.unusedSimpArgs false
set_option linter.unusedVariables false

/-! ### A block whose first cells are bytes -/
def Cel (w : World) (g : Nat) (e : TypeId) (l : List UInt8) : Prop := ∃ L, Row w g e L ∧ L.take l.length = l.map vB
section
variable {w w' : World} {g : Nat} {e : TypeId} {l : List UInt8}
theorem Cel.lt (h : Cel w g e l) : g < w.heap.size := by
  obtain ⟨L, h1, _⟩ := h
  exact h1.lt
theorem Cel.get (h : Cel w g e l) (i : Nat) (hi : i < l.length) : w.cell? ⟨g, i, none⟩ = some (.int .u8 ((co l i).toNat : Int)) := by
  obtain ⟨L, h1, h2⟩ := h
  rw [h1.cell? i, co_lt l i hi]
  have := congrArg (·[i]?) h2
  simp only [List.getElem?_take, hi, if_true, List.getElem?_map, List.getElem?_eq_getElem hi] at this
  exact this
theorem Cel.frozen (h : Cel w g e l) (i : Nat) : w.frozen? ⟨g, i, none⟩ = false := by
  obtain ⟨L, h1, _⟩ := h
  exact h1.frozen i
theorem Cel.set (h : Cel w g e l) (i : Nat) (z : UInt8) : Cel (w.setCell ⟨g, i, none⟩ (.int .u8 (z.toNat : Int))) g e (l.set i z) := by
  obtain ⟨L, h1, h2⟩ := h
  refine ⟨_, h1.setCell i (.int .u8 (z.toNat : Int)), ?_⟩
  rw [List.length_set, List.take_set, h2, List.map_set]
  rfl
theorem Cel.later (h : Cel w g e l) (hb : Below w.heap.size w w') : Cel w' g e l := by
  obtain ⟨L, h1, h2⟩ := h
  exact ⟨L, h1.later hb, h2⟩
theorem Cel.drew (h : Cel w g e l) : Cel w.drew g e l := h
theorem Cel.rd (h : Cel w g e l) : Rd vB w (some ⟨g, 0, none⟩) l := fun hn => ⟨g, 0, rfl, fun i hi => by rw [Nat.zero_add, h.get i hi, co_lt l i hi]; rfl⟩
theorem cel_of_own {base cap n : Nat} {A : Option Addr} (h : w.ownsRow base e 1 (.slice A n cap) n (l.map vB)) (hl : l.length = n) (hn : 0 < n) : ∃ g, A = some ⟨g, 0, none⟩ ∧ base ≤ g ∧ Cel w g e l := by
  rcases h.2 with ⟨_, h0⟩ | ⟨g, cap', cur, hv, hg, hgg, hc, hm, hs, ht⟩
  · omega
  · have hR : Row w g e cur.toList := hgg
    injection hv with e1 e2 e3
    rw [Nat.mul_one] at ht
    exact ⟨g, e1, hg, cur.toList, hR, by rw [hl]; exact ht⟩
end


/-- .. and the block has cap cells. -/
def CelN (w : World) (g : Nat) (e : TypeId) (cap : Nat) (l : List UInt8) : Prop := ∃ L, Row w g e L ∧ L.length = cap ∧ L.take l.length = l.map vB
theorem CelN.cel {w : World} {g : Nat} {e : TypeId} {cap : Nat} {l : List UInt8} (h : CelN w g e cap l) : Cel w g e l := by
  obtain ⟨L, h1, _, h2⟩ := h
  exact ⟨L, h1, h2⟩
theorem Cel.some_cap {w : World} {g : Nat} {e : TypeId} {l : List UInt8} (h : Cel w g e l) : ∃ cap, CelN w g e cap l := by
  obtain ⟨L, h1, h2⟩ := h
  exact ⟨L.length, L, h1, rfl, h2⟩
theorem CelN.drew {w : World} {g : Nat} {e : TypeId} {cap : Nat} {l : List UInt8} (h : CelN w g e cap l) : CelN w.drew g e cap l := h
theorem CelN.set {w : World} {g : Nat} {e : TypeId} {cap : Nat} {l : List UInt8} (h : CelN w g e cap l) (i : Nat) (z : UInt8) : CelN (w.setCell ⟨g, i, none⟩ (.int .u8 (z.toNat : Int))) g e cap (l.set i z) := by
  obtain ⟨L, h1, h3, h2⟩ := h
  refine ⟨_, h1.setCell i (.int .u8 (z.toNat : Int)), by rw [List.length_set]; exact h3, ?_⟩
  rw [List.length_set, List.take_set, h2, List.map_set]
  rfl
theorem celN_some {w : World} {e : TypeId} {l : List UInt8} {base cap n g : Nat} (h : w.ownsRow base e 1 (.slice (some ⟨g, 0, none⟩) n cap) n (l.map vB)) (hl : l.length = n) : CelN w g e cap l ∧ base ≤ g ∧ n ≤ cap ∧ cap ≤ maxLen := by
  rcases h.2 with ⟨e0, _⟩ | ⟨g', cap', cur, hv, hg, hgg, hc, hm, hs, ht⟩
  · cases e0
  · have hR : Row w g' e cur.toList := hgg
    injection hv with e1 e2 e3
    injection e1 with e1
    injection e1 with e1
    subst e1 e3
    rw [Nat.mul_one] at ht
    exact ⟨⟨cur.toList, hR, by rw [Array.length_toList, hs, Nat.mul_one], by rw [hl]; exact ht⟩, hg, hc, hm⟩
theorem CelN.own {w : World} {e : TypeId} {l : List UInt8} {g cap base : Nat} (h : CelN w g e cap l) (hb : base ≤ g) (hl : l.length ≤ cap) (hm : cap ≤ maxLen) : w.ownsRow base e 1 (.slice (some ⟨g, 0, none⟩) l.length cap) l.length (l.map vB) := by
  obtain ⟨L, h1, h3, h2⟩ := h
  exact ⟨by rw [List.length_map, Nat.mul_one], .inr ⟨g, cap, L.toArray, rfl, hb, h1, hl, hm, by rw [List.size_toArray, h3, Nat.mul_one], by rw [Nat.mul_one]; exact h2⟩⟩

/-! ### All but one block lies as it lay -/
structure Only (g : Nat) (w w' : World) : Prop where
  below : Below g w w'
  other : ∀ b, b ≠ g → b < w.heap.size → w'.heap[b]? = w.heap[b]?
theorem Only.refl (g : Nat) (w : World) : Only g w w := ⟨Below.refl _ _, fun _ _ _ => rfl⟩
theorem Only.trans {g : Nat} {a b c : World} (h : Only g a b) (k : Only g b c) : Only g a c :=
  ⟨h.below.trans k.below, fun x hx hl => (k.other x hx (Nat.lt_of_lt_of_le hl h.below.size)).trans (h.other x hx hl)⟩
theorem Only.drew {g : Nat} {a w : World} (h : Only g a w) : Only g a w.drew := ⟨h.below.drew, h.other⟩
theorem Only.setCell {g : Nat} {a w : World} (h : Only g a w) (i : Nat) (v : Value) : Only g a (w.setCell ⟨g, i, none⟩ v) :=
  ⟨h.below.setCell (p := ⟨g, i, none⟩) (Nat.le_refl _) v, fun b hb hl => (Below.heap_setCell w ⟨g, i, none⟩ v b hb).trans (h.other b hb hl)⟩
theorem Only.later {g : Nat} {w w' : World} (h : Below w.heap.size w w') (hg : g ≤ w.heap.size) : Only g w w' := ⟨h.mono hg, fun b _ hl => h.block b hl⟩
theorem Only.fresh {g : Nat} {w w' : World} (h : Only g w w') (hg : w.heap.size ≤ g) : Below w.heap.size w w' := h.below.mono hg
theorem Rd.only {α : Type} {f : α → Value} {g : Nat} {w w' : World} {A : Option Addr} {l : List α} (h : Rd f w A l) (k : Only g w w') (hA : l ≠ [] → ∀ a, A = some a → a.block ≠ g) : Rd f w' A l := fun hn => by
  obtain ⟨b, o, rfl, hc⟩ := h hn
  refine ⟨b, o, rfl, fun i hi => ?_⟩
  have h1 := hc i hi
  exact (World.cell?_of_block (w := w) (a := ⟨b, o + i, none⟩) (k.other b (hA hn _ rfl) (World.block_lt_of_cell? w _ h1))).trans h1
theorem Rd.off {α : Type} {f : α → Value} {w : World} {A : Option Addr} {l : List α} (h : Rd f w A l) : l ≠ [] → ∀ a, A = some a → a.block < w.heap.size := fun hn a ha => by
  obtain ⟨b, o, e1, hcell⟩ := h hn
  rw [ha] at e1
  injection e1 with e1
  subst e1
  exact World.block_lt_of_cell? w _ (hcell 0 (List.length_pos_iff.2 hn))
theorem Rd.apart {α : Type} {f : α → Value} {w : World} {A : Option Addr} {l : List α} (h : Rd f w A l) {g : Nat} (hg : w.heap.size ≤ g) : l ≠ [] → ∀ a, A = some a → a.block ≠ g := fun hn a ha => by
  have := h.off hn a ha
  omega
theorem Cel.only {g q : Nat} {w w' : World} {e : TypeId} {l : List UInt8} (h : Cel w q e l) (k : Only g w w') (hq : q ≠ g) : Cel w' q e l := by
  have hlt := h.lt
  obtain ⟨L, h1, h2⟩ := h
  exact ⟨L, (k.other q hq hlt).trans h1, h2⟩
theorem Boxed.only {g q : Nat} {w w' : World} {t : TypeId} {v : Value} (h : Boxed w q t v) (k : Only g w w') (hq : q ≠ g) : Boxed w' q t v := (k.other q hq h.lt).trans h
theorem Only.keeps {g : Nat} {w w' : World} {e : TypeId} {l : List UInt8} (h : Only g w w') (hc : Cel w g e l) (B : Nat) : KeepsFrom B w w' := by
  obtain ⟨L, h1, _⟩ := hc
  refine ⟨h.below.size, fun k o _ hk ho => ?_⟩
  by_cases e : k = g
  · subst e
    have h1' : w.heap[k]? = some (.cells L.toArray _ (0, 0)) := h1
    rw [h1'] at hk
    injection hk with hk
    subst hk
    cases ho
  · exact (h.other k e (Array.getElem?_eq_some_iff.1 hk).1).trans hk
/-- A slice of bytes that lies in a block of the call's own from its first cell on. -/
theorem cel_new {w : World} {e : TypeId} {n : Nat} : Cel (w.alloc (.cells (List.replicate n (Value.int .u8 0)).toArray e)) w.heap.size e (List.replicate n 0) :=
  ⟨_, Row.new w e _ _ rfl, by rw [List.length_replicate, List.take_of_length_le (by rw [List.length_replicate]; exact Nat.le_refl _), List.map_replicate]; rfl⟩
theorem Cel.rd_from {w : World} {g : Nat} {e : TypeId} {l : List UInt8} (h : Cel w g e l) (o n : Nat) (hn : o + n ≤ l.length) : Rd vB w (some ⟨g, o, none⟩) ((l.drop o).take n) := fun _ => ⟨g, o, rfl, fun i hi => by
  rw [List.length_take, List.length_drop] at hi
  have hj : o + i < l.length := by omega
  rw [h.get (o + i) hj, co_lt l (o + i) hj, List.getElem_take, List.getElem_drop]
  rfl⟩

theorem cel_some {w : World} {e : TypeId} {l : List UInt8} {base cap n g : Nat} (h : w.ownsRow base e 1 (.slice (some ⟨g, 0, none⟩) n cap) n (l.map vB)) (hl : l.length = n) : Cel w g e l ∧ base ≤ g ∧ n ≤ cap := by
  rcases h.2 with ⟨e0, _⟩ | ⟨g', cap', cur, hv, hg, hgg, hc, hm, hs, ht⟩
  · cases e0
  · have hR : Row w g' e cur.toList := hgg
    injection hv with e1 e2 e3
    injection e1 with e1
    injection e1 with e1
    subst e1
    rw [Nat.mul_one] at ht
    exact ⟨⟨cur.toList, hR, by rw [hl]; exact ht⟩, hg, by omega⟩
theorem zeros_map (n : Nat) : (List.replicate n (Value.int .u8 0)) = (List.replicate n (0 : UInt8)).map vB := by
  rw [List.map_replicate]
  rfl
/-- The cells that a copy leaves. -/
theorem cel_splice {l : List UInt8} {L : List Value} (hL : L.take l.length = l.map vB) (off : Nat) (S : List UInt8) (h : off + S.length ≤ l.length) :
    (L.take off ++ S.map vB ++ L.drop (off + S.length)).take (l.take off ++ S ++ l.drop (off + S.length)).length = (l.take off ++ S ++ l.drop (off + S.length)).map vB := by
  have hlen : l.length ≤ L.length := by
    have := congrArg List.length hL
    rw [List.length_take, List.length_map] at this
    omega
  have h1 : L.take off = (l.take off).map vB := by
    rw [List.map_take, ← hL, List.take_take, Nat.min_eq_left (by omega)]
  have h2 : (L.drop (off + S.length)).take (l.length - (off + S.length)) = (l.drop (off + S.length)).map vB := by
    rw [List.map_drop, ← hL, List.drop_take]
  have h3 : (L.take off ++ S.map vB).length = off + S.length := by rw [List.length_append, List.length_take, List.length_map]; omega
  have h4 : (l.take off ++ S ++ l.drop (off + S.length)).length = l.length := by
    rw [List.length_append, List.length_append, List.length_take, List.length_drop]
    omega
  rw [h4, List.take_append, h3, List.take_of_length_le (by omega), h2, h1, List.map_append, List.map_append]
theorem Only.setRow {g : Nat} {a w : World} (h : Only g a w) (cs : Array Value) : Only g a (w.setRow g cs) :=
  ⟨below_setRow h.below (Nat.le_refl _) cs, fun b hb hl => (Go.setRow_other w g b cs hb).trans (h.other b hb hl)⟩
/-- 'copy(d, s)' into a block whose first cells are bytes. -/
theorem wpList_copy_cel {P : Program} {ops : Array Oper} {rest : List Oper} {o : Oper} {a : Act} {w : World} {Q : Exit → Act → World → Prop} (hgd : o.guard = none) (d s : Operand) (dT sT : TypeId)
    (ho : o.op = .call { callee := .builtin .copy, args := #[d, s], argTypes := #[dT, sT] }) (elem : TypeId) (hu : P.underlying dT = some (.slice elem)) (hsz : (P.info? elem).map (·.size) = some 1)
    (g off dLen dCap : Nat) (A : Option Addr) (S : List UInt8) (sCap : Nat) (hd : a.eval d = .slice (some ⟨g, off, none⟩) dLen dCap) (hs : a.eval s = .slice A S.length sCap)
    (l : List UInt8) (t : TypeId) (hg : Cel w g t l) (hr : Rd vB w A S) (hle : S.length ≤ dLen) (hfit : off + S.length ≤ l.length)
    (h : ∀ w', Cel w' g t (l.take off ++ S ++ l.drop (off + S.length)) → Only g w w' → wpList P ops Q rest (a.put o.dst (.int .i64 (S.length : Int))) w') : wpList P ops Q (o :: rest) a w := by
  obtain ⟨L, h1, h2⟩ := hg
  have hlen : l.length ≤ L.length := by
    have := congrArg List.length h2
    rw [List.length_take, List.length_map] at this
    omega
  refine wpList_copy_row hgd d s dT sT ho elem hu hsz g off dLen dCap A S sCap hd hs L t h1 hr (fun _ => rfl) hle (by omega) ?_
  exact h _ ⟨_, h1.setRow _, cel_splice h2 off S hfit⟩ ((Only.refl g w).setRow _)
end Go.Proofs.Ytobeaoooaagdkaa
