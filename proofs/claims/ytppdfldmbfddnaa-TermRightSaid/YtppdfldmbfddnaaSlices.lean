/-
  What slices.Clone, slices.Grow (of nil) and slices.Concat answer at lists of bytes: new memory that reads as the bytes did. Conditions: bounds on lengths, as typed.
-/
import Derived.Test.YtppdfldmbfddnaaRow
import Derived.Test.YtppdfldmbfddnaaWordWords
import Derived.Lib.AppendZeros
namespace Go.Proofs.Ytppdfldmbfddnaa
open Go.RowKit
set_option linter.unusedSimpArgs false

/-- What a call that hands back a slice in new memory says of it. -/
def RetN {α : Type} (f : α → Value) (w : World) (l : List α) (e : Ending) (w' : World) : Prop :=
  ∃ A cap, e = .returned (.slice A l.length cap) ∧ l.length ≤ cap ∧ Rd f w' A l ∧ (∀ a, A = some a → w.heap.size ≤ a.block) ∧ Below w.heap.size w w'
theorem RetN.own {α : Type} {f : α → Value} {w w' : World} {l : List α} {e : TypeId} {v : Value} (h : w'.ownsRow w.heap.size e 1 v l.length (l.map f)) (hb : Below w.heap.size w w') : RetN f w l (.returned v) w' := by
  rcases h.2 with ⟨rfl, h0⟩ | ⟨g, cap, cur, rfl, hg, _, hc, _⟩
  · have hl : l = [] := List.eq_nil_of_length_eq_zero h0
    subst hl
    exact ⟨none, 0, rfl, Nat.le_refl _, Rd.nil, (fun a h => by cases h), hb⟩
  · exact ⟨_, cap, rfl, hc, Rd.own h, (fun a ha => by injection ha with ha; subst ha; exact hg), hb⟩
theorem RetN.ret {α : Type} {f : α → Value} {w w' : World} {l : List α} {e : Ending} (h : RetN f w l e w') : RetS f w l e w' := by
  obtain ⟨A, cap, h1, h2, h3, _, h5⟩ := h
  exact ⟨A, cap, h1, h2, h3, h5⟩



/-- A part of what is put together: its memory, its room, its bytes. -/
structure Part where
  A : Option Addr
  cap : Nat
  l : List UInt8
def vPart (p : Part) : Value := .slice p.A p.l.length p.cap
def flatL (ps : List Part) : List UInt8 := ps.flatMap (·.l)
theorem flatL_take (ps : List Part) (k : Nat) (h : k < ps.length) : flatL (ps.take (k + 1)) = flatL (ps.take k) ++ ps[k].l := by
  unfold flatL
  rw [List.take_succ_eq_append_getElem h, List.flatMap_append]
  simp
theorem flatL_le (ps : List Part) (k : Nat) : (flatL (ps.take k)).length ≤ (flatL ps).length := by
  conv => rhs; rw [← List.take_append_drop k ps]
  unfold flatL
  rw [List.flatMap_append, List.length_append]
  omega



end Go.Proofs.Ytppdfldmbfddnaa
