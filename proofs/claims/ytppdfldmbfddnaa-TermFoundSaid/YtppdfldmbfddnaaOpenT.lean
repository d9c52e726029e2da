/-
  A parameter that is a list of terms, opened. No conditions.
-/
import Derived.Test.YtppdfldmbfddnaaTermMem
import Derived.Test.YtppdfldmbfddnaaOpenB
namespace Go.Proofs.Ytppdfldmbfddnaa
open Go.RowKit Go.WideShapes
set_option linter.unusedSimpArgs false
set_option linter.unusedVariables false

/-- What comes in: terms in memory, whose bytes are there, no longer than may be. -/
def inT (w : World) (A : Option Addr) (ts : List TD) : Prop := RdT w A ts ∧ okT w ts ∧ ∀ x ∈ ts, x.k.length ≤ 9223372036854775807 ∧ x.m.length ≤ 9223372036854775807
theorem inT.keep {w w' : World} {A : Option Addr} {ts : List TD} (h : inT w A ts) (hb : Below w.heap.size w w') : inT w' A ts := ⟨h.1.keep hb, h.2.1.keep hb, h.2.2⟩

theorem opens_term : Opens Try.prog 29 (RTwo 0 1 1 1 (RSlice 1 RByte) (RSlice 1 RByte)) := opens_two Try.underlying29 rfl rfl (by kernel_rfl) (by kernel_rfl) (by kernel_rfl) opens_bytes opens_bytes
theorem opens_terms : Opens Try.prog 22 (RSlice 2 (RTwo 0 1 1 1 (RSlice 1 RByte) (RSlice 1 RByte))) := opens_slice Try.underlying22 (by kernel_rfl) (by omega) opens_term

theorem term_of_r {w : World} {cs : List Value} {x : Tm} (h : RTwo 0 1 1 1 (RSlice 1 RByte) (RSlice 1 RByte) w cs x) : ∃ t : TD, cs = [t.at0, t.at1] ∧ t.ok w ∧ t.k.length ≤ 9223372036854775807 ∧ t.m.length ≤ 9223372036854775807 := by
  obtain ⟨hl, h0, h1⟩ := h
  obtain ⟨A, c, e0, h2, h3, h4⟩ := bytes_of_r h0
  obtain ⟨B, d, e1, h5, h6, h7⟩ := bytes_of_r h1
  refine ⟨⟨A, c, x.1, B, d, x.2⟩, ?_, ⟨h2, h5, h4, h7⟩, by show x.1.length ≤ _; omega, by show x.2.length ≤ _; omega⟩
  match cs, hl with
  | [a, b], _ =>
    simp at e0 e1
    rw [e0, e1]
    rfl
theorem terms_of_r {w : World} {cs : List Value} {ls : List Tm} (h : RSlice 2 (RTwo 0 1 1 1 (RSlice 1 RByte) (RSlice 1 RByte)) w cs ls) : ∃ (ts : List TD) (A : Option Addr) (cap : Nat), cs = [.slice A ts.length cap] ∧ ts.length ≤ cap ∧ cap ≤ 9223372036854775807 ∧ inT w A ts := by
  obtain ⟨A, cap, e, h1, h2, h3⟩ := h
  by_cases hn : ls = []
  · subst hn
    exact ⟨[], A, cap, e, h1, h2, RdT.nil, (fun x hx => by cases hx), fun x hx => by cases hx⟩
  · obtain ⟨b, o, rfl, hc⟩ := h3 hn
    obtain ⟨ts, hl, hp⟩ := choose_list ls.length (fun i (t : TD) => (w.cell? ⟨b, o + i * 2, none⟩ = some t.at0 ∧ w.cell? ⟨b, o + i * 2 + 1, none⟩ = some t.at1) ∧ t.ok w ∧ t.k.length ≤ 9223372036854775807 ∧ t.m.length ≤ 9223372036854775807) (fun i hi => by
      obtain ⟨ecs, h4, h5, h6⟩ := hc i hi
      obtain ⟨t, rfl, h7, h8, h9⟩ := term_of_r h6
      exact ⟨t, ⟨h5 0 (by simp), h5 1 (by simp)⟩, h7, h8, h9⟩)
    refine ⟨ts, some ⟨b, o, none⟩, cap, by rw [hl]; exact e, by omega, h2, fun _ => ⟨b, o, rfl, fun i hi => (hp i hi).1⟩, fun x hx => ?_, fun x hx => ?_⟩
    · obtain ⟨i, hi, rfl⟩ := List.getElem_of_mem hx
      exact (hp i hi).2.1
    · obtain ⟨i, hi, rfl⟩ := List.getElem_of_mem hx
      exact (hp i hi).2.2

section
variable {H : Type} {enc : TypeId × Value → H} {W : World} {base b1 : Nat} {spare : Nat → Bool} {held : Bool} {r : Reach} {v : Value} {d : DataW H} {p : List MemPlace}
theorem open_terms (hv : Value.okWide Try.prog W r base 22 v) (ht : DataW.Trod enc Try.prog W b1 spare held 22 v d p) : ∃ (ts : List TD) (A : Option Addr) (cap : Nat), v = .slice A ts.length cap ∧ ts.length ≤ cap ∧ cap ≤ 9223372036854775807 ∧ inT W A ts := by
  obtain ⟨a, len, cap, rfl⟩ := okWide_slice Try.underlying22 hv
  obtain ⟨fuel, hf⟩ := ht
  obtain ⟨l, hl⟩ := opens_terms enc W _ _ _ _ _ _ hf
  obtain ⟨ts, A, c, e, h1, h2, h3⟩ := terms_of_r hl
  simp [Value.cells] at e
  obtain ⟨rfl, rfl, rfl⟩ := e
  exact ⟨ts, _, _, rfl, h1, h2, h3⟩
end

end Go.Proofs.Ytppdfldmbfddnaa
