/-
  A parameter that is a list of slices of bytes, opened. No conditions.
-/
import Derived.Test.YtppdfldmbfddnaaOpenB
import Derived.Test.YtppdfldmbfddnaaSlices
namespace Go.Proofs.Ytppdfldmbfddnaa
open Go.RowKit Go.WideShapes
set_option linter.unusedSimpArgs false
set_option linter.unusedVariables false

theorem opens_lists : Opens Try.prog 38 (RSlice 1 (RSlice 1 RByte)) := opens_slice Try.underlying38 (by kernel_rfl) (by omega) opens_bytes
theorem parts_of_r {w : World} {cs : List Value} {ls : List (List UInt8)} (h : RSlice 1 (RSlice 1 RByte) w cs ls) : ∃ (ps : List Part) (A : Option Addr) (cap : Nat), cs = [.slice A ps.length cap] ∧ ps.length ≤ cap ∧ cap ≤ 9223372036854775807 ∧ Rd vPart w A ps ∧ (∀ p ∈ ps, Rd vB w p.A p.l) ∧ ∀ p ∈ ps, p.l.length ≤ 9223372036854775807 := by
  obtain ⟨A, cap, e, h1, h2, h3⟩ := h
  by_cases hn : ls = []
  · subst hn
    exact ⟨[], A, cap, e, h1, h2, Rd.nil, by simp, by simp⟩
  · obtain ⟨b, o, rfl, hc⟩ := h3 hn
    obtain ⟨ps, hl, hp⟩ := choose_list ls.length (fun i p => w.cell? ⟨b, o + i, none⟩ = some (vPart p) ∧ Rd vB w p.A p.l ∧ p.l.length ≤ 9223372036854775807) (fun i hi => by
      obtain ⟨ecs, h4, h5, h6⟩ := hc i hi
      obtain ⟨A1, c1, e1, h7, h8, h9⟩ := bytes_of_r h6
      subst e1
      have := h5 0 (by simp)
      exact ⟨⟨A1, c1, ls[i]⟩, by simpa [vPart] using this, h9, by show ls[i].length ≤ _; omega⟩)
    refine ⟨ps, some ⟨b, o, none⟩, cap, by rw [hl]; exact e, by omega, h2, fun _ => ⟨b, o, rfl, fun i hi => (hp i hi).1⟩, fun p hpm => ?_, fun p hpm => ?_⟩
    · obtain ⟨i, hi, rfl⟩ := List.getElem_of_mem hpm
      exact (hp i hi).2.1
    · obtain ⟨i, hi, rfl⟩ := List.getElem_of_mem hpm
      exact (hp i hi).2.2

theorem open_lists {H : Type} {enc : TypeId × Value → H} {W : World} {base b1 : Nat} {spare : Nat → Bool} {held : Bool} {r : Reach} {v : Value} {d : DataW H} {p : List MemPlace} (hv : Value.okWide Try.prog W r base 38 v) (ht : DataW.Trod enc Try.prog W b1 spare held 38 v d p) :
    ∃ (ps : List Part) (A : Option Addr) (cap : Nat), v = .slice A ps.length cap ∧ ps.length ≤ cap ∧ cap ≤ 9223372036854775807 ∧ Rd vPart W A ps ∧ (∀ p ∈ ps, Rd vB W p.A p.l) ∧ ∀ p ∈ ps, p.l.length ≤ 9223372036854775807 := by
  obtain ⟨a, len, cap, rfl⟩ := okWide_slice Try.underlying38 hv
  obtain ⟨fuel, hf⟩ := ht
  obtain ⟨l, hl⟩ := opens_lists enc W _ _ _ _ _ _ hf
  obtain ⟨ps, A, c, e, h⟩ := parts_of_r hl
  simp [Value.cells] at e
  obtain ⟨rfl, rfl, rfl⟩ := e
  exact ⟨ps, _, _, rfl, h⟩

end Go.Proofs.Ytppdfldmbfddnaa
