/-
  The law ShaGoesOn, at whatever comes in. Condition: the package's table holds the sixty-four constants, as the row lists it.
-/
import Derived.Test.YtdadnmnhaeohaaaDoorShaGoes
import Derived.Test.YtdadnmnhaeohaaaDoorShaOpen
import Derived.Test.YtdadnmnhaeohaaaDoorLaid
namespace Go.Proofs.YtdadnmnhaeohaaaDoor
open Go.RowKit Go.WideShapes
set_option linter.unusedSimpArgs false
set_option linter.unusedVariables false

set_option maxRecDepth 100000 in
theorem shagoes_big (ps : List Part) (A0 : Option Addr) (c0 : Nat) (w : World) (hl : ¬ ps.length ≤ 20) (hm : ps.length ≤ 9223372036854775807) (HK : Hid (KTab w)) :
    Calls Tryd.prog 4 #[.slice A0 ps.length c0] w (Yes w) := by
  have hgt : (20 : Int) < (ps.length : Int) := by omega
  go_enter Tryd.func4, Tryd.ntmps4
  go_wp2_with fail
  refine (awake_any _ HK).mono ?_
  rintro e w1 ⟨rfl, hb1⟩
  go_wp2_with fail
  go_ret
  exact ⟨rfl, hb1⟩

theorem parts_of_r {w : World} {cs : List Value} {ls : List (List UInt8)} (h : RSlice 1 (RSlice 1 RByte) w cs ls) : ∃ (ps : List Part) (A : Option Addr) (cap : Nat), cs = [.slice A ps.length cap] ∧ ps.length ≤ cap ∧ cap ≤ 9223372036854775807 ∧ Rd vPart w A ps ∧ (∀ p ∈ ps, Rd vB w p.A p.l) ∧ ∀ p ∈ ps, p.l.length ≤ 9223372036854775807 := by
  obtain ⟨A, cap, e, h1, h2, h3⟩ := h
  by_cases hn : ls = []
  · subst hn
    exact ⟨[], A, cap, e, h1, h2, Rd.nil, by simp, by simp⟩
  · obtain ⟨b, o, rfl, hc⟩ := h3 hn
    obtain ⟨ps, hl, hp⟩ := choose_list ls.length (fun i p => w.cell? ⟨b, o + i, none⟩ = some (vPart p) ∧ Rd vB w p.A p.l ∧ p.l.length ≤ 9223372036854775807) (fun i hi => by
      obtain ⟨ecs, h4, h5, h6⟩ := hc i hi
      obtain ⟨A1, c1, e1, h7, h8, h9⟩ := bytes_of_r h6
      subst e1
      have := h5 0 (by simp)
      exact ⟨⟨A1, c1, ls[i]⟩, by simpa [vPart] using this, h9, by show ls[i].length ≤ _; omega⟩)
    refine ⟨ps, some ⟨b, o, none⟩, cap, by rw [hl]; exact e, by omega, h2, fun _ => ⟨b, o, rfl, fun i hi => (hp i hi).1⟩, fun p hpm => ?_, fun p hpm => ?_⟩
    · obtain ⟨i, hi, rfl⟩ := List.getElem_of_mem hpm
      exact (hp i hi).2.1
    · obtain ⟨i, hi, rfl⟩ := List.getElem_of_mem hpm
      exact (hp i hi).2.2

theorem open_lists {H : Type} {enc : TypeId × Value → H} {W : World} {base b1 : Nat} {spare : Nat → Bool} {held : Bool} {r : Reach} {v : Value} {d : DataW H} {p : List MemPlace} (hv : Value.okWide Tryd.prog W r base 45 v) (ht : DataW.Trod enc Tryd.prog W b1 spare held 45 v d p) :
    ∃ (ps : List Part) (A : Option Addr) (cap : Nat), v = .slice A ps.length cap ∧ ps.length ≤ cap ∧ cap ≤ 9223372036854775807 ∧ Rd vPart W A ps ∧ (∀ p ∈ ps, Rd vB W p.A p.l) ∧ ∀ p ∈ ps, p.l.length ≤ 9223372036854775807 := by
  obtain ⟨a, len, cap, rfl⟩ := okWide_slice Tryd.underlying45 hv
  obtain ⟨fuel, hf⟩ := ht
  obtain ⟨l, hl⟩ := opens_lists enc W _ _ _ _ _ _ hf
  obtain ⟨ps, A, c, e, h⟩ := parts_of_r hl
  simp [Value.cells] at e
  obtain ⟨rfl, rfl, rfl⟩ := e
  exact ⟨ps, _, _, rfl, h⟩

theorem shagoes_any (v0 : Value) (W : World) {H : Type} {enc : TypeId × Value → H} {base : Nat} {d0 : DataW H} {p0 : List MemPlace} (hv0 : Value.okWide Tryd.prog W .any base 45 v0) (ht0 : DataW.Trod enc Tryd.prog W 0 (fun _ => true) true 45 v0 d0 p0) (hk : KTab W) :
    Calls Tryd.prog 4 #[v0] W fun e w' => e = .returned (.bool true) ∧ Below W.heap.size W w' := by
  obtain ⟨ps, A, cap, rfl, hc, hm, hr, hp, hpl⟩ := open_lists hv0 ht0
  by_cases hl : ps.length ≤ 20
  · exact shagoes_core ps A cap W hr hp hpl hl (Lib.hid hk)
  · exact shagoes_big ps A cap W hl (by omega) (Lib.hid hk)
end Go.Proofs.YtdadnmnhaeohaaaDoor
