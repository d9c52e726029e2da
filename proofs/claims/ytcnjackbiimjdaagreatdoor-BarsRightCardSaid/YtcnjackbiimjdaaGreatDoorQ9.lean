/-
  What comes in, opened by its type's shape (no program is named here): numbers, slices of whatever, arrays, structs. No conditions but those typed.
-/
import Derived.Test.YtcnjackbiimjdaaGreatDoorQ8
import Derived.ProofKit
import Derived.OpenShut
import Derived.Deep.Slices
import Derived.Deep.Strs
import Derived.Test.YtcnjackbiimjdaaGreatDoorRows
import Derived.LaidLaws
import Derived.LaidHandle
namespace Go.Proofs.YtcnjackbiimjdaaGreatDoor
set_option maxRecDepth 100000
open Go.RowKit Go.Deep Go.WideShapes Go.ChangeShapes

/-- Cells of type t that can be read as data are a reading R of something. -/
def Opens (P : Program) (t : TypeId) {α : Type} (R : World → List Value → α → Prop) : Prop :=
  ∀ {H : Type} (enc : TypeId × Value → H) (w : World) (base : Nat) (spare : Nat → Bool) (held : Bool) (fuel : Nat) (cs : List Value) (x : DataW H × List MemPlace), DataW.trod enc P w base spare held fuel t cs = some x → ∃ a : α, R w cs a

def RByte : World → List Value → UInt8 → Prop := fun _ cs c => cs = [vB c]
def RWord : World → List Value → UInt32 → Prop := fun _ cs c => cs = [vW c]
def RNum : World → List Value → Nat → Prop := fun _ cs v => cs = [.int .u64 (v : Int)] ∧ v < 18446744073709551616
def RInt : World → List Value → Int → Prop := fun _ cs n => cs = [.int .i64 n] ∧ -9223372036854775808 ≤ n ∧ n ≤ 9223372036854775807
def RBool : World → List Value → Bool → Prop := fun _ cs b => cs = [.bool b]

section
variable {P : Program} {t e : TypeId}
theorem opens_byte (ht : P.underlying t = some (.int .u8)) : Opens P t RByte := fun enc w base spare held fuel cs x h => by
  obtain ⟨n, rfl, _, hw⟩ := DataW.trod_int ht h
  simp [Lit.wf, IntKind.min, IntKind.max, IntKind.signed, IntKind.bits] at hw
  refine ⟨UInt8.ofNat n.toNat, ?_⟩
  unfold RByte vB
  rw [UInt8.toNat_ofNat']
  congr 2
  omega
theorem opens_word (ht : P.underlying t = some (.int .u32)) : Opens P t RWord := fun enc w base spare held fuel cs x h => by
  obtain ⟨n, rfl, _, hw⟩ := DataW.trod_int ht h
  simp [Lit.wf, IntKind.min, IntKind.max, IntKind.signed, IntKind.bits] at hw
  refine ⟨UInt32.ofNat n.toNat, ?_⟩
  unfold RWord vW
  rw [UInt32.toNat_ofNat']
  congr 2
  omega
theorem opens_num (ht : P.underlying t = some (.int .u64)) : Opens P t RNum := fun enc w base spare held fuel cs x h => by
  obtain ⟨n, rfl, _, hw⟩ := DataW.trod_int ht h
  obtain ⟨v, hv, rfl⟩ := u64_of_wf hw
  exact ⟨v, rfl, hv⟩
theorem opens_int (ht : P.underlying t = some (.int .i64)) : Opens P t RInt := fun enc w base spare held fuel cs x h => by
  obtain ⟨n, rfl, _, hw⟩ := DataW.trod_int ht h
  exact ⟨n, rfl, i64_of_wf hw⟩

/-- A slice: its elements, of m cells each, lie one behind the other. -/
def RSlice (m : Nat) {α : Type} (R : World → List Value → α → Prop) : World → List Value → List α → Prop := fun w cs l =>
  ∃ (A : Option Addr) (cap : Nat), cs = [.slice A l.length cap] ∧ l.length ≤ cap ∧ cap ≤ 9223372036854775807 ∧
    (l ≠ [] → ∃ b o, A = some ⟨b, o, none⟩ ∧ ∀ i (h : i < l.length), ∃ ecs : List Value, ecs.length = m ∧ (∀ j (hj : j < ecs.length), w.cell? ⟨b, o + i * m + j, none⟩ = some ecs[j]) ∧ R w ecs l[i])

theorem cells_at {w : World} {base : Nat} {a : Addr} {n : Nat} {cs : List Value} (h : w.cells? base a n = some cs) : cs.length = n ∧ ∀ j (hj : j < cs.length), w.cell? (a.add j) = some cs[j] := by
  obtain ⟨_, hl, hc⟩ := World.cells?_some h
  refine ⟨hl, fun j hj => ?_⟩
  have := hc j (by omega)
  rw [this]
  exact List.getElem?_eq_getElem hj

theorem choose_list {α : Type} (n : Nat) (p : Nat → α → Prop) (h : ∀ i, i < n → ∃ a, p i a) : ∃ l : List α, l.length = n ∧ ∀ i (hi : i < l.length), p i l[i] := by
  induction n with
  | zero => exact ⟨[], rfl, fun i hi => by simp at hi⟩
  | succ n ih =>
    obtain ⟨l, hl, hp⟩ := ih (fun i hi => h i (by omega))
    obtain ⟨a, ha⟩ := h n (by omega)
    refine ⟨l ++ [a], by simp [hl], fun i hi => ?_⟩
    by_cases hin : i < l.length
    · rw [List.getElem_append_left hin]; exact hp i hin
    · have : i = n := by simp at hi; omega
      subst this
      rw [List.getElem_append_right (by omega)]
      simpa [hl] using ha

theorem opens_slice {α : Type} {R : World → List Value → α → Prop} {m : Nat} (ht : P.underlying t = some (.slice e)) (hc : P.cellsOf e = m) (hm : 0 < m) (he : Opens P e R) : Opens P t (RSlice m R) := fun enc w base spare held fuel cs x h => by
  rcases open_slice ht h with ⟨rfl, _⟩ | ⟨a, len, cap, mm, n, D, Pl, rfl, hb, hl, hcap, hmm, rfl, hx⟩
  · exact ⟨[], none, 0, rfl, Nat.le_refl _, by omega, fun h => absurd rfl h⟩
  · have hlm : len ≤ mm := by rw [hmm]; split <;> omega
    unfold maxLen at hcap
    obtain ⟨l, hll, hp⟩ := choose_list len (fun i (y : α) => ∃ ecs : List Value, ecs.length = m ∧ (∀ j (hj : j < ecs.length), w.cell? ((a.add (i * m)).add j) = some ecs[j]) ∧ R w ecs y) (fun i hi => by
      obtain ⟨ecs, h1, h2⟩ := hx i (by omega)
      rw [hc] at h1
      obtain ⟨h3, h4⟩ := cells_at h1
      obtain ⟨y, hy⟩ := he enc w base spare held n ecs _ h2
      exact ⟨y, ecs, h3, h4, hy⟩)
    refine ⟨l, some a, cap, by rw [hll], by omega, by omega, fun hn => ?_⟩
    have h0 : 0 < l.length := by
      rcases Nat.eq_zero_or_pos l.length with h | h
      · exact absurd (List.eq_nil_of_length_eq_zero h) hn
      · exact h
    obtain ⟨b, o, spot⟩ := a
    obtain ⟨ecs, h3, h4, _⟩ := hp 0 h0
    have hc0 := h4 0 (by omega)
    have hspot : spot = none := by simpa [Addr.add] using World.cell?_spot hc0
    subst hspot
    have hadd : ∀ i j, ((⟨b, o, none⟩ : Addr).add i).add j = ⟨b, o + i + j, none⟩ := fun i j => by unfold Addr.add; split <;> split <;> simp_all
    refine ⟨b, o, rfl, fun i hi => ?_⟩
    obtain ⟨ecs, h3, h4, h5⟩ := hp i hi
    exact ⟨ecs, h3, fun j hj => by rw [← hadd]; exact h4 j hj, h5⟩

/-- An array: its elements' cells one behind the other (elements of one cell). -/
def RArr (n : Nat) {α : Type} (R : World → List Value → α → Prop) : World → List Value → List α → Prop := fun w cs l => l.length = n ∧ cs.length = n ∧ ∀ i (h : i < l.length), R w ((cs.drop i).take 1) l[i]
theorem opens_arr {α : Type} {R : World → List Value → α → Prop} {n : Nat} (ht : P.underlying t = some (.array n e)) (hc : P.cellsOf e = 1) (hn : P.cellsOf t = n) (he : Opens P e R) : Opens P t (RArr n R) := fun enc w base spare held fuel cs x h => by
  obtain ⟨xs, m, _, _, hl, hxl, hx⟩ := DataW.trod_array ht h
  obtain ⟨l, hll, hp⟩ := choose_list n (fun i (y : α) => R w ((cs.drop i).take 1) y) (fun i hi => by
    have := hx i hi
    rw [hc, Nat.mul_one, List.getElem?_eq_getElem (by omega)] at this
    exact he enc w base spare held m _ _ this)
  exact ⟨l, hll, by omega, hp⟩

/-- Structs of two to four fields: each field's cells. -/
def RTwo (a0 n0 a1 n1 : Nat) {α β : Type} (R : World → List Value → α → Prop) (S : World → List Value → β → Prop) : World → List Value → α × β → Prop := fun w cs x => cs.length = n0 + n1 ∧ R w ((cs.drop a0).take n0) x.1 ∧ S w ((cs.drop a1).take n1) x.2
def RThree (a0 n0 a1 n1 a2 n2 : Nat) {α β γ : Type} (R : World → List Value → α → Prop) (S : World → List Value → β → Prop) (T : World → List Value → γ → Prop) : World → List Value → α × β × γ → Prop := fun w cs x => cs.length = n0 + n1 + n2 ∧ R w ((cs.drop a0).take n0) x.1 ∧ S w ((cs.drop a1).take n1) x.2.1 ∧ T w ((cs.drop a2).take n2) x.2.2
theorem opens_two {α β : Type} {R : World → List Value → α → Prop} {S : World → List Value → β → Prop} {f0 f1 : Field} {a0 n0 a1 n1 : Nat} (ht : P.underlying t = some (.struct #[f0, f1])) (e0 : f0.offset = a0) (e1 : f1.offset = a1) (c0 : P.cellsOf f0.type = n0) (c1 : P.cellsOf f1.type = n1) (hn : P.cellsOf t = n0 + n1)
    (h0 : Opens P f0.type R) (h1 : Opens P f1.type S) : Opens P t (RTwo a0 n0 a1 n1 R S) := fun enc w base spare held fuel cs x h => by
  obtain ⟨xs, n, _, _, hl, hxl, hx⟩ := DataW.trod_struct ht h
  have k0 := hx 0 f0 rfl
  have k1 := hx 1 f1 rfl
  simp only [List.size_toArray, List.length_cons, List.length_nil, Nat.zero_add, Nat.reduceAdd] at hxl
  rw [List.getElem?_eq_getElem (by omega), e0, c0] at k0
  rw [List.getElem?_eq_getElem (by omega), e1, c1] at k1
  obtain ⟨x0, r0⟩ := h0 enc w base spare held n _ _ k0
  obtain ⟨x1, r1⟩ := h1 enc w base spare held n _ _ k1
  exact ⟨(x0, x1), by omega, r0, r1⟩
theorem opens_three {α β γ : Type} {R : World → List Value → α → Prop} {S : World → List Value → β → Prop} {T : World → List Value → γ → Prop} {f0 f1 f2 : Field} {a0 n0 a1 n1 a2 n2 : Nat} (ht : P.underlying t = some (.struct #[f0, f1, f2])) (e0 : f0.offset = a0) (e1 : f1.offset = a1) (e2 : f2.offset = a2)
    (c0 : P.cellsOf f0.type = n0) (c1 : P.cellsOf f1.type = n1) (c2 : P.cellsOf f2.type = n2) (hn : P.cellsOf t = n0 + n1 + n2) (h0 : Opens P f0.type R) (h1 : Opens P f1.type S) (h2 : Opens P f2.type T) : Opens P t (RThree a0 n0 a1 n1 a2 n2 R S T) := fun enc w base spare held fuel cs x h => by
  obtain ⟨xs, n, _, _, hl, hxl, hx⟩ := DataW.trod_struct ht h
  have k0 := hx 0 f0 rfl
  have k1 := hx 1 f1 rfl
  have k2 := hx 2 f2 rfl
  simp only [List.size_toArray, List.length_cons, List.length_nil, Nat.zero_add, Nat.reduceAdd] at hxl
  rw [List.getElem?_eq_getElem (by omega), e0, c0] at k0
  rw [List.getElem?_eq_getElem (by omega), e1, c1] at k1
  rw [List.getElem?_eq_getElem (by omega), e2, c2] at k2
  obtain ⟨x0, r0⟩ := h0 enc w base spare held n _ _ k0
  obtain ⟨x1, r1⟩ := h1 enc w base spare held n _ _ k1
  obtain ⟨x2, r2⟩ := h2 enc w base spare held n _ _ k2
  exact ⟨(x0, x1, x2), by omega, r0, r1, r2⟩
end

/-! ### Back to the words that the walks go by -/
theorem rd_of_rslice {α : Type} {f : α → Value} {R : World → List Value → α → Prop} {w : World} {cs : List Value} {l : List α} (hR : ∀ ecs x, R w ecs x → ecs = [f x]) (h : RSlice 1 R w cs l) : ∃ A cap, cs = [.slice A l.length cap] ∧ l.length ≤ cap ∧ cap ≤ 9223372036854775807 ∧ Rd f w A l := by
  obtain ⟨A, cap, e, h1, h2, h3⟩ := h
  refine ⟨A, cap, e, h1, h2, fun hn => ?_⟩
  obtain ⟨b, o, rfl, hc⟩ := h3 hn
  refine ⟨b, o, rfl, fun i hi => ?_⟩
  obtain ⟨ecs, _, h5, h6⟩ := hc i hi
  have := hR _ _ h6
  subst this
  have := h5 0 (by simp)
  simpa using this
theorem bytes_of_r {w : World} {cs : List Value} {l : List UInt8} (h : RSlice 1 RByte w cs l) : ∃ A cap, cs = [.slice A l.length cap] ∧ l.length ≤ cap ∧ cap ≤ 9223372036854775807 ∧ Rd vB w A l := rd_of_rslice (fun _ _ h => h) h
theorem words_of_r {w : World} {cs : List Value} {l : List UInt32} (h : RSlice 1 RWord w cs l) : ∃ A cap, cs = [.slice A l.length cap] ∧ l.length ≤ cap ∧ cap ≤ 9223372036854775807 ∧ Rd vW w A l := rd_of_rslice (fun _ _ h => h) h
theorem arr_words {n : Nat} {w : World} {cs : List Value} {l : List UInt32} (h : RArr n RWord w cs l) : cs = l.map vW ∧ l.length = n := by
  obtain ⟨h1, h2, h3⟩ := h
  refine ⟨?_, h1⟩
  apply List.ext_getElem
  · simp; omega
  · intro i hi hi'
    have := h3 i (by omega)
    unfold RWord at this
    have h4 := congrArg (fun l => l[0]?) this
    simp only [List.getElem?_take, List.getElem?_drop, Nat.add_zero, List.getElem?_eq_getElem hi, Nat.zero_lt_one, if_true, List.getElem?_cons_zero, Option.some.injEq] at h4
    rw [h4]
    simp

/-! ### A value and its cells -/
theorem okWide_arr {P : Program} {w : World} {r : Reach} {base n : Nat} {t e : TypeId} {v : Value} (ht : P.underlying t = some (.array n e)) (h : Value.okWide P w r base t v) : ∃ cs, v = .agg cs ∧ cs.size = P.cellsOf t := by
  simp only [Value.okWide, ht] at h
  obtain ⟨cs, h1, h2, _⟩ := h
  exact ⟨cs, h1, h2⟩

end Go.Proofs.YtcnjackbiimjdaaGreatDoor
/-
  A parameter that is a slice of bytes, opened. No conditions.
-/
namespace Go.Proofs.YtcnjackbiimjdaaGreatDoor
set_option maxRecDepth 100000
open Go.RowKit Go.WideShapes
set_option linter.unusedSimpArgs false
set_option linter.unusedVariables false

theorem opens_bytes : Opens Tryz.prog 23 (RSlice 1 RByte) := opens_slice Tryz.underlying23 (by kernel_rfl) (by omega) (opens_byte Tryz.underlying5)
section
variable {H : Type} {enc : TypeId × Value → H} {W : World} {base b1 : Nat} {spare : Nat → Bool} {held : Bool} {r : Reach} {v : Value} {d : DataW H} {p : List MemPlace}
theorem open_bytes (hv : Value.okWide Tryz.prog W r base 23 v) (ht : DataW.Trod enc Tryz.prog W b1 spare held 23 v d p) : ∃ (l : List UInt8) (A : Option Addr) (cap : Nat), v = .slice A l.length cap ∧ l.length ≤ cap ∧ cap ≤ 9223372036854775807 ∧ Rd vB W A l := by
  obtain ⟨a, len, cap, rfl⟩ := okWide_slice Tryz.underlying23 hv
  obtain ⟨fuel, hf⟩ := ht
  obtain ⟨l, hl⟩ := opens_bytes enc W _ _ _ _ _ _ hf
  obtain ⟨A, c, e, h1, h2, h3⟩ := bytes_of_r hl
  simp [Value.cells] at e
  obtain ⟨rfl, rfl, rfl⟩ := e
  exact ⟨l, _, _, rfl, h1, h2, h3⟩
end
end Go.Proofs.YtcnjackbiimjdaaGreatDoor
/-
  A parameter that is a payload, opened. No conditions.
-/
namespace Go.Proofs.YtcnjackbiimjdaaGreatDoor
set_option maxRecDepth 100000
open Go.RowKit Go.Deep Go.WideShapes Go.ChangeShapes
set_option linter.unusedSimpArgs false
set_option linter.unusedVariables false

/-- Structs of four fields: each field's cells. -/
def RFour (a0 n0 a1 n1 a2 n2 a3 n3 : Nat) {α β γ δ : Type} (R : World → List Value → α → Prop) (S : World → List Value → β → Prop) (T : World → List Value → γ → Prop) (U : World → List Value → δ → Prop) : World → List Value → α × β × γ × δ → Prop := fun w cs x => cs.length = n0 + n1 + n2 + n3 ∧ R w ((cs.drop a0).take n0) x.1 ∧ S w ((cs.drop a1).take n1) x.2.1 ∧ T w ((cs.drop a2).take n2) x.2.2.1 ∧ U w ((cs.drop a3).take n3) x.2.2.2
theorem opens_four {P : Program} {t : TypeId} {α β γ δ : Type} {R : World → List Value → α → Prop} {S : World → List Value → β → Prop} {T : World → List Value → γ → Prop} {U : World → List Value → δ → Prop} {f0 f1 f2 f3 : Field} {a0 n0 a1 n1 a2 n2 a3 n3 : Nat} (ht : P.underlying t = some (.struct #[f0, f1, f2, f3])) (e0 : f0.offset = a0) (e1 : f1.offset = a1) (e2 : f2.offset = a2) (e3 : f3.offset = a3)
    (c0 : P.cellsOf f0.type = n0) (c1 : P.cellsOf f1.type = n1) (c2 : P.cellsOf f2.type = n2) (c3 : P.cellsOf f3.type = n3) (hn : P.cellsOf t = n0 + n1 + n2 + n3) (h0 : Opens P f0.type R) (h1 : Opens P f1.type S) (h2 : Opens P f2.type T) (h3 : Opens P f3.type U) : Opens P t (RFour a0 n0 a1 n1 a2 n2 a3 n3 R S T U) := fun enc w base spare held fuel cs x h => by
  obtain ⟨xs, n, _, _, hl, hxl, hx⟩ := DataW.trod_struct ht h
  have k0 := hx 0 f0 rfl
  have k1 := hx 1 f1 rfl
  have k2 := hx 2 f2 rfl
  have k3 := hx 3 f3 rfl
  simp only [List.size_toArray, List.length_cons, List.length_nil, Nat.zero_add, Nat.reduceAdd] at hxl
  rw [List.getElem?_eq_getElem (by omega), e0, c0] at k0
  rw [List.getElem?_eq_getElem (by omega), e1, c1] at k1
  rw [List.getElem?_eq_getElem (by omega), e2, c2] at k2
  rw [List.getElem?_eq_getElem (by omega), e3, c3] at k3
  obtain ⟨x0, r0⟩ := h0 enc w base spare held n _ _ k0
  obtain ⟨x1, r1⟩ := h1 enc w base spare held n _ _ k1
  obtain ⟨x2, r2⟩ := h2 enc w base spare held n _ _ k2
  obtain ⟨x3, r3⟩ := h3 enc w base spare held n _ _ k3
  exact ⟨(x0, x1, x2, x3), by omega, r0, r1, r2, r3⟩
theorem opens_payload : Opens Tryz.prog 25 (RFour 0 1 1 1 2 1 3 1 RNum RNum RNum (RSlice 1 RByte)) := opens_four Tryz.underlying25 rfl rfl rfl rfl (by kernel_rfl) (by kernel_rfl) (by kernel_rfl) (by kernel_rfl) (by kernel_rfl) (opens_num Tryz.underlying22) (opens_num Tryz.underlying22) (opens_num Tryz.underlying22) opens_bytes
section
variable {H : Type} {enc : TypeId × Value → H} {W : World} {base b1 : Nat} {spare : Nat → Bool} {held : Bool} {r : Reach} {v : Value} {d : DataW H} {p : List MemPlace}
theorem open_payload (hv : Value.okWide Tryz.prog W r base 25 v) (ht : DataW.Trod enc Tryz.prog W b1 spare held 25 v d p) : ∃ (t e c : Nat) (l : List UInt8) (A : Option Addr) (cap : Nat), v = aggP t e c A l.length cap ∧ t < 18446744073709551616 ∧ e < 18446744073709551616 ∧ c < 18446744073709551616 ∧ l.length ≤ cap ∧ cap ≤ 9223372036854775807 ∧ Rd vB W A l := by
  obtain ⟨cs, rfl, _⟩ := okWide_struct Tryz.underlying25 hv
  obtain ⟨fuel, hf⟩ := ht
  obtain ⟨⟨t, e, c, l⟩, hl, h0, h1, h2, h3⟩ := opens_payload enc W _ _ _ _ _ _ hf
  obtain ⟨A, k, e3, h4, h5, h6⟩ := bytes_of_r h3
  obtain ⟨e0, g0⟩ := h0
  obtain ⟨e1, g1⟩ := h1
  obtain ⟨e2, g2⟩ := h2
  refine ⟨t, e, c, l, A, k, ?_, g0, g1, g2, h4, h5, h6⟩
  unfold aggP
  congr 1
  apply Array.toList_inj.1
  simp only [Value.cells] at hl e0 e1 e2 e3
  match hcs : cs.toList, hl with
  | [x0, x1, x2, x3], _ =>
    rw [hcs] at e0 e1 e2 e3
    simp at e0 e1 e2 e3
    rw [e0, e1, e2, e3]
end
end Go.Proofs.YtcnjackbiimjdaaGreatDoor
/-
  What the rows' condition on the package-level variable errors.errorType gives the walks: its one cell, the handle of the type error. Condition: the variable reads as the rows list it.
-/
namespace Go.Proofs.YtcnjackbiimjdaaGreatDoor
set_option maxRecDepth 100000
open Go.RowKit

theorem etc_global : Tryz.prog.globalNamed "errors.errorType" = some 0 := by kernel_rfl
theorem etc_rtype : (Tryz.prog.cutTypes.find? (·.1 == "internal/reflectlite.rtype")).map (·.2) = some 113 := by kernel_rfl
theorem etc_one : ((List.range Tryz.prog.types.size).filter fun t => Tryz.prog.rowNamed t [101, 114, 114, 111, 114]) = [28] := by kernel_rfl
theorem etc_of_handles {l : List (String × DataW Unit)} {W : World} (h : handlesMet Tryz.prog l W) (hm : ("errors.errorType", Rows.laid_errors_errorType) ∈ l) : EtC W := by
  obtain ⟨name, u, ty, e1, e2, e3, e4, e5⟩ := h _ hm
  have en : name = [101, 114, 114, 111, 114] := (Option.some.inj e1).symm
  subst en
  obtain rfl := Option.some.inj (etc_rtype.symm.trans e2)
  have hmem : ty ∈ (List.range Tryz.prog.types.size).filter fun t => Tryz.prog.rowNamed t [101, 114, 114, 111, 114] := List.mem_filter.2 ⟨List.mem_range.2 e3, e4⟩
  rw [etc_one] at hmem
  obtain rfl := List.mem_singleton.1 hmem
  have hh : typeHandle Tryz.prog 28 = .pointer (some ⟨1, 28, none⟩) := by kernel_rfl
  rw [hh] at e5
  unfold EtC
  simpa using World.var?_cell etc_global e5 0
theorem etc_of_laid {W : World} (h : laidMetH Tryz.prog [("errors.errorType", Rows.laid_errors_errorType)] W) : EtC W := by
  have h' : laidMet Tryz.prog [] W ∧ handlesMet Tryz.prog [("errors.errorType", Rows.laid_errors_errorType)] W := h
  exact etc_of_handles h'.2 (List.mem_singleton.2 rfl)
end Go.Proofs.YtcnjackbiimjdaaGreatDoor
/-
  The law BarsRight, at whatever comes in: it answers true, and writes nothing that was there. Condition: errors.errorType holds the handle of the type error (EtC).
-/
namespace Go.Proofs.YtcnjackbiimjdaaGreatDoor
set_option maxRecDepth 100000
open Go.RowKit Go.WideShapes
set_option linter.unusedSimpArgs false
set_option linter.unusedVariables false

theorem barsright_big (t e c : Nat) (n : Nat) (A : Option Addr) (k : Nat) (m : Nat) (B : Option Addr) (d : Nat) (w : World) (h : ¬ (n ≤ 300 ∧ (m ≤ 120 ∨ (255 < m ∧ m ≤ 400)))) (hn : n ≤ 9223372036854775807) (hm : m ≤ 9223372036854775807) (hg : EtC w) :
    Calls Tryz.prog 3 #[aggP t e c A n k, .slice B m d] w fun e₁ w' => e₁ = .returned (.bool true) ∧ Below w.heap.size w w' := by
  obtain ⟨hR0, hB0⟩ := box_pay w 25 (.int .u64 (t : Int)) (.int .u64 (e : Int)) (.int .u64 (c : Int)) (.slice A n k)
  unfold aggP
  go_enter Tryz.func3, Tryz.ntmps3
  go_upto_region 1 with fail
  generalize (w.alloc (.cells #[.int .u64 (t : Int), .int .u64 (e : Int), .int .u64 (c : Int), .slice A n k] 25)) = W0 at hR0 hB0 ⊢
  go_wp2_with fail
  refine (awake13_any _ (hg.later hB0)).mono ?_
  rintro e₁ w1 ⟨rfl, hb⟩
  replace hR0 := hR0.later hb
  replace hB0 := below_step hB0 hb
  clear hb
  have c3 : w1.cell? ⟨w.heap.size, 3, none⟩ = some (.slice A n k) := hR0.cell rfl
  by_cases h0 : n ≤ 300
  · have g0 : decide ((300 : Int) < (n : Int)) = false := decide_eq_false (by omega)
    have n0 : ¬ 300 < n := by omega
    have g1 : decide ((120 : Int) < (m : Int)) = true := decide_eq_true (by omega)
    have n1 : 120 < m := by omega
    by_cases h1 : m ≤ 255
    · have g2 : decide ((m : Int) ≤ 255) = true := decide_eq_true (by omega)
      clear h
      go_wp2_with fail
      go_ret
      exact ⟨rfl, hB0⟩
    · have g2 : decide ((m : Int) ≤ 255) = false := decide_eq_false (by omega)
      have g3 : decide ((400 : Int) < (m : Int)) = true := decide_eq_true (by omega)
      have n3 : 400 < m := by omega
      clear h
      go_wp2_with fail
      go_ret
      exact ⟨rfl, hB0⟩
  · have g0 : decide ((300 : Int) < (n : Int)) = true := decide_eq_true (by omega)
    have n0 : 300 < n := by omega
    clear h
    go_wp2_with fail
    go_ret
    exact ⟨rfl, hB0⟩
theorem barsright_any (v0 v1 : Value) (W : World) {H : Type} {enc : TypeId × Value → H} {base : Nat} {d0 d1 : DataW H} {p0 p1 : List MemPlace}
    (hv0 : Value.okWide Tryz.prog W .any base 25 v0) (ht0 : DataW.Trod enc Tryz.prog W 0 (fun _ => true) true 25 v0 d0 p0) (hv1 : Value.okWide Tryz.prog W .any base 23 v1) (ht1 : DataW.Trod enc Tryz.prog W 0 (fun _ => true) true 23 v1 d1 p1) (hg : EtC W) :
    Calls Tryz.prog 3 #[v0, v1] W fun e w' => e = .returned (.bool true) ∧ Below W.heap.size W w' := by
  obtain ⟨t, e, c, tag, A, k, rfl, ht, he, hc, hk, hkm, hr⟩ := open_payload hv0 ht0
  obtain ⟨b, B, d, rfl, hd, hdm, hrb⟩ := open_bytes hv1 ht1
  by_cases h : tag.length ≤ 300 ∧ (b.length ≤ 120 ∨ (255 < b.length ∧ b.length ≤ 400))
  · exact barsright_core t e c tag _ A k b _ B d W ht he hc (Lib.hid rfl) hr hk h.1 (Lib.hid rfl) hrb hd h.2 hg
  · exact barsright_big t e c _ A k _ B d W h (by omega) (by omega) hg
end Go.Proofs.YtcnjackbiimjdaaGreatDoor
