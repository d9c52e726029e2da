/-
  What comes in, opened by its type's shape (no program is named here): numbers, slices of whatever, arrays, structs. No conditions but those typed.
-/
import Derived.Test.YtkkfkibjamnpnaaQ5
import Derived.ProofKit
import Derived.OpenShut
import Derived.Deep.Slices
import Derived.Deep.Strs
import Derived.Test.YtkkfkibjamnpnaaRows
namespace Go.Proofs.Ytkkfkibjamnpnaa
set_option maxRecDepth 100000
open Go.RowKit Go.Deep Go.WideShapes Go.ChangeShapes

/-- Cells of type t that can be read as data are a reading R of something. -/
def Opens (P : Program) (t : TypeId) {α : Type} (R : World → List Value → α → Prop) : Prop :=
  ∀ {H : Type} (enc : TypeId × Value → H) (w : World) (base : Nat) (spare : Nat → Bool) (held : Bool) (fuel : Nat) (cs : List Value) (x : DataW H × List MemPlace), DataW.trod enc P w base spare held fuel t cs = some x → ∃ a : α, R w cs a

def RByte : World → List Value → UInt8 → Prop := fun _ cs c => cs = [vB c]
def RWord : World → List Value → UInt32 → Prop := fun _ cs c => cs = [vW c]
def RNum : World → List Value → Nat → Prop := fun _ cs v => cs = [.int .u64 (v : Int)] ∧ v < 18446744073709551616
def RInt : World → List Value → Int → Prop := fun _ cs n => cs = [.int .i64 n] ∧ -9223372036854775808 ≤ n ∧ n ≤ 9223372036854775807
def RBool : World → List Value → Bool → Prop := fun _ cs b => cs = [.bool b]

section
variable {P : Program} {t e : TypeId}
theorem opens_byte (ht : P.underlying t = some (.int .u8)) : Opens P t RByte := fun enc w base spare held fuel cs x h => by
  obtain ⟨n, rfl, _, hw⟩ := DataW.trod_int ht h
  simp [Lit.wf, IntKind.min, IntKind.max, IntKind.signed, IntKind.bits] at hw
  refine ⟨UInt8.ofNat n.toNat, ?_⟩
  unfold RByte vB
  rw [UInt8.toNat_ofNat']
  congr 2
  omega
theorem opens_word (ht : P.underlying t = some (.int .u32)) : Opens P t RWord := fun enc w base spare held fuel cs x h => by
  obtain ⟨n, rfl, _, hw⟩ := DataW.trod_int ht h
  simp [Lit.wf, IntKind.min, IntKind.max, IntKind.signed, IntKind.bits] at hw
  refine ⟨UInt32.ofNat n.toNat, ?_⟩
  unfold RWord vW
  rw [UInt32.toNat_ofNat']
  congr 2
  omega
theorem opens_num (ht : P.underlying t = some (.int .u64)) : Opens P t RNum := fun enc w base spare held fuel cs x h => by
  obtain ⟨n, rfl, _, hw⟩ := DataW.trod_int ht h
  obtain ⟨v, hv, rfl⟩ := u64_of_wf hw
  exact ⟨v, rfl, hv⟩
theorem opens_int (ht : P.underlying t = some (.int .i64)) : Opens P t RInt := fun enc w base spare held fuel cs x h => by
  obtain ⟨n, rfl, _, hw⟩ := DataW.trod_int ht h
  exact ⟨n, rfl, i64_of_wf hw⟩

/-- A slice: its elements, of m cells each, lie one behind the other. -/
def RSlice (m : Nat) {α : Type} (R : World → List Value → α → Prop) : World → List Value → List α → Prop := fun w cs l =>
  ∃ (A : Option Addr) (cap : Nat), cs = [.slice A l.length cap] ∧ l.length ≤ cap ∧ cap ≤ 9223372036854775807 ∧
    (l ≠ [] → ∃ b o, A = some ⟨b, o, none⟩ ∧ ∀ i (h : i < l.length), ∃ ecs : List Value, ecs.length = m ∧ (∀ j (hj : j < ecs.length), w.cell? ⟨b, o + i * m + j, none⟩ = some ecs[j]) ∧ R w ecs l[i])

theorem cells_at {w : World} {base : Nat} {a : Addr} {n : Nat} {cs : List Value} (h : w.cells? base a n = some cs) : cs.length = n ∧ ∀ j (hj : j < cs.length), w.cell? (a.add j) = some cs[j] := by
  obtain ⟨_, hl, hc⟩ := World.cells?_some h
  refine ⟨hl, fun j hj => ?_⟩
  have := hc j (by omega)
  rw [this]
  exact List.getElem?_eq_getElem hj

theorem choose_list {α : Type} (n : Nat) (p : Nat → α → Prop) (h : ∀ i, i < n → ∃ a, p i a) : ∃ l : List α, l.length = n ∧ ∀ i (hi : i < l.length), p i l[i] := by
  induction n with
  | zero => exact ⟨[], rfl, fun i hi => by simp at hi⟩
  | succ n ih =>
    obtain ⟨l, hl, hp⟩ := ih (fun i hi => h i (by omega))
    obtain ⟨a, ha⟩ := h n (by omega)
    refine ⟨l ++ [a], by simp [hl], fun i hi => ?_⟩
    by_cases hin : i < l.length
    · rw [List.getElem_append_left hin]; exact hp i hin
    · have : i = n := by simp at hi; omega
      subst this
      rw [List.getElem_append_right (by omega)]
      simpa [hl] using ha

theorem opens_slice {α : Type} {R : World → List Value → α → Prop} {m : Nat} (ht : P.underlying t = some (.slice e)) (hc : P.cellsOf e = m) (hm : 0 < m) (he : Opens P e R) : Opens P t (RSlice m R) := fun enc w base spare held fuel cs x h => by
  rcases open_slice ht h with ⟨rfl, _⟩ | ⟨a, len, cap, mm, n, D, Pl, rfl, hb, hl, hcap, hmm, rfl, hx⟩
  · exact ⟨[], none, 0, rfl, Nat.le_refl _, by omega, fun h => absurd rfl h⟩
  · have hlm : len ≤ mm := by rw [hmm]; split <;> omega
    unfold maxLen at hcap
    obtain ⟨l, hll, hp⟩ := choose_list len (fun i (y : α) => ∃ ecs : List Value, ecs.length = m ∧ (∀ j (hj : j < ecs.length), w.cell? ((a.add (i * m)).add j) = some ecs[j]) ∧ R w ecs y) (fun i hi => by
      obtain ⟨ecs, h1, h2⟩ := hx i (by omega)
      rw [hc] at h1
      obtain ⟨h3, h4⟩ := cells_at h1
      obtain ⟨y, hy⟩ := he enc w base spare held n ecs _ h2
      exact ⟨y, ecs, h3, h4, hy⟩)
    refine ⟨l, some a, cap, by rw [hll], by omega, by omega, fun hn => ?_⟩
    have h0 : 0 < l.length := by
      rcases Nat.eq_zero_or_pos l.length with h | h
      · exact absurd (List.eq_nil_of_length_eq_zero h) hn
      · exact h
    obtain ⟨b, o, spot⟩ := a
    obtain ⟨ecs, h3, h4, _⟩ := hp 0 h0
    have hc0 := h4 0 (by omega)
    have hspot : spot = none := by simpa [Addr.add] using World.cell?_spot hc0
    subst hspot
    have hadd : ∀ i j, ((⟨b, o, none⟩ : Addr).add i).add j = ⟨b, o + i + j, none⟩ := fun i j => by unfold Addr.add; split <;> split <;> simp_all
    refine ⟨b, o, rfl, fun i hi => ?_⟩
    obtain ⟨ecs, h3, h4, h5⟩ := hp i hi
    exact ⟨ecs, h3, fun j hj => by rw [← hadd]; exact h4 j hj, h5⟩

/-- An array: its elements' cells one behind the other (elements of one cell). -/
def RArr (n : Nat) {α : Type} (R : World → List Value → α → Prop) : World → List Value → List α → Prop := fun w cs l => l.length = n ∧ cs.length = n ∧ ∀ i (h : i < l.length), R w ((cs.drop i).take 1) l[i]
theorem opens_arr {α : Type} {R : World → List Value → α → Prop} {n : Nat} (ht : P.underlying t = some (.array n e)) (hc : P.cellsOf e = 1) (hn : P.cellsOf t = n) (he : Opens P e R) : Opens P t (RArr n R) := fun enc w base spare held fuel cs x h => by
  obtain ⟨xs, m, _, _, hl, hxl, hx⟩ := DataW.trod_array ht h
  obtain ⟨l, hll, hp⟩ := choose_list n (fun i (y : α) => R w ((cs.drop i).take 1) y) (fun i hi => by
    have := hx i hi
    rw [hc, Nat.mul_one, List.getElem?_eq_getElem (by omega)] at this
    exact he enc w base spare held m _ _ this)
  exact ⟨l, hll, by omega, hp⟩

/-- Structs of two to four fields: each field's cells. -/
def RTwo (a0 n0 a1 n1 : Nat) {α β : Type} (R : World → List Value → α → Prop) (S : World → List Value → β → Prop) : World → List Value → α × β → Prop := fun w cs x => cs.length = n0 + n1 ∧ R w ((cs.drop a0).take n0) x.1 ∧ S w ((cs.drop a1).take n1) x.2
def RThree (a0 n0 a1 n1 a2 n2 : Nat) {α β γ : Type} (R : World → List Value → α → Prop) (S : World → List Value → β → Prop) (T : World → List Value → γ → Prop) : World → List Value → α × β × γ → Prop := fun w cs x => cs.length = n0 + n1 + n2 ∧ R w ((cs.drop a0).take n0) x.1 ∧ S w ((cs.drop a1).take n1) x.2.1 ∧ T w ((cs.drop a2).take n2) x.2.2
theorem opens_two {α β : Type} {R : World → List Value → α → Prop} {S : World → List Value → β → Prop} {f0 f1 : Field} {a0 n0 a1 n1 : Nat} (ht : P.underlying t = some (.struct #[f0, f1])) (e0 : f0.offset = a0) (e1 : f1.offset = a1) (c0 : P.cellsOf f0.type = n0) (c1 : P.cellsOf f1.type = n1) (hn : P.cellsOf t = n0 + n1)
    (h0 : Opens P f0.type R) (h1 : Opens P f1.type S) : Opens P t (RTwo a0 n0 a1 n1 R S) := fun enc w base spare held fuel cs x h => by
  obtain ⟨xs, n, _, _, hl, hxl, hx⟩ := DataW.trod_struct ht h
  have k0 := hx 0 f0 rfl
  have k1 := hx 1 f1 rfl
  simp only [List.size_toArray, List.length_cons, List.length_nil, Nat.zero_add, Nat.reduceAdd] at hxl
  rw [List.getElem?_eq_getElem (by omega), e0, c0] at k0
  rw [List.getElem?_eq_getElem (by omega), e1, c1] at k1
  obtain ⟨x0, r0⟩ := h0 enc w base spare held n _ _ k0
  obtain ⟨x1, r1⟩ := h1 enc w base spare held n _ _ k1
  exact ⟨(x0, x1), by omega, r0, r1⟩
theorem opens_three {α β γ : Type} {R : World → List Value → α → Prop} {S : World → List Value → β → Prop} {T : World → List Value → γ → Prop} {f0 f1 f2 : Field} {a0 n0 a1 n1 a2 n2 : Nat} (ht : P.underlying t = some (.struct #[f0, f1, f2])) (e0 : f0.offset = a0) (e1 : f1.offset = a1) (e2 : f2.offset = a2)
    (c0 : P.cellsOf f0.type = n0) (c1 : P.cellsOf f1.type = n1) (c2 : P.cellsOf f2.type = n2) (hn : P.cellsOf t = n0 + n1 + n2) (h0 : Opens P f0.type R) (h1 : Opens P f1.type S) (h2 : Opens P f2.type T) : Opens P t (RThree a0 n0 a1 n1 a2 n2 R S T) := fun enc w base spare held fuel cs x h => by
  obtain ⟨xs, n, _, _, hl, hxl, hx⟩ := DataW.trod_struct ht h
  have k0 := hx 0 f0 rfl
  have k1 := hx 1 f1 rfl
  have k2 := hx 2 f2 rfl
  simp only [List.size_toArray, List.length_cons, List.length_nil, Nat.zero_add, Nat.reduceAdd] at hxl
  rw [List.getElem?_eq_getElem (by omega), e0, c0] at k0
  rw [List.getElem?_eq_getElem (by omega), e1, c1] at k1
  rw [List.getElem?_eq_getElem (by omega), e2, c2] at k2
  obtain ⟨x0, r0⟩ := h0 enc w base spare held n _ _ k0
  obtain ⟨x1, r1⟩ := h1 enc w base spare held n _ _ k1
  obtain ⟨x2, r2⟩ := h2 enc w base spare held n _ _ k2
  exact ⟨(x0, x1, x2), by omega, r0, r1, r2⟩
end

/-! ### Back to the words that the walks go by -/
theorem rd_of_rslice {α : Type} {f : α → Value} {R : World → List Value → α → Prop} {w : World} {cs : List Value} {l : List α} (hR : ∀ ecs x, R w ecs x → ecs = [f x]) (h : RSlice 1 R w cs l) : ∃ A cap, cs = [.slice A l.length cap] ∧ l.length ≤ cap ∧ cap ≤ 9223372036854775807 ∧ Rd f w A l := by
  obtain ⟨A, cap, e, h1, h2, h3⟩ := h
  refine ⟨A, cap, e, h1, h2, fun hn => ?_⟩
  obtain ⟨b, o, rfl, hc⟩ := h3 hn
  refine ⟨b, o, rfl, fun i hi => ?_⟩
  obtain ⟨ecs, _, h5, h6⟩ := hc i hi
  have := hR _ _ h6
  subst this
  have := h5 0 (by simp)
  simpa using this
theorem bytes_of_r {w : World} {cs : List Value} {l : List UInt8} (h : RSlice 1 RByte w cs l) : ∃ A cap, cs = [.slice A l.length cap] ∧ l.length ≤ cap ∧ cap ≤ 9223372036854775807 ∧ Rd vB w A l := rd_of_rslice (fun _ _ h => h) h
theorem words_of_r {w : World} {cs : List Value} {l : List UInt32} (h : RSlice 1 RWord w cs l) : ∃ A cap, cs = [.slice A l.length cap] ∧ l.length ≤ cap ∧ cap ≤ 9223372036854775807 ∧ Rd vW w A l := rd_of_rslice (fun _ _ h => h) h
theorem arr_words {n : Nat} {w : World} {cs : List Value} {l : List UInt32} (h : RArr n RWord w cs l) : cs = l.map vW ∧ l.length = n := by
  obtain ⟨h1, h2, h3⟩ := h
  refine ⟨?_, h1⟩
  apply List.ext_getElem
  · simp; omega
  · intro i hi hi'
    have := h3 i (by omega)
    unfold RWord at this
    have h4 := congrArg (fun l => l[0]?) this
    simp only [List.getElem?_take, List.getElem?_drop, Nat.add_zero, List.getElem?_eq_getElem hi, Nat.zero_lt_one, if_true, List.getElem?_cons_zero, Option.some.injEq] at h4
    rw [h4]
    simp

/-! ### A value and its cells -/
theorem okWide_arr {P : Program} {w : World} {r : Reach} {base n : Nat} {t e : TypeId} {v : Value} (ht : P.underlying t = some (.array n e)) (h : Value.okWide P w r base t v) : ∃ cs, v = .agg cs ∧ cs.size = P.cellsOf t := by
  simp only [Value.okWide, ht] at h
  obtain ⟨cs, h1, h2, _⟩ := h
  exact ⟨cs, h1, h2⟩

end Go.Proofs.Ytkkfkibjamnpnaa
/-
  A parameter that is a slice of bytes, opened. No conditions.
-/
namespace Go.Proofs.Ytkkfkibjamnpnaa
set_option maxRecDepth 100000
open Go.RowKit Go.WideShapes
set_option linter.unusedSimpArgs false
set_option linter.unusedVariables false

theorem opens_bytes : Opens Try.prog 22 (RSlice 1 RByte) := opens_slice Try.underlying22 (by kernel_rfl) (by omega) (opens_byte Try.underlying5)
section
variable {H : Type} {enc : TypeId × Value → H} {W : World} {base b1 : Nat} {spare : Nat → Bool} {held : Bool} {r : Reach} {v : Value} {d : DataW H} {p : List MemPlace}
theorem open_bytes (hv : Value.okWide Try.prog W r base 22 v) (ht : DataW.Trod enc Try.prog W b1 spare held 22 v d p) : ∃ (l : List UInt8) (A : Option Addr) (cap : Nat), v = .slice A l.length cap ∧ l.length ≤ cap ∧ cap ≤ 9223372036854775807 ∧ Rd vB W A l := by
  obtain ⟨a, len, cap, rfl⟩ := okWide_slice Try.underlying22 hv
  obtain ⟨fuel, hf⟩ := ht
  obtain ⟨l, hl⟩ := opens_bytes enc W _ _ _ _ _ _ hf
  obtain ⟨A, c, e, h1, h2, h3⟩ := bytes_of_r hl
  simp [Value.cells] at e
  obtain ⟨rfl, rfl, rfl⟩ := e
  exact ⟨l, _, _, rfl, h1, h2, h3⟩
end
end Go.Proofs.Ytkkfkibjamnpnaa
/-
  Structs of four fields, opened. No conditions.
-/
namespace Go.Proofs.Ytkkfkibjamnpnaa
set_option maxRecDepth 100000
open Go.RowKit Go.Deep Go.WideShapes Go.ChangeShapes
set_option linter.unusedSimpArgs false
set_option linter.unusedVariables false

/-- Structs of four fields: each field's cells. -/
def RFour (a0 n0 a1 n1 a2 n2 a3 n3 : Nat) {α β γ δ : Type} (R : World → List Value → α → Prop) (S : World → List Value → β → Prop) (T : World → List Value → γ → Prop) (U : World → List Value → δ → Prop) : World → List Value → α × β × γ × δ → Prop := fun w cs x => cs.length = n0 + n1 + n2 + n3 ∧ R w ((cs.drop a0).take n0) x.1 ∧ S w ((cs.drop a1).take n1) x.2.1 ∧ T w ((cs.drop a2).take n2) x.2.2.1 ∧ U w ((cs.drop a3).take n3) x.2.2.2
theorem opens_four {P : Program} {t : TypeId} {α β γ δ : Type} {R : World → List Value → α → Prop} {S : World → List Value → β → Prop} {T : World → List Value → γ → Prop} {U : World → List Value → δ → Prop} {f0 f1 f2 f3 : Field} {a0 n0 a1 n1 a2 n2 a3 n3 : Nat} (ht : P.underlying t = some (.struct #[f0, f1, f2, f3])) (e0 : f0.offset = a0) (e1 : f1.offset = a1) (e2 : f2.offset = a2) (e3 : f3.offset = a3)
    (c0 : P.cellsOf f0.type = n0) (c1 : P.cellsOf f1.type = n1) (c2 : P.cellsOf f2.type = n2) (c3 : P.cellsOf f3.type = n3) (hn : P.cellsOf t = n0 + n1 + n2 + n3) (h0 : Opens P f0.type R) (h1 : Opens P f1.type S) (h2 : Opens P f2.type T) (h3 : Opens P f3.type U) : Opens P t (RFour a0 n0 a1 n1 a2 n2 a3 n3 R S T U) := fun enc w base spare held fuel cs x h => by
  obtain ⟨xs, n, _, _, hl, hxl, hx⟩ := DataW.trod_struct ht h
  have k0 := hx 0 f0 rfl
  have k1 := hx 1 f1 rfl
  have k2 := hx 2 f2 rfl
  have k3 := hx 3 f3 rfl
  simp only [List.size_toArray, List.length_cons, List.length_nil, Nat.zero_add, Nat.reduceAdd] at hxl
  rw [List.getElem?_eq_getElem (by omega), e0, c0] at k0
  rw [List.getElem?_eq_getElem (by omega), e1, c1] at k1
  rw [List.getElem?_eq_getElem (by omega), e2, c2] at k2
  rw [List.getElem?_eq_getElem (by omega), e3, c3] at k3
  obtain ⟨x0, r0⟩ := h0 enc w base spare held n _ _ k0
  obtain ⟨x1, r1⟩ := h1 enc w base spare held n _ _ k1
  obtain ⟨x2, r2⟩ := h2 enc w base spare held n _ _ k2
  obtain ⟨x3, r3⟩ := h3 enc w base spare held n _ _ k3
  exact ⟨(x0, x1, x2, x3), by omega, r0, r1, r2, r3⟩
end Go.Proofs.Ytkkfkibjamnpnaa
/-
  Parameters that are a disk, or a number, opened. No conditions.
-/
namespace Go.Proofs.Ytkkfkibjamnpnaa
set_option maxRecDepth 100000
open Go.RowKit Go.Deep Go.WideShapes Go.ChangeShapes
set_option linter.unusedSimpArgs false
set_option linter.unusedVariables false

/-- An array whose elements have m cells each. -/
def RArrM (n m : Nat) {α : Type} (R : World → List Value → α → Prop) : World → List Value → List α → Prop := fun w cs l => l.length = n ∧ cs.length = n * m ∧ ∀ i (h : i < l.length), R w ((cs.drop (i * m)).take m) l[i]
theorem opens_arrM {P : Program} {t e : TypeId} {α : Type} {R : World → List Value → α → Prop} {n m : Nat} (ht : P.underlying t = some (.array n e)) (hc : P.cellsOf e = m) (hn : P.cellsOf t = n * m) (he : Opens P e R) : Opens P t (RArrM n m R) := fun enc w base spare held fuel cs x h => by
  obtain ⟨xs, q, _, _, hl, hxl, hx⟩ := DataW.trod_array ht h
  obtain ⟨l, hll, hp⟩ := choose_list n (fun i (y : α) => R w ((cs.drop (i * m)).take m) y) (fun i hi => by
    have := hx i hi
    rw [hc, List.getElem?_eq_getElem (by omega)] at this
    exact he enc w base spare held q _ _ this)
  exact ⟨l, hll, by omega, hp⟩
theorem opens_area : Opens Try.prog 24 (RTwo 0 1 1 1 (RSlice 1 RByte) RInt) := opens_two Try.underlying24 rfl rfl (by kernel_rfl) (by kernel_rfl) (by kernel_rfl) opens_bytes (opens_int Try.underlying3)
theorem opens_areas : Opens Try.prog 25 (RArrM 2 2 (RTwo 0 1 1 1 (RSlice 1 RByte) RInt)) := opens_arrM Try.underlying25 (by kernel_rfl) (by kernel_rfl) opens_area
theorem opens_bool : Opens Try.prog 4 RBool := fun enc w base spare held fuel cs x h => by
  obtain ⟨b, rfl, _⟩ := DataW.trod_bool Try.underlying4 h
  exact ⟨b, rfl⟩
theorem opens_disk : Opens Try.prog 27 (RFour 0 4 4 1 5 1 6 1 (RArrM 2 2 (RTwo 0 1 1 1 (RSlice 1 RByte) RInt)) RInt RInt RBool) := opens_four Try.underlying27 rfl rfl rfl rfl (by kernel_rfl) (by kernel_rfl) (by kernel_rfl) (by kernel_rfl) (by kernel_rfl) opens_areas (opens_int Try.underlying3) (opens_int Try.underlying3) opens_bool
section
variable {H : Type} {enc : TypeId × Value → H} {W : World} {base b1 : Nat} {spare : Nat → Bool} {held : Bool} {r : Reach} {v : Value} {d : DataW H} {p : List MemPlace}
theorem open_disk (hv : Value.okWide Try.prog W r base 27 v) (ht : DataW.Trod enc Try.prog W b1 spare held 27 v d p) : ∃ (x : WD) (D : DK), v = aggD x D ∧ InD W x D ∧ D.fuse ≤ 9223372036854775807 ∧ D.keep ≤ 9223372036854775807 := by
  obtain ⟨cs, rfl, _⟩ := okWide_struct Try.underlying27 hv
  obtain ⟨fuel, hf⟩ := ht
  obtain ⟨⟨ars, f, k, dn⟩, hl, ⟨ha, hal, hai⟩, ⟨hf1, hf2⟩, ⟨hk1, hk2⟩, hd⟩ := opens_disk enc W _ _ _ _ _ _ hf
  match ars, ha with
  | [⟨b0, s0⟩, ⟨b1, s1⟩], _ =>
    obtain ⟨_, h0, ⟨h1, _⟩⟩ := hai 0 (by simp)
    obtain ⟨_, h2, ⟨h3, _⟩⟩ := hai 1 (by simp)
    obtain ⟨A0, c0, e0, i0, _, i1⟩ := bytes_of_r h0
    obtain ⟨A1, c1, e1, j0, _, j1⟩ := bytes_of_r h2
    refine ⟨⟨A0, b0.length, c0, A1, b1.length, c1⟩, ⟨⟨b0, s0⟩, ⟨b1, s1⟩, f, k, dn⟩, ?_, ⟨rfl, i0, i1, rfl, j0, j1⟩, hf2.2, hk2.2⟩
    unfold aggD
    congr 1
    apply Array.toList_inj.1
    simp only [Value.cells] at hl e0 e1 h1 h3 hf1 hk1 hd
    unfold RBool at hd
    match hcs : cs.toList, hl with
    | [x0, x1, x2, x3, x4, x5, x6], _ =>
      rw [hcs] at e0 e1 h1 h3 hf1 hk1 hd
      simp at e0 e1 h1 h3 hf1 hk1 hd
      simp [e0, e1, h1, h3, hf1, hk1, hd]
theorem open_int (hv : Value.okWide Try.prog W r base 3 v) (ht : DataW.Trod enc Try.prog W b1 spare held 3 v d p) : ∃ n : Int, v = .int .i64 n ∧ n ≤ 9223372036854775807 := by
  obtain ⟨n, rfl⟩ := okWide_int Try.underlying3 hv
  obtain ⟨fuel, hf⟩ := ht
  obtain ⟨m, e, _, hw⟩ := DataW.trod_int Try.underlying3 hf
  simp [Value.cells] at e
  subst e
  exact ⟨n, rfl, (i64_of_wf hw).2⟩
theorem open_n16 (hv : Value.okWide Try.prog W r base 42 v) (ht : DataW.Trod enc Try.prog W b1 spare held 42 v d p) : ∃ y : Nat, v = .int .u16 (y : Int) ∧ y < 65536 := by
  obtain ⟨n, rfl⟩ := okWide_int Try.underlying42 hv
  obtain ⟨fuel, hf⟩ := ht
  obtain ⟨m, e, _, hw⟩ := DataW.trod_int Try.underlying42 hf
  simp [Value.cells] at e
  simp [Lit.wf, IntKind.min, IntKind.max, IntKind.signed, IntKind.bits] at hw
  exact ⟨n.toNat, by congr 1; omega, by omega⟩
theorem open_n8 (hv : Value.okWide Try.prog W r base 5 v) (ht : DataW.Trod enc Try.prog W b1 spare held 5 v d p) : ∃ y : Nat, v = .int .u8 (y : Int) ∧ y < 256 := by
  obtain ⟨n, rfl⟩ := okWide_int Try.underlying5 hv
  obtain ⟨fuel, hf⟩ := ht
  obtain ⟨m, e, _, hw⟩ := DataW.trod_int Try.underlying5 hf
  simp [Value.cells] at e
  simp [Lit.wf, IntKind.min, IntKind.max, IntKind.signed, IntKind.bits] at hw
  exact ⟨n.toNat, by congr 1; omega, by omega⟩
end
end Go.Proofs.Ytkkfkibjamnpnaa
/-
  The law DiskRight, at whatever comes in: it answers true, and writes nothing that was there. No conditions.
-/
namespace Go.Proofs.Ytkkfkibjamnpnaa
set_option maxRecDepth 100000
open Go.RowKit Go.Deep Go.WideShapes Go.ChangeShapes
set_option linter.unusedSimpArgs false
set_option linter.unusedVariables false

theorem diskright_any (v0 v1 v2 v3 : Value) (W : World) {H : Type} {enc : TypeId × Value → H} {base : Nat} {d0 d1 d2 d3 : DataW H} {p0 p1 p2 p3 : List MemPlace}
    (hv0 : Value.okWide Try.prog W .any base 27 v0) (ht0 : DataW.Trod enc Try.prog W 0 (fun _ => true) true 27 v0 d0 p0) (hv1 : Value.okWide Try.prog W .any base 3 v1) (ht1 : DataW.Trod enc Try.prog W 0 (fun _ => true) true 3 v1 d1 p1) (hv2 : Value.okWide Try.prog W .any base 22 v2) (ht2 : DataW.Trod enc Try.prog W 0 (fun _ => true) true 22 v2 d2 p2) (hv3 : Value.okWide Try.prog W .any base 3 v3) (ht3 : DataW.Trod enc Try.prog W 0 (fun _ => true) true 3 v3 d3 p3) :
    Calls Try.prog 3 #[v0, v1, v2, v3] W fun e w' => e = .returned (.bool true) ∧ Below W.heap.size W w' := by
  obtain ⟨x, D, rfl, h, hf, hk⟩ := open_disk hv0 ht0
  obtain ⟨k, rfl, _⟩ := open_int hv1 ht1
  obtain ⟨b, C, c, rfl, hc, _, hr⟩ := open_bytes hv2 ht2
  obtain ⟨kp, rfl, hkp⟩ := open_int hv3 ht3
  exact diskright_walk x D k b C _ c kp W h (Lib.hid rfl) hc hr hf hk hkp
end Go.Proofs.Ytkkfkibjamnpnaa
/-
  Words for the laws of layer 17 that draw the order of a call and of its result's block. No conditions but those typed.
-/
namespace Go.Proofs.Ytkkfkibjamnpnaa
set_option maxRecDepth 100000
open Go.RowKit
set_option linter.unusedSimpArgs false
set_option linter.unusedVariables false

/-- A disk's block, cell by cell, and something else. -/
def dkS (g : Nat) (x : WD) (D : DK) (Z : World → Prop) (W : World) : Prop :=
  (W.cell? ⟨g, 0, none⟩ = some (.slice x.A0 x.n0 x.c0) ∧ W.cell? ⟨g, 1, none⟩ = some (.int .i64 D.a0.s) ∧ W.cell? ⟨g, 2, none⟩ = some (.slice x.A1 x.n1 x.c1) ∧ W.cell? ⟨g, 3, none⟩ = some (.int .i64 D.a1.s) ∧ W.cell? ⟨g, 4, none⟩ = some (.int .i64 D.fuse) ∧ W.cell? ⟨g, 5, none⟩ = some (.int .i64 D.keep) ∧ W.cell? ⟨g, 6, none⟩ = some (.bool D.down)) ∧ Z W
/-- .. now, and in every later world. -/
structure DkS (g : Nat) (x : WD) (D : DK) (Z : World → Prop) (w : World) : Prop where
  now : dkS g x D Z w
  keep : ∀ {W : World}, Below w.heap.size w W → dkS g x D Z W
theorem DkS.of {g : Nat} {x : WD} {D : DK} {Z : World → Prop} {w : World} (h : Row w g 27 [Value.slice x.A0 x.n0 x.c0, .int .i64 D.a0.s, .slice x.A1 x.n1 x.c1, .int .i64 D.a1.s, .int .i64 D.fuse, .int .i64 D.keep, .bool D.down]) (z : ∀ W, Below w.heap.size w W → Z W) : DkS g x D Z w :=
  ⟨⟨⟨h.cell rfl, h.cell rfl, h.cell rfl, h.cell rfl, h.cell rfl, h.cell rfl, h.cell rfl⟩, z w (Below.refl _ _)⟩,
    fun hb => ⟨⟨(h.later hb).cell rfl, (h.later hb).cell rfl, (h.later hb).cell rfl, (h.later hb).cell rfl, (h.later hb).cell rfl, (h.later hb).cell rfl, (h.later hb).cell rfl⟩, z _ hb⟩⟩
/-- Behind such a region: the result's block, its disk. -/
def CutW (W : World) (DS : DK) (er : Int) (vp ve : Value) (wx : World) : Prop :=
  ∃ g y, vp = .pointer (some ⟨g, 0, none⟩) ∧ ve = .int .i64 er ∧ W.heap.size ≤ g ∧ Row wx g 27 (cellsD y DS) ∧ InD wx y DS ∧ FreshD W.heap.size y ∧ Below W.heap.size W wx
theorem make_zeros (n : Nat) (hn : n ≤ 2000000) (w : World) : (Instr.makeSlice 22 (.int .i64 (n : Int)) (.int .i64 (n : Int))).run Try.prog w = .ok (.slice (some ⟨w.heap.size, 0, none⟩) n n) (w.alloc (.cells ((List.replicate n (0 : UInt8)).map vB).toArray 5)) := by
  obtain ⟨i0, hi, hz0, hz1, hz2⟩ := info_parts info_u8
  have e : madeCells (Value.int .u8 0).cells n = ((List.replicate n (0 : UInt8)).map vB).toArray := by
    apply Array.toList_inj.1
    apply List.ext_getElem
    · simp [madeCells]
    · intro i h1 h2
      simp [madeCells, Value.cells, vB, Nat.mod_one]
  have := run_makeSlice (P := Try.prog) (w := w) 22 5 i0 (.int .u8 0) Try.underlying22 hi hz0 .i64 .i64 (n : Int) (n : Int) (by omega) (Int.le_refl _) (by rw [hz1]; omega) (by rw [hz2]; omega) (by omega)
  rw [hz1, Int.toNat_natCast, Nat.mul_one, e] at this
  exact this
end Go.Proofs.Ytkkfkibjamnpnaa
/-
  An area takes as many bytes as it may have, and not one more (the walk of DiskFull). Conditions: as typed.
-/
namespace Go.Proofs.Ytkkfkibjamnpnaa
set_option maxRecDepth 100000
open Go.RowKit
set_option linter.unusedSimpArgs false
set_option linter.unusedVariables false

def fullD (N : Nat) (Y : Nat) : DK := ⟨⟨List.replicate N 0, 0⟩, ⟨[], 0⟩, (Y : Int), 0, false⟩
theorem full_more (N Y L : Nat) (h : N + L = 1048576) (bl : List UInt8) (hb : bl.length = L + 1) : writeD (fullD N Y) 0 bl = (fullD N Y, 12) := by
  have hr : rightDK (fullD N Y) := ⟨⟨Int.le_refl _, by show (0 : Int) ≤ ((List.replicate N (0 : UInt8)).length : Int); omega, by show (List.replicate N (0 : UInt8)).length ≤ 1048576; rw [List.length_replicate]; omega⟩, ⟨Int.le_refl _, by show (0 : Int) ≤ (([] : List UInt8).length : Int); simp, by show ([] : List UInt8).length ≤ 1048576; simp⟩, by show -1 ≤ (Y : Int); omega, Int.le_refl _⟩
  unfold writeD stepD
  rw [if_neg (fun hn => hn ⟨hr, .inl rfl⟩), if_neg (by show ¬ false = true; exact Bool.false_ne_true), if_pos (by
    show decide (1048576 < (List.replicate N (0 : UInt8)).length + bl.length) = true
    rw [List.length_replicate, hb]
    exact decide_eq_true (by omega))]
theorem full_fits (N Y L : Nat) (h : N + L = 1048576) (bl : List UInt8) (hb : bl.length = L) : ∃ D er, writeD (fullD N Y) 0 bl = (D, er) ∧ ((Y ≠ 0 ∧ er = 0 ∧ D.a0.b.length = 1048576 ∧ D.fuse = (Y : Int) - 1) ∨ (Y = 0 ∧ er = 14 ∧ D.down = true)) := by
  have hr : rightDK (fullD N Y) := ⟨⟨Int.le_refl _, by show (0 : Int) ≤ ((List.replicate N (0 : UInt8)).length : Int); omega, by show (List.replicate N (0 : UInt8)).length ≤ 1048576; rw [List.length_replicate]; omega⟩, ⟨Int.le_refl _, by show (0 : Int) ≤ (([] : List UInt8).length : Int); simp, by show ([] : List UInt8).length ≤ 1048576; simp⟩, by show -1 ≤ (Y : Int); omega, Int.le_refl _⟩
  unfold writeD stepD
  rw [if_neg (fun hn => hn ⟨hr, .inl rfl⟩), if_neg (by show ¬ false = true; exact Bool.false_ne_true), if_neg (by
    show ¬ decide (1048576 < (List.replicate N (0 : UInt8)).length + bl.length) = true
    rw [List.length_replicate, hb, decide_eq_true_iff]
    omega)]
  by_cases hy : Y = 0
  · rw [if_pos (by show (Y : Int) = 0; omega)]
    exact ⟨_, _, rfl, .inr ⟨hy, rfl, rfl⟩⟩
  · rw [if_neg (by show ¬ (Y : Int) = 0; omega)]
    refine ⟨_, _, rfl, .inl ⟨hy, rfl, ?_, ?_⟩⟩
    · show (List.replicate N (0 : UInt8) ++ bl).length = 1048576
      rw [List.length_append, List.length_replicate, hb, h]
    · show burn (Y : Int) = _
      unfold burn
      rw [if_pos (by omega)]

set_option maxHeartbeats 8000000 in
theorem diskfull_walk (L Y : Nat) (w : World) (hL : L < 65536) (hY : Y < 256) : Calls Try.prog 4 #[.int .u16 (L : Int), .int .u8 (Y : Int)] w fun e w' => e = .returned (.bool true) ∧ Below w.heap.size w w' := by
  go_enter Try.func4, Try.ntmps4
  go_wp2_with fail
  refine (awake17_any _).mono ?_
  rintro e w1 ⟨rfl, hB⟩
  go_wp2_with fail
  refine (new17_any _).mono ?_
  rintro e w2 ⟨rfl, hb⟩
  replace hB := below_step hB hb
  clear hb
  obtain ⟨hRz, hBz⟩ := box_of w2 27 [Value.slice none 0 0, .int .i64 0, .slice none 0 0, .int .i64 0, .int .i64 0, .int .i64 0, .bool false] _ rfl
  unfold aggD newD
  dsimp only
  go_upto_region 4 with (refine wpList_store_row rfl 27 (.tmp 5) (.tmp 12) rfl w2.heap.size rfl [Value.slice none 0 0, .int .i64 0, .slice none 0 0, .int .i64 0, .int .i64 (-1), .int .i64 0, .bool false] rfl _ _ hRz (by exact size_disk) rfl (disk_one none 0 0 0 none 0 0 0 (-1) 0 false) ?_)
  have hR := hRz.setRow [Value.slice none 0 0, .int .i64 0, .slice none 0 0, .int .i64 0, .int .i64 (-1), .int .i64 0, .bool false]
  have hbz : Below w2.heap.size w2 ((w2.alloc (.cells [Value.slice none 0 0, .int .i64 0, .slice none 0 0, .int .i64 0, .int .i64 0, .int .i64 0, .bool false].toArray 27)).setRow w2.heap.size [Value.slice none 0 0, .int .i64 0, .slice none 0 0, .int .i64 0, .int .i64 (-1), .int .i64 0, .bool false].toArray) := below_setRow hBz (Nat.le_refl _) _
  have hg : w.heap.size ≤ w2.heap.size := hB.size
  replace hB := below_step hB hbz
  clear hRz hBz hbz
  generalize (w2.alloc (.cells [Value.slice none 0 0, .int .i64 0, .slice none 0 0, .int .i64 0, .int .i64 0, .int .i64 0, .bool false].toArray 27)).setRow w2.heap.size [Value.slice none 0 0, .int .i64 0, .slice none 0 0, .int .i64 0, .int .i64 (-1), .int .i64 0, .bool false].toArray = W at hR hB ⊢
  generalize w2.heap.size = g at hR hg ⊢
  have f4 := hR.frozen 4
  have c4 : W.cell? ⟨g, 4, none⟩ = some (.int .i64 (-1)) := hR.cell rfl
  have hR4 : Row (W.setCell ⟨g, 4, none⟩ (.int .i64 (Y : Int))) g 27 [Value.slice none 0 0, .int .i64 0, .slice none 0 0, .int .i64 0, .int .i64 (Y : Int), .int .i64 0, .bool false] := hR.setCell 4 _
  replace hB := hB.setCell (p := ⟨g, 4, none⟩) hg (.int .i64 (Y : Int))
  go_upto_region 5 with fail
  clear hR f4 c4
  generalize W.setCell ⟨g, 4, none⟩ (.int .i64 (Y : Int)) = W at hR4 hB ⊢
  obtain ⟨N, hN⟩ : ∃ N : Nat, N + L = 1048576 := ⟨1048576 - L, by omega⟩
  have HNi : Hid ((1048576 : Int) - (L : Int) = (N : Int)) := by unfold Hid; omega
  have hmk : ∀ W, (Instr.makeSlice 22 (.int .i64 (1048576 - (L : Int))) (.int .i64 (1048576 - (L : Int)))).run Try.prog W = .ok (.slice (some ⟨W.heap.size, 0, none⟩) N N) (W.alloc (.cells ((List.replicate N (0 : UInt8)).map vB).toArray 5)) := fun W => by
    rw [HNi.out]
    exact make_zeros N (by omega) W
  obtain ⟨X0, hX0⟩ : ∃ X0, (List.replicate N (0 : UInt8)).map vB = X0 := ⟨_, rfl⟩
  rw [hX0] at hmk
  have f0 := hR4.frozen 0
  have c0 : W.cell? ⟨g, 0, none⟩ = some (.slice none 0 0) := hR4.cell rfl
  have hb0 := below_new (Below.refl _ W) (.cells X0.toArray 5)
  have hR5 := hR4.later hb0
  have f01 := hR5.frozen 0
  have c01 : (W.alloc (.cells X0.toArray 5)).cell? ⟨g, 0, none⟩ = some (.slice none 0 0) := hR5.cell rfl
  have hgl := hR4.lt
  go_upto_region 6 with fail
  have hR : Row ((W.setCell ⟨g, 0, none⟩ (.slice (some ⟨W.heap.size, 0, none⟩) N N)).alloc (.cells X0.toArray 5)) g 27 [Value.slice (some ⟨W.heap.size, 0, none⟩) N N, .int .i64 0, .slice none 0 0, .int .i64 0, .int .i64 (Y : Int), .int .i64 0, .bool false] := (hR4.setCell 0 (.slice (some ⟨W.heap.size, 0, none⟩) N N)).alloc _
  have hr5 : Rd vB ((W.setCell ⟨g, 0, none⟩ (.slice (some ⟨W.heap.size, 0, none⟩) N N)).alloc (.cells X0.toArray 5)) (some ⟨W.heap.size, 0, none⟩) (List.replicate N 0) := Rd.new_at _ _ (by simp) _ _ _ (by rw [hX0])
  replace hB := below_new (hB.setCell (p := ⟨g, 0, none⟩) hg (.slice (some ⟨W.heap.size, 0, none⟩) N N)) (.cells X0.toArray 5)
  clear hmk hb0 hR5 f0 c0 hR4 hgl hX0 f01 c01
  generalize (W.setCell ⟨g, 0, none⟩ (.slice (some ⟨W.heap.size, 0, none⟩) N N)).alloc (.cells X0.toArray 5) = W3 at hR hr5 hB ⊢
  generalize W.heap.size = gn at hR hr5 ⊢
  clear HNi
  obtain ⟨x, hx⟩ : ∃ x : WD, x = ⟨some ⟨gn, 0, none⟩, N, N, none, 0, 0⟩ := ⟨_, rfl⟩
  obtain ⟨D, hD⟩ : ∃ D, fullD N Y = D := ⟨_, rfl⟩
  have hIn : InD W3 x D := by
    subst hx hD
    exact ⟨List.length_replicate, Nat.le_refl _, hr5, rfl, Nat.le_refl _, Rd.nil⟩
  have hRx : Row W3 g 27 [Value.slice x.A0 x.n0 x.c0, .int .i64 D.a0.s, .slice x.A1 x.n1 x.c1, .int .i64 D.a1.s, .int .i64 D.fuse, .int .i64 D.keep, .bool D.down] := by
    subst hx hD
    exact hR
  have hxn : x.n0 = N ∧ x.n1 = 0 := by subst hx; exact ⟨rfl, rfl⟩
  have hDf : D.fuse = (Y : Int) ∧ D.keep = 0 := by subst hD; exact ⟨rfl, rfl⟩
  have hxn0 : x.n0 ≤ 70368744177664 := by omega
  have hxn1 : x.n1 ≤ 70368744177664 := by omega
  have hDf0 : D.fuse ≤ 9223372036854775807 := by omega
  have hDk0 : D.keep ≤ 9223372036854775807 := by omega
  have HDF := Lib.hid hDf
  have HXN := Lib.hid hxn
  clear hxn hDf
  clear hR hr5
  rename World => W
  replace HDF : Hid (D.fuse = (Y : Int) ∧ D.keep = 0 ∧ D.down = false) := ⟨HDF.out.1, HDF.out.2, by rw [← hD]; rfl⟩
  have HFM := Lib.hid (full_more N Y L hN)
  have HFF := Lib.hid (full_fits N Y L hN)
  rw [hD] at HFM HFF
  clear hx hD
  obtain ⟨bl, hbl⟩ : ∃ bl, List.replicate (L + 1) (0 : UInt8) = bl := ⟨_, rfl⟩
  obtain ⟨X, hX⟩ : ∃ X, bl.map vB = X := ⟨_, rfl⟩
  have HBL : Hid (bl.length = (L + 1)) := by unfold Hid; rw [← hbl, List.length_replicate]
  have HXX : Hid (∀ W : World, Rd vB (W.alloc (.cells X.toArray 5)) (some ⟨W.heap.size, 0, none⟩) bl) := fun W => Rd.new W bl _ _ (by rw [hX])
  have hmk : ∀ W, (Instr.makeSlice 22 (.int .i64 ((L : Int) + 1)) (.int .i64 ((L : Int) + 1))).run Try.prog W = .ok (.slice (some ⟨W.heap.size, 0, none⟩) (L + 1) (L + 1)) (W.alloc (.cells X.toArray 5)) := fun W => by
    have := make_zeros (L + 1) (by omega) W
    rw [show (((L + 1 : Nat)) : Int) = (L : Int) + 1 by omega] at this
    rw [hbl, hX] at this
    exact this
  have hSO := HFM.out bl HBL.out
  clear hbl hX
  obtain ⟨DS, hDS⟩ : ∃ DS, D = DS := ⟨_, rfl⟩
  obtain ⟨er, her⟩ : ∃ er : Int, er = 12 := ⟨_, rfl⟩
  rw [show (D, (12 : Int)) = (DS, er) by rw [her, hDS]] at hSO
  have HDS := Lib.hid hDS
  have HER := Lib.hid her
  have HWR : Hid (∀ (wq : World) (a : Addr), InD wq x D → Rd vB wq (some a) bl → Calls Try.prog 8 #[.agg #[Value.slice x.A0 x.n0 x.c0, .int .i64 D.a0.s, .slice x.A1 x.n1 x.c1, .int .i64 D.a1.s, .int .i64 D.fuse, .int .i64 D.keep, .bool D.down], .int .i64 0, .slice (some a) (L + 1) (L + 1)] wq (RetD wq DS er)) := fun wq a h1 h2 => by
    have := write17_any x D 0 bl (some a) (L + 1) (L + 1) wq h1 HBL (Nat.le_refl _) h2 hxn0 hxn1 (by omega) hDf0 hDk0
    rw [hSO] at this
    unfold aggD at this
    exact this
  clear hSO hDS her
  go_cut [6, 7] (fun vp ve wcut => CutW W DS er vp ve wcut)
  case first =>
    have hBd : Below W.heap.size W W.drew := (Below.refl _ _).drew
    have hS : DkS g x D (fun _ => True) W.drew := DkS.of (hRx.later hBd) (fun _ _ => trivial)
    have hInD := hIn.keep hBd
    refine wp_region_plan_of (dkS g x D (fun _ => True)) (.step 0 false (.step 1 false (.step 2 false (.step 3 false (.fork 4 (.fork 5 (.step 6 false (.step 7 false (.step 8 false (.step 9 true (.step 10 true (.step 11 false (.nil))))))) 9 (.step 5 true (.step 6 false (.step 7 false (.step 8 false (.step 10 true (.step 11 false (.nil)))))))) 9 (.step 4 true (.step 5 true (.step 6 false (.step 7 false (.step 8 false (.step 10 true (.step 11 false (.nil))))))))))))) hS.now (by kernel_rfl) (by kernel_rfl) (by rfl) (by kernel_rfl) ?_
    generalize W.drew = wd at hBd hS hInD ⊢
    have hBs := hBd.size
    have hw1 : IntKind.i64.wrap (L : Int) = (L : Int) := by rw [IntKind.wrap_i64]; omega
    have hw2 : IntKind.i64.wrap ((L : Int) + 1) = (L : Int) + 1 := by rw [IntKind.wrap_i64]; omega
    iterate 4 (refine plan_read rfl (by rfl) (v := ?_) ?_ ?_; rotate_left 1; (intro W hW; (try dsimp only at hW); obtain ⟨hW0, hW1⟩ := hW; go_simp <;> with_reducible rfl); simp only [List.getElem_toArray, List.getElem_cons_zero, List.getElem_cons_succ, Act.put, List.setIfInBounds_toArray, List.set_cons_zero, List.set_cons_succ])
    clear hw1 hw2
    refine plan_fork rfl rfl (by rfl) (by rfl) (fun K hK => ?_) (fun K hK => ?_)
    · go_simp
      have hrm : Rd vB (wd.alloc (.cells X.toArray 5)) (some ⟨wd.heap.size, 0, none⟩) bl := HXX.out wd
      have hbm := below_new (Below.refl wd.heap.size wd) (.cells X.toArray 5)
      refine hK.out _ _ (hS.keep hbm) ?_
      clear hK K
      generalize hgm : wd.heap.size = gm at hrm ⊢
      generalize wd.alloc (.cells X.toArray 5) = wm at hrm hbm ⊢
      refine plan_fork rfl rfl (by rfl) (by rfl) (fun K hK => ?_) (fun K hK => ?_)
      · go_simp
        refine (HWR.out _ _ (hInD.keep hbm) hrm).mono ?_
        rintro e' wy ⟨y, rfl, hIy, hFy, hby⟩
        have hbw := below_step hbm hby
        replace hFy : FreshD W.heap.size y := hFy.mono (by have := hBd.size; have := (hbm).size; omega)
        refine hK.out _ _ (hS.keep hbw) ?_
        clear hK K
        unfold aggD
        iterate 3 (refine plan_read rfl (by rfl) (v := ?_) ?_ ?_; rotate_left 1; (intro W hW; (try dsimp only at hW); obtain ⟨hW0, hW1⟩ := hW; go_simp <;> with_reducible rfl); simp only [List.getElem_toArray, List.getElem_cons_zero, List.getElem_cons_succ, Act.put, List.setIfInBounds_toArray, List.set_cons_zero, List.set_cons_succ])
        refine plan_make_of rfl (by rfl) (fun K hK => ?_)
        obtain ⟨hRz, hbz⟩ := box_of wy 27 [Value.slice none 0 0, .int .i64 0, .slice none 0 0, .int .i64 0, .int .i64 0, .int .i64 0, .bool false] _ rfl
        go_simp
        have hbq := below_step hbw hbz
        refine hK.out _ _ (hS.keep hbq) ?_
        clear hK K
        replace hIy := hIy.keep hbz
        have hgz : wd.heap.size ≤ wy.heap.size := hbw.size
        clear hbw
        generalize hwz : wy.alloc (.cells [Value.slice none 0 0, .int .i64 0, .slice none 0 0, .int .i64 0, .int .i64 0, .int .i64 0, .bool false].toArray 27) = wz at hRz hbq hIy ⊢
        generalize wy.heap.size = gz at hRz hgz ⊢
        (refine plan_make_of rfl (by rfl) (fun K hK => ?_); refine Row.wp_store 27 (.tmp 6) (.tmp 30) rfl rfl (cellsD y DS) rfl hRz (by exact size_disk) rfl (one_disk y DS) ?_; refine hK.out _ _ (hS.keep (below_setRow hbq (by omega) _)) ?_; clear hK K)
        iterate 1 (refine plan_read rfl (by rfl) (v := ?_) ?_ ?_; rotate_left 1; (intro W hW; (try dsimp only at hW); obtain ⟨hW0, hW1⟩ := hW; go_simp <;> with_reducible rfl); simp only [List.getElem_toArray, List.getElem_cons_zero, List.getElem_cons_succ, Act.put, List.setIfInBounds_toArray, List.set_cons_zero, List.set_cons_succ])
        refine plan_done ?_
        have HREL : Hid (CutW W DS er (.pointer (some ⟨gz, 0, none⟩)) (.int .i64 er) (wz.setRow gz (cellsD y DS).toArray)) := ⟨gz, y, rfl, rfl, by have := hBd.size; omega, hRz.setRow _, hIy.no_byte hRz (disk_no none 0 0 0 none 0 0 0 0 0 false) ((Only.refl _ _).setRow _), hFy, below_step hBd (below_setRow hbq (by omega) _)⟩
        go_wp2_with fail
        go_meet
        case rel => exact HREL.out
      · obtain ⟨hRz, hbz⟩ := box_of wm 27 [Value.slice none 0 0, .int .i64 0, .slice none 0 0, .int .i64 0, .int .i64 0, .int .i64 0, .bool false] _ rfl
        go_simp
        have hbq := below_step hbm hbz
        have hgz : wd.heap.size ≤ wm.heap.size := (hbm).size
        refine hK.out _ _ (hS.keep hbq) ?_
        clear hK K
        have hrm2 := hrm.keep hbz
        clear hbz
        generalize wm.alloc (.cells [Value.slice none 0 0, .int .i64 0, .slice none 0 0, .int .i64 0, .int .i64 0, .int .i64 0, .bool false].toArray 27) = wq at hRz hbq hrm2 ⊢
        generalize wm.heap.size = gz at hRz hgz ⊢
        refine plan_make_of rfl (by rfl) (fun K hK => ?_)
        go_simp
        refine (HWR.out _ _ (hInD.keep hbq) hrm2).mono ?_
        rintro e' wz ⟨y, rfl, hIy, hFy, hby⟩
        replace hRz := hRz.later hby
        have hgz2 := hbq.size
        replace hFy : FreshD W.heap.size y := hFy.mono (by have := hBd.size; omega)
        replace hbq := below_step hbq hby
        refine hK.out _ _ (hS.keep hbq) ?_
        clear hK K
        unfold aggD
        iterate 3 (refine plan_read rfl (by rfl) (v := ?_) ?_ ?_; rotate_left 1; (intro W hW; (try dsimp only at hW); obtain ⟨hW0, hW1⟩ := hW; go_simp <;> with_reducible rfl); simp only [List.getElem_toArray, List.getElem_cons_zero, List.getElem_cons_succ, Act.put, List.setIfInBounds_toArray, List.set_cons_zero, List.set_cons_succ])
        (refine plan_make_of rfl (by rfl) (fun K hK => ?_); refine Row.wp_store 27 (.tmp 6) (.tmp 30) rfl rfl (cellsD y DS) rfl hRz (by exact size_disk) rfl (one_disk y DS) ?_; refine hK.out _ _ (hS.keep (below_setRow hbq (by omega) _)) ?_; clear hK K)
        iterate 1 (refine plan_read rfl (by rfl) (v := ?_) ?_ ?_; rotate_left 1; (intro W hW; (try dsimp only at hW); obtain ⟨hW0, hW1⟩ := hW; go_simp <;> with_reducible rfl); simp only [List.getElem_toArray, List.getElem_cons_zero, List.getElem_cons_succ, Act.put, List.setIfInBounds_toArray, List.set_cons_zero, List.set_cons_succ])
        refine plan_done ?_
        have HREL : Hid (CutW W DS er (.pointer (some ⟨gz, 0, none⟩)) (.int .i64 er) (wz.setRow gz (cellsD y DS).toArray)) := ⟨gz, y, rfl, rfl, by have := hBd.size; omega, hRz.setRow _, hIy.no_byte hRz (disk_no none 0 0 0 none 0 0 0 0 0 false) ((Only.refl _ _).setRow _), hFy, below_step hBd (below_setRow hbq (by omega) _)⟩
        go_wp2_with fail
        go_meet
        case rel => exact HREL.out
    · obtain ⟨hRz, hbz⟩ := box_of wd 27 [Value.slice none 0 0, .int .i64 0, .slice none 0 0, .int .i64 0, .int .i64 0, .int .i64 0, .bool false] _ rfl
      go_simp
      have hbq := below_step (Below.refl wd.heap.size wd) hbz
      have hgz : wd.heap.size ≤ wd.heap.size := ((Below.refl wd.heap.size wd)).size
      refine hK.out _ _ (hS.keep hbq) ?_
      clear hK K
      clear hbz
      generalize wd.alloc (.cells [Value.slice none 0 0, .int .i64 0, .slice none 0 0, .int .i64 0, .int .i64 0, .int .i64 0, .bool false].toArray 27) = wq at hRz hbq ⊢
      refine plan_make_of rfl (by rfl) (fun K hK => ?_)
      go_simp
      have hrm : Rd vB (wq.alloc (.cells X.toArray 5)) (some ⟨wq.heap.size, 0, none⟩) bl := HXX.out wq
      have hbm := below_new (Below.refl _ wq) (.cells X.toArray 5)
      replace hRz := hRz.later hbm
      replace hbq := below_step hbq hbm
      refine hK.out _ _ (hS.keep hbq) ?_
      clear hK K hbm
      generalize wq.heap.size = gm at hrm ⊢
      generalize wq.alloc (.cells X.toArray 5) = wq at hrm hbq hRz ⊢
      refine plan_make_of rfl (by rfl) (fun K hK => ?_)
      go_simp
      refine (HWR.out _ _ (hInD.keep hbq) hrm).mono ?_
      rintro e' wz ⟨y, rfl, hIy, hFy, hby⟩
      replace hRz := hRz.later hby
      have hgz2 := hbq.size
      replace hFy : FreshD W.heap.size y := hFy.mono (by have := hBd.size; omega)
      replace hbq := below_step hbq hby
      refine hK.out _ _ (hS.keep hbq) ?_
      clear hK K
      unfold aggD
      iterate 3 (refine plan_read rfl (by rfl) (v := ?_) ?_ ?_; rotate_left 1; (intro W hW; (try dsimp only at hW); obtain ⟨hW0, hW1⟩ := hW; go_simp <;> with_reducible rfl); simp only [List.getElem_toArray, List.getElem_cons_zero, List.getElem_cons_succ, Act.put, List.setIfInBounds_toArray, List.set_cons_zero, List.set_cons_succ])
      (refine plan_make_of rfl (by rfl) (fun K hK => ?_); refine Row.wp_store 27 (.tmp 6) (.tmp 30) rfl rfl (cellsD y DS) rfl hRz (by exact size_disk) rfl (one_disk y DS) ?_; refine hK.out _ _ (hS.keep (below_setRow hbq (by omega) _)) ?_; clear hK K)
      iterate 1 (refine plan_read rfl (by rfl) (v := ?_) ?_ ?_; rotate_left 1; (intro W hW; (try dsimp only at hW); obtain ⟨hW0, hW1⟩ := hW; go_simp <;> with_reducible rfl); simp only [List.getElem_toArray, List.getElem_cons_zero, List.getElem_cons_succ, Act.put, List.setIfInBounds_toArray, List.set_cons_zero, List.set_cons_succ])
      refine plan_done ?_
      have HREL : Hid (CutW W DS er (.pointer (some ⟨wd.heap.size, 0, none⟩)) (.int .i64 er) (wz.setRow wd.heap.size (cellsD y DS).toArray)) := ⟨wd.heap.size, y, rfl, rfl, by have := hBd.size; omega, hRz.setRow _, hIy.no_byte hRz (disk_no none 0 0 0 none 0 0 0 0 0 false) ((Only.refl _ _).setRow _), hFy, below_step hBd (below_setRow hbq (by omega) _)⟩
      go_wp2_with fail
      go_meet
      case rel => exact HREL.out
  case rest =>
    rename World => wx
    obtain ⟨g6, y, rfl, rfl, hg6, hR6, hIy, hFy, hb⟩ := hcut
    have e12 := HER.out
    subst e12
    have eD := HDS.out
    subst eD
    have hyn : y.n0 = N := by have h1 := hIy.l0; have h2 := hIn.l0; have h3 := HXN.out.1; omega
    have hRx2 := hRx.later hb
    replace hIn := hIn.keep hb
    have HBW := below_step hB hb
    have k4 : wx.cell? ⟨g6, 4, none⟩ = some (.int .i64 (Y : Int)) := by have : wx.cell? ⟨g6, 4, none⟩ = some (.int .i64 D.fuse) := hR6.cell rfl; rw [this, HDF.out.1]
    have k0 : wx.cell? ⟨g6, 0, none⟩ = some (.slice y.A0 N y.c0) := by have : wx.cell? ⟨g6, 0, none⟩ = some (.slice y.A0 y.n0 y.c0) := hR6.cell rfl; rw [this, hyn]
    have k6 : wx.cell? ⟨g6, 6, none⟩ = some (.bool false) := by have : wx.cell? ⟨g6, 6, none⟩ = some (.bool D.down) := hR6.cell rfl; rw [this, HDF.out.2.2]
    have j0 : wx.cell? ⟨g, 0, none⟩ = some (.slice x.A0 N x.c0) := by have : wx.cell? ⟨g, 0, none⟩ = some (.slice x.A0 x.n0 x.c0) := hRx2.cell rfl; rw [this, HXN.out.1]
    clear hyn hb hB hRx hR6 hIy hFy HWR HXX HBL HFM hmk
    go_upto_region 9 with fail
    clear k4 k0 k6 j0
    rename Row wx g _ _ => hRx
    rename Below w.heap.size w wx => hB
    obtain ⟨bl, hbl⟩ : ∃ bl, List.replicate L (0 : UInt8) = bl := ⟨_, rfl⟩
    obtain ⟨X, hX⟩ : ∃ X, bl.map vB = X := ⟨_, rfl⟩
    have HBL : Hid (bl.length = L) := by unfold Hid; rw [← hbl, List.length_replicate]
    have HXX : Hid (∀ W : World, Rd vB (W.alloc (.cells X.toArray 5)) (some ⟨W.heap.size, 0, none⟩) bl) := fun W => Rd.new W bl _ _ (by rw [hX])
    have hmk : ∀ W, (Instr.makeSlice 22 (.int .i64 (L : Int)) (.int .i64 (L : Int))).run Try.prog W = .ok (.slice (some ⟨W.heap.size, 0, none⟩) L L) (W.alloc (.cells X.toArray 5)) := fun W => by
      have := make_zeros L (by omega) W
      rw [hbl, hX] at this
      exact this
    obtain ⟨D2, er, hSO, HFF2⟩ := HFF.out bl HBL.out
    clear hbl hX
    obtain ⟨DS, hDS⟩ : ∃ DS, D2 = DS := ⟨_, rfl⟩
    rw [hDS] at hSO HFF2
    replace HFF2 := Lib.hid HFF2
    clear hDS
    have HWR : Hid (∀ (wq : World) (a : Addr), InD wq x D → Rd vB wq (some a) bl → Calls Try.prog 8 #[.agg #[Value.slice x.A0 x.n0 x.c0, .int .i64 D.a0.s, .slice x.A1 x.n1 x.c1, .int .i64 D.a1.s, .int .i64 D.fuse, .int .i64 D.keep, .bool D.down], .int .i64 0, .slice (some a) L L] wq (RetD wq DS er)) := fun wq a h1 h2 => by
      have := write17_any x D 0 bl (some a) L L wq h1 HBL (Nat.le_refl _) h2 hxn0 hxn1 (by omega) hDf0 hDk0
      rw [hSO] at this
      unfold aggD at this
      exact this
    clear hSO
    go_cut [8, 9] (fun vp ve wcut => CutW wx DS er vp ve wcut)
    case first =>
      have hBd : Below wx.heap.size wx wx.drew := (Below.refl _ _).drew
      have hS : DkS g x D (fun _ => True) wx.drew := DkS.of (hRx.later hBd) (fun _ _ => trivial)
      have hInD := hIn.keep hBd
      refine wp_region_plan_of (dkS g x D (fun _ => True)) (.step 0 false (.step 1 false (.step 2 false (.fork 3 (.fork 4 (.step 5 false (.step 6 false (.step 7 false (.step 8 true (.step 9 true (.step 10 false (.nil))))))) 8 (.step 4 true (.step 5 false (.step 6 false (.step 7 false (.step 9 true (.step 10 false (.nil)))))))) 8 (.step 3 true (.step 4 true (.step 5 false (.step 6 false (.step 7 false (.step 9 true (.step 10 false (.nil)))))))))))) hS.now (by kernel_rfl) (by kernel_rfl) (by rfl) (by kernel_rfl) ?_
      generalize wx.drew = wd at hBd hS hInD ⊢
      have hBs := hBd.size
      have hw1 : IntKind.i64.wrap (L : Int) = (L : Int) := by rw [IntKind.wrap_i64]; omega
      iterate 3 (refine plan_read rfl (by rfl) (v := ?_) ?_ ?_; rotate_left 1; (intro W hW; (try dsimp only at hW); obtain ⟨hW0, hW1⟩ := hW; go_simp <;> with_reducible rfl); simp only [List.getElem_toArray, List.getElem_cons_zero, List.getElem_cons_succ, Act.put, List.setIfInBounds_toArray, List.set_cons_zero, List.set_cons_succ])
      clear hw1
      refine plan_fork rfl rfl (by rfl) (by rfl) (fun K hK => ?_) (fun K hK => ?_)
      · go_simp
        have hrm : Rd vB (wd.alloc (.cells X.toArray 5)) (some ⟨wd.heap.size, 0, none⟩) bl := HXX.out wd
        have hbm := below_new (Below.refl wd.heap.size wd) (.cells X.toArray 5)
        refine hK.out _ _ (hS.keep hbm) ?_
        clear hK K
        generalize hgm : wd.heap.size = gm at hrm ⊢
        generalize wd.alloc (.cells X.toArray 5) = wm at hrm hbm ⊢
        refine plan_fork rfl rfl (by rfl) (by rfl) (fun K hK => ?_) (fun K hK => ?_)
        · go_simp
          refine (HWR.out _ _ (hInD.keep hbm) hrm).mono ?_
          rintro e' wy ⟨y, rfl, hIy, hFy, hby⟩
          have hbw := below_step hbm hby
          replace hFy : FreshD wx.heap.size y := hFy.mono (by have := hBd.size; have := (hbm).size; omega)
          refine hK.out _ _ (hS.keep hbw) ?_
          clear hK K
          unfold aggD
          iterate 3 (refine plan_read rfl (by rfl) (v := ?_) ?_ ?_; rotate_left 1; (intro W hW; (try dsimp only at hW); obtain ⟨hW0, hW1⟩ := hW; go_simp <;> with_reducible rfl); simp only [List.getElem_toArray, List.getElem_cons_zero, List.getElem_cons_succ, Act.put, List.setIfInBounds_toArray, List.set_cons_zero, List.set_cons_succ])
          refine plan_make_of rfl (by rfl) (fun K hK => ?_)
          obtain ⟨hRz, hbz⟩ := box_of wy 27 [Value.slice none 0 0, .int .i64 0, .slice none 0 0, .int .i64 0, .int .i64 0, .int .i64 0, .bool false] _ rfl
          go_simp
          have hbq := below_step hbw hbz
          refine hK.out _ _ (hS.keep hbq) ?_
          clear hK K
          replace hIy := hIy.keep hbz
          have hgz : wd.heap.size ≤ wy.heap.size := hbw.size
          clear hbw
          generalize hwz : wy.alloc (.cells [Value.slice none 0 0, .int .i64 0, .slice none 0 0, .int .i64 0, .int .i64 0, .int .i64 0, .bool false].toArray 27) = wz at hRz hbq hIy ⊢
          generalize wy.heap.size = gz at hRz hgz ⊢
          (refine plan_make_of rfl (by rfl) (fun K hK => ?_); refine Row.wp_store 27 (.tmp 8) (.tmp 64) rfl rfl (cellsD y DS) rfl hRz (by exact size_disk) rfl (one_disk y DS) ?_; refine hK.out _ _ (hS.keep (below_setRow hbq (by omega) _)) ?_; clear hK K)
          iterate 1 (refine plan_read rfl (by rfl) (v := ?_) ?_ ?_; rotate_left 1; (intro W hW; (try dsimp only at hW); obtain ⟨hW0, hW1⟩ := hW; go_simp <;> with_reducible rfl); simp only [List.getElem_toArray, List.getElem_cons_zero, List.getElem_cons_succ, Act.put, List.setIfInBounds_toArray, List.set_cons_zero, List.set_cons_succ])
          refine plan_done ?_
          have HREL : Hid (CutW wx DS er (.pointer (some ⟨gz, 0, none⟩)) (.int .i64 er) (wz.setRow gz (cellsD y DS).toArray)) := ⟨gz, y, rfl, rfl, by have := hBd.size; omega, hRz.setRow _, hIy.no_byte hRz (disk_no none 0 0 0 none 0 0 0 0 0 false) ((Only.refl _ _).setRow _), hFy, below_step hBd (below_setRow hbq (by omega) _)⟩
          go_wp2_with fail
          go_meet
          case rel => exact HREL.out
        · obtain ⟨hRz, hbz⟩ := box_of wm 27 [Value.slice none 0 0, .int .i64 0, .slice none 0 0, .int .i64 0, .int .i64 0, .int .i64 0, .bool false] _ rfl
          go_simp
          have hbq := below_step hbm hbz
          have hgz : wd.heap.size ≤ wm.heap.size := (hbm).size
          refine hK.out _ _ (hS.keep hbq) ?_
          clear hK K
          have hrm2 := hrm.keep hbz
          clear hbz
          generalize wm.alloc (.cells [Value.slice none 0 0, .int .i64 0, .slice none 0 0, .int .i64 0, .int .i64 0, .int .i64 0, .bool false].toArray 27) = wq at hRz hbq hrm2 ⊢
          generalize wm.heap.size = gz at hRz hgz ⊢
          refine plan_make_of rfl (by rfl) (fun K hK => ?_)
          go_simp
          refine (HWR.out _ _ (hInD.keep hbq) hrm2).mono ?_
          rintro e' wz ⟨y, rfl, hIy, hFy, hby⟩
          replace hRz := hRz.later hby
          have hgz2 := hbq.size
          replace hFy : FreshD wx.heap.size y := hFy.mono (by have := hBd.size; omega)
          replace hbq := below_step hbq hby
          refine hK.out _ _ (hS.keep hbq) ?_
          clear hK K
          unfold aggD
          iterate 3 (refine plan_read rfl (by rfl) (v := ?_) ?_ ?_; rotate_left 1; (intro W hW; (try dsimp only at hW); obtain ⟨hW0, hW1⟩ := hW; go_simp <;> with_reducible rfl); simp only [List.getElem_toArray, List.getElem_cons_zero, List.getElem_cons_succ, Act.put, List.setIfInBounds_toArray, List.set_cons_zero, List.set_cons_succ])
          (refine plan_make_of rfl (by rfl) (fun K hK => ?_); refine Row.wp_store 27 (.tmp 8) (.tmp 64) rfl rfl (cellsD y DS) rfl hRz (by exact size_disk) rfl (one_disk y DS) ?_; refine hK.out _ _ (hS.keep (below_setRow hbq (by omega) _)) ?_; clear hK K)
          iterate 1 (refine plan_read rfl (by rfl) (v := ?_) ?_ ?_; rotate_left 1; (intro W hW; (try dsimp only at hW); obtain ⟨hW0, hW1⟩ := hW; go_simp <;> with_reducible rfl); simp only [List.getElem_toArray, List.getElem_cons_zero, List.getElem_cons_succ, Act.put, List.setIfInBounds_toArray, List.set_cons_zero, List.set_cons_succ])
          refine plan_done ?_
          have HREL : Hid (CutW wx DS er (.pointer (some ⟨gz, 0, none⟩)) (.int .i64 er) (wz.setRow gz (cellsD y DS).toArray)) := ⟨gz, y, rfl, rfl, by have := hBd.size; omega, hRz.setRow _, hIy.no_byte hRz (disk_no none 0 0 0 none 0 0 0 0 0 false) ((Only.refl _ _).setRow _), hFy, below_step hBd (below_setRow hbq (by omega) _)⟩
          go_wp2_with fail
          go_meet
          case rel => exact HREL.out
      · obtain ⟨hRz, hbz⟩ := box_of wd 27 [Value.slice none 0 0, .int .i64 0, .slice none 0 0, .int .i64 0, .int .i64 0, .int .i64 0, .bool false] _ rfl
        go_simp
        have hbq := below_step (Below.refl wd.heap.size wd) hbz
        have hgz : wd.heap.size ≤ wd.heap.size := ((Below.refl wd.heap.size wd)).size
        refine hK.out _ _ (hS.keep hbq) ?_
        clear hK K
        clear hbz
        generalize wd.alloc (.cells [Value.slice none 0 0, .int .i64 0, .slice none 0 0, .int .i64 0, .int .i64 0, .int .i64 0, .bool false].toArray 27) = wq at hRz hbq ⊢
        refine plan_make_of rfl (by rfl) (fun K hK => ?_)
        go_simp
        have hrm : Rd vB (wq.alloc (.cells X.toArray 5)) (some ⟨wq.heap.size, 0, none⟩) bl := HXX.out wq
        have hbm := below_new (Below.refl _ wq) (.cells X.toArray 5)
        replace hRz := hRz.later hbm
        replace hbq := below_step hbq hbm
        refine hK.out _ _ (hS.keep hbq) ?_
        clear hK K hbm
        generalize wq.heap.size = gm at hrm ⊢
        generalize wq.alloc (.cells X.toArray 5) = wq at hrm hbq hRz ⊢
        refine plan_make_of rfl (by rfl) (fun K hK => ?_)
        go_simp
        refine (HWR.out _ _ (hInD.keep hbq) hrm).mono ?_
        rintro e' wz ⟨y, rfl, hIy, hFy, hby⟩
        replace hRz := hRz.later hby
        have hgz2 := hbq.size
        replace hFy : FreshD wx.heap.size y := hFy.mono (by have := hBd.size; omega)
        replace hbq := below_step hbq hby
        refine hK.out _ _ (hS.keep hbq) ?_
        clear hK K
        unfold aggD
        iterate 3 (refine plan_read rfl (by rfl) (v := ?_) ?_ ?_; rotate_left 1; (intro W hW; (try dsimp only at hW); obtain ⟨hW0, hW1⟩ := hW; go_simp <;> with_reducible rfl); simp only [List.getElem_toArray, List.getElem_cons_zero, List.getElem_cons_succ, Act.put, List.setIfInBounds_toArray, List.set_cons_zero, List.set_cons_succ])
        (refine plan_make_of rfl (by rfl) (fun K hK => ?_); refine Row.wp_store 27 (.tmp 8) (.tmp 64) rfl rfl (cellsD y DS) rfl hRz (by exact size_disk) rfl (one_disk y DS) ?_; refine hK.out _ _ (hS.keep (below_setRow hbq (by omega) _)) ?_; clear hK K)
        iterate 1 (refine plan_read rfl (by rfl) (v := ?_) ?_ ?_; rotate_left 1; (intro W hW; (try dsimp only at hW); obtain ⟨hW0, hW1⟩ := hW; go_simp <;> with_reducible rfl); simp only [List.getElem_toArray, List.getElem_cons_zero, List.getElem_cons_succ, Act.put, List.setIfInBounds_toArray, List.set_cons_zero, List.set_cons_succ])
        refine plan_done ?_
        have HREL : Hid (CutW wx DS er (.pointer (some ⟨wd.heap.size, 0, none⟩)) (.int .i64 er) (wz.setRow wd.heap.size (cellsD y DS).toArray)) := ⟨wd.heap.size, y, rfl, rfl, by have := hBd.size; omega, hRz.setRow _, hIy.no_byte hRz (disk_no none 0 0 0 none 0 0 0 0 0 false) ((Only.refl _ _).setRow _), hFy, below_step hBd (below_setRow hbq (by omega) _)⟩
        go_wp2_with fail
        go_meet
        case rel => exact HREL.out
    case rest =>
      rename World => w9
      obtain ⟨g9, y9, rfl, rfl, hg9, hR9, hIy, hFy, hb⟩ := hcut
      have HBX := below_step hB hb
      have hyl := hIy.l0
      rcases HFF2.out with ⟨q0, q1, q2, q3⟩ | ⟨q0, q1, q2⟩
      · subst q1
        have hyn : y9.n0 = 1048576 := by omega
        have k4 : w9.cell? ⟨g9, 4, none⟩ = some (.int .i64 ((Y : Int) - 1)) := by have : w9.cell? ⟨g9, 4, none⟩ = some (.int .i64 DS.fuse) := hR9.cell rfl; rw [this, q3]
        have k0 : w9.cell? ⟨g9, 0, none⟩ = some (.slice y9.A0 1048576 y9.c0) := by have : w9.cell? ⟨g9, 0, none⟩ = some (.slice y9.A0 y9.n0 y9.c0) := hR9.cell rfl; rw [this, hyn]
        clear hyn hyl q2 q3 hb hB hRx hR9 hIy hFy HWR HXX HBL hmk HFF2
        go_wp2_with fail
        go_ret
        exact ⟨rfl, HBX⟩
      · subst q1
        subst q0
        have k6 : w9.cell? ⟨g9, 6, none⟩ = some (.bool true) := by have : w9.cell? ⟨g9, 6, none⟩ = some (.bool DS.down) := hR9.cell rfl; rw [this, q2]
        clear hyl q2 hb hB hRx hR9 hIy hFy HWR HXX HBL hmk HFF2
        go_wp2_with fail
        go_ret
        exact ⟨rfl, HBX⟩
end Go.Proofs.Ytkkfkibjamnpnaa
/-
  The law DiskFull, at whatever comes in: it answers true, and writes nothing that was there. No conditions.
-/
namespace Go.Proofs.Ytkkfkibjamnpnaa
set_option maxRecDepth 100000
open Go.RowKit Go.Deep Go.WideShapes Go.ChangeShapes
set_option linter.unusedSimpArgs false
set_option linter.unusedVariables false

theorem diskfull_any (v0 v1 : Value) (W : World) {H : Type} {enc : TypeId × Value → H} {base : Nat} {d0 d1 : DataW H} {p0 p1 : List MemPlace}
    (hv0 : Value.okWide Try.prog W .any base 42 v0) (ht0 : DataW.Trod enc Try.prog W 0 (fun _ => true) true 42 v0 d0 p0) (hv1 : Value.okWide Try.prog W .any base 5 v1) (ht1 : DataW.Trod enc Try.prog W 0 (fun _ => true) true 5 v1 d1 p1) :
    Calls Try.prog 4 #[v0, v1] W fun e w' => e = .returned (.bool true) ∧ Below W.heap.size W w' := by
  obtain ⟨L, rfl, hL⟩ := open_n16 hv0 ht0
  obtain ⟨Y, rfl, hY⟩ := open_n8 hv1 ht1
  exact diskfull_walk L Y W hL hY
end Go.Proofs.Ytkkfkibjamnpnaa
