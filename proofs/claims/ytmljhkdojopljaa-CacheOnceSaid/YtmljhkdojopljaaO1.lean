/-
  Words for memory (no program is named here): a slice value that reads as a list, kept while nothing that was there is written; a slice cut; bytes made into a string. No conditions but those typed.
-/
import Derived.Below
import Derived.Laws.OwnMore
import Derived.Deep.Draws
import Derived.Deep.AppendLies
import Derived.Laws.BytesArg
import Derived.Laws.Slices
import Derived.Laws.MakeOwn
import Derived.OwnWalk
import Derived.OrdersHeld
import Derived.Deep.RegionHeld3
import Derived.Deep.MidRow
import Derived.Laws.CopyOwn
import Derived.Lib.SliceRun
import Derived.Laws.ResultCell
import Derived.Maps.AppendAt
import Derived.Test.YtmljhkdojopljaaRows
import Derived.WalkKit
import Derived.WalkSpells
import Derived.Lib.Hide
import Derived.LoopTactic
import Derived.Deep.DeepCutAuto
namespace Go.Proofs.Ytmljhkdojopljaa
set_option maxRecDepth 100000
open Go.RowKit

def vB (c : UInt8) : Value := .int .u8 (c.toNat : Int)
def vW (c : UInt32) : Value := .int .u32 (c.toNat : Int)

/-- The slice value with address A reads, in world w, as the list l. -/
def Rd {α : Type} (f : α → Value) (w : World) (A : Option Addr) (l : List α) : Prop :=
  l ≠ [] → ∃ b o, A = some ⟨b, o, none⟩ ∧ ∀ i (h : i < l.length), w.cell? ⟨b, o + i, none⟩ = some (f l[i])

section
variable {α : Type} {f : α → Value} {w w' : World} {A : Option Addr} {l : List α}
theorem Rd.nil : Rd f w A [] := fun h => absurd rfl h
theorem Rd.keep (h : Rd f w A l) (hb : Below w.heap.size w w') : Rd f w' A l := fun hn => by
  obtain ⟨b, o, e, hc⟩ := h hn
  refine ⟨b, o, e, fun i hi => ?_⟩
  have := hc i hi
  rw [hb.cell (p := ⟨b, o + i, none⟩) (World.block_lt_of_cell? w _ this)]
  exact this
theorem Rd.at (h : Rd f w A l) {k : Nat} (hk : k < l.length) : ∃ b o, A = some ⟨b, o, none⟩ ∧ b < w.heap.size ∧ ∀ i (hi : i < l.length), w.cell? ⟨b, o + i, none⟩ = some (f l[i]) := by
  obtain ⟨b, o, e, hc⟩ := h (by rintro rfl; simp at hk)
  exact ⟨b, o, e, World.block_lt_of_cell? w _ (hc k hk), hc⟩
theorem Rd.new (w : World) (l : List α) (cs : Array Value) (e : TypeId) (h : cs = (l.map f).toArray) : Rd f (w.alloc (.cells cs e)) (some ⟨w.heap.size, 0, none⟩) l := fun _ => by
  refine ⟨w.heap.size, 0, rfl, fun i hi => ?_⟩
  subst h
  rw [cell_of_row _ w.heap.size (0 + i) _ e (0, 0) (heap_alloc_new w _)]
  simp [hi]
theorem Rd.new_at (w : World) (g : Nat) (hg : g = w.heap.size) (l : List α) (cs : Array Value) (e : TypeId) (h : cs = (l.map f).toArray) : Rd f (w.alloc (.cells cs e)) (some ⟨g, 0, none⟩) l := by
  subst hg
  exact Rd.new w l cs e h
theorem Rd.drop (h : Rd f w A l) (k : Nat) (cap : Nat) (hc : l.length ≤ cap) : Rd f w (if cap = k then A else A.map (·.add (k * 1))) (l.drop k) := fun hn => by
  have hk : k < l.length := by
    rcases Nat.lt_or_ge k l.length with h | h
    · exact h
    · exact absurd (List.drop_eq_nil_of_le h) hn
  obtain ⟨b, o, e, hcell⟩ := h (by rintro rfl; simp at hk)
  subst e
  rw [if_neg (by omega)]
  refine ⟨b, o + k, by simp [Addr.add], fun i hi => ?_⟩
  have hi' : k + i < l.length := by simp at hi; omega
  rw [Nat.add_assoc, hcell (k + i) hi']
  simp
theorem Rd.take (h : Rd f w A l) (k : Nat) : Rd f w A (l.take k) := fun hn => by
  obtain ⟨b, o, e, hcell⟩ := h (by rintro rfl; simp at hn)
  refine ⟨b, o, e, fun i hi => ?_⟩
  have hi' : i < l.length := by simp at hi; omega
  rw [hcell i hi']
  simp
theorem Rd.news {b o : Nat} (h : Rd f w (some ⟨b, o, none⟩) l) (j : Nat) (u : Value) (hu : (l.map f)[j]? = some u) : w.cell? ((⟨b, o, none⟩ : Addr).add j) = some u := by
  have hj : j < l.length := by
    rcases Nat.lt_or_ge j l.length with h | h
    · exact h
    · rw [List.getElem?_eq_none (by simpa using h)] at hu
      cases hu
  obtain ⟨b', o', e, hc⟩ := h (by rintro rfl; simp at hj)
  injection e with e
  injection e with e1 e2 _
  subst e1 e2
  have e1 : (⟨b, o, none⟩ : Addr).add j = ⟨b, o + j, none⟩ := by unfold Addr.add; split <;> simp_all
  rw [e1, hc j hj]
  simpa [hj] using hu
theorem Rd.own {base : Nat} {e : TypeId} {n c : Nat} (h : w.ownsRow base e 1 (.slice A n c) n (l.map f)) : Rd f w A l := fun hn => by
  have hl : l.length = n := by simpa using h.1
  have hpos : 0 < n := by
    rcases Nat.eq_zero_or_pos n with h0 | h0
    · exact absurd (List.eq_nil_of_length_eq_zero (by omega)) hn
    · exact h0
  obtain ⟨g, cap, hv, _, hlt⟩ := h.form hpos
  have hA : A = some ⟨g, 0, none⟩ := by injection hv
  subst hA
  refine ⟨g, 0, rfl, fun i hi => ?_⟩
  have := h.cells (g := g) rfl i (f l[i]) (by simp [hi])
  have e1 : (⟨g, 0, none⟩ : Addr).add i = ⟨g, 0 + i, none⟩ := by unfold Addr.add; split <;> simp_all
  rw [← e1]
  exact this
end

/-- 's[k:]': one name for the address that is left. -/
theorem cut_from {P : Program} (t e : TypeId) (ht : P.underlying t = some (.slice e)) (hz : ∀ w, (sizeOf e).run P w = .ok 1 w) (A : Option Addr) (n cap k : Nat) (hk : k ≤ n) (hc : n ≤ cap) :
    ∃ A', (∀ w, (Instr.slice t (.slice A n cap) (some (.int .i64 (k : Int))) none none).run P w = .ok (.slice A' (n - k) (cap - k)) w) ∧
      ∀ {α : Type} (f : α → Value) (w : World) (l : List α), l.length = n → Rd f w A l → Rd f w A' (l.drop k) := by
  have ht' : P.underlying t = some (.slice (P.elem t)) := by simp [Program.elem, ht]
  have he : P.elem t = e := by simp [Program.elem, ht]
  refine ⟨if cap = k then A else A.map (·.add (k * 1)), fun w => ?_, fun f w l hl h => h.drop k cap (by omega)⟩
  rw [run_slice_l w t A n cap ht' .i64 (k : Int) (by omega) (by omega), he, hz]
  simp [Result.andThen, sliced]

theorem run_cut_to {P : Program} (t e : TypeId) (ht : P.underlying t = some (.slice e)) (hz : ∀ w, (sizeOf e).run P w = .ok 1 w) (A : Option Addr) (n cap k : Nat) (hk : k ≤ cap) (w : World) :
    (Instr.slice t (.slice A n cap) none (some (.int .i64 (k : Int))) none).run P w = .ok (.slice A k cap) w := by
  have ht' : P.underlying t = some (.slice (P.elem t)) := by simp [Program.elem, ht]
  have he : P.elem t = e := by simp [Program.elem, ht]
  have e2 : (if cap = 0 then A else A.map (·.add 0)) = A := by
    split
    · rfl
    · cases A <;> simp [Addr.add]
  rw [run_slice_h w t A n cap ht' .i64 (k : Int) (by omega) (by omega), he, hz]
  simp only [Result.andThen, sliced, Nat.zero_mul, Nat.sub_zero, Int.toNat_natCast, e2]
/-- 's[:k]'. -/
theorem cut_to {P : Program} (t e : TypeId) (ht : P.underlying t = some (.slice e)) (hz : ∀ w, (sizeOf e).run P w = .ok 1 w) (A : Option Addr) (n cap k : Nat) (hk : k ≤ cap) :
    ∃ A', (∀ w, (Instr.slice t (.slice A n cap) none (some (.int .i64 (k : Int))) none).run P w = .ok (.slice A' k cap) w) ∧
      ∀ {α : Type} (f : α → Value) (w : World) (l : List α), Rd f w A l → Rd f w A' (l.take k) :=
  ⟨A, fun w => run_cut_to t e ht hz A n cap k hk w, fun _ _ _ h => h.take k⟩

/-- 'string(b)'. -/
theorem run_str {P : Program} (w : World) (src e dst : TypeId) (hs : P.underlying src = some (.slice e)) (he : P.underlying e = some (.int .u8)) (hd : P.underlying dst = some .string)
    (A : Option Addr) (l : List UInt8) (n cap : Nat) (hn : l.length = n) (h : Rd vB w A l) : (convert src dst (.slice A n cap)).run P w = .ok (.string ⟨l.toArray⟩) w := by
  by_cases hl : l = []
  · subst hl
    subst hn
    cases A with
    | none => rw [run_convert_bytes_nil w src e hs he _ _ dst hd]; rfl
    | some a =>
      rw [run_convert_bytes_string w src dst e _ _ cap hs he hd, run_bytesToString w a _ cap [] (by
        have := run_loadCells_list (P := P) w a [] (fun j v hj => by simp at hj)
        simpa using this)]
      rfl
  · obtain ⟨b, o, rfl, hc⟩ := h hl
    rw [run_convert_bytes_arg w src e hs he b o n cap (l.map fun c => (c.toNat : Int)) (by simpa using hn) (fun i hi => by
      have hi' : i < l.length := by omega
      rw [hc i hi']
      simp [vB, List.getD, hi']) dst hd]
    have : strOfNums (l.map fun c => (c.toNat : Int)) = ⟨l.toArray⟩ := by
      unfold strOfNums
      congr 2
      rw [List.map_map]
      conv => rhs; rw [← List.map_id l]
      apply List.map_congr_left
      intro x _
      simp
    rw [this]

/-- 'string(b)', in every later world. -/
theorem run_str_later {P : Program} {w : World} {src e dst : TypeId} (hs : P.underlying src = some (.slice e)) (he : P.underlying e = some (.int .u8)) (hd : P.underlying dst = some .string)
    {A : Option Addr} {l : List UInt8} {cap : Nat} (h : Rd vB w A l) : ∀ W, Below w.heap.size w W → (convert src dst (.slice A l.length cap)).run P W = .ok (.string ⟨l.toArray⟩) W :=
  fun W hb => run_str W src e dst hs he hd A l l.length cap rfl (h.keep hb)

theorem cells_new (w : World) (cs : Array Value) (e : TypeId) (j : Nat) (u : Value) (h : cs.toList[j]? = some u) : (w.alloc (.cells cs e)).cell? ((⟨w.heap.size, 0, none⟩ : Addr).add j) = some u := by
  have e1 : (⟨w.heap.size, 0, none⟩ : Addr).add j = ⟨w.heap.size, j, none⟩ := by unfold Addr.add; split <;> simp_all
  rw [e1, cell_of_row _ w.heap.size j _ e (0, 0) (heap_alloc_new w _)]
  simpa using h

/-! ### What comes in -/
theorem u32_of_wf {a : Int} (h : (Lit.int .u32 a).wf = true) : ∃ x : UInt32, a = (x.toNat : Int) := by
  simp [Lit.wf, IntKind.min, IntKind.max, IntKind.signed, IntKind.bits] at h
  exact ⟨UInt32.ofNat a.toNat, by rw [UInt32.toNat_ofNat']; omega⟩
theorem u64_of_wf {a : Int} (h : (Lit.int .u64 a).wf = true) : ∃ v : Nat, v < 18446744073709551616 ∧ a = (v : Int) := by
  simp [Lit.wf, IntKind.min, IntKind.max, IntKind.signed, IntKind.bits] at h
  exact ⟨a.toNat, by omega, by omega⟩
theorem i64_of_wf {a : Int} (h : (Lit.int .i64 a).wf = true) : -9223372036854775808 ≤ a ∧ a ≤ 9223372036854775807 := by
  simp [Lit.wf, IntKind.min, IntKind.max, IntKind.signed, IntKind.bits] at h
  omega
theorem rd_of_row {α : Type} {f : α → Value} {k : IntKind} {w : World} {a : Option Addr} {len cap : Nat} {zs : List Int} (g : Int → α) (hg : ∀ n, (Lit.int k n).wf = true → f (g n) = .int k n)
    (h : (a = none ∧ len = 0 ∧ cap = 0 ∧ zs = []) ∨ ∃ x, a = some x ∧ len ≤ cap ∧ cap ≤ maxLen ∧ zs.length = cap ∧ (∀ i, i < zs.length → w.cell? (x.add i) = some (.int k (zs.getD i 0))) ∧ ∀ n ∈ zs, (Lit.int k n).wf = true) :
    ∃ l : List α, l.length = len ∧ len ≤ cap ∧ cap ≤ 9223372036854775807 ∧ Rd f w a l := by
  rcases h with ⟨rfl, rfl, rfl, rfl⟩ | ⟨x, rfl, hlc, hm, hz, hc, hwf⟩
  · exact ⟨[], rfl, Nat.le_refl _, by omega, Rd.nil⟩
  · unfold maxLen at hm
    refine ⟨(zs.take len).map g, by rw [List.length_map, List.length_take]; omega, hlc, by omega, fun hn => ?_⟩
    have hlen : 0 < len := by
      rcases Nat.eq_zero_or_pos len with h | h
      · subst h; simp at hn
      · exact h
    obtain ⟨b, o, spot⟩ := x
    have h0 := hc 0 (by omega)
    have hspot : spot = none := by simpa [Addr.add] using World.cell?_spot h0
    subst hspot
    refine ⟨b, o, rfl, fun i hi => ?_⟩
    have hi' : i < zs.length := by simp at hi; omega
    have e1 : (⟨b, o, none⟩ : Addr).add i = ⟨b, o + i, none⟩ := by unfold Addr.add; split <;> simp_all
    rw [← e1, hc i hi']
    have e2 : zs.getD i 0 = zs[i] := by simp [List.getD, hi']
    rw [e2]
    simp only [List.getElem_map, List.getElem_take]
    rw [hg _ (hwf _ (List.getElem_mem hi'))]
theorem bytes_of_row {w : World} {a : Option Addr} {len cap : Nat} {zs : List Int}
    (h : (a = none ∧ len = 0 ∧ cap = 0 ∧ zs = []) ∨ ∃ x, a = some x ∧ len ≤ cap ∧ cap ≤ maxLen ∧ zs.length = cap ∧ (∀ i, i < zs.length → w.cell? (x.add i) = some (.int .u8 (zs.getD i 0))) ∧ ∀ n ∈ zs, (Lit.int .u8 n).wf = true) :
    ∃ l : List UInt8, l.length = len ∧ len ≤ cap ∧ cap ≤ 9223372036854775807 ∧ Rd vB w a l :=
  rd_of_row (fun n => UInt8.ofNat n.toNat) (fun n hn => by
    simp [Lit.wf, IntKind.min, IntKind.max, IntKind.signed, IntKind.bits] at hn
    unfold vB
    rw [UInt8.toNat_ofNat']
    congr 1
    omega) h
theorem words_of_row {w : World} {a : Option Addr} {len cap : Nat} {zs : List Int}
    (h : (a = none ∧ len = 0 ∧ cap = 0 ∧ zs = []) ∨ ∃ x, a = some x ∧ len ≤ cap ∧ cap ≤ maxLen ∧ zs.length = cap ∧ (∀ i, i < zs.length → w.cell? (x.add i) = some (.int .u32 (zs.getD i 0))) ∧ ∀ n ∈ zs, (Lit.int .u32 n).wf = true) :
    ∃ l : List UInt32, l.length = len ∧ len ≤ cap ∧ cap ≤ 9223372036854775807 ∧ Rd vW w a l :=
  rd_of_row (fun n => UInt32.ofNat n.toNat) (fun n hn => by
    simp [Lit.wf, IntKind.min, IntKind.max, IntKind.signed, IntKind.bits] at hn
    unfold vW
    rw [UInt32.toNat_ofNat']
    congr 1
    omega) h

theorem below_drewN {B : Nat} {a w : World} (h : Below B a w) (n : Nat) : Below B a (w.drewN n) := ⟨h.os, h.tape, h.output, h.size, h.block⟩
theorem below_from_drew {B : Nat} {a w : World} (h : Below B a w) : Below B a.drew w := ⟨h.os, h.tape, h.output, h.size, h.block⟩
/-- A call behind other ones; a new block behind them. -/
theorem below_step {a w w' : World} (h : Below a.heap.size a w) (k : Below w.heap.size w w') : Below a.heap.size a w' := h.trans (k.mono h.size)
theorem below_after {a w w' : World} (k : Below w.heap.size w w') (h : Below a.heap.size a w) : Below a.heap.size a w' := below_step h k
theorem below_new {a w : World} (h : Below a.heap.size a w) (o : Obj) : Below a.heap.size a (w.alloc o) := h.alloc h.size o

/-- What a call that hands back a new slice says of it. -/
def RetS {α : Type} (f : α → Value) (w : World) (l : List α) (e : Ending) (w' : World) : Prop :=
  ∃ A cap, e = .returned (.slice A l.length cap) ∧ l.length ≤ cap ∧ Rd f w' A l ∧ Below w.heap.size w w'

/-- .. and owns it: it may be appended to. -/
def RetO {α : Type} (t : TypeId) (f : α → Value) (w : World) (l : List α) (e : Ending) (w' : World) : Prop :=
  ∃ v, e = .returned v ∧ w'.ownsRow w.heap.size t 1 v l.length (l.map f) ∧ Below w.heap.size w w'
theorem RetS.own {α : Type} {f : α → Value} {w w' : World} {l : List α} {base : Nat} {e : TypeId} {v : Value} (h : w'.ownsRow base e 1 v l.length (l.map f)) (hb : Below w.heap.size w w') : RetS f w l (.returned v) w' := by
  rcases h.2 with ⟨rfl, h0⟩ | ⟨g, cap, cur, rfl, _, _, hc, _⟩
  · have hl : l = [] := List.eq_nil_of_length_eq_zero h0
    subst hl
    exact ⟨none, 0, rfl, Nat.le_refl _, Rd.nil, hb⟩
  · exact ⟨_, cap, rfl, hc, Rd.own h, hb⟩

theorem RetO.ret {α : Type} {t : TypeId} {f : α → Value} {w w' : World} {l : List α} {e : Ending} (h : RetO t f w l e w') : RetS f w l e w' := by
  obtain ⟨v, rfl, ho, hb⟩ := h
  exact RetS.own ho hb

end Go.Proofs.Ytmljhkdojopljaa
/-
  Layer 19 as plain functions: uses in order, a cache, a use that is put, a floor that rises. No conditions but those typed.
-/
namespace Go.Proofs.Ytmljhkdojopljaa
set_option maxRecDepth 100000
set_option linter.unusedVariables false
set_option linter.unusedSimpArgs false

abbrev Us := Nat × Nat × Nat
def ltU (a b : Us) : Bool := decide (a.1 < b.1 ∨ (a.1 = b.1 ∧ (a.2.1 < b.2.1 ∨ (a.2.1 = b.2.1 ∧ a.2.2 < b.2.2))))
theorem ltU_iff {a b : Us} : ltU a b = true ↔ a.1 < b.1 ∨ (a.1 = b.1 ∧ (a.2.1 < b.2.1 ∨ (a.2.1 = b.2.1 ∧ a.2.2 < b.2.2))) := by unfold ltU; exact decide_eq_true_iff
theorem ltU_irr (a : Us) : ltU a a = false := by
  unfold ltU
  rw [decide_eq_false_iff_not]
  omega
theorem ltU_trans {a b c : Us} (h : ltU a b = true) (k : ltU b c = true) : ltU a c = true := by
  rw [ltU_iff] at *
  omega
theorem ltU_tri {a b : Us} (h : ltU a b = false) (hn : a ≠ b) : ltU b a = true := by
  rw [ltU_iff]
  unfold ltU at h
  rw [decide_eq_false_iff_not] at h
  obtain ⟨a1, a2, a3⟩ := a
  obtain ⟨b1, b2, b3⟩ := b
  dsimp only at *
  have : ¬ (a1 = b1 ∧ a2 = b2 ∧ a3 = b3) := fun ⟨h1, h2, h3⟩ => hn (by rw [h1, h2, h3])
  omega
def sortU : List Us → Bool
  | a :: b :: l => ltU a b && sortU (b :: l)
  | _ => true
abbrev SrtU (l : List Us) : Prop := l.Pairwise (fun a b => ltU a b = true)
theorem sortU_pair : ∀ l : List Us, sortU l = true ↔ SrtU l
  | [] => by simp [sortU]
  | [a] => by simp [sortU]
  | a :: b :: l => by
    have ih := sortU_pair (b :: l)
    unfold sortU
    rw [Bool.and_eq_true, ih]
    constructor
    · rintro ⟨h1, h2⟩
      refine List.pairwise_cons.2 ⟨fun x hx => ?_, h2⟩
      rcases List.mem_cons.1 hx with rfl | hx
      · exact h1
      · exact ltU_trans h1 ((List.pairwise_cons.1 h2).1 x hx)
    · intro h
      obtain ⟨h1, h2⟩ := List.pairwise_cons.1 h
      exact ⟨h1 b (List.mem_cons_self ..), h2⟩
def insU : List Us → Us → List Us
  | [], g => [g]
  | a :: l, g => if ltU a g then a :: insU l g else g :: a :: l
theorem insU_mem (l : List Us) (g x : Us) : x ∈ insU l g ↔ x ∈ l ∨ x = g := by
  induction l with
  | nil => simp [insU]
  | cons a l ih =>
    unfold insU
    split
    · rw [List.mem_cons, ih, List.mem_cons]
      constructor
      · rintro (h | h | h)
        · exact .inl (.inl h)
        · exact .inl (.inr h)
        · exact .inr h
      · rintro ((h | h) | h)
        · exact .inl h
        · exact .inr (.inl h)
        · exact .inr (.inr h)
    · rw [List.mem_cons, or_comm]
theorem insU_length (l : List Us) (g : Us) : (insU l g).length = l.length + 1 := by
  induction l with
  | nil => rfl
  | cons a l ih =>
    unfold insU
    split
    · rw [List.length_cons, ih, List.length_cons]
    · rfl
theorem insU_sort {l : List Us} {g : Us} (h : SrtU l) (hg : g ∉ l) : SrtU (insU l g) := by
  induction l with
  | nil => exact List.pairwise_singleton _ _
  | cons a l ih =>
    obtain ⟨h1, h2⟩ := List.pairwise_cons.1 h
    unfold insU
    split
    · rename_i ha
      refine List.pairwise_cons.2 ⟨fun x hx => ?_, ih h2 (fun hm => hg (List.mem_cons_of_mem _ hm))⟩
      rcases (insU_mem l g x).1 hx with hx | rfl
      · exact h1 x hx
      · exact ha
    · rename_i ha
      have hga : ltU g a = true := ltU_tri (Bool.eq_false_iff.2 ha) (fun e => hg (by rw [← e]; exact List.mem_cons_self ..))
      refine List.pairwise_cons.2 ⟨fun x hx => ?_, h⟩
      rcases List.mem_cons.1 hx with rfl | hx
      · exact hga
      · exact ltU_trans hga (h1 x hx)
theorem sortU_ext : ∀ {l m : List Us}, SrtU l → SrtU m → (∀ x, x ∈ l ↔ x ∈ m) → l = m
  | [], [], _, _, _ => rfl
  | [], b :: m, _, _, h => absurd ((h b).2 (List.mem_cons_self ..)) (by simp)
  | a :: l, [], _, _, h => absurd ((h a).1 (List.mem_cons_self ..)) (by simp)
  | a :: l, b :: m, hl, hm, h => by
    obtain ⟨h1, h2⟩ := List.pairwise_cons.1 hl
    obtain ⟨k1, k2⟩ := List.pairwise_cons.1 hm
    have e : a = b := by
      rcases List.mem_cons.1 ((h a).1 (List.mem_cons_self ..)) with e | e
      · exact e
      · rcases List.mem_cons.1 ((h b).2 (List.mem_cons_self ..)) with e' | e'
        · exact e'.symm
        · have := ltU_trans (h1 b e') (k1 a e)
          rw [ltU_irr] at this
          cases this
    subst e
    have na : ∀ {n : List Us}, (∀ x ∈ n, ltU a x = true) → a ∉ n := fun hn hmem => by
      have := hn a hmem
      rw [ltU_irr] at this
      cases this
    rw [sortU_ext h2 k2 (fun x => ⟨fun hx => ?_, fun hx => ?_⟩)]
    · rcases List.mem_cons.1 ((h x).1 (List.mem_cons_of_mem _ hx)) with rfl | hx'
      · exact absurd hx (na h1)
      · exact hx'
    · rcases List.mem_cons.1 ((h x).2 (List.mem_cons_of_mem _ hx)) with rfl | hx'
      · exact absurd hx (na k1)
      · exact hx'

/-- A cache: its room, its floor, what was seen. -/
abbrev Ca := Int × Nat × List Us
def aboveU (fl : Nat) (l : List Us) : List Us := l.filter (fun u => decide (fl ≤ u.2.2))
def rightC (c : Ca) : Bool := decide (0 ≤ c.1 ∧ c.1 ≤ 64) && (decide ((c.2.2.length : Int) ≤ c.1) && (c.2.2.all (fun u => decide (c.2.1 ≤ u.2.2)) && sortU c.2.2))
def putC (c : Ca) (u : Us) : Ca × Int := if rightC c = false then (c, 1) else if u.2.2 < c.2.1 then (c, 10) else if u ∈ c.2.2 then (c, 11) else if c.1 ≤ (c.2.2.length : Int) then (c, 12) else ((c.1, c.2.1, insU c.2.2 u), 0)
def raiseC (c : Ca) (fl : Nat) : Ca × Int := if rightC c = false then (c, 1) else ((c.1, max c.2.1 fl, aboveU (max c.2.1 fl) c.2.2), 0)
theorem right_c {c : Ca} : rightC c = true ↔ (0 ≤ c.1 ∧ c.1 ≤ 64) ∧ (c.2.2.length : Int) ≤ c.1 ∧ (∀ u ∈ c.2.2, c.2.1 ≤ u.2.2) ∧ SrtU c.2.2 := by
  unfold rightC
  rw [Bool.and_eq_true, Bool.and_eq_true, Bool.and_eq_true, decide_eq_true_iff, decide_eq_true_iff, sortU_pair, List.all_eq_true]
  simp only [decide_eq_true_iff]
theorem above_mem {fl : Nat} {l : List Us} {x : Us} : x ∈ aboveU fl l ↔ x ∈ l ∧ fl ≤ x.2.2 := by
  unfold aboveU
  rw [List.mem_filter, decide_eq_true_iff]
theorem above_sort {fl : Nat} {l : List Us} (h : SrtU l) : SrtU (aboveU fl l) := h.filter _
theorem above_length (fl : Nat) (l : List Us) : (aboveU fl l).length ≤ l.length := List.length_filter_le _ _
theorem raise_right {c : Ca} (fl : Nat) (h : rightC c = true) : rightC (raiseC c fl).1 = true ∧ (raiseC c fl).2 = 0 := by
  obtain ⟨h1, h2, h3, h4⟩ := right_c.1 h
  unfold raiseC
  rw [h, if_neg (by decide)]
  refine ⟨right_c.2 ⟨h1, ?_, fun u hu => (above_mem.1 hu).2, above_sort h4⟩, rfl⟩
  have := above_length (max c.2.1 fl) c.2.2
  dsimp only
  omega
theorem put_right {c : Ca} {u : Us} (h : rightC c = true) : rightC (putC c u).1 = true := by
  obtain ⟨h1, h2, h3, h4⟩ := right_c.1 h
  unfold putC
  rw [h, if_neg (by decide)]
  split
  · exact h
  · rename_i k1
    split
    · exact h
    · rename_i k2
      split
      · exact h
      · rename_i k3
        refine right_c.2 ⟨h1, ?_, fun x hx => ?_, insU_sort h4 k2⟩
        · dsimp only
          rw [insU_length]
          omega
        · rcases (insU_mem _ _ _).1 hx with hx | rfl
          · exact h3 x hx
          · dsimp only
            omega
/-- Raised to one floor, and to another one: as raised to the greater one. -/
theorem raise_raise {c : Ca} (a b : Nat) (h : rightC c = true) : raiseC (raiseC c a).1 b = raiseC c (max a b) := by
  have h1 := (raise_right a h).1
  have e1 : (raiseC c a).1 = (c.1, max c.2.1 a, aboveU (max c.2.1 a) c.2.2) := by unfold raiseC; rw [h, if_neg (by decide)]
  have e2 : raiseC c (max a b) = ((c.1, max c.2.1 (max a b), aboveU (max c.2.1 (max a b)) c.2.2), 0) := by unfold raiseC; rw [h, if_neg (by decide)]
  rw [e1] at h1 ⊢
  rw [e2]
  unfold raiseC
  rw [h1, if_neg (by decide)]
  dsimp only
  have em : max (max c.2.1 a) b = max c.2.1 (max a b) := by omega
  rw [em]
  congr 3
  unfold aboveU
  rw [List.filter_filter]
  refine List.filter_congr (fun x _ => ?_)
  rw [Bool.eq_iff_iff, Bool.and_eq_true, decide_eq_true_iff, decide_eq_true_iff]
  omega
theorem putC_cases (c : Ca) (u : Us) (h : rightC c = true) : (u.2.2 < c.2.1 ∧ putC c u = (c, 10)) ∨ (c.2.1 ≤ u.2.2 ∧ u ∈ c.2.2 ∧ putC c u = (c, 11)) ∨ (c.2.1 ≤ u.2.2 ∧ u ∉ c.2.2 ∧ c.1 ≤ (c.2.2.length : Int) ∧ putC c u = (c, 12)) ∨ (c.2.1 ≤ u.2.2 ∧ u ∉ c.2.2 ∧ (c.2.2.length : Int) < c.1 ∧ putC c u = ((c.1, c.2.1, insU c.2.2 u), 0)) := by
  unfold putC
  rw [h, if_neg (by decide)]
  by_cases k1 : u.2.2 < c.2.1
  · left
    exact ⟨k1, by rw [if_pos k1]⟩
  · right
    rw [if_neg k1]
    by_cases k2 : u ∈ c.2.2
    · left
      exact ⟨by omega, k2, by rw [if_pos k2]⟩
    · right
      rw [if_neg k2]
      by_cases k3 : c.1 ≤ (c.2.2.length : Int)
      · left
        exact ⟨by omega, k2, k3, by rw [if_pos k3]⟩
      · right
        exact ⟨by omega, k2, by omega, by rw [if_neg k3]⟩
/-- A use above the floor that is put ahead of it, or behind it, alike. -/
theorem put_raise {c : Ca} {u : Us} (a : Nat) {p : Ca} (h : rightC c = true) (hp : putC c u = (p, 0)) (ha : a ≤ u.2.2) : ∃ q, raiseC p a = (q, 0) ∧ putC (raiseC c a).1 u = (q, 0) := by
  have hpr : rightC p = true := by have := put_right (u := u) h; rw [hp] at this; exact this
  have h1 := (raise_right a h).1
  rcases putC_cases c u h with ⟨_, e⟩ | ⟨_, _, e⟩ | ⟨_, _, _, e⟩ | ⟨k1, k2, k3, e⟩
  · rw [e] at hp; cases hp
  · rw [e] at hp; cases hp
  · rw [e] at hp; cases hp
  · rw [e] at hp
    injection hp with hp _
    subst hp
    have e1 : (raiseC c a).1 = (c.1, max c.2.1 a, aboveU (max c.2.1 a) c.2.2) := by unfold raiseC; rw [h, if_neg (by decide)]
    have e2 : raiseC (c.1, c.2.1, insU c.2.2 u) a = ((c.1, max c.2.1 a, aboveU (max c.2.1 a) (insU c.2.2 u)), 0) := by unfold raiseC; rw [hpr, if_neg (by decide)]
    refine ⟨_, e2, ?_⟩
    rw [e1] at h1 ⊢
    have hn : u ∉ aboveU (max c.2.1 a) c.2.2 := fun hm => k2 (above_mem.1 hm).1
    rcases putC_cases _ u h1 with ⟨q, _⟩ | ⟨_, q, _⟩ | ⟨_, _, q, _⟩ | ⟨_, _, _, e3⟩
    · dsimp only at q
      omega
    · exact absurd q hn
    · dsimp only at q
      have := above_length (max c.2.1 a) c.2.2
      omega
    · rw [e3]
      dsimp only
      congr 3
      refine sortU_ext (insU_sort (above_sort (right_c.1 h).2.2.2) hn) (above_sort (right_c.1 hpr).2.2.2) (fun x => ?_)
      rw [insU_mem, above_mem, above_mem, insU_mem]
      constructor
      · rintro (⟨q1, q2⟩ | rfl)
        · exact ⟨.inl q1, q2⟩
        · exact ⟨.inr rfl, by omega⟩
      · rintro ⟨q1 | rfl, q2⟩
        · exact .inl ⟨q1, q2⟩
        · exact .inr rfl
end Go.Proofs.Ytmljhkdojopljaa
/-
  Where a use stands in a list in order, or would; what is left of a list while it is gone through. No conditions but those typed.
-/
namespace Go.Proofs.Ytmljhkdojopljaa
set_option maxRecDepth 100000
set_option linter.unusedSimpArgs false
set_option linter.unusedVariables false

abbrev fitU1 (g : Us) : Prop := g.1 < 18446744073709551616 ∧ g.2.1 < 18446744073709551616 ∧ g.2.2 < 18446744073709551616
def fitU (l : List Us) : Prop := ∀ x ∈ l, fitU1 x
def hasU (l : List Us) (g : Us) : Bool := decide (g ∈ l)
theorem sortU_at : ∀ l : List Us, sortU l = true ↔ ∀ k (h : k + 1 < l.length), ltU l[k] l[k + 1] = true
  | [] => by simp [sortU]
  | [a] => by simp [sortU]
  | a :: b :: l => by
    have ih := sortU_at (b :: l)
    unfold sortU
    rw [Bool.and_eq_true, ih]
    constructor
    · rintro ⟨h1, h2⟩ k hk
      cases k with
      | zero => exact h1
      | succ k => exact h2 k (by simpa using hk)
    · intro h
      exact ⟨h 0 (by simp), fun k hk => h (k + 1) (by simpa using hk)⟩
theorem sortU_lt {l : List Us} (h : sortU l = true) {i j : Nat} (hij : i < j) (hj : j < l.length) : ltU l[i] l[j] = true := by
  have hp := (sortU_pair l).1 h
  exact List.pairwise_iff_getElem.1 hp i j (by omega) hj hij
/-- What is less than g stands ahead of place i, and nothing else. -/
def PlU (l : List Us) (g : Us) (i : Nat) : Prop := (∀ k (h : k < l.length), k < i → ltU l[k] g = true) ∧ ∀ k (h : k < l.length), i ≤ k → ltU l[k] g = false
theorem plU_ins : ∀ {l : List Us} {g : Us} {i : Nat}, PlU l g i → i ≤ l.length → insU l g = l.take i ++ g :: l.drop i
  | [], g, i, _, hi => by
    have : i = 0 := by simpa using hi
    subst this
    rfl
  | a :: l, g, 0, h, _ => by
    have := h.2 0 (by simp) (Nat.le_refl _)
    unfold insU
    simp only [List.getElem_cons_zero] at this
    rw [this]
    rfl
  | a :: l, g, i + 1, h, hi => by
    have h0 := h.1 0 (by simp) (by omega)
    simp only [List.getElem_cons_zero] at h0
    have ih : insU l g = l.take i ++ g :: l.drop i := plU_ins ⟨fun k hk hki => h.1 (k + 1) (by simpa using hk) (by omega), fun k hk hki => h.2 (k + 1) (by simpa using hk) (by omega)⟩ (by simpa using hi)
    unfold insU
    rw [h0, if_pos rfl, ih]
    rfl
/-- It is there just if it stands at that place. -/
theorem plU_mem {l : List Us} {g : Us} {i : Nat} (h : PlU l g i) (hs : sortU l = true) : g ∈ l ↔ ∃ hi : i < l.length, l[i] = g := by
  constructor
  · intro hg
    obtain ⟨k, hk, rfl⟩ := List.getElem_of_mem hg
    have hki : ¬ k < i := fun hlt => by
      have := h.1 k hk hlt
      rw [ltU_irr] at this
      cases this
    have hik : ¬ i < k := fun hlt => by
      have h1 := sortU_lt hs hlt hk
      have h2 := h.2 i (by omega) (Nat.le_refl _)
      rw [h1] at h2
      cases h2
    have : k = i := by omega
    subst this
    exact ⟨hk, rfl⟩
  · rintro ⟨hi, rfl⟩
    exact List.getElem_mem hi
theorem plU_left {l : List Us} {g : Us} {m : Nat} (hs : sortU l = true) (hm : m < l.length) (h : ltU l[m] g = true) : ∀ k (h : k < l.length), k < m + 1 → ltU l[k] g = true := fun k hk hkm => by
  by_cases e : k = m
  · subst e; exact h
  · exact ltU_trans (sortU_lt hs (by omega) hm) h
theorem plU_right {l : List Us} {g : Us} {m : Nat} (hs : sortU l = true) (hm : m < l.length) (h : ltU l[m] g = false) : ∀ k (h : k < l.length), m ≤ k → ltU l[k] g = false := fun k hk hkm => by
  by_cases e : k = m
  · subst e; exact h
  · rw [Bool.eq_false_iff]
    intro h2
    have := ltU_trans (sortU_lt hs (by omega : m < k) hk) h2
    rw [h] at this
    cases this

/-! ### The order, as a number -/
def cmpU (a b : Nat) : Int := if a < b then -1 else if b < a then 1 else 0
def ordU (a b : Us) : Int := if cmpU a.1 b.1 ≠ 0 then cmpU a.1 b.1 else if cmpU a.2.1 b.2.1 ≠ 0 then cmpU a.2.1 b.2.1 else cmpU a.2.2 b.2.2
theorem cmpU_neg (a b : Nat) : cmpU a b < 0 ↔ a < b := by unfold cmpU; (repeat' split) <;> omega
theorem cmpU_zero (a b : Nat) : cmpU a b = 0 ↔ a = b := by unfold cmpU; (repeat' split) <;> omega
theorem ordU_neg (a b : Us) : ordU a b < 0 ↔ ltU a b = true := by
  rw [ltU_iff]
  unfold ordU
  have h1 := cmpU_neg a.1 b.1
  have h2 := cmpU_zero a.1 b.1
  have h3 := cmpU_neg a.2.1 b.2.1
  have h4 := cmpU_zero a.2.1 b.2.1
  have h5 := cmpU_neg a.2.2 b.2.2
  (repeat' split) <;> omega
theorem ordU_zero (a b : Us) : ordU a b = 0 ↔ a = b := by
  have h2 := cmpU_zero a.1 b.1
  have h4 := cmpU_zero a.2.1 b.2.1
  have h5 := cmpU_zero a.2.2 b.2.2
  obtain ⟨a1, a2, a3⟩ := a
  obtain ⟨b1, b2, b3⟩ := b
  rw [Prod.mk.injEq, Prod.mk.injEq]
  unfold ordU
  dsimp only at *
  (repeat' split) <;> omega

/-! ### What is kept of a list's first uses -/
/-- All below a floor, or the first that is. -/
def belowAt (fl : Nat) (l : List Us) (k : Nat) : Prop := ∀ j (h : j < l.length), j < k → fl ≤ l[j].2.2
theorem any_below {fl : Nat} {l : List Us} : (l.any (fun u => decide (u.2.2 < fl)) = false) ↔ ∀ u ∈ l, fl ≤ u.2.2 := by
  rw [List.any_eq_false]
  simp only [decide_eq_true_iff, Nat.not_lt]
theorem rightC_eq (c : Ca) : rightC c = (decide (0 ≤ c.1 ∧ c.1 ≤ 64) && (decide ((c.2.2.length : Int) ≤ c.1) && (!(c.2.2.any (fun u => decide (u.2.2 < c.2.1))) && sortU c.2.2))) := by
  unfold rightC
  congr 3
  rw [Bool.eq_iff_iff, List.all_eq_true, Bool.not_eq_true', any_below]
  simp only [decide_eq_true_iff]
theorem above_take_succ {fl : Nat} {l : List Us} {k : Nat} (h : k < l.length) : aboveU fl (l.take (k + 1)) = if fl ≤ l[k].2.2 then aboveU fl (l.take k) ++ [l[k]] else aboveU fl (l.take k) := by
  unfold aboveU
  rw [List.take_succ_eq_append_getElem h, List.filter_append]
  by_cases hf : fl ≤ l[k].2.2
  · rw [if_pos hf]
    simp [hf]
  · rw [if_neg hf]
    simp [hf]
theorem above_all {fl : Nat} {l : List Us} (h : ∀ u ∈ l, fl ≤ u.2.2) : aboveU fl l = l := by
  unfold aboveU
  rw [List.filter_eq_self]
  intro u hu
  exact decide_eq_true (h u hu)
theorem above_fit {fl : Nat} {l : List Us} (h : fitU l) : fitU (aboveU fl l) := fun x hx => h x (above_mem.1 hx).1
theorem insU_fit {l : List Us} {g : Us} (h : fitU l) (hg : fitU1 g) : fitU (insU l g) := fun x hx => by
  rcases (insU_mem l g x).1 hx with hx | rfl
  · exact h x hx
  · exact hg
/-- The state of a list that is gone through: the first i places hold what is kept of the first j; from j on it is as it was. -/
def KeepU (fl : Nat) (l : List Us) (i j : Nat) (m : List Us) : Prop := m.length = l.length ∧ m.take i = aboveU fl (l.take j) ∧ i = (aboveU fl (l.take j)).length ∧ m.drop j = l.drop j ∧ j ≤ l.length
theorem KeepU.le {fl : Nat} {l m : List Us} {i j : Nat} (h : KeepU fl l i j m) : i ≤ j := by
  have := above_length fl (l.take j)
  rw [List.length_take] at this
  have := h.2.2.1
  omega
theorem KeepU.at {fl : Nat} {l m : List Us} {i j : Nat} (h : KeepU fl l i j m) (hj : j < l.length) : ∃ hm : j < m.length, m[j] = l[j] := by
  refine ⟨by rw [h.1]; exact hj, ?_⟩
  have e := h.2.2.2.1
  have hm : j < m.length := by rw [h.1]; exact hj
  rw [List.drop_eq_getElem_cons hm, List.drop_eq_getElem_cons hj] at e
  injection e
theorem KeepU.skip {fl : Nat} {l m : List Us} {i j : Nat} (h : KeepU fl l i j m) (hj : j < l.length) (hb : ¬ fl ≤ l[j].2.2) : KeepU fl l i (j + 1) m := by
  obtain ⟨h1, h2, h3, h4, h5⟩ := h
  have e : aboveU fl (l.take (j + 1)) = aboveU fl (l.take j) := by rw [above_take_succ hj, if_neg hb]
  refine ⟨h1, by rw [e]; exact h2, by rw [e]; exact h3, ?_, hj⟩
  have h4' : (m.drop j).drop 1 = (l.drop j).drop 1 := by rw [h4]
  rw [List.drop_drop, List.drop_drop] at h4'
  exact h4'
theorem KeepU.keep {fl : Nat} {l m : List Us} {i j : Nat} (h : KeepU fl l i j m) (hj : j < l.length) (hb : fl ≤ l[j].2.2) : KeepU fl l (i + 1) (j + 1) (m.set i l[j]) := by
  have hij := h.le
  obtain ⟨h1, h2, h3, h4, h5⟩ := h
  have e : aboveU fl (l.take (j + 1)) = aboveU fl (l.take j) ++ [l[j]] := by rw [above_take_succ hj, if_pos hb]
  have him : i < m.length := by omega
  refine ⟨by rw [List.length_set]; exact h1, ?_, by rw [e, List.length_append, ← h3]; rfl, ?_, hj⟩
  · rw [e, List.take_succ_eq_append_getElem (by rw [List.length_set]; exact him), List.getElem_set_self, List.take_set_of_le (Nat.le_refl _), h2]
  · rw [List.drop_set_of_lt (by omega)]
    have h4' : (m.drop j).drop 1 = (l.drop j).drop 1 := by rw [h4]
    rw [List.drop_drop, List.drop_drop] at h4'
    exact h4'
theorem KeepU.start {fl : Nat} {l : List Us} {k : Nat} (hk : k < l.length) (hs : ∀ j (h : j < l.length), j < k → fl ≤ l[j].2.2) (hb : ¬ fl ≤ l[k].2.2) : KeepU fl l k (k + 1) l := by
  have e : aboveU fl (l.take k) = l.take k := above_all (fun u hu => by
    obtain ⟨j, hj, rfl⟩ := List.getElem_of_mem hu
    rw [List.length_take] at hj
    rw [List.getElem_take]
    exact hs j (by omega) (by omega))
  have h0 : KeepU fl l k k l := ⟨rfl, e.symm, by rw [e, List.length_take]; omega, rfl, by omega⟩
  exact h0.skip hk hb
theorem KeepU.done {fl : Nat} {l m : List Us} {i : Nat} (h : KeepU fl l i l.length m) : m.take i = aboveU fl l ∧ i = (aboveU fl l).length := by
  obtain ⟨_, h2, h3, _, _⟩ := h
  rw [List.take_length] at h2 h3
  exact ⟨h2, h3⟩
end Go.Proofs.Ytmljhkdojopljaa
/-
  append of a slice that came in, or that a call handed back, onto a row of the call's own, nil and empty ones with it (no program is named here). No conditions but those typed.
-/
namespace Go.Proofs.Ytmljhkdojopljaa
set_option maxRecDepth 100000
open Go.RowKit

section
variable {P : Program} (w : World)
theorem run_append_nothing_of (base : Nat) (t ty e : TypeId) (i : TypeInfo) (ht : P.underlying t = some (.slice e)) (hi : P.info? e = some i)
    (v : Value) (n : Nat) (xs : List Value) (hown : w.ownsRow base e 1 v n xs) (c : Nat) : (Builtin.append_ #[t, t] ty #[v, .slice none 0 c]).run P w = .ok v w := by
  rcases hown.2 with ⟨rfl, rfl⟩ | ⟨g, cap, cur, rfl, _, _, hnc, _⟩
  · simp [Builtin.append_, run_underlying ht, sizeOf, typeInfo, hi, Builtin.lenOf, Builtin.firstCells]
  · simp [Builtin.append_, run_underlying ht, sizeOf, typeInfo, hi, Builtin.lenOf, Builtin.firstCells, hnc, storeCells]

theorem run_append_rd {α : Type} {f : α → Value} (base : Nat) (t ty e : TypeId) (i : TypeInfo) (z : Value) (bytes : Nat) (ht : P.underlying t = some (.slice e)) (hi : P.info? e = some i) (hz : i.zero = some z)
    (hsize : i.size = 1) (hby : i.bytes = bytes) (hzs : z.cells.size = 1) (v : Value) (n : Nat) (xs : List Value) (hown : w.ownsRow base e 1 v n xs)
    (A : Option Addr) (l : List α) (c : Nat) (hr : Rd f w A l) (h1 : ∀ x, (f x).oneCell' = true)
    (h63 : n + l.length ≤ maxLen) (hbytes : (n + l.length) * bytes ≤ 140737488355328) (hbase : base ≤ w.heap.size) :
    ∃ v' w', (Builtin.append_ #[t, t] ty #[v, .slice A l.length c]).run P w = .ok v' w' ∧ w'.ownsRow base e 1 v' (n + l.length) (xs ++ l.map f) ∧ w.grownBy w' v.ownBlock := by
  have hone : ∀ u ∈ l.map f, u.oneCell' = true := by
    intro u hu
    simp only [List.mem_map] at hu
    obtain ⟨x, _, rfl⟩ := hu
    exact h1 x
  by_cases hl : l = []
  · subst hl
    cases A with
    | none => exact ⟨v, w, run_append_nothing_of w base t ty e i ht hi v n xs hown c, by simpa using hown, ⟨rfl, rfl, rfl, Nat.le_refl _, fun _ _ _ => rfl⟩⟩
    | some ad =>
      obtain ⟨v', w', hrun, h2, h3, _⟩ := run_append_own (P := P) w base t ty e i z 1 bytes ht hi hz hsize hby hzs (by omega) v n xs hown ad 0 c [] rfl (fun j u h => by simp at h) (fun u h => by simp at h) h63 hbytes hbase
      exact ⟨v', w', hrun, h2, h3⟩
  · obtain ⟨b, o, rfl, _⟩ := hr hl
    obtain ⟨v', w', hrun, h2, h3, _⟩ := run_append_own (P := P) w base t ty e i z 1 bytes ht hi hz hsize hby hzs (by omega) v n xs hown ⟨b, o, none⟩ l.length c (l.map f) (by simp) hr.news hone h63 hbytes hbase
    exact ⟨v', w', hrun, h2, h3⟩

theorem wp_append_rd {α : Type} {f : α → Value} {o : Oper} {a : Act} {K : Act → World → Prop} {Q : Exit → Act → World → Prop} (s x : Operand) (t : TypeId)
    (ho : o.op = .call { callee := .builtin .append, args := #[s, x], argTypes := #[t, t] })
    (base : Nat) (e : TypeId) (i : TypeInfo) (z : Value) (bytes : Nat) (ht : P.underlying t = some (.slice e)) (hi : P.info? e = some i) (hz : i.zero = some z)
    (hsize : i.size = 1) (hby : i.bytes = bytes) (hzs : z.cells.size = 1) (v : Value) (n : Nat) (xs : List Value) (hs : a.eval s = v) (hown : w.ownsRow base e 1 v n xs)
    (A : Option Addr) (l : List α) (c : Nat) (hx : a.eval x = .slice A l.length c) (hr : Rd f w A l) (h1 : ∀ x, (f x).oneCell' = true)
    (h63 : n + l.length ≤ maxLen) (hbytes : (n + l.length) * bytes ≤ 140737488355328) (hbase : base ≤ w.heap.size)
    (h : ∀ v' w', w'.ownsRow base e 1 v' (n + l.length) (xs ++ l.map f) → w.grownBy w' v.ownBlock → K (a.put o.dst v') w') : o.wp P a w K Q := by
  obtain ⟨v', w', hr, h2, h3⟩ := run_append_rd (P := P) w base t o.type e i z bytes ht hi hz hsize hby hzs v n xs hown A l c hr h1 h63 hbytes hbase
  unfold Oper.wp execOp
  simp only [ho, resolve, invoke, builtin, Sem.run_bind, Sem.run_pure, Result.andThen_ok, List.map_toArray, List.map_cons, List.map_nil, hs, hx, hr]
  exact h v' w' h2 h3

theorem wpList_append_rd {α : Type} {f : α → Value} {ops : Array Oper} {rest : List Oper} {o : Oper} {a : Act} {Q : Exit → Act → World → Prop} (hgd : o.guard = none) (s x : Operand) (t : TypeId)
    (ho : o.op = .call { callee := .builtin .append, args := #[s, x], argTypes := #[t, t] })
    (base : Nat) (e : TypeId) (i : TypeInfo) (z : Value) (bytes : Nat) (ht : P.underlying t = some (.slice e)) (hi : P.info? e = some i) (hz : i.zero = some z)
    (hsize : i.size = 1) (hby : i.bytes = bytes) (hzs : z.cells.size = 1) (v : Value) (n : Nat) (xs : List Value) (hs : a.eval s = v) (hown : w.ownsRow base e 1 v n xs)
    (A : Option Addr) (l : List α) (c : Nat) (hx : a.eval x = .slice A l.length c) (hr : Rd f w A l) (h1 : ∀ x, (f x).oneCell' = true)
    (h63 : n + l.length ≤ maxLen) (hbytes : (n + l.length) * bytes ≤ 140737488355328) (hbase : base ≤ w.heap.size)
    (h : ∀ v' w', w'.ownsRow base e 1 v' (n + l.length) (xs ++ l.map f) → w.grownBy w' v.ownBlock → wpList P ops Q rest (a.put o.dst v') w') : wpList P ops Q (o :: rest) a w :=
  wpList_plain hgd fun _ hK => wp_append_rd w s x t ho base e i z bytes ht hi hz hsize hby hzs v n xs hs hown A l c hx hr h1 h63 hbytes hbase fun v' w' h2 h3 => hK _ _ (h v' w' h2 h3)
end

theorem own_base {w : World} {base b' : Nat} {e : TypeId} {v : Value} {n : Nat} {xs : List Value} (h : w.ownsRow base e 1 v n xs) (hb : b' ≤ base) : w.ownsRow b' e 1 v n xs :=
  ⟨h.1, h.2.imp id fun ⟨g, cap, cur, h1, h2, h3⟩ => ⟨g, cap, cur, h1, Nat.le_trans hb h2, h3⟩⟩
theorem vB_one (c : UInt8) : (vB c).oneCell' = true := rfl
theorem vW_one (c : UInt32) : (vW c).oneCell' = true := rfl

/-- 's[lo:hi]'. -/
theorem Rd.mid {α : Type} {f : α → Value} {w : World} {A : Option Addr} {l : List α} (h : Rd f w A l) (lo hi cap : Nat) (hc : l.length ≤ cap) : Rd f w (if cap = lo then A else A.map (·.add (lo * 1))) ((l.drop lo).take (hi - lo)) := (h.drop lo cap hc).take _

end Go.Proofs.Ytmljhkdojopljaa
/-
  A region that draws its order, whose operations read, or make memory and write nothing that was there: one plan serves every order (no program is named here). Conditions: the plan is one that the region's edges allow (a Bool, reckoned), each operation that reads yields one value in every later world, and an operation that makes memory comes up alone.
-/
namespace Go.Proofs.Ytmljhkdojopljaa
set_option maxRecDepth 100000
open Go.RowKit

section
variable {P : Program} {ops : Array Oper} {Q : Exit → Act → World → Prop}

theorem held_weaken {md : Region.Mode} {S T : World → Prop} (h : ∀ w, T w → S w) : ∀ (fuel : Nat) (listed : Array Bool) (a : Act) (w : World), wpAnyH P md ops Q T fuel listed a w → wpAnyH P md ops Q S fuel listed a w
  | 0, _, _, _, k => k
  | fuel + 1, _, _, _, k => ⟨k.1, fun i hi => wpOp_mono (fun a' w' k' => ⟨h _ k'.1, held_weaken h fuel _ a' w' k'.2⟩) (k.2 i hi)⟩

/-- A plan: the operations' numbers, and of each whether it makes memory (it must then be the only one that may come up); a fork: two that make memory may come up, each with a plan of its own behind it. -/
inductive Plan where
  | nil
  | step (i : Nat) (g : Bool) (rest : Plan)
  | fork (i : Nat) (p : Plan) (j : Nat) (q : Plan)
def Plan.size : Plan → Nat
  | .nil => 0
  | .step _ _ rest => rest.size + 1
  | .fork _ p _ _ => p.size + 1
def planOK (ops : Array Oper) : Plan → Array Bool → Bool
  | .nil, listed => (Region.ready .any ops listed).isEmpty
  | .step i g rest, listed => (if g then Region.ready .any ops listed == [i] else Region.free .any ops listed i && (Region.ready .any ops listed).contains i) && planOK ops rest (listed.setIfInBounds i true)
  | .fork i p j q, listed => Region.ready .any ops listed == [i, j] && (q.size == p.size && (planOK ops p (listed.setIfInBounds i true) && planOK ops q (listed.setIfInBounds j true)))

/-- S: what the operations that read lean on; each operation that makes memory must show it anew, and may give more of it. -/
def wpPlan (P : Program) (ops : Array Oper) (Q : Exit → Act → World → Prop) : Plan → (World → Prop) → Act → World → Prop
  | .nil, _, a, w => Q .normal a w
  | .step i g rest, S, a, w => ∃ o, ops[i]? = some o ∧
      ((Region.wanted o (yielded ops a.tmps) = false ∧ wpPlan P ops Q rest S (a.put o.dst undef) w) ∨
       (Region.wanted o (yielded ops a.tmps) = true ∧ g = false ∧ ∃ v, (∀ W, S W → (execOp a.eval o).run P W = .ok (.value v) W) ∧ wpPlan P ops Q rest S (a.put o.dst v) w) ∨
       (Region.wanted o (yielded ops a.tmps) = true ∧ g = true ∧ o.wp P a w (fun a' w' => ∃ T : World → Prop, (∀ W, T W → S W) ∧ T w' ∧ wpPlan P ops Q rest T a' w') Q))
  | .fork i p j q, S, a, w =>
      wpOp P ops Q i (fun a' w' => ∃ T : World → Prop, (∀ W, T W → S W) ∧ T w' ∧ wpPlan P ops Q p T a' w') a w ∧
      wpOp P ops Q j (fun a' w' => ∃ T : World → Prop, (∀ W, T W → S W) ∧ T w' ∧ wpPlan P ops Q q T a' w') a w

theorem wpPlan_held (hs : Region.noSelect ops = true) (hQ : ∀ c a w d v, Q (.panic c) (Act.put a d v) w → Q (.panic c) a w) :
    ∀ (plan : Plan) (S : World → Prop) (listed : Array Bool) (a : Act) (w : World), S w → planOK ops plan listed = true → wpPlan P ops Q plan S a w → wpAnyH P .any ops Q S plan.size listed a w
  | .nil, _, listed, a, w, _, hp, h => wpAnyH_done (by simpa [planOK] using hp) h _
  | .step i g rest, S, listed, a, w, hS, hp, h => by
    obtain ⟨o, ho, h⟩ := h
    simp only [planOK, Bool.and_eq_true] at hp
    obtain ⟨hp1, hp2⟩ := hp
    have take : ∀ v, g = false → YieldsIf P ops S o v a → wpPlan P ops Q rest S (a.put o.dst v) w → wpAnyH P .any ops Q S (rest.size + 1) listed a w := by
      intro v hg hy hr
      subst hg
      simp only [Bool.false_eq_true, if_false, Bool.and_eq_true] at hp1
      exact wpAnyH_take ho hs hp1.1 hp1.2 (fun c a w h => hQ c a w _ _ h) hy hS (wpPlan_held hs hQ rest S _ _ w hS hp2 hr)
    have alone : g = true → wpOp P ops Q i (fun a' w' => ∃ T : World → Prop, (∀ W, T W → S W) ∧ T w' ∧ wpPlan P ops Q rest T a' w') a w → wpAnyH P .any ops Q S (rest.size + 1) listed a w := by
      intro hg hop
      subst hg
      simp only [if_true] at hp1
      refine wpAnyH_all (rs := [i]) (eq_of_beq hp1) (by simp) (fun j hj => ?_)
      simp only [List.mem_singleton] at hj
      subst hj
      refine wpOp_mono (fun a' w' k => ?_) hop
      obtain ⟨T, hT, hTw, k⟩ := k
      exact ⟨hT _ hTw, held_weaken hT _ _ _ _ (wpPlan_held hs hQ rest T _ a' w' hTw hp2 k)⟩
    rcases h with ⟨hw, hr⟩ | ⟨hw, hg, v, hv, hr⟩ | ⟨hw, hg, hop⟩
    · cases g with
      | false => exact take undef rfl (.inr ⟨hw, rfl⟩) hr
      | true =>
        refine alone rfl ?_
        unfold wpOp
        simp only [ho, hw, Bool.false_eq_true, if_false]
        exact ⟨S, fun _ h => h, hS, hr⟩
    · exact take v hg (.inl ⟨hw, hv⟩) hr
    · refine alone hg ?_
      unfold wpOp
      simp only [ho, hw, if_true]
      exact .inl hop
  | .fork i p j q, S, listed, a, w, hS, hp, h => by
    simp only [planOK, Bool.and_eq_true] at hp
    obtain ⟨hp1, hp2, hp3, hp4⟩ := hp
    refine wpAnyH_all (rs := [i, j]) (eq_of_beq hp1) (by simp) (fun k hk => ?_)
    simp only [List.mem_cons, List.not_mem_nil, or_false] at hk
    rcases hk with rfl | rfl
    · refine wpOp_mono (fun a' w' k => ?_) h.1
      obtain ⟨T, hT, hTw, k⟩ := k
      exact ⟨hT _ hTw, held_weaken hT _ _ _ _ (wpPlan_held hs hQ p T _ a' w' hTw hp3 k)⟩
    · refine wpOp_mono (fun a' w' k => ?_) h.2
      obtain ⟨T, hT, hTw, k⟩ := k
      have := wpPlan_held hs hQ q T _ a' w' hTw hp4 k
      rw [eq_of_beq hp2] at this
      exact ⟨hT _ hTw, held_weaken hT _ _ _ _ this⟩

/-- The beginning, at a condition of one's own. -/
theorem wp_region_plan_of (S : World → Prop) (plan : Plan) {id : Nat} {a : Act} {w : World} (hS : S w.drew) (hm : P.follows .mixedOrders = true) (hs : Region.noSelect ops = true) (hlen : plan.size = ops.size) (hp : planOK ops plan (Array.replicate ops.size false) = true)
    (h : wpPlan P ops (NoPanic Q) plan S a w.drew) : (Code.region id ops true).wp P Q a w := by
  refine wp_region_noPanic (wp_region_held_drew (S := S) hm hS (fun _ => ?_))
  have := wpPlan_held hs (fun _ _ _ _ _ h => h) plan S _ a w.drew hS hp h
  rw [hlen] at this
  exact this
/-- The beginning, at all that is there. -/
theorem wp_region_plan (plan : Plan) {id : Nat} {a : Act} {w : World} (hm : P.follows .mixedOrders = true) (hs : Region.noSelect ops = true) (hlen : plan.size = ops.size) (hp : planOK ops plan (Array.replicate ops.size false) = true)
    (h : wpPlan P ops (NoPanic Q) plan (fun W => Below w.drew.heap.size w.drew W) a w.drew) : (Code.region id ops true).wp P Q a w := wp_region_plan_of _ plan (Below.refl _ _) hm hs hlen hp h
/-- The beginning, at what lies below block number B. -/
theorem wp_region_plan_at (B : Nat) (plan : Plan) {id : Nat} {a : Act} {w : World} (hm : P.follows .mixedOrders = true) (hs : Region.noSelect ops = true) (hlen : plan.size = ops.size) (hp : planOK ops plan (Array.replicate ops.size false) = true)
    (h : wpPlan P ops (NoPanic Q) plan (fun W => Below B w.drew W) a w.drew) : (Code.region id ops true).wp P Q a w := wp_region_plan_of _ plan (Below.refl _ _) hm hs hlen hp h

theorem plan_skip {i : Nat} {g : Bool} {rest : Plan} {S : World → Prop} {o : Oper} {a : Act} {w : World} (ho : ops[i]? = some o) (hw : Region.wanted o (yielded ops a.tmps) = false)
    (h : wpPlan P ops Q rest S (a.put o.dst undef) w) : wpPlan P ops Q (.step i g rest) S a w := ⟨o, ho, .inl ⟨hw, h⟩⟩
theorem plan_read {i : Nat} {rest : Plan} {S : World → Prop} {o : Oper} {a : Act} {w : World} {v : Value} (ho : ops[i]? = some o) (hw : Region.wanted o (yielded ops a.tmps) = true)
    (hv : ∀ W, S W → (execOp a.eval o).run P W = .ok (.value v) W) (h : wpPlan P ops Q rest S (a.put o.dst v) w) : wpPlan P ops Q (.step i false rest) S a w := ⟨o, ho, .inr (.inl ⟨hw, rfl, v, hv, h⟩)⟩
/-- Behind it all that is there counts. -/
theorem plan_make {i : Nat} {rest : Plan} {o : Oper} {a : Act} {w : World} (ho : ops[i]? = some o) (hw : Region.wanted o (yielded ops a.tmps) = true)
    (h : ∀ K : Act → World → Prop, Shut (∀ a' w', Below w.heap.size w w' → wpPlan P ops Q rest (fun W => Below w'.heap.size w' W) a' w' → K a' w') → o.wp P a w K Q) : wpPlan P ops Q (.step i true rest) (fun W => Below w.heap.size w W) a w :=
  ⟨o, ho, .inr (.inr ⟨hw, rfl, h _ (fun _ _ hb hr => ⟨_, fun _ hW => below_step hb hW, Below.refl _ _, hr⟩)⟩)⟩
/-- B stays. -/
theorem plan_make_at {i : Nat} {rest : Plan} {B : Nat} {o : Oper} {a : Act} {w : World} (ho : ops[i]? = some o) (hw : Region.wanted o (yielded ops a.tmps) = true)
    (h : ∀ K : Act → World → Prop, Shut (∀ a' w', Below B w w' → wpPlan P ops Q rest (fun W => Below B w' W) a' w' → K a' w') → o.wp P a w K Q) : wpPlan P ops Q (.step i true rest) (fun W => Below B w W) a w :=
  ⟨o, ho, .inr (.inr ⟨hw, rfl, h _ (fun _ _ hb hr => ⟨_, fun _ hW => hb.trans hW, Below.refl _ _, hr⟩)⟩)⟩
/-- S stays. -/
theorem plan_make_of {i : Nat} {rest : Plan} {S : World → Prop} {o : Oper} {a : Act} {w : World} (ho : ops[i]? = some o) (hw : Region.wanted o (yielded ops a.tmps) = true)
    (h : ∀ K : Act → World → Prop, Shut (∀ a' w', S w' → wpPlan P ops Q rest S a' w' → K a' w') → o.wp P a w K Q) : wpPlan P ops Q (.step i true rest) S a w :=
  ⟨o, ho, .inr (.inr ⟨hw, rfl, h _ (fun _ _ hb hr => ⟨S, fun _ hW => hW, hb, hr⟩)⟩)⟩
/-- Two that make memory may come up: each goes by itself, S stays. -/
theorem plan_fork {i j : Nat} {p q : Plan} {S : World → Prop} {o u : Oper} {a : Act} {w : World} (ho : ops[i]? = some o) (hu : ops[j]? = some u) (hw : Region.wanted o (yielded ops a.tmps) = true) (hx : Region.wanted u (yielded ops a.tmps) = true)
    (h : ∀ K : Act → World → Prop, Shut (∀ a' w', S w' → wpPlan P ops Q p S a' w' → K a' w') → o.wp P a w K Q) (k : ∀ K : Act → World → Prop, Shut (∀ a' w', S w' → wpPlan P ops Q q S a' w' → K a' w') → u.wp P a w K Q) : wpPlan P ops Q (.fork i p j q) S a w := by
  constructor
  · unfold wpOp
    simp only [ho, hw, if_true]
    exact .inl (h _ (fun _ _ hb hr => ⟨S, fun _ hW => hW, hb, hr⟩))
  · unfold wpOp
    simp only [hu, hx, if_true]
    exact .inl (k _ (fun _ _ hb hr => ⟨S, fun _ hW => hW, hb, hr⟩))
theorem plan_done {S : World → Prop} {a : Act} {w : World} (h : Q .normal a w) : wpPlan P ops (NoPanic Q) .nil S a w := h
end

/-! ### append onto a row of the call's own: what the row held is still there, where it was -/
section
variable {P : Program} (w : World)
theorem run_append_keep (base : Nat) (t ty e : TypeId) (i : TypeInfo) (z : Value) (bytes : Nat) (ht : P.underlying t = some (.slice e)) (hi : P.info? e = some i) (hz : i.zero = some z)
    (hsize : i.size = 1) (hby : i.bytes = bytes) (hzs : z.cells.size = 1) (v : Value) (n : Nat) (xs : List Value) (hown : w.ownsRow base e 1 v n xs)
    (a : Addr) (m c : Nat) (news : List Value) (hl : news.length = m * 1) (hnews : ∀ j u, news[j]? = some u → w.cell? (a.add j) = some u) (h1 : ∀ u ∈ news, u.oneCell' = true)
    (h63 : n + m ≤ maxLen) (hbytes : (n + m) * bytes ≤ 140737488355328) (hbase : base ≤ w.heap.size) :
    ∃ v' w', (Builtin.append_ #[t, t] ty #[v, .slice (some a) m c]).run P w = .ok v' w' ∧ w'.ownsRow base e 1 v' (n + m) (xs ++ news) ∧ w.grownBy w' v.ownBlock ∧
      ∀ g, v.ownBlock = some g → ∀ j u, xs[j]? = some u → w'.cell? ⟨g, j, none⟩ = some u := by
  obtain ⟨v', w', hrun, hown', hgrow, _⟩ := run_append_own (P := P) w base t ty e i z 1 bytes ht hi hz hsize hby hzs (by omega) v n xs hown a m c news hl hnews h1 h63 hbytes hbase
  refine ⟨v', w', hrun, hown', hgrow, fun g hg j u hu => ?_⟩
  have hj : j < xs.length := by
    rcases Nat.lt_or_ge j xs.length with h | h
    · exact h
    · rw [List.getElem?_eq_none h] at hu; cases hu
  have hadd : (⟨g, 0, none⟩ : Addr).add j = ⟨g, j, none⟩ := by unfold Addr.add; split <;> simp_all
  rcases hown.2 with ⟨rfl, _⟩ | ⟨g', cap, cur, rfl, hbg, hgg, hnc, hcm, hcs, htake⟩
  · simp [Value.ownBlock] at hg
  · simp [Value.ownBlock] at hg
    subst hg
    have hold := hown.cells (g := g') rfl j u hu
    rw [hadd] at hold
    have hsmall : n + m ≤ 9223372036854775807 := by simp only [maxLen] at h63; omega
    by_cases hroom : n + m ≤ cap
    · have hr := run_append_room (P := P) w t ty e i ht hi g' n cap cur hgg a m c news (by rw [hsize]; exact hl) hnews h1 hroom (by rw [hsize, hl, hcs]; omega)
      rw [hrun] at hr
      injection hr with hv _
      subst hv
      have := hown'.cells (g := g') rfl j u (by rw [List.getElem?_append_left hj]; exact hu)
      rwa [hadd] at this
    · subst hby
      have holds : ∀ j u, xs[j]? = some u → w.cell? ((⟨g', 0, none⟩ : Addr).add j) = some u := hown.cells (g := g') rfl
      have hr := run_append_grow (P := P) w t ty e i z ht hi hz ⟨g', 0, none⟩ n cap xs (by rw [hsize]; exact hown.1) holds a m c news (by rw [hsize]; exact hl) hnews (by omega) (by omega) (growslice_fits (by omega) hbytes)
      rw [hrun] at hr
      injection hr with _ hw
      subst hw
      rw [World.cell?_alloc_lt w.drew _ ⟨g', j, none⟩ (World.block_lt_of_cell? w _ hold)]
      exact hold

theorem wp_append_keep {o : Oper} {a : Act} {K : Act → World → Prop} {Q : Exit → Act → World → Prop} (s x : Operand) (t : TypeId)
    (ho : o.op = .call { callee := .builtin .append, args := #[s, x], argTypes := #[t, t] })
    (base : Nat) (e : TypeId) (i : TypeInfo) (z : Value) (bytes : Nat) (ht : P.underlying t = some (.slice e)) (hi : P.info? e = some i) (hz : i.zero = some z)
    (hsize : i.size = 1) (hby : i.bytes = bytes) (hzs : z.cells.size = 1) (v : Value) (n : Nat) (xs : List Value) (hs : a.eval s = v) (hown : w.ownsRow base e 1 v n xs)
    (ad : Addr) (m c : Nat) (news : List Value) (hx : a.eval x = .slice (some ad) m c) (hl : news.length = m * 1) (hnews : ∀ j u, news[j]? = some u → w.cell? (ad.add j) = some u) (h1 : ∀ u ∈ news, u.oneCell' = true)
    (h63 : n + m ≤ maxLen) (hbytes : (n + m) * bytes ≤ 140737488355328) (hbase : base ≤ w.heap.size)
    (h : ∀ v' w', w'.ownsRow base e 1 v' (n + m) (xs ++ news) → w.grownBy w' v.ownBlock → (∀ g, v.ownBlock = some g → ∀ j u, xs[j]? = some u → w'.cell? ⟨g, j, none⟩ = some u) → K (a.put o.dst v') w') : o.wp P a w K Q := by
  obtain ⟨v', w', hr, h2, h3, h4⟩ := run_append_keep (P := P) w base t o.type e i z bytes ht hi hz hsize hby hzs v n xs hown ad m c news hl hnews h1 h63 hbytes hbase
  unfold Oper.wp execOp
  simp only [ho, resolve, invoke, builtin, Sem.run_bind, Sem.run_pure, Result.andThen_ok, List.map_toArray, List.map_cons, List.map_nil, hs, hx, hr]
  exact h v' w' h2 h3 h4
end

end Go.Proofs.Ytmljhkdojopljaa
/-
  A block of memory known whole: its cells read, one of them set, all of them set, a slice copied into it; a world given a name (no program is named here). No conditions but those typed.
-/
namespace Go.Proofs.Ytmljhkdojopljaa
set_option maxRecDepth 100000
open Go.RowKit

/-- A name for a world, and what is known of it. -/
theorem at_world {Q : World → Prop} {v : World} (F : World → Prop) (hF : F v) (h : ∀ W, F W → Q W) : Q v := h v hF

/-- Block g holds just these cells. -/
def Row (w : World) (g : Nat) (t : TypeId) (l : List Value) : Prop := w.heap[g]? = some (.cells l.toArray t (0, 0))

section
variable {w w' : World} {g : Nat} {t : TypeId} {l : List Value}
theorem Row.lt (h : Row w g t l) : g < w.heap.size := (Array.getElem?_eq_some_iff.1 h).1
theorem Row.cell? (h : Row w g t l) (i : Nat) : w.cell? ⟨g, i, none⟩ = l[i]? := by
  rw [cell_of_row w g i _ t (0, 0) h]
  simp
theorem Row.cell (h : Row w g t l) {i : Nat} {v : Value} (hi : l[i]? = some v) : w.cell? ⟨g, i, none⟩ = some v := (h.cell? i).trans hi
theorem Row.keep {B : Nat} (h : Row w g t l) (hb : Below B w w') (hg : g < B) : Row w' g t l := (hb.block g hg).trans h
theorem Row.later (h : Row w g t l) (hb : Below w.heap.size w w') : Row w' g t l := h.keep hb h.lt
theorem Row.drew (h : Row w g t l) : Row w.drew g t l := h
theorem Row.drewN (h : Row w g t l) (n : Nat) : Row (w.drewN n) g t l := h
theorem Row.alloc (h : Row w g t l) (o : Obj) : Row (w.alloc o) g t l := (Below.heap_alloc w o g h.lt).trans h
theorem Row.new (w : World) (t : TypeId) (l : List Value) (cs : Array Value) (h : cs = l.toArray) : Row (w.alloc (.cells cs t)) w.heap.size t l := by subst h; exact heap_alloc_new w _
theorem Row.new_at (w : World) (g : Nat) (hg : g = w.heap.size) (t : TypeId) (l : List Value) (cs : Array Value) (h : cs = l.toArray) : Row (w.alloc (.cells cs t)) g t l := by subst hg; exact Row.new w t l cs h
theorem Row.range (h : Row w g t l) : w.rangeAt g 0 l := fun j v hv => by rw [Nat.zero_add]; exact h.cell hv
theorem Row.frozen (h : Row w g t l) (i : Nat) : w.frozen? ⟨g, i, none⟩ = false := by
  have h' : w.heap[g]? = some (.cells l.toArray t (0, 0)) := h
  simp [World.frozen?, h']
theorem Row.setRow (h : Row w g t l) (m : List Value) : Row (w.setRow g m.toArray) g t m := setRow_heap w g _ _ t _ h
theorem Row.setRow_at (h : Row w g t l) (m : List Value) (cs : Array Value) (e : cs = m.toArray) : Row (w.setRow g cs) g t m := by subst e; exact h.setRow m
theorem Row.setRow_other (h : Row w g t l) {k : Nat} (hk : g ≠ k) (cs : Array Value) : Row (w.setRow k cs) g t l := (Go.setRow_other w k g cs hk).trans h
theorem Row.setCell (h : Row w g t l) (i : Nat) (v : Value) : Row (w.setCell ⟨g, i, none⟩ v) g t (l.set i v) := by
  have h' : w.heap[g]? = some (.cells l.toArray t (0, 0)) := h
  have hlt : g < w.heap.size := h.lt
  have hv : w.heap[g] = .cells l.toArray t (0, 0) := (Array.getElem?_eq_some_iff.1 h').2
  unfold Row World.setCell
  rw [Array.getElem?_eq_getElem (by simpa using hlt), Array.getElem_modify]
  simp [hv]
theorem Row.setCell_other (h : Row w g t l) {p : Addr} (hk : g ≠ p.block) (v : Value) : Row (w.setCell p v) g t l := (Below.heap_setCell w p v g hk).trans h
theorem Row.rd {α : Type} {f : α → Value} {L : List α} (h : Row w g t (L.map f)) : Rd f w (some ⟨g, 0, none⟩) L := fun _ => ⟨g, 0, rfl, fun i hi => by rw [Nat.zero_add]; exact h.cell (by simp [hi])⟩
theorem Row.rd_at {α : Type} {f : α → Value} {M : List Value} {L : List α} {o : Nat} (h : Row w g t M) (hl : (M.drop o).take L.length = L.map f) : Rd f w (some ⟨g, o, none⟩) L := fun _ => ⟨g, o, rfl, fun i hi => h.cell (by
  have := congrArg (·[i]?) hl
  simpa [List.getElem?_take, List.getElem?_drop, hi] using this)⟩

variable {P : Program}
/-- The whole, read. -/
theorem Row.load (h : Row w g t l) (ty : TypeId) (d : TypeDesc) (hu : P.underlying ty = some d) (hd : d.isRow = true) (hi : (P.info? ty).map (·.size) = some l.length) :
    (Instr.loadAt ty (.pointer (some ⟨g, 0, none⟩))).run P w = .ok (.agg l.toArray) w := run_loadAt_mid w g 0 ty l d h.range hu hd hi
theorem Row.loadVar (h : Row w g t l) (ty : TypeId) (d : TypeDesc) (hu : P.underlying ty = some d) (hd : d.isRow = true) (hi : (P.info? ty).map (·.size) = some l.length) :
    (Go.loadVar ty ⟨g, 0, none⟩).run P w = .ok (.agg l.toArray) w := run_loadVar_mid w g 0 ty l d h.range hu hd hi
/-- A part, read. -/
theorem Row.loadMid (h : Row w g t l) (ty : TypeId) (o : Nat) (m : List Value) (hm : (l.drop o).take m.length = m) (d : TypeDesc) (hu : P.underlying ty = some d) (hd : d.isRow = true) (hi : (P.info? ty).map (·.size) = some m.length) :
    (Instr.loadAt ty (.pointer (some ⟨g, o, none⟩))).run P w = .ok (.agg m.toArray) w := run_loadAt_mid w g o ty m d (fun j v hv => by
      have hj : j < m.length := (List.getElem?_eq_some_iff.1 hv).1
      have := congrArg (·[j]?) hm
      simp only [List.getElem?_take, List.getElem?_drop, hj, if_true] at this
      exact h.cell (this.trans hv)) hu hd hi
/-- The whole, set. -/
theorem Row.store (h : Row w g t l) (ty : TypeId) (m : List Value) (hi : (P.info? ty).map (·.size) = some m.length) (hl : l.length = m.length) (h1 : ∀ v ∈ m, v.oneCell' = true) :
    (Instr.storeAt ty (.pointer (some ⟨g, 0, none⟩)) (.agg m.toArray)).run P w = .ok () (w.setRow g m.toArray) := by
  simp only [Instr.storeAt, Instr.sureAddr, Sem.run_bind, Sem.run_pure, Result.andThen_ok]
  exact run_storeVar_row w g t ty l.toArray m.toArray h (by simpa using hi) (by simpa using hl) (all_oneCell_toArray h1)
end

section
variable {P : Program} {op : Oper} {a : Act} {w : World} {K : Act → World → Prop} {Q : Exit → Act → World → Prop} {ops : Array Oper} {rest : List Oper} {g : Nat} {t : TypeId} {l : List Value}
theorem Row.wp_store (ty : TypeId) (x y : Operand) (ho : op.op = .store ty x y) (hx : a.eval x = .pointer (some ⟨g, 0, none⟩)) (m : List Value) (hy : a.eval y = .agg m.toArray) (h : Row w g t l)
    (hi : (P.info? ty).map (·.size) = some m.length) (hl : l.length = m.length) (h1 : ∀ v ∈ m, v.oneCell' = true) (k : K (a.put op.dst undef) (w.setRow g m.toArray)) : op.wp P a w K Q := by
  unfold Oper.wp execOp
  have := h.store (P := P) ty m hi hl h1
  simp only [Instr.storeAt, Instr.sureAddr, Sem.run_bind, Sem.run_pure, Result.andThen_ok] at this
  simp only [ho, hx, hy, Instr.storeAt, Instr.sureAddr, Sem.run_bind, Sem.run_pure, Result.andThen_ok, this]
  exact k
theorem wpList_store_row (hgd : op.guard = none) (ty : TypeId) (x y : Operand) (ho : op.op = .store ty x y) (g : Nat) (hx : a.eval x = .pointer (some ⟨g, 0, none⟩)) (m : List Value) (hy : a.eval y = .agg m.toArray) (t : TypeId) (l : List Value) (h : Row w g t l)
    (hi : (P.info? ty).map (·.size) = some m.length) (hl : l.length = m.length) (h1 : ∀ v ∈ m, v.oneCell' = true) (k : wpList P ops Q rest (a.put op.dst undef) (w.setRow g m.toArray)) : wpList P ops Q (op :: rest) a w :=
  wpList_plain hgd fun _ hK => h.wp_store ty x y ho hx m hy hi hl h1 (hK _ _ k)
/-- A part of a block known whole, read. -/
theorem wpList_load_part (hgd : op.guard = none) (ty : TypeId) (x : Operand) (ho : op.op = .load ty x) (g o : Nat) (hx : a.eval x = .pointer (some ⟨g, o, none⟩)) (t : TypeId) (l : List Value) (h : Row w g t l) (m : List Value) (hm : (l.drop o).take m.length = m)
    (d : TypeDesc) (hu : P.underlying ty = some d) (hd : d.isRow = true) (hi : (P.info? ty).map (·.size) = some m.length) (k : wpList P ops Q rest (a.put op.dst (.agg m.toArray)) w) : wpList P ops Q (op :: rest) a w :=
  wpList_load_mid hgd ty x ho g o hx m d (fun j v hv => by
      have hj : j < m.length := (List.getElem?_eq_some_iff.1 hv).1
      have := congrArg (·[j]?) hm
      simp only [List.getElem?_take, List.getElem?_drop, hj, if_true] at this
      exact h.cell (this.trans hv)) hu hd hi k
end

theorem Row.setCells {g : Nat} {t : TypeId} : ∀ (m : List Value) (o : Nat) {w : World} {l : List Value}, Row w g t l → o + m.length ≤ l.length → Row (w.setCells g o m) g t (l.take o ++ m ++ l.drop (o + m.length))
  | [], o, w, l, h, _ => by simpa [World.setCells] using h
  | v :: m, o, w, l, h, hl => by
    simp only [List.length_cons] at hl
    have k := Row.setCells m (o + 1) (h.setCell o v) (by simp; omega)
    have e : (l.set o v).take (o + 1) ++ m ++ (l.set o v).drop (o + 1 + m.length) = l.take o ++ v :: m ++ l.drop (o + (v :: m).length) := by
      have ho : o < l.length := by omega
      rw [List.drop_set_of_lt (by omega), List.take_succ_eq_append_getElem (by simpa using ho), List.getElem_set_self, List.take_set_of_le (Nat.le_refl _)]
      simp [Nat.add_assoc, Nat.add_comm 1]
    rw [← e]
    exact k
theorem Row.setCells_other {g b : Nat} {t : TypeId} (hk : g ≠ b) : ∀ (m : List Value) (o : Nat) {w : World} {l : List Value}, Row w g t l → Row (w.setCells b o m) g t l
  | [], _, _, _, h => h
  | v :: m, o, _, _, h => Row.setCells_other hk m (o + 1) (h.setCell_other (p := ⟨b, o, none⟩) hk v)
theorem below_setCells {B b : Nat} (hb : B ≤ b) : ∀ (m : List Value) (o : Nat) {a w : World}, Below B a w → Below B a (w.setCells b o m)
  | [], _, _, _, h => h
  | v :: m, o, _, _, h => below_setCells hb m (o + 1) (h.setCell (p := ⟨b, o, none⟩) hb v)

/-- Two results, the first of them a whole block. -/
theorem results_row_tmp {P : Program} {fn : Func} {p u : Tmp} {ty : TypeId} (h : fn.results = #[.cell p ty, .tmp u]) (tmps : Array Value) (w : World) (g : Nat) (t : TypeId) (l : List Value) (d : TypeDesc) (hp : tmps.getD p undef = .pointer (some ⟨g, 0, none⟩)) (hg : Row w g t l)
    (hu : P.underlying ty = some d) (hd : d.isRow = true) (hi : (P.info? ty).map (·.size) = some l.length) : (results fn tmps).run P w = .ok (.tuple #[.agg l.toArray, tmps.getD u undef]) w := by
  rw [results_cell_tmp h, hp]
  simp only [asAddr, Sem.run_pure, Result.andThen_ok, hg.loadVar (P := P) ty d hu hd hi]

theorem Rd.setRow {α : Type} {f : α → Value} {w : World} {A : Option Addr} {L : List α} (h : Rd f w A L) {g : Nat} (cs : Array Value) (hg : ∀ a, A = some a → a.block ≠ g) : Rd f (w.setRow g cs) A L := fun hn => by
  obtain ⟨b, o, rfl, hc⟩ := h hn
  exact ⟨b, o, rfl, fun i hi => (cell_setRow_other w g cs ⟨b, o + i, none⟩ (hg ⟨b, o, none⟩ rfl)).trans (hc i hi)⟩
theorem map_one {α : Type} {f : α → Value} (hf : ∀ x, (f x).oneCell' = true) (L : List α) : ∀ v ∈ L.map f, v.oneCell' = true := fun v hv => by
  obtain ⟨x, _, rfl⟩ := List.mem_map.1 hv
  exact hf x

/-- 'copy(d, s)': the slice d lies in a block known whole, and has room for all of s. -/
theorem wp_copy_row {P : Program} {α : Type} {f : α → Value} {o : Oper} {a : Act} {w : World} {K : Act → World → Prop} {Q : Exit → Act → World → Prop} (d s : Operand) (dT sT : TypeId)
    (ho : o.op = .call { callee := .builtin .copy, args := #[d, s], argTypes := #[dT, sT] }) (elem : TypeId) (hu : P.underlying dT = some (.slice elem)) (hsz : (P.info? elem).map (·.size) = some 1)
    (g off dLen dCap : Nat) (A : Option Addr) (L : List α) (sCap : Nat) (hd : a.eval d = .slice (some ⟨g, off, none⟩) dLen dCap) (hs : a.eval s = .slice A L.length sCap)
    (cur : List Value) (t : TypeId) (hg : Row w g t cur) (hr : Rd f w A L) (hf : ∀ x, (f x).oneCell' = true) (hle : L.length ≤ dLen) (hfit : off + L.length ≤ cur.length)
    (h : K (a.put o.dst (.int .i64 (L.length : Int))) (w.setRow g (cur.take off ++ L.map f ++ cur.drop (off + L.length)).toArray)) : o.wp P a w K Q := by
  by_cases hn : L = []
  · subst hn
    have hrun := run_copy_none (P := P) w dT sT o.type elem (some ⟨g, off, none⟩) A dLen dCap 0 sCap hu hsz (by simp)
    unfold Oper.wp
    simp only [execOp, ho, resolve, invoke, builtin, hd, hs, Sem.run_bind, Sem.run_pure, Result.andThen_ok, List.map_toArray, List.map_cons, List.map_nil, List.length_nil, hrun]
    have e : w.setRow g (cur.take off ++ ([] : List α).map f ++ cur.drop (off + ([] : List α).length)).toArray = w := by
      simp only [List.map_nil, List.append_nil, List.length_nil, Nat.add_zero, List.take_append_drop]
      exact setRow_self w g _ t _ hg
    rw [e] at h
    exact h
  · obtain ⟨b, oo, rfl, hc⟩ := hr hn
    have hrun := run_copy_row (P := P) w dT sT o.type elem g off dLen dCap ⟨b, oo, none⟩ L.length sCap cur.toArray t (L.map f) hu hsz hg (by rw [List.length_map]; exact (Nat.min_eq_left hle).symm) (fun j v hv => by
      have hj : j < L.length := by simpa using (List.getElem?_eq_some_iff.1 hv).1
      have e1 : (⟨b, oo, none⟩ : Addr).add j = ⟨b, oo + j, none⟩ := by unfold Addr.add; split <;> simp_all
      rw [e1, hc j hj, ← hv]
      simp [hj]) (by simpa using hfit) (map_one hf L)
    unfold Oper.wp
    simp only [execOp, ho, resolve, invoke, builtin, hd, hs, Sem.run_bind, Sem.run_pure, Result.andThen_ok, List.map_toArray, List.map_cons, List.map_nil, hrun]
    have e2 : ((cur.toArray.toList.take off ++ L.map f ++ cur.toArray.toList.drop (off + (L.map f).length)).toArray) = (cur.take off ++ L.map f ++ cur.drop (off + L.length)).toArray := by simp
    have e3 : goInt ((L.map f).length : Nat) = .int .i64 (L.length : Int) := by simp [goInt]
    rw [e2, e3]
    exact h
theorem wpList_copy_row {P : Program} {α : Type} {f : α → Value} {ops : Array Oper} {rest : List Oper} {o : Oper} {a : Act} {w : World} {Q : Exit → Act → World → Prop} (hgd : o.guard = none) (d s : Operand) (dT sT : TypeId)
    (ho : o.op = .call { callee := .builtin .copy, args := #[d, s], argTypes := #[dT, sT] }) (elem : TypeId) (hu : P.underlying dT = some (.slice elem)) (hsz : (P.info? elem).map (·.size) = some 1)
    (g off dLen dCap : Nat) (A : Option Addr) (L : List α) (sCap : Nat) (hd : a.eval d = .slice (some ⟨g, off, none⟩) dLen dCap) (hs : a.eval s = .slice A L.length sCap)
    (cur : List Value) (t : TypeId) (hg : Row w g t cur) (hr : Rd f w A L) (hf : ∀ x, (f x).oneCell' = true) (hle : L.length ≤ dLen) (hfit : off + L.length ≤ cur.length)
    (h : wpList P ops Q rest (a.put o.dst (.int .i64 (L.length : Int))) (w.setRow g (cur.take off ++ L.map f ++ cur.drop (off + L.length)).toArray)) : wpList P ops Q (o :: rest) a w :=
  wpList_plain hgd fun _ hK => wp_copy_row d s dT sT ho elem hu hsz g off dLen dCap A L sCap hd hs cur t hg hr hf hle hfit (hK _ _ h)

end Go.Proofs.Ytmljhkdojopljaa
/-
  Rows of the call's own: their form, what is left of them behind other steps, two that stay apart, one known whole; one step more for plans (no program is named here). No conditions but those typed.
-/
namespace Go.Proofs.Ytmljhkdojopljaa
set_option maxRecDepth 100000
open Go.RowKit
set_option linter.unusedSimpArgs false
set_option linter.unusedVariables false

theorem ownsRow_same {w w' : World} {base : Nat} {e : TypeId} {v : Value} {n : Nat} {xs : List Value} (h : w.ownsRow base e 1 v n xs) (hh : ∀ b, base ≤ b → b < w.heap.size → w'.heap[b]? = w.heap[b]?) : w'.ownsRow base e 1 v n xs := by
  refine ⟨h.1, ?_⟩
  rcases h.2 with h0 | ⟨g, cap, cur, hv, hg, hc, r⟩
  · exact .inl h0
  · exact .inr ⟨g, cap, cur, hv, hg, (hh g hg (Array.getElem?_eq_some_iff.1 hc).1).trans hc, r⟩
theorem ownsRow_later {w w' : World} {base : Nat} {e : TypeId} {v : Value} {n : Nat} {xs : List Value} (h : w.ownsRow base e 1 v n xs) (hb : Below w.heap.size w w') : w'.ownsRow base e 1 v n xs := ownsRow_same h (fun b _ hb' => hb.block b hb')
theorem Rd.grown {α : Type} {f : α → Value} {w w' : World} {row : Option Nat} {A : Option Addr} {L : List α} (h : Rd f w A L) (hg : w.grownBy w' row) (hA : ∀ a, A = some a → row ≠ some a.block) : Rd f w' A L := fun hn => by
  obtain ⟨b, o, rfl, hc⟩ := h hn
  refine ⟨b, o, rfl, fun i hi => ?_⟩
  obtain ⟨_, _, _, _, h5⟩ := hg
  have hk := hc i hi
  have hlt : b < w.heap.size := World.block_lt_of_cell? w _ hk
  exact (World.cell?_of_block (w := w) (a := ⟨b, o + i, none⟩) (h5 b hlt (fun e => hA ⟨b, o, none⟩ rfl e.symm))).trans hk
theorem own_slice {α : Type} {f : α → Value} {w : World} {base : Nat} {e : TypeId} {v : Value} {l : List α} (h : w.ownsRow base e 1 v l.length (l.map f)) : ∃ A cap, v = .slice A l.length cap ∧ l.length ≤ cap ∧ Rd f w A l := by
  rcases h.2 with ⟨rfl, h0⟩ | ⟨g, cap, cur, rfl, _, _, hc, _⟩
  · have hl : l = [] := List.eq_nil_of_length_eq_zero h0
    subst hl
    exact ⟨none, 0, rfl, Nat.le_refl _, Rd.nil⟩
  · exact ⟨_, cap, rfl, hc, Rd.own h⟩

theorem Row.range_part {w : World} {g : Nat} {t : TypeId} {l : List Value} (h : Row w g t l) (o : Nat) (m : List Value) (hm : (l.drop o).take m.length = m) : w.rangeAt g o m := fun j v hv => by
  have hj : j < m.length := (List.getElem?_eq_some_iff.1 hv).1
  have := congrArg (·[j]?) hm
  simp only [List.getElem?_take, List.getElem?_drop, hj, if_true] at this
  exact h.cell (this.trans hv)

theorem own_form {w : World} {base : Nat} {e : TypeId} {v : Value} {n : Nat} {xs : List Value} (h : w.ownsRow base e 1 v n xs) : ∃ A cap, v = .slice A n cap ∧ n ≤ cap := by
  rcases h.2 with ⟨rfl, rfl⟩ | ⟨g, cap, cur, rfl, _, _, hc, _⟩
  · exact ⟨none, 0, rfl, Nat.le_refl _⟩
  · exact ⟨_, cap, rfl, hc⟩

theorem apart_symm {u v : Value} (h : u.ownBlock = none ∨ u.ownBlock ≠ v.ownBlock) : v.ownBlock = none ∨ v.ownBlock ≠ u.ownBlock := by
  rcases h with h | h
  · by_cases hv : v.ownBlock = none
    · exact .inl hv
    · exact .inr (by rw [h]; exact hv)
  · exact .inr (Ne.symm h)
/-- Apart, behind the growth of the second one. -/
theorem apart_grown {w : World} {base : Nat} {e : TypeId} {u v v' : Value} {n : Nat} {xs : List Value} (h : u.ownBlock = none ∨ u.ownBlock ≠ v.ownBlock) (ho : w.ownsRow base e 1 u n xs) (hat : v'.ownBlock = v.ownBlock ∨ v'.ownBlock = some w.heap.size) : u.ownBlock = none ∨ u.ownBlock ≠ v'.ownBlock := by
  rcases hat with hat | hat
  · rw [hat]; exact h
  · right
    rw [hat]
    intro hu
    have := (ho.lt _ hu).2
    omega
section
variable {P : Program} {ops : Array Oper} {Q : Exit → Act → World → Prop}
/-- One that makes memory; behind it a condition of one's own, which may speak of the new world. -/
theorem plan_make_to {i : Nat} {rest : Plan} {S : World → Prop} {o : Oper} {a : Act} {w : World} (ho : ops[i]? = some o) (hw : Region.wanted o (yielded ops a.tmps) = true)
    (h : ∀ K : Act → World → Prop, Shut (∀ (T : World → Prop) a' w', (∀ W, T W → S W) → T w' → wpPlan P ops Q rest T a' w' → K a' w') → o.wp P a w K Q) : wpPlan P ops Q (.step i true rest) S a w :=
  ⟨o, ho, .inr (.inr ⟨hw, rfl, h _ (fun T _ _ hT hb hr => ⟨T, hT, hb, hr⟩)⟩)⟩
end

/-- A row of the call's own, one place of it set. -/
theorem own_set {α : Type} {f : α → Value} {w : World} {base : Nat} {e : TypeId} {v : Value} {l : List α} {q : Nat} (h : w.ownsRow base e 1 v l.length (l.map f)) (hq : q < l.length) :
    ∃ g cap, v = .slice (some ⟨g, 0, none⟩) l.length cap ∧ base ≤ g ∧ g < w.heap.size ∧ l.length ≤ cap ∧ w.cell? ⟨g, q, none⟩ = some (f l[q]) ∧ w.frozen? ⟨g, q, none⟩ = false ∧ ∀ z : α, Rd f (w.setCell ⟨g, q, none⟩ (f z)) (some ⟨g, 0, none⟩) (l.set q z) := by
  rcases h.2 with ⟨rfl, h0⟩ | ⟨g, cap, cur, rfl, hg, hgg, hc, hm, hs, ht⟩
  · omega
  · have hR : Row w g e cur.toList := hgg
    rw [Nat.mul_one] at ht
    have hcell : w.cell? ⟨g, q, none⟩ = some (f l[q]) := by
      rw [hR.cell? q]
      have := congrArg (·[q]?) ht
      simpa [List.getElem?_take, hq] using this
    refine ⟨g, cap, rfl, hg, hR.lt, hc, hcell, hR.frozen _, fun z => ?_⟩
    refine Row.rd_at (hR.setCell q (f z)) ?_
    rw [List.drop_zero, List.length_set, List.take_set, ht, List.map_set]
end Go.Proofs.Ytmljhkdojopljaa
/-
  Uses in memory: a slice of structs of three numbers read as a list; kept, cut, its cells one by one. No conditions but those typed.
-/
namespace Go.Proofs.Ytmljhkdojopljaa
set_option maxRecDepth 100000
open Go.RowKit
set_option linter.unusedSimpArgs false
set_option linter.unusedVariables false

def vNU (n : Nat) : Value := .int .u64 (n : Int)
def cellU (g : Us) : List Value := [vNU g.1, vNU g.2.1, vNU g.2.2]
def aggU (g : Us) : Value := .agg #[vNU g.1, vNU g.2.1, vNU g.2.2]
def cellsU (l : List Us) : List Value := l.flatMap cellU

/-- The slice with address A has these uses' cells, one behind the other. -/
def RdU (w : World) (A : Option Addr) (l : List Us) : Prop :=
  l ≠ [] → ∃ b o, A = some ⟨b, o, none⟩ ∧ ∀ i (h : i < l.length), w.cell? ⟨b, o + i * 3, none⟩ = some (vNU l[i].1) ∧ w.cell? ⟨b, o + i * 3 + 1, none⟩ = some (vNU l[i].2.1) ∧ w.cell? ⟨b, o + i * 3 + 2, none⟩ = some (vNU l[i].2.2)

theorem cellsU_length : ∀ l : List Us, (cellsU l).length = l.length * 3
  | [] => rfl
  | x :: l => by
    have := cellsU_length l
    unfold cellsU at *
    rw [List.flatMap_cons, List.length_append, this, List.length_cons]
    simp [cellU]
    omega
theorem cellsU_get : ∀ (l : List Us) (i : Nat) (h : i < l.length), (cellsU l)[i * 3]? = some (vNU l[i].1) ∧ (cellsU l)[i * 3 + 1]? = some (vNU l[i].2.1) ∧ (cellsU l)[i * 3 + 2]? = some (vNU l[i].2.2)
  | x :: l, 0, _ => ⟨rfl, rfl, rfl⟩
  | x :: l, i + 1, h => by
    have ih := cellsU_get l i (by simpa using h)
    have e : cellsU (x :: l) = vNU x.1 :: vNU x.2.1 :: vNU x.2.2 :: cellsU l := rfl
    rw [e, show (i + 1) * 3 = i * 3 + 1 + 1 + 1 by omega]
    simp only [List.getElem?_cons_succ]
    exact ih
theorem cellsU_app (l m : List Us) : cellsU (l ++ m) = cellsU l ++ cellsU m := by unfold cellsU; rw [List.flatMap_append]
theorem cellsU_one : ∀ (l : List Us), ∀ u ∈ cellsU l, u.oneCell' = true := fun l u hu => by
  obtain ⟨x, _, hx⟩ := List.mem_flatMap.1 hu
  simp [cellU, vNU] at hx
  rcases hx with rfl | rfl | rfl <;> rfl
section
variable {w w' : World} {A : Option Addr} {l : List Us}
theorem RdU.nil : RdU w A [] := fun h => absurd rfl h
theorem RdU.at (h : RdU w A l) {k : Nat} (hk : k < l.length) : ∃ b o, A = some ⟨b, o, none⟩ ∧ b < w.heap.size ∧ ∀ i (h : i < l.length), w.cell? ⟨b, o + i * 3, none⟩ = some (vNU l[i].1) ∧ w.cell? ⟨b, o + i * 3 + 1, none⟩ = some (vNU l[i].2.1) ∧ w.cell? ⟨b, o + i * 3 + 2, none⟩ = some (vNU l[i].2.2) := by
  obtain ⟨b, o, e, hc⟩ := h (by rintro rfl; simp at hk)
  exact ⟨b, o, e, World.block_lt_of_cell? w _ (hc k hk).1, hc⟩
theorem RdU.keep (h : RdU w A l) (hb : Below w.heap.size w w') : RdU w' A l := fun hn => by
  obtain ⟨b, o, e, hc⟩ := h hn
  refine ⟨b, o, e, fun i hi => ?_⟩
  obtain ⟨h0, h1, h2⟩ := hc i hi
  have hlt := World.block_lt_of_cell? w _ h0
  exact ⟨(hb.cell (p := ⟨b, o + i * 3, none⟩) hlt).trans h0, (hb.cell (p := ⟨b, o + i * 3 + 1, none⟩) hlt).trans h1, (hb.cell (p := ⟨b, o + i * 3 + 2, none⟩) hlt).trans h2⟩
theorem RdU.take (h : RdU w A l) (n : Nat) : RdU w A (l.take n) := fun hn => by
  obtain ⟨b, o, e, hc⟩ := h (by rintro rfl; simp at hn)
  refine ⟨b, o, e, fun i hi => ?_⟩
  have hi' : i < l.length := by simp at hi; omega
  have := hc i hi'
  simpa using this
theorem RdU.drop (h : RdU w A l) (k : Nat) (cap : Nat) (hc : l.length ≤ cap) : RdU w (if cap = k then A else A.map (·.add (k * 3))) (l.drop k) := fun hn => by
  have hk : k < l.length := by
    rcases Nat.lt_or_ge k l.length with h | h
    · exact h
    · exact absurd (List.drop_eq_nil_of_le h) hn
  obtain ⟨b, o, e, hcell⟩ := h (by rintro rfl; simp at hk)
  subst e
  rw [if_neg (by omega)]
  refine ⟨b, o + k * 3, by simp [Addr.add], fun i hi => ?_⟩
  have hi' : k + i < l.length := by simp at hi; omega
  obtain ⟨h0, h1, h2⟩ := hcell (k + i) hi'
  rw [Nat.add_mul, ← Nat.add_assoc] at h0 h1 h2
  rw [h0, h1, h2]
  simp
theorem RdU.range {b o : Nat} (h : RdU w (some ⟨b, o, none⟩) l) : ∀ j u, (cellsU l)[j]? = some u → w.cell? ((⟨b, o, none⟩ : Addr).add j) = some u := fun j u hu => by
  have hj : j < l.length * 3 := by
    rw [← cellsU_length]
    exact (List.getElem?_eq_some_iff.1 hu).1
  have hi : j / 3 < l.length := by omega
  obtain ⟨b', o', e, hc⟩ := h (by rintro rfl; simp at hi)
  injection e with e
  injection e with e1 e2 _
  subst e1 e2
  obtain ⟨h0, h1, h2⟩ := hc (j / 3) hi
  obtain ⟨g0, g1, g2⟩ := cellsU_get l (j / 3) hi
  have e1 : (⟨b, o, none⟩ : Addr).add j = ⟨b, o + j, none⟩ := by unfold Addr.add; split <;> simp_all
  rw [e1]
  have h3 : j % 3 = 0 ∨ j % 3 = 1 ∨ j % 3 = 2 := by omega
  rcases h3 with hp | hp | hp
  · have e2 : j / 3 * 3 = j := by omega
    rw [e2] at h0 g0
    rw [h0, ← g0, hu]
  · have e2 : j / 3 * 3 + 1 = j := by omega
    rw [Nat.add_assoc, e2] at h1
    rw [e2] at g1
    rw [h1, ← g1, hu]
  · have e2 : j / 3 * 3 + 2 = j := by omega
    rw [Nat.add_assoc, e2] at h2
    rw [e2] at g2
    rw [h2, ← g2, hu]
/-- One use's three cells. -/
theorem RdU.pair (h : RdU w A l) {k : Nat} (hk : k < l.length) : ∃ b o, A = some ⟨b, o, none⟩ ∧ b < w.heap.size ∧ w.rangeAt b (o + k * 3) (cellU l[k]) ∧ w.cell? ⟨b, o + k * 3, none⟩ = some (vNU l[k].1) ∧ w.cell? ⟨b, o + k * 3 + 1, none⟩ = some (vNU l[k].2.1) ∧ w.cell? ⟨b, o + k * 3 + 2, none⟩ = some (vNU l[k].2.2) := by
  obtain ⟨b, o, e, hb, hc⟩ := h.at hk
  obtain ⟨h0, h1, h2⟩ := hc k hk
  refine ⟨b, o, e, hb, fun j u hu => ?_, h0, h1, h2⟩
  match j, hu with
  | 0, hu => injection hu with hu; subst hu; exact h0
  | 1, hu => injection hu with hu; subst hu; exact h1
  | 2, hu => injection hu with hu; subst hu; exact h2
theorem RdU.own {base : Nat} {e : TypeId} {n c : Nat} (h : w.ownsRow base e 3 (.slice A n c) n (cellsU l)) : RdU w A l := fun hn => by
  have hl : l.length = n := by
    have := h.1
    rw [cellsU_length] at this
    omega
  have hpos : 0 < n := by
    rcases Nat.eq_zero_or_pos n with h0 | h0
    · exact absurd (List.eq_nil_of_length_eq_zero (by omega)) hn
    · exact h0
  obtain ⟨g, cap, hv, _, hlt⟩ := h.form hpos
  have hA : A = some ⟨g, 0, none⟩ := by injection hv
  subst hA
  refine ⟨g, 0, rfl, fun i hi => ?_⟩
  obtain ⟨g0, g1, g2⟩ := cellsU_get l i hi
  have h0 := h.cells (g := g) rfl _ _ g0
  have h1 := h.cells (g := g) rfl _ _ g1
  have h2 := h.cells (g := g) rfl _ _ g2
  have e1 : ∀ j, (⟨g, 0, none⟩ : Addr).add j = ⟨g, 0 + j, none⟩ := fun j => by unfold Addr.add; split <;> simp_all
  rw [e1] at h0 h1 h2
  exact ⟨h0, h1, h2⟩
theorem own_sliceU {base : Nat} {e : TypeId} {v : Value} (h : w.ownsRow base e 3 v l.length (cellsU l)) : ∃ A cap, v = .slice A l.length cap ∧ l.length ≤ cap ∧ RdU w A l ∧ ∀ a, A = some a → base ≤ a.block := by
  rcases h.2 with ⟨rfl, h0⟩ | ⟨g, cap, cur, rfl, hg, _, hc, _⟩
  · have hl : l = [] := List.eq_nil_of_length_eq_zero h0
    subst hl
    exact ⟨none, 0, rfl, Nat.le_refl _, RdU.nil, fun a h => by cases h⟩
  · exact ⟨_, cap, rfl, hc, RdU.own h, fun a ha => by injection ha with ha; subst ha; exact hg⟩
theorem ownsRowU_same {base : Nat} {e : TypeId} {v : Value} {n : Nat} {xs : List Value} (h : w.ownsRow base e 3 v n xs) (hh : ∀ b, base ≤ b → b < w.heap.size → w'.heap[b]? = w.heap[b]?) : w'.ownsRow base e 3 v n xs := by
  refine ⟨h.1, ?_⟩
  rcases h.2 with h0 | ⟨g, cap, cur, hv, hg, hc, r⟩
  · exact .inl h0
  · exact .inr ⟨g, cap, cur, hv, hg, (hh g hg (Array.getElem?_eq_some_iff.1 hc).1).trans hc, r⟩
theorem ownsRowU_later {base : Nat} {e : TypeId} {v : Value} {n : Nat} {xs : List Value} (h : w.ownsRow base e 3 v n xs) (hb : Below w.heap.size w w') : w'.ownsRow base e 3 v n xs := ownsRowU_same h (fun b _ hb' => hb.block b hb')
theorem ownsRowU_base {base b' : Nat} {e : TypeId} {v : Value} {n : Nat} {xs : List Value} (h : w.ownsRow base e 3 v n xs) (hb : b' ≤ base) : w.ownsRow b' e 3 v n xs :=
  ⟨h.1, h.2.imp id fun ⟨g, cap, cur, h1, h2, h3⟩ => ⟨g, cap, cur, h1, Nat.le_trans hb h2, h3⟩⟩
/-- A use in a block of its own. -/
theorem Row.use {g : Nat} {t : TypeId} {x : Us} (h : Row w g t (cellU x)) : w.cell? ⟨g, 0, none⟩ = some (vNU x.1) ∧ w.cell? ⟨g, 1, none⟩ = some (vNU x.2.1) ∧ w.cell? ⟨g, 2, none⟩ = some (vNU x.2.2) := ⟨h.cell rfl, h.cell rfl, h.cell rfl⟩
end
theorem cellU_one (g : Us) : ∀ v ∈ cellU g, v.oneCell' = true := fun v hv => by
  simp [cellU, vNU] at hv
  rcases hv with rfl | rfl | rfl <;> rfl

/-! ### append of uses onto a row of the call's own -/
section
variable {P : Program} (w : World)
theorem run_append_nothingU (base : Nat) (t ty e : TypeId) (i : TypeInfo) (ht : P.underlying t = some (.slice e)) (hi : P.info? e = some i)
    (v : Value) (n : Nat) (xs : List Value) (hown : w.ownsRow base e 3 v n xs) (c : Nat) : (Builtin.append_ #[t, t] ty #[v, .slice none 0 c]).run P w = .ok v w := by
  rcases hown.2 with ⟨rfl, rfl⟩ | ⟨g, cap, cur, rfl, _, _, hnc, _⟩
  · simp [Builtin.append_, run_underlying ht, sizeOf, typeInfo, hi, Builtin.lenOf, Builtin.firstCells]
  · simp [Builtin.append_, run_underlying ht, sizeOf, typeInfo, hi, Builtin.lenOf, Builtin.firstCells, hnc, storeCells]
theorem run_append_rdU (base : Nat) (t ty e : TypeId) (i : TypeInfo) (z : Value) (bytes : Nat) (ht : P.underlying t = some (.slice e)) (hi : P.info? e = some i) (hz : i.zero = some z)
    (hsize : i.size = 3) (hby : i.bytes = bytes) (hzs : z.cells.size = 3) (v : Value) (n : Nat) (xs : List Value) (hown : w.ownsRow base e 3 v n xs)
    (A : Option Addr) (l : List Us) (c : Nat) (hr : RdU w A l)
    (h63 : n + l.length ≤ maxLen) (hbytes : (n + l.length) * bytes ≤ 140737488355328) (hbase : base ≤ w.heap.size) :
    ∃ v' w', (Builtin.append_ #[t, t] ty #[v, .slice A l.length c]).run P w = .ok v' w' ∧ w'.ownsRow base e 3 v' (n + l.length) (xs ++ cellsU l) ∧ w.grownBy w' v.ownBlock ∧ (v'.ownBlock = v.ownBlock ∨ v'.ownBlock = some w.heap.size) := by
  by_cases hl : l = []
  · subst hl
    cases A with
    | none => exact ⟨v, w, run_append_nothingU w base t ty e i ht hi v n xs hown c, by simpa [cellsU] using hown, ⟨rfl, rfl, rfl, Nat.le_refl _, fun _ _ _ => rfl⟩, .inl rfl⟩
    | some ad =>
      obtain ⟨v', w', hrun, h2, h3, _, h4⟩ := run_append_own_at (P := P) w base t ty e i z 3 bytes ht hi hz hsize hby hzs (by omega) v n xs hown ad 0 c [] rfl (fun j u h => by simp at h) (fun u h => by simp at h) h63 hbytes hbase
      exact ⟨v', w', hrun, h2, h3, h4⟩
  · obtain ⟨b, o, rfl, _⟩ := hr hl
    obtain ⟨v', w', hrun, h2, h3, _, h4⟩ := run_append_own_at (P := P) w base t ty e i z 3 bytes ht hi hz hsize hby hzs (by omega) v n xs hown ⟨b, o, none⟩ l.length c (cellsU l) (cellsU_length l) hr.range (cellsU_one l) h63 hbytes hbase
    exact ⟨v', w', hrun, h2, h3, h4⟩
theorem wp_append_rdU {o : Oper} {a : Act} {K : Act → World → Prop} {Q : Exit → Act → World → Prop} (s x : Operand) (t : TypeId)
    (ho : o.op = .call { callee := .builtin .append, args := #[s, x], argTypes := #[t, t] })
    (base : Nat) (e : TypeId) (i : TypeInfo) (z : Value) (bytes : Nat) (ht : P.underlying t = some (.slice e)) (hi : P.info? e = some i) (hz : i.zero = some z)
    (hsize : i.size = 3) (hby : i.bytes = bytes) (hzs : z.cells.size = 3) (v : Value) (n : Nat) (xs : List Value) (hs : a.eval s = v) (hown : w.ownsRow base e 3 v n xs)
    (A : Option Addr) (l : List Us) (c : Nat) (hx : a.eval x = .slice A l.length c) (hr : RdU w A l)
    (h63 : n + l.length ≤ maxLen) (hbytes : (n + l.length) * bytes ≤ 140737488355328) (hbase : base ≤ w.heap.size)
    (h : ∀ v' w', w'.ownsRow base e 3 v' (n + l.length) (xs ++ cellsU l) → w.grownBy w' v.ownBlock → (v'.ownBlock = v.ownBlock ∨ v'.ownBlock = some w.heap.size) → K (a.put o.dst v') w') : o.wp P a w K Q := by
  obtain ⟨v', w', hr, h2, h3, h4⟩ := run_append_rdU (P := P) w base t o.type e i z bytes ht hi hz hsize hby hzs v n xs hown A l c hr h63 hbytes hbase
  unfold Oper.wp execOp
  simp only [ho, resolve, invoke, builtin, Sem.run_bind, Sem.run_pure, Result.andThen_ok, List.map_toArray, List.map_cons, List.map_nil, hs, hx, hr]
  exact h v' w' h2 h3 h4
theorem wpList_append_rdU {ops : Array Oper} {rest : List Oper} {o : Oper} {a : Act} {Q : Exit → Act → World → Prop} (hgd : o.guard = none) (s x : Operand) (t : TypeId)
    (ho : o.op = .call { callee := .builtin .append, args := #[s, x], argTypes := #[t, t] })
    (base : Nat) (e : TypeId) (i : TypeInfo) (z : Value) (bytes : Nat) (ht : P.underlying t = some (.slice e)) (hi : P.info? e = some i) (hz : i.zero = some z)
    (hsize : i.size = 3) (hby : i.bytes = bytes) (hzs : z.cells.size = 3) (v : Value) (n : Nat) (xs : List Value) (hs : a.eval s = v) (hown : w.ownsRow base e 3 v n xs)
    (A : Option Addr) (l : List Us) (c : Nat) (hx : a.eval x = .slice A l.length c) (hr : RdU w A l)
    (h63 : n + l.length ≤ maxLen) (hbytes : (n + l.length) * bytes ≤ 140737488355328) (hbase : base ≤ w.heap.size)
    (h : ∀ v' w', w'.ownsRow base e 3 v' (n + l.length) (xs ++ cellsU l) → w.grownBy w' v.ownBlock → (v'.ownBlock = v.ownBlock ∨ v'.ownBlock = some w.heap.size) → wpList P ops Q rest (a.put o.dst v') w') : wpList P ops Q (o :: rest) a w :=
  wpList_plain hgd fun _ hK => wp_append_rdU w s x t ho base e i z bytes ht hi hz hsize hby hzs v n xs hs hown A l c hx hr h63 hbytes hbase fun v' w' h2 h3 h4 => hK _ _ (h v' w' h2 h3 h4)
end
end Go.Proofs.Ytmljhkdojopljaa
/-
  What cmp.Compare answers at two numbers. No conditions but those typed.
-/
namespace Go.Proofs.Ytmljhkdojopljaa
set_option maxRecDepth 100000
open Go.RowKit
set_option linter.unusedSimpArgs false
set_option linter.unusedVariables false

def cmpN (a b : Nat) : Int := if a < b then -1 else if b < a then 1 else 0
theorem isnan_any (a : Nat) (w : World) : Calls Try.prog 67 #[.int .u64 (a : Int)] w fun e w' => e = .returned (.bool false) ∧ w = w' := by
  go_enter Try.func67, Try.ntmps67
  go_wp2_with fail
  go_ret
  exact ⟨rfl, rfl⟩
theorem cmp_any (a b : Nat) (w : World) (ha : a < 18446744073709551616) (hb : b < 18446744073709551616) : Calls Try.prog 57 #[.int .u64 (a : Int), .int .u64 (b : Int)] w fun e w' => e = .returned (.int .i64 (cmpN a b)) ∧ w = w' := by
  go_enter Try.func57, Try.ntmps57
  go_wp2_with (go_at_call 67; refine (isnan_any _ _).mono ?_; rintro e w' ⟨rfl, rfl⟩)
  all_goals go_ret
  all_goals (unfold cmpN; refine ⟨?_, rfl⟩; (repeat' split) <;> first | rfl | omega)
end Go.Proofs.Ytmljhkdojopljaa
/-
  What the program's order of two uses answers. No conditions but those typed.
-/
namespace Go.Proofs.Ytmljhkdojopljaa
set_option maxRecDepth 100000
open Go.RowKit
set_option linter.unusedSimpArgs false
set_option linter.unusedVariables false

theorem cmpN_U (a b : Nat) : cmpN a b = cmpU a b := rfl
/-- The first of three that isn't 0. -/
theorem or3_any (x y z : Int) (g : Nat) (w : World) (t : TypeId) (hR : Row w g t [.int .i64 x, .int .i64 y, .int .i64 z]) : Calls Try.prog 56 #[.slice (some ⟨g, 0, none⟩) 3 3] w fun e w' => e = .returned (.int .i64 (if x ≠ 0 then x else if y ≠ 0 then y else z)) ∧ w = w' := by
  have c0 := hR.cell (i := 0) rfl
  have c1 := hR.cell (i := 1) rfl
  have c2 := hR.cell (i := 2) rfl
  by_cases hx : x = 0
  · subst hx
    by_cases hy : y = 0
    · subst hy
      by_cases hz : z = 0
      · subst hz
        go_enter Try.func56, Try.ntmps56
        go_wp2_with fail
        refine wp_loop_rounds 4 ?_
        iterate 4 (rw [rounds_succ]; go_wp2)
        go_ret
        exact ⟨rfl, rfl⟩
      · go_enter Try.func56, Try.ntmps56
        go_wp2_with fail
        refine wp_loop_rounds 4 ?_
        iterate 3 (rw [rounds_succ]; go_wp2)
        go_ret
        exact ⟨rfl, rfl⟩
    · go_enter Try.func56, Try.ntmps56
      go_wp2_with fail
      refine wp_loop_rounds 4 ?_
      iterate 2 (rw [rounds_succ]; go_wp2)
      go_ret
      exact ⟨by simp [hy], rfl⟩
  · go_enter Try.func56, Try.ntmps56
    go_wp2_with fail
    refine wp_loop_rounds 4 ?_
    rw [rounds_succ]
    go_wp2
    go_ret
    exact ⟨by simp [hx], rfl⟩

theorem orderU_any (a b : Us) (w : World) (ha : fitU1 a) (hb : fitU1 b) : Calls Try.prog 35 #[aggU a, aggU b] w fun e w' => e = .returned (.int .i64 (ordU a b)) ∧ Below w.heap.size w w' := by
  obtain ⟨a1, a2, a3⟩ := a
  obtain ⟨b1, b2, b3⟩ := b
  obtain ⟨ha1, ha2, ha3⟩ := ha
  obtain ⟨hb1, hb2, hb3⟩ := hb
  dsimp only at ha1 ha2 ha3 hb1 hb2 hb3
  obtain ⟨r, hr⟩ : ∃ r, ordU (a1, a2, a3) (b1, b2, b3) = r := ⟨_, rfl⟩
  rw [hr]
  have HX := Lib.hid hr
  clear hr
  unfold ordU at HX
  rw [← cmpN_U, ← cmpN_U, ← cmpN_U] at HX
  unfold aggU vNU
  dsimp only at HX ⊢
  go_enter Try.func35, Try.ntmps35
  go_wp2_with fail
  have hR0 : Row (w.alloc (.cells #[.int .u64 (a1 : Int), .int .u64 (a2 : Int), .int .u64 (a3 : Int)] 27)) w.heap.size 27 [.int .u64 (a1 : Int), .int .u64 (a2 : Int), .int .u64 (a3 : Int)] := Row.new w _ _ _ rfl
  have hR1 : Row ((w.alloc (.cells #[.int .u64 (a1 : Int), .int .u64 (a2 : Int), .int .u64 (a3 : Int)] 27)).alloc (.cells #[.int .u64 (b1 : Int), .int .u64 (b2 : Int), .int .u64 (b3 : Int)] 27)) (w.heap.size + 1) 27 [.int .u64 (b1 : Int), .int .u64 (b2 : Int), .int .u64 (b3 : Int)] := Row.new_at _ _ (by simp) _ _ _ rfl
  replace hR0 := hR0.alloc (.cells #[.int .u64 (b1 : Int), .int .u64 (b2 : Int), .int .u64 (b3 : Int)] 27)
  have hB : Below w.heap.size w ((w.alloc (.cells #[.int .u64 (a1 : Int), .int .u64 (a2 : Int), .int .u64 (a3 : Int)] 27)).alloc (.cells #[.int .u64 (b1 : Int), .int .u64 (b2 : Int), .int .u64 (b3 : Int)] 27)) := below_new (below_new (Below.refl _ _) _) _
  generalize (w.alloc (.cells #[.int .u64 (a1 : Int), .int .u64 (a2 : Int), .int .u64 (a3 : Int)] 27)).alloc (.cells #[.int .u64 (b1 : Int), .int .u64 (b2 : Int), .int .u64 (b3 : Int)] 27) = w3 at hR0 hR1 hB ⊢
  have c0 : ∀ W, Below w3.heap.size w3 W → W.cell? ⟨w.heap.size, 0, none⟩ = some (.int .u64 (a1 : Int)) := fun W hW => (hR0.later hW).cell rfl
  have c1 : ∀ W, Below w3.heap.size w3 W → W.cell? ⟨w.heap.size, 1, none⟩ = some (.int .u64 (a2 : Int)) := fun W hW => (hR0.later hW).cell rfl
  have c2 : ∀ W, Below w3.heap.size w3 W → W.cell? ⟨w.heap.size, 2, none⟩ = some (.int .u64 (a3 : Int)) := fun W hW => (hR0.later hW).cell rfl
  have c3 : ∀ W, Below w3.heap.size w3 W → W.cell? ⟨w.heap.size + 1, 0, none⟩ = some (.int .u64 (b1 : Int)) := fun W hW => (hR1.later hW).cell rfl
  have c4 : ∀ W, Below w3.heap.size w3 W → W.cell? ⟨w.heap.size + 1, 1, none⟩ = some (.int .u64 (b2 : Int)) := fun W hW => (hR1.later hW).cell rfl
  have c5 : ∀ W, Below w3.heap.size w3 W → W.cell? ⟨w.heap.size + 1, 2, none⟩ = some (.int .u64 (b3 : Int)) := fun W hW => (hR1.later hW).cell rfl
  have hBase := (Below.refl w3.heap.size w3).drew
  refine wp_region_plan (.step 0 false (.step 1 false (.step 2 false (.step 3 false (.step 5 false (.step 6 false (.step 7 false (.step 8 false (.step 10 false (.step 11 false (.step 12 false (.step 13 false (.step 4 true (.step 9 true (.step 14 true (.step 15 true (.step 16 true (.step 17 false (.nil))))))))))))))))))) (by kernel_rfl) (by kernel_rfl) (by rfl) (by kernel_rfl) ?_
  iterate 12 (refine plan_read rfl (by rfl) (v := ?_) ?_ ?_; rotate_left 1; (intro W hW; have hW0 := below_step hBase hW; (try dsimp only at hW); go_simp <;> with_reducible rfl); simp only [List.getElem_toArray, List.getElem_cons_zero, List.getElem_cons_succ, Act.put, List.setIfInBounds_toArray, List.set_cons_zero, List.set_cons_succ])
  (refine plan_make rfl (by rfl) (fun K hK => ?_); go_simp; (refine (cmp_any a1 b1 _ ha1 hb1).mono ?_; rintro e₁ w4 ⟨rfl, rfl⟩; have hbx := Below.refl w3.drew.heap.size w3.drew); refine hK.out _ _ hbx ?_; clear hK K; replace hBase := below_step hBase hbx)
  (refine plan_make rfl (by rfl) (fun K hK => ?_); go_simp; (refine (cmp_any a2 b2 _ ha2 hb2).mono ?_; rintro e₁ w4 ⟨rfl, rfl⟩; have hbx := Below.refl w3.drew.heap.size w3.drew); refine hK.out _ _ hbx ?_; clear hK K; replace hBase := below_step hBase hbx)
  (refine plan_make rfl (by rfl) (fun K hK => ?_); go_simp; (refine (cmp_any a3 b3 _ ha3 hb3).mono ?_; rintro e₁ w4 ⟨rfl, rfl⟩; have hbx := Below.refl w3.drew.heap.size w3.drew); refine hK.out _ _ hbx ?_; clear hK K; replace hBase := below_step hBase hbx)
  generalize cmpN a1 b1 = x at HX ⊢
  generalize cmpN a2 b2 = y at HX ⊢
  generalize cmpN a3 b3 = z at HX ⊢
  have hR2 := Row.new w3.drew 3 [.int .i64 x, .int .i64 y, .int .i64 z] _ rfl
  (refine plan_make rfl (by rfl) (fun K hK => ?_); go_simp; (have hbx := below_new (Below.refl _ w3.drew) (.cells #[.int .i64 x, .int .i64 y, .int .i64 z] 3)); refine hK.out _ _ hbx ?_; clear hK K; replace hBase := below_step hBase hbx)
  have hor := or3_any x y z _ _ _ hR2
  rw [HX.out] at hor
  (refine plan_make rfl (by rfl) (fun K hK => ?_); go_simp; (refine hor.mono ?_; clear hor; rintro e₁ w4 ⟨rfl, rfl⟩; have hbx := Below.refl (w3.drew.alloc (.cells #[.int .i64 x, .int .i64 y, .int .i64 z] 3)).heap.size (w3.drew.alloc (.cells #[.int .i64 x, .int .i64 y, .int .i64 z] 3))); refine hK.out _ _ hbx ?_; clear hK K; replace hBase := below_step hBase hbx)
  iterate 1 (refine plan_read rfl (by rfl) (v := ?_) ?_ ?_; rotate_left 1; (intro W hW; have hW0 := below_step hBase hW; (try dsimp only at hW); go_simp <;> with_reducible rfl); simp only [List.getElem_toArray, List.getElem_cons_zero, List.getElem_cons_succ, Act.put, List.setIfInBounds_toArray, List.set_cons_zero, List.set_cons_succ])
  refine plan_done ?_
  go_wp2_with fail
  go_ret
  exact ⟨rfl, below_step hB hBase⟩
end Go.Proofs.Ytmljhkdojopljaa
/-
  What the program's closure of a floor, slices.IndexFunc and slices.ContainsFunc at it, rising.All at the order of uses, and the call Right of layer 19 answer. No conditions but those typed.
-/
namespace Go.Proofs.Ytmljhkdojopljaa
set_option maxRecDepth 100000
open Go.RowKit
set_option linter.unusedSimpArgs false
set_option linter.unusedVariables false

/-- The closure of a floor that lies in block g. -/
def fnBelow (g : Nat) : Value := .func (.func 61) #[] #[.pointer (some ⟨g, 0, none⟩)]

theorem belowU_any (x : Us) (fl g : Nat) (w : World) (c1 : w.cell? ⟨g, 0, none⟩ = some (.int .u64 (fl : Int))) :
    Calls Try.prog 61 #[aggU x, .pointer (some ⟨g, 0, none⟩)] w fun e w' => e = .returned (.bool (decide (x.2.2 < fl))) ∧ Below w.heap.size w w' := by
  obtain ⟨x0, x1, x2⟩ := x
  unfold aggU vNU
  dsimp only
  have hR0 : Row (w.alloc (.cells #[.int .u64 (x0 : Int), .int .u64 (x1 : Int), .int .u64 (x2 : Int)] 27)) w.heap.size 27 [.int .u64 (x0 : Int), .int .u64 (x1 : Int), .int .u64 (x2 : Int)] := Row.new w _ _ _ rfl
  have hB0 := below_new (Below.refl _ w) (.cells #[.int .u64 (x0 : Int), .int .u64 (x1 : Int), .int .u64 (x2 : Int)] 27)
  have d1 : (w.alloc (.cells #[.int .u64 (x0 : Int), .int .u64 (x1 : Int), .int .u64 (x2 : Int)] 27)).cell? ⟨g, 0, none⟩ = some (.int .u64 (fl : Int)) := (hB0.cell (p := ⟨g, 0, none⟩) (World.block_lt_of_cell? w _ c1)).trans c1
  have k2 : (w.alloc (.cells #[.int .u64 (x0 : Int), .int .u64 (x1 : Int), .int .u64 (x2 : Int)] 27)).cell? ⟨w.heap.size, 2, none⟩ = some (.int .u64 (x2 : Int)) := hR0.cell rfl
  clear hR0 c1
  go_enter Try.func61, Try.ntmps61
  go_upto_region 1 with fail
  generalize w.alloc (.cells #[.int .u64 (x0 : Int), .int .u64 (x1 : Int), .int .u64 (x2 : Int)] 27) = W at hB0 d1 k2 ⊢
  go_wp2_with fail
  go_ret
  exact ⟨by simp, hB0⟩

theorem mkbelow_any (fl : Nat) (w : World) : Calls Try.prog 39 #[.int .u64 (fl : Int)] w fun e w' => ∃ g, e = .returned (fnBelow g) ∧ w.heap.size ≤ g ∧ w'.cell? ⟨g, 0, none⟩ = some (.int .u64 (fl : Int)) ∧ Below w.heap.size w w' := by
  have hR0 : Row (w.alloc (.cells #[.int .u64 (fl : Int)] 22)) w.heap.size 22 [.int .u64 (fl : Int)] := Row.new w _ _ _ rfl
  have hB0 := below_new (Below.refl _ w) (.cells #[.int .u64 (fl : Int)] 22)
  go_enter Try.func39, Try.ntmps39
  go_wp2_with fail
  go_ret
  exact ⟨w.heap.size, rfl, Nat.le_refl _, hR0.cell rfl, hB0⟩

/-- The first use below a floor, if there is one. -/
def IdxB (fl : Nat) (l : List Us) (v : Int) : Prop := (v = -1 ∧ ∀ u ∈ l, fl ≤ u.2.2) ∨ ∃ k : Nat, v = (k : Int) ∧ ∃ hk : k < l.length, ¬ fl ≤ l[k].2.2 ∧ belowAt fl l k

set_option maxHeartbeats 1000000 in
theorem indexBelow_any (l : List Us) (fl n c g : Nat) (A : Option Addr) (w : World) (HN : Hid (l.length = n)) (hr : RdU w A l) (hn : n ≤ 1000000000) (c1 : w.cell? ⟨g, 0, none⟩ = some (.int .u64 (fl : Int))) :
    Calls Try.prog 60 #[.slice A n c, .func (.func 61) #[] #[.pointer (some ⟨g, 0, none⟩)]] w fun e w' => (∃ v : Int, e = .returned (.int .i64 v) ∧ IdxB fl l v) ∧ Below w.heap.size w w' := by
  have hg1 := World.block_lt_of_cell? w _ c1
  have C1 : Hid (∀ W, Below w.heap.size w W → W.cell? ⟨g, 0, none⟩ = some (.int .u64 (fl : Int))) := fun W hW => (hW.cell (p := ⟨g, 0, none⟩) hg1).trans c1
  clear c1 hg1
  go_enter Try.func60, Try.ntmps60
  go_wp2_with fail
  go_loopw [8] (fun i wr => (∃ k : Nat, i = .int .i64 (k : Int) ∧ k ≤ n ∧ belowAt fl l k) ∧ Below w.heap.size w wr) (fun i _ => n - (intOf i).toNat)
  case atStart => exact ⟨⟨0, rfl, by omega, fun j _ hj => by omega⟩, Below.refl _ _⟩
  case round =>
    obtain ⟨⟨k, rfl, hk, hs⟩, hB⟩ := hrel
    have HS := Lib.hid hs
    have HB := Lib.hid hB
    by_cases hlt : k < n
    · have hkl : k < l.length := by rw [HN.out]; exact hlt
      obtain ⟨b, o, rfl, hb, _, p0, p1, p2⟩ := hr.pair hkl
      have HT : Hid (fl ≤ l[k].2.2 → belowAt fl l (k + 1)) := fun h j hj hjk => by
        by_cases e : j = k
        · subst e; exact h
        · exact HS.out j hj (by omega)
      have HI : Hid (¬ fl ≤ l[k].2.2 → IdxB fl l (k : Int)) := fun h => .inr ⟨k, rfl, hkl, h, HS.out⟩
      generalize l[k] = x at p0 p1 p2 HT HI
      obtain ⟨x0, x1, x2⟩ := x
      unfold vNU at p0 p1 p2
      dsimp only at p0 p1 p2 HT HI
      replace p0 := (hB.cell (p := ⟨b, o + k * 3, none⟩) hb).trans p0
      replace p1 := (hB.cell (p := ⟨b, o + k * 3 + 1, none⟩) hb).trans p1
      replace p2 := (hB.cell (p := ⟨b, o + k * 3 + 2, none⟩) hb).trans p2
      have i2 : (0 : Int) ≤ (k : Int) := by omega
      have i3 : (k : Int) < (n : Int) := by omega
      clear hs hB
      go_wp2_with fail
      have hcl := belowU_any (x0, x1, x2) fl g _ (C1.out wr HB.out)
      unfold aggU vNU at hcl
      refine hcl.mono ?_
      clear hcl
      rintro e w1 ⟨rfl, hb1⟩
      have HB2 := Lib.hid (below_step HB.out hb1)
      clear p0 p1 p2 hb1
      dsimp only
      by_cases hx : x2 < fl
      · have hd : decide (x2 < fl) = true := decide_eq_true hx
        rw [hd]
        have HI2 := Lib.hid (HI.out (by omega))
        clear hd hx
        go_wp2_with fail
        go_ret
        exact ⟨⟨_, rfl, HI2.out⟩, HB2.out⟩
      · have hd : decide (x2 < fl) = false := decide_eq_false hx
        rw [hd]
        have HT2 := Lib.hid (HT.out (by omega))
        clear hd hx
        go_wp2_with fail
        go_roundw
        case rel => exact ⟨⟨k + 1, by go_num, by omega, HT2.out⟩, HB2.out⟩
        case measure => simp [intOf]; omega
    · have j1 : ¬ (k : Int) < (n : Int) := by omega
      have HA : Hid (∀ u ∈ l, fl ≤ u.2.2) := fun u hu => by
        obtain ⟨j, hj, rfl⟩ := List.getElem_of_mem hu
        exact HS.out j hj (by have := HN.out; omega)
      clear hs hB
      go_wp2_with fail
      go_ret
      exact ⟨⟨-1, rfl, .inl ⟨rfl, HA.out⟩⟩, HB.out⟩

theorem containsBelow_any (l : List Us) (fl n c g : Nat) (A : Option Addr) (w : World) (HN : Hid (l.length = n)) (hr : RdU w A l) (hn : n ≤ 1000000000) (c1 : w.cell? ⟨g, 0, none⟩ = some (.int .u64 (fl : Int))) :
    Calls Try.prog 40 #[.slice A n c, .func (.func 61) #[] #[.pointer (some ⟨g, 0, none⟩)]] w fun e w' => e = .returned (.bool (l.any (fun u => decide (u.2.2 < fl)))) ∧ Below w.heap.size w w' := by
  have HIX := Lib.hid (indexBelow_any l fl n c g A w HN hr hn c1)
  clear c1
  go_enter Try.func40, Try.ntmps40
  go_wp2_with fail
  refine HIX.out.mono ?_
  rintro e w1 ⟨⟨v, rfl, hv⟩, hb⟩
  have HV : Hid (decide (0 ≤ v) = l.any (fun u => decide (u.2.2 < fl))) := by
    unfold Hid
    rcases hv with ⟨rfl, ha⟩ | ⟨k, rfl, hk, hlt, _⟩
    · rw [any_below.2 ha]
      rfl
    · have : l.any (fun u => decide (u.2.2 < fl)) = true := List.any_eq_true.2 ⟨l[k], List.getElem_mem hk, decide_eq_true (by omega)⟩
      rw [this]
      exact decide_eq_true (by omega)
  clear hv
  go_wp2_with fail
  go_ret
  exact ⟨by rw [← HV.out]; rfl, hb⟩

set_option maxHeartbeats 1000000 in
theorem risingU_any (l : List Us) (n c : Nat) (A : Option Addr) (w : World) (HN : Hid (l.length = n)) (hr : RdU w A l) (HF : Hid (fitU l)) (hn : n ≤ 1000000000) :
    Calls Try.prog 41 #[.slice A n c, .func (.func 35) #[] #[]] w fun e w' => e = .returned (.bool (sortU l)) ∧ Below w.heap.size w w' := by
  go_enter Try.func41, Try.ntmps41
  go_wp2_with fail
  go_loopw [5] (fun i wr => (∃ k : Nat, 1 ≤ k ∧ i = .int .i64 (k : Int) ∧ k ≤ max 1 n ∧ ∀ j (h : j + 1 < l.length), j + 1 < k → ltU l[j] l[j + 1] = true) ∧ Below w.heap.size w wr) (fun i _ => n - (intOf i).toNat)
  case atStart => exact ⟨⟨1, Nat.le_refl _, rfl, by omega, fun j _ hj => by omega⟩, Below.refl _ _⟩
  case round =>
    obtain ⟨⟨k, hk1, rfl, hk2, hs⟩, hB⟩ := hrel
    by_cases hlt : k < n
    · obtain ⟨m, hm⟩ : ∃ m, m = k - 1 := ⟨_, rfl⟩
      have hw : IntKind.i64.wrap ((k : Int) - 1) = (m : Int) := by rw [IntKind.wrap_i64]; omega
      have hlen := HN.out
      have hka : k - 1 < l.length := by omega
      have hkb : k < l.length := by omega
      obtain ⟨b, o, rfl, hb, hcell⟩ := hr.at hkb
      obtain ⟨p0, p1, p2⟩ := hcell (k - 1) hka
      obtain ⟨q0, q1, q2⟩ := hcell k hkb
      have HP : Hid (fitU1 l[k - 1]) := HF.out _ (List.getElem_mem hka)
      have HQ : Hid (fitU1 l[k]) := HF.out _ (List.getElem_mem hkb)
      have HS : Hid (∀ j (h : j + 1 < l.length), j + 1 < k + 1 → (ltU l[k - 1] l[k] = true → ltU l[j] l[j + 1] = true)) := by
        intro j hj hjk h
        by_cases e : j + 1 = k
        · subst e
          exact h
        · exact hs j hj (by omega)
      have HE : Hid (ltU l[k - 1] l[k] = false → sortU l = false) := by
        intro h
        rw [Bool.eq_false_iff]
        intro h2
        have h3 := (sortU_at l).1 h2 (k - 1) (by omega)
        have e : k - 1 + 1 = k := by omega
        simp only [e] at h3
        rw [h] at h3
        cases h3
      generalize l[k - 1] = x at p0 p1 p2 HP HS HE
      generalize l[k] = y at q0 q1 q2 HQ HS HE
      obtain ⟨x0, x1, x2⟩ := x
      obtain ⟨y0, y1, y2⟩ := y
      rw [← hm] at p0 p1 p2
      have HM := Lib.hid hm
      unfold vNU at p0 p1 p2 q0 q1 q2
      dsimp only at p0 p1 p2 q0 q1 q2
      have d0 : ∀ W, Below wr.heap.size wr W → W.cell? ⟨b, o + m * 3, none⟩ = some (.int .u64 (x0 : Int)) := fun W hW => ((hB.trans (hW.mono hB.size)).cell (p := ⟨b, o + m * 3, none⟩) hb).trans p0
      have d1 : ∀ W, Below wr.heap.size wr W → W.cell? ⟨b, o + m * 3 + 1, none⟩ = some (.int .u64 (x1 : Int)) := fun W hW => ((hB.trans (hW.mono hB.size)).cell (p := ⟨b, o + m * 3 + 1, none⟩) hb).trans p1
      have d2 : ∀ W, Below wr.heap.size wr W → W.cell? ⟨b, o + m * 3 + 2, none⟩ = some (.int .u64 (x2 : Int)) := fun W hW => ((hB.trans (hW.mono hB.size)).cell (p := ⟨b, o + m * 3 + 2, none⟩) hb).trans p2
      have d3 : ∀ W, Below wr.heap.size wr W → W.cell? ⟨b, o + k * 3, none⟩ = some (.int .u64 (y0 : Int)) := fun W hW => ((hB.trans (hW.mono hB.size)).cell (p := ⟨b, o + k * 3, none⟩) hb).trans q0
      have d4 : ∀ W, Below wr.heap.size wr W → W.cell? ⟨b, o + k * 3 + 1, none⟩ = some (.int .u64 (y1 : Int)) := fun W hW => ((hB.trans (hW.mono hB.size)).cell (p := ⟨b, o + k * 3 + 1, none⟩) hb).trans q1
      have d5 : ∀ W, Below wr.heap.size wr W → W.cell? ⟨b, o + k * 3 + 2, none⟩ = some (.int .u64 (y2 : Int)) := fun W hW => ((hB.trans (hW.mono hB.size)).cell (p := ⟨b, o + k * 3 + 2, none⟩) hb).trans q2
      have i0 : (0 : Int) ≤ (m : Int) := by omega
      have i1 : (m : Int) < (n : Int) := by omega
      have i2 : (0 : Int) ≤ (k : Int) := by omega
      have i3 : (k : Int) < (n : Int) := by omega
      have HB := Lib.hid hB
      clear hcell hs p0 p1 p2 q0 q1 q2 hB hlen hm
      go_wp2_with fail
      have hBase := (Below.refl wr.heap.size wr).drew
      refine wp_region_plan (.step 0 false (.step 1 false (.step 2 false (.step 3 false (.step 4 false (.step 5 false (.step 6 false (.step 7 false (.step 8 false (.step 9 false (.step 10 true (.step 11 false (.nil))))))))))))) (by kernel_rfl) (by kernel_rfl) (by rfl) (by kernel_rfl) ?_
      iterate 10 (refine plan_read rfl (by rfl) (v := ?_) ?_ ?_; rotate_left 1; (intro W hW; have hW0 := below_step hBase hW; (try dsimp only at hW); go_simp <;> with_reducible rfl); simp only [List.getElem_toArray, List.getElem_cons_zero, List.getElem_cons_succ, Act.put, List.setIfInBounds_toArray, List.set_cons_zero, List.set_cons_succ])
      (refine plan_make rfl (by rfl) (fun K hK => ?_); go_simp; (refine (orderU_any (x0, x1, x2) (y0, y1, y2) _ HP.out HQ.out).mono ?_; rintro e₁ w4 ⟨rfl, hbx⟩); refine hK.out _ _ hbx ?_; clear hK K; replace hBase := below_step hBase hbx)
      have hneg := ordU_neg (x0, x1, x2) (y0, y1, y2)
      generalize ordU (x0, x1, x2) (y0, y1, y2) = r at hneg ⊢
      by_cases hr0 : 0 ≤ r
      · have hS : sortU l = false := HE.out (by rw [Bool.eq_false_iff]; intro h; have := hneg.2 h; omega)
        have HSR := Lib.hid hS
        clear hneg HS HE hS
        have hd : decide (0 ≤ r) = true := decide_eq_true hr0
        iterate 1 (refine plan_read rfl (by rfl) (v := ?_) ?_ ?_; rotate_left 1; (intro W hW; have hW0 := below_step hBase hW; (try dsimp only at hW); go_simp <;> with_reducible rfl); simp only [List.getElem_toArray, List.getElem_cons_zero, List.getElem_cons_succ, Act.put, List.setIfInBounds_toArray, List.set_cons_zero, List.set_cons_succ])
        refine plan_done ?_
        go_wp2_with fail
        go_ret
        exact ⟨by rw [HSR.out]; rfl, below_step HB.out hBase⟩
      · have hL : ltU (x0, x1, x2) (y0, y1, y2) = true := hneg.1 (by omega)
        clear hneg
        have HB2 := Lib.hid (below_step HB.out hBase)
        have hd : decide (0 ≤ r) = false := decide_eq_false hr0
        iterate 1 (refine plan_read rfl (by rfl) (v := ?_) ?_ ?_; rotate_left 1; (intro W hW; have hW0 := below_step hBase hW; (try dsimp only at hW); go_simp <;> with_reducible rfl); simp only [List.getElem_toArray, List.getElem_cons_zero, List.getElem_cons_succ, Act.put, List.setIfInBounds_toArray, List.set_cons_zero, List.set_cons_succ])
        refine plan_done ?_
        go_wp2_with fail
        go_roundw
        case rel => exact ⟨⟨k + 1, by omega, by go_num, by omega, fun j hj hjk => HS.out j hj hjk hL⟩, HB2.out⟩
        case measure => simp [intOf]; omega
    · have hS : sortU l = true := (sortU_at l).2 (fun j hj => hs j hj (by have := HN.out; omega))
      have HSR := Lib.hid hS
      have HB := Lib.hid hB
      have j1 : ¬ (k : Int) < (n : Int) := by omega
      clear hs hB hS
      go_wp2_with fail
      go_ret
      exact ⟨by rw [HSR.out]; rfl, HB.out⟩

theorem room_any (room : Int) (w : World) : Calls Try.prog 32 #[.int .i64 room] w fun e w' => e = .returned (.bool (decide (0 ≤ room ∧ room ≤ 64))) ∧ w = w' := by
  obtain ⟨P, hP⟩ : ∃ P, decide (0 ≤ room ∧ room ≤ 64) = P := ⟨_, rfl⟩
  rw [hP]
  have HP := Lib.hid hP
  clear hP
  by_cases h1 : 0 ≤ room
  · by_cases h2 : room ≤ 64
    · have HD : Hid (P = true) := HP.out.symm.trans (decide_eq_true ⟨h1, h2⟩)
      go_enter Try.func32, Try.ntmps32
      go_wp2_with fail
      go_ret
      exact ⟨by rw [HD.out]; rfl, rfl⟩
    · have HD : Hid (P = false) := HP.out.symm.trans (decide_eq_false (fun h => h2 h.2))
      go_enter Try.func32, Try.ntmps32
      go_wp2_with fail
      go_ret
      exact ⟨by rw [HD.out]; rfl, rfl⟩
  · have HD : Hid (P = false) := HP.out.symm.trans (decide_eq_false (fun h => h1 h.1))
    go_enter Try.func32, Try.ntmps32
    go_wp2_with fail
    go_ret
    exact ⟨by rw [HD.out]; rfl, rfl⟩

/-- A cache as a value: where its uses lie. -/
def aggC (room : Int) (fl : Nat) (A : Option Addr) (n c : Nat) : Value := .agg #[.int .i64 room, .int .u64 (fl : Int), .slice A n c]

set_option maxHeartbeats 1000000 in
theorem right19_any (room : Int) (fl : Nat) (l : List Us) (n c : Nat) (A : Option Addr) (w : World) (HN : Hid (l.length = n)) (hr : RdU w A l) (HF : Hid (fitU l)) (hn : n ≤ 1000000000) :
    Calls Try.prog 16 #[aggC room fl A n c] w fun e w' => e = .returned (.bool (rightC (room, fl, l))) ∧ Below w.heap.size w w' := by
  obtain ⟨P, hP⟩ : ∃ P, rightC (room, fl, l) = P := ⟨_, rfl⟩
  rw [hP]
  have HP := Lib.hid hP
  clear hP
  unfold Hid at HP
  rw [rightC_eq] at HP
  dsimp only at HP
  have HP := Lib.hid HP
  have hR : Row (w.alloc (.cells #[.int .i64 room, .int .u64 (fl : Int), .slice A n c] 25)) w.heap.size 25 [.int .i64 room, .int .u64 (fl : Int), .slice A n c] := Row.new w _ _ _ rfl
  have hB0 := below_new (Below.refl _ w) (.cells #[.int .i64 room, .int .u64 (fl : Int), .slice A n c] 25)
  unfold aggC
  go_enter Try.func16, Try.ntmps16
  go_upto_region 1 with fail
  generalize w.alloc (.cells #[.int .i64 room, .int .u64 (fl : Int), .slice A n c] 25) = w1 at hR hB0 ⊢
  have hlt := hR.lt
  generalize w.heap.size = bg at hR hlt ⊢
  have c0 := hR.cell (i := 0) rfl
  have c2 := hR.cell (i := 2) rfl
  have HB0 := Lib.hid hB0
  clear hB0
  go_wp2_with fail
  refine (room_any room _).mono ?_
  rintro e w2 ⟨rfl, rfl⟩
  by_cases h1 : 0 ≤ room ∧ room ≤ 64
  · have hd : decide (0 ≤ room ∧ room ≤ 64) = true := decide_eq_true h1
    rw [hd]
    have HP1 := HP.out
    rw [hd, Bool.true_and] at HP1
    by_cases h2 : (n : Int) ≤ room
    · have h2' : ((l.length : Nat) : Int) ≤ room := by rw [HN.out]; exact h2
      rw [decide_eq_true h2', Bool.true_and] at HP1
      have HP2 := Lib.hid HP1
      clear HP HP1 hd h1 h2'
      have g2 : ¬ room < (n : Int) := by omega
      have d0 : ∀ W, Below w1.heap.size w1 W → W.cell? ⟨bg, 0, none⟩ = some (.int .i64 room) := fun W hW => (hR.later hW).cell rfl
      have d1 : ∀ W, Below w1.heap.size w1 W → W.cell? ⟨bg, 1, none⟩ = some (.int .u64 (fl : Int)) := fun W hW => (hR.later hW).cell rfl
      have d2 : ∀ W, Below w1.heap.size w1 W → W.cell? ⟨bg, 2, none⟩ = some (.slice A n c) := fun W hW => (hR.later hW).cell rfl
      go_upto_region 3 with fail
      have hBase := (Below.refl w1.heap.size w1).drew
      refine wp_region_plan (.step 0 false (.step 1 false (.step 2 false (.step 3 false (.step 4 true (.step 5 true (.step 6 false (.step 7 false (.step 8 false (.step 9 false (.step 10 true (.step 11 false (.step 12 false (.nil)))))))))))))) (by kernel_rfl) (by kernel_rfl) (by rfl) (by kernel_rfl) ?_
      iterate 4 (refine plan_read rfl (by rfl) (v := ?_) ?_ ?_; rotate_left 1; (intro W hW; have hW0 := below_step hBase hW; (try dsimp only at hW); go_simp <;> with_reducible rfl); simp only [List.getElem_toArray, List.getElem_cons_zero, List.getElem_cons_succ, Act.put, List.setIfInBounds_toArray, List.set_cons_zero, List.set_cons_succ])
      (refine plan_make rfl (by rfl) (fun K hK => ?_); go_simp; (refine (mkbelow_any fl _).mono ?_; rintro e₁ w4 ⟨gb, rfl, hgb, hcb, hbx⟩; unfold fnBelow); refine hK.out _ _ hbx ?_; clear hK K; replace hBase := below_step hBase hbx)
      (refine plan_make rfl (by rfl) (fun K hK => ?_); go_simp; (refine (containsBelow_any l fl n c gb A _ HN ((hr.keep HB0.out).keep hBase) hn hcb).mono ?_; rintro e₁ w5 ⟨rfl, hbx⟩); refine hK.out _ _ hbx ?_; clear hK K; replace hBase := below_step hBase hbx)
      cases hany : l.any (fun u => decide (u.2.2 < fl)) with
      | true =>
        rw [hany] at HP2
        have HP3 : Hid (P = false) := HP2.out.symm
        iterate 2 (refine plan_read rfl (by rfl) (v := ?_) ?_ ?_; rotate_left 1; (intro W hW; have hW0 := below_step hBase hW; (try dsimp only at hW); go_simp <;> with_reducible rfl); simp only [List.getElem_toArray, List.getElem_cons_zero, List.getElem_cons_succ, Act.put, List.setIfInBounds_toArray, List.set_cons_zero, List.set_cons_succ])
        iterate 3 (refine plan_skip rfl (by rfl) ?_; simp only [List.getElem_toArray, List.getElem_cons_zero, List.getElem_cons_succ, Act.put, List.setIfInBounds_toArray, List.set_cons_zero, List.set_cons_succ])
        iterate 2 (refine plan_read rfl (by rfl) (v := ?_) ?_ ?_; rotate_left 1; (intro W hW; have hW0 := below_step hBase hW; (try dsimp only at hW); go_simp <;> with_reducible rfl); simp only [List.getElem_toArray, List.getElem_cons_zero, List.getElem_cons_succ, Act.put, List.setIfInBounds_toArray, List.set_cons_zero, List.set_cons_succ])
        refine plan_done ?_
        have HB2 := Lib.hid (below_step HB0.out hBase)
        go_wp2_with fail
        go_ret
        exact ⟨by rw [HP3.out]; rfl, HB2.out⟩
      | false =>
        rw [hany] at HP2
        have HP3 : Hid (P = sortU l) := HP2.out.symm
        iterate 4 (refine plan_read rfl (by rfl) (v := ?_) ?_ ?_; rotate_left 1; (intro W hW; have hW0 := below_step hBase hW; (try dsimp only at hW); go_simp <;> with_reducible rfl); simp only [List.getElem_toArray, List.getElem_cons_zero, List.getElem_cons_succ, Act.put, List.setIfInBounds_toArray, List.set_cons_zero, List.set_cons_succ])
        (refine plan_make rfl (by rfl) (fun K hK => ?_); go_simp; (refine (risingU_any l n c A _ HN ((hr.keep HB0.out).keep hBase) HF hn).mono ?_; rintro e₁ w6 ⟨rfl, hbx⟩); refine hK.out _ _ hbx ?_; clear hK K; replace hBase := below_step hBase hbx)
        iterate 2 (refine plan_read rfl (by rfl) (v := ?_) ?_ ?_; rotate_left 1; (intro W hW; have hW0 := below_step hBase hW; (try dsimp only at hW); go_simp <;> with_reducible rfl); simp only [List.getElem_toArray, List.getElem_cons_zero, List.getElem_cons_succ, Act.put, List.setIfInBounds_toArray, List.set_cons_zero, List.set_cons_succ])
        refine plan_done ?_
        have HB2 := Lib.hid (below_step HB0.out hBase)
        go_wp2_with fail
        go_ret
        exact ⟨by rw [HP3.out]; rfl, HB2.out⟩
    · have h2' : ¬ ((l.length : Nat) : Int) ≤ room := by rw [HN.out]; exact h2
      rw [decide_eq_false h2', Bool.false_and] at HP1
      have HP2 := Lib.hid HP1
      clear HP HP1 hd h1 h2'
      have g2 : room < (n : Int) := by omega
      go_wp2_with fail
      go_ret
      exact ⟨by rw [← HP2.out]; rfl, HB0.out⟩
  · have hd : decide (0 ≤ room ∧ room ≤ 64) = false := decide_eq_false h1
    rw [hd]
    have HP1 := HP.out
    rw [hd, Bool.false_and] at HP1
    have HP2 := Lib.hid HP1
    clear HP HP1 hd h1
    go_wp2_with fail
    go_ret
    exact ⟨by rw [← HP2.out]; rfl, HB0.out⟩
end Go.Proofs.Ytmljhkdojopljaa
