/-
  Words for memory (no program is named here): a slice value that reads as a list, kept while nothing that was there is written; a slice cut; bytes made into a string. No conditions but those typed.
-/
import Derived.Below
import Derived.Laws.OwnMore
import Derived.Deep.Draws
import Derived.Deep.AppendLies
import Derived.Laws.BytesArg
import Derived.Laws.Slices
import Derived.Laws.MakeOwn
import Derived.Laws.BitsAllLaws
import Derived.Laws.BitsLemmas
import Derived.IntWalk
import Derived.RowKit
import Derived.Test.YtfalghmgibnjdaaDoorRows
import Derived.WalkKit
import Derived.WalkSpells
import Derived.Lib.Hide
import Derived.LoopTactic
import Derived.LoopN
import Derived.OwnWalk
import Derived.OrdersHeld
import Derived.Deep.RegionHeld3
import Derived.Maps.AppendAt
namespace Go.Proofs.YtfalghmgibnjdaaDoor
set_option maxRecDepth 100000
open Go.RowKit

def vB (c : UInt8) : Value := .int .u8 (c.toNat : Int)
def vW (c : UInt32) : Value := .int .u32 (c.toNat : Int)

/-- The slice value with address A reads, in world w, as the list l. -/
def Rd {α : Type} (f : α → Value) (w : World) (A : Option Addr) (l : List α) : Prop :=
  l ≠ [] → ∃ b o, A = some ⟨b, o, none⟩ ∧ ∀ i (h : i < l.length), w.cell? ⟨b, o + i, none⟩ = some (f l[i])

section
variable {α : Type} {f : α → Value} {w w' : World} {A : Option Addr} {l : List α}
theorem Rd.nil : Rd f w A [] := fun h => absurd rfl h
theorem Rd.keep (h : Rd f w A l) (hb : Below w.heap.size w w') : Rd f w' A l := fun hn => by
  obtain ⟨b, o, e, hc⟩ := h hn
  refine ⟨b, o, e, fun i hi => ?_⟩
  have := hc i hi
  rw [hb.cell (p := ⟨b, o + i, none⟩) (World.block_lt_of_cell? w _ this)]
  exact this
theorem Rd.at (h : Rd f w A l) {k : Nat} (hk : k < l.length) : ∃ b o, A = some ⟨b, o, none⟩ ∧ b < w.heap.size ∧ ∀ i (hi : i < l.length), w.cell? ⟨b, o + i, none⟩ = some (f l[i]) := by
  obtain ⟨b, o, e, hc⟩ := h (by rintro rfl; simp at hk)
  exact ⟨b, o, e, World.block_lt_of_cell? w _ (hc k hk), hc⟩
theorem Rd.new (w : World) (l : List α) (cs : Array Value) (e : TypeId) (h : cs = (l.map f).toArray) : Rd f (w.alloc (.cells cs e)) (some ⟨w.heap.size, 0, none⟩) l := fun _ => by
  refine ⟨w.heap.size, 0, rfl, fun i hi => ?_⟩
  subst h
  rw [cell_of_row _ w.heap.size (0 + i) _ e (0, 0) (heap_alloc_new w _)]
  simp [hi]
theorem Rd.new_at (w : World) (g : Nat) (hg : g = w.heap.size) (l : List α) (cs : Array Value) (e : TypeId) (h : cs = (l.map f).toArray) : Rd f (w.alloc (.cells cs e)) (some ⟨g, 0, none⟩) l := by
  subst hg
  exact Rd.new w l cs e h
theorem Rd.drop (h : Rd f w A l) (k : Nat) (cap : Nat) (hc : l.length ≤ cap) : Rd f w (if cap = k then A else A.map (·.add (k * 1))) (l.drop k) := fun hn => by
  have hk : k < l.length := by
    rcases Nat.lt_or_ge k l.length with h | h
    · exact h
    · exact absurd (List.drop_eq_nil_of_le h) hn
  obtain ⟨b, o, e, hcell⟩ := h (by rintro rfl; simp at hk)
  subst e
  rw [if_neg (by omega)]
  refine ⟨b, o + k, by simp [Addr.add], fun i hi => ?_⟩
  have hi' : k + i < l.length := by simp at hi; omega
  rw [Nat.add_assoc, hcell (k + i) hi']
  simp
theorem Rd.take (h : Rd f w A l) (k : Nat) : Rd f w A (l.take k) := fun hn => by
  obtain ⟨b, o, e, hcell⟩ := h (by rintro rfl; simp at hn)
  refine ⟨b, o, e, fun i hi => ?_⟩
  have hi' : i < l.length := by simp at hi; omega
  rw [hcell i hi']
  simp
theorem Rd.news {b o : Nat} (h : Rd f w (some ⟨b, o, none⟩) l) (j : Nat) (u : Value) (hu : (l.map f)[j]? = some u) : w.cell? ((⟨b, o, none⟩ : Addr).add j) = some u := by
  have hj : j < l.length := by
    rcases Nat.lt_or_ge j l.length with h | h
    · exact h
    · rw [List.getElem?_eq_none (by simpa using h)] at hu
      cases hu
  obtain ⟨b', o', e, hc⟩ := h (by rintro rfl; simp at hj)
  injection e with e
  injection e with e1 e2 _
  subst e1 e2
  have e1 : (⟨b, o, none⟩ : Addr).add j = ⟨b, o + j, none⟩ := by unfold Addr.add; split <;> simp_all
  rw [e1, hc j hj]
  simpa [hj] using hu
theorem Rd.own {base : Nat} {e : TypeId} {n c : Nat} (h : w.ownsRow base e 1 (.slice A n c) n (l.map f)) : Rd f w A l := fun hn => by
  have hl : l.length = n := by simpa using h.1
  have hpos : 0 < n := by
    rcases Nat.eq_zero_or_pos n with h0 | h0
    · exact absurd (List.eq_nil_of_length_eq_zero (by omega)) hn
    · exact h0
  obtain ⟨g, cap, hv, _, hlt⟩ := h.form hpos
  have hA : A = some ⟨g, 0, none⟩ := by injection hv
  subst hA
  refine ⟨g, 0, rfl, fun i hi => ?_⟩
  have := h.cells (g := g) rfl i (f l[i]) (by simp [hi])
  have e1 : (⟨g, 0, none⟩ : Addr).add i = ⟨g, 0 + i, none⟩ := by unfold Addr.add; split <;> simp_all
  rw [← e1]
  exact this
end

/-- 's[k:]': one name for the address that is left. -/
theorem cut_from {P : Program} (t e : TypeId) (ht : P.underlying t = some (.slice e)) (hz : ∀ w, (sizeOf e).run P w = .ok 1 w) (A : Option Addr) (n cap k : Nat) (hk : k ≤ n) (hc : n ≤ cap) :
    ∃ A', (∀ w, (Instr.slice t (.slice A n cap) (some (.int .i64 (k : Int))) none none).run P w = .ok (.slice A' (n - k) (cap - k)) w) ∧
      ∀ {α : Type} (f : α → Value) (w : World) (l : List α), l.length = n → Rd f w A l → Rd f w A' (l.drop k) := by
  have ht' : P.underlying t = some (.slice (P.elem t)) := by simp [Program.elem, ht]
  have he : P.elem t = e := by simp [Program.elem, ht]
  refine ⟨if cap = k then A else A.map (·.add (k * 1)), fun w => ?_, fun f w l hl h => h.drop k cap (by omega)⟩
  rw [run_slice_l w t A n cap ht' .i64 (k : Int) (by omega) (by omega), he, hz]
  simp [Result.andThen, sliced]

theorem run_cut_to {P : Program} (t e : TypeId) (ht : P.underlying t = some (.slice e)) (hz : ∀ w, (sizeOf e).run P w = .ok 1 w) (A : Option Addr) (n cap k : Nat) (hk : k ≤ cap) (w : World) :
    (Instr.slice t (.slice A n cap) none (some (.int .i64 (k : Int))) none).run P w = .ok (.slice A k cap) w := by
  have ht' : P.underlying t = some (.slice (P.elem t)) := by simp [Program.elem, ht]
  have he : P.elem t = e := by simp [Program.elem, ht]
  have e2 : (if cap = 0 then A else A.map (·.add 0)) = A := by
    split
    · rfl
    · cases A <;> simp [Addr.add]
  rw [run_slice_h w t A n cap ht' .i64 (k : Int) (by omega) (by omega), he, hz]
  simp only [Result.andThen, sliced, Nat.zero_mul, Nat.sub_zero, Int.toNat_natCast, e2]
/-- 's[:k]'. -/
theorem cut_to {P : Program} (t e : TypeId) (ht : P.underlying t = some (.slice e)) (hz : ∀ w, (sizeOf e).run P w = .ok 1 w) (A : Option Addr) (n cap k : Nat) (hk : k ≤ cap) :
    ∃ A', (∀ w, (Instr.slice t (.slice A n cap) none (some (.int .i64 (k : Int))) none).run P w = .ok (.slice A' k cap) w) ∧
      ∀ {α : Type} (f : α → Value) (w : World) (l : List α), Rd f w A l → Rd f w A' (l.take k) :=
  ⟨A, fun w => run_cut_to t e ht hz A n cap k hk w, fun _ _ _ h => h.take k⟩

/-- 'string(b)'. -/
theorem run_str {P : Program} (w : World) (src e dst : TypeId) (hs : P.underlying src = some (.slice e)) (he : P.underlying e = some (.int .u8)) (hd : P.underlying dst = some .string)
    (A : Option Addr) (l : List UInt8) (n cap : Nat) (hn : l.length = n) (h : Rd vB w A l) : (convert src dst (.slice A n cap)).run P w = .ok (.string ⟨l.toArray⟩) w := by
  by_cases hl : l = []
  · subst hl
    subst hn
    cases A with
    | none => rw [run_convert_bytes_nil w src e hs he _ _ dst hd]; rfl
    | some a =>
      rw [run_convert_bytes_string w src dst e _ _ cap hs he hd, run_bytesToString w a _ cap [] (by
        have := run_loadCells_list (P := P) w a [] (fun j v hj => by simp at hj)
        simpa using this)]
      rfl
  · obtain ⟨b, o, rfl, hc⟩ := h hl
    rw [run_convert_bytes_arg w src e hs he b o n cap (l.map fun c => (c.toNat : Int)) (by simpa using hn) (fun i hi => by
      have hi' : i < l.length := by omega
      rw [hc i hi']
      simp [vB, List.getD, hi']) dst hd]
    have : strOfNums (l.map fun c => (c.toNat : Int)) = ⟨l.toArray⟩ := by
      unfold strOfNums
      congr 2
      rw [List.map_map]
      conv => rhs; rw [← List.map_id l]
      apply List.map_congr_left
      intro x _
      simp
    rw [this]

/-- 'string(b)', in every later world. -/
theorem run_str_later {P : Program} {w : World} {src e dst : TypeId} (hs : P.underlying src = some (.slice e)) (he : P.underlying e = some (.int .u8)) (hd : P.underlying dst = some .string)
    {A : Option Addr} {l : List UInt8} {cap : Nat} (h : Rd vB w A l) : ∀ W, Below w.heap.size w W → (convert src dst (.slice A l.length cap)).run P W = .ok (.string ⟨l.toArray⟩) W :=
  fun W hb => run_str W src e dst hs he hd A l l.length cap rfl (h.keep hb)

theorem cells_new (w : World) (cs : Array Value) (e : TypeId) (j : Nat) (u : Value) (h : cs.toList[j]? = some u) : (w.alloc (.cells cs e)).cell? ((⟨w.heap.size, 0, none⟩ : Addr).add j) = some u := by
  have e1 : (⟨w.heap.size, 0, none⟩ : Addr).add j = ⟨w.heap.size, j, none⟩ := by unfold Addr.add; split <;> simp_all
  rw [e1, cell_of_row _ w.heap.size j _ e (0, 0) (heap_alloc_new w _)]
  simpa using h

/-! ### What comes in -/
theorem u32_of_wf {a : Int} (h : (Lit.int .u32 a).wf = true) : ∃ x : UInt32, a = (x.toNat : Int) := by
  simp [Lit.wf, IntKind.min, IntKind.max, IntKind.signed, IntKind.bits] at h
  exact ⟨UInt32.ofNat a.toNat, by rw [UInt32.toNat_ofNat']; omega⟩
theorem u64_of_wf {a : Int} (h : (Lit.int .u64 a).wf = true) : ∃ v : Nat, v < 18446744073709551616 ∧ a = (v : Int) := by
  simp [Lit.wf, IntKind.min, IntKind.max, IntKind.signed, IntKind.bits] at h
  exact ⟨a.toNat, by omega, by omega⟩
theorem i64_of_wf {a : Int} (h : (Lit.int .i64 a).wf = true) : -9223372036854775808 ≤ a ∧ a ≤ 9223372036854775807 := by
  simp [Lit.wf, IntKind.min, IntKind.max, IntKind.signed, IntKind.bits] at h
  omega
theorem rd_of_row {α : Type} {f : α → Value} {k : IntKind} {w : World} {a : Option Addr} {len cap : Nat} {zs : List Int} (g : Int → α) (hg : ∀ n, (Lit.int k n).wf = true → f (g n) = .int k n)
    (h : (a = none ∧ len = 0 ∧ cap = 0 ∧ zs = []) ∨ ∃ x, a = some x ∧ len ≤ cap ∧ cap ≤ maxLen ∧ zs.length = cap ∧ (∀ i, i < zs.length → w.cell? (x.add i) = some (.int k (zs.getD i 0))) ∧ ∀ n ∈ zs, (Lit.int k n).wf = true) :
    ∃ l : List α, l.length = len ∧ len ≤ cap ∧ cap ≤ 9223372036854775807 ∧ Rd f w a l := by
  rcases h with ⟨rfl, rfl, rfl, rfl⟩ | ⟨x, rfl, hlc, hm, hz, hc, hwf⟩
  · exact ⟨[], rfl, Nat.le_refl _, by omega, Rd.nil⟩
  · unfold maxLen at hm
    refine ⟨(zs.take len).map g, by rw [List.length_map, List.length_take]; omega, hlc, by omega, fun hn => ?_⟩
    have hlen : 0 < len := by
      rcases Nat.eq_zero_or_pos len with h | h
      · subst h; simp at hn
      · exact h
    obtain ⟨b, o, spot⟩ := x
    have h0 := hc 0 (by omega)
    have hspot : spot = none := by simpa [Addr.add] using World.cell?_spot h0
    subst hspot
    refine ⟨b, o, rfl, fun i hi => ?_⟩
    have hi' : i < zs.length := by simp at hi; omega
    have e1 : (⟨b, o, none⟩ : Addr).add i = ⟨b, o + i, none⟩ := by unfold Addr.add; split <;> simp_all
    rw [← e1, hc i hi']
    have e2 : zs.getD i 0 = zs[i] := by simp [List.getD, hi']
    rw [e2]
    simp only [List.getElem_map, List.getElem_take]
    rw [hg _ (hwf _ (List.getElem_mem hi'))]
theorem bytes_of_row {w : World} {a : Option Addr} {len cap : Nat} {zs : List Int}
    (h : (a = none ∧ len = 0 ∧ cap = 0 ∧ zs = []) ∨ ∃ x, a = some x ∧ len ≤ cap ∧ cap ≤ maxLen ∧ zs.length = cap ∧ (∀ i, i < zs.length → w.cell? (x.add i) = some (.int .u8 (zs.getD i 0))) ∧ ∀ n ∈ zs, (Lit.int .u8 n).wf = true) :
    ∃ l : List UInt8, l.length = len ∧ len ≤ cap ∧ cap ≤ 9223372036854775807 ∧ Rd vB w a l :=
  rd_of_row (fun n => UInt8.ofNat n.toNat) (fun n hn => by
    simp [Lit.wf, IntKind.min, IntKind.max, IntKind.signed, IntKind.bits] at hn
    unfold vB
    rw [UInt8.toNat_ofNat']
    congr 1
    omega) h
theorem words_of_row {w : World} {a : Option Addr} {len cap : Nat} {zs : List Int}
    (h : (a = none ∧ len = 0 ∧ cap = 0 ∧ zs = []) ∨ ∃ x, a = some x ∧ len ≤ cap ∧ cap ≤ maxLen ∧ zs.length = cap ∧ (∀ i, i < zs.length → w.cell? (x.add i) = some (.int .u32 (zs.getD i 0))) ∧ ∀ n ∈ zs, (Lit.int .u32 n).wf = true) :
    ∃ l : List UInt32, l.length = len ∧ len ≤ cap ∧ cap ≤ 9223372036854775807 ∧ Rd vW w a l :=
  rd_of_row (fun n => UInt32.ofNat n.toNat) (fun n hn => by
    simp [Lit.wf, IntKind.min, IntKind.max, IntKind.signed, IntKind.bits] at hn
    unfold vW
    rw [UInt32.toNat_ofNat']
    congr 1
    omega) h

theorem below_drewN {B : Nat} {a w : World} (h : Below B a w) (n : Nat) : Below B a (w.drewN n) := ⟨h.os, h.tape, h.output, h.size, h.block⟩
theorem below_from_drew {B : Nat} {a w : World} (h : Below B a w) : Below B a.drew w := ⟨h.os, h.tape, h.output, h.size, h.block⟩
/-- A call behind other ones; a new block behind them. -/
theorem below_step {a w w' : World} (h : Below a.heap.size a w) (k : Below w.heap.size w w') : Below a.heap.size a w' := h.trans (k.mono h.size)
theorem below_after {a w w' : World} (k : Below w.heap.size w w') (h : Below a.heap.size a w) : Below a.heap.size a w' := below_step h k
theorem below_new {a w : World} (h : Below a.heap.size a w) (o : Obj) : Below a.heap.size a (w.alloc o) := h.alloc h.size o

/-- What a call that hands back a new slice says of it. -/
def RetS {α : Type} (f : α → Value) (w : World) (l : List α) (e : Ending) (w' : World) : Prop :=
  ∃ A cap, e = .returned (.slice A l.length cap) ∧ l.length ≤ cap ∧ Rd f w' A l ∧ Below w.heap.size w w'

/-- .. and owns it: it may be appended to. -/
def RetO {α : Type} (t : TypeId) (f : α → Value) (w : World) (l : List α) (e : Ending) (w' : World) : Prop :=
  ∃ v, e = .returned v ∧ w'.ownsRow w.heap.size t 1 v l.length (l.map f) ∧ Below w.heap.size w w'
theorem RetS.own {α : Type} {f : α → Value} {w w' : World} {l : List α} {base : Nat} {e : TypeId} {v : Value} (h : w'.ownsRow base e 1 v l.length (l.map f)) (hb : Below w.heap.size w w') : RetS f w l (.returned v) w' := by
  rcases h.2 with ⟨rfl, h0⟩ | ⟨g, cap, cur, rfl, _, _, hc, _⟩
  · have hl : l = [] := List.eq_nil_of_length_eq_zero h0
    subst hl
    exact ⟨none, 0, rfl, Nat.le_refl _, Rd.nil, hb⟩
  · exact ⟨_, cap, rfl, hc, Rd.own h, hb⟩

theorem RetO.ret {α : Type} {t : TypeId} {f : α → Value} {w w' : World} {l : List α} {e : Ending} (h : RetO t f w l e w') : RetS f w l e w' := by
  obtain ⟨v, rfl, ho, hb⟩ := h
  exact RetS.own ho hb

end Go.Proofs.YtfalghmgibnjdaaDoor
/-
  Layer 18 as plain functions: texts in slips, by whatever check of four bytes; the row of any bytes. No conditions but those typed.
-/
namespace Go.Proofs.YtfalghmgibnjdaaDoor
set_option maxRecDepth 100000
set_option linter.unusedVariables false
set_option linter.unusedSimpArgs false

def hdS (t : List UInt8) : List UInt8 := [UInt8.ofNat (t.length / 256), UInt8.ofNat (t.length % 256)]
def slipS (f : List UInt8 → List UInt8) (t : List UInt8) : List UInt8 := hdS t ++ t ++ f (hdS t ++ t)
def cntS (b : List UInt8) : Nat := 256 * (b.getD 0 0).toNat + (b.getD 1 0).toNat
def textS (b : List UInt8) : List UInt8 := (b.drop 2).take (cntS b)
/-- Does a slip stand at the beginning? -/
def goodS (f : List UInt8 → List UInt8) (b : List UInt8) : Bool := decide (6 ≤ b.length) && (decide (cntS b ≤ 60000) && (decide (6 + cntS b ≤ b.length) && decide (slipS f (textS b) = b.take (6 + cntS b))))
def rowF (f : List UInt8 → List UInt8) : Nat → List UInt8 → List (List UInt8) × Nat
  | 0, _ => ([], 0)
  | n + 1, b => if goodS f b = true then (textS b :: (rowF f n (b.drop (6 + cntS b))).1, 6 + cntS b + (rowF f n (b.drop (6 + cntS b))).2) else ([], 0)
def rowSl (f : List UInt8 → List UInt8) (b : List UInt8) : List (List UInt8) × Nat := rowF f b.length b
def flatS (f : List UInt8 → List UInt8) (ts : List (List UInt8)) : List UInt8 := ts.flatMap (slipS f)
def mayS (ts : List (List UInt8)) : Prop := ∀ t ∈ ts, t.length ≤ 60000
section
variable {f : List UInt8 → List UInt8} (h4 : ∀ b, (f b).length = 4)
theorem flatS_cons (t : List UInt8) (ts : List (List UInt8)) : flatS f (t :: ts) = slipS f t ++ flatS f ts := List.flatMap_cons ..
theorem good_parts {b : List UInt8} (h : goodS f b = true) : 6 ≤ b.length ∧ cntS b ≤ 60000 ∧ 6 + cntS b ≤ b.length ∧ slipS f (textS b) = b.take (6 + cntS b) := by
  unfold goodS at h
  simpa using h
/-- The measure may be any that is enough. -/
theorem rowF_enough : ∀ (n m : Nat) (b : List UInt8), b.length ≤ n → b.length ≤ m → rowF f n b = rowF f m b
  | 0, 0, _, _, _ => rfl
  | 0, m + 1, b, h, _ => by
    have : goodS f b = false := by
      cases hg : goodS f b with
      | false => rfl
      | true => have := (good_parts hg).1; omega
    show ([], 0) = if goodS f b = true then _ else _
    rw [this]
    rfl
  | n + 1, 0, b, _, h => by
    have : goodS f b = false := by
      cases hg : goodS f b with
      | false => rfl
      | true => have := (good_parts hg).1; omega
    show (if goodS f b = true then _ else _) = ([], 0)
    rw [this]
    rfl
  | n + 1, m + 1, b, h1, h2 => by
    unfold rowF
    by_cases hg : goodS f b = true
    · have := (good_parts hg).1
      rw [rowF_enough n m (b.drop (6 + cntS b)) (by rw [List.length_drop]; omega) (by rw [List.length_drop]; omega)]
    · rw [if_neg hg, if_neg hg]
theorem rowS_good {b : List UInt8} (h : goodS f b = true) : rowSl f b = (textS b :: (rowSl f (b.drop (6 + cntS b))).1, 6 + cntS b + (rowSl f (b.drop (6 + cntS b))).2) := by
  obtain ⟨n, hn⟩ : ∃ n, b.length = n + 1 := ⟨b.length - 1, by have := (good_parts h).1; omega⟩
  have e : rowSl f b = rowF f (n + 1) b := by unfold rowSl; rw [hn]
  have e2 : rowF f n (b.drop (6 + cntS b)) = rowSl f (b.drop (6 + cntS b)) := rowF_enough _ _ _ (by rw [List.length_drop]; omega) (Nat.le_refl _)
  rw [e]
  show (if goodS f b = true then _ else _) = _
  rw [if_pos h, e2]
theorem rowS_bad {b : List UInt8} (h : goodS f b = false) : rowSl f b = ([], 0) := by
  unfold rowSl
  cases b.length with
  | zero => rfl
  | succ n =>
    show (if goodS f b = true then _ else _) = _
    rw [h]
    rfl
theorem cnt_hd (t r : List UInt8) (h : t.length ≤ 60000) : cntS (hdS t ++ r) = t.length := by
  unfold cntS hdS
  show 256 * (UInt8.ofNat (t.length / 256)).toNat + (UInt8.ofNat (t.length % 256)).toNat = _
  rw [UInt8.toNat_ofNat', UInt8.toNat_ofNat']
  omega
/-- What is a row's beginning. -/
theorem row_back : ∀ (n : Nat) (b : List UInt8), b.length ≤ n → (rowSl f b).2 ≤ b.length ∧ flatS f (rowSl f b).1 = b.take (rowSl f b).2 ∧ mayS (rowSl f b).1
  | 0, b, h => by
    rw [rowS_bad (f := f) (b := b) (by
      cases hg : goodS f b with
      | false => rfl
      | true => have := (good_parts hg).1; omega)]
    exact ⟨Nat.zero_le _, rfl, fun t ht => by cases ht⟩
  | n + 1, b, h => by
    cases hg : goodS f b with
    | false =>
      rw [rowS_bad hg]
      exact ⟨Nat.zero_le _, rfl, fun t ht => by cases ht⟩
    | true =>
      obtain ⟨g1, g2, g3, g4⟩ := good_parts hg
      obtain ⟨i1, i2, i3⟩ := row_back n (b.drop (6 + cntS b)) (by rw [List.length_drop]; omega)
      rw [rowS_good hg]
      rw [List.length_drop] at i1
      refine ⟨by dsimp only; omega, ?_, fun t ht => ?_⟩
      · dsimp only
        rw [flatS_cons, i2, g4, List.take_add (i := 6 + cntS b)]
      · rcases List.mem_cons.1 ht with rfl | ht
        · unfold textS
          rw [List.length_take]
          omega
        · exact i3 t ht
include h4
theorem slip_length (t : List UInt8) : (slipS f t).length = 6 + t.length := by
  unfold slipS hdS
  rw [List.length_append, List.length_append, h4]
  simp only [List.length_cons, List.length_nil]
  omega
theorem slip_parts (t r : List UInt8) (h : t.length ≤ 60000) : cntS (slipS f t ++ r) = t.length ∧ textS (slipS f t ++ r) = t ∧ (slipS f t ++ r).take (6 + t.length) = slipS f t ∧ (slipS f t ++ r).drop (6 + t.length) = r := by
  have e : slipS f t ++ r = hdS t ++ (t ++ (f (hdS t ++ t) ++ r)) := by
    unfold slipS
    simp only [List.append_assoc]
  have hc : cntS (slipS f t ++ r) = t.length := by rw [e]; exact cnt_hd t _ h
  have hl := slip_length h4 t
  refine ⟨hc, ?_, List.take_left' hl, List.drop_left' hl⟩
  unfold textS
  rw [hc, e]
  show (t ++ (f (hdS t ++ t) ++ r)).take t.length = t
  exact List.take_left' rfl
theorem slip_good (t r : List UInt8) (h : t.length ≤ 60000) : goodS f (slipS f t ++ r) = true := by
  obtain ⟨p1, p2, p3, _⟩ := slip_parts h4 t r h
  have hl := slip_length h4 t
  unfold goodS
  rw [p1, p2, p3, List.length_append, hl, decide_eq_true (by omega), decide_eq_true h, decide_eq_true (by omega), decide_eq_true rfl]
  rfl
/-- Slips one behind the other, and whatever is behind. -/
theorem row_flat : ∀ (ts : List (List UInt8)) (r : List UInt8), mayS ts → rowSl f (flatS f ts ++ r) = (ts ++ (rowSl f r).1, (flatS f ts).length + (rowSl f r).2)
  | [], r, _ => by
    show rowSl f r = ([] ++ (rowSl f r).1, 0 + (rowSl f r).2)
    rw [Nat.zero_add]
    rfl
  | t :: ts, r, h => by
    have ht := h t (List.mem_cons_self ..)
    have ih := row_flat ts r (fun x hx => h x (List.mem_cons_of_mem _ hx))
    have e : flatS f (t :: ts) ++ r = slipS f t ++ (flatS f ts ++ r) := by rw [flatS_cons, List.append_assoc]
    obtain ⟨p1, p2, _, p4⟩ := slip_parts h4 t (flatS f ts ++ r) ht
    rw [e, rowS_good (slip_good h4 t _ ht), p1, p2, p4, ih, flatS_cons, List.length_append, slip_length h4]
    simp only [List.cons_append, Nat.add_assoc]
theorem row_all (ts : List (List UInt8)) (h : mayS ts) : rowSl f (flatS f ts) = (ts, (flatS f ts).length) := by
  have := row_flat h4 ts [] h
  have e0 : rowSl f [] = ([], 0) := rowS_bad (by rfl)
  rw [List.append_nil, e0, List.append_nil, Nat.add_zero] at this
  exact this
/-- A slip that is cut is none. -/
theorem row_torn (t : List UInt8) (k : Nat) (h : t.length ≤ 60000) (hk : k < (slipS f t).length) : rowSl f ((slipS f t).take k) = ([], 0) := by
  refine rowS_bad ?_
  have hl := slip_length h4 t
  have hkl : ((slipS f t).take k).length = k := by rw [List.length_take]; omega
  by_cases h6 : k < 6
  · unfold goodS
    rw [hkl, decide_eq_false (by omega)]
    rfl
  · have hc : cntS ((slipS f t).take k) = t.length := by
      have := (slip_parts h4 t [] h).1
      rw [List.append_nil] at this
      rw [← this]
      unfold cntS
      rw [List.getD_eq_getElem?_getD, List.getElem?_take, if_pos (by omega), List.getD_eq_getElem?_getD, List.getElem?_take, if_pos (by omega), ← List.getD_eq_getElem?_getD, ← List.getD_eq_getElem?_getD]
    unfold goodS
    rw [hkl, hc, decide_eq_false (p := 6 + t.length ≤ k) (by omega)]
    simp
end
end Go.Proofs.YtfalghmgibnjdaaDoor
/-
  Layer 18 as the program goes: what stands at the beginning, told by what is held together; a row cut behind its last slip. No conditions but those typed.
-/
namespace Go.Proofs.YtfalghmgibnjdaaDoor
set_option maxRecDepth 100000
set_option linter.unusedVariables false
set_option linter.unusedSimpArgs false

section
variable {f : List UInt8 → List UInt8} (h4 : ∀ b, (f b).length = 4)
theorem head_two : ∀ (b : List UInt8), 2 ≤ b.length → ∃ x y r, b = x :: y :: r ∧ cntS b = 256 * x.toNat + y.toNat
  | [], h => absurd h (by simp)
  | [_], h => absurd h (by simp)
  | x :: y :: r, _ => ⟨x, y, r, rfl, rfl⟩
theorem cnt_lt (b : List UInt8) : cntS b < 65536 := by
  unfold cntS
  have h1 := (b.getD 0 0).toNat_lt
  have h2 := (b.getD 1 0).toNat_lt
  omega
theorem text_length {b : List UInt8} (h : 6 + cntS b ≤ b.length) : (textS b).length = cntS b := by
  unfold textS
  rw [List.length_take, List.length_drop]
  omega
theorem head_eq {b : List UInt8} (h : 2 + cntS b ≤ b.length) : hdS (textS b) ++ textS b = b.take (2 + cntS b) := by
  obtain ⟨x, y, r, rfl, hc⟩ := head_two b (by omega)
  have hl : (textS (x :: y :: r)).length = cntS (x :: y :: r) := by
    unfold textS
    rw [List.length_take, List.length_drop]
    omega
  have hx := x.toNat_lt
  have hy := y.toNat_lt
  unfold hdS
  rw [hl, hc, show (256 * x.toNat + y.toNat) / 256 = x.toNat by omega, show (256 * x.toNat + y.toNat) % 256 = y.toNat by omega, UInt8.ofNat_toNat, UInt8.ofNat_toNat, Nat.add_comm 2]
  unfold textS
  rw [hc]
  rfl
theorem good_way (b : List UInt8) : goodS f b = (decide (2 ≤ b.length) && (decide (cntS b ≤ 60000) && (decide (6 + cntS b ≤ b.length) && decide (f (b.take (2 + cntS b)) = (b.drop (2 + cntS b)).take 4)))) := by
  by_cases h : 6 + cntS b ≤ b.length
  · have e1 := head_eq (b := b) (by omega)
    have e2 : b.take (6 + cntS b) = b.take (2 + cntS b) ++ (b.drop (2 + cntS b)).take 4 := by rw [show 6 + cntS b = 2 + cntS b + 4 by omega, List.take_add]
    unfold goodS slipS
    rw [e1, e2, decide_eq_true (p := 6 ≤ b.length) (by omega), decide_eq_true (p := 2 ≤ b.length) (by omega)]
    congr 3
    rw [decide_eq_decide]
    exact List.append_right_inj _
  · unfold goodS
    rw [decide_eq_false (p := 6 + cntS b ≤ b.length) h]
    simp
include h4
/-- The row of a row's slips alone. -/
theorem row_cut (b : List UInt8) : rowSl f (b.take (rowSl f b).2) = ((rowSl f b).1, (rowSl f b).2) ∧ (b.take (rowSl f b).2).length = (rowSl f b).2 := by
  obtain ⟨h1, h2, h3⟩ := row_back (f := f) b.length b (Nat.le_refl _)
  have hl : (b.take (rowSl f b).2).length = (rowSl f b).2 := by rw [List.length_take]; omega
  have := row_all h4 _ h3
  rw [h2, hl] at this
  exact ⟨this, hl⟩
end
/-- What is whole, and isn't empty, begins with a slip. -/
theorem whole_good {f : List UInt8 → List UInt8} {b : List UInt8} (h : (rowSl f b).2 = b.length) (h0 : 0 < b.length) : goodS f b = true := by
  cases hg : goodS f b with
  | true => rfl
  | false =>
    rw [rowS_bad hg] at h
    simp at h
    omega
theorem row_le {f : List UInt8 → List UInt8} (b : List UInt8) : (rowSl f b).2 ≤ b.length := (row_back (f := f) b.length b (Nat.le_refl _)).1
end Go.Proofs.YtfalghmgibnjdaaDoor
/-
  Plain facts on words of 32 bits, bytes and numbers (no program is named here): a word turned to the right, the eight bytes of a number, the number of bytes. No conditions but those typed.
-/
namespace Go.Proofs.YtfalghmgibnjdaaDoor
set_option maxRecDepth 100000
open Go.RowKit

/-! ### Words turned -/
def rotR (x : UInt32) (s : Nat) : UInt32 := ⟨x.toBitVec.rotateRight s⟩

theorem rot_bit (x : BitVec 32) (s i : Nat) (hi : i < 32) : (x.rotateRight s).getLsbD i = x.getLsbD ((i + s) % 32) := by
  rw [BitVec.getLsbD_rotateRight]
  have h32 : s % 32 < 32 := Nat.mod_lt _ (by omega)
  by_cases h : i < 32 - s % 32
  · have e : s % 32 + i = (i + s) % 32 := by omega
    simp [h, e]
  · have e : i - (32 - s % 32) = (i + s) % 32 := by omega
    simp [h, e, hi]

theorem rotR_rotR (x : UInt32) (s t : Nat) : rotR (rotR x s) t = rotR x (s + t) := by
  unfold rotR
  congr 1
  apply BitVec.eq_of_getLsbD_eq
  intro i hi
  rw [rot_bit _ _ _ hi, rot_bit _ _ _ (Nat.mod_lt _ (by omega)), rot_bit _ _ _ hi]
  congr 1
  omega

theorem rotR_mod (x : UInt32) (s : Nat) : rotR x (s % 32) = rotR x s := by
  unfold rotR
  rw [BitVec.rotateRight_mod_eq_rotateRight]

theorem rotR_same (x : UInt32) {s t : Nat} (h : s % 32 = t % 32) : rotR x s = rotR x t := by
  rw [← rotR_mod x s, ← rotR_mod x t, h]

theorem rotR_zero (x : UInt32) : rotR x 0 = x := by
  unfold rotR
  have : x.toBitVec.rotateRight 0 = x.toBitVec := by
    apply BitVec.eq_of_getLsbD_eq
    intro i hi
    rw [rot_bit _ _ _ hi]
    congr 1
    omega
  rw [this]

theorem rotR_32 (x : UInt32) : rotR x 32 = x := by
  rw [← rotR_mod]
  exact rotR_zero x

theorem u32_lt (x : UInt32) : x.toNat < 4294967296 := x.toNat_lt

/-- What the library's two shifts and 'or' give, is the word turned. -/
theorem shifts_rot (x : UInt32) (s : Nat) (hs : s < 32) :
    bits .or .u32 ((x.toNat : Int) * 2 ^ s % 4294967296) ((x.toNat : Int) / 2 ^ (32 - s)) = ((rotR x (32 - s)).toNat : Int) := by
  have hx := u32_lt x
  have e1 : (x.toNat : Int) * 2 ^ s % 4294967296 = ((x.toNat * 2 ^ s % 4294967296 : Nat) : Int) := by
    rw [Int.natCast_emod, Int.natCast_mul, Int.natCast_pow]
    rfl
  have e2 : (x.toNat : Int) / 2 ^ (32 - s) = ((x.toNat / 2 ^ (32 - s) : Nat) : Int) := by
    rw [Int.natCast_ediv, Int.natCast_pow]
    rfl
  have hd : x.toNat / 2 ^ (32 - s) < 4294967296 := Nat.lt_of_le_of_lt (Nat.div_le_self _ _) hx
  rw [e1, e2, u32_or_nat _ _ (Nat.mod_lt _ (by omega)) hd]
  congr 1
  have hb : (rotR x (32 - s)).toNat = (x.toBitVec <<< s ||| x.toBitVec >>> (32 - s)).toNat := by
    show (x.toBitVec.rotateRight (32 - s)).toNat = _
    congr 1
    apply BitVec.eq_of_getLsbD_eq
    intro i hi
    rw [rot_bit _ _ _ hi, BitVec.getLsbD_or, BitVec.getLsbD_shiftLeft, BitVec.getLsbD_ushiftRight]
    by_cases h : i < s
    · have e : (i + (32 - s)) % 32 = 32 - s + i := by omega
      simp [hi, h, e]
    · have e : (i + (32 - s)) % 32 = i - s := by omega
      have e' : x.toBitVec.getLsbD (32 - s + i) = false := BitVec.getLsbD_of_ge _ _ (by omega)
      simp [hi, h, e, e']
  rw [hb, BitVec.toNat_or, BitVec.toNat_shiftLeft, BitVec.toNat_ushiftRight, Nat.shiftLeft_eq, Nat.shiftRight_eq_div_pow]
  rfl

/-- The count by which the library turns to the left. -/
theorem and31 (n : Int) : bits .and .u64 (IntKind.u64.wrap (wrap64 (-n))) 31 = (((-n) % 32).toNat : Int) := by
  have hw : IntKind.u64.wrap (wrap64 (-n)) = (((-n) % 18446744073709551616).toNat : Int) := by
    rw [IntKind.wrap_u64]
    unfold wrap64
    omega
  rw [hw, show (31 : Int) = ((31 : Nat) : Int) from rfl, u64_and_nat _ _ (by omega) (by omega)]
  have := Nat.and_two_pow_sub_one_eq_mod ((-n) % 18446744073709551616).toNat 5
  simp only [Nat.reducePow, Nat.reduceSub] at this
  rw [this]
  omega

/-! ### Numbers and their bytes -/
/-- The number of bytes, the highest first. -/
def valN (l : List UInt8) : Nat := l.foldl (fun v c => v * 256 + c.toNat) 0

theorem valN_snoc (l : List UInt8) (c : UInt8) : valN (l ++ [c]) = valN l * 256 + c.toNat := by
  unfold valN
  rw [List.foldl_append]
  rfl
theorem valN_take (l : List UInt8) (k : Nat) (h : k < l.length) : valN (l.take (k + 1)) = valN (l.take k) * 256 + l[k].toNat := by
  rw [List.take_succ_eq_append_getElem h, valN_snoc]

/-- One byte more, as the program's shift and 'or' have it. -/
theorem join_step (a c : Nat) (hc : c < 256) :
    bits .or .u64 (IntKind.u64.wrap ((a : Int) % 18446744073709551616 * 256)) (c : Int) = (((a * 256 + c) % 18446744073709551616 : Nat) : Int) := by
  have e : IntKind.u64.wrap ((a : Int) % 18446744073709551616 * 256) = ((2 ^ 8 * (a % 72057594037927936) : Nat) : Int) := by
    rw [IntKind.wrap_u64]
    omega
  rw [e, u64_or_nat _ _ (by omega) (by omega), ← Nat.two_pow_add_eq_or_of_lt (by omega)]
  congr 1
  omega

theorem valN_lt (l : List UInt8) : valN l < 256 ^ l.length := by
  suffices h : ∀ (l : List UInt8) (v : Nat), l.foldl (fun v c => v * 256 + c.toNat) v < (v + 1) * 256 ^ l.length by
    have := h l 0
    unfold valN
    omega
  intro l
  induction l with
  | nil => intro v; simp
  | cons c l ih =>
    intro v
    have h := ih (v * 256 + c.toNat)
    have hc : c.toNat < 256 := c.toNat_lt
    refine Nat.lt_of_lt_of_le h ?_
    rw [List.length_cons, Nat.pow_succ, Nat.mul_comm (256 ^ l.length) 256, ← Nat.mul_assoc]
    exact Nat.mul_le_mul_right _ (by omega)
theorem valN_lt8 (l : List UInt8) (h : l.length ≤ 8) : valN l < 18446744073709551616 :=
  Nat.lt_of_lt_of_le (valN_lt l) (Nat.pow_le_pow_right (by omega) h)

/-- word.Get's and word.FromLeast's answers: the number, and the code. -/
def getR (l : List UInt8) : Nat × Int := if l.length = 8 then (valN l, 0) else (0, 1)
def fromR (l : List UInt8) : Nat × Int := if 8 < l.length then (0, 4) else if l.head? = some 0 then (0, 3) else (valN l, 0)

/-- The eight bytes of a number, the highest first; its least bytes. -/
def putL (v : Nat) : List UInt8 := (List.range 8).map fun i => UInt8.ofNat (v / 256 ^ (7 - i))
def leastL (v : Nat) : List UInt8 := (putL v).dropWhile (· == 0)

/-- The words whose bytes these are; what is left over doesn't count. The bytes of words. -/
def wordsL : List UInt8 → List UInt32
  | a :: b :: c :: d :: r => UInt32.ofNat (valN [a, b, c, d]) :: wordsL r
  | _ => []
def bytesW (x : UInt32) : List UInt8 := [UInt8.ofNat (x.toNat / 16777216), UInt8.ofNat (x.toNat / 65536), UInt8.ofNat (x.toNat / 256), UInt8.ofNat x.toNat]
def bytesL (l : List UInt32) : List UInt8 := l.flatMap bytesW

theorem wordsL_short (l : List UInt8) (h : l.length < 4) : wordsL l = [] := by
  match l, h with
  | [], _ => rfl
  | [_], _ => rfl
  | [_, _], _ => rfl
  | [_, _, _], _ => rfl
  | _ :: _ :: _ :: _ :: _, h => simp at h; omega

theorem ret_int2 {k k' : IntKind} {a b a' b' : Int} (h : a = b) (h' : a' = b') : Ending.returned (.tuple #[.int k a, .int k' a']) = .returned (.tuple #[.int k b, .int k' b']) := by rw [h, h']
theorem ret_int {k : IntKind} {a b : Int} (h : a = b) : Ending.returned (.int k a) = .returned (.int k b) := by rw [h]


/-- A byte turned by another one (behind a name of its own: 'simp' would take 'toNat' apart). -/
def xorB (x y : UInt8) : UInt8 := x ^^^ y
theorem u8_lt (x : UInt8) : x.toNat < 256 := x.toNat_lt
theorem u8_xor_b (x y : UInt8) : bits .xor .u8 (x.toNat : Int) (y.toNat : Int) = ((xorB x y).toNat : Int) := by
  rw [u8_xor_nat _ _ (u8_lt x) (u8_lt y)]
  simp [xorB]
theorem xorB_ne (x y : UInt8) (h : y ≠ 0) : xorB x y ≠ x := by
  intro e
  apply h
  have := congrArg (fun z => x ^^^ z) e
  simp only [xorB, ← UInt8.xor_assoc, UInt8.xor_self, UInt8.zero_xor] at this
  exact this
end Go.Proofs.YtfalghmgibnjdaaDoor
/-
  Plain facts on numbers and their bytes, words and their bytes: each is read as it was, and has no other bytes. No program is named here.
-/
namespace Go.Proofs.YtfalghmgibnjdaaDoor
set_option maxRecDepth 100000

/-- The n last bytes of a number, the highest first. -/
def dig : Nat → Nat → List UInt8
  | 0, _ => []
  | n + 1, v => dig n (v / 256) ++ [UInt8.ofNat v]

theorem putL_dig (v : Nat) : putL v = dig 8 v := by
  simp [putL, dig, List.range, List.range.loop, Nat.div_div_eq_div_mul]
theorem dig_length (n v : Nat) : (dig n v).length = n := by
  induction n generalizing v with
  | zero => rfl
  | succ n ih => simp [dig, ih]
theorem valN_dig (n v : Nat) : valN (dig n v) = v % 256 ^ n := by
  induction n generalizing v with
  | zero => simp [dig, valN, Nat.mod_one]
  | succ n ih =>
    rw [dig, valN_snoc, ih, UInt8.toNat_ofNat', show 256 ^ (n + 1) = 256 * 256 ^ n by rw [Nat.pow_succ, Nat.mul_comm], Nat.mod_mul]
    omega
theorem dig_valN (l : List UInt8) (n : Nat) (h : l.length = n) : dig n (valN l) = l := by
  induction n generalizing l with
  | zero => rw [List.eq_nil_of_length_eq_zero h]; rfl
  | succ n ih =>
    rcases List.eq_nil_or_concat l with rfl | ⟨l', c, rfl⟩
    · simp at h
    · simp only [List.concat_eq_append] at h ⊢
      have hc : c.toNat < 256 := c.toNat_lt
      rw [valN_snoc, dig, show (valN l' * 256 + c.toNat) / 256 = valN l' by omega, ih l' (by simpa using h)]
      congr 2
      apply UInt8.toNat_inj.1
      rw [UInt8.toNat_ofNat']
      omega
theorem valN_zeros (k : Nat) (l : List UInt8) : valN (List.replicate k 0 ++ l) = valN l := by
  induction k with
  | zero => simp
  | succ k ih =>
    rw [← ih]
    simp [valN, List.replicate_succ]
theorem valN_dropWhile (l : List UInt8) : valN (l.dropWhile (· == 0)) = valN l := by
  induction l with
  | nil => rfl
  | cons a l ih =>
    rw [List.dropWhile_cons]
    split
    · rename_i h
      have h0 : a = 0 := by simpa using h
      subst h0
      rw [ih]
      simp [valN]
    · rfl
theorem valN_putL (v : Nat) (hv : v < 18446744073709551616) : valN (putL v) = v := by
  rw [putL_dig, valN_dig]
  exact Nat.mod_eq_of_lt hv
theorem valN_leastL (v : Nat) (hv : v < 18446744073709551616) : valN (leastL v) = v := by
  rw [leastL, valN_dropWhile, valN_putL v hv]
theorem leastL_length (v : Nat) : (leastL v).length ≤ 8 := by
  have h : (putL v).length = 8 := rfl
  have := (List.dropWhile_sublist (fun x : UInt8 => x == 0) (l := putL v)).length_le
  unfold leastL
  omega
theorem head_dropWhile (l : List UInt8) : (l.dropWhile (· == 0)).head? ≠ some 0 := by
  induction l with
  | nil => simp
  | cons a l ih =>
    rw [List.dropWhile_cons]
    split
    · exact ih
    · rename_i h
      simpa using h
theorem getR_putL (v : Nat) (hv : v < 18446744073709551616) : getR (putL v) = (v, 0) := by
  unfold getR
  rw [if_pos (show (putL v).length = 8 from rfl), valN_putL v hv]
theorem fromR_leastL (v : Nat) (hv : v < 18446744073709551616) : fromR (leastL v) = (v, 0) := by
  unfold fromR
  have := leastL_length v
  rw [if_neg (by omega), if_neg (show ¬ (leastL v).head? = some 0 from head_dropWhile _), valN_leastL v hv]
theorem leastL_valN (l : List UInt8) (h8 : l.length ≤ 8) (h0 : l.head? ≠ some 0) : leastL (valN l) = l := by
  unfold leastL
  have e : putL (valN l) = List.replicate (8 - l.length) 0 ++ l := by
    rw [putL_dig, ← valN_zeros (8 - l.length) l]
    exact dig_valN _ 8 (by simp; omega)
  rw [e]
  clear e
  generalize 8 - l.length = k
  induction k with
  | zero =>
    cases l with
    | nil => rfl
    | cons a l =>
      simp only [List.replicate_zero, List.nil_append]
      rw [List.dropWhile_cons, if_neg (by simpa using h0)]
  | succ k ih =>
    rw [List.replicate_succ, List.cons_append, List.dropWhile_cons, if_pos (by rfl)]
    exact ih
theorem fromR_bad (l : List UInt8) (h : (fromR l).2 ≠ 0) : (fromR l).1 = 0 := by
  unfold fromR at h ⊢
  split
  · rfl
  · split
    · rfl
    · rename_i h1 h2
      rw [if_neg h1, if_neg h2] at h
      exact absurd rfl h
theorem fromR_good (l : List UInt8) (h : (fromR l).2 = 0) : leastL (fromR l).1 = l ∧ (fromR l).1 < 18446744073709551616 := by
  unfold fromR at h ⊢
  by_cases h1 : 8 < l.length
  · rw [if_pos h1] at h
    cases h
  · by_cases h2 : l.head? = some 0
    · rw [if_neg h1, if_pos h2] at h
      cases h
    · rw [if_neg h1, if_neg h2]
      exact ⟨leastL_valN l (by omega) h2, valN_lt8 l (by omega)⟩
theorem leastL_inj (v w : Nat) (hv : v < 18446744073709551616) (hw : w < 18446744073709551616) : leastL v = leastL w ↔ v = w :=
  ⟨fun h => by rw [← valN_leastL v hv, h, valN_leastL w hw], fun h => by rw [h]⟩
theorem valN_cons (a : UInt8) (l : List UInt8) : valN (a :: l) = a.toNat * 256 ^ l.length + valN l := by
  have h : ∀ (l : List UInt8) (v : Nat), l.foldl (fun v c => v * 256 + c.toNat) v = v * 256 ^ l.length + valN l := by
    intro l
    induction l with
    | nil => intro v; simp [valN]
    | cons c l ih =>
      intro v
      have e : valN (c :: l) = (0 * 256 + c.toNat) * 256 ^ l.length + valN l := ih _
      rw [List.foldl_cons, ih, e, List.length_cons, Nat.pow_succ, Nat.zero_mul, Nat.zero_add, Nat.add_mul, Nat.mul_assoc, Nat.mul_comm 256, Nat.add_assoc]
  have := h l a.toNat
  simpa [valN] using this
theorem leastL_mono (v w : Nat) (hv : v < 18446744073709551616) (hw : w < 18446744073709551616) (h : v ≤ w) : (leastL v).length ≤ (leastL w).length := by
  rcases Nat.lt_or_ge (leastL w).length (leastL v).length with hlt | hge
  · exfalso
    have h1 := valN_lt (leastL w)
    rw [valN_leastL w hw] at h1
    have h2 := valN_leastL v hv
    have h3 := head_dropWhile (putL v)
    change (leastL v).head? ≠ some 0 at h3
    match hm : leastL v, hlt, h2, h3 with
    | [], hlt, _, _ => simp at hlt
    | a :: l, hlt, h2, h3 =>
      have ha : a.toNat ≠ 0 := fun e => h3 (by simp [UInt8.toNat_inj.1 (show a.toNat = (0 : UInt8).toNat from e)])
      rw [valN_cons] at h2
      have h4 : 256 ^ (leastL w).length ≤ 256 ^ l.length := Nat.pow_le_pow_right (by omega) (by simp at hlt; omega)
      have h5 : 256 ^ l.length ≤ a.toNat * 256 ^ l.length := Nat.le_mul_of_pos_left _ (by omega)
      omega
  · exact hge
theorem valN_bytesW (x : UInt32) : valN (bytesW x) = x.toNat := by
  have hx := u32_lt x
  simp only [bytesW, valN, List.foldl_cons, List.foldl_nil, UInt8.toNat_ofNat']
  omega
theorem wordsL_bytesL (l : List UInt32) : wordsL (bytesL l) = l := by
  induction l with
  | nil => rfl
  | cons x l ih =>
    have e : bytesL (x :: l) = bytesW x ++ bytesL l := by simp [bytesL]
    rw [e]
    show UInt32.ofNat (valN (bytesW x)) :: wordsL (bytesL l) = _
    rw [ih, valN_bytesW]
    congr 1
    apply UInt32.toNat_inj.1
    rw [UInt32.toNat_ofNat', Nat.mod_eq_of_lt (u32_lt x)]
theorem bytesW_valN (a b c d : UInt8) : bytesW (UInt32.ofNat (valN [a, b, c, d])) = [a, b, c, d] := by
  have ha : a.toNat < 256 := a.toNat_lt
  have hb : b.toNat < 256 := b.toNat_lt
  have hc : c.toNat < 256 := c.toNat_lt
  have hd : d.toNat < 256 := d.toNat_lt
  have hv : valN [a, b, c, d] = ((a.toNat * 256 + b.toNat) * 256 + c.toNat) * 256 + d.toNat := by simp [valN]
  have ht : (UInt32.ofNat (valN [a, b, c, d])).toNat = ((a.toNat * 256 + b.toNat) * 256 + c.toNat) * 256 + d.toNat := by rw [UInt32.toNat_ofNat', hv]; omega
  unfold bytesW
  rw [ht]
  congr 1
  · apply UInt8.toNat_inj.1; rw [UInt8.toNat_ofNat']; omega
  congr 1
  · apply UInt8.toNat_inj.1; rw [UInt8.toNat_ofNat']; omega
  congr 1
  · apply UInt8.toNat_inj.1; rw [UInt8.toNat_ofNat']; omega
  congr 1
  · apply UInt8.toNat_inj.1; rw [UInt8.toNat_ofNat']; omega
theorem bytesL_wordsL : ∀ (l : List UInt8), bytesL (wordsL l) = l.take (l.length / 4 * 4)
  | [] => rfl
  | [_] => by rw [wordsL_short _ (by simp)]; simp [bytesL]
  | [_, _] => by rw [wordsL_short _ (by simp)]; simp [bytesL]
  | [_, _, _] => by rw [wordsL_short _ (by simp)]; simp [bytesL]
  | a :: b :: c :: d :: l => by
    have e : bytesL (wordsL (a :: b :: c :: d :: l)) = bytesW (UInt32.ofNat (valN [a, b, c, d])) ++ bytesL (wordsL l) := by simp [wordsL, bytesL]
    rw [e, bytesW_valN, bytesL_wordsL l]
    have e2 : (a :: b :: c :: d :: l).length / 4 * 4 = l.length / 4 * 4 + 4 := by simp; omega
    rw [e2]
    simp [List.take_succ_cons]

end Go.Proofs.YtfalghmgibnjdaaDoor
/-
  SHA-256 as plain functions on words and bytes, and what the program's operations on words are in their terms (no program is named here). No conditions but those typed.
-/
namespace Go.Proofs.YtfalghmgibnjdaaDoor
set_option maxRecDepth 100000
open Go.RowKit

/-! ### The operations on words, as the walk spells them (each behind a name of its own: 'simp' would take 'toNat' apart) -/
def xorW (x y : UInt32) : UInt32 := x ^^^ y
def andW (x y : UInt32) : UInt32 := x &&& y
def orW (x y : UInt32) : UInt32 := x ||| y
def addW (x y : UInt32) : UInt32 := x + y
def notW (x : UInt32) : UInt32 := ~~~x
theorem u32_xor_w (x y : UInt32) : bits .xor .u32 (x.toNat : Int) (y.toNat : Int) = ((xorW x y).toNat : Int) := by
  rw [u32_xor_nat _ _ (u32_lt x) (u32_lt y)]
  rfl
theorem u32_and_w (x y : UInt32) : bits .and .u32 (x.toNat : Int) (y.toNat : Int) = ((andW x y).toNat : Int) := by
  rw [u32_and_nat _ _ (u32_lt x) (u32_lt y)]
  rfl
theorem u32_or_w (x y : UInt32) : bits .or .u32 (x.toNat : Int) (y.toNat : Int) = ((orW x y).toNat : Int) := by
  rw [u32_or_nat _ _ (u32_lt x) (u32_lt y)]
  rfl
theorem addW_toNat (x y : UInt32) : (addW x y).toNat = (x.toNat + y.toNat) % 4294967296 := UInt32.toNat_add x y
theorem u32_add_w (x y : UInt32) : IntKind.u32.wrap ((x.toNat : Int) + (y.toNat : Int)) = ((addW x y).toNat : Int) := by
  rw [IntKind.wrap_u32', addW_toNat]
  omega
theorem u32_add_m (x y : UInt32) : ((x.toNat : Int) + (y.toNat : Int)) % 4294967296 = ((addW x y).toNat : Int) := by
  rw [addW_toNat]
  omega
theorem u32_not_w (x : UInt32) : 4294967295 - (x.toNat : Int) = ((notW x).toNat : Int) := by
  have hx := u32_lt x
  have : (notW x).toNat = 4294967295 - x.toNat := by
    show (~~~x.toBitVec).toNat = _
    rw [BitVec.toNat_not]
    rfl
  rw [this]
  omega
theorem u32_not_ww (x : UInt32) : IntKind.u32.wrap (4294967295 - (x.toNat : Int)) = ((notW x).toNat : Int) := by
  rw [← u32_not_w, IntKind.wrap_u32']
  have hx := u32_lt x
  omega

theorem u32_mod_w (x : UInt32) : (x.toNat : Int) % 4294967296 = (x.toNat : Int) := by
  have hx := u32_lt x
  omega
theorem u32_wrap_w (x : UInt32) : IntKind.u32.wrap (x.toNat : Int) = (x.toNat : Int) := by
  rw [IntKind.wrap_u32']
  exact u32_mod_w x

/-- A word moved down. -/
def dn (x : UInt32) (k : Nat) : UInt32 := UInt32.ofNat (x.toNat / 2 ^ k)
theorem dn_toNat (x : UInt32) (k : Nat) : (dn x k).toNat = x.toNat / 2 ^ k := by
  have hx := u32_lt x
  have h : x.toNat / 2 ^ k ≤ x.toNat := Nat.div_le_self _ _
  rw [dn, UInt32.toNat_ofNat']
  exact Nat.mod_eq_of_lt (by omega)
theorem dn_zero (x : UInt32) : dn x 0 = x := UInt32.toNat_inj.1 (by rw [dn_toNat]; simp)
theorem dn_succ (x : UInt32) (k : Nat) : (dn x (k + 1)).toNat = (dn x k).toNat / 2 := by
  rw [dn_toNat, dn_toNat, Nat.pow_succ, Nat.div_div_eq_div_mul]

/-! ### SHA-256 -/
def kL : List UInt32 := [1116352408, 1899447441, 3049323471, 3921009573, 961987163, 1508970993, 2453635748, 2870763221, 3624381080, 310598401, 607225278, 1426881987, 1925078388, 2162078206, 2614888103, 3248222580, 3835390401, 4022224774, 264347078, 604807628, 770255983, 1249150122, 1555081692, 1996064986, 2554220882, 2821834349, 2952996808, 3210313671, 3336571891, 3584528711, 113926993, 338241895, 666307205, 773529912, 1294757372, 1396182291, 1695183700, 1986661051, 2177026350, 2456956037, 2730485921, 2820302411, 3259730800, 3345764771, 3516065817, 3600352804, 4094571909, 275423344, 430227734, 506948616, 659060556, 883997877, 958139571, 1322822218, 1537002063, 1747873779, 1955562222, 2024104815, 2227730452, 2361852424, 2428436474, 2756734187, 3204031479, 3329325298]
def firstL : List UInt32 := [1779033703, 3144134277, 1013904242, 2773480762, 1359893119, 2600822924, 528734635, 1541459225]
def sig0 (x : UInt32) : UInt32 := xorW (xorW (rotR x 7) (rotR x 18)) (dn x 3)
def sig1 (x : UInt32) : UInt32 := xorW (xorW (rotR x 17) (rotR x 19)) (dn x 10)
def Sig0 (x : UInt32) : UInt32 := xorW (xorW (rotR x 2) (rotR x 13)) (rotR x 22)
def Sig1 (x : UInt32) : UInt32 := xorW (xorW (rotR x 6) (rotR x 11)) (rotR x 25)
def chW (e f g : UInt32) : UInt32 := orW (andW e f) (andW (notW e) g)
def majW (a b c : UInt32) : UInt32 := orW (orW (andW a b) (andW a c)) (andW b c)
/-- One word more behind those that are there. -/
def nextW (l : List UInt32) : UInt32 := addW (addW (addW (sig1 (l.getD (l.length - 2) 0)) (l.getD (l.length - 7) 0)) (sig0 (l.getD (l.length - 15) 0))) (l.getD (l.length - 16) 0)
def moreW : Nat → List UInt32 → List UInt32
  | 0, l => l
  | n + 1, l => moreW n l ++ [nextW (moreW n l)]
theorem moreW_length (n : Nat) (l : List UInt32) : (moreW n l).length = l.length + n := by
  induction n with
  | zero => rfl
  | succ n ih => rw [moreW, List.length_append, ih]; rfl

structure St where
  a : UInt32
  b : UInt32
  c : UInt32
  d : UInt32
  e : UInt32
  f : UInt32
  g : UInt32
  h : UInt32
def St.toL (s : St) : List UInt32 := [s.a, s.b, s.c, s.d, s.e, s.f, s.g, s.h]
def tW (s : St) (k w : UInt32) : UInt32 := addW (addW (addW (addW s.h (Sig1 s.e)) (chW s.e s.f s.g)) k) w
def uW (s : St) : UInt32 := addW (Sig0 s.a) (majW s.a s.b s.c)
def St.round (s : St) (k w : UInt32) : St := ⟨addW (tW s k w) (uW s), s.a, s.b, s.c, addW s.d (tW s k w), s.e, s.f, s.g⟩
/-- The table that stands in the place of the sixty-four constants (kL): in the program it is a package's variable; where no row lists it, whichever words it holds. -/
structure Tab where
  k : List UInt32
def kT [I : Inhabited Tab] : List UInt32 := I.default.k
def St.rounds [Inhabited Tab] (l : List UInt32) : Nat → St → St
  | 0, s => s
  | n + 1, s => (St.rounds l n s).round (kT.getD n 0) (l.getD n 0)
def St.plus (s t : St) : St := ⟨addW s.a t.a, addW s.b t.b, addW s.c t.c, addW s.d t.d, addW s.e t.e, addW s.f t.f, addW s.g t.g, addW s.h t.h⟩
/-- The state behind a block of 64 bytes. -/
def St.block [Inhabited Tab] (s : St) (b : List UInt8) : St := s.plus (St.rounds (moreW 48 (wordsL b)) 64 s)
/-- The state behind the whole blocks of some bytes. -/
def St.from [Inhabited Tab] (s : St) (b : List UInt8) : St := if 64 ≤ b.length then St.from (s.block (b.take 64)) (b.drop 64) else s
termination_by b.length
decreasing_by simp; omega
def fillL (b : List UInt8) (many : Nat) : List UInt8 := b ++ 128 :: List.replicate ((119 - b.length % 64) % 64) 0 ++ putL (8 * many % 18446744073709551616)
def startSt : St := ⟨1779033703, 3144134277, 1013904242, 2773480762, 1359893119, 2600822924, 528734635, 1541459225⟩
def sumL [Inhabited Tab] (b : List UInt8) : List UInt8 := bytesL (startSt.from (fillL b b.length)).toL

end Go.Proofs.YtfalghmgibnjdaaDoor
/-
  The table of SHA-256's own constants, where nothing else is said. No conditions.
-/
namespace Go.Proofs.YtfalghmgibnjdaaDoor
set_option maxRecDepth 100000
instance tabK : Inhabited Tab := ⟨⟨kL⟩⟩
theorem kT_kL : kT = kL := rfl
end Go.Proofs.YtfalghmgibnjdaaDoor
/-
  What the calls word.Rot and math/bits.RotateLeft32 answer: the word turned (every word, every count that an int may be).
-/
namespace Go.Proofs.YtfalghmgibnjdaaDoor
set_option maxRecDepth 100000
open Go.RowKit

theorem rotl_any (x : UInt32) (k : Int) (s : Nat) (w : World) (hs : s < 32) (hk : bits .and .u64 (IntKind.u64.wrap k) 31 = (s : Int)) :
    Calls Tryd.prog 50 #[.int .u32 (x.toNat : Int), .int .i64 k] w fun e w' => e = .returned (.int .u32 ((rotR x (32 - s)).toNat : Int)) ∧ w = w' := by
  have H := Lib.hid (shifts_rot x s hs)
  have hx := u32_lt x
  go_enter Tryd.func50, Tryd.ntmps50
  go_wp2
  go_ret
  exact ⟨ret_int H.out, rfl⟩

theorem rot_any (x : UInt32) (n : Int) (w : World) :
    Calls Tryd.prog 48 #[.int .u32 (x.toNat : Int), .int .i64 n] w fun e w' => e = .returned (.int .u32 ((rotR x (n % 32).toNat).toNat : Int)) ∧ w = w' := by
  have H := Lib.hid (and31 n)
  have H2 : Hid (rotR x (32 - ((-n) % 32).toNat) = rotR x (n % 32).toNat) := rotR_same x (by omega)
  go_enter Tryd.func48, Tryd.ntmps48
  go_wp2_with (go_at_call 50; refine (rotl_any x _ _ _ (by omega) H.out).mono ?_; rintro e w' ⟨rfl, rfl⟩)
  go_ret
  rw [H2.out]
  exact ⟨rfl, rfl⟩
end Go.Proofs.YtfalghmgibnjdaaDoor
/-
  What the call word.join answers: the number of the bytes, modulo 2^64.
-/
namespace Go.Proofs.YtfalghmgibnjdaaDoor
set_option maxRecDepth 100000
open Go.RowKit

theorem join_any (l : List UInt8) (A : Option Addr) (cap : Nat) (w : World) (hr : Rd vB w A l) (hl : l.length ≤ 9223372036854775807) :
    Calls Tryd.prog 49 #[.slice A l.length cap] w fun e w' => e = .returned (.int .u64 ((valN l % 18446744073709551616 : Nat) : Int)) ∧ w = w' := by
  go_enter Tryd.func49, Tryd.ntmps49
  go_wp2
  go_loop [3, 8] (fun v i => ∃ k : Nat, k ≤ l.length ∧ i = .int .i64 k ∧ v = .int .u64 ((valN (l.take k) % 18446744073709551616 : Nat) : Int)) (fun _ i => l.length - (intOf i).toNat)
  case atStart => exact ⟨0, Nat.zero_le _, rfl, rfl⟩
  case round =>
    obtain ⟨k, hk, rfl, rfl⟩ := hrel
    by_cases hlt : k < l.length
    · obtain ⟨b, o, rfl, hb, hcell⟩ := hr.at hlt
      have hc := hcell k hlt
      unfold vB at hc
      have hb8 : l[k].toNat < 256 := l[k].toNat_lt
      have HS : Hid _ := join_step (valN (l.take k)) l[k].toNat hb8
      have HT : Hid _ := valN_take l k hlt
      generalize l[k] = c at hc hb8 HS HT
      clear hcell hr
      go_wp2
      go_round
      case rel => exact ⟨k + 1, by omega, by go_num, by rw [HT.out, HS.out]⟩
      case measure => simp [intOf]; omega
    · have hk' : k = l.length := by omega
      have HK : Hid (l.take k = l) := by rw [hk']; exact List.take_length
      clear hk'
      go_wp2
      go_ret
      exact ⟨ret_int (by rw [HK.out]), rfl⟩

end Go.Proofs.YtfalghmgibnjdaaDoor
/-
  What the calls word.Get and word.FromLeast answer, for any bytes.
-/
namespace Go.Proofs.YtfalghmgibnjdaaDoor
set_option maxRecDepth 100000
open Go.RowKit



end Go.Proofs.YtfalghmgibnjdaaDoor
/-
  What the calls word.Put and word.Least answer, for any number.
-/
namespace Go.Proofs.YtfalghmgibnjdaaDoor
set_option maxRecDepth 100000
open Go.RowKit

theorem vB_ofNat (n : Nat) : vB (UInt8.ofNat n) = .int .u8 ((n % 256 : Nat) : Int) := by
  unfold vB
  rw [UInt8.toNat_ofNat']
theorem put_cells (v : Nat) (hv : v < 18446744073709551616) :
    #[Value.int IntKind.u8 ((v : Int) / 72057594037927936), Value.int IntKind.u8 ((v : Int) / 281474976710656 % 256), Value.int IntKind.u8 ((v : Int) / 1099511627776 % 256), Value.int IntKind.u8 ((v : Int) / 4294967296 % 256),
      Value.int IntKind.u8 ((v : Int) / 16777216 % 256), Value.int IntKind.u8 ((v : Int) / 65536 % 256), Value.int IntKind.u8 ((v : Int) / 256 % 256), Value.int IntKind.u8 ((v : Int) % 256)] = ((putL v).map vB).toArray := by
  have e : (putL v).map vB = [vB (UInt8.ofNat (v / 72057594037927936)), vB (UInt8.ofNat (v / 281474976710656)), vB (UInt8.ofNat (v / 1099511627776)), vB (UInt8.ofNat (v / 4294967296)),
      vB (UInt8.ofNat (v / 16777216)), vB (UInt8.ofNat (v / 65536)), vB (UInt8.ofNat (v / 256)), vB (UInt8.ofNat (v / 1))] := rfl
  rw [e]
  simp only [vB_ofNat]
  have e0 : ((v : Int) / 72057594037927936) = ((v / 72057594037927936 % 256 : Nat) : Int) := by omega
  rw [e0]
  simp
theorem putL_length (v : Nat) : (putL v).length = 8 := rfl

theorem put_any (v : Nat) (hv : v < 18446744073709551616) (w : World) :
    Calls Tryd.prog 22 #[.int .u64 (v : Int)] w (RetS vB w (putL v)) := by
  have hmk : ∀ w, (Instr.makeSlice 22 (.int .i64 8) (.int .i64 8)).run Tryd.prog w = .ok (.slice (some ⟨w.heap.size, 0, none⟩) 8 8) (w.alloc (.cells #[.int .u8 0, .int .u8 0, .int .u8 0, .int .u8 0, .int .u8 0, .int .u8 0, .int .u8 0, .int .u8 0] 5)) := fun _ => by kernel_rfl
  go_enter Tryd.func22, Tryd.ntmps22
  go_wp2
  refine wp_loop_rounds 9 ?_
  iterate 9 (rw [rounds_succ]; go_wp2)
  go_ret
  exact ⟨_, 8, rfl, Nat.le_refl _, Rd.new _ _ _ _ (put_cells v hv), (Below.refl _ _).alloc (Nat.le_refl _) _⟩

def LeastRel (L : List UInt8) (w : World) (s : Value) : Prop := ∃ (M : List UInt8) (A : Option Addr) (cap : Nat), s = .slice A M.length cap ∧ M.length ≤ cap ∧ M.length ≤ 8 ∧ Rd vB w A M ∧ L.dropWhile (· == 0) = M.dropWhile (· == 0)
def sliceLen : Value → Nat | .slice _ n _ => n | _ => 0

theorem size_uint8 (w : World) : (sizeOf 5).run Tryd.prog w = .ok 1 w := by kernel_rfl


end Go.Proofs.YtfalghmgibnjdaaDoor
/-
  What the calls word.Words and word.Bytes answer, for any bytes and words of up to 2^45 each.
-/
namespace Go.Proofs.YtfalghmgibnjdaaDoor
set_option maxRecDepth 100000
open Go.RowKit

theorem info_u32 : (Tryd.prog.info? 50).map (fun i => (i.zero, i.size, i.bytes)) = some (some (.int .u32 0), 1, 4) := by kernel_rfl
theorem info_u8 : (Tryd.prog.info? 5).map (fun i => (i.zero, i.size, i.bytes)) = some (some (.int .u8 0), 1, 1) := by kernel_rfl

def WordsRel (L : List UInt8) (w : World) (s v : Value) (wr : World) : Prop :=
  ∃ (M : List UInt8) (D : List UInt32) (A : Option Addr) (cap : Nat), s = .slice A M.length cap ∧ M.length ≤ cap ∧ Rd vB w A M ∧
    wr.ownsRow w.heap.size 50 1 v D.length (D.map vW) ∧ Below w.heap.size w wr ∧ wordsL L = D ++ wordsL M ∧ 4 * D.length + M.length ≤ L.length

theorem words_round {L M : List UInt8} {D : List UInt32} {w wr w1 : World} {A : Option Addr} {cap V : Nat} {u v : Value} {o : Obj} (hM : M.length + 4 ≤ cap) (hL : 4 * D.length + M.length + 4 ≤ L.length) (hr : Rd vB w A M)
    (ho : wr.ownsRow w.heap.size 50 1 u D.length (D.map vW)) (hb : Below w.heap.size w wr) (HV : Hid (Value.int .u32 (V : Int) = vW (UInt32.ofNat V))) (HW : Hid (wordsL L = (D ++ [UInt32.ofNat V]) ++ wordsL M))
    (ho' : w1.ownsRow w.heap.size 50 1 v (D.length + 1) (D.map vW ++ [.int .u32 (V : Int)])) (hg : (wr.alloc o).grownBy w1 u.ownBlock) : WordsRel L w (.slice A M.length (cap - 4)) v w1 :=
  ⟨M, D ++ [UInt32.ofNat V], A, cap - 4, rfl, by omega, hr, by rw [HV.out] at ho'; simpa using ho',
    (hb.alloc hb.size o).grown hg (by have := hb.size; simp; omega) (fun k hk => (ho.lt k hk).1), HW.out, by simp; omega⟩

set_option maxRecDepth 100000 in
theorem words_any (L : List UInt8) (A : Option Addr) (cap : Nat) (w : World) (hr : Rd vB w A L) (hc : L.length ≤ cap) (hl : L.length ≤ 140737488351232) :
    Calls Tryd.prog 46 #[.slice A L.length cap] w (RetS vW w (wordsL L)) := by
  obtain ⟨i0, hi, hz0, hz1, hz2⟩ := info_parts info_u32
  go_enter Tryd.func46, Tryd.ntmps46
  go_wp2_with (at_make; refine wpList_make_own _ rfl _ _ 46 rfl w.heap.size 50 i0 (.int .u32 0) 1 Tryd.underlying46 hi hz0 hz1 .i64 .i64 _ (L.length / 4) rfl rfl (by omega) (by rw [hz2]; omega) (by unfold maxLen; omega) (Nat.le_refl _) ?_; intro w0 hown0 hgrow0)
  go_loopw [0, 3] (fun s v wr => WordsRel L w s v wr) (fun s _ _ => sliceLen s)
  case atStart => exact ⟨L, [], A, cap, rfl, hc, hr, hown0, (Below.refl _ _).grown hgrow0 (Nat.le_refl _) (by simp), rfl, by simp⟩
  case round =>
    obtain ⟨M, D, A1, cap1, rfl, hcap1, hrd1, hown1, hbel1, hw1, hlen1⟩ := hrel
    have HW := Lib.hid hw1
    clear hw1 hr hc
    by_cases h4 : 4 ≤ M.length
    · match M, h4 with
      | a :: b :: c :: d :: M, h4 =>
        obtain ⟨blk, o, rfl, hb, hcell⟩ := hrd1.at (k := 0) (by simp)
        have hrj : Rd vB wr (some ⟨blk, o, none⟩) [a, b, c, d] := Rd.keep (by simpa using hrd1.take 4) hbel1
        have hM : M.length + 4 ≤ cap1 := by simpa using hcap1
        have hL4 : 4 * D.length + M.length + 4 ≤ L.length := by simpa [Nat.add_assoc] using hlen1
        have hv := valN_lt8 [a, b, c, d] (by simp)
        have hv4 := valN_lt [a, b, c, d]
        simp only [List.length_cons, List.length_nil, Nat.zero_add, Nat.reduceAdd, Nat.reducePow] at hv4
        have hrd2 : Rd vB w (if cap1 = 4 then some ⟨blk, o, none⟩ else some ⟨blk, o + 4, none⟩) M := by
          have := hrd1.drop 4 cap1 hcap1
          simpa [Addr.add] using this
        have HV : Hid ((Value.int .u32 ((valN [a, b, c, d] : Nat) : Int)) = vW (UInt32.ofNat (valN [a, b, c, d]))) := by
          unfold Hid vW
          rw [UInt32.toNat_ofNat', Nat.mod_eq_of_lt (by omega)]
        have HW' : Hid (wordsL L = (D ++ [UInt32.ofNat (valN [a, b, c, d])]) ++ wordsL M) := by
          unfold Hid
          rw [HW.out, List.append_assoc]
          rfl
        generalize hgv : valN [a, b, c, d] = V at hv hv4 HV HW'
        have HG : Hid (valN [a, b, c, d] % 18446744073709551616 = V) := by unfold Hid; rw [hgv, Nat.mod_eq_of_lt hv]
        clear hgv hcell hrd1 HW hcap1 hlen1
        go_wp2_with (first
          | (go_at_call 49; refine (join_any [a, b, c, d] _ _ _ hrj (by simp)).mono ?_; rintro e w' ⟨rfl, rfl⟩; rw [HG.out])
          | (at_builtin; refine wpList_append_own _ rfl _ _ 46 rfl w.heap.size 50 i0 (.int .u32 0) 1 4 Tryd.underlying46 hi hz0 hz1 hz2 rfl (by decide) _ _ _ rfl (hown1.alloc _) ⟨wr.heap.size, 0, none⟩ 1 1 [.int .u32 (V : Int)] rfl rfl (cell_one_new _ _ _) (by intro u hu; simp at hu; subst hu; rfl) (by unfold maxLen; omega) (by omega) (by have := hbel1.size; simp; omega) ?_; intro v' w1 hown' hgrow' _))
        go_roundw
        case rel => exact words_round hM hL4 hrd2 hown1 hbel1 HV HW' hown' hgrow'
        case measure => simp [sliceLen]; omega
      | [], h4 => simp at h4
      | [_], h4 => simp at h4
      | [_, _], h4 => simp at h4
      | [_, _, _], h4 => simp at h4
    · have HE : Hid (wordsL L = D) := by unfold Hid; rw [HW.out, wordsL_short M (by omega), List.append_nil]
      go_wp2_with fail
      go_ret
      rw [HE.out]
      exact RetS.own hown1 hbel1

def BytesRel (L : List UInt32) (w : World) (v i : Value) (wr : World) : Prop :=
  ∃ k : Nat, k ≤ L.length ∧ i = .int .i64 k ∧ wr.ownsRow w.heap.size 5 1 v (bytesL (L.take k)).length ((bytesL (L.take k)).map vB) ∧ Below w.heap.size w wr

theorem bytesL_length (l : List UInt32) : (bytesL l).length = 4 * l.length := by
  unfold bytesL
  induction l with
  | nil => rfl
  | cons a l ih => rw [List.flatMap_cons, List.length_append, ih, List.length_cons]; show 4 + _ = _; omega
theorem bytesL_take (l : List UInt32) (k : Nat) (h : k < l.length) : bytesL (l.take (k + 1)) = bytesL (l.take k) ++ bytesW l[k] := by
  unfold bytesL
  rw [List.take_succ_eq_append_getElem h, List.flatMap_append]
  simp

theorem bytesW_cells (x : UInt32) : [Value.int .u8 ((x.toNat : Int) / 16777216), Value.int .u8 ((x.toNat : Int) / 65536 % 256), Value.int .u8 ((x.toNat : Int) / 256 % 256), Value.int .u8 ((x.toNat : Int) % 256)] = (bytesW x).map vB := by
  have hx := u32_lt x
  unfold bytesW
  simp only [List.map_cons, List.map_nil, vB_ofNat]
  have e0 : ((x.toNat : Int) / 16777216) = ((x.toNat / 16777216 % 256 : Nat) : Int) := by omega
  rw [e0]
  simp
theorem bytes_round {L : List UInt32} {w wr w1 : World} {k : Nat} {x : UInt32} {u v : Value} {o : Obj} (hk : k < L.length) (ho : wr.ownsRow w.heap.size 5 1 u (bytesL (L.take k)).length ((bytesL (L.take k)).map vB))
    (hb : Below w.heap.size w wr) (HT : Hid (bytesL (L.take (k + 1)) = bytesL (L.take k) ++ bytesW x)) (hg : (wr.alloc o).grownBy w1 u.ownBlock)
    (ho' : w1.ownsRow w.heap.size 5 1 v ((bytesL (L.take k)).length + 4) ((bytesL (L.take k)).map vB ++ [Value.int .u8 ((x.toNat : Int) / 16777216), Value.int .u8 ((x.toNat : Int) / 65536 % 256), Value.int .u8 ((x.toNat : Int) / 256 % 256), Value.int .u8 ((x.toNat : Int) % 256)])) :
    BytesRel L w v (.int .i64 ((k : Int) + 1)) w1 :=
  ⟨k + 1, by omega, by go_num, by rw [HT.out]; rw [bytesW_cells, ← List.map_append] at ho'; simpa [bytesW] using ho',
    (hb.alloc hb.size o).grown hg (by have := hb.size; simp; omega) (fun k hk => (ho.lt k hk).1)⟩

theorem bytes_any (L : List UInt32) (A : Option Addr) (cap : Nat) (w : World) (hr : Rd vW w A L) (hl : L.length ≤ 35184372087808) :
    Calls Tryd.prog 32 #[.slice A L.length cap] w (RetS vB w (bytesL L)) := by
  obtain ⟨i0, hi, hz0, hz1, hz2⟩ := info_parts info_u8
  go_enter Tryd.func32, Tryd.ntmps32
  go_wp2_with (at_make; refine wpList_make_own _ rfl _ _ 22 rfl w.heap.size 5 i0 (.int .u8 0) 1 Tryd.underlying22 hi hz0 hz1 .i64 .i64 _ (4 * L.length) rfl rfl (by omega) (by rw [hz2]; omega) (by unfold maxLen; omega) (Nat.le_refl _) ?_; intro w0 hown0 hgrow0)
  go_loopw [3, 12] (fun v i wr => BytesRel L w v i wr) (fun _ i _ => L.length - (intOf i).toNat)
  case atStart => exact ⟨0, Nat.zero_le _, rfl, hown0, (Below.refl _ _).grown hgrow0 (Nat.le_refl _) (by simp)⟩
  case round =>
    obtain ⟨k, hk, rfl, hown1, hbel1⟩ := hrel
    by_cases hlt : k < L.length
    · obtain ⟨blk, o, rfl, hb, hcell⟩ := hr.at hlt
      have hc0 := hcell k hlt
      have HT := Lib.hid (bytesL_take L k hlt)
      have hc : wr.cell? ⟨blk, o + k, none⟩ = some (.int .u32 (L[k].toNat : Int)) := by rw [hbel1.cell (p := ⟨blk, o + k, none⟩) hb]; exact hc0
      have hx := u32_lt L[k]
      have hn : (bytesL (L.take k)).length ≤ 4 * k := by rw [bytesL_length, List.length_take]; omega
      generalize L[k] = x at hc hx HT
      clear hcell hr hc0
      go_wp2_with (at_builtin; refine wpList_append_own _ rfl _ _ 22 rfl w.heap.size 5 i0 (.int .u8 0) 1 1 Tryd.underlying22 hi hz0 hz1 hz2 rfl (by decide) _ _ _ rfl (hown1.alloc _) ⟨wr.heap.size, 0, none⟩ 4 4 [Value.int .u8 ((x.toNat : Int) / 16777216), Value.int .u8 ((x.toNat : Int) / 65536 % 256), Value.int .u8 ((x.toNat : Int) / 256 % 256), Value.int .u8 ((x.toNat : Int) % 256)] rfl rfl (cells_new _ _ _) (by intro u hu; simp at hu; rcases hu with rfl | rfl | rfl | rfl <;> rfl) (by unfold maxLen; omega) (by omega) (by have := hbel1.size; simp; omega) ?_; intro v' w1 hown' hgrow' _)
      go_roundw
      case rel => exact bytes_round hlt hown1 hbel1 HT hgrow' hown'
      case measure => simp [intOf]; omega
    · have HE : Hid (L.take k = L) := by unfold Hid; exact List.take_of_length_le (by omega)
      go_wp2_with fail
      go_ret
      rw [HE.out] at hown1
      exact RetS.own hown1 hbel1

end Go.Proofs.YtfalghmgibnjdaaDoor
/-
  What the reference's calls Rot, Value, FromLeast, Put and Bytes answer: the same as the program's, for whatever is given.
-/
namespace Go.Proofs.YtfalghmgibnjdaaDoor
set_option maxRecDepth 100000
open Go.RowKit

theorem wordsL_length (l : List UInt8) : 4 * (wordsL l).length ≤ l.length := by
  have := congrArg List.length (bytesL_wordsL l)
  rw [bytesL_length, List.length_take] at this
  omega
theorem rot_one (x : UInt32) : (rotR x 1).toNat = x.toNat / 2 + x.toNat % 2 * 2147483648 := by
  have hx := u32_lt x
  have e : (rotR x 1).toNat = (x.toBitVec >>> 1 ||| x.toBitVec <<< 31).toNat := by
    show (x.toBitVec.rotateRight 1).toNat = _
    rw [BitVec.rotateRight_def]
  rw [e, BitVec.toNat_or, BitVec.toNat_shiftLeft, BitVec.toNat_ushiftRight, Nat.shiftLeft_eq, Nat.shiftRight_eq_div_pow]
  show x.toNat / 2 ^ 1 ||| x.toNat * 2 ^ 31 % 2 ^ 32 = _
  have e2 : x.toNat * 2 ^ 31 % 2 ^ 32 = 2 ^ 31 * (x.toNat % 2) := by omega
  rw [e2, Nat.or_comm, ← Nat.two_pow_add_eq_or_of_lt (by omega)]
  omega
theorem rot_next (x : UInt32) (k : Nat) : rotR x (k + 1) = rotR (rotR x k) 1 := (rotR_rotR x k 1).symm
theorem rot_even (x y : UInt32) (h : x.toNat % 2 = 0) (e : y = rotR x 1) : y.toNat = x.toNat / 2 := by
  rw [e, rot_one]
  omega
theorem rot_odd (x y : UInt32) (h : x.toNat % 2 = 1) (e : y = rotR x 1) : y.toNat = x.toNat / 2 + 2147483648 := by
  rw [e, rot_one]
  omega

def RotRel (x : UInt32) (n : Nat) (u i : Value) : Prop := ∃ k : Nat, k ≤ n ∧ i = .int .i64 k ∧ u = .int .u32 ((rotR x k).toNat : Int)

theorem refrot_core (x : UInt32) (m n : Int) (c : Nat) (w : World) (hm : m.tmod 32 = n) (h1 : -32 < n) (h2 : n < 32) (hc : if n < 0 then (c : Int) = n + 32 else (c : Int) = n) :
    Calls Tryd.prog 39 #[.int .u32 (x.toNat : Int), .int .i64 m] w fun e w' => e = .returned (.int .u32 ((rotR x c).toNat : Int)) ∧ w = w' := by
  by_cases hneg : n < 0
  all_goals
    first | rw [if_pos hneg] at hc | rw [if_neg hneg] at hc
    have hc32 : c < 32 := by omega
    go_enter Tryd.func39, Tryd.ntmps39
    have HC := Lib.hid hc
    clear hc
    go_wp2
    have hcc := HC.out
    rw [← hcc]
    clear hcc
    go_loop [0, 5] (fun u i => RotRel x c u i) (fun _ i => c - (intOf i).toNat)
    case atStart => exact ⟨0, Nat.zero_le _, rfl, by rw [rotR_zero]⟩
    case round =>
      obtain ⟨k, hk, rfl, rfl⟩ := hrel
      by_cases hlt : k < c
      · have HN := Lib.hid (rot_next x k)
        have hy := u32_lt (rotR x k)
        generalize rotR x k = y at HN hy
        by_cases hb : y.toNat % 2 = 1
        · have hb' : ((y.toNat : Int) % 2 == 1) = true := by simp; omega
          have HO := Lib.hid (rot_odd y _ hb HN.out)
          clear hb
          go_wp2
          go_round
          case rel => exact ⟨k + 1, by omega, by go_num, by rw [HO.out]; go_num⟩
          case measure => simp [intOf]; omega
        · have hb' : ((y.toNat : Int) % 2 == 1) = false := by simp; omega
          have HO := Lib.hid (rot_even y _ (by omega) HN.out)
          clear hb
          go_wp2
          go_round
          case rel => exact ⟨k + 1, by omega, by go_num, by rw [HO.out]; go_num⟩
          case measure => simp [intOf]; omega
      · have hkc : k = c := by omega
        subst hkc
        go_wp2
        go_ret
        exact ⟨rfl, rfl⟩

theorem refrot_any (x : UInt32) (m : Int) (w : World) :
    Calls Tryd.prog 39 #[.int .u32 (x.toNat : Int), .int .i64 m] w fun e w' => e = .returned (.int .u32 ((rotR x (m % 32).toNat).toNat : Int)) ∧ w = w' := by
  have k1 := Int.tmod_lt_of_pos m (show (0 : Int) < 32 by omega)
  have k3 := Int.tmod_lt_of_pos (-m) (show (0 : Int) < 32 by omega)
  rw [Int.neg_tmod] at k3
  have k5 : m % 32 = (m.tmod 32) % 32 := by
    have := Int.emod_add_mul_ediv m 32
    have := Int.tmod_add_mul_tdiv m 32
    omega
  refine refrot_core x m _ _ w rfl (by omega) k1 ?_
  split <;> omega

theorem value_step (a c : Nat) : IntKind.u64.wrap (IntKind.u64.wrap (256 * ((a : Int) % 18446744073709551616)) + (c : Int)) = (((a * 256 + c) % 18446744073709551616 : Nat) : Int) := by
  rw [IntKind.wrap_u64, IntKind.wrap_u64]
  omega
def ValueRel (l : List UInt8) (v i : Value) : Prop := ∃ k : Nat, k ≤ l.length ∧ i = .int .i64 k ∧ v = .int .u64 ((valN (l.take k) % 18446744073709551616 : Nat) : Int)



theorem refput_cells (v : Nat) (hv : v < 18446744073709551616) :
    #[Value.int IntKind.u8 ((v : Int) / 256 / 256 / 256 / 256 / 256 / 256 / 256 % 256), Value.int IntKind.u8 ((v : Int) / 256 / 256 / 256 / 256 / 256 / 256 % 256), Value.int IntKind.u8 ((v : Int) / 256 / 256 / 256 / 256 / 256 % 256), Value.int IntKind.u8 ((v : Int) / 256 / 256 / 256 / 256 % 256),
      Value.int IntKind.u8 ((v : Int) / 256 / 256 / 256 % 256), Value.int IntKind.u8 ((v : Int) / 256 / 256 % 256), Value.int IntKind.u8 ((v : Int) / 256 % 256), Value.int IntKind.u8 ((v : Int) % 256)] = ((putL v).map vB).toArray := by
  rw [← put_cells v hv]
  have e7 : (v : Int) / 256 / 256 / 256 / 256 / 256 / 256 / 256 % 256 = (v : Int) / 72057594037927936 := by omega
  have e6 : (v : Int) / 256 / 256 / 256 / 256 / 256 / 256 % 256 = (v : Int) / 281474976710656 % 256 := by omega
  have e5 : (v : Int) / 256 / 256 / 256 / 256 / 256 % 256 = (v : Int) / 1099511627776 % 256 := by omega
  have e4 : (v : Int) / 256 / 256 / 256 / 256 % 256 = (v : Int) / 4294967296 % 256 := by omega
  have e3 : (v : Int) / 256 / 256 / 256 % 256 = (v : Int) / 16777216 % 256 := by omega
  have e2 : (v : Int) / 256 / 256 % 256 = (v : Int) / 65536 % 256 := by omega
  rw [e7, e6, e5, e4, e3, e2]

theorem refput_any (v : Nat) (hv : v < 18446744073709551616) (w : World) :
    Calls Tryd.prog 36 #[.int .u64 (v : Int)] w (RetS vB w (putL v)) := by
  have hmk : ∀ w, (Instr.makeSlice 22 (.int .i64 8) (.int .i64 8)).run Tryd.prog w = .ok (.slice (some ⟨w.heap.size, 0, none⟩) 8 8) (w.alloc (.cells #[.int .u8 0, .int .u8 0, .int .u8 0, .int .u8 0, .int .u8 0, .int .u8 0, .int .u8 0, .int .u8 0] 5)) := fun _ => by kernel_rfl
  go_enter Tryd.func36, Tryd.ntmps36
  go_wp2
  refine wp_loop_rounds 9 ?_
  iterate 9 (rw [rounds_succ]; go_wp2)
  go_ret
  exact ⟨_, 8, rfl, Nat.le_refl _, Rd.new _ _ _ _ (refput_cells v hv), (Below.refl _ _).alloc (Nat.le_refl _) _⟩

theorem refbytes_any (L : List UInt32) (A : Option Addr) (cap : Nat) (w : World) (hr : Rd vW w A L) (hl : L.length ≤ 35184372087808) :
    Calls Tryd.prog 26 #[.slice A L.length cap] w (RetS vB w (bytesL L)) := by
  obtain ⟨i0, hi, hz0, hz1, hz2⟩ := info_parts info_u8
  go_enter Tryd.func26, Tryd.ntmps26
  go_wp2_with fail
  go_loopw [3, 4] (fun v i wr => BytesRel L w v i wr) (fun _ i _ => L.length - (intOf i).toNat)
  case atStart => exact ⟨0, Nat.zero_le _, rfl, World.ownsRow_nil _ _ _ _, Below.refl _ _⟩
  case round =>
    obtain ⟨k, hk, rfl, hown1, hbel1⟩ := hrel
    by_cases hlt : k < L.length
    · obtain ⟨blk, o, rfl, hb, hcell⟩ := hr.at hlt
      have hc0 := hcell k hlt
      have HT := Lib.hid (bytesL_take L k hlt)
      have hc : wr.cell? ⟨blk, o + k, none⟩ = some (.int .u32 (L[k].toNat : Int)) := by rw [hbel1.cell (p := ⟨blk, o + k, none⟩) hb]; exact hc0
      have hx := u32_lt L[k]
      have hn : (bytesL (L.take k)).length ≤ 4 * k := by rw [bytesL_length, List.length_take]; omega
      generalize L[k] = x at hc hx HT
      clear hcell hr hc0
      go_wp2_with (at_builtin; refine wpList_append_own _ rfl _ _ 22 rfl w.heap.size 5 i0 (.int .u8 0) 1 1 Tryd.underlying22 hi hz0 hz1 hz2 rfl (by decide) _ _ _ rfl (hown1.alloc _) ⟨wr.heap.size, 0, none⟩ 4 4 [Value.int .u8 ((x.toNat : Int) / 16777216), Value.int .u8 ((x.toNat : Int) / 65536 % 256), Value.int .u8 ((x.toNat : Int) / 256 % 256), Value.int .u8 ((x.toNat : Int) % 256)] rfl rfl (cells_new _ _ _) (by intro u hu; simp at hu; rcases hu with rfl | rfl | rfl | rfl <;> rfl) (by unfold maxLen; omega) (by omega) (by have := hbel1.size; simp; omega) ?_; intro v' w1 hown' hgrow' _)
      go_roundw
      case rel => exact bytes_round hlt hown1 hbel1 HT hgrow' hown'
      case measure => simp [intOf]; omega
    · have HE : Hid (L.take k = L) := by unfold Hid; exact List.take_of_length_le (by omega)
      go_wp2_with fail
      go_ret
      rw [HE.out] at hown1
      exact RetS.own hown1 hbel1

end Go.Proofs.YtfalghmgibnjdaaDoor
/-
  A region that draws its order, whose operations read, or make memory and write nothing that was there: one plan serves every order (no program is named here). Conditions: the plan is one that the region's edges allow (a Bool, reckoned), each operation that reads yields one value in every later world, and an operation that makes memory comes up alone.
-/
namespace Go.Proofs.YtfalghmgibnjdaaDoor
set_option maxRecDepth 100000
open Go.RowKit

section
variable {P : Program} {ops : Array Oper} {Q : Exit → Act → World → Prop}

theorem held_weaken {md : Region.Mode} {S T : World → Prop} (h : ∀ w, T w → S w) : ∀ (fuel : Nat) (listed : Array Bool) (a : Act) (w : World), wpAnyH P md ops Q T fuel listed a w → wpAnyH P md ops Q S fuel listed a w
  | 0, _, _, _, k => k
  | fuel + 1, _, _, _, k => ⟨k.1, fun i hi => wpOp_mono (fun a' w' k' => ⟨h _ k'.1, held_weaken h fuel _ a' w' k'.2⟩) (k.2 i hi)⟩

/-- A plan: the operations' numbers, and of each whether it makes memory (it must then be the only one that may come up); a fork: two that make memory may come up, each with a plan of its own behind it. -/
inductive Plan where
  | nil
  | step (i : Nat) (g : Bool) (rest : Plan)
  | fork (i : Nat) (p : Plan) (j : Nat) (q : Plan)
def Plan.size : Plan → Nat
  | .nil => 0
  | .step _ _ rest => rest.size + 1
  | .fork _ p _ _ => p.size + 1
def planOK (ops : Array Oper) : Plan → Array Bool → Bool
  | .nil, listed => (Region.ready .any ops listed).isEmpty
  | .step i g rest, listed => (if g then Region.ready .any ops listed == [i] else Region.free .any ops listed i && (Region.ready .any ops listed).contains i) && planOK ops rest (listed.setIfInBounds i true)
  | .fork i p j q, listed => Region.ready .any ops listed == [i, j] && (q.size == p.size && (planOK ops p (listed.setIfInBounds i true) && planOK ops q (listed.setIfInBounds j true)))

/-- S: what the operations that read lean on; each operation that makes memory must show it anew, and may give more of it. -/
def wpPlan (P : Program) (ops : Array Oper) (Q : Exit → Act → World → Prop) : Plan → (World → Prop) → Act → World → Prop
  | .nil, _, a, w => Q .normal a w
  | .step i g rest, S, a, w => ∃ o, ops[i]? = some o ∧
      ((Region.wanted o (yielded ops a.tmps) = false ∧ wpPlan P ops Q rest S (a.put o.dst undef) w) ∨
       (Region.wanted o (yielded ops a.tmps) = true ∧ g = false ∧ ∃ v, (∀ W, S W → (execOp a.eval o).run P W = .ok (.value v) W) ∧ wpPlan P ops Q rest S (a.put o.dst v) w) ∨
       (Region.wanted o (yielded ops a.tmps) = true ∧ g = true ∧ o.wp P a w (fun a' w' => ∃ T : World → Prop, (∀ W, T W → S W) ∧ T w' ∧ wpPlan P ops Q rest T a' w') Q))
  | .fork i p j q, S, a, w =>
      wpOp P ops Q i (fun a' w' => ∃ T : World → Prop, (∀ W, T W → S W) ∧ T w' ∧ wpPlan P ops Q p T a' w') a w ∧
      wpOp P ops Q j (fun a' w' => ∃ T : World → Prop, (∀ W, T W → S W) ∧ T w' ∧ wpPlan P ops Q q T a' w') a w

theorem wpPlan_held (hs : Region.noSelect ops = true) (hQ : ∀ c a w d v, Q (.panic c) (Act.put a d v) w → Q (.panic c) a w) :
    ∀ (plan : Plan) (S : World → Prop) (listed : Array Bool) (a : Act) (w : World), S w → planOK ops plan listed = true → wpPlan P ops Q plan S a w → wpAnyH P .any ops Q S plan.size listed a w
  | .nil, _, listed, a, w, _, hp, h => wpAnyH_done (by simpa [planOK] using hp) h _
  | .step i g rest, S, listed, a, w, hS, hp, h => by
    obtain ⟨o, ho, h⟩ := h
    simp only [planOK, Bool.and_eq_true] at hp
    obtain ⟨hp1, hp2⟩ := hp
    have take : ∀ v, g = false → YieldsIf P ops S o v a → wpPlan P ops Q rest S (a.put o.dst v) w → wpAnyH P .any ops Q S (rest.size + 1) listed a w := by
      intro v hg hy hr
      subst hg
      simp only [Bool.false_eq_true, if_false, Bool.and_eq_true] at hp1
      exact wpAnyH_take ho hs hp1.1 hp1.2 (fun c a w h => hQ c a w _ _ h) hy hS (wpPlan_held hs hQ rest S _ _ w hS hp2 hr)
    have alone : g = true → wpOp P ops Q i (fun a' w' => ∃ T : World → Prop, (∀ W, T W → S W) ∧ T w' ∧ wpPlan P ops Q rest T a' w') a w → wpAnyH P .any ops Q S (rest.size + 1) listed a w := by
      intro hg hop
      subst hg
      simp only [if_true] at hp1
      refine wpAnyH_all (rs := [i]) (eq_of_beq hp1) (by simp) (fun j hj => ?_)
      simp only [List.mem_singleton] at hj
      subst hj
      refine wpOp_mono (fun a' w' k => ?_) hop
      obtain ⟨T, hT, hTw, k⟩ := k
      exact ⟨hT _ hTw, held_weaken hT _ _ _ _ (wpPlan_held hs hQ rest T _ a' w' hTw hp2 k)⟩
    rcases h with ⟨hw, hr⟩ | ⟨hw, hg, v, hv, hr⟩ | ⟨hw, hg, hop⟩
    · cases g with
      | false => exact take undef rfl (.inr ⟨hw, rfl⟩) hr
      | true =>
        refine alone rfl ?_
        unfold wpOp
        simp only [ho, hw, Bool.false_eq_true, if_false]
        exact ⟨S, fun _ h => h, hS, hr⟩
    · exact take v hg (.inl ⟨hw, hv⟩) hr
    · refine alone hg ?_
      unfold wpOp
      simp only [ho, hw, if_true]
      exact .inl hop
  | .fork i p j q, S, listed, a, w, hS, hp, h => by
    simp only [planOK, Bool.and_eq_true] at hp
    obtain ⟨hp1, hp2, hp3, hp4⟩ := hp
    refine wpAnyH_all (rs := [i, j]) (eq_of_beq hp1) (by simp) (fun k hk => ?_)
    simp only [List.mem_cons, List.not_mem_nil, or_false] at hk
    rcases hk with rfl | rfl
    · refine wpOp_mono (fun a' w' k => ?_) h.1
      obtain ⟨T, hT, hTw, k⟩ := k
      exact ⟨hT _ hTw, held_weaken hT _ _ _ _ (wpPlan_held hs hQ p T _ a' w' hTw hp3 k)⟩
    · refine wpOp_mono (fun a' w' k => ?_) h.2
      obtain ⟨T, hT, hTw, k⟩ := k
      have := wpPlan_held hs hQ q T _ a' w' hTw hp4 k
      rw [eq_of_beq hp2] at this
      exact ⟨hT _ hTw, held_weaken hT _ _ _ _ this⟩

/-- The beginning, at a condition of one's own. -/
theorem wp_region_plan_of (S : World → Prop) (plan : Plan) {id : Nat} {a : Act} {w : World} (hS : S w.drew) (hm : P.follows .mixedOrders = true) (hs : Region.noSelect ops = true) (hlen : plan.size = ops.size) (hp : planOK ops plan (Array.replicate ops.size false) = true)
    (h : wpPlan P ops (NoPanic Q) plan S a w.drew) : (Code.region id ops true).wp P Q a w := by
  refine wp_region_noPanic (wp_region_held_drew (S := S) hm hS (fun _ => ?_))
  have := wpPlan_held hs (fun _ _ _ _ _ h => h) plan S _ a w.drew hS hp h
  rw [hlen] at this
  exact this
/-- The beginning, at all that is there. -/
theorem wp_region_plan (plan : Plan) {id : Nat} {a : Act} {w : World} (hm : P.follows .mixedOrders = true) (hs : Region.noSelect ops = true) (hlen : plan.size = ops.size) (hp : planOK ops plan (Array.replicate ops.size false) = true)
    (h : wpPlan P ops (NoPanic Q) plan (fun W => Below w.drew.heap.size w.drew W) a w.drew) : (Code.region id ops true).wp P Q a w := wp_region_plan_of _ plan (Below.refl _ _) hm hs hlen hp h
/-- The beginning, at what lies below block number B. -/
theorem wp_region_plan_at (B : Nat) (plan : Plan) {id : Nat} {a : Act} {w : World} (hm : P.follows .mixedOrders = true) (hs : Region.noSelect ops = true) (hlen : plan.size = ops.size) (hp : planOK ops plan (Array.replicate ops.size false) = true)
    (h : wpPlan P ops (NoPanic Q) plan (fun W => Below B w.drew W) a w.drew) : (Code.region id ops true).wp P Q a w := wp_region_plan_of _ plan (Below.refl _ _) hm hs hlen hp h

theorem plan_skip {i : Nat} {g : Bool} {rest : Plan} {S : World → Prop} {o : Oper} {a : Act} {w : World} (ho : ops[i]? = some o) (hw : Region.wanted o (yielded ops a.tmps) = false)
    (h : wpPlan P ops Q rest S (a.put o.dst undef) w) : wpPlan P ops Q (.step i g rest) S a w := ⟨o, ho, .inl ⟨hw, h⟩⟩
theorem plan_read {i : Nat} {rest : Plan} {S : World → Prop} {o : Oper} {a : Act} {w : World} {v : Value} (ho : ops[i]? = some o) (hw : Region.wanted o (yielded ops a.tmps) = true)
    (hv : ∀ W, S W → (execOp a.eval o).run P W = .ok (.value v) W) (h : wpPlan P ops Q rest S (a.put o.dst v) w) : wpPlan P ops Q (.step i false rest) S a w := ⟨o, ho, .inr (.inl ⟨hw, rfl, v, hv, h⟩)⟩
/-- Behind it all that is there counts. -/
theorem plan_make {i : Nat} {rest : Plan} {o : Oper} {a : Act} {w : World} (ho : ops[i]? = some o) (hw : Region.wanted o (yielded ops a.tmps) = true)
    (h : ∀ K : Act → World → Prop, Shut (∀ a' w', Below w.heap.size w w' → wpPlan P ops Q rest (fun W => Below w'.heap.size w' W) a' w' → K a' w') → o.wp P a w K Q) : wpPlan P ops Q (.step i true rest) (fun W => Below w.heap.size w W) a w :=
  ⟨o, ho, .inr (.inr ⟨hw, rfl, h _ (fun _ _ hb hr => ⟨_, fun _ hW => below_step hb hW, Below.refl _ _, hr⟩)⟩)⟩
/-- B stays. -/
theorem plan_make_at {i : Nat} {rest : Plan} {B : Nat} {o : Oper} {a : Act} {w : World} (ho : ops[i]? = some o) (hw : Region.wanted o (yielded ops a.tmps) = true)
    (h : ∀ K : Act → World → Prop, Shut (∀ a' w', Below B w w' → wpPlan P ops Q rest (fun W => Below B w' W) a' w' → K a' w') → o.wp P a w K Q) : wpPlan P ops Q (.step i true rest) (fun W => Below B w W) a w :=
  ⟨o, ho, .inr (.inr ⟨hw, rfl, h _ (fun _ _ hb hr => ⟨_, fun _ hW => hb.trans hW, Below.refl _ _, hr⟩)⟩)⟩
/-- S stays. -/
theorem plan_make_of {i : Nat} {rest : Plan} {S : World → Prop} {o : Oper} {a : Act} {w : World} (ho : ops[i]? = some o) (hw : Region.wanted o (yielded ops a.tmps) = true)
    (h : ∀ K : Act → World → Prop, Shut (∀ a' w', S w' → wpPlan P ops Q rest S a' w' → K a' w') → o.wp P a w K Q) : wpPlan P ops Q (.step i true rest) S a w :=
  ⟨o, ho, .inr (.inr ⟨hw, rfl, h _ (fun _ _ hb hr => ⟨S, fun _ hW => hW, hb, hr⟩)⟩)⟩
/-- Two that make memory may come up: each goes by itself, S stays. -/
theorem plan_fork {i j : Nat} {p q : Plan} {S : World → Prop} {o u : Oper} {a : Act} {w : World} (ho : ops[i]? = some o) (hu : ops[j]? = some u) (hw : Region.wanted o (yielded ops a.tmps) = true) (hx : Region.wanted u (yielded ops a.tmps) = true)
    (h : ∀ K : Act → World → Prop, Shut (∀ a' w', S w' → wpPlan P ops Q p S a' w' → K a' w') → o.wp P a w K Q) (k : ∀ K : Act → World → Prop, Shut (∀ a' w', S w' → wpPlan P ops Q q S a' w' → K a' w') → u.wp P a w K Q) : wpPlan P ops Q (.fork i p j q) S a w := by
  constructor
  · unfold wpOp
    simp only [ho, hw, if_true]
    exact .inl (h _ (fun _ _ hb hr => ⟨S, fun _ hW => hW, hb, hr⟩))
  · unfold wpOp
    simp only [hu, hx, if_true]
    exact .inl (k _ (fun _ _ hb hr => ⟨S, fun _ hW => hW, hb, hr⟩))
theorem plan_done {S : World → Prop} {a : Act} {w : World} (h : Q .normal a w) : wpPlan P ops (NoPanic Q) .nil S a w := h
end

/-! ### append onto a row of the call's own: what the row held is still there, where it was -/
section
variable {P : Program} (w : World)
theorem run_append_keep (base : Nat) (t ty e : TypeId) (i : TypeInfo) (z : Value) (bytes : Nat) (ht : P.underlying t = some (.slice e)) (hi : P.info? e = some i) (hz : i.zero = some z)
    (hsize : i.size = 1) (hby : i.bytes = bytes) (hzs : z.cells.size = 1) (v : Value) (n : Nat) (xs : List Value) (hown : w.ownsRow base e 1 v n xs)
    (a : Addr) (m c : Nat) (news : List Value) (hl : news.length = m * 1) (hnews : ∀ j u, news[j]? = some u → w.cell? (a.add j) = some u) (h1 : ∀ u ∈ news, u.oneCell' = true)
    (h63 : n + m ≤ maxLen) (hbytes : (n + m) * bytes ≤ 140737488355328) (hbase : base ≤ w.heap.size) :
    ∃ v' w', (Builtin.append_ #[t, t] ty #[v, .slice (some a) m c]).run P w = .ok v' w' ∧ w'.ownsRow base e 1 v' (n + m) (xs ++ news) ∧ w.grownBy w' v.ownBlock ∧
      ∀ g, v.ownBlock = some g → ∀ j u, xs[j]? = some u → w'.cell? ⟨g, j, none⟩ = some u := by
  obtain ⟨v', w', hrun, hown', hgrow, _⟩ := run_append_own (P := P) w base t ty e i z 1 bytes ht hi hz hsize hby hzs (by omega) v n xs hown a m c news hl hnews h1 h63 hbytes hbase
  refine ⟨v', w', hrun, hown', hgrow, fun g hg j u hu => ?_⟩
  have hj : j < xs.length := by
    rcases Nat.lt_or_ge j xs.length with h | h
    · exact h
    · rw [List.getElem?_eq_none h] at hu; cases hu
  have hadd : (⟨g, 0, none⟩ : Addr).add j = ⟨g, j, none⟩ := by unfold Addr.add; split <;> simp_all
  rcases hown.2 with ⟨rfl, _⟩ | ⟨g', cap, cur, rfl, hbg, hgg, hnc, hcm, hcs, htake⟩
  · simp [Value.ownBlock] at hg
  · simp [Value.ownBlock] at hg
    subst hg
    have hold := hown.cells (g := g') rfl j u hu
    rw [hadd] at hold
    have hsmall : n + m ≤ 9223372036854775807 := by simp only [maxLen] at h63; omega
    by_cases hroom : n + m ≤ cap
    · have hr := run_append_room (P := P) w t ty e i ht hi g' n cap cur hgg a m c news (by rw [hsize]; exact hl) hnews h1 hroom (by rw [hsize, hl, hcs]; omega)
      rw [hrun] at hr
      injection hr with hv _
      subst hv
      have := hown'.cells (g := g') rfl j u (by rw [List.getElem?_append_left hj]; exact hu)
      rwa [hadd] at this
    · subst hby
      have holds : ∀ j u, xs[j]? = some u → w.cell? ((⟨g', 0, none⟩ : Addr).add j) = some u := hown.cells (g := g') rfl
      have hr := run_append_grow (P := P) w t ty e i z ht hi hz ⟨g', 0, none⟩ n cap xs (by rw [hsize]; exact hown.1) holds a m c news (by rw [hsize]; exact hl) hnews (by omega) (by omega) (growslice_fits (by omega) hbytes)
      rw [hrun] at hr
      injection hr with _ hw
      subst hw
      rw [World.cell?_alloc_lt w.drew _ ⟨g', j, none⟩ (World.block_lt_of_cell? w _ hold)]
      exact hold

theorem wp_append_keep {o : Oper} {a : Act} {K : Act → World → Prop} {Q : Exit → Act → World → Prop} (s x : Operand) (t : TypeId)
    (ho : o.op = .call { callee := .builtin .append, args := #[s, x], argTypes := #[t, t] })
    (base : Nat) (e : TypeId) (i : TypeInfo) (z : Value) (bytes : Nat) (ht : P.underlying t = some (.slice e)) (hi : P.info? e = some i) (hz : i.zero = some z)
    (hsize : i.size = 1) (hby : i.bytes = bytes) (hzs : z.cells.size = 1) (v : Value) (n : Nat) (xs : List Value) (hs : a.eval s = v) (hown : w.ownsRow base e 1 v n xs)
    (ad : Addr) (m c : Nat) (news : List Value) (hx : a.eval x = .slice (some ad) m c) (hl : news.length = m * 1) (hnews : ∀ j u, news[j]? = some u → w.cell? (ad.add j) = some u) (h1 : ∀ u ∈ news, u.oneCell' = true)
    (h63 : n + m ≤ maxLen) (hbytes : (n + m) * bytes ≤ 140737488355328) (hbase : base ≤ w.heap.size)
    (h : ∀ v' w', w'.ownsRow base e 1 v' (n + m) (xs ++ news) → w.grownBy w' v.ownBlock → (∀ g, v.ownBlock = some g → ∀ j u, xs[j]? = some u → w'.cell? ⟨g, j, none⟩ = some u) → K (a.put o.dst v') w') : o.wp P a w K Q := by
  obtain ⟨v', w', hr, h2, h3, h4⟩ := run_append_keep (P := P) w base t o.type e i z bytes ht hi hz hsize hby hzs v n xs hown ad m c news hl hnews h1 h63 hbytes hbase
  unfold Oper.wp execOp
  simp only [ho, resolve, invoke, builtin, Sem.run_bind, Sem.run_pure, Result.andThen_ok, List.map_toArray, List.map_cons, List.map_nil, hs, hx, hr]
  exact h v' w' h2 h3 h4
end

end Go.Proofs.YtfalghmgibnjdaaDoor
/-
  What the reference's call Words answers, for any bytes (up to 2^47): the same as the program's.
-/
namespace Go.Proofs.YtfalghmgibnjdaaDoor
set_option maxRecDepth 100000
open Go.RowKit
set_option linter.unusedSimpArgs false

theorem wordsL_take (L : List UInt8) (k : Nat) (h : 4 * k + 3 < L.length) :
    wordsL (L.take (4 * k + 4)) = wordsL (L.take (4 * k)) ++ [UInt32.ofNat (valN [L[4 * k], L[4 * k + 1], L[4 * k + 2], L[4 * k + 3]])] := by
  induction k generalizing L with
  | zero =>
    match L, h with
    | a :: b :: c :: d :: r, h => simp [wordsL]
    | [], h => simp at h
    | [_], h => simp at h
    | [_, _], h => simp at h
    | [_, _, _], h => simp at h
  | succ k ih =>
    match L, h with
    | a :: b :: c :: d :: r, h =>
      have h' : 4 * k + 3 < r.length := by simp at h; omega
      have := ih r h'
      have e1 : (a :: b :: c :: d :: r).take (4 * (k + 1) + 4) = a :: b :: c :: d :: r.take (4 * k + 4) := by
        rw [show 4 * (k + 1) + 4 = (4 * k + 4) + 1 + 1 + 1 + 1 by omega]; simp
      have e2 : (a :: b :: c :: d :: r).take (4 * (k + 1)) = a :: b :: c :: d :: r.take (4 * k) := by
        rw [show 4 * (k + 1) = (4 * k) + 1 + 1 + 1 + 1 by omega]; simp
      rw [e1, e2, wordsL, wordsL, this]
      simp [show 4 * (k + 1) = 4 * k + 4 by omega]
    | [], h => simp at h
    | [_], h => simp at h
    | [_, _], h => simp at h; omega
    | [_, _, _], h => simp at h; omega

theorem wordsL_end (L : List UInt8) (k : Nat) (h1 : 4 * k ≤ L.length) (h2 : L.length < 4 * k + 4) : wordsL L = wordsL (L.take (4 * k)) := by
  induction k generalizing L with
  | zero => rw [wordsL_short L (by omega)]; rfl
  | succ k ih =>
    match L, h1, h2 with
    | a :: b :: c :: d :: r, h1, h2 =>
      have e2 : (a :: b :: c :: d :: r).take (4 * (k + 1)) = a :: b :: c :: d :: r.take (4 * k) := by
        rw [show 4 * (k + 1) = (4 * k) + 1 + 1 + 1 + 1 by omega]; simp
      rw [e2, wordsL, wordsL, ← ih r (by simp at h1; omega) (by simp at h2; omega)]
    | [], h1, _ => simp at h1
    | [_], h1, _ => simp at h1; omega
    | [_, _], h1, _ => simp at h1; omega
    | [_, _, _], h1, _ => simp at h1; omega

def RefWordsRel (L : List UInt8) (w : World) (v i : Value) (wr : World) : Prop :=
  ∃ k : Nat, 4 * k ≤ L.length ∧ i = .int .i64 ((4 * k : Nat) : Int) ∧ wr.ownsRow w.heap.size 50 1 v k ((wordsL (L.take (4 * k))).map vW) ∧ Below w.heap.size w wr

theorem words_value (a b c d : Nat) (ha : a < 256) (hb : b < 256) (hc : c < 256) (hd : d < 256) :
    IntKind.u32.wrap (IntKind.u32.wrap (IntKind.u32.wrap (IntKind.u32.wrap (16777216 * IntKind.u32.wrap (a : Int)) + IntKind.u32.wrap (65536 * IntKind.u32.wrap (b : Int))) + IntKind.u32.wrap (256 * IntKind.u32.wrap (c : Int))) + IntKind.u32.wrap (d : Int)) =
      ((((a * 256 + b) * 256 + c) * 256 + d : Nat) : Int) := by
  simp only [IntKind.wrap_u32']
  omega
theorem refwords_round {L : List UInt8} {w wr wx w1 : World} {k V : Nat} {u v : Value} (hL : 4 * k + 4 ≤ L.length) (ho : wr.ownsRow w.heap.size 50 1 u k ((wordsL (L.take (4 * k))).map vW)) (hb : Below w.heap.size w wx) (hV : V < 4294967296)
    (HT : Hid (wordsL (L.take (4 * k + 4)) = wordsL (L.take (4 * k)) ++ [UInt32.ofNat V])) (ho' : w1.ownsRow w.heap.size 50 1 v (k + 1) ((wordsL (L.take (4 * k))).map vW ++ [.int .u32 (V : Int)])) (hg : wx.grownBy w1 u.ownBlock) :
    RefWordsRel L w v (.int .i64 (((4 * k : Nat) : Int) + 4)) w1 := by
  have e : Value.int .u32 (V : Int) = vW (UInt32.ofNat V) := by unfold vW; rw [UInt32.toNat_ofNat', Nat.mod_eq_of_lt hV]
  refine ⟨k + 1, by omega, ?_, ?_, hb.grown hg hb.size (fun g hk => (ho.lt g hk).1)⟩
  · congr 1
  · rw [show 4 * (k + 1) = 4 * k + 4 by omega, HT.out]
    rw [e] at ho'
    simpa using ho'


set_option maxHeartbeats 1000000 in
theorem refwords_own (L : List UInt8) (A : Option Addr) (cap : Nat) (w : World) (hr : Rd vB w A L) (hl : L.length ≤ 140737488351232) :
    Calls Tryd.prog 38 #[.slice A L.length cap] w (RetO 50 vW w (wordsL L)) := by
  obtain ⟨i0, hi, hz0, hz1, hz2⟩ := info_parts info_u32
  go_enter Tryd.func38, Tryd.ntmps38
  go_wp2_with fail
  go_loopw [3, 4] (fun v i wr => RefWordsRel L w v i wr) (fun _ i _ => L.length - (intOf i).toNat)
  case atStart => exact ⟨0, Nat.zero_le _, rfl, World.ownsRow_nil _ _ _ _, Below.refl _ _⟩
  case round =>
    obtain ⟨k, hk, rfl, hown1, hbel1⟩ := hrel
    by_cases hlt : 4 * k + 3 < L.length
    · obtain ⟨blk, o, rfl, hb, hcell⟩ := hr.at hlt
      have HT := Lib.hid (wordsL_take L k hlt)
      have hc0 : ∀ W, Below w.heap.size wr W → W.cell? ⟨blk, o + 4 * k, none⟩ = some (.int .u8 (L[4 * k].toNat : Int)) := fun W hW => by rw [(hbel1.trans hW).cell (p := ⟨blk, o + 4 * k, none⟩) hb]; exact hcell (4 * k) (by omega)
      have hc1 : ∀ W, Below w.heap.size wr W → W.cell? ⟨blk, o + (4 * k + 1), none⟩ = some (.int .u8 (L[4 * k + 1].toNat : Int)) := fun W hW => by rw [(hbel1.trans hW).cell (p := ⟨blk, o + (4 * k + 1), none⟩) hb]; exact hcell (4 * k + 1) (by omega)
      have hc2 : ∀ W, Below w.heap.size wr W → W.cell? ⟨blk, o + (4 * k + 2), none⟩ = some (.int .u8 (L[4 * k + 2].toNat : Int)) := fun W hW => by rw [(hbel1.trans hW).cell (p := ⟨blk, o + (4 * k + 2), none⟩) hb]; exact hcell (4 * k + 2) (by omega)
      have hc3 : ∀ W, Below w.heap.size wr W → W.cell? ⟨blk, o + (4 * k + 3), none⟩ = some (.int .u8 (L[4 * k + 3].toNat : Int)) := fun W hW => by rw [(hbel1.trans hW).cell (p := ⟨blk, o + (4 * k + 3), none⟩) hb]; exact hcell (4 * k + 3) (by omega)
      have ha : L[4 * k].toNat < 256 := L[4 * k].toNat_lt
      have hb' : L[4 * k + 1].toNat < 256 := L[4 * k + 1].toNat_lt
      have hc' : L[4 * k + 2].toNat < 256 := L[4 * k + 2].toNat_lt
      have hd : L[4 * k + 3].toNat < 256 := L[4 * k + 3].toNat_lt
      generalize L[4 * k] = a at HT hc0 ha
      generalize L[4 * k + 1] = b at HT hc1 hb'
      generalize L[4 * k + 2] = c at HT hc2 hc'
      generalize L[4 * k + 3] = d at HT hc3 hd
      obtain ⟨j, hj⟩ : ∃ j, j = 4 * k := ⟨_, rfl⟩
      have HJ := Lib.hid hj
      rw [← hj] at hc0 hc1 hc2 hc3 hlt ⊢
      clear hj hcell hr
      have i0' : (0 : Int) ≤ (j : Int) := by omega
      have i3 : (j : Int) + 3 < (L.length : Int) := by omega
      go_wp2_with fail
      have hBase : Below w.heap.size wr wr.drew := (Below.refl _ _).drew
      have j0 : (j : Int) < (L.length : Int) := by omega
      have j1 : IntKind.i64.wrap ((j : Int) + 1) = (j : Int) + 1 := by rw [IntKind.wrap_i64]; omega
      have j2 : IntKind.i64.wrap ((j : Int) + 2) = (j : Int) + 2 := by rw [IntKind.wrap_i64]; omega
      have j3 : IntKind.i64.wrap ((j : Int) + 3) = (j : Int) + 3 := by rw [IntKind.wrap_i64]; omega
      have k1 : (0 : Int) ≤ (j : Int) + 1 := by omega
      have k2 : (0 : Int) ≤ (j : Int) + 2 := by omega
      have k3 : (0 : Int) ≤ (j : Int) + 3 := by omega
      have l1 : (j : Int) + 1 < (L.length : Int) := by omega
      have l2 : (j : Int) + 2 < (L.length : Int) := by omega
      have t1 : ((j : Int) + 1).toNat = j + 1 := by omega
      have t2 : ((j : Int) + 2).toNat = j + 2 := by omega
      have t3 : ((j : Int) + 3).toNat = j + 3 := by omega
      refine wp_region_plan_at w.heap.size (.step 0 false (.step 1 false (.step 2 false (.step 3 false (.step 4 false (.step 5 false (.step 6 false (.step 7 false (.step 8 false (.step 9 false (.step 10 false (.step 11 false (.step 12 false (.step 13 false (.step 14 false (.step 15 false (.step 16 false (.step 17 false (.step 18 false (.step 19 false (.step 20 false (.step 21 false (.step 22 false (.step 23 false (.step 24 false (.step 25 false (.step 26 false (.step 27 false (.step 28 false (.step 29 false (.step 30 true (.step 31 true (.step 32 false (.nil)))))))))))))))))))))))))))))))))) (by kernel_rfl) (by kernel_rfl) (by rfl) (by kernel_rfl) ?_
      iterate 30 (refine plan_read rfl (by rfl) (v := ?_) ?_ ?_; rotate_left 1; (intro W hW; have hW0 := Below.trans hBase hW; (try dsimp only at hW); go_simp <;> with_reducible rfl); simp only [List.getElem_toArray, List.getElem_cons_zero, List.getElem_cons_succ, Act.put, List.setIfInBounds_toArray, List.set_cons_zero, List.set_cons_succ])
      have HV : Hid _ := words_value a.toNat b.toNat c.toNat d.toNat ha hb' hc' hd
      have hv : valN [a, b, c, d] = ((a.toNat * 256 + b.toNat) * 256 + c.toNat) * 256 + d.toNat := by simp [valN]
      have hV : ((a.toNat * 256 + b.toNat) * 256 + c.toNat) * 256 + d.toNat < 4294967296 := by omega
      rw [hv] at HT
      rw [HV.out]
      generalize ((a.toNat * 256 + b.toNat) * 256 + c.toNat) * 256 + d.toNat = V at HT hV
      clear hv HV hc0 hc1 hc2 hc3 ha hb' hc' hd j1 j2 j3 k1 k2 k3 l1 l2 t1 t2 t3
      (refine plan_make_at rfl (by rfl) (fun K hK => ?_); go_simp; refine hK.out _ _ (below_from_drew ((Below.refl _ wr).alloc hbel1.size _).drew) ?_; clear hK K)
      refine plan_make_at rfl (by rfl) (fun K hK => ?_)
      refine wp_append_own _ (.tmp 12) (.tmp 42) 46 (by rfl) w.heap.size 50 i0 (.int .u32 0) 1 4 Tryd.underlying46 hi hz0 hz1 hz2 rfl (by decide) _ _ _ (by rfl) (hown1.alloc _).drew ⟨wr.heap.size, 0, none⟩ 1 1 [.int .u32 (V : Int)] (by rfl) rfl (cell_one_new _ _ _) (by intro u hu; simp at hu; subst hu; rfl) (by unfold maxLen; omega) (by omega) (by have := hbel1.size; simp; omega) ?_
      intro v' w1 hown' hgrow' _
      simp only [List.getElem_toArray, List.getElem_cons_zero, List.getElem_cons_succ, Act.put, List.setIfInBounds_toArray, List.set_cons_zero, List.set_cons_succ]
      refine hK.out _ _ ((Below.refl _ _).grown hgrow' (by have := hbel1.size; simp; omega) (fun g hk => (hown1.lt g hk).1)) ?_
      clear hK K
      have hBase : Below w.heap.size w1 w1 := Below.refl _ _
      iterate 1 (refine plan_read rfl (by rfl) (v := ?_) ?_ ?_; rotate_left 1; (intro W hW; have hW0 := Below.trans hBase hW; (try dsimp only at hW); go_simp <;> with_reducible rfl); simp only [List.getElem_toArray, List.getElem_cons_zero, List.getElem_cons_succ, Act.put, List.setIfInBounds_toArray, List.set_cons_zero, List.set_cons_succ])
      refine plan_done ?_
      have HL : Hid (4 * k + 4 ≤ L.length) := by have := HJ.out; unfold Hid; omega
      have HR : Hid (RefWordsRel L w v' (.int .i64 ((j : Int) + 4)) w1) := by
        unfold Hid
        rw [HJ.out]
        exact refwords_round HL.out hown1 ((hbel1.alloc hbel1.size _).drew) hV HT hown' hgrow'
      clear hown' hgrow' hown1 hbel1 HT hBase
      go_wp2_with fail
      go_roundw
      case rel => exact HR.out
      case measure => simp [intOf]; omega
    · have HE : Hid (wordsL L = wordsL (L.take (4 * k))) := by
        exact wordsL_end L k hk (by omega)
      go_wp2_with fail
      go_ret
      rw [HE.out]
      have hn : (wordsL (L.take (4 * k))).length = k := by have := hown1.1; simpa using this
      refine ⟨_, rfl, ?_, hbel1⟩
      rw [hn]
      exact hown1
theorem refwords_any (L : List UInt8) (A : Option Addr) (cap : Nat) (w : World) (hr : Rd vB w A L) (hl : L.length ≤ 140737488351232) :
    Calls Tryd.prog 38 #[.slice A L.length cap] w (RetS vW w (wordsL L)) := (refwords_own L A cap w hr hl).mono fun _ _ h => h.ret

end Go.Proofs.YtfalghmgibnjdaaDoor
/-
  What the reference's calls down, constant and First of layer 2 answer.
-/
namespace Go.Proofs.YtfalghmgibnjdaaDoor
set_option maxRecDepth 100000
open Go.RowKit
set_option linter.unusedSimpArgs false

theorem down_any (x : UInt32) (n : Nat) (hn : n < 32) (w : World) :
    Calls Tryd.prog 40 #[.int .u32 (x.toNat : Int), .int .i64 (n : Int)] w fun e w' => e = .returned (.int .u32 ((dn x n).toNat : Int)) ∧ w = w' := by
  go_enter Tryd.func40, Tryd.ntmps40
  go_wp2
  go_loop [0, 5] (fun u i => ∃ k : Nat, k ≤ n ∧ i = .int .i64 k ∧ u = .int .u32 ((dn x k).toNat : Int)) (fun _ i => n - (intOf i).toNat)
  case atStart => exact ⟨0, Nat.zero_le _, rfl, by rw [dn_zero]⟩
  case round =>
    obtain ⟨k, hk, rfl, rfl⟩ := hrel
    by_cases hlt : k < n
    · have HS := Lib.hid (dn_succ x k)
      have hy := u32_lt (dn x k)
      generalize dn x k = y at HS hy
      go_wp2
      go_round
      case rel => exact ⟨k + 1, by omega, by go_num, by rw [HS.out]; go_num⟩
      case measure => simp [intOf]; omega
    · have hkc : k = n := by omega
      subst hkc
      go_wp2
      go_ret
      exact ⟨rfl, rfl⟩

theorem const_any (k : Nat) (hk : k < 64) (w : World) :
    Calls Tryd.prog 41 #[.int .i64 (k : Int)] w fun e w' => e = .returned (.int .u32 ((kL.getD k 0).toNat : Int)) ∧ Below w.heap.size w w' := by
  have hk' : (k : Int) < 64 := by omega
  have hk0 : (0 : Int) ≤ (k : Int) := by omega
  have hcell : (w.alloc (.cells #[Value.int IntKind.u32 1116352408, Value.int IntKind.u32 1899447441, Value.int IntKind.u32 3049323471, Value.int IntKind.u32 3921009573, Value.int IntKind.u32 961987163, Value.int IntKind.u32 1508970993, Value.int IntKind.u32 2453635748, Value.int IntKind.u32 2870763221, Value.int IntKind.u32 3624381080, Value.int IntKind.u32 310598401, Value.int IntKind.u32 607225278, Value.int IntKind.u32 1426881987, Value.int IntKind.u32 1925078388, Value.int IntKind.u32 2162078206, Value.int IntKind.u32 2614888103, Value.int IntKind.u32 3248222580, Value.int IntKind.u32 3835390401, Value.int IntKind.u32 4022224774, Value.int IntKind.u32 264347078, Value.int IntKind.u32 604807628, Value.int IntKind.u32 770255983, Value.int IntKind.u32 1249150122, Value.int IntKind.u32 1555081692, Value.int IntKind.u32 1996064986, Value.int IntKind.u32 2554220882, Value.int IntKind.u32 2821834349, Value.int IntKind.u32 2952996808, Value.int IntKind.u32 3210313671, Value.int IntKind.u32 3336571891, Value.int IntKind.u32 3584528711, Value.int IntKind.u32 113926993, Value.int IntKind.u32 338241895, Value.int IntKind.u32 666307205, Value.int IntKind.u32 773529912, Value.int IntKind.u32 1294757372, Value.int IntKind.u32 1396182291, Value.int IntKind.u32 1695183700, Value.int IntKind.u32 1986661051, Value.int IntKind.u32 2177026350, Value.int IntKind.u32 2456956037, Value.int IntKind.u32 2730485921, Value.int IntKind.u32 2820302411, Value.int IntKind.u32 3259730800, Value.int IntKind.u32 3345764771, Value.int IntKind.u32 3516065817, Value.int IntKind.u32 3600352804, Value.int IntKind.u32 4094571909, Value.int IntKind.u32 275423344, Value.int IntKind.u32 430227734, Value.int IntKind.u32 506948616, Value.int IntKind.u32 659060556, Value.int IntKind.u32 883997877, Value.int IntKind.u32 958139571, Value.int IntKind.u32 1322822218, Value.int IntKind.u32 1537002063, Value.int IntKind.u32 1747873779, Value.int IntKind.u32 1955562222, Value.int IntKind.u32 2024104815, Value.int IntKind.u32 2227730452, Value.int IntKind.u32 2361852424, Value.int IntKind.u32 2428436474, Value.int IntKind.u32 2756734187, Value.int IntKind.u32 3204031479, Value.int IntKind.u32 3329325298] 50)).cell? ⟨w.heap.size, k, none⟩ = some (.int .u32 ((kL.getD k 0).toNat : Int)) := by
    have h := Rd.new (f := vW) w kL #[Value.int IntKind.u32 1116352408, Value.int IntKind.u32 1899447441, Value.int IntKind.u32 3049323471, Value.int IntKind.u32 3921009573, Value.int IntKind.u32 961987163, Value.int IntKind.u32 1508970993, Value.int IntKind.u32 2453635748, Value.int IntKind.u32 2870763221, Value.int IntKind.u32 3624381080, Value.int IntKind.u32 310598401, Value.int IntKind.u32 607225278, Value.int IntKind.u32 1426881987, Value.int IntKind.u32 1925078388, Value.int IntKind.u32 2162078206, Value.int IntKind.u32 2614888103, Value.int IntKind.u32 3248222580, Value.int IntKind.u32 3835390401, Value.int IntKind.u32 4022224774, Value.int IntKind.u32 264347078, Value.int IntKind.u32 604807628, Value.int IntKind.u32 770255983, Value.int IntKind.u32 1249150122, Value.int IntKind.u32 1555081692, Value.int IntKind.u32 1996064986, Value.int IntKind.u32 2554220882, Value.int IntKind.u32 2821834349, Value.int IntKind.u32 2952996808, Value.int IntKind.u32 3210313671, Value.int IntKind.u32 3336571891, Value.int IntKind.u32 3584528711, Value.int IntKind.u32 113926993, Value.int IntKind.u32 338241895, Value.int IntKind.u32 666307205, Value.int IntKind.u32 773529912, Value.int IntKind.u32 1294757372, Value.int IntKind.u32 1396182291, Value.int IntKind.u32 1695183700, Value.int IntKind.u32 1986661051, Value.int IntKind.u32 2177026350, Value.int IntKind.u32 2456956037, Value.int IntKind.u32 2730485921, Value.int IntKind.u32 2820302411, Value.int IntKind.u32 3259730800, Value.int IntKind.u32 3345764771, Value.int IntKind.u32 3516065817, Value.int IntKind.u32 3600352804, Value.int IntKind.u32 4094571909, Value.int IntKind.u32 275423344, Value.int IntKind.u32 430227734, Value.int IntKind.u32 506948616, Value.int IntKind.u32 659060556, Value.int IntKind.u32 883997877, Value.int IntKind.u32 958139571, Value.int IntKind.u32 1322822218, Value.int IntKind.u32 1537002063, Value.int IntKind.u32 1747873779, Value.int IntKind.u32 1955562222, Value.int IntKind.u32 2024104815, Value.int IntKind.u32 2227730452, Value.int IntKind.u32 2361852424, Value.int IntKind.u32 2428436474, Value.int IntKind.u32 2756734187, Value.int IntKind.u32 3204031479, Value.int IntKind.u32 3329325298] 50 (by rfl)
    obtain ⟨b, o, e, hc⟩ := h (by simp [kL])
    injection e with e
    injection e with e1 e2 _
    subst e1 e2
    have h64 : kL.length = 64 := rfl
    have := hc k (by omega)
    rw [Nat.zero_add] at this
    rw [this]
    simp [vW, List.getD, h64, hk]
  go_enter Tryd.func41, Tryd.ntmps41
  go_wp2
  go_ret
  exact ⟨rfl, below_new (Below.refl _ _) _⟩

theorem first_any (w : World) : Calls Tryd.prog 28 #[] w (RetS vW w firstL) := by
  go_enter Tryd.func28, Tryd.ntmps28
  go_wp2
  go_ret
  exact ⟨_, 8, rfl, Nat.le_refl _, Rd.new _ _ _ _ (by rfl), below_new (Below.refl _ _) _⟩

end Go.Proofs.YtfalghmgibnjdaaDoor
