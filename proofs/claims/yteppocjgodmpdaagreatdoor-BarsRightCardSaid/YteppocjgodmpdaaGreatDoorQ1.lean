/-
  Words for memory (no program is named here): a slice value that reads as a list, kept while nothing that was there is written; a slice cut; bytes made into a string. No conditions but those typed.
-/
import Derived.Below
import Derived.Laws.OwnMore
import Derived.Deep.Draws
import Derived.Deep.AppendLies
import Derived.Laws.BytesArg
import Derived.Laws.Slices
import Derived.Laws.MakeOwn
import Derived.OwnWalk
import Derived.OrdersHeld
import Derived.Deep.RegionHeld3
import Derived.Deep.MidRow
import Derived.Laws.CopyOwn
import Derived.Lib.SliceRun
import Derived.Laws.ResultCell
import Derived.Laws.BitsAllLaws
import Derived.Laws.BitsLemmas
import Derived.IntWalk
import Derived.RowKit
import Derived.RangeFuncBox
namespace Go.Proofs.YteppocjgodmpdaaGreatDoor
set_option maxRecDepth 100000
open Go.RowKit

def vB (c : UInt8) : Value := .int .u8 (c.toNat : Int)
def vW (c : UInt32) : Value := .int .u32 (c.toNat : Int)

/-- The slice value with address A reads, in world w, as the list l. -/
def Rd {α : Type} (f : α → Value) (w : World) (A : Option Addr) (l : List α) : Prop :=
  l ≠ [] → ∃ b o, A = some ⟨b, o, none⟩ ∧ ∀ i (h : i < l.length), w.cell? ⟨b, o + i, none⟩ = some (f l[i])

section
variable {α : Type} {f : α → Value} {w w' : World} {A : Option Addr} {l : List α}
theorem Rd.nil : Rd f w A [] := fun h => absurd rfl h
theorem Rd.keep (h : Rd f w A l) (hb : Below w.heap.size w w') : Rd f w' A l := fun hn => by
  obtain ⟨b, o, e, hc⟩ := h hn
  refine ⟨b, o, e, fun i hi => ?_⟩
  have := hc i hi
  rw [hb.cell (p := ⟨b, o + i, none⟩) (World.block_lt_of_cell? w _ this)]
  exact this
theorem Rd.at (h : Rd f w A l) {k : Nat} (hk : k < l.length) : ∃ b o, A = some ⟨b, o, none⟩ ∧ b < w.heap.size ∧ ∀ i (hi : i < l.length), w.cell? ⟨b, o + i, none⟩ = some (f l[i]) := by
  obtain ⟨b, o, e, hc⟩ := h (by rintro rfl; simp at hk)
  exact ⟨b, o, e, World.block_lt_of_cell? w _ (hc k hk), hc⟩
theorem Rd.new (w : World) (l : List α) (cs : Array Value) (e : TypeId) (h : cs = (l.map f).toArray) : Rd f (w.alloc (.cells cs e)) (some ⟨w.heap.size, 0, none⟩) l := fun _ => by
  refine ⟨w.heap.size, 0, rfl, fun i hi => ?_⟩
  subst h
  rw [cell_of_row _ w.heap.size (0 + i) _ e (0, 0) (heap_alloc_new w _)]
  simp [hi]
theorem Rd.new_at (w : World) (g : Nat) (hg : g = w.heap.size) (l : List α) (cs : Array Value) (e : TypeId) (h : cs = (l.map f).toArray) : Rd f (w.alloc (.cells cs e)) (some ⟨g, 0, none⟩) l := by
  subst hg
  exact Rd.new w l cs e h
theorem Rd.drop (h : Rd f w A l) (k : Nat) (cap : Nat) (hc : l.length ≤ cap) : Rd f w (if cap = k then A else A.map (·.add (k * 1))) (l.drop k) := fun hn => by
  have hk : k < l.length := by
    rcases Nat.lt_or_ge k l.length with h | h
    · exact h
    · exact absurd (List.drop_eq_nil_of_le h) hn
  obtain ⟨b, o, e, hcell⟩ := h (by rintro rfl; simp at hk)
  subst e
  rw [if_neg (by omega)]
  refine ⟨b, o + k, by simp [Addr.add], fun i hi => ?_⟩
  have hi' : k + i < l.length := by simp at hi; omega
  rw [Nat.add_assoc, hcell (k + i) hi']
  simp
theorem Rd.take (h : Rd f w A l) (k : Nat) : Rd f w A (l.take k) := fun hn => by
  obtain ⟨b, o, e, hcell⟩ := h (by rintro rfl; simp at hn)
  refine ⟨b, o, e, fun i hi => ?_⟩
  have hi' : i < l.length := by simp at hi; omega
  rw [hcell i hi']
  simp
theorem Rd.news {b o : Nat} (h : Rd f w (some ⟨b, o, none⟩) l) (j : Nat) (u : Value) (hu : (l.map f)[j]? = some u) : w.cell? ((⟨b, o, none⟩ : Addr).add j) = some u := by
  have hj : j < l.length := by
    rcases Nat.lt_or_ge j l.length with h | h
    · exact h
    · rw [List.getElem?_eq_none (by simpa using h)] at hu
      cases hu
  obtain ⟨b', o', e, hc⟩ := h (by rintro rfl; simp at hj)
  injection e with e
  injection e with e1 e2 _
  subst e1 e2
  have e1 : (⟨b, o, none⟩ : Addr).add j = ⟨b, o + j, none⟩ := by unfold Addr.add; split <;> simp_all
  rw [e1, hc j hj]
  simpa [hj] using hu
theorem Rd.own {base : Nat} {e : TypeId} {n c : Nat} (h : w.ownsRow base e 1 (.slice A n c) n (l.map f)) : Rd f w A l := fun hn => by
  have hl : l.length = n := by simpa using h.1
  have hpos : 0 < n := by
    rcases Nat.eq_zero_or_pos n with h0 | h0
    · exact absurd (List.eq_nil_of_length_eq_zero (by omega)) hn
    · exact h0
  obtain ⟨g, cap, hv, _, hlt⟩ := h.form hpos
  have hA : A = some ⟨g, 0, none⟩ := by injection hv
  subst hA
  refine ⟨g, 0, rfl, fun i hi => ?_⟩
  have := h.cells (g := g) rfl i (f l[i]) (by simp [hi])
  have e1 : (⟨g, 0, none⟩ : Addr).add i = ⟨g, 0 + i, none⟩ := by unfold Addr.add; split <;> simp_all
  rw [← e1]
  exact this
end

/-- 's[k:]': one name for the address that is left. -/
theorem cut_from {P : Program} (t e : TypeId) (ht : P.underlying t = some (.slice e)) (hz : ∀ w, (sizeOf e).run P w = .ok 1 w) (A : Option Addr) (n cap k : Nat) (hk : k ≤ n) (hc : n ≤ cap) :
    ∃ A', (∀ w, (Instr.slice t (.slice A n cap) (some (.int .i64 (k : Int))) none none).run P w = .ok (.slice A' (n - k) (cap - k)) w) ∧
      ∀ {α : Type} (f : α → Value) (w : World) (l : List α), l.length = n → Rd f w A l → Rd f w A' (l.drop k) := by
  have ht' : P.underlying t = some (.slice (P.elem t)) := by simp [Program.elem, ht]
  have he : P.elem t = e := by simp [Program.elem, ht]
  refine ⟨if cap = k then A else A.map (·.add (k * 1)), fun w => ?_, fun f w l hl h => h.drop k cap (by omega)⟩
  rw [run_slice_l w t A n cap ht' .i64 (k : Int) (by omega) (by omega), he, hz]
  simp [Result.andThen, sliced]

theorem run_cut_to {P : Program} (t e : TypeId) (ht : P.underlying t = some (.slice e)) (hz : ∀ w, (sizeOf e).run P w = .ok 1 w) (A : Option Addr) (n cap k : Nat) (hk : k ≤ cap) (w : World) :
    (Instr.slice t (.slice A n cap) none (some (.int .i64 (k : Int))) none).run P w = .ok (.slice A k cap) w := by
  have ht' : P.underlying t = some (.slice (P.elem t)) := by simp [Program.elem, ht]
  have he : P.elem t = e := by simp [Program.elem, ht]
  have e2 : (if cap = 0 then A else A.map (·.add 0)) = A := by
    split
    · rfl
    · cases A <;> simp [Addr.add]
  rw [run_slice_h w t A n cap ht' .i64 (k : Int) (by omega) (by omega), he, hz]
  simp only [Result.andThen, sliced, Nat.zero_mul, Nat.sub_zero, Int.toNat_natCast, e2]
/-- 's[:k]'. -/
theorem cut_to {P : Program} (t e : TypeId) (ht : P.underlying t = some (.slice e)) (hz : ∀ w, (sizeOf e).run P w = .ok 1 w) (A : Option Addr) (n cap k : Nat) (hk : k ≤ cap) :
    ∃ A', (∀ w, (Instr.slice t (.slice A n cap) none (some (.int .i64 (k : Int))) none).run P w = .ok (.slice A' k cap) w) ∧
      ∀ {α : Type} (f : α → Value) (w : World) (l : List α), Rd f w A l → Rd f w A' (l.take k) :=
  ⟨A, fun w => run_cut_to t e ht hz A n cap k hk w, fun _ _ _ h => h.take k⟩

/-- 'string(b)'. -/
theorem run_str {P : Program} (w : World) (src e dst : TypeId) (hs : P.underlying src = some (.slice e)) (he : P.underlying e = some (.int .u8)) (hd : P.underlying dst = some .string)
    (A : Option Addr) (l : List UInt8) (n cap : Nat) (hn : l.length = n) (h : Rd vB w A l) : (convert src dst (.slice A n cap)).run P w = .ok (.string ⟨l.toArray⟩) w := by
  by_cases hl : l = []
  · subst hl
    subst hn
    cases A with
    | none => rw [run_convert_bytes_nil w src e hs he _ _ dst hd]; rfl
    | some a =>
      rw [run_convert_bytes_string w src dst e _ _ cap hs he hd, run_bytesToString w a _ cap [] (by
        have := run_loadCells_list (P := P) w a [] (fun j v hj => by simp at hj)
        simpa using this)]
      rfl
  · obtain ⟨b, o, rfl, hc⟩ := h hl
    rw [run_convert_bytes_arg w src e hs he b o n cap (l.map fun c => (c.toNat : Int)) (by simpa using hn) (fun i hi => by
      have hi' : i < l.length := by omega
      rw [hc i hi']
      simp [vB, List.getD, hi']) dst hd]
    have : strOfNums (l.map fun c => (c.toNat : Int)) = ⟨l.toArray⟩ := by
      unfold strOfNums
      congr 2
      rw [List.map_map]
      conv => rhs; rw [← List.map_id l]
      apply List.map_congr_left
      intro x _
      simp
    rw [this]

/-- 'string(b)', in every later world. -/
theorem run_str_later {P : Program} {w : World} {src e dst : TypeId} (hs : P.underlying src = some (.slice e)) (he : P.underlying e = some (.int .u8)) (hd : P.underlying dst = some .string)
    {A : Option Addr} {l : List UInt8} {cap : Nat} (h : Rd vB w A l) : ∀ W, Below w.heap.size w W → (convert src dst (.slice A l.length cap)).run P W = .ok (.string ⟨l.toArray⟩) W :=
  fun W hb => run_str W src e dst hs he hd A l l.length cap rfl (h.keep hb)

theorem cells_new (w : World) (cs : Array Value) (e : TypeId) (j : Nat) (u : Value) (h : cs.toList[j]? = some u) : (w.alloc (.cells cs e)).cell? ((⟨w.heap.size, 0, none⟩ : Addr).add j) = some u := by
  have e1 : (⟨w.heap.size, 0, none⟩ : Addr).add j = ⟨w.heap.size, j, none⟩ := by unfold Addr.add; split <;> simp_all
  rw [e1, cell_of_row _ w.heap.size j _ e (0, 0) (heap_alloc_new w _)]
  simpa using h

/-! ### What comes in -/
theorem u32_of_wf {a : Int} (h : (Lit.int .u32 a).wf = true) : ∃ x : UInt32, a = (x.toNat : Int) := by
  simp [Lit.wf, IntKind.min, IntKind.max, IntKind.signed, IntKind.bits] at h
  exact ⟨UInt32.ofNat a.toNat, by rw [UInt32.toNat_ofNat']; omega⟩
theorem u64_of_wf {a : Int} (h : (Lit.int .u64 a).wf = true) : ∃ v : Nat, v < 18446744073709551616 ∧ a = (v : Int) := by
  simp [Lit.wf, IntKind.min, IntKind.max, IntKind.signed, IntKind.bits] at h
  exact ⟨a.toNat, by omega, by omega⟩
theorem i64_of_wf {a : Int} (h : (Lit.int .i64 a).wf = true) : -9223372036854775808 ≤ a ∧ a ≤ 9223372036854775807 := by
  simp [Lit.wf, IntKind.min, IntKind.max, IntKind.signed, IntKind.bits] at h
  omega
theorem rd_of_row {α : Type} {f : α → Value} {k : IntKind} {w : World} {a : Option Addr} {len cap : Nat} {zs : List Int} (g : Int → α) (hg : ∀ n, (Lit.int k n).wf = true → f (g n) = .int k n)
    (h : (a = none ∧ len = 0 ∧ cap = 0 ∧ zs = []) ∨ ∃ x, a = some x ∧ len ≤ cap ∧ cap ≤ maxLen ∧ zs.length = cap ∧ (∀ i, i < zs.length → w.cell? (x.add i) = some (.int k (zs.getD i 0))) ∧ ∀ n ∈ zs, (Lit.int k n).wf = true) :
    ∃ l : List α, l.length = len ∧ len ≤ cap ∧ cap ≤ 9223372036854775807 ∧ Rd f w a l := by
  rcases h with ⟨rfl, rfl, rfl, rfl⟩ | ⟨x, rfl, hlc, hm, hz, hc, hwf⟩
  · exact ⟨[], rfl, Nat.le_refl _, by omega, Rd.nil⟩
  · unfold maxLen at hm
    refine ⟨(zs.take len).map g, by rw [List.length_map, List.length_take]; omega, hlc, by omega, fun hn => ?_⟩
    have hlen : 0 < len := by
      rcases Nat.eq_zero_or_pos len with h | h
      · subst h; simp at hn
      · exact h
    obtain ⟨b, o, spot⟩ := x
    have h0 := hc 0 (by omega)
    have hspot : spot = none := by simpa [Addr.add] using World.cell?_spot h0
    subst hspot
    refine ⟨b, o, rfl, fun i hi => ?_⟩
    have hi' : i < zs.length := by simp at hi; omega
    have e1 : (⟨b, o, none⟩ : Addr).add i = ⟨b, o + i, none⟩ := by unfold Addr.add; split <;> simp_all
    rw [← e1, hc i hi']
    have e2 : zs.getD i 0 = zs[i] := by simp [List.getD, hi']
    rw [e2]
    simp only [List.getElem_map, List.getElem_take]
    rw [hg _ (hwf _ (List.getElem_mem hi'))]
theorem bytes_of_row {w : World} {a : Option Addr} {len cap : Nat} {zs : List Int}
    (h : (a = none ∧ len = 0 ∧ cap = 0 ∧ zs = []) ∨ ∃ x, a = some x ∧ len ≤ cap ∧ cap ≤ maxLen ∧ zs.length = cap ∧ (∀ i, i < zs.length → w.cell? (x.add i) = some (.int .u8 (zs.getD i 0))) ∧ ∀ n ∈ zs, (Lit.int .u8 n).wf = true) :
    ∃ l : List UInt8, l.length = len ∧ len ≤ cap ∧ cap ≤ 9223372036854775807 ∧ Rd vB w a l :=
  rd_of_row (fun n => UInt8.ofNat n.toNat) (fun n hn => by
    simp [Lit.wf, IntKind.min, IntKind.max, IntKind.signed, IntKind.bits] at hn
    unfold vB
    rw [UInt8.toNat_ofNat']
    congr 1
    omega) h
theorem words_of_row {w : World} {a : Option Addr} {len cap : Nat} {zs : List Int}
    (h : (a = none ∧ len = 0 ∧ cap = 0 ∧ zs = []) ∨ ∃ x, a = some x ∧ len ≤ cap ∧ cap ≤ maxLen ∧ zs.length = cap ∧ (∀ i, i < zs.length → w.cell? (x.add i) = some (.int .u32 (zs.getD i 0))) ∧ ∀ n ∈ zs, (Lit.int .u32 n).wf = true) :
    ∃ l : List UInt32, l.length = len ∧ len ≤ cap ∧ cap ≤ 9223372036854775807 ∧ Rd vW w a l :=
  rd_of_row (fun n => UInt32.ofNat n.toNat) (fun n hn => by
    simp [Lit.wf, IntKind.min, IntKind.max, IntKind.signed, IntKind.bits] at hn
    unfold vW
    rw [UInt32.toNat_ofNat']
    congr 1
    omega) h

theorem below_drewN {B : Nat} {a w : World} (h : Below B a w) (n : Nat) : Below B a (w.drewN n) := ⟨h.os, h.tape, h.output, h.size, h.block⟩
theorem below_from_drew {B : Nat} {a w : World} (h : Below B a w) : Below B a.drew w := ⟨h.os, h.tape, h.output, h.size, h.block⟩
/-- A call behind other ones; a new block behind them. -/
theorem below_step {a w w' : World} (h : Below a.heap.size a w) (k : Below w.heap.size w w') : Below a.heap.size a w' := h.trans (k.mono h.size)
theorem below_after {a w w' : World} (k : Below w.heap.size w w') (h : Below a.heap.size a w) : Below a.heap.size a w' := below_step h k
theorem below_new {a w : World} (h : Below a.heap.size a w) (o : Obj) : Below a.heap.size a (w.alloc o) := h.alloc h.size o

/-- What a call that hands back a new slice says of it. -/
def RetS {α : Type} (f : α → Value) (w : World) (l : List α) (e : Ending) (w' : World) : Prop :=
  ∃ A cap, e = .returned (.slice A l.length cap) ∧ l.length ≤ cap ∧ Rd f w' A l ∧ Below w.heap.size w w'

/-- .. and owns it: it may be appended to. -/
def RetO {α : Type} (t : TypeId) (f : α → Value) (w : World) (l : List α) (e : Ending) (w' : World) : Prop :=
  ∃ v, e = .returned v ∧ w'.ownsRow w.heap.size t 1 v l.length (l.map f) ∧ Below w.heap.size w w'
theorem RetS.own {α : Type} {f : α → Value} {w w' : World} {l : List α} {base : Nat} {e : TypeId} {v : Value} (h : w'.ownsRow base e 1 v l.length (l.map f)) (hb : Below w.heap.size w w') : RetS f w l (.returned v) w' := by
  rcases h.2 with ⟨rfl, h0⟩ | ⟨g, cap, cur, rfl, _, _, hc, _⟩
  · have hl : l = [] := List.eq_nil_of_length_eq_zero h0
    subst hl
    exact ⟨none, 0, rfl, Nat.le_refl _, Rd.nil, hb⟩
  · exact ⟨_, cap, rfl, hc, Rd.own h, hb⟩

theorem RetO.ret {α : Type} {t : TypeId} {f : α → Value} {w w' : World} {l : List α} {e : Ending} (h : RetO t f w l e w') : RetS f w l e w' := by
  obtain ⟨v, rfl, ho, hb⟩ := h
  exact RetS.own ho hb

end Go.Proofs.YteppocjgodmpdaaGreatDoor
/-
  append of a slice that came in, or that a call handed back, onto a row of the call's own, nil and empty ones with it (no program is named here). No conditions but those typed.
-/
namespace Go.Proofs.YteppocjgodmpdaaGreatDoor
set_option maxRecDepth 100000
open Go.RowKit

section
variable {P : Program} (w : World)
theorem run_append_nothing_of (base : Nat) (t ty e : TypeId) (i : TypeInfo) (ht : P.underlying t = some (.slice e)) (hi : P.info? e = some i)
    (v : Value) (n : Nat) (xs : List Value) (hown : w.ownsRow base e 1 v n xs) (c : Nat) : (Builtin.append_ #[t, t] ty #[v, .slice none 0 c]).run P w = .ok v w := by
  rcases hown.2 with ⟨rfl, rfl⟩ | ⟨g, cap, cur, rfl, _, _, hnc, _⟩
  · simp [Builtin.append_, run_underlying ht, sizeOf, typeInfo, hi, Builtin.lenOf, Builtin.firstCells]
  · simp [Builtin.append_, run_underlying ht, sizeOf, typeInfo, hi, Builtin.lenOf, Builtin.firstCells, hnc, storeCells]

theorem run_append_rd {α : Type} {f : α → Value} (base : Nat) (t ty e : TypeId) (i : TypeInfo) (z : Value) (bytes : Nat) (ht : P.underlying t = some (.slice e)) (hi : P.info? e = some i) (hz : i.zero = some z)
    (hsize : i.size = 1) (hby : i.bytes = bytes) (hzs : z.cells.size = 1) (v : Value) (n : Nat) (xs : List Value) (hown : w.ownsRow base e 1 v n xs)
    (A : Option Addr) (l : List α) (c : Nat) (hr : Rd f w A l) (h1 : ∀ x, (f x).oneCell' = true)
    (h63 : n + l.length ≤ maxLen) (hbytes : (n + l.length) * bytes ≤ 140737488355328) (hbase : base ≤ w.heap.size) :
    ∃ v' w', (Builtin.append_ #[t, t] ty #[v, .slice A l.length c]).run P w = .ok v' w' ∧ w'.ownsRow base e 1 v' (n + l.length) (xs ++ l.map f) ∧ w.grownBy w' v.ownBlock := by
  have hone : ∀ u ∈ l.map f, u.oneCell' = true := by
    intro u hu
    simp only [List.mem_map] at hu
    obtain ⟨x, _, rfl⟩ := hu
    exact h1 x
  by_cases hl : l = []
  · subst hl
    cases A with
    | none => exact ⟨v, w, run_append_nothing_of w base t ty e i ht hi v n xs hown c, by simpa using hown, ⟨rfl, rfl, rfl, Nat.le_refl _, fun _ _ _ => rfl⟩⟩
    | some ad =>
      obtain ⟨v', w', hrun, h2, h3, _⟩ := run_append_own (P := P) w base t ty e i z 1 bytes ht hi hz hsize hby hzs (by omega) v n xs hown ad 0 c [] rfl (fun j u h => by simp at h) (fun u h => by simp at h) h63 hbytes hbase
      exact ⟨v', w', hrun, h2, h3⟩
  · obtain ⟨b, o, rfl, _⟩ := hr hl
    obtain ⟨v', w', hrun, h2, h3, _⟩ := run_append_own (P := P) w base t ty e i z 1 bytes ht hi hz hsize hby hzs (by omega) v n xs hown ⟨b, o, none⟩ l.length c (l.map f) (by simp) hr.news hone h63 hbytes hbase
    exact ⟨v', w', hrun, h2, h3⟩

theorem wp_append_rd {α : Type} {f : α → Value} {o : Oper} {a : Act} {K : Act → World → Prop} {Q : Exit → Act → World → Prop} (s x : Operand) (t : TypeId)
    (ho : o.op = .call { callee := .builtin .append, args := #[s, x], argTypes := #[t, t] })
    (base : Nat) (e : TypeId) (i : TypeInfo) (z : Value) (bytes : Nat) (ht : P.underlying t = some (.slice e)) (hi : P.info? e = some i) (hz : i.zero = some z)
    (hsize : i.size = 1) (hby : i.bytes = bytes) (hzs : z.cells.size = 1) (v : Value) (n : Nat) (xs : List Value) (hs : a.eval s = v) (hown : w.ownsRow base e 1 v n xs)
    (A : Option Addr) (l : List α) (c : Nat) (hx : a.eval x = .slice A l.length c) (hr : Rd f w A l) (h1 : ∀ x, (f x).oneCell' = true)
    (h63 : n + l.length ≤ maxLen) (hbytes : (n + l.length) * bytes ≤ 140737488355328) (hbase : base ≤ w.heap.size)
    (h : ∀ v' w', w'.ownsRow base e 1 v' (n + l.length) (xs ++ l.map f) → w.grownBy w' v.ownBlock → K (a.put o.dst v') w') : o.wp P a w K Q := by
  obtain ⟨v', w', hr, h2, h3⟩ := run_append_rd (P := P) w base t o.type e i z bytes ht hi hz hsize hby hzs v n xs hown A l c hr h1 h63 hbytes hbase
  unfold Oper.wp execOp
  simp only [ho, resolve, invoke, builtin, Sem.run_bind, Sem.run_pure, Result.andThen_ok, List.map_toArray, List.map_cons, List.map_nil, hs, hx, hr]
  exact h v' w' h2 h3

theorem wpList_append_rd {α : Type} {f : α → Value} {ops : Array Oper} {rest : List Oper} {o : Oper} {a : Act} {Q : Exit → Act → World → Prop} (hgd : o.guard = none) (s x : Operand) (t : TypeId)
    (ho : o.op = .call { callee := .builtin .append, args := #[s, x], argTypes := #[t, t] })
    (base : Nat) (e : TypeId) (i : TypeInfo) (z : Value) (bytes : Nat) (ht : P.underlying t = some (.slice e)) (hi : P.info? e = some i) (hz : i.zero = some z)
    (hsize : i.size = 1) (hby : i.bytes = bytes) (hzs : z.cells.size = 1) (v : Value) (n : Nat) (xs : List Value) (hs : a.eval s = v) (hown : w.ownsRow base e 1 v n xs)
    (A : Option Addr) (l : List α) (c : Nat) (hx : a.eval x = .slice A l.length c) (hr : Rd f w A l) (h1 : ∀ x, (f x).oneCell' = true)
    (h63 : n + l.length ≤ maxLen) (hbytes : (n + l.length) * bytes ≤ 140737488355328) (hbase : base ≤ w.heap.size)
    (h : ∀ v' w', w'.ownsRow base e 1 v' (n + l.length) (xs ++ l.map f) → w.grownBy w' v.ownBlock → wpList P ops Q rest (a.put o.dst v') w') : wpList P ops Q (o :: rest) a w :=
  wpList_plain hgd fun _ hK => wp_append_rd w s x t ho base e i z bytes ht hi hz hsize hby hzs v n xs hs hown A l c hx hr h1 h63 hbytes hbase fun v' w' h2 h3 => hK _ _ (h v' w' h2 h3)
end

theorem own_base {w : World} {base b' : Nat} {e : TypeId} {v : Value} {n : Nat} {xs : List Value} (h : w.ownsRow base e 1 v n xs) (hb : b' ≤ base) : w.ownsRow b' e 1 v n xs :=
  ⟨h.1, h.2.imp id fun ⟨g, cap, cur, h1, h2, h3⟩ => ⟨g, cap, cur, h1, Nat.le_trans hb h2, h3⟩⟩
theorem vB_one (c : UInt8) : (vB c).oneCell' = true := rfl
theorem vW_one (c : UInt32) : (vW c).oneCell' = true := rfl

/-- 's[lo:hi]'. -/
theorem Rd.mid {α : Type} {f : α → Value} {w : World} {A : Option Addr} {l : List α} (h : Rd f w A l) (lo hi cap : Nat) (hc : l.length ≤ cap) : Rd f w (if cap = lo then A else A.map (·.add (lo * 1))) ((l.drop lo).take (hi - lo)) := (h.drop lo cap hc).take _

end Go.Proofs.YteppocjgodmpdaaGreatDoor
/-
  A region that draws its order, whose operations read, or make memory and write nothing that was there: one plan serves every order (no program is named here). Conditions: the plan is one that the region's edges allow (a Bool, reckoned), each operation that reads yields one value in every later world, and an operation that makes memory comes up alone.
-/
namespace Go.Proofs.YteppocjgodmpdaaGreatDoor
set_option maxRecDepth 100000
open Go.RowKit

section
variable {P : Program} {ops : Array Oper} {Q : Exit → Act → World → Prop}

theorem held_weaken {md : Region.Mode} {S T : World → Prop} (h : ∀ w, T w → S w) : ∀ (fuel : Nat) (listed : Array Bool) (a : Act) (w : World), wpAnyH P md ops Q T fuel listed a w → wpAnyH P md ops Q S fuel listed a w
  | 0, _, _, _, k => k
  | fuel + 1, _, _, _, k => ⟨k.1, fun i hi => wpOp_mono (fun a' w' k' => ⟨h _ k'.1, held_weaken h fuel _ a' w' k'.2⟩) (k.2 i hi)⟩

/-- A plan: the operations' numbers, and of each whether it makes memory (it must then be the only one that may come up); a fork: two that make memory may come up, each with a plan of its own behind it. -/
inductive Plan where
  | nil
  | step (i : Nat) (g : Bool) (rest : Plan)
  | fork (i : Nat) (p : Plan) (j : Nat) (q : Plan)
def Plan.size : Plan → Nat
  | .nil => 0
  | .step _ _ rest => rest.size + 1
  | .fork _ p _ _ => p.size + 1
def planOK (ops : Array Oper) : Plan → Array Bool → Bool
  | .nil, listed => (Region.ready .any ops listed).isEmpty
  | .step i g rest, listed => (if g then Region.ready .any ops listed == [i] else Region.free .any ops listed i && (Region.ready .any ops listed).contains i) && planOK ops rest (listed.setIfInBounds i true)
  | .fork i p j q, listed => Region.ready .any ops listed == [i, j] && (q.size == p.size && (planOK ops p (listed.setIfInBounds i true) && planOK ops q (listed.setIfInBounds j true)))

/-- S: what the operations that read lean on; each operation that makes memory must show it anew, and may give more of it. -/
def wpPlan (P : Program) (ops : Array Oper) (Q : Exit → Act → World → Prop) : Plan → (World → Prop) → Act → World → Prop
  | .nil, _, a, w => Q .normal a w
  | .step i g rest, S, a, w => ∃ o, ops[i]? = some o ∧
      ((Region.wanted o (yielded ops a.tmps) = false ∧ wpPlan P ops Q rest S (a.put o.dst undef) w) ∨
       (Region.wanted o (yielded ops a.tmps) = true ∧ g = false ∧ ∃ v, (∀ W, S W → (execOp a.eval o).run P W = .ok (.value v) W) ∧ wpPlan P ops Q rest S (a.put o.dst v) w) ∨
       (Region.wanted o (yielded ops a.tmps) = true ∧ g = true ∧ o.wp P a w (fun a' w' => ∃ T : World → Prop, (∀ W, T W → S W) ∧ T w' ∧ wpPlan P ops Q rest T a' w') Q))
  | .fork i p j q, S, a, w =>
      wpOp P ops Q i (fun a' w' => ∃ T : World → Prop, (∀ W, T W → S W) ∧ T w' ∧ wpPlan P ops Q p T a' w') a w ∧
      wpOp P ops Q j (fun a' w' => ∃ T : World → Prop, (∀ W, T W → S W) ∧ T w' ∧ wpPlan P ops Q q T a' w') a w

theorem wpPlan_held (hs : Region.noSelect ops = true) (hQ : ∀ c a w d v, Q (.panic c) (Act.put a d v) w → Q (.panic c) a w) :
    ∀ (plan : Plan) (S : World → Prop) (listed : Array Bool) (a : Act) (w : World), S w → planOK ops plan listed = true → wpPlan P ops Q plan S a w → wpAnyH P .any ops Q S plan.size listed a w
  | .nil, _, listed, a, w, _, hp, h => wpAnyH_done (by simpa [planOK] using hp) h _
  | .step i g rest, S, listed, a, w, hS, hp, h => by
    obtain ⟨o, ho, h⟩ := h
    simp only [planOK, Bool.and_eq_true] at hp
    obtain ⟨hp1, hp2⟩ := hp
    have take : ∀ v, g = false → YieldsIf P ops S o v a → wpPlan P ops Q rest S (a.put o.dst v) w → wpAnyH P .any ops Q S (rest.size + 1) listed a w := by
      intro v hg hy hr
      subst hg
      simp only [Bool.false_eq_true, if_false, Bool.and_eq_true] at hp1
      exact wpAnyH_take ho hs hp1.1 hp1.2 (fun c a w h => hQ c a w _ _ h) hy hS (wpPlan_held hs hQ rest S _ _ w hS hp2 hr)
    have alone : g = true → wpOp P ops Q i (fun a' w' => ∃ T : World → Prop, (∀ W, T W → S W) ∧ T w' ∧ wpPlan P ops Q rest T a' w') a w → wpAnyH P .any ops Q S (rest.size + 1) listed a w := by
      intro hg hop
      subst hg
      simp only [if_true] at hp1
      refine wpAnyH_all (rs := [i]) (eq_of_beq hp1) (by simp) (fun j hj => ?_)
      simp only [List.mem_singleton] at hj
      subst hj
      refine wpOp_mono (fun a' w' k => ?_) hop
      obtain ⟨T, hT, hTw, k⟩ := k
      exact ⟨hT _ hTw, held_weaken hT _ _ _ _ (wpPlan_held hs hQ rest T _ a' w' hTw hp2 k)⟩
    rcases h with ⟨hw, hr⟩ | ⟨hw, hg, v, hv, hr⟩ | ⟨hw, hg, hop⟩
    · cases g with
      | false => exact take undef rfl (.inr ⟨hw, rfl⟩) hr
      | true =>
        refine alone rfl ?_
        unfold wpOp
        simp only [ho, hw, Bool.false_eq_true, if_false]
        exact ⟨S, fun _ h => h, hS, hr⟩
    · exact take v hg (.inl ⟨hw, hv⟩) hr
    · refine alone hg ?_
      unfold wpOp
      simp only [ho, hw, if_true]
      exact .inl hop
  | .fork i p j q, S, listed, a, w, hS, hp, h => by
    simp only [planOK, Bool.and_eq_true] at hp
    obtain ⟨hp1, hp2, hp3, hp4⟩ := hp
    refine wpAnyH_all (rs := [i, j]) (eq_of_beq hp1) (by simp) (fun k hk => ?_)
    simp only [List.mem_cons, List.not_mem_nil, or_false] at hk
    rcases hk with rfl | rfl
    · refine wpOp_mono (fun a' w' k => ?_) h.1
      obtain ⟨T, hT, hTw, k⟩ := k
      exact ⟨hT _ hTw, held_weaken hT _ _ _ _ (wpPlan_held hs hQ p T _ a' w' hTw hp3 k)⟩
    · refine wpOp_mono (fun a' w' k => ?_) h.2
      obtain ⟨T, hT, hTw, k⟩ := k
      have := wpPlan_held hs hQ q T _ a' w' hTw hp4 k
      rw [eq_of_beq hp2] at this
      exact ⟨hT _ hTw, held_weaken hT _ _ _ _ this⟩

/-- The beginning, at a condition of one's own. -/
theorem wp_region_plan_of (S : World → Prop) (plan : Plan) {id : Nat} {a : Act} {w : World} (hS : S w.drew) (hm : P.follows .mixedOrders = true) (hs : Region.noSelect ops = true) (hlen : plan.size = ops.size) (hp : planOK ops plan (Array.replicate ops.size false) = true)
    (h : wpPlan P ops (NoPanic Q) plan S a w.drew) : (Code.region id ops true).wp P Q a w := by
  refine wp_region_noPanic (wp_region_held_drew (S := S) hm hS (fun _ => ?_))
  have := wpPlan_held hs (fun _ _ _ _ _ h => h) plan S _ a w.drew hS hp h
  rw [hlen] at this
  exact this
/-- The beginning, at all that is there. -/
theorem wp_region_plan (plan : Plan) {id : Nat} {a : Act} {w : World} (hm : P.follows .mixedOrders = true) (hs : Region.noSelect ops = true) (hlen : plan.size = ops.size) (hp : planOK ops plan (Array.replicate ops.size false) = true)
    (h : wpPlan P ops (NoPanic Q) plan (fun W => Below w.drew.heap.size w.drew W) a w.drew) : (Code.region id ops true).wp P Q a w := wp_region_plan_of _ plan (Below.refl _ _) hm hs hlen hp h
/-- The beginning, at what lies below block number B. -/
theorem wp_region_plan_at (B : Nat) (plan : Plan) {id : Nat} {a : Act} {w : World} (hm : P.follows .mixedOrders = true) (hs : Region.noSelect ops = true) (hlen : plan.size = ops.size) (hp : planOK ops plan (Array.replicate ops.size false) = true)
    (h : wpPlan P ops (NoPanic Q) plan (fun W => Below B w.drew W) a w.drew) : (Code.region id ops true).wp P Q a w := wp_region_plan_of _ plan (Below.refl _ _) hm hs hlen hp h

theorem plan_skip {i : Nat} {g : Bool} {rest : Plan} {S : World → Prop} {o : Oper} {a : Act} {w : World} (ho : ops[i]? = some o) (hw : Region.wanted o (yielded ops a.tmps) = false)
    (h : wpPlan P ops Q rest S (a.put o.dst undef) w) : wpPlan P ops Q (.step i g rest) S a w := ⟨o, ho, .inl ⟨hw, h⟩⟩
theorem plan_read {i : Nat} {rest : Plan} {S : World → Prop} {o : Oper} {a : Act} {w : World} {v : Value} (ho : ops[i]? = some o) (hw : Region.wanted o (yielded ops a.tmps) = true)
    (hv : ∀ W, S W → (execOp a.eval o).run P W = .ok (.value v) W) (h : wpPlan P ops Q rest S (a.put o.dst v) w) : wpPlan P ops Q (.step i false rest) S a w := ⟨o, ho, .inr (.inl ⟨hw, rfl, v, hv, h⟩)⟩
/-- Behind it all that is there counts. -/
theorem plan_make {i : Nat} {rest : Plan} {o : Oper} {a : Act} {w : World} (ho : ops[i]? = some o) (hw : Region.wanted o (yielded ops a.tmps) = true)
    (h : ∀ K : Act → World → Prop, Shut (∀ a' w', Below w.heap.size w w' → wpPlan P ops Q rest (fun W => Below w'.heap.size w' W) a' w' → K a' w') → o.wp P a w K Q) : wpPlan P ops Q (.step i true rest) (fun W => Below w.heap.size w W) a w :=
  ⟨o, ho, .inr (.inr ⟨hw, rfl, h _ (fun _ _ hb hr => ⟨_, fun _ hW => below_step hb hW, Below.refl _ _, hr⟩)⟩)⟩
/-- B stays. -/
theorem plan_make_at {i : Nat} {rest : Plan} {B : Nat} {o : Oper} {a : Act} {w : World} (ho : ops[i]? = some o) (hw : Region.wanted o (yielded ops a.tmps) = true)
    (h : ∀ K : Act → World → Prop, Shut (∀ a' w', Below B w w' → wpPlan P ops Q rest (fun W => Below B w' W) a' w' → K a' w') → o.wp P a w K Q) : wpPlan P ops Q (.step i true rest) (fun W => Below B w W) a w :=
  ⟨o, ho, .inr (.inr ⟨hw, rfl, h _ (fun _ _ hb hr => ⟨_, fun _ hW => hb.trans hW, Below.refl _ _, hr⟩)⟩)⟩
/-- S stays. -/
theorem plan_make_of {i : Nat} {rest : Plan} {S : World → Prop} {o : Oper} {a : Act} {w : World} (ho : ops[i]? = some o) (hw : Region.wanted o (yielded ops a.tmps) = true)
    (h : ∀ K : Act → World → Prop, Shut (∀ a' w', S w' → wpPlan P ops Q rest S a' w' → K a' w') → o.wp P a w K Q) : wpPlan P ops Q (.step i true rest) S a w :=
  ⟨o, ho, .inr (.inr ⟨hw, rfl, h _ (fun _ _ hb hr => ⟨S, fun _ hW => hW, hb, hr⟩)⟩)⟩
/-- Two that make memory may come up: each goes by itself, S stays. -/
theorem plan_fork {i j : Nat} {p q : Plan} {S : World → Prop} {o u : Oper} {a : Act} {w : World} (ho : ops[i]? = some o) (hu : ops[j]? = some u) (hw : Region.wanted o (yielded ops a.tmps) = true) (hx : Region.wanted u (yielded ops a.tmps) = true)
    (h : ∀ K : Act → World → Prop, Shut (∀ a' w', S w' → wpPlan P ops Q p S a' w' → K a' w') → o.wp P a w K Q) (k : ∀ K : Act → World → Prop, Shut (∀ a' w', S w' → wpPlan P ops Q q S a' w' → K a' w') → u.wp P a w K Q) : wpPlan P ops Q (.fork i p j q) S a w := by
  constructor
  · unfold wpOp
    simp only [ho, hw, if_true]
    exact .inl (h _ (fun _ _ hb hr => ⟨S, fun _ hW => hW, hb, hr⟩))
  · unfold wpOp
    simp only [hu, hx, if_true]
    exact .inl (k _ (fun _ _ hb hr => ⟨S, fun _ hW => hW, hb, hr⟩))
theorem plan_done {S : World → Prop} {a : Act} {w : World} (h : Q .normal a w) : wpPlan P ops (NoPanic Q) .nil S a w := h
end

/-! ### append onto a row of the call's own: what the row held is still there, where it was -/
section
variable {P : Program} (w : World)
theorem run_append_keep (base : Nat) (t ty e : TypeId) (i : TypeInfo) (z : Value) (bytes : Nat) (ht : P.underlying t = some (.slice e)) (hi : P.info? e = some i) (hz : i.zero = some z)
    (hsize : i.size = 1) (hby : i.bytes = bytes) (hzs : z.cells.size = 1) (v : Value) (n : Nat) (xs : List Value) (hown : w.ownsRow base e 1 v n xs)
    (a : Addr) (m c : Nat) (news : List Value) (hl : news.length = m * 1) (hnews : ∀ j u, news[j]? = some u → w.cell? (a.add j) = some u) (h1 : ∀ u ∈ news, u.oneCell' = true)
    (h63 : n + m ≤ maxLen) (hbytes : (n + m) * bytes ≤ 140737488355328) (hbase : base ≤ w.heap.size) :
    ∃ v' w', (Builtin.append_ #[t, t] ty #[v, .slice (some a) m c]).run P w = .ok v' w' ∧ w'.ownsRow base e 1 v' (n + m) (xs ++ news) ∧ w.grownBy w' v.ownBlock ∧
      ∀ g, v.ownBlock = some g → ∀ j u, xs[j]? = some u → w'.cell? ⟨g, j, none⟩ = some u := by
  obtain ⟨v', w', hrun, hown', hgrow, _⟩ := run_append_own (P := P) w base t ty e i z 1 bytes ht hi hz hsize hby hzs (by omega) v n xs hown a m c news hl hnews h1 h63 hbytes hbase
  refine ⟨v', w', hrun, hown', hgrow, fun g hg j u hu => ?_⟩
  have hj : j < xs.length := by
    rcases Nat.lt_or_ge j xs.length with h | h
    · exact h
    · rw [List.getElem?_eq_none h] at hu; cases hu
  have hadd : (⟨g, 0, none⟩ : Addr).add j = ⟨g, j, none⟩ := by unfold Addr.add; split <;> simp_all
  rcases hown.2 with ⟨rfl, _⟩ | ⟨g', cap, cur, rfl, hbg, hgg, hnc, hcm, hcs, htake⟩
  · simp [Value.ownBlock] at hg
  · simp [Value.ownBlock] at hg
    subst hg
    have hold := hown.cells (g := g') rfl j u hu
    rw [hadd] at hold
    have hsmall : n + m ≤ 9223372036854775807 := by simp only [maxLen] at h63; omega
    by_cases hroom : n + m ≤ cap
    · have hr := run_append_room (P := P) w t ty e i ht hi g' n cap cur hgg a m c news (by rw [hsize]; exact hl) hnews h1 hroom (by rw [hsize, hl, hcs]; omega)
      rw [hrun] at hr
      injection hr with hv _
      subst hv
      have := hown'.cells (g := g') rfl j u (by rw [List.getElem?_append_left hj]; exact hu)
      rwa [hadd] at this
    · subst hby
      have holds : ∀ j u, xs[j]? = some u → w.cell? ((⟨g', 0, none⟩ : Addr).add j) = some u := hown.cells (g := g') rfl
      have hr := run_append_grow (P := P) w t ty e i z ht hi hz ⟨g', 0, none⟩ n cap xs (by rw [hsize]; exact hown.1) holds a m c news (by rw [hsize]; exact hl) hnews (by omega) (by omega) (growslice_fits (by omega) hbytes)
      rw [hrun] at hr
      injection hr with _ hw
      subst hw
      rw [World.cell?_alloc_lt w.drew _ ⟨g', j, none⟩ (World.block_lt_of_cell? w _ hold)]
      exact hold

theorem wp_append_keep {o : Oper} {a : Act} {K : Act → World → Prop} {Q : Exit → Act → World → Prop} (s x : Operand) (t : TypeId)
    (ho : o.op = .call { callee := .builtin .append, args := #[s, x], argTypes := #[t, t] })
    (base : Nat) (e : TypeId) (i : TypeInfo) (z : Value) (bytes : Nat) (ht : P.underlying t = some (.slice e)) (hi : P.info? e = some i) (hz : i.zero = some z)
    (hsize : i.size = 1) (hby : i.bytes = bytes) (hzs : z.cells.size = 1) (v : Value) (n : Nat) (xs : List Value) (hs : a.eval s = v) (hown : w.ownsRow base e 1 v n xs)
    (ad : Addr) (m c : Nat) (news : List Value) (hx : a.eval x = .slice (some ad) m c) (hl : news.length = m * 1) (hnews : ∀ j u, news[j]? = some u → w.cell? (ad.add j) = some u) (h1 : ∀ u ∈ news, u.oneCell' = true)
    (h63 : n + m ≤ maxLen) (hbytes : (n + m) * bytes ≤ 140737488355328) (hbase : base ≤ w.heap.size)
    (h : ∀ v' w', w'.ownsRow base e 1 v' (n + m) (xs ++ news) → w.grownBy w' v.ownBlock → (∀ g, v.ownBlock = some g → ∀ j u, xs[j]? = some u → w'.cell? ⟨g, j, none⟩ = some u) → K (a.put o.dst v') w') : o.wp P a w K Q := by
  obtain ⟨v', w', hr, h2, h3, h4⟩ := run_append_keep (P := P) w base t o.type e i z bytes ht hi hz hsize hby hzs v n xs hown ad m c news hl hnews h1 h63 hbytes hbase
  unfold Oper.wp execOp
  simp only [ho, resolve, invoke, builtin, Sem.run_bind, Sem.run_pure, Result.andThen_ok, List.map_toArray, List.map_cons, List.map_nil, hs, hx, hr]
  exact h v' w' h2 h3 h4
end

end Go.Proofs.YteppocjgodmpdaaGreatDoor
/-
  A block of memory known whole: its cells read, one of them set, all of them set, a slice copied into it; a world given a name (no program is named here). No conditions but those typed.
-/
namespace Go.Proofs.YteppocjgodmpdaaGreatDoor
set_option maxRecDepth 100000
open Go.RowKit

/-- A name for a world, and what is known of it. -/
theorem at_world {Q : World → Prop} {v : World} (F : World → Prop) (hF : F v) (h : ∀ W, F W → Q W) : Q v := h v hF

/-- Block g holds just these cells. -/
def Row (w : World) (g : Nat) (t : TypeId) (l : List Value) : Prop := w.heap[g]? = some (.cells l.toArray t (0, 0))

section
variable {w w' : World} {g : Nat} {t : TypeId} {l : List Value}
theorem Row.lt (h : Row w g t l) : g < w.heap.size := (Array.getElem?_eq_some_iff.1 h).1
theorem Row.cell? (h : Row w g t l) (i : Nat) : w.cell? ⟨g, i, none⟩ = l[i]? := by
  rw [cell_of_row w g i _ t (0, 0) h]
  simp
theorem Row.cell (h : Row w g t l) {i : Nat} {v : Value} (hi : l[i]? = some v) : w.cell? ⟨g, i, none⟩ = some v := (h.cell? i).trans hi
theorem Row.keep {B : Nat} (h : Row w g t l) (hb : Below B w w') (hg : g < B) : Row w' g t l := (hb.block g hg).trans h
theorem Row.later (h : Row w g t l) (hb : Below w.heap.size w w') : Row w' g t l := h.keep hb h.lt
theorem Row.drew (h : Row w g t l) : Row w.drew g t l := h
theorem Row.drewN (h : Row w g t l) (n : Nat) : Row (w.drewN n) g t l := h
theorem Row.alloc (h : Row w g t l) (o : Obj) : Row (w.alloc o) g t l := (Below.heap_alloc w o g h.lt).trans h
theorem Row.new (w : World) (t : TypeId) (l : List Value) (cs : Array Value) (h : cs = l.toArray) : Row (w.alloc (.cells cs t)) w.heap.size t l := by subst h; exact heap_alloc_new w _
theorem Row.new_at (w : World) (g : Nat) (hg : g = w.heap.size) (t : TypeId) (l : List Value) (cs : Array Value) (h : cs = l.toArray) : Row (w.alloc (.cells cs t)) g t l := by subst hg; exact Row.new w t l cs h
theorem Row.range (h : Row w g t l) : w.rangeAt g 0 l := fun j v hv => by rw [Nat.zero_add]; exact h.cell hv
theorem Row.frozen (h : Row w g t l) (i : Nat) : w.frozen? ⟨g, i, none⟩ = false := by
  have h' : w.heap[g]? = some (.cells l.toArray t (0, 0)) := h
  simp [World.frozen?, h']
theorem Row.setRow (h : Row w g t l) (m : List Value) : Row (w.setRow g m.toArray) g t m := setRow_heap w g _ _ t _ h
theorem Row.setRow_at (h : Row w g t l) (m : List Value) (cs : Array Value) (e : cs = m.toArray) : Row (w.setRow g cs) g t m := by subst e; exact h.setRow m
theorem Row.setRow_other (h : Row w g t l) {k : Nat} (hk : g ≠ k) (cs : Array Value) : Row (w.setRow k cs) g t l := (Go.setRow_other w k g cs hk).trans h
theorem Row.setCell (h : Row w g t l) (i : Nat) (v : Value) : Row (w.setCell ⟨g, i, none⟩ v) g t (l.set i v) := by
  have h' : w.heap[g]? = some (.cells l.toArray t (0, 0)) := h
  have hlt : g < w.heap.size := h.lt
  have hv : w.heap[g] = .cells l.toArray t (0, 0) := (Array.getElem?_eq_some_iff.1 h').2
  unfold Row World.setCell
  rw [Array.getElem?_eq_getElem (by simpa using hlt), Array.getElem_modify]
  simp [hv]
theorem Row.setCell_other (h : Row w g t l) {p : Addr} (hk : g ≠ p.block) (v : Value) : Row (w.setCell p v) g t l := (Below.heap_setCell w p v g hk).trans h
theorem Row.rd {α : Type} {f : α → Value} {L : List α} (h : Row w g t (L.map f)) : Rd f w (some ⟨g, 0, none⟩) L := fun _ => ⟨g, 0, rfl, fun i hi => by rw [Nat.zero_add]; exact h.cell (by simp [hi])⟩
theorem Row.rd_at {α : Type} {f : α → Value} {M : List Value} {L : List α} {o : Nat} (h : Row w g t M) (hl : (M.drop o).take L.length = L.map f) : Rd f w (some ⟨g, o, none⟩) L := fun _ => ⟨g, o, rfl, fun i hi => h.cell (by
  have := congrArg (·[i]?) hl
  simpa [List.getElem?_take, List.getElem?_drop, hi] using this)⟩

variable {P : Program}
/-- The whole, read. -/
theorem Row.load (h : Row w g t l) (ty : TypeId) (d : TypeDesc) (hu : P.underlying ty = some d) (hd : d.isRow = true) (hi : (P.info? ty).map (·.size) = some l.length) :
    (Instr.loadAt ty (.pointer (some ⟨g, 0, none⟩))).run P w = .ok (.agg l.toArray) w := run_loadAt_mid w g 0 ty l d h.range hu hd hi
theorem Row.loadVar (h : Row w g t l) (ty : TypeId) (d : TypeDesc) (hu : P.underlying ty = some d) (hd : d.isRow = true) (hi : (P.info? ty).map (·.size) = some l.length) :
    (Go.loadVar ty ⟨g, 0, none⟩).run P w = .ok (.agg l.toArray) w := run_loadVar_mid w g 0 ty l d h.range hu hd hi
/-- A part, read. -/
theorem Row.loadMid (h : Row w g t l) (ty : TypeId) (o : Nat) (m : List Value) (hm : (l.drop o).take m.length = m) (d : TypeDesc) (hu : P.underlying ty = some d) (hd : d.isRow = true) (hi : (P.info? ty).map (·.size) = some m.length) :
    (Instr.loadAt ty (.pointer (some ⟨g, o, none⟩))).run P w = .ok (.agg m.toArray) w := run_loadAt_mid w g o ty m d (fun j v hv => by
      have hj : j < m.length := (List.getElem?_eq_some_iff.1 hv).1
      have := congrArg (·[j]?) hm
      simp only [List.getElem?_take, List.getElem?_drop, hj, if_true] at this
      exact h.cell (this.trans hv)) hu hd hi
/-- The whole, set. -/
theorem Row.store (h : Row w g t l) (ty : TypeId) (m : List Value) (hi : (P.info? ty).map (·.size) = some m.length) (hl : l.length = m.length) (h1 : ∀ v ∈ m, v.oneCell' = true) :
    (Instr.storeAt ty (.pointer (some ⟨g, 0, none⟩)) (.agg m.toArray)).run P w = .ok () (w.setRow g m.toArray) := by
  simp only [Instr.storeAt, Instr.sureAddr, Sem.run_bind, Sem.run_pure, Result.andThen_ok]
  exact run_storeVar_row w g t ty l.toArray m.toArray h (by simpa using hi) (by simpa using hl) (all_oneCell_toArray h1)
end

section
variable {P : Program} {op : Oper} {a : Act} {w : World} {K : Act → World → Prop} {Q : Exit → Act → World → Prop} {ops : Array Oper} {rest : List Oper} {g : Nat} {t : TypeId} {l : List Value}
theorem Row.wp_store (ty : TypeId) (x y : Operand) (ho : op.op = .store ty x y) (hx : a.eval x = .pointer (some ⟨g, 0, none⟩)) (m : List Value) (hy : a.eval y = .agg m.toArray) (h : Row w g t l)
    (hi : (P.info? ty).map (·.size) = some m.length) (hl : l.length = m.length) (h1 : ∀ v ∈ m, v.oneCell' = true) (k : K (a.put op.dst undef) (w.setRow g m.toArray)) : op.wp P a w K Q := by
  unfold Oper.wp execOp
  have := h.store (P := P) ty m hi hl h1
  simp only [Instr.storeAt, Instr.sureAddr, Sem.run_bind, Sem.run_pure, Result.andThen_ok] at this
  simp only [ho, hx, hy, Instr.storeAt, Instr.sureAddr, Sem.run_bind, Sem.run_pure, Result.andThen_ok, this]
  exact k
theorem wpList_store_row (hgd : op.guard = none) (ty : TypeId) (x y : Operand) (ho : op.op = .store ty x y) (g : Nat) (hx : a.eval x = .pointer (some ⟨g, 0, none⟩)) (m : List Value) (hy : a.eval y = .agg m.toArray) (t : TypeId) (l : List Value) (h : Row w g t l)
    (hi : (P.info? ty).map (·.size) = some m.length) (hl : l.length = m.length) (h1 : ∀ v ∈ m, v.oneCell' = true) (k : wpList P ops Q rest (a.put op.dst undef) (w.setRow g m.toArray)) : wpList P ops Q (op :: rest) a w :=
  wpList_plain hgd fun _ hK => h.wp_store ty x y ho hx m hy hi hl h1 (hK _ _ k)
/-- A part of a block known whole, read. -/
theorem wpList_load_part (hgd : op.guard = none) (ty : TypeId) (x : Operand) (ho : op.op = .load ty x) (g o : Nat) (hx : a.eval x = .pointer (some ⟨g, o, none⟩)) (t : TypeId) (l : List Value) (h : Row w g t l) (m : List Value) (hm : (l.drop o).take m.length = m)
    (d : TypeDesc) (hu : P.underlying ty = some d) (hd : d.isRow = true) (hi : (P.info? ty).map (·.size) = some m.length) (k : wpList P ops Q rest (a.put op.dst (.agg m.toArray)) w) : wpList P ops Q (op :: rest) a w :=
  wpList_load_mid hgd ty x ho g o hx m d (fun j v hv => by
      have hj : j < m.length := (List.getElem?_eq_some_iff.1 hv).1
      have := congrArg (·[j]?) hm
      simp only [List.getElem?_take, List.getElem?_drop, hj, if_true] at this
      exact h.cell (this.trans hv)) hu hd hi k
end

theorem Row.setCells {g : Nat} {t : TypeId} : ∀ (m : List Value) (o : Nat) {w : World} {l : List Value}, Row w g t l → o + m.length ≤ l.length → Row (w.setCells g o m) g t (l.take o ++ m ++ l.drop (o + m.length))
  | [], o, w, l, h, _ => by simpa [World.setCells] using h
  | v :: m, o, w, l, h, hl => by
    simp only [List.length_cons] at hl
    have k := Row.setCells m (o + 1) (h.setCell o v) (by simp; omega)
    have e : (l.set o v).take (o + 1) ++ m ++ (l.set o v).drop (o + 1 + m.length) = l.take o ++ v :: m ++ l.drop (o + (v :: m).length) := by
      have ho : o < l.length := by omega
      rw [List.drop_set_of_lt (by omega), List.take_succ_eq_append_getElem (by simpa using ho), List.getElem_set_self, List.take_set_of_le (Nat.le_refl _)]
      simp [Nat.add_assoc, Nat.add_comm 1]
    rw [← e]
    exact k
theorem Row.setCells_other {g b : Nat} {t : TypeId} (hk : g ≠ b) : ∀ (m : List Value) (o : Nat) {w : World} {l : List Value}, Row w g t l → Row (w.setCells b o m) g t l
  | [], _, _, _, h => h
  | v :: m, o, _, _, h => Row.setCells_other hk m (o + 1) (h.setCell_other (p := ⟨b, o, none⟩) hk v)
theorem below_setCells {B b : Nat} (hb : B ≤ b) : ∀ (m : List Value) (o : Nat) {a w : World}, Below B a w → Below B a (w.setCells b o m)
  | [], _, _, _, h => h
  | v :: m, o, _, _, h => below_setCells hb m (o + 1) (h.setCell (p := ⟨b, o, none⟩) hb v)

/-- Two results, the first of them a whole block. -/
theorem results_row_tmp {P : Program} {fn : Func} {p u : Tmp} {ty : TypeId} (h : fn.results = #[.cell p ty, .tmp u]) (tmps : Array Value) (w : World) (g : Nat) (t : TypeId) (l : List Value) (d : TypeDesc) (hp : tmps.getD p undef = .pointer (some ⟨g, 0, none⟩)) (hg : Row w g t l)
    (hu : P.underlying ty = some d) (hd : d.isRow = true) (hi : (P.info? ty).map (·.size) = some l.length) : (results fn tmps).run P w = .ok (.tuple #[.agg l.toArray, tmps.getD u undef]) w := by
  rw [results_cell_tmp h, hp]
  simp only [asAddr, Sem.run_pure, Result.andThen_ok, hg.loadVar (P := P) ty d hu hd hi]

theorem Rd.setRow {α : Type} {f : α → Value} {w : World} {A : Option Addr} {L : List α} (h : Rd f w A L) {g : Nat} (cs : Array Value) (hg : ∀ a, A = some a → a.block ≠ g) : Rd f (w.setRow g cs) A L := fun hn => by
  obtain ⟨b, o, rfl, hc⟩ := h hn
  exact ⟨b, o, rfl, fun i hi => (cell_setRow_other w g cs ⟨b, o + i, none⟩ (hg ⟨b, o, none⟩ rfl)).trans (hc i hi)⟩
theorem map_one {α : Type} {f : α → Value} (hf : ∀ x, (f x).oneCell' = true) (L : List α) : ∀ v ∈ L.map f, v.oneCell' = true := fun v hv => by
  obtain ⟨x, _, rfl⟩ := List.mem_map.1 hv
  exact hf x

/-- 'copy(d, s)': the slice d lies in a block known whole, and has room for all of s. -/
theorem wp_copy_row {P : Program} {α : Type} {f : α → Value} {o : Oper} {a : Act} {w : World} {K : Act → World → Prop} {Q : Exit → Act → World → Prop} (d s : Operand) (dT sT : TypeId)
    (ho : o.op = .call { callee := .builtin .copy, args := #[d, s], argTypes := #[dT, sT] }) (elem : TypeId) (hu : P.underlying dT = some (.slice elem)) (hsz : (P.info? elem).map (·.size) = some 1)
    (g off dLen dCap : Nat) (A : Option Addr) (L : List α) (sCap : Nat) (hd : a.eval d = .slice (some ⟨g, off, none⟩) dLen dCap) (hs : a.eval s = .slice A L.length sCap)
    (cur : List Value) (t : TypeId) (hg : Row w g t cur) (hr : Rd f w A L) (hf : ∀ x, (f x).oneCell' = true) (hle : L.length ≤ dLen) (hfit : off + L.length ≤ cur.length)
    (h : K (a.put o.dst (.int .i64 (L.length : Int))) (w.setRow g (cur.take off ++ L.map f ++ cur.drop (off + L.length)).toArray)) : o.wp P a w K Q := by
  by_cases hn : L = []
  · subst hn
    have hrun := run_copy_none (P := P) w dT sT o.type elem (some ⟨g, off, none⟩) A dLen dCap 0 sCap hu hsz (by simp)
    unfold Oper.wp
    simp only [execOp, ho, resolve, invoke, builtin, hd, hs, Sem.run_bind, Sem.run_pure, Result.andThen_ok, List.map_toArray, List.map_cons, List.map_nil, List.length_nil, hrun]
    have e : w.setRow g (cur.take off ++ ([] : List α).map f ++ cur.drop (off + ([] : List α).length)).toArray = w := by
      simp only [List.map_nil, List.append_nil, List.length_nil, Nat.add_zero, List.take_append_drop]
      exact setRow_self w g _ t _ hg
    rw [e] at h
    exact h
  · obtain ⟨b, oo, rfl, hc⟩ := hr hn
    have hrun := run_copy_row (P := P) w dT sT o.type elem g off dLen dCap ⟨b, oo, none⟩ L.length sCap cur.toArray t (L.map f) hu hsz hg (by rw [List.length_map]; exact (Nat.min_eq_left hle).symm) (fun j v hv => by
      have hj : j < L.length := by simpa using (List.getElem?_eq_some_iff.1 hv).1
      have e1 : (⟨b, oo, none⟩ : Addr).add j = ⟨b, oo + j, none⟩ := by unfold Addr.add; split <;> simp_all
      rw [e1, hc j hj, ← hv]
      simp [hj]) (by simpa using hfit) (map_one hf L)
    unfold Oper.wp
    simp only [execOp, ho, resolve, invoke, builtin, hd, hs, Sem.run_bind, Sem.run_pure, Result.andThen_ok, List.map_toArray, List.map_cons, List.map_nil, hrun]
    have e2 : ((cur.toArray.toList.take off ++ L.map f ++ cur.toArray.toList.drop (off + (L.map f).length)).toArray) = (cur.take off ++ L.map f ++ cur.drop (off + L.length)).toArray := by simp
    have e3 : goInt ((L.map f).length : Nat) = .int .i64 (L.length : Int) := by simp [goInt]
    rw [e2, e3]
    exact h
theorem wpList_copy_row {P : Program} {α : Type} {f : α → Value} {ops : Array Oper} {rest : List Oper} {o : Oper} {a : Act} {w : World} {Q : Exit → Act → World → Prop} (hgd : o.guard = none) (d s : Operand) (dT sT : TypeId)
    (ho : o.op = .call { callee := .builtin .copy, args := #[d, s], argTypes := #[dT, sT] }) (elem : TypeId) (hu : P.underlying dT = some (.slice elem)) (hsz : (P.info? elem).map (·.size) = some 1)
    (g off dLen dCap : Nat) (A : Option Addr) (L : List α) (sCap : Nat) (hd : a.eval d = .slice (some ⟨g, off, none⟩) dLen dCap) (hs : a.eval s = .slice A L.length sCap)
    (cur : List Value) (t : TypeId) (hg : Row w g t cur) (hr : Rd f w A L) (hf : ∀ x, (f x).oneCell' = true) (hle : L.length ≤ dLen) (hfit : off + L.length ≤ cur.length)
    (h : wpList P ops Q rest (a.put o.dst (.int .i64 (L.length : Int))) (w.setRow g (cur.take off ++ L.map f ++ cur.drop (off + L.length)).toArray)) : wpList P ops Q (o :: rest) a w :=
  wpList_plain hgd fun _ hK => wp_copy_row d s dT sT ho elem hu hsz g off dLen dCap A L sCap hd hs cur t hg hr hf hle hfit (hK _ _ h)

end Go.Proofs.YteppocjgodmpdaaGreatDoor
/-
  Plain facts on words of 32 bits, bytes and numbers (no program is named here): a word turned to the right, the eight bytes of a number, the number of bytes. No conditions but those typed.
-/
namespace Go.Proofs.YteppocjgodmpdaaGreatDoor
set_option maxRecDepth 100000
open Go.RowKit

/-! ### Words turned -/
def rotR (x : UInt32) (s : Nat) : UInt32 := ⟨x.toBitVec.rotateRight s⟩

theorem rot_bit (x : BitVec 32) (s i : Nat) (hi : i < 32) : (x.rotateRight s).getLsbD i = x.getLsbD ((i + s) % 32) := by
  rw [BitVec.getLsbD_rotateRight]
  have h32 : s % 32 < 32 := Nat.mod_lt _ (by omega)
  by_cases h : i < 32 - s % 32
  · have e : s % 32 + i = (i + s) % 32 := by omega
    simp [h, e]
  · have e : i - (32 - s % 32) = (i + s) % 32 := by omega
    simp [h, e, hi]

theorem rotR_rotR (x : UInt32) (s t : Nat) : rotR (rotR x s) t = rotR x (s + t) := by
  unfold rotR
  congr 1
  apply BitVec.eq_of_getLsbD_eq
  intro i hi
  rw [rot_bit _ _ _ hi, rot_bit _ _ _ (Nat.mod_lt _ (by omega)), rot_bit _ _ _ hi]
  congr 1
  omega

theorem rotR_mod (x : UInt32) (s : Nat) : rotR x (s % 32) = rotR x s := by
  unfold rotR
  rw [BitVec.rotateRight_mod_eq_rotateRight]

theorem rotR_same (x : UInt32) {s t : Nat} (h : s % 32 = t % 32) : rotR x s = rotR x t := by
  rw [← rotR_mod x s, ← rotR_mod x t, h]

theorem rotR_zero (x : UInt32) : rotR x 0 = x := by
  unfold rotR
  have : x.toBitVec.rotateRight 0 = x.toBitVec := by
    apply BitVec.eq_of_getLsbD_eq
    intro i hi
    rw [rot_bit _ _ _ hi]
    congr 1
    omega
  rw [this]

theorem rotR_32 (x : UInt32) : rotR x 32 = x := by
  rw [← rotR_mod]
  exact rotR_zero x

theorem u32_lt (x : UInt32) : x.toNat < 4294967296 := x.toNat_lt

/-- What the library's two shifts and 'or' give, is the word turned. -/
theorem shifts_rot (x : UInt32) (s : Nat) (hs : s < 32) :
    bits .or .u32 ((x.toNat : Int) * 2 ^ s % 4294967296) ((x.toNat : Int) / 2 ^ (32 - s)) = ((rotR x (32 - s)).toNat : Int) := by
  have hx := u32_lt x
  have e1 : (x.toNat : Int) * 2 ^ s % 4294967296 = ((x.toNat * 2 ^ s % 4294967296 : Nat) : Int) := by
    rw [Int.natCast_emod, Int.natCast_mul, Int.natCast_pow]
    rfl
  have e2 : (x.toNat : Int) / 2 ^ (32 - s) = ((x.toNat / 2 ^ (32 - s) : Nat) : Int) := by
    rw [Int.natCast_ediv, Int.natCast_pow]
    rfl
  have hd : x.toNat / 2 ^ (32 - s) < 4294967296 := Nat.lt_of_le_of_lt (Nat.div_le_self _ _) hx
  rw [e1, e2, u32_or_nat _ _ (Nat.mod_lt _ (by omega)) hd]
  congr 1
  have hb : (rotR x (32 - s)).toNat = (x.toBitVec <<< s ||| x.toBitVec >>> (32 - s)).toNat := by
    show (x.toBitVec.rotateRight (32 - s)).toNat = _
    congr 1
    apply BitVec.eq_of_getLsbD_eq
    intro i hi
    rw [rot_bit _ _ _ hi, BitVec.getLsbD_or, BitVec.getLsbD_shiftLeft, BitVec.getLsbD_ushiftRight]
    by_cases h : i < s
    · have e : (i + (32 - s)) % 32 = 32 - s + i := by omega
      simp [hi, h, e]
    · have e : (i + (32 - s)) % 32 = i - s := by omega
      have e' : x.toBitVec.getLsbD (32 - s + i) = false := BitVec.getLsbD_of_ge _ _ (by omega)
      simp [hi, h, e, e']
  rw [hb, BitVec.toNat_or, BitVec.toNat_shiftLeft, BitVec.toNat_ushiftRight, Nat.shiftLeft_eq, Nat.shiftRight_eq_div_pow]
  rfl

/-- The count by which the library turns to the left. -/
theorem and31 (n : Int) : bits .and .u64 (IntKind.u64.wrap (wrap64 (-n))) 31 = (((-n) % 32).toNat : Int) := by
  have hw : IntKind.u64.wrap (wrap64 (-n)) = (((-n) % 18446744073709551616).toNat : Int) := by
    rw [IntKind.wrap_u64]
    unfold wrap64
    omega
  rw [hw, show (31 : Int) = ((31 : Nat) : Int) from rfl, u64_and_nat _ _ (by omega) (by omega)]
  have := Nat.and_two_pow_sub_one_eq_mod ((-n) % 18446744073709551616).toNat 5
  simp only [Nat.reducePow, Nat.reduceSub] at this
  rw [this]
  omega

/-! ### Numbers and their bytes -/
/-- The number of bytes, the highest first. -/
def valN (l : List UInt8) : Nat := l.foldl (fun v c => v * 256 + c.toNat) 0

theorem valN_snoc (l : List UInt8) (c : UInt8) : valN (l ++ [c]) = valN l * 256 + c.toNat := by
  unfold valN
  rw [List.foldl_append]
  rfl
theorem valN_take (l : List UInt8) (k : Nat) (h : k < l.length) : valN (l.take (k + 1)) = valN (l.take k) * 256 + l[k].toNat := by
  rw [List.take_succ_eq_append_getElem h, valN_snoc]

/-- One byte more, as the program's shift and 'or' have it. -/
theorem join_step (a c : Nat) (hc : c < 256) :
    bits .or .u64 (IntKind.u64.wrap ((a : Int) % 18446744073709551616 * 256)) (c : Int) = (((a * 256 + c) % 18446744073709551616 : Nat) : Int) := by
  have e : IntKind.u64.wrap ((a : Int) % 18446744073709551616 * 256) = ((2 ^ 8 * (a % 72057594037927936) : Nat) : Int) := by
    rw [IntKind.wrap_u64]
    omega
  rw [e, u64_or_nat _ _ (by omega) (by omega), ← Nat.two_pow_add_eq_or_of_lt (by omega)]
  congr 1
  omega

theorem valN_lt (l : List UInt8) : valN l < 256 ^ l.length := by
  suffices h : ∀ (l : List UInt8) (v : Nat), l.foldl (fun v c => v * 256 + c.toNat) v < (v + 1) * 256 ^ l.length by
    have := h l 0
    unfold valN
    omega
  intro l
  induction l with
  | nil => intro v; simp
  | cons c l ih =>
    intro v
    have h := ih (v * 256 + c.toNat)
    have hc : c.toNat < 256 := c.toNat_lt
    refine Nat.lt_of_lt_of_le h ?_
    rw [List.length_cons, Nat.pow_succ, Nat.mul_comm (256 ^ l.length) 256, ← Nat.mul_assoc]
    exact Nat.mul_le_mul_right _ (by omega)
theorem valN_lt8 (l : List UInt8) (h : l.length ≤ 8) : valN l < 18446744073709551616 :=
  Nat.lt_of_lt_of_le (valN_lt l) (Nat.pow_le_pow_right (by omega) h)

/-- word.Get's and word.FromLeast's answers: the number, and the code. -/
def getR (l : List UInt8) : Nat × Int := if l.length = 8 then (valN l, 0) else (0, 1)
def fromR (l : List UInt8) : Nat × Int := if 8 < l.length then (0, 4) else if l.head? = some 0 then (0, 3) else (valN l, 0)

/-- The eight bytes of a number, the highest first; its least bytes. -/
def putL (v : Nat) : List UInt8 := (List.range 8).map fun i => UInt8.ofNat (v / 256 ^ (7 - i))
def leastL (v : Nat) : List UInt8 := (putL v).dropWhile (· == 0)

/-- The words whose bytes these are; what is left over doesn't count. The bytes of words. -/
def wordsL : List UInt8 → List UInt32
  | a :: b :: c :: d :: r => UInt32.ofNat (valN [a, b, c, d]) :: wordsL r
  | _ => []
def bytesW (x : UInt32) : List UInt8 := [UInt8.ofNat (x.toNat / 16777216), UInt8.ofNat (x.toNat / 65536), UInt8.ofNat (x.toNat / 256), UInt8.ofNat x.toNat]
def bytesL (l : List UInt32) : List UInt8 := l.flatMap bytesW

theorem wordsL_short (l : List UInt8) (h : l.length < 4) : wordsL l = [] := by
  match l, h with
  | [], _ => rfl
  | [_], _ => rfl
  | [_, _], _ => rfl
  | [_, _, _], _ => rfl
  | _ :: _ :: _ :: _ :: _, h => simp at h; omega

theorem ret_int2 {k k' : IntKind} {a b a' b' : Int} (h : a = b) (h' : a' = b') : Ending.returned (.tuple #[.int k a, .int k' a']) = .returned (.tuple #[.int k b, .int k' b']) := by rw [h, h']
theorem ret_int {k : IntKind} {a b : Int} (h : a = b) : Ending.returned (.int k a) = .returned (.int k b) := by rw [h]


/-- A byte turned by another one (behind a name of its own: 'simp' would take 'toNat' apart). -/
def xorB (x y : UInt8) : UInt8 := x ^^^ y
theorem u8_lt (x : UInt8) : x.toNat < 256 := x.toNat_lt
theorem u8_xor_b (x y : UInt8) : bits .xor .u8 (x.toNat : Int) (y.toNat : Int) = ((xorB x y).toNat : Int) := by
  rw [u8_xor_nat _ _ (u8_lt x) (u8_lt y)]
  simp [xorB]
theorem xorB_ne (x y : UInt8) (h : y ≠ 0) : xorB x y ≠ x := by
  intro e
  apply h
  have := congrArg (fun z => x ^^^ z) e
  simp only [xorB, ← UInt8.xor_assoc, UInt8.xor_self, UInt8.zero_xor] at this
  exact this
end Go.Proofs.YteppocjgodmpdaaGreatDoor
/-
  The field of 256 elements as plain functions on bytes: products bit by bit, and what is left of them by 301; that they make a field. No conditions but those typed.
-/
namespace Go.Proofs.YteppocjgodmpdaaGreatDoor
set_option maxRecDepth 100000

/-- The product of two polynomials over two elements, by the first i bits of the second one. -/
def clN (a b : Nat) : Nat → Nat
  | 0 => 0
  | i + 1 => if b / 2 ^ i % 2 = 1 then clN a b i ^^^ a * 2 ^ i else clN a b i
/-- What is left, of the bit k. -/
def stepN (p k : Nat) : Nat := if p / 2 ^ k % 2 = 1 then p ^^^ 301 * 2 ^ (k - 8) else p
def redN (p : Nat) : Nat := stepN (stepN (stepN (stepN (stepN (stepN (stepN p 14) 13) 12) 11) 10) 9) 8
def mulN (a b : Nat) : Nat := redN (clN a b 8)
def mulB (a b : UInt8) : UInt8 := UInt8.ofNat (mulN a.toNat b.toNat)
def addB (a b : UInt8) : UInt8 := a ^^^ b

theorem bit_xor (p q k : Nat) : (p ^^^ q) / 2 ^ k % 2 = 1 ↔ ¬ (p / 2 ^ k % 2 = 1 ↔ q / 2 ^ k % 2 = 1) := by
  have e : ∀ x : Nat, x / 2 ^ k % 2 = 1 ↔ x.testBit k = true := fun x => by
    rw [Nat.testBit_eq_decide_div_mod_eq]
    simp
  rw [e, e, e, Nat.testBit_xor]
  cases p.testBit k <;> cases q.testBit k <;> simp
theorem mul_xor (p q i : Nat) : (p ^^^ q) * 2 ^ i = p * 2 ^ i ^^^ q * 2 ^ i := by
  rw [← Nat.shiftLeft_eq, ← Nat.shiftLeft_eq, ← Nat.shiftLeft_eq, Nat.shiftLeft_xor_distrib]
theorem xor_four (a b c d : Nat) : (a ^^^ b) ^^^ (c ^^^ d) = (a ^^^ c) ^^^ (b ^^^ d) := by ac_rfl
theorem stepN_xor (p q k : Nat) : stepN (p ^^^ q) k = stepN p k ^^^ stepN q k := by
  unfold stepN
  have h := bit_xor p q k
  by_cases hp : p / 2 ^ k % 2 = 1 <;> by_cases hq : q / 2 ^ k % 2 = 1
  · rw [if_neg (by rw [h]; simp [hp, hq]), if_pos hp, if_pos hq, xor_four, Nat.xor_self, Nat.xor_zero]
  · rw [if_pos (by rw [h]; simp [hp, hq]), if_pos hp, if_neg hq]; ac_rfl
  · rw [if_pos (by rw [h]; simp [hp, hq]), if_neg hp, if_pos hq]; ac_rfl
  · rw [if_neg (by rw [h]; simp [hp, hq]), if_neg hp, if_neg hq]
theorem redN_xor (p q : Nat) : redN (p ^^^ q) = redN p ^^^ redN q := by
  unfold redN
  rw [stepN_xor, stepN_xor, stepN_xor, stepN_xor, stepN_xor, stepN_xor, stepN_xor]
theorem clN_xor_left (a a' b : Nat) : ∀ i, clN (a ^^^ a') b i = clN a b i ^^^ clN a' b i
  | 0 => by simp [clN]
  | i + 1 => by
    unfold clN
    rw [clN_xor_left a a' b i, mul_xor]
    split
    · rw [xor_four]
    · rfl
theorem clN_xor_right (a b b' : Nat) : ∀ i, clN a (b ^^^ b') i = clN a b i ^^^ clN a b' i
  | 0 => by simp [clN]
  | i + 1 => by
    unfold clN
    rw [clN_xor_right a b b' i]
    have h := bit_xor b b' i
    by_cases hp : b / 2 ^ i % 2 = 1 <;> by_cases hq : b' / 2 ^ i % 2 = 1
    · rw [if_neg (by rw [h]; simp [hp, hq]), if_pos hp, if_pos hq, xor_four, Nat.xor_self, Nat.xor_zero]
    · rw [if_pos (by rw [h]; simp [hp, hq]), if_pos hp, if_neg hq]; ac_rfl
    · rw [if_pos (by rw [h]; simp [hp, hq]), if_neg hp, if_pos hq]; ac_rfl
    · rw [if_neg (by rw [h]; simp [hp, hq]), if_neg hp, if_neg hq]
theorem ofNat_xor (p q : Nat) : UInt8.ofNat (p ^^^ q) = UInt8.ofNat p ^^^ UInt8.ofNat q := by
  apply UInt8.toNat_inj.1
  rw [UInt8.toNat_xor, UInt8.toNat_ofNat', UInt8.toNat_ofNat', UInt8.toNat_ofNat']
  exact Nat.xor_mod_two_pow
theorem mul_add_left (a a' b : UInt8) : mulB (addB a a') b = addB (mulB a b) (mulB a' b) := by
  unfold mulB mulN addB
  rw [UInt8.toNat_xor, clN_xor_left, redN_xor, ofNat_xor]
theorem mul_add_right (a b b' : UInt8) : mulB a (addB b b') = addB (mulB a b) (mulB a b') := by
  unfold mulB mulN addB
  rw [UInt8.toNat_xor, clN_xor_right, redN_xor, ofNat_xor]

/-! ### What is additive is told by the eight bits -/
theorem all_bytes {p : UInt8 → Prop} (h : ∀ n, n < 256 → p (UInt8.ofNat n)) (x : UInt8) : p x := by
  have := h x.toNat x.toNat_lt
  rwa [UInt8.ofNat_toNat] at this
theorem byte_bits (x : UInt8) : x = (x &&& 1) ^^^ ((x &&& 2) ^^^ ((x &&& 4) ^^^ ((x &&& 8) ^^^ ((x &&& 16) ^^^ ((x &&& 32) ^^^ ((x &&& 64) ^^^ (x &&& 128))))))) := by
  refine all_bytes (p := fun x => x = (x &&& 1) ^^^ ((x &&& 2) ^^^ ((x &&& 4) ^^^ ((x &&& 8) ^^^ ((x &&& 16) ^^^ ((x &&& 32) ^^^ ((x &&& 64) ^^^ (x &&& 128)))))))) ?_ x
  decide +kernel
theorem bit_or (x : UInt8) : ((x &&& 1) = 0 ∨ (x &&& 1) = 1) ∧ ((x &&& 2) = 0 ∨ (x &&& 2) = 2) ∧ ((x &&& 4) = 0 ∨ (x &&& 4) = 4) ∧ ((x &&& 8) = 0 ∨ (x &&& 8) = 8) ∧ ((x &&& 16) = 0 ∨ (x &&& 16) = 16) ∧ ((x &&& 32) = 0 ∨ (x &&& 32) = 32) ∧ ((x &&& 64) = 0 ∨ (x &&& 64) = 64) ∧ ((x &&& 128) = 0 ∨ (x &&& 128) = 128) := by
  refine all_bytes (p := fun x => ((x &&& 1) = 0 ∨ (x &&& 1) = 1) ∧ ((x &&& 2) = 0 ∨ (x &&& 2) = 2) ∧ ((x &&& 4) = 0 ∨ (x &&& 4) = 4) ∧ ((x &&& 8) = 0 ∨ (x &&& 8) = 8) ∧ ((x &&& 16) = 0 ∨ (x &&& 16) = 16) ∧ ((x &&& 32) = 0 ∨ (x &&& 32) = 32) ∧ ((x &&& 64) = 0 ∨ (x &&& 64) = 64) ∧ ((x &&& 128) = 0 ∨ (x &&& 128) = 128)) ?_ x
  decide +kernel
def bitsB : List UInt8 := [1, 2, 4, 8, 16, 32, 64, 128]
theorem add_self (x : UInt8) : addB x x = 0 := UInt8.xor_self
theorem add_zero (x : UInt8) : addB x 0 = x := UInt8.xor_zero
theorem zero_add (x : UInt8) : addB 0 x = x := UInt8.zero_xor
theorem add_comm (x y : UInt8) : addB x y = addB y x := UInt8.xor_comm x y
theorem add_assoc (x y z : UInt8) : addB (addB x y) z = addB x (addB y z) := UInt8.xor_assoc x y z
theorem additive_zero {f : UInt8 → UInt8} (hf : ∀ x y, f (addB x y) = addB (f x) (f y)) : f 0 = 0 := by
  have := hf 0 0
  rw [add_self, add_self] at this
  exact this
theorem additive_eq {f g : UInt8 → UInt8} (hf : ∀ x y, f (addB x y) = addB (f x) (f y)) (hg : ∀ x y, g (addB x y) = addB (g x) (g y)) (h : ∀ b ∈ bitsB, f b = g b) (x : UInt8) : f x = g x := by
  have f0 := additive_zero hf
  have g0 := additive_zero hg
  have one : ∀ (y b : UInt8), b ∈ bitsB → (y = 0 ∨ y = b) → f y = g y := by
    intro y b hb hy
    rcases hy with rfl | rfl
    · rw [f0, g0]
    · exact h _ hb
  obtain ⟨h1, h2, h3, h4, h5, h6, h7, h8⟩ := bit_or x
  have e1 := one _ 1 (by simp [bitsB]) h1
  have e2 := one _ 2 (by simp [bitsB]) h2
  have e3 := one _ 4 (by simp [bitsB]) h3
  have e4 := one _ 8 (by simp [bitsB]) h4
  have e5 := one _ 16 (by simp [bitsB]) h5
  have e6 := one _ 32 (by simp [bitsB]) h6
  have e7 := one _ 64 (by simp [bitsB]) h7
  have e8 := one _ 128 (by simp [bitsB]) h8
  have hx := byte_bits x
  generalize x &&& 1 = x1 at *
  generalize x &&& 2 = x2 at *
  generalize x &&& 4 = x3 at *
  generalize x &&& 8 = x4 at *
  generalize x &&& 16 = x5 at *
  generalize x &&& 32 = x6 at *
  generalize x &&& 64 = x7 at *
  generalize x &&& 128 = x8 at *
  have hx' : x = addB x1 (addB x2 (addB x3 (addB x4 (addB x5 (addB x6 (addB x7 x8)))))) := hx
  rw [hx', hf, hf, hf, hf, hf, hf, hf, hg, hg, hg, hg, hg, hg, hg, e1, e2, e3, e4, e5, e6, e7, e8]

theorem mul_comm (a b : UInt8) : mulB a b = mulB b a := by
  refine additive_eq (f := fun a => mulB a b) (g := fun a => mulB b a) (fun x y => mul_add_left x y b) (fun x y => mul_add_right b x y) (fun u hu => ?_) a
  refine additive_eq (f := fun b => mulB u b) (g := fun b => mulB b u) (fun x y => mul_add_right u x y) (fun x y => mul_add_left x y u) (fun v hv => ?_) b
  have : ∀ u ∈ bitsB, ∀ v ∈ bitsB, mulB u v = mulB v u := by decide +kernel
  exact this u hu v hv
theorem mul_assoc (a b c : UInt8) : mulB (mulB a b) c = mulB a (mulB b c) := by
  refine additive_eq (f := fun a => mulB (mulB a b) c) (g := fun a => mulB a (mulB b c)) (fun x y => by rw [mul_add_left, mul_add_left]) (fun x y => mul_add_left x y _) (fun u hu => ?_) a
  refine additive_eq (f := fun b => mulB (mulB u b) c) (g := fun b => mulB u (mulB b c)) (fun x y => by rw [mul_add_right, mul_add_left]) (fun x y => by rw [mul_add_left, mul_add_right]) (fun v hv => ?_) b
  refine additive_eq (f := fun c => mulB (mulB u v) c) (g := fun c => mulB u (mulB v c)) (fun x y => mul_add_right _ x y) (fun x y => by rw [mul_add_right, mul_add_right]) (fun w hw => ?_) c
  have : ∀ u ∈ bitsB, ∀ v ∈ bitsB, ∀ w ∈ bitsB, mulB (mulB u v) w = mulB u (mulB v w) := by decide +kernel
  exact this u hu v hv w hw
theorem mul_one (a : UInt8) : mulB a 1 = a := by
  refine additive_eq (f := fun a => mulB a 1) (g := fun a => a) (fun x y => mul_add_left x y 1) (fun _ _ => rfl) (fun u hu => ?_) a
  have : ∀ u ∈ bitsB, mulB u 1 = u := by decide +kernel
  exact this u hu
theorem one_mul (a : UInt8) : mulB 1 a = a := by rw [mul_comm, mul_one]
theorem mul_zero (a : UInt8) : mulB a 0 = 0 := additive_zero (f := fun b => mulB a b) (fun x y => mul_add_right a x y)
theorem zero_mul (a : UInt8) : mulB 0 a = 0 := by rw [mul_comm, mul_zero]

/-! ### Powers of 2 -/
def powB (a : UInt8) : Nat → UInt8
  | 0 => 1
  | n + 1 => mulB (powB a n) a
theorem pow_add (a : UInt8) (m : Nat) : ∀ n, powB a (m + n) = mulB (powB a m) (powB a n)
  | 0 => by rw [powB, mul_one]; rfl
  | n + 1 => by rw [← Nat.add_assoc, powB, pow_add a m n, powB, mul_assoc]
theorem pow_mul (a : UInt8) (m : Nat) : ∀ n, powB a (m * n) = powB (powB a m) n
  | 0 => rfl
  | n + 1 => by rw [Nat.mul_succ, pow_add, pow_mul a m n, powB]
theorem pow_one (n : Nat) : powB 1 n = 1 := by
  induction n with
  | zero => rfl
  | succ n ih => rw [powB, ih, mul_one]

/-- The powers of 2 from 0 on. -/
def expL : List UInt8 := [1, 2, 4, 8, 16, 32, 64, 128, 45, 90, 180, 69, 138, 57, 114, 228, 229, 231, 227, 235, 251, 219, 155, 27, 54, 108, 216, 157, 23, 46, 92, 184, 93, 186, 89, 178, 73, 146, 9, 18, 36, 72, 144, 13, 26, 52, 104, 208, 141, 55, 110, 220, 149, 7, 14, 28, 56, 112, 224, 237, 247, 195, 171, 123, 246, 193, 175, 115, 230, 225, 239, 243, 203, 187, 91, 182, 65, 130, 41, 82, 164, 101, 202, 185, 95, 190, 81, 162, 105, 210, 137, 63, 126, 252, 213, 135, 35, 70, 140, 53, 106, 212, 133, 39, 78, 156, 21, 42, 84, 168, 125, 250, 217, 159, 19, 38, 76, 152, 29, 58, 116, 232, 253, 215, 131, 43, 86, 172, 117, 234, 249, 223, 147, 11, 22, 44, 88, 176, 77, 154, 25, 50, 100, 200, 189, 87, 174, 113, 226, 233, 255, 211, 139, 59, 118, 236, 245, 199, 163, 107, 214, 129, 47, 94, 188, 85, 170, 121, 242, 201, 191, 83, 166, 97, 194, 169, 127, 254, 209, 143, 51, 102, 204, 181, 71, 142, 49, 98, 196, 165, 103, 206, 177, 79, 158, 17, 34, 68, 136, 61, 122, 244, 197, 167, 99, 198, 161, 111, 222, 145, 15, 30, 60, 120, 240, 205, 183, 67, 134, 33, 66, 132, 37, 74, 148, 5, 10, 20, 40, 80, 160, 109, 218, 153, 31, 62, 124, 248, 221, 151, 3, 6, 12, 24, 48, 96, 192, 173, 119, 238, 241, 207, 179, 75, 150]
def logL : List Nat := [0, 0, 1, 240, 2, 225, 241, 53, 3, 38, 226, 133, 242, 43, 54, 210, 4, 195, 39, 114, 227, 106, 134, 28, 243, 140, 44, 23, 55, 118, 211, 234, 5, 219, 196, 96, 40, 222, 115, 103, 228, 78, 107, 125, 135, 8, 29, 162, 244, 186, 141, 180, 45, 99, 24, 49, 56, 13, 119, 153, 212, 199, 235, 91, 6, 76, 220, 217, 197, 11, 97, 184, 41, 36, 223, 253, 116, 138, 104, 193, 229, 86, 79, 171, 108, 165, 126, 145, 136, 34, 9, 74, 30, 32, 163, 84, 245, 173, 187, 204, 142, 81, 181, 190, 46, 88, 100, 159, 25, 231, 50, 207, 57, 147, 14, 67, 120, 128, 154, 248, 213, 167, 200, 63, 236, 110, 92, 176, 7, 161, 77, 124, 221, 102, 218, 95, 198, 90, 12, 152, 98, 48, 185, 179, 42, 209, 37, 132, 224, 52, 254, 239, 117, 233, 139, 22, 105, 27, 194, 113, 230, 206, 87, 158, 80, 189, 172, 203, 109, 175, 166, 62, 127, 247, 146, 66, 137, 192, 35, 252, 10, 183, 75, 216, 31, 83, 33, 73, 164, 144, 85, 170, 246, 65, 174, 61, 188, 202, 205, 157, 143, 169, 82, 72, 182, 215, 191, 251, 47, 178, 89, 151, 101, 94, 160, 123, 26, 112, 232, 21, 51, 238, 208, 131, 58, 69, 148, 18, 15, 16, 68, 17, 121, 149, 129, 19, 155, 59, 249, 70, 214, 250, 168, 71, 201, 156, 64, 60, 237, 130, 111, 20, 93, 122, 177, 150]
theorem expL_length : expL.length = 255 := by decide +kernel
theorem expL_step : ∀ i, i < 254 → expL.getD (i + 1) 0 = mulB (expL.getD i 0) 2 := by decide +kernel
theorem exp_at : ∀ i, i < 255 → powB 2 i = expL.getD i 0
  | 0, _ => rfl
  | i + 1, h => by rw [powB, exp_at i (by omega), expL_step i (by omega)]
theorem exp_255 : powB 2 255 = 1 := by
  rw [show (255 : Nat) = 254 + 1 by rfl, powB, exp_at 254 (by omega)]
  decide +kernel
/-- Each element but 0 is a power of 2. -/
def logB (a : UInt8) : Nat := logL.getD a.toNat 0
theorem log_table : ∀ n, n < 256 → (n = 0 ∨ logL.getD n 0 < 255 ∧ expL.getD (logL.getD n 0) 0 = UInt8.ofNat n) := by decide +kernel
theorem exp_table : ∀ i, i < 255 → expL.getD i 0 ≠ 0 ∧ logL.getD (expL.getD i 0).toNat 0 = i := by decide +kernel
theorem log_lt (a : UInt8) (h : a ≠ 0) : logB a < 255 := by
  have := log_table a.toNat a.toNat_lt
  rcases this with h0 | ⟨h1, _⟩
  · exact absurd (UInt8.toNat_inj.1 h0) h
  · exact h1
theorem exp_log (a : UInt8) (h : a ≠ 0) : powB 2 (logB a) = a := by
  have := log_table a.toNat a.toNat_lt
  rcases this with h0 | ⟨h1, h2⟩
  · exact absurd (UInt8.toNat_inj.1 h0) h
  · rw [exp_at _ (log_lt a h)]
    unfold logB
    rw [h2, UInt8.ofNat_toNat]
theorem log_exp (i : Nat) (h : i < 255) : logB (powB 2 i) = i := by
  rw [exp_at i h]
  exact (exp_table i h).2
theorem exp_ne (i : Nat) : powB 2 i ≠ 0 := by
  have e : powB 2 i = powB 2 (i % 255) := by
    conv => lhs; rw [← Nat.div_add_mod i 255]
    rw [pow_add, pow_mul, exp_255, pow_one, one_mul]
  rw [e, exp_at _ (Nat.mod_lt _ (by omega))]
  exact (exp_table _ (Nat.mod_lt _ (by omega))).1
theorem exp_mod (i : Nat) : powB 2 i = powB 2 (i % 255) := by
  conv => lhs; rw [← Nat.div_add_mod i 255]
  rw [pow_add, pow_mul, exp_255, pow_one, one_mul]
theorem mul_ne (a b : UInt8) (ha : a ≠ 0) (hb : b ≠ 0) : mulB a b ≠ 0 := by
  rw [← exp_log a ha, ← exp_log b hb, ← pow_add]
  exact exp_ne _
theorem mul_eq_zero (a b : UInt8) : mulB a b = 0 ↔ a = 0 ∨ b = 0 := by
  constructor
  · intro h
    by_cases ha : a = 0
    · exact .inl ha
    · by_cases hb : b = 0
      · exact .inr hb
      · exact absurd h (mul_ne a b ha hb)
  · rintro (rfl | rfl)
    · exact zero_mul _
    · exact mul_zero _
theorem log_mul (a b : UInt8) (ha : a ≠ 0) (hb : b ≠ 0) : logB (mulB a b) = (logB a + logB b) % 255 := by
  conv => lhs; rw [← exp_log a ha, ← exp_log b hb, ← pow_add, exp_mod]
  exact log_exp _ (Nat.mod_lt _ (by omega))
theorem pow_255 (a : UInt8) (ha : a ≠ 0) : powB a 255 = 1 := by
  rw [← exp_log a ha, ← pow_mul, Nat.mul_comm, pow_mul, exp_255, pow_one]
theorem pow_mod (a : UInt8) (ha : a ≠ 0) (n : Nat) : powB a n = powB a (n % 255) := by
  conv => lhs; rw [← Nat.div_add_mod n 255]
  rw [pow_add, pow_mul, pow_255 a ha, pow_one, one_mul]
/-- The inverse. -/
def invB (a : UInt8) : UInt8 := powB a 254
theorem mul_inv (a : UInt8) (ha : a ≠ 0) : mulB a (invB a) = 1 := by
  have e : mulB (powB a 254) a = powB a 255 := rfl
  rw [invB, mul_comm, e, pow_255 a ha]
theorem inv_ne (a : UInt8) (ha : a ≠ 0) : invB a ≠ 0 := by
  intro h
  have := mul_inv a ha
  rw [h, mul_zero] at this
  exact absurd this (by decide)
theorem mul_cancel (a b c : UInt8) (ha : a ≠ 0) (h : mulB a b = mulB a c) : b = c := by
  have := congrArg (mulB (invB a)) h
  rwa [← mul_assoc, ← mul_assoc, mul_comm (invB a) a, mul_inv a ha, one_mul, one_mul] at this
theorem inv_unique (a b : UInt8) (h : mulB a b = 1) : b = invB a := by
  have ha : a ≠ 0 := by
    rintro rfl
    rw [zero_mul] at h
    exact absurd h (by decide)
  exact mul_cancel a b (invB a) ha (by rw [h, mul_inv a ha])
theorem square_add (a b : UInt8) : mulB (addB a b) (addB a b) = addB (mulB a a) (mulB b b) := by
  rw [mul_add_left, mul_add_right, mul_add_right, mul_comm b a, add_assoc, ← add_assoc (mulB a b) (mulB a b), add_self, zero_add]
end Go.Proofs.YteppocjgodmpdaaGreatDoor
/-
  Polynomials over the field of 256 elements as plain functions on lists of coefficients: sums, products, values, plain forms, division, slopes; the laws of a ring, up to zeros behind. No conditions but those typed.
-/
namespace Go.Proofs.YteppocjgodmpdaaGreatDoor
set_option maxRecDepth 100000
set_option linter.unusedVariables false
set_option linter.unusedSimpArgs false

def co (p : List UInt8) (k : Nat) : UInt8 := p.getD k 0
theorem co_nil (k : Nat) : co [] k = 0 := by simp [co]
theorem co_zero (a : UInt8) (p : List UInt8) : co (a :: p) 0 = a := rfl
theorem co_succ (a : UInt8) (p : List UInt8) (k : Nat) : co (a :: p) (k + 1) = co p k := by simp [co]
theorem co_ge (p : List UInt8) (k : Nat) (h : p.length ≤ k) : co p k = 0 := by simp [co, List.getD_eq_getElem?_getD, List.getElem?_eq_none h]
theorem co_lt (p : List UInt8) (k : Nat) (h : k < p.length) : co p k = p[k] := by simp [co, List.getD_eq_getElem?_getD, List.getElem?_eq_getElem h]

/-- The same polynomial, zeros behind let aside. -/
def Eqv (p q : List UInt8) : Prop := ∀ k, co p k = co q k
theorem Eqv.refl (p : List UInt8) : Eqv p p := fun _ => rfl
theorem Eqv.symm {p q : List UInt8} (h : Eqv p q) : Eqv q p := fun k => (h k).symm
theorem Eqv.trans {p q r : List UInt8} (h : Eqv p q) (g : Eqv q r) : Eqv p r := fun k => (h k).trans (g k)
theorem Eqv.cons {p q : List UInt8} (a : UInt8) (h : Eqv p q) : Eqv (a :: p) (a :: q) := fun k => by
  cases k with
  | zero => rfl
  | succ k => rw [co_succ, co_succ, h k]
theorem Eqv.tail {a b : UInt8} {p q : List UInt8} (h : Eqv (a :: p) (b :: q)) : a = b ∧ Eqv p q := ⟨h 0, fun k => by have := h (k + 1); rwa [co_succ, co_succ] at this⟩
theorem Eqv.nil_cons {b : UInt8} {q : List UInt8} (h : Eqv [] (b :: q)) : b = 0 ∧ Eqv [] q := ⟨by have := h 0; rw [co_nil, co_zero] at this; exact this.symm, fun k => by have := h (k + 1); rwa [co_nil, co_succ, ← co_nil k] at this⟩
theorem zero_cons : Eqv [0] [] := fun k => by cases k <;> simp [co]
theorem cons_nil {p : List UInt8} (h : Eqv p []) : Eqv (0 :: p) [] := fun k => by
  cases k with
  | zero => rw [co_zero, co_nil]
  | succ k => rw [co_succ, h k, co_nil, co_nil]

/-! ### Sums, multiples, products -/
def addL : List UInt8 → List UInt8 → List UInt8
  | [], q => q
  | a :: p, [] => a :: p
  | a :: p, b :: q => addB a b :: addL p q
theorem co_add : ∀ (p q : List UInt8) (k : Nat), co (addL p q) k = addB (co p k) (co q k)
  | [], q, k => by rw [addL, co_nil, zero_add]
  | a :: p, [], k => by rw [addL, co_nil, add_zero]
  | a :: p, b :: q, 0 => rfl
  | a :: p, b :: q, k + 1 => by rw [addL, co_succ, co_succ, co_succ, co_add p q k]
def scaleL (a : UInt8) (p : List UInt8) : List UInt8 := p.map (mulB a)
theorem co_scale (a : UInt8) : ∀ (p : List UInt8) (k : Nat), co (scaleL a p) k = mulB a (co p k)
  | [], k => by rw [scaleL, List.map_nil, co_nil, mul_zero]
  | b :: p, 0 => rfl
  | b :: p, k + 1 => by rw [scaleL, List.map_cons, co_succ, co_succ]; exact co_scale a p k
def mulL : List UInt8 → List UInt8 → List UInt8
  | [], _ => []
  | a :: p, q => addL (scaleL a q) (0 :: mulL p q)
theorem add_congr {p p' q q' : List UInt8} (h : Eqv p p') (g : Eqv q q') : Eqv (addL p q) (addL p' q') := fun k => by rw [co_add, co_add, h k, g k]
theorem addL_comm (p q : List UInt8) : Eqv (addL p q) (addL q p) := fun k => by rw [co_add, co_add, add_comm]
theorem addL_assoc (p q r : List UInt8) : Eqv (addL (addL p q) r) (addL p (addL q r)) := fun k => by rw [co_add, co_add, co_add, co_add, add_assoc]
theorem addL_self (p : List UInt8) : Eqv (addL p p) [] := fun k => by rw [co_add, add_self, co_nil]
theorem addL_nil (p : List UInt8) : Eqv (addL p []) p := fun k => by rw [co_add, co_nil, add_zero]
theorem add_four (a b c d : UInt8) : addB (addB a b) (addB c d) = addB (addB a c) (addB b d) := by
  unfold addB
  ac_rfl
theorem addL_four (p q r s : List UInt8) : Eqv (addL (addL p q) (addL r s)) (addL (addL p r) (addL q s)) := fun k => by simp only [co_add]; exact add_four _ _ _ _
theorem scale_congr (a : UInt8) {p q : List UInt8} (h : Eqv p q) : Eqv (scaleL a p) (scaleL a q) := fun k => by rw [co_scale, co_scale, h k]
theorem scale_add (a : UInt8) (p q : List UInt8) : Eqv (scaleL a (addL p q)) (addL (scaleL a p) (scaleL a q)) := fun k => by simp only [co_scale, co_add, mul_add_right]
theorem scale_scale (a b : UInt8) (p : List UInt8) : Eqv (scaleL a (scaleL b p)) (scaleL (mulB a b) p) := fun k => by simp only [co_scale, mul_assoc]
theorem scale_cons (a b : UInt8) (p : List UInt8) : scaleL a (b :: p) = mulB a b :: scaleL a p := rfl
theorem scale_shift (a : UInt8) (p : List UInt8) : Eqv (scaleL a (0 :: p)) (0 :: scaleL a p) := by
  rw [scale_cons, mul_zero]
  exact Eqv.refl _
theorem scale_zero (p : List UInt8) : Eqv (scaleL 0 p) [] := fun k => by rw [co_scale, zero_mul, co_nil]
theorem scale_one (p : List UInt8) : scaleL 1 p = p := by
  unfold scaleL
  have : (mulB 1) = id := funext one_mul
  rw [this, List.map_id]
theorem shift_add (p q : List UInt8) : Eqv (0 :: addL p q) (addL (0 :: p) (0 :: q)) := fun k => by
  cases k with
  | zero => rfl
  | succ k => simp only [co_succ, co_add]
theorem mulL_nil : ∀ p : List UInt8, Eqv (mulL p []) []
  | [] => Eqv.refl _
  | a :: p => by
    rw [mulL]
    exact (add_congr (Eqv.refl _) (cons_nil (mulL_nil p))).trans (addL_nil _)
theorem mul_congr_right : ∀ (p : List UInt8) {q q' : List UInt8}, Eqv q q' → Eqv (mulL p q) (mulL p q')
  | [], _, _, _ => Eqv.refl _
  | a :: p, _, _, h => add_congr (scale_congr a h) ((mul_congr_right p h).cons 0)
theorem mulL_add_right : ∀ (p q r : List UInt8), Eqv (mulL p (addL q r)) (addL (mulL p q) (mulL p r))
  | [], q, r => Eqv.refl _
  | a :: p, q, r => by
    rw [mulL, mulL, mulL]
    exact (add_congr (scale_add a q r) (((mulL_add_right p q r).cons 0).trans (shift_add _ _))).trans (addL_four _ _ _ _)
theorem mulL_scale_right (b : UInt8) : ∀ (p q : List UInt8), Eqv (mulL p (scaleL b q)) (scaleL b (mulL p q))
  | [], q => Eqv.refl _
  | a :: p, q => by
    rw [mulL, mulL]
    refine (add_congr ?_ ((mulL_scale_right b p q).cons 0)).trans (Eqv.symm ((scale_add b _ _).trans (add_congr (Eqv.refl _) (scale_shift b _))))
    exact fun k => by simp only [co_scale, ← mul_assoc, mul_comm a b]
theorem mulL_shift_right : ∀ (p q : List UInt8), Eqv (mulL p (0 :: q)) (0 :: mulL p q)
  | [], q => zero_cons.symm
  | a :: p, q => by
    rw [mulL, mulL]
    exact (add_congr (scale_shift a q) ((mulL_shift_right p q).cons 0)).trans (shift_add _ _).symm
theorem mulL_one_right (b : UInt8) : ∀ p : List UInt8, Eqv (mulL p [b]) (scaleL b p)
  | [] => Eqv.refl _
  | a :: p => by
    rw [mulL]
    refine (add_congr (Eqv.refl _) ((mulL_one_right b p).cons 0)).trans (fun k => ?_)
    cases k with
    | zero => rw [co_add, co_scale, co_zero, co_zero, co_scale, co_zero, add_zero, mul_comm]
    | succ k => rw [co_add, co_scale, co_succ, co_nil, mul_zero, zero_add, co_succ, scale_cons, co_succ]
theorem cons_split (b : UInt8) (q : List UInt8) : Eqv (b :: q) (addL [b] (0 :: q)) := fun k => by
  cases k with
  | zero => rw [co_add, co_zero, co_zero, co_zero, add_zero]
  | succ k => rw [co_add, co_succ, co_succ, co_succ, co_nil, zero_add]
theorem mulL_cons_right (p : List UInt8) (b : UInt8) (q : List UInt8) : Eqv (mulL p (b :: q)) (addL (scaleL b p) (0 :: mulL p q)) :=
  ((mul_congr_right p (cons_split b q)).trans (mulL_add_right p _ _)).trans (add_congr (mulL_one_right b p) (mulL_shift_right p q))
theorem mulL_comm : ∀ p q : List UInt8, Eqv (mulL p q) (mulL q p)
  | [], q => (mulL_nil q).symm
  | a :: p, q => by
    rw [mulL]
    exact (add_congr (Eqv.refl _) ((mulL_comm p q).cons 0)).trans (mulL_cons_right q a p).symm
theorem mul_congr {p p' q q' : List UInt8} (h : Eqv p p') (g : Eqv q q') : Eqv (mulL p q) (mulL p' q') :=
  (mul_congr_right p g).trans ((mulL_comm p q').trans ((mul_congr_right q' h).trans (mulL_comm q' p')))
theorem mulL_add_left (p q r : List UInt8) : Eqv (mulL (addL p q) r) (addL (mulL p r) (mulL q r)) :=
  (mulL_comm _ _).trans ((mulL_add_right r p q).trans (add_congr (mulL_comm r p) (mulL_comm r q)))
theorem mulL_scale_left (b : UInt8) (p q : List UInt8) : Eqv (mulL (scaleL b p) q) (scaleL b (mulL p q)) :=
  (mulL_comm _ _).trans ((mulL_scale_right b q p).trans (scale_congr b (mulL_comm q p)))
theorem mulL_shift_left (p q : List UInt8) : Eqv (mulL (0 :: p) q) (0 :: mulL p q) :=
  (mulL_comm _ _).trans ((mulL_shift_right q p).trans ((mulL_comm q p).cons 0))
theorem mulL_assoc : ∀ p q r : List UInt8, Eqv (mulL (mulL p q) r) (mulL p (mulL q r))
  | [], q, r => Eqv.refl _
  | a :: p, q, r => by
    rw [mulL, mulL]
    exact (mulL_add_left _ _ _).trans (add_congr (mulL_scale_left a q r) ((mulL_shift_left _ _).trans ((mulL_assoc p q r).cons 0)))

/-! ### Values -/
def evalL : List UInt8 → UInt8 → UInt8
  | [], _ => 0
  | a :: p, x => addB a (mulB x (evalL p x))
theorem eval_nil : ∀ {q : List UInt8}, Eqv [] q → ∀ x, evalL q x = 0
  | [], _, _ => rfl
  | b :: q, h, x => by
    obtain ⟨h0, h1⟩ := h.nil_cons
    rw [evalL, h0, eval_nil h1 x, mul_zero, zero_add]
theorem eval_congr : ∀ {p q : List UInt8}, Eqv p q → ∀ x, evalL p x = evalL q x
  | [], q, h, x => (eval_nil h x).symm
  | a :: p, [], h, x => eval_nil h.symm x
  | a :: p, b :: q, h, x => by
    obtain ⟨h0, h1⟩ := h.tail
    rw [evalL, evalL, h0, eval_congr h1 x]
theorem eval_add : ∀ (p q : List UInt8) (x : UInt8), evalL (addL p q) x = addB (evalL p x) (evalL q x)
  | [], q, x => by rw [addL, evalL, zero_add]
  | a :: p, [], x => by rw [addL, evalL, add_zero]
  | a :: p, b :: q, x => by rw [addL, evalL, evalL, evalL, eval_add p q x, mul_add_right, add_four]
theorem eval_scale (b : UInt8) : ∀ (p : List UInt8) (x : UInt8), evalL (scaleL b p) x = mulB b (evalL p x)
  | [], x => by rw [scaleL, List.map_nil, evalL, mul_zero]
  | a :: p, x => by
    have ih := eval_scale b p x
    rw [scale_cons, evalL, evalL, ih, mul_add_right, ← mul_assoc, ← mul_assoc, mul_comm x b]
theorem eval_mul : ∀ (p q : List UInt8) (x : UInt8), evalL (mulL p q) x = mulB (evalL p x) (evalL q x)
  | [], q, x => by rw [mulL, evalL, zero_mul]
  | a :: p, q, x => by rw [mulL, eval_add, eval_scale, evalL, evalL, zero_add, eval_mul p q x, mul_add_left, mul_assoc]
theorem eval_snoc (a : UInt8) (x : UInt8) : ∀ p : List UInt8, evalL (p ++ [a]) x = addB (evalL p x) (mulB a (powB x p.length))
  | [] => by
    rw [List.nil_append, evalL, evalL, evalL, mul_zero, add_zero, zero_add]
    exact (mul_one a).symm
  | b :: p => by
    have hp : powB x (p.length + 1) = mulB (powB x p.length) x := rfl
    rw [List.cons_append, evalL, evalL, eval_snoc a x p, List.length_cons, hp, mul_add_right, ← add_assoc, mul_comm (powB x p.length) x, ← mul_assoc, ← mul_assoc, mul_comm a x]

/-! ### Plain forms -/
def plainL : List UInt8 → List UInt8
  | [] => []
  | a :: p => if plainL p = [] ∧ a = 0 then [] else a :: plainL p
theorem plain_eqv : ∀ p : List UInt8, Eqv (plainL p) p
  | [] => Eqv.refl _
  | a :: p => by
    rw [plainL]
    split
    · next h =>
      have := plain_eqv p
      rw [h.1] at this
      rw [h.2]
      exact (cons_nil this.symm).symm
    · exact (plain_eqv p).cons a
theorem plain_nil : ∀ {q : List UInt8}, Eqv [] q → plainL q = []
  | [], _ => rfl
  | b :: q, h => by
    obtain ⟨h0, h1⟩ := h.nil_cons
    rw [plainL, if_pos ⟨plain_nil h1, h0⟩]
theorem plain_congr : ∀ {p q : List UInt8}, Eqv p q → plainL p = plainL q
  | [], q, h => (plain_nil h).symm
  | a :: p, [], h => plain_nil h.symm
  | a :: p, b :: q, h => by
    obtain ⟨h0, h1⟩ := h.tail
    rw [plainL, plainL, h0, plain_congr h1]
theorem plain_iff {p q : List UInt8} : plainL p = plainL q ↔ Eqv p q := ⟨fun h => (plain_eqv p).symm.trans (h ▸ plain_eqv q), plain_congr⟩
theorem plain_plain (p : List UInt8) : plainL (plainL p) = plainL p := plain_congr (plain_eqv p)
theorem plain_top : ∀ p : List UInt8, plainL p ≠ [] → co p ((plainL p).length - 1) ≠ 0
  | [], h => absurd rfl h
  | a :: p, h => by
    rw [plainL] at h ⊢
    split
    · next hc => rw [if_pos hc] at h; exact absurd rfl h
    · next hc =>
      by_cases hp : plainL p = []
      · rw [hp]
        exact fun e => hc ⟨hp, e⟩
      · have ih := plain_top p hp
        have hl : 0 < (plainL p).length := List.length_pos_iff.2 hp
        rw [List.length_cons, Nat.add_sub_cancel]
        have e : (plainL p).length = ((plainL p).length - 1) + 1 := by omega
        rw [e, co_succ]
        exact ih
theorem plain_ge (p : List UInt8) (k : Nat) (h : (plainL p).length ≤ k) : co p k = 0 := by rw [← plain_eqv p k, co_ge _ _ h]
theorem plain_le_iff (p : List UInt8) (n : Nat) : (plainL p).length ≤ n ↔ ∀ k, n ≤ k → co p k = 0 := by
  constructor
  · intro h k hk
    exact plain_ge p k (by omega)
  · intro h
    rcases Nat.lt_or_ge n (plainL p).length with hlt | hge
    · exact absurd (h ((plainL p).length - 1) (by omega)) (plain_top p (by intro e; rw [e] at hlt; simp at hlt))
    · exact hge
theorem plain_len (p : List UInt8) : (plainL p).length ≤ p.length := (plain_le_iff p _).2 fun k hk => co_ge p k hk
/-- The plain form is the beginning, up to the last one that isn't 0. -/
theorem plain_take (p : List UInt8) (n : Nat) (hn : n ≤ p.length) (hz : ∀ k, n ≤ k → co p k = 0) (ht : n = 0 ∨ co p (n - 1) ≠ 0) : plainL p = p.take n := by
  have hle := (plain_le_iff p n).2 hz
  have hl : (plainL p).length = n := by
    rcases ht with rfl | ht
    · omega
    · rcases Nat.lt_or_ge (plainL p).length n with h | h
      · exact absurd (plain_ge p (n - 1) (by omega)) ht
      · omega
  apply List.ext_getElem
  · rw [hl, List.length_take]
    omega
  · intro i h1 h2
    have e := plain_eqv p i
    have h3 : i < p.length := by rw [List.length_take] at h2; omega
    rw [co_lt _ _ h1, co_lt _ _ h3] at e
    rw [List.getElem_take]
    exact e
theorem plain_of_top (p : List UInt8) (h : p = [] ∨ co p (p.length - 1) ≠ 0) : plainL p = p := by
  have := plain_take p p.length (Nat.le_refl _) (fun k hk => co_ge p k hk) (by
    rcases h with rfl | h
    · exact .inl rfl
    · exact .inr h)
  rwa [List.take_length] at this

/-! ### Degrees of products -/
theorem addL_length : ∀ p q : List UInt8, (addL p q).length = max p.length q.length
  | [], q => by simp [addL]
  | a :: p, [] => by simp [addL]
  | a :: p, b :: q => by
    have := addL_length p q
    simp only [addL, List.length_cons, this]
    omega
theorem mulL_length : ∀ (p q : List UInt8), p ≠ [] → q ≠ [] → (mulL p q).length = p.length + q.length - 1
  | [], q, h, _ => absurd rfl h
  | [a], q, _, hq => by
    have : 0 < q.length := List.length_pos_iff.2 hq
    simp [mulL, addL_length, scaleL]
    omega
  | a :: b :: p, q, _, hq => by
    have ih := mulL_length (b :: p) q (by simp) hq
    have : 0 < q.length := List.length_pos_iff.2 hq
    rw [mulL, addL_length, scaleL, List.length_map, List.length_cons, ih]
    simp only [List.length_cons]
    omega
theorem mulL_top : ∀ (p q : List UInt8), p ≠ [] → q ≠ [] → co (mulL p q) (p.length + q.length - 2) = mulB (co p (p.length - 1)) (co q (q.length - 1))
  | [], q, h, _ => absurd rfl h
  | [a], q, _, hq => by
    have : 0 < q.length := List.length_pos_iff.2 hq
    rw [mulL, mulL, co_add, co_scale, zero_cons, co_nil, add_zero, List.length_singleton, show 1 + q.length - 2 = q.length - 1 by omega]
    rfl
  | a :: b :: p, q, _, hq => by
    have ih := mulL_top (b :: p) q (by simp) hq
    have : 0 < q.length := List.length_pos_iff.2 hq
    have e : (a :: b :: p).length + q.length - 2 = ((b :: p).length + q.length - 2) + 1 := by simp only [List.length_cons]; omega
    rw [mulL, co_add, co_scale, e, co_succ, ih, co_ge q _ (by simp only [List.length_cons]; omega), mul_zero, zero_add]
    rfl
theorem mul_plain_len (p q : List UInt8) (hp : plainL p ≠ []) (hq : plainL q ≠ []) : (plainL (mulL p q)).length = (plainL p).length + (plainL q).length - 1 := by
  have h1 : 0 < (plainL p).length := List.length_pos_iff.2 hp
  have h2 : 0 < (plainL q).length := List.length_pos_iff.2 hq
  have e : plainL (mulL p q) = plainL (mulL (plainL p) (plainL q)) := plain_congr (mul_congr (plain_eqv p).symm (plain_eqv q).symm)
  have hlen := mulL_length _ _ hp hq
  have htop := mulL_top _ _ hp hq
  have hn : co (mulL (plainL p) (plainL q)) ((plainL p).length + (plainL q).length - 2) ≠ 0 := by
    rw [htop, plain_eqv p, plain_eqv q]
    exact mul_ne _ _ (plain_top p hp) (plain_top q hq)
  rw [e, plain_of_top _ (.inr (by rw [hlen, show (plainL p).length + (plainL q).length - 1 - 1 = (plainL p).length + (plainL q).length - 2 by omega]; exact hn)), hlen]
theorem mul_plain_nil {p q : List UInt8} (h : plainL (mulL p q) = []) : plainL p = [] ∨ plainL q = [] := by
  by_cases hp : plainL p = []
  · exact .inl hp
  · by_cases hq : plainL q = []
    · exact .inr hq
    · have := mul_plain_len p q hp hq
      rw [h] at this
      have h1 : 0 < (plainL p).length := List.length_pos_iff.2 hp
      have h2 : 0 < (plainL q).length := List.length_pos_iff.2 hq
      simp at this
      omega

/-! ### Division -/
/-- So often is q in p, and that is left. -/
def IsQuo (p q a r : List UInt8) : Prop := Eqv (addL (mulL a q) r) p ∧ (plainL r).length < (plainL q).length
theorem plain_add_len (p q : List UInt8) : (plainL (addL p q)).length ≤ max (plainL p).length (plainL q).length :=
  (plain_le_iff _ _).2 fun k hk => by rw [co_add, plain_ge p k (by omega), plain_ge q k (by omega), add_zero]
theorem add_cancel {p q : List UInt8} (h : Eqv (addL p q) []) : Eqv p q := fun k => by
  have := h k
  rw [co_add, co_nil] at this
  have e : addB (addB (co p k) (co q k)) (co q k) = addB 0 (co q k) := by rw [this]
  rwa [add_assoc, add_self, add_zero, zero_add] at e
theorem quo_unique {p q a r b s : List UInt8} (h : IsQuo p q a r) (g : IsQuo p q b s) : Eqv a b ∧ Eqv r s := by
  have hq : plainL q ≠ [] := by
    intro e
    have := h.2
    rw [e] at this
    simp at this
  have e1 : Eqv (addL (addL (mulL a q) r) (addL (mulL b q) s)) [] := (add_congr h.1 g.1).trans (addL_self p)
  have e2 : Eqv (addL (mulL (addL a b) q) (addL r s)) [] := ((add_congr (mulL_add_left a b q) (Eqv.refl _)).trans (addL_four _ _ _ _)).trans e1
  have e3 : Eqv (mulL (addL a b) q) (addL r s) := add_cancel e2
  have hab : plainL (addL a b) = [] := by
    by_cases hn : plainL (addL a b) = []
    · exact hn
    · have h1 := mul_plain_len _ _ hn hq
      rw [plain_congr e3] at h1
      have h2 := plain_add_len r s
      have h3 := h.2
      have h4 := g.2
      have h5 : 0 < (plainL (addL a b)).length := List.length_pos_iff.2 hn
      omega
  have e4 : Eqv (addL a b) [] := (plain_eqv _).symm.trans (by rw [hab]; exact Eqv.refl _)
  refine ⟨add_cancel e4, ?_⟩
  have e5 : Eqv (mulL (addL a b) q) [] := (mul_congr e4 (Eqv.refl q)).trans (Eqv.refl _)
  exact add_cancel (e3.symm.trans e5)

/-! ### Slopes -/
def slopeL : List UInt8 → List UInt8
  | [] => []
  | _ :: p => addL p (0 :: slopeL p)
theorem co_slope : ∀ (p : List UInt8) (k : Nat), co (slopeL p) k = if k % 2 = 0 then co p (k + 1) else 0
  | [], k => by rw [slopeL, co_nil, co_nil]; split <;> rfl
  | a :: p, 0 => by
    rw [slopeL, co_add, co_zero, add_zero, co_succ]
    rfl
  | a :: p, k + 1 => by
    rw [slopeL, co_add, co_succ, co_slope p k, co_succ]
    by_cases h : k % 2 = 0
    · rw [if_pos h, if_neg (by omega), add_self]
    · rw [if_neg h, if_pos (by omega), add_zero]
theorem slope_congr {p q : List UInt8} (h : Eqv p q) : Eqv (slopeL p) (slopeL q) := fun k => by rw [co_slope, co_slope, h (k + 1)]
theorem slope_add (p q : List UInt8) : Eqv (slopeL (addL p q)) (addL (slopeL p) (slopeL q)) := fun k => by
  rw [co_slope, co_add, co_add, co_slope, co_slope]
  split
  · rfl
  · rw [add_zero]
theorem slope_scale (a : UInt8) (p : List UInt8) : Eqv (slopeL (scaleL a p)) (scaleL a (slopeL p)) := fun k => by
  rw [co_slope, co_scale, co_scale, co_slope]
  split
  · rfl
  · rw [mul_zero]
theorem slope_mul : ∀ p q : List UInt8, Eqv (slopeL (mulL p q)) (addL (mulL (slopeL p) q) (mulL p (slopeL q)))
  | [], q => Eqv.refl _
  | a :: p, q => by
    have ih := slope_mul p q
    have l1 : Eqv (slopeL (mulL (a :: p) q)) (addL (scaleL a (slopeL q)) (addL (mulL p q) (0 :: addL (mulL (slopeL p) q) (mulL p (slopeL q))))) := by
      rw [mulL]
      refine (slope_add _ _).trans (add_congr (slope_scale a q) ?_)
      rw [slopeL]
      exact add_congr (Eqv.refl _) (ih.cons 0)
    have l2 : Eqv (mulL (slopeL (a :: p)) q) (addL (mulL p q) (0 :: mulL (slopeL p) q)) := by
      rw [slopeL]
      exact (mulL_add_left _ _ _).trans (add_congr (Eqv.refl _) (mulL_shift_left _ _))
    refine l1.trans (Eqv.trans ?_ (add_congr l2.symm (Eqv.refl _)))
    rw [mulL]
    refine (add_congr (Eqv.refl _) (add_congr (Eqv.refl _) (shift_add _ _))).trans (fun k => ?_)
    simp only [co_add]
    unfold addB
    ac_rfl
end Go.Proofs.YteppocjgodmpdaaGreatDoor
/-
  Rows of the call's own: their form, what is left of them behind other steps, two that stay apart, one known whole; one step more for plans (no program is named here). No conditions but those typed.
-/
namespace Go.Proofs.YteppocjgodmpdaaGreatDoor
set_option maxRecDepth 100000
open Go.RowKit
set_option linter.unusedSimpArgs false
set_option linter.unusedVariables false

theorem ownsRow_same {w w' : World} {base : Nat} {e : TypeId} {v : Value} {n : Nat} {xs : List Value} (h : w.ownsRow base e 1 v n xs) (hh : ∀ b, base ≤ b → b < w.heap.size → w'.heap[b]? = w.heap[b]?) : w'.ownsRow base e 1 v n xs := by
  refine ⟨h.1, ?_⟩
  rcases h.2 with h0 | ⟨g, cap, cur, hv, hg, hc, r⟩
  · exact .inl h0
  · exact .inr ⟨g, cap, cur, hv, hg, (hh g hg (Array.getElem?_eq_some_iff.1 hc).1).trans hc, r⟩
theorem ownsRow_later {w w' : World} {base : Nat} {e : TypeId} {v : Value} {n : Nat} {xs : List Value} (h : w.ownsRow base e 1 v n xs) (hb : Below w.heap.size w w') : w'.ownsRow base e 1 v n xs := ownsRow_same h (fun b _ hb' => hb.block b hb')
theorem Rd.grown {α : Type} {f : α → Value} {w w' : World} {row : Option Nat} {A : Option Addr} {L : List α} (h : Rd f w A L) (hg : w.grownBy w' row) (hA : ∀ a, A = some a → row ≠ some a.block) : Rd f w' A L := fun hn => by
  obtain ⟨b, o, rfl, hc⟩ := h hn
  refine ⟨b, o, rfl, fun i hi => ?_⟩
  obtain ⟨_, _, _, _, h5⟩ := hg
  have hk := hc i hi
  have hlt : b < w.heap.size := World.block_lt_of_cell? w _ hk
  exact (World.cell?_of_block (w := w) (a := ⟨b, o + i, none⟩) (h5 b hlt (fun e => hA ⟨b, o, none⟩ rfl e.symm))).trans hk
theorem own_slice {α : Type} {f : α → Value} {w : World} {base : Nat} {e : TypeId} {v : Value} {l : List α} (h : w.ownsRow base e 1 v l.length (l.map f)) : ∃ A cap, v = .slice A l.length cap ∧ l.length ≤ cap ∧ Rd f w A l := by
  rcases h.2 with ⟨rfl, h0⟩ | ⟨g, cap, cur, rfl, _, _, hc, _⟩
  · have hl : l = [] := List.eq_nil_of_length_eq_zero h0
    subst hl
    exact ⟨none, 0, rfl, Nat.le_refl _, Rd.nil⟩
  · exact ⟨_, cap, rfl, hc, Rd.own h⟩

theorem Row.range_part {w : World} {g : Nat} {t : TypeId} {l : List Value} (h : Row w g t l) (o : Nat) (m : List Value) (hm : (l.drop o).take m.length = m) : w.rangeAt g o m := fun j v hv => by
  have hj : j < m.length := (List.getElem?_eq_some_iff.1 hv).1
  have := congrArg (·[j]?) hm
  simp only [List.getElem?_take, List.getElem?_drop, hj, if_true] at this
  exact h.cell (this.trans hv)

theorem own_form {w : World} {base : Nat} {e : TypeId} {v : Value} {n : Nat} {xs : List Value} (h : w.ownsRow base e 1 v n xs) : ∃ A cap, v = .slice A n cap ∧ n ≤ cap := by
  rcases h.2 with ⟨rfl, rfl⟩ | ⟨g, cap, cur, rfl, _, _, hc, _⟩
  · exact ⟨none, 0, rfl, Nat.le_refl _⟩
  · exact ⟨_, cap, rfl, hc⟩

theorem apart_symm {u v : Value} (h : u.ownBlock = none ∨ u.ownBlock ≠ v.ownBlock) : v.ownBlock = none ∨ v.ownBlock ≠ u.ownBlock := by
  rcases h with h | h
  · by_cases hv : v.ownBlock = none
    · exact .inl hv
    · exact .inr (by rw [h]; exact hv)
  · exact .inr (Ne.symm h)
/-- Apart, behind the growth of the second one. -/
theorem apart_grown {w : World} {base : Nat} {e : TypeId} {u v v' : Value} {n : Nat} {xs : List Value} (h : u.ownBlock = none ∨ u.ownBlock ≠ v.ownBlock) (ho : w.ownsRow base e 1 u n xs) (hat : v'.ownBlock = v.ownBlock ∨ v'.ownBlock = some w.heap.size) : u.ownBlock = none ∨ u.ownBlock ≠ v'.ownBlock := by
  rcases hat with hat | hat
  · rw [hat]; exact h
  · right
    rw [hat]
    intro hu
    have := (ho.lt _ hu).2
    omega
section
variable {P : Program} {ops : Array Oper} {Q : Exit → Act → World → Prop}
/-- One that makes memory; behind it a condition of one's own, which may speak of the new world. -/
theorem plan_make_to {i : Nat} {rest : Plan} {S : World → Prop} {o : Oper} {a : Act} {w : World} (ho : ops[i]? = some o) (hw : Region.wanted o (yielded ops a.tmps) = true)
    (h : ∀ K : Act → World → Prop, Shut (∀ (T : World → Prop) a' w', (∀ W, T W → S W) → T w' → wpPlan P ops Q rest T a' w' → K a' w') → o.wp P a w K Q) : wpPlan P ops Q (.step i true rest) S a w :=
  ⟨o, ho, .inr (.inr ⟨hw, rfl, h _ (fun T _ _ hT hb hr => ⟨T, hT, hb, hr⟩)⟩)⟩
end

/-- A row of the call's own, one place of it set. -/
theorem own_set {α : Type} {f : α → Value} {w : World} {base : Nat} {e : TypeId} {v : Value} {l : List α} {q : Nat} (h : w.ownsRow base e 1 v l.length (l.map f)) (hq : q < l.length) :
    ∃ g cap, v = .slice (some ⟨g, 0, none⟩) l.length cap ∧ base ≤ g ∧ g < w.heap.size ∧ l.length ≤ cap ∧ w.cell? ⟨g, q, none⟩ = some (f l[q]) ∧ w.frozen? ⟨g, q, none⟩ = false ∧ ∀ z : α, Rd f (w.setCell ⟨g, q, none⟩ (f z)) (some ⟨g, 0, none⟩) (l.set q z) := by
  rcases h.2 with ⟨rfl, h0⟩ | ⟨g, cap, cur, rfl, hg, hgg, hc, hm, hs, ht⟩
  · omega
  · have hR : Row w g e cur.toList := hgg
    rw [Nat.mul_one] at ht
    have hcell : w.cell? ⟨g, q, none⟩ = some (f l[q]) := by
      rw [hR.cell? q]
      have := congrArg (·[q]?) ht
      simpa [List.getElem?_take, hq] using this
    refine ⟨g, cap, rfl, hg, hR.lt, hc, hcell, hR.frozen _, fun z => ?_⟩
    refine Row.rd_at (hR.setCell q (f z)) ?_
    rw [List.drop_zero, List.length_set, List.take_set, ht, List.map_set]
end Go.Proofs.YteppocjgodmpdaaGreatDoor
/-
  Worlds in which all but one block lies as it lay; a row of cells in a new block (no program is named here). No conditions but those typed.
-/
namespace Go.Proofs.YteppocjgodmpdaaGreatDoor
set_option maxRecDepth 100000
open Go.RowKit
set_option linter.unusedSimpArgs false
set_option linter.unusedVariables false

/-! ### All but one block lies as it lay -/
structure Only (g : Nat) (w w' : World) : Prop where
  below : Below g w w'
  other : ∀ b, b ≠ g → b < w.heap.size → w'.heap[b]? = w.heap[b]?
theorem Only.refl (g : Nat) (w : World) : Only g w w := ⟨Below.refl _ _, fun _ _ _ => rfl⟩
theorem Only.trans {g : Nat} {a b c : World} (h : Only g a b) (k : Only g b c) : Only g a c :=
  ⟨h.below.trans k.below, fun x hx hl => (k.other x hx (Nat.lt_of_lt_of_le hl h.below.size)).trans (h.other x hx hl)⟩
theorem Only.drew {g : Nat} {a w : World} (h : Only g a w) : Only g a w.drew := ⟨h.below.drew, h.other⟩
theorem Only.setCell {g : Nat} {a w : World} (h : Only g a w) (i : Nat) (v : Value) : Only g a (w.setCell ⟨g, i, none⟩ v) :=
  ⟨h.below.setCell (p := ⟨g, i, none⟩) (Nat.le_refl _) v, fun b hb hl => (Below.heap_setCell w ⟨g, i, none⟩ v b hb).trans (h.other b hb hl)⟩
theorem Only.later {g : Nat} {w w' : World} (h : Below w.heap.size w w') (hg : g ≤ w.heap.size) : Only g w w' := ⟨h.mono hg, fun b _ hl => h.block b hl⟩
theorem Only.fresh {g : Nat} {w w' : World} (h : Only g w w') (hg : w.heap.size ≤ g) : Below w.heap.size w w' := h.below.mono hg
theorem Rd.only {α : Type} {f : α → Value} {g : Nat} {w w' : World} {A : Option Addr} {l : List α} (h : Rd f w A l) (k : Only g w w') (hA : l ≠ [] → ∀ a, A = some a → a.block ≠ g) : Rd f w' A l := fun hn => by
  obtain ⟨b, o, rfl, hc⟩ := h hn
  refine ⟨b, o, rfl, fun i hi => ?_⟩
  have h1 := hc i hi
  exact (World.cell?_of_block (w := w) (a := ⟨b, o + i, none⟩) (k.other b (hA hn _ rfl) (World.block_lt_of_cell? w _ h1))).trans h1
theorem Rd.off {α : Type} {f : α → Value} {w : World} {A : Option Addr} {l : List α} (h : Rd f w A l) : l ≠ [] → ∀ a, A = some a → a.block < w.heap.size := fun hn a ha => by
  obtain ⟨b, o, e1, hcell⟩ := h hn
  rw [ha] at e1
  injection e1 with e1
  subst e1
  exact World.block_lt_of_cell? w _ (hcell 0 (List.length_pos_iff.2 hn))
theorem Rd.apart {α : Type} {f : α → Value} {w : World} {A : Option Addr} {l : List α} (h : Rd f w A l) {g : Nat} (hg : w.heap.size ≤ g) : l ≠ [] → ∀ a, A = some a → a.block ≠ g := fun hn a ha => by
  have := h.off hn a ha
  omega
theorem Boxed.only {g q : Nat} {w w' : World} {t : TypeId} {v : Value} (h : Boxed w q t v) (k : Only g w w') (hq : q ≠ g) : Boxed w' q t v := (k.other q hq h.lt).trans h
theorem Only.setRow {g : Nat} {a w : World} (h : Only g a w) (cs : Array Value) : Only g a (w.setRow g cs) :=
  ⟨below_setRow h.below (Nat.le_refl _) cs, fun b hb hl => (Go.setRow_other w g b cs hb).trans (h.other b hb hl)⟩
theorem Row.only {g q : Nat} {w w' : World} {t : TypeId} {l : List Value} (h : Row w q t l) (k : Only g w w') (hq : q ≠ g) : Row w' q t l := (k.other q hq h.lt).trans h
theorem box_of (w : World) (ty : TypeId) (l : List Value) (cs : Array Value) (h : cs = l.toArray) : Row (w.alloc (.cells cs ty)) w.heap.size ty l ∧ Below w.heap.size w (w.alloc (.cells cs ty)) := ⟨Row.new w ty _ _ h, below_new (Below.refl _ _) _⟩
end Go.Proofs.YteppocjgodmpdaaGreatDoor
/-
  A block whose first cells are bytes, and worlds in which all but one block lies as it lay (no program is named here). No conditions but those typed.
-/
namespace Go.Proofs.YteppocjgodmpdaaGreatDoor
set_option maxRecDepth 100000
open Go.RowKit
set_option linter.unusedSimpArgs false
set_option linter.unusedVariables false

/-! ### A block whose first cells are bytes -/
def Cel (w : World) (g : Nat) (e : TypeId) (l : List UInt8) : Prop := ∃ L, Row w g e L ∧ L.take l.length = l.map vB
section
variable {w w' : World} {g : Nat} {e : TypeId} {l : List UInt8}
theorem Cel.lt (h : Cel w g e l) : g < w.heap.size := by
  obtain ⟨L, h1, _⟩ := h
  exact h1.lt
theorem Cel.get (h : Cel w g e l) (i : Nat) (hi : i < l.length) : w.cell? ⟨g, i, none⟩ = some (.int .u8 ((co l i).toNat : Int)) := by
  obtain ⟨L, h1, h2⟩ := h
  rw [h1.cell? i, co_lt l i hi]
  have := congrArg (·[i]?) h2
  simp only [List.getElem?_take, hi, if_true, List.getElem?_map, List.getElem?_eq_getElem hi] at this
  exact this
theorem Cel.frozen (h : Cel w g e l) (i : Nat) : w.frozen? ⟨g, i, none⟩ = false := by
  obtain ⟨L, h1, _⟩ := h
  exact h1.frozen i
theorem Cel.set (h : Cel w g e l) (i : Nat) (z : UInt8) : Cel (w.setCell ⟨g, i, none⟩ (.int .u8 (z.toNat : Int))) g e (l.set i z) := by
  obtain ⟨L, h1, h2⟩ := h
  refine ⟨_, h1.setCell i (.int .u8 (z.toNat : Int)), ?_⟩
  rw [List.length_set, List.take_set, h2, List.map_set]
  rfl
theorem Cel.later (h : Cel w g e l) (hb : Below w.heap.size w w') : Cel w' g e l := by
  obtain ⟨L, h1, h2⟩ := h
  exact ⟨L, h1.later hb, h2⟩
theorem Cel.drew (h : Cel w g e l) : Cel w.drew g e l := h
theorem Cel.rd (h : Cel w g e l) : Rd vB w (some ⟨g, 0, none⟩) l := fun hn => ⟨g, 0, rfl, fun i hi => by rw [Nat.zero_add, h.get i hi, co_lt l i hi]; rfl⟩
theorem cel_of_own {base cap n : Nat} {A : Option Addr} (h : w.ownsRow base e 1 (.slice A n cap) n (l.map vB)) (hl : l.length = n) (hn : 0 < n) : ∃ g, A = some ⟨g, 0, none⟩ ∧ base ≤ g ∧ Cel w g e l := by
  rcases h.2 with ⟨_, h0⟩ | ⟨g, cap', cur, hv, hg, hgg, hc, hm, hs, ht⟩
  · omega
  · have hR : Row w g e cur.toList := hgg
    injection hv with e1 e2 e3
    rw [Nat.mul_one] at ht
    exact ⟨g, e1, hg, cur.toList, hR, by rw [hl]; exact ht⟩
end


/-- .. and the block has cap cells. -/
def CelN (w : World) (g : Nat) (e : TypeId) (cap : Nat) (l : List UInt8) : Prop := ∃ L, Row w g e L ∧ L.length = cap ∧ L.take l.length = l.map vB
theorem CelN.cel {w : World} {g : Nat} {e : TypeId} {cap : Nat} {l : List UInt8} (h : CelN w g e cap l) : Cel w g e l := by
  obtain ⟨L, h1, _, h2⟩ := h
  exact ⟨L, h1, h2⟩
theorem Cel.some_cap {w : World} {g : Nat} {e : TypeId} {l : List UInt8} (h : Cel w g e l) : ∃ cap, CelN w g e cap l := by
  obtain ⟨L, h1, h2⟩ := h
  exact ⟨L.length, L, h1, rfl, h2⟩
theorem CelN.drew {w : World} {g : Nat} {e : TypeId} {cap : Nat} {l : List UInt8} (h : CelN w g e cap l) : CelN w.drew g e cap l := h
theorem CelN.set {w : World} {g : Nat} {e : TypeId} {cap : Nat} {l : List UInt8} (h : CelN w g e cap l) (i : Nat) (z : UInt8) : CelN (w.setCell ⟨g, i, none⟩ (.int .u8 (z.toNat : Int))) g e cap (l.set i z) := by
  obtain ⟨L, h1, h3, h2⟩ := h
  refine ⟨_, h1.setCell i (.int .u8 (z.toNat : Int)), by rw [List.length_set]; exact h3, ?_⟩
  rw [List.length_set, List.take_set, h2, List.map_set]
  rfl
theorem celN_some {w : World} {e : TypeId} {l : List UInt8} {base cap n g : Nat} (h : w.ownsRow base e 1 (.slice (some ⟨g, 0, none⟩) n cap) n (l.map vB)) (hl : l.length = n) : CelN w g e cap l ∧ base ≤ g ∧ n ≤ cap ∧ cap ≤ maxLen := by
  rcases h.2 with ⟨e0, _⟩ | ⟨g', cap', cur, hv, hg, hgg, hc, hm, hs, ht⟩
  · cases e0
  · have hR : Row w g' e cur.toList := hgg
    injection hv with e1 e2 e3
    injection e1 with e1
    injection e1 with e1
    subst e1 e3
    rw [Nat.mul_one] at ht
    exact ⟨⟨cur.toList, hR, by rw [Array.length_toList, hs, Nat.mul_one], by rw [hl]; exact ht⟩, hg, hc, hm⟩
theorem CelN.own {w : World} {e : TypeId} {l : List UInt8} {g cap base : Nat} (h : CelN w g e cap l) (hb : base ≤ g) (hl : l.length ≤ cap) (hm : cap ≤ maxLen) : w.ownsRow base e 1 (.slice (some ⟨g, 0, none⟩) l.length cap) l.length (l.map vB) := by
  obtain ⟨L, h1, h3, h2⟩ := h
  exact ⟨by rw [List.length_map, Nat.mul_one], .inr ⟨g, cap, L.toArray, rfl, hb, h1, hl, hm, by rw [List.size_toArray, h3, Nat.mul_one], by rw [Nat.mul_one]; exact h2⟩⟩

theorem Cel.only {g q : Nat} {w w' : World} {e : TypeId} {l : List UInt8} (h : Cel w q e l) (k : Only g w w') (hq : q ≠ g) : Cel w' q e l := by
  have hlt := h.lt
  obtain ⟨L, h1, h2⟩ := h
  exact ⟨L, (k.other q hq hlt).trans h1, h2⟩
theorem Only.keeps {g : Nat} {w w' : World} {e : TypeId} {l : List UInt8} (h : Only g w w') (hc : Cel w g e l) (B : Nat) : KeepsFrom B w w' := by
  obtain ⟨L, h1, _⟩ := hc
  refine ⟨h.below.size, fun k o _ hk ho => ?_⟩
  by_cases e : k = g
  · subst e
    have h1' : w.heap[k]? = some (.cells L.toArray _ (0, 0)) := h1
    rw [h1'] at hk
    injection hk with hk
    subst hk
    cases ho
  · exact (h.other k e (Array.getElem?_eq_some_iff.1 hk).1).trans hk
/-- A slice of bytes that lies in a block of the call's own from its first cell on. -/
theorem cel_new {w : World} {e : TypeId} {n : Nat} : Cel (w.alloc (.cells (List.replicate n (Value.int .u8 0)).toArray e)) w.heap.size e (List.replicate n 0) :=
  ⟨_, Row.new w e _ _ rfl, by rw [List.length_replicate, List.take_of_length_le (by rw [List.length_replicate]; exact Nat.le_refl _), List.map_replicate]; rfl⟩
theorem Cel.rd_from {w : World} {g : Nat} {e : TypeId} {l : List UInt8} (h : Cel w g e l) (o n : Nat) (hn : o + n ≤ l.length) : Rd vB w (some ⟨g, o, none⟩) ((l.drop o).take n) := fun _ => ⟨g, o, rfl, fun i hi => by
  rw [List.length_take, List.length_drop] at hi
  have hj : o + i < l.length := by omega
  rw [h.get (o + i) hj, co_lt l (o + i) hj, List.getElem_take, List.getElem_drop]
  rfl⟩

theorem cel_some {w : World} {e : TypeId} {l : List UInt8} {base cap n g : Nat} (h : w.ownsRow base e 1 (.slice (some ⟨g, 0, none⟩) n cap) n (l.map vB)) (hl : l.length = n) : Cel w g e l ∧ base ≤ g ∧ n ≤ cap := by
  rcases h.2 with ⟨e0, _⟩ | ⟨g', cap', cur, hv, hg, hgg, hc, hm, hs, ht⟩
  · cases e0
  · have hR : Row w g' e cur.toList := hgg
    injection hv with e1 e2 e3
    injection e1 with e1
    injection e1 with e1
    subst e1
    rw [Nat.mul_one] at ht
    exact ⟨⟨cur.toList, hR, by rw [hl]; exact ht⟩, hg, by omega⟩
theorem zeros_map (n : Nat) : (List.replicate n (Value.int .u8 0)) = (List.replicate n (0 : UInt8)).map vB := by
  rw [List.map_replicate]
  rfl
/-- The cells that a copy leaves. -/
theorem cel_splice {l : List UInt8} {L : List Value} (hL : L.take l.length = l.map vB) (off : Nat) (S : List UInt8) (h : off + S.length ≤ l.length) :
    (L.take off ++ S.map vB ++ L.drop (off + S.length)).take (l.take off ++ S ++ l.drop (off + S.length)).length = (l.take off ++ S ++ l.drop (off + S.length)).map vB := by
  have hlen : l.length ≤ L.length := by
    have := congrArg List.length hL
    rw [List.length_take, List.length_map] at this
    omega
  have h1 : L.take off = (l.take off).map vB := by
    rw [List.map_take, ← hL, List.take_take, Nat.min_eq_left (by omega)]
  have h2 : (L.drop (off + S.length)).take (l.length - (off + S.length)) = (l.drop (off + S.length)).map vB := by
    rw [List.map_drop, ← hL, List.drop_take]
  have h3 : (L.take off ++ S.map vB).length = off + S.length := by rw [List.length_append, List.length_take, List.length_map]; omega
  have h4 : (l.take off ++ S ++ l.drop (off + S.length)).length = l.length := by
    rw [List.length_append, List.length_append, List.length_take, List.length_drop]
    omega
  rw [h4, List.take_append, h3, List.take_of_length_le (by omega), h2, h1, List.map_append, List.map_append]
/-- 'copy(d, s)' into a block whose first cells are bytes. -/
theorem wpList_copy_cel {P : Program} {ops : Array Oper} {rest : List Oper} {o : Oper} {a : Act} {w : World} {Q : Exit → Act → World → Prop} (hgd : o.guard = none) (d s : Operand) (dT sT : TypeId)
    (ho : o.op = .call { callee := .builtin .copy, args := #[d, s], argTypes := #[dT, sT] }) (elem : TypeId) (hu : P.underlying dT = some (.slice elem)) (hsz : (P.info? elem).map (·.size) = some 1)
    (g off dLen dCap : Nat) (A : Option Addr) (S : List UInt8) (sCap : Nat) (hd : a.eval d = .slice (some ⟨g, off, none⟩) dLen dCap) (hs : a.eval s = .slice A S.length sCap)
    (l : List UInt8) (t : TypeId) (hg : Cel w g t l) (hr : Rd vB w A S) (hle : S.length ≤ dLen) (hfit : off + S.length ≤ l.length)
    (h : ∀ w', Cel w' g t (l.take off ++ S ++ l.drop (off + S.length)) → Only g w w' → wpList P ops Q rest (a.put o.dst (.int .i64 (S.length : Int))) w') : wpList P ops Q (o :: rest) a w := by
  obtain ⟨L, h1, h2⟩ := hg
  have hlen : l.length ≤ L.length := by
    have := congrArg List.length h2
    rw [List.length_take, List.length_map] at this
    omega
  refine wpList_copy_row hgd d s dT sT ho elem hu hsz g off dLen dCap A S sCap hd hs L t h1 hr (fun _ => rfl) hle (by omega) ?_
  exact h _ ⟨_, h1.setRow _, cel_splice h2 off S hfit⟩ ((Only.refl g w).setRow _)
end Go.Proofs.YteppocjgodmpdaaGreatDoor
