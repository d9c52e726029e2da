/-
  What bytes.Clone, slices.Clone, slices.Grow (of nil) and slices.Concat answer at lists of bytes: new memory that reads as the bytes did. Conditions: bounds on lengths, as typed.
-/
import Derived.Test.YtknjpmoimjhddaaDoorQ1
import Derived.Lib.AppendZeros
import Derived.Maps.AppendAt
import Derived.RangeFuncBox
import Derived.Test.YtknjpmoimjhddaaDoorChecked
import Derived.WalkKit
import Derived.LaidEql
import Derived.Stop.Asserts
import Derived.RowKitTokens
import Derived.Handy
import Derived.Deep.DeepCutAuto
namespace Go.Proofs.YtknjpmoimjhddaaDoor
set_option maxRecDepth 100000
open Go.RowKit
set_option linter.unusedSimpArgs false

/-- What a call that hands back a slice in new memory says of it. -/
def RetN {α : Type} (f : α → Value) (w : World) (l : List α) (e : Ending) (w' : World) : Prop :=
  ∃ A cap, e = .returned (.slice A l.length cap) ∧ l.length ≤ cap ∧ Rd f w' A l ∧ (∀ a, A = some a → w.heap.size ≤ a.block) ∧ Below w.heap.size w w'
theorem RetN.own {α : Type} {f : α → Value} {w w' : World} {l : List α} {e : TypeId} {v : Value} (h : w'.ownsRow w.heap.size e 1 v l.length (l.map f)) (hb : Below w.heap.size w w') : RetN f w l (.returned v) w' := by
  rcases h.2 with ⟨rfl, h0⟩ | ⟨g, cap, cur, rfl, hg, _, hc, _⟩
  · have hl : l = [] := List.eq_nil_of_length_eq_zero h0
    subst hl
    exact ⟨none, 0, rfl, Nat.le_refl _, Rd.nil, (fun a h => by cases h), hb⟩
  · exact ⟨_, cap, rfl, hc, Rd.own h, (fun a ha => by injection ha with ha; subst ha; exact hg), hb⟩
theorem RetN.ret {α : Type} {f : α → Value} {w w' : World} {l : List α} {e : Ending} (h : RetN f w l e w') : RetS f w l e w' := by
  obtain ⟨A, cap, h1, h2, h3, _, h5⟩ := h
  exact ⟨A, cap, h1, h2, h3, h5⟩

theorem clone_own (b : List UInt8) (A : Option Addr) (c : Nat) (w : World) (hr : Rd vB w A b) (hl : b.length ≤ 70368744177664) : Calls Tryd.prog 39 #[.slice A b.length c] w (RetO 5 vB w b) := by
  obtain ⟨i0, hi, hz0, hz1, hz2⟩ := info_parts info_u8
  cases A with
  | none =>
    have hb : b = [] := by
      by_cases h : b = []
      · exact h
      · obtain ⟨_, _, e, _⟩ := hr h
        cases e
    subst hb
    have hnil : ∀ W, (binOp .eql 25 (.slice none 0 c) (.slice none 0 0)).run Tryd.prog W = .ok (.bool true) W := fun W => Lib.run_eql_slice_nil W _ _ none 0 c 0 0 Tryd.underlying25
    go_enter Tryd.func39, Tryd.ntmps39
    go_wp2_with fail
    go_ret
    exact ⟨_, rfl, World.ownsRow_nil _ _ _ _, Below.refl _ _⟩
  | some a =>
    have hnil : ∀ W, (binOp .eql 25 (.slice (some a) b.length c) (.slice none 0 0)).run Tryd.prog W = .ok (.bool false) W := fun W => Lib.run_eql_slice_nil W _ _ (some a) b.length c 0 0 Tryd.underlying25
    have hown0 : (w.alloc (.cells #[] 5)).ownsRow w.heap.size 5 1 (.slice (some ⟨w.heap.size, 0, none⟩) 0 0) 0 [] := World.ownsRow_made w #[] 0 (Nat.le_refl _) (by unfold maxLen; omega) rfl
    have hr0 : Rd vB (w.alloc (.cells #[] 5)) (some a) b := hr.keep (below_new (Below.refl _ _) _)
    go_enter Tryd.func39, Tryd.ntmps39
    go_wp2_with (at_builtin; refine wpList_append_rd _ rfl (.tmp 5) (.tmp 6) 25 rfl w.heap.size 5 i0 (.int .u8 0) 1 Tryd.underlying25 hi hz0 hz1 hz2 rfl _ _ _ rfl hown0 (some a) b c rfl hr0 vB_one (by unfold maxLen; omega) (by omega) (by simp) ?_; intro v1 w1 hown1 hgrow1)
    go_ret
    rw [Nat.zero_add, List.nil_append] at hown1
    exact ⟨_, rfl, hown1, (below_new (Below.refl _ w) _).grown hgrow1 (by simp) (fun k hk => (hown0.lt k hk).1)⟩
theorem clone_b (b : List UInt8) (A : Option Addr) (c : Nat) (w : World) (hr : Rd vB w A b) (hl : b.length ≤ 70368744177664) : Calls Tryd.prog 39 #[.slice A b.length c] w (RetN vB w b) :=
  (clone_own b A c w hr hl).mono fun e w' ⟨v, he, ho, hb⟩ => by subst he; exact RetN.own ho hb


theorem grow_nil (n : Nat) (w : World) (hn : n ≤ 140737488355328) : Calls Tryd.prog 64 #[.slice none 0 0, .int .i64 (n : Int)] w (RetO 5 vB w []) := by
  obtain ⟨i0, hi, hz0, hz1, hz2⟩ := info_parts info_u8
  by_cases h0 : n = 0
  · subst h0
    go_enter Tryd.func64, Tryd.ntmps64
    go_wp2_with fail
    go_ret
    exact ⟨_, rfl, World.ownsRow_nil _ _ _ _, Below.refl _ _⟩
  · have hp : (0 : Int) < (n : Int) := by omega
    have happ := Lib.run_append_nil_zeros (P := Tryd.prog) w 25 3 25 5 i0 (.int .u8 0) .i64 .i64 Tryd.underlying25 Tryd.underlying3 hi hz0 n (by omega) (by omega) (by omega) (by rw [hz2]; omega)
    have hge := grownCap_ge w n 0 5
    have hle := grownCap_le_maxLen w n 0 5 (by unfold maxLen; omega)
    generalize grownCap w n 0 5 = cap2 at happ hge hle
    have hZs : (Builtin.zeroCells (Value.int .u8 0).cells n ++ Builtin.zeroCells (Value.int .u8 0).cells (cap2 - n)).size = cap2 := by simp [size_zeroCells, Value.cells]; omega
    generalize (Builtin.zeroCells (Value.int .u8 0).cells n ++ Builtin.zeroCells (Value.int .u8 0).cells (cap2 - n)) = Z at happ hZs
    have HO : Hid ((w.drew.alloc (.cells Z 5)).ownsRow w.heap.size 5 1 (.slice (some ⟨w.heap.size, 0, none⟩) 0 cap2) 0 []) := World.ownsRow_made w.drew Z cap2 (Nat.le_refl _) hle (by rw [hZs, Nat.mul_one])
    have HB : Hid (Below w.heap.size w (w.drew.alloc (.cells Z 5))) := (Below.refl _ w).drew.alloc (Nat.le_refl _) _
    unfold maxLen at hle
    clear hZs hge
    go_enter Tryd.func64, Tryd.ntmps64
    go_wp2_with (at_builtin; refine Lib.wpList_append_run _ rfl (.tmp 20) (.tmp 21) _ _ rfl _ _ rfl rfl _ _ happ ?_)
    go_ret
    exact ⟨_, rfl, HO.out, HB.out⟩

/-- A part of what is put together: its memory, its room, its bytes. -/
structure Part where
  A : Option Addr
  cap : Nat
  l : List UInt8
def vPart (p : Part) : Value := .slice p.A p.l.length p.cap
def flatL (ps : List Part) : List UInt8 := ps.flatMap (·.l)
theorem flatL_take (ps : List Part) (k : Nat) (h : k < ps.length) : flatL (ps.take (k + 1)) = flatL (ps.take k) ++ ps[k].l := by
  unfold flatL
  rw [List.take_succ_eq_append_getElem h, List.flatMap_append]
  simp
theorem flatL_le (ps : List Part) (k : Nat) : (flatL (ps.take k)).length ≤ (flatL ps).length := by
  conv => rhs; rw [← List.take_append_drop k ps]
  unfold flatL
  rw [List.flatMap_append, List.length_append]
  omega

def ConcatRel (ps : List Part) (w : World) (v i : Value) (wr : World) : Prop :=
  ∃ k : Nat, k ≤ ps.length ∧ i = .int .i64 (k : Int) ∧ wr.ownsRow w.heap.size 5 1 v (flatL (ps.take k)).length ((flatL (ps.take k)).map vB) ∧ Below w.heap.size w wr
theorem concat_round {ps : List Part} {w wr w1 : World} {k : Nat} {u v : Value} {l : List UInt8} (hk : k < ps.length) (HF : Hid (flatL (ps.take (k + 1)) = flatL (ps.take k) ++ l)) (ho : wr.ownsRow w.heap.size 5 1 u (flatL (ps.take k)).length ((flatL (ps.take k)).map vB)) (hb : Below w.heap.size w wr)
    (ho' : w1.ownsRow w.heap.size 5 1 v ((flatL (ps.take k)).length + l.length) ((flatL (ps.take k)).map vB ++ l.map vB)) (hg : wr.grownBy w1 u.ownBlock) : ConcatRel ps w v (.int .i64 ((k : Int) + 1)) w1 :=
  ⟨k + 1, by omega, by go_num, by rw [HF.out, List.length_append, List.map_append]; exact ho', hb.grown hg hb.size (fun x hx => (ho.lt x hx).1)⟩

theorem concat_any (ps : List Part) (A : Option Addr) (c : Nat) (w : World) (hr : Rd vPart w A ps) (hn : ps.length ≤ 9223372036854775807) (hp : ∀ p ∈ ps, Rd vB w p.A p.l) (hl : (flatL ps).length ≤ 70368744177664) :
    Calls Tryd.prog 41 #[.slice A ps.length c] w (RetN vB w (flatL ps)) := by
  obtain ⟨i0, hi, hz0, hz1, hz2⟩ := info_parts info_u8
  have HP := Lib.hid hp
  clear hp
  go_enter Tryd.func41, Tryd.ntmps41
  go_wp2_with fail
  go_loop [3, 11] (fun v i => ∃ k : Nat, k ≤ ps.length ∧ i = .int .i64 k ∧ v = .int .i64 ((flatL (ps.take k)).length : Int)) (fun _ i => ps.length - (intOf i).toNat)
  case atStart => exact ⟨0, Nat.zero_le _, rfl, rfl⟩
  case round =>
    obtain ⟨k, hk, rfl, rfl⟩ := hrel
    have hle := flatL_le ps k
    by_cases hlt : k < ps.length
    · obtain ⟨blk, o, rfl, hb, hcell⟩ := hr.at hlt
      have hc0 := hcell k hlt
      have HF := Lib.hid (congrArg List.length (flatL_take ps k hlt))
      have hle2 := flatL_le ps (k + 1)
      rw [HF.out, List.length_append] at hle2
      rw [List.length_append] at HF
      generalize ps[k] = p at hc0 HF hle2
      unfold vPart at hc0
      clear hcell hr
      have i1 : (0 : Int) ≤ (k : Int) := by omega
      have i2 : (k : Int) < (ps.length : Int) := by omega
      go_wp2_with fail
      go_round
      case rel => exact ⟨k + 1, by omega, by go_num, by rw [HF.out]; go_num⟩
      case measure => simp [intOf]; omega
    · have hkk : k = ps.length := by omega
      subst hkk
      have HT : Hid (flatL (ps.take ps.length) = flatL ps) := by unfold Hid; rw [List.take_length]
      rw [HT.out] at hle ⊢
      generalize hN : (flatL ps).length = N at hl hle
      have HN := Lib.hid hN
      clear hN
      go_wp2_with fail
      refine (grow_nil N _ (by omega)).mono ?_
      rintro e w1 ⟨v1, rfl, hown1, hb1⟩
      go_wp2_with fail
      go_loopw [6, 27] (fun v i wr => ConcatRel ps w v i wr) (fun _ i _ => ps.length - (intOf i).toNat)
      case atStart => exact ⟨0, Nat.zero_le _, rfl, hown1, hb1⟩
      case round =>
        clear hown1 hb1
        obtain ⟨k, hk, rfl, hown, hbel⟩ := hrel
        by_cases hlt : k < ps.length
        · obtain ⟨blk, o, rfl, hb, hcell⟩ := hr.at hlt
          have hc0 : wr.cell? ⟨blk, o + k, none⟩ = some (vPart ps[k]) := (hbel.cell (p := ⟨blk, o + k, none⟩) hb).trans (hcell k hlt)
          have HF := Lib.hid (flatL_take ps k hlt)
          have hpk := (HP.out ps[k] (List.getElem_mem hlt)).keep hbel
          have hle2 := flatL_le ps (k + 1)
          rw [HF.out, List.length_append, HN.out] at hle2
          generalize ps[k] = p at hc0 HF hle2 hpk
          unfold vPart at hc0
          clear hcell hr
          have i1 : (0 : Int) ≤ (k : Int) := by omega
          have i2 : (k : Int) < (ps.length : Int) := by omega
          go_wp2_with (at_builtin; refine wpList_append_rd _ rfl (.tmp 31) (.tmp 32) 25 rfl w.heap.size 5 i0 (.int .u8 0) 1 Tryd.underlying25 hi hz0 hz1 hz2 rfl _ _ _ rfl hown p.A p.l p.cap rfl hpk vB_one (by unfold maxLen; omega) (by omega) hbel.size ?_; intro v2 w2 hown2 hgrow2)
          go_roundw
          case rel => exact concat_round hlt HF hown hbel hown2 hgrow2
          case measure => simp [intOf]; omega
        · have hkk : k = ps.length := by omega
          subst hkk
          rw [HT.out] at hown
          go_wp2_with fail
          go_ret
          exact RetN.own hown hbel
theorem concat_two (r b T : List UInt8) (A B : Option Addr) (c d g k : Nat) (w : World) (HT : Hid (T = r ++ b)) (hp : Rd vPart w (some ⟨g, 0, none⟩) [⟨A, c, r⟩, ⟨B, d, b⟩]) (hr : Rd vB w A r) (hb : Rd vB w B b) (hl : T.length ≤ 70368744177664) :
    Calls Tryd.prog 41 #[.slice (some ⟨g, 0, none⟩) 2 k] w (RetN vB w T) := by
  have e : flatL [⟨A, c, r⟩, ⟨B, d, b⟩] = T := by rw [HT.out]; simp [flatL]
  have := concat_any [⟨A, c, r⟩, ⟨B, d, b⟩] (some ⟨g, 0, none⟩) k w hp (by simp) (fun p hp => by
    simp only [List.mem_cons, List.not_mem_nil, or_false] at hp
    rcases hp with rfl | rfl
    · exact hr
    · exact hb) (by rw [e]; exact hl)
  rw [e] at this
  exact this

end Go.Proofs.YtknjpmoimjhddaaDoor
/-
  What word.Put answers, in memory of its own; an array of three numbers, at a place; calls that hand back a list of bytes and an error. No conditions but those typed.
-/
namespace Go.Proofs.YtknjpmoimjhddaaDoor
set_option maxRecDepth 100000
open Go.RowKit
set_option linter.unusedSimpArgs false
set_option linter.unusedVariables false

/-- A call that hands back a list of bytes and an error. -/
def RetV (w : World) (l : List UInt8) (k : Int) (e : Ending) (w' : World) : Prop := ∃ A n c, e = .returned (.tuple #[.slice A n c, .int .i64 k]) ∧ Hid (l.length = n) ∧ n ≤ c ∧ Rd vB w' A l ∧ Below w.heap.size w w'

theorem put_new (v : Nat) (hv : v < 18446744073709551616) (w : World) :
    Calls Tryd.prog 31 #[.int .u64 (v : Int)] w (RetN vB w (putL v)) := by
  have hmk : ∀ w, (Instr.makeSlice 25 (.int .i64 8) (.int .i64 8)).run Tryd.prog w = .ok (.slice (some ⟨w.heap.size, 0, none⟩) 8 8) (w.alloc (.cells #[.int .u8 0, .int .u8 0, .int .u8 0, .int .u8 0, .int .u8 0, .int .u8 0, .int .u8 0, .int .u8 0] 5)) := fun _ => by kernel_rfl
  go_enter Tryd.func31, Tryd.ntmps31
  go_wp2
  refine wp_loop_rounds 9 ?_
  iterate 9 (rw [rounds_succ]; go_wp2)
  go_ret
  exact ⟨_, 8, rfl, Nat.le_refl _, Rd.new _ _ _ _ (put_cells v hv), (fun a ha => by injection ha with ha; subst ha; exact Nat.le_refl _), (Below.refl _ _).alloc (Nat.le_refl _) _⟩
theorem index_three (N : List Nat) (a b c : Nat) (hN : N = [a, b, c]) (i : Nat) (h : i < N.length) (W : World) : (Instr.index 79 (.agg #[.int .u64 (a : Int), .int .u64 (b : Int), .int .u64 (c : Int)]) (.int .i64 (i : Int))).run Tryd.prog W = .ok (.int .u64 (N[i] : Int)) W := by
  subst hN
  have hi : i = 0 ∨ i = 1 ∨ i = 2 := by simp at h; omega
  rcases hi with rfl | rfl | rfl
  · exact ((by kernel_rfl : (Instr.index 79 (.agg #[.int .u64 (a : Int), .int .u64 (b : Int), .int .u64 (c : Int)]) (.int .i64 0)).run Tryd.prog W = .ok (.int .u64 (a : Int)) W))
  · exact ((by kernel_rfl : (Instr.index 79 (.agg #[.int .u64 (a : Int), .int .u64 (b : Int), .int .u64 (c : Int)]) (.int .i64 1)).run Tryd.prog W = .ok (.int .u64 (b : Int)) W))
  · exact ((by kernel_rfl : (Instr.index 79 (.agg #[.int .u64 (a : Int), .int .u64 (b : Int), .int .u64 (c : Int)]) (.int .i64 2)).run Tryd.prog W = .ok (.int .u64 (c : Int)) W))
theorem put_at (v : Nat) (hv : v < 18446744073709551616) (w : World) : Calls Tryd.prog 31 #[.int .u64 (v : Int)] w fun e w' => ∃ A c, e = .returned (.slice A 8 c) ∧ 8 ≤ c ∧ Rd vB w' A (putL v) ∧ Below w.heap.size w w' :=
  (put_new v hv w).mono fun e w' ⟨A, c, h1, h2, h3, _, h4⟩ => ⟨A, c, h1, h2, h3, h4⟩
theorem cut_mid (A : Option Addr) (n cap lo m : Nat) (h : lo + m ≤ cap) (W : World) : (Instr.slice 25 (.slice A n cap) (some (.int .i64 (lo : Int))) (some (.int .i64 ((lo : Int) + (m : Int)))) none).run Tryd.prog W = .ok (.slice (if cap = lo then A else A.map (·.add (lo * 1))) m (cap - lo)) W := by
  have he : Tryd.prog.elem 25 = 5 := by simp [Program.elem, Tryd.underlying25]
  rw [run_slice_lh W 25 A n cap (by rw [he]; exact Tryd.underlying25) .i64 .i64 (lo : Int) ((lo : Int) + (m : Int)) (by omega) (by omega) (by omega), he, size_uint8]
  simp only [Result.andThen, sliced, Int.toNat_natCast]
  rw [show ((lo : Int) + (m : Int)).toNat - lo = m by omega]
end Go.Proofs.YtknjpmoimjhddaaDoor
/-
  append of what reads as a list onto a row of the call's own: the row's block behind it is the one it was, or a new one; blocks known whole stay (no program is named here). No conditions but those typed.
-/
namespace Go.Proofs.YtknjpmoimjhddaaDoor
set_option maxRecDepth 100000
open Go.RowKit

theorem Row.grown {w w' : World} {g : Nat} {t : TypeId} {l : List Value} {row : Option Nat} (h : Row w g t l) (hg : w.grownBy w' row) (hn : row ≠ some g) : Row w' g t l :=
  (hg.block g h.lt (fun e => hn e.symm)).trans h
/-- Apart from a block that was there. -/
theorem apart_of {w : World} {v v' : Value} {g : Nat} (h : v.ownBlock ≠ some g) (hg : g < w.heap.size) (hat : v'.ownBlock = v.ownBlock ∨ v'.ownBlock = some w.heap.size) : v'.ownBlock ≠ some g := by
  rcases hat with e | e
  · rw [e]; exact h
  · rw [e]
    intro h
    injection h with h
    omega
section
variable {P : Program} (w : World)
theorem run_append_apart {α : Type} {f : α → Value} (base : Nat) (t ty e : TypeId) (i : TypeInfo) (z : Value) (bytes : Nat) (ht : P.underlying t = some (.slice e)) (hi : P.info? e = some i) (hz : i.zero = some z)
    (hsize : i.size = 1) (hby : i.bytes = bytes) (hzs : z.cells.size = 1) (v : Value) (n : Nat) (xs : List Value) (hown : w.ownsRow base e 1 v n xs)
    (A : Option Addr) (l : List α) (c : Nat) (hr : Rd f w A l) (h1 : ∀ x, (f x).oneCell' = true)
    (h63 : n + l.length ≤ maxLen) (hbytes : (n + l.length) * bytes ≤ 140737488355328) (hbase : base ≤ w.heap.size) :
    ∃ v' w', (Builtin.append_ #[t, t] ty #[v, .slice A l.length c]).run P w = .ok v' w' ∧ w'.ownsRow base e 1 v' (n + l.length) (xs ++ l.map f) ∧ w.grownBy w' v.ownBlock ∧ (v'.ownBlock = v.ownBlock ∨ v'.ownBlock = some w.heap.size) := by
  have hone : ∀ u ∈ l.map f, u.oneCell' = true := by
    intro u hu
    simp only [List.mem_map] at hu
    obtain ⟨x, _, rfl⟩ := hu
    exact h1 x
  by_cases hl : l = []
  · subst hl
    cases A with
    | none => exact ⟨v, w, run_append_nothing_of w base t ty e i ht hi v n xs hown c, by simpa using hown, ⟨rfl, rfl, rfl, Nat.le_refl _, fun _ _ _ => rfl⟩, .inl rfl⟩
    | some ad =>
      obtain ⟨v', w', hrun, h2, h3, _, h4⟩ := run_append_own_at (P := P) w base t ty e i z 1 bytes ht hi hz hsize hby hzs (by omega) v n xs hown ad 0 c [] rfl (fun j u h => by simp at h) (fun u h => by simp at h) h63 hbytes hbase
      exact ⟨v', w', hrun, h2, h3, h4⟩
  · obtain ⟨b, o, rfl, _⟩ := hr hl
    obtain ⟨v', w', hrun, h2, h3, _, h4⟩ := run_append_own_at (P := P) w base t ty e i z 1 bytes ht hi hz hsize hby hzs (by omega) v n xs hown ⟨b, o, none⟩ l.length c (l.map f) (by simp) hr.news hone h63 hbytes hbase
    exact ⟨v', w', hrun, h2, h3, h4⟩

theorem wp_append_apart {α : Type} {f : α → Value} {o : Oper} {a : Act} {K : Act → World → Prop} {Q : Exit → Act → World → Prop} (s x : Operand) (t : TypeId)
    (ho : o.op = .call { callee := .builtin .append, args := #[s, x], argTypes := #[t, t] })
    (base : Nat) (e : TypeId) (i : TypeInfo) (z : Value) (bytes : Nat) (ht : P.underlying t = some (.slice e)) (hi : P.info? e = some i) (hz : i.zero = some z)
    (hsize : i.size = 1) (hby : i.bytes = bytes) (hzs : z.cells.size = 1) (v : Value) (n : Nat) (xs : List Value) (hs : a.eval s = v) (hown : w.ownsRow base e 1 v n xs)
    (A : Option Addr) (l : List α) (c : Nat) (hx : a.eval x = .slice A l.length c) (hr : Rd f w A l) (h1 : ∀ x, (f x).oneCell' = true)
    (h63 : n + l.length ≤ maxLen) (hbytes : (n + l.length) * bytes ≤ 140737488355328) (hbase : base ≤ w.heap.size)
    (h : ∀ v' w', w'.ownsRow base e 1 v' (n + l.length) (xs ++ l.map f) → w.grownBy w' v.ownBlock → (v'.ownBlock = v.ownBlock ∨ v'.ownBlock = some w.heap.size) → K (a.put o.dst v') w') : o.wp P a w K Q := by
  obtain ⟨v', w', hr, h2, h3, h4⟩ := run_append_apart (P := P) w base t o.type e i z bytes ht hi hz hsize hby hzs v n xs hown A l c hr h1 h63 hbytes hbase
  unfold Oper.wp execOp
  simp only [ho, resolve, invoke, builtin, Sem.run_bind, Sem.run_pure, Result.andThen_ok, List.map_toArray, List.map_cons, List.map_nil, hs, hx, hr]
  exact h v' w' h2 h3 h4

theorem wpList_append_apart {α : Type} {f : α → Value} {ops : Array Oper} {rest : List Oper} {o : Oper} {a : Act} {Q : Exit → Act → World → Prop} (hgd : o.guard = none) (s x : Operand) (t : TypeId)
    (ho : o.op = .call { callee := .builtin .append, args := #[s, x], argTypes := #[t, t] })
    (base : Nat) (e : TypeId) (i : TypeInfo) (z : Value) (bytes : Nat) (ht : P.underlying t = some (.slice e)) (hi : P.info? e = some i) (hz : i.zero = some z)
    (hsize : i.size = 1) (hby : i.bytes = bytes) (hzs : z.cells.size = 1) (v : Value) (n : Nat) (xs : List Value) (hs : a.eval s = v) (hown : w.ownsRow base e 1 v n xs)
    (A : Option Addr) (l : List α) (c : Nat) (hx : a.eval x = .slice A l.length c) (hr : Rd f w A l) (h1 : ∀ x, (f x).oneCell' = true)
    (h63 : n + l.length ≤ maxLen) (hbytes : (n + l.length) * bytes ≤ 140737488355328) (hbase : base ≤ w.heap.size)
    (h : ∀ v' w', w'.ownsRow base e 1 v' (n + l.length) (xs ++ l.map f) → w.grownBy w' v.ownBlock → (v'.ownBlock = v.ownBlock ∨ v'.ownBlock = some w.heap.size) → wpList P ops Q rest (a.put o.dst v') w') : wpList P ops Q (o :: rest) a w :=
  wpList_plain hgd fun _ hK => wp_append_apart w s x t ho base e i z bytes ht hi hz hsize hby hzs v n xs hs hown A l c hx hr h1 h63 hbytes hbase fun v' w' h2 h3 h4 => hK _ _ (h v' w' h2 h3 h4)
end
end Go.Proofs.YtknjpmoimjhddaaDoor
/-
  The field of 256 elements as plain functions on bytes: products bit by bit, and what is left of them by 301; that they make a field. No conditions but those typed.
-/
namespace Go.Proofs.YtknjpmoimjhddaaDoor
set_option maxRecDepth 100000

/-- The product of two polynomials over two elements, by the first i bits of the second one. -/
def clN (a b : Nat) : Nat → Nat
  | 0 => 0
  | i + 1 => if b / 2 ^ i % 2 = 1 then clN a b i ^^^ a * 2 ^ i else clN a b i
/-- What is left, of the bit k. -/
def stepN (p k : Nat) : Nat := if p / 2 ^ k % 2 = 1 then p ^^^ 301 * 2 ^ (k - 8) else p
def redN (p : Nat) : Nat := stepN (stepN (stepN (stepN (stepN (stepN (stepN p 14) 13) 12) 11) 10) 9) 8
def mulN (a b : Nat) : Nat := redN (clN a b 8)
def mulB (a b : UInt8) : UInt8 := UInt8.ofNat (mulN a.toNat b.toNat)
def addB (a b : UInt8) : UInt8 := a ^^^ b

theorem bit_xor (p q k : Nat) : (p ^^^ q) / 2 ^ k % 2 = 1 ↔ ¬ (p / 2 ^ k % 2 = 1 ↔ q / 2 ^ k % 2 = 1) := by
  have e : ∀ x : Nat, x / 2 ^ k % 2 = 1 ↔ x.testBit k = true := fun x => by
    rw [Nat.testBit_eq_decide_div_mod_eq]
    simp
  rw [e, e, e, Nat.testBit_xor]
  cases p.testBit k <;> cases q.testBit k <;> simp
theorem mul_xor (p q i : Nat) : (p ^^^ q) * 2 ^ i = p * 2 ^ i ^^^ q * 2 ^ i := by
  rw [← Nat.shiftLeft_eq, ← Nat.shiftLeft_eq, ← Nat.shiftLeft_eq, Nat.shiftLeft_xor_distrib]
theorem xor_four (a b c d : Nat) : (a ^^^ b) ^^^ (c ^^^ d) = (a ^^^ c) ^^^ (b ^^^ d) := by ac_rfl
theorem stepN_xor (p q k : Nat) : stepN (p ^^^ q) k = stepN p k ^^^ stepN q k := by
  unfold stepN
  have h := bit_xor p q k
  by_cases hp : p / 2 ^ k % 2 = 1 <;> by_cases hq : q / 2 ^ k % 2 = 1
  · rw [if_neg (by rw [h]; simp [hp, hq]), if_pos hp, if_pos hq, xor_four, Nat.xor_self, Nat.xor_zero]
  · rw [if_pos (by rw [h]; simp [hp, hq]), if_pos hp, if_neg hq]; ac_rfl
  · rw [if_pos (by rw [h]; simp [hp, hq]), if_neg hp, if_pos hq]; ac_rfl
  · rw [if_neg (by rw [h]; simp [hp, hq]), if_neg hp, if_neg hq]
theorem redN_xor (p q : Nat) : redN (p ^^^ q) = redN p ^^^ redN q := by
  unfold redN
  rw [stepN_xor, stepN_xor, stepN_xor, stepN_xor, stepN_xor, stepN_xor, stepN_xor]
theorem clN_xor_left (a a' b : Nat) : ∀ i, clN (a ^^^ a') b i = clN a b i ^^^ clN a' b i
  | 0 => by simp [clN]
  | i + 1 => by
    unfold clN
    rw [clN_xor_left a a' b i, mul_xor]
    split
    · rw [xor_four]
    · rfl
theorem clN_xor_right (a b b' : Nat) : ∀ i, clN a (b ^^^ b') i = clN a b i ^^^ clN a b' i
  | 0 => by simp [clN]
  | i + 1 => by
    unfold clN
    rw [clN_xor_right a b b' i]
    have h := bit_xor b b' i
    by_cases hp : b / 2 ^ i % 2 = 1 <;> by_cases hq : b' / 2 ^ i % 2 = 1
    · rw [if_neg (by rw [h]; simp [hp, hq]), if_pos hp, if_pos hq, xor_four, Nat.xor_self, Nat.xor_zero]
    · rw [if_pos (by rw [h]; simp [hp, hq]), if_pos hp, if_neg hq]; ac_rfl
    · rw [if_pos (by rw [h]; simp [hp, hq]), if_neg hp, if_pos hq]; ac_rfl
    · rw [if_neg (by rw [h]; simp [hp, hq]), if_neg hp, if_neg hq]
theorem ofNat_xor (p q : Nat) : UInt8.ofNat (p ^^^ q) = UInt8.ofNat p ^^^ UInt8.ofNat q := by
  apply UInt8.toNat_inj.1
  rw [UInt8.toNat_xor, UInt8.toNat_ofNat', UInt8.toNat_ofNat', UInt8.toNat_ofNat']
  exact Nat.xor_mod_two_pow
theorem mul_add_left (a a' b : UInt8) : mulB (addB a a') b = addB (mulB a b) (mulB a' b) := by
  unfold mulB mulN addB
  rw [UInt8.toNat_xor, clN_xor_left, redN_xor, ofNat_xor]
theorem mul_add_right (a b b' : UInt8) : mulB a (addB b b') = addB (mulB a b) (mulB a b') := by
  unfold mulB mulN addB
  rw [UInt8.toNat_xor, clN_xor_right, redN_xor, ofNat_xor]

/-! ### What is additive is told by the eight bits -/
theorem all_bytes {p : UInt8 → Prop} (h : ∀ n, n < 256 → p (UInt8.ofNat n)) (x : UInt8) : p x := by
  have := h x.toNat x.toNat_lt
  rwa [UInt8.ofNat_toNat] at this
theorem byte_bits (x : UInt8) : x = (x &&& 1) ^^^ ((x &&& 2) ^^^ ((x &&& 4) ^^^ ((x &&& 8) ^^^ ((x &&& 16) ^^^ ((x &&& 32) ^^^ ((x &&& 64) ^^^ (x &&& 128))))))) := by
  refine all_bytes (p := fun x => x = (x &&& 1) ^^^ ((x &&& 2) ^^^ ((x &&& 4) ^^^ ((x &&& 8) ^^^ ((x &&& 16) ^^^ ((x &&& 32) ^^^ ((x &&& 64) ^^^ (x &&& 128)))))))) ?_ x
  decide +kernel
theorem bit_or (x : UInt8) : ((x &&& 1) = 0 ∨ (x &&& 1) = 1) ∧ ((x &&& 2) = 0 ∨ (x &&& 2) = 2) ∧ ((x &&& 4) = 0 ∨ (x &&& 4) = 4) ∧ ((x &&& 8) = 0 ∨ (x &&& 8) = 8) ∧ ((x &&& 16) = 0 ∨ (x &&& 16) = 16) ∧ ((x &&& 32) = 0 ∨ (x &&& 32) = 32) ∧ ((x &&& 64) = 0 ∨ (x &&& 64) = 64) ∧ ((x &&& 128) = 0 ∨ (x &&& 128) = 128) := by
  refine all_bytes (p := fun x => ((x &&& 1) = 0 ∨ (x &&& 1) = 1) ∧ ((x &&& 2) = 0 ∨ (x &&& 2) = 2) ∧ ((x &&& 4) = 0 ∨ (x &&& 4) = 4) ∧ ((x &&& 8) = 0 ∨ (x &&& 8) = 8) ∧ ((x &&& 16) = 0 ∨ (x &&& 16) = 16) ∧ ((x &&& 32) = 0 ∨ (x &&& 32) = 32) ∧ ((x &&& 64) = 0 ∨ (x &&& 64) = 64) ∧ ((x &&& 128) = 0 ∨ (x &&& 128) = 128)) ?_ x
  decide +kernel
def bitsB : List UInt8 := [1, 2, 4, 8, 16, 32, 64, 128]
theorem add_self (x : UInt8) : addB x x = 0 := UInt8.xor_self
theorem add_zero (x : UInt8) : addB x 0 = x := UInt8.xor_zero
theorem zero_add (x : UInt8) : addB 0 x = x := UInt8.zero_xor
theorem add_comm (x y : UInt8) : addB x y = addB y x := UInt8.xor_comm x y
theorem add_assoc (x y z : UInt8) : addB (addB x y) z = addB x (addB y z) := UInt8.xor_assoc x y z
theorem additive_zero {f : UInt8 → UInt8} (hf : ∀ x y, f (addB x y) = addB (f x) (f y)) : f 0 = 0 := by
  have := hf 0 0
  rw [add_self, add_self] at this
  exact this
theorem additive_eq {f g : UInt8 → UInt8} (hf : ∀ x y, f (addB x y) = addB (f x) (f y)) (hg : ∀ x y, g (addB x y) = addB (g x) (g y)) (h : ∀ b ∈ bitsB, f b = g b) (x : UInt8) : f x = g x := by
  have f0 := additive_zero hf
  have g0 := additive_zero hg
  have one : ∀ (y b : UInt8), b ∈ bitsB → (y = 0 ∨ y = b) → f y = g y := by
    intro y b hb hy
    rcases hy with rfl | rfl
    · rw [f0, g0]
    · exact h _ hb
  obtain ⟨h1, h2, h3, h4, h5, h6, h7, h8⟩ := bit_or x
  have e1 := one _ 1 (by simp [bitsB]) h1
  have e2 := one _ 2 (by simp [bitsB]) h2
  have e3 := one _ 4 (by simp [bitsB]) h3
  have e4 := one _ 8 (by simp [bitsB]) h4
  have e5 := one _ 16 (by simp [bitsB]) h5
  have e6 := one _ 32 (by simp [bitsB]) h6
  have e7 := one _ 64 (by simp [bitsB]) h7
  have e8 := one _ 128 (by simp [bitsB]) h8
  have hx := byte_bits x
  generalize x &&& 1 = x1 at *
  generalize x &&& 2 = x2 at *
  generalize x &&& 4 = x3 at *
  generalize x &&& 8 = x4 at *
  generalize x &&& 16 = x5 at *
  generalize x &&& 32 = x6 at *
  generalize x &&& 64 = x7 at *
  generalize x &&& 128 = x8 at *
  have hx' : x = addB x1 (addB x2 (addB x3 (addB x4 (addB x5 (addB x6 (addB x7 x8)))))) := hx
  rw [hx', hf, hf, hf, hf, hf, hf, hf, hg, hg, hg, hg, hg, hg, hg, e1, e2, e3, e4, e5, e6, e7, e8]

theorem mul_comm (a b : UInt8) : mulB a b = mulB b a := by
  refine additive_eq (f := fun a => mulB a b) (g := fun a => mulB b a) (fun x y => mul_add_left x y b) (fun x y => mul_add_right b x y) (fun u hu => ?_) a
  refine additive_eq (f := fun b => mulB u b) (g := fun b => mulB b u) (fun x y => mul_add_right u x y) (fun x y => mul_add_left x y u) (fun v hv => ?_) b
  have : ∀ u ∈ bitsB, ∀ v ∈ bitsB, mulB u v = mulB v u := by decide +kernel
  exact this u hu v hv
theorem mul_assoc (a b c : UInt8) : mulB (mulB a b) c = mulB a (mulB b c) := by
  refine additive_eq (f := fun a => mulB (mulB a b) c) (g := fun a => mulB a (mulB b c)) (fun x y => by rw [mul_add_left, mul_add_left]) (fun x y => mul_add_left x y _) (fun u hu => ?_) a
  refine additive_eq (f := fun b => mulB (mulB u b) c) (g := fun b => mulB u (mulB b c)) (fun x y => by rw [mul_add_right, mul_add_left]) (fun x y => by rw [mul_add_left, mul_add_right]) (fun v hv => ?_) b
  refine additive_eq (f := fun c => mulB (mulB u v) c) (g := fun c => mulB u (mulB v c)) (fun x y => mul_add_right _ x y) (fun x y => by rw [mul_add_right, mul_add_right]) (fun w hw => ?_) c
  have : ∀ u ∈ bitsB, ∀ v ∈ bitsB, ∀ w ∈ bitsB, mulB (mulB u v) w = mulB u (mulB v w) := by decide +kernel
  exact this u hu v hv w hw
theorem mul_one (a : UInt8) : mulB a 1 = a := by
  refine additive_eq (f := fun a => mulB a 1) (g := fun a => a) (fun x y => mul_add_left x y 1) (fun _ _ => rfl) (fun u hu => ?_) a
  have : ∀ u ∈ bitsB, mulB u 1 = u := by decide +kernel
  exact this u hu
theorem one_mul (a : UInt8) : mulB 1 a = a := by rw [mul_comm, mul_one]
theorem mul_zero (a : UInt8) : mulB a 0 = 0 := additive_zero (f := fun b => mulB a b) (fun x y => mul_add_right a x y)
theorem zero_mul (a : UInt8) : mulB 0 a = 0 := by rw [mul_comm, mul_zero]

/-! ### Powers of 2 -/
def powB (a : UInt8) : Nat → UInt8
  | 0 => 1
  | n + 1 => mulB (powB a n) a
theorem pow_add (a : UInt8) (m : Nat) : ∀ n, powB a (m + n) = mulB (powB a m) (powB a n)
  | 0 => by rw [powB, mul_one]; rfl
  | n + 1 => by rw [← Nat.add_assoc, powB, pow_add a m n, powB, mul_assoc]
theorem pow_mul (a : UInt8) (m : Nat) : ∀ n, powB a (m * n) = powB (powB a m) n
  | 0 => rfl
  | n + 1 => by rw [Nat.mul_succ, pow_add, pow_mul a m n, powB]
theorem pow_one (n : Nat) : powB 1 n = 1 := by
  induction n with
  | zero => rfl
  | succ n ih => rw [powB, ih, mul_one]

/-- The powers of 2 from 0 on. -/
def expL : List UInt8 := [1, 2, 4, 8, 16, 32, 64, 128, 45, 90, 180, 69, 138, 57, 114, 228, 229, 231, 227, 235, 251, 219, 155, 27, 54, 108, 216, 157, 23, 46, 92, 184, 93, 186, 89, 178, 73, 146, 9, 18, 36, 72, 144, 13, 26, 52, 104, 208, 141, 55, 110, 220, 149, 7, 14, 28, 56, 112, 224, 237, 247, 195, 171, 123, 246, 193, 175, 115, 230, 225, 239, 243, 203, 187, 91, 182, 65, 130, 41, 82, 164, 101, 202, 185, 95, 190, 81, 162, 105, 210, 137, 63, 126, 252, 213, 135, 35, 70, 140, 53, 106, 212, 133, 39, 78, 156, 21, 42, 84, 168, 125, 250, 217, 159, 19, 38, 76, 152, 29, 58, 116, 232, 253, 215, 131, 43, 86, 172, 117, 234, 249, 223, 147, 11, 22, 44, 88, 176, 77, 154, 25, 50, 100, 200, 189, 87, 174, 113, 226, 233, 255, 211, 139, 59, 118, 236, 245, 199, 163, 107, 214, 129, 47, 94, 188, 85, 170, 121, 242, 201, 191, 83, 166, 97, 194, 169, 127, 254, 209, 143, 51, 102, 204, 181, 71, 142, 49, 98, 196, 165, 103, 206, 177, 79, 158, 17, 34, 68, 136, 61, 122, 244, 197, 167, 99, 198, 161, 111, 222, 145, 15, 30, 60, 120, 240, 205, 183, 67, 134, 33, 66, 132, 37, 74, 148, 5, 10, 20, 40, 80, 160, 109, 218, 153, 31, 62, 124, 248, 221, 151, 3, 6, 12, 24, 48, 96, 192, 173, 119, 238, 241, 207, 179, 75, 150]
def logL : List Nat := [0, 0, 1, 240, 2, 225, 241, 53, 3, 38, 226, 133, 242, 43, 54, 210, 4, 195, 39, 114, 227, 106, 134, 28, 243, 140, 44, 23, 55, 118, 211, 234, 5, 219, 196, 96, 40, 222, 115, 103, 228, 78, 107, 125, 135, 8, 29, 162, 244, 186, 141, 180, 45, 99, 24, 49, 56, 13, 119, 153, 212, 199, 235, 91, 6, 76, 220, 217, 197, 11, 97, 184, 41, 36, 223, 253, 116, 138, 104, 193, 229, 86, 79, 171, 108, 165, 126, 145, 136, 34, 9, 74, 30, 32, 163, 84, 245, 173, 187, 204, 142, 81, 181, 190, 46, 88, 100, 159, 25, 231, 50, 207, 57, 147, 14, 67, 120, 128, 154, 248, 213, 167, 200, 63, 236, 110, 92, 176, 7, 161, 77, 124, 221, 102, 218, 95, 198, 90, 12, 152, 98, 48, 185, 179, 42, 209, 37, 132, 224, 52, 254, 239, 117, 233, 139, 22, 105, 27, 194, 113, 230, 206, 87, 158, 80, 189, 172, 203, 109, 175, 166, 62, 127, 247, 146, 66, 137, 192, 35, 252, 10, 183, 75, 216, 31, 83, 33, 73, 164, 144, 85, 170, 246, 65, 174, 61, 188, 202, 205, 157, 143, 169, 82, 72, 182, 215, 191, 251, 47, 178, 89, 151, 101, 94, 160, 123, 26, 112, 232, 21, 51, 238, 208, 131, 58, 69, 148, 18, 15, 16, 68, 17, 121, 149, 129, 19, 155, 59, 249, 70, 214, 250, 168, 71, 201, 156, 64, 60, 237, 130, 111, 20, 93, 122, 177, 150]
theorem expL_length : expL.length = 255 := by decide +kernel
theorem expL_step : ∀ i, i < 254 → expL.getD (i + 1) 0 = mulB (expL.getD i 0) 2 := by decide +kernel
theorem exp_at : ∀ i, i < 255 → powB 2 i = expL.getD i 0
  | 0, _ => rfl
  | i + 1, h => by rw [powB, exp_at i (by omega), expL_step i (by omega)]
theorem exp_255 : powB 2 255 = 1 := by
  rw [show (255 : Nat) = 254 + 1 by rfl, powB, exp_at 254 (by omega)]
  decide +kernel
/-- Each element but 0 is a power of 2. -/
def logB (a : UInt8) : Nat := logL.getD a.toNat 0
theorem log_table : ∀ n, n < 256 → (n = 0 ∨ logL.getD n 0 < 255 ∧ expL.getD (logL.getD n 0) 0 = UInt8.ofNat n) := by decide +kernel
theorem exp_table : ∀ i, i < 255 → expL.getD i 0 ≠ 0 ∧ logL.getD (expL.getD i 0).toNat 0 = i := by decide +kernel
theorem log_lt (a : UInt8) (h : a ≠ 0) : logB a < 255 := by
  have := log_table a.toNat a.toNat_lt
  rcases this with h0 | ⟨h1, _⟩
  · exact absurd (UInt8.toNat_inj.1 h0) h
  · exact h1
theorem exp_log (a : UInt8) (h : a ≠ 0) : powB 2 (logB a) = a := by
  have := log_table a.toNat a.toNat_lt
  rcases this with h0 | ⟨h1, h2⟩
  · exact absurd (UInt8.toNat_inj.1 h0) h
  · rw [exp_at _ (log_lt a h)]
    unfold logB
    rw [h2, UInt8.ofNat_toNat]
theorem log_exp (i : Nat) (h : i < 255) : logB (powB 2 i) = i := by
  rw [exp_at i h]
  exact (exp_table i h).2
theorem exp_ne (i : Nat) : powB 2 i ≠ 0 := by
  have e : powB 2 i = powB 2 (i % 255) := by
    conv => lhs; rw [← Nat.div_add_mod i 255]
    rw [pow_add, pow_mul, exp_255, pow_one, one_mul]
  rw [e, exp_at _ (Nat.mod_lt _ (by omega))]
  exact (exp_table _ (Nat.mod_lt _ (by omega))).1
theorem exp_mod (i : Nat) : powB 2 i = powB 2 (i % 255) := by
  conv => lhs; rw [← Nat.div_add_mod i 255]
  rw [pow_add, pow_mul, exp_255, pow_one, one_mul]
theorem mul_ne (a b : UInt8) (ha : a ≠ 0) (hb : b ≠ 0) : mulB a b ≠ 0 := by
  rw [← exp_log a ha, ← exp_log b hb, ← pow_add]
  exact exp_ne _
theorem mul_eq_zero (a b : UInt8) : mulB a b = 0 ↔ a = 0 ∨ b = 0 := by
  constructor
  · intro h
    by_cases ha : a = 0
    · exact .inl ha
    · by_cases hb : b = 0
      · exact .inr hb
      · exact absurd h (mul_ne a b ha hb)
  · rintro (rfl | rfl)
    · exact zero_mul _
    · exact mul_zero _
theorem log_mul (a b : UInt8) (ha : a ≠ 0) (hb : b ≠ 0) : logB (mulB a b) = (logB a + logB b) % 255 := by
  conv => lhs; rw [← exp_log a ha, ← exp_log b hb, ← pow_add, exp_mod]
  exact log_exp _ (Nat.mod_lt _ (by omega))
theorem pow_255 (a : UInt8) (ha : a ≠ 0) : powB a 255 = 1 := by
  rw [← exp_log a ha, ← pow_mul, Nat.mul_comm, pow_mul, exp_255, pow_one]
theorem pow_mod (a : UInt8) (ha : a ≠ 0) (n : Nat) : powB a n = powB a (n % 255) := by
  conv => lhs; rw [← Nat.div_add_mod n 255]
  rw [pow_add, pow_mul, pow_255 a ha, pow_one, one_mul]
/-- The inverse. -/
def invB (a : UInt8) : UInt8 := powB a 254
theorem mul_inv (a : UInt8) (ha : a ≠ 0) : mulB a (invB a) = 1 := by
  have e : mulB (powB a 254) a = powB a 255 := rfl
  rw [invB, mul_comm, e, pow_255 a ha]
theorem inv_ne (a : UInt8) (ha : a ≠ 0) : invB a ≠ 0 := by
  intro h
  have := mul_inv a ha
  rw [h, mul_zero] at this
  exact absurd this (by decide)
theorem mul_cancel (a b c : UInt8) (ha : a ≠ 0) (h : mulB a b = mulB a c) : b = c := by
  have := congrArg (mulB (invB a)) h
  rwa [← mul_assoc, ← mul_assoc, mul_comm (invB a) a, mul_inv a ha, one_mul, one_mul] at this
theorem inv_unique (a b : UInt8) (h : mulB a b = 1) : b = invB a := by
  have ha : a ≠ 0 := by
    rintro rfl
    rw [zero_mul] at h
    exact absurd h (by decide)
  exact mul_cancel a b (invB a) ha (by rw [h, mul_inv a ha])
theorem square_add (a b : UInt8) : mulB (addB a b) (addB a b) = addB (mulB a a) (mulB b b) := by
  rw [mul_add_left, mul_add_right, mul_add_right, mul_comm b a, add_assoc, ← add_assoc (mulB a b) (mulB a b), add_self, zero_add]
end Go.Proofs.YtknjpmoimjhddaaDoor
/-
  Polynomials over the field of 256 elements as plain functions on lists of coefficients: sums, products, values, plain forms, division, slopes; the laws of a ring, up to zeros behind. No conditions but those typed.
-/
namespace Go.Proofs.YtknjpmoimjhddaaDoor
set_option maxRecDepth 100000
set_option linter.unusedVariables false
set_option linter.unusedSimpArgs false

def co (p : List UInt8) (k : Nat) : UInt8 := p.getD k 0
theorem co_nil (k : Nat) : co [] k = 0 := by simp [co]
theorem co_zero (a : UInt8) (p : List UInt8) : co (a :: p) 0 = a := rfl
theorem co_succ (a : UInt8) (p : List UInt8) (k : Nat) : co (a :: p) (k + 1) = co p k := by simp [co]
theorem co_ge (p : List UInt8) (k : Nat) (h : p.length ≤ k) : co p k = 0 := by simp [co, List.getD_eq_getElem?_getD, List.getElem?_eq_none h]
theorem co_lt (p : List UInt8) (k : Nat) (h : k < p.length) : co p k = p[k] := by simp [co, List.getD_eq_getElem?_getD, List.getElem?_eq_getElem h]

/-- The same polynomial, zeros behind let aside. -/
def Eqv (p q : List UInt8) : Prop := ∀ k, co p k = co q k
theorem Eqv.refl (p : List UInt8) : Eqv p p := fun _ => rfl
theorem Eqv.symm {p q : List UInt8} (h : Eqv p q) : Eqv q p := fun k => (h k).symm
theorem Eqv.trans {p q r : List UInt8} (h : Eqv p q) (g : Eqv q r) : Eqv p r := fun k => (h k).trans (g k)
theorem Eqv.cons {p q : List UInt8} (a : UInt8) (h : Eqv p q) : Eqv (a :: p) (a :: q) := fun k => by
  cases k with
  | zero => rfl
  | succ k => rw [co_succ, co_succ, h k]
theorem Eqv.tail {a b : UInt8} {p q : List UInt8} (h : Eqv (a :: p) (b :: q)) : a = b ∧ Eqv p q := ⟨h 0, fun k => by have := h (k + 1); rwa [co_succ, co_succ] at this⟩
theorem Eqv.nil_cons {b : UInt8} {q : List UInt8} (h : Eqv [] (b :: q)) : b = 0 ∧ Eqv [] q := ⟨by have := h 0; rw [co_nil, co_zero] at this; exact this.symm, fun k => by have := h (k + 1); rwa [co_nil, co_succ, ← co_nil k] at this⟩
theorem zero_cons : Eqv [0] [] := fun k => by cases k <;> simp [co]
theorem cons_nil {p : List UInt8} (h : Eqv p []) : Eqv (0 :: p) [] := fun k => by
  cases k with
  | zero => rw [co_zero, co_nil]
  | succ k => rw [co_succ, h k, co_nil, co_nil]

/-! ### Sums, multiples, products -/
def addL : List UInt8 → List UInt8 → List UInt8
  | [], q => q
  | a :: p, [] => a :: p
  | a :: p, b :: q => addB a b :: addL p q
theorem co_add : ∀ (p q : List UInt8) (k : Nat), co (addL p q) k = addB (co p k) (co q k)
  | [], q, k => by rw [addL, co_nil, zero_add]
  | a :: p, [], k => by rw [addL, co_nil, add_zero]
  | a :: p, b :: q, 0 => rfl
  | a :: p, b :: q, k + 1 => by rw [addL, co_succ, co_succ, co_succ, co_add p q k]
def scaleL (a : UInt8) (p : List UInt8) : List UInt8 := p.map (mulB a)
theorem co_scale (a : UInt8) : ∀ (p : List UInt8) (k : Nat), co (scaleL a p) k = mulB a (co p k)
  | [], k => by rw [scaleL, List.map_nil, co_nil, mul_zero]
  | b :: p, 0 => rfl
  | b :: p, k + 1 => by rw [scaleL, List.map_cons, co_succ, co_succ]; exact co_scale a p k
def mulL : List UInt8 → List UInt8 → List UInt8
  | [], _ => []
  | a :: p, q => addL (scaleL a q) (0 :: mulL p q)
theorem add_congr {p p' q q' : List UInt8} (h : Eqv p p') (g : Eqv q q') : Eqv (addL p q) (addL p' q') := fun k => by rw [co_add, co_add, h k, g k]
theorem addL_comm (p q : List UInt8) : Eqv (addL p q) (addL q p) := fun k => by rw [co_add, co_add, add_comm]
theorem addL_assoc (p q r : List UInt8) : Eqv (addL (addL p q) r) (addL p (addL q r)) := fun k => by rw [co_add, co_add, co_add, co_add, add_assoc]
theorem addL_self (p : List UInt8) : Eqv (addL p p) [] := fun k => by rw [co_add, add_self, co_nil]
theorem addL_nil (p : List UInt8) : Eqv (addL p []) p := fun k => by rw [co_add, co_nil, add_zero]
theorem add_four (a b c d : UInt8) : addB (addB a b) (addB c d) = addB (addB a c) (addB b d) := by
  unfold addB
  ac_rfl
theorem addL_four (p q r s : List UInt8) : Eqv (addL (addL p q) (addL r s)) (addL (addL p r) (addL q s)) := fun k => by simp only [co_add]; exact add_four _ _ _ _
theorem scale_congr (a : UInt8) {p q : List UInt8} (h : Eqv p q) : Eqv (scaleL a p) (scaleL a q) := fun k => by rw [co_scale, co_scale, h k]
theorem scale_add (a : UInt8) (p q : List UInt8) : Eqv (scaleL a (addL p q)) (addL (scaleL a p) (scaleL a q)) := fun k => by simp only [co_scale, co_add, mul_add_right]
theorem scale_scale (a b : UInt8) (p : List UInt8) : Eqv (scaleL a (scaleL b p)) (scaleL (mulB a b) p) := fun k => by simp only [co_scale, mul_assoc]
theorem scale_cons (a b : UInt8) (p : List UInt8) : scaleL a (b :: p) = mulB a b :: scaleL a p := rfl
theorem scale_shift (a : UInt8) (p : List UInt8) : Eqv (scaleL a (0 :: p)) (0 :: scaleL a p) := by
  rw [scale_cons, mul_zero]
  exact Eqv.refl _
theorem scale_zero (p : List UInt8) : Eqv (scaleL 0 p) [] := fun k => by rw [co_scale, zero_mul, co_nil]
theorem scale_one (p : List UInt8) : scaleL 1 p = p := by
  unfold scaleL
  have : (mulB 1) = id := funext one_mul
  rw [this, List.map_id]
theorem shift_add (p q : List UInt8) : Eqv (0 :: addL p q) (addL (0 :: p) (0 :: q)) := fun k => by
  cases k with
  | zero => rfl
  | succ k => simp only [co_succ, co_add]
theorem mulL_nil : ∀ p : List UInt8, Eqv (mulL p []) []
  | [] => Eqv.refl _
  | a :: p => by
    rw [mulL]
    exact (add_congr (Eqv.refl _) (cons_nil (mulL_nil p))).trans (addL_nil _)
theorem mul_congr_right : ∀ (p : List UInt8) {q q' : List UInt8}, Eqv q q' → Eqv (mulL p q) (mulL p q')
  | [], _, _, _ => Eqv.refl _
  | a :: p, _, _, h => add_congr (scale_congr a h) ((mul_congr_right p h).cons 0)
theorem mulL_add_right : ∀ (p q r : List UInt8), Eqv (mulL p (addL q r)) (addL (mulL p q) (mulL p r))
  | [], q, r => Eqv.refl _
  | a :: p, q, r => by
    rw [mulL, mulL, mulL]
    exact (add_congr (scale_add a q r) (((mulL_add_right p q r).cons 0).trans (shift_add _ _))).trans (addL_four _ _ _ _)
theorem mulL_scale_right (b : UInt8) : ∀ (p q : List UInt8), Eqv (mulL p (scaleL b q)) (scaleL b (mulL p q))
  | [], q => Eqv.refl _
  | a :: p, q => by
    rw [mulL, mulL]
    refine (add_congr ?_ ((mulL_scale_right b p q).cons 0)).trans (Eqv.symm ((scale_add b _ _).trans (add_congr (Eqv.refl _) (scale_shift b _))))
    exact fun k => by simp only [co_scale, ← mul_assoc, mul_comm a b]
theorem mulL_shift_right : ∀ (p q : List UInt8), Eqv (mulL p (0 :: q)) (0 :: mulL p q)
  | [], q => zero_cons.symm
  | a :: p, q => by
    rw [mulL, mulL]
    exact (add_congr (scale_shift a q) ((mulL_shift_right p q).cons 0)).trans (shift_add _ _).symm
theorem mulL_one_right (b : UInt8) : ∀ p : List UInt8, Eqv (mulL p [b]) (scaleL b p)
  | [] => Eqv.refl _
  | a :: p => by
    rw [mulL]
    refine (add_congr (Eqv.refl _) ((mulL_one_right b p).cons 0)).trans (fun k => ?_)
    cases k with
    | zero => rw [co_add, co_scale, co_zero, co_zero, co_scale, co_zero, add_zero, mul_comm]
    | succ k => rw [co_add, co_scale, co_succ, co_nil, mul_zero, zero_add, co_succ, scale_cons, co_succ]
theorem cons_split (b : UInt8) (q : List UInt8) : Eqv (b :: q) (addL [b] (0 :: q)) := fun k => by
  cases k with
  | zero => rw [co_add, co_zero, co_zero, co_zero, add_zero]
  | succ k => rw [co_add, co_succ, co_succ, co_succ, co_nil, zero_add]
theorem mulL_cons_right (p : List UInt8) (b : UInt8) (q : List UInt8) : Eqv (mulL p (b :: q)) (addL (scaleL b p) (0 :: mulL p q)) :=
  ((mul_congr_right p (cons_split b q)).trans (mulL_add_right p _ _)).trans (add_congr (mulL_one_right b p) (mulL_shift_right p q))
theorem mulL_comm : ∀ p q : List UInt8, Eqv (mulL p q) (mulL q p)
  | [], q => (mulL_nil q).symm
  | a :: p, q => by
    rw [mulL]
    exact (add_congr (Eqv.refl _) ((mulL_comm p q).cons 0)).trans (mulL_cons_right q a p).symm
theorem mul_congr {p p' q q' : List UInt8} (h : Eqv p p') (g : Eqv q q') : Eqv (mulL p q) (mulL p' q') :=
  (mul_congr_right p g).trans ((mulL_comm p q').trans ((mul_congr_right q' h).trans (mulL_comm q' p')))
theorem mulL_add_left (p q r : List UInt8) : Eqv (mulL (addL p q) r) (addL (mulL p r) (mulL q r)) :=
  (mulL_comm _ _).trans ((mulL_add_right r p q).trans (add_congr (mulL_comm r p) (mulL_comm r q)))
theorem mulL_scale_left (b : UInt8) (p q : List UInt8) : Eqv (mulL (scaleL b p) q) (scaleL b (mulL p q)) :=
  (mulL_comm _ _).trans ((mulL_scale_right b q p).trans (scale_congr b (mulL_comm q p)))
theorem mulL_shift_left (p q : List UInt8) : Eqv (mulL (0 :: p) q) (0 :: mulL p q) :=
  (mulL_comm _ _).trans ((mulL_shift_right q p).trans ((mulL_comm q p).cons 0))
theorem mulL_assoc : ∀ p q r : List UInt8, Eqv (mulL (mulL p q) r) (mulL p (mulL q r))
  | [], q, r => Eqv.refl _
  | a :: p, q, r => by
    rw [mulL, mulL]
    exact (mulL_add_left _ _ _).trans (add_congr (mulL_scale_left a q r) ((mulL_shift_left _ _).trans ((mulL_assoc p q r).cons 0)))

/-! ### Values -/
def evalL : List UInt8 → UInt8 → UInt8
  | [], _ => 0
  | a :: p, x => addB a (mulB x (evalL p x))
theorem eval_nil : ∀ {q : List UInt8}, Eqv [] q → ∀ x, evalL q x = 0
  | [], _, _ => rfl
  | b :: q, h, x => by
    obtain ⟨h0, h1⟩ := h.nil_cons
    rw [evalL, h0, eval_nil h1 x, mul_zero, zero_add]
theorem eval_congr : ∀ {p q : List UInt8}, Eqv p q → ∀ x, evalL p x = evalL q x
  | [], q, h, x => (eval_nil h x).symm
  | a :: p, [], h, x => eval_nil h.symm x
  | a :: p, b :: q, h, x => by
    obtain ⟨h0, h1⟩ := h.tail
    rw [evalL, evalL, h0, eval_congr h1 x]
theorem eval_add : ∀ (p q : List UInt8) (x : UInt8), evalL (addL p q) x = addB (evalL p x) (evalL q x)
  | [], q, x => by rw [addL, evalL, zero_add]
  | a :: p, [], x => by rw [addL, evalL, add_zero]
  | a :: p, b :: q, x => by rw [addL, evalL, evalL, evalL, eval_add p q x, mul_add_right, add_four]
theorem eval_scale (b : UInt8) : ∀ (p : List UInt8) (x : UInt8), evalL (scaleL b p) x = mulB b (evalL p x)
  | [], x => by rw [scaleL, List.map_nil, evalL, mul_zero]
  | a :: p, x => by
    have ih := eval_scale b p x
    rw [scale_cons, evalL, evalL, ih, mul_add_right, ← mul_assoc, ← mul_assoc, mul_comm x b]
theorem eval_mul : ∀ (p q : List UInt8) (x : UInt8), evalL (mulL p q) x = mulB (evalL p x) (evalL q x)
  | [], q, x => by rw [mulL, evalL, zero_mul]
  | a :: p, q, x => by rw [mulL, eval_add, eval_scale, evalL, evalL, zero_add, eval_mul p q x, mul_add_left, mul_assoc]
theorem eval_snoc (a : UInt8) (x : UInt8) : ∀ p : List UInt8, evalL (p ++ [a]) x = addB (evalL p x) (mulB a (powB x p.length))
  | [] => by
    rw [List.nil_append, evalL, evalL, evalL, mul_zero, add_zero, zero_add]
    exact (mul_one a).symm
  | b :: p => by
    have hp : powB x (p.length + 1) = mulB (powB x p.length) x := rfl
    rw [List.cons_append, evalL, evalL, eval_snoc a x p, List.length_cons, hp, mul_add_right, ← add_assoc, mul_comm (powB x p.length) x, ← mul_assoc, ← mul_assoc, mul_comm a x]

/-! ### Plain forms -/
def plainL : List UInt8 → List UInt8
  | [] => []
  | a :: p => if plainL p = [] ∧ a = 0 then [] else a :: plainL p
theorem plain_eqv : ∀ p : List UInt8, Eqv (plainL p) p
  | [] => Eqv.refl _
  | a :: p => by
    rw [plainL]
    split
    · next h =>
      have := plain_eqv p
      rw [h.1] at this
      rw [h.2]
      exact (cons_nil this.symm).symm
    · exact (plain_eqv p).cons a
theorem plain_nil : ∀ {q : List UInt8}, Eqv [] q → plainL q = []
  | [], _ => rfl
  | b :: q, h => by
    obtain ⟨h0, h1⟩ := h.nil_cons
    rw [plainL, if_pos ⟨plain_nil h1, h0⟩]
theorem plain_congr : ∀ {p q : List UInt8}, Eqv p q → plainL p = plainL q
  | [], q, h => (plain_nil h).symm
  | a :: p, [], h => plain_nil h.symm
  | a :: p, b :: q, h => by
    obtain ⟨h0, h1⟩ := h.tail
    rw [plainL, plainL, h0, plain_congr h1]
theorem plain_iff {p q : List UInt8} : plainL p = plainL q ↔ Eqv p q := ⟨fun h => (plain_eqv p).symm.trans (h ▸ plain_eqv q), plain_congr⟩
theorem plain_plain (p : List UInt8) : plainL (plainL p) = plainL p := plain_congr (plain_eqv p)
theorem plain_top : ∀ p : List UInt8, plainL p ≠ [] → co p ((plainL p).length - 1) ≠ 0
  | [], h => absurd rfl h
  | a :: p, h => by
    rw [plainL] at h ⊢
    split
    · next hc => rw [if_pos hc] at h; exact absurd rfl h
    · next hc =>
      by_cases hp : plainL p = []
      · rw [hp]
        exact fun e => hc ⟨hp, e⟩
      · have ih := plain_top p hp
        have hl : 0 < (plainL p).length := List.length_pos_iff.2 hp
        rw [List.length_cons, Nat.add_sub_cancel]
        have e : (plainL p).length = ((plainL p).length - 1) + 1 := by omega
        rw [e, co_succ]
        exact ih
theorem plain_ge (p : List UInt8) (k : Nat) (h : (plainL p).length ≤ k) : co p k = 0 := by rw [← plain_eqv p k, co_ge _ _ h]
theorem plain_le_iff (p : List UInt8) (n : Nat) : (plainL p).length ≤ n ↔ ∀ k, n ≤ k → co p k = 0 := by
  constructor
  · intro h k hk
    exact plain_ge p k (by omega)
  · intro h
    rcases Nat.lt_or_ge n (plainL p).length with hlt | hge
    · exact absurd (h ((plainL p).length - 1) (by omega)) (plain_top p (by intro e; rw [e] at hlt; simp at hlt))
    · exact hge
theorem plain_len (p : List UInt8) : (plainL p).length ≤ p.length := (plain_le_iff p _).2 fun k hk => co_ge p k hk
/-- The plain form is the beginning, up to the last one that isn't 0. -/
theorem plain_take (p : List UInt8) (n : Nat) (hn : n ≤ p.length) (hz : ∀ k, n ≤ k → co p k = 0) (ht : n = 0 ∨ co p (n - 1) ≠ 0) : plainL p = p.take n := by
  have hle := (plain_le_iff p n).2 hz
  have hl : (plainL p).length = n := by
    rcases ht with rfl | ht
    · omega
    · rcases Nat.lt_or_ge (plainL p).length n with h | h
      · exact absurd (plain_ge p (n - 1) (by omega)) ht
      · omega
  apply List.ext_getElem
  · rw [hl, List.length_take]
    omega
  · intro i h1 h2
    have e := plain_eqv p i
    have h3 : i < p.length := by rw [List.length_take] at h2; omega
    rw [co_lt _ _ h1, co_lt _ _ h3] at e
    rw [List.getElem_take]
    exact e
theorem plain_of_top (p : List UInt8) (h : p = [] ∨ co p (p.length - 1) ≠ 0) : plainL p = p := by
  have := plain_take p p.length (Nat.le_refl _) (fun k hk => co_ge p k hk) (by
    rcases h with rfl | h
    · exact .inl rfl
    · exact .inr h)
  rwa [List.take_length] at this

/-! ### Degrees of products -/
theorem addL_length : ∀ p q : List UInt8, (addL p q).length = max p.length q.length
  | [], q => by simp [addL]
  | a :: p, [] => by simp [addL]
  | a :: p, b :: q => by
    have := addL_length p q
    simp only [addL, List.length_cons, this]
    omega
theorem mulL_length : ∀ (p q : List UInt8), p ≠ [] → q ≠ [] → (mulL p q).length = p.length + q.length - 1
  | [], q, h, _ => absurd rfl h
  | [a], q, _, hq => by
    have : 0 < q.length := List.length_pos_iff.2 hq
    simp [mulL, addL_length, scaleL]
    omega
  | a :: b :: p, q, _, hq => by
    have ih := mulL_length (b :: p) q (by simp) hq
    have : 0 < q.length := List.length_pos_iff.2 hq
    rw [mulL, addL_length, scaleL, List.length_map, List.length_cons, ih]
    simp only [List.length_cons]
    omega
theorem mulL_top : ∀ (p q : List UInt8), p ≠ [] → q ≠ [] → co (mulL p q) (p.length + q.length - 2) = mulB (co p (p.length - 1)) (co q (q.length - 1))
  | [], q, h, _ => absurd rfl h
  | [a], q, _, hq => by
    have : 0 < q.length := List.length_pos_iff.2 hq
    rw [mulL, mulL, co_add, co_scale, zero_cons, co_nil, add_zero, List.length_singleton, show 1 + q.length - 2 = q.length - 1 by omega]
    rfl
  | a :: b :: p, q, _, hq => by
    have ih := mulL_top (b :: p) q (by simp) hq
    have : 0 < q.length := List.length_pos_iff.2 hq
    have e : (a :: b :: p).length + q.length - 2 = ((b :: p).length + q.length - 2) + 1 := by simp only [List.length_cons]; omega
    rw [mulL, co_add, co_scale, e, co_succ, ih, co_ge q _ (by simp only [List.length_cons]; omega), mul_zero, zero_add]
    rfl
theorem mul_plain_len (p q : List UInt8) (hp : plainL p ≠ []) (hq : plainL q ≠ []) : (plainL (mulL p q)).length = (plainL p).length + (plainL q).length - 1 := by
  have h1 : 0 < (plainL p).length := List.length_pos_iff.2 hp
  have h2 : 0 < (plainL q).length := List.length_pos_iff.2 hq
  have e : plainL (mulL p q) = plainL (mulL (plainL p) (plainL q)) := plain_congr (mul_congr (plain_eqv p).symm (plain_eqv q).symm)
  have hlen := mulL_length _ _ hp hq
  have htop := mulL_top _ _ hp hq
  have hn : co (mulL (plainL p) (plainL q)) ((plainL p).length + (plainL q).length - 2) ≠ 0 := by
    rw [htop, plain_eqv p, plain_eqv q]
    exact mul_ne _ _ (plain_top p hp) (plain_top q hq)
  rw [e, plain_of_top _ (.inr (by rw [hlen, show (plainL p).length + (plainL q).length - 1 - 1 = (plainL p).length + (plainL q).length - 2 by omega]; exact hn)), hlen]
theorem mul_plain_nil {p q : List UInt8} (h : plainL (mulL p q) = []) : plainL p = [] ∨ plainL q = [] := by
  by_cases hp : plainL p = []
  · exact .inl hp
  · by_cases hq : plainL q = []
    · exact .inr hq
    · have := mul_plain_len p q hp hq
      rw [h] at this
      have h1 : 0 < (plainL p).length := List.length_pos_iff.2 hp
      have h2 : 0 < (plainL q).length := List.length_pos_iff.2 hq
      simp at this
      omega

/-! ### Division -/
/-- So often is q in p, and that is left. -/
def IsQuo (p q a r : List UInt8) : Prop := Eqv (addL (mulL a q) r) p ∧ (plainL r).length < (plainL q).length
theorem plain_add_len (p q : List UInt8) : (plainL (addL p q)).length ≤ max (plainL p).length (plainL q).length :=
  (plain_le_iff _ _).2 fun k hk => by rw [co_add, plain_ge p k (by omega), plain_ge q k (by omega), add_zero]
theorem add_cancel {p q : List UInt8} (h : Eqv (addL p q) []) : Eqv p q := fun k => by
  have := h k
  rw [co_add, co_nil] at this
  have e : addB (addB (co p k) (co q k)) (co q k) = addB 0 (co q k) := by rw [this]
  rwa [add_assoc, add_self, add_zero, zero_add] at e
theorem quo_unique {p q a r b s : List UInt8} (h : IsQuo p q a r) (g : IsQuo p q b s) : Eqv a b ∧ Eqv r s := by
  have hq : plainL q ≠ [] := by
    intro e
    have := h.2
    rw [e] at this
    simp at this
  have e1 : Eqv (addL (addL (mulL a q) r) (addL (mulL b q) s)) [] := (add_congr h.1 g.1).trans (addL_self p)
  have e2 : Eqv (addL (mulL (addL a b) q) (addL r s)) [] := ((add_congr (mulL_add_left a b q) (Eqv.refl _)).trans (addL_four _ _ _ _)).trans e1
  have e3 : Eqv (mulL (addL a b) q) (addL r s) := add_cancel e2
  have hab : plainL (addL a b) = [] := by
    by_cases hn : plainL (addL a b) = []
    · exact hn
    · have h1 := mul_plain_len _ _ hn hq
      rw [plain_congr e3] at h1
      have h2 := plain_add_len r s
      have h3 := h.2
      have h4 := g.2
      have h5 : 0 < (plainL (addL a b)).length := List.length_pos_iff.2 hn
      omega
  have e4 : Eqv (addL a b) [] := (plain_eqv _).symm.trans (by rw [hab]; exact Eqv.refl _)
  refine ⟨add_cancel e4, ?_⟩
  have e5 : Eqv (mulL (addL a b) q) [] := (mul_congr e4 (Eqv.refl q)).trans (Eqv.refl _)
  exact add_cancel (e3.symm.trans e5)

/-! ### Slopes -/
def slopeL : List UInt8 → List UInt8
  | [] => []
  | _ :: p => addL p (0 :: slopeL p)
theorem co_slope : ∀ (p : List UInt8) (k : Nat), co (slopeL p) k = if k % 2 = 0 then co p (k + 1) else 0
  | [], k => by rw [slopeL, co_nil, co_nil]; split <;> rfl
  | a :: p, 0 => by
    rw [slopeL, co_add, co_zero, add_zero, co_succ]
    rfl
  | a :: p, k + 1 => by
    rw [slopeL, co_add, co_succ, co_slope p k, co_succ]
    by_cases h : k % 2 = 0
    · rw [if_pos h, if_neg (by omega), add_self]
    · rw [if_neg h, if_pos (by omega), add_zero]
theorem slope_congr {p q : List UInt8} (h : Eqv p q) : Eqv (slopeL p) (slopeL q) := fun k => by rw [co_slope, co_slope, h (k + 1)]
theorem slope_add (p q : List UInt8) : Eqv (slopeL (addL p q)) (addL (slopeL p) (slopeL q)) := fun k => by
  rw [co_slope, co_add, co_add, co_slope, co_slope]
  split
  · rfl
  · rw [add_zero]
theorem slope_scale (a : UInt8) (p : List UInt8) : Eqv (slopeL (scaleL a p)) (scaleL a (slopeL p)) := fun k => by
  rw [co_slope, co_scale, co_scale, co_slope]
  split
  · rfl
  · rw [mul_zero]
theorem slope_mul : ∀ p q : List UInt8, Eqv (slopeL (mulL p q)) (addL (mulL (slopeL p) q) (mulL p (slopeL q)))
  | [], q => Eqv.refl _
  | a :: p, q => by
    have ih := slope_mul p q
    have l1 : Eqv (slopeL (mulL (a :: p) q)) (addL (scaleL a (slopeL q)) (addL (mulL p q) (0 :: addL (mulL (slopeL p) q) (mulL p (slopeL q))))) := by
      rw [mulL]
      refine (slope_add _ _).trans (add_congr (slope_scale a q) ?_)
      rw [slopeL]
      exact add_congr (Eqv.refl _) (ih.cons 0)
    have l2 : Eqv (mulL (slopeL (a :: p)) q) (addL (mulL p q) (0 :: mulL (slopeL p) q)) := by
      rw [slopeL]
      exact (mulL_add_left _ _ _).trans (add_congr (Eqv.refl _) (mulL_shift_left _ _))
    refine l1.trans (Eqv.trans ?_ (add_congr l2.symm (Eqv.refl _)))
    rw [mulL]
    refine (add_congr (Eqv.refl _) (add_congr (Eqv.refl _) (shift_add _ _))).trans (fun k => ?_)
    simp only [co_add]
    unfold addB
    ac_rfl
end Go.Proofs.YtknjpmoimjhddaaDoor
/-
  A block whose first cells are bytes, and worlds in which all but one block lies as it lay (no program is named here). No conditions but those typed.
-/
namespace Go.Proofs.YtknjpmoimjhddaaDoor
set_option maxRecDepth 100000
open Go.RowKit
set_option linter.unusedSimpArgs false
set_option linter.unusedVariables false

/-! ### A block whose first cells are bytes -/
def Cel (w : World) (g : Nat) (e : TypeId) (l : List UInt8) : Prop := ∃ L, Row w g e L ∧ L.take l.length = l.map vB
section
variable {w w' : World} {g : Nat} {e : TypeId} {l : List UInt8}
theorem Cel.lt (h : Cel w g e l) : g < w.heap.size := by
  obtain ⟨L, h1, _⟩ := h
  exact h1.lt
theorem Cel.get (h : Cel w g e l) (i : Nat) (hi : i < l.length) : w.cell? ⟨g, i, none⟩ = some (.int .u8 ((co l i).toNat : Int)) := by
  obtain ⟨L, h1, h2⟩ := h
  rw [h1.cell? i, co_lt l i hi]
  have := congrArg (·[i]?) h2
  simp only [List.getElem?_take, hi, if_true, List.getElem?_map, List.getElem?_eq_getElem hi] at this
  exact this
theorem Cel.frozen (h : Cel w g e l) (i : Nat) : w.frozen? ⟨g, i, none⟩ = false := by
  obtain ⟨L, h1, _⟩ := h
  exact h1.frozen i
theorem Cel.set (h : Cel w g e l) (i : Nat) (z : UInt8) : Cel (w.setCell ⟨g, i, none⟩ (.int .u8 (z.toNat : Int))) g e (l.set i z) := by
  obtain ⟨L, h1, h2⟩ := h
  refine ⟨_, h1.setCell i (.int .u8 (z.toNat : Int)), ?_⟩
  rw [List.length_set, List.take_set, h2, List.map_set]
  rfl
theorem Cel.later (h : Cel w g e l) (hb : Below w.heap.size w w') : Cel w' g e l := by
  obtain ⟨L, h1, h2⟩ := h
  exact ⟨L, h1.later hb, h2⟩
theorem Cel.drew (h : Cel w g e l) : Cel w.drew g e l := h
theorem Cel.rd (h : Cel w g e l) : Rd vB w (some ⟨g, 0, none⟩) l := fun hn => ⟨g, 0, rfl, fun i hi => by rw [Nat.zero_add, h.get i hi, co_lt l i hi]; rfl⟩
theorem cel_of_own {base cap n : Nat} {A : Option Addr} (h : w.ownsRow base e 1 (.slice A n cap) n (l.map vB)) (hl : l.length = n) (hn : 0 < n) : ∃ g, A = some ⟨g, 0, none⟩ ∧ base ≤ g ∧ Cel w g e l := by
  rcases h.2 with ⟨_, h0⟩ | ⟨g, cap', cur, hv, hg, hgg, hc, hm, hs, ht⟩
  · omega
  · have hR : Row w g e cur.toList := hgg
    injection hv with e1 e2 e3
    rw [Nat.mul_one] at ht
    exact ⟨g, e1, hg, cur.toList, hR, by rw [hl]; exact ht⟩
end


/-- .. and the block has cap cells. -/
def CelN (w : World) (g : Nat) (e : TypeId) (cap : Nat) (l : List UInt8) : Prop := ∃ L, Row w g e L ∧ L.length = cap ∧ L.take l.length = l.map vB
theorem CelN.cel {w : World} {g : Nat} {e : TypeId} {cap : Nat} {l : List UInt8} (h : CelN w g e cap l) : Cel w g e l := by
  obtain ⟨L, h1, _, h2⟩ := h
  exact ⟨L, h1, h2⟩
theorem Cel.some_cap {w : World} {g : Nat} {e : TypeId} {l : List UInt8} (h : Cel w g e l) : ∃ cap, CelN w g e cap l := by
  obtain ⟨L, h1, h2⟩ := h
  exact ⟨L.length, L, h1, rfl, h2⟩
theorem CelN.drew {w : World} {g : Nat} {e : TypeId} {cap : Nat} {l : List UInt8} (h : CelN w g e cap l) : CelN w.drew g e cap l := h
theorem CelN.set {w : World} {g : Nat} {e : TypeId} {cap : Nat} {l : List UInt8} (h : CelN w g e cap l) (i : Nat) (z : UInt8) : CelN (w.setCell ⟨g, i, none⟩ (.int .u8 (z.toNat : Int))) g e cap (l.set i z) := by
  obtain ⟨L, h1, h3, h2⟩ := h
  refine ⟨_, h1.setCell i (.int .u8 (z.toNat : Int)), by rw [List.length_set]; exact h3, ?_⟩
  rw [List.length_set, List.take_set, h2, List.map_set]
  rfl
theorem celN_some {w : World} {e : TypeId} {l : List UInt8} {base cap n g : Nat} (h : w.ownsRow base e 1 (.slice (some ⟨g, 0, none⟩) n cap) n (l.map vB)) (hl : l.length = n) : CelN w g e cap l ∧ base ≤ g ∧ n ≤ cap ∧ cap ≤ maxLen := by
  rcases h.2 with ⟨e0, _⟩ | ⟨g', cap', cur, hv, hg, hgg, hc, hm, hs, ht⟩
  · cases e0
  · have hR : Row w g' e cur.toList := hgg
    injection hv with e1 e2 e3
    injection e1 with e1
    injection e1 with e1
    subst e1 e3
    rw [Nat.mul_one] at ht
    exact ⟨⟨cur.toList, hR, by rw [Array.length_toList, hs, Nat.mul_one], by rw [hl]; exact ht⟩, hg, hc, hm⟩
theorem CelN.own {w : World} {e : TypeId} {l : List UInt8} {g cap base : Nat} (h : CelN w g e cap l) (hb : base ≤ g) (hl : l.length ≤ cap) (hm : cap ≤ maxLen) : w.ownsRow base e 1 (.slice (some ⟨g, 0, none⟩) l.length cap) l.length (l.map vB) := by
  obtain ⟨L, h1, h3, h2⟩ := h
  exact ⟨by rw [List.length_map, Nat.mul_one], .inr ⟨g, cap, L.toArray, rfl, hb, h1, hl, hm, by rw [List.size_toArray, h3, Nat.mul_one], by rw [Nat.mul_one]; exact h2⟩⟩

/-! ### All but one block lies as it lay -/
structure Only (g : Nat) (w w' : World) : Prop where
  below : Below g w w'
  other : ∀ b, b ≠ g → b < w.heap.size → w'.heap[b]? = w.heap[b]?
theorem Only.refl (g : Nat) (w : World) : Only g w w := ⟨Below.refl _ _, fun _ _ _ => rfl⟩
theorem Only.trans {g : Nat} {a b c : World} (h : Only g a b) (k : Only g b c) : Only g a c :=
  ⟨h.below.trans k.below, fun x hx hl => (k.other x hx (Nat.lt_of_lt_of_le hl h.below.size)).trans (h.other x hx hl)⟩
theorem Only.drew {g : Nat} {a w : World} (h : Only g a w) : Only g a w.drew := ⟨h.below.drew, h.other⟩
theorem Only.setCell {g : Nat} {a w : World} (h : Only g a w) (i : Nat) (v : Value) : Only g a (w.setCell ⟨g, i, none⟩ v) :=
  ⟨h.below.setCell (p := ⟨g, i, none⟩) (Nat.le_refl _) v, fun b hb hl => (Below.heap_setCell w ⟨g, i, none⟩ v b hb).trans (h.other b hb hl)⟩
theorem Only.later {g : Nat} {w w' : World} (h : Below w.heap.size w w') (hg : g ≤ w.heap.size) : Only g w w' := ⟨h.mono hg, fun b _ hl => h.block b hl⟩
theorem Only.fresh {g : Nat} {w w' : World} (h : Only g w w') (hg : w.heap.size ≤ g) : Below w.heap.size w w' := h.below.mono hg
theorem Rd.only {α : Type} {f : α → Value} {g : Nat} {w w' : World} {A : Option Addr} {l : List α} (h : Rd f w A l) (k : Only g w w') (hA : l ≠ [] → ∀ a, A = some a → a.block ≠ g) : Rd f w' A l := fun hn => by
  obtain ⟨b, o, rfl, hc⟩ := h hn
  refine ⟨b, o, rfl, fun i hi => ?_⟩
  have h1 := hc i hi
  exact (World.cell?_of_block (w := w) (a := ⟨b, o + i, none⟩) (k.other b (hA hn _ rfl) (World.block_lt_of_cell? w _ h1))).trans h1
theorem Rd.off {α : Type} {f : α → Value} {w : World} {A : Option Addr} {l : List α} (h : Rd f w A l) : l ≠ [] → ∀ a, A = some a → a.block < w.heap.size := fun hn a ha => by
  obtain ⟨b, o, e1, hcell⟩ := h hn
  rw [ha] at e1
  injection e1 with e1
  subst e1
  exact World.block_lt_of_cell? w _ (hcell 0 (List.length_pos_iff.2 hn))
theorem Rd.apart {α : Type} {f : α → Value} {w : World} {A : Option Addr} {l : List α} (h : Rd f w A l) {g : Nat} (hg : w.heap.size ≤ g) : l ≠ [] → ∀ a, A = some a → a.block ≠ g := fun hn a ha => by
  have := h.off hn a ha
  omega
theorem Cel.only {g q : Nat} {w w' : World} {e : TypeId} {l : List UInt8} (h : Cel w q e l) (k : Only g w w') (hq : q ≠ g) : Cel w' q e l := by
  have hlt := h.lt
  obtain ⟨L, h1, h2⟩ := h
  exact ⟨L, (k.other q hq hlt).trans h1, h2⟩
theorem Boxed.only {g q : Nat} {w w' : World} {t : TypeId} {v : Value} (h : Boxed w q t v) (k : Only g w w') (hq : q ≠ g) : Boxed w' q t v := (k.other q hq h.lt).trans h
theorem Only.keeps {g : Nat} {w w' : World} {e : TypeId} {l : List UInt8} (h : Only g w w') (hc : Cel w g e l) (B : Nat) : KeepsFrom B w w' := by
  obtain ⟨L, h1, _⟩ := hc
  refine ⟨h.below.size, fun k o _ hk ho => ?_⟩
  by_cases e : k = g
  · subst e
    have h1' : w.heap[k]? = some (.cells L.toArray _ (0, 0)) := h1
    rw [h1'] at hk
    injection hk with hk
    subst hk
    cases ho
  · exact (h.other k e (Array.getElem?_eq_some_iff.1 hk).1).trans hk
/-- A slice of bytes that lies in a block of the call's own from its first cell on. -/
theorem cel_new {w : World} {e : TypeId} {n : Nat} : Cel (w.alloc (.cells (List.replicate n (Value.int .u8 0)).toArray e)) w.heap.size e (List.replicate n 0) :=
  ⟨_, Row.new w e _ _ rfl, by rw [List.length_replicate, List.take_of_length_le (by rw [List.length_replicate]; exact Nat.le_refl _), List.map_replicate]; rfl⟩
theorem Cel.rd_from {w : World} {g : Nat} {e : TypeId} {l : List UInt8} (h : Cel w g e l) (o n : Nat) (hn : o + n ≤ l.length) : Rd vB w (some ⟨g, o, none⟩) ((l.drop o).take n) := fun _ => ⟨g, o, rfl, fun i hi => by
  rw [List.length_take, List.length_drop] at hi
  have hj : o + i < l.length := by omega
  rw [h.get (o + i) hj, co_lt l (o + i) hj, List.getElem_take, List.getElem_drop]
  rfl⟩

theorem cel_some {w : World} {e : TypeId} {l : List UInt8} {base cap n g : Nat} (h : w.ownsRow base e 1 (.slice (some ⟨g, 0, none⟩) n cap) n (l.map vB)) (hl : l.length = n) : Cel w g e l ∧ base ≤ g ∧ n ≤ cap := by
  rcases h.2 with ⟨e0, _⟩ | ⟨g', cap', cur, hv, hg, hgg, hc, hm, hs, ht⟩
  · cases e0
  · have hR : Row w g' e cur.toList := hgg
    injection hv with e1 e2 e3
    injection e1 with e1
    injection e1 with e1
    subst e1
    rw [Nat.mul_one] at ht
    exact ⟨⟨cur.toList, hR, by rw [hl]; exact ht⟩, hg, by omega⟩
theorem zeros_map (n : Nat) : (List.replicate n (Value.int .u8 0)) = (List.replicate n (0 : UInt8)).map vB := by
  rw [List.map_replicate]
  rfl
/-- The cells that a copy leaves. -/
theorem cel_splice {l : List UInt8} {L : List Value} (hL : L.take l.length = l.map vB) (off : Nat) (S : List UInt8) (h : off + S.length ≤ l.length) :
    (L.take off ++ S.map vB ++ L.drop (off + S.length)).take (l.take off ++ S ++ l.drop (off + S.length)).length = (l.take off ++ S ++ l.drop (off + S.length)).map vB := by
  have hlen : l.length ≤ L.length := by
    have := congrArg List.length hL
    rw [List.length_take, List.length_map] at this
    omega
  have h1 : L.take off = (l.take off).map vB := by
    rw [List.map_take, ← hL, List.take_take, Nat.min_eq_left (by omega)]
  have h2 : (L.drop (off + S.length)).take (l.length - (off + S.length)) = (l.drop (off + S.length)).map vB := by
    rw [List.map_drop, ← hL, List.drop_take]
  have h3 : (L.take off ++ S.map vB).length = off + S.length := by rw [List.length_append, List.length_take, List.length_map]; omega
  have h4 : (l.take off ++ S ++ l.drop (off + S.length)).length = l.length := by
    rw [List.length_append, List.length_append, List.length_take, List.length_drop]
    omega
  rw [h4, List.take_append, h3, List.take_of_length_le (by omega), h2, h1, List.map_append, List.map_append]
theorem Only.setRow {g : Nat} {a w : World} (h : Only g a w) (cs : Array Value) : Only g a (w.setRow g cs) :=
  ⟨below_setRow h.below (Nat.le_refl _) cs, fun b hb hl => (Go.setRow_other w g b cs hb).trans (h.other b hb hl)⟩
/-- 'copy(d, s)' into a block whose first cells are bytes. -/
theorem wpList_copy_cel {P : Program} {ops : Array Oper} {rest : List Oper} {o : Oper} {a : Act} {w : World} {Q : Exit → Act → World → Prop} (hgd : o.guard = none) (d s : Operand) (dT sT : TypeId)
    (ho : o.op = .call { callee := .builtin .copy, args := #[d, s], argTypes := #[dT, sT] }) (elem : TypeId) (hu : P.underlying dT = some (.slice elem)) (hsz : (P.info? elem).map (·.size) = some 1)
    (g off dLen dCap : Nat) (A : Option Addr) (S : List UInt8) (sCap : Nat) (hd : a.eval d = .slice (some ⟨g, off, none⟩) dLen dCap) (hs : a.eval s = .slice A S.length sCap)
    (l : List UInt8) (t : TypeId) (hg : Cel w g t l) (hr : Rd vB w A S) (hle : S.length ≤ dLen) (hfit : off + S.length ≤ l.length)
    (h : ∀ w', Cel w' g t (l.take off ++ S ++ l.drop (off + S.length)) → Only g w w' → wpList P ops Q rest (a.put o.dst (.int .i64 (S.length : Int))) w') : wpList P ops Q (o :: rest) a w := by
  obtain ⟨L, h1, h2⟩ := hg
  have hlen : l.length ≤ L.length := by
    have := congrArg List.length h2
    rw [List.length_take, List.length_map] at this
    omega
  refine wpList_copy_row hgd d s dT sT ho elem hu hsz g off dLen dCap A S sCap hd hs L t h1 hr (fun _ => rfl) hle (by omega) ?_
  exact h _ ⟨_, h1.setRow _, cel_splice h2 off S hfit⟩ ((Only.refl g w).setRow _)
end Go.Proofs.YtknjpmoimjhddaaDoor
/-
  errors.As by its contracts, at the targets 'var c api.Errno' and 'var f *api.Fault': an error that is just that (one round), and a fault that wraps a code (two rounds: its Unwrap between them). Condition: the package-level variable errors.errorType holds the handle of the type error (EtC), as the rows list it.
-/
namespace Go.Proofs.YtknjpmoimjhddaaDoor
set_option maxRecDepth 100000
open Go.RowKit Go.Extern.Stop Go.Stop Go.Extern
set_option linter.unusedSimpArgs false
set_option linter.unusedVariables false

def EtC (w : World) : Prop := w.cell? ⟨0, 0, none⟩ = some (.iface 138 (.agg #[.pointer (some ⟨2, 32, none⟩)]))
theorem etC_lt {w : World} (hg : EtC w) : 0 < w.heap.size := World.block_lt_of_cell? w ⟨0, 0, none⟩ hg
theorem EtC.later {w w' : World} (hg : EtC w) (hb : Below w.heap.size w w') : EtC w' := (hb.cell (p := ⟨0, 0, none⟩) (etC_lt hg)).trans hg
theorem EtC.drew {w : World} (hg : EtC w) : EtC w.drew := hg
theorem EtC.only {g : Nat} {w w' : World} (hg : EtC w) (h : Only g w w') (hne : 0 ≠ g) : EtC w' := (World.cell?_of_block (w := w) (a := ⟨0, 0, none⟩) (h.other _ hne (etC_lt hg))).trans hg

/-- errors.As(nil, target). -/
theorem as_nil (t : Value) (w : World) : Calls Tryd.prog 28 #[.nilIface, t] w fun e w' => e = .returned (.bool false) ∧ w' = w := by
  go_enter Tryd.func28, Tryd.ntmps28
  go_wp2
  go_ret
  exact ⟨rfl, rfl⟩
theorem rlmV (z : Sem Value) (f : TypeId → Addr → Nat → Nat → Sem Value) (v : Value) :
    ReflectliteValue.method z f #[v] = (do match ← ReflectliteValue.parts v with | none => z | some (t, a, fl) => f t a fl (fl % 32)) := rfl
theorem rlsV (v x : Value) : ReflectliteValue.set #[v, x] = (do
    let (some (dst, a, fl), some (src, b, _)) := (← ReflectliteValue.parts v, ← ReflectliteValue.parts x)
      | unsupported (.noEntry "extern/(internal/reflectlite.Value).Set.zeroValue")
    if fl / ReflectliteValue.flagAddr % 2 == 0 then unsupported (.noEntry "extern/(internal/reflectlite.Value).Set.unaddressable")
    let val ← loadVar src b
    if ← Rtype.directlyAssignable dst src then storeVar dst a val
    else if ← Rtype.implements dst src then
      if (← Rtype.kind src) == 20 then
        match val with
        | .nilIface => unsupported (.noEntry "extern/reflectlite: a nil value of one interface type handed on as a value of another")
        | _ => storeVar dst a val
      else storeVar dst a (.iface src val)
    else panicString ("reflectlite.Set: value of type " ++ (← Rtype.spelt src) ++ " is not assignable to type " ++ (← Rtype.spelt dst))
    pure (.tuple #[])) := rfl

/-! ### At a target of type *api.Errno -/
theorem vTarE (t : Addr) (w : World) : (ReflectliteValue.unpack (.iface 70 (.pointer (some t)))).run Tryd.prog w = .ok (.agg #[.pointer (some ⟨2, 70, none⟩), .pointer (some ⟨w.heap.size, 0, none⟩), .int .u64 150]) (w.alloc (.cells #[.pointer (some t)] 70)) := by kernel_rfl
theorem tTarE (a : Addr) (w : World) : (ReflectliteValue.methodAny (ReflectliteValue.valueError "reflectlite.Value.Type" 0) (fun t _ _ _ => ReflectliteType.toType t) #[.agg #[.pointer (some ⟨2, 70, none⟩), .pointer (some a), .int .u64 150]]).run Tryd.prog w = .ok (.iface 138 (.agg #[.pointer (some ⟨2, 70, none⟩)])) w := by kernel_rfl
theorem kTarE (w : World) : ((ReflectliteType.abiMethod fun t => (fun a : Nat => Value.int IntKind.u8 (a : Int)) <$> Rtype.kind t) #[.pointer (some ⟨2, 70, none⟩)]).run Tryd.prog w = .ok (.int .u8 22) w := by kernel_rfl
theorem kElE (w : World) : ((ReflectliteType.abiMethod fun t => (fun a : Nat => Value.int IntKind.u8 (a : Int)) <$> Rtype.kind t) #[.pointer (some ⟨2, 43, none⟩)]).run Tryd.prog w = .ok (.int .u8 2) w := by kernel_rfl
theorem pTarE (a : Addr) (w : World) : (ReflectliteValue.parts (.agg #[.pointer (some ⟨2, 70, none⟩), .pointer (some a), .int .u64 150])).run Tryd.prog w = .ok (some (70, a, 150)) w := by kernel_rfl
theorem isNilTarE (a p : Addr) (W : World) (ha : W.cell? a = some (.pointer (some p))) :
    (ReflectliteValue.method (ReflectliteValue.valueError "reflectlite.Value.IsNil" 0) ReflectliteValue.isNil #[.agg #[.pointer (some ⟨2, 70, none⟩), .pointer (some a), .int .u64 150]]).run Tryd.prog W = .ok (.bool false) W := by
  rw [rlmV]
  simp only [Sem.run_bind, pTarE, Result.andThen]
  simp [ReflectliteValue.isNil, loadVar, isAgg, underlying, Tryd.underlying70, ha, Result.andThen]
theorem eTarE (w : World) : (ReflectliteType.method ReflectliteType.elem #[.agg #[.pointer (some ⟨2, 70, none⟩)]]).run Tryd.prog w = .ok (.iface 138 (.agg #[.pointer (some ⟨2, 43, none⟩)])) w := by kernel_rfl
theorem iElE (w : World) : (ReflectliteType.relation "Implements" ReflectliteType.implements_ #[.agg #[.pointer (some ⟨2, 43, none⟩)], .iface 138 (.agg #[.pointer (some ⟨2, 32, none⟩)])]).run Tryd.prog w = .ok (.bool true) w := by kernel_rfl
theorem oElE (v : Value) (w : World) : (ReflectliteType.typeOf #[.iface 43 v]).run Tryd.prog w = .ok (.iface 138 (.agg #[.pointer (some ⟨2, 43, none⟩)])) w := by kernel_rfl
theorem aElE (w : World) : (ReflectliteType.relation "AssignableTo" ReflectliteType.assignableTo #[.agg #[.pointer (some ⟨2, 43, none⟩)], .iface 138 (.agg #[.pointer (some ⟨2, 43, none⟩)])]).run Tryd.prog w = .ok (.bool true) w := by kernel_rfl
theorem vElE (k : Int) (w : World) : (ReflectliteValue.unpack (.iface 43 (.int .i64 k))).run Tryd.prog w = .ok (.agg #[.pointer (some ⟨2, 43, none⟩), .pointer (some ⟨w.heap.size, 0, none⟩), .int .u64 130]) (w.alloc (.cells #[.int .i64 k] 43)) := by kernel_rfl
theorem elemOfE (w : World) : (Rtype.elem? 70).run Tryd.prog w = .ok (some 43) w := by kernel_rfl
theorem mkElE (p : Addr) (w : World) : (ReflectliteValue.mk 43 p ReflectliteValue.flagAddr).run Tryd.prog w = .ok (.agg #[.pointer (some ⟨2, 43, none⟩), .pointer (some p), .int .u64 386]) w := by kernel_rfl
theorem elemVE (a p : Addr) (W : World) (ha : W.cell? a = some (.pointer (some p))) :
    (ReflectliteValue.method (ReflectliteValue.valueError "reflectlite.Value.Elem" 0) ReflectliteValue.elem #[.agg #[.pointer (some ⟨2, 70, none⟩), .pointer (some a), .int .u64 150]]).run Tryd.prog W = .ok (.agg #[.pointer (some ⟨2, 43, none⟩), .pointer (some p), .int .u64 386]) W := by
  rw [rlmV]
  simp only [Sem.run_bind, pTarE, Result.andThen]
  simp [ReflectliteValue.elem, loadVar, isAgg, underlying, Tryd.underlying70, ha, Result.andThen, elemOfE, mkElE]
theorem pElAE (a : Addr) (w : World) : (ReflectliteValue.parts (.agg #[.pointer (some ⟨2, 43, none⟩), .pointer (some a), .int .u64 386])).run Tryd.prog w = .ok (some (43, a, 386)) w := by kernel_rfl
theorem pElE (a : Addr) (w : World) : (ReflectliteValue.parts (.agg #[.pointer (some ⟨2, 43, none⟩), .pointer (some a), .int .u64 130])).run Tryd.prog w = .ok (some (43, a, 130)) w := by kernel_rfl
theorem dElE (w : World) : (Rtype.directlyAssignable 43 43).run Tryd.prog w = .ok true w := by kernel_rfl
theorem setElE (ta b : Addr) (k : Int) (old : Value) (W : World) (hb : W.cell? b = some (.int .i64 k)) (ht : W.cell? ta = some old) (hf : W.frozen? ta = false) :
    (ReflectliteValue.set #[.agg #[.pointer (some ⟨2, 43, none⟩), .pointer (some ta), .int .u64 386], .agg #[.pointer (some ⟨2, 43, none⟩), .pointer (some b), .int .u64 130]]).run Tryd.prog W = .ok (.tuple #[]) (W.setCell ta (.int .i64 k)) := by
  rw [rlsV]
  simp only [Sem.run_bind, pElAE, pElE, Result.andThen]
  simp [ReflectliteValue.flagAddr, loadVar, isAgg, underlying, Tryd.underlying43, hb, Result.andThen, dElE, storeVar, Value.cells, storeCells, Addr.add]
  rw [run_store Tryd.prog W ta _ _ (by rfl)]
  simp [ht, hf]

/-! ### At a target of type **api.Faul -/
theorem vTarF (t : Addr) (w : World) : (ReflectliteValue.unpack (.iface 69 (.pointer (some t)))).run Tryd.prog w = .ok (.agg #[.pointer (some ⟨2, 69, none⟩), .pointer (some ⟨w.heap.size, 0, none⟩), .int .u64 150]) (w.alloc (.cells #[.pointer (some t)] 69)) := by kernel_rfl
theorem tTarF (a : Addr) (w : World) : (ReflectliteValue.methodAny (ReflectliteValue.valueError "reflectlite.Value.Type" 0) (fun t _ _ _ => ReflectliteType.toType t) #[.agg #[.pointer (some ⟨2, 69, none⟩), .pointer (some a), .int .u64 150]]).run Tryd.prog w = .ok (.iface 138 (.agg #[.pointer (some ⟨2, 69, none⟩)])) w := by kernel_rfl
theorem kTarF (w : World) : ((ReflectliteType.abiMethod fun t => (fun a : Nat => Value.int IntKind.u8 (a : Int)) <$> Rtype.kind t) #[.pointer (some ⟨2, 69, none⟩)]).run Tryd.prog w = .ok (.int .u8 22) w := by kernel_rfl
theorem kElF (w : World) : ((ReflectliteType.abiMethod fun t => (fun a : Nat => Value.int IntKind.u8 (a : Int)) <$> Rtype.kind t) #[.pointer (some ⟨2, 67, none⟩)]).run Tryd.prog w = .ok (.int .u8 22) w := by kernel_rfl
theorem pTarF (a : Addr) (w : World) : (ReflectliteValue.parts (.agg #[.pointer (some ⟨2, 69, none⟩), .pointer (some a), .int .u64 150])).run Tryd.prog w = .ok (some (69, a, 150)) w := by kernel_rfl
theorem isNilTarF (a p : Addr) (W : World) (ha : W.cell? a = some (.pointer (some p))) :
    (ReflectliteValue.method (ReflectliteValue.valueError "reflectlite.Value.IsNil" 0) ReflectliteValue.isNil #[.agg #[.pointer (some ⟨2, 69, none⟩), .pointer (some a), .int .u64 150]]).run Tryd.prog W = .ok (.bool false) W := by
  rw [rlmV]
  simp only [Sem.run_bind, pTarF, Result.andThen]
  simp [ReflectliteValue.isNil, loadVar, isAgg, underlying, Tryd.underlying69, ha, Result.andThen]
theorem eTarF (w : World) : (ReflectliteType.method ReflectliteType.elem #[.agg #[.pointer (some ⟨2, 69, none⟩)]]).run Tryd.prog w = .ok (.iface 138 (.agg #[.pointer (some ⟨2, 67, none⟩)])) w := by kernel_rfl
theorem iElF (w : World) : (ReflectliteType.relation "Implements" ReflectliteType.implements_ #[.agg #[.pointer (some ⟨2, 67, none⟩)], .iface 138 (.agg #[.pointer (some ⟨2, 32, none⟩)])]).run Tryd.prog w = .ok (.bool true) w := by kernel_rfl
theorem oElF (v : Value) (w : World) : (ReflectliteType.typeOf #[.iface 67 v]).run Tryd.prog w = .ok (.iface 138 (.agg #[.pointer (some ⟨2, 67, none⟩)])) w := by kernel_rfl
theorem aElF (w : World) : (ReflectliteType.relation "AssignableTo" ReflectliteType.assignableTo #[.agg #[.pointer (some ⟨2, 67, none⟩)], .iface 138 (.agg #[.pointer (some ⟨2, 67, none⟩)])]).run Tryd.prog w = .ok (.bool true) w := by kernel_rfl
theorem vElF (e : Addr) (w : World) : (ReflectliteValue.unpack (.iface 67 (.pointer (some e)))).run Tryd.prog w = .ok (.agg #[.pointer (some ⟨2, 67, none⟩), .pointer (some ⟨w.heap.size, 0, none⟩), .int .u64 150]) (w.alloc (.cells #[.pointer (some e)] 67)) := by kernel_rfl
theorem elemOfF (w : World) : (Rtype.elem? 69).run Tryd.prog w = .ok (some 67) w := by kernel_rfl
theorem mkElF (p : Addr) (w : World) : (ReflectliteValue.mk 67 p ReflectliteValue.flagAddr).run Tryd.prog w = .ok (.agg #[.pointer (some ⟨2, 67, none⟩), .pointer (some p), .int .u64 406]) w := by kernel_rfl
theorem elemVF (a p : Addr) (W : World) (ha : W.cell? a = some (.pointer (some p))) :
    (ReflectliteValue.method (ReflectliteValue.valueError "reflectlite.Value.Elem" 0) ReflectliteValue.elem #[.agg #[.pointer (some ⟨2, 69, none⟩), .pointer (some a), .int .u64 150]]).run Tryd.prog W = .ok (.agg #[.pointer (some ⟨2, 67, none⟩), .pointer (some p), .int .u64 406]) W := by
  rw [rlmV]
  simp only [Sem.run_bind, pTarF, Result.andThen]
  simp [ReflectliteValue.elem, loadVar, isAgg, underlying, Tryd.underlying69, ha, Result.andThen, elemOfF, mkElF]
theorem pElAF (a : Addr) (w : World) : (ReflectliteValue.parts (.agg #[.pointer (some ⟨2, 67, none⟩), .pointer (some a), .int .u64 406])).run Tryd.prog w = .ok (some (67, a, 406)) w := by kernel_rfl
theorem pElF (a : Addr) (w : World) : (ReflectliteValue.parts (.agg #[.pointer (some ⟨2, 67, none⟩), .pointer (some a), .int .u64 150])).run Tryd.prog w = .ok (some (67, a, 150)) w := by kernel_rfl
theorem dElF (w : World) : (Rtype.directlyAssignable 67 67).run Tryd.prog w = .ok true w := by kernel_rfl
theorem setElF (ta b : Addr) (e : Addr) (old : Value) (W : World) (hb : W.cell? b = some (.pointer (some e))) (ht : W.cell? ta = some old) (hf : W.frozen? ta = false) :
    (ReflectliteValue.set #[.agg #[.pointer (some ⟨2, 67, none⟩), .pointer (some ta), .int .u64 406], .agg #[.pointer (some ⟨2, 67, none⟩), .pointer (some b), .int .u64 150]]).run Tryd.prog W = .ok (.tuple #[]) (W.setCell ta (.pointer (some e))) := by
  rw [rlsV]
  simp only [Sem.run_bind, pElAF, pElF, Result.andThen]
  simp [ReflectliteValue.flagAddr, loadVar, isAgg, underlying, Tryd.underlying67, hb, Result.andThen, dElF, storeVar, Value.cells, storeCells, Addr.add]
  rw [run_store Tryd.prog W ta _ _ (by rfl)]
  simp [ht, hf]

/-! ### A fault that is asked for its code: it isn't one; it has no As; it has Unwrap -/
theorem oFault (v : Value) (w : World) : (ReflectliteType.typeOf #[.iface 67 v]).run Tryd.prog w = .ok (.iface 138 (.agg #[.pointer (some ⟨2, 67, none⟩)])) w := by kernel_rfl
theorem aFault (w : World) : (ReflectliteType.relation "AssignableTo" ReflectliteType.assignableTo #[.agg #[.pointer (some ⟨2, 67, none⟩)], .iface 138 (.agg #[.pointer (some ⟨2, 43, none⟩)])]).run Tryd.prog w = .ok (.bool false) w := by kernel_rfl
theorem noAsF (v : Value) (xT : TypeId) (w : World) : (Instr.typeAssert (.iface 67 v) xT 143 true).run Tryd.prog w = .ok (.tuple #[.nilIface, .bool false]) w := run_typeAssert_lacksB Tryd.underlying143 (by kernel_rfl) (by kernel_rfl) v xT w
theorem unwrapF (v : Value) (xT : TypeId) (w : World) : (Instr.typeAssert (.iface 67 v) xT 146 true).run Tryd.prog w = .ok (.tuple #[.iface 67 v, .bool true]) w := run_typeAssert_hasB Tryd.underlying146 (by kernel_rfl) v xT w

set_option maxHeartbeats 4000000 in
theorem as_errno (k : Int) (t : Addr) (old : Value) (w : World) (hg : EtC w) (ht0 : w.cell? t = some old) (hf0 : w.frozen? t = false) :
    Calls Tryd.prog 28 #[.iface 43 (.int .i64 k), .iface 70 (.pointer (some t))] w fun ev w' => ev = .returned (.bool true) ∧ w' = ((((w.alloc (.cells #[.pointer (some t)] 70)).alloc (.cells #[.pointer (some ⟨2, 70, none⟩), .pointer (some ⟨w.heap.size, 0, none⟩), .int .u64 150] 98)).alloc (.cells #[.pointer (some ⟨2, 70, none⟩), .pointer (some ⟨w.heap.size, 0, none⟩), .int .u64 150] 98)).alloc (.cells #[.int .i64 k] 43)).setCell t (.int .i64 k) := by
  have x1 := @run_callFunc_extern Tryd.prog 44 _ (fun args => ReflectliteValue.unpack (args.getD 0 (.tuple #[]))) Tryd.func44 (by kernel_rfl) (by kernel_rfl) (by kernel_rfl) (by kernel_rfl)
  have x2 := @run_callFunc_extern Tryd.prog 45 _ (ReflectliteValue.methodAny (ReflectliteValue.valueError "reflectlite.Value.Type" 0) (fun t _ _ _ => ReflectliteType.toType t)) Tryd.func45 (by kernel_rfl) (by kernel_rfl) (by kernel_rfl) (by kernel_rfl)
  have x3 := @run_callFunc_extern Tryd.prog 46 _ (ReflectliteValue.method (ReflectliteValue.valueError "reflectlite.Value.IsNil" 0) ReflectliteValue.isNil) Tryd.func46 (by kernel_rfl) (by kernel_rfl) (by kernel_rfl) (by kernel_rfl)
  have x4 := @run_callFunc_extern Tryd.prog 108 _ (ReflectliteType.abiMethod fun t => do pure (.int .u8 (← Rtype.kind t))) Tryd.func108 (by kernel_rfl) (by kernel_rfl) (by kernel_rfl) (by kernel_rfl)
  have x5 := @run_callFunc_extern Tryd.prog 154 _ (ReflectliteType.method ReflectliteType.elem) Tryd.func154 (by kernel_rfl) (by kernel_rfl) (by kernel_rfl) (by kernel_rfl)
  have x6 := @run_callFunc_extern Tryd.prog 155 _ (ReflectliteType.relation "Implements" ReflectliteType.implements_) Tryd.func155 (by kernel_rfl) (by kernel_rfl) (by kernel_rfl) (by kernel_rfl)
  have x7 := @run_callFunc_extern Tryd.prog 66 _ ReflectliteType.typeOf Tryd.func66 (by kernel_rfl) (by kernel_rfl) (by kernel_rfl) (by kernel_rfl)
  have x8 := @run_callFunc_extern Tryd.prog 152 _ (ReflectliteType.relation "AssignableTo" ReflectliteType.assignableTo) Tryd.func152 (by kernel_rfl) (by kernel_rfl) (by kernel_rfl) (by kernel_rfl)
  have x9 := @run_callFunc_extern Tryd.prog 67 _ (ReflectliteValue.method (ReflectliteValue.valueError "reflectlite.Value.Elem" 0) ReflectliteValue.elem) Tryd.func67 (by kernel_rfl) (by kernel_rfl) (by kernel_rfl) (by kernel_rfl)
  have x0 := @run_callFunc_extern Tryd.prog 68 _ ReflectliteValue.set Tryd.func68 (by kernel_rfl) (by kernel_rfl) (by kernel_rfl) (by kernel_rfl)
  have y0 := vTarE
  have y1 := tTarE
  have y2 := kTarE
  have y3 := kElE
  have y4 := eTarE
  have y5 := iElE
  have y6 := oElE
  have y7 := aElE
  have y8 := vElE
  have n8 := isNilTarE ⟨w.heap.size, 0, none⟩ t ((w.alloc (.cells #[.pointer (some t)] 70)).alloc (.cells #[.pointer (some ⟨2, 70, none⟩), .pointer (some ⟨w.heap.size, 0, none⟩), .int .u64 150] 98)) (by simp)
  have hlt : 0 < w.heap.size := etC_lt hg
  have hg2 : ((w.alloc (.cells #[.pointer (some t)] 70)).alloc (.cells #[.pointer (some ⟨2, 70, none⟩), .pointer (some ⟨w.heap.size, 0, none⟩), .int .u64 150] 98)).cell? ⟨0, 0, none⟩ = some (.iface 138 (.agg #[.pointer (some ⟨2, 32, none⟩)])) := by
    rw [World.cell?_alloc_lt _ _ ⟨0, 0, none⟩ (by simp <;> omega), World.cell?_alloc_lt _ _ ⟨0, 0, none⟩ hlt]
    exact hg
  have htl : t.block < w.heap.size := by
    rcases Nat.lt_or_ge t.block w.heap.size with h | h
    · exact h
    · simp [World.cell?, Array.getElem?_eq_none h] at ht0
  have el := elemVE ⟨w.heap.size, 0, none⟩ t (((w.alloc (.cells #[.pointer (some t)] 70)).alloc (.cells #[.pointer (some ⟨2, 70, none⟩), .pointer (some ⟨w.heap.size, 0, none⟩), .int .u64 150] 98)).alloc (.cells #[.pointer (some ⟨2, 70, none⟩), .pointer (some ⟨w.heap.size, 0, none⟩), .int .u64 150] 98)) (by rw [World.cell?_alloc_lt _ _ ⟨w.heap.size, 0, none⟩ (by simp; omega)]; simp)
  have st := setElE t ⟨w.heap.size + 1 + 1 + 1, 0, none⟩ k old ((((w.alloc (.cells #[.pointer (some t)] 70)).alloc (.cells #[.pointer (some ⟨2, 70, none⟩), .pointer (some ⟨w.heap.size, 0, none⟩), .int .u64 150] 98)).alloc (.cells #[.pointer (some ⟨2, 70, none⟩), .pointer (some ⟨w.heap.size, 0, none⟩), .int .u64 150] 98)).alloc (.cells #[.int .i64 k] 43))
    (by rw [World.cell?_alloc_at _ _ _ _ (by simp)]; rfl)
    (by rw [World.cell?_alloc_lt _ _ t (by simp; omega), World.cell?_alloc_lt _ _ t (by simp; omega), World.cell?_alloc_lt _ _ t (by simp; omega), World.cell?_alloc_lt _ _ t htl]; exact ht0)
    (by rw [World.frozen?_alloc_old _ _ t (by simp; omega), World.frozen?_alloc_old _ _ t (by simp; omega), World.frozen?_alloc_old _ _ t (by simp; omega), World.frozen?_alloc_old _ _ t (Nat.ne_of_lt htl)]; exact hf0)
  clear hg
  go_enter Tryd.func28, Tryd.ntmps28
  go_wp2
  refine wp_loop_rounds 1 ?_
  rw [rounds_succ]
  go_wp2
  go_ret
  exact ⟨rfl, rfl⟩

set_option maxHeartbeats 4000000 in
theorem as_fault (e : Addr) (t : Addr) (old : Value) (w : World) (hg : EtC w) (ht0 : w.cell? t = some old) (hf0 : w.frozen? t = false) :
    Calls Tryd.prog 28 #[.iface 67 (.pointer (some e)), .iface 69 (.pointer (some t))] w fun ev w' => ev = .returned (.bool true) ∧ w' = ((((w.alloc (.cells #[.pointer (some t)] 69)).alloc (.cells #[.pointer (some ⟨2, 69, none⟩), .pointer (some ⟨w.heap.size, 0, none⟩), .int .u64 150] 98)).alloc (.cells #[.pointer (some ⟨2, 69, none⟩), .pointer (some ⟨w.heap.size, 0, none⟩), .int .u64 150] 98)).alloc (.cells #[.pointer (some e)] 67)).setCell t (.pointer (some e)) := by
  have x1 := @run_callFunc_extern Tryd.prog 44 _ (fun args => ReflectliteValue.unpack (args.getD 0 (.tuple #[]))) Tryd.func44 (by kernel_rfl) (by kernel_rfl) (by kernel_rfl) (by kernel_rfl)
  have x2 := @run_callFunc_extern Tryd.prog 45 _ (ReflectliteValue.methodAny (ReflectliteValue.valueError "reflectlite.Value.Type" 0) (fun t _ _ _ => ReflectliteType.toType t)) Tryd.func45 (by kernel_rfl) (by kernel_rfl) (by kernel_rfl) (by kernel_rfl)
  have x3 := @run_callFunc_extern Tryd.prog 46 _ (ReflectliteValue.method (ReflectliteValue.valueError "reflectlite.Value.IsNil" 0) ReflectliteValue.isNil) Tryd.func46 (by kernel_rfl) (by kernel_rfl) (by kernel_rfl) (by kernel_rfl)
  have x4 := @run_callFunc_extern Tryd.prog 108 _ (ReflectliteType.abiMethod fun t => do pure (.int .u8 (← Rtype.kind t))) Tryd.func108 (by kernel_rfl) (by kernel_rfl) (by kernel_rfl) (by kernel_rfl)
  have x5 := @run_callFunc_extern Tryd.prog 154 _ (ReflectliteType.method ReflectliteType.elem) Tryd.func154 (by kernel_rfl) (by kernel_rfl) (by kernel_rfl) (by kernel_rfl)
  have x6 := @run_callFunc_extern Tryd.prog 155 _ (ReflectliteType.relation "Implements" ReflectliteType.implements_) Tryd.func155 (by kernel_rfl) (by kernel_rfl) (by kernel_rfl) (by kernel_rfl)
  have x7 := @run_callFunc_extern Tryd.prog 66 _ ReflectliteType.typeOf Tryd.func66 (by kernel_rfl) (by kernel_rfl) (by kernel_rfl) (by kernel_rfl)
  have x8 := @run_callFunc_extern Tryd.prog 152 _ (ReflectliteType.relation "AssignableTo" ReflectliteType.assignableTo) Tryd.func152 (by kernel_rfl) (by kernel_rfl) (by kernel_rfl) (by kernel_rfl)
  have x9 := @run_callFunc_extern Tryd.prog 67 _ (ReflectliteValue.method (ReflectliteValue.valueError "reflectlite.Value.Elem" 0) ReflectliteValue.elem) Tryd.func67 (by kernel_rfl) (by kernel_rfl) (by kernel_rfl) (by kernel_rfl)
  have x0 := @run_callFunc_extern Tryd.prog 68 _ ReflectliteValue.set Tryd.func68 (by kernel_rfl) (by kernel_rfl) (by kernel_rfl) (by kernel_rfl)
  have y0 := vTarF
  have y1 := tTarF
  have y2 := kTarF
  have y3 := kElF
  have y4 := eTarF
  have y5 := iElF
  have y6 := oElF
  have y7 := aElF
  have y8 := vElF
  have n8 := isNilTarF ⟨w.heap.size, 0, none⟩ t ((w.alloc (.cells #[.pointer (some t)] 69)).alloc (.cells #[.pointer (some ⟨2, 69, none⟩), .pointer (some ⟨w.heap.size, 0, none⟩), .int .u64 150] 98)) (by simp)
  have hlt : 0 < w.heap.size := etC_lt hg
  have hg2 : ((w.alloc (.cells #[.pointer (some t)] 69)).alloc (.cells #[.pointer (some ⟨2, 69, none⟩), .pointer (some ⟨w.heap.size, 0, none⟩), .int .u64 150] 98)).cell? ⟨0, 0, none⟩ = some (.iface 138 (.agg #[.pointer (some ⟨2, 32, none⟩)])) := by
    rw [World.cell?_alloc_lt _ _ ⟨0, 0, none⟩ (by simp <;> omega), World.cell?_alloc_lt _ _ ⟨0, 0, none⟩ hlt]
    exact hg
  have htl : t.block < w.heap.size := by
    rcases Nat.lt_or_ge t.block w.heap.size with h | h
    · exact h
    · simp [World.cell?, Array.getElem?_eq_none h] at ht0
  have el := elemVF ⟨w.heap.size, 0, none⟩ t (((w.alloc (.cells #[.pointer (some t)] 69)).alloc (.cells #[.pointer (some ⟨2, 69, none⟩), .pointer (some ⟨w.heap.size, 0, none⟩), .int .u64 150] 98)).alloc (.cells #[.pointer (some ⟨2, 69, none⟩), .pointer (some ⟨w.heap.size, 0, none⟩), .int .u64 150] 98)) (by rw [World.cell?_alloc_lt _ _ ⟨w.heap.size, 0, none⟩ (by simp; omega)]; simp)
  have st := setElF t ⟨w.heap.size + 1 + 1 + 1, 0, none⟩ e old ((((w.alloc (.cells #[.pointer (some t)] 69)).alloc (.cells #[.pointer (some ⟨2, 69, none⟩), .pointer (some ⟨w.heap.size, 0, none⟩), .int .u64 150] 98)).alloc (.cells #[.pointer (some ⟨2, 69, none⟩), .pointer (some ⟨w.heap.size, 0, none⟩), .int .u64 150] 98)).alloc (.cells #[.pointer (some e)] 67))
    (by rw [World.cell?_alloc_at _ _ _ _ (by simp)]; rfl)
    (by rw [World.cell?_alloc_lt _ _ t (by simp; omega), World.cell?_alloc_lt _ _ t (by simp; omega), World.cell?_alloc_lt _ _ t (by simp; omega), World.cell?_alloc_lt _ _ t htl]; exact ht0)
    (by rw [World.frozen?_alloc_old _ _ t (by simp; omega), World.frozen?_alloc_old _ _ t (by simp; omega), World.frozen?_alloc_old _ _ t (by simp; omega), World.frozen?_alloc_old _ _ t (Nat.ne_of_lt htl)]; exact hf0)
  clear hg
  go_enter Tryd.func28, Tryd.ntmps28
  go_wp2
  refine wp_loop_rounds 1 ?_
  rw [rounds_succ]
  go_wp2
  go_ret
  exact ⟨rfl, rfl⟩

set_option maxHeartbeats 4000000 in
theorem as_through (k : Int) (pb : Nat) (t : Addr) (old : Value) (w : World) (h1 : w.cell? ⟨pb, 1, none⟩ = some (.iface 43 (.int .i64 k))) (hg : EtC w) (ht0 : w.cell? t = some old) (hf0 : w.frozen? t = false) :
    Calls Tryd.prog 28 #[.iface 67 (.pointer (some ⟨pb, 0, none⟩)), .iface 70 (.pointer (some t))] w fun ev w' => ev = .returned (.bool true) ∧ w' = ((((w.alloc (.cells #[.pointer (some t)] 70)).alloc (.cells #[.pointer (some ⟨2, 70, none⟩), .pointer (some ⟨w.heap.size, 0, none⟩), .int .u64 150] 98)).alloc (.cells #[.pointer (some ⟨2, 70, none⟩), .pointer (some ⟨w.heap.size, 0, none⟩), .int .u64 150] 98)).alloc (.cells #[.int .i64 k] 43)).setCell t (.int .i64 k) := by
  have x1 := @run_callFunc_extern Tryd.prog 44 _ (fun args => ReflectliteValue.unpack (args.getD 0 (.tuple #[]))) Tryd.func44 (by kernel_rfl) (by kernel_rfl) (by kernel_rfl) (by kernel_rfl)
  have x2 := @run_callFunc_extern Tryd.prog 45 _ (ReflectliteValue.methodAny (ReflectliteValue.valueError "reflectlite.Value.Type" 0) (fun t _ _ _ => ReflectliteType.toType t)) Tryd.func45 (by kernel_rfl) (by kernel_rfl) (by kernel_rfl) (by kernel_rfl)
  have x3 := @run_callFunc_extern Tryd.prog 46 _ (ReflectliteValue.method (ReflectliteValue.valueError "reflectlite.Value.IsNil" 0) ReflectliteValue.isNil) Tryd.func46 (by kernel_rfl) (by kernel_rfl) (by kernel_rfl) (by kernel_rfl)
  have x4 := @run_callFunc_extern Tryd.prog 108 _ (ReflectliteType.abiMethod fun t => do pure (.int .u8 (← Rtype.kind t))) Tryd.func108 (by kernel_rfl) (by kernel_rfl) (by kernel_rfl) (by kernel_rfl)
  have x5 := @run_callFunc_extern Tryd.prog 154 _ (ReflectliteType.method ReflectliteType.elem) Tryd.func154 (by kernel_rfl) (by kernel_rfl) (by kernel_rfl) (by kernel_rfl)
  have x6 := @run_callFunc_extern Tryd.prog 155 _ (ReflectliteType.relation "Implements" ReflectliteType.implements_) Tryd.func155 (by kernel_rfl) (by kernel_rfl) (by kernel_rfl) (by kernel_rfl)
  have x7 := @run_callFunc_extern Tryd.prog 66 _ ReflectliteType.typeOf Tryd.func66 (by kernel_rfl) (by kernel_rfl) (by kernel_rfl) (by kernel_rfl)
  have x8 := @run_callFunc_extern Tryd.prog 152 _ (ReflectliteType.relation "AssignableTo" ReflectliteType.assignableTo) Tryd.func152 (by kernel_rfl) (by kernel_rfl) (by kernel_rfl) (by kernel_rfl)
  have x9 := @run_callFunc_extern Tryd.prog 67 _ (ReflectliteValue.method (ReflectliteValue.valueError "reflectlite.Value.Elem" 0) ReflectliteValue.elem) Tryd.func67 (by kernel_rfl) (by kernel_rfl) (by kernel_rfl) (by kernel_rfl)
  have x0 := @run_callFunc_extern Tryd.prog 68 _ ReflectliteValue.set Tryd.func68 (by kernel_rfl) (by kernel_rfl) (by kernel_rfl) (by kernel_rfl)
  have y0 := vTarE
  have y1 := tTarE
  have y2 := kTarE
  have y3 := kElE
  have y4 := eTarE
  have y5 := iElE
  have y6 := oElE
  have y7 := aElE
  have y8 := vElE
  have y9 := oFault
  have y10 := aFault
  have y11 := noAsF
  have y12 := unwrapF
  have n8 := isNilTarE ⟨w.heap.size, 0, none⟩ t ((w.alloc (.cells #[.pointer (some t)] 70)).alloc (.cells #[.pointer (some ⟨2, 70, none⟩), .pointer (some ⟨w.heap.size, 0, none⟩), .int .u64 150] 98)) (by simp)
  have hlt : 0 < w.heap.size := etC_lt hg
  have hg2 : ((w.alloc (.cells #[.pointer (some t)] 70)).alloc (.cells #[.pointer (some ⟨2, 70, none⟩), .pointer (some ⟨w.heap.size, 0, none⟩), .int .u64 150] 98)).cell? ⟨0, 0, none⟩ = some (.iface 138 (.agg #[.pointer (some ⟨2, 32, none⟩)])) := by
    rw [World.cell?_alloc_lt _ _ ⟨0, 0, none⟩ (by simp <;> omega), World.cell?_alloc_lt _ _ ⟨0, 0, none⟩ hlt]
    exact hg
  have htl : t.block < w.heap.size := by
    rcases Nat.lt_or_ge t.block w.heap.size with h | h
    · exact h
    · simp [World.cell?, Array.getElem?_eq_none h] at ht0
  have el := elemVE ⟨w.heap.size, 0, none⟩ t (((w.alloc (.cells #[.pointer (some t)] 70)).alloc (.cells #[.pointer (some ⟨2, 70, none⟩), .pointer (some ⟨w.heap.size, 0, none⟩), .int .u64 150] 98)).alloc (.cells #[.pointer (some ⟨2, 70, none⟩), .pointer (some ⟨w.heap.size, 0, none⟩), .int .u64 150] 98)) (by rw [World.cell?_alloc_lt _ _ ⟨w.heap.size, 0, none⟩ (by simp; omega)]; simp)
  have st := setElE t ⟨w.heap.size + 1 + 1 + 1, 0, none⟩ k old ((((w.alloc (.cells #[.pointer (some t)] 70)).alloc (.cells #[.pointer (some ⟨2, 70, none⟩), .pointer (some ⟨w.heap.size, 0, none⟩), .int .u64 150] 98)).alloc (.cells #[.pointer (some ⟨2, 70, none⟩), .pointer (some ⟨w.heap.size, 0, none⟩), .int .u64 150] 98)).alloc (.cells #[.int .i64 k] 43))
    (by rw [World.cell?_alloc_at _ _ _ _ (by simp)]; rfl)
    (by rw [World.cell?_alloc_lt _ _ t (by simp; omega), World.cell?_alloc_lt _ _ t (by simp; omega), World.cell?_alloc_lt _ _ t (by simp; omega), World.cell?_alloc_lt _ _ t htl]; exact ht0)
    (by rw [World.frozen?_alloc_old _ _ t (by simp; omega), World.frozen?_alloc_old _ _ t (by simp; omega), World.frozen?_alloc_old _ _ t (by simp; omega), World.frozen?_alloc_old _ _ t (Nat.ne_of_lt htl)]; exact hf0)
  clear hg
  have hpl : pb < w.heap.size := World.block_lt_of_cell? w ⟨pb, 1, none⟩ h1
  have h3 : (((w.alloc (.cells #[.pointer (some t)] 70)).alloc (.cells #[.pointer (some ⟨2, 70, none⟩), .pointer (some ⟨w.heap.size, 0, none⟩), .int .u64 150] 98)).alloc (.cells #[.pointer (some ⟨2, 70, none⟩), .pointer (some ⟨w.heap.size, 0, none⟩), .int .u64 150] 98)).cell? ⟨pb, 1, none⟩ = some (.iface 43 (.int .i64 k)) := by
    rw [World.cell?_alloc_lt _ _ ⟨pb, 1, none⟩ (by simp; omega), World.cell?_alloc_lt _ _ ⟨pb, 1, none⟩ (by simp; omega), World.cell?_alloc_lt _ _ ⟨pb, 1, none⟩ hpl]
    exact h1
  clear h1
  go_enter Tryd.func28, Tryd.ntmps28
  go_wp2
  refine wp_loop_rounds 2 ?_
  rw [rounds_succ]
  go_wp2
  rw [rounds_succ]
  go_wp2
  go_ret
  exact ⟨rfl, rfl⟩
end Go.Proofs.YtknjpmoimjhddaaDoor
/-
  What a call of errors.As leaves of its target's block, and of the others. No conditions.
-/
namespace Go.Proofs.YtknjpmoimjhddaaDoor
set_option maxRecDepth 100000
open Go.RowKit

theorem one_row {W : World} {g : Nat} {t : TypeId} {v : Value} (h : Row W g t [v]) : W.cell? ⟨g, 0, none⟩ = some v := h.cell rfl
theorem asR {w w' : World} {g : Nat} {ty a b c d : TypeId} {v z : Value} {x y u r : Array Value} (hR : Row w g ty [z]) (hw : w' = ((((w.alloc (.cells x a)).alloc (.cells y b)).alloc (.cells u c)).alloc (.cells r d)).setCell ⟨g, 0, none⟩ v) : Row w' g ty [v] ∧ Only g w w' := by
  subst hw
  refine ⟨((((hR.alloc _).alloc _).alloc _).alloc _).setCell 0 v, Only.setCell (Only.later ?_ (Nat.le_of_lt hR.lt)) 0 v⟩
  exact below_new (below_new (below_new (below_new (Below.refl _ _) _) _) _) _
theorem below_only {B g : Nat} {w w' w'' : World} (hb : Below B w w') (ho : Only g w' w'') (hg : B ≤ g) : Below B w w'' := hb.trans (ho.below.mono hg)
end Go.Proofs.YtknjpmoimjhddaaDoor
/-
  Faults in their blocks, and what the statements' Told makes of an error. Condition: errors.errorType holds the handle of the type error (EtC).
-/
namespace Go.Proofs.YtknjpmoimjhddaaDoor
set_option maxRecDepth 100000
open Go.RowKit
set_option linter.unusedSimpArgs false
set_option linter.unusedVariables false

/-! ### Faults -/
/-- A fault in its block. -/
def Flt (W : World) (g : Nat) (s k : Int) : Prop := Row W g 73 [.int .i64 s, .iface 43 (.int .i64 k)]
theorem Flt.later {w w' : World} {g : Nat} {s k : Int} (h : Flt w g s k) (hb : Below w.heap.size w w') : Flt w' g s k := Row.later h hb
/-- What a call says of an error: the value, and the block of a fault. -/
abbrev errV (g : Nat) : Value := .iface 67 (.pointer (some ⟨g, 0, none⟩))
theorem size_flt : (Tryd.prog.info? 73).map (·.size) = some 2 := by kernel_rfl

/-! ### Told -/
theorem told_nil (w : World) : Calls Tryd.prog 12 #[.nilIface] w fun e w' => e = .returned (.tuple #[.int .i64 0, .int .i64 0]) ∧ Below w.heap.size w w' := by
  go_enter Tryd.func12, Tryd.ntmps12
  go_wp2
  go_ret2
  exact ⟨rfl, Below.refl _ _⟩
set_option maxHeartbeats 4000000 in
theorem told_flt (g : Nat) (s k : Int) (w : World) (hg : EtC w) (hF : Flt w g s k) :
    Calls Tryd.prog 12 #[errV g] w fun e w' => e = .returned (.tuple #[.int .i64 s, .int .i64 k]) ∧ Below w.heap.size w w' := by
  unfold errV
  go_enter Tryd.func12, Tryd.ntmps12
  go_upto_region 5 with fail
  have hgl := etC_lt hg
  have hgF := Row.lt hF
  have hR1 : Row (w.alloc (.cells #[.pointer none] 67)) w.heap.size 67 [.pointer none] := Row.new w _ _ _ rfl
  have hR2 : Row ((w.alloc (.cells #[.pointer none] 67)).alloc (.cells #[.int .i64 0] 43)) (w.heap.size + 1) 43 [.int .i64 0] := Row.new_at _ _ (by simp) _ _ _ rfl
  replace hR1 := hR1.alloc (.cells #[.int .i64 0] 43)
  have hb := below_new (below_new (Below.refl w.heap.size w) (.cells #[.pointer none] 67)) (.cells #[.int .i64 0] 43)
  generalize (w.alloc (.cells #[.pointer none] 67)).alloc (.cells #[.int .i64 0] 43) = W1 at hR1 hR2 hb ⊢
  have hg1 := hg.later hb
  have hF1 := hF.later hb
  go_wp2_with fail
  refine (as_fault ⟨g, 0, none⟩ ⟨w.heap.size, 0, none⟩ (.pointer none) W1 hg1 (one_row hR1) (hR1.frozen 0)).mono ?_
  rintro e w2 ⟨rfl, hw2⟩
  obtain ⟨hR3, ho⟩ := asR hR1 hw2
  have hg2 := hg1.only ho (by omega)
  have hF2 : Flt w2 g s k := (ho.other g (by omega) (Row.lt hF1)).trans hF1
  have hR4 : Row w2 (w.heap.size + 1) 43 [.int .i64 0] := (ho.other _ (by omega) hR2.lt).trans hR2
  replace hb := below_only hb ho (Nat.le_refl _)
  clear hw2 hR1 hR2 hg1 hF1 ho
  have hf1 : w2.cell? ⟨g, 1, none⟩ = some (.iface 43 (.int .i64 k)) := Row.cell hF2 rfl
  go_wp2_with fail
  refine (as_through k g ⟨w.heap.size + 1, 0, none⟩ (.int .i64 0) w2 hf1 hg2 (one_row hR4) (hR4.frozen 0)).mono ?_
  rintro e w3 ⟨rfl, hw3⟩
  obtain ⟨hR5, ho⟩ := asR hR4 hw3
  have hF3 : Flt w3 g s k := (ho.other g (by omega) (Row.lt hF2)).trans hF2
  have hR6 : Row w3 w.heap.size 67 [.pointer (some ⟨g, 0, none⟩)] := (ho.other _ (by omega) hR3.lt).trans hR3
  replace hb := below_only hb ho (by omega)
  clear hw3 hR3 hR4 hg2 hF2 hf1 ho
  have c0 := one_row hR6
  have c1 := one_row hR5
  have c2 : w3.cell? ⟨g, 0, none⟩ = some (.int .i64 s) := Row.cell hF3 rfl
  go_wp2_with fail
  go_upto_region 7 with fail
  go_region
  all_goals go_wp2_with fail
  all_goals go_ret2
  all_goals exact ⟨rfl, hb.drew⟩

/-- What a call says of an error: nil, or a fault in its block. -/
def ErrV (W : World) (v : Value) (s k : Int) : Prop := (k = 0 ∧ v = .nilIface) ∨ (k ≠ 0 ∧ ∃ g, v = errV g ∧ Flt W g s k)
theorem ErrV.later {w w' : World} {v : Value} {s k : Int} (h : ErrV w v s k) (hb : Below w.heap.size w w') : ErrV w' v s k := by
  rcases h with h | ⟨h, g, e, hF⟩
  · exact .inl h
  · exact .inr ⟨h, g, e, hF.later hb⟩
/-- What Told makes of any such error. -/
theorem told_err (v : Value) (s k : Int) (w : World) (hg : EtC w) (hE : ErrV w v s k) (h0 : Hid (k = 0 → s = 0)) :
    Calls Tryd.prog 12 #[v] w fun e w' => e = .returned (.tuple #[.int .i64 s, .int .i64 k]) ∧ Below w.heap.size w w' := by
  rcases hE with ⟨rfl, rfl⟩ | ⟨_, g, rfl, hF⟩
  · have hs := h0.out rfl
    subst hs
    exact told_nil w
  · exact told_flt g s k w hg hF
end Go.Proofs.YtknjpmoimjhddaaDoor
/-
  Layer 5 as plain functions: terms as pairs of a key and a text, a term's place, the terms with one put, its tag, a tag's term. No conditions but those typed.
-/
namespace Go.Proofs.YtknjpmoimjhddaaDoor
set_option maxRecDepth 100000
set_option linter.unusedVariables false
set_option linter.unusedSimpArgs false

abbrev Tm := List UInt8 × List UInt8
/-- Where x stands first; the length, if nowhere. -/
def idx (x : Tm) : List Tm → Nat
  | [] => 0
  | y :: l => if y = x then 0 else idx x l + 1
theorem idx_le (x : Tm) : ∀ l, idx x l ≤ l.length
  | [] => Nat.le_refl _
  | y :: l => by
    have := idx_le x l
    rw [idx, List.length_cons]
    split <;> omega
theorem idx_lt (x : Tm) : ∀ l, idx x l < l.length ↔ x ∈ l
  | [] => by simp [idx]
  | y :: l => by
    have := idx_lt x l
    rw [idx, List.length_cons, List.mem_cons]
    by_cases h : y = x
    · rw [if_pos h]
      exact ⟨fun _ => .inl h.symm, fun _ => by omega⟩
    · rw [if_neg h, Nat.add_lt_add_iff_right, this]
      exact ⟨.inr, fun k => k.resolve_left fun e => h e.symm⟩
theorem idx_get (x : Tm) : ∀ l (h : idx x l < l.length), l[idx x l] = x
  | [], h => by simp at h
  | y :: l, h => by
    by_cases e : y = x
    · simp [idx, e]
    · have h' : idx x l < l.length := by
        rw [idx, if_neg e] at h
        simpa using h
      have := idx_get x l h'
      simp [idx, e, this]
theorem idx_of (x : Tm) : ∀ (l : List Tm) (k : Nat), k ≤ l.length → (∀ j (h : j < k) (h' : j < l.length), l[j] ≠ x) → (k = l.length ∨ ∃ h : k < l.length, l[k] = x) → idx x l = k
  | [], k, hk, _, _ => by simp at hk; simp [idx, hk]
  | y :: l, 0, _, _, h => by
    rcases h with h | ⟨_, h⟩
    · simp at h
    · simp at h
      simp [idx, h]
  | y :: l, k + 1, hk, hj, h => by
    have hy : y ≠ x := hj 0 (by omega) (by simp)
    rw [idx, if_neg hy, idx_of x l k (by simpa using hk) (fun j hj' h' => hj (j + 1) (by omega) (by simpa using h')) (by
      rcases h with h | ⟨h, h'⟩
      · left
        simpa using h
      · right
        exact ⟨by simpa using h, by simpa using h'⟩)]
theorem idx_before (x : Tm) (l : List Tm) : ∀ j (h : j < l.length), j < idx x l → l[j] ≠ x := by
  induction l with
  | nil => intro j h; simp at h
  | cons y l ih =>
    intro j h hj
    by_cases e : y = x
    · rw [idx, if_pos e] at hj
      omega
    · rw [idx, if_neg e] at hj
      cases j with
      | zero => exact e
      | succ j => exact ih j (by simpa using h) (by omega)
theorem idx_none (x : Tm) (l : List Tm) (h : x ∉ l) : idx x l = l.length := by
  have h1 := idx_le x l
  have h2 : ¬ idx x l < l.length := fun k => h ((idx_lt x l).1 k)
  omega
theorem idx_app (x : Tm) (l m : List Tm) (h : x ∈ l) : idx x (l ++ m) = idx x l := by
  have hl := (idx_lt x l).2 h
  refine idx_of x _ _ (by rw [List.length_append]; omega) (fun j hj h' => ?_) (.inr ⟨by rw [List.length_append]; omega, ?_⟩)
  · rw [List.getElem_append_left (by omega)]
    exact idx_before x l j _ hj
  · rw [List.getElem_append_left hl]
    exact idx_get x l hl
theorem idx_end (x : Tm) (l : List Tm) (h : x ∉ l) : idx x (l ++ [x]) = l.length := by
  refine idx_of x _ _ (by simp) (fun j hj h' => ?_) (.inr ⟨by simp, by simp⟩)
  rw [List.getElem_append_left hj]
  exact fun e => h (e ▸ List.getElem_mem hj)
theorem idx_inj (x y : Tm) (l : List Tm) (hx : x ∈ l) (h : idx x l = idx y l) : x = y := by
  have h1 := (idx_lt x l).2 hx
  have h2 : idx y l < l.length := by omega
  have e1 := idx_get x l h1
  have e2 := idx_get y l h2
  rw [← e1, ← e2]
  simp only [h]

def plI (cs : List Tm) (x : Tm) : Int := if x ∈ cs then (idx x cs : Int) else -1
def putT (cs : List Tm) (x : Tm) : List Tm := if x ∈ cs then cs else cs ++ [x]
def tagT (cs : List Tm) (x : Tm) : List UInt8 := putL (idx x cs + 1)
def ofT (cs : List Tm) (tag : List UInt8) : Tm × Int :=
  if tag.length ≠ 8 then (([], []), 1) else if 1 ≤ valN tag ∧ valN tag ≤ cs.length then (cs.getD (valN tag - 1) ([], []), 0) else (([], []), 7)
def rightT (cs : List Tm) : Bool := decide cs.Nodup

theorem plI_in (cs : List Tm) (x : Tm) (h : x ∈ cs) : plI cs x = (idx x cs : Int) := if_pos h
theorem plI_out (cs : List Tm) (x : Tm) (h : x ∉ cs) : plI cs x = -1 := if_neg h
theorem putT_mem (cs : List Tm) (x : Tm) : x ∈ putT cs x := by
  unfold putT
  split
  · assumption
  · simp
theorem putT_pre (cs : List Tm) (x : Tm) : ∃ m, putT cs x = cs ++ m := by
  unfold putT
  split
  · exact ⟨[], by simp⟩
  · exact ⟨[x], rfl⟩
theorem putT_twice (cs : List Tm) (x : Tm) (h : x ∈ cs) : putT cs x = cs := if_pos h
theorem putT_length (cs : List Tm) (x : Tm) : cs.length ≤ (putT cs x).length ∧ (putT cs x).length ≤ cs.length + 1 := by
  unfold putT
  split <;> simp
theorem putT_right (cs : List Tm) (x : Tm) (h : rightT cs = true) : rightT (putT cs x) = true := by
  unfold rightT at *
  rw [decide_eq_true_eq] at *
  unfold putT
  split
  · exact h
  · next hx =>
    rw [List.nodup_append]
    exact ⟨h, by simp, fun a ha b hb => by simp at hb; subst hb; exact fun e => hx (e ▸ ha)⟩
/-- A tag is the one behind the put, too. -/
theorem tagT_put (cs : List Tm) (x : Tm) : tagT cs x = tagT (putT cs x) x := by
  unfold tagT putT
  split
  · rfl
  · next h => rw [idx_none x cs h, idx_end x cs h]
theorem tagT_app (cs m : List Tm) (x : Tm) (h : x ∈ cs) : tagT (cs ++ m) x = tagT cs x := by
  unfold tagT
  rw [idx_app x cs m h]
theorem putL_inj {v w : Nat} (hv : v < 18446744073709551616) (hw : w < 18446744073709551616) (h : putL v = putL w) : v = w := by
  rw [← valN_putL v hv, ← valN_putL w hw, h]
theorem tagT_inj (cs : List Tm) (x y : Tm) (hx : x ∈ cs) (hy : y ∈ cs) (hl : cs.length ≤ 1000000000) (h : tagT cs x = tagT cs y) : x = y := by
  have h1 := (idx_lt x cs).2 hx
  have h2 := (idx_lt y cs).2 hy
  exact idx_inj x y cs hx (by have := putL_inj (by omega) (by omega) h; omega)
theorem putL_valN (tag : List UInt8) (h : tag.length = 8) : putL (valN tag) = tag := by
  rw [putL_dig, dig_valN tag 8 h]
theorem valN_lt8' (tag : List UInt8) (h : tag.length = 8) : valN tag < 18446744073709551616 := by
  have := valN_lt tag
  rw [h] at this
  omega
theorem putL_eq (v : Nat) (tag : List UInt8) (h : tag.length = 8) (hv : v < 18446744073709551616) : putL v = tag ↔ valN tag = v := by
  constructor
  · intro e
    rw [← e, valN_putL v hv]
  · intro e
    rw [← e, putL_valN tag h]
theorem ofT_tag (cs : List Tm) (x : Tm) (h : x ∈ cs) (hl : cs.length ≤ 1000000000) : ofT cs (tagT cs x) = (x, 0) := by
  have h1 := (idx_lt x cs).2 h
  have e : valN (tagT cs x) = idx x cs + 1 := valN_putL _ (by omega)
  unfold ofT
  rw [if_neg (by simp [tagT, putL_length]), e, if_pos (by omega), Nat.add_sub_cancel, List.getD_eq_getElem?_getD, List.getElem?_eq_getElem h1, idx_get x cs h1]
  rfl
theorem right_iff (cs : List Tm) : rightT cs = true ↔ ∀ i (h : i < cs.length), idx cs[i] cs = i := by
  unfold rightT
  rw [decide_eq_true_eq, List.nodup_iff_pairwise_ne, List.pairwise_iff_getElem]
  constructor
  · intro h i hi
    have h1 : idx cs[i] cs < cs.length := (idx_lt _ _).2 (List.getElem_mem hi)
    have h2 := idx_get cs[i] cs h1
    rcases Nat.lt_trichotomy (idx cs[i] cs) i with hlt | heq | hgt
    · exact absurd h2 (h _ _ h1 hi hlt)
    · exact heq
    · exact absurd rfl (idx_before cs[i] cs i hi hgt)
  · intro h i j hi hj hij e
    have h1 := h i hi
    have h2 := h j hj
    have : idx cs[i] cs = idx cs[j] cs := by rw [e]
    omega
end Go.Proofs.YtknjpmoimjhddaaDoor
/-
  What bytes.Equal answers. No conditions but those typed.
-/
namespace Go.Proofs.YtknjpmoimjhddaaDoor
set_option maxRecDepth 100000
open Go.RowKit
set_option linter.unusedSimpArgs false
set_option linter.unusedVariables false

theorem str_beq (a b : List UInt8) : ((strL a).toList == (strL b).toList) = decide (a = b) := by
  unfold strL
  rw [ByteArray.toList_mk, ByteArray.toList_mk]
  by_cases h : a = b <;> simp [h]

theorem equal_any (a b : List UInt8) (n m : Nat) (A B : Option Addr) (c d : Nat) (w : World) (HN : Hid (a.length = n)) (HM : Hid (b.length = m)) (ha : Rd vB w A a) (hb : Rd vB w B b) :
    Calls Tryd.prog 59 #[.slice A n c, .slice B m d] w fun e w' => e = .returned (.bool (decide (a = b))) ∧ w = w' := by
  have s0 : (convert 25 9 (.slice A n c)).run Tryd.prog w = .ok (.string (strL a)) w := run_str _ _ _ _ Tryd.underlying25 Tryd.underlying5 Tryd.underlying9 _ a _ _ HN.out ha
  have s1 : (convert 25 9 (.slice B m d)).run Tryd.prog w = .ok (.string (strL b)) w := run_str _ _ _ _ Tryd.underlying25 Tryd.underlying5 Tryd.underlying9 _ b _ _ HM.out hb
  have b0 := str_beq a b
  obtain ⟨r, hr⟩ : ∃ r, r = decide (a = b) := ⟨_, rfl⟩
  rw [← hr] at b0 ⊢
  generalize strL a = SA at s0 b0
  generalize strL b = SB at s1 b0
  clear hr ha hb
  go_enter Tryd.func59, Tryd.ntmps59
  go_wp2_with fail
  go_ret
  exact ⟨rfl, rfl⟩
end Go.Proofs.YtknjpmoimjhddaaDoor
