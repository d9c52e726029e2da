/-
  What slices.Clone, slices.Grow (of nil) and slices.Concat answer at lists of bytes: new memory that reads as the bytes did. Conditions: bounds on lengths, as typed.
-/
import Derived.Test.YtdokbhcoekffpaaDoorRow
import Derived.Test.YtdokbhcoekffpaaDoorWordWords
import Derived.Lib.AppendZeros
namespace Go.Proofs.YtdokbhcoekffpaaDoor
open Go.RowKit
set_option linter.unusedSimpArgs false

/-- What a call that hands back a slice in new memory says of it. -/
def RetN {α : Type} (f : α → Value) (w : World) (l : List α) (e : Ending) (w' : World) : Prop :=
  ∃ A cap, e = .returned (.slice A l.length cap) ∧ l.length ≤ cap ∧ Rd f w' A l ∧ (∀ a, A = some a → w.heap.size ≤ a.block) ∧ Below w.heap.size w w'
theorem RetN.own {α : Type} {f : α → Value} {w w' : World} {l : List α} {e : TypeId} {v : Value} (h : w'.ownsRow w.heap.size e 1 v l.length (l.map f)) (hb : Below w.heap.size w w') : RetN f w l (.returned v) w' := by
  rcases h.2 with ⟨rfl, h0⟩ | ⟨g, cap, cur, rfl, hg, _, hc, _⟩
  · have hl : l = [] := List.eq_nil_of_length_eq_zero h0
    subst hl
    exact ⟨none, 0, rfl, Nat.le_refl _, Rd.nil, (fun a h => by cases h), hb⟩
  · exact ⟨_, cap, rfl, hc, Rd.own h, (fun a ha => by injection ha with ha; subst ha; exact hg), hb⟩
theorem RetN.ret {α : Type} {f : α → Value} {w w' : World} {l : List α} {e : Ending} (h : RetN f w l e w') : RetS f w l e w' := by
  obtain ⟨A, cap, h1, h2, h3, _, h5⟩ := h
  exact ⟨A, cap, h1, h2, h3, h5⟩

theorem clone_any (b : List UInt8) (A : Option Addr) (c : Nat) (w : World) (hr : Rd vB w A b) (hl : b.length ≤ 70368744177664) : Calls Tryd.prog 35 #[.slice A b.length c] w (RetN vB w b) := by
  obtain ⟨i0, hi, hz0, hz1, hz2⟩ := info_parts info_u8
  cases A with
  | none =>
    have hb : b = [] := by
      by_cases h : b = []
      · exact h
      · obtain ⟨_, _, e, _⟩ := hr h
        cases e
    subst hb
    have hnil : ∀ W, (binOp .eql 24 (.slice none 0 c) (.slice none 0 0)).run Tryd.prog W = .ok (.bool true) W := fun W => Lib.run_eql_slice_nil W _ _ none 0 c 0 0 Tryd.underlying24
    go_enter Tryd.func35, Tryd.ntmps35
    go_wp2_with fail
    go_ret
    exact ⟨none, 0, rfl, Nat.le_refl _, Rd.nil, (fun a h => by cases h), Below.refl _ _⟩
  | some a =>
    have hnil : ∀ W, (binOp .eql 24 (.slice (some a) b.length c) (.slice none 0 0)).run Tryd.prog W = .ok (.bool false) W := fun W => Lib.run_eql_slice_nil W _ _ (some a) b.length c 0 0 Tryd.underlying24
    have hown0 : (w.alloc (.cells #[] 5)).ownsRow w.heap.size 5 1 (.slice (some ⟨w.heap.size, 0, none⟩) 0 0) 0 [] := World.ownsRow_made w #[] 0 (Nat.le_refl _) (by unfold maxLen; omega) rfl
    have hr0 : Rd vB (w.alloc (.cells #[] 5)) (some a) b := hr.keep (below_new (Below.refl _ _) _)
    go_enter Tryd.func35, Tryd.ntmps35
    go_wp2_with (at_builtin; refine wpList_append_rd _ rfl (.tmp 5) (.tmp 6) 24 rfl w.heap.size 5 i0 (.int .u8 0) 1 Tryd.underlying24 hi hz0 hz1 hz2 rfl _ _ _ rfl hown0 (some a) b c rfl hr0 vB_one (by unfold maxLen; omega) (by omega) (by simp) ?_; intro v1 w1 hown1 hgrow1)
    go_ret
    rw [Nat.zero_add, List.nil_append] at hown1
    exact RetN.own hown1 ((below_new (Below.refl _ w) _).grown hgrow1 (by simp) (fun k hk => (hown0.lt k hk).1))

theorem grow_nil (n : Nat) (w : World) (hn : n ≤ 140737488355328) : Calls Tryd.prog 44 #[.slice none 0 0, .int .i64 (n : Int)] w (RetO 5 vB w []) := by
  obtain ⟨i0, hi, hz0, hz1, hz2⟩ := info_parts info_u8
  by_cases h0 : n = 0
  · subst h0
    go_enter Tryd.func44, Tryd.ntmps44
    go_wp2_with fail
    go_ret
    exact ⟨_, rfl, World.ownsRow_nil _ _ _ _, Below.refl _ _⟩
  · have hp : (0 : Int) < (n : Int) := by omega
    have happ := Lib.run_append_nil_zeros (P := Tryd.prog) w 24 3 24 5 i0 (.int .u8 0) .i64 .i64 Tryd.underlying24 Tryd.underlying3 hi hz0 n (by omega) (by omega) (by omega) (by rw [hz2]; omega)
    have hge := grownCap_ge w n 0 5
    have hle := grownCap_le_maxLen w n 0 5 (by unfold maxLen; omega)
    generalize grownCap w n 0 5 = cap2 at happ hge hle
    have hZs : (Builtin.zeroCells (Value.int .u8 0).cells n ++ Builtin.zeroCells (Value.int .u8 0).cells (cap2 - n)).size = cap2 := by simp [size_zeroCells, Value.cells]; omega
    generalize (Builtin.zeroCells (Value.int .u8 0).cells n ++ Builtin.zeroCells (Value.int .u8 0).cells (cap2 - n)) = Z at happ hZs
    have HO : Hid ((w.drew.alloc (.cells Z 5)).ownsRow w.heap.size 5 1 (.slice (some ⟨w.heap.size, 0, none⟩) 0 cap2) 0 []) := World.ownsRow_made w.drew Z cap2 (Nat.le_refl _) hle (by rw [hZs, Nat.mul_one])
    have HB : Hid (Below w.heap.size w (w.drew.alloc (.cells Z 5))) := (Below.refl _ w).drew.alloc (Nat.le_refl _) _
    unfold maxLen at hle
    clear hZs hge
    go_enter Tryd.func44, Tryd.ntmps44
    go_wp2_with (at_builtin; refine Lib.wpList_append_run _ rfl (.tmp 20) (.tmp 21) _ _ rfl _ _ rfl rfl _ _ happ ?_)
    go_ret
    exact ⟨_, rfl, HO.out, HB.out⟩

/-- A part of what is put together: its memory, its room, its bytes. -/
structure Part where
  A : Option Addr
  cap : Nat
  l : List UInt8
def vPart (p : Part) : Value := .slice p.A p.l.length p.cap
def flatL (ps : List Part) : List UInt8 := ps.flatMap (·.l)
theorem flatL_take (ps : List Part) (k : Nat) (h : k < ps.length) : flatL (ps.take (k + 1)) = flatL (ps.take k) ++ ps[k].l := by
  unfold flatL
  rw [List.take_succ_eq_append_getElem h, List.flatMap_append]
  simp
theorem flatL_le (ps : List Part) (k : Nat) : (flatL (ps.take k)).length ≤ (flatL ps).length := by
  conv => rhs; rw [← List.take_append_drop k ps]
  unfold flatL
  rw [List.flatMap_append, List.length_append]
  omega

def ConcatRel (ps : List Part) (w : World) (v i : Value) (wr : World) : Prop :=
  ∃ k : Nat, k ≤ ps.length ∧ i = .int .i64 (k : Int) ∧ wr.ownsRow w.heap.size 5 1 v (flatL (ps.take k)).length ((flatL (ps.take k)).map vB) ∧ Below w.heap.size w wr
theorem concat_round {ps : List Part} {w wr w1 : World} {k : Nat} {u v : Value} {l : List UInt8} (hk : k < ps.length) (HF : Hid (flatL (ps.take (k + 1)) = flatL (ps.take k) ++ l)) (ho : wr.ownsRow w.heap.size 5 1 u (flatL (ps.take k)).length ((flatL (ps.take k)).map vB)) (hb : Below w.heap.size w wr)
    (ho' : w1.ownsRow w.heap.size 5 1 v ((flatL (ps.take k)).length + l.length) ((flatL (ps.take k)).map vB ++ l.map vB)) (hg : wr.grownBy w1 u.ownBlock) : ConcatRel ps w v (.int .i64 ((k : Int) + 1)) w1 :=
  ⟨k + 1, by omega, by go_num, by rw [HF.out, List.length_append, List.map_append]; exact ho', hb.grown hg hb.size (fun x hx => (ho.lt x hx).1)⟩

theorem concat_any (ps : List Part) (A : Option Addr) (c : Nat) (w : World) (hr : Rd vPart w A ps) (hn : ps.length ≤ 9223372036854775807) (hp : ∀ p ∈ ps, Rd vB w p.A p.l) (hl : (flatL ps).length ≤ 70368744177664) :
    Calls Tryd.prog 36 #[.slice A ps.length c] w (RetN vB w (flatL ps)) := by
  obtain ⟨i0, hi, hz0, hz1, hz2⟩ := info_parts info_u8
  have HP := Lib.hid hp
  clear hp
  go_enter Tryd.func36, Tryd.ntmps36
  go_wp2_with fail
  go_loop [3, 11] (fun v i => ∃ k : Nat, k ≤ ps.length ∧ i = .int .i64 k ∧ v = .int .i64 ((flatL (ps.take k)).length : Int)) (fun _ i => ps.length - (intOf i).toNat)
  case atStart => exact ⟨0, Nat.zero_le _, rfl, rfl⟩
  case round =>
    obtain ⟨k, hk, rfl, rfl⟩ := hrel
    have hle := flatL_le ps k
    by_cases hlt : k < ps.length
    · obtain ⟨blk, o, rfl, hb, hcell⟩ := hr.at hlt
      have hc0 := hcell k hlt
      have HF := Lib.hid (congrArg List.length (flatL_take ps k hlt))
      have hle2 := flatL_le ps (k + 1)
      rw [HF.out, List.length_append] at hle2
      rw [List.length_append] at HF
      generalize ps[k] = p at hc0 HF hle2
      unfold vPart at hc0
      clear hcell hr
      have i1 : (0 : Int) ≤ (k : Int) := by omega
      have i2 : (k : Int) < (ps.length : Int) := by omega
      go_wp2_with fail
      go_round
      case rel => exact ⟨k + 1, by omega, by go_num, by rw [HF.out]; go_num⟩
      case measure => simp [intOf]; omega
    · have hkk : k = ps.length := by omega
      subst hkk
      have HT : Hid (flatL (ps.take ps.length) = flatL ps) := by unfold Hid; rw [List.take_length]
      rw [HT.out] at hle ⊢
      generalize hN : (flatL ps).length = N at hl hle
      have HN := Lib.hid hN
      clear hN
      go_wp2_with fail
      refine (grow_nil N _ (by omega)).mono ?_
      rintro e w1 ⟨v1, rfl, hown1, hb1⟩
      go_wp2_with fail
      go_loopw [6, 27] (fun v i wr => ConcatRel ps w v i wr) (fun _ i _ => ps.length - (intOf i).toNat)
      case atStart => exact ⟨0, Nat.zero_le _, rfl, hown1, hb1⟩
      case round =>
        clear hown1 hb1
        obtain ⟨k, hk, rfl, hown, hbel⟩ := hrel
        by_cases hlt : k < ps.length
        · obtain ⟨blk, o, rfl, hb, hcell⟩ := hr.at hlt
          have hc0 : wr.cell? ⟨blk, o + k, none⟩ = some (vPart ps[k]) := (hbel.cell (p := ⟨blk, o + k, none⟩) hb).trans (hcell k hlt)
          have HF := Lib.hid (flatL_take ps k hlt)
          have hpk := (HP.out ps[k] (List.getElem_mem hlt)).keep hbel
          have hle2 := flatL_le ps (k + 1)
          rw [HF.out, List.length_append, HN.out] at hle2
          generalize ps[k] = p at hc0 HF hle2 hpk
          unfold vPart at hc0
          clear hcell hr
          have i1 : (0 : Int) ≤ (k : Int) := by omega
          have i2 : (k : Int) < (ps.length : Int) := by omega
          go_wp2_with (at_builtin; refine wpList_append_rd _ rfl (.tmp 31) (.tmp 32) 24 rfl w.heap.size 5 i0 (.int .u8 0) 1 Tryd.underlying24 hi hz0 hz1 hz2 rfl _ _ _ rfl hown p.A p.l p.cap rfl hpk vB_one (by unfold maxLen; omega) (by omega) hbel.size ?_; intro v2 w2 hown2 hgrow2)
          go_roundw
          case rel => exact concat_round hlt HF hown hbel hown2 hgrow2
          case measure => simp [intOf]; omega
        · have hkk : k = ps.length := by omega
          subst hkk
          rw [HT.out] at hown
          go_wp2_with fail
          go_ret
          exact RetN.own hown hbel
theorem concat_two (r b T : List UInt8) (A B : Option Addr) (c d g k : Nat) (w : World) (HT : Hid (T = r ++ b)) (hp : Rd vPart w (some ⟨g, 0, none⟩) [⟨A, c, r⟩, ⟨B, d, b⟩]) (hr : Rd vB w A r) (hb : Rd vB w B b) (hl : T.length ≤ 70368744177664) :
    Calls Tryd.prog 36 #[.slice (some ⟨g, 0, none⟩) 2 k] w (RetN vB w T) := by
  have e : flatL [⟨A, c, r⟩, ⟨B, d, b⟩] = T := by rw [HT.out]; simp [flatL]
  have := concat_any [⟨A, c, r⟩, ⟨B, d, b⟩] (some ⟨g, 0, none⟩) k w hp (by simp) (fun p hp => by
    simp only [List.mem_cons, List.not_mem_nil, or_false] at hp
    rcases hp with rfl | rfl
    · exact hr
    · exact hb) (by rw [e]; exact hl)
  rw [e] at this
  exact this

end Go.Proofs.YtdokbhcoekffpaaDoor
