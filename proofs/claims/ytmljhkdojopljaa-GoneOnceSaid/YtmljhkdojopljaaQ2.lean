/-
  Structs of three numbers and a slice of bytes (payloads, activations): as cells, as a value, in a block of their own; calls that hand back a list of bytes. No conditions but those typed.
-/
import Derived.Test.YtmljhkdojopljaaQ1
import Derived.Test.YtmljhkdojopljaaChecked
import Derived.Test.YtmljhkdojopljaaRows
import Derived.WalkKit
import Derived.WalkSpells
import Derived.Lib.Hide
import Derived.LoopTactic
import Derived.LoopN
import Derived.OwnWalk
import Derived.Lib.AppendZeros
import Derived.Maps.AppendAt
import Derived.Deep.DeepCutAuto
import Derived.Laws.StructEq
namespace Go.Proofs.Ytmljhkdojopljaa
set_option maxRecDepth 100000
open Go.RowKit
set_option linter.unusedSimpArgs false
set_option linter.unusedVariables false

/-- A payload as its cells. -/
def cellsP (t e c : Nat) (A : Option Addr) (n k : Nat) : List Value := [.int .u64 (t : Int), .int .u64 (e : Int), .int .u64 (c : Int), .slice A n k]
def aggP (t e c : Nat) (A : Option Addr) (n k : Nat) : Value := .agg #[.int .u64 (t : Int), .int .u64 (e : Int), .int .u64 (c : Int), .slice A n k]
theorem box_pay (w : World) (ty : TypeId) (a b c d : Value) : Row (w.alloc (.cells #[a, b, c, d] ty)) w.heap.size ty [a, b, c, d] ∧ Below w.heap.size w (w.alloc (.cells #[a, b, c, d] ty)) := ⟨Row.new w ty _ _ rfl, below_new (Below.refl _ _) _⟩
def sameF (t e c : Nat) (g : List UInt8) (t' e' c' : Nat) (g' : List UInt8) : Bool := decide (t = t' ∧ e = e' ∧ c = c' ∧ g = g')
/-- A call that hands back a list of bytes. -/
def RetZ (w : World) (l : List UInt8) (e : Ending) (w' : World) : Prop := ∃ A n c, e = .returned (.slice A n c) ∧ Hid (l.length = n) ∧ n ≤ c ∧ Rd vB w' A l ∧ Below w.heap.size w w'
theorem RetZ.own {w w' : World} {l : List UInt8} {base : Nat} {e : TypeId} {v : Value} {n : Nat} (hn : l.length = n) (h : w'.ownsRow base e 1 v n (l.map vB)) (hb : Below w.heap.size w w') : RetZ w l (.returned v) w' := by
  subst hn
  obtain ⟨A, c, rfl, hc, hr⟩ := own_slice h
  exact ⟨A, l.length, c, rfl, rfl, hc, hr, hb⟩

theorem own_lit (w : World) (e : TypeId) (l : List Value) (cs : Array Value) (h : cs = l.toArray) (hm : l.length ≤ maxLen) : (w.alloc (.cells cs e)).ownsRow w.heap.size e 1 (.slice (some ⟨w.heap.size, 0, none⟩) l.length l.length) l.length l :=
  ⟨by simp, .inr ⟨w.heap.size, l.length, cs, rfl, Nat.le_refl _, heap_alloc_new w _, Nat.le_refl _, hm, by subst h; simp, by subst h; simp⟩⟩
theorem one_four (a b c d : Value) (ha : a.oneCell' = true) (hb : b.oneCell' = true) (hc : c.oneCell' = true) (hd : d.oneCell' = true) : ∀ v ∈ [a, b, c, d], v.oneCell' = true := fun v hv => by
  simp at hv
  rcases hv with rfl | rfl | rfl | rfl <;> assumption
theorem strBz (n : Nat) {w : World} {A : Option Addr} {l : List UInt8} {c : Nat} (H : Hid (l.length = n)) (h : Rd vB w A l) : ∀ W, Below w.heap.size w W → (convert 47 9 (.slice A n c)).run Try.prog W = .ok (.string (strL l)) W :=
  fun W hW => run_str W _ _ _ Try.underlying47 Try.underlying5 Try.underlying9 A l n c H.out (h.keep hW)
theorem str_sameB (a b : List UInt8) (S : Bool) (h : (a = b) ↔ S = true) : ((strL a).toList == (strL b).toList) = S := by
  rw [strL_toList, strL_toList, Bool.eq_iff_iff, beq_iff_eq]
  exact h
theorem same_selfP (t e c : Nat) (g : List UInt8) : sameF t e c g t e c g = true := by unfold sameF; simp
end Go.Proofs.Ytmljhkdojopljaa
/-
  What the calls word.Rot and math/bits.RotateLeft32 answer: the word turned (every word, every count that an int may be).
-/
namespace Go.Proofs.Ytmljhkdojopljaa
set_option maxRecDepth 100000
open Go.RowKit


end Go.Proofs.Ytmljhkdojopljaa
/-
  What the call word.join answers: the number of the bytes, modulo 2^64.
-/
namespace Go.Proofs.Ytmljhkdojopljaa
set_option maxRecDepth 100000
open Go.RowKit

theorem join_any (l : List UInt8) (A : Option Addr) (cap : Nat) (w : World) (hr : Rd vB w A l) (hl : l.length ≤ 9223372036854775807) :
    Calls Try.prog 69 #[.slice A l.length cap] w fun e w' => e = .returned (.int .u64 ((valN l % 18446744073709551616 : Nat) : Int)) ∧ w = w' := by
  go_enter Try.func69, Try.ntmps69
  go_wp2
  go_loop [3, 8] (fun v i => ∃ k : Nat, k ≤ l.length ∧ i = .int .i64 k ∧ v = .int .u64 ((valN (l.take k) % 18446744073709551616 : Nat) : Int)) (fun _ i => l.length - (intOf i).toNat)
  case atStart => exact ⟨0, Nat.zero_le _, rfl, rfl⟩
  case round =>
    obtain ⟨k, hk, rfl, rfl⟩ := hrel
    by_cases hlt : k < l.length
    · obtain ⟨b, o, rfl, hb, hcell⟩ := hr.at hlt
      have hc := hcell k hlt
      unfold vB at hc
      have hb8 : l[k].toNat < 256 := l[k].toNat_lt
      have HS : Hid _ := join_step (valN (l.take k)) l[k].toNat hb8
      have HT : Hid _ := valN_take l k hlt
      generalize l[k] = c at hc hb8 HS HT
      clear hcell hr
      go_wp2
      go_round
      case rel => exact ⟨k + 1, by omega, by go_num, by rw [HT.out, HS.out]⟩
      case measure => simp [intOf]; omega
    · have hk' : k = l.length := by omega
      have HK : Hid (l.take k = l) := by rw [hk']; exact List.take_length
      clear hk'
      go_wp2
      go_ret
      exact ⟨ret_int (by rw [HK.out]), rfl⟩

end Go.Proofs.Ytmljhkdojopljaa
/-
  What the calls word.Get and word.FromLeast answer, for any bytes.
-/
namespace Go.Proofs.Ytmljhkdojopljaa
set_option maxRecDepth 100000
open Go.RowKit

theorem get_any (l : List UInt8) (A : Option Addr) (cap : Nat) (w : World) (hr : Rd vB w A l) (hl : l.length ≤ 9223372036854775807) :
    Calls Try.prog 65 #[.slice A l.length cap] w fun e w' => e = .returned (.tuple #[.int .u64 ((getR l).1 : Int), .int .i64 (getR l).2]) ∧ w = w' := by
  by_cases h8 : l.length = 8
  · have hv := valN_lt8 l (by omega)
    have H : Hid (getR l = (valN l, 0)) := by unfold Hid getR; rw [if_pos h8]
    have HL := Lib.hid h8
    have h8' : ((l.length : Int) != 8) = false := by simp; omega
    clear h8
    go_enter Try.func65, Try.ntmps65
    go_wp2_with (go_at_call 69; refine (join_any l _ _ _ hr hl).mono ?_; rintro e w' ⟨rfl, rfl⟩)
    go_ret2
    exact ⟨ret_int2 (by rw [H.out]; show (valN l : Int) % _ = (valN l : Int); omega) (by rw [H.out]), rfl⟩
  · have H : Hid (getR l = (0, 1)) := by unfold Hid getR; rw [if_neg h8]
    have h8' : ((l.length : Int) != 8) = true := by simp; omega
    clear h8
    go_enter Try.func65, Try.ntmps65
    go_wp2_with fail
    go_ret2
    exact ⟨ret_int2 (by rw [H.out]; rfl) (by rw [H.out]), rfl⟩


end Go.Proofs.Ytmljhkdojopljaa
/-
  What the calls word.Put and word.Least answer, for any number.
-/
namespace Go.Proofs.Ytmljhkdojopljaa
set_option maxRecDepth 100000
open Go.RowKit

theorem vB_ofNat (n : Nat) : vB (UInt8.ofNat n) = .int .u8 ((n % 256 : Nat) : Int) := by
  unfold vB
  rw [UInt8.toNat_ofNat']
theorem put_cells (v : Nat) (hv : v < 18446744073709551616) :
    #[Value.int IntKind.u8 ((v : Int) / 72057594037927936), Value.int IntKind.u8 ((v : Int) / 281474976710656 % 256), Value.int IntKind.u8 ((v : Int) / 1099511627776 % 256), Value.int IntKind.u8 ((v : Int) / 4294967296 % 256),
      Value.int IntKind.u8 ((v : Int) / 16777216 % 256), Value.int IntKind.u8 ((v : Int) / 65536 % 256), Value.int IntKind.u8 ((v : Int) / 256 % 256), Value.int IntKind.u8 ((v : Int) % 256)] = ((putL v).map vB).toArray := by
  have e : (putL v).map vB = [vB (UInt8.ofNat (v / 72057594037927936)), vB (UInt8.ofNat (v / 281474976710656)), vB (UInt8.ofNat (v / 1099511627776)), vB (UInt8.ofNat (v / 4294967296)),
      vB (UInt8.ofNat (v / 16777216)), vB (UInt8.ofNat (v / 65536)), vB (UInt8.ofNat (v / 256)), vB (UInt8.ofNat (v / 1))] := rfl
  rw [e]
  simp only [vB_ofNat]
  have e0 : ((v : Int) / 72057594037927936) = ((v / 72057594037927936 % 256 : Nat) : Int) := by omega
  rw [e0]
  simp
theorem putL_length (v : Nat) : (putL v).length = 8 := rfl

theorem put_any (v : Nat) (hv : v < 18446744073709551616) (w : World) :
    Calls Try.prog 48 #[.int .u64 (v : Int)] w (RetS vB w (putL v)) := by
  have hmk : ∀ w, (Instr.makeSlice 47 (.int .i64 8) (.int .i64 8)).run Try.prog w = .ok (.slice (some ⟨w.heap.size, 0, none⟩) 8 8) (w.alloc (.cells #[.int .u8 0, .int .u8 0, .int .u8 0, .int .u8 0, .int .u8 0, .int .u8 0, .int .u8 0, .int .u8 0] 5)) := fun _ => by kernel_rfl
  go_enter Try.func48, Try.ntmps48
  go_wp2
  refine wp_loop_rounds 9 ?_
  iterate 9 (rw [rounds_succ]; go_wp2)
  go_ret
  exact ⟨_, 8, rfl, Nat.le_refl _, Rd.new _ _ _ _ (put_cells v hv), (Below.refl _ _).alloc (Nat.le_refl _) _⟩

def LeastRel (L : List UInt8) (w : World) (s : Value) : Prop := ∃ (M : List UInt8) (A : Option Addr) (cap : Nat), s = .slice A M.length cap ∧ M.length ≤ cap ∧ M.length ≤ 8 ∧ Rd vB w A M ∧ L.dropWhile (· == 0) = M.dropWhile (· == 0)
def sliceLen : Value → Nat | .slice _ n _ => n | _ => 0

theorem size_uint8 (w : World) : (sizeOf 5).run Try.prog w = .ok 1 w := by kernel_rfl


end Go.Proofs.Ytmljhkdojopljaa
/-
  What the calls word.Words and word.Bytes answer, for any bytes and words of up to 2^45 each.
-/
namespace Go.Proofs.Ytmljhkdojopljaa
set_option maxRecDepth 100000
open Go.RowKit

theorem info_u32 : (Try.prog.info? 114).map (fun i => (i.zero, i.size, i.bytes)) = some (some (.int .u32 0), 1, 4) := by kernel_rfl
theorem info_u8 : (Try.prog.info? 5).map (fun i => (i.zero, i.size, i.bytes)) = some (some (.int .u8 0), 1, 1) := by kernel_rfl

def WordsRel (L : List UInt8) (w : World) (s v : Value) (wr : World) : Prop :=
  ∃ (M : List UInt8) (D : List UInt32) (A : Option Addr) (cap : Nat), s = .slice A M.length cap ∧ M.length ≤ cap ∧ Rd vB w A M ∧
    wr.ownsRow w.heap.size 114 1 v D.length (D.map vW) ∧ Below w.heap.size w wr ∧ wordsL L = D ++ wordsL M ∧ 4 * D.length + M.length ≤ L.length

theorem words_round {L M : List UInt8} {D : List UInt32} {w wr w1 : World} {A : Option Addr} {cap V : Nat} {u v : Value} {o : Obj} (hM : M.length + 4 ≤ cap) (hL : 4 * D.length + M.length + 4 ≤ L.length) (hr : Rd vB w A M)
    (ho : wr.ownsRow w.heap.size 114 1 u D.length (D.map vW)) (hb : Below w.heap.size w wr) (HV : Hid (Value.int .u32 (V : Int) = vW (UInt32.ofNat V))) (HW : Hid (wordsL L = (D ++ [UInt32.ofNat V]) ++ wordsL M))
    (ho' : w1.ownsRow w.heap.size 114 1 v (D.length + 1) (D.map vW ++ [.int .u32 (V : Int)])) (hg : (wr.alloc o).grownBy w1 u.ownBlock) : WordsRel L w (.slice A M.length (cap - 4)) v w1 :=
  ⟨M, D ++ [UInt32.ofNat V], A, cap - 4, rfl, by omega, hr, by rw [HV.out] at ho'; simpa using ho',
    (hb.alloc hb.size o).grown hg (by have := hb.size; simp; omega) (fun k hk => (ho.lt k hk).1), HW.out, by simp; omega⟩


def BytesRel (L : List UInt32) (w : World) (v i : Value) (wr : World) : Prop :=
  ∃ k : Nat, k ≤ L.length ∧ i = .int .i64 k ∧ wr.ownsRow w.heap.size 5 1 v (bytesL (L.take k)).length ((bytesL (L.take k)).map vB) ∧ Below w.heap.size w wr

theorem bytesL_length (l : List UInt32) : (bytesL l).length = 4 * l.length := by
  unfold bytesL
  induction l with
  | nil => rfl
  | cons a l ih => rw [List.flatMap_cons, List.length_append, ih, List.length_cons]; show 4 + _ = _; omega
theorem bytesL_take (l : List UInt32) (k : Nat) (h : k < l.length) : bytesL (l.take (k + 1)) = bytesL (l.take k) ++ bytesW l[k] := by
  unfold bytesL
  rw [List.take_succ_eq_append_getElem h, List.flatMap_append]
  simp

theorem bytesW_cells (x : UInt32) : [Value.int .u8 ((x.toNat : Int) / 16777216), Value.int .u8 ((x.toNat : Int) / 65536 % 256), Value.int .u8 ((x.toNat : Int) / 256 % 256), Value.int .u8 ((x.toNat : Int) % 256)] = (bytesW x).map vB := by
  have hx := u32_lt x
  unfold bytesW
  simp only [List.map_cons, List.map_nil, vB_ofNat]
  have e0 : ((x.toNat : Int) / 16777216) = ((x.toNat / 16777216 % 256 : Nat) : Int) := by omega
  rw [e0]
  simp
theorem bytes_round {L : List UInt32} {w wr w1 : World} {k : Nat} {x : UInt32} {u v : Value} {o : Obj} (hk : k < L.length) (ho : wr.ownsRow w.heap.size 5 1 u (bytesL (L.take k)).length ((bytesL (L.take k)).map vB))
    (hb : Below w.heap.size w wr) (HT : Hid (bytesL (L.take (k + 1)) = bytesL (L.take k) ++ bytesW x)) (hg : (wr.alloc o).grownBy w1 u.ownBlock)
    (ho' : w1.ownsRow w.heap.size 5 1 v ((bytesL (L.take k)).length + 4) ((bytesL (L.take k)).map vB ++ [Value.int .u8 ((x.toNat : Int) / 16777216), Value.int .u8 ((x.toNat : Int) / 65536 % 256), Value.int .u8 ((x.toNat : Int) / 256 % 256), Value.int .u8 ((x.toNat : Int) % 256)])) :
    BytesRel L w v (.int .i64 ((k : Int) + 1)) w1 :=
  ⟨k + 1, by omega, by go_num, by rw [HT.out]; rw [bytesW_cells, ← List.map_append] at ho'; simpa [bytesW] using ho',
    (hb.alloc hb.size o).grown hg (by have := hb.size; simp; omega) (fun k hk => (ho.lt k hk).1)⟩


end Go.Proofs.Ytmljhkdojopljaa
/-
  What bytes.Clone, slices.Clone, slices.Grow (of nil) and slices.Concat answer at lists of bytes: new memory that reads as the bytes did. Conditions: bounds on lengths, as typed.
-/
namespace Go.Proofs.Ytmljhkdojopljaa
set_option maxRecDepth 100000
open Go.RowKit
set_option linter.unusedSimpArgs false

/-- What a call that hands back a slice in new memory says of it. -/
def RetN {α : Type} (f : α → Value) (w : World) (l : List α) (e : Ending) (w' : World) : Prop :=
  ∃ A cap, e = .returned (.slice A l.length cap) ∧ l.length ≤ cap ∧ Rd f w' A l ∧ (∀ a, A = some a → w.heap.size ≤ a.block) ∧ Below w.heap.size w w'
theorem RetN.own {α : Type} {f : α → Value} {w w' : World} {l : List α} {e : TypeId} {v : Value} (h : w'.ownsRow w.heap.size e 1 v l.length (l.map f)) (hb : Below w.heap.size w w') : RetN f w l (.returned v) w' := by
  rcases h.2 with ⟨rfl, h0⟩ | ⟨g, cap, cur, rfl, hg, _, hc, _⟩
  · have hl : l = [] := List.eq_nil_of_length_eq_zero h0
    subst hl
    exact ⟨none, 0, rfl, Nat.le_refl _, Rd.nil, (fun a h => by cases h), hb⟩
  · exact ⟨_, cap, rfl, hc, Rd.own h, (fun a ha => by injection ha with ha; subst ha; exact hg), hb⟩
theorem RetN.ret {α : Type} {f : α → Value} {w w' : World} {l : List α} {e : Ending} (h : RetN f w l e w') : RetS f w l e w' := by
  obtain ⟨A, cap, h1, h2, h3, _, h5⟩ := h
  exact ⟨A, cap, h1, h2, h3, h5⟩




/-- A part of what is put together: its memory, its room, its bytes. -/
structure Part where
  A : Option Addr
  cap : Nat
  l : List UInt8
def vPart (p : Part) : Value := .slice p.A p.l.length p.cap
def flatL (ps : List Part) : List UInt8 := ps.flatMap (·.l)
theorem flatL_take (ps : List Part) (k : Nat) (h : k < ps.length) : flatL (ps.take (k + 1)) = flatL (ps.take k) ++ ps[k].l := by
  unfold flatL
  rw [List.take_succ_eq_append_getElem h, List.flatMap_append]
  simp
theorem flatL_le (ps : List Part) (k : Nat) : (flatL (ps.take k)).length ≤ (flatL ps).length := by
  conv => rhs; rw [← List.take_append_drop k ps]
  unfold flatL
  rw [List.flatMap_append, List.length_append]
  omega



end Go.Proofs.Ytmljhkdojopljaa
/-
  What word.Put answers, in memory of its own; an array of three numbers, at a place; calls that hand back a list of bytes and an error. No conditions but those typed.
-/
namespace Go.Proofs.Ytmljhkdojopljaa
set_option maxRecDepth 100000
open Go.RowKit
set_option linter.unusedSimpArgs false
set_option linter.unusedVariables false

/-- A call that hands back a list of bytes and an error. -/
def RetV (w : World) (l : List UInt8) (k : Int) (e : Ending) (w' : World) : Prop := ∃ A n c, e = .returned (.tuple #[.slice A n c, .int .i64 k]) ∧ Hid (l.length = n) ∧ n ≤ c ∧ Rd vB w' A l ∧ Below w.heap.size w w'

theorem put_new (v : Nat) (hv : v < 18446744073709551616) (w : World) :
    Calls Try.prog 48 #[.int .u64 (v : Int)] w (RetN vB w (putL v)) := by
  have hmk : ∀ w, (Instr.makeSlice 47 (.int .i64 8) (.int .i64 8)).run Try.prog w = .ok (.slice (some ⟨w.heap.size, 0, none⟩) 8 8) (w.alloc (.cells #[.int .u8 0, .int .u8 0, .int .u8 0, .int .u8 0, .int .u8 0, .int .u8 0, .int .u8 0, .int .u8 0] 5)) := fun _ => by kernel_rfl
  go_enter Try.func48, Try.ntmps48
  go_wp2
  refine wp_loop_rounds 9 ?_
  iterate 9 (rw [rounds_succ]; go_wp2)
  go_ret
  exact ⟨_, 8, rfl, Nat.le_refl _, Rd.new _ _ _ _ (put_cells v hv), (fun a ha => by injection ha with ha; subst ha; exact Nat.le_refl _), (Below.refl _ _).alloc (Nat.le_refl _) _⟩
theorem put_at (v : Nat) (hv : v < 18446744073709551616) (w : World) : Calls Try.prog 48 #[.int .u64 (v : Int)] w fun e w' => ∃ A c, e = .returned (.slice A 8 c) ∧ 8 ≤ c ∧ Rd vB w' A (putL v) ∧ Below w.heap.size w w' :=
  (put_new v hv w).mono fun e w' ⟨A, c, h1, h2, h3, _, h4⟩ => ⟨A, c, h1, h2, h3, h4⟩
theorem cut_mid (A : Option Addr) (n cap lo m : Nat) (h : lo + m ≤ cap) (W : World) : (Instr.slice 47 (.slice A n cap) (some (.int .i64 (lo : Int))) (some (.int .i64 ((lo : Int) + (m : Int)))) none).run Try.prog W = .ok (.slice (if cap = lo then A else A.map (·.add (lo * 1))) m (cap - lo)) W := by
  have he : Try.prog.elem 47 = 5 := by simp [Program.elem, Try.underlying47]
  rw [run_slice_lh W 47 A n cap (by rw [he]; exact Try.underlying47) .i64 .i64 (lo : Int) ((lo : Int) + (m : Int)) (by omega) (by omega) (by omega), he, size_uint8]
  simp only [Result.andThen, sliced, Int.toNat_natCast]
  rw [show ((lo : Int) + (m : Int)).toNat - lo = m by omega]
end Go.Proofs.Ytmljhkdojopljaa
/-
  append of what reads as a list onto a row of the call's own: the row's block behind it is the one it was, or a new one; blocks known whole stay (no program is named here). No conditions but those typed.
-/
namespace Go.Proofs.Ytmljhkdojopljaa
set_option maxRecDepth 100000
open Go.RowKit

theorem Row.grown {w w' : World} {g : Nat} {t : TypeId} {l : List Value} {row : Option Nat} (h : Row w g t l) (hg : w.grownBy w' row) (hn : row ≠ some g) : Row w' g t l :=
  (hg.block g h.lt (fun e => hn e.symm)).trans h
/-- Apart from a block that was there. -/
theorem apart_of {w : World} {v v' : Value} {g : Nat} (h : v.ownBlock ≠ some g) (hg : g < w.heap.size) (hat : v'.ownBlock = v.ownBlock ∨ v'.ownBlock = some w.heap.size) : v'.ownBlock ≠ some g := by
  rcases hat with e | e
  · rw [e]; exact h
  · rw [e]
    intro h
    injection h with h
    omega
section
variable {P : Program} (w : World)
theorem run_append_apart {α : Type} {f : α → Value} (base : Nat) (t ty e : TypeId) (i : TypeInfo) (z : Value) (bytes : Nat) (ht : P.underlying t = some (.slice e)) (hi : P.info? e = some i) (hz : i.zero = some z)
    (hsize : i.size = 1) (hby : i.bytes = bytes) (hzs : z.cells.size = 1) (v : Value) (n : Nat) (xs : List Value) (hown : w.ownsRow base e 1 v n xs)
    (A : Option Addr) (l : List α) (c : Nat) (hr : Rd f w A l) (h1 : ∀ x, (f x).oneCell' = true)
    (h63 : n + l.length ≤ maxLen) (hbytes : (n + l.length) * bytes ≤ 140737488355328) (hbase : base ≤ w.heap.size) :
    ∃ v' w', (Builtin.append_ #[t, t] ty #[v, .slice A l.length c]).run P w = .ok v' w' ∧ w'.ownsRow base e 1 v' (n + l.length) (xs ++ l.map f) ∧ w.grownBy w' v.ownBlock ∧ (v'.ownBlock = v.ownBlock ∨ v'.ownBlock = some w.heap.size) := by
  have hone : ∀ u ∈ l.map f, u.oneCell' = true := by
    intro u hu
    simp only [List.mem_map] at hu
    obtain ⟨x, _, rfl⟩ := hu
    exact h1 x
  by_cases hl : l = []
  · subst hl
    cases A with
    | none => exact ⟨v, w, run_append_nothing_of w base t ty e i ht hi v n xs hown c, by simpa using hown, ⟨rfl, rfl, rfl, Nat.le_refl _, fun _ _ _ => rfl⟩, .inl rfl⟩
    | some ad =>
      obtain ⟨v', w', hrun, h2, h3, _, h4⟩ := run_append_own_at (P := P) w base t ty e i z 1 bytes ht hi hz hsize hby hzs (by omega) v n xs hown ad 0 c [] rfl (fun j u h => by simp at h) (fun u h => by simp at h) h63 hbytes hbase
      exact ⟨v', w', hrun, h2, h3, h4⟩
  · obtain ⟨b, o, rfl, _⟩ := hr hl
    obtain ⟨v', w', hrun, h2, h3, _, h4⟩ := run_append_own_at (P := P) w base t ty e i z 1 bytes ht hi hz hsize hby hzs (by omega) v n xs hown ⟨b, o, none⟩ l.length c (l.map f) (by simp) hr.news hone h63 hbytes hbase
    exact ⟨v', w', hrun, h2, h3, h4⟩

theorem wp_append_apart {α : Type} {f : α → Value} {o : Oper} {a : Act} {K : Act → World → Prop} {Q : Exit → Act → World → Prop} (s x : Operand) (t : TypeId)
    (ho : o.op = .call { callee := .builtin .append, args := #[s, x], argTypes := #[t, t] })
    (base : Nat) (e : TypeId) (i : TypeInfo) (z : Value) (bytes : Nat) (ht : P.underlying t = some (.slice e)) (hi : P.info? e = some i) (hz : i.zero = some z)
    (hsize : i.size = 1) (hby : i.bytes = bytes) (hzs : z.cells.size = 1) (v : Value) (n : Nat) (xs : List Value) (hs : a.eval s = v) (hown : w.ownsRow base e 1 v n xs)
    (A : Option Addr) (l : List α) (c : Nat) (hx : a.eval x = .slice A l.length c) (hr : Rd f w A l) (h1 : ∀ x, (f x).oneCell' = true)
    (h63 : n + l.length ≤ maxLen) (hbytes : (n + l.length) * bytes ≤ 140737488355328) (hbase : base ≤ w.heap.size)
    (h : ∀ v' w', w'.ownsRow base e 1 v' (n + l.length) (xs ++ l.map f) → w.grownBy w' v.ownBlock → (v'.ownBlock = v.ownBlock ∨ v'.ownBlock = some w.heap.size) → K (a.put o.dst v') w') : o.wp P a w K Q := by
  obtain ⟨v', w', hr, h2, h3, h4⟩ := run_append_apart (P := P) w base t o.type e i z bytes ht hi hz hsize hby hzs v n xs hown A l c hr h1 h63 hbytes hbase
  unfold Oper.wp execOp
  simp only [ho, resolve, invoke, builtin, Sem.run_bind, Sem.run_pure, Result.andThen_ok, List.map_toArray, List.map_cons, List.map_nil, hs, hx, hr]
  exact h v' w' h2 h3 h4

theorem wpList_append_apart {α : Type} {f : α → Value} {ops : Array Oper} {rest : List Oper} {o : Oper} {a : Act} {Q : Exit → Act → World → Prop} (hgd : o.guard = none) (s x : Operand) (t : TypeId)
    (ho : o.op = .call { callee := .builtin .append, args := #[s, x], argTypes := #[t, t] })
    (base : Nat) (e : TypeId) (i : TypeInfo) (z : Value) (bytes : Nat) (ht : P.underlying t = some (.slice e)) (hi : P.info? e = some i) (hz : i.zero = some z)
    (hsize : i.size = 1) (hby : i.bytes = bytes) (hzs : z.cells.size = 1) (v : Value) (n : Nat) (xs : List Value) (hs : a.eval s = v) (hown : w.ownsRow base e 1 v n xs)
    (A : Option Addr) (l : List α) (c : Nat) (hx : a.eval x = .slice A l.length c) (hr : Rd f w A l) (h1 : ∀ x, (f x).oneCell' = true)
    (h63 : n + l.length ≤ maxLen) (hbytes : (n + l.length) * bytes ≤ 140737488355328) (hbase : base ≤ w.heap.size)
    (h : ∀ v' w', w'.ownsRow base e 1 v' (n + l.length) (xs ++ l.map f) → w.grownBy w' v.ownBlock → (v'.ownBlock = v.ownBlock ∨ v'.ownBlock = some w.heap.size) → wpList P ops Q rest (a.put o.dst v') w') : wpList P ops Q (o :: rest) a w :=
  wpList_plain hgd fun _ hK => wp_append_apart w s x t ho base e i z bytes ht hi hz hsize hby hzs v n xs hs hown A l c hx hr h1 h63 hbytes hbase fun v' w' h2 h3 h4 => hK _ _ (h v' w' h2 h3 h4)
end
end Go.Proofs.Ytmljhkdojopljaa
/-
  What the reference's calls Rot, Value, FromLeast, Put and Bytes answer: the same as the program's, for whatever is given.
-/
namespace Go.Proofs.Ytmljhkdojopljaa
set_option maxRecDepth 100000
open Go.RowKit

theorem wordsL_length (l : List UInt8) : 4 * (wordsL l).length ≤ l.length := by
  have := congrArg List.length (bytesL_wordsL l)
  rw [bytesL_length, List.length_take] at this
  omega
theorem rot_one (x : UInt32) : (rotR x 1).toNat = x.toNat / 2 + x.toNat % 2 * 2147483648 := by
  have hx := u32_lt x
  have e : (rotR x 1).toNat = (x.toBitVec >>> 1 ||| x.toBitVec <<< 31).toNat := by
    show (x.toBitVec.rotateRight 1).toNat = _
    rw [BitVec.rotateRight_def]
  rw [e, BitVec.toNat_or, BitVec.toNat_shiftLeft, BitVec.toNat_ushiftRight, Nat.shiftLeft_eq, Nat.shiftRight_eq_div_pow]
  show x.toNat / 2 ^ 1 ||| x.toNat * 2 ^ 31 % 2 ^ 32 = _
  have e2 : x.toNat * 2 ^ 31 % 2 ^ 32 = 2 ^ 31 * (x.toNat % 2) := by omega
  rw [e2, Nat.or_comm, ← Nat.two_pow_add_eq_or_of_lt (by omega)]
  omega
theorem rot_next (x : UInt32) (k : Nat) : rotR x (k + 1) = rotR (rotR x k) 1 := (rotR_rotR x k 1).symm
theorem rot_even (x y : UInt32) (h : x.toNat % 2 = 0) (e : y = rotR x 1) : y.toNat = x.toNat / 2 := by
  rw [e, rot_one]
  omega
theorem rot_odd (x y : UInt32) (h : x.toNat % 2 = 1) (e : y = rotR x 1) : y.toNat = x.toNat / 2 + 2147483648 := by
  rw [e, rot_one]
  omega

def RotRel (x : UInt32) (n : Nat) (u i : Value) : Prop := ∃ k : Nat, k ≤ n ∧ i = .int .i64 k ∧ u = .int .u32 ((rotR x k).toNat : Int)



theorem value_step (a c : Nat) : IntKind.u64.wrap (IntKind.u64.wrap (256 * ((a : Int) % 18446744073709551616)) + (c : Int)) = (((a * 256 + c) % 18446744073709551616 : Nat) : Int) := by
  rw [IntKind.wrap_u64, IntKind.wrap_u64]
  omega
def ValueRel (l : List UInt8) (v i : Value) : Prop := ∃ k : Nat, k ≤ l.length ∧ i = .int .i64 k ∧ v = .int .u64 ((valN (l.take k) % 18446744073709551616 : Nat) : Int)

theorem value_any (l : List UInt8) (A : Option Addr) (cap : Nat) (w : World) (hr : Rd vB w A l) (hl : l.length ≤ 9223372036854775807) :
    Calls Try.prog 52 #[.slice A l.length cap] w fun e w' => e = .returned (.int .u64 ((valN l % 18446744073709551616 : Nat) : Int)) ∧ w = w' := by
  go_enter Try.func52, Try.ntmps52
  go_wp2
  go_loop [3, 4] (fun v i => ValueRel l v i) (fun _ i => l.length - (intOf i).toNat)
  case atStart => exact ⟨0, Nat.zero_le _, rfl, rfl⟩
  case round =>
    obtain ⟨k, hk, rfl, rfl⟩ := hrel
    by_cases hlt : k < l.length
    · obtain ⟨b, o, rfl, hb, hcell⟩ := hr.at hlt
      have hc : w.cell? ⟨b, o + k, none⟩ = some (.int .u8 (l[k].toNat : Int)) := hcell k hlt
      have hb8 : l[k].toNat < 256 := l[k].toNat_lt
      have HT : Hid _ := valN_take l k hlt
      generalize l[k] = c at hc hb8 HT
      clear hcell hr
      go_wp2
      go_round
      case rel =>
        refine ⟨k + 1, by omega, by go_num, ?_⟩
        rw [HT.out, value_step]
      case measure => simp [intOf]; omega
    · have hk' : k = l.length := by omega
      have HK : Hid (l.take k = l) := by rw [hk']; exact List.take_length
      clear hk'
      go_wp2
      go_ret
      exact ⟨ret_int (by rw [HK.out]), rfl⟩


theorem refput_cells (v : Nat) (hv : v < 18446744073709551616) :
    #[Value.int IntKind.u8 ((v : Int) / 256 / 256 / 256 / 256 / 256 / 256 / 256 % 256), Value.int IntKind.u8 ((v : Int) / 256 / 256 / 256 / 256 / 256 / 256 % 256), Value.int IntKind.u8 ((v : Int) / 256 / 256 / 256 / 256 / 256 % 256), Value.int IntKind.u8 ((v : Int) / 256 / 256 / 256 / 256 % 256),
      Value.int IntKind.u8 ((v : Int) / 256 / 256 / 256 % 256), Value.int IntKind.u8 ((v : Int) / 256 / 256 % 256), Value.int IntKind.u8 ((v : Int) / 256 % 256), Value.int IntKind.u8 ((v : Int) % 256)] = ((putL v).map vB).toArray := by
  rw [← put_cells v hv]
  have e7 : (v : Int) / 256 / 256 / 256 / 256 / 256 / 256 / 256 % 256 = (v : Int) / 72057594037927936 := by omega
  have e6 : (v : Int) / 256 / 256 / 256 / 256 / 256 / 256 % 256 = (v : Int) / 281474976710656 % 256 := by omega
  have e5 : (v : Int) / 256 / 256 / 256 / 256 / 256 % 256 = (v : Int) / 1099511627776 % 256 := by omega
  have e4 : (v : Int) / 256 / 256 / 256 / 256 % 256 = (v : Int) / 4294967296 % 256 := by omega
  have e3 : (v : Int) / 256 / 256 / 256 % 256 = (v : Int) / 16777216 % 256 := by omega
  have e2 : (v : Int) / 256 / 256 % 256 = (v : Int) / 65536 % 256 := by omega
  rw [e7, e6, e5, e4, e3, e2]

theorem refput_any (v : Nat) (hv : v < 18446744073709551616) (w : World) :
    Calls Try.prog 49 #[.int .u64 (v : Int)] w (RetS vB w (putL v)) := by
  have hmk : ∀ w, (Instr.makeSlice 47 (.int .i64 8) (.int .i64 8)).run Try.prog w = .ok (.slice (some ⟨w.heap.size, 0, none⟩) 8 8) (w.alloc (.cells #[.int .u8 0, .int .u8 0, .int .u8 0, .int .u8 0, .int .u8 0, .int .u8 0, .int .u8 0, .int .u8 0] 5)) := fun _ => by kernel_rfl
  go_enter Try.func49, Try.ntmps49
  go_wp2
  refine wp_loop_rounds 9 ?_
  iterate 9 (rw [rounds_succ]; go_wp2)
  go_ret
  exact ⟨_, 8, rfl, Nat.le_refl _, Rd.new _ _ _ _ (refput_cells v hv), (Below.refl _ _).alloc (Nat.le_refl _) _⟩


end Go.Proofs.Ytmljhkdojopljaa
/-
  What slices.Clone, slices.Grow (of nil) and slices.Concat answer at lists of what was revoked: new memory that reads as they did. Conditions: bounds on lengths, as typed.
-/
namespace Go.Proofs.Ytmljhkdojopljaa
set_option maxRecDepth 100000
open Go.RowKit
set_option linter.unusedSimpArgs false
set_option linter.unusedVariables false

theorem info_gone : (Try.prog.info? 46).map (fun i => (i.zero, i.size, i.bytes)) = some (some (.agg #[.int .u64 0, .int .u64 0]), 2, 16) := by kernel_rfl
theorem size_gone : (Try.prog.info? 46).map (·.size) = some 2 := by kernel_rfl
/-- A call that hands back a list in memory of its own. -/
def RetGn (w : World) (l : List Gn) (e : Ending) (w' : World) : Prop := ∃ v, e = .returned v ∧ w'.ownsRow w.heap.size 46 2 v l.length (cellsG l) ∧ Below w.heap.size w w'

theorem cloneG_any (l : List Gn) (A : Option Addr) (c : Nat) (w : World) (hr : RdG w A l) (hl : l.length ≤ 1000000000) : Calls Try.prog 45 #[.slice A l.length c] w (RetGn w l) := by
  obtain ⟨i0, hi, hz0, hz1, hz2⟩ := info_parts info_gone
  cases A with
  | none =>
    have hb : l = [] := by
      by_cases h : l = []
      · exact h
      · obtain ⟨_, _, e, _⟩ := hr h
        cases e
    subst hb
    have hnil : ∀ W, (binOp .eql 44 (.slice none 0 c) (.slice none 0 0)).run Try.prog W = .ok (.bool true) W := fun W => Lib.run_eql_slice_nil W _ _ none 0 c 0 0 Try.underlying44
    go_enter Try.func45, Try.ntmps45
    go_wp2_with fail
    go_ret
    exact ⟨_, rfl, World.ownsRow_nil _ _ _ _, Below.refl _ _⟩
  | some a =>
    have hnil : ∀ W, (binOp .eql 44 (.slice (some a) l.length c) (.slice none 0 0)).run Try.prog W = .ok (.bool false) W := fun W => Lib.run_eql_slice_nil W _ _ (some a) l.length c 0 0 Try.underlying44
    have hown0 : (w.alloc (.cells #[] 46)).ownsRow w.heap.size 46 2 (.slice (some ⟨w.heap.size, 0, none⟩) 0 0) 0 [] := World.ownsRow_made w #[] 0 (Nat.le_refl _) (by unfold maxLen; omega) rfl
    have hr0 : RdG (w.alloc (.cells #[] 46)) (some a) l := hr.keep (below_new (Below.refl _ _) _)
    go_enter Try.func45, Try.ntmps45
    go_wp2_with (at_builtin; refine wpList_append_rdG _ rfl (.tmp 5) (.tmp 6) 44 rfl w.heap.size 46 i0 (.agg #[.int .u64 0, .int .u64 0]) 16 Try.underlying44 hi hz0 hz1 hz2 rfl _ _ _ rfl hown0 (some a) l c rfl hr0 (by unfold maxLen; omega) (by omega) (by simp) ?_; intro v1 w1 hown1 hgrow1 _)
    go_ret
    rw [Nat.zero_add, List.nil_append] at hown1
    exact ⟨_, rfl, hown1, (below_new (Below.refl _ w) _).grown hgrow1 (by simp) (fun k hk => (hown0.lt k hk).1)⟩

theorem growG_nil (n : Nat) (w : World) (hn : n ≤ 1000000000000) : Calls Try.prog 63 #[.slice none 0 0, .int .i64 (n : Int)] w (RetGn w []) := by
  obtain ⟨i0, hi, hz0, hz1, hz2⟩ := info_parts info_gone
  by_cases h0 : n = 0
  · subst h0
    go_enter Try.func63, Try.ntmps63
    go_wp2_with fail
    go_ret
    exact ⟨_, rfl, World.ownsRow_nil _ _ _ _, Below.refl _ _⟩
  · have hp : (0 : Int) < (n : Int) := by omega
    have happ := Lib.run_append_nil_zeros (P := Try.prog) w 44 3 44 46 i0 (.agg #[.int .u64 0, .int .u64 0]) .i64 .i64 Try.underlying44 Try.underlying3 hi hz0 n (by omega) (by omega) (by omega) (by rw [hz2]; omega)
    have hge := grownCap_ge w n 0 46
    have hle := grownCap_le_maxLen w n 0 46 (by unfold maxLen; omega)
    generalize grownCap w n 0 46 = cap2 at happ hge hle
    have hZs : (Builtin.zeroCells (Value.agg #[.int .u64 0, .int .u64 0]).cells n ++ Builtin.zeroCells (Value.agg #[.int .u64 0, .int .u64 0]).cells (cap2 - n)).size = cap2 * 2 := by simp [size_zeroCells, Value.cells]; omega
    generalize (Builtin.zeroCells (Value.agg #[.int .u64 0, .int .u64 0]).cells n ++ Builtin.zeroCells (Value.agg #[.int .u64 0, .int .u64 0]).cells (cap2 - n)) = Z at happ hZs
    have HO : Hid ((w.drew.alloc (.cells Z 46)).ownsRow w.heap.size 46 2 (.slice (some ⟨w.heap.size, 0, none⟩) 0 cap2) 0 []) := World.ownsRow_made w.drew Z cap2 (Nat.le_refl _) hle hZs
    have HB : Hid (Below w.heap.size w (w.drew.alloc (.cells Z 46))) := (Below.refl _ w).drew.alloc (Nat.le_refl _) _
    unfold maxLen at hle
    clear hZs hge
    go_enter Try.func63, Try.ntmps63
    go_wp2_with (at_builtin; refine Lib.wpList_append_run _ rfl (.tmp 20) (.tmp 21) _ _ rfl _ _ rfl rfl _ _ happ ?_)
    go_ret
    exact ⟨_, rfl, HO.out, HB.out⟩

/-- A part of what is put together: its memory, its room, its pairs. -/
structure PartG where
  A : Option Addr
  cap : Nat
  l : List Gn
def vPartG (p : PartG) : Value := .slice p.A p.l.length p.cap
def flatP (ps : List PartG) : List Gn := ps.flatMap (·.l)
theorem flatP_take (ps : List PartG) (k : Nat) (h : k < ps.length) : flatP (ps.take (k + 1)) = flatP (ps.take k) ++ ps[k].l := by
  unfold flatP
  rw [List.take_succ_eq_append_getElem h, List.flatMap_append]
  simp
theorem flatP_le (ps : List PartG) (k : Nat) : (flatP (ps.take k)).length ≤ (flatP ps).length := by
  conv => rhs; rw [← List.take_append_drop k ps]
  unfold flatP
  rw [List.flatMap_append, List.length_append]
  omega

def CatRelG (ps : List PartG) (w : World) (v i : Value) (wr : World) : Prop :=
  ∃ k : Nat, k ≤ ps.length ∧ i = .int .i64 (k : Int) ∧ wr.ownsRow w.heap.size 46 2 v (flatP (ps.take k)).length (cellsG (flatP (ps.take k))) ∧ Below w.heap.size w wr
theorem catG_round {ps : List PartG} {w wr w1 : World} {k : Nat} {u v : Value} {l : List Gn} (hk : k < ps.length) (HF : Hid (flatP (ps.take (k + 1)) = flatP (ps.take k) ++ l)) (ho : wr.ownsRow w.heap.size 46 2 u (flatP (ps.take k)).length (cellsG (flatP (ps.take k)))) (hb : Below w.heap.size w wr)
    (ho' : w1.ownsRow w.heap.size 46 2 v ((flatP (ps.take k)).length + l.length) (cellsG (flatP (ps.take k)) ++ cellsG l)) (hg : wr.grownBy w1 u.ownBlock) : CatRelG ps w v (.int .i64 ((k : Int) + 1)) w1 :=
  ⟨k + 1, by omega, by go_num, by rw [HF.out, List.length_append, cellsG_app]; exact ho', hb.grown hg hb.size (fun x hx => (ho.lt x hx).1)⟩

theorem catG_any (ps : List PartG) (A : Option Addr) (c : Nat) (w : World) (hr : Rd vPartG w A ps) (hn : ps.length ≤ 1000000) (hp : ∀ p ∈ ps, RdG w p.A p.l) (hl : (flatP ps).length ≤ 1000000000) :
    Calls Try.prog 46 #[.slice A ps.length c] w (RetGn w (flatP ps)) := by
  obtain ⟨i0, hi, hz0, hz1, hz2⟩ := info_parts info_gone
  have HP := Lib.hid hp
  clear hp
  go_enter Try.func46, Try.ntmps46
  go_wp2_with fail
  go_loop [3, 11] (fun v i => ∃ k : Nat, k ≤ ps.length ∧ i = .int .i64 k ∧ v = .int .i64 ((flatP (ps.take k)).length : Int)) (fun _ i => ps.length - (intOf i).toNat)
  case atStart => exact ⟨0, Nat.zero_le _, rfl, rfl⟩
  case round =>
    obtain ⟨k, hk, rfl, rfl⟩ := hrel
    have hle := flatP_le ps k
    by_cases hlt : k < ps.length
    · obtain ⟨blk, o, rfl, hb, hcell⟩ := hr.at hlt
      have hc0 := hcell k hlt
      have HF := Lib.hid (congrArg List.length (flatP_take ps k hlt))
      have hle2 := flatP_le ps (k + 1)
      rw [HF.out, List.length_append] at hle2
      rw [List.length_append] at HF
      generalize ps[k] = p at hc0 HF hle2
      unfold vPartG at hc0
      clear hcell hr
      have i1 : (0 : Int) ≤ (k : Int) := by omega
      have i2 : (k : Int) < (ps.length : Int) := by omega
      go_wp2_with fail
      go_round
      case rel => exact ⟨k + 1, by omega, by go_num, by rw [HF.out]; go_num⟩
      case measure => simp [intOf]; omega
    · have hkk : k = ps.length := by omega
      subst hkk
      have HT : Hid (flatP (ps.take ps.length) = flatP ps) := by unfold Hid; rw [List.take_length]
      rw [HT.out] at hle ⊢
      generalize hN : (flatP ps).length = N at hl hle
      have HN := Lib.hid hN
      clear hN
      go_wp2_with fail
      refine (growG_nil N _ (by omega)).mono ?_
      rintro e w1 ⟨v1, rfl, hown1, hb1⟩
      go_wp2_with fail
      go_loopw [6, 27] (fun v i wr => CatRelG ps w v i wr) (fun _ i _ => ps.length - (intOf i).toNat)
      case atStart => exact ⟨0, Nat.zero_le _, rfl, hown1, hb1⟩
      case round =>
        clear hown1 hb1
        obtain ⟨k, hk, rfl, hown, hbel⟩ := hrel
        by_cases hlt : k < ps.length
        · obtain ⟨blk, o, rfl, hb, hcell⟩ := hr.at hlt
          have hc0 : wr.cell? ⟨blk, o + k, none⟩ = some (vPartG ps[k]) := (hbel.cell (p := ⟨blk, o + k, none⟩) hb).trans (hcell k hlt)
          have HF := Lib.hid (flatP_take ps k hlt)
          have hpk := (HP.out ps[k] (List.getElem_mem hlt)).keep hbel
          have hle2 := flatP_le ps (k + 1)
          rw [HF.out, List.length_append, HN.out] at hle2
          generalize ps[k] = p at hc0 HF hle2 hpk
          unfold vPartG at hc0
          clear hcell hr
          have i1 : (0 : Int) ≤ (k : Int) := by omega
          have i2 : (k : Int) < (ps.length : Int) := by omega
          go_wp2_with (at_builtin; refine wpList_append_rdG _ rfl (.tmp 31) (.tmp 32) 44 rfl w.heap.size 46 i0 (.agg #[.int .u64 0, .int .u64 0]) 16 Try.underlying44 hi hz0 hz1 hz2 rfl _ _ _ rfl hown p.A p.l p.cap rfl hpk (by unfold maxLen; omega) (by omega) hbel.size ?_; intro v2 w2 hown2 hgrow2 _)
          go_roundw
          case rel => exact catG_round hlt HF hown hbel hown2 hgrow2
          case measure => simp [intOf]; omega
        · have hkk : k = ps.length := by omega
          subst hkk
          rw [HT.out] at hown
          go_wp2_with fail
          go_ret
          exact ⟨_, rfl, hown, hbel⟩
end Go.Proofs.Ytmljhkdojopljaa
/-
  What the call Bytes of layer 15 answers, the program's and the reference's. No conditions but those typed.
-/
namespace Go.Proofs.Ytmljhkdojopljaa
set_option maxRecDepth 100000
open Go.RowKit
set_option linter.unusedSimpArgs false
set_option linter.unusedVariables false

theorem putL_8 (v : Nat) : (putL v).length = 8 := rfl
/-- The number of pairs, and the first k of them. -/
def beG (l : List Gn) (k : Nat) : List UInt8 := UInt8.ofNat l.length :: flatG (l.take k)
theorem beG_length (l : List Gn) (k : Nat) (hk : k ≤ l.length) : (beG l k).length = 1 + 16 * k := by
  unfold beG
  rw [List.length_cons, flat_length, List.length_take]
  omega
theorem beG_next (l : List Gn) (k : Nat) (h : k < l.length) : beG l (k + 1) = beG l k ++ putL l[k].1 ++ putL l[k].2 := by
  unfold beG flatG
  rw [List.take_succ_eq_append_getElem h, List.flatMap_append]
  simp
theorem beG_all (l : List Gn) : beG l l.length = bytesG l := by unfold beG bytesG; rw [List.take_length]
def ByG (l : List Gn) (w : World) (v i : Value) (wr : World) : Prop := ∃ k : Nat, k ≤ l.length ∧ i = .int .i64 (k : Int) ∧ wr.ownsRow w.heap.size 5 1 v (beG l k).length ((beG l k).map vB) ∧ Below w.heap.size w wr
theorem byG_next {l : List Gn} {w wr : World} {v : Value} {k : Nat} (h : k < l.length) (ho : wr.ownsRow w.heap.size 5 1 v ((beG l k).length + 8 + 8) ((beG l k).map vB ++ (putL l[k].1).map vB ++ (putL l[k].2).map vB)) (hB : Below w.heap.size w wr) : ByG l w v (.int .i64 ((k : Int) + 1)) wr := by
  refine ⟨k + 1, by omega, by go_num, ?_, hB⟩
  rw [beG_next l k h, List.map_append, List.map_append, List.length_append, List.length_append, putL_8, putL_8]
  exact ho
theorem byte_len (l : List Gn) (n : Nat) (HN : l.length = n) (h : n ≤ 64) : #[Value.int .u8 (n : Int)] = ((beG l 0).map vB).toArray := by
  unfold beG
  rw [HN]
  simp [flatG, vB, UInt8.toNat_ofNat']
  omega
/-- What Bytes hands back: the bytes, and why there are none. -/
def bytesR (l : List Gn) : List UInt8 × Int := if rightG l = true then (bytesG l, 0) else ([], 1)
theorem bytesR_ok {l : List Gn} (h : rightG l = true) : bytesR l = (bytesG l, 0) := by unfold bytesR; rw [if_pos h]
theorem bytesR_no {l : List Gn} (h : rightG l = false) : bytesR l = ([], 1) := by unfold bytesR; rw [h]; rfl
def RetBy (w : World) (L : List UInt8) (k : Int) (e : Ending) (w' : World) : Prop := ∃ v, e = .returned (.tuple #[v, .int .i64 k]) ∧ w'.ownsRow w.heap.size 5 1 v L.length (L.map vB) ∧ Below w.heap.size w w'
theorem putG_at (v : Nat) (L : List UInt8) (hv : v < 18446744073709551616) (HL : Hid (putL v = L)) (w : World) : Calls Try.prog 48 #[.int .u64 (v : Int)] w fun e w' => ∃ A c, e = .returned (.slice A 8 c) ∧ 8 ≤ c ∧ Rd vB w' A L ∧ Below w.heap.size w w' :=
  (put_any v hv w).mono fun e w' ⟨A, c, h1, h2, h3, h4⟩ => ⟨A, c, h1, h2, by rw [← HL.out]; exact h3, h4⟩
theorem refputG_at (v : Nat) (L : List UInt8) (hv : v < 18446744073709551616) (HL : Hid (putL v = L)) (w : World) : Calls Try.prog 49 #[.int .u64 (v : Int)] w fun e w' => ∃ A c, e = .returned (.slice A 8 c) ∧ 8 ≤ c ∧ Rd vB w' A L ∧ Below w.heap.size w w' :=
  (refput_any v hv w).mono fun e w' ⟨A, c, h1, h2, h3, h4⟩ => ⟨A, c, h1, h2, by rw [← HL.out]; exact h3, h4⟩

theorem own_apart {w : World} {base : Nat} {e : TypeId} {v : Value} {n : Nat} {xs : List Value} (h : w.ownsRow base e 1 v n xs) : v.ownBlock ≠ some w.heap.size := fun e => by have := (h.lt _ e).2; omega
set_option maxHeartbeats 1000000 in
theorem bytes15_any (l : List Gn) (n c : Nat) (A : Option Addr) (w : World) (HN : Hid (l.length = n)) (hr : RdG w A l) (HF : Hid (fitG l)) (hn : n ≤ 1000000000) :
    Calls Try.prog 23 #[.slice A n c] w (RetBy w (bytesR l).1 (bytesR l).2) := by
  obtain ⟨i0, hi, hz0, hz1, hz2⟩ := info_parts info_u8
  obtain ⟨P, hP⟩ : ∃ P, P = bytesR l := ⟨_, rfl⟩
  rw [← hP]
  have HP := Lib.hid hP
  clear hP
  go_enter Try.func23, Try.ntmps23
  go_wp2_with fail
  refine (right15_any l n c A _ HN hr HF hn).mono ?_
  rintro e w1 ⟨rfl, hb1⟩
  obtain ⟨R, hR⟩ : ∃ R, R = rightG l := ⟨_, rfl⟩
  rw [← hR]
  cases R with
  | false =>
    have HPP : Hid (P = ([], 1)) := HP.out.trans (bytesR_no hR.symm)
    clear hR
    go_wp2_with fail
    go_ret2
    exact ⟨_, by rw [HPP.out]; rfl, by rw [HPP.out]; exact World.ownsRow_nil _ _ _ _, hb1⟩
  | true =>
    have hl64 : l.length ≤ 64 := (right_parts.1 hR.symm).2
    have HPP : Hid (P = (bytesG l, 0)) := HP.out.trans (bytesR_ok hR.symm)
    have e1 := HN.out
    subst e1
    clear hR HN
    have hby := byte_len l l.length rfl hl64
    have HO : Hid ((w1.alloc (.cells #[Value.int .u8 (l.length : Int)] 5)).ownsRow w.heap.size 5 1 (.slice (some ⟨w1.heap.size, 0, none⟩) 1 1) (beG l 0).length ((beG l 0).map vB)) := own_base (own_lit w1 5 ((beG l 0).map vB) _ hby (by unfold maxLen; simp [beG, flatG])) hb1.size
    have HB : Hid (Below w.heap.size w (w1.alloc (.cells #[Value.int .u8 (l.length : Int)] 5))) := below_new hb1 _
    clear hby
    go_upto_region 4 with fail
    generalize w1.alloc (.cells #[Value.int .u8 (l.length : Int)] 5) = w2 at HO HB ⊢
    go_wp2_with fail
    go_loopw [4, 16] (fun v i wr => ByG l w v i wr) (fun _ i _ => l.length - (intOf i).toNat)
    case atStart => exact ⟨0, Nat.zero_le _, rfl, HO.out, HB.out⟩
    case round =>
      clear HO HB
      obtain ⟨k, hk, rfl, hown, hbel⟩ := hrel
      by_cases hlt : k < l.length
      · obtain ⟨b, o, rfl, hb, hrng, _, _⟩ := (hr.keep hbel).pair hlt
        have hx := HF.out _ (List.getElem_mem hlt)
        have HNX := Lib.hid (fun (v : Value) (wr : World) (h) hB => byG_next (w := w) (wr := wr) (v := v) hlt h hB)
        have hbl := beG_length l k hk
        generalize l[k] = x at hrng hx HNX
        obtain ⟨x0, x1⟩ := x
        dsimp only at hx HNX
        generalize beG l k = Lk at hown HNX hbl
        have i2 : (0 : Int) ≤ (k : Int) := by omega
        have i3 : (k : Int) < (l.length : Int) := by omega
        have hR0 : Row (wr.alloc (.cells #[.int .u64 0, .int .u64 0] 46)) wr.heap.size 46 [.int .u64 0, .int .u64 0] := Row.new wr _ _ _ rfl
        unfold cellG vNG at hrng
        dsimp only at hrng
        go_upto_region 7 with (first
          | (refine wpList_load_mid rfl 46 (.tmp 18) rfl b (o + k * 2) rfl [.int .u64 (x0 : Int), .int .u64 (x1 : Int)] _ hrng Try.underlying46 rfl (by exact size_gone) ?_)
          | (refine wpList_store_row rfl 46 (.tmp 6) (.tmp 19) rfl wr.heap.size rfl [.int .u64 (x0 : Int), .int .u64 (x1 : Int)] rfl _ _ hR0 (by exact size_gone) rfl (cellG_one (x0, x1)) ?_))
        have hR1 := hR0.setRow [.int .u64 (x0 : Int), .int .u64 (x1 : Int)]
        have hbn : Below wr.heap.size wr ((wr.alloc (.cells #[.int .u64 0, .int .u64 0] 46)).setRow wr.heap.size [.int .u64 (x0 : Int), .int .u64 (x1 : Int)].toArray) := below_setRow (below_new (Below.refl _ _) _) (Nat.le_refl _) _
        generalize (wr.alloc (.cells #[.int .u64 0, .int .u64 0] 46)).setRow wr.heap.size [.int .u64 (x0 : Int), .int .u64 (x1 : Int)].toArray = w3 at hR1 hbn ⊢
        have hap := own_apart hown
        replace hown := ownsRow_later hown hbn
        replace hbel := below_step hbel hbn
        have HBB := Lib.hid hbel
        have hg3 := hR1.lt
        clear hbn hR0 hrng
        generalize wr.heap.size = g1 at hR1 hap hg3 ⊢
        have c0 : w3.cell? ⟨g1, 0, none⟩ = some (.int .u64 (x0 : Int)) := hR1.cell rfl
        have hv1 := hx.1
        have hv2 := hx.2
        have HX := Lib.hid hx
        obtain ⟨L1, hL1⟩ : ∃ L, putL x0 = L := ⟨_, rfl⟩
        obtain ⟨L2, hL2⟩ : ∃ L, putL x1 = L := ⟨_, rfl⟩
        have hl1 : L1.length = 8 := by rw [← hL1]; rfl
        have hl2 : L2.length = 8 := by rw [← hL2]; rfl
        rw [hL1, hL2] at HNX
        have HL1 := Lib.hid hL1
        have HL2 := Lib.hid hL2
        have HN1 := Lib.hid hl1
        have HN2 := Lib.hid hl2
        clear hL1 hL2 hl1 hl2 hx hbel
        go_wp2_with fail
        refine (putG_at x0 L1 HX.out.1 HL1 _).mono ?_
        rintro ee w4 ⟨A1, c1, rfl, hc1, hr1, hb1⟩
        have hown4 := ownsRow_later hown hb1
        have hR4 := hR1.later hb1
        have hB4 := below_step HBB.out hb1
        have hsz4 := hB4.size
        have hg4 := hR4.lt
        clear hown hb1 c0 hR1
        go_wp2_with (at_builtin; refine wpList_append_apart _ rfl (.tmp 20) (.tmp 23) 47 rfl w.heap.size 5 i0 (.int .u8 0) 1 Try.underlying47 hi hz0 hz1 hz2 rfl _ _ _ rfl hown4 A1 L1 c1 (by rw [HN1.out]; rfl) hr1 vB_one (by rw [HN1.out]; unfold maxLen; omega) (by rw [HN1.out]; omega) (by omega) ?_; intro v5 w5 hown5 hgrow5 hat5; have hR5 := hR4.grown hgrow5 hap; have hap5 := apart_of hap hg4 hat5; have hB5 := hB4.grown hgrow5 hsz4 (fun k hk => (hown4.lt k hk).1); have c1' : w5.cell? ⟨g1, 1, none⟩ = some (.int .u64 (x1 : Int)) := hR5.cell rfl)
        refine (putG_at x1 L2 HX.out.2 HL2 _).mono ?_
        rintro ee w6 ⟨A2, c2, rfl, hc2, hr2, hb2⟩
        have hown6 := ownsRow_later hown5 hb2
        have hB6 := below_step hB5 hb2
        have hsz6 := hB6.size
        clear hown5 hb2 c1' hR5 hgrow5 hown4 hB4 hat5
        go_wp2_with (at_builtin; refine wpList_append_apart _ rfl (.tmp 25) (.tmp 28) 47 rfl w.heap.size 5 i0 (.int .u8 0) 1 Try.underlying47 hi hz0 hz1 hz2 rfl _ _ _ rfl hown6 A2 L2 c2 (by rw [HN2.out]; rfl) hr2 vB_one (by rw [HN2.out, HN1.out]; unfold maxLen; omega) (by rw [HN2.out, HN1.out]; omega) (by omega) ?_; intro v7 w7 hown7 hgrow7 hat7)
        have hB7 := hB6.grown hgrow7 hsz6 (fun k hk => (hown6.lt k hk).1)
        go_roundw
        case rel => exact HNX.out _ _ (by rw [HN1.out, HN2.out] at hown7; exact hown7) hB7
        case measure => simp [intOf]; omega
      · have hkl : k = l.length := by omega
        subst hkl
        rw [beG_all] at hown
        have HOW := Lib.hid hown
        have HB := Lib.hid hbel
        clear hown hbel
        go_wp2_with fail
        go_ret2
        exact ⟨_, by rw [HPP.out]; rfl, by rw [HPP.out]; exact HOW.out, HB.out⟩
end Go.Proofs.Ytmljhkdojopljaa
/-
  Two that were revoked held against each other, and what the program's call Has of layer 15 answers. No conditions but those typed.
-/
namespace Go.Proofs.Ytmljhkdojopljaa
set_option maxRecDepth 100000
open Go.RowKit
set_option linter.unusedSimpArgs false
set_option linter.unusedVariables false

theorem eq_gone (a b c d : Nat) (w : World) : (binOp .eql 46 (.agg #[.int .u64 (a : Int), .int .u64 (b : Int)]) (.agg #[.int .u64 (c : Int), .int .u64 (d : Int)])).run Try.prog w = .ok (.bool (decide ((a, b) = (c, d)))) w := by
  have u3 := Try.underlying22
  have a3 := Try.isAgg22
  have z3 := Try.sizeOf22
  have hS : Try.prog.underlying 46 = some (.struct (Try.prog.fieldsOf 46)) := by kernel_rfl
  have hp : Try.prog.stoodInHeld 46 = false := by kernel_rfl
  rw [run_eql_struct, show (10000 : Nat) = 9999 + 1 from rfl, run_equalIn_agg w 9999 46 _ _ hS hp]
  simp only [Program.fieldsOf, Try.underlying46]
  go_simp
  by_cases h1 : a = c <;> by_cases h2 : b = d <;> simp [h1, h2] <;> omega
theorem neq_gone (a b c d : Nat) (w : World) : (binOp .neq 46 (.agg #[.int .u64 (a : Int), .int .u64 (b : Int)]) (.agg #[.int .u64 (c : Int), .int .u64 (d : Int)])).run Try.prog w = .ok (.bool (!decide ((a, b) = (c, d)))) w := by
  have u3 := Try.underlying22
  have a3 := Try.isAgg22
  have z3 := Try.sizeOf22
  have hS : Try.prog.underlying 46 = some (.struct (Try.prog.fieldsOf 46)) := by kernel_rfl
  have hp : Try.prog.stoodInHeld 46 = false := by kernel_rfl
  rw [run_neq_struct, show (10000 : Nat) = 9999 + 1 from rfl, run_equalIn_agg w 9999 46 _ _ hS hp]
  simp only [Program.fieldsOf, Try.underlying46]
  go_simp
  by_cases h1 : a = c <;> by_cases h2 : b = d <;> simp [h1, h2] <;> omega
theorem guard_gone (op : BinOp) (x y : Operand) (xs ys : Array Value) (w : World) : (eqGuard op 46 x y (.agg xs) (.agg ys)).run Try.prog w = .ok () w := run_eqGuard_agg w op 46 x y xs ys (by kernel_rfl)

set_option maxHeartbeats 1000000 in
theorem index_any (l : List Gn) (g : Gn) (n c : Nat) (A : Option Addr) (w : World) (HN : Hid (l.length = n)) (hr : RdG w A l) (hn : n ≤ 1000000000) :
    Calls Try.prog 66 #[.slice A n c, aggG g] w fun e w' => (∃ v : Int, e = .returned (.int .i64 v) ∧ decide (0 ≤ v) = hasG l g ∧ -1 ≤ v ∧ v ≤ n) ∧ Below w.heap.size w w' := by
  obtain ⟨g0, hg0⟩ : ∃ x, x = g.1 := ⟨_, rfl⟩
  obtain ⟨g1, hg1⟩ : ∃ x, x = g.2 := ⟨_, rfl⟩
  have HG : Hid (g = (g0, g1)) := by unfold Hid; rw [hg0, hg1]
  unfold aggG vNG
  rw [← hg0, ← hg1]
  clear hg0 hg1
  have hR : Row (w.alloc (.cells #[.int .u64 (g0 : Int), .int .u64 (g1 : Int)] 46)) w.heap.size 46 [.int .u64 (g0 : Int), .int .u64 (g1 : Int)] := Row.new w _ _ _ rfl
  have hB0 := below_new (Below.refl _ w) (.cells #[.int .u64 (g0 : Int), .int .u64 (g1 : Int)] 46)
  go_enter Try.func66, Try.ntmps66
  go_upto_region 1 with fail
  generalize w.alloc (.cells #[.int .u64 (g0 : Int), .int .u64 (g1 : Int)] 46) = w1 at hR hB0 ⊢
  have hg1 := hR.lt
  generalize w.heap.size = bg at hR hg1 ⊢
  go_wp2_with fail
  go_loopw [8] (fun i wr => (∃ k : Nat, i = .int .i64 (k : Int) ∧ k ≤ n ∧ g ∉ l.take k) ∧ Below w1.heap.size w1 wr) (fun i _ => n - (intOf i).toNat)
  case atStart => exact ⟨⟨0, rfl, by omega, by simp⟩, Below.refl _ _⟩
  case round =>
    obtain ⟨⟨k, rfl, hk, hnot⟩, hB⟩ := hrel
    by_cases hlt : k < n
    · have hkl : k < l.length := by rw [HN.out]; exact hlt
      obtain ⟨b, o, rfl, hb, hrng, p0, p1⟩ := (hr.keep hB0).pair hkl
      replace p0 := (hB.cell (p := ⟨b, o + k * 2, none⟩) hb).trans p0
      replace p1 := (hB.cell (p := ⟨b, o + k * 2 + 1, none⟩) hb).trans p1
      have HT : Hid (g ∉ l.take (k + 1) ↔ ¬ l[k] = g) := by
        unfold Hid
        rw [List.take_succ_eq_append_getElem hkl, List.mem_append]
        simp [hnot, eq_comm]
      have HI : Hid (l[k] = g → hasG l g = true) := fun h => by unfold hasG; rw [decide_eq_true_iff, ← h]; exact List.getElem_mem hkl
      generalize l[k] = x at p0 p1 HT HI
      obtain ⟨x0, x1⟩ := x
      unfold vNG at p0 p1
      dsimp only at p0 p1
      have d0 : ∀ W, Below wr.heap.size wr W → W.cell? ⟨b, o + k * 2, none⟩ = some (.int .u64 (x0 : Int)) := fun W hW => (hW.cell (p := ⟨b, o + k * 2, none⟩) (World.block_lt_of_cell? wr _ p0)).trans p0
      have d1 : ∀ W, Below wr.heap.size wr W → W.cell? ⟨b, o + k * 2 + 1, none⟩ = some (.int .u64 (x1 : Int)) := fun W hW => (hW.cell (p := ⟨b, o + k * 2 + 1, none⟩) (World.block_lt_of_cell? wr _ p1)).trans p1
      have d2 : ∀ W, Below wr.heap.size wr W → W.cell? ⟨bg, 0, none⟩ = some (.int .u64 (g0 : Int)) := fun W hW => ((hR.later hB).later hW).cell rfl
      have d3 : ∀ W, Below wr.heap.size wr W → W.cell? ⟨bg, 1, none⟩ = some (.int .u64 (g1 : Int)) := fun W hW => ((hR.later hB).later hW).cell rfl
      have i2 : (0 : Int) ≤ (k : Int) := by omega
      have i3 : (k : Int) < (n : Int) := by omega
      have hq := fun W => eq_gone g0 g1 x0 x1 W
      have HQ : Hid (decide ((g0, g1) = (x0, x1)) = true ↔ (x0, x1) = g) := by unfold Hid; rw [decide_eq_true_iff, HG.out]; exact eq_comm
      generalize decide ((g0, g1) = (x0, x1)) = r at hq HQ
      have hgd := fun op x y xs ys W => guard_gone op x y xs ys W
      have HB := Lib.hid hB
      have HKN : Hid (k < n) := hlt
      clear hrng hB hnot p0 p1
      go_wp2_with fail
      have hBase := (Below.refl wr.heap.size wr).drew
      refine wp_region_plan (.step 0 false (.step 1 false (.step 2 false (.step 3 false (.step 4 false (.step 5 false (.nil))))))) (by kernel_rfl) (by kernel_rfl) (by rfl) (by kernel_rfl) ?_
      iterate 6 (refine plan_read rfl (by rfl) (v := ?_) ?_ ?_; rotate_left 1; (intro W hW; have hW0 := below_step hBase hW; (try dsimp only at hW); go_simp <;> with_reducible rfl); simp only [List.getElem_toArray, List.getElem_cons_zero, List.getElem_cons_succ, Act.put, List.setIfInBounds_toArray, List.set_cons_zero, List.set_cons_succ])
      refine plan_done ?_
      have HB2 := Lib.hid (below_step HB.out hBase)
      cases r with
      | true =>
        have HH := Lib.hid (HI.out (HQ.out.1 rfl))
        go_wp2_with fail
        go_ret
        exact ⟨⟨(k : Int), rfl, by rw [HH.out]; exact decide_eq_true (by omega), by omega, by omega⟩, hB0.trans (HB2.out.mono hB0.size)⟩
      | false =>
        have hne : ¬ (x0, x1) = g := fun h => by have := HQ.out.2 h; cases this
        go_wp2_with fail
        go_roundw
        case rel => exact ⟨⟨k + 1, by go_num, by omega, HT.out.2 hne⟩, HB2.out⟩
        case measure => simp [intOf]; omega
    · have hkn : k = n := by omega
      have hm : hasG l g = false := by
        unfold hasG
        rw [decide_eq_false_iff_not]
        rw [hkn, ← HN.out, List.take_length] at hnot
        exact hnot
      have HM := Lib.hid hm
      have j1 : ¬ (k : Int) < (n : Int) := by omega
      have HB := Lib.hid hB
      clear hm hnot hkn hB
      go_wp2_with fail
      go_ret
      exact ⟨⟨-1, rfl, by rw [HM.out]; rfl, by omega, by omega⟩, hB0.trans (HB.out.mono hB0.size)⟩
theorem contains_any (l : List Gn) (g : Gn) (n c : Nat) (A : Option Addr) (w : World) (HN : Hid (l.length = n)) (hr : RdG w A l) (hn : n ≤ 1000000000) :
    Calls Try.prog 54 #[.slice A n c, aggG g] w fun e w' => e = .returned (.bool (hasG l g)) ∧ Below w.heap.size w w' := by
  have hix := fun W hW => index_any l g n c A W HN (hr.keep hW) hn
  have HIX := Lib.hid hix
  clear hix hr
  unfold aggG vNG at HIX ⊢
  have hR : Row (w.alloc (.cells #[.int .u64 (g.1 : Int), .int .u64 (g.2 : Int)] 46)) w.heap.size 46 [.int .u64 (g.1 : Int), .int .u64 (g.2 : Int)] := Row.new w _ _ _ rfl
  have hB0 := below_new (Below.refl _ w) (.cells #[.int .u64 (g.1 : Int), .int .u64 (g.2 : Int)] 46)
  generalize g.1 = g0 at hR hB0 HIX ⊢
  generalize g.2 = g1 at hR hB0 HIX ⊢
  go_enter Try.func54, Try.ntmps54
  go_upto_region 1 with fail
  generalize w.alloc (.cells #[.int .u64 (g0 : Int), .int .u64 (g1 : Int)] 46) = w1 at hR hB0 ⊢
  have hc0 := hR.cell (i := 0) rfl
  have hc1 := hR.cell (i := 1) rfl
  go_wp2_with fail
  refine (HIX.out _ hB0).mono ?_
  rintro e w2 ⟨⟨v, rfl, hv, hv1, hv2⟩, hb2⟩
  have HV := Lib.hid hv
  clear hv
  clear hc0 hc1
  go_wp2_with fail
  go_ret
  exact ⟨by rw [← HV.out]; rfl, hB0.trans (hb2.mono hB0.size)⟩
theorem has15_any (l : List Gn) (g : Gn) (n c : Nat) (A : Option Addr) (w : World) (HN : Hid (l.length = n)) (hr : RdG w A l) (hn : n ≤ 1000000000) :
    Calls Try.prog 29 #[.slice A n c, aggG g] w fun e w' => e = .returned (.bool (hasG l g)) ∧ Below w.heap.size w w' := by
  have hix := fun W hW => contains_any l g n c A W HN (hr.keep hW) hn
  have HIX := Lib.hid hix
  clear hix hr
  unfold aggG vNG at HIX ⊢
  have hR : Row (w.alloc (.cells #[.int .u64 (g.1 : Int), .int .u64 (g.2 : Int)] 46)) w.heap.size 46 [.int .u64 (g.1 : Int), .int .u64 (g.2 : Int)] := Row.new w _ _ _ rfl
  have hB0 := below_new (Below.refl _ w) (.cells #[.int .u64 (g.1 : Int), .int .u64 (g.2 : Int)] 46)
  generalize g.1 = g0 at hR hB0 HIX ⊢
  generalize g.2 = g1 at hR hB0 HIX ⊢
  go_enter Try.func29, Try.ntmps29
  go_upto_region 1 with fail
  generalize w.alloc (.cells #[.int .u64 (g0 : Int), .int .u64 (g1 : Int)] 46) = w1 at hR hB0 ⊢
  have hc0 := hR.cell (i := 0) rfl
  have hc1 := hR.cell (i := 1) rfl
  go_wp2_with fail
  refine (HIX.out _ hB0).mono ?_
  rintro e w2 ⟨rfl, hb2⟩
  clear hc0 hc1
  go_wp2_with fail
  go_ret
  exact ⟨rfl, hB0.trans (hb2.mono hB0.size)⟩
end Go.Proofs.Ytmljhkdojopljaa
/-
  What the reference of layer 15 answers: Less, Right, Has, Same, Bytes. No conditions but those typed.
-/
namespace Go.Proofs.Ytmljhkdojopljaa
set_option maxRecDepth 100000
open Go.RowKit
set_option linter.unusedSimpArgs false
set_option linter.unusedVariables false

theorem less_any (a b : Gn) (w : World) : Calls Try.prog 47 #[aggG a, aggG b] w fun e w' => e = .returned (.bool (ltG a b)) ∧ Below w.heap.size w w' := by
  obtain ⟨a1, a2⟩ := a
  obtain ⟨b1, b2⟩ := b
  obtain ⟨r, hr⟩ : ∃ r, ltG (a1, a2) (b1, b2) = r := ⟨_, rfl⟩
  rw [hr]
  have HX := Lib.hid hr
  clear hr
  unfold aggG vNG
  dsimp only
  have hR0 : Row (w.alloc (.cells #[.int .u64 (a1 : Int), .int .u64 (a2 : Int)] 46)) w.heap.size 46 [.int .u64 (a1 : Int), .int .u64 (a2 : Int)] := Row.new w _ _ _ rfl
  have hR1 : Row ((w.alloc (.cells #[.int .u64 (a1 : Int), .int .u64 (a2 : Int)] 46)).alloc (.cells #[.int .u64 (b1 : Int), .int .u64 (b2 : Int)] 46)) (w.heap.size + 1) 46 [.int .u64 (b1 : Int), .int .u64 (b2 : Int)] := Row.new_at _ _ (by simp) _ _ _ rfl
  replace hR0 := hR0.alloc (.cells #[.int .u64 (b1 : Int), .int .u64 (b2 : Int)] 46)
  have hB : Below w.heap.size w ((w.alloc (.cells #[.int .u64 (a1 : Int), .int .u64 (a2 : Int)] 46)).alloc (.cells #[.int .u64 (b1 : Int), .int .u64 (b2 : Int)] 46)) := below_new (below_new (Below.refl _ _) _) _
  go_enter Try.func47, Try.ntmps47
  go_upto_region 1 with fail
  generalize (w.alloc (.cells #[.int .u64 (a1 : Int), .int .u64 (a2 : Int)] 46)).alloc (.cells #[.int .u64 (b1 : Int), .int .u64 (b2 : Int)] 46) = w3 at hR0 hR1 hB ⊢
  have c0 := hR0.cell (i := 0) rfl
  have c1 := hR0.cell (i := 1) rfl
  have c2 := hR1.cell (i := 0) rfl
  have c3 := hR1.cell (i := 1) rfl
  have HB := Lib.hid hB
  clear hR0 hR1 hB
  by_cases h1 : a1 < b1
  · have HT : Hid (r = true) := by unfold Hid; rw [← HX.out, ltG_iff]; exact .inl h1
    go_wp2_with fail
    go_ret
    exact ⟨by rw [HT.out]; rfl, HB.out⟩
  · by_cases h2 : a1 = b1
    · by_cases h3 : a2 < b2
      · have HT : Hid (r = true) := by unfold Hid; rw [← HX.out, ltG_iff]; exact .inr ⟨h2, h3⟩
        go_wp2_with fail
        go_ret
        exact ⟨by rw [HT.out]; rfl, HB.out⟩
      · have HT : Hid (r = false) := by
          unfold Hid
          rw [← HX.out, Bool.eq_false_iff, Ne, ltG_iff]
          dsimp only
          omega
        go_wp2_with fail
        go_ret
        exact ⟨by rw [HT.out]; rfl, HB.out⟩
    · have HT : Hid (r = false) := by
        unfold Hid
        rw [← HX.out, Bool.eq_false_iff, Ne, ltG_iff]
        dsimp only
        omega
      go_wp2_with fail
      go_ret
      exact ⟨by rw [HT.out]; rfl, HB.out⟩

set_option maxHeartbeats 1000000 in
theorem refright15_any (l : List Gn) (n c : Nat) (A : Option Addr) (w : World) (HN : Hid (l.length = n)) (hr : RdG w A l) (hn : n ≤ 1000000000) :
    Calls Try.prog 24 #[.slice A n c] w fun e w' => e = .returned (.bool (rightG l)) ∧ Below w.heap.size w w' := by
  obtain ⟨P, hP⟩ : ∃ P, rightG l = P := ⟨_, rfl⟩
  rw [hP]
  have HP := Lib.hid hP
  clear hP
  go_enter Try.func24, Try.ntmps24
  go_wp2_with fail
  go_loopw [3] (fun i wr => (∃ k : Nat, 1 ≤ k ∧ i = .int .i64 (k : Int) ∧ k ≤ max 1 n ∧ ∀ j (h : j + 1 < l.length), j + 1 < k → ltG l[j] l[j + 1] = true) ∧ Below w.heap.size w wr) (fun i _ => n - (intOf i).toNat)
  case atStart => exact ⟨⟨1, Nat.le_refl _, rfl, by omega, fun j _ hj => by omega⟩, Below.refl _ _⟩
  case round =>
    obtain ⟨⟨k, hk1, rfl, hk2, hs⟩, hB⟩ := hrel
    by_cases hlt : k < n
    · obtain ⟨m, hm⟩ : ∃ m, m = k - 1 := ⟨_, rfl⟩
      have hw : IntKind.i64.wrap ((k : Int) - 1) = (m : Int) := by rw [IntKind.wrap_i64]; omega
      have hlen := HN.out
      have hka : k - 1 < l.length := by omega
      have hkb : k < l.length := by omega
      obtain ⟨b, o, rfl, hb, hcell⟩ := hr.at hkb
      obtain ⟨p0, p1⟩ := hcell (k - 1) hka
      obtain ⟨q0, q1⟩ := hcell k hkb
      have HS : Hid (∀ j (h : j + 1 < l.length), j + 1 < k + 1 → (ltG l[k - 1] l[k] = true → ltG l[j] l[j + 1] = true)) := by
        intro j hj hjk h
        by_cases e : j + 1 = k
        · subst e
          exact h
        · exact hs j hj (by omega)
      have HE : Hid (ltG l[k - 1] l[k] = false → rightG l = false) := by
        intro h
        rw [Bool.eq_false_iff]
        intro h2
        unfold rightG at h2
        rw [Bool.and_eq_true] at h2
        have h3 := (sort_at l).1 h2.1 (k - 1) (by omega)
        have e : k - 1 + 1 = k := by omega
        simp only [e] at h3
        rw [h] at h3
        cases h3
      generalize l[k - 1] = x at p0 p1 HS HE
      generalize l[k] = y at q0 q1 HS HE
      obtain ⟨x0, x1⟩ := x
      obtain ⟨y0, y1⟩ := y
      rw [← hm] at p0 p1
      have HM := Lib.hid hm
      unfold vNG at p0 p1 q0 q1
      dsimp only at p0 p1 q0 q1
      have d0 : ∀ W, Below wr.heap.size wr W → W.cell? ⟨b, o + m * 2, none⟩ = some (.int .u64 (x0 : Int)) := fun W hW => ((hB.trans (hW.mono hB.size)).cell (p := ⟨b, o + m * 2, none⟩) hb).trans p0
      have d1 : ∀ W, Below wr.heap.size wr W → W.cell? ⟨b, o + m * 2 + 1, none⟩ = some (.int .u64 (x1 : Int)) := fun W hW => ((hB.trans (hW.mono hB.size)).cell (p := ⟨b, o + m * 2 + 1, none⟩) hb).trans p1
      have d2 : ∀ W, Below wr.heap.size wr W → W.cell? ⟨b, o + k * 2, none⟩ = some (.int .u64 (y0 : Int)) := fun W hW => ((hB.trans (hW.mono hB.size)).cell (p := ⟨b, o + k * 2, none⟩) hb).trans q0
      have d3 : ∀ W, Below wr.heap.size wr W → W.cell? ⟨b, o + k * 2 + 1, none⟩ = some (.int .u64 (y1 : Int)) := fun W hW => ((hB.trans (hW.mono hB.size)).cell (p := ⟨b, o + k * 2 + 1, none⟩) hb).trans q1
      have i0 : (0 : Int) ≤ (m : Int) := by omega
      have i1 : (m : Int) < (n : Int) := by omega
      have i2 : (0 : Int) ≤ (k : Int) := by omega
      have i3 : (k : Int) < (n : Int) := by omega
      have HB := Lib.hid hB
      clear hcell hs p0 p1 q0 q1 hB hlen hm
      go_wp2_with fail
      have hBase := (Below.refl wr.heap.size wr).drew
      refine wp_region_plan (.step 0 false (.step 1 false (.step 2 false (.step 3 false (.step 4 false (.step 5 false (.step 6 false (.step 7 false (.step 8 false (.step 9 true (.step 10 false (.nil)))))))))))) (by kernel_rfl) (by kernel_rfl) (by rfl) (by kernel_rfl) ?_
      iterate 9 (refine plan_read rfl (by rfl) (v := ?_) ?_ ?_; rotate_left 1; (intro W hW; have hW0 := below_step hBase hW; (try dsimp only at hW); go_simp <;> with_reducible rfl); simp only [List.getElem_toArray, List.getElem_cons_zero, List.getElem_cons_succ, Act.put, List.setIfInBounds_toArray, List.set_cons_zero, List.set_cons_succ])
      (refine plan_make rfl (by rfl) (fun K hK => ?_); go_simp; (refine (less_any (x0, x1) (y0, y1) _).mono ?_; rintro e₁ w4 ⟨rfl, hbx⟩); refine hK.out _ _ hbx ?_; clear hK K; replace hBase := below_step hBase hbx)
      obtain ⟨r, hr0⟩ : ∃ r, ltG (x0, x1) (y0, y1) = r := ⟨_, rfl⟩
      rw [hr0] at HS HE ⊢
      clear hr0
      have HB2 := Lib.hid (below_step HB.out hBase)
      cases r with
      | false =>
        have HSR : Hid (P = false) := HP.out.symm.trans (HE.out rfl)
        iterate 1 (refine plan_read rfl (by rfl) (v := ?_) ?_ ?_; rotate_left 1; (intro W hW; have hW0 := below_step hBase hW; (try dsimp only at hW); go_simp <;> with_reducible rfl); simp only [List.getElem_toArray, List.getElem_cons_zero, List.getElem_cons_succ, Act.put, List.setIfInBounds_toArray, List.set_cons_zero, List.set_cons_succ])
        refine plan_done ?_
        go_wp2_with fail
        go_ret
        exact ⟨by rw [HSR.out]; rfl, HB2.out⟩
      | true =>
        have HS2 := Lib.hid (fun j hj hjk => HS.out j hj hjk rfl)
        iterate 1 (refine plan_read rfl (by rfl) (v := ?_) ?_ ?_; rotate_left 1; (intro W hW; have hW0 := below_step hBase hW; (try dsimp only at hW); go_simp <;> with_reducible rfl); simp only [List.getElem_toArray, List.getElem_cons_zero, List.getElem_cons_succ, Act.put, List.setIfInBounds_toArray, List.set_cons_zero, List.set_cons_succ])
        refine plan_done ?_
        go_wp2_with fail
        go_roundw
        case rel => exact ⟨⟨k + 1, by omega, by go_num, by omega, fun j hj hjk => HS2.out j hj hjk⟩, HB2.out⟩
        case measure => simp [intOf]; omega
    · have HSR : Hid (P = decide ((n : Int) < 65)) := by
        unfold Hid
        have : sortG l = true := (sort_at l).2 (fun j hj => hs j hj (by have := HN.out; omega))
        rw [← HP.out]
        unfold rightG
        rw [this, HN.out, Bool.true_and, decide_eq_decide]
        omega
      have HB := Lib.hid hB
      have j1 : ¬ (k : Int) < (n : Int) := by omega
      clear hs hB
      go_wp2_with fail
      go_ret
      exact ⟨by rw [HSR.out]; rfl, HB.out⟩

set_option maxHeartbeats 1000000 in
theorem refhas15_any (l : List Gn) (g : Gn) (n c : Nat) (A : Option Addr) (w : World) (HN : Hid (l.length = n)) (hr : RdG w A l) (hn : n ≤ 1000000000) :
    Calls Try.prog 30 #[.slice A n c, aggG g] w fun e w' => e = .returned (.bool (hasG l g)) ∧ Below w.heap.size w w' := by
  obtain ⟨g0, hg0⟩ : ∃ x, x = g.1 := ⟨_, rfl⟩
  obtain ⟨g1, hg1⟩ : ∃ x, x = g.2 := ⟨_, rfl⟩
  have HG : Hid (g = (g0, g1)) := by unfold Hid; rw [hg0, hg1]
  unfold aggG vNG
  rw [← hg0, ← hg1]
  clear hg0 hg1
  obtain ⟨P, hP⟩ : ∃ P, hasG l g = P := ⟨_, rfl⟩
  rw [hP]
  have HP := Lib.hid hP
  clear hP
  have hR : Row (w.alloc (.cells #[.int .u64 (g0 : Int), .int .u64 (g1 : Int)] 46)) w.heap.size 46 [.int .u64 (g0 : Int), .int .u64 (g1 : Int)] := Row.new w _ _ _ rfl
  have hB0 := below_new (Below.refl _ w) (.cells #[.int .u64 (g0 : Int), .int .u64 (g1 : Int)] 46)
  go_enter Try.func30, Try.ntmps30
  go_upto_region 1 with fail
  generalize w.alloc (.cells #[.int .u64 (g0 : Int), .int .u64 (g1 : Int)] 46) = w1 at hR hB0 ⊢
  have hg1 := hR.lt
  generalize w.heap.size = bg at hR hg1 ⊢
  go_wp2_with fail
  go_loopw [5] (fun i wr => (∃ k : Nat, i = .int .i64 (k : Int) ∧ k ≤ n ∧ g ∉ l.take k) ∧ Below w1.heap.size w1 wr) (fun i _ => n - (intOf i).toNat)
  case atStart => exact ⟨⟨0, rfl, by omega, by simp⟩, Below.refl _ _⟩
  case round =>
    obtain ⟨⟨k, rfl, hk, hnot⟩, hB⟩ := hrel
    by_cases hlt : k < n
    · have hkl : k < l.length := by rw [HN.out]; exact hlt
      obtain ⟨b, o, rfl, hb, hrng, p0, p1⟩ := (hr.keep hB0).pair hkl
      replace p0 := (hB.cell (p := ⟨b, o + k * 2, none⟩) hb).trans p0
      replace p1 := (hB.cell (p := ⟨b, o + k * 2 + 1, none⟩) hb).trans p1
      have HT : Hid (g ∉ l.take (k + 1) ↔ ¬ l[k] = g) := by
        unfold Hid
        rw [List.take_succ_eq_append_getElem hkl, List.mem_append]
        simp [hnot, eq_comm]
      have HI : Hid (l[k] = g → hasG l g = true) := fun h => by unfold hasG; rw [decide_eq_true_iff, ← h]; exact List.getElem_mem hkl
      generalize l[k] = x at p0 p1 HT HI
      obtain ⟨x0, x1⟩ := x
      unfold vNG at p0 p1
      dsimp only at p0 p1
      have d0 : ∀ W, Below wr.heap.size wr W → W.cell? ⟨b, o + k * 2, none⟩ = some (.int .u64 (x0 : Int)) := fun W hW => (hW.cell (p := ⟨b, o + k * 2, none⟩) (World.block_lt_of_cell? wr _ p0)).trans p0
      have d1 : ∀ W, Below wr.heap.size wr W → W.cell? ⟨b, o + k * 2 + 1, none⟩ = some (.int .u64 (x1 : Int)) := fun W hW => (hW.cell (p := ⟨b, o + k * 2 + 1, none⟩) (World.block_lt_of_cell? wr _ p1)).trans p1
      have d2 : ∀ W, Below wr.heap.size wr W → W.cell? ⟨bg, 0, none⟩ = some (.int .u64 (g0 : Int)) := fun W hW => ((hR.later hB).later hW).cell rfl
      have d3 : ∀ W, Below wr.heap.size wr W → W.cell? ⟨bg, 1, none⟩ = some (.int .u64 (g1 : Int)) := fun W hW => ((hR.later hB).later hW).cell rfl
      have i2 : (0 : Int) ≤ (k : Int) := by omega
      have i3 : (k : Int) < (n : Int) := by omega
      have hq := fun W => eq_gone x0 x1 g0 g1 W
      have HQ : Hid (decide ((x0, x1) = (g0, g1)) = true ↔ (x0, x1) = g) := by unfold Hid; rw [decide_eq_true_iff, HG.out]
      generalize decide ((x0, x1) = (g0, g1)) = r at hq HQ
      have hgd := fun op x y xs ys W => guard_gone op x y xs ys W
      have HB := Lib.hid hB
      have HKN : Hid (k < n) := hlt
      clear hrng hB hnot p0 p1
      go_wp2_with fail
      have hBase := (Below.refl wr.heap.size wr).drew
      refine wp_region_plan (.step 0 false (.step 1 false (.step 2 false (.step 3 false (.step 4 false (.step 5 false (.nil))))))) (by kernel_rfl) (by kernel_rfl) (by rfl) (by kernel_rfl) ?_
      iterate 6 (refine plan_read rfl (by rfl) (v := ?_) ?_ ?_; rotate_left 1; (intro W hW; have hW0 := below_step hBase hW; (try dsimp only at hW); go_simp <;> with_reducible rfl); simp only [List.getElem_toArray, List.getElem_cons_zero, List.getElem_cons_succ, Act.put, List.setIfInBounds_toArray, List.set_cons_zero, List.set_cons_succ])
      refine plan_done ?_
      have HB2 := Lib.hid (below_step HB.out hBase)
      cases r with
      | true =>
        have HH : Hid (P = true) := HP.out.symm.trans (HI.out (HQ.out.1 rfl))
        go_wp2_with fail
        go_ret
        exact ⟨by rw [HH.out]; rfl, hB0.trans (HB2.out.mono hB0.size)⟩
      | false =>
        have hne : ¬ (x0, x1) = g := fun h => by have := HQ.out.2 h; cases this
        go_wp2_with fail
        go_roundw
        case rel => exact ⟨⟨k + 1, by go_num, by omega, HT.out.2 hne⟩, HB2.out⟩
        case measure => simp [intOf]; omega
    · have hkn : k = n := by omega
      have hm : hasG l g = false := by
        unfold hasG
        rw [decide_eq_false_iff_not]
        rw [hkn, ← HN.out, List.take_length] at hnot
        exact hnot
      have HM : Hid (P = false) := HP.out.symm.trans hm
      have j1 : ¬ (k : Int) < (n : Int) := by omega
      have HB := Lib.hid hB
      clear hm hnot hkn hB
      go_wp2_with fail
      go_ret
      exact ⟨by rw [HM.out]; rfl, hB0.trans (HB.out.mono hB0.size)⟩

set_option maxHeartbeats 1000000 in
theorem same15_any (l m : List Gn) (n k c d : Nat) (A B : Option Addr) (w : World) (HN : Hid (l.length = n)) (HM : Hid (m.length = k)) (hr : RdG w A l) (hs : RdG w B m) (hn : n ≤ 1000000000) :
    Calls Try.prog 31 #[.slice A n c, .slice B k d] w fun e w' => e = .returned (.bool (decide (l = m))) ∧ Below w.heap.size w w' := by
  obtain ⟨P, hP⟩ : ∃ P, decide (l = m) = P := ⟨_, rfl⟩
  rw [hP]
  have HP := Lib.hid hP
  clear hP
  by_cases hnk : n = k
  · subst hnk
    go_enter Try.func31, Try.ntmps31
    go_wp2_with fail
    go_loopw [5] (fun i wr => (∃ j : Nat, i = .int .i64 (j : Int) ∧ j ≤ n ∧ l.take j = m.take j) ∧ Below w.heap.size w wr) (fun i _ => n - (intOf i).toNat)
    case atStart => exact ⟨⟨0, rfl, by omega, by simp⟩, Below.refl _ _⟩
    case round =>
      obtain ⟨⟨j, rfl, hj, htk⟩, hB⟩ := hrel
      by_cases hlt : j < n
      · have hjl : j < l.length := by rw [HN.out]; exact hlt
        have hjm : j < m.length := by rw [HM.out]; exact hlt
        obtain ⟨b, o, rfl, hb, _, p0, p1⟩ := hr.pair hjl
        obtain ⟨b2, o2, rfl, hb2, _, q0, q1⟩ := hs.pair hjm
        replace p0 := (hB.cell (p := ⟨b, o + j * 2, none⟩) hb).trans p0
        replace p1 := (hB.cell (p := ⟨b, o + j * 2 + 1, none⟩) hb).trans p1
        replace q0 := (hB.cell (p := ⟨b2, o2 + j * 2, none⟩) hb2).trans q0
        replace q1 := (hB.cell (p := ⟨b2, o2 + j * 2 + 1, none⟩) hb2).trans q1
        have HT : Hid (l[j] = m[j] → l.take (j + 1) = m.take (j + 1)) := fun h => by
          rw [List.take_succ_eq_append_getElem hjl, List.take_succ_eq_append_getElem hjm, htk, h]
        have HI : Hid (¬ l[j] = m[j] → decide (l = m) = false) := fun h => by
          rw [decide_eq_false_iff_not]
          intro e
          subst e
          exact h rfl
        generalize l[j] = x at p0 p1 HT HI
        generalize m[j] = y at q0 q1 HT HI
        obtain ⟨x0, x1⟩ := x
        obtain ⟨y0, y1⟩ := y
        unfold vNG at p0 p1 q0 q1
        dsimp only at p0 p1 q0 q1
        have d0 : ∀ W, Below wr.heap.size wr W → W.cell? ⟨b, o + j * 2, none⟩ = some (.int .u64 (x0 : Int)) := fun W hW => (hW.cell (p := ⟨b, o + j * 2, none⟩) (World.block_lt_of_cell? wr _ p0)).trans p0
        have d1 : ∀ W, Below wr.heap.size wr W → W.cell? ⟨b, o + j * 2 + 1, none⟩ = some (.int .u64 (x1 : Int)) := fun W hW => (hW.cell (p := ⟨b, o + j * 2 + 1, none⟩) (World.block_lt_of_cell? wr _ p1)).trans p1
        have d2 : ∀ W, Below wr.heap.size wr W → W.cell? ⟨b2, o2 + j * 2, none⟩ = some (.int .u64 (y0 : Int)) := fun W hW => (hW.cell (p := ⟨b2, o2 + j * 2, none⟩) (World.block_lt_of_cell? wr _ q0)).trans q0
        have d3 : ∀ W, Below wr.heap.size wr W → W.cell? ⟨b2, o2 + j * 2 + 1, none⟩ = some (.int .u64 (y1 : Int)) := fun W hW => (hW.cell (p := ⟨b2, o2 + j * 2 + 1, none⟩) (World.block_lt_of_cell? wr _ q1)).trans q1
        have i2 : (0 : Int) ≤ (j : Int) := by omega
        have i3 : (j : Int) < (n : Int) := by omega
        have hq := fun W => neq_gone x0 x1 y0 y1 W
        have HQ : Hid (decide ((x0, x1) = (y0, y1)) = true ↔ (x0, x1) = (y0, y1)) := by unfold Hid; rw [decide_eq_true_iff]
        generalize decide ((x0, x1) = (y0, y1)) = r at hq HQ
        have hgd := fun op x y xs ys W => guard_gone op x y xs ys W
        have HB := Lib.hid hB
        clear hB htk p0 p1 q0 q1
        go_wp2_with fail
        have hBase := (Below.refl wr.heap.size wr).drew
        refine wp_region_plan (.step 0 false (.step 1 false (.step 2 false (.step 3 false (.step 4 false (.step 5 false (.step 6 false (.step 7 false (.step 8 false (.nil)))))))))) (by kernel_rfl) (by kernel_rfl) (by rfl) (by kernel_rfl) ?_
        iterate 9 (refine plan_read rfl (by rfl) (v := ?_) ?_ ?_; rotate_left 1; (intro W hW; have hW0 := below_step hBase hW; (try dsimp only at hW); go_simp <;> with_reducible rfl); simp only [List.getElem_toArray, List.getElem_cons_zero, List.getElem_cons_succ, Act.put, List.setIfInBounds_toArray, List.set_cons_zero, List.set_cons_succ])
        refine plan_done ?_
        have HB2 := Lib.hid (below_step HB.out hBase)
        cases r with
        | true =>
          have HT2 := Lib.hid (HT.out (HQ.out.1 rfl))
          go_wp2_with fail
          go_roundw
          case rel => exact ⟨⟨j + 1, by go_num, by omega, HT2.out⟩, HB2.out⟩
          case measure => simp [intOf]; omega
        | false =>
          have HH : Hid (P = false) := HP.out.symm.trans (HI.out (fun h => by have := HQ.out.2 h; cases this))
          go_wp2_with fail
          go_ret
          exact ⟨by rw [HH.out]; rfl, HB2.out⟩
      · have HH : Hid (P = true) := by
          unfold Hid
          rw [← HP.out, decide_eq_true_iff]
          have : j = n := by omega
          subst this
          have h1 := List.take_of_length_le (l := l) (i := j) (by rw [HN.out]; exact Nat.le_refl _)
          have h2 := List.take_of_length_le (l := m) (i := j) (by rw [HM.out]; exact Nat.le_refl _)
          rw [← h1, ← h2, htk]
        have j1 : ¬ (j : Int) < (n : Int) := by omega
        have HB := Lib.hid hB
        clear hB htk
        go_wp2_with fail
        go_ret
        exact ⟨by rw [HH.out]; rfl, HB.out⟩
  · have HH : Hid (P = false) := by
      unfold Hid
      rw [← HP.out, decide_eq_false_iff_not]
      rintro rfl
      exact hnk (HN.out.symm.trans HM.out)
    have hne : ((n : Int) != (k : Int)) = true := by simp; omega
    go_enter Try.func31, Try.ntmps31
    go_wp2_with fail
    go_ret
    exact ⟨by rw [HH.out]; rfl, Below.refl _ _⟩

set_option maxHeartbeats 1000000 in
theorem refbytes15_any (l : List Gn) (c : Nat) (A : Option Addr) (w : World) (hr : RdG w A l) (HF : Hid (fitG l)) (hl64 : l.length ≤ 64) :
    Calls Try.prog 25 #[.slice A l.length c] w (RetO 5 vB w (bytesG l)) := by
  obtain ⟨i0, hi, hz0, hz1, hz2⟩ := info_parts info_u8
  have hby := byte_len l l.length rfl hl64
  have HO : Hid ((w.alloc (.cells #[Value.int .u8 (l.length : Int)] 5)).ownsRow w.heap.size 5 1 (.slice (some ⟨w.heap.size, 0, none⟩) 1 1) (beG l 0).length ((beG l 0).map vB)) := own_lit w 5 ((beG l 0).map vB) _ hby (by unfold maxLen; simp [beG, flatG])
  have HB : Hid (Below w.heap.size w (w.alloc (.cells #[Value.int .u8 (l.length : Int)] 5))) := below_new (Below.refl _ _) _
  clear hby
  go_enter Try.func25, Try.ntmps25
  go_upto_region 2 with fail
  generalize w.alloc (.cells #[Value.int .u8 (l.length : Int)] 5) = w2 at HO HB ⊢
  go_wp2_with fail
  go_loopw [3, 4] (fun v i wr => ByG l w v i wr) (fun _ i _ => l.length - (intOf i).toNat)
  case atStart => exact ⟨0, Nat.zero_le _, rfl, HO.out, HB.out⟩
  case round =>
    clear HO HB
    obtain ⟨k, hk, rfl, hown, hbel⟩ := hrel
    by_cases hlt : k < l.length
    · obtain ⟨b, o, rfl, hb, hrng, p0, p1⟩ := hr.pair hlt
      have hx := HF.out _ (List.getElem_mem hlt)
      have HNX := Lib.hid (fun (v : Value) (wr : World) (h) hB => byG_next (w := w) (wr := wr) (v := v) hlt h hB)
      have hbl := beG_length l k hk
      generalize l[k] = x at p0 p1 hx HNX
      obtain ⟨x0, x1⟩ := x
      dsimp only at hx HNX
      generalize beG l k = Lk at hown HNX hbl
      have i2 : (0 : Int) ≤ (k : Int) := by omega
      have i3 : (k : Int) < (l.length : Int) := by omega
      unfold vNG at p0 p1
      dsimp only at p0 p1
      have c0 : wr.cell? ⟨b, o + k * 2, none⟩ = some (.int .u64 (x0 : Int)) := (hbel.cell (p := ⟨b, o + k * 2, none⟩) hb).trans p0
      have HP1 := Lib.hid p1
      have HX := Lib.hid hx
      obtain ⟨L1, hL1⟩ : ∃ L, putL x0 = L := ⟨_, rfl⟩
      obtain ⟨L2, hL2⟩ : ∃ L, putL x1 = L := ⟨_, rfl⟩
      have hl1 : L1.length = 8 := by rw [← hL1]; rfl
      have hl2 : L2.length = 8 := by rw [← hL2]; rfl
      rw [hL1, hL2] at HNX
      have HL1 := Lib.hid hL1
      have HL2 := Lib.hid hL2
      have HN1 := Lib.hid hl1
      have HN2 := Lib.hid hl2
      have HBB := Lib.hid hbel
      clear hL1 hL2 hl1 hl2 hx hbel hrng p0 p1
      go_wp2_with fail
      refine (refputG_at x0 L1 HX.out.1 HL1 _).mono ?_
      rintro ee w4 ⟨A1, c1, rfl, hc1, hr1, hb1⟩
      have hown4 := ownsRow_later hown hb1
      have hB4 := below_step HBB.out hb1
      have hsz4 := hB4.size
      clear hown hb1 c0
      go_wp2_with (at_builtin; refine wpList_append_apart _ rfl (.tmp 15) (.tmp 21) 47 rfl w.heap.size 5 i0 (.int .u8 0) 1 Try.underlying47 hi hz0 hz1 hz2 rfl _ _ _ rfl hown4 A1 L1 c1 (by rw [HN1.out]; rfl) hr1 vB_one (by rw [HN1.out]; unfold maxLen; omega) (by rw [HN1.out]; omega) (by omega) ?_; intro v5 w5 hown5 hgrow5 hat5; have hB5 := hB4.grown hgrow5 hsz4 (fun k hk => (hown4.lt k hk).1); have c1' : w5.cell? ⟨b, o + k * 2 + 1, none⟩ = some (.int .u64 (x1 : Int)) := (hB5.cell (p := ⟨b, o + k * 2 + 1, none⟩) hb).trans HP1.out)
      refine (refputG_at x1 L2 HX.out.2 HL2 _).mono ?_
      rintro ee w6 ⟨A2, c2, rfl, hc2, hr2, hb2⟩
      have hown6 := ownsRow_later hown5 hb2
      have hB6 := below_step hB5 hb2
      have hsz6 := hB6.size
      clear hown5 hb2 c1' hgrow5 hown4 hB4 hat5
      go_wp2_with (at_builtin; refine wpList_append_apart _ rfl (.tmp 23) (.tmp 29) 47 rfl w.heap.size 5 i0 (.int .u8 0) 1 Try.underlying47 hi hz0 hz1 hz2 rfl _ _ _ rfl hown6 A2 L2 c2 (by rw [HN2.out]; rfl) hr2 vB_one (by rw [HN2.out, HN1.out]; unfold maxLen; omega) (by rw [HN2.out, HN1.out]; omega) (by omega) ?_; intro v7 w7 hown7 hgrow7 hat7)
      have hB7 := hB6.grown hgrow7 hsz6 (fun k hk => (hown6.lt k hk).1)
      go_roundw
      case rel => exact HNX.out _ _ (by rw [HN1.out, HN2.out] at hown7; exact hown7) hB7
      case measure => simp [intOf]; omega
    · have hkl : k = l.length := by omega
      subst hkl
      rw [beG_all] at hown
      have HOW := Lib.hid hown
      have HB := Lib.hid hbel
      clear hown hbel
      go_wp2_with fail
      go_ret
      exact ⟨_, rfl, HOW.out, HB.out⟩
end Go.Proofs.Ytmljhkdojopljaa
/-
  What slices.BinarySearchFunc answers at a list that is right, by the program's order. No conditions but those typed.
-/
namespace Go.Proofs.Ytmljhkdojopljaa
set_option maxRecDepth 100000
open Go.RowKit
set_option linter.unusedSimpArgs false
set_option linter.unusedVariables false

theorem sort_lt {l : List Gn} (h : sortG l = true) {i j : Nat} (hij : i < j) (hj : j < l.length) : ltG l[i] l[j] = true := by
  have hp := (sort_pair l).1 h
  exact List.pairwise_iff_getElem.1 hp i j (by omega) hj hij
/-- What is less than g stands ahead of place i, and nothing else. -/
def PlG (l : List Gn) (g : Gn) (i : Nat) : Prop := (∀ k (h : k < l.length), k < i → ltG l[k] g = true) ∧ ∀ k (h : k < l.length), i ≤ k → ltG l[k] g = false
theorem pl_ins : ∀ {l : List Gn} {g : Gn} {i : Nat}, PlG l g i → i ≤ l.length → insG l g = l.take i ++ g :: l.drop i
  | [], g, i, _, hi => by
    have : i = 0 := by simpa using hi
    subst this
    rfl
  | a :: l, g, 0, h, _ => by
    have := h.2 0 (by simp) (Nat.le_refl _)
    unfold insG
    simp only [List.getElem_cons_zero] at this
    rw [this]
    rfl
  | a :: l, g, i + 1, h, hi => by
    have h0 := h.1 0 (by simp) (by omega)
    simp only [List.getElem_cons_zero] at h0
    have ih : insG l g = l.take i ++ g :: l.drop i := pl_ins ⟨fun k hk hki => h.1 (k + 1) (by simpa using hk) (by omega), fun k hk hki => h.2 (k + 1) (by simpa using hk) (by omega)⟩ (by simpa using hi)
    unfold insG
    rw [h0, if_pos rfl, ih]
    rfl
/-- It is there just if it stands at that place. -/
theorem pl_mem {l : List Gn} {g : Gn} {i : Nat} (h : PlG l g i) (hs : sortG l = true) : g ∈ l ↔ ∃ hi : i < l.length, l[i] = g := by
  constructor
  · intro hg
    obtain ⟨k, hk, rfl⟩ := List.getElem_of_mem hg
    have hki : ¬ k < i := fun hlt => by
      have := h.1 k hk hlt
      rw [ltG_irr] at this
      cases this
    have hik : ¬ i < k := fun hlt => by
      have h1 := sort_lt hs hlt hk
      have h2 := h.2 i (by omega) (Nat.le_refl _)
      rw [h1] at h2
      cases h2
    have : k = i := by omega
    subst this
    exact ⟨hk, rfl⟩
  · rintro ⟨hi, rfl⟩
    exact List.getElem_mem hi
/-- At the place: less than g, it, or greater. -/
theorem plG_zero {l : List Gn} {g : Gn} {i : Nat} (h : PlG l g i) (hi : i < l.length) : (ordG l[i] g = 0) ↔ l[i] = g := ord_zero _ _
theorem pl_left {l : List Gn} {g : Gn} {m : Nat} (hs : sortG l = true) (hm : m < l.length) (h : ltG l[m] g = true) : ∀ k (h : k < l.length), k < m + 1 → ltG l[k] g = true := fun k hk hkm => by
  by_cases e : k = m
  · subst e; exact h
  · exact ltG_trans (sort_lt hs (by omega) hm) h
theorem pl_right {l : List Gn} {g : Gn} {m : Nat} (hs : sortG l = true) (hm : m < l.length) (h : ltG l[m] g = false) : ∀ k (h : k < l.length), m ≤ k → ltG l[k] g = false := fun k hk hkm => by
  by_cases e : k = m
  · subst e; exact h
  · rw [Bool.eq_false_iff]
    intro h2
    have := ltG_trans (sort_lt hs (by omega : m < k) hk) h2
    rw [h] at this
    cases this

set_option maxHeartbeats 1000000 in
theorem search_any (l : List Gn) (g : Gn) (n c : Nat) (A : Option Addr) (w : World) (HN : Hid (l.length = n)) (hr : RdG w A l) (HF : Hid (fitG l)) (HG : Hid (fitN g)) (HS : Hid (sortG l = true)) (hn : n ≤ 1000000000) :
    Calls Try.prog 43 #[.slice A n c, aggG g, .func (.func 44) #[] #[]] w fun e w' => (∃ i : Nat, i ≤ n ∧ PlG l g i ∧ e = .returned (.tuple #[.int .i64 (i : Int), .bool (hasG l g)])) ∧ Below w.heap.size w w' := by
  obtain ⟨g0, hg0⟩ : ∃ x, x = g.1 := ⟨_, rfl⟩
  obtain ⟨g1, hg1⟩ : ∃ x, x = g.2 := ⟨_, rfl⟩
  have HE : Hid (g = (g0, g1)) := by unfold Hid; rw [hg0, hg1]
  unfold aggG vNG
  rw [← hg0, ← hg1]
  clear hg0 hg1
  have hR : Row (w.alloc (.cells #[.int .u64 (g0 : Int), .int .u64 (g1 : Int)] 46)) w.heap.size 46 [.int .u64 (g0 : Int), .int .u64 (g1 : Int)] := Row.new w _ _ _ rfl
  have hB0 := below_new (Below.refl _ w) (.cells #[.int .u64 (g0 : Int), .int .u64 (g1 : Int)] 46)
  go_enter Try.func43, Try.ntmps43
  go_upto_region 1 with fail
  generalize w.alloc (.cells #[.int .u64 (g0 : Int), .int .u64 (g1 : Int)] 46) = w1 at hR hB0 ⊢
  have hg1 := hR.lt
  generalize w.heap.size = bg at hR hg1 ⊢
  go_wp2_with fail
  go_loopw [9, 10] (fun u v wr => (∃ i j : Nat, u = .int .i64 (i : Int) ∧ v = .int .i64 (j : Int) ∧ i ≤ j ∧ j ≤ n ∧ (∀ k (h : k < l.length), k < i → ltG l[k] g = true) ∧ ∀ k (h : k < l.length), j ≤ k → ltG l[k] g = false) ∧ Below w1.heap.size w1 wr) (fun u v _ => (intOf v - intOf u).toNat)
  case atStart => exact ⟨⟨0, n, rfl, rfl, by omega, Nat.le_refl _, fun k _ hk => by omega, fun k hk hk2 => by have := HN.out; omega⟩, Below.refl _ _⟩
  case round =>
    obtain ⟨⟨i, j, rfl, rfl, hij, hjn, hlo, hhi⟩, hB⟩ := hrel
    by_cases hlt : i < j
    · obtain ⟨m, hm, hm1, hm2⟩ : ∃ m : Nat, ((i : Int) + (j : Int)) / 2 = (m : Int) ∧ i ≤ m ∧ m < j := ⟨(i + j) / 2, by omega, by omega, by omega⟩
      have hln := HN.out
      have hml : m < l.length := by omega
      obtain ⟨b, o, rfl, hb, hrng, p0, p1⟩ := (hr.keep hB0).pair hml
      replace p0 := (hB.cell (p := ⟨b, o + m * 2, none⟩) hb).trans p0
      replace p1 := (hB.cell (p := ⟨b, o + m * 2 + 1, none⟩) hb).trans p1
      have HP : Hid (fitN l[m]) := HF.out _ (List.getElem_mem hml)
      have HL : Hid (ltG l[m] g = true → ∀ k (h : k < l.length), k < m + 1 → ltG l[k] g = true) := pl_left HS.out hml
      have HH : Hid (ltG l[m] g = false → ∀ k (h : k < l.length), m ≤ k → ltG l[k] g = false) := pl_right HS.out hml
      generalize l[m] = x at p0 p1 HP HL HH
      obtain ⟨x0, x1⟩ := x
      unfold vNG at p0 p1
      dsimp only at p0 p1
      have d0 : ∀ W, Below wr.heap.size wr W → W.cell? ⟨b, o + m * 2, none⟩ = some (.int .u64 (x0 : Int)) := fun W hW => (hW.cell (p := ⟨b, o + m * 2, none⟩) (World.block_lt_of_cell? wr _ p0)).trans p0
      have d1 : ∀ W, Below wr.heap.size wr W → W.cell? ⟨b, o + m * 2 + 1, none⟩ = some (.int .u64 (x1 : Int)) := fun W hW => (hW.cell (p := ⟨b, o + m * 2 + 1, none⟩) (World.block_lt_of_cell? wr _ p1)).trans p1
      have d2 : ∀ W, Below wr.heap.size wr W → W.cell? ⟨bg, 0, none⟩ = some (.int .u64 (g0 : Int)) := fun W hW => ((hR.later hB).later hW).cell rfl
      have d3 : ∀ W, Below wr.heap.size wr W → W.cell? ⟨bg, 1, none⟩ = some (.int .u64 (g1 : Int)) := fun W hW => ((hR.later hB).later hW).cell rfl
      have HB := Lib.hid hB
      have HLO := Lib.hid hlo
      have HHI := Lib.hid hhi
      have HIJ : Hid (i ≤ m ∧ m < j ∧ j ≤ n) := ⟨hm1, hm2, hjn⟩
      have HM := Lib.hid hm
      clear hrng hB p0 p1 hlo hhi hln hm
      go_wp2_with fail
      rw [HM.out]
      have i2 : (0 : Int) ≤ (m : Int) := by omega
      have i3 : (m : Int) < (n : Int) := by omega
      have hBase := (Below.refl wr.heap.size wr).drew
      refine wp_region_plan (.step 0 false (.step 1 false (.step 2 false (.step 3 false (.step 4 false (.step 5 false (.step 6 true (.step 7 false (.nil))))))))) (by kernel_rfl) (by kernel_rfl) (by rfl) (by kernel_rfl) ?_
      iterate 6 (refine plan_read rfl (by rfl) (v := ?_) ?_ ?_; rotate_left 1; (intro W hW; have hW0 := below_step hBase hW; (try dsimp only at hW); go_simp <;> with_reducible rfl); simp only [List.getElem_toArray, List.getElem_cons_zero, List.getElem_cons_succ, Act.put, List.setIfInBounds_toArray, List.set_cons_zero, List.set_cons_succ])
      (refine plan_make rfl (by rfl) (fun K hK => ?_); go_simp; (refine (order_any (x0, x1) (g0, g1) _ HP.out (by have := HG.out; rw [HE.out] at this; exact this)).mono ?_; rintro e₁ w4 ⟨rfl, hbx⟩); refine hK.out _ _ hbx ?_; clear hK K; replace hBase := below_step hBase hbx)
      have hneg := ord_neg (x0, x1) (g0, g1)
      generalize ordG (x0, x1) (g0, g1) = r at hneg ⊢
      rw [← HE.out] at hneg
      have HB2 := Lib.hid (below_step HB.out hBase)
      by_cases hr0 : r < 0
      · have HL2 := Lib.hid (HL.out (hneg.1 hr0))
        have hd : decide (r < 0) = true := decide_eq_true hr0
        clear hneg
        iterate 1 (refine plan_read rfl (by rfl) (v := ?_) ?_ ?_; rotate_left 1; (intro W hW; have hW0 := below_step hBase hW; (try dsimp only at hW); go_simp <;> with_reducible rfl); simp only [List.getElem_toArray, List.getElem_cons_zero, List.getElem_cons_succ, Act.put, List.setIfInBounds_toArray, List.set_cons_zero, List.set_cons_succ])
        refine plan_done ?_
        go_wp2_with fail
        go_roundw
        case rel => exact ⟨⟨m + 1, j, by go_num, rfl, by have := HIJ.out; omega, HIJ.out.2.2, HL2.out, HHI.out⟩, HB2.out⟩
        case measure => have := HIJ.out; simp [intOf]; omega
      · have hlf : ltG (x0, x1) g = false := by
          rw [Bool.eq_false_iff]
          intro h
          exact hr0 (hneg.2 h)
        have HL2 := Lib.hid (HH.out hlf)
        have hd : decide (r < 0) = false := decide_eq_false hr0
        clear hneg hlf
        iterate 1 (refine plan_read rfl (by rfl) (v := ?_) ?_ ?_; rotate_left 1; (intro W hW; have hW0 := below_step hBase hW; (try dsimp only at hW); go_simp <;> with_reducible rfl); simp only [List.getElem_toArray, List.getElem_cons_zero, List.getElem_cons_succ, Act.put, List.setIfInBounds_toArray, List.set_cons_zero, List.set_cons_succ])
        refine plan_done ?_
        go_wp2_with fail
        go_roundw
        case rel => exact ⟨⟨i, m, rfl, rfl, HIJ.out.1, by have := HIJ.out; omega, HLO.out, HL2.out⟩, HB2.out⟩
        case measure => have := HIJ.out; simp [intOf]; omega
    · have hij2 : i = j := by omega
      subst hij2
      have HPL : Hid (PlG l g i) := ⟨hlo, hhi⟩
      have hmem := pl_mem HPL.out HS.out
      have HB := Lib.hid hB
      clear hlo hhi
      by_cases hin : i < n
      · have hil : i < l.length := by rw [HN.out]; exact hin
        obtain ⟨b, o, rfl, hb, hrng, p0, p1⟩ := (hr.keep hB0).pair hil
        replace p0 := (hB.cell (p := ⟨b, o + i * 2, none⟩) hb).trans p0
        replace p1 := (hB.cell (p := ⟨b, o + i * 2 + 1, none⟩) hb).trans p1
        have HP : Hid (fitN l[i]) := HF.out _ (List.getElem_mem hil)
        have HZ : Hid (hasG l g = decide (ordG l[i] g = 0)) := by
          unfold Hid hasG
          rw [decide_eq_decide, hmem, ord_zero]
          exact ⟨fun ⟨_, h⟩ => h, fun h => ⟨hil, h⟩⟩
        rw [HE.out] at HZ
        generalize l[i] = x at p0 p1 HP HZ
        obtain ⟨x0, x1⟩ := x
        unfold vNG at p0 p1
        dsimp only at p0 p1
        have d0 : ∀ W, Below wr.heap.size wr W → W.cell? ⟨b, o + i * 2, none⟩ = some (.int .u64 (x0 : Int)) := fun W hW => (hW.cell (p := ⟨b, o + i * 2, none⟩) (World.block_lt_of_cell? wr _ p0)).trans p0
        have d1 : ∀ W, Below wr.heap.size wr W → W.cell? ⟨b, o + i * 2 + 1, none⟩ = some (.int .u64 (x1 : Int)) := fun W hW => (hW.cell (p := ⟨b, o + i * 2 + 1, none⟩) (World.block_lt_of_cell? wr _ p1)).trans p1
        have d2 : ∀ W, Below wr.heap.size wr W → W.cell? ⟨bg, 0, none⟩ = some (.int .u64 (g0 : Int)) := fun W hW => ((hR.later hB).later hW).cell rfl
        have d3 : ∀ W, Below wr.heap.size wr W → W.cell? ⟨bg, 1, none⟩ = some (.int .u64 (g1 : Int)) := fun W hW => ((hR.later hB).later hW).cell rfl
        have i2 : (0 : Int) ≤ (i : Int) := by omega
        have i3 : (i : Int) < (n : Int) := by omega
        clear hrng hB p0 p1 hmem
        go_wp2_with fail
        have hBase := (Below.refl wr.heap.size wr).drew
        refine wp_region_plan (.step 0 false (.step 1 false (.step 2 false (.step 3 false (.step 4 false (.step 5 false (.step 6 false (.step 7 false (.step 8 false (.step 9 false (.step 10 false (.step 11 true (.step 12 false (.step 13 false (.step 14 false (.step 15 false (.nil))))))))))))))))) (by kernel_rfl) (by kernel_rfl) (by rfl) (by kernel_rfl) ?_
        iterate 11 (refine plan_read rfl (by rfl) (v := ?_) ?_ ?_; rotate_left 1; (intro W hW; have hW0 := below_step hBase hW; (try dsimp only at hW); go_simp <;> with_reducible rfl); simp only [List.getElem_toArray, List.getElem_cons_zero, List.getElem_cons_succ, Act.put, List.setIfInBounds_toArray, List.set_cons_zero, List.set_cons_succ])
        (refine plan_make rfl (by rfl) (fun K hK => ?_); go_simp; (refine (order_any (x0, x1) (g0, g1) _ HP.out (by have := HG.out; rw [HE.out] at this; exact this)).mono ?_; rintro e₁ w4 ⟨rfl, hbx⟩); refine hK.out _ _ hbx ?_; clear hK K; replace hBase := below_step hBase hbx)
        generalize ordG (x0, x1) (g0, g1) = r at HZ ⊢
        iterate 4 (refine plan_read rfl (by rfl) (v := ?_) ?_ ?_; rotate_left 1; (intro W hW; have hW0 := below_step hBase hW; (try dsimp only at hW); go_simp <;> with_reducible rfl); simp only [List.getElem_toArray, List.getElem_cons_zero, List.getElem_cons_succ, Act.put, List.setIfInBounds_toArray, List.set_cons_zero, List.set_cons_succ])
        refine plan_done ?_
        have HB2 := Lib.hid (hB0.trans ((below_step HB.out hBase).mono hB0.size))
        go_wp2_with fail
        go_ret2
        exact ⟨⟨i, hjn, HPL.out, by rw [HE.out, HZ.out]; rfl⟩, HB2.out⟩
      · have HZ : Hid (hasG l g = false) := by
          unfold Hid hasG
          rw [decide_eq_false_iff_not, hmem]
          rintro ⟨hi, _⟩
          rw [HN.out] at hi
          exact hin hi
        have j1 : ¬ (i : Int) < (n : Int) := by omega
        clear hB hmem
        go_wp2_with fail
        have hBase := (Below.refl wr.heap.size wr).drew
        refine wp_region_plan (.step 0 false (.step 1 false (.step 2 false (.step 3 false (.step 4 false (.step 5 false (.step 6 false (.step 7 false (.step 8 false (.step 9 false (.step 10 false (.step 11 true (.step 12 false (.step 13 false (.step 14 false (.step 15 false (.nil))))))))))))))))) (by kernel_rfl) (by kernel_rfl) (by rfl) (by kernel_rfl) ?_
        iterate 5 (refine plan_read rfl (by rfl) (v := ?_) ?_ ?_; rotate_left 1; (intro W hW; have hW0 := below_step hBase hW; (try dsimp only at hW); go_simp <;> with_reducible rfl); simp only [List.getElem_toArray, List.getElem_cons_zero, List.getElem_cons_succ, Act.put, List.setIfInBounds_toArray, List.set_cons_zero, List.set_cons_succ])
        iterate 8 (refine plan_skip rfl (by rfl) ?_; simp only [List.getElem_toArray, List.getElem_cons_zero, List.getElem_cons_succ, Act.put, List.setIfInBounds_toArray, List.set_cons_zero, List.set_cons_succ])
        iterate 3 (refine plan_read rfl (by rfl) (v := ?_) ?_ ?_; rotate_left 1; (intro W hW; have hW0 := below_step hBase hW; (try dsimp only at hW); go_simp <;> with_reducible rfl); simp only [List.getElem_toArray, List.getElem_cons_zero, List.getElem_cons_succ, Act.put, List.setIfInBounds_toArray, List.set_cons_zero, List.set_cons_succ])
        refine plan_done ?_
        have HB2 := Lib.hid (hB0.trans ((below_step HB.out hBase).mono hB0.size))
        go_wp2_with fail
        go_ret2
        exact ⟨⟨i, hjn, HPL.out, by rw [HZ.out]; rfl⟩, HB2.out⟩
end Go.Proofs.Ytmljhkdojopljaa
/-
  What the program's call Put of layer 15 answers. No conditions but those typed.
-/
namespace Go.Proofs.Ytmljhkdojopljaa
set_option maxRecDepth 100000
open Go.RowKit
set_option linter.unusedSimpArgs false
set_option linter.unusedVariables false

theorem run_cut_to2 {P : Program} (t e : TypeId) (ht : P.underlying t = some (.slice e)) (hz : ∀ w, (sizeOf e).run P w = .ok 2 w) (A : Option Addr) (n cap k : Nat) (hk : k ≤ cap) (w : World) :
    (Instr.slice t (.slice A n cap) none (some (.int .i64 (k : Int))) none).run P w = .ok (.slice A k cap) w := by
  have ht' : P.underlying t = some (.slice (P.elem t)) := by simp [Program.elem, ht]
  have he : P.elem t = e := by simp [Program.elem, ht]
  have e2 : (if cap = 0 then A else A.map (·.add 0)) = A := by
    split
    · rfl
    · cases A <;> simp [Addr.add]
  rw [run_slice_h w t A n cap ht' .i64 (k : Int) (by omega) (by omega), he, hz]
  simp only [Result.andThen, sliced, Nat.zero_mul, Nat.sub_zero, Int.toNat_natCast, e2]
theorem cut_from2 {P : Program} (t e : TypeId) (ht : P.underlying t = some (.slice e)) (hz : ∀ w, (sizeOf e).run P w = .ok 2 w) (A : Option Addr) (n cap k : Nat) (hk : k ≤ n) (hc : n ≤ cap) :
    ∃ A', (∀ w, (Instr.slice t (.slice A n cap) (some (.int .i64 (k : Int))) none none).run P w = .ok (.slice A' (n - k) (cap - k)) w) ∧
      ∀ (w : World) (l : List Gn), l.length = n → RdG w A l → RdG w A' (l.drop k) := by
  have ht' : P.underlying t = some (.slice (P.elem t)) := by simp [Program.elem, ht]
  have he : P.elem t = e := by simp [Program.elem, ht]
  refine ⟨if cap = k then A else A.map (·.add (k * 2)), fun w => ?_, fun w l hl h => h.drop k cap (by omega)⟩
  rw [run_slice_l w t A n cap ht' .i64 (k : Int) (by omega) (by omega), he, hz]
  simp [Result.andThen, sliced]

/-- A list and a code, handed back. -/
def RetPut (w : World) (l : List Gn) (k : Int) (e : Ending) (w' : World) : Prop := ∃ v, e = .returned (.tuple #[v, .int .i64 k]) ∧ w'.ownsRow w.heap.size 46 2 v l.length (cellsG l) ∧ Below w.heap.size w w'

set_option maxHeartbeats 1000000 in
theorem put15_any (l : List Gn) (g : Gn) (n c : Nat) (A : Option Addr) (w : World) (HN : Hid (l.length = n)) (hr : RdG w A l) (HF : Hid (fitG l)) (HG : Hid (fitN g)) (hn : n ≤ 1000000000) (hc : n ≤ c) :
    Calls Try.prog 21 #[.slice A n c, aggG g] w (RetPut w (putG l g).1 (putG l g).2) := by
  obtain ⟨g0, hg0⟩ : ∃ x, x = g.1 := ⟨_, rfl⟩
  obtain ⟨g1, hg1⟩ : ∃ x, x = g.2 := ⟨_, rfl⟩
  have HE : Hid (g = (g0, g1)) := by unfold Hid; rw [hg0, hg1]
  have hse := fun W hW HS => search_any l g n c A W HN (hr.keep hW) HF HG HS hn
  have HSE := Lib.hid hse
  clear hse
  unfold aggG vNG at HSE ⊢
  rw [← hg0, ← hg1] at HSE ⊢
  clear hg0 hg1
  obtain ⟨P, hP⟩ : ∃ P, P = putG l g := ⟨_, rfl⟩
  rw [← hP]
  have hR : Row (w.alloc (.cells #[.int .u64 (g0 : Int), .int .u64 (g1 : Int)] 46)) w.heap.size 46 [.int .u64 (g0 : Int), .int .u64 (g1 : Int)] := Row.new w _ _ _ rfl
  have hB0 := below_new (Below.refl _ w) (.cells #[.int .u64 (g0 : Int), .int .u64 (g1 : Int)] 46)
  go_enter Try.func21, Try.ntmps21
  go_upto_region 1 with fail
  generalize w.alloc (.cells #[.int .u64 (g0 : Int), .int .u64 (g1 : Int)] 46) = w1 at hR hB0 ⊢
  have hbg := hR.lt
  obtain ⟨bg, hbgE⟩ : ∃ bg, bg = w.heap.size := ⟨_, rfl⟩
  rw [← hbgE] at hR hbg ⊢
  have HBG := Lib.hid hbgE
  clear hbgE
  go_wp2_with fail
  refine (right15_any l n c A _ HN (hr.keep hB0) HF hn).mono ?_
  rintro e w2 ⟨rfl, hb2⟩
  have hB2 := hB0.trans (hb2.mono hB0.size)
  have hR2 := hR.later hb2
  rcases put_cases l g with ⟨hrt, hpt⟩ | ⟨hrt, hm, hpt⟩ | ⟨hrt, hm, h64, hpt⟩ | ⟨hrt, hm, h64, hpt⟩
  · rw [hrt]
    rw [hpt] at hP
    subst hP
    have HB2 := Lib.hid hB2
    clear hb2 hB2 hrt hpt
    go_wp2_with fail
    go_ret2
    exact ⟨_, rfl, World.ownsRow_nil _ _ _ _, HB2.out⟩
  all_goals rw [hrt]
  all_goals rw [hpt] at hP
  all_goals subst hP
  all_goals (have HS : Hid (sortG l = true) := (sort_pair l).2 (right_parts.1 hrt).1)
  all_goals (have hc0 := hR2.cell (i := 0) rfl)
  all_goals (have hc1 := hR2.cell (i := 1) rfl)
  all_goals (have HB2 := Lib.hid hB2)
  all_goals clear hb2 hB2 hrt hpt
  all_goals go_wp2_with fail
  all_goals (refine (HSE.out _ HB2.out HS).mono ?_)
  all_goals (rintro e w3 ⟨⟨i, hin, hpl, rfl⟩, hb3⟩)
  all_goals (have HB3 := Lib.hid (HB2.out.trans (hb3.mono HB2.out.size)))
  all_goals (have hR3 := hR2.later hb3)
  all_goals clear hc0 hc1 hb3
  · have hh : hasG l g = true := by unfold hasG; exact decide_eq_true hm
    rw [hh]
    have e1 := HN.out
    subst e1
    clear hh hm
    go_wp2_with fail
    refine (cloneG_any l A c _ (hr.keep HB3.out) hn).mono ?_
    rintro e w4 ⟨v, rfl, hown, hb4⟩
    have HOW := Lib.hid hown
    clear hown
    go_wp2_with fail
    go_ret2
    exact ⟨_, rfl, ownsRowG_base HOW.out HB3.out.size, HB3.out.trans (hb4.mono HB3.out.size)⟩
  · have hh : hasG l g = false := by unfold hasG; exact decide_eq_false hm
    rw [hh]
    have e1 : n = 64 := HN.out.symm.trans h64
    subst e1
    clear hh hm h64
    go_wp2_with fail
    go_ret2
    exact ⟨_, rfl, World.ownsRow_nil _ _ _ _, HB3.out⟩
  · have hh : hasG l g = false := by unfold hasG; exact decide_eq_false hm
    rw [hh]
    have hn64 : ((n : Int) == 64) = false := by
      have := HN.out
      simp
      omega
    have HI : Hid (insG l g = l.take i ++ g :: l.drop i) := pl_ins hpl (by rw [HN.out]; exact hin)
    have HL : Hid (l.length < 64) := h64
    clear hh hm h64 hpl
    have hcut := fun W => run_cut_to2 (P := Try.prog) 44 46 Try.underlying44 Try.sizeOf46 A n c i (by omega) W
    obtain ⟨A2, hcut2, hrd2⟩ := cut_from2 (P := Try.prog) 44 46 Try.underlying44 Try.sizeOf46 A n c i hin hc
    have HR2 := Lib.hid hrd2
    clear hrd2
    have d0 : ∀ W, Below w3.heap.size w3 W → W.cell? ⟨bg, 0, none⟩ = some (.int .u64 (g0 : Int)) := fun W hW => (hR3.later hW).cell rfl
    have d1 : ∀ W, Below w3.heap.size w3 W → W.cell? ⟨bg, 1, none⟩ = some (.int .u64 (g1 : Int)) := fun W hW => (hR3.later hW).cell rfl
    go_wp2_with fail
    have hBase := (Below.refl w3.heap.size w3).drew
    refine wp_region_plan (.step 0 false (.step 1 false (.step 2 false (.step 3 false (.step 5 false (.step 6 false (.step 7 false (.step 4 true (.step 8 true (.step 9 true (.step 10 false (.step 11 false (.nil))))))))))))) (by kernel_rfl) (by kernel_rfl) (by rfl) (by kernel_rfl) ?_
    iterate 7 (refine plan_read rfl (by rfl) (v := ?_) ?_ ?_; rotate_left 1; (intro W hW; have hW0 := below_step hBase hW; (try dsimp only at hW); go_simp <;> with_reducible rfl); simp only [List.getElem_toArray, List.getElem_cons_zero, List.getElem_cons_succ, Act.put, List.setIfInBounds_toArray, List.set_cons_zero, List.set_cons_succ])
    have HD : Hid (Below w3.heap.size w3 w3.drew) := hBase
    generalize w3.drew = wd at hBase HD ⊢
    have hRg : Row (wd.alloc (.cells #[.int .u64 (g0 : Int), .int .u64 (g1 : Int)] 46)) wd.heap.size 46 (cellsG [g]) := by
      have e : cellsG [g] = [.int .u64 (g0 : Int), .int .u64 (g1 : Int)] := by rw [HE.out]; rfl
      rw [e]
      exact Row.new wd _ _ _ rfl
    (refine plan_make rfl (by rfl) (fun K hK => ?_); go_simp; (have hbx := below_new (Below.refl _ wd) (.cells #[.int .u64 (g0 : Int), .int .u64 (g1 : Int)] 46)); refine hK.out _ _ hbx ?_; clear hK K; replace hBase := below_step hBase hbx)
    have HBase : Hid (Below w3.heap.size w3 (wd.alloc (.cells #[.int .u64 (g0 : Int), .int .u64 (g1 : Int)] 46))) := hBase
    have hsz : (wd.alloc (.cells #[.int .u64 (g0 : Int), .int .u64 (g1 : Int)] 46)).heap.size = wd.heap.size + 1 := by simp
    generalize wd.alloc (.cells #[.int .u64 (g0 : Int), .int .u64 (g1 : Int)] 46) = w4 at hRg hBase HBase hsz ⊢
    have HSZ := Lib.hid hsz
    clear hsz
    (refine plan_make rfl (by rfl) (fun K hK => ?_); go_simp; (have hbx := below_new (Below.refl _ w4) (.cells #[.slice A i c, .slice (some ⟨wd.heap.size, 0, none⟩) 1 1, .slice A2 (n - i) (c - i)] 44)); refine hK.out _ _ hbx ?_; clear hK K; replace hBase := below_step hBase hbx)
    have hps : (#[.slice A i c, .slice (some ⟨wd.heap.size, 0, none⟩) 1 1, .slice A2 (n - i) (c - i)] : Array Value) = (([⟨A, c, l.take i⟩, ⟨some ⟨wd.heap.size, 0, none⟩, 1, [g]⟩, ⟨A2, c - i, l.drop i⟩] : List PartG).map vPartG).toArray := by
      have h1 : (l.take i).length = i := by rw [List.length_take, HN.out]; omega
      have h2 : (l.drop i).length = n - i := by rw [List.length_drop, HN.out]
      simp [vPartG, h1, h2]
    have hrp := Rd.new w4 ([⟨A, c, l.take i⟩, ⟨some ⟨wd.heap.size, 0, none⟩, 1, [g]⟩, ⟨A2, c - i, l.drop i⟩] : List PartG) _ 44 hps
    have hflat : flatP ([⟨A, c, l.take i⟩, ⟨some ⟨wd.heap.size, 0, none⟩, 1, [g]⟩, ⟨A2, c - i, l.drop i⟩] : List PartG) = insG l g := by
      rw [HI.out]
      simp [flatP]
    have hcat := catG_any ([⟨A, c, l.take i⟩, ⟨some ⟨wd.heap.size, 0, none⟩, 1, [g]⟩, ⟨A2, c - i, l.drop i⟩] : List PartG) _ 3 _ hrp (by simp) (fun p hp => by
      have hl3 : RdG w3 A l := hr.keep HB3.out
      have hb5 := below_step HBase.out (below_new (Below.refl _ w4) (.cells #[.slice A i c, .slice (some ⟨wd.heap.size, 0, none⟩) 1 1, .slice A2 (n - i) (c - i)] 44))
      simp only [List.mem_cons, List.not_mem_nil, or_false] at hp
      rcases hp with rfl | rfl | rfl
      · exact (hl3.keep hb5).take i
      · intro _
        refine ⟨wd.heap.size, 0, rfl, fun j hj => ?_⟩
        have hj0 : j = 0 := by simpa using hj
        subst hj0
        have hRg2 := hRg.later (below_new (Below.refl _ w4) (.cells #[.slice A i c, .slice (some ⟨wd.heap.size, 0, none⟩) 1 1, .slice A2 (n - i) (c - i)] 44))
        exact ⟨hRg2.cell rfl, hRg2.cell rfl⟩
      · exact HR2.out _ l HN.out (hl3.keep hb5)) (by rw [hflat, ins_length]; have := HL.out; omega)
    rw [hflat] at hcat
    simp only [List.length_cons, List.length_nil, Nat.reduceAdd] at hcat
    clear hrp hps hflat
    (refine plan_make rfl (by rfl) (fun K hK => ?_); go_simp; (refine hcat.mono ?_; rintro e₁ w6 ⟨v, rfl, hown, hbx⟩); refine hK.out _ _ hbx ?_; clear hK K; replace hBase := below_step hBase hbx)
    have HOW : Hid (w6.ownsRow w.heap.size 46 2 v (insG l g).length (cellsG (insG l g))) := ownsRowG_base hown (Nat.le_trans HB3.out.size (below_step HBase.out (below_new (Below.refl _ w4) _)).size)
    have HB6 : Hid (Below w.heap.size w w6) := HB3.out.trans (hBase.mono HB3.out.size)
    clear hown hbx hcat
    iterate 2 (refine plan_read rfl (by rfl) (v := ?_) ?_ ?_; rotate_left 1; (intro W hW; have hW0 := below_step hBase hW; (try dsimp only at hW); go_simp <;> with_reducible rfl); simp only [List.getElem_toArray, List.getElem_cons_zero, List.getElem_cons_succ, Act.put, List.setIfInBounds_toArray, List.set_cons_zero, List.set_cons_succ])
    refine plan_done ?_
    go_wp2_with fail
    go_ret2
    exact ⟨_, rfl, HOW.out, HB6.out⟩
end Go.Proofs.Ytmljhkdojopljaa
