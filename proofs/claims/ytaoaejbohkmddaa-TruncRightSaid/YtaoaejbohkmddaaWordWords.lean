/-
  What the calls word.Words and word.Bytes answer, for any bytes and words of up to 2^45 each.
-/
import Derived.Test.YtaoaejbohkmddaaWordPut
import Derived.OwnWalk
namespace Go.Proofs.Ytaoaejbohkmddaa
open Go.RowKit

theorem info_u32 : (Try.prog.info? 23).map (fun i => (i.zero, i.size, i.bytes)) = some (some (.int .u32 0), 1, 4) := by kernel_rfl
theorem info_u8 : (Try.prog.info? 5).map (fun i => (i.zero, i.size, i.bytes)) = some (some (.int .u8 0), 1, 1) := by kernel_rfl

def WordsRel (L : List UInt8) (w : World) (s v : Value) (wr : World) : Prop :=
  ∃ (M : List UInt8) (D : List UInt32) (A : Option Addr) (cap : Nat), s = .slice A M.length cap ∧ M.length ≤ cap ∧ Rd vB w A M ∧
    wr.ownsRow w.heap.size 23 1 v D.length (D.map vW) ∧ Below w.heap.size w wr ∧ wordsL L = D ++ wordsL M ∧ 4 * D.length + M.length ≤ L.length

theorem words_round {L M : List UInt8} {D : List UInt32} {w wr w1 : World} {A : Option Addr} {cap V : Nat} {u v : Value} {o : Obj} (hM : M.length + 4 ≤ cap) (hL : 4 * D.length + M.length + 4 ≤ L.length) (hr : Rd vB w A M)
    (ho : wr.ownsRow w.heap.size 23 1 u D.length (D.map vW)) (hb : Below w.heap.size w wr) (HV : Hid (Value.int .u32 (V : Int) = vW (UInt32.ofNat V))) (HW : Hid (wordsL L = (D ++ [UInt32.ofNat V]) ++ wordsL M))
    (ho' : w1.ownsRow w.heap.size 23 1 v (D.length + 1) (D.map vW ++ [.int .u32 (V : Int)])) (hg : (wr.alloc o).grownBy w1 u.ownBlock) : WordsRel L w (.slice A M.length (cap - 4)) v w1 :=
  ⟨M, D ++ [UInt32.ofNat V], A, cap - 4, rfl, by omega, hr, by rw [HV.out] at ho'; simpa using ho',
    (hb.alloc hb.size o).grown hg (by have := hb.size; simp; omega) (fun k hk => (ho.lt k hk).1), HW.out, by simp; omega⟩

theorem words_any (L : List UInt8) (A : Option Addr) (cap : Nat) (w : World) (hr : Rd vB w A L) (hc : L.length ≤ cap) (hl : L.length ≤ 140737488351232) :
    Calls Try.prog 14 #[.slice A L.length cap] w (RetS vW w (wordsL L)) := by
  obtain ⟨i0, hi, hz0, hz1, hz2⟩ := info_parts info_u32
  go_enter Try.func14, Try.ntmps14
  go_wp2_with (at_make; refine wpList_make_own _ rfl _ _ 41 rfl w.heap.size 23 i0 (.int .u32 0) 1 Try.underlying41 hi hz0 hz1 .i64 .i64 _ (L.length / 4) rfl rfl (by omega) (by rw [hz2]; omega) (by unfold maxLen; omega) (Nat.le_refl _) ?_; intro w0 hown0 hgrow0)
  go_loopw [0, 3] (fun s v wr => WordsRel L w s v wr) (fun s _ _ => sliceLen s)
  case atStart => exact ⟨L, [], A, cap, rfl, hc, hr, hown0, (Below.refl _ _).grown hgrow0 (Nat.le_refl _) (by simp), rfl, by simp⟩
  case round =>
    obtain ⟨M, D, A1, cap1, rfl, hcap1, hrd1, hown1, hbel1, hw1, hlen1⟩ := hrel
    have HW := Lib.hid hw1
    clear hw1 hr hc
    by_cases h4 : 4 ≤ M.length
    · match M, h4 with
      | a :: b :: c :: d :: M, h4 =>
        obtain ⟨blk, o, rfl, hb, hcell⟩ := hrd1.at (k := 0) (by simp)
        have hrj : Rd vB wr (some ⟨blk, o, none⟩) [a, b, c, d] := Rd.keep (by simpa using hrd1.take 4) hbel1
        have hM : M.length + 4 ≤ cap1 := by simpa using hcap1
        have hL4 : 4 * D.length + M.length + 4 ≤ L.length := by simpa [Nat.add_assoc] using hlen1
        have hv := valN_lt8 [a, b, c, d] (by simp)
        have hv4 := valN_lt [a, b, c, d]
        simp only [List.length_cons, List.length_nil, Nat.zero_add, Nat.reduceAdd, Nat.reducePow] at hv4
        have hrd2 : Rd vB w (if cap1 = 4 then some ⟨blk, o, none⟩ else some ⟨blk, o + 4, none⟩) M := by
          have := hrd1.drop 4 cap1 hcap1
          simpa [Addr.add] using this
        have HV : Hid ((Value.int .u32 ((valN [a, b, c, d] : Nat) : Int)) = vW (UInt32.ofNat (valN [a, b, c, d]))) := by
          unfold Hid vW
          rw [UInt32.toNat_ofNat', Nat.mod_eq_of_lt (by omega)]
        have HW' : Hid (wordsL L = (D ++ [UInt32.ofNat (valN [a, b, c, d])]) ++ wordsL M) := by
          unfold Hid
          rw [HW.out, List.append_assoc]
          rfl
        generalize hgv : valN [a, b, c, d] = V at hv hv4 HV HW'
        have HG : Hid (valN [a, b, c, d] % 18446744073709551616 = V) := by unfold Hid; rw [hgv, Nat.mod_eq_of_lt hv]
        clear hgv hcell hrd1 HW hcap1 hlen1
        go_wp2_with (first
          | (go_at_call 17; refine (join_any [a, b, c, d] _ _ _ hrj (by simp)).mono ?_; rintro e w' ⟨rfl, rfl⟩; rw [HG.out])
          | (at_builtin; refine wpList_append_own _ rfl _ _ 41 rfl w.heap.size 23 i0 (.int .u32 0) 1 4 Try.underlying41 hi hz0 hz1 hz2 rfl (by decide) _ _ _ rfl (hown1.alloc _) ⟨wr.heap.size, 0, none⟩ 1 1 [.int .u32 (V : Int)] rfl rfl (cell_one_new _ _ _) (by intro u hu; simp at hu; subst hu; rfl) (by unfold maxLen; omega) (by omega) (by have := hbel1.size; simp; omega) ?_; intro v' w1 hown' hgrow' _))
        go_roundw
        case rel => exact words_round hM hL4 hrd2 hown1 hbel1 HV HW' hown' hgrow'
        case measure => simp [sliceLen]; omega
      | [], h4 => simp at h4
      | [_], h4 => simp at h4
      | [_, _], h4 => simp at h4
      | [_, _, _], h4 => simp at h4
    · have HE : Hid (wordsL L = D) := by unfold Hid; rw [HW.out, wordsL_short M (by omega), List.append_nil]
      go_wp2_with fail
      go_ret
      rw [HE.out]
      exact RetS.own hown1 hbel1

def BytesRel (L : List UInt32) (w : World) (v i : Value) (wr : World) : Prop :=
  ∃ k : Nat, k ≤ L.length ∧ i = .int .i64 k ∧ wr.ownsRow w.heap.size 5 1 v (bytesL (L.take k)).length ((bytesL (L.take k)).map vB) ∧ Below w.heap.size w wr

theorem bytesL_length (l : List UInt32) : (bytesL l).length = 4 * l.length := by
  unfold bytesL
  induction l with
  | nil => rfl
  | cons a l ih => rw [List.flatMap_cons, List.length_append, ih, List.length_cons]; show 4 + _ = _; omega
theorem bytesL_take (l : List UInt32) (k : Nat) (h : k < l.length) : bytesL (l.take (k + 1)) = bytesL (l.take k) ++ bytesW l[k] := by
  unfold bytesL
  rw [List.take_succ_eq_append_getElem h, List.flatMap_append]
  simp

theorem bytesW_cells (x : UInt32) : [Value.int .u8 ((x.toNat : Int) / 16777216), Value.int .u8 ((x.toNat : Int) / 65536 % 256), Value.int .u8 ((x.toNat : Int) / 256 % 256), Value.int .u8 ((x.toNat : Int) % 256)] = (bytesW x).map vB := by
  have hx := u32_lt x
  unfold bytesW
  simp only [List.map_cons, List.map_nil, vB_ofNat]
  have e0 : ((x.toNat : Int) / 16777216) = ((x.toNat / 16777216 % 256 : Nat) : Int) := by omega
  rw [e0]
  simp
theorem bytes_round {L : List UInt32} {w wr w1 : World} {k : Nat} {x : UInt32} {u v : Value} {o : Obj} (hk : k < L.length) (ho : wr.ownsRow w.heap.size 5 1 u (bytesL (L.take k)).length ((bytesL (L.take k)).map vB))
    (hb : Below w.heap.size w wr) (HT : Hid (bytesL (L.take (k + 1)) = bytesL (L.take k) ++ bytesW x)) (hg : (wr.alloc o).grownBy w1 u.ownBlock)
    (ho' : w1.ownsRow w.heap.size 5 1 v ((bytesL (L.take k)).length + 4) ((bytesL (L.take k)).map vB ++ [Value.int .u8 ((x.toNat : Int) / 16777216), Value.int .u8 ((x.toNat : Int) / 65536 % 256), Value.int .u8 ((x.toNat : Int) / 256 % 256), Value.int .u8 ((x.toNat : Int) % 256)])) :
    BytesRel L w v (.int .i64 ((k : Int) + 1)) w1 :=
  ⟨k + 1, by omega, by go_num, by rw [HT.out]; rw [bytesW_cells, ← List.map_append] at ho'; simpa [bytesW] using ho',
    (hb.alloc hb.size o).grown hg (by have := hb.size; simp; omega) (fun k hk => (ho.lt k hk).1)⟩


end Go.Proofs.Ytaoaejbohkmddaa
