/-
  What the reference's calls Fill, From and Sum of layer 2 answer: the text filled up, the state behind whole blocks, the hash.
-/
import Derived.Test.YtdokbhcoekffpaaDoorShaRefBlock
import Derived.Test.YtdokbhcoekffpaaDoorAppend
namespace Go.Proofs.YtdokbhcoekffpaaDoor
open Go.RowKit
set_option linter.unusedSimpArgs false

def padJ (n : Nat) : Nat := (119 - n % 64) % 64
theorem padJ_end (n : Nat) : (n + 1 + padJ n) % 64 = 56 := by unfold padJ; omega
theorem padJ_not (n j : Nat) (h : j < padJ n) : (n + 1 + j) % 64 ≠ 56 := by unfold padJ at h; omega
theorem padJ_lt (n : Nat) : padJ n < 64 := by unfold padJ; omega

def FillRel (b : List UInt8) (w : World) (v : Value) (wr : World) : Prop :=
  ∃ j : Nat, j ≤ padJ b.length ∧ wr.ownsRow w.heap.size 5 1 v (b.length + 1 + j) ((b ++ 128 :: List.replicate j 0).map vB) ∧ Below w.heap.size w wr

theorem fill_start {b : List UInt8} {w w1 w2 : World} {u v : Value} (ho : w1.ownsRow w.heap.size 5 1 u (0 + b.length) ([] ++ b.map vB)) (hg1 : (w.alloc (.cells #[] 5)).grownBy w1 (some w.heap.size))
    (ho' : w2.ownsRow w.heap.size 5 1 v (0 + b.length + 1) ([] ++ b.map vB ++ [.int .u8 128])) (hg2 : (w1.alloc (.cells #[.int .u8 128] 5)).grownBy w2 u.ownBlock) : FillRel b w v w2 := by
  have hb1 : Below w.heap.size w w1 := (below_new (Below.refl _ w) _).grown hg1 (by simp) (fun k hk => by injection hk with hk; omega)
  refine ⟨0, Nat.zero_le _, ?_, (below_new hb1 _).grown hg2 (by have := hb1.size; simp; omega) (fun k hk => (ho.lt k hk).1)⟩
  simpa [vB] using ho'
theorem fill_round {b : List UInt8} {w wr w1 : World} {j : Nat} {u v : Value} (hj : j < padJ b.length) (ho : wr.ownsRow w.heap.size 5 1 u (b.length + 1 + j) ((b ++ 128 :: List.replicate j 0).map vB)) (hb : Below w.heap.size w wr)
    (ho' : w1.ownsRow w.heap.size 5 1 v (b.length + 1 + j + 1) ((b ++ 128 :: List.replicate j 0).map vB ++ [.int .u8 0])) (hg : (wr.alloc (.cells #[.int .u8 0] 5)).grownBy w1 u.ownBlock) : FillRel b w v w1 := by
  refine ⟨j + 1, by omega, ?_, (below_new hb _).grown hg (by have := hb.size; simp; omega) (fun k hk => (ho.lt k hk).1)⟩
  have e : (b ++ 128 :: List.replicate (j + 1) 0).map vB = (b ++ 128 :: List.replicate j 0).map vB ++ [.int .u8 0] := by
    rw [List.replicate_succ']
    simp [vB]
  rw [e]
  exact ho'

set_option maxHeartbeats 1000000 in
theorem fill_own (b : List UInt8) (many : Nat) (A : Option Addr) (cap : Nat) (w : World) (_hm : many < 18446744073709551616) (hr : Rd vB w A b) (hl : b.length ≤ 70368744177664) :
    Calls Tryd.prog 15 #[.slice A b.length cap, .int .u64 (many : Int)] w (RetO 5 vB w (fillL b many)) := by
  obtain ⟨i0, hi, hz0, hz1, hz2⟩ := info_parts info_u8
  have hown0 : (w.alloc (.cells #[] 5)).ownsRow w.heap.size 5 1 (.slice (some ⟨w.heap.size, 0, none⟩) 0 0) 0 [] := World.ownsRow_made w #[] 0 (Nat.le_refl _) (by unfold maxLen; omega) rfl
  have hr0 : Rd vB (w.alloc (.cells #[] 5)) A b := hr.keep (below_new (Below.refl _ _) _)
  go_enter Tryd.func15, Tryd.ntmps15
  go_wp2_with (first
    | (at_builtin; refine wpList_append_rd _ rfl (.tmp 6) (.tmp 7) 24 rfl w.heap.size 5 i0 (.int .u8 0) 1 Tryd.underlying24 hi hz0 hz1 hz2 rfl _ _ _ rfl hown0 A b cap rfl hr0 vB_one (by unfold maxLen; omega) (by omega) (by simp) ?_; intro v1 w1 hown1 hgrow1)
    | (at_builtin; refine wpList_append_own _ rfl (.tmp 8) (.tmp 9) 24 rfl w.heap.size 5 i0 (.int .u8 0) 1 1 Tryd.underlying24 hi hz0 hz1 hz2 rfl (by decide) _ _ _ rfl (hown1.alloc _) ⟨w1.heap.size, 0, none⟩ 1 1 [.int .u8 128] rfl rfl (cell_one_new _ _ _) (by intro u hu; simp at hu; subst hu; rfl) (by unfold maxLen; omega) (by omega) (by have := hgrow1.size; simp at this ⊢; omega) ?_; intro v2 w2 hown2 hgrow2 _))
  have HS := Lib.hid (fill_start hown1 hgrow1 hown2 hgrow2)
  clear hown1 hgrow1 hown2 hgrow2 hown0 hr0 hr
  go_loopw [5] (fun v wr => FillRel b w v wr) (fun v _ => b.length + 1 + padJ b.length - sliceLen v)
  case atStart => exact HS.out
  case round =>
    clear HS
    obtain ⟨j, hj, hown, hbel⟩ := hrel
    obtain ⟨g, cp, rfl, hbg, hgl⟩ := hown.form (by omega)
    have hpl := padJ_lt b.length
    have HE := Lib.hid (padJ_end b.length)
    have HN := Lib.hid (padJ_not b.length j)
    by_cases hlt : j < padJ b.length
    · have hne : ((((b.length : Int) + 1 + j) % 64) != 56) = true := by
        have := HN.out hlt
        simp
        omega
      go_wp2_with (at_builtin; refine wpList_append_own _ rfl (.tmp 15) (.tmp 16) 24 rfl w.heap.size 5 i0 (.int .u8 0) 1 1 Tryd.underlying24 hi hz0 hz1 hz2 rfl (by decide) _ _ _ rfl (hown.alloc _) ⟨wr.heap.size, 0, none⟩ 1 1 [.int .u8 0] rfl rfl (cell_one_new _ _ _) (by intro u hu; simp at hu; subst hu; rfl) (by unfold maxLen; omega) (by omega) (by have := hbel.size; simp; omega) ?_; intro v2 w2 hown2 hgrow2 _)
      have HR := Lib.hid (fill_round hlt hown hbel hown2 hgrow2)
      obtain ⟨g2, cp2, rfl, _, _⟩ := hown2.form (by omega)
      clear hown2 hgrow2 hown hbel
      go_roundw
      case rel => exact HR.out
      case measure => simp [sliceLen]; omega
    · have hjj : j = padJ b.length := by omega
      subst hjj
      have hne : ((((b.length : Int) + 1 + (padJ b.length : Nat)) % 64) != 56) = false := by
        have := HE.out
        simp
        omega
      obtain ⟨p, hp⟩ : ∃ p, p = 8 * many % 18446744073709551616 := ⟨_, rfl⟩
      have hp1 : IntKind.u64.wrap (8 * (many : Int)) = (p : Int) := by rw [IntKind.wrap_u64, hp]; omega
      have hp2 : 8 * (many : Int) % 18446744073709551616 = (p : Int) := by rw [hp]; omega
      have hpm : p < 18446744073709551616 := by rw [hp]; exact Nat.mod_lt _ (by omega)
      have HF : Hid (fillL b many = (b ++ 128 :: List.replicate (padJ b.length) 0) ++ putL p) := by unfold Hid fillL padJ; rw [hp]
      clear hp HE HN
      go_wp2_with fail
      refine (refput_any p hpm _).mono ?_
      rintro e w3 ⟨A3, cap3, rfl, _, hr3, hb3⟩
      have hown3 := hown.kept (World.grownBy.mk (row := none) hb3.os hb3.tape hb3.output hb3.size (fun k hk _ => hb3.block k hk)) (by simp [Value.ownBlock])
      have hB3 := hbel.trans (hb3.mono hbel.size)
      have h8 : (putL p).length = 8 := rfl
      clear hp1 hp2 hown hbel hb3
      go_wp2_with (at_builtin; refine wpList_append_rd _ rfl (.tmp 18) (.tmp 21) 24 rfl w.heap.size 5 i0 (.int .u8 0) 1 Tryd.underlying24 hi hz0 hz1 hz2 rfl _ _ _ rfl hown3 A3 (putL p) cap3 rfl hr3 vB_one (by unfold maxLen; omega) (by omega) hB3.size ?_; intro v4 w4 hown4 hgrow4)
      go_ret
      rw [HF.out]
      refine ⟨_, rfl, ?_, hB3.grown hgrow4 hB3.size (fun k hk => (hown3.lt k hk).1)⟩
      have e1 : (b ++ 128 :: List.replicate (padJ b.length) 0 ++ putL p).length = b.length + 1 + padJ b.length + (putL p).length := by simp; omega
      rw [e1, List.map_append]
      exact hown4

theorem from_step (s : St) (b : List UInt8) (h : 64 ≤ b.length) : s.from b = (s.block (b.take 64)).from (b.drop 64) := by
  rw [St.from, if_pos h]
theorem from_stop (s : St) (b : List UInt8) (h : ¬ 64 ≤ b.length) : s.from b = s := by
  rw [St.from, if_neg h]

theorem refblock_64 (s : St) (b : List UInt8) (As A : Option Addr) (cs c : Nat) (w : World) (H : Hid (b.length = 64)) (hs : Rd vW w As s.toL) (hb : Rd vB w A b) :
    Calls Tryd.prog 11 #[.slice As 8 cs, .slice A 64 c] w (RetS vW w (s.block b).toL) := by
  have := refblock_any s b As A cs c w H.out hs hb
  rwa [H.out] at this

def FromRel (s : St) (b : List UInt8) (w : World) (v i : Value) (wr : World) : Prop :=
  ∃ (q : Nat) (S : St) (A : Option Addr) (c : Nat), 64 * q ≤ b.length ∧ i = .int .i64 ((64 * q : Nat) : Int) ∧ v = .slice A 8 c ∧ 8 ≤ c ∧ Rd vW wr A S.toL ∧ s.from b = S.from (b.drop (64 * q)) ∧ Below w.heap.size w wr

theorem from_ref (s : St) (b : List UInt8) (As A : Option Addr) (cs c : Nat) (w : World) (hs : Rd vW w As s.toL) (hb : Rd vB w A b) (hc8 : 8 ≤ cs) (hc : b.length ≤ c) (hl : b.length ≤ 140737488355328) :
    Calls Tryd.prog 16 #[.slice As 8 cs, .slice A b.length c] w (RetS vW w (s.from b).toL) := by
  go_enter Tryd.func16, Tryd.ntmps16
  go_wp2_with fail
  go_loopw [0, 5] (fun v i wr => FromRel s b w v i wr) (fun _ i _ => b.length - (intOf i).toNat)
  case atStart => exact ⟨0, s, As, cs, Nat.zero_le _, rfl, rfl, hc8, hs, rfl, Below.refl _ _⟩
  case round =>
    obtain ⟨q, S, A1, c1, hq, rfl, rfl, h81, hrS, hfr, hbel⟩ := hrel
    have HF := Lib.hid hfr
    clear hfr
    by_cases hlt : 64 * q + 63 < b.length
    · obtain ⟨blk, o, rfl, hblk, _⟩ := hb.at hlt
      have hmid := (hb.keep hbel).mid (64 * q) (64 * q + 64) c hc
      have hlm : ((b.drop (64 * q)).take (64 * q + 64 - 64 * q)).length = 64 := by simp; omega
      have HS := Lib.hid (from_step S (b.drop (64 * q)) (by simp; omega))
      rw [if_neg (by omega), show 64 * q + 64 - 64 * q = 64 by omega] at hmid
      rw [show 64 * q + 64 - 64 * q = 64 by omega] at hlm
      obtain ⟨j, hj⟩ : ∃ j, j = 64 * q := ⟨_, rfl⟩
      have HJ := Lib.hid hj
      rw [← hj] at hmid hlm HS HF hlt ⊢
      obtain ⟨M, hM⟩ : ∃ M, M = (b.drop j).take 64 := ⟨_, rfl⟩
      rw [← hM] at hmid hlm HS
      have HL := Lib.hid hlm
      clear hj hM hlm
      have i1 : (0 : Int) ≤ (j : Int) := by omega
      have i2 : (j : Int) + 64 ≤ (c : Int) := by omega
      have i3 : ¬ c = j := by omega
      have e1 : (some (⟨blk, o, none⟩ : Addr)).map (·.add (j * 1)) = some ⟨blk, o + j, none⟩ := by
        simp only [Option.map_some, Nat.mul_one, Addr.add]
        split <;> simp_all
      rw [e1] at hmid
      clear e1
      go_wp2_with fail
      refine (refblock_64 S M _ _ _ _ _ HL hrS hmid).mono ?_
      rintro e w2 ⟨A2, c2, rfl, h82, hr2, hb2⟩
      have HR : Hid (FromRel s b w (.slice A2 8 c2) (.int .i64 ((j : Int) + 64)) w2) := by
        have ej := HJ.out
        refine ⟨q + 1, S.block M, A2, c2, by omega, by congr 1; omega, rfl, h82, hr2, ?_, hbel.trans (hb2.mono hbel.size)⟩
        rw [HF.out, HS.out, List.drop_drop, show 64 * (q + 1) = j + 64 by omega]
      clear hr2 hb2 hmid hrS hbel HF HS
      go_wp2_with fail
      go_roundw
      case rel => exact HR.out
      case measure => simp [intOf]; omega
    · have HE : Hid (s.from b = S) := by
        unfold Hid
        rw [HF.out]
        exact from_stop S _ (by simp; omega)
      go_wp2_with fail
      go_ret
      rw [HE.out]
      exact ⟨A1, c1, rfl, h81, hrS, hbel⟩
theorem fillL_length (b : List UInt8) (many : Nat) : (fillL b many).length ≤ b.length + 72 := by
  have := padJ_lt b.length
  have e : (fillL b many).length = b.length + (1 + padJ b.length) + 8 := by
    unfold fillL
    rw [List.length_append, List.length_append, List.length_cons, List.length_replicate]
    show b.length + (padJ b.length + 1) + 8 = _
    omega
  omega
theorem fill_ref (b : List UInt8) (many : Nat) (A : Option Addr) (cap : Nat) (w : World) (hm : many < 18446744073709551616) (hr : Rd vB w A b) (hl : b.length ≤ 70368744177664) :
    Calls Tryd.prog 15 #[.slice A b.length cap, .int .u64 (many : Int)] w (RetS vB w (fillL b many)) := (fill_own b many A cap w hm hr hl).mono fun _ _ h => h.ret

theorem sum_ref (b : List UInt8) (A : Option Addr) (c : Nat) (w : World) (hb : Rd vB w A b) (hl : b.length ≤ 70368744177664) :
    Calls Tryd.prog 8 #[.slice A b.length c] w (RetS vB w (sumL b)) := by
  have hfl := fillL_length b b.length
  go_enter Tryd.func8, Tryd.ntmps8
  go_wp2_with fail
  refine (first_any _).mono ?_
  rintro e w1 ⟨A1, c1, rfl, h1, hr1, hb1⟩
  go_wp2_with fail
  refine (fill_ref b b.length _ _ _ (by omega) (hb.keep hb1) hl).mono ?_
  rintro e w2 ⟨A2, c2, rfl, h2, hr2, hb2⟩
  go_wp2_with fail
  refine (from_ref startSt (fillL b b.length) _ _ _ _ _ (hr1.keep hb2) hr2 h1 h2 (by omega)).mono ?_
  rintro e w3 ⟨A3, c3, rfl, h3, hr3, hb3⟩
  go_wp2_with fail
  refine (refbytes_any (startSt.from (fillL b b.length)).toL _ _ _ hr3 (by simp [St.toL])).mono ?_
  rintro e w4 ⟨A4, c4, rfl, h4, hr4, hb4⟩
  go_wp2_with fail
  go_ret
  exact ⟨A4, c4, rfl, h4, hr4, below_step (below_step (below_step hb1 hb2) hb3) hb4⟩

end Go.Proofs.YtdokbhcoekffpaaDoor
