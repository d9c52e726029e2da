/-
  What the reference's call Words answers, for any bytes (up to 2^47): the same as the program's.
-/
import Derived.Test.YtdokbhcoekffpaaDoorWordRef
import Derived.Test.YtdokbhcoekffpaaDoorGrow
import Derived.Maps.AppendAt
namespace Go.Proofs.YtdokbhcoekffpaaDoor
open Go.RowKit
set_option linter.unusedSimpArgs false

theorem wordsL_take (L : List UInt8) (k : Nat) (h : 4 * k + 3 < L.length) :
    wordsL (L.take (4 * k + 4)) = wordsL (L.take (4 * k)) ++ [UInt32.ofNat (valN [L[4 * k], L[4 * k + 1], L[4 * k + 2], L[4 * k + 3]])] := by
  induction k generalizing L with
  | zero =>
    match L, h with
    | a :: b :: c :: d :: r, h => simp [wordsL]
    | [], h => simp at h
    | [_], h => simp at h
    | [_, _], h => simp at h
    | [_, _, _], h => simp at h
  | succ k ih =>
    match L, h with
    | a :: b :: c :: d :: r, h =>
      have h' : 4 * k + 3 < r.length := by simp at h; omega
      have := ih r h'
      have e1 : (a :: b :: c :: d :: r).take (4 * (k + 1) + 4) = a :: b :: c :: d :: r.take (4 * k + 4) := by
        rw [show 4 * (k + 1) + 4 = (4 * k + 4) + 1 + 1 + 1 + 1 by omega]; simp
      have e2 : (a :: b :: c :: d :: r).take (4 * (k + 1)) = a :: b :: c :: d :: r.take (4 * k) := by
        rw [show 4 * (k + 1) = (4 * k) + 1 + 1 + 1 + 1 by omega]; simp
      rw [e1, e2, wordsL, wordsL, this]
      simp [show 4 * (k + 1) = 4 * k + 4 by omega]
    | [], h => simp at h
    | [_], h => simp at h
    | [_, _], h => simp at h; omega
    | [_, _, _], h => simp at h; omega

theorem wordsL_end (L : List UInt8) (k : Nat) (h1 : 4 * k ≤ L.length) (h2 : L.length < 4 * k + 4) : wordsL L = wordsL (L.take (4 * k)) := by
  induction k generalizing L with
  | zero => rw [wordsL_short L (by omega)]; rfl
  | succ k ih =>
    match L, h1, h2 with
    | a :: b :: c :: d :: r, h1, h2 =>
      have e2 : (a :: b :: c :: d :: r).take (4 * (k + 1)) = a :: b :: c :: d :: r.take (4 * k) := by
        rw [show 4 * (k + 1) = (4 * k) + 1 + 1 + 1 + 1 by omega]; simp
      rw [e2, wordsL, wordsL, ← ih r (by simp at h1; omega) (by simp at h2; omega)]
    | [], h1, _ => simp at h1
    | [_], h1, _ => simp at h1; omega
    | [_, _], h1, _ => simp at h1; omega
    | [_, _, _], h1, _ => simp at h1; omega

def RefWordsRel (L : List UInt8) (w : World) (v i : Value) (wr : World) : Prop :=
  ∃ k : Nat, 4 * k ≤ L.length ∧ i = .int .i64 ((4 * k : Nat) : Int) ∧ wr.ownsRow w.heap.size 22 1 v k ((wordsL (L.take (4 * k))).map vW) ∧ Below w.heap.size w wr

theorem words_value (a b c d : Nat) (ha : a < 256) (hb : b < 256) (hc : c < 256) (hd : d < 256) :
    IntKind.u32.wrap (IntKind.u32.wrap (IntKind.u32.wrap (IntKind.u32.wrap (16777216 * IntKind.u32.wrap (a : Int)) + IntKind.u32.wrap (65536 * IntKind.u32.wrap (b : Int))) + IntKind.u32.wrap (256 * IntKind.u32.wrap (c : Int))) + IntKind.u32.wrap (d : Int)) =
      ((((a * 256 + b) * 256 + c) * 256 + d : Nat) : Int) := by
  simp only [IntKind.wrap_u32']
  omega
theorem refwords_round {L : List UInt8} {w wr wx w1 : World} {k V : Nat} {u v : Value} (hL : 4 * k + 4 ≤ L.length) (ho : wr.ownsRow w.heap.size 22 1 u k ((wordsL (L.take (4 * k))).map vW)) (hb : Below w.heap.size w wx) (hV : V < 4294967296)
    (HT : Hid (wordsL (L.take (4 * k + 4)) = wordsL (L.take (4 * k)) ++ [UInt32.ofNat V])) (ho' : w1.ownsRow w.heap.size 22 1 v (k + 1) ((wordsL (L.take (4 * k))).map vW ++ [.int .u32 (V : Int)])) (hg : wx.grownBy w1 u.ownBlock) :
    RefWordsRel L w v (.int .i64 (((4 * k : Nat) : Int) + 4)) w1 := by
  have e : Value.int .u32 (V : Int) = vW (UInt32.ofNat V) := by unfold vW; rw [UInt32.toNat_ofNat', Nat.mod_eq_of_lt hV]
  refine ⟨k + 1, by omega, ?_, ?_, hb.grown hg hb.size (fun g hk => (ho.lt g hk).1)⟩
  · congr 1
  · rw [show 4 * (k + 1) = 4 * k + 4 by omega, HT.out]
    rw [e] at ho'
    simpa using ho'


set_option maxHeartbeats 1000000 in
theorem refwords_own (L : List UInt8) (A : Option Addr) (cap : Nat) (w : World) (hr : Rd vB w A L) (hl : L.length ≤ 140737488351232) :
    Calls Tryd.prog 31 #[.slice A L.length cap] w (RetO 22 vW w (wordsL L)) := by
  obtain ⟨i0, hi, hz0, hz1, hz2⟩ := info_parts info_u32
  go_enter Tryd.func31, Tryd.ntmps31
  go_wp2_with fail
  go_loopw [3, 4] (fun v i wr => RefWordsRel L w v i wr) (fun _ i _ => L.length - (intOf i).toNat)
  case atStart => exact ⟨0, Nat.zero_le _, rfl, World.ownsRow_nil _ _ _ _, Below.refl _ _⟩
  case round =>
    obtain ⟨k, hk, rfl, hown1, hbel1⟩ := hrel
    by_cases hlt : 4 * k + 3 < L.length
    · obtain ⟨blk, o, rfl, hb, hcell⟩ := hr.at hlt
      have HT := Lib.hid (wordsL_take L k hlt)
      have hc0 : ∀ W, Below w.heap.size wr W → W.cell? ⟨blk, o + 4 * k, none⟩ = some (.int .u8 (L[4 * k].toNat : Int)) := fun W hW => by rw [(hbel1.trans hW).cell (p := ⟨blk, o + 4 * k, none⟩) hb]; exact hcell (4 * k) (by omega)
      have hc1 : ∀ W, Below w.heap.size wr W → W.cell? ⟨blk, o + (4 * k + 1), none⟩ = some (.int .u8 (L[4 * k + 1].toNat : Int)) := fun W hW => by rw [(hbel1.trans hW).cell (p := ⟨blk, o + (4 * k + 1), none⟩) hb]; exact hcell (4 * k + 1) (by omega)
      have hc2 : ∀ W, Below w.heap.size wr W → W.cell? ⟨blk, o + (4 * k + 2), none⟩ = some (.int .u8 (L[4 * k + 2].toNat : Int)) := fun W hW => by rw [(hbel1.trans hW).cell (p := ⟨blk, o + (4 * k + 2), none⟩) hb]; exact hcell (4 * k + 2) (by omega)
      have hc3 : ∀ W, Below w.heap.size wr W → W.cell? ⟨blk, o + (4 * k + 3), none⟩ = some (.int .u8 (L[4 * k + 3].toNat : Int)) := fun W hW => by rw [(hbel1.trans hW).cell (p := ⟨blk, o + (4 * k + 3), none⟩) hb]; exact hcell (4 * k + 3) (by omega)
      have ha : L[4 * k].toNat < 256 := L[4 * k].toNat_lt
      have hb' : L[4 * k + 1].toNat < 256 := L[4 * k + 1].toNat_lt
      have hc' : L[4 * k + 2].toNat < 256 := L[4 * k + 2].toNat_lt
      have hd : L[4 * k + 3].toNat < 256 := L[4 * k + 3].toNat_lt
      generalize L[4 * k] = a at HT hc0 ha
      generalize L[4 * k + 1] = b at HT hc1 hb'
      generalize L[4 * k + 2] = c at HT hc2 hc'
      generalize L[4 * k + 3] = d at HT hc3 hd
      obtain ⟨j, hj⟩ : ∃ j, j = 4 * k := ⟨_, rfl⟩
      have HJ := Lib.hid hj
      rw [← hj] at hc0 hc1 hc2 hc3 hlt ⊢
      clear hj hcell hr
      have i0' : (0 : Int) ≤ (j : Int) := by omega
      have i3 : (j : Int) + 3 < (L.length : Int) := by omega
      go_wp2_with fail
      have hBase : Below w.heap.size wr wr.drew := (Below.refl _ _).drew
      have j0 : (j : Int) < (L.length : Int) := by omega
      have j1 : IntKind.i64.wrap ((j : Int) + 1) = (j : Int) + 1 := by rw [IntKind.wrap_i64]; omega
      have j2 : IntKind.i64.wrap ((j : Int) + 2) = (j : Int) + 2 := by rw [IntKind.wrap_i64]; omega
      have j3 : IntKind.i64.wrap ((j : Int) + 3) = (j : Int) + 3 := by rw [IntKind.wrap_i64]; omega
      have k1 : (0 : Int) ≤ (j : Int) + 1 := by omega
      have k2 : (0 : Int) ≤ (j : Int) + 2 := by omega
      have k3 : (0 : Int) ≤ (j : Int) + 3 := by omega
      have l1 : (j : Int) + 1 < (L.length : Int) := by omega
      have l2 : (j : Int) + 2 < (L.length : Int) := by omega
      have t1 : ((j : Int) + 1).toNat = j + 1 := by omega
      have t2 : ((j : Int) + 2).toNat = j + 2 := by omega
      have t3 : ((j : Int) + 3).toNat = j + 3 := by omega
      refine wp_region_plan_at w.heap.size (.step 0 false (.step 1 false (.step 2 false (.step 3 false (.step 4 false (.step 5 false (.step 6 false (.step 7 false (.step 8 false (.step 9 false (.step 10 false (.step 11 false (.step 12 false (.step 13 false (.step 14 false (.step 15 false (.step 16 false (.step 17 false (.step 18 false (.step 19 false (.step 20 false (.step 21 false (.step 22 false (.step 23 false (.step 24 false (.step 25 false (.step 26 false (.step 27 false (.step 28 false (.step 29 false (.step 30 true (.step 31 true (.step 32 false (.nil)))))))))))))))))))))))))))))))))) (by kernel_rfl) (by kernel_rfl) (by rfl) (by kernel_rfl) ?_
      iterate 30 (refine plan_read rfl (by rfl) (v := ?_) ?_ ?_; rotate_left 1; (intro W hW; have hW0 := Below.trans hBase hW; (try dsimp only at hW); go_simp <;> with_reducible rfl); simp only [List.getElem_toArray, List.getElem_cons_zero, List.getElem_cons_succ, Act.put, List.setIfInBounds_toArray, List.set_cons_zero, List.set_cons_succ])
      have HV : Hid _ := words_value a.toNat b.toNat c.toNat d.toNat ha hb' hc' hd
      have hv : valN [a, b, c, d] = ((a.toNat * 256 + b.toNat) * 256 + c.toNat) * 256 + d.toNat := by simp [valN]
      have hV : ((a.toNat * 256 + b.toNat) * 256 + c.toNat) * 256 + d.toNat < 4294967296 := by omega
      rw [hv] at HT
      rw [HV.out]
      generalize ((a.toNat * 256 + b.toNat) * 256 + c.toNat) * 256 + d.toNat = V at HT hV
      clear hv HV hc0 hc1 hc2 hc3 ha hb' hc' hd j1 j2 j3 k1 k2 k3 l1 l2 t1 t2 t3
      (refine plan_make_at rfl (by rfl) (fun K hK => ?_); go_simp; refine hK.out _ _ (below_from_drew ((Below.refl _ wr).alloc hbel1.size _).drew) ?_; clear hK K)
      refine plan_make_at rfl (by rfl) (fun K hK => ?_)
      refine wp_append_own _ (.tmp 12) (.tmp 42) 34 (by rfl) w.heap.size 22 i0 (.int .u32 0) 1 4 Tryd.underlying34 hi hz0 hz1 hz2 rfl (by decide) _ _ _ (by rfl) (hown1.alloc _).drew ⟨wr.heap.size, 0, none⟩ 1 1 [.int .u32 (V : Int)] (by rfl) rfl (cell_one_new _ _ _) (by intro u hu; simp at hu; subst hu; rfl) (by unfold maxLen; omega) (by omega) (by have := hbel1.size; simp; omega) ?_
      intro v' w1 hown' hgrow' _
      simp only [List.getElem_toArray, List.getElem_cons_zero, List.getElem_cons_succ, Act.put, List.setIfInBounds_toArray, List.set_cons_zero, List.set_cons_succ]
      refine hK.out _ _ ((Below.refl _ _).grown hgrow' (by have := hbel1.size; simp; omega) (fun g hk => (hown1.lt g hk).1)) ?_
      clear hK K
      have hBase : Below w.heap.size w1 w1 := Below.refl _ _
      iterate 1 (refine plan_read rfl (by rfl) (v := ?_) ?_ ?_; rotate_left 1; (intro W hW; have hW0 := Below.trans hBase hW; (try dsimp only at hW); go_simp <;> with_reducible rfl); simp only [List.getElem_toArray, List.getElem_cons_zero, List.getElem_cons_succ, Act.put, List.setIfInBounds_toArray, List.set_cons_zero, List.set_cons_succ])
      refine plan_done ?_
      have HL : Hid (4 * k + 4 ≤ L.length) := by have := HJ.out; unfold Hid; omega
      have HR : Hid (RefWordsRel L w v' (.int .i64 ((j : Int) + 4)) w1) := by
        unfold Hid
        rw [HJ.out]
        exact refwords_round HL.out hown1 ((hbel1.alloc hbel1.size _).drew) hV HT hown' hgrow'
      clear hown' hgrow' hown1 hbel1 HT hBase
      go_wp2_with fail
      go_roundw
      case rel => exact HR.out
      case measure => simp [intOf]; omega
    · have HE : Hid (wordsL L = wordsL (L.take (4 * k))) := by
        exact wordsL_end L k hk (by omega)
      go_wp2_with fail
      go_ret
      rw [HE.out]
      have hn : (wordsL (L.take (4 * k))).length = k := by have := hown1.1; simpa using this
      refine ⟨_, rfl, ?_, hbel1⟩
      rw [hn]
      exact hown1
theorem refwords_any (L : List UInt8) (A : Option Addr) (cap : Nat) (w : World) (hr : Rd vB w A L) (hl : L.length ≤ 140737488351232) :
    Calls Tryd.prog 31 #[.slice A L.length cap] w (RetS vW w (wordsL L)) := (refwords_own L A cap w hr hl).mono fun _ _ h => h.ret

end Go.Proofs.YtdokbhcoekffpaaDoor
