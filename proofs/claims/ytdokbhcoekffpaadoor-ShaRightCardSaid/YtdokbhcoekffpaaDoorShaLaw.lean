/-
  What the small calls of the statements of layer 2 answer: words of a state, whether a state is some words, a number of four bytes, the bytes of words.
-/
import Derived.Test.YtdokbhcoekffpaaDoorShaRefSum
import Derived.Deep.QuietTactic
import Derived.BigQuiet
namespace Go.Proofs.YtdokbhcoekffpaaDoor
open Go.RowKit
set_option linter.unusedSimpArgs false

/-- A state as an array. -/
def St.cells (s : St) : Array Value := #[.int .u32 (s.a.toNat : Int), .int .u32 (s.b.toNat : Int), .int .u32 (s.c.toNat : Int), .int .u32 (s.d.toNat : Int), .int .u32 (s.e.toNat : Int), .int .u32 (s.f.toNat : Int), .int .u32 (s.g.toNat : Int), .int .u32 (s.h.toNat : Int)]
theorem St.cells_eq (s : St) : s.cells = (s.toL.map vW).toArray := rfl

def WordsOfRel (s : St) (w w0 : World) (v i : Value) (wr : World) : Prop :=
  ∃ k : Nat, k ≤ 8 ∧ i = .int .i64 (k : Int) ∧ wr.ownsRow (w.heap.size + 1) 22 1 v k ((s.toL.take k).map vW) ∧ Below (w.heap.size + 1) w0 wr

theorem words_round8 {s : St} {w w0 wr w1 : World} {k : Nat} {u v : Value} {o : Obj} {x : UInt32} (hk : k < 8) (hx : Hid (s.toL.take (k + 1) = s.toL.take k ++ [x])) (ho : wr.ownsRow (w.heap.size + 1) 22 1 u k ((s.toL.take k).map vW)) (hb : Below (w.heap.size + 1) w0 wr) (hz : w.heap.size + 1 ≤ wr.heap.size)
    (ho' : w1.ownsRow (w.heap.size + 1) 22 1 v (k + 1) ((s.toL.take k).map vW ++ [.int .u32 (x.toNat : Int)])) (hg : (wr.alloc o).grownBy w1 u.ownBlock) : WordsOfRel s w w0 v (.int .i64 ((k : Int) + 1)) w1 :=
  ⟨k + 1, by omega, by go_num, by rw [hx.out]; simpa [vW] using ho', (hb.alloc hz o).grown hg (by simp; omega) (fun g hk => (ho.lt g hk).1)⟩

theorem words_law (s : St) (w : World) : Calls Tryd.prog 12 #[.agg #[.int .u32 (s.a.toNat : Int), .int .u32 (s.b.toNat : Int), .int .u32 (s.c.toNat : Int), .int .u32 (s.d.toNat : Int), .int .u32 (s.e.toNat : Int), .int .u32 (s.f.toNat : Int), .int .u32 (s.g.toNat : Int), .int .u32 (s.h.toNat : Int)]] w (RetS vW w s.toL) := by
  obtain ⟨i0, hi, hz0, hz1, hz2⟩ := info_parts info_u32
  go_enter Tryd.func12, Tryd.ntmps12
  go_wp2_with fail
  have hrd := Rd.new (f := vW) w s.toL #[.int .u32 (s.a.toNat : Int), .int .u32 (s.b.toNat : Int), .int .u32 (s.c.toNat : Int), .int .u32 (s.d.toNat : Int), .int .u32 (s.e.toNat : Int), .int .u32 (s.f.toNat : Int), .int .u32 (s.g.toNat : Int), .int .u32 (s.h.toNat : Int)] 23 rfl
  have hb0 : Below w.heap.size w (w.alloc (.cells #[.int .u32 (s.a.toNat : Int), .int .u32 (s.b.toNat : Int), .int .u32 (s.c.toNat : Int), .int .u32 (s.d.toNat : Int), .int .u32 (s.e.toNat : Int), .int .u32 (s.f.toNat : Int), .int .u32 (s.g.toNat : Int), .int .u32 (s.h.toNat : Int)] 23)) := below_new (Below.refl _ _) _
  have hz : w.heap.size + 1 ≤ (w.alloc (.cells #[.int .u32 (s.a.toNat : Int), .int .u32 (s.b.toNat : Int), .int .u32 (s.c.toNat : Int), .int .u32 (s.d.toNat : Int), .int .u32 (s.e.toNat : Int), .int .u32 (s.f.toNat : Int), .int .u32 (s.g.toNat : Int), .int .u32 (s.h.toNat : Int)] 23)).heap.size := by simp
  generalize (w.alloc (.cells #[.int .u32 (s.a.toNat : Int), .int .u32 (s.b.toNat : Int), .int .u32 (s.c.toNat : Int), .int .u32 (s.d.toNat : Int), .int .u32 (s.e.toNat : Int), .int .u32 (s.f.toNat : Int), .int .u32 (s.g.toNat : Int), .int .u32 (s.h.toNat : Int)] 23)) = w0 at hrd hb0 hz
  go_loopw [3, 4] (fun v i wr => WordsOfRel s w w0 v i wr) (fun _ i _ => 8 - (intOf i).toNat)
  case atStart => exact ⟨0, by omega, rfl, World.ownsRow_nil _ _ _ _, Below.refl _ _⟩
  case round =>
    obtain ⟨k, hk, rfl, hown, hbel⟩ := hrel
    have hz' : w.heap.size + 1 ≤ wr.heap.size := Nat.le_trans hz hbel.size
    by_cases hlt : k < 8
    · have hlen : s.toL.length = 8 := rfl
      obtain ⟨b', o', e', hc⟩ := hrd (by simp [St.toL])
      injection e' with e'
      injection e' with e1 e2 _
      subst e1 e2
      have hc0 := hc k (by omega)
      rw [Nat.zero_add] at hc0
      have hcell : wr.cell? ⟨w.heap.size, k, none⟩ = some (.int .u32 (s.toL[k].toNat : Int)) := (hbel.cell (p := ⟨w.heap.size, k, none⟩) (by show w.heap.size < _; omega)).trans hc0
      have HX : Hid (s.toL.take (k + 1) = s.toL.take k ++ [s.toL[k]]) := List.take_succ_eq_append_getElem (by omega)
      generalize s.toL[k] = x at hcell HX
      have i1 : (0 : Int) ≤ (k : Int) := by omega
      have i2 : (k : Int) < 8 := by omega
      clear hc hc0 hrd hlen
      go_wp2_with (at_builtin; refine wpList_append_own _ rfl _ _ 34 rfl (w.heap.size + 1) 22 i0 (.int .u32 0) 1 4 Tryd.underlying34 hi hz0 hz1 hz2 rfl (by decide) _ _ _ rfl (hown.alloc _) ⟨wr.heap.size, 0, none⟩ 1 1 [.int .u32 (x.toNat : Int)] rfl rfl (cell_one_new _ _ _) (by intro u hu; simp at hu; subst hu; rfl) (by unfold maxLen; omega) (by omega) (by simp; omega) ?_; intro v' w1 hown' hgrow' _)
      go_roundw
      case rel => exact words_round8 hlt HX hown hbel hz' hown' hgrow'
      case measure => simp [intOf]; omega
    · have hk8 : k = 8 := by omega
      subst hk8
      go_wp2_with fail
      go_ret
      have e8 : s.toL.take 8 = s.toL := rfl
      rw [e8] at hown
      exact RetS.own (l := s.toL) hown (hb0.trans (hbel.mono (by omega)))

theorem same_law (s : St) (A : Option Addr) (c : Nat) (w : World) (hl : Rd vW w A s.toL) :
    Calls Tryd.prog 10 #[.agg #[.int .u32 (s.a.toNat : Int), .int .u32 (s.b.toNat : Int), .int .u32 (s.c.toNat : Int), .int .u32 (s.d.toNat : Int), .int .u32 (s.e.toNat : Int), .int .u32 (s.f.toNat : Int), .int .u32 (s.g.toNat : Int), .int .u32 (s.h.toNat : Int)], .slice A 8 c] w fun e w' => e = .returned (.bool true) ∧ Below w.heap.size w w' := by
  obtain ⟨bl, ol, rfl, hcl⟩ := hl (by simp [St.toL])
  have hbl : bl < w.heap.size := World.block_lt_of_cell? w _ (hcl 0 (by simp [St.toL]))
  go_enter Tryd.func10, Tryd.ntmps10
  go_wp2_with fail
  have hrd := Rd.new (f := vW) w s.toL #[.int .u32 (s.a.toNat : Int), .int .u32 (s.b.toNat : Int), .int .u32 (s.c.toNat : Int), .int .u32 (s.d.toNat : Int), .int .u32 (s.e.toNat : Int), .int .u32 (s.f.toNat : Int), .int .u32 (s.g.toNat : Int), .int .u32 (s.h.toNat : Int)] 23 rfl
  have hb0 : Below w.heap.size w (w.alloc (.cells #[.int .u32 (s.a.toNat : Int), .int .u32 (s.b.toNat : Int), .int .u32 (s.c.toNat : Int), .int .u32 (s.d.toNat : Int), .int .u32 (s.e.toNat : Int), .int .u32 (s.f.toNat : Int), .int .u32 (s.g.toNat : Int), .int .u32 (s.h.toNat : Int)] 23)) := below_new (Below.refl _ _) _
  generalize (w.alloc (.cells #[.int .u32 (s.a.toNat : Int), .int .u32 (s.b.toNat : Int), .int .u32 (s.c.toNat : Int), .int .u32 (s.d.toNat : Int), .int .u32 (s.e.toNat : Int), .int .u32 (s.f.toNat : Int), .int .u32 (s.g.toNat : Int), .int .u32 (s.h.toNat : Int)] 23)) = w0 at hrd hb0
  go_loopw [5] (fun i wr => ∃ k n : Nat, k ≤ 8 ∧ i = .int .i64 (k : Int) ∧ wr = w0.drewN n) (fun i _ => 8 - (intOf i).toNat)
  case atStart => exact ⟨0, 0, by omega, rfl, rfl⟩
  case round =>
    obtain ⟨k, n, hk, rfl, rfl⟩ := hrel
    by_cases hlt : k < 8
    · have hlen : s.toL.length = 8 := rfl
      obtain ⟨b', o', e', hc⟩ := hrd (by simp [St.toL])
      injection e' with e'
      injection e' with e1 e2 _
      subst e1 e2
      have hc0 := hc k (by omega)
      rw [Nat.zero_add] at hc0
      have hcell : w0.cell? ⟨w.heap.size, k, none⟩ = some (.int .u32 (s.toL[k].toNat : Int)) := hc0
      have hcell2 : w0.cell? ⟨bl, ol + k, none⟩ = some (.int .u32 (s.toL[k].toNat : Int)) := (hb0.cell (p := ⟨bl, ol + k, none⟩) hbl).trans (hcl k (by omega))
      generalize s.toL[k] = x at hcell hcell2
      have i1 : (0 : Int) ≤ (k : Int) := by omega
      have i2 : (k : Int) < 8 := by omega
      clear hc hc0 hrd hlen hcl
      go_wp2
      go_quiet (fail)
      go_wp2
      go_roundw
      case rel => exact ⟨k + 1, _, by omega, by go_num, rfl⟩
      case measure => simp [intOf]; omega
    · go_wp2
      go_ret
      exact ⟨rfl, below_drewN hb0 n⟩

theorem or4 (a b c d : Nat) (ha : a < 256) (hb : b < 256) (hc : c < 256) (hd : d < 256) :
    bits .or .u32 (bits .or .u32 (bits .or .u32 ((a : Int) * 16777216) ((b : Int) * 65536)) ((c : Int) * 256)) (d : Int) = ((((a * 256 + b) * 256 + c) * 256 + d : Nat) : Int) := by
  have e1 : bits .or .u32 ((a : Int) * 16777216) ((b : Int) * 65536) = ((2 ^ 16 * (a * 256 + b) : Nat) : Int) := by
    rw [show (a : Int) * 16777216 = ((2 ^ 24 * a : Nat) : Int) by omega, show (b : Int) * 65536 = ((b * 65536 : Nat) : Int) by omega, u32_or_nat _ _ (by omega) (by omega), ← Nat.two_pow_add_eq_or_of_lt (by omega)]
    omega
  have e2 : bits .or .u32 ((2 ^ 16 * (a * 256 + b) : Nat) : Int) ((c : Int) * 256) = ((2 ^ 8 * ((a * 256 + b) * 256 + c) : Nat) : Int) := by
    rw [show (c : Int) * 256 = ((c * 256 : Nat) : Int) by omega, u32_or_nat _ _ (by omega) (by omega), ← Nat.two_pow_add_eq_or_of_lt (by omega)]
    omega
  rw [e1, e2, u32_or_nat _ _ (by omega) (by omega), ← Nat.two_pow_add_eq_or_of_lt (by omega)]
  omega

theorem number_law (b : List UInt8) (at' : Nat) (A : Option Addr) (c : Nat) (w : World) (hr : Rd vB w A b) (h : at' + 3 < b.length) (hl : b.length ≤ 9223372036854775807) :
    Calls Tryd.prog 17 #[.slice A b.length c, .int .i64 (at' : Int)] w fun e w' => e = .returned (.int .u32 ((valN [b[at'], b[at' + 1], b[at' + 2], b[at' + 3]] : Nat) : Int)) ∧ Below w.heap.size w w' := by
  obtain ⟨bl, o, rfl, _, hc⟩ := hr.at h
  have h0 : w.cell? ⟨bl, o + at', none⟩ = some (.int .u8 (b[at'].toNat : Int)) := hc at' (by omega)
  have h1 : w.cell? ⟨bl, o + (at' + 1), none⟩ = some (.int .u8 (b[at' + 1].toNat : Int)) := hc (at' + 1) (by omega)
  have h2 : w.cell? ⟨bl, o + (at' + 2), none⟩ = some (.int .u8 (b[at' + 2].toNat : Int)) := hc (at' + 2) (by omega)
  have h3 : w.cell? ⟨bl, o + (at' + 3), none⟩ = some (.int .u8 (b[at' + 3].toNat : Int)) := hc (at' + 3) (by omega)
  have ha : b[at'].toNat < 256 := b[at'].toNat_lt
  have hb : b[at' + 1].toNat < 256 := b[at' + 1].toNat_lt
  have hc' : b[at' + 2].toNat < 256 := b[at' + 2].toNat_lt
  have hd : b[at' + 3].toNat < 256 := b[at' + 3].toNat_lt
  generalize b[at'] = x0 at h0 ha ⊢
  generalize b[at' + 1] = x1 at h1 hb ⊢
  generalize b[at' + 2] = x2 at h2 hc' ⊢
  generalize b[at' + 3] = x3 at h3 hd ⊢
  clear hc hr
  obtain ⟨j, hj⟩ : ∃ j, j = at' := ⟨_, rfl⟩
  rw [← hj] at h0 h1 h2 h3 h ⊢
  clear hj
  have i0 : (0 : Int) ≤ (j : Int) := by omega
  have j0 : (j : Int) < (b.length : Int) := by omega
  have j1 : IntKind.i64.wrap ((j : Int) + 1) = (j : Int) + 1 := by rw [IntKind.wrap_i64]; omega
  have j2 : IntKind.i64.wrap ((j : Int) + 2) = (j : Int) + 2 := by rw [IntKind.wrap_i64]; omega
  have j3 : IntKind.i64.wrap ((j : Int) + 3) = (j : Int) + 3 := by rw [IntKind.wrap_i64]; omega
  have k1 : (0 : Int) ≤ (j : Int) + 1 := by omega
  have k2 : (0 : Int) ≤ (j : Int) + 2 := by omega
  have k3 : (0 : Int) ≤ (j : Int) + 3 := by omega
  have l1 : (j : Int) + 1 < (b.length : Int) := by omega
  have l2 : (j : Int) + 2 < (b.length : Int) := by omega
  have l3 : (j : Int) + 3 < (b.length : Int) := by omega
  have t1 : ((j : Int) + 1).toNat = j + 1 := by omega
  have t2 : ((j : Int) + 2).toNat = j + 2 := by omega
  have t3 : ((j : Int) + 3).toNat = j + 3 := by omega
  go_enter Tryd.func17, Tryd.ntmps17
  go_wp2_with fail
  go_quiet (fail)
  go_wp2_with fail
  go_ret
  exact ⟨ret_int (by rw [or4 _ _ _ _ ha hb hc' hd]; simp [valN]), below_drewN (Below.refl _ _) _⟩

theorem bytes_round_at {L : List UInt32} {w wr wx w1 : World} {k : Nat} {x : UInt32} {u v : Value} (hk : k < L.length) (ho : wr.ownsRow w.heap.size 5 1 u (bytesL (L.take k)).length ((bytesL (L.take k)).map vB))
    (hb : Below w.heap.size w wx) (HT : Hid (bytesL (L.take (k + 1)) = bytesL (L.take k) ++ bytesW x)) (hg : wx.grownBy w1 u.ownBlock)
    (ho' : w1.ownsRow w.heap.size 5 1 v ((bytesL (L.take k)).length + 4) ((bytesL (L.take k)).map vB ++ [Value.int .u8 ((x.toNat : Int) / 16777216), Value.int .u8 ((x.toNat : Int) / 65536 % 256), Value.int .u8 ((x.toNat : Int) / 256 % 256), Value.int .u8 ((x.toNat : Int) % 256)])) :
    BytesRel L w v (.int .i64 ((k : Int) + 1)) w1 :=
  ⟨k + 1, by omega, by go_num, by rw [HT.out]; rw [bytesW_cells, ← List.map_append] at ho'; simpa [bytesW] using ho', hb.grown hg hb.size (fun k hk => (ho.lt k hk).1)⟩

theorem bytes_law (L : List UInt32) (A : Option Addr) (cap : Nat) (w : World) (hr : Rd vW w A L) (hl : L.length ≤ 35184372087808) :
    Calls Tryd.prog 18 #[.slice A L.length cap] w (RetS vB w (bytesL L)) := by
  obtain ⟨i0, hi, hz0, hz1, hz2⟩ := info_parts info_u8
  go_enter Tryd.func18, Tryd.ntmps18
  go_wp2_with fail
  go_loopw [3, 4] (fun v i wr => BytesRel L w v i wr) (fun _ i _ => L.length - (intOf i).toNat)
  case atStart => exact ⟨0, Nat.zero_le _, rfl, World.ownsRow_nil _ _ _ _, Below.refl _ _⟩
  case round =>
    obtain ⟨k, hk, rfl, hown1, hbel1⟩ := hrel
    by_cases hlt : k < L.length
    · obtain ⟨blk, o, rfl, hb, hcell⟩ := hr.at hlt
      have hc0 := hcell k hlt
      have HT := Lib.hid (bytesL_take L k hlt)
      have hc : ∀ W, Below w.heap.size wr W → W.cell? ⟨blk, o + k, none⟩ = some (.int .u32 (L[k].toNat : Int)) := fun W hW => by rw [(hbel1.trans hW).cell (p := ⟨blk, o + k, none⟩) hb]; exact hc0
      have hx := u32_lt L[k]
      have hn : (bytesL (L.take k)).length ≤ 4 * k := by rw [bytesL_length, List.length_take]; omega
      generalize L[k] = x at hc hx HT
      clear hcell hr hc0
      have i1 : (0 : Int) ≤ (k : Int) := by omega
      have i2 : (k : Int) < (L.length : Int) := by omega
      have y0 : IntKind.u8.wrap ((x.toNat : Int) / 16777216) = (x.toNat : Int) / 16777216 := by rw [IntKind.wrap_u8']; omega
      have y1 : IntKind.u8.wrap ((x.toNat : Int) / 65536) = (x.toNat : Int) / 65536 % 256 := by rw [IntKind.wrap_u8']
      have y2 : IntKind.u8.wrap ((x.toNat : Int) / 256) = (x.toNat : Int) / 256 % 256 := by rw [IntKind.wrap_u8']
      have y3 : IntKind.u8.wrap (x.toNat : Int) = (x.toNat : Int) % 256 := by rw [IntKind.wrap_u8']
      go_wp2_with fail
      have hBase : Below w.heap.size wr wr.drew := (Below.refl _ _).drew
      refine wp_region_plan_at w.heap.size (.step 0 false (.step 1 false (.step 2 false (.step 3 false (.step 4 false (.step 5 false (.step 6 false (.step 7 false (.step 8 false (.step 9 false (.step 10 false (.step 11 false (.step 12 false (.step 13 false (.step 14 false (.step 15 false (.step 16 false (.step 17 false (.step 18 false (.step 19 false (.step 20 false (.step 21 false (.step 22 false (.step 23 false (.step 24 true (.step 25 true (.step 26 false (.nil)))))))))))))))))))))))))))) (by kernel_rfl) (by kernel_rfl) (by rfl) (by kernel_rfl) ?_
      iterate 24 (refine plan_read rfl (by rfl) (v := ?_) ?_ ?_; rotate_left 1; (intro W hW; have hW0 := Below.trans hBase hW; (try dsimp only at hW); go_simp <;> with_reducible rfl); simp only [List.getElem_toArray, List.getElem_cons_zero, List.getElem_cons_succ, Act.put, List.setIfInBounds_toArray, List.set_cons_zero, List.set_cons_succ])
      clear hc y0 y1 y2 y3
      (refine plan_make_at rfl (by rfl) (fun K hK => ?_); go_simp; refine hK.out _ _ (below_from_drew ((Below.refl _ wr).alloc hbel1.size _).drew) ?_; clear hK K)
      refine plan_make_at rfl (by rfl) (fun K hK => ?_)
      refine wp_append_own _ (.tmp 11) (.tmp 35) 24 (by rfl) w.heap.size 5 i0 (.int .u8 0) 1 1 Tryd.underlying24 hi hz0 hz1 hz2 rfl (by decide) _ _ _ (by rfl) (hown1.alloc _).drew ⟨wr.heap.size, 0, none⟩ 4 4 [Value.int .u8 ((x.toNat : Int) / 16777216), Value.int .u8 ((x.toNat : Int) / 65536 % 256), Value.int .u8 ((x.toNat : Int) / 256 % 256), Value.int .u8 ((x.toNat : Int) % 256)] (by rfl) rfl (cells_new _ _ _) (by intro u hu; simp at hu; rcases hu with rfl | rfl | rfl | rfl <;> rfl) (by unfold maxLen; omega) (by omega) (by have := hbel1.size; simp; omega) ?_
      intro v' w1 hown' hgrow' _
      simp only [List.getElem_toArray, List.getElem_cons_zero, List.getElem_cons_succ, Act.put, List.setIfInBounds_toArray, List.set_cons_zero, List.set_cons_succ]
      refine hK.out _ _ ((Below.refl _ _).grown hgrow' (by have := hbel1.size; simp; omega) (fun g hk => (hown1.lt g hk).1)) ?_
      clear hK K
      have hBase : Below w.heap.size w1 w1 := Below.refl _ _
      iterate 1 (refine plan_read rfl (by rfl) (v := ?_) ?_ ?_; rotate_left 1; (intro W hW; have hW0 := Below.trans hBase hW; (try dsimp only at hW); go_simp <;> with_reducible rfl); simp only [List.getElem_toArray, List.getElem_cons_zero, List.getElem_cons_succ, Act.put, List.setIfInBounds_toArray, List.set_cons_zero, List.set_cons_succ])
      refine plan_done ?_
      have HR : Hid (BytesRel L w v' (.int .i64 ((k : Int) + 1)) w1) := bytes_round_at hlt hown1 ((hbel1.alloc hbel1.size _).drew) HT hgrow' hown'
      clear hown' hgrow' hown1 hbel1 HT hBase
      go_wp2_with fail
      go_roundw
      case rel => exact HR.out
      case measure => simp [intOf]; omega
    · have HE : Hid (L.take k = L) := by unfold Hid; exact List.take_of_length_le (by omega)
      go_wp2_with fail
      go_ret
      rw [HE.out] at hown1
      exact RetS.own hown1 hbel1

end Go.Proofs.YtdokbhcoekffpaaDoor
