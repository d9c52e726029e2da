/-
  What the reference's call Block of layer 2 answers: the state behind a block of 64 bytes.
-/
import Derived.Test.YtfalghmgibnjdaaDoorQ1
import Derived.OwnWalk
import Derived.Deep.QuietTactic
import Derived.BigQuiet
import Derived.Deep.MidRow
import Derived.Laws.CopyOwn
import Derived.Lib.SliceRun
import Derived.Laws.ResultCell
import Derived.Lib.AppendZeros
namespace Go.Proofs.YtfalghmgibnjdaaDoor
set_option maxRecDepth 100000
open Go.RowKit
set_option linter.unusedSimpArgs false
attribute [local go_sem] u32_xor_w u32_and_w u32_or_w u32_add_w u32_add_m u32_not_w u32_not_ww u32_mod_w u32_wrap_w

theorem refrot_c (x : UInt32) (c : Nat) (hc : c < 32) (w : World) :
    Calls Tryd.prog 39 #[.int .u32 (x.toNat : Int), .int .i64 (c : Int)] w fun e w' => e = .returned (.int .u32 ((rotR x c).toNat : Int)) ∧ w = w' :=
  (refrot_any x c w).mono fun _ _ ⟨he, hw⟩ => ⟨by rw [he, show ((c : Int) % 32).toNat = c by omega], hw⟩

theorem const_kT (k : Nat) (hk : k < 64) (w : World) :
    Calls Tryd.prog 41 #[.int .i64 (k : Int)] w fun e w' => e = .returned (.int .u32 ((kT.getD k 0).toNat : Int)) ∧ Below w.heap.size w w' := const_any k hk w

def SchedRel (W0 : List UInt32) (w : World) (v t : Value) (wr : World) : Prop :=
  ∃ k : Nat, k ≤ 48 ∧ t = .int .i64 ((16 + k : Nat) : Int) ∧ wr.ownsRow w.heap.size 50 1 v (16 + k) ((moreW k W0).map vW) ∧ Below w.heap.size w wr

def RoundRel [Inhabited Tab] (s : St) (L : List UInt32) (w : World) (a b c d e f g h i : Value) (wr : World) : Prop :=
  ∃ n : Nat, n ≤ 64 ∧ i = .int .i64 (n : Int) ∧ a = .int .u32 ((St.rounds L n s).a.toNat : Int) ∧ b = .int .u32 ((St.rounds L n s).b.toNat : Int) ∧ c = .int .u32 ((St.rounds L n s).c.toNat : Int) ∧ d = .int .u32 ((St.rounds L n s).d.toNat : Int) ∧
    e = .int .u32 ((St.rounds L n s).e.toNat : Int) ∧ f = .int .u32 ((St.rounds L n s).f.toNat : Int) ∧ g = .int .u32 ((St.rounds L n s).g.toNat : Int) ∧ h = .int .u32 ((St.rounds L n s).h.toNat : Int) ∧ Below w.heap.size w wr

theorem round_next [Inhabited Tab] {s : St} {L : List UInt32} {w wr : World} {n : Nat} {S : St} (hn : n < 64) (HS : Hid (St.rounds L (n + 1) s = S.round (kT.getD n 0) (L.getD n 0))) (hb : Below w.heap.size w wr) :
    RoundRel s L w (.int .u32 ((addW (tW S (kT.getD n 0) (L.getD n 0)) (uW S)).toNat : Int)) (.int .u32 (S.a.toNat : Int)) (.int .u32 (S.b.toNat : Int)) (.int .u32 (S.c.toNat : Int)) (.int .u32 ((addW S.d (tW S (kT.getD n 0) (L.getD n 0))).toNat : Int)) (.int .u32 (S.e.toNat : Int)) (.int .u32 (S.f.toNat : Int)) (.int .u32 (S.g.toNat : Int)) (.int .i64 ((n : Int) + 1)) wr :=
  ⟨n + 1, by omega, rfl, by rw [HS.out]; rfl, by rw [HS.out]; rfl, by rw [HS.out]; rfl, by rw [HS.out]; rfl, by rw [HS.out]; rfl, by rw [HS.out]; rfl, by rw [HS.out]; rfl, by rw [HS.out]; rfl, hb⟩

theorem sched_round {W0 : List UInt32} {w wx w1 : World} {k n : Nat} {g cap : Nat} {v : Value} {y : UInt32} (hk : k < 48) (HK : Hid (n = 16 + k)) (hown : wx.ownsRow w.heap.size 50 1 (.slice (some ⟨g, 0, none⟩) n cap) n ((moreW k W0).map vW)) (hb : Below w.heap.size w wx)
    (HN : Hid (nextW (moreW k W0) = y)) (hown' : w1.ownsRow w.heap.size 50 1 v (n + 1) ((moreW k W0).map vW ++ [.int .u32 (y.toNat : Int)])) (hg : wx.grownBy w1 (Value.ownBlock (.slice (some ⟨g, 0, none⟩) n cap))) :
    SchedRel W0 w v (.int .i64 ((n : Int) + 1)) w1 := by
  have e := HK.out
  refine ⟨k + 1, by omega, by congr 1; omega, ?_, hb.grown hg hb.size (fun x hx => (hown.lt x hx).1)⟩
  rw [show 16 + (k + 1) = n + 1 by omega, moreW, List.map_append, HN.out]
  exact hown'

set_option maxRecDepth 100000 in
set_option maxHeartbeats 2000000 in
theorem refblock_any (s : St) (b : List UInt8) (As A : Option Addr) (cs c : Nat) (w : World) (h64 : b.length = 64) (hs : Rd vW w As s.toL) (hb : Rd vB w A b) :
    Calls Tryd.prog 35 #[.slice As 8 cs, .slice A b.length c] w (RetS vW w (s.block b).toL) := by
  obtain ⟨i0, hi, hz0, hz1, hz2⟩ := info_parts info_u32
  have HB : Hid (∀ W0, W0 = wordsL b → s.block b = s.plus (St.rounds (moreW 48 W0) 64 s)) := by rintro W0 rfl; rfl
  have hwl : (wordsL b).length = 16 := by
    have := congrArg List.length (bytesL_wordsL b)
    rw [bytesL_length, List.length_take, h64] at this
    omega
  have H64 := Lib.hid h64
  clear h64
  go_enter Tryd.func35, Tryd.ntmps35
  go_wp2_with fail
  refine (refwords_own b _ _ _ hb (by have := H64.out; omega)).mono ?_
  rintro e w1 ⟨v1, rfl, hown1, hbel1⟩
  obtain ⟨W0, e⟩ : ∃ W0, W0 = wordsL b := ⟨_, rfl⟩
  have HB' := Lib.hid (HB.out W0 e)
  rw [← e] at hown1 hwl
  rw [hwl] at hown1
  have HW := Lib.hid hwl
  clear HB e hb hwl
  go_wp2_with fail
  go_loopw [5, 6] (fun v t wr => SchedRel W0 w v t wr) (fun _ t _ => 64 - (intOf t).toNat)
  case atStart => exact ⟨0, Nat.zero_le _, rfl, hown1, hbel1⟩
  case round =>
    clear hown1 hbel1
    obtain ⟨k, hk, rfl, hown, hbel⟩ := hrel
    by_cases hlt : k < 48
    · obtain ⟨g, cap, rfl, hbg, hlt'⟩ := hown.form (by omega)
      have hcells := hown.cells (g := g) rfl
      have hll : (moreW k W0).length = 16 + k := by rw [moreW_length, HW.out]
      have hc : ∀ j, j < 16 + k → wr.cell? ⟨g, j, none⟩ = some (.int .u32 (((moreW k W0).getD j 0).toNat : Int)) := fun j hj => by
        have := hcells j (vW ((moreW k W0).getD j 0)) (by simp [List.getD, hll, hj])
        rw [show (⟨g, 0, none⟩ : Addr).add j = ⟨g, j, none⟩ by unfold Addr.add; split <;> simp_all] at this
        exact this
      have HN : Hid (nextW (moreW k W0) = addW (addW (addW (sig1 ((moreW k W0).getD (16 + k - 2) 0)) ((moreW k W0).getD (16 + k - 7) 0)) (sig0 ((moreW k W0).getD (16 + k - 15) 0))) ((moreW k W0).getD (16 + k - 16) 0)) := by unfold Hid nextW; rw [hll]
      obtain ⟨n, hn⟩ : ∃ n, n = 16 + k := ⟨_, rfl⟩
      have HK := Lib.hid hn
      have h15 := hc (16 + k - 15) (by omega)
      have h2 := hc (16 + k - 2) (by omega)
      have h7 := hc (16 + k - 7) (by omega)
      have h16 := hc (16 + k - 16) (by omega)
      have H7 : Hid (((moreW k W0).map vW)[16 + k - 7]? = some (.int .u32 (((moreW k W0).getD (16 + k - 7) 0).toNat : Int))) := by unfold Hid; simp [List.getD, hll, vW, show 16 + k - 7 < 16 + k by omega]
      have H16 : Hid (((moreW k W0).map vW)[16 + k - 16]? = some (.int .u32 (((moreW k W0).getD (16 + k - 16) 0).toNat : Int))) := by unfold Hid; simp [List.getD, hll, vW, show 16 + k - 16 < 16 + k by omega]
      rw [← hn] at h15 h2 h7 h16 HN hown H7 H16 ⊢
      have hn1 : 16 ≤ n := by omega
      have hn2 : n < 64 := by omega
      clear hn hc hcells hll
      generalize (moreW k W0).getD (n - 15) 0 = x15 at h15 HN
      generalize (moreW k W0).getD (n - 2) 0 = x2 at h2 HN
      generalize (moreW k W0).getD (n - 7) 0 = x7 at h7 HN H7
      generalize (moreW k W0).getD (n - 16) 0 = x16 at h16 HN H16
      go_wp2_with fail
      refine (refrot_c x15 7 (by omega) _).mono ?_
      rintro e w' ⟨rfl, rfl⟩
      go_wp2_with fail
      refine (refrot_c x15 18 (by omega) _).mono ?_
      rintro e w' ⟨rfl, rfl⟩
      go_wp2_with fail
      refine (down_any x15 3 (by omega) _).mono ?_
      rintro e w' ⟨rfl, rfl⟩
      go_wp2_with fail
      refine (refrot_c x2 17 (by omega) _).mono ?_
      rintro e w' ⟨rfl, rfl⟩
      go_wp2_with fail
      refine (refrot_c x2 19 (by omega) _).mono ?_
      rintro e w' ⟨rfl, rfl⟩
      go_wp2_with fail
      refine (down_any x2 10 (by omega) _).mono ?_
      rintro e w' ⟨rfl, rfl⟩
      go_wp2_with fail
      have j7 : IntKind.i64.wrap ((n : Int) - 7) = (n : Int) - 7 := by rw [IntKind.wrap_i64]; omega
      have j16 : IntKind.i64.wrap ((n : Int) - 16) = (n : Int) - 16 := by rw [IntKind.wrap_i64]; omega
      have m7 : (7 : Int) ≤ (n : Int) := by omega
      have m16 : (16 : Int) ≤ (n : Int) := by omega
      have k7 : (0 : Int) ≤ (n : Int) - 7 := by omega
      have k16 : (0 : Int) ≤ (n : Int) - 16 := by omega
      have l7 : (n : Int) - 7 < (n : Int) := by omega
      have l16 : (n : Int) - 16 < (n : Int) := by omega
      have t7 : ((n : Int) - 7).toNat = n - 7 := by omega
      have t16 : ((n : Int) - 16).toNat = n - 16 := by omega
      refine wp_region_plan_of (fun W => Below w.heap.size wr W ∧ W.cell? ⟨g, n - 7, none⟩ = some (.int .u32 (x7.toNat : Int)) ∧ W.cell? ⟨g, n - 16, none⟩ = some (.int .u32 (x16.toNat : Int))) (.step 0 false (.step 1 false (.step 2 false (.step 3 false (.step 4 false (.step 5 false (.step 6 false (.step 7 false (.step 8 false (.step 9 false (.step 10 false (.step 11 false (.step 12 false (.step 13 false (.step 14 false (.step 15 false (.step 16 true (.step 17 true (.step 18 false (.nil)))))))))))))))))))) ⟨(Below.refl _ _).drew, h7, h16⟩ (by kernel_rfl) (by kernel_rfl) (by rfl) (by kernel_rfl) ?_
      iterate 16 (refine plan_read rfl (by rfl) (v := ?_) ?_ ?_; rotate_left 1; (intro W hW; (try dsimp only at hW); obtain ⟨hW0, hW1⟩ := hW; go_simp <;> with_reducible rfl); simp only [List.getElem_toArray, List.getElem_cons_zero, List.getElem_cons_succ, Act.put, List.setIfInBounds_toArray, List.set_cons_zero, List.set_cons_succ])
      clear j7 j16 m7 m16 k7 k16 l7 l16 t7 t16
      have hB : w.heap.size ≤ wr.heap.size := hbel.size
      have hgl : g < wr.heap.size := hlt'
      (refine plan_make_of rfl (by rfl) (fun K hK => ?_); go_simp; refine hK.out _ _ ⟨((Below.refl _ wr).alloc hB _).drew, (World.cell?_alloc_lt wr _ ⟨g, n - 7, none⟩ hgl).trans h7, (World.cell?_alloc_lt wr _ ⟨g, n - 16, none⟩ hgl).trans h16⟩ ?_; clear hK K)
      refine plan_make_of rfl (by rfl) (fun K hK => ?_)
      refine wp_append_keep _ (.tmp 58) (.tmp 74) 46 (by rfl) w.heap.size 50 i0 (.int .u32 0) 4 Tryd.underlying46 hi hz0 hz1 hz2 rfl _ n ((moreW k W0).map vW) (by rfl) (hown.alloc _).drew ⟨wr.heap.size, 0, none⟩ 1 1 [.int .u32 ((addW (addW (addW (sig1 x2) x7) (sig0 x15)) x16).toNat : Int)] (by rfl) rfl (cell_one_new _ _ _) (by intro u hu; simp at hu; subst hu; rfl) (by unfold maxLen; omega) (by omega) (by simp; omega) ?_
      intro v' w1 hown' hgrow' hkeep
      simp only [List.getElem_toArray, List.getElem_cons_zero, List.getElem_cons_succ, Act.put, List.setIfInBounds_toArray, List.set_cons_zero, List.set_cons_succ]
      refine hK.out _ _ ⟨(((Below.refl _ wr).alloc hB _).drew).grown hgrow' (by simp; omega) (fun x hx => (hown.lt x hx).1), hkeep g rfl _ _ H7.out, hkeep g rfl _ _ H16.out⟩ ?_
      clear hK K hkeep
      iterate 1 (refine plan_read rfl (by rfl) (v := ?_) ?_ ?_; rotate_left 1; (intro W hW; (try dsimp only at hW); obtain ⟨hW0, hW1⟩ := hW; go_simp <;> with_reducible rfl); simp only [List.getElem_toArray, List.getElem_cons_zero, List.getElem_cons_succ, Act.put, List.setIfInBounds_toArray, List.set_cons_zero, List.set_cons_succ])
      refine plan_done ?_
      have HR := Lib.hid (sched_round hlt HK ((hown.alloc _).drew) ((hbel.alloc hB _).drew) HN hown' hgrow')
      clear hown' hgrow' hown HN H7 H16 h7 h16 h15 h2 hB hgl hlt' hbel
      go_wp2_with fail
      go_roundw
      case rel => exact HR.out
      case measure => simp [intOf]; omega
    · have hk48 : k = 48 := by omega
      subst hk48
      simp only [Nat.reduceAdd, Int.cast_ofNat_Int] at hown ⊢
      obtain ⟨g, cap, rfl, hbg, hgl⟩ := hown.form (by omega)
      have hcells := hown.cells (g := g) rfl
      have hll : (moreW 48 W0).length = 64 := by rw [moreW_length, HW.out]
      obtain ⟨L, eL⟩ : ∃ L, L = moreW 48 W0 := ⟨_, rfl⟩
      rw [← eL] at hcells hll
      have HB2 : Hid (s.block b = s.plus (St.rounds L 64 s)) := by unfold Hid; rw [eL]; exact HB'.out
      have hrow : ∀ n, n < 64 → wr.cell? ⟨g, n, none⟩ = some (.int .u32 ((L.getD n 0).toNat : Int)) := fun j hj => by
        have := hcells j (vW (L.getD j 0)) (by simp [List.getD, hll, hj])
        rw [show (⟨g, 0, none⟩ : Addr).add j = ⟨g, j, none⟩ by unfold Addr.add; split <;> simp_all] at this
        exact this
      have HRow := Lib.hid hrow
      clear hown hcells eL HB' HW hrow hll
      obtain ⟨bs, os, rfl, hcs⟩ := hs (by simp [St.toL])
      have hbs : bs < w.heap.size := World.block_lt_of_cell? w _ (hcs 0 (by simp [St.toL]))
      have st0 : ∀ W, Below w.heap.size w W → W.cell? ⟨bs, os, none⟩ = some (.int .u32 (s.a.toNat : Int)) := fun W hW => (hW.cell (p := ⟨bs, os, none⟩) hbs).trans (hcs 0 (by simp [St.toL]))
      have st1 : ∀ W, Below w.heap.size w W → W.cell? ⟨bs, os + 1, none⟩ = some (.int .u32 (s.b.toNat : Int)) := fun W hW => (hW.cell (p := ⟨bs, os + 1, none⟩) hbs).trans (hcs 1 (by simp [St.toL]))
      have st2 : ∀ W, Below w.heap.size w W → W.cell? ⟨bs, os + 2, none⟩ = some (.int .u32 (s.c.toNat : Int)) := fun W hW => (hW.cell (p := ⟨bs, os + 2, none⟩) hbs).trans (hcs 2 (by simp [St.toL]))
      have st3 : ∀ W, Below w.heap.size w W → W.cell? ⟨bs, os + 3, none⟩ = some (.int .u32 (s.d.toNat : Int)) := fun W hW => (hW.cell (p := ⟨bs, os + 3, none⟩) hbs).trans (hcs 3 (by simp [St.toL]))
      have st4 : ∀ W, Below w.heap.size w W → W.cell? ⟨bs, os + 4, none⟩ = some (.int .u32 (s.e.toNat : Int)) := fun W hW => (hW.cell (p := ⟨bs, os + 4, none⟩) hbs).trans (hcs 4 (by simp [St.toL]))
      have st5 : ∀ W, Below w.heap.size w W → W.cell? ⟨bs, os + 5, none⟩ = some (.int .u32 (s.f.toNat : Int)) := fun W hW => (hW.cell (p := ⟨bs, os + 5, none⟩) hbs).trans (hcs 5 (by simp [St.toL]))
      have st6 : ∀ W, Below w.heap.size w W → W.cell? ⟨bs, os + 6, none⟩ = some (.int .u32 (s.g.toNat : Int)) := fun W hW => (hW.cell (p := ⟨bs, os + 6, none⟩) hbs).trans (hcs 6 (by simp [St.toL]))
      have st7 : ∀ W, Below w.heap.size w W → W.cell? ⟨bs, os + 7, none⟩ = some (.int .u32 (s.h.toNat : Int)) := fun W hW => (hW.cell (p := ⟨bs, os + 7, none⟩) hbs).trans (hcs 7 (by simp [St.toL]))
      clear hcs hs
      go_wp2_with fail
      have hBase : Below w.heap.size w wr.drew := hbel.drew
      refine wp_region_plan (.step 0 false (.step 1 false (.step 2 false (.step 3 false (.step 4 false (.step 5 false (.step 6 false (.step 7 false (.step 8 false (.step 9 false (.step 10 false (.step 11 false (.step 12 false (.step 13 false (.step 14 false (.step 15 false (.nil))))))))))))))))) (by kernel_rfl) (by kernel_rfl) (by rfl) (by kernel_rfl) ?_
      iterate 16 (refine plan_read rfl (by rfl) (v := ?_) ?_ ?_; rotate_left 1; (intro W hW; have hW0 := below_step hBase hW; (try dsimp only at hW); go_simp <;> with_reducible rfl); simp only [List.getElem_toArray, List.getElem_cons_zero, List.getElem_cons_succ, Act.put, List.setIfInBounds_toArray, List.set_cons_zero, List.set_cons_succ])
      refine plan_done ?_
      go_wp2_with fail
      have hBase : Below w.heap.size w wr.drew.drew := hbel.drew.drew
      refine wp_region_plan (.step 0 false (.step 1 false (.step 2 false (.step 3 false (.step 4 false (.step 5 false (.step 6 false (.step 7 false (.step 8 false (.step 9 false (.step 10 false (.step 11 false (.step 12 false (.step 13 false (.step 14 false (.step 15 false (.nil))))))))))))))))) (by kernel_rfl) (by kernel_rfl) (by rfl) (by kernel_rfl) ?_
      iterate 16 (refine plan_read rfl (by rfl) (v := ?_) ?_ ?_; rotate_left 1; (intro W hW; have hW0 := below_step hBase hW; (try dsimp only at hW); go_simp <;> with_reducible rfl); simp only [List.getElem_toArray, List.getElem_cons_zero, List.getElem_cons_succ, Act.put, List.setIfInBounds_toArray, List.set_cons_zero, List.set_cons_succ])
      refine plan_done ?_
      go_wp2_with fail
      have HRow2 : Hid (∀ n, n < 64 → wr.drew.drew.cell? ⟨g, n, none⟩ = some (.int .u32 ((L.getD n 0).toNat : Int))) := HRow.out
      have hgl2 : g < wr.drew.drew.heap.size := hgl
      generalize wr.drew.drew = wx at HRow2 hgl2 hBase
      clear HRow hgl hbel hbg
      have HBx := Lib.hid hBase
      clear hBase
      have HSt := Lib.hid (And.intro st0 (And.intro st1 (And.intro st2 (And.intro st3 (And.intro st4 (And.intro st5 (And.intro st6 st7)))))))
      clear st0 st1 st2 st3 st4 st5 st6 st7
      go_loopw [11, 12, 13, 14, 15, 16, 17, 18, 19] (fun a b c d e f g h i wr => RoundRel s L wx a b c d e f g h i wr) (fun _ _ _ _ _ _ _ _ i _ => 64 - (intOf i).toNat)
      case atStart => exact ⟨0, by omega, rfl, rfl, rfl, rfl, rfl, rfl, rfl, rfl, rfl, Below.refl _ _⟩
      case round =>
        obtain ⟨n, hn, rfl, rfl, rfl, rfl, rfl, rfl, rfl, rfl, rfl, hbr⟩ := hrel
        by_cases hlt : n < 64
        · have hrow : ∀ W, Below wx.heap.size wx W → W.cell? ⟨g, n, none⟩ = some (.int .u32 ((L.getD n 0).toNat : Int)) := fun W hW => (hW.cell (p := ⟨g, n, none⟩) hgl2).trans (HRow2.out n hlt)
          have HS : Hid (St.rounds L (n + 1) s = (St.rounds L n s).round (kT.getD n 0) (L.getD n 0)) := rfl
          generalize St.rounds L n s = S at HS
          have HS2 : Hid (∀ wr, Below wx.heap.size wx wr → RoundRel s L wx (.int .u32 ((addW (tW S (kT.getD n 0) (L.getD n 0)) (uW S)).toNat : Int)) (.int .u32 (S.a.toNat : Int)) (.int .u32 (S.b.toNat : Int)) (.int .u32 (S.c.toNat : Int)) (.int .u32 ((addW S.d (tW S (kT.getD n 0) (L.getD n 0))).toNat : Int)) (.int .u32 (S.e.toNat : Int)) (.int .u32 (S.f.toNat : Int)) (.int .u32 (S.g.toNat : Int)) (.int .i64 ((n : Int) + 1)) wr) := fun wr hb => round_next hlt HS hb
          clear HS
          generalize L.getD n 0 = x at hrow HS2
          have HC := Lib.hid (const_kT n hlt)
          generalize kT.getD n 0 = kc at HC HS2
          obtain ⟨sa, sb, sc, sd, se, sf, sg, sh⟩ := S
          dsimp only at HS2 ⊢
          have i0' : (0 : Int) ≤ (n : Int) := by omega
          have i1' : (n : Int) < 64 := by omega
          go_wp2_with fail
          refine (refrot_c se 6 (by omega) _).mono ?_
          rintro e w' ⟨rfl, rfl⟩
          go_wp2_with fail
          refine (refrot_c se 11 (by omega) _).mono ?_
          rintro e w' ⟨rfl, rfl⟩
          go_wp2_with fail
          refine (refrot_c se 25 (by omega) _).mono ?_
          rintro e w' ⟨rfl, rfl⟩
          go_wp2_with fail
          have hBase : Below wx.heap.size wx wr.drew := hbr.drew
          refine wp_region_plan (.step 0 false (.step 1 false (.step 2 false (.step 3 false (.step 4 false (.step 5 false (.step 8 false (.step 9 false (.step 10 false (.step 11 false (.step 6 true (.step 7 false (.step 12 false (.step 13 false (.nil))))))))))))))) (by kernel_rfl) (by kernel_rfl) (by rfl) (by kernel_rfl) ?_
          iterate 10 (refine plan_read rfl (by rfl) (v := ?_) ?_ ?_; rotate_left 1; (intro W hW; have hW0 := below_step hBase hW; (try dsimp only at hW); go_simp <;> with_reducible rfl); simp only [List.getElem_toArray, List.getElem_cons_zero, List.getElem_cons_succ, Act.put, List.setIfInBounds_toArray, List.set_cons_zero, List.set_cons_succ])
          (refine plan_make rfl (by rfl) (fun K hK => ?_); go_simp; refine (HC.out _).mono ?_; rintro e w' ⟨rfl, hbx⟩; refine hK.out _ _ hbx ?_; clear hK K; replace hBase := below_step hBase hbx)
          iterate 3 (refine plan_read rfl (by rfl) (v := ?_) ?_ ?_; rotate_left 1; (intro W hW; have hW0 := below_step hBase hW; (try dsimp only at hW); go_simp <;> with_reducible rfl); simp only [List.getElem_toArray, List.getElem_cons_zero, List.getElem_cons_succ, Act.put, List.setIfInBounds_toArray, List.set_cons_zero, List.set_cons_succ])
          refine plan_done ?_
          clear hbr hrow
          go_wp2_with fail
          refine (refrot_c sa 2 (by omega) _).mono ?_
          rintro e w' ⟨rfl, rfl⟩
          go_wp2_with fail
          refine (refrot_c sa 13 (by omega) _).mono ?_
          rintro e w' ⟨rfl, rfl⟩
          go_wp2_with fail
          refine (refrot_c sa 22 (by omega) _).mono ?_
          rintro e w' ⟨rfl, rfl⟩
          go_wp2_with fail
          have HR := Lib.hid (HS2.out _ hBase)
          clear HS2
          go_roundw
          case rel => first | exact HR.out | ((repeat apply Exists.intro); exact ⟨HR.out, rfl⟩)
          case measure => simp [intOf]; omega
        · have hn64 : n = 64 := by omega
          subst hn64
          obtain ⟨st0, st1, st2, st3, st4, st5, st6, st7⟩ := HSt.out
          have HE : Hid (s.block b = s.plus (St.rounds L 64 s)) := HB2.out
          generalize St.rounds L 64 s = S at HE
          obtain ⟨sa, sb, sc, sd, se, sf, sg, sh⟩ := S
          dsimp only
          have hB0 := HBx.out
          go_wp2_with fail
          have hBase : Below w.heap.size w wr.drew := (below_step hB0 hbr).drew
          clear hB0
          refine wp_region_plan (.step 0 false (.step 1 false (.step 2 false (.step 3 false (.step 4 false (.step 5 false (.step 6 false (.step 7 false (.step 8 false (.step 9 false (.step 10 false (.step 11 false (.step 12 false (.step 13 false (.step 14 false (.step 15 false (.step 16 false (.step 17 false (.step 18 false (.step 19 false (.step 20 false (.step 21 false (.step 22 false (.step 23 false (.step 24 false (.step 25 false (.step 26 false (.step 27 false (.step 28 false (.step 29 false (.step 30 false (.step 31 false (.step 32 false (.step 33 false (.step 34 false (.step 35 false (.step 36 false (.step 37 false (.step 38 false (.step 39 false (.step 40 true (.step 41 false (.nil))))))))))))))))))))))))))))))))))))))))))) (by kernel_rfl) (by kernel_rfl) (by rfl) (by kernel_rfl) ?_
          iterate 40 (refine plan_read rfl (by rfl) (v := ?_) ?_ ?_; rotate_left 1; (intro W hW; have hW0 := below_step hBase hW; (try dsimp only at hW); go_simp <;> with_reducible rfl); simp only [List.getElem_toArray, List.getElem_cons_zero, List.getElem_cons_succ, Act.put, List.setIfInBounds_toArray, List.set_cons_zero, List.set_cons_succ])
          (refine plan_make rfl (by rfl) (fun K hK => ?_); go_simp; refine hK.out _ _ (below_from_drew (below_new (Below.refl _ wr) _).drew) ?_; clear hK K)
          have hBase : Below w.heap.size w _ := below_new (below_step HBx.out hbr) (.cells #[Value.int IntKind.u32 ((addW s.a sa).toNat : Int), Value.int IntKind.u32 ((addW s.b sb).toNat : Int), Value.int IntKind.u32 ((addW s.c sc).toNat : Int), Value.int IntKind.u32 ((addW s.d sd).toNat : Int), Value.int IntKind.u32 ((addW s.e se).toNat : Int), Value.int IntKind.u32 ((addW s.f sf).toNat : Int), Value.int IntKind.u32 ((addW s.g sg).toNat : Int), Value.int IntKind.u32 ((addW s.h sh).toNat : Int)] 50)
          have hBase := hBase.drew
          clear st0 st1 st2 st3 st4 st5 st6 st7
          iterate 1 (refine plan_read rfl (by rfl) (v := ?_) ?_ ?_; rotate_left 1; (intro W hW; have hW0 := below_step hBase hW; (try dsimp only at hW); go_simp <;> with_reducible rfl); simp only [List.getElem_toArray, List.getElem_cons_zero, List.getElem_cons_succ, Act.put, List.setIfInBounds_toArray, List.set_cons_zero, List.set_cons_succ])
          refine plan_done ?_
          go_wp2_with fail
          go_ret
          rw [HE.out]
          refine ⟨_, 8, rfl, Nat.le_refl _, ?_, hBase⟩
          exact Rd.new (f := vW) wr (St.plus s ⟨sa, sb, sc, sd, se, sf, sg, sh⟩).toL _ _ rfl
end Go.Proofs.YtfalghmgibnjdaaDoor
/-
  append of a slice that came in, or that a call handed back, onto a row of the call's own, nil and empty ones with it (no program is named here). No conditions but those typed.
-/
namespace Go.Proofs.YtfalghmgibnjdaaDoor
set_option maxRecDepth 100000
open Go.RowKit

section
variable {P : Program} (w : World)
theorem run_append_nothing_of (base : Nat) (t ty e : TypeId) (i : TypeInfo) (ht : P.underlying t = some (.slice e)) (hi : P.info? e = some i)
    (v : Value) (n : Nat) (xs : List Value) (hown : w.ownsRow base e 1 v n xs) (c : Nat) : (Builtin.append_ #[t, t] ty #[v, .slice none 0 c]).run P w = .ok v w := by
  rcases hown.2 with ⟨rfl, rfl⟩ | ⟨g, cap, cur, rfl, _, _, hnc, _⟩
  · simp [Builtin.append_, run_underlying ht, sizeOf, typeInfo, hi, Builtin.lenOf, Builtin.firstCells]
  · simp [Builtin.append_, run_underlying ht, sizeOf, typeInfo, hi, Builtin.lenOf, Builtin.firstCells, hnc, storeCells]

theorem run_append_rd {α : Type} {f : α → Value} (base : Nat) (t ty e : TypeId) (i : TypeInfo) (z : Value) (bytes : Nat) (ht : P.underlying t = some (.slice e)) (hi : P.info? e = some i) (hz : i.zero = some z)
    (hsize : i.size = 1) (hby : i.bytes = bytes) (hzs : z.cells.size = 1) (v : Value) (n : Nat) (xs : List Value) (hown : w.ownsRow base e 1 v n xs)
    (A : Option Addr) (l : List α) (c : Nat) (hr : Rd f w A l) (h1 : ∀ x, (f x).oneCell' = true)
    (h63 : n + l.length ≤ maxLen) (hbytes : (n + l.length) * bytes ≤ 140737488355328) (hbase : base ≤ w.heap.size) :
    ∃ v' w', (Builtin.append_ #[t, t] ty #[v, .slice A l.length c]).run P w = .ok v' w' ∧ w'.ownsRow base e 1 v' (n + l.length) (xs ++ l.map f) ∧ w.grownBy w' v.ownBlock := by
  have hone : ∀ u ∈ l.map f, u.oneCell' = true := by
    intro u hu
    simp only [List.mem_map] at hu
    obtain ⟨x, _, rfl⟩ := hu
    exact h1 x
  by_cases hl : l = []
  · subst hl
    cases A with
    | none => exact ⟨v, w, run_append_nothing_of w base t ty e i ht hi v n xs hown c, by simpa using hown, ⟨rfl, rfl, rfl, Nat.le_refl _, fun _ _ _ => rfl⟩⟩
    | some ad =>
      obtain ⟨v', w', hrun, h2, h3, _⟩ := run_append_own (P := P) w base t ty e i z 1 bytes ht hi hz hsize hby hzs (by omega) v n xs hown ad 0 c [] rfl (fun j u h => by simp at h) (fun u h => by simp at h) h63 hbytes hbase
      exact ⟨v', w', hrun, h2, h3⟩
  · obtain ⟨b, o, rfl, _⟩ := hr hl
    obtain ⟨v', w', hrun, h2, h3, _⟩ := run_append_own (P := P) w base t ty e i z 1 bytes ht hi hz hsize hby hzs (by omega) v n xs hown ⟨b, o, none⟩ l.length c (l.map f) (by simp) hr.news hone h63 hbytes hbase
    exact ⟨v', w', hrun, h2, h3⟩

theorem wp_append_rd {α : Type} {f : α → Value} {o : Oper} {a : Act} {K : Act → World → Prop} {Q : Exit → Act → World → Prop} (s x : Operand) (t : TypeId)
    (ho : o.op = .call { callee := .builtin .append, args := #[s, x], argTypes := #[t, t] })
    (base : Nat) (e : TypeId) (i : TypeInfo) (z : Value) (bytes : Nat) (ht : P.underlying t = some (.slice e)) (hi : P.info? e = some i) (hz : i.zero = some z)
    (hsize : i.size = 1) (hby : i.bytes = bytes) (hzs : z.cells.size = 1) (v : Value) (n : Nat) (xs : List Value) (hs : a.eval s = v) (hown : w.ownsRow base e 1 v n xs)
    (A : Option Addr) (l : List α) (c : Nat) (hx : a.eval x = .slice A l.length c) (hr : Rd f w A l) (h1 : ∀ x, (f x).oneCell' = true)
    (h63 : n + l.length ≤ maxLen) (hbytes : (n + l.length) * bytes ≤ 140737488355328) (hbase : base ≤ w.heap.size)
    (h : ∀ v' w', w'.ownsRow base e 1 v' (n + l.length) (xs ++ l.map f) → w.grownBy w' v.ownBlock → K (a.put o.dst v') w') : o.wp P a w K Q := by
  obtain ⟨v', w', hr, h2, h3⟩ := run_append_rd (P := P) w base t o.type e i z bytes ht hi hz hsize hby hzs v n xs hown A l c hr h1 h63 hbytes hbase
  unfold Oper.wp execOp
  simp only [ho, resolve, invoke, builtin, Sem.run_bind, Sem.run_pure, Result.andThen_ok, List.map_toArray, List.map_cons, List.map_nil, hs, hx, hr]
  exact h v' w' h2 h3

theorem wpList_append_rd {α : Type} {f : α → Value} {ops : Array Oper} {rest : List Oper} {o : Oper} {a : Act} {Q : Exit → Act → World → Prop} (hgd : o.guard = none) (s x : Operand) (t : TypeId)
    (ho : o.op = .call { callee := .builtin .append, args := #[s, x], argTypes := #[t, t] })
    (base : Nat) (e : TypeId) (i : TypeInfo) (z : Value) (bytes : Nat) (ht : P.underlying t = some (.slice e)) (hi : P.info? e = some i) (hz : i.zero = some z)
    (hsize : i.size = 1) (hby : i.bytes = bytes) (hzs : z.cells.size = 1) (v : Value) (n : Nat) (xs : List Value) (hs : a.eval s = v) (hown : w.ownsRow base e 1 v n xs)
    (A : Option Addr) (l : List α) (c : Nat) (hx : a.eval x = .slice A l.length c) (hr : Rd f w A l) (h1 : ∀ x, (f x).oneCell' = true)
    (h63 : n + l.length ≤ maxLen) (hbytes : (n + l.length) * bytes ≤ 140737488355328) (hbase : base ≤ w.heap.size)
    (h : ∀ v' w', w'.ownsRow base e 1 v' (n + l.length) (xs ++ l.map f) → w.grownBy w' v.ownBlock → wpList P ops Q rest (a.put o.dst v') w') : wpList P ops Q (o :: rest) a w :=
  wpList_plain hgd fun _ hK => wp_append_rd w s x t ho base e i z bytes ht hi hz hsize hby hzs v n xs hs hown A l c hx hr h1 h63 hbytes hbase fun v' w' h2 h3 => hK _ _ (h v' w' h2 h3)
end

theorem own_base {w : World} {base b' : Nat} {e : TypeId} {v : Value} {n : Nat} {xs : List Value} (h : w.ownsRow base e 1 v n xs) (hb : b' ≤ base) : w.ownsRow b' e 1 v n xs :=
  ⟨h.1, h.2.imp id fun ⟨g, cap, cur, h1, h2, h3⟩ => ⟨g, cap, cur, h1, Nat.le_trans hb h2, h3⟩⟩
theorem vB_one (c : UInt8) : (vB c).oneCell' = true := rfl
theorem vW_one (c : UInt32) : (vW c).oneCell' = true := rfl

/-- 's[lo:hi]'. -/
theorem Rd.mid {α : Type} {f : α → Value} {w : World} {A : Option Addr} {l : List α} (h : Rd f w A l) (lo hi cap : Nat) (hc : l.length ≤ cap) : Rd f w (if cap = lo then A else A.map (·.add (lo * 1))) ((l.drop lo).take (hi - lo)) := (h.drop lo cap hc).take _

end Go.Proofs.YtfalghmgibnjdaaDoor
/-
  What the reference's calls Fill, From and Sum of layer 2 answer: the text filled up, the state behind whole blocks, the hash.
-/
namespace Go.Proofs.YtfalghmgibnjdaaDoor
set_option maxRecDepth 100000
open Go.RowKit
set_option linter.unusedSimpArgs false

def padJ (n : Nat) : Nat := (119 - n % 64) % 64
theorem padJ_end (n : Nat) : (n + 1 + padJ n) % 64 = 56 := by unfold padJ; omega
theorem padJ_not (n j : Nat) (h : j < padJ n) : (n + 1 + j) % 64 ≠ 56 := by unfold padJ at h; omega
theorem padJ_lt (n : Nat) : padJ n < 64 := by unfold padJ; omega

def FillRel (b : List UInt8) (w : World) (v : Value) (wr : World) : Prop :=
  ∃ j : Nat, j ≤ padJ b.length ∧ wr.ownsRow w.heap.size 5 1 v (b.length + 1 + j) ((b ++ 128 :: List.replicate j 0).map vB) ∧ Below w.heap.size w wr

theorem fill_start {b : List UInt8} {w w1 w2 : World} {u v : Value} (ho : w1.ownsRow w.heap.size 5 1 u (0 + b.length) ([] ++ b.map vB)) (hg1 : (w.alloc (.cells #[] 5)).grownBy w1 (some w.heap.size))
    (ho' : w2.ownsRow w.heap.size 5 1 v (0 + b.length + 1) ([] ++ b.map vB ++ [.int .u8 128])) (hg2 : (w1.alloc (.cells #[.int .u8 128] 5)).grownBy w2 u.ownBlock) : FillRel b w v w2 := by
  have hb1 : Below w.heap.size w w1 := (below_new (Below.refl _ w) _).grown hg1 (by simp) (fun k hk => by injection hk with hk; omega)
  refine ⟨0, Nat.zero_le _, ?_, (below_new hb1 _).grown hg2 (by have := hb1.size; simp; omega) (fun k hk => (ho.lt k hk).1)⟩
  simpa [vB] using ho'
theorem fill_round {b : List UInt8} {w wr w1 : World} {j : Nat} {u v : Value} (hj : j < padJ b.length) (ho : wr.ownsRow w.heap.size 5 1 u (b.length + 1 + j) ((b ++ 128 :: List.replicate j 0).map vB)) (hb : Below w.heap.size w wr)
    (ho' : w1.ownsRow w.heap.size 5 1 v (b.length + 1 + j + 1) ((b ++ 128 :: List.replicate j 0).map vB ++ [.int .u8 0])) (hg : (wr.alloc (.cells #[.int .u8 0] 5)).grownBy w1 u.ownBlock) : FillRel b w v w1 := by
  refine ⟨j + 1, by omega, ?_, (below_new hb _).grown hg (by have := hb.size; simp; omega) (fun k hk => (ho.lt k hk).1)⟩
  have e : (b ++ 128 :: List.replicate (j + 1) 0).map vB = (b ++ 128 :: List.replicate j 0).map vB ++ [.int .u8 0] := by
    rw [List.replicate_succ']
    simp [vB]
  rw [e]
  exact ho'

set_option maxHeartbeats 1000000 in
theorem fill_own (b : List UInt8) (many : Nat) (A : Option Addr) (cap : Nat) (w : World) (_hm : many < 18446744073709551616) (hr : Rd vB w A b) (hl : b.length ≤ 70368744177664) :
    Calls Tryd.prog 29 #[.slice A b.length cap, .int .u64 (many : Int)] w (RetO 5 vB w (fillL b many)) := by
  obtain ⟨i0, hi, hz0, hz1, hz2⟩ := info_parts info_u8
  have hown0 : (w.alloc (.cells #[] 5)).ownsRow w.heap.size 5 1 (.slice (some ⟨w.heap.size, 0, none⟩) 0 0) 0 [] := World.ownsRow_made w #[] 0 (Nat.le_refl _) (by unfold maxLen; omega) rfl
  have hr0 : Rd vB (w.alloc (.cells #[] 5)) A b := hr.keep (below_new (Below.refl _ _) _)
  go_enter Tryd.func29, Tryd.ntmps29
  go_wp2_with (first
    | (at_builtin; refine wpList_append_rd _ rfl (.tmp 6) (.tmp 7) 22 rfl w.heap.size 5 i0 (.int .u8 0) 1 Tryd.underlying22 hi hz0 hz1 hz2 rfl _ _ _ rfl hown0 A b cap rfl hr0 vB_one (by unfold maxLen; omega) (by omega) (by simp) ?_; intro v1 w1 hown1 hgrow1)
    | (at_builtin; refine wpList_append_own _ rfl (.tmp 8) (.tmp 9) 22 rfl w.heap.size 5 i0 (.int .u8 0) 1 1 Tryd.underlying22 hi hz0 hz1 hz2 rfl (by decide) _ _ _ rfl (hown1.alloc _) ⟨w1.heap.size, 0, none⟩ 1 1 [.int .u8 128] rfl rfl (cell_one_new _ _ _) (by intro u hu; simp at hu; subst hu; rfl) (by unfold maxLen; omega) (by omega) (by have := hgrow1.size; simp at this ⊢; omega) ?_; intro v2 w2 hown2 hgrow2 _))
  have HS := Lib.hid (fill_start hown1 hgrow1 hown2 hgrow2)
  clear hown1 hgrow1 hown2 hgrow2 hown0 hr0 hr
  go_loopw [5] (fun v wr => FillRel b w v wr) (fun v _ => b.length + 1 + padJ b.length - sliceLen v)
  case atStart => exact HS.out
  case round =>
    clear HS
    obtain ⟨j, hj, hown, hbel⟩ := hrel
    obtain ⟨g, cp, rfl, hbg, hgl⟩ := hown.form (by omega)
    have hpl := padJ_lt b.length
    have HE := Lib.hid (padJ_end b.length)
    have HN := Lib.hid (padJ_not b.length j)
    by_cases hlt : j < padJ b.length
    · have hne : ((((b.length : Int) + 1 + j) % 64) != 56) = true := by
        have := HN.out hlt
        simp
        omega
      go_wp2_with (at_builtin; refine wpList_append_own _ rfl (.tmp 15) (.tmp 16) 22 rfl w.heap.size 5 i0 (.int .u8 0) 1 1 Tryd.underlying22 hi hz0 hz1 hz2 rfl (by decide) _ _ _ rfl (hown.alloc _) ⟨wr.heap.size, 0, none⟩ 1 1 [.int .u8 0] rfl rfl (cell_one_new _ _ _) (by intro u hu; simp at hu; subst hu; rfl) (by unfold maxLen; omega) (by omega) (by have := hbel.size; simp; omega) ?_; intro v2 w2 hown2 hgrow2 _)
      have HR := Lib.hid (fill_round hlt hown hbel hown2 hgrow2)
      obtain ⟨g2, cp2, rfl, _, _⟩ := hown2.form (by omega)
      clear hown2 hgrow2 hown hbel
      go_roundw
      case rel => exact HR.out
      case measure => simp [sliceLen]; omega
    · have hjj : j = padJ b.length := by omega
      subst hjj
      have hne : ((((b.length : Int) + 1 + (padJ b.length : Nat)) % 64) != 56) = false := by
        have := HE.out
        simp
        omega
      obtain ⟨p, hp⟩ : ∃ p, p = 8 * many % 18446744073709551616 := ⟨_, rfl⟩
      have hp1 : IntKind.u64.wrap (8 * (many : Int)) = (p : Int) := by rw [IntKind.wrap_u64, hp]; omega
      have hp2 : 8 * (many : Int) % 18446744073709551616 = (p : Int) := by rw [hp]; omega
      have hpm : p < 18446744073709551616 := by rw [hp]; exact Nat.mod_lt _ (by omega)
      have HF : Hid (fillL b many = (b ++ 128 :: List.replicate (padJ b.length) 0) ++ putL p) := by unfold Hid fillL padJ; rw [hp]
      clear hp HE HN
      go_wp2_with fail
      refine (refput_any p hpm _).mono ?_
      rintro e w3 ⟨A3, cap3, rfl, _, hr3, hb3⟩
      have hown3 := hown.kept (World.grownBy.mk (row := none) hb3.os hb3.tape hb3.output hb3.size (fun k hk _ => hb3.block k hk)) (by simp [Value.ownBlock])
      have hB3 := hbel.trans (hb3.mono hbel.size)
      have h8 : (putL p).length = 8 := rfl
      clear hp1 hp2 hown hbel hb3
      go_wp2_with (at_builtin; refine wpList_append_rd _ rfl (.tmp 18) (.tmp 21) 22 rfl w.heap.size 5 i0 (.int .u8 0) 1 Tryd.underlying22 hi hz0 hz1 hz2 rfl _ _ _ rfl hown3 A3 (putL p) cap3 rfl hr3 vB_one (by unfold maxLen; omega) (by omega) hB3.size ?_; intro v4 w4 hown4 hgrow4)
      go_ret
      rw [HF.out]
      refine ⟨_, rfl, ?_, hB3.grown hgrow4 hB3.size (fun k hk => (hown3.lt k hk).1)⟩
      have e1 : (b ++ 128 :: List.replicate (padJ b.length) 0 ++ putL p).length = b.length + 1 + padJ b.length + (putL p).length := by simp; omega
      rw [e1, List.map_append]
      exact hown4

theorem from_step [Inhabited Tab] (s : St) (b : List UInt8) (h : 64 ≤ b.length) : s.from b = (s.block (b.take 64)).from (b.drop 64) := by
  rw [St.from, if_pos h]
theorem from_stop [Inhabited Tab] (s : St) (b : List UInt8) (h : ¬ 64 ≤ b.length) : s.from b = s := by
  rw [St.from, if_neg h]

theorem refblock_64 (s : St) (b : List UInt8) (As A : Option Addr) (cs c : Nat) (w : World) (H : Hid (b.length = 64)) (hs : Rd vW w As s.toL) (hb : Rd vB w A b) :
    Calls Tryd.prog 35 #[.slice As 8 cs, .slice A 64 c] w (RetS vW w (s.block b).toL) := by
  have := refblock_any s b As A cs c w H.out hs hb
  rwa [H.out] at this

def FromRel (s : St) (b : List UInt8) (w : World) (v i : Value) (wr : World) : Prop :=
  ∃ (q : Nat) (S : St) (A : Option Addr) (c : Nat), 64 * q ≤ b.length ∧ i = .int .i64 ((64 * q : Nat) : Int) ∧ v = .slice A 8 c ∧ 8 ≤ c ∧ Rd vW wr A S.toL ∧ s.from b = S.from (b.drop (64 * q)) ∧ Below w.heap.size w wr

theorem from_ref (s : St) (b : List UInt8) (As A : Option Addr) (cs c : Nat) (w : World) (hs : Rd vW w As s.toL) (hb : Rd vB w A b) (hc8 : 8 ≤ cs) (hc : b.length ≤ c) (hl : b.length ≤ 140737488355328) :
    Calls Tryd.prog 27 #[.slice As 8 cs, .slice A b.length c] w (RetS vW w (s.from b).toL) := by
  go_enter Tryd.func27, Tryd.ntmps27
  go_wp2_with fail
  go_loopw [0, 5] (fun v i wr => FromRel s b w v i wr) (fun _ i _ => b.length - (intOf i).toNat)
  case atStart => exact ⟨0, s, As, cs, Nat.zero_le _, rfl, rfl, hc8, hs, rfl, Below.refl _ _⟩
  case round =>
    obtain ⟨q, S, A1, c1, hq, rfl, rfl, h81, hrS, hfr, hbel⟩ := hrel
    have HF := Lib.hid hfr
    clear hfr
    by_cases hlt : 64 * q + 63 < b.length
    · obtain ⟨blk, o, rfl, hblk, _⟩ := hb.at hlt
      have hmid := (hb.keep hbel).mid (64 * q) (64 * q + 64) c hc
      have hlm : ((b.drop (64 * q)).take (64 * q + 64 - 64 * q)).length = 64 := by simp; omega
      have HS := Lib.hid (from_step S (b.drop (64 * q)) (by simp; omega))
      rw [if_neg (by omega), show 64 * q + 64 - 64 * q = 64 by omega] at hmid
      rw [show 64 * q + 64 - 64 * q = 64 by omega] at hlm
      obtain ⟨j, hj⟩ : ∃ j, j = 64 * q := ⟨_, rfl⟩
      have HJ := Lib.hid hj
      rw [← hj] at hmid hlm HS HF hlt ⊢
      obtain ⟨M, hM⟩ : ∃ M, M = (b.drop j).take 64 := ⟨_, rfl⟩
      rw [← hM] at hmid hlm HS
      have HL := Lib.hid hlm
      clear hj hM hlm
      have i1 : (0 : Int) ≤ (j : Int) := by omega
      have i2 : (j : Int) + 64 ≤ (c : Int) := by omega
      have i3 : ¬ c = j := by omega
      have e1 : (some (⟨blk, o, none⟩ : Addr)).map (·.add (j * 1)) = some ⟨blk, o + j, none⟩ := by
        simp only [Option.map_some, Nat.mul_one, Addr.add]
        split <;> simp_all
      rw [e1] at hmid
      clear e1
      go_wp2_with fail
      refine (refblock_64 S M _ _ _ _ _ HL hrS hmid).mono ?_
      rintro e w2 ⟨A2, c2, rfl, h82, hr2, hb2⟩
      have HR : Hid (FromRel s b w (.slice A2 8 c2) (.int .i64 ((j : Int) + 64)) w2) := by
        have ej := HJ.out
        refine ⟨q + 1, S.block M, A2, c2, by omega, by congr 1; omega, rfl, h82, hr2, ?_, hbel.trans (hb2.mono hbel.size)⟩
        rw [HF.out, HS.out, List.drop_drop, show 64 * (q + 1) = j + 64 by omega]
      clear hr2 hb2 hmid hrS hbel HF HS
      go_wp2_with fail
      go_roundw
      case rel => exact HR.out
      case measure => simp [intOf]; omega
    · have HE : Hid (s.from b = S) := by
        unfold Hid
        rw [HF.out]
        exact from_stop S _ (by simp; omega)
      go_wp2_with fail
      go_ret
      rw [HE.out]
      exact ⟨A1, c1, rfl, h81, hrS, hbel⟩
theorem fillL_length (b : List UInt8) (many : Nat) : (fillL b many).length ≤ b.length + 72 := by
  have := padJ_lt b.length
  have e : (fillL b many).length = b.length + (1 + padJ b.length) + 8 := by
    unfold fillL
    rw [List.length_append, List.length_append, List.length_cons, List.length_replicate]
    show b.length + (padJ b.length + 1) + 8 = _
    omega
  omega
theorem fill_ref (b : List UInt8) (many : Nat) (A : Option Addr) (cap : Nat) (w : World) (hm : many < 18446744073709551616) (hr : Rd vB w A b) (hl : b.length ≤ 70368744177664) :
    Calls Tryd.prog 29 #[.slice A b.length cap, .int .u64 (many : Int)] w (RetS vB w (fillL b many)) := (fill_own b many A cap w hm hr hl).mono fun _ _ h => h.ret

theorem sum_ref (b : List UInt8) (A : Option Addr) (c : Nat) (w : World) (hb : Rd vB w A b) (hl : b.length ≤ 70368744177664) :
    Calls Tryd.prog 20 #[.slice A b.length c] w (RetS vB w (sumL b)) := by
  have hfl := fillL_length b b.length
  go_enter Tryd.func20, Tryd.ntmps20
  go_wp2_with fail
  refine (first_any _).mono ?_
  rintro e w1 ⟨A1, c1, rfl, h1, hr1, hb1⟩
  go_wp2_with fail
  refine (fill_ref b b.length _ _ _ (by omega) (hb.keep hb1) hl).mono ?_
  rintro e w2 ⟨A2, c2, rfl, h2, hr2, hb2⟩
  go_wp2_with fail
  refine (from_ref startSt (fillL b b.length) _ _ _ _ _ (hr1.keep hb2) hr2 h1 h2 (by omega)).mono ?_
  rintro e w3 ⟨A3, c3, rfl, h3, hr3, hb3⟩
  go_wp2_with fail
  refine (refbytes_any (startSt.from (fillL b b.length)).toL _ _ _ hr3 (by simp [St.toL])).mono ?_
  rintro e w4 ⟨A4, c4, rfl, h4, hr4, hb4⟩
  go_wp2_with fail
  go_ret
  exact ⟨A4, c4, rfl, h4, hr4, below_step (below_step (below_step hb1 hb2) hb3) hb4⟩

end Go.Proofs.YtfalghmgibnjdaaDoor
/-
  What the small calls of the statements of layer 2 answer: words of a state, whether a state is some words, a number of four bytes, the bytes of words.
-/
namespace Go.Proofs.YtfalghmgibnjdaaDoor
set_option maxRecDepth 100000
open Go.RowKit
set_option linter.unusedSimpArgs false

/-- A state as an array. -/
def St.cells (s : St) : Array Value := #[.int .u32 (s.a.toNat : Int), .int .u32 (s.b.toNat : Int), .int .u32 (s.c.toNat : Int), .int .u32 (s.d.toNat : Int), .int .u32 (s.e.toNat : Int), .int .u32 (s.f.toNat : Int), .int .u32 (s.g.toNat : Int), .int .u32 (s.h.toNat : Int)]
theorem St.cells_eq (s : St) : s.cells = (s.toL.map vW).toArray := rfl

def WordsOfRel (s : St) (w w0 : World) (v i : Value) (wr : World) : Prop :=
  ∃ k : Nat, k ≤ 8 ∧ i = .int .i64 (k : Int) ∧ wr.ownsRow (w.heap.size + 1) 50 1 v k ((s.toL.take k).map vW) ∧ Below (w.heap.size + 1) w0 wr

theorem words_round8 {s : St} {w w0 wr w1 : World} {k : Nat} {u v : Value} {o : Obj} {x : UInt32} (hk : k < 8) (hx : Hid (s.toL.take (k + 1) = s.toL.take k ++ [x])) (ho : wr.ownsRow (w.heap.size + 1) 50 1 u k ((s.toL.take k).map vW)) (hb : Below (w.heap.size + 1) w0 wr) (hz : w.heap.size + 1 ≤ wr.heap.size)
    (ho' : w1.ownsRow (w.heap.size + 1) 50 1 v (k + 1) ((s.toL.take k).map vW ++ [.int .u32 (x.toNat : Int)])) (hg : (wr.alloc o).grownBy w1 u.ownBlock) : WordsOfRel s w w0 v (.int .i64 ((k : Int) + 1)) w1 :=
  ⟨k + 1, by omega, by go_num, by rw [hx.out]; simpa [vW] using ho', (hb.alloc hz o).grown hg (by simp; omega) (fun g hk => (ho.lt g hk).1)⟩

theorem or4 (a b c d : Nat) (ha : a < 256) (hb : b < 256) (hc : c < 256) (hd : d < 256) :
    bits .or .u32 (bits .or .u32 (bits .or .u32 ((a : Int) * 16777216) ((b : Int) * 65536)) ((c : Int) * 256)) (d : Int) = ((((a * 256 + b) * 256 + c) * 256 + d : Nat) : Int) := by
  have e1 : bits .or .u32 ((a : Int) * 16777216) ((b : Int) * 65536) = ((2 ^ 16 * (a * 256 + b) : Nat) : Int) := by
    rw [show (a : Int) * 16777216 = ((2 ^ 24 * a : Nat) : Int) by omega, show (b : Int) * 65536 = ((b * 65536 : Nat) : Int) by omega, u32_or_nat _ _ (by omega) (by omega), ← Nat.two_pow_add_eq_or_of_lt (by omega)]
    omega
  have e2 : bits .or .u32 ((2 ^ 16 * (a * 256 + b) : Nat) : Int) ((c : Int) * 256) = ((2 ^ 8 * ((a * 256 + b) * 256 + c) : Nat) : Int) := by
    rw [show (c : Int) * 256 = ((c * 256 : Nat) : Int) by omega, u32_or_nat _ _ (by omega) (by omega), ← Nat.two_pow_add_eq_or_of_lt (by omega)]
    omega
  rw [e1, e2, u32_or_nat _ _ (by omega) (by omega), ← Nat.two_pow_add_eq_or_of_lt (by omega)]
  omega

theorem bytes_round_at {L : List UInt32} {w wr wx w1 : World} {k : Nat} {x : UInt32} {u v : Value} (hk : k < L.length) (ho : wr.ownsRow w.heap.size 5 1 u (bytesL (L.take k)).length ((bytesL (L.take k)).map vB))
    (hb : Below w.heap.size w wx) (HT : Hid (bytesL (L.take (k + 1)) = bytesL (L.take k) ++ bytesW x)) (hg : wx.grownBy w1 u.ownBlock)
    (ho' : w1.ownsRow w.heap.size 5 1 v ((bytesL (L.take k)).length + 4) ((bytesL (L.take k)).map vB ++ [Value.int .u8 ((x.toNat : Int) / 16777216), Value.int .u8 ((x.toNat : Int) / 65536 % 256), Value.int .u8 ((x.toNat : Int) / 256 % 256), Value.int .u8 ((x.toNat : Int) % 256)])) :
    BytesRel L w v (.int .i64 ((k : Int) + 1)) w1 :=
  ⟨k + 1, by omega, by go_num, by rw [HT.out]; rw [bytesW_cells, ← List.map_append] at ho'; simpa [bytesW] using ho', hb.grown hg hb.size (fun k hk => (ho.lt k hk).1)⟩

end Go.Proofs.YtfalghmgibnjdaaDoor
/-
  What the small calls of the program's layer 2 answer: words turned, mixed, chosen; the state at first. No conditions but those typed.
-/
namespace Go.Proofs.YtfalghmgibnjdaaDoor
set_option maxRecDepth 100000
open Go.RowKit
set_option linter.unusedSimpArgs false

theorem ch_xor (e f g : UInt32) : xorW (andW e f) (andW (notW e) g) = chW e f g := by
  unfold chW xorW andW notW orW
  apply UInt32.toBitVec_inj.1
  apply BitVec.eq_of_getLsbD_eq
  intro i hi
  simp only [UInt32.toBitVec_xor, UInt32.toBitVec_and, UInt32.toBitVec_not, UInt32.toBitVec_or, BitVec.getLsbD_xor, BitVec.getLsbD_and, BitVec.getLsbD_or, BitVec.getLsbD_not, hi, decide_true, Bool.true_and]
  cases e.toBitVec.getLsbD i <;> simp
theorem maj_xor (a b c : UInt32) : xorW (xorW (andW a b) (andW a c)) (andW b c) = majW a b c := by
  unfold majW xorW andW orW
  apply UInt32.toBitVec_inj.1
  apply BitVec.eq_of_getLsbD_eq
  intro i hi
  simp only [UInt32.toBitVec_xor, UInt32.toBitVec_and, UInt32.toBitVec_or, BitVec.getLsbD_xor, BitVec.getLsbD_and, BitVec.getLsbD_or]
  cases a.toBitVec.getLsbD i <;> cases b.toBitVec.getLsbD i <;> simp

theorem not_xor (x : UInt32) : xorW 4294967295 x = notW x := by
  unfold xorW notW
  apply UInt32.toBitVec_inj.1
  apply BitVec.eq_of_getLsbD_eq
  intro i hi
  have h1 : (4294967295 : UInt32).toBitVec = BitVec.allOnes 32 := rfl
  simp only [UInt32.toBitVec_xor, UInt32.toBitVec_not, h1, BitVec.getLsbD_xor, BitVec.getLsbD_not, BitVec.getLsbD_allOnes, hi, decide_true, Bool.true_and, Bool.true_xor]
theorem u32_not_x (x : UInt32) : bits .xor .u32 IntKind.u32.max (x.toNat : Int) = ((notW x).toNat : Int) := by
  have := u32_xor_w 4294967295 x
  rw [not_xor] at this
  exact this

theorem rot_c (x : UInt32) (c : Nat) (hc : c < 32) (w : World) :
    Calls Tryd.prog 48 #[.int .u32 (x.toNat : Int), .int .i64 (c : Int)] w fun e w' => e = .returned (.int .u32 ((rotR x c).toNat : Int)) ∧ w = w' :=
  (rot_any x c w).mono fun _ _ ⟨he, hw⟩ => ⟨by rw [he, show ((c : Int) % 32).toNat = c by omega], hw⟩

section
attribute [local go_sem] u32_xor_w u32_and_w u32_or_w u32_add_w u32_add_m u32_not_w u32_not_ww u32_not_x u32_mod_w u32_wrap_w

theorem turned_any (x : UInt32) (i j k : Nat) (hi : i < 32) (hj : j < 32) (hk : k < 32) (w : World) :
    Calls Tryd.prog 43 #[.int .u32 (x.toNat : Int), .int .i64 (i : Int), .int .i64 (j : Int), .int .i64 (k : Int)] w fun e w' => e = .returned (.int .u32 ((xorW (xorW (rotR x i) (rotR x j)) (rotR x k)).toNat : Int)) ∧ w = w' := by
  go_enter Tryd.func43, Tryd.ntmps43
  go_wp2_with fail
  refine (rot_c x i hi _).mono ?_
  rintro e w' ⟨rfl, rfl⟩
  go_wp2_with fail
  refine (rot_c x j hj _).mono ?_
  rintro e w' ⟨rfl, rfl⟩
  go_wp2_with fail
  refine (rot_c x k hk _).mono ?_
  rintro e w' ⟨rfl, rfl⟩
  go_wp2_with fail
  go_ret
  exact ⟨rfl, rfl⟩

theorem mixed_any (x : UInt32) (i j k : Nat) (hi : i < 32) (hj : j < 32) (hk : k < 32) (w : World) :
    Calls Tryd.prog 47 #[.int .u32 (x.toNat : Int), .int .i64 (i : Int), .int .i64 (j : Int), .int .u64 (k : Int)] w fun e w' => e = .returned (.int .u32 ((xorW (xorW (rotR x i) (rotR x j)) (dn x k)).toNat : Int)) ∧ w = w' := by
  have hd : (x.toNat : Int) / 2 ^ k = ((dn x k).toNat : Int) := by rw [dn_toNat, Int.natCast_ediv, Int.natCast_pow]; rfl
  go_enter Tryd.func47, Tryd.ntmps47
  go_wp2_with fail
  refine (rot_c x i hi _).mono ?_
  rintro e w' ⟨rfl, rfl⟩
  go_wp2_with fail
  refine (rot_c x j hj _).mono ?_
  rintro e w' ⟨rfl, rfl⟩
  go_wp2_with fail
  go_ret
  exact ⟨rfl, rfl⟩

theorem choice_any (x y z : UInt32) (w : World) :
    Calls Tryd.prog 44 #[.int .u32 (x.toNat : Int), .int .u32 (y.toNat : Int), .int .u32 (z.toNat : Int)] w fun e w' => e = .returned (.int .u32 ((chW x y z).toNat : Int)) ∧ w = w' := by
  have H := Lib.hid (ch_xor x y z)
  go_enter Tryd.func44, Tryd.ntmps44
  go_wp2_with fail
  go_ret
  rw [← H.out]
  exact ⟨rfl, rfl⟩

theorem majority_any (x y z : UInt32) (w : World) :
    Calls Tryd.prog 45 #[.int .u32 (x.toNat : Int), .int .u32 (y.toNat : Int), .int .u32 (z.toNat : Int)] w fun e w' => e = .returned (.int .u32 ((majW x y z).toNat : Int)) ∧ w = w' := by
  have H := Lib.hid (maj_xor x y z)
  go_enter Tryd.func45, Tryd.ntmps45
  go_wp2_with fail
  go_ret
  rw [← H.out]
  exact ⟨rfl, rfl⟩
end
end Go.Proofs.YtfalghmgibnjdaaDoor
/-
  A block of memory known whole: its cells read, one of them set, all of them set, a slice copied into it; a world given a name (no program is named here). No conditions but those typed.
-/
namespace Go.Proofs.YtfalghmgibnjdaaDoor
set_option maxRecDepth 100000
open Go.RowKit

/-- A name for a world, and what is known of it. -/
theorem at_world {Q : World → Prop} {v : World} (F : World → Prop) (hF : F v) (h : ∀ W, F W → Q W) : Q v := h v hF

/-- Block g holds just these cells. -/
def Row (w : World) (g : Nat) (t : TypeId) (l : List Value) : Prop := w.heap[g]? = some (.cells l.toArray t (0, 0))

section
variable {w w' : World} {g : Nat} {t : TypeId} {l : List Value}
theorem Row.lt (h : Row w g t l) : g < w.heap.size := (Array.getElem?_eq_some_iff.1 h).1
theorem Row.cell? (h : Row w g t l) (i : Nat) : w.cell? ⟨g, i, none⟩ = l[i]? := by
  rw [cell_of_row w g i _ t (0, 0) h]
  simp
theorem Row.cell (h : Row w g t l) {i : Nat} {v : Value} (hi : l[i]? = some v) : w.cell? ⟨g, i, none⟩ = some v := (h.cell? i).trans hi
theorem Row.keep {B : Nat} (h : Row w g t l) (hb : Below B w w') (hg : g < B) : Row w' g t l := (hb.block g hg).trans h
theorem Row.later (h : Row w g t l) (hb : Below w.heap.size w w') : Row w' g t l := h.keep hb h.lt
theorem Row.drew (h : Row w g t l) : Row w.drew g t l := h
theorem Row.drewN (h : Row w g t l) (n : Nat) : Row (w.drewN n) g t l := h
theorem Row.alloc (h : Row w g t l) (o : Obj) : Row (w.alloc o) g t l := (Below.heap_alloc w o g h.lt).trans h
theorem Row.new (w : World) (t : TypeId) (l : List Value) (cs : Array Value) (h : cs = l.toArray) : Row (w.alloc (.cells cs t)) w.heap.size t l := by subst h; exact heap_alloc_new w _
theorem Row.new_at (w : World) (g : Nat) (hg : g = w.heap.size) (t : TypeId) (l : List Value) (cs : Array Value) (h : cs = l.toArray) : Row (w.alloc (.cells cs t)) g t l := by subst hg; exact Row.new w t l cs h
theorem Row.range (h : Row w g t l) : w.rangeAt g 0 l := fun j v hv => by rw [Nat.zero_add]; exact h.cell hv
theorem Row.frozen (h : Row w g t l) (i : Nat) : w.frozen? ⟨g, i, none⟩ = false := by
  have h' : w.heap[g]? = some (.cells l.toArray t (0, 0)) := h
  simp [World.frozen?, h']
theorem Row.setRow (h : Row w g t l) (m : List Value) : Row (w.setRow g m.toArray) g t m := setRow_heap w g _ _ t _ h
theorem Row.setRow_at (h : Row w g t l) (m : List Value) (cs : Array Value) (e : cs = m.toArray) : Row (w.setRow g cs) g t m := by subst e; exact h.setRow m
theorem Row.setRow_other (h : Row w g t l) {k : Nat} (hk : g ≠ k) (cs : Array Value) : Row (w.setRow k cs) g t l := (Go.setRow_other w k g cs hk).trans h
theorem Row.setCell (h : Row w g t l) (i : Nat) (v : Value) : Row (w.setCell ⟨g, i, none⟩ v) g t (l.set i v) := by
  have h' : w.heap[g]? = some (.cells l.toArray t (0, 0)) := h
  have hlt : g < w.heap.size := h.lt
  have hv : w.heap[g] = .cells l.toArray t (0, 0) := (Array.getElem?_eq_some_iff.1 h').2
  unfold Row World.setCell
  rw [Array.getElem?_eq_getElem (by simpa using hlt), Array.getElem_modify]
  simp [hv]
theorem Row.setCell_other (h : Row w g t l) {p : Addr} (hk : g ≠ p.block) (v : Value) : Row (w.setCell p v) g t l := (Below.heap_setCell w p v g hk).trans h
theorem Row.rd {α : Type} {f : α → Value} {L : List α} (h : Row w g t (L.map f)) : Rd f w (some ⟨g, 0, none⟩) L := fun _ => ⟨g, 0, rfl, fun i hi => by rw [Nat.zero_add]; exact h.cell (by simp [hi])⟩
theorem Row.rd_at {α : Type} {f : α → Value} {M : List Value} {L : List α} {o : Nat} (h : Row w g t M) (hl : (M.drop o).take L.length = L.map f) : Rd f w (some ⟨g, o, none⟩) L := fun _ => ⟨g, o, rfl, fun i hi => h.cell (by
  have := congrArg (·[i]?) hl
  simpa [List.getElem?_take, List.getElem?_drop, hi] using this)⟩

variable {P : Program}
/-- The whole, read. -/
theorem Row.load (h : Row w g t l) (ty : TypeId) (d : TypeDesc) (hu : P.underlying ty = some d) (hd : d.isRow = true) (hi : (P.info? ty).map (·.size) = some l.length) :
    (Instr.loadAt ty (.pointer (some ⟨g, 0, none⟩))).run P w = .ok (.agg l.toArray) w := run_loadAt_mid w g 0 ty l d h.range hu hd hi
theorem Row.loadVar (h : Row w g t l) (ty : TypeId) (d : TypeDesc) (hu : P.underlying ty = some d) (hd : d.isRow = true) (hi : (P.info? ty).map (·.size) = some l.length) :
    (Go.loadVar ty ⟨g, 0, none⟩).run P w = .ok (.agg l.toArray) w := run_loadVar_mid w g 0 ty l d h.range hu hd hi
/-- A part, read. -/
theorem Row.loadMid (h : Row w g t l) (ty : TypeId) (o : Nat) (m : List Value) (hm : (l.drop o).take m.length = m) (d : TypeDesc) (hu : P.underlying ty = some d) (hd : d.isRow = true) (hi : (P.info? ty).map (·.size) = some m.length) :
    (Instr.loadAt ty (.pointer (some ⟨g, o, none⟩))).run P w = .ok (.agg m.toArray) w := run_loadAt_mid w g o ty m d (fun j v hv => by
      have hj : j < m.length := (List.getElem?_eq_some_iff.1 hv).1
      have := congrArg (·[j]?) hm
      simp only [List.getElem?_take, List.getElem?_drop, hj, if_true] at this
      exact h.cell (this.trans hv)) hu hd hi
/-- The whole, set. -/
theorem Row.store (h : Row w g t l) (ty : TypeId) (m : List Value) (hi : (P.info? ty).map (·.size) = some m.length) (hl : l.length = m.length) (h1 : ∀ v ∈ m, v.oneCell' = true) :
    (Instr.storeAt ty (.pointer (some ⟨g, 0, none⟩)) (.agg m.toArray)).run P w = .ok () (w.setRow g m.toArray) := by
  simp only [Instr.storeAt, Instr.sureAddr, Sem.run_bind, Sem.run_pure, Result.andThen_ok]
  exact run_storeVar_row w g t ty l.toArray m.toArray h (by simpa using hi) (by simpa using hl) (all_oneCell_toArray h1)
end

section
variable {P : Program} {op : Oper} {a : Act} {w : World} {K : Act → World → Prop} {Q : Exit → Act → World → Prop} {ops : Array Oper} {rest : List Oper} {g : Nat} {t : TypeId} {l : List Value}
theorem Row.wp_store (ty : TypeId) (x y : Operand) (ho : op.op = .store ty x y) (hx : a.eval x = .pointer (some ⟨g, 0, none⟩)) (m : List Value) (hy : a.eval y = .agg m.toArray) (h : Row w g t l)
    (hi : (P.info? ty).map (·.size) = some m.length) (hl : l.length = m.length) (h1 : ∀ v ∈ m, v.oneCell' = true) (k : K (a.put op.dst undef) (w.setRow g m.toArray)) : op.wp P a w K Q := by
  unfold Oper.wp execOp
  have := h.store (P := P) ty m hi hl h1
  simp only [Instr.storeAt, Instr.sureAddr, Sem.run_bind, Sem.run_pure, Result.andThen_ok] at this
  simp only [ho, hx, hy, Instr.storeAt, Instr.sureAddr, Sem.run_bind, Sem.run_pure, Result.andThen_ok, this]
  exact k
theorem wpList_store_row (hgd : op.guard = none) (ty : TypeId) (x y : Operand) (ho : op.op = .store ty x y) (g : Nat) (hx : a.eval x = .pointer (some ⟨g, 0, none⟩)) (m : List Value) (hy : a.eval y = .agg m.toArray) (t : TypeId) (l : List Value) (h : Row w g t l)
    (hi : (P.info? ty).map (·.size) = some m.length) (hl : l.length = m.length) (h1 : ∀ v ∈ m, v.oneCell' = true) (k : wpList P ops Q rest (a.put op.dst undef) (w.setRow g m.toArray)) : wpList P ops Q (op :: rest) a w :=
  wpList_plain hgd fun _ hK => h.wp_store ty x y ho hx m hy hi hl h1 (hK _ _ k)
/-- A part of a block known whole, read. -/
theorem wpList_load_part (hgd : op.guard = none) (ty : TypeId) (x : Operand) (ho : op.op = .load ty x) (g o : Nat) (hx : a.eval x = .pointer (some ⟨g, o, none⟩)) (t : TypeId) (l : List Value) (h : Row w g t l) (m : List Value) (hm : (l.drop o).take m.length = m)
    (d : TypeDesc) (hu : P.underlying ty = some d) (hd : d.isRow = true) (hi : (P.info? ty).map (·.size) = some m.length) (k : wpList P ops Q rest (a.put op.dst (.agg m.toArray)) w) : wpList P ops Q (op :: rest) a w :=
  wpList_load_mid hgd ty x ho g o hx m d (fun j v hv => by
      have hj : j < m.length := (List.getElem?_eq_some_iff.1 hv).1
      have := congrArg (·[j]?) hm
      simp only [List.getElem?_take, List.getElem?_drop, hj, if_true] at this
      exact h.cell (this.trans hv)) hu hd hi k
end

theorem Row.setCells {g : Nat} {t : TypeId} : ∀ (m : List Value) (o : Nat) {w : World} {l : List Value}, Row w g t l → o + m.length ≤ l.length → Row (w.setCells g o m) g t (l.take o ++ m ++ l.drop (o + m.length))
  | [], o, w, l, h, _ => by simpa [World.setCells] using h
  | v :: m, o, w, l, h, hl => by
    simp only [List.length_cons] at hl
    have k := Row.setCells m (o + 1) (h.setCell o v) (by simp; omega)
    have e : (l.set o v).take (o + 1) ++ m ++ (l.set o v).drop (o + 1 + m.length) = l.take o ++ v :: m ++ l.drop (o + (v :: m).length) := by
      have ho : o < l.length := by omega
      rw [List.drop_set_of_lt (by omega), List.take_succ_eq_append_getElem (by simpa using ho), List.getElem_set_self, List.take_set_of_le (Nat.le_refl _)]
      simp [Nat.add_assoc, Nat.add_comm 1]
    rw [← e]
    exact k
theorem Row.setCells_other {g b : Nat} {t : TypeId} (hk : g ≠ b) : ∀ (m : List Value) (o : Nat) {w : World} {l : List Value}, Row w g t l → Row (w.setCells b o m) g t l
  | [], _, _, _, h => h
  | v :: m, o, _, _, h => Row.setCells_other hk m (o + 1) (h.setCell_other (p := ⟨b, o, none⟩) hk v)
theorem below_setCells {B b : Nat} (hb : B ≤ b) : ∀ (m : List Value) (o : Nat) {a w : World}, Below B a w → Below B a (w.setCells b o m)
  | [], _, _, _, h => h
  | v :: m, o, _, _, h => below_setCells hb m (o + 1) (h.setCell (p := ⟨b, o, none⟩) hb v)

/-- Two results, the first of them a whole block. -/
theorem results_row_tmp {P : Program} {fn : Func} {p u : Tmp} {ty : TypeId} (h : fn.results = #[.cell p ty, .tmp u]) (tmps : Array Value) (w : World) (g : Nat) (t : TypeId) (l : List Value) (d : TypeDesc) (hp : tmps.getD p undef = .pointer (some ⟨g, 0, none⟩)) (hg : Row w g t l)
    (hu : P.underlying ty = some d) (hd : d.isRow = true) (hi : (P.info? ty).map (·.size) = some l.length) : (results fn tmps).run P w = .ok (.tuple #[.agg l.toArray, tmps.getD u undef]) w := by
  rw [results_cell_tmp h, hp]
  simp only [asAddr, Sem.run_pure, Result.andThen_ok, hg.loadVar (P := P) ty d hu hd hi]

theorem Rd.setRow {α : Type} {f : α → Value} {w : World} {A : Option Addr} {L : List α} (h : Rd f w A L) {g : Nat} (cs : Array Value) (hg : ∀ a, A = some a → a.block ≠ g) : Rd f (w.setRow g cs) A L := fun hn => by
  obtain ⟨b, o, rfl, hc⟩ := h hn
  exact ⟨b, o, rfl, fun i hi => (cell_setRow_other w g cs ⟨b, o + i, none⟩ (hg ⟨b, o, none⟩ rfl)).trans (hc i hi)⟩
theorem map_one {α : Type} {f : α → Value} (hf : ∀ x, (f x).oneCell' = true) (L : List α) : ∀ v ∈ L.map f, v.oneCell' = true := fun v hv => by
  obtain ⟨x, _, rfl⟩ := List.mem_map.1 hv
  exact hf x

/-- 'copy(d, s)': the slice d lies in a block known whole, and has room for all of s. -/
theorem wp_copy_row {P : Program} {α : Type} {f : α → Value} {o : Oper} {a : Act} {w : World} {K : Act → World → Prop} {Q : Exit → Act → World → Prop} (d s : Operand) (dT sT : TypeId)
    (ho : o.op = .call { callee := .builtin .copy, args := #[d, s], argTypes := #[dT, sT] }) (elem : TypeId) (hu : P.underlying dT = some (.slice elem)) (hsz : (P.info? elem).map (·.size) = some 1)
    (g off dLen dCap : Nat) (A : Option Addr) (L : List α) (sCap : Nat) (hd : a.eval d = .slice (some ⟨g, off, none⟩) dLen dCap) (hs : a.eval s = .slice A L.length sCap)
    (cur : List Value) (t : TypeId) (hg : Row w g t cur) (hr : Rd f w A L) (hf : ∀ x, (f x).oneCell' = true) (hle : L.length ≤ dLen) (hfit : off + L.length ≤ cur.length)
    (h : K (a.put o.dst (.int .i64 (L.length : Int))) (w.setRow g (cur.take off ++ L.map f ++ cur.drop (off + L.length)).toArray)) : o.wp P a w K Q := by
  by_cases hn : L = []
  · subst hn
    have hrun := run_copy_none (P := P) w dT sT o.type elem (some ⟨g, off, none⟩) A dLen dCap 0 sCap hu hsz (by simp)
    unfold Oper.wp
    simp only [execOp, ho, resolve, invoke, builtin, hd, hs, Sem.run_bind, Sem.run_pure, Result.andThen_ok, List.map_toArray, List.map_cons, List.map_nil, List.length_nil, hrun]
    have e : w.setRow g (cur.take off ++ ([] : List α).map f ++ cur.drop (off + ([] : List α).length)).toArray = w := by
      simp only [List.map_nil, List.append_nil, List.length_nil, Nat.add_zero, List.take_append_drop]
      exact setRow_self w g _ t _ hg
    rw [e] at h
    exact h
  · obtain ⟨b, oo, rfl, hc⟩ := hr hn
    have hrun := run_copy_row (P := P) w dT sT o.type elem g off dLen dCap ⟨b, oo, none⟩ L.length sCap cur.toArray t (L.map f) hu hsz hg (by rw [List.length_map]; exact (Nat.min_eq_left hle).symm) (fun j v hv => by
      have hj : j < L.length := by simpa using (List.getElem?_eq_some_iff.1 hv).1
      have e1 : (⟨b, oo, none⟩ : Addr).add j = ⟨b, oo + j, none⟩ := by unfold Addr.add; split <;> simp_all
      rw [e1, hc j hj, ← hv]
      simp [hj]) (by simpa using hfit) (map_one hf L)
    unfold Oper.wp
    simp only [execOp, ho, resolve, invoke, builtin, hd, hs, Sem.run_bind, Sem.run_pure, Result.andThen_ok, List.map_toArray, List.map_cons, List.map_nil, hrun]
    have e2 : ((cur.toArray.toList.take off ++ L.map f ++ cur.toArray.toList.drop (off + (L.map f).length)).toArray) = (cur.take off ++ L.map f ++ cur.drop (off + L.length)).toArray := by simp
    have e3 : goInt ((L.map f).length : Nat) = .int .i64 (L.length : Int) := by simp [goInt]
    rw [e2, e3]
    exact h
theorem wpList_copy_row {P : Program} {α : Type} {f : α → Value} {ops : Array Oper} {rest : List Oper} {o : Oper} {a : Act} {w : World} {Q : Exit → Act → World → Prop} (hgd : o.guard = none) (d s : Operand) (dT sT : TypeId)
    (ho : o.op = .call { callee := .builtin .copy, args := #[d, s], argTypes := #[dT, sT] }) (elem : TypeId) (hu : P.underlying dT = some (.slice elem)) (hsz : (P.info? elem).map (·.size) = some 1)
    (g off dLen dCap : Nat) (A : Option Addr) (L : List α) (sCap : Nat) (hd : a.eval d = .slice (some ⟨g, off, none⟩) dLen dCap) (hs : a.eval s = .slice A L.length sCap)
    (cur : List Value) (t : TypeId) (hg : Row w g t cur) (hr : Rd f w A L) (hf : ∀ x, (f x).oneCell' = true) (hle : L.length ≤ dLen) (hfit : off + L.length ≤ cur.length)
    (h : wpList P ops Q rest (a.put o.dst (.int .i64 (L.length : Int))) (w.setRow g (cur.take off ++ L.map f ++ cur.drop (off + L.length)).toArray)) : wpList P ops Q (o :: rest) a w :=
  wpList_plain hgd fun _ hK => wp_copy_row d s dT sT ho elem hu hsz g off dLen dCap A L sCap hd hs cur t hg hr hf hle hfit (hK _ _ h)

end Go.Proofs.YtfalghmgibnjdaaDoor
/-
  What the program's call spread of layer 2 answers: a block's sixteen words, and 48 more. No conditions but those typed.
-/
namespace Go.Proofs.YtfalghmgibnjdaaDoor
set_option maxRecDepth 100000
open Go.RowKit
set_option linter.unusedSimpArgs false

theorem words_64 (b : List UInt8) (A : Option Addr) (c : Nat) (w : World) (H : Hid (b.length = 64)) (hr : Rd vB w A b) (hc : 64 ≤ c) : Calls Tryd.prog 46 #[.slice A 64 c] w (RetS vW w (wordsL b)) := by
  have h := H.out
  have := words_any b A c w hr (by omega) (by omega)
  rwa [h] at this
theorem wordsL_64 (b : List UInt8) (h : b.length = 64) : (wordsL b).length = 16 := by
  have := congrArg List.length (bytesL_wordsL b)
  rw [bytesL_length, List.length_take, h] at this
  omega

/-- The words that are there, and as many zeros as are still to come. -/
def schedL (W0 : List UInt32) (k : Nat) : List UInt32 := moreW k W0 ++ List.replicate (48 - k) 0
theorem schedL_length (W0 : List UInt32) (k : Nat) (h : W0.length = 16) (hk : k ≤ 48) : (schedL W0 k).length = 64 := by
  rw [schedL, List.length_append, moreW_length, List.length_replicate]
  omega
theorem schedL_next (W0 : List UInt32) (k : Nat) (h : W0.length = 16) (hk : k < 48) : (schedL W0 k).set (16 + k) (nextW (moreW k W0)) = schedL W0 (k + 1) := by
  have e : (moreW k W0).length = 16 + k := by rw [moreW_length, h]
  unfold schedL
  rw [List.set_append_right _ _ (by omega), e, Nat.sub_self, moreW, show 48 - k = (48 - (k + 1)) + 1 by omega, List.replicate_succ, List.set_cons_zero]
  simp
theorem schedL_at (W0 : List UInt32) (k j : Nat) (h : W0.length = 16) (hj : j < 16 + k) : ((schedL W0 k).map vW)[j]? = some (.int .u32 (((moreW k W0).getD j 0).toNat : Int)) := by
  have e : (moreW k W0).length = 16 + k := by rw [moreW_length, h]
  rw [schedL, List.map_append, List.getElem?_append_left (by simp; omega)]
  simp [List.getD, e, hj, vW]
theorem schedL_zero (W0 : List UInt32) : schedL W0 0 = W0 ++ List.replicate 48 0 := rfl
theorem schedL_end (W0 : List UInt32) : schedL W0 48 = moreW 48 W0 := by simp [schedL]

def SpreadRel (W0 : List UInt32) (w : World) (i : Value) (wr : World) : Prop :=
  ∃ k : Nat, k ≤ 48 ∧ i = .int .i64 ((16 + k : Nat) : Int) ∧ Row wr (w.heap.size + 1) 63 ((schedL W0 k).map vW) ∧ Row wr w.heap.size 63 (List.replicate 64 (.int .u32 0)) ∧ Below w.heap.size w wr

/-- What a round reads. -/
def SprS (g n : Nat) (x2 x7 x15 x16 : UInt32) (W : World) : Prop :=
  W.cell? ⟨g, n - 2, none⟩ = some (.int .u32 (x2.toNat : Int)) ∧ W.cell? ⟨g, n - 7, none⟩ = some (.int .u32 (x7.toNat : Int)) ∧ W.cell? ⟨g, n - 15, none⟩ = some (.int .u32 (x15.toNat : Int)) ∧ W.cell? ⟨g, n - 16, none⟩ = some (.int .u32 (x16.toNat : Int))

theorem SprS.set {g n : Nat} {x2 x7 x15 x16 : UInt32} {w : World} (hn : 16 ≤ n) (h : SprS g n x2 x7 x15 x16 w) (v : Value) : SprS g n x2 x7 x15 x16 (w.setCell ⟨g, n, none⟩ v) := by
  obtain ⟨h1, h2, h3, h4⟩ := h
  have e : ∀ j, j < n → (w.setCell ⟨g, n, none⟩ v).cell? ⟨g, j, none⟩ = w.cell? ⟨g, j, none⟩ := fun j hj => World.cell?_setCell_other _ _ _ _ (by intro e; injection e with _ e2 _; omega)
  exact ⟨(e _ (by omega)).trans h1, (e _ (by omega)).trans h2, (e _ (by omega)).trans h3, (e _ (by omega)).trans h4⟩
theorem spread_round {W0 : List UInt32} {w wr : World} {k n : Nat} {y : UInt32} (hk : k < 48) (HK : Hid (n = 16 + k)) (HX : Hid ((schedL W0 k).set n y = schedL W0 (k + 1))) (hR1 : Row wr (w.heap.size + 1) 63 ((schedL W0 k).map vW))
    (hR0 : Row wr w.heap.size 63 (List.replicate 64 (.int .u32 0))) (hB : Below w.heap.size w wr) : SpreadRel W0 w (.int .i64 ((n : Int) + 1)) (wr.setCell ⟨w.heap.size + 1, n, none⟩ (.int .u32 (y.toNat : Int))) := by
  have e := HK.out
  refine ⟨k + 1, by omega, by congr 1; omega, ?_, hR0.setCell_other (by simp) _, hB.setCell (by simp) _⟩
  rw [← HX.out, List.map_set]
  exact hR1.setCell n _

section
attribute [local go_sem] u32_add_w u32_add_m u32_mod_w u32_wrap_w
set_option maxRecDepth 100000 in
set_option maxHeartbeats 600000 in
theorem spread_any (b : List UInt8) (A : Option Addr) (c : Nat) (w : World) (HL : Hid (b.length = 64)) (hr : Rd vB w A b) (hc : 64 ≤ c) :
    Calls Tryd.prog 42 #[.slice A 64 c] w fun e w' => e = .returned (.agg ((moreW 48 (wordsL b)).map vW).toArray) ∧ Below w.heap.size w w' := by
  have H16 := Lib.hid (wordsL_64 b HL.out)
  go_enter Tryd.func42, Tryd.ntmps42
  go_wp2_with fail
  refine at_world (Q := Code.wp _ _ _ _) (fun W => Row W w.heap.size 63 (List.replicate 64 (.int .u32 0)) ∧ Row W (w.heap.size + 1) 63 (List.replicate 64 (.int .u32 0)) ∧ Below w.heap.size w W)
    ⟨(Row.new w _ _ _ rfl).alloc _, Row.new_at _ _ (by simp) _ _ _ rfl, below_new (below_new (Below.refl _ _) _) _⟩ ?_
  rintro W ⟨hR0, hR1, hB⟩
  have hrW := hr.keep hB
  clear hr
  refine wp_region_plan_at w.heap.size (.step 0 false (.step 1 false (.step 2 true (.step 3 true (.nil))))) (by kernel_rfl) (by kernel_rfl) (by rfl) (by kernel_rfl) ?_
  have hBase : Below w.heap.size W W.drew := (Below.refl _ _).drew
  iterate 2 (refine plan_read rfl (by rfl) (v := ?_) ?_ ?_; rotate_left 1; (intro W hW; have hW0 := Below.trans hBase hW; (try dsimp only at hW); go_simp <;> with_reducible rfl); simp only [List.getElem_toArray, List.getElem_cons_zero, List.getElem_cons_succ, Act.put, List.setIfInBounds_toArray, List.set_cons_zero, List.set_cons_succ])
  refine plan_make_at rfl (by rfl) (fun K hK => ?_)
  go_simp
  refine (words_64 b _ _ _ HL (by exact hrW) hc).mono ?_
  rintro e w1 ⟨A1, c1, rfl, hc1, hr1, hb1⟩
  refine hK.out _ _ (hb1.mono hB.size) ?_
  clear hK K
  replace hR0 := hR0.drew.later hb1
  replace hR1 := hR1.drew.later hb1
  replace hB := below_step hB.drew hb1
  clear hb1 hrW hBase W
  obtain ⟨W0, e⟩ : ∃ W0, W0 = wordsL b := ⟨_, rfl⟩
  have HE : Hid (wordsL b = W0) := e.symm
  rw [← e] at H16 hr1 hc1 ⊢
  clear e
  refine plan_make_at rfl (by rfl) (fun K hK => ?_)
  refine wp_copy_row (.tmp 5) (.tmp 7) 46 46 (by rfl) 50 Tryd.underlying46 (by kernel_rfl) (w.heap.size + 1) 0 64 64 A1 W0 c1 (by rfl) (by rfl) _ _ hR1 hr1 vW_one (by have := H16.out; omega) (by have := H16.out; simp; omega) ?_
  simp only [List.getElem_toArray, List.getElem_cons_zero, List.getElem_cons_succ, Act.put, List.setIfInBounds_toArray, List.set_cons_zero, List.set_cons_succ]
  refine hK.out _ _ (below_setRow (Below.refl _ _) (by omega) _) ?_
  clear hK K
  refine plan_done ?_
  refine at_world (Q := _) (fun W => Row W w.heap.size 63 (List.replicate 64 (.int .u32 0)) ∧ Row W (w.heap.size + 1) 63 ((schedL W0 0).map vW) ∧ Below w.heap.size w W)
    ⟨hR0.setRow_other (by omega) _, ?_, below_setRow hB (by omega) _⟩ ?_
  · have e : (List.replicate 64 (Value.int .u32 0)).take 0 ++ W0.map vW ++ (List.replicate 64 (Value.int .u32 0)).drop (0 + W0.length) = (schedL W0 0).map vW := by
      rw [H16.out, schedL_zero, List.map_append, List.map_replicate]
      rfl
    rw [e]
    exact hR1.setRow _
  clear hR0 hR1 hB hr1
  rintro W ⟨hR0, hR1, hB⟩
  go_wp2_with fail
  go_loopw [4] (fun i wr => SpreadRel W0 w i wr) (fun i _ => 64 - (intOf i).toNat)
  case atStart => exact ⟨0, by omega, rfl, hR1, hR0, hB⟩
  case round =>
    clear hR0 hR1 hB
    obtain ⟨k, hk, rfl, hR1, hR0, hB⟩ := hrel
    by_cases hlt : k < 48
    · have h16 := H16.out
      have HN : Hid (nextW (moreW k W0) = addW (addW (addW (sig1 ((moreW k W0).getD (16 + k - 2) 0)) ((moreW k W0).getD (16 + k - 7) 0)) (sig0 ((moreW k W0).getD (16 + k - 15) 0))) ((moreW k W0).getD (16 + k - 16) 0)) := by unfold Hid nextW; rw [moreW_length, h16]
      have h15 := hR1.cell (schedL_at W0 k (16 + k - 15) h16 (by omega))
      have h2 := hR1.cell (schedL_at W0 k (16 + k - 2) h16 (by omega))
      have h7 := hR1.cell (schedL_at W0 k (16 + k - 7) h16 (by omega))
      have hh16 := hR1.cell (schedL_at W0 k (16 + k - 16) h16 (by omega))
      have HX : Hid ((schedL W0 k).set (16 + k) (nextW (moreW k W0)) = schedL W0 (k + 1)) := schedL_next W0 k h16 hlt
      have HLn : Hid ((schedL W0 k).length = 64) := schedL_length W0 k h16 hk
      rw [HN.out] at HX
      obtain ⟨n, hn⟩ : ∃ n, n = 16 + k := ⟨_, rfl⟩
      have HK := Lib.hid hn
      rw [← hn] at h15 h2 h7 hh16 HX ⊢
      have hn1 : 16 ≤ n := by omega
      have hn2 : n < 64 := by omega
      clear hn h16 HN
      generalize (moreW k W0).getD (n - 15) 0 = x15 at h15 HX
      generalize (moreW k W0).getD (n - 2) 0 = x2 at h2 HX
      generalize (moreW k W0).getD (n - 7) 0 = x7 at h7 HX
      generalize (moreW k W0).getD (n - 16) 0 = x16 at hh16 HX
      have HS1 : Hid (sig1 x2 = xorW (xorW (rotR x2 17) (rotR x2 19)) (dn x2 10)) := rfl
      have HS0 : Hid (sig0 x15 = xorW (xorW (rotR x15 7) (rotR x15 18)) (dn x15 3)) := rfl
      have hcn : wr.cell? ⟨w.heap.size + 1, n, none⟩ = some (((schedL W0 k).map vW).getD n undef) := hR1.cell (by have := HLn.out; simp [List.getD, this, hn2])
      have hfz : wr.frozen? ⟨w.heap.size + 1, n, none⟩ = false := hR1.frozen n
      have j2 : IntKind.i64.wrap ((n : Int) - 2) = (n : Int) - 2 := by rw [IntKind.wrap_i64]; omega
      have j7 : IntKind.i64.wrap ((n : Int) - 7) = (n : Int) - 7 := by rw [IntKind.wrap_i64]; omega
      have j15 : IntKind.i64.wrap ((n : Int) - 15) = (n : Int) - 15 := by rw [IntKind.wrap_i64]; omega
      have j16 : IntKind.i64.wrap ((n : Int) - 16) = (n : Int) - 16 := by rw [IntKind.wrap_i64]; omega
      have m2 : (2 : Int) ≤ (n : Int) := by omega
      have m7 : (7 : Int) ≤ (n : Int) := by omega
      have m15 : (15 : Int) ≤ (n : Int) := by omega
      have m16 : (16 : Int) ≤ (n : Int) := by omega
      have k2 : (0 : Int) ≤ (n : Int) - 2 := by omega
      have k7 : (0 : Int) ≤ (n : Int) - 7 := by omega
      have k15 : (0 : Int) ≤ (n : Int) - 15 := by omega
      have k16 : (0 : Int) ≤ (n : Int) - 16 := by omega
      have l0 : (n : Int) < 64 := by omega
      have l2 : (n : Int) - 2 < 64 := by omega
      have l7 : (n : Int) - 7 < 64 := by omega
      have l15 : (n : Int) - 15 < 64 := by omega
      have l16 : (n : Int) - 16 < 64 := by omega
      have t2 : ((n : Int) - 2).toNat = n - 2 := by omega
      have t7 : ((n : Int) - 7).toNat = n - 7 := by omega
      have t15 : ((n : Int) - 15).toNat = n - 15 := by omega
      have t16 : ((n : Int) - 16).toNat = n - 16 := by omega
      have p0 : (0 : Int) ≤ (n : Int) := by omega
      have hS : SprS (w.heap.size + 1) n x2 x7 x15 x16 wr.drew := ⟨h2, h7, h15, hh16⟩
      clear h2 h7 h15 hh16
      go_wp2_with fail
      refine wp_region_plan_of (SprS (w.heap.size + 1) n x2 x7 x15 x16) (.step 0 false (.step 1 false (.step 2 false (.step 3 false (.step 4 false (.step 6 false (.step 7 false (.step 8 false (.step 9 false (.step 11 false (.step 12 false (.step 13 false (.step 14 false (.step 17 false (.step 18 false (.step 19 false (.step 20 false (.step 5 true (.step 10 false (.step 15 true (.step 16 false (.step 21 false (.step 22 false (.step 23 true (.nil))))))))))))))))))))))))) hS (by kernel_rfl) (by kernel_rfl) (by rfl) (by kernel_rfl) ?_
      iterate 17 (refine plan_read rfl (by rfl) (v := ?_) ?_ ?_; rotate_left 1; (intro W hW; (try dsimp only at hW); obtain ⟨hW0, hW1⟩ := hW; go_simp <;> with_reducible rfl); simp only [List.getElem_toArray, List.getElem_cons_zero, List.getElem_cons_succ, Act.put, List.setIfInBounds_toArray, List.set_cons_zero, List.set_cons_succ])
      (refine plan_make_of rfl (by rfl) (fun K hK => ?_); go_simp; (refine (mixed_any x2 17 19 10 (by omega) (by omega) (by omega) _).mono ?_; rintro e w' ⟨rfl, rfl⟩); refine hK.out _ _ hS ?_; clear hK K)
      iterate 1 (refine plan_read rfl (by rfl) (v := ?_) ?_ ?_; rotate_left 1; (intro W hW; (try dsimp only at hW); obtain ⟨hW0, hW1⟩ := hW; go_simp <;> with_reducible rfl); simp only [List.getElem_toArray, List.getElem_cons_zero, List.getElem_cons_succ, Act.put, List.setIfInBounds_toArray, List.set_cons_zero, List.set_cons_succ])
      (refine plan_make_of rfl (by rfl) (fun K hK => ?_); go_simp; (refine (mixed_any x15 7 18 3 (by omega) (by omega) (by omega) _).mono ?_; rintro e w' ⟨rfl, rfl⟩); refine hK.out _ _ hS ?_; clear hK K)
      iterate 3 (refine plan_read rfl (by rfl) (v := ?_) ?_ ?_; rotate_left 1; (intro W hW; (try dsimp only at hW); obtain ⟨hW0, hW1⟩ := hW; go_simp <;> with_reducible rfl); simp only [List.getElem_toArray, List.getElem_cons_zero, List.getElem_cons_succ, Act.put, List.setIfInBounds_toArray, List.set_cons_zero, List.set_cons_succ])
      clear j2 j7 j15 j16 m2 m7 m15 m16 k2 k7 k15 k16 l2 l7 l15 l16 t2 t7 t15 t16
      refine plan_make_of rfl (by rfl) (fun K hK => ?_)
      go_simp
      refine hK.out _ _ (hS.set hn1 _) ?_
      clear hK K hcn hfz
      refine plan_done ?_
      refine at_world (Q := _) (fun W => SpreadRel W0 w (.int .i64 ((n : Int) + 1)) W) (spread_round hlt HK HX hR1.drew hR0.drew hB.drew) ?_
      intro W HR
      replace HR := Lib.hid HR
      clear hR1 hR0 hB hS HX
      go_wp2_with fail
      go_roundw
      case rel => exact HR.out
      case measure => simp [intOf]; omega
    · have hk48 : k = 48 := by omega
      subst hk48
      have h64 : (moreW 48 W0).length = 64 := by rw [moreW_length, H16.out]
      have HR : Hid (moreW 48 (wordsL b) = moreW 48 W0) := by unfold Hid; rw [HE.out]
      rw [schedL_end] at hR1
      generalize moreW 48 W0 = L at hR1 h64 HR
      have H64 := Lib.hid h64
      have hmo := map_one vW_one L
      have HMO := Lib.hid hmo
      clear h64 hmo
      go_wp2_with (first
        | (with_reducible refine wpList_load_part rfl 63 (.tmp 3) rfl (w.heap.size + 1) 0 rfl _ _ hR1 (L.map vW) List.take_length _ Tryd.underlying63 rfl (by rw [List.length_map, H64.out]; kernel_rfl) ?_)
        | (with_reducible refine wpList_store_row rfl 63 (.tmp 2) (.tmp 36) rfl w.heap.size rfl (L.map vW) rfl _ _ hR0 (by rw [List.length_map, H64.out]; kernel_rfl) (by simp [H64.out]) HMO.out ?_))
      refine bodyPost_ret (results_cell_row (p := 2) (ty := 63) rfl _ _ w.heap.size 63 (L.map vW).toArray (0, 0) _ rfl (hR0.setRow _) Tryd.underlying63 rfl (by rw [List.size_toArray, List.length_map, H64.out]; kernel_rfl)) rfl ⟨by rw [HR.out], below_setRow hB (Nat.le_refl _) _⟩
end
end Go.Proofs.YtfalghmgibnjdaaDoor
/-
  What the program's call behind of layer 2 answers: the state behind a block of 64 bytes. Condition: the package's table holds the sixty-four constants.
-/
namespace Go.Proofs.YtfalghmgibnjdaaDoor
set_option maxRecDepth 100000
open Go.RowKit
set_option linter.unusedSimpArgs false

/-- The package's table. -/
def KTab [Inhabited Tab] (w : World) : Prop := ∀ i, i < 64 → w.cell? ⟨0, i, none⟩ = some (.int .u32 ((kT.getD i 0).toNat : Int))
theorem KTab.keep [Inhabited Tab] {w w' : World} (h : KTab w) (hb : Below w.heap.size w w') : KTab w' := fun i hi => by
  rw [hb.cell (p := ⟨0, i, none⟩) (World.block_lt_of_cell? w _ (h i hi))]
  exact h i hi
theorem KTab.drew [Inhabited Tab] {w : World} (h : KTab w) : KTab w.drew := h
theorem KTab.lt [Inhabited Tab] {w : World} (h : KTab w) : 0 < w.heap.size := World.block_lt_of_cell? w _ (h 0 (by omega))
def kcS (n : Nat) (kc : UInt32) (W : World) : Prop := W.cell? ⟨0, n, none⟩ = some (.int .u32 (kc.toNat : Int)) ∧ True

theorem run_index_agg {P : Program} (w : World) (t e : TypeId) (n : Nat) (cs : Array Value) (i : Nat) (v : Value) (ht : P.underlying t = some (.array n e)) (hz : (sizeOf e).run P w = .ok 1 w) (ha : (isAgg e).run P w = .ok false w) (hi : i < n) (hc : cs[i]? = some v) :
    (Instr.index t (.agg cs) (.int .i64 (i : Int))).run P w = .ok v w := by
  have h1 : (0 : Int) ≤ (i : Int) ∧ (i : Int) < (n : Int) := by omega
  simp [Instr.index, asIntOf, Sem.run_bind, run_underlying ht, h1, hz, part, ha, hc]
  omega

theorem size_st : (Tryd.prog.info? 51).map (·.size) = some 8 := by kernel_rfl
theorem one_st (a b c d e f g h : UInt32) : ∀ v ∈ [Value.int .u32 (a.toNat : Int), .int .u32 (b.toNat : Int), .int .u32 (c.toNat : Int), .int .u32 (d.toNat : Int), .int .u32 (e.toNat : Int), .int .u32 (f.toNat : Int), .int .u32 (g.toNat : Int), .int .u32 (h.toNat : Int)], v.oneCell' = true := map_one vW_one [a, b, c, d, e, f, g, h]

/-- A call that hands back a state. -/
def RetSt (w : World) (s : St) (e : Ending) (w' : World) : Prop := ∃ S : St, Hid (S = s) ∧ e = .returned (.agg #[.int .u32 (S.a.toNat : Int), .int .u32 (S.b.toNat : Int), .int .u32 (S.c.toNat : Int), .int .u32 (S.d.toNat : Int), .int .u32 (S.e.toNat : Int), .int .u32 (S.f.toNat : Int), .int .u32 (S.g.toNat : Int), .int .u32 (S.h.toNat : Int)]) ∧ Below w.heap.size w w'

section
attribute [local go_sem] u32_add_w u32_add_m u32_mod_w u32_wrap_w
set_option maxRecDepth 100000 in
set_option maxHeartbeats 1000000 in
theorem behind_any [Inhabited Tab] (s : St) (b : List UInt8) (A : Option Addr) (c : Nat) (w : World) (HL : Hid (b.length = 64)) (hr : Rd vB w A b) (hc : 64 ≤ c) (HK : Hid (KTab w)) :
    Calls Tryd.prog 37 #[.agg #[.int .u32 (s.a.toNat : Int), .int .u32 (s.b.toNat : Int), .int .u32 (s.c.toNat : Int), .int .u32 (s.d.toNat : Int), .int .u32 (s.e.toNat : Int), .int .u32 (s.f.toNat : Int), .int .u32 (s.g.toNat : Int), .int .u32 (s.h.toNat : Int)], .slice A 64 c] w (RetSt w (s.block b)) := by
  have HB : Hid (s.block b = s.plus (St.rounds (moreW 48 (wordsL b)) 64 s)) := rfl
  have h64 : (moreW 48 (wordsL b)).length = 64 := by rw [moreW_length, wordsL_64 b HL.out]
  go_enter Tryd.func37, Tryd.ntmps37
  go_wp2_with fail
  refine at_world (Q := Code.wp _ _ _ _) (fun W => Row W w.heap.size 51 [.int .u32 (s.a.toNat : Int), .int .u32 (s.b.toNat : Int), .int .u32 (s.c.toNat : Int), .int .u32 (s.d.toNat : Int), .int .u32 (s.e.toNat : Int), .int .u32 (s.f.toNat : Int), .int .u32 (s.g.toNat : Int), .int .u32 (s.h.toNat : Int)] ∧ Row W (w.heap.size + 1) 51 (List.replicate 8 (.int .u32 0)) ∧ Below w.heap.size w W)
    ⟨(Row.new w _ _ _ rfl).alloc _, Row.new_at _ _ (by simp) _ _ _ rfl, below_new (below_new (Below.refl _ _) _) _⟩ ?_
  rintro W ⟨hR0, hR1, hB⟩
  have st0 : ∀ W', Below W.heap.size W W' → W'.cell? ⟨w.heap.size, 0, none⟩ = some (.int .u32 (s.a.toNat : Int)) := fun W' h => (hR0.later h).cell rfl
  have st1 : ∀ W', Below W.heap.size W W' → W'.cell? ⟨w.heap.size, 1, none⟩ = some (.int .u32 (s.b.toNat : Int)) := fun W' h => (hR0.later h).cell rfl
  have st2 : ∀ W', Below W.heap.size W W' → W'.cell? ⟨w.heap.size, 2, none⟩ = some (.int .u32 (s.c.toNat : Int)) := fun W' h => (hR0.later h).cell rfl
  have st3 : ∀ W', Below W.heap.size W W' → W'.cell? ⟨w.heap.size, 3, none⟩ = some (.int .u32 (s.d.toNat : Int)) := fun W' h => (hR0.later h).cell rfl
  have hBase : Below W.heap.size W W.drew := (Below.refl _ _).drew
  refine wp_region_plan (.step 0 false (.step 1 false (.step 2 false (.step 3 false (.step 4 false (.step 5 false (.step 6 false (.step 7 false (.step 8 false (.step 9 false (.step 10 false (.step 11 false (.nil))))))))))))) (by kernel_rfl) (by kernel_rfl) (by rfl) (by kernel_rfl) ?_
  iterate 12 (refine plan_read rfl (by rfl) (v := ?_) ?_ ?_; rotate_left 1; (intro W hW; have hW0 := below_step hBase hW; (try dsimp only at hW); go_simp <;> with_reducible rfl); simp only [List.getElem_toArray, List.getElem_cons_zero, List.getElem_cons_succ, Act.put, List.setIfInBounds_toArray, List.set_cons_zero, List.set_cons_succ])
  refine plan_done ?_
  clear st0 st1 st2 st3 hBase
  go_wp2_with fail
  have st4 : ∀ W', Below W.heap.size W W' → W'.cell? ⟨w.heap.size, 4, none⟩ = some (.int .u32 (s.e.toNat : Int)) := fun W' h => (hR0.later h).cell rfl
  have st5 : ∀ W', Below W.heap.size W W' → W'.cell? ⟨w.heap.size, 5, none⟩ = some (.int .u32 (s.f.toNat : Int)) := fun W' h => (hR0.later h).cell rfl
  have st6 : ∀ W', Below W.heap.size W W' → W'.cell? ⟨w.heap.size, 6, none⟩ = some (.int .u32 (s.g.toNat : Int)) := fun W' h => (hR0.later h).cell rfl
  have st7 : ∀ W', Below W.heap.size W W' → W'.cell? ⟨w.heap.size, 7, none⟩ = some (.int .u32 (s.h.toNat : Int)) := fun W' h => (hR0.later h).cell rfl
  have hBase : Below W.heap.size W W.drew.drew := (Below.refl _ _).drew.drew
  refine wp_region_plan (.step 0 false (.step 1 false (.step 2 false (.step 3 false (.step 4 false (.step 5 false (.step 6 false (.step 7 false (.step 8 false (.step 9 false (.step 10 false (.step 11 false (.nil))))))))))))) (by kernel_rfl) (by kernel_rfl) (by rfl) (by kernel_rfl) ?_
  iterate 12 (refine plan_read rfl (by rfl) (v := ?_) ?_ ?_; rotate_left 1; (intro W hW; have hW0 := below_step hBase hW; (try dsimp only at hW); go_simp <;> with_reducible rfl); simp only [List.getElem_toArray, List.getElem_cons_zero, List.getElem_cons_succ, Act.put, List.setIfInBounds_toArray, List.set_cons_zero, List.set_cons_succ])
  refine plan_done ?_
  clear st4 st5 st6 st7 hBase
  go_wp2_with fail
  refine (spread_any b _ _ _ HL (by exact hr.keep hB.drew.drew) hc).mono ?_
  rintro e wx ⟨rfl, hbx⟩
  replace hR0 := hR0.drew.drew.later hbx
  replace hR1 := hR1.drew.drew.later hbx
  replace hB := below_step hB.drew.drew hbx
  have HKx := Lib.hid (HK.out.keep hB)
  generalize moreW 48 (wordsL b) = L at h64 HB
  have H64 := Lib.hid h64
  clear hbx h64 hr HK W
  go_wp2_with fail
  go_loopw [5, 6, 7, 8, 9, 10, 11, 12, 35] (fun a b c d e f g h i wr => RoundRel s L wx a b c d e f g h i wr) (fun _ _ _ _ _ _ _ _ i _ => 64 - (intOf i).toNat)
  case atStart => exact ⟨0, by omega, rfl, rfl, rfl, rfl, rfl, rfl, rfl, rfl, rfl, Below.refl _ _⟩
  case round =>
    obtain ⟨n, hn, rfl, rfl, rfl, rfl, rfl, rfl, rfl, rfl, rfl, hbr⟩ := hrel
    by_cases hlt : n < 64
    · have hkc : kcS n (kT.getD n 0) wr.drew := ⟨(HKx.out.keep hbr) n hlt, trivial⟩
      have HS : Hid (St.rounds L (n + 1) s = (St.rounds L n s).round (kT.getD n 0) (L.getD n 0)) := rfl
      generalize St.rounds L n s = S at HS
      have HS2 : Hid (∀ wr, Below wx.heap.size wx wr → RoundRel s L wx (.int .u32 ((addW (tW S (kT.getD n 0) (L.getD n 0)) (uW S)).toNat : Int)) (.int .u32 (S.a.toNat : Int)) (.int .u32 (S.b.toNat : Int)) (.int .u32 (S.c.toNat : Int)) (.int .u32 ((addW S.d (tW S (kT.getD n 0) (L.getD n 0))).toNat : Int)) (.int .u32 (S.e.toNat : Int)) (.int .u32 (S.f.toNat : Int)) (.int .u32 (S.g.toNat : Int)) (.int .i64 ((n : Int) + 1)) wr) := fun wr hb => round_next hlt HS hb
      clear HS
      generalize kT.getD n 0 = kc at hkc HS2
      have hix : ∀ W, (Instr.index 63 (.agg (L.map vW).toArray) (.int .i64 (n : Int))).run Tryd.prog W = .ok (.int .u32 ((L.getD n 0).toNat : Int)) W := fun W => run_index_agg W _ 50 64 _ n _ Tryd.underlying63 (by kernel_rfl) (by kernel_rfl) hlt (by have := H64.out; simp [List.getD, this, hlt, vW])
      generalize L.getD n 0 = x at hix HS2
      obtain ⟨sa, sb, sc, sd, se, sf, sg, sh⟩ := S
      dsimp only at HS2 ⊢
      have i0' : (0 : Int) ≤ (n : Int) := by omega
      have i1' : (n : Int) < 64 := by omega
      have hS := hkc
      clear hkc
      go_wp2_with fail
      refine wp_region_plan_of (kcS n kc) (.step 0 false (.step 1 false (.step 4 false (.step 5 false (.step 6 false (.step 9 false (.step 10 false (.step 11 false (.step 13 false (.step 2 true (.step 3 false (.step 7 true (.step 8 false (.step 12 false (.step 14 false (.step 15 false (.nil))))))))))))))))) hS (by kernel_rfl) (by kernel_rfl) (by rfl) (by kernel_rfl) ?_
      iterate 9 (refine plan_read rfl (by rfl) (v := ?_) ?_ ?_; rotate_left 1; (intro W hW; (try dsimp only at hW); obtain ⟨hW0, hW1⟩ := hW; go_simp <;> with_reducible rfl); simp only [List.getElem_toArray, List.getElem_cons_zero, List.getElem_cons_succ, Act.put, List.setIfInBounds_toArray, List.set_cons_zero, List.set_cons_succ])
      (refine plan_make_of rfl (by rfl) (fun K hK => ?_); go_simp; (refine (turned_any se 6 11 25 (by omega) (by omega) (by omega) _).mono ?_; rintro e w' ⟨rfl, rfl⟩); refine hK.out _ _ hS ?_; clear hK K)
      iterate 1 (refine plan_read rfl (by rfl) (v := ?_) ?_ ?_; rotate_left 1; (intro W hW; (try dsimp only at hW); obtain ⟨hW0, hW1⟩ := hW; go_simp <;> with_reducible rfl); simp only [List.getElem_toArray, List.getElem_cons_zero, List.getElem_cons_succ, Act.put, List.setIfInBounds_toArray, List.set_cons_zero, List.set_cons_succ])
      (refine plan_make_of rfl (by rfl) (fun K hK => ?_); go_simp; (refine (choice_any se sf sg _).mono ?_; rintro e w' ⟨rfl, rfl⟩); refine hK.out _ _ hS ?_; clear hK K)
      iterate 4 (refine plan_read rfl (by rfl) (v := ?_) ?_ ?_; rotate_left 1; (intro W hW; (try dsimp only at hW); obtain ⟨hW0, hW1⟩ := hW; go_simp <;> with_reducible rfl); simp only [List.getElem_toArray, List.getElem_cons_zero, List.getElem_cons_succ, Act.put, List.setIfInBounds_toArray, List.set_cons_zero, List.set_cons_succ])
      refine plan_done ?_
      clear hS hix
      go_wp2_with fail
      refine (turned_any sa 2 13 22 (by omega) (by omega) (by omega) _).mono ?_
      rintro e w' ⟨rfl, rfl⟩
      go_wp2_with fail
      refine (majority_any sa sb sc _).mono ?_
      rintro e w' ⟨rfl, rfl⟩
      have HR := Lib.hid (HS2.out _ hbr.drew)
      clear HS2 hbr
      go_wp2_with fail
      go_roundw
      case rel => first | exact HR.out | ((repeat apply Exists.intro); exact ⟨HR.out, rfl⟩)
      case measure => simp [intOf]; omega
    · have hn64 : n = 64 := by omega
      subst hn64
      have HE : Hid (s.block b = s.plus (St.rounds L 64 s)) := HB.out
      generalize St.rounds L 64 s = S at HE
      obtain ⟨sa, sb, sc, sd, se, sf, sg, sh⟩ := S
      dsimp only
      replace hR0 := hR0.later hbr
      replace hR1 := hR1.later hbr
      replace hB := below_step hB hbr
      have c0 : wr.cell? ⟨w.heap.size, 0, none⟩ = some (.int .u32 (s.a.toNat : Int)) := hR0.cell rfl
      have c1 : wr.cell? ⟨w.heap.size, 1, none⟩ = some (.int .u32 (s.b.toNat : Int)) := hR0.cell rfl
      have c2 : wr.cell? ⟨w.heap.size, 2, none⟩ = some (.int .u32 (s.c.toNat : Int)) := hR0.cell rfl
      have c3 : wr.cell? ⟨w.heap.size, 3, none⟩ = some (.int .u32 (s.d.toNat : Int)) := hR0.cell rfl
      have c4 : wr.cell? ⟨w.heap.size, 4, none⟩ = some (.int .u32 (s.e.toNat : Int)) := hR0.cell rfl
      have c5 : wr.cell? ⟨w.heap.size, 5, none⟩ = some (.int .u32 (s.f.toNat : Int)) := hR0.cell rfl
      have c6 : wr.cell? ⟨w.heap.size, 6, none⟩ = some (.int .u32 (s.g.toNat : Int)) := hR0.cell rfl
      have c7 : wr.cell? ⟨w.heap.size, 7, none⟩ = some (.int .u32 (s.h.toNat : Int)) := hR0.cell rfl
      clear hbr
      go_wp2_with (refine wpList_store_row rfl 51 (.tmp 4) (.tmp 106) rfl (w.heap.size + 1) rfl [.int .u32 ((addW s.a sa).toNat : Int), .int .u32 ((addW s.b sb).toNat : Int), .int .u32 ((addW s.c sc).toNat : Int), .int .u32 ((addW s.d sd).toNat : Int), .int .u32 ((addW s.e se).toNat : Int), .int .u32 ((addW s.f sf).toNat : Int), .int .u32 ((addW s.g sg).toNat : Int), .int .u32 ((addW s.h sh).toNat : Int)] rfl _ _ hR1 (by exact size_st) (by exact List.length_replicate) (by exact one_st _ _ _ _ _ _ _ _) ?_)
      refine bodyPost_ret (results_cell_row (p := 4) (ty := 51) (by rfl) _ _ (w.heap.size + 1) 51 _ (0, 0) _ (by rfl) (by exact hR1.setRow _) Tryd.underlying51 (by rfl) (by exact size_st)) (by rfl) ?_
      exact ⟨St.plus s ⟨sa, sb, sc, sd, se, sf, sg, sh⟩, HE.out.symm, rfl, below_setRow hB (by omega) _⟩
end
end Go.Proofs.YtfalghmgibnjdaaDoor
/-
  What bytes.Clone, slices.Clone, slices.Grow (of nil) and slices.Concat answer at lists of bytes: new memory that reads as the bytes did. Conditions: bounds on lengths, as typed.
-/
namespace Go.Proofs.YtfalghmgibnjdaaDoor
set_option maxRecDepth 100000
open Go.RowKit
set_option linter.unusedSimpArgs false

/-- What a call that hands back a slice in new memory says of it. -/
def RetN {α : Type} (f : α → Value) (w : World) (l : List α) (e : Ending) (w' : World) : Prop :=
  ∃ A cap, e = .returned (.slice A l.length cap) ∧ l.length ≤ cap ∧ Rd f w' A l ∧ (∀ a, A = some a → w.heap.size ≤ a.block) ∧ Below w.heap.size w w'
theorem RetN.own {α : Type} {f : α → Value} {w w' : World} {l : List α} {e : TypeId} {v : Value} (h : w'.ownsRow w.heap.size e 1 v l.length (l.map f)) (hb : Below w.heap.size w w') : RetN f w l (.returned v) w' := by
  rcases h.2 with ⟨rfl, h0⟩ | ⟨g, cap, cur, rfl, hg, _, hc, _⟩
  · have hl : l = [] := List.eq_nil_of_length_eq_zero h0
    subst hl
    exact ⟨none, 0, rfl, Nat.le_refl _, Rd.nil, (fun a h => by cases h), hb⟩
  · exact ⟨_, cap, rfl, hc, Rd.own h, (fun a ha => by injection ha with ha; subst ha; exact hg), hb⟩
theorem RetN.ret {α : Type} {f : α → Value} {w w' : World} {l : List α} {e : Ending} (h : RetN f w l e w') : RetS f w l e w' := by
  obtain ⟨A, cap, h1, h2, h3, _, h5⟩ := h
  exact ⟨A, cap, h1, h2, h3, h5⟩

theorem clone_own (b : List UInt8) (A : Option Addr) (c : Nat) (w : World) (hr : Rd vB w A b) (hl : b.length ≤ 70368744177664) : Calls Tryd.prog 17 #[.slice A b.length c] w (RetO 5 vB w b) := by
  obtain ⟨i0, hi, hz0, hz1, hz2⟩ := info_parts info_u8
  cases A with
  | none =>
    have hb : b = [] := by
      by_cases h : b = []
      · exact h
      · obtain ⟨_, _, e, _⟩ := hr h
        cases e
    subst hb
    have hnil : ∀ W, (binOp .eql 22 (.slice none 0 c) (.slice none 0 0)).run Tryd.prog W = .ok (.bool true) W := fun W => Lib.run_eql_slice_nil W _ _ none 0 c 0 0 Tryd.underlying22
    go_enter Tryd.func17, Tryd.ntmps17
    go_wp2_with fail
    go_ret
    exact ⟨_, rfl, World.ownsRow_nil _ _ _ _, Below.refl _ _⟩
  | some a =>
    have hnil : ∀ W, (binOp .eql 22 (.slice (some a) b.length c) (.slice none 0 0)).run Tryd.prog W = .ok (.bool false) W := fun W => Lib.run_eql_slice_nil W _ _ (some a) b.length c 0 0 Tryd.underlying22
    have hown0 : (w.alloc (.cells #[] 5)).ownsRow w.heap.size 5 1 (.slice (some ⟨w.heap.size, 0, none⟩) 0 0) 0 [] := World.ownsRow_made w #[] 0 (Nat.le_refl _) (by unfold maxLen; omega) rfl
    have hr0 : Rd vB (w.alloc (.cells #[] 5)) (some a) b := hr.keep (below_new (Below.refl _ _) _)
    go_enter Tryd.func17, Tryd.ntmps17
    go_wp2_with (at_builtin; refine wpList_append_rd _ rfl (.tmp 5) (.tmp 6) 22 rfl w.heap.size 5 i0 (.int .u8 0) 1 Tryd.underlying22 hi hz0 hz1 hz2 rfl _ _ _ rfl hown0 (some a) b c rfl hr0 vB_one (by unfold maxLen; omega) (by omega) (by simp) ?_; intro v1 w1 hown1 hgrow1)
    go_ret
    rw [Nat.zero_add, List.nil_append] at hown1
    exact ⟨_, rfl, hown1, (below_new (Below.refl _ w) _).grown hgrow1 (by simp) (fun k hk => (hown0.lt k hk).1)⟩
theorem clone_b (b : List UInt8) (A : Option Addr) (c : Nat) (w : World) (hr : Rd vB w A b) (hl : b.length ≤ 70368744177664) : Calls Tryd.prog 17 #[.slice A b.length c] w (RetN vB w b) :=
  (clone_own b A c w hr hl).mono fun e w' ⟨v, he, ho, hb⟩ => by subst he; exact RetN.own ho hb


theorem grow_nil (n : Nat) (w : World) (hn : n ≤ 140737488355328) : Calls Tryd.prog 21 #[.slice none 0 0, .int .i64 (n : Int)] w (RetO 5 vB w []) := by
  obtain ⟨i0, hi, hz0, hz1, hz2⟩ := info_parts info_u8
  by_cases h0 : n = 0
  · subst h0
    go_enter Tryd.func21, Tryd.ntmps21
    go_wp2_with fail
    go_ret
    exact ⟨_, rfl, World.ownsRow_nil _ _ _ _, Below.refl _ _⟩
  · have hp : (0 : Int) < (n : Int) := by omega
    have happ := Lib.run_append_nil_zeros (P := Tryd.prog) w 22 3 22 5 i0 (.int .u8 0) .i64 .i64 Tryd.underlying22 Tryd.underlying3 hi hz0 n (by omega) (by omega) (by omega) (by rw [hz2]; omega)
    have hge := grownCap_ge w n 0 5
    have hle := grownCap_le_maxLen w n 0 5 (by unfold maxLen; omega)
    generalize grownCap w n 0 5 = cap2 at happ hge hle
    have hZs : (Builtin.zeroCells (Value.int .u8 0).cells n ++ Builtin.zeroCells (Value.int .u8 0).cells (cap2 - n)).size = cap2 := by simp [size_zeroCells, Value.cells]; omega
    generalize (Builtin.zeroCells (Value.int .u8 0).cells n ++ Builtin.zeroCells (Value.int .u8 0).cells (cap2 - n)) = Z at happ hZs
    have HO : Hid ((w.drew.alloc (.cells Z 5)).ownsRow w.heap.size 5 1 (.slice (some ⟨w.heap.size, 0, none⟩) 0 cap2) 0 []) := World.ownsRow_made w.drew Z cap2 (Nat.le_refl _) hle (by rw [hZs, Nat.mul_one])
    have HB : Hid (Below w.heap.size w (w.drew.alloc (.cells Z 5))) := (Below.refl _ w).drew.alloc (Nat.le_refl _) _
    unfold maxLen at hle
    clear hZs hge
    go_enter Tryd.func21, Tryd.ntmps21
    go_wp2_with (at_builtin; refine Lib.wpList_append_run _ rfl (.tmp 20) (.tmp 21) _ _ rfl _ _ rfl rfl _ _ happ ?_)
    go_ret
    exact ⟨_, rfl, HO.out, HB.out⟩

/-- A part of what is put together: its memory, its room, its bytes. -/
structure Part where
  A : Option Addr
  cap : Nat
  l : List UInt8
def vPart (p : Part) : Value := .slice p.A p.l.length p.cap
def flatL (ps : List Part) : List UInt8 := ps.flatMap (·.l)
theorem flatL_take (ps : List Part) (k : Nat) (h : k < ps.length) : flatL (ps.take (k + 1)) = flatL (ps.take k) ++ ps[k].l := by
  unfold flatL
  rw [List.take_succ_eq_append_getElem h, List.flatMap_append]
  simp
theorem flatL_le (ps : List Part) (k : Nat) : (flatL (ps.take k)).length ≤ (flatL ps).length := by
  conv => rhs; rw [← List.take_append_drop k ps]
  unfold flatL
  rw [List.flatMap_append, List.length_append]
  omega

def ConcatRel (ps : List Part) (w : World) (v i : Value) (wr : World) : Prop :=
  ∃ k : Nat, k ≤ ps.length ∧ i = .int .i64 (k : Int) ∧ wr.ownsRow w.heap.size 5 1 v (flatL (ps.take k)).length ((flatL (ps.take k)).map vB) ∧ Below w.heap.size w wr
theorem concat_round {ps : List Part} {w wr w1 : World} {k : Nat} {u v : Value} {l : List UInt8} (hk : k < ps.length) (HF : Hid (flatL (ps.take (k + 1)) = flatL (ps.take k) ++ l)) (ho : wr.ownsRow w.heap.size 5 1 u (flatL (ps.take k)).length ((flatL (ps.take k)).map vB)) (hb : Below w.heap.size w wr)
    (ho' : w1.ownsRow w.heap.size 5 1 v ((flatL (ps.take k)).length + l.length) ((flatL (ps.take k)).map vB ++ l.map vB)) (hg : wr.grownBy w1 u.ownBlock) : ConcatRel ps w v (.int .i64 ((k : Int) + 1)) w1 :=
  ⟨k + 1, by omega, by go_num, by rw [HF.out, List.length_append, List.map_append]; exact ho', hb.grown hg hb.size (fun x hx => (ho.lt x hx).1)⟩

theorem concat_own (ps : List Part) (A : Option Addr) (c : Nat) (w : World) (hr : Rd vPart w A ps) (hn : ps.length ≤ 9223372036854775807) (hp : ∀ p ∈ ps, Rd vB w p.A p.l) (hl : (flatL ps).length ≤ 70368744177664) :
    Calls Tryd.prog 14 #[.slice A ps.length c] w (RetO 5 vB w (flatL ps)) := by
  obtain ⟨i0, hi, hz0, hz1, hz2⟩ := info_parts info_u8
  have HP := Lib.hid hp
  clear hp
  go_enter Tryd.func14, Tryd.ntmps14
  go_wp2_with fail
  go_loop [3, 11] (fun v i => ∃ k : Nat, k ≤ ps.length ∧ i = .int .i64 k ∧ v = .int .i64 ((flatL (ps.take k)).length : Int)) (fun _ i => ps.length - (intOf i).toNat)
  case atStart => exact ⟨0, Nat.zero_le _, rfl, rfl⟩
  case round =>
    obtain ⟨k, hk, rfl, rfl⟩ := hrel
    have hle := flatL_le ps k
    by_cases hlt : k < ps.length
    · obtain ⟨blk, o, rfl, hb, hcell⟩ := hr.at hlt
      have hc0 := hcell k hlt
      have HF := Lib.hid (congrArg List.length (flatL_take ps k hlt))
      have hle2 := flatL_le ps (k + 1)
      rw [HF.out, List.length_append] at hle2
      rw [List.length_append] at HF
      generalize ps[k] = p at hc0 HF hle2
      unfold vPart at hc0
      clear hcell hr
      have i1 : (0 : Int) ≤ (k : Int) := by omega
      have i2 : (k : Int) < (ps.length : Int) := by omega
      go_wp2_with fail
      go_round
      case rel => exact ⟨k + 1, by omega, by go_num, by rw [HF.out]; go_num⟩
      case measure => simp [intOf]; omega
    · have hkk : k = ps.length := by omega
      subst hkk
      have HT : Hid (flatL (ps.take ps.length) = flatL ps) := by unfold Hid; rw [List.take_length]
      rw [HT.out] at hle ⊢
      generalize hN : (flatL ps).length = N at hl hle
      have HN := Lib.hid hN
      clear hN
      go_wp2_with fail
      refine (grow_nil N _ (by omega)).mono ?_
      rintro e w1 ⟨v1, rfl, hown1, hb1⟩
      go_wp2_with fail
      go_loopw [6, 27] (fun v i wr => ConcatRel ps w v i wr) (fun _ i _ => ps.length - (intOf i).toNat)
      case atStart => exact ⟨0, Nat.zero_le _, rfl, hown1, hb1⟩
      case round =>
        clear hown1 hb1
        obtain ⟨k, hk, rfl, hown, hbel⟩ := hrel
        by_cases hlt : k < ps.length
        · obtain ⟨blk, o, rfl, hb, hcell⟩ := hr.at hlt
          have hc0 : wr.cell? ⟨blk, o + k, none⟩ = some (vPart ps[k]) := (hbel.cell (p := ⟨blk, o + k, none⟩) hb).trans (hcell k hlt)
          have HF := Lib.hid (flatL_take ps k hlt)
          have hpk := (HP.out ps[k] (List.getElem_mem hlt)).keep hbel
          have hle2 := flatL_le ps (k + 1)
          rw [HF.out, List.length_append, HN.out] at hle2
          generalize ps[k] = p at hc0 HF hle2 hpk
          unfold vPart at hc0
          clear hcell hr
          have i1 : (0 : Int) ≤ (k : Int) := by omega
          have i2 : (k : Int) < (ps.length : Int) := by omega
          go_wp2_with (at_builtin; refine wpList_append_rd _ rfl (.tmp 31) (.tmp 32) 22 rfl w.heap.size 5 i0 (.int .u8 0) 1 Tryd.underlying22 hi hz0 hz1 hz2 rfl _ _ _ rfl hown p.A p.l p.cap rfl hpk vB_one (by unfold maxLen; omega) (by omega) hbel.size ?_; intro v2 w2 hown2 hgrow2)
          go_roundw
          case rel => exact concat_round hlt HF hown hbel hown2 hgrow2
          case measure => simp [intOf]; omega
        · have hkk : k = ps.length := by omega
          subst hkk
          rw [HT.out] at hown
          go_wp2_with fail
          go_ret
          exact ⟨_, rfl, hown, hbel⟩
theorem concat_any (ps : List Part) (A : Option Addr) (c : Nat) (w : World) (hr : Rd vPart w A ps) (hn : ps.length ≤ 9223372036854775807) (hp : ∀ p ∈ ps, Rd vB w p.A p.l) (hl : (flatL ps).length ≤ 70368744177664) :
    Calls Tryd.prog 14 #[.slice A ps.length c] w (RetN vB w (flatL ps)) :=
  (concat_own ps A c w hr hn hp hl).mono fun e w' ⟨v, he, ho, hb⟩ => by subst he; exact RetN.own ho hb
theorem concat_two_own (r b T : List UInt8) (A B : Option Addr) (c d g k : Nat) (w : World) (HT : Hid (T = r ++ b)) (hp : Rd vPart w (some ⟨g, 0, none⟩) [⟨A, c, r⟩, ⟨B, d, b⟩]) (hr : Rd vB w A r) (hb : Rd vB w B b) (hl : T.length ≤ 70368744177664) :
    Calls Tryd.prog 14 #[.slice (some ⟨g, 0, none⟩) 2 k] w (RetO 5 vB w T) := by
  have e : flatL [⟨A, c, r⟩, ⟨B, d, b⟩] = T := by rw [HT.out]; simp [flatL]
  have := concat_own [⟨A, c, r⟩, ⟨B, d, b⟩] (some ⟨g, 0, none⟩) k w hp (by simp) (fun p hp => by
    simp only [List.mem_cons, List.not_mem_nil, or_false] at hp
    rcases hp with rfl | rfl
    · exact hr
    · exact hb) (by rw [e]; exact hl)
  rw [e] at this
  exact this
theorem concat_two (r b T : List UInt8) (A B : Option Addr) (c d g k : Nat) (w : World) (HT : Hid (T = r ++ b)) (hp : Rd vPart w (some ⟨g, 0, none⟩) [⟨A, c, r⟩, ⟨B, d, b⟩]) (hr : Rd vB w A r) (hb : Rd vB w B b) (hl : T.length ≤ 70368744177664) :
    Calls Tryd.prog 14 #[.slice (some ⟨g, 0, none⟩) 2 k] w (RetN vB w T) := by
  have e : flatL [⟨A, c, r⟩, ⟨B, d, b⟩] = T := by rw [HT.out]; simp [flatL]
  have := concat_any [⟨A, c, r⟩, ⟨B, d, b⟩] (some ⟨g, 0, none⟩) k w hp (by simp) (fun p hp => by
    simp only [List.mem_cons, List.not_mem_nil, or_false] at hp
    rcases hp with rfl | rfl
    · exact hr
    · exact hb) (by rw [e]; exact hl)
  rw [e] at this
  exact this

end Go.Proofs.YtfalghmgibnjdaaDoor
/-
  What the program's calls Start, Block and wholeBlocks of layer 2 answer. Condition: the package's table holds the sixty-four constants.
-/
namespace Go.Proofs.YtfalghmgibnjdaaDoor
set_option maxRecDepth 100000
open Go.RowKit
set_option linter.unusedSimpArgs false

/-- What is left of a text behind its whole blocks. -/
def restL (b : List UInt8) : List UInt8 := b.drop (b.length / 64 * 64)
theorem restL_length (b : List UInt8) : (restL b).length = b.length % 64 := by rw [restL, List.length_drop]; omega
theorem restL_short (b : List UInt8) (h : b.length < 64) : restL b = b := by rw [restL, show b.length / 64 * 64 = 0 by omega]; rfl
theorem restL_step (b : List UInt8) (h : 64 ≤ b.length) : restL b = restL (b.drop 64) := by
  rw [restL, restL, List.drop_drop, List.length_drop, show 64 + (b.length - 64) / 64 * 64 = b.length / 64 * 64 by omega]

theorem start_any (w : World) : Calls Tryd.prog 31 #[] w fun e w' => ∃ S : St, Hid (S = startSt) ∧ e = .returned (.agg #[.int .u32 (S.a.toNat : Int), .int .u32 (S.b.toNat : Int), .int .u32 (S.c.toNat : Int), .int .u32 (S.d.toNat : Int), .int .u32 (S.e.toNat : Int), .int .u32 (S.f.toNat : Int), .int .u32 (S.g.toNat : Int), .int .u32 (S.h.toNat : Int), .slice none 0 0, .int .u64 0]) ∧ Below w.heap.size w w' := by
  go_enter Tryd.func31, Tryd.ntmps31
  go_wp2_with fail
  refine bodyPost_ret (results_cell_row (p := 0) (ty := 55) (by rfl) _ _ w.heap.size 55 _ (0, 0) _ (by rfl) (by exact Row.new w _ _ _ rfl) Tryd.underlying55 (by rfl) (by kernel_rfl)) (by rfl) ?_
  exact ⟨startSt, rfl, rfl, below_new (Below.refl _ _) _⟩

def BlocksRel [Inhabited Tab] (s : St) (b : List UInt8) (A0 : Option Addr) (w : World) (v : Value) (wr : World) : Prop :=
  ∃ (S : St) (M : List UInt8) (A : Option Addr) (c : Nat), v = .slice A M.length c ∧ M.length ≤ c ∧ M.length ≤ b.length ∧ (∀ W, Rd vB W A0 b → Rd vB W A M) ∧ s.from b = S.from M ∧ restL b = restL M ∧
    Row wr w.heap.size 51 [.int .u32 (S.a.toNat : Int), .int .u32 (S.b.toNat : Int), .int .u32 (S.c.toNat : Int), .int .u32 (S.d.toNat : Int), .int .u32 (S.e.toNat : Int), .int .u32 (S.f.toNat : Int), .int .u32 (S.g.toNat : Int), .int .u32 (S.h.toNat : Int)] ∧ Row wr (w.heap.size + 1) 51 (List.replicate 8 (.int .u32 0)) ∧ Below w.heap.size w wr

set_option maxHeartbeats 1000000 in
theorem wholeBlocks_any [Inhabited Tab] (s : St) (b : List UInt8) (A : Option Addr) (c : Nat) (w : World) (hr : Rd vB w A b) (hc : b.length ≤ c) (hl : b.length ≤ 9223372036854775807) (HK : Hid (KTab w)) :
    Calls Tryd.prog 30 #[.agg #[.int .u32 (s.a.toNat : Int), .int .u32 (s.b.toNat : Int), .int .u32 (s.c.toNat : Int), .int .u32 (s.d.toNat : Int), .int .u32 (s.e.toNat : Int), .int .u32 (s.f.toNat : Int), .int .u32 (s.g.toNat : Int), .int .u32 (s.h.toNat : Int)], .slice A b.length c] w fun e w' => ∃ (S : St) (A' : Option Addr) (c' : Nat), Hid (S = s.from b) ∧ e = .returned (.tuple #[.agg #[.int .u32 (S.a.toNat : Int), .int .u32 (S.b.toNat : Int), .int .u32 (S.c.toNat : Int), .int .u32 (S.d.toNat : Int), .int .u32 (S.e.toNat : Int), .int .u32 (S.f.toNat : Int), .int .u32 (S.g.toNat : Int), .int .u32 (S.h.toNat : Int)], .slice A' (restL b).length c']) ∧ (restL b).length ≤ c' ∧ (∀ W, Rd vB W A b → Rd vB W A' (restL b)) ∧ Below w.heap.size w w' := by
  go_enter Tryd.func30, Tryd.ntmps30
  go_wp2_with fail
  refine at_world (Q := Code.wp _ _ _ _) (fun W => Row W w.heap.size 51 [.int .u32 (s.a.toNat : Int), .int .u32 (s.b.toNat : Int), .int .u32 (s.c.toNat : Int), .int .u32 (s.d.toNat : Int), .int .u32 (s.e.toNat : Int), .int .u32 (s.f.toNat : Int), .int .u32 (s.g.toNat : Int), .int .u32 (s.h.toNat : Int)] ∧ Row W (w.heap.size + 1) 51 (List.replicate 8 (.int .u32 0)) ∧ Below w.heap.size w W)
    ⟨(Row.new w _ _ _ rfl).alloc _, Row.new_at _ _ (by simp) _ _ _ rfl, below_new (below_new (Below.refl _ _) _) _⟩ ?_
  rintro W ⟨hR0, hR1, hB⟩
  go_loopw [1] (fun v wr => BlocksRel s b A w v wr) (fun v _ => sliceLen v)
  case atStart => exact ⟨s, b, A, c, rfl, hc, Nat.le_refl _, fun _ h => h, rfl, rfl, hR0, hR1, hB⟩
  case round =>
    clear hR0 hR1 hB hc
    obtain ⟨S, M, A1, c1, rfl, hc1, hMl, hall, hfr, hrs, hR0, hR1, hB⟩ := hrel
    have HA := Lib.hid hall
    have hr1 := hall w hr
    clear hall
    have HF := Lib.hid hfr
    have HR := Lib.hid hrs
    clear hfr hrs
    by_cases h64 : 64 ≤ M.length
    · obtain ⟨blk, o, rfl, hb, _⟩ := hr1.at (k := 0) (by omega)
      have hr64 : Rd vB w (some ⟨blk, o, none⟩) (M.take 64) := hr1.take 64
      have HL : Hid ((M.take 64).length = 64) := by unfold Hid; rw [List.length_take]; omega
      have hrd : Hid (∀ W, Rd vB W A b → Rd vB W (if c1 = 64 then some ⟨blk, o, none⟩ else some ⟨blk, o + 64, none⟩) (M.drop 64)) := fun W h => by
        have := (HA.out W h).drop 64 c1 hc1
        simpa [Addr.add] using this
      have HF2 : Hid (s.from b = (S.block (M.take 64)).from (M.drop 64)) := by unfold Hid; rw [HF.out]; exact from_step S M h64
      have HR2 : Hid (restL b = restL (M.drop 64)) := by unfold Hid; rw [HR.out]; exact restL_step M h64
      have hmd : (M.drop 64).length = M.length - 64 := List.length_drop
      obtain ⟨D, hD⟩ : ∃ D, D = M.drop 64 := ⟨_, rfl⟩
      rw [← hD] at hrd HF2 HR2 hmd
      have HD := Lib.hid hmd
      generalize M.take 64 = T at hr64 HL HF2
      clear hD hmd hr1 HF HR HA
      have hc64 : 64 ≤ c1 := by omega
      have hc64' : (64 : Int) ≤ (c1 : Int) := by omega
      go_wp2_with fail
      refine wp_region_plan_of (fun _ => True) (.step 1 false (.step 2 false (.step 0 true (.step 3 true (.step 4 true (.nil)))))) trivial (by kernel_rfl) (by kernel_rfl) (by rfl) (by kernel_rfl) ?_
      iterate 2 (refine plan_read rfl (by rfl) (v := ?_) ?_ ?_; rotate_left 1; (intro W hW; go_simp <;> with_reducible rfl); simp only [List.getElem_toArray, List.getElem_cons_zero, List.getElem_cons_succ, Act.put, List.setIfInBounds_toArray, List.set_cons_zero, List.set_cons_succ])
      refine plan_make_of rfl (by rfl) (fun K hK => ?_)
      refine wp_load_mid 51 (.tmp 2) (by rfl) w.heap.size 0 (by rfl) [.int .u32 (S.a.toNat : Int), .int .u32 (S.b.toNat : Int), .int .u32 (S.c.toNat : Int), .int .u32 (S.d.toNat : Int), .int .u32 (S.e.toNat : Int), .int .u32 (S.f.toNat : Int), .int .u32 (S.g.toNat : Int), .int .u32 (S.h.toNat : Int)] _ hR0.drew.range Tryd.underlying51 (by rfl) (by exact size_st) ?_
      simp only [List.getElem_toArray, List.getElem_cons_zero, List.getElem_cons_succ, Act.put, List.setIfInBounds_toArray, List.set_cons_zero, List.set_cons_succ]
      refine hK.out _ _ trivial ?_
      clear hK K
      refine plan_make_of rfl (by rfl) (fun K hK => ?_)
      go_simp
      refine (behind_any S T _ _ _ HL (by exact hr64.keep hB.drew) hc64 (by exact Lib.hid (HK.out.keep hB.drew))).mono ?_
      rintro e w1 ⟨S1, HS1, rfl, hb1⟩
      refine hK.out _ _ trivial ?_
      clear hK K
      replace hR0 := hR0.drew.later hb1
      replace hR1 := hR1.drew.later hb1
      replace hB := below_step hB.drew hb1
      clear hb1
      refine plan_make_of rfl (by rfl) (fun K hK => ?_)
      refine hR0.wp_store 51 (.tmp 2) (.tmp 12) (by rfl) (by rfl) [.int .u32 (S1.a.toNat : Int), .int .u32 (S1.b.toNat : Int), .int .u32 (S1.c.toNat : Int), .int .u32 (S1.d.toNat : Int), .int .u32 (S1.e.toNat : Int), .int .u32 (S1.f.toNat : Int), .int .u32 (S1.g.toNat : Int), .int .u32 (S1.h.toNat : Int)] (by rfl) (by exact size_st) (by rfl) (by exact one_st _ _ _ _ _ _ _ _) ?_
      simp only [List.getElem_toArray, List.getElem_cons_zero, List.getElem_cons_succ, Act.put, List.setIfInBounds_toArray, List.set_cons_zero, List.set_cons_succ]
      refine hK.out _ _ trivial ?_
      clear hK K
      refine plan_done ?_
      refine at_world (Q := _) (fun W => Row W w.heap.size 51 [.int .u32 (S1.a.toNat : Int), .int .u32 (S1.b.toNat : Int), .int .u32 (S1.c.toNat : Int), .int .u32 (S1.d.toNat : Int), .int .u32 (S1.e.toNat : Int), .int .u32 (S1.f.toNat : Int), .int .u32 (S1.g.toNat : Int), .int .u32 (S1.h.toNat : Int)] ∧ Row W (w.heap.size + 1) 51 (List.replicate 8 (.int .u32 0)) ∧ Below w.heap.size w W)
        ⟨hR0.setRow _, hR1.setRow_other (by omega) _, below_setRow hB (Nat.le_refl _) _⟩ ?_
      clear hR0 hR1 hB
      rintro W2 ⟨hR0, hR1, hB⟩
      have HRel : Hid (BlocksRel s b A w (.slice (if c1 = 64 then some ⟨blk, o, none⟩ else some ⟨blk, o + 64, none⟩) (M.length - 64) (c1 - 64)) W2) := by
        have e := HD.out
        refine ⟨S1, D, _, c1 - 64, by rw [e], by omega, by omega, hrd.out, ?_, HR2.out, hR0, hR1, hB⟩
        rw [HS1.out]
        exact HF2.out
      clear hrd HF2 HR2 hR0 hR1 hB HS1 HD HL hr64
      go_wp2_with fail
      go_roundw
      case rel => exact HRel.out
      case measure => simp [sliceLen]; omega
    · have HF2 : Hid (S = s.from b) := by unfold Hid; rw [HF.out]; exact (from_stop S M h64).symm
      have HR2 : Hid (restL b = M) := by unfold Hid; rw [HR.out]; exact restL_short M (by omega)
      clear HF HR
      go_wp2_with (first
        | (refine wpList_load_part rfl 51 (.tmp 2) rfl w.heap.size 0 rfl _ _ hR0 [.int .u32 (S.a.toNat : Int), .int .u32 (S.b.toNat : Int), .int .u32 (S.c.toNat : Int), .int .u32 (S.d.toNat : Int), .int .u32 (S.e.toNat : Int), .int .u32 (S.f.toNat : Int), .int .u32 (S.g.toNat : Int), .int .u32 (S.h.toNat : Int)] (by rfl) _ Tryd.underlying51 rfl (by exact size_st) ?_)
        | (refine wpList_store_row rfl 51 (.tmp 4) (.tmp 15) rfl (w.heap.size + 1) rfl [.int .u32 (S.a.toNat : Int), .int .u32 (S.b.toNat : Int), .int .u32 (S.c.toNat : Int), .int .u32 (S.d.toNat : Int), .int .u32 (S.e.toNat : Int), .int .u32 (S.f.toNat : Int), .int .u32 (S.g.toNat : Int), .int .u32 (S.h.toNat : Int)] rfl _ _ hR1 (by exact size_st) (by exact List.length_replicate) (by exact one_st _ _ _ _ _ _ _ _) ?_))
      refine bodyPost_ret (results_row_tmp (p := 4) (u := 5) (ty := 51) (by rfl) _ _ (w.heap.size + 1) 51 _ _ (by rfl) (by exact hR1.setRow _) Tryd.underlying51 (by rfl) (by exact size_st)) (by rfl) ?_
      refine ⟨S, A1, c1, HF2.out, ?_, ?_, ?_, below_setRow hB (Nat.le_succ _) _⟩
      · rw [HR2.out]; rfl
      · rw [HR2.out]; exact hc1
      · rw [HR2.out]; exact HA.out
end Go.Proofs.YtfalghmgibnjdaaDoor
