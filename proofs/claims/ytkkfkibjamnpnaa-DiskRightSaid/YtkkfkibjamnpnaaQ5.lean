/-
  What the reference's calls Write of layer 17 answer. No conditions but those typed.
-/
import Derived.Test.YtkkfkibjamnpnaaQ4
namespace Go.Proofs.Ytkkfkibjamnpnaa
set_option maxRecDepth 100000
open Go.RowKit
set_option linter.unusedSimpArgs false
set_option linter.unusedVariables false


set_option maxHeartbeats 4000000 in
theorem refwrite17_any (x : WD) (D : DK) (k : Int) (b : List UInt8) (C : Option Addr) (m dd : Nat) (w : World) (h : InD w x D) (hf : D.fuse ≤ 9223372036854775807) (hk : D.keep ≤ 9223372036854775807) (HL : Hid (b.length = m)) (hmd : m ≤ dd) (hm : m ≤ 1048576) (hr : Rd vB w C b) :
    Calls Try.prog 9 #[aggD x D, .int .i64 k, .slice C m dd] w (RetF w (writeD D k b).1 (writeD D k b).2) := by
  obtain ⟨i0, hi, hz0, hz1, hz2⟩ := info_parts info_u8
  obtain ⟨hR0, hRr, hB⟩ := two_boxes w 27 27 [Value.slice x.A0 x.n0 x.c0, .int .i64 D.a0.s, .slice x.A1 x.n1 x.c1, .int .i64 D.a1.s, .int .i64 D.fuse, .int .i64 D.keep, .bool D.down] [Value.slice none 0 0, .int .i64 0, .slice none 0 0, .int .i64 0, .int .i64 0, .int .i64 0, .bool false] _ _ rfl rfl
  obtain ⟨SO, hSO⟩ : ∃ SO, writeD D k b = SO := ⟨_, rfl⟩
  rw [hSO]
  have HSO := Lib.hid hSO
  obtain ⟨BK, hBK⟩ : ∃ BK, beginK D k = BK := ⟨_, rfl⟩
  have HBK := Lib.hid hBK
  have hbg := begin17_any x D k
  rw [hBK] at hbg
  clear hSO hBK
  obtain ⟨D1, g, er⟩ := BK
  unfold aggD at hbg
  dsimp only at hbg
  have HBG := Lib.hid hbg
  clear hbg
  have HCA := Lib.hid (begin_cases D k)
  unfold aggD
  go_enter Try.func9, Try.ntmps9
  go_upto_region 1 with fail
  generalize (w.alloc (.cells [Value.slice x.A0 x.n0 x.c0, .int .i64 D.a0.s, .slice x.A1 x.n1 x.c1, .int .i64 D.a1.s, .int .i64 D.fuse, .int .i64 D.keep, .bool D.down].toArray 27)).alloc (.cells [Value.slice none 0 0, .int .i64 0, .slice none 0 0, .int .i64 0, .int .i64 0, .int .i64 0, .bool false].toArray 27) = W at hR0 hRr hB ⊢
  replace h := h.keep hB
  replace hr := hr.keep hB
  have hlt := hRr.lt
  obtain ⟨hRz, hBz⟩ := box_of W 27 [Value.slice none 0 0, .int .i64 0, .slice none 0 0, .int .i64 0, .int .i64 0, .int .i64 0, .bool false] _ rfl
  go_upto_region 2 with (first
    | (refine wpList_load_part rfl 27 (.tmp 3) rfl w.heap.size 0 rfl _ _ hR0 [Value.slice x.A0 x.n0 x.c0, .int .i64 D.a0.s, .slice x.A1 x.n1 x.c1, .int .i64 D.a1.s, .int .i64 D.fuse, .int .i64 D.keep, .bool D.down] (by rfl) _ Try.underlying27 rfl (by exact size_disk) ?_)
    | (refine wpList_store_row rfl 27 (.tmp 8) _ rfl W.heap.size rfl [Value.slice x.A0 x.n0 x.c0, .int .i64 D.a0.s, .slice x.A1 x.n1 x.c1, .int .i64 D.a1.s, .int .i64 D.fuse, .int .i64 D.keep, .bool D.down] rfl _ _ hRz (by exact size_disk) rfl (one_disk x D) ?_))
  have hRw := hRz.setRow [Value.slice x.A0 x.n0 x.c0, .int .i64 D.a0.s, .slice x.A1 x.n1 x.c1, .int .i64 D.a1.s, .int .i64 D.fuse, .int .i64 D.keep, .bool D.down]
  have hBy : Below W.heap.size W ((W.alloc (.cells [Value.slice none 0 0, .int .i64 0, .slice none 0 0, .int .i64 0, .int .i64 0, .int .i64 0, .bool false].toArray 27)).setRow W.heap.size [Value.slice x.A0 x.n0 x.c0, .int .i64 D.a0.s, .slice x.A1 x.n1 x.c1, .int .i64 D.a1.s, .int .i64 D.fuse, .int .i64 D.keep, .bool D.down].toArray) := below_setRow hBz (Nat.le_refl _) _
  replace hR0 := hR0.later hBy
  replace hRr := hRr.later hBy
  replace h := h.keep hBy
  replace hr := hr.keep hBy
  replace hB := below_step hB hBy
  clear hRz hBz hBy
  generalize (W.alloc (.cells [Value.slice none 0 0, .int .i64 0, .slice none 0 0, .int .i64 0, .int .i64 0, .int .i64 0, .bool false].toArray 27)).setRow W.heap.size [Value.slice x.A0 x.n0 x.c0, .int .i64 D.a0.s, .slice x.A1 x.n1 x.c1, .int .i64 D.a1.s, .int .i64 D.fuse, .int .i64 D.keep, .bool D.down].toArray = W1 at hR0 hRr hRw hB h hr ⊢
  have hwl := hRw.lt
  have HBH := Lib.hid (HBG.out W1 h hf)
  go_wp2_with (refine wpList_load_part rfl 27 (.tmp 3) rfl w.heap.size 0 rfl _ _ hR0 [Value.slice x.A0 x.n0 x.c0, .int .i64 D.a0.s, .slice x.A1 x.n1 x.c1, .int .i64 D.a1.s, .int .i64 D.fuse, .int .i64 D.keep, .bool D.down] (by rfl) _ Try.underlying27 rfl (by exact size_disk) ?_)
  refine HBH.out.mono ?_
  rintro e w2 ⟨rfl, hb⟩
  replace hR0 := hR0.later hb
  replace hRr := hRr.later hb
  replace hRw := hRw.later hb
  replace h := h.keep hb
  replace hr := hr.keep hb
  replace hB := below_step hB hb
  clear hb HBH HBG hwl
  dsimp only
  go_upto_region 3 with (refine wpList_store_row rfl 27 (.tmp 3) (.tmp 16) rfl w.heap.size rfl [Value.slice x.A0 x.n0 x.c0, .int .i64 D1.a0.s, .slice x.A1 x.n1 x.c1, .int .i64 D1.a1.s, .int .i64 D1.fuse, .int .i64 D1.keep, .bool D1.down] rfl _ _ hR0 (by exact size_disk) rfl (one_disk x D1) ?_)
  have hR1 := hR0.setRow [Value.slice x.A0 x.n0 x.c0, .int .i64 D1.a0.s, .slice x.A1 x.n1 x.c1, .int .i64 D1.a1.s, .int .i64 D1.fuse, .int .i64 D1.keep, .bool D1.down]
  have hO := (Only.refl w.heap.size w2).setRow [Value.slice x.A0 x.n0 x.c0, .int .i64 D1.a0.s, .slice x.A1 x.n1 x.c1, .int .i64 D1.a1.s, .int .i64 D1.fuse, .int .i64 D1.keep, .bool D1.down].toArray
  replace hRr := hRr.setRow_other (show w.heap.size + 1 ≠ w.heap.size by omega) [Value.slice x.A0 x.n0 x.c0, .int .i64 D1.a0.s, .slice x.A1 x.n1 x.c1, .int .i64 D1.a1.s, .int .i64 D1.fuse, .int .i64 D1.keep, .bool D1.down].toArray
  replace hRw := hRw.setRow_other (show W.heap.size ≠ w.heap.size by omega) [Value.slice x.A0 x.n0 x.c0, .int .i64 D1.a0.s, .slice x.A1 x.n1 x.c1, .int .i64 D1.a1.s, .int .i64 D1.fuse, .int .i64 D1.keep, .bool D1.down].toArray
  replace h := h.no_byte hR0 (cellsD_no x D) hO
  replace hr := hr.no_byte hR0 (cellsD_no x D) hO
  replace hB := hB.trans hO.below
  clear hR0 hO
  generalize w2.setRow w.heap.size [Value.slice x.A0 x.n0 x.c0, .int .i64 D1.a0.s, .slice x.A1 x.n1 x.c1, .int .i64 D1.a1.s, .int .i64 D1.fuse, .int .i64 D1.keep, .bool D1.down].toArray = W2 at hR1 hRr hRw hB h hr ⊢
  rename Row W2 w.heap.size _ _ => hR0
  rcases HCA.out with ⟨er', h1, h2, h3⟩ | ⟨hright, hkk, hdn, h2, h3, h4⟩ | ⟨hright, hkk, hdn, h2, h3, h4⟩
  · rw [HBK.out] at h2
    injection h2 with e1 h2
    injection h2 with e2 e3
    subst e1 e2 e3
    have HST : Hid (SO = (D1, er)) := by rw [← HSO.out]; exact h3 _ _ _
    have n1 : (er == 0) = false := beq_eq_false_iff_ne.2 h1
    have n2 : (er != 0) = true := bne_iff_ne.2 h1
    clear h1 h3 HSO HCA HBK
    go_wp2_with (first | (refine wpList_load_part rfl 27 (.tmp 8) rfl W.heap.size 0 rfl _ _ hRw [Value.slice x.A0 x.n0 x.c0, .int .i64 D1.a0.s, .slice x.A1 x.n1 x.c1, .int .i64 D1.a1.s, .int .i64 D1.fuse, .int .i64 D1.keep, .bool D1.down] (by rfl) _ Try.underlying27 rfl (by exact size_disk) ?_) | (refine wpList_store_row rfl 27 (.tmp 6) _ rfl (w.heap.size + 1) rfl [Value.slice x.A0 x.n0 x.c0, .int .i64 D1.a0.s, .slice x.A1 x.n1 x.c1, .int .i64 D1.a1.s, .int .i64 D1.fuse, .int .i64 D1.keep, .bool D1.down] rfl _ _ hRr (by exact size_disk) rfl (one_disk x D1) ?_))
    refine bodyPost_ret (results_row_tmp (p := 6) (u := 7) (ty := 27) (by rfl) _ _ (w.heap.size + 1) 27 _ _ (by rfl) (by exact hRr.setRow _) Try.underlying27 (by rfl) (by exact size_disk)) (by rfl) ?_
    rw [HST.out]
    exact ⟨x, rfl, h.no_byte hRr (disk_no none 0 0 0 none 0 0 0 0 0 false) ((Only.refl _ _).setRow _), below_setRow hB (by omega) _⟩
  · rw [HBK.out] at h2
    injection h2 with e1 h2
    injection h2 with e2 e3
    subst D1 g er
    try dsimp only at hR0
    clear hdn
    rcases hkk with rfl | rfl
    · have c0 : W2.cell? ⟨w.heap.size, 0, none⟩ = some (.slice x.A0 x.n0 x.c0) := hR0.cell rfl
      have hlK := h.l0
      have hnK := hright.1.2.2
      rw [hlK] at hnK
      have HFULL : Hid ((fun j => decide (1048576 < (getA D j).b.length + b.length)) (0 : Int).toNat = decide (1048576 < x.n0 + m)) := by
        unfold Hid
        show decide (1048576 < D.a0.b.length + b.length) = _
        rw [hlK, HL.out]
      clear hlK
      by_cases hfull : 1048576 < x.n0 + m
      · have HST : Hid (SO = (D, 12)) := by rw [← HSO.out]; exact h3 _ _ _ (HFULL.out.trans (decide_eq_true hfull))
        have hfi : (1048576 : Int) < (x.n0 : Int) + (m : Int) := by omega
        clear h3 h4 HSO HCA HBK HFULL
        go_wp2_with (first | (refine wpList_load_part rfl 27 (.tmp 8) rfl W.heap.size 0 rfl _ _ hRw [Value.slice x.A0 x.n0 x.c0, .int .i64 D.a0.s, .slice x.A1 x.n1 x.c1, .int .i64 D.a1.s, .int .i64 D.fuse, .int .i64 D.keep, .bool D.down] (by rfl) _ Try.underlying27 rfl (by exact size_disk) ?_) | (refine wpList_store_row rfl 27 (.tmp 6) _ rfl (w.heap.size + 1) rfl [Value.slice x.A0 x.n0 x.c0, .int .i64 D.a0.s, .slice x.A1 x.n1 x.c1, .int .i64 D.a1.s, .int .i64 D.fuse, .int .i64 D.keep, .bool D.down] rfl _ _ hRr (by exact size_disk) rfl (one_disk x D) ?_))
        refine bodyPost_ret (results_row_tmp (p := 6) (u := 7) (ty := 27) (by rfl) _ _ (w.heap.size + 1) 27 _ _ (by rfl) (by exact hRr.setRow _) Try.underlying27 (by rfl) (by exact size_disk)) (by rfl) ?_
        rw [HST.out]
        exact ⟨x, rfl, h.no_byte hRr (disk_no none 0 0 0 none 0 0 0 0 0 false) ((Only.refl _ _).setRow _), below_setRow hB (by omega) _⟩
      · have hfi : ¬ (1048576 : Int) < (x.n0 : Int) + (m : Int) := by omega
        have hST := h4 (fun j => decide (1048576 < (getA D j).b.length + b.length)) (fun _ a => ⟨a.b ++ b.take D.keep.toNat, a.s⟩) (fun _ a => ⟨a.b ++ b, a.s⟩) (HFULL.out.trans (decide_eq_false hfull))
        have HST := Lib.hid ((HSO.out.symm.trans (by unfold writeD; exact hST)))
        clear h3 h4 HSO HCA HBK HFULL hST
        have hk0 := hright.2.2.2
        have c5 : W2.cell? ⟨w.heap.size, 5, none⟩ = some (.int .i64 D.keep) := hR0.cell rfl
        by_cases hcut : D.keep < (m : Int)
        · obtain ⟨q, hq⟩ : ∃ q, D.keep.toNat = q := ⟨_, rfl⟩
          rw [hq] at HST
          have hqm : q ≤ m := by omega
          have HLQ : Hid ((b.take q).length = q) := by unfold Hid; rw [List.length_take, HL.out]; omega
          have xc := run_cut_to 22 5 Try.underlying22 size_uint8 C m dd q (by omega)
          rw [show ((q : Nat) : Int) = D.keep by omega] at xc
          have hrL := hr.take q
          obtain ⟨L, hL⟩ : ∃ L, b.take q = L := ⟨_, rfl⟩
          rw [hL] at HLQ hrL HST
          have HS2 : Hid (SO = (loseD ⟨⟨D.a0.b ++ L, D.a0.s⟩, D.a1, D.fuse, D.keep, D.down⟩ D.keep, 14)) := HST.out
          clear HST hL hq hr
          rename Hid (SO = _) => HST
          obtain ⟨z, hz⟩ : ∃ z, x.n0 + q = z := ⟨_, rfl⟩
          have HZ := Lib.hid hz
          have hlk := h.l0
          have hzl : z ≤ 1048576 := by omega
          clear hz
          have hown0 : (W2.alloc (.cells #[] 5)).ownsRow W2.heap.size 5 1 (.slice (some ⟨W2.heap.size, 0, none⟩) 0 0) 0 [] := World.ownsRow_made W2 #[] 0 (Nat.le_refl _) (by unfold maxLen; omega) rfl
          have hrA : Rd vB (W2.alloc (.cells #[] 5)) x.A0 D.a0.b := h.r0.keep (below_new (Below.refl _ _) _)
          have hbA := below_new (Below.refl _ W2) (.cells #[] 5)
          have t2 : (W2.alloc (.cells #[] 5)).cell? ⟨w.heap.size, 0, none⟩ = some (.slice x.A0 x.n0 x.c0) := (hR0.later hbA).cell rfl
          have HLK : Hid (D.a0.b.length = x.n0) := hlk
          clear hlk
          go_upto_region 10 with (first
            | (at_builtin; refine wpList_append_rd _ rfl (.tmp 47) (.tmp 52) 22 rfl W2.heap.size 5 i0 (.int .u8 0) 1 Try.underlying22 hi hz0 hz1 hz2 rfl _ _ _ rfl hown0 x.A0 D.a0.b x.c0 (by rw [HLK.out]; rfl) hrA vB_one (by rw [HLK.out]; unfold maxLen; omega) (by rw [HLK.out]; omega) (by simp) ?_; intro v1 w1 hown1 hgrow1; rw [HLK.out, Nat.zero_add, List.nil_append] at hown1; obtain ⟨E1, g1, rfl, hg1⟩ := own_form hown1; have hB1 : Below W2.heap.size W2 w1 := hbA.grown hgrow1 (by simp) (fun q hq => (hown0.lt q hq).1); have hrb : Rd vB w1 C L := hrL.keep hB1; have hbs := hB1.size)
            | (at_builtin; refine wpList_append_rd _ rfl (.tmp 53) (.tmp 54) 22 rfl W2.heap.size 5 i0 (.int .u8 0) 1 Try.underlying22 hi hz0 hz1 hz2 rfl _ _ _ rfl hown1 C L dd (by rw [HLQ.out]; rfl) hrb vB_one (by rw [HLQ.out]; unfold maxLen; omega) (by rw [HLQ.out]; omega) hbs ?_; intro v2 w3 hown2 hgrow2; rw [HLQ.out, HZ.out, ← List.map_append] at hown2; obtain ⟨E2, g2, rfl, hg2⟩ := own_form hown2; have hB2 : Below W2.heap.size W2 w3 := hB1.grown hgrow2 hbs (fun q hq => (hown1.lt q hq).1); replace hR0 := hR0.later hB2; have f9 := hR0.frozen 0; have c9 : w3.cell? ⟨w.heap.size, 0, none⟩ = some (.slice x.A0 x.n0 x.c0) := hR0.cell rfl))
          have hlz : (D.a0.b ++ L).length = z := by rw [List.length_append, HLK.out, HLQ.out, HZ.out]
          obtain ⟨_, hrZ, _⟩ := own_parts hown2
          have hR9 : Row (w3.setCell ⟨w.heap.size, 0, none⟩ (.slice E2 z g2)) w.heap.size 27 [Value.slice E2 z g2, .int .i64 D.a0.s, .slice x.A1 x.n1 x.c1, .int .i64 D.a1.s, .int .i64 D.fuse, .int .i64 D.keep, .bool D.down] := hR0.setCell 0 _
          have hO : Only w.heap.size w3 (w3.setCell ⟨w.heap.size, 0, none⟩ (.slice E2 z g2)) := (Only.refl _ w3).setCell 0 _
          replace h := (h.keep hB2).no_byte hR0 (cellsD_no x D) hO
          replace hrZ := hrZ.no_byte hR0 (cellsD_no x D) hO
          replace hRr := (hRr.later hB2).setCell_other (p := ⟨w.heap.size, 0, none⟩) (show w.heap.size + 1 ≠ w.heap.size by omega) (.slice E2 z g2)
          replace hB := (below_step hB hB2).trans hO.below
          clear c0 t2 hR0 hRw hO hown0 hrA hbA hown1 hgrow1 hB1 hrb hbs hown2 hgrow2 hB2 f9 c9 hrL
          generalize w3.setCell ⟨w.heap.size, 0, none⟩ (.slice E2 z g2) = W3 at hR9 hRr hB h hrZ ⊢
          have hIn : InD W3 ⟨E2, z, g2, x.A1, x.n1, x.c1⟩ ⟨⟨D.a0.b ++ L, D.a0.s⟩, D.a1, D.fuse, D.keep, D.down⟩ := ⟨hlz, hg2, hrZ, h.l1, h.h1, h.r1⟩
          have HLO := Lib.hid (lose17_any ⟨E2, z, g2, x.A1, x.n1, x.c1⟩ ⟨⟨D.a0.b ++ L, D.a0.s⟩, D.a1, D.fuse, D.keep, D.down⟩ D.keep W3 hIn ⟨hright.1.1, (by have h1 := hright.1.2.1; show D.a0.s ≤ ((D.a0.b ++ L).length : Int); rw [List.length_append]; omega), (by show (D.a0.b ++ L).length ≤ 1048576; rw [hlz]; exact hzl)⟩ hright.2.1 hright.2.2.2 hk)
          have c5 : W3.cell? ⟨w.heap.size, 5, none⟩ = some (.int .i64 D.keep) := hR9.cell rfl
          unfold aggD at HLO
          dsimp only at HLO
          go_wp2_with (refine wpList_load_part rfl 27 (.tmp 3) rfl w.heap.size 0 rfl _ _ hR9 [Value.slice E2 z g2, .int .i64 D.a0.s, .slice x.A1 x.n1 x.c1, .int .i64 D.a1.s, .int .i64 D.fuse, .int .i64 D.keep, .bool D.down] (by rfl) _ Try.underlying27 rfl (by exact size_disk) ?_)
          refine HLO.out.mono ?_
          rintro e w5 ⟨y, rfl, hIn5, hb⟩
          replace hRr := hRr.later hb
          replace hB := below_step hB hb
          clear hb HLO c5 hR9 hIn
          generalize loseD ⟨⟨D.a0.b ++ L, D.a0.s⟩, D.a1, D.fuse, D.keep, D.down⟩ D.keep = DL at HST hIn5 ⊢
          unfold aggD
          go_wp2_with (refine wpList_store_row rfl 27 (.tmp 6) _ rfl (w.heap.size + 1) rfl (cellsD y DL) rfl _ _ hRr (by exact size_disk) rfl (one_disk _ _) ?_)
          refine bodyPost_ret (results_row_tmp (p := 6) (u := 7) (ty := 27) (by rfl) _ _ (w.heap.size + 1) 27 _ _ (by rfl) (by exact hRr.setRow _) Try.underlying27 (by rfl) (by exact size_disk)) (by rfl) ?_
          rw [HST.out]
          exact ⟨y, rfl, hIn5.no_byte hRr (disk_no none 0 0 0 none 0 0 0 0 0 false) ((Only.refl _ _).setRow _), below_setRow hB (by omega) _⟩
        · have HS2 : Hid (SO = (loseD ⟨⟨D.a0.b ++ b, D.a0.s⟩, D.a1, D.fuse, D.keep, D.down⟩ D.keep, 14)) := by
            have h5 := HST.out
            rw [List.take_of_length_le (by rw [HL.out]; omega)] at h5
            exact h5
          clear HST
          rename Hid (SO = _) => HST
          have HLQ := HL
          have hrL := hr
          obtain ⟨q, hq⟩ : ∃ q, m = q := ⟨_, rfl⟩
          subst hq
          obtain ⟨L, hL⟩ : ∃ L, b = L := ⟨_, rfl⟩
          subst hL
          obtain ⟨z, hz⟩ : ∃ z, x.n0 + m = z := ⟨_, rfl⟩
          have HZ := Lib.hid hz
          have hlk := h.l0
          have hzl : z ≤ 1048576 := by omega
          clear hz
          have hown0 : (W2.alloc (.cells #[] 5)).ownsRow W2.heap.size 5 1 (.slice (some ⟨W2.heap.size, 0, none⟩) 0 0) 0 [] := World.ownsRow_made W2 #[] 0 (Nat.le_refl _) (by unfold maxLen; omega) rfl
          have hrA : Rd vB (W2.alloc (.cells #[] 5)) x.A0 D.a0.b := h.r0.keep (below_new (Below.refl _ _) _)
          have hbA := below_new (Below.refl _ W2) (.cells #[] 5)
          have t2 : (W2.alloc (.cells #[] 5)).cell? ⟨w.heap.size, 0, none⟩ = some (.slice x.A0 x.n0 x.c0) := (hR0.later hbA).cell rfl
          have HLK : Hid (D.a0.b.length = x.n0) := hlk
          clear hlk
          go_upto_region 10 with (first
            | (at_builtin; refine wpList_append_rd _ rfl (.tmp 47) (.tmp 52) 22 rfl W2.heap.size 5 i0 (.int .u8 0) 1 Try.underlying22 hi hz0 hz1 hz2 rfl _ _ _ rfl hown0 x.A0 D.a0.b x.c0 (by rw [HLK.out]; rfl) hrA vB_one (by rw [HLK.out]; unfold maxLen; omega) (by rw [HLK.out]; omega) (by simp) ?_; intro v1 w1 hown1 hgrow1; rw [HLK.out, Nat.zero_add, List.nil_append] at hown1; obtain ⟨E1, g1, rfl, hg1⟩ := own_form hown1; have hB1 : Below W2.heap.size W2 w1 := hbA.grown hgrow1 (by simp) (fun q hq => (hown0.lt q hq).1); have hrb : Rd vB w1 C b := hrL.keep hB1; have hbs := hB1.size)
            | (at_builtin; refine wpList_append_rd _ rfl (.tmp 53) (.tmp 54) 22 rfl W2.heap.size 5 i0 (.int .u8 0) 1 Try.underlying22 hi hz0 hz1 hz2 rfl _ _ _ rfl hown1 C b dd (by rw [HLQ.out]; rfl) hrb vB_one (by rw [HLQ.out]; unfold maxLen; omega) (by rw [HLQ.out]; omega) hbs ?_; intro v2 w3 hown2 hgrow2; rw [HLQ.out, HZ.out, ← List.map_append] at hown2; obtain ⟨E2, g2, rfl, hg2⟩ := own_form hown2; have hB2 : Below W2.heap.size W2 w3 := hB1.grown hgrow2 hbs (fun q hq => (hown1.lt q hq).1); replace hR0 := hR0.later hB2; have f9 := hR0.frozen 0; have c9 : w3.cell? ⟨w.heap.size, 0, none⟩ = some (.slice x.A0 x.n0 x.c0) := hR0.cell rfl))
          have hlz : (D.a0.b ++ b).length = z := by rw [List.length_append, HLK.out, HLQ.out, HZ.out]
          obtain ⟨_, hrZ, _⟩ := own_parts hown2
          have hR9 : Row (w3.setCell ⟨w.heap.size, 0, none⟩ (.slice E2 z g2)) w.heap.size 27 [Value.slice E2 z g2, .int .i64 D.a0.s, .slice x.A1 x.n1 x.c1, .int .i64 D.a1.s, .int .i64 D.fuse, .int .i64 D.keep, .bool D.down] := hR0.setCell 0 _
          have hO : Only w.heap.size w3 (w3.setCell ⟨w.heap.size, 0, none⟩ (.slice E2 z g2)) := (Only.refl _ w3).setCell 0 _
          replace h := (h.keep hB2).no_byte hR0 (cellsD_no x D) hO
          replace hrZ := hrZ.no_byte hR0 (cellsD_no x D) hO
          replace hRr := (hRr.later hB2).setCell_other (p := ⟨w.heap.size, 0, none⟩) (show w.heap.size + 1 ≠ w.heap.size by omega) (.slice E2 z g2)
          replace hB := (below_step hB hB2).trans hO.below
          clear c0 t2 hR0 hRw hO hown0 hrA hbA hown1 hgrow1 hB1 hrb hbs hown2 hgrow2 hB2 f9 c9 hrL
          generalize w3.setCell ⟨w.heap.size, 0, none⟩ (.slice E2 z g2) = W3 at hR9 hRr hB h hrZ ⊢
          have hIn : InD W3 ⟨E2, z, g2, x.A1, x.n1, x.c1⟩ ⟨⟨D.a0.b ++ b, D.a0.s⟩, D.a1, D.fuse, D.keep, D.down⟩ := ⟨hlz, hg2, hrZ, h.l1, h.h1, h.r1⟩
          have HLO := Lib.hid (lose17_any ⟨E2, z, g2, x.A1, x.n1, x.c1⟩ ⟨⟨D.a0.b ++ b, D.a0.s⟩, D.a1, D.fuse, D.keep, D.down⟩ D.keep W3 hIn ⟨hright.1.1, (by have h1 := hright.1.2.1; show D.a0.s ≤ ((D.a0.b ++ b).length : Int); rw [List.length_append]; omega), (by show (D.a0.b ++ b).length ≤ 1048576; rw [hlz]; exact hzl)⟩ hright.2.1 hright.2.2.2 hk)
          have c5 : W3.cell? ⟨w.heap.size, 5, none⟩ = some (.int .i64 D.keep) := hR9.cell rfl
          unfold aggD at HLO
          dsimp only at HLO
          go_wp2_with (refine wpList_load_part rfl 27 (.tmp 3) rfl w.heap.size 0 rfl _ _ hR9 [Value.slice E2 z g2, .int .i64 D.a0.s, .slice x.A1 x.n1 x.c1, .int .i64 D.a1.s, .int .i64 D.fuse, .int .i64 D.keep, .bool D.down] (by rfl) _ Try.underlying27 rfl (by exact size_disk) ?_)
          refine HLO.out.mono ?_
          rintro e w5 ⟨y, rfl, hIn5, hb⟩
          replace hRr := hRr.later hb
          replace hB := below_step hB hb
          clear hb HLO c5 hR9 hIn
          generalize loseD ⟨⟨D.a0.b ++ b, D.a0.s⟩, D.a1, D.fuse, D.keep, D.down⟩ D.keep = DL at HST hIn5 ⊢
          unfold aggD
          go_wp2_with (refine wpList_store_row rfl 27 (.tmp 6) _ rfl (w.heap.size + 1) rfl (cellsD y DL) rfl _ _ hRr (by exact size_disk) rfl (one_disk _ _) ?_)
          refine bodyPost_ret (results_row_tmp (p := 6) (u := 7) (ty := 27) (by rfl) _ _ (w.heap.size + 1) 27 _ _ (by rfl) (by exact hRr.setRow _) Try.underlying27 (by rfl) (by exact size_disk)) (by rfl) ?_
          rw [HST.out]
          exact ⟨y, rfl, hIn5.no_byte hRr (disk_no none 0 0 0 none 0 0 0 0 0 false) ((Only.refl _ _).setRow _), below_setRow hB (by omega) _⟩
    · have c0 : W2.cell? ⟨w.heap.size, 2, none⟩ = some (.slice x.A1 x.n1 x.c1) := hR0.cell rfl
      have hlK := h.l1
      have hnK := hright.2.1.2.2
      rw [hlK] at hnK
      have HFULL : Hid ((fun j => decide (1048576 < (getA D j).b.length + b.length)) (1 : Int).toNat = decide (1048576 < x.n1 + m)) := by
        unfold Hid
        show decide (1048576 < D.a1.b.length + b.length) = _
        rw [hlK, HL.out]
      clear hlK
      by_cases hfull : 1048576 < x.n1 + m
      · have HST : Hid (SO = (D, 12)) := by rw [← HSO.out]; exact h3 _ _ _ (HFULL.out.trans (decide_eq_true hfull))
        have hfi : (1048576 : Int) < (x.n1 : Int) + (m : Int) := by omega
        clear h3 h4 HSO HCA HBK HFULL
        go_wp2_with (first | (refine wpList_load_part rfl 27 (.tmp 8) rfl W.heap.size 0 rfl _ _ hRw [Value.slice x.A0 x.n0 x.c0, .int .i64 D.a0.s, .slice x.A1 x.n1 x.c1, .int .i64 D.a1.s, .int .i64 D.fuse, .int .i64 D.keep, .bool D.down] (by rfl) _ Try.underlying27 rfl (by exact size_disk) ?_) | (refine wpList_store_row rfl 27 (.tmp 6) _ rfl (w.heap.size + 1) rfl [Value.slice x.A0 x.n0 x.c0, .int .i64 D.a0.s, .slice x.A1 x.n1 x.c1, .int .i64 D.a1.s, .int .i64 D.fuse, .int .i64 D.keep, .bool D.down] rfl _ _ hRr (by exact size_disk) rfl (one_disk x D) ?_))
        refine bodyPost_ret (results_row_tmp (p := 6) (u := 7) (ty := 27) (by rfl) _ _ (w.heap.size + 1) 27 _ _ (by rfl) (by exact hRr.setRow _) Try.underlying27 (by rfl) (by exact size_disk)) (by rfl) ?_
        rw [HST.out]
        exact ⟨x, rfl, h.no_byte hRr (disk_no none 0 0 0 none 0 0 0 0 0 false) ((Only.refl _ _).setRow _), below_setRow hB (by omega) _⟩
      · have hfi : ¬ (1048576 : Int) < (x.n1 : Int) + (m : Int) := by omega
        have hST := h4 (fun j => decide (1048576 < (getA D j).b.length + b.length)) (fun _ a => ⟨a.b ++ b.take D.keep.toNat, a.s⟩) (fun _ a => ⟨a.b ++ b, a.s⟩) (HFULL.out.trans (decide_eq_false hfull))
        have HST := Lib.hid ((HSO.out.symm.trans (by unfold writeD; exact hST)))
        clear h3 h4 HSO HCA HBK HFULL hST
        have hk0 := hright.2.2.2
        have c5 : W2.cell? ⟨w.heap.size, 5, none⟩ = some (.int .i64 D.keep) := hR0.cell rfl
        by_cases hcut : D.keep < (m : Int)
        · obtain ⟨q, hq⟩ : ∃ q, D.keep.toNat = q := ⟨_, rfl⟩
          rw [hq] at HST
          have hqm : q ≤ m := by omega
          have HLQ : Hid ((b.take q).length = q) := by unfold Hid; rw [List.length_take, HL.out]; omega
          have xc := run_cut_to 22 5 Try.underlying22 size_uint8 C m dd q (by omega)
          rw [show ((q : Nat) : Int) = D.keep by omega] at xc
          have hrL := hr.take q
          obtain ⟨L, hL⟩ : ∃ L, b.take q = L := ⟨_, rfl⟩
          rw [hL] at HLQ hrL HST
          have HS2 : Hid (SO = (loseD ⟨D.a0, ⟨D.a1.b ++ L, D.a1.s⟩, D.fuse, D.keep, D.down⟩ D.keep, 14)) := HST.out
          clear HST hL hq hr
          rename Hid (SO = _) => HST
          obtain ⟨z, hz⟩ : ∃ z, x.n1 + q = z := ⟨_, rfl⟩
          have HZ := Lib.hid hz
          have hlk := h.l1
          have hzl : z ≤ 1048576 := by omega
          clear hz
          have hown0 : (W2.alloc (.cells #[] 5)).ownsRow W2.heap.size 5 1 (.slice (some ⟨W2.heap.size, 0, none⟩) 0 0) 0 [] := World.ownsRow_made W2 #[] 0 (Nat.le_refl _) (by unfold maxLen; omega) rfl
          have hrA : Rd vB (W2.alloc (.cells #[] 5)) x.A1 D.a1.b := h.r1.keep (below_new (Below.refl _ _) _)
          have hbA := below_new (Below.refl _ W2) (.cells #[] 5)
          have t2 : (W2.alloc (.cells #[] 5)).cell? ⟨w.heap.size, 2, none⟩ = some (.slice x.A1 x.n1 x.c1) := (hR0.later hbA).cell rfl
          have HLK : Hid (D.a1.b.length = x.n1) := hlk
          clear hlk
          go_upto_region 10 with (first
            | (at_builtin; refine wpList_append_rd _ rfl (.tmp 47) (.tmp 52) 22 rfl W2.heap.size 5 i0 (.int .u8 0) 1 Try.underlying22 hi hz0 hz1 hz2 rfl _ _ _ rfl hown0 x.A1 D.a1.b x.c1 (by rw [HLK.out]; rfl) hrA vB_one (by rw [HLK.out]; unfold maxLen; omega) (by rw [HLK.out]; omega) (by simp) ?_; intro v1 w1 hown1 hgrow1; rw [HLK.out, Nat.zero_add, List.nil_append] at hown1; obtain ⟨E1, g1, rfl, hg1⟩ := own_form hown1; have hB1 : Below W2.heap.size W2 w1 := hbA.grown hgrow1 (by simp) (fun q hq => (hown0.lt q hq).1); have hrb : Rd vB w1 C L := hrL.keep hB1; have hbs := hB1.size)
            | (at_builtin; refine wpList_append_rd _ rfl (.tmp 53) (.tmp 54) 22 rfl W2.heap.size 5 i0 (.int .u8 0) 1 Try.underlying22 hi hz0 hz1 hz2 rfl _ _ _ rfl hown1 C L dd (by rw [HLQ.out]; rfl) hrb vB_one (by rw [HLQ.out]; unfold maxLen; omega) (by rw [HLQ.out]; omega) hbs ?_; intro v2 w3 hown2 hgrow2; rw [HLQ.out, HZ.out, ← List.map_append] at hown2; obtain ⟨E2, g2, rfl, hg2⟩ := own_form hown2; have hB2 : Below W2.heap.size W2 w3 := hB1.grown hgrow2 hbs (fun q hq => (hown1.lt q hq).1); replace hR0 := hR0.later hB2; have f9 := hR0.frozen 2; have c9 : w3.cell? ⟨w.heap.size, 2, none⟩ = some (.slice x.A1 x.n1 x.c1) := hR0.cell rfl))
          have hlz : (D.a1.b ++ L).length = z := by rw [List.length_append, HLK.out, HLQ.out, HZ.out]
          obtain ⟨_, hrZ, _⟩ := own_parts hown2
          have hR9 : Row (w3.setCell ⟨w.heap.size, 2, none⟩ (.slice E2 z g2)) w.heap.size 27 [Value.slice x.A0 x.n0 x.c0, .int .i64 D.a0.s, .slice E2 z g2, .int .i64 D.a1.s, .int .i64 D.fuse, .int .i64 D.keep, .bool D.down] := hR0.setCell 2 _
          have hO : Only w.heap.size w3 (w3.setCell ⟨w.heap.size, 2, none⟩ (.slice E2 z g2)) := (Only.refl _ w3).setCell 2 _
          replace h := (h.keep hB2).no_byte hR0 (cellsD_no x D) hO
          replace hrZ := hrZ.no_byte hR0 (cellsD_no x D) hO
          replace hRr := (hRr.later hB2).setCell_other (p := ⟨w.heap.size, 2, none⟩) (show w.heap.size + 1 ≠ w.heap.size by omega) (.slice E2 z g2)
          replace hB := (below_step hB hB2).trans hO.below
          clear c0 t2 hR0 hRw hO hown0 hrA hbA hown1 hgrow1 hB1 hrb hbs hown2 hgrow2 hB2 f9 c9 hrL
          generalize w3.setCell ⟨w.heap.size, 2, none⟩ (.slice E2 z g2) = W3 at hR9 hRr hB h hrZ ⊢
          have hIn : InD W3 ⟨x.A0, x.n0, x.c0, E2, z, g2⟩ ⟨D.a0, ⟨D.a1.b ++ L, D.a1.s⟩, D.fuse, D.keep, D.down⟩ := ⟨h.l0, h.h0, h.r0, hlz, hg2, hrZ⟩
          have HLO := Lib.hid (lose17_any ⟨x.A0, x.n0, x.c0, E2, z, g2⟩ ⟨D.a0, ⟨D.a1.b ++ L, D.a1.s⟩, D.fuse, D.keep, D.down⟩ D.keep W3 hIn hright.1 ⟨hright.2.1.1, (by have h1 := hright.2.1.2.1; show D.a1.s ≤ ((D.a1.b ++ L).length : Int); rw [List.length_append]; omega), (by show (D.a1.b ++ L).length ≤ 1048576; rw [hlz]; exact hzl)⟩ hright.2.2.2 hk)
          have c5 : W3.cell? ⟨w.heap.size, 5, none⟩ = some (.int .i64 D.keep) := hR9.cell rfl
          unfold aggD at HLO
          dsimp only at HLO
          go_wp2_with (refine wpList_load_part rfl 27 (.tmp 3) rfl w.heap.size 0 rfl _ _ hR9 [Value.slice x.A0 x.n0 x.c0, .int .i64 D.a0.s, .slice E2 z g2, .int .i64 D.a1.s, .int .i64 D.fuse, .int .i64 D.keep, .bool D.down] (by rfl) _ Try.underlying27 rfl (by exact size_disk) ?_)
          refine HLO.out.mono ?_
          rintro e w5 ⟨y, rfl, hIn5, hb⟩
          replace hRr := hRr.later hb
          replace hB := below_step hB hb
          clear hb HLO c5 hR9 hIn
          generalize loseD ⟨D.a0, ⟨D.a1.b ++ L, D.a1.s⟩, D.fuse, D.keep, D.down⟩ D.keep = DL at HST hIn5 ⊢
          unfold aggD
          go_wp2_with (refine wpList_store_row rfl 27 (.tmp 6) _ rfl (w.heap.size + 1) rfl (cellsD y DL) rfl _ _ hRr (by exact size_disk) rfl (one_disk _ _) ?_)
          refine bodyPost_ret (results_row_tmp (p := 6) (u := 7) (ty := 27) (by rfl) _ _ (w.heap.size + 1) 27 _ _ (by rfl) (by exact hRr.setRow _) Try.underlying27 (by rfl) (by exact size_disk)) (by rfl) ?_
          rw [HST.out]
          exact ⟨y, rfl, hIn5.no_byte hRr (disk_no none 0 0 0 none 0 0 0 0 0 false) ((Only.refl _ _).setRow _), below_setRow hB (by omega) _⟩
        · have HS2 : Hid (SO = (loseD ⟨D.a0, ⟨D.a1.b ++ b, D.a1.s⟩, D.fuse, D.keep, D.down⟩ D.keep, 14)) := by
            have h5 := HST.out
            rw [List.take_of_length_le (by rw [HL.out]; omega)] at h5
            exact h5
          clear HST
          rename Hid (SO = _) => HST
          have HLQ := HL
          have hrL := hr
          obtain ⟨q, hq⟩ : ∃ q, m = q := ⟨_, rfl⟩
          subst hq
          obtain ⟨L, hL⟩ : ∃ L, b = L := ⟨_, rfl⟩
          subst hL
          obtain ⟨z, hz⟩ : ∃ z, x.n1 + m = z := ⟨_, rfl⟩
          have HZ := Lib.hid hz
          have hlk := h.l1
          have hzl : z ≤ 1048576 := by omega
          clear hz
          have hown0 : (W2.alloc (.cells #[] 5)).ownsRow W2.heap.size 5 1 (.slice (some ⟨W2.heap.size, 0, none⟩) 0 0) 0 [] := World.ownsRow_made W2 #[] 0 (Nat.le_refl _) (by unfold maxLen; omega) rfl
          have hrA : Rd vB (W2.alloc (.cells #[] 5)) x.A1 D.a1.b := h.r1.keep (below_new (Below.refl _ _) _)
          have hbA := below_new (Below.refl _ W2) (.cells #[] 5)
          have t2 : (W2.alloc (.cells #[] 5)).cell? ⟨w.heap.size, 2, none⟩ = some (.slice x.A1 x.n1 x.c1) := (hR0.later hbA).cell rfl
          have HLK : Hid (D.a1.b.length = x.n1) := hlk
          clear hlk
          go_upto_region 10 with (first
            | (at_builtin; refine wpList_append_rd _ rfl (.tmp 47) (.tmp 52) 22 rfl W2.heap.size 5 i0 (.int .u8 0) 1 Try.underlying22 hi hz0 hz1 hz2 rfl _ _ _ rfl hown0 x.A1 D.a1.b x.c1 (by rw [HLK.out]; rfl) hrA vB_one (by rw [HLK.out]; unfold maxLen; omega) (by rw [HLK.out]; omega) (by simp) ?_; intro v1 w1 hown1 hgrow1; rw [HLK.out, Nat.zero_add, List.nil_append] at hown1; obtain ⟨E1, g1, rfl, hg1⟩ := own_form hown1; have hB1 : Below W2.heap.size W2 w1 := hbA.grown hgrow1 (by simp) (fun q hq => (hown0.lt q hq).1); have hrb : Rd vB w1 C b := hrL.keep hB1; have hbs := hB1.size)
            | (at_builtin; refine wpList_append_rd _ rfl (.tmp 53) (.tmp 54) 22 rfl W2.heap.size 5 i0 (.int .u8 0) 1 Try.underlying22 hi hz0 hz1 hz2 rfl _ _ _ rfl hown1 C b dd (by rw [HLQ.out]; rfl) hrb vB_one (by rw [HLQ.out]; unfold maxLen; omega) (by rw [HLQ.out]; omega) hbs ?_; intro v2 w3 hown2 hgrow2; rw [HLQ.out, HZ.out, ← List.map_append] at hown2; obtain ⟨E2, g2, rfl, hg2⟩ := own_form hown2; have hB2 : Below W2.heap.size W2 w3 := hB1.grown hgrow2 hbs (fun q hq => (hown1.lt q hq).1); replace hR0 := hR0.later hB2; have f9 := hR0.frozen 2; have c9 : w3.cell? ⟨w.heap.size, 2, none⟩ = some (.slice x.A1 x.n1 x.c1) := hR0.cell rfl))
          have hlz : (D.a1.b ++ b).length = z := by rw [List.length_append, HLK.out, HLQ.out, HZ.out]
          obtain ⟨_, hrZ, _⟩ := own_parts hown2
          have hR9 : Row (w3.setCell ⟨w.heap.size, 2, none⟩ (.slice E2 z g2)) w.heap.size 27 [Value.slice x.A0 x.n0 x.c0, .int .i64 D.a0.s, .slice E2 z g2, .int .i64 D.a1.s, .int .i64 D.fuse, .int .i64 D.keep, .bool D.down] := hR0.setCell 2 _
          have hO : Only w.heap.size w3 (w3.setCell ⟨w.heap.size, 2, none⟩ (.slice E2 z g2)) := (Only.refl _ w3).setCell 2 _
          replace h := (h.keep hB2).no_byte hR0 (cellsD_no x D) hO
          replace hrZ := hrZ.no_byte hR0 (cellsD_no x D) hO
          replace hRr := (hRr.later hB2).setCell_other (p := ⟨w.heap.size, 2, none⟩) (show w.heap.size + 1 ≠ w.heap.size by omega) (.slice E2 z g2)
          replace hB := (below_step hB hB2).trans hO.below
          clear c0 t2 hR0 hRw hO hown0 hrA hbA hown1 hgrow1 hB1 hrb hbs hown2 hgrow2 hB2 f9 c9 hrL
          generalize w3.setCell ⟨w.heap.size, 2, none⟩ (.slice E2 z g2) = W3 at hR9 hRr hB h hrZ ⊢
          have hIn : InD W3 ⟨x.A0, x.n0, x.c0, E2, z, g2⟩ ⟨D.a0, ⟨D.a1.b ++ b, D.a1.s⟩, D.fuse, D.keep, D.down⟩ := ⟨h.l0, h.h0, h.r0, hlz, hg2, hrZ⟩
          have HLO := Lib.hid (lose17_any ⟨x.A0, x.n0, x.c0, E2, z, g2⟩ ⟨D.a0, ⟨D.a1.b ++ b, D.a1.s⟩, D.fuse, D.keep, D.down⟩ D.keep W3 hIn hright.1 ⟨hright.2.1.1, (by have h1 := hright.2.1.2.1; show D.a1.s ≤ ((D.a1.b ++ b).length : Int); rw [List.length_append]; omega), (by show (D.a1.b ++ b).length ≤ 1048576; rw [hlz]; exact hzl)⟩ hright.2.2.2 hk)
          have c5 : W3.cell? ⟨w.heap.size, 5, none⟩ = some (.int .i64 D.keep) := hR9.cell rfl
          unfold aggD at HLO
          dsimp only at HLO
          go_wp2_with (refine wpList_load_part rfl 27 (.tmp 3) rfl w.heap.size 0 rfl _ _ hR9 [Value.slice x.A0 x.n0 x.c0, .int .i64 D.a0.s, .slice E2 z g2, .int .i64 D.a1.s, .int .i64 D.fuse, .int .i64 D.keep, .bool D.down] (by rfl) _ Try.underlying27 rfl (by exact size_disk) ?_)
          refine HLO.out.mono ?_
          rintro e w5 ⟨y, rfl, hIn5, hb⟩
          replace hRr := hRr.later hb
          replace hB := below_step hB hb
          clear hb HLO c5 hR9 hIn
          generalize loseD ⟨D.a0, ⟨D.a1.b ++ b, D.a1.s⟩, D.fuse, D.keep, D.down⟩ D.keep = DL at HST hIn5 ⊢
          unfold aggD
          go_wp2_with (refine wpList_store_row rfl 27 (.tmp 6) _ rfl (w.heap.size + 1) rfl (cellsD y DL) rfl _ _ hRr (by exact size_disk) rfl (one_disk _ _) ?_)
          refine bodyPost_ret (results_row_tmp (p := 6) (u := 7) (ty := 27) (by rfl) _ _ (w.heap.size + 1) 27 _ _ (by rfl) (by exact hRr.setRow _) Try.underlying27 (by rfl) (by exact size_disk)) (by rfl) ?_
          rw [HST.out]
          exact ⟨y, rfl, hIn5.no_byte hRr (disk_no none 0 0 0 none 0 0 0 0 0 false) ((Only.refl _ _).setRow _), below_setRow hB (by omega) _⟩
  · rw [HBK.out] at h2
    injection h2 with e1 h2
    injection h2 with e2 e3
    subst D1 g er
    try dsimp only at hR0
    clear hdn
    rcases hkk with rfl | rfl
    · have c0 : W2.cell? ⟨w.heap.size, 0, none⟩ = some (.slice x.A0 x.n0 x.c0) := hR0.cell rfl
      have hlK := h.l0
      have hnK := hright.1.2.2
      rw [hlK] at hnK
      have HFULL : Hid ((fun j => decide (1048576 < (getA D j).b.length + b.length)) (0 : Int).toNat = decide (1048576 < x.n0 + m)) := by
        unfold Hid
        show decide (1048576 < D.a0.b.length + b.length) = _
        rw [hlK, HL.out]
      clear hlK
      by_cases hfull : 1048576 < x.n0 + m
      · have HST : Hid (SO = (D, 12)) := by rw [← HSO.out]; exact h3 _ _ _ (HFULL.out.trans (decide_eq_true hfull))
        have hfi : (1048576 : Int) < (x.n0 : Int) + (m : Int) := by omega
        clear h3 h4 HSO HCA HBK HFULL
        go_wp2_with (first | (refine wpList_load_part rfl 27 (.tmp 8) rfl W.heap.size 0 rfl _ _ hRw [Value.slice x.A0 x.n0 x.c0, .int .i64 D.a0.s, .slice x.A1 x.n1 x.c1, .int .i64 D.a1.s, .int .i64 D.fuse, .int .i64 D.keep, .bool D.down] (by rfl) _ Try.underlying27 rfl (by exact size_disk) ?_) | (refine wpList_store_row rfl 27 (.tmp 6) _ rfl (w.heap.size + 1) rfl [Value.slice x.A0 x.n0 x.c0, .int .i64 D.a0.s, .slice x.A1 x.n1 x.c1, .int .i64 D.a1.s, .int .i64 D.fuse, .int .i64 D.keep, .bool D.down] rfl _ _ hRr (by exact size_disk) rfl (one_disk x D) ?_))
        refine bodyPost_ret (results_row_tmp (p := 6) (u := 7) (ty := 27) (by rfl) _ _ (w.heap.size + 1) 27 _ _ (by rfl) (by exact hRr.setRow _) Try.underlying27 (by rfl) (by exact size_disk)) (by rfl) ?_
        rw [HST.out]
        exact ⟨x, rfl, h.no_byte hRr (disk_no none 0 0 0 none 0 0 0 0 0 false) ((Only.refl _ _).setRow _), below_setRow hB (by omega) _⟩
      · have hfi : ¬ (1048576 : Int) < (x.n0 : Int) + (m : Int) := by omega
        have hST := h4 (fun j => decide (1048576 < (getA D j).b.length + b.length)) (fun _ a => ⟨a.b ++ b.take D.keep.toNat, a.s⟩) (fun _ a => ⟨a.b ++ b, a.s⟩) (HFULL.out.trans (decide_eq_false hfull))
        have HST := Lib.hid ((HSO.out.symm.trans (by unfold writeD; exact hST)))
        clear h3 h4 HSO HCA HBK HFULL hST
        have HS2 : Hid (SO = (⟨⟨D.a0.b ++ b, D.a0.s⟩, D.a1, (burn D.fuse), D.keep, D.down⟩, 0)) := HST.out
        clear HST
        rename Hid (SO = _) => HST
        have HLQ := HL
        have hrL := hr
        obtain ⟨z, hz⟩ : ∃ z, x.n0 + m = z := ⟨_, rfl⟩
        have HZ := Lib.hid hz
        have hlk := h.l0
        have hzl : z ≤ 1048576 := by omega
        clear hz
        have hown0 : (W2.alloc (.cells #[] 5)).ownsRow W2.heap.size 5 1 (.slice (some ⟨W2.heap.size, 0, none⟩) 0 0) 0 [] := World.ownsRow_made W2 #[] 0 (Nat.le_refl _) (by unfold maxLen; omega) rfl
        have hrA : Rd vB (W2.alloc (.cells #[] 5)) x.A0 D.a0.b := h.r0.keep (below_new (Below.refl _ _) _)
        have hbA := below_new (Below.refl _ W2) (.cells #[] 5)
        have t2 : (W2.alloc (.cells #[] 5)).cell? ⟨w.heap.size, 0, none⟩ = some (.slice x.A0 x.n0 x.c0) := (hR0.later hbA).cell rfl
        have HLK : Hid (D.a0.b.length = x.n0) := hlk
        clear hlk
        go_upto_region 10 with (first
          | (at_builtin; refine wpList_append_rd _ rfl (.tmp 47) (.tmp 52) 22 rfl W2.heap.size 5 i0 (.int .u8 0) 1 Try.underlying22 hi hz0 hz1 hz2 rfl _ _ _ rfl hown0 x.A0 D.a0.b x.c0 (by rw [HLK.out]; rfl) hrA vB_one (by rw [HLK.out]; unfold maxLen; omega) (by rw [HLK.out]; omega) (by simp) ?_; intro v1 w1 hown1 hgrow1; rw [HLK.out, Nat.zero_add, List.nil_append] at hown1; obtain ⟨E1, g1, rfl, hg1⟩ := own_form hown1; have hB1 : Below W2.heap.size W2 w1 := hbA.grown hgrow1 (by simp) (fun q hq => (hown0.lt q hq).1); have hrb : Rd vB w1 C b := hrL.keep hB1; have hbs := hB1.size)
          | (at_builtin; refine wpList_append_rd _ rfl (.tmp 53) (.tmp 54) 22 rfl W2.heap.size 5 i0 (.int .u8 0) 1 Try.underlying22 hi hz0 hz1 hz2 rfl _ _ _ rfl hown1 C b dd (by rw [HLQ.out]; rfl) hrb vB_one (by rw [HLQ.out]; unfold maxLen; omega) (by rw [HLQ.out]; omega) hbs ?_; intro v2 w3 hown2 hgrow2; rw [HLQ.out, HZ.out, ← List.map_append] at hown2; obtain ⟨E2, g2, rfl, hg2⟩ := own_form hown2; have hB2 : Below W2.heap.size W2 w3 := hB1.grown hgrow2 hbs (fun q hq => (hown1.lt q hq).1); replace hR0 := hR0.later hB2; have f9 := hR0.frozen 0; have c9 : w3.cell? ⟨w.heap.size, 0, none⟩ = some (.slice x.A0 x.n0 x.c0) := hR0.cell rfl))
        have hlz : (D.a0.b ++ b).length = z := by rw [List.length_append, HLK.out, HLQ.out, HZ.out]
        obtain ⟨_, hrZ, _⟩ := own_parts hown2
        have hR9 : Row (w3.setCell ⟨w.heap.size, 0, none⟩ (.slice E2 z g2)) w.heap.size 27 [Value.slice E2 z g2, .int .i64 D.a0.s, .slice x.A1 x.n1 x.c1, .int .i64 D.a1.s, .int .i64 (burn D.fuse), .int .i64 D.keep, .bool D.down] := hR0.setCell 0 _
        have hO : Only w.heap.size w3 (w3.setCell ⟨w.heap.size, 0, none⟩ (.slice E2 z g2)) := (Only.refl _ w3).setCell 0 _
        replace h := (h.keep hB2).no_byte hR0 (cellsD_no x { D with fuse := burn D.fuse }) hO
        replace hrZ := hrZ.no_byte hR0 (cellsD_no x { D with fuse := burn D.fuse }) hO
        replace hRr := (hRr.later hB2).setCell_other (p := ⟨w.heap.size, 0, none⟩) (show w.heap.size + 1 ≠ w.heap.size by omega) (.slice E2 z g2)
        replace hB := (below_step hB hB2).trans hO.below
        clear c0 t2 hR0 hRw hO hown0 hrA hbA hown1 hgrow1 hB1 hrb hbs hown2 hgrow2 hB2 f9 c9 hrL
        generalize w3.setCell ⟨w.heap.size, 0, none⟩ (.slice E2 z g2) = W3 at hR9 hRr hB h hrZ ⊢
        have hIn : InD W3 ⟨E2, z, g2, x.A1, x.n1, x.c1⟩ ⟨⟨D.a0.b ++ b, D.a0.s⟩, D.a1, (burn D.fuse), D.keep, D.down⟩ := ⟨hlz, hg2, hrZ, h.l1, h.h1, h.r1⟩
        go_wp2_with (first | (refine wpList_load_part rfl 27 (.tmp 3) rfl w.heap.size 0 rfl _ _ hR9 [Value.slice E2 z g2, .int .i64 D.a0.s, .slice x.A1 x.n1 x.c1, .int .i64 D.a1.s, .int .i64 (burn D.fuse), .int .i64 D.keep, .bool D.down] (by rfl) _ Try.underlying27 rfl (by exact size_disk) ?_) | (refine wpList_store_row rfl 27 (.tmp 6) _ rfl (w.heap.size + 1) rfl [Value.slice E2 z g2, .int .i64 D.a0.s, .slice x.A1 x.n1 x.c1, .int .i64 D.a1.s, .int .i64 (burn D.fuse), .int .i64 D.keep, .bool D.down] rfl _ _ hRr (by exact size_disk) rfl (one_disk ⟨E2, z, g2, x.A1, x.n1, x.c1⟩ ⟨⟨D.a0.b ++ b, D.a0.s⟩, D.a1, (burn D.fuse), D.keep, D.down⟩) ?_))
        refine bodyPost_ret (results_row_tmp (p := 6) (u := 7) (ty := 27) (by rfl) _ _ (w.heap.size + 1) 27 _ _ (by rfl) (by exact hRr.setRow _) Try.underlying27 (by rfl) (by exact size_disk)) (by rfl) ?_
        rw [HST.out]
        exact ⟨⟨E2, z, g2, x.A1, x.n1, x.c1⟩, rfl, hIn.no_byte hRr (disk_no none 0 0 0 none 0 0 0 0 0 false) ((Only.refl _ _).setRow _), below_setRow hB (by omega) _⟩
    · have c0 : W2.cell? ⟨w.heap.size, 2, none⟩ = some (.slice x.A1 x.n1 x.c1) := hR0.cell rfl
      have hlK := h.l1
      have hnK := hright.2.1.2.2
      rw [hlK] at hnK
      have HFULL : Hid ((fun j => decide (1048576 < (getA D j).b.length + b.length)) (1 : Int).toNat = decide (1048576 < x.n1 + m)) := by
        unfold Hid
        show decide (1048576 < D.a1.b.length + b.length) = _
        rw [hlK, HL.out]
      clear hlK
      by_cases hfull : 1048576 < x.n1 + m
      · have HST : Hid (SO = (D, 12)) := by rw [← HSO.out]; exact h3 _ _ _ (HFULL.out.trans (decide_eq_true hfull))
        have hfi : (1048576 : Int) < (x.n1 : Int) + (m : Int) := by omega
        clear h3 h4 HSO HCA HBK HFULL
        go_wp2_with (first | (refine wpList_load_part rfl 27 (.tmp 8) rfl W.heap.size 0 rfl _ _ hRw [Value.slice x.A0 x.n0 x.c0, .int .i64 D.a0.s, .slice x.A1 x.n1 x.c1, .int .i64 D.a1.s, .int .i64 D.fuse, .int .i64 D.keep, .bool D.down] (by rfl) _ Try.underlying27 rfl (by exact size_disk) ?_) | (refine wpList_store_row rfl 27 (.tmp 6) _ rfl (w.heap.size + 1) rfl [Value.slice x.A0 x.n0 x.c0, .int .i64 D.a0.s, .slice x.A1 x.n1 x.c1, .int .i64 D.a1.s, .int .i64 D.fuse, .int .i64 D.keep, .bool D.down] rfl _ _ hRr (by exact size_disk) rfl (one_disk x D) ?_))
        refine bodyPost_ret (results_row_tmp (p := 6) (u := 7) (ty := 27) (by rfl) _ _ (w.heap.size + 1) 27 _ _ (by rfl) (by exact hRr.setRow _) Try.underlying27 (by rfl) (by exact size_disk)) (by rfl) ?_
        rw [HST.out]
        exact ⟨x, rfl, h.no_byte hRr (disk_no none 0 0 0 none 0 0 0 0 0 false) ((Only.refl _ _).setRow _), below_setRow hB (by omega) _⟩
      · have hfi : ¬ (1048576 : Int) < (x.n1 : Int) + (m : Int) := by omega
        have hST := h4 (fun j => decide (1048576 < (getA D j).b.length + b.length)) (fun _ a => ⟨a.b ++ b.take D.keep.toNat, a.s⟩) (fun _ a => ⟨a.b ++ b, a.s⟩) (HFULL.out.trans (decide_eq_false hfull))
        have HST := Lib.hid ((HSO.out.symm.trans (by unfold writeD; exact hST)))
        clear h3 h4 HSO HCA HBK HFULL hST
        have HS2 : Hid (SO = (⟨D.a0, ⟨D.a1.b ++ b, D.a1.s⟩, (burn D.fuse), D.keep, D.down⟩, 0)) := HST.out
        clear HST
        rename Hid (SO = _) => HST
        have HLQ := HL
        have hrL := hr
        obtain ⟨z, hz⟩ : ∃ z, x.n1 + m = z := ⟨_, rfl⟩
        have HZ := Lib.hid hz
        have hlk := h.l1
        have hzl : z ≤ 1048576 := by omega
        clear hz
        have hown0 : (W2.alloc (.cells #[] 5)).ownsRow W2.heap.size 5 1 (.slice (some ⟨W2.heap.size, 0, none⟩) 0 0) 0 [] := World.ownsRow_made W2 #[] 0 (Nat.le_refl _) (by unfold maxLen; omega) rfl
        have hrA : Rd vB (W2.alloc (.cells #[] 5)) x.A1 D.a1.b := h.r1.keep (below_new (Below.refl _ _) _)
        have hbA := below_new (Below.refl _ W2) (.cells #[] 5)
        have t2 : (W2.alloc (.cells #[] 5)).cell? ⟨w.heap.size, 2, none⟩ = some (.slice x.A1 x.n1 x.c1) := (hR0.later hbA).cell rfl
        have HLK : Hid (D.a1.b.length = x.n1) := hlk
        clear hlk
        go_upto_region 10 with (first
          | (at_builtin; refine wpList_append_rd _ rfl (.tmp 47) (.tmp 52) 22 rfl W2.heap.size 5 i0 (.int .u8 0) 1 Try.underlying22 hi hz0 hz1 hz2 rfl _ _ _ rfl hown0 x.A1 D.a1.b x.c1 (by rw [HLK.out]; rfl) hrA vB_one (by rw [HLK.out]; unfold maxLen; omega) (by rw [HLK.out]; omega) (by simp) ?_; intro v1 w1 hown1 hgrow1; rw [HLK.out, Nat.zero_add, List.nil_append] at hown1; obtain ⟨E1, g1, rfl, hg1⟩ := own_form hown1; have hB1 : Below W2.heap.size W2 w1 := hbA.grown hgrow1 (by simp) (fun q hq => (hown0.lt q hq).1); have hrb : Rd vB w1 C b := hrL.keep hB1; have hbs := hB1.size)
          | (at_builtin; refine wpList_append_rd _ rfl (.tmp 53) (.tmp 54) 22 rfl W2.heap.size 5 i0 (.int .u8 0) 1 Try.underlying22 hi hz0 hz1 hz2 rfl _ _ _ rfl hown1 C b dd (by rw [HLQ.out]; rfl) hrb vB_one (by rw [HLQ.out]; unfold maxLen; omega) (by rw [HLQ.out]; omega) hbs ?_; intro v2 w3 hown2 hgrow2; rw [HLQ.out, HZ.out, ← List.map_append] at hown2; obtain ⟨E2, g2, rfl, hg2⟩ := own_form hown2; have hB2 : Below W2.heap.size W2 w3 := hB1.grown hgrow2 hbs (fun q hq => (hown1.lt q hq).1); replace hR0 := hR0.later hB2; have f9 := hR0.frozen 2; have c9 : w3.cell? ⟨w.heap.size, 2, none⟩ = some (.slice x.A1 x.n1 x.c1) := hR0.cell rfl))
        have hlz : (D.a1.b ++ b).length = z := by rw [List.length_append, HLK.out, HLQ.out, HZ.out]
        obtain ⟨_, hrZ, _⟩ := own_parts hown2
        have hR9 : Row (w3.setCell ⟨w.heap.size, 2, none⟩ (.slice E2 z g2)) w.heap.size 27 [Value.slice x.A0 x.n0 x.c0, .int .i64 D.a0.s, .slice E2 z g2, .int .i64 D.a1.s, .int .i64 (burn D.fuse), .int .i64 D.keep, .bool D.down] := hR0.setCell 2 _
        have hO : Only w.heap.size w3 (w3.setCell ⟨w.heap.size, 2, none⟩ (.slice E2 z g2)) := (Only.refl _ w3).setCell 2 _
        replace h := (h.keep hB2).no_byte hR0 (cellsD_no x { D with fuse := burn D.fuse }) hO
        replace hrZ := hrZ.no_byte hR0 (cellsD_no x { D with fuse := burn D.fuse }) hO
        replace hRr := (hRr.later hB2).setCell_other (p := ⟨w.heap.size, 2, none⟩) (show w.heap.size + 1 ≠ w.heap.size by omega) (.slice E2 z g2)
        replace hB := (below_step hB hB2).trans hO.below
        clear c0 t2 hR0 hRw hO hown0 hrA hbA hown1 hgrow1 hB1 hrb hbs hown2 hgrow2 hB2 f9 c9 hrL
        generalize w3.setCell ⟨w.heap.size, 2, none⟩ (.slice E2 z g2) = W3 at hR9 hRr hB h hrZ ⊢
        have hIn : InD W3 ⟨x.A0, x.n0, x.c0, E2, z, g2⟩ ⟨D.a0, ⟨D.a1.b ++ b, D.a1.s⟩, (burn D.fuse), D.keep, D.down⟩ := ⟨h.l0, h.h0, h.r0, hlz, hg2, hrZ⟩
        go_wp2_with (first | (refine wpList_load_part rfl 27 (.tmp 3) rfl w.heap.size 0 rfl _ _ hR9 [Value.slice x.A0 x.n0 x.c0, .int .i64 D.a0.s, .slice E2 z g2, .int .i64 D.a1.s, .int .i64 (burn D.fuse), .int .i64 D.keep, .bool D.down] (by rfl) _ Try.underlying27 rfl (by exact size_disk) ?_) | (refine wpList_store_row rfl 27 (.tmp 6) _ rfl (w.heap.size + 1) rfl [Value.slice x.A0 x.n0 x.c0, .int .i64 D.a0.s, .slice E2 z g2, .int .i64 D.a1.s, .int .i64 (burn D.fuse), .int .i64 D.keep, .bool D.down] rfl _ _ hRr (by exact size_disk) rfl (one_disk ⟨x.A0, x.n0, x.c0, E2, z, g2⟩ ⟨D.a0, ⟨D.a1.b ++ b, D.a1.s⟩, (burn D.fuse), D.keep, D.down⟩) ?_))
        refine bodyPost_ret (results_row_tmp (p := 6) (u := 7) (ty := 27) (by rfl) _ _ (w.heap.size + 1) 27 _ _ (by rfl) (by exact hRr.setRow _) Try.underlying27 (by rfl) (by exact size_disk)) (by rfl) ?_
        rw [HST.out]
        exact ⟨⟨x.A0, x.n0, x.c0, E2, z, g2⟩, rfl, hIn.no_byte hRr (disk_no none 0 0 0 none 0 0 0 0 0 false) ((Only.refl _ _).setRow _), below_setRow hB (by omega) _⟩
end Go.Proofs.Ytkkfkibjamnpnaa
/-
  What the reference's calls Crash and Rise of layer 17 answer. No conditions but those typed.
-/
namespace Go.Proofs.Ytkkfkibjamnpnaa
set_option maxRecDepth 100000
open Go.RowKit
set_option linter.unusedSimpArgs false
set_option linter.unusedVariables false


set_option maxHeartbeats 2000000 in
theorem refcrash17_any (x : WD) (D : DK) (k : Int) (w : World) (h : InD w x D) (hk : k ≤ 9223372036854775807) :
    Calls Try.prog 16 #[aggD x D, .int .i64 k] w (RetF w (crashD D k).1 (crashD D k).2) := by
  obtain ⟨hR0, hRr, hB⟩ := two_boxes w 27 27 [Value.slice x.A0 x.n0 x.c0, .int .i64 D.a0.s, .slice x.A1 x.n1 x.c1, .int .i64 D.a1.s, .int .i64 D.fuse, .int .i64 D.keep, .bool D.down] [Value.slice none 0 0, .int .i64 0, .slice none 0 0, .int .i64 0, .int .i64 0, .int .i64 0, .bool false] _ _ rfl rfl
  unfold aggD
  go_enter Try.func16, Try.ntmps16
  go_upto_region 1 with fail
  generalize (w.alloc (.cells [Value.slice x.A0 x.n0 x.c0, .int .i64 D.a0.s, .slice x.A1 x.n1 x.c1, .int .i64 D.a1.s, .int .i64 D.fuse, .int .i64 D.keep, .bool D.down].toArray 27)).alloc (.cells [Value.slice none 0 0, .int .i64 0, .slice none 0 0, .int .i64 0, .int .i64 0, .int .i64 0, .bool false].toArray 27) = W at hR0 hRr hB ⊢
  replace h := h.keep hB
  have hrt := refright17_any x D W h
  unfold aggD at hrt
  have HRT := Lib.hid hrt
  clear hrt
  go_wp2_with (refine wpList_load_part rfl 27 (.tmp 2) rfl w.heap.size 0 rfl _ _ hR0 [Value.slice x.A0 x.n0 x.c0, .int .i64 D.a0.s, .slice x.A1 x.n1 x.c1, .int .i64 D.a1.s, .int .i64 D.fuse, .int .i64 D.keep, .bool D.down] (by rfl) _ Try.underlying27 rfl (by exact size_disk) ?_)
  refine HRT.out.mono ?_
  rintro e w2 ⟨rfl, hb⟩
  replace hR0 := hR0.later hb
  replace hRr := hRr.later hb
  replace h := h.keep hb
  replace hB := below_step hB hb
  clear hb HRT
  have c6 : w2.cell? ⟨w.heap.size, 6, none⟩ = some (.bool D.down) := hR0.cell rfl
  by_cases hright : rightDK D
  · rw [decide_eq_true hright]
    by_cases hk0 : 0 ≤ k
    · have hrk : ¬ ¬ (rightDK D ∧ 0 ≤ k) := fun hn => hn ⟨hright, hk0⟩
      by_cases hd : D.down = true
      · have HST : Hid (crashD D k = (D, 14)) := by unfold Hid crashD; rw [if_neg hrk, if_pos hd]
        rw [hd] at c6
        clear hd
        go_wp2_with (first | (refine wpList_load_part rfl 27 (.tmp 2) rfl w.heap.size 0 rfl _ _ hR0 [Value.slice x.A0 x.n0 x.c0, .int .i64 D.a0.s, .slice x.A1 x.n1 x.c1, .int .i64 D.a1.s, .int .i64 D.fuse, .int .i64 D.keep, .bool D.down] (by rfl) _ Try.underlying27 rfl (by exact size_disk) ?_) | (refine wpList_store_row rfl 27 (.tmp 4) _ rfl (w.heap.size + 1) rfl [Value.slice x.A0 x.n0 x.c0, .int .i64 D.a0.s, .slice x.A1 x.n1 x.c1, .int .i64 D.a1.s, .int .i64 D.fuse, .int .i64 D.keep, .bool D.down] rfl _ _ hRr (by exact size_disk) rfl (one_disk x D) ?_))
        refine bodyPost_ret (results_row_tmp (p := 4) (u := 5) (ty := 27) (by rfl) _ _ (w.heap.size + 1) 27 _ _ (by rfl) (by exact hRr.setRow _) Try.underlying27 (by rfl) (by exact size_disk)) (by rfl) ?_
        rw [HST.out]
        exact ⟨x, rfl, h.no_byte hRr (disk_no none 0 0 0 none 0 0 0 0 0 false) ((Only.refl _ _).setRow _), below_setRow hB (by omega) _⟩
      · have HST : Hid (crashD D k = (loseD D k, 0)) := by unfold Hid crashD; rw [if_neg hrk, if_neg hd]
        rw [Bool.not_eq_true] at hd
        rw [hd] at c6
        clear hd
        have hl := lose17_any x D k w2 h hright.1 hright.2.1 hk0 hk
        unfold aggD at hl
        have HL := Lib.hid hl
        clear hright hrk hl
        go_wp2_with (refine wpList_load_part rfl 27 (.tmp 2) rfl w.heap.size 0 rfl _ _ hR0 [Value.slice x.A0 x.n0 x.c0, .int .i64 D.a0.s, .slice x.A1 x.n1 x.c1, .int .i64 D.a1.s, .int .i64 D.fuse, .int .i64 D.keep, .bool D.down] (by rfl) _ Try.underlying27 rfl (by exact size_disk) ?_)
        refine HL.out.mono ?_
        rintro e w3 ⟨y, rfl, hIn5, hb5⟩
        replace hRr := hRr.later hb5
        replace hB := below_step hB hb5
        clear hb5 HL c6 hR0
        unfold aggD
        go_wp2_with (refine wpList_store_row rfl 27 (.tmp 4) _ rfl (w.heap.size + 1) rfl (cellsD y (loseD D k)) rfl _ _ hRr (by exact size_disk) rfl (one_disk _ _) ?_)
        refine bodyPost_ret (results_row_tmp (p := 4) (u := 5) (ty := 27) (by rfl) _ _ (w.heap.size + 1) 27 _ _ (by rfl) (by exact hRr.setRow _) Try.underlying27 (by rfl) (by exact size_disk)) (by rfl) ?_
        rw [HST.out]
        exact ⟨y, rfl, hIn5.no_byte hRr (disk_no none 0 0 0 none 0 0 0 0 0 false) ((Only.refl _ _).setRow _), below_setRow hB (by omega) _⟩
    · have HST : Hid (crashD D k = (D, 1)) := by unfold Hid crashD; rw [if_pos (fun hn => hk0 hn.2)]
      clear hright
      go_wp2_with (first | (refine wpList_load_part rfl 27 (.tmp 2) rfl w.heap.size 0 rfl _ _ hR0 [Value.slice x.A0 x.n0 x.c0, .int .i64 D.a0.s, .slice x.A1 x.n1 x.c1, .int .i64 D.a1.s, .int .i64 D.fuse, .int .i64 D.keep, .bool D.down] (by rfl) _ Try.underlying27 rfl (by exact size_disk) ?_) | (refine wpList_store_row rfl 27 (.tmp 4) _ rfl (w.heap.size + 1) rfl [Value.slice x.A0 x.n0 x.c0, .int .i64 D.a0.s, .slice x.A1 x.n1 x.c1, .int .i64 D.a1.s, .int .i64 D.fuse, .int .i64 D.keep, .bool D.down] rfl _ _ hRr (by exact size_disk) rfl (one_disk x D) ?_))
      refine bodyPost_ret (results_row_tmp (p := 4) (u := 5) (ty := 27) (by rfl) _ _ (w.heap.size + 1) 27 _ _ (by rfl) (by exact hRr.setRow _) Try.underlying27 (by rfl) (by exact size_disk)) (by rfl) ?_
      rw [HST.out]
      exact ⟨x, rfl, h.no_byte hRr (disk_no none 0 0 0 none 0 0 0 0 0 false) ((Only.refl _ _).setRow _), below_setRow hB (by omega) _⟩
  · have HST : Hid (crashD D k = (D, 1)) := by unfold Hid crashD; rw [if_pos (fun hn => hright hn.1)]
    rw [decide_eq_false hright]
    clear hright
    go_wp2_with (first | (refine wpList_load_part rfl 27 (.tmp 2) rfl w.heap.size 0 rfl _ _ hR0 [Value.slice x.A0 x.n0 x.c0, .int .i64 D.a0.s, .slice x.A1 x.n1 x.c1, .int .i64 D.a1.s, .int .i64 D.fuse, .int .i64 D.keep, .bool D.down] (by rfl) _ Try.underlying27 rfl (by exact size_disk) ?_) | (refine wpList_store_row rfl 27 (.tmp 4) _ rfl (w.heap.size + 1) rfl [Value.slice x.A0 x.n0 x.c0, .int .i64 D.a0.s, .slice x.A1 x.n1 x.c1, .int .i64 D.a1.s, .int .i64 D.fuse, .int .i64 D.keep, .bool D.down] rfl _ _ hRr (by exact size_disk) rfl (one_disk x D) ?_))
    refine bodyPost_ret (results_row_tmp (p := 4) (u := 5) (ty := 27) (by rfl) _ _ (w.heap.size + 1) 27 _ _ (by rfl) (by exact hRr.setRow _) Try.underlying27 (by rfl) (by exact size_disk)) (by rfl) ?_
    rw [HST.out]
    exact ⟨x, rfl, h.no_byte hRr (disk_no none 0 0 0 none 0 0 0 0 0 false) ((Only.refl _ _).setRow _), below_setRow hB (by omega) _⟩

set_option maxHeartbeats 2000000 in
theorem refrise17_any (x : WD) (D : DK) (w : World) (h : InD w x D) :
    Calls Try.prog 18 #[aggD x D] w (RetF w (riseD D).1 (riseD D).2) := by
  obtain ⟨hR0, hRr, hB⟩ := two_boxes w 27 27 [Value.slice x.A0 x.n0 x.c0, .int .i64 D.a0.s, .slice x.A1 x.n1 x.c1, .int .i64 D.a1.s, .int .i64 D.fuse, .int .i64 D.keep, .bool D.down] [Value.slice none 0 0, .int .i64 0, .slice none 0 0, .int .i64 0, .int .i64 0, .int .i64 0, .bool false] _ _ rfl rfl
  unfold aggD
  go_enter Try.func18, Try.ntmps18
  go_upto_region 1 with fail
  generalize (w.alloc (.cells [Value.slice x.A0 x.n0 x.c0, .int .i64 D.a0.s, .slice x.A1 x.n1 x.c1, .int .i64 D.a1.s, .int .i64 D.fuse, .int .i64 D.keep, .bool D.down].toArray 27)).alloc (.cells [Value.slice none 0 0, .int .i64 0, .slice none 0 0, .int .i64 0, .int .i64 0, .int .i64 0, .bool false].toArray 27) = W at hR0 hRr hB ⊢
  replace h := h.keep hB
  have hrt := refright17_any x D W h
  unfold aggD at hrt
  have HRT := Lib.hid hrt
  clear hrt
  go_wp2_with (refine wpList_load_part rfl 27 (.tmp 1) rfl w.heap.size 0 rfl _ _ hR0 [Value.slice x.A0 x.n0 x.c0, .int .i64 D.a0.s, .slice x.A1 x.n1 x.c1, .int .i64 D.a1.s, .int .i64 D.fuse, .int .i64 D.keep, .bool D.down] (by rfl) _ Try.underlying27 rfl (by exact size_disk) ?_)
  refine HRT.out.mono ?_
  rintro e w2 ⟨rfl, hb⟩
  replace hR0 := hR0.later hb
  replace hRr := hRr.later hb
  replace h := h.keep hb
  replace hB := below_step hB hb
  clear hb HRT
  have c6 : w2.cell? ⟨w.heap.size, 6, none⟩ = some (.bool D.down) := hR0.cell rfl
  by_cases hright : rightDK D
  · rw [decide_eq_true hright]
    by_cases hd : D.down = true
    · have HST : Hid (riseD D = ({ D with down := false }, 0)) := by unfold Hid riseD; rw [if_neg (fun hn => hn ⟨hright, hd⟩)]
      rw [hd] at c6
      clear hd hright
      have f6 := hR0.frozen 6
      have hR2 : Row (w2.setCell ⟨w.heap.size, 6, none⟩ (.bool false)) w.heap.size 27 [Value.slice x.A0 x.n0 x.c0, .int .i64 D.a0.s, .slice x.A1 x.n1 x.c1, .int .i64 D.a1.s, .int .i64 D.fuse, .int .i64 D.keep, .bool false] := hR0.setCell 6 _
      have hO : Only w.heap.size w2 (w2.setCell ⟨w.heap.size, 6, none⟩ (.bool false)) := (Only.refl _ w2).setCell 6 _
      go_upto_region 4 with fail
      replace h := h.no_byte hR0 (cellsD_no x D) hO
      replace hRr := hRr.setCell_other (p := ⟨w.heap.size, 6, none⟩) (show w.heap.size + 1 ≠ w.heap.size by omega) (.bool false)
      replace hB := hB.trans hO.below
      clear hR0 c6 f6 hO
      generalize w2.setCell ⟨w.heap.size, 6, none⟩ (.bool false) = w3 at hR2 h hRr hB ⊢
      go_wp2_with (first | (refine wpList_load_part rfl 27 (.tmp 1) rfl w.heap.size 0 rfl _ _ hR2 [Value.slice x.A0 x.n0 x.c0, .int .i64 D.a0.s, .slice x.A1 x.n1 x.c1, .int .i64 D.a1.s, .int .i64 D.fuse, .int .i64 D.keep, .bool false] (by rfl) _ Try.underlying27 rfl (by exact size_disk) ?_) | (refine wpList_store_row rfl 27 (.tmp 2) _ rfl (w.heap.size + 1) rfl [Value.slice x.A0 x.n0 x.c0, .int .i64 D.a0.s, .slice x.A1 x.n1 x.c1, .int .i64 D.a1.s, .int .i64 D.fuse, .int .i64 D.keep, .bool false] rfl _ _ hRr (by exact size_disk) rfl (one_disk x { D with down := false }) ?_))
      refine bodyPost_ret (results_row_tmp (p := 2) (u := 3) (ty := 27) (by rfl) _ _ (w.heap.size + 1) 27 _ _ (by rfl) (by exact hRr.setRow _) Try.underlying27 (by rfl) (by exact size_disk)) (by rfl) ?_
      rw [HST.out]
      have hIn5 : InD w3 x { D with down := false } := ⟨h.l0, h.h0, h.r0, h.l1, h.h1, h.r1⟩
      exact ⟨x, rfl, hIn5.no_byte hRr (disk_no none 0 0 0 none 0 0 0 0 0 false) ((Only.refl _ _).setRow _), below_setRow hB (by omega) _⟩
    · have HST : Hid (riseD D = (D, 1)) := by unfold Hid riseD; rw [if_pos (fun hn => hd hn.2)]
      rw [Bool.not_eq_true] at hd
      rw [hd] at c6
      clear hd hright
      go_wp2_with (first | (refine wpList_load_part rfl 27 (.tmp 1) rfl w.heap.size 0 rfl _ _ hR0 [Value.slice x.A0 x.n0 x.c0, .int .i64 D.a0.s, .slice x.A1 x.n1 x.c1, .int .i64 D.a1.s, .int .i64 D.fuse, .int .i64 D.keep, .bool D.down] (by rfl) _ Try.underlying27 rfl (by exact size_disk) ?_) | (refine wpList_store_row rfl 27 (.tmp 2) _ rfl (w.heap.size + 1) rfl [Value.slice x.A0 x.n0 x.c0, .int .i64 D.a0.s, .slice x.A1 x.n1 x.c1, .int .i64 D.a1.s, .int .i64 D.fuse, .int .i64 D.keep, .bool D.down] rfl _ _ hRr (by exact size_disk) rfl (one_disk x D) ?_))
      refine bodyPost_ret (results_row_tmp (p := 2) (u := 3) (ty := 27) (by rfl) _ _ (w.heap.size + 1) 27 _ _ (by rfl) (by exact hRr.setRow _) Try.underlying27 (by rfl) (by exact size_disk)) (by rfl) ?_
      rw [HST.out]
      exact ⟨x, rfl, h.no_byte hRr (disk_no none 0 0 0 none 0 0 0 0 0 false) ((Only.refl _ _).setRow _), below_setRow hB (by omega) _⟩
  · have HST : Hid (riseD D = (D, 1)) := by unfold Hid riseD; rw [if_pos (fun hn => hright hn.1)]
    rw [decide_eq_false hright]
    clear hright
    go_wp2_with (first | (refine wpList_load_part rfl 27 (.tmp 1) rfl w.heap.size 0 rfl _ _ hR0 [Value.slice x.A0 x.n0 x.c0, .int .i64 D.a0.s, .slice x.A1 x.n1 x.c1, .int .i64 D.a1.s, .int .i64 D.fuse, .int .i64 D.keep, .bool D.down] (by rfl) _ Try.underlying27 rfl (by exact size_disk) ?_) | (refine wpList_store_row rfl 27 (.tmp 2) _ rfl (w.heap.size + 1) rfl [Value.slice x.A0 x.n0 x.c0, .int .i64 D.a0.s, .slice x.A1 x.n1 x.c1, .int .i64 D.a1.s, .int .i64 D.fuse, .int .i64 D.keep, .bool D.down] rfl _ _ hRr (by exact size_disk) rfl (one_disk x D) ?_))
    refine bodyPost_ret (results_row_tmp (p := 2) (u := 3) (ty := 27) (by rfl) _ _ (w.heap.size + 1) 27 _ _ (by rfl) (by exact hRr.setRow _) Try.underlying27 (by rfl) (by exact size_disk)) (by rfl) ?_
    rw [HST.out]
    exact ⟨x, rfl, h.no_byte hRr (disk_no none 0 0 0 none 0 0 0 0 0 false) ((Only.refl _ _).setRow _), below_setRow hB (by omega) _⟩
end Go.Proofs.Ytkkfkibjamnpnaa
/-
  The fixed answer that the statements of layer 17 begin with. No conditions.
-/
namespace Go.Proofs.Ytkkfkibjamnpnaa
set_option maxRecDepth 100000
open Go.RowKit
set_option linter.unusedSimpArgs false
set_option linter.unusedVariables false

def aw1 : DK := ⟨⟨[], 0⟩, ⟨[9], 0⟩, -1, 0, false⟩
def aw2 : DK := ⟨⟨[], 0⟩, ⟨[9], 1⟩, -1, 0, false⟩
def aw3 : DK := ⟨⟨[], 0⟩, ⟨[9], 1⟩, 0, 2, false⟩
def aw4 : DK := ⟨⟨[], 0⟩, ⟨[9, 1, 2], 3⟩, -1, 2, true⟩
def aw5 : DK := ⟨⟨[], 0⟩, ⟨[9, 1, 2], 3⟩, -1, 2, false⟩
theorem aw_write : writeD newD 1 [9] = (aw1, 0) := by rfl
theorem aw_sync : syncD aw1 1 = (aw2, 0) := by rfl
theorem aw_goes : writeD aw3 1 [1, 2, 3] = (aw4, 14) := by rfl
theorem aw_rise : riseD aw4 = (aw5, 0) := by rfl
theorem aw_right : decide (rightDK aw5) = true := by rfl
theorem lit_bytes (w : World) (l : List UInt8) (cs : Array Value) (h : cs = (l.map vB).toArray) : Rd vB (w.alloc (.cells cs 5)) (some ⟨w.heap.size, 0, none⟩) l := Rd.new w l cs _ h
set_option maxHeartbeats 4000000 in
theorem awake17_any (w : World) : Calls Try.prog 6 #[] w fun e w' => e = .returned (.bool true) ∧ Below w.heap.size w w' := by
  go_enter Try.func6, Try.ntmps6
  go_wp2_with fail
  refine (new17_any _).mono ?_
  rintro e w1 ⟨rfl, hB⟩
  have hr1 := lit_bytes w1 [9] #[.int .u8 9] rfl
  have hb1 := below_new (Below.refl _ w1) (.cells #[.int .u8 9] 5)
  have hB1 := below_step hB hb1
  have HW := write17_any ⟨none, 0, 0, none, 0, 0⟩ newD 1 [9] (some ⟨w1.heap.size, 0, none⟩) 1 1 _ (newD_in _) rfl (Nat.le_refl _) hr1 (by decide) (by decide) (by decide) (by decide) (by decide)
  rw [aw_write] at HW
  unfold aggD
  unfold aggD at HW
  replace HW := Lib.hid HW
  clear hr1 hb1 hB
  go_wp2_with fail
  refine HW.out.mono ?_
  rintro e w2 ⟨x, rfl, hIn, -, hb⟩
  replace hB := below_step hB1 hb
  have hg1 : w.heap.size ≤ w2.heap.size := hB.size
  clear hb hB1 HW
  obtain ⟨hRz, hBz⟩ := box_of w2 27 [Value.slice none 0 0, .int .i64 0, .slice none 0 0, .int .i64 0, .int .i64 0, .int .i64 0, .bool false] _ rfl
  unfold aggD
  dsimp only
  go_upto_region 2 with (refine wpList_store_row rfl 27 (.tmp 1) (.tmp 12) rfl w2.heap.size rfl [Value.slice x.A0 x.n0 x.c0, .int .i64 aw1.a0.s, .slice x.A1 x.n1 x.c1, .int .i64 aw1.a1.s, .int .i64 aw1.fuse, .int .i64 aw1.keep, .bool aw1.down] rfl _ _ hRz (by exact size_disk) rfl (one_disk x aw1) ?_)
  have hR := hRz.setRow [Value.slice x.A0 x.n0 x.c0, .int .i64 aw1.a0.s, .slice x.A1 x.n1 x.c1, .int .i64 aw1.a1.s, .int .i64 aw1.fuse, .int .i64 aw1.keep, .bool aw1.down]
  have hbz : Below w2.heap.size w2 ((w2.alloc (.cells [Value.slice none 0 0, .int .i64 0, .slice none 0 0, .int .i64 0, .int .i64 0, .int .i64 0, .bool false].toArray 27)).setRow w2.heap.size [Value.slice x.A0 x.n0 x.c0, .int .i64 aw1.a0.s, .slice x.A1 x.n1 x.c1, .int .i64 aw1.a1.s, .int .i64 aw1.fuse, .int .i64 aw1.keep, .bool aw1.down].toArray) := below_setRow hBz (Nat.le_refl _) _
  replace hIn := hIn.keep hbz
  replace hB := below_step hB hbz
  clear hRz hBz
  clear hbz
  generalize (w2.alloc (.cells [Value.slice none 0 0, .int .i64 0, .slice none 0 0, .int .i64 0, .int .i64 0, .int .i64 0, .bool false].toArray 27)).setRow w2.heap.size [Value.slice x.A0 x.n0 x.c0, .int .i64 aw1.a0.s, .slice x.A1 x.n1 x.c1, .int .i64 aw1.a1.s, .int .i64 aw1.fuse, .int .i64 aw1.keep, .bool aw1.down].toArray = W at hR hIn hB ⊢
  generalize w2.heap.size = g1 at hR hg1 ⊢
  have hn := hIn.l0
  have hn1 := hIn.l1
  have HS := sync17_any x aw1 1 W hIn (by rw [← hn]; decide) (by rw [← hn1]; decide) (by decide) (by decide)
  rw [aw_sync] at HS
  unfold aggD at HS
  replace HS := Lib.hid HS
  clear hn hn1
  go_wp2_with (refine wpList_load_part rfl 27 (.tmp 1) rfl g1 0 rfl _ _ hR [Value.slice x.A0 x.n0 x.c0, .int .i64 aw1.a0.s, .slice x.A1 x.n1 x.c1, .int .i64 aw1.a1.s, .int .i64 aw1.fuse, .int .i64 aw1.keep, .bool aw1.down] (by rfl) _ Try.underlying27 rfl (by exact size_disk) ?_)
  refine HS.out.mono ?_
  rintro e w3 ⟨y, rfl, hIn2, -, hb⟩
  replace hR := hR.later hb
  replace hB := below_step hB hb
  clear hb HS hIn
  unfold aggD
  dsimp only
  go_upto_region 3 with (refine wpList_store_row rfl 27 (.tmp 1) (.tmp 17) rfl g1 rfl [Value.slice y.A0 y.n0 y.c0, .int .i64 aw2.a0.s, .slice y.A1 y.n1 y.c1, .int .i64 aw2.a1.s, .int .i64 aw2.fuse, .int .i64 aw2.keep, .bool aw2.down] rfl _ _ hR (by exact size_disk) rfl (one_disk y aw2) ?_)
  have hR2 := hR.setRow [Value.slice y.A0 y.n0 y.c0, .int .i64 aw2.a0.s, .slice y.A1 y.n1 y.c1, .int .i64 aw2.a1.s, .int .i64 aw2.fuse, .int .i64 aw2.keep, .bool aw2.down]
  have hO := (Only.refl g1 w3).setRow [Value.slice y.A0 y.n0 y.c0, .int .i64 aw2.a0.s, .slice y.A1 y.n1 y.c1, .int .i64 aw2.a1.s, .int .i64 aw2.fuse, .int .i64 aw2.keep, .bool aw2.down].toArray
  replace hIn2 := hIn2.no_byte hR (cellsD_no x aw1) hO
  replace hB := hB.trans (hO.below.mono hg1)
  clear hR hO
  generalize w3.setRow g1 [Value.slice y.A0 y.n0 y.c0, .int .i64 aw2.a0.s, .slice y.A1 y.n1 y.c1, .int .i64 aw2.a1.s, .int .i64 aw2.fuse, .int .i64 aw2.keep, .bool aw2.down].toArray = W at hR2 hIn2 hB ⊢
  have f4 := hR2.frozen 4
  have c4 : W.cell? ⟨g1, 4, none⟩ = some (.int .i64 (-1)) := hR2.cell rfl
  have hR4 : Row (W.setCell ⟨g1, 4, none⟩ (.int .i64 0)) g1 27 [Value.slice y.A0 y.n0 y.c0, .int .i64 aw2.a0.s, .slice y.A1 y.n1 y.c1, .int .i64 aw2.a1.s, .int .i64 0, .int .i64 aw2.keep, .bool aw2.down] := hR2.setCell 4 _
  have f5 := hR4.frozen 5
  have c5 : (W.setCell ⟨g1, 4, none⟩ (.int .i64 0)).cell? ⟨g1, 5, none⟩ = some (.int .i64 0) := hR4.cell rfl
  have hR5 : Row ((W.setCell ⟨g1, 4, none⟩ (.int .i64 0)).setCell ⟨g1, 5, none⟩ (.int .i64 2)) g1 27 [Value.slice y.A0 y.n0 y.c0, .int .i64 aw3.a0.s, .slice y.A1 y.n1 y.c1, .int .i64 aw3.a1.s, .int .i64 aw3.fuse, .int .i64 aw3.keep, .bool aw3.down] := hR4.setCell 5 _
  have hO : Only g1 W ((W.setCell ⟨g1, 4, none⟩ (.int .i64 0)).setCell ⟨g1, 5, none⟩ (.int .i64 2)) := ((Only.refl _ W).setCell 4 _).setCell 5 _
  go_upto_region 4 with fail
  replace hIn2 := hIn2.no_byte hR2 (cellsD_no y aw2) hO
  replace hB := hB.trans (hO.below.mono hg1)
  clear hR2 hR4 hO f4 c4 f5 c5
  generalize (W.setCell ⟨g1, 4, none⟩ (.int .i64 0)).setCell ⟨g1, 5, none⟩ (.int .i64 2) = W at hR5 hIn2 hB ⊢
  have hIn3 : InD W y aw3 := ⟨hIn2.l0, hIn2.h0, hIn2.r0, hIn2.l1, hIn2.h1, hIn2.r1⟩
  clear hIn2
  have hr1 := lit_bytes W [1, 2, 3] #[.int .u8 1, .int .u8 2, .int .u8 3] rfl
  have hb1 := below_new (Below.refl _ W) (.cells #[.int .u8 1, .int .u8 2, .int .u8 3] 5)
  have hn := hIn3.l0
  have hn1 := hIn3.l1
  have HW := write17_any y aw3 1 [1, 2, 3] (some ⟨W.heap.size, 0, none⟩) 3 3 _ (hIn3.keep hb1) rfl (Nat.le_refl _) hr1 (by rw [← hn]; decide) (by rw [← hn1]; decide) (by decide) (by decide) (by decide)
  rw [aw_goes] at HW
  unfold aggD at HW
  replace HW := Lib.hid HW
  clear hr1 hn hn1 hIn3
  go_wp2_with (refine wpList_load_part rfl 27 (.tmp 1) rfl g1 0 rfl _ _ hR5 [Value.slice y.A0 y.n0 y.c0, .int .i64 aw3.a0.s, .slice y.A1 y.n1 y.c1, .int .i64 aw3.a1.s, .int .i64 aw3.fuse, .int .i64 aw3.keep, .bool aw3.down] (by rfl) _ Try.underlying27 rfl (by exact size_disk) ?_)
  refine HW.out.mono ?_
  rintro e w4 ⟨z, rfl, hIn4, -, hb⟩
  replace hB := below_step (below_step hB hb1) hb
  clear hb hb1 HW hR5
  obtain ⟨hRz, hBz⟩ := box_of w4 27 [Value.slice none 0 0, .int .i64 0, .slice none 0 0, .int .i64 0, .int .i64 0, .int .i64 0, .bool false] _ rfl
  unfold aggD
  dsimp only
  go_upto_region 5 with (refine wpList_store_row rfl 27 (.tmp 4) (.tmp 25) rfl w4.heap.size rfl [Value.slice z.A0 z.n0 z.c0, .int .i64 aw4.a0.s, .slice z.A1 z.n1 z.c1, .int .i64 aw4.a1.s, .int .i64 aw4.fuse, .int .i64 aw4.keep, .bool aw4.down] rfl _ _ hRz (by exact size_disk) rfl (one_disk z aw4) ?_)
  have hR := hRz.setRow [Value.slice z.A0 z.n0 z.c0, .int .i64 aw4.a0.s, .slice z.A1 z.n1 z.c1, .int .i64 aw4.a1.s, .int .i64 aw4.fuse, .int .i64 aw4.keep, .bool aw4.down]
  have hbz : Below w4.heap.size w4 ((w4.alloc (.cells [Value.slice none 0 0, .int .i64 0, .slice none 0 0, .int .i64 0, .int .i64 0, .int .i64 0, .bool false].toArray 27)).setRow w4.heap.size [Value.slice z.A0 z.n0 z.c0, .int .i64 aw4.a0.s, .slice z.A1 z.n1 z.c1, .int .i64 aw4.a1.s, .int .i64 aw4.fuse, .int .i64 aw4.keep, .bool aw4.down].toArray) := below_setRow hBz (Nat.le_refl _) _
  replace hIn4 := hIn4.keep hbz
  replace hB := below_step hB hbz
  clear hRz hBz hbz hg1
  generalize (w4.alloc (.cells [Value.slice none 0 0, .int .i64 0, .slice none 0 0, .int .i64 0, .int .i64 0, .int .i64 0, .bool false].toArray 27)).setRow w4.heap.size [Value.slice z.A0 z.n0 z.c0, .int .i64 aw4.a0.s, .slice z.A1 z.n1 z.c1, .int .i64 aw4.a1.s, .int .i64 aw4.fuse, .int .i64 aw4.keep, .bool aw4.down].toArray = W at hR hIn4 hB ⊢
  generalize w4.heap.size = g2 at hR ⊢
  have hn := hIn4.l0
  have hn1 := hIn4.l1
  have HS := rise17_any z aw4 W hIn4 (by rw [← hn]; decide) (by rw [← hn1]; decide)
  rw [aw_rise] at HS
  unfold aggD at HS
  replace HS := Lib.hid HS
  clear hn hn1
  go_wp2_with (refine wpList_load_part rfl 27 (.tmp 4) rfl g2 0 rfl _ _ hR [Value.slice z.A0 z.n0 z.c0, .int .i64 aw4.a0.s, .slice z.A1 z.n1 z.c1, .int .i64 aw4.a1.s, .int .i64 aw4.fuse, .int .i64 aw4.keep, .bool aw4.down] (by rfl) _ Try.underlying27 rfl (by exact size_disk) ?_)
  refine HS.out.mono ?_
  rintro e w5 ⟨u, rfl, hIn5, -, hb⟩
  replace hR := hR.later hb
  replace hIn4 := hIn4.keep hb
  replace hB := below_step hB hb
  clear hb HS
  obtain ⟨hRz, hBz⟩ := box_of w5 27 [Value.slice none 0 0, .int .i64 0, .slice none 0 0, .int .i64 0, .int .i64 0, .int .i64 0, .bool false] _ rfl
  unfold aggD
  dsimp only
  go_upto_region 6 with (refine wpList_store_row rfl 27 (.tmp 6) (.tmp 30) rfl w5.heap.size rfl [Value.slice u.A0 u.n0 u.c0, .int .i64 aw5.a0.s, .slice u.A1 u.n1 u.c1, .int .i64 aw5.a1.s, .int .i64 aw5.fuse, .int .i64 aw5.keep, .bool aw5.down] rfl _ _ hRz (by exact size_disk) rfl (one_disk u aw5) ?_)
  have hR5 := hRz.setRow [Value.slice u.A0 u.n0 u.c0, .int .i64 aw5.a0.s, .slice u.A1 u.n1 u.c1, .int .i64 aw5.a1.s, .int .i64 aw5.fuse, .int .i64 aw5.keep, .bool aw5.down]
  have hbz : Below w5.heap.size w5 ((w5.alloc (.cells [Value.slice none 0 0, .int .i64 0, .slice none 0 0, .int .i64 0, .int .i64 0, .int .i64 0, .bool false].toArray 27)).setRow w5.heap.size [Value.slice u.A0 u.n0 u.c0, .int .i64 aw5.a0.s, .slice u.A1 u.n1 u.c1, .int .i64 aw5.a1.s, .int .i64 aw5.fuse, .int .i64 aw5.keep, .bool aw5.down].toArray) := below_setRow hBz (Nat.le_refl _) _
  replace hIn4 := hIn4.keep hbz
  replace hIn5 := hIn5.keep hbz
  replace hR := hR.later hbz
  replace hB := below_step hB hbz
  clear hRz hBz hbz
  generalize (w5.alloc (.cells [Value.slice none 0 0, .int .i64 0, .slice none 0 0, .int .i64 0, .int .i64 0, .int .i64 0, .bool false].toArray 27)).setRow w5.heap.size [Value.slice u.A0 u.n0 u.c0, .int .i64 aw5.a0.s, .slice u.A1 u.n1 u.c1, .int .i64 aw5.a1.s, .int .i64 aw5.fuse, .int .i64 aw5.keep, .bool aw5.down].toArray = W at hR hR5 hIn4 hIn5 hB ⊢
  generalize w5.heap.size = g3 at hR5 ⊢
  have hstr := run_str W 22 5 9 Try.underlying22 Try.underlying5 Try.underlying9 z.A1 [9, 1, 2] z.n1 z.c1 hIn4.l1 hIn4.r1
  have c2 : W.cell? ⟨g2, 2, none⟩ = some (.slice z.A1 z.n1 z.c1) := hR.cell rfl
  have c3 : W.cell? ⟨g2, 3, none⟩ = some (.int .i64 3) := hR.cell rfl
  have c4 : W.cell? ⟨g2, 4, none⟩ = some (.int .i64 (-1)) := hR.cell rfl
  have c6 : W.cell? ⟨g2, 6, none⟩ = some (.bool true) := hR.cell rfl
  have d0 : W.cell? ⟨g3, 0, none⟩ = some (.slice u.A0 u.n0 u.c0) := hR5.cell rfl
  have d1 : W.cell? ⟨g3, 1, none⟩ = some (.int .i64 aw5.a0.s) := hR5.cell rfl
  have d2 : W.cell? ⟨g3, 2, none⟩ = some (.slice u.A1 u.n1 u.c1) := hR5.cell rfl
  have d3 : W.cell? ⟨g3, 3, none⟩ = some (.int .i64 aw5.a1.s) := hR5.cell rfl
  have d4 : W.cell? ⟨g3, 4, none⟩ = some (.int .i64 aw5.fuse) := hR5.cell rfl
  have d5 : W.cell? ⟨g3, 5, none⟩ = some (.int .i64 aw5.keep) := hR5.cell rfl
  have d6 : W.cell? ⟨g3, 6, none⟩ = some (.bool false) := hR5.cell rfl
  have HR := right17_any u aw5 W hIn5
  rw [aw_right] at HR
  unfold aggD at HR
  replace HR := Lib.hid HR
  clear hIn4 hIn5 hR
  go_wp2_with fail
  refine HR.out.mono ?_
  rintro e w6 ⟨rfl, hb⟩
  go_wp2_with fail
  go_ret
  exact ⟨rfl, below_step hB hb⟩
end Go.Proofs.Ytkkfkibjamnpnaa
/-
  What any disk becomes of by a write, a sync, a wipe, a crash, and when it rises: the program's calls and the reference's answer alike (the walk of DiskRight). Conditions: as typed.
-/
namespace Go.Proofs.Ytkkfkibjamnpnaa
set_option maxRecDepth 100000
open Go.RowKit
set_option linter.unusedSimpArgs false
set_option linter.unusedVariables false

set_option maxHeartbeats 8000000 in
theorem diskright_walk (x : WD) (D : DK) (k : Int) (b : List UInt8) (C : Option Addr) (m dd : Nat) (keep : Int) (w : World) (h : InD w x D) (HL : Hid (b.length = m)) (hmd : m ≤ dd) (hr : Rd vB w C b) (hf : D.fuse ≤ 9223372036854775807) (hk : D.keep ≤ 9223372036854775807) (hkp : keep ≤ 9223372036854775807) :
    Calls Try.prog 3 #[aggD x D, .int .i64 k, .slice C m dd, .int .i64 keep] w fun e w' => e = .returned (.bool true) ∧ Below w.heap.size w w' := by
  obtain ⟨hR0, hB⟩ := box_of w 27 [Value.slice x.A0 x.n0 x.c0, .int .i64 D.a0.s, .slice x.A1 x.n1 x.c1, .int .i64 D.a1.s, .int .i64 D.fuse, .int .i64 D.keep, .bool D.down] _ rfl
  unfold aggD
  go_enter Try.func3, Try.ntmps3
  go_upto_region 1 with fail
  generalize w.alloc (.cells [Value.slice x.A0 x.n0 x.c0, .int .i64 D.a0.s, .slice x.A1 x.n1 x.c1, .int .i64 D.a1.s, .int .i64 D.fuse, .int .i64 D.keep, .bool D.down].toArray 27) = W at hR0 hB ⊢
  replace h := h.keep hB
  replace hr := hr.keep hB
  go_wp2_with fail
  refine (awake17_any W).mono ?_
  rintro e w1 ⟨rfl, hb⟩
  replace hR0 := hR0.later hb
  replace h := h.keep hb
  replace hr := hr.keep hb
  replace hB := below_step hB hb
  clear hb
  have hs := refshort17_any x D w1 h
  unfold aggD at hs
  replace hs := Lib.hid hs
  go_wp2_with (refine wpList_load_part rfl 27 (.tmp 4) rfl w.heap.size 0 rfl _ _ hR0 [Value.slice x.A0 x.n0 x.c0, .int .i64 D.a0.s, .slice x.A1 x.n1 x.c1, .int .i64 D.a1.s, .int .i64 D.fuse, .int .i64 D.keep, .bool D.down] (by rfl) _ Try.underlying27 rfl (by exact size_disk) ?_)
  refine hs.out.mono ?_
  rintro e w2 ⟨rfl, hb⟩
  replace hR0 := hR0.later hb
  replace h := h.keep hb
  replace hr := hr.keep hb
  replace hB := below_step hB hb
  clear hb hs
  by_cases hsh : x.n0 ≤ 20000 ∧ x.n1 ≤ 20000
  · rw [decide_eq_true hsh]
    obtain ⟨hn0, hn1⟩ := hsh
    by_cases hm3 : 3000 < m
    · have hm4 : (3000 : Int) < (m : Int) := by omega
      go_wp2_with fail
      go_ret
      exact ⟨rfl, hB⟩
    · have hm4 : ¬ (3000 : Int) < (m : Int) := by omega
      obtain ⟨SO, hSO⟩ : ∃ SO, writeD D k b = SO := ⟨_, rfl⟩
      obtain ⟨DS, er⟩ := SO
      replace hSO := hSO
      have hp := write17_any x D k b C m dd _ h HL hmd hr (by omega) (by omega) (by omega) hf hk
      rw [hSO] at hp
      unfold aggD at hp
      replace hp := Lib.hid hp
      go_wp2_with (refine wpList_load_part rfl 27 (.tmp 4) rfl w.heap.size 0 rfl _ _ hR0 [Value.slice x.A0 x.n0 x.c0, .int .i64 D.a0.s, .slice x.A1 x.n1 x.c1, .int .i64 D.a1.s, .int .i64 D.fuse, .int .i64 D.keep, .bool D.down] (by rfl) _ Try.underlying27 rfl (by exact size_disk) ?_)
      refine hp.out.mono ?_
      rintro e wa ⟨y, rfl, hIy, -, hb⟩
      replace hR0 := hR0.later hb
      replace h := h.keep hb
      replace hr := hr.keep hb
      replace hB := below_step hB hb
      clear hb hp
      unfold aggD
      dsimp only
      obtain ⟨hRz, hBz⟩ := box_of wa 27 [Value.slice none 0 0, .int .i64 0, .slice none 0 0, .int .i64 0, .int .i64 0, .int .i64 0, .bool false] _ rfl
      go_upto_region 6 with (refine wpList_store_row rfl 27 (.tmp 9) (.tmp 28) rfl wa.heap.size rfl [Value.slice y.A0 y.n0 y.c0, .int .i64 DS.a0.s, .slice y.A1 y.n1 y.c1, .int .i64 DS.a1.s, .int .i64 DS.fuse, .int .i64 DS.keep, .bool DS.down] rfl _ _ hRz (by exact size_disk) rfl (one_disk y DS) ?_)
      have hR9 := hRz.setRow [Value.slice y.A0 y.n0 y.c0, .int .i64 DS.a0.s, .slice y.A1 y.n1 y.c1, .int .i64 DS.a1.s, .int .i64 DS.fuse, .int .i64 DS.keep, .bool DS.down]
      have hbz : Below wa.heap.size wa ((wa.alloc (.cells [Value.slice none 0 0, .int .i64 0, .slice none 0 0, .int .i64 0, .int .i64 0, .int .i64 0, .bool false].toArray 27)).setRow wa.heap.size [Value.slice y.A0 y.n0 y.c0, .int .i64 DS.a0.s, .slice y.A1 y.n1 y.c1, .int .i64 DS.a1.s, .int .i64 DS.fuse, .int .i64 DS.keep, .bool DS.down].toArray) := below_setRow hBz (Nat.le_refl _) _
      have hltg9 : w.heap.size < wa.heap.size := hR0.lt
      replace hR0 := hR0.later hbz
      replace h := h.keep hbz
      replace hr := hr.keep hbz
      replace hB := below_step hB hbz
      replace hIy := hIy.keep hbz
      clear hRz hBz hbz
      generalize (wa.alloc (.cells [Value.slice none 0 0, .int .i64 0, .slice none 0 0, .int .i64 0, .int .i64 0, .int .i64 0, .bool false].toArray 27)).setRow wa.heap.size [Value.slice y.A0 y.n0 y.c0, .int .i64 DS.a0.s, .slice y.A1 y.n1 y.c1, .int .i64 DS.a1.s, .int .i64 DS.fuse, .int .i64 DS.keep, .bool DS.down].toArray = wb at hR0 h hr hB hIy hR9 ⊢
      generalize wa.heap.size = g9 at hR9 hltg9 ⊢
      have hp := refwrite17_any x D k b C m dd _ h hf hk HL hmd (by omega) hr
      rw [hSO] at hp
      unfold aggD at hp
      replace hp := Lib.hid hp
      go_wp2_with (refine wpList_load_part rfl 27 (.tmp 4) rfl w.heap.size 0 rfl _ _ hR0 [Value.slice x.A0 x.n0 x.c0, .int .i64 D.a0.s, .slice x.A1 x.n1 x.c1, .int .i64 D.a1.s, .int .i64 D.fuse, .int .i64 D.keep, .bool D.down] (by rfl) _ Try.underlying27 rfl (by exact size_disk) ?_)
      refine hp.out.mono ?_
      rintro e wa ⟨z, rfl, hIz, hb⟩
      replace hR0 := hR0.later hb
      replace h := h.keep hb
      replace hr := hr.keep hb
      replace hR9 := hR9.later hb
      replace hIy := hIy.keep hb
      replace hB := below_step hB hb
      clear hb hp
      unfold aggD
      dsimp only
      obtain ⟨hRz, hBz⟩ := box_of wa 27 [Value.slice none 0 0, .int .i64 0, .slice none 0 0, .int .i64 0, .int .i64 0, .int .i64 0, .bool false] _ rfl
      go_upto_region 7 with (refine wpList_store_row rfl 27 (.tmp 11) (.tmp 35) rfl wa.heap.size rfl [Value.slice z.A0 z.n0 z.c0, .int .i64 DS.a0.s, .slice z.A1 z.n1 z.c1, .int .i64 DS.a1.s, .int .i64 DS.fuse, .int .i64 DS.keep, .bool DS.down] rfl _ _ hRz (by exact size_disk) rfl (one_disk z DS) ?_)
      have hR11 := hRz.setRow [Value.slice z.A0 z.n0 z.c0, .int .i64 DS.a0.s, .slice z.A1 z.n1 z.c1, .int .i64 DS.a1.s, .int .i64 DS.fuse, .int .i64 DS.keep, .bool DS.down]
      have hbz : Below wa.heap.size wa ((wa.alloc (.cells [Value.slice none 0 0, .int .i64 0, .slice none 0 0, .int .i64 0, .int .i64 0, .int .i64 0, .bool false].toArray 27)).setRow wa.heap.size [Value.slice z.A0 z.n0 z.c0, .int .i64 DS.a0.s, .slice z.A1 z.n1 z.c1, .int .i64 DS.a1.s, .int .i64 DS.fuse, .int .i64 DS.keep, .bool DS.down].toArray) := below_setRow hBz (Nat.le_refl _) _
      have hltg11 : g9 < wa.heap.size := hR9.lt
      replace hR0 := hR0.later hbz
      replace h := h.keep hbz
      replace hr := hr.keep hbz
      replace hR9 := hR9.later hbz
      replace hIy := hIy.keep hbz
      replace hB := below_step hB hbz
      replace hIz := hIz.keep hbz
      clear hRz hBz hbz
      generalize (wa.alloc (.cells [Value.slice none 0 0, .int .i64 0, .slice none 0 0, .int .i64 0, .int .i64 0, .int .i64 0, .bool false].toArray 27)).setRow wa.heap.size [Value.slice z.A0 z.n0 z.c0, .int .i64 DS.a0.s, .slice z.A1 z.n1 z.c1, .int .i64 DS.a1.s, .int .i64 DS.fuse, .int .i64 DS.keep, .bool DS.down].toArray = wb at hR0 h hr hR9 hIy hB hIz hR11 ⊢
      generalize wa.heap.size = g11 at hR11 hltg11 ⊢
      have c0 : wb.cell? ⟨g9, 0, none⟩ = some (.slice y.A0 y.n0 y.c0) := hR9.cell rfl
      have c1 : wb.cell? ⟨g9, 1, none⟩ = some (.int .i64 DS.a0.s) := hR9.cell rfl
      have c2 : wb.cell? ⟨g9, 2, none⟩ = some (.slice y.A1 y.n1 y.c1) := hR9.cell rfl
      have c3 : wb.cell? ⟨g9, 3, none⟩ = some (.int .i64 DS.a1.s) := hR9.cell rfl
      have c4 : wb.cell? ⟨g9, 4, none⟩ = some (.int .i64 DS.fuse) := hR9.cell rfl
      have c5 : wb.cell? ⟨g9, 5, none⟩ = some (.int .i64 DS.keep) := hR9.cell rfl
      have c6 : wb.cell? ⟨g9, 6, none⟩ = some (.bool DS.down) := hR9.cell rfl
      have d0 : wb.cell? ⟨g11, 0, none⟩ = some (.slice z.A0 z.n0 z.c0) := hR11.cell rfl
      have d1 : wb.cell? ⟨g11, 1, none⟩ = some (.int .i64 DS.a0.s) := hR11.cell rfl
      have d2 : wb.cell? ⟨g11, 2, none⟩ = some (.slice z.A1 z.n1 z.c1) := hR11.cell rfl
      have d3 : wb.cell? ⟨g11, 3, none⟩ = some (.int .i64 DS.a1.s) := hR11.cell rfl
      have d4 : wb.cell? ⟨g11, 4, none⟩ = some (.int .i64 DS.fuse) := hR11.cell rfl
      have d5 : wb.cell? ⟨g11, 5, none⟩ = some (.int .i64 DS.keep) := hR11.cell rfl
      have d6 : wb.cell? ⟨g11, 6, none⟩ = some (.bool DS.down) := hR11.cell rfl
      have hq := refsame17_any y z DS wb hIy hIz
      unfold aggD at hq
      replace hq := Lib.hid hq
      go_wp2_with fail
      refine hq.out.mono ?_
      rintro e wc ⟨rfl, hb⟩
      clear c0 c1 c2 c3 c4 c5 c6 d0 d1 d2 d3 d4 d5 d6 hq hIy hIz
      replace hR0 := hR0.later hb
      replace h := h.keep hb
      replace hr := hr.keep hb
      replace hR9 := hR9.later hb
      replace hR11 := hR11.later hb
      replace hB := below_step hB hb
      clear hb hSO
      obtain ⟨SO, hSO⟩ : ∃ SO, syncD D k = SO := ⟨_, rfl⟩
      obtain ⟨DS, er⟩ := SO
      replace hSO := hSO
      have hp := sync17_any x D k _ h (by omega) (by omega) hf hk
      rw [hSO] at hp
      unfold aggD at hp
      replace hp := Lib.hid hp
      go_wp2_with (refine wpList_load_part rfl 27 (.tmp 4) rfl w.heap.size 0 rfl _ _ hR0 [Value.slice x.A0 x.n0 x.c0, .int .i64 D.a0.s, .slice x.A1 x.n1 x.c1, .int .i64 D.a1.s, .int .i64 D.fuse, .int .i64 D.keep, .bool D.down] (by rfl) _ Try.underlying27 rfl (by exact size_disk) ?_)
      refine hp.out.mono ?_
      rintro e wa ⟨y, rfl, hIy, -, hb⟩
      replace hR0 := hR0.later hb
      replace h := h.keep hb
      replace hr := hr.keep hb
      replace hR9 := hR9.later hb
      replace hR11 := hR11.later hb
      replace hB := below_step hB hb
      clear hb hp
      unfold aggD
      dsimp only
      go_upto_region 10 with (refine wpList_store_row rfl 27 (.tmp 9) (.tmp 50) rfl g9 rfl [Value.slice y.A0 y.n0 y.c0, .int .i64 DS.a0.s, .slice y.A1 y.n1 y.c1, .int .i64 DS.a1.s, .int .i64 DS.fuse, .int .i64 DS.keep, .bool DS.down] rfl _ _ hR9 (by exact size_disk) rfl (one_disk y DS) ?_)
      have hO := (Only.refl g9 wa).setRow [Value.slice y.A0 y.n0 y.c0, .int .i64 DS.a0.s, .slice y.A1 y.n1 y.c1, .int .i64 DS.a1.s, .int .i64 DS.fuse, .int .i64 DS.keep, .bool DS.down].toArray
      have hRn := hR9.setRow [Value.slice y.A0 y.n0 y.c0, .int .i64 DS.a0.s, .slice y.A1 y.n1 y.c1, .int .i64 DS.a1.s, .int .i64 DS.fuse, .int .i64 DS.keep, .bool DS.down]
      replace hIy := hIy.no_byte hR9 (cellsD_no _ _) hO
      replace h := h.no_byte hR9 (cellsD_no _ _) hO
      replace hr := hr.no_byte hR9 (cellsD_no _ _) hO
      replace hR0 := hR0.setRow_other (show w.heap.size ≠ g9 by omega) [Value.slice y.A0 y.n0 y.c0, .int .i64 DS.a0.s, .slice y.A1 y.n1 y.c1, .int .i64 DS.a1.s, .int .i64 DS.fuse, .int .i64 DS.keep, .bool DS.down].toArray
      replace hR11 := hR11.setRow_other (show g11 ≠ g9 by omega) [Value.slice y.A0 y.n0 y.c0, .int .i64 DS.a0.s, .slice y.A1 y.n1 y.c1, .int .i64 DS.a1.s, .int .i64 DS.fuse, .int .i64 DS.keep, .bool DS.down].toArray
      replace hB := hB.trans (hO.below.mono (show w.heap.size ≤ g9 by omega))
      clear hR9 hO
      rename Row (wa.setRow g9 [Value.slice y.A0 y.n0 y.c0, .int .i64 DS.a0.s, .slice y.A1 y.n1 y.c1, .int .i64 DS.a1.s, .int .i64 DS.fuse, .int .i64 DS.keep, .bool DS.down].toArray) g9 _ _ => hR9
      generalize wa.setRow g9 [Value.slice y.A0 y.n0 y.c0, .int .i64 DS.a0.s, .slice y.A1 y.n1 y.c1, .int .i64 DS.a1.s, .int .i64 DS.fuse, .int .i64 DS.keep, .bool DS.down].toArray = wb at hR0 h hr hR9 hR11 hB hIy ⊢
      have hp := refsync17_any x D k _ h hf hk
      rw [hSO] at hp
      unfold aggD at hp
      replace hp := Lib.hid hp
      go_wp2_with (refine wpList_load_part rfl 27 (.tmp 4) rfl w.heap.size 0 rfl _ _ hR0 [Value.slice x.A0 x.n0 x.c0, .int .i64 D.a0.s, .slice x.A1 x.n1 x.c1, .int .i64 D.a1.s, .int .i64 D.fuse, .int .i64 D.keep, .bool D.down] (by rfl) _ Try.underlying27 rfl (by exact size_disk) ?_)
      refine hp.out.mono ?_
      rintro e wa ⟨z, rfl, hIz, hb⟩
      replace hR0 := hR0.later hb
      replace h := h.keep hb
      replace hr := hr.keep hb
      replace hR9 := hR9.later hb
      replace hR11 := hR11.later hb
      replace hIy := hIy.keep hb
      replace hB := below_step hB hb
      clear hb hp
      unfold aggD
      dsimp only
      go_upto_region 11 with (refine wpList_store_row rfl 27 (.tmp 11) (.tmp 56) rfl g11 rfl [Value.slice z.A0 z.n0 z.c0, .int .i64 DS.a0.s, .slice z.A1 z.n1 z.c1, .int .i64 DS.a1.s, .int .i64 DS.fuse, .int .i64 DS.keep, .bool DS.down] rfl _ _ hR11 (by exact size_disk) rfl (one_disk z DS) ?_)
      have hO := (Only.refl g11 wa).setRow [Value.slice z.A0 z.n0 z.c0, .int .i64 DS.a0.s, .slice z.A1 z.n1 z.c1, .int .i64 DS.a1.s, .int .i64 DS.fuse, .int .i64 DS.keep, .bool DS.down].toArray
      have hRn := hR11.setRow [Value.slice z.A0 z.n0 z.c0, .int .i64 DS.a0.s, .slice z.A1 z.n1 z.c1, .int .i64 DS.a1.s, .int .i64 DS.fuse, .int .i64 DS.keep, .bool DS.down]
      replace hIz := hIz.no_byte hR11 (cellsD_no _ _) hO
      replace hIy := hIy.no_byte hR11 (cellsD_no _ _) hO
      replace h := h.no_byte hR11 (cellsD_no _ _) hO
      replace hr := hr.no_byte hR11 (cellsD_no _ _) hO
      replace hR0 := hR0.setRow_other (show w.heap.size ≠ g11 by omega) [Value.slice z.A0 z.n0 z.c0, .int .i64 DS.a0.s, .slice z.A1 z.n1 z.c1, .int .i64 DS.a1.s, .int .i64 DS.fuse, .int .i64 DS.keep, .bool DS.down].toArray
      replace hR9 := hR9.setRow_other (show g9 ≠ g11 by omega) [Value.slice z.A0 z.n0 z.c0, .int .i64 DS.a0.s, .slice z.A1 z.n1 z.c1, .int .i64 DS.a1.s, .int .i64 DS.fuse, .int .i64 DS.keep, .bool DS.down].toArray
      replace hB := hB.trans (hO.below.mono (show w.heap.size ≤ g11 by omega))
      clear hR11 hO
      rename Row (wa.setRow g11 [Value.slice z.A0 z.n0 z.c0, .int .i64 DS.a0.s, .slice z.A1 z.n1 z.c1, .int .i64 DS.a1.s, .int .i64 DS.fuse, .int .i64 DS.keep, .bool DS.down].toArray) g11 _ _ => hR11
      generalize wa.setRow g11 [Value.slice z.A0 z.n0 z.c0, .int .i64 DS.a0.s, .slice z.A1 z.n1 z.c1, .int .i64 DS.a1.s, .int .i64 DS.fuse, .int .i64 DS.keep, .bool DS.down].toArray = wb at hR0 h hr hR9 hR11 hIy hB hIz ⊢
      have c0 : wb.cell? ⟨g9, 0, none⟩ = some (.slice y.A0 y.n0 y.c0) := hR9.cell rfl
      have c1 : wb.cell? ⟨g9, 1, none⟩ = some (.int .i64 DS.a0.s) := hR9.cell rfl
      have c2 : wb.cell? ⟨g9, 2, none⟩ = some (.slice y.A1 y.n1 y.c1) := hR9.cell rfl
      have c3 : wb.cell? ⟨g9, 3, none⟩ = some (.int .i64 DS.a1.s) := hR9.cell rfl
      have c4 : wb.cell? ⟨g9, 4, none⟩ = some (.int .i64 DS.fuse) := hR9.cell rfl
      have c5 : wb.cell? ⟨g9, 5, none⟩ = some (.int .i64 DS.keep) := hR9.cell rfl
      have c6 : wb.cell? ⟨g9, 6, none⟩ = some (.bool DS.down) := hR9.cell rfl
      have d0 : wb.cell? ⟨g11, 0, none⟩ = some (.slice z.A0 z.n0 z.c0) := hR11.cell rfl
      have d1 : wb.cell? ⟨g11, 1, none⟩ = some (.int .i64 DS.a0.s) := hR11.cell rfl
      have d2 : wb.cell? ⟨g11, 2, none⟩ = some (.slice z.A1 z.n1 z.c1) := hR11.cell rfl
      have d3 : wb.cell? ⟨g11, 3, none⟩ = some (.int .i64 DS.a1.s) := hR11.cell rfl
      have d4 : wb.cell? ⟨g11, 4, none⟩ = some (.int .i64 DS.fuse) := hR11.cell rfl
      have d5 : wb.cell? ⟨g11, 5, none⟩ = some (.int .i64 DS.keep) := hR11.cell rfl
      have d6 : wb.cell? ⟨g11, 6, none⟩ = some (.bool DS.down) := hR11.cell rfl
      have hq := refsame17_any y z DS wb hIy hIz
      unfold aggD at hq
      replace hq := Lib.hid hq
      go_wp2_with fail
      refine hq.out.mono ?_
      rintro e wc ⟨rfl, hb⟩
      clear c0 c1 c2 c3 c4 c5 c6 d0 d1 d2 d3 d4 d5 d6 hq hIy hIz
      replace hR0 := hR0.later hb
      replace h := h.keep hb
      replace hr := hr.keep hb
      replace hR9 := hR9.later hb
      replace hR11 := hR11.later hb
      replace hB := below_step hB hb
      clear hb hSO
      obtain ⟨SO, hSO⟩ : ∃ SO, wipeD D k = SO := ⟨_, rfl⟩
      obtain ⟨DS, er⟩ := SO
      replace hSO := hSO
      have hp := wipe17_any x D k _ h (by omega) (by omega) hf hk
      rw [hSO] at hp
      unfold aggD at hp
      replace hp := Lib.hid hp
      go_wp2_with (refine wpList_load_part rfl 27 (.tmp 4) rfl w.heap.size 0 rfl _ _ hR0 [Value.slice x.A0 x.n0 x.c0, .int .i64 D.a0.s, .slice x.A1 x.n1 x.c1, .int .i64 D.a1.s, .int .i64 D.fuse, .int .i64 D.keep, .bool D.down] (by rfl) _ Try.underlying27 rfl (by exact size_disk) ?_)
      refine hp.out.mono ?_
      rintro e wa ⟨y, rfl, hIy, -, hb⟩
      replace hR0 := hR0.later hb
      replace h := h.keep hb
      replace hr := hr.keep hb
      replace hR9 := hR9.later hb
      replace hR11 := hR11.later hb
      replace hB := below_step hB hb
      clear hb hp
      unfold aggD
      dsimp only
      go_upto_region 14 with (refine wpList_store_row rfl 27 (.tmp 9) (.tmp 71) rfl g9 rfl [Value.slice y.A0 y.n0 y.c0, .int .i64 DS.a0.s, .slice y.A1 y.n1 y.c1, .int .i64 DS.a1.s, .int .i64 DS.fuse, .int .i64 DS.keep, .bool DS.down] rfl _ _ hR9 (by exact size_disk) rfl (one_disk y DS) ?_)
      have hO := (Only.refl g9 wa).setRow [Value.slice y.A0 y.n0 y.c0, .int .i64 DS.a0.s, .slice y.A1 y.n1 y.c1, .int .i64 DS.a1.s, .int .i64 DS.fuse, .int .i64 DS.keep, .bool DS.down].toArray
      have hRn := hR9.setRow [Value.slice y.A0 y.n0 y.c0, .int .i64 DS.a0.s, .slice y.A1 y.n1 y.c1, .int .i64 DS.a1.s, .int .i64 DS.fuse, .int .i64 DS.keep, .bool DS.down]
      replace hIy := hIy.no_byte hR9 (cellsD_no _ _) hO
      replace h := h.no_byte hR9 (cellsD_no _ _) hO
      replace hr := hr.no_byte hR9 (cellsD_no _ _) hO
      replace hR0 := hR0.setRow_other (show w.heap.size ≠ g9 by omega) [Value.slice y.A0 y.n0 y.c0, .int .i64 DS.a0.s, .slice y.A1 y.n1 y.c1, .int .i64 DS.a1.s, .int .i64 DS.fuse, .int .i64 DS.keep, .bool DS.down].toArray
      replace hR11 := hR11.setRow_other (show g11 ≠ g9 by omega) [Value.slice y.A0 y.n0 y.c0, .int .i64 DS.a0.s, .slice y.A1 y.n1 y.c1, .int .i64 DS.a1.s, .int .i64 DS.fuse, .int .i64 DS.keep, .bool DS.down].toArray
      replace hB := hB.trans (hO.below.mono (show w.heap.size ≤ g9 by omega))
      clear hR9 hO
      rename Row (wa.setRow g9 [Value.slice y.A0 y.n0 y.c0, .int .i64 DS.a0.s, .slice y.A1 y.n1 y.c1, .int .i64 DS.a1.s, .int .i64 DS.fuse, .int .i64 DS.keep, .bool DS.down].toArray) g9 _ _ => hR9
      generalize wa.setRow g9 [Value.slice y.A0 y.n0 y.c0, .int .i64 DS.a0.s, .slice y.A1 y.n1 y.c1, .int .i64 DS.a1.s, .int .i64 DS.fuse, .int .i64 DS.keep, .bool DS.down].toArray = wb at hR0 h hr hR9 hR11 hB hIy ⊢
      have hp := refwipe17_any x D k _ h hf hk
      rw [hSO] at hp
      unfold aggD at hp
      replace hp := Lib.hid hp
      go_wp2_with (refine wpList_load_part rfl 27 (.tmp 4) rfl w.heap.size 0 rfl _ _ hR0 [Value.slice x.A0 x.n0 x.c0, .int .i64 D.a0.s, .slice x.A1 x.n1 x.c1, .int .i64 D.a1.s, .int .i64 D.fuse, .int .i64 D.keep, .bool D.down] (by rfl) _ Try.underlying27 rfl (by exact size_disk) ?_)
      refine hp.out.mono ?_
      rintro e wa ⟨z, rfl, hIz, hb⟩
      replace hR0 := hR0.later hb
      replace h := h.keep hb
      replace hr := hr.keep hb
      replace hR9 := hR9.later hb
      replace hR11 := hR11.later hb
      replace hIy := hIy.keep hb
      replace hB := below_step hB hb
      clear hb hp
      unfold aggD
      dsimp only
      go_upto_region 15 with (refine wpList_store_row rfl 27 (.tmp 11) (.tmp 77) rfl g11 rfl [Value.slice z.A0 z.n0 z.c0, .int .i64 DS.a0.s, .slice z.A1 z.n1 z.c1, .int .i64 DS.a1.s, .int .i64 DS.fuse, .int .i64 DS.keep, .bool DS.down] rfl _ _ hR11 (by exact size_disk) rfl (one_disk z DS) ?_)
      have hO := (Only.refl g11 wa).setRow [Value.slice z.A0 z.n0 z.c0, .int .i64 DS.a0.s, .slice z.A1 z.n1 z.c1, .int .i64 DS.a1.s, .int .i64 DS.fuse, .int .i64 DS.keep, .bool DS.down].toArray
      have hRn := hR11.setRow [Value.slice z.A0 z.n0 z.c0, .int .i64 DS.a0.s, .slice z.A1 z.n1 z.c1, .int .i64 DS.a1.s, .int .i64 DS.fuse, .int .i64 DS.keep, .bool DS.down]
      replace hIz := hIz.no_byte hR11 (cellsD_no _ _) hO
      replace hIy := hIy.no_byte hR11 (cellsD_no _ _) hO
      replace h := h.no_byte hR11 (cellsD_no _ _) hO
      replace hr := hr.no_byte hR11 (cellsD_no _ _) hO
      replace hR0 := hR0.setRow_other (show w.heap.size ≠ g11 by omega) [Value.slice z.A0 z.n0 z.c0, .int .i64 DS.a0.s, .slice z.A1 z.n1 z.c1, .int .i64 DS.a1.s, .int .i64 DS.fuse, .int .i64 DS.keep, .bool DS.down].toArray
      replace hR9 := hR9.setRow_other (show g9 ≠ g11 by omega) [Value.slice z.A0 z.n0 z.c0, .int .i64 DS.a0.s, .slice z.A1 z.n1 z.c1, .int .i64 DS.a1.s, .int .i64 DS.fuse, .int .i64 DS.keep, .bool DS.down].toArray
      replace hB := hB.trans (hO.below.mono (show w.heap.size ≤ g11 by omega))
      clear hR11 hO
      rename Row (wa.setRow g11 [Value.slice z.A0 z.n0 z.c0, .int .i64 DS.a0.s, .slice z.A1 z.n1 z.c1, .int .i64 DS.a1.s, .int .i64 DS.fuse, .int .i64 DS.keep, .bool DS.down].toArray) g11 _ _ => hR11
      generalize wa.setRow g11 [Value.slice z.A0 z.n0 z.c0, .int .i64 DS.a0.s, .slice z.A1 z.n1 z.c1, .int .i64 DS.a1.s, .int .i64 DS.fuse, .int .i64 DS.keep, .bool DS.down].toArray = wb at hR0 h hr hR9 hR11 hIy hB hIz ⊢
      have c0 : wb.cell? ⟨g9, 0, none⟩ = some (.slice y.A0 y.n0 y.c0) := hR9.cell rfl
      have c1 : wb.cell? ⟨g9, 1, none⟩ = some (.int .i64 DS.a0.s) := hR9.cell rfl
      have c2 : wb.cell? ⟨g9, 2, none⟩ = some (.slice y.A1 y.n1 y.c1) := hR9.cell rfl
      have c3 : wb.cell? ⟨g9, 3, none⟩ = some (.int .i64 DS.a1.s) := hR9.cell rfl
      have c4 : wb.cell? ⟨g9, 4, none⟩ = some (.int .i64 DS.fuse) := hR9.cell rfl
      have c5 : wb.cell? ⟨g9, 5, none⟩ = some (.int .i64 DS.keep) := hR9.cell rfl
      have c6 : wb.cell? ⟨g9, 6, none⟩ = some (.bool DS.down) := hR9.cell rfl
      have d0 : wb.cell? ⟨g11, 0, none⟩ = some (.slice z.A0 z.n0 z.c0) := hR11.cell rfl
      have d1 : wb.cell? ⟨g11, 1, none⟩ = some (.int .i64 DS.a0.s) := hR11.cell rfl
      have d2 : wb.cell? ⟨g11, 2, none⟩ = some (.slice z.A1 z.n1 z.c1) := hR11.cell rfl
      have d3 : wb.cell? ⟨g11, 3, none⟩ = some (.int .i64 DS.a1.s) := hR11.cell rfl
      have d4 : wb.cell? ⟨g11, 4, none⟩ = some (.int .i64 DS.fuse) := hR11.cell rfl
      have d5 : wb.cell? ⟨g11, 5, none⟩ = some (.int .i64 DS.keep) := hR11.cell rfl
      have d6 : wb.cell? ⟨g11, 6, none⟩ = some (.bool DS.down) := hR11.cell rfl
      have hq := refsame17_any y z DS wb hIy hIz
      unfold aggD at hq
      replace hq := Lib.hid hq
      go_wp2_with fail
      refine hq.out.mono ?_
      rintro e wc ⟨rfl, hb⟩
      clear c0 c1 c2 c3 c4 c5 c6 d0 d1 d2 d3 d4 d5 d6 hq hIy hIz
      replace hR0 := hR0.later hb
      replace h := h.keep hb
      replace hr := hr.keep hb
      replace hR9 := hR9.later hb
      replace hR11 := hR11.later hb
      replace hB := below_step hB hb
      clear hb hSO
      obtain ⟨SO, hSO⟩ : ∃ SO, crashD D keep = SO := ⟨_, rfl⟩
      obtain ⟨DS, er⟩ := SO
      replace hSO := hSO
      have hp := crash17_any x D keep _ h (by omega) (by omega) hkp
      rw [hSO] at hp
      unfold aggD at hp
      replace hp := Lib.hid hp
      go_wp2_with (refine wpList_load_part rfl 27 (.tmp 4) rfl w.heap.size 0 rfl _ _ hR0 [Value.slice x.A0 x.n0 x.c0, .int .i64 D.a0.s, .slice x.A1 x.n1 x.c1, .int .i64 D.a1.s, .int .i64 D.fuse, .int .i64 D.keep, .bool D.down] (by rfl) _ Try.underlying27 rfl (by exact size_disk) ?_)
      refine hp.out.mono ?_
      rintro e wa ⟨y, rfl, hIy, -, hb⟩
      replace hR0 := hR0.later hb
      replace h := h.keep hb
      replace hr := hr.keep hb
      replace hR9 := hR9.later hb
      replace hR11 := hR11.later hb
      replace hB := below_step hB hb
      clear hb hp
      unfold aggD
      dsimp only
      go_upto_region 18 with (refine wpList_store_row rfl 27 (.tmp 9) (.tmp 92) rfl g9 rfl [Value.slice y.A0 y.n0 y.c0, .int .i64 DS.a0.s, .slice y.A1 y.n1 y.c1, .int .i64 DS.a1.s, .int .i64 DS.fuse, .int .i64 DS.keep, .bool DS.down] rfl _ _ hR9 (by exact size_disk) rfl (one_disk y DS) ?_)
      have hO := (Only.refl g9 wa).setRow [Value.slice y.A0 y.n0 y.c0, .int .i64 DS.a0.s, .slice y.A1 y.n1 y.c1, .int .i64 DS.a1.s, .int .i64 DS.fuse, .int .i64 DS.keep, .bool DS.down].toArray
      have hRn := hR9.setRow [Value.slice y.A0 y.n0 y.c0, .int .i64 DS.a0.s, .slice y.A1 y.n1 y.c1, .int .i64 DS.a1.s, .int .i64 DS.fuse, .int .i64 DS.keep, .bool DS.down]
      replace hIy := hIy.no_byte hR9 (cellsD_no _ _) hO
      replace h := h.no_byte hR9 (cellsD_no _ _) hO
      replace hr := hr.no_byte hR9 (cellsD_no _ _) hO
      replace hR0 := hR0.setRow_other (show w.heap.size ≠ g9 by omega) [Value.slice y.A0 y.n0 y.c0, .int .i64 DS.a0.s, .slice y.A1 y.n1 y.c1, .int .i64 DS.a1.s, .int .i64 DS.fuse, .int .i64 DS.keep, .bool DS.down].toArray
      replace hR11 := hR11.setRow_other (show g11 ≠ g9 by omega) [Value.slice y.A0 y.n0 y.c0, .int .i64 DS.a0.s, .slice y.A1 y.n1 y.c1, .int .i64 DS.a1.s, .int .i64 DS.fuse, .int .i64 DS.keep, .bool DS.down].toArray
      replace hB := hB.trans (hO.below.mono (show w.heap.size ≤ g9 by omega))
      clear hR9 hO
      rename Row (wa.setRow g9 [Value.slice y.A0 y.n0 y.c0, .int .i64 DS.a0.s, .slice y.A1 y.n1 y.c1, .int .i64 DS.a1.s, .int .i64 DS.fuse, .int .i64 DS.keep, .bool DS.down].toArray) g9 _ _ => hR9
      generalize wa.setRow g9 [Value.slice y.A0 y.n0 y.c0, .int .i64 DS.a0.s, .slice y.A1 y.n1 y.c1, .int .i64 DS.a1.s, .int .i64 DS.fuse, .int .i64 DS.keep, .bool DS.down].toArray = wb at hR0 h hr hR9 hR11 hB hIy ⊢
      have hp := refcrash17_any x D keep _ h hkp
      rw [hSO] at hp
      unfold aggD at hp
      replace hp := Lib.hid hp
      go_wp2_with (refine wpList_load_part rfl 27 (.tmp 4) rfl w.heap.size 0 rfl _ _ hR0 [Value.slice x.A0 x.n0 x.c0, .int .i64 D.a0.s, .slice x.A1 x.n1 x.c1, .int .i64 D.a1.s, .int .i64 D.fuse, .int .i64 D.keep, .bool D.down] (by rfl) _ Try.underlying27 rfl (by exact size_disk) ?_)
      refine hp.out.mono ?_
      rintro e wa ⟨z, rfl, hIz, hb⟩
      replace hR0 := hR0.later hb
      replace h := h.keep hb
      replace hr := hr.keep hb
      replace hR9 := hR9.later hb
      replace hR11 := hR11.later hb
      replace hIy := hIy.keep hb
      replace hB := below_step hB hb
      clear hb hp
      unfold aggD
      dsimp only
      go_upto_region 19 with (refine wpList_store_row rfl 27 (.tmp 11) (.tmp 98) rfl g11 rfl [Value.slice z.A0 z.n0 z.c0, .int .i64 DS.a0.s, .slice z.A1 z.n1 z.c1, .int .i64 DS.a1.s, .int .i64 DS.fuse, .int .i64 DS.keep, .bool DS.down] rfl _ _ hR11 (by exact size_disk) rfl (one_disk z DS) ?_)
      have hO := (Only.refl g11 wa).setRow [Value.slice z.A0 z.n0 z.c0, .int .i64 DS.a0.s, .slice z.A1 z.n1 z.c1, .int .i64 DS.a1.s, .int .i64 DS.fuse, .int .i64 DS.keep, .bool DS.down].toArray
      have hRn := hR11.setRow [Value.slice z.A0 z.n0 z.c0, .int .i64 DS.a0.s, .slice z.A1 z.n1 z.c1, .int .i64 DS.a1.s, .int .i64 DS.fuse, .int .i64 DS.keep, .bool DS.down]
      replace hIz := hIz.no_byte hR11 (cellsD_no _ _) hO
      replace hIy := hIy.no_byte hR11 (cellsD_no _ _) hO
      replace h := h.no_byte hR11 (cellsD_no _ _) hO
      replace hr := hr.no_byte hR11 (cellsD_no _ _) hO
      replace hR0 := hR0.setRow_other (show w.heap.size ≠ g11 by omega) [Value.slice z.A0 z.n0 z.c0, .int .i64 DS.a0.s, .slice z.A1 z.n1 z.c1, .int .i64 DS.a1.s, .int .i64 DS.fuse, .int .i64 DS.keep, .bool DS.down].toArray
      replace hR9 := hR9.setRow_other (show g9 ≠ g11 by omega) [Value.slice z.A0 z.n0 z.c0, .int .i64 DS.a0.s, .slice z.A1 z.n1 z.c1, .int .i64 DS.a1.s, .int .i64 DS.fuse, .int .i64 DS.keep, .bool DS.down].toArray
      replace hB := hB.trans (hO.below.mono (show w.heap.size ≤ g11 by omega))
      clear hR11 hO
      rename Row (wa.setRow g11 [Value.slice z.A0 z.n0 z.c0, .int .i64 DS.a0.s, .slice z.A1 z.n1 z.c1, .int .i64 DS.a1.s, .int .i64 DS.fuse, .int .i64 DS.keep, .bool DS.down].toArray) g11 _ _ => hR11
      generalize wa.setRow g11 [Value.slice z.A0 z.n0 z.c0, .int .i64 DS.a0.s, .slice z.A1 z.n1 z.c1, .int .i64 DS.a1.s, .int .i64 DS.fuse, .int .i64 DS.keep, .bool DS.down].toArray = wb at hR0 h hr hR9 hR11 hIy hB hIz ⊢
      have c0 : wb.cell? ⟨g9, 0, none⟩ = some (.slice y.A0 y.n0 y.c0) := hR9.cell rfl
      have c1 : wb.cell? ⟨g9, 1, none⟩ = some (.int .i64 DS.a0.s) := hR9.cell rfl
      have c2 : wb.cell? ⟨g9, 2, none⟩ = some (.slice y.A1 y.n1 y.c1) := hR9.cell rfl
      have c3 : wb.cell? ⟨g9, 3, none⟩ = some (.int .i64 DS.a1.s) := hR9.cell rfl
      have c4 : wb.cell? ⟨g9, 4, none⟩ = some (.int .i64 DS.fuse) := hR9.cell rfl
      have c5 : wb.cell? ⟨g9, 5, none⟩ = some (.int .i64 DS.keep) := hR9.cell rfl
      have c6 : wb.cell? ⟨g9, 6, none⟩ = some (.bool DS.down) := hR9.cell rfl
      have d0 : wb.cell? ⟨g11, 0, none⟩ = some (.slice z.A0 z.n0 z.c0) := hR11.cell rfl
      have d1 : wb.cell? ⟨g11, 1, none⟩ = some (.int .i64 DS.a0.s) := hR11.cell rfl
      have d2 : wb.cell? ⟨g11, 2, none⟩ = some (.slice z.A1 z.n1 z.c1) := hR11.cell rfl
      have d3 : wb.cell? ⟨g11, 3, none⟩ = some (.int .i64 DS.a1.s) := hR11.cell rfl
      have d4 : wb.cell? ⟨g11, 4, none⟩ = some (.int .i64 DS.fuse) := hR11.cell rfl
      have d5 : wb.cell? ⟨g11, 5, none⟩ = some (.int .i64 DS.keep) := hR11.cell rfl
      have d6 : wb.cell? ⟨g11, 6, none⟩ = some (.bool DS.down) := hR11.cell rfl
      have hq := refsame17_any y z DS wb hIy hIz
      unfold aggD at hq
      replace hq := Lib.hid hq
      go_wp2_with fail
      refine hq.out.mono ?_
      rintro e wc ⟨rfl, hb⟩
      clear c0 c1 c2 c3 c4 c5 c6 d0 d1 d2 d3 d4 d5 d6 hq hIy hIz
      replace hR0 := hR0.later hb
      replace h := h.keep hb
      replace hr := hr.keep hb
      replace hR9 := hR9.later hb
      replace hR11 := hR11.later hb
      replace hB := below_step hB hb
      clear hb hSO
      obtain ⟨SO, hSO⟩ : ∃ SO, riseD D = SO := ⟨_, rfl⟩
      obtain ⟨DS, er⟩ := SO
      replace hSO := hSO
      have hp := rise17_any x D _ h (by omega) (by omega)
      rw [hSO] at hp
      unfold aggD at hp
      replace hp := Lib.hid hp
      go_wp2_with (refine wpList_load_part rfl 27 (.tmp 4) rfl w.heap.size 0 rfl _ _ hR0 [Value.slice x.A0 x.n0 x.c0, .int .i64 D.a0.s, .slice x.A1 x.n1 x.c1, .int .i64 D.a1.s, .int .i64 D.fuse, .int .i64 D.keep, .bool D.down] (by rfl) _ Try.underlying27 rfl (by exact size_disk) ?_)
      refine hp.out.mono ?_
      rintro e wa ⟨y, rfl, hIy, -, hb⟩
      replace hR0 := hR0.later hb
      replace h := h.keep hb
      replace hr := hr.keep hb
      replace hR9 := hR9.later hb
      replace hR11 := hR11.later hb
      replace hB := below_step hB hb
      clear hb hp
      unfold aggD
      dsimp only
      go_upto_region 22 with (refine wpList_store_row rfl 27 (.tmp 9) (.tmp 112) rfl g9 rfl [Value.slice y.A0 y.n0 y.c0, .int .i64 DS.a0.s, .slice y.A1 y.n1 y.c1, .int .i64 DS.a1.s, .int .i64 DS.fuse, .int .i64 DS.keep, .bool DS.down] rfl _ _ hR9 (by exact size_disk) rfl (one_disk y DS) ?_)
      have hO := (Only.refl g9 wa).setRow [Value.slice y.A0 y.n0 y.c0, .int .i64 DS.a0.s, .slice y.A1 y.n1 y.c1, .int .i64 DS.a1.s, .int .i64 DS.fuse, .int .i64 DS.keep, .bool DS.down].toArray
      have hRn := hR9.setRow [Value.slice y.A0 y.n0 y.c0, .int .i64 DS.a0.s, .slice y.A1 y.n1 y.c1, .int .i64 DS.a1.s, .int .i64 DS.fuse, .int .i64 DS.keep, .bool DS.down]
      replace hIy := hIy.no_byte hR9 (cellsD_no _ _) hO
      replace h := h.no_byte hR9 (cellsD_no _ _) hO
      replace hr := hr.no_byte hR9 (cellsD_no _ _) hO
      replace hR0 := hR0.setRow_other (show w.heap.size ≠ g9 by omega) [Value.slice y.A0 y.n0 y.c0, .int .i64 DS.a0.s, .slice y.A1 y.n1 y.c1, .int .i64 DS.a1.s, .int .i64 DS.fuse, .int .i64 DS.keep, .bool DS.down].toArray
      replace hR11 := hR11.setRow_other (show g11 ≠ g9 by omega) [Value.slice y.A0 y.n0 y.c0, .int .i64 DS.a0.s, .slice y.A1 y.n1 y.c1, .int .i64 DS.a1.s, .int .i64 DS.fuse, .int .i64 DS.keep, .bool DS.down].toArray
      replace hB := hB.trans (hO.below.mono (show w.heap.size ≤ g9 by omega))
      clear hR9 hO
      rename Row (wa.setRow g9 [Value.slice y.A0 y.n0 y.c0, .int .i64 DS.a0.s, .slice y.A1 y.n1 y.c1, .int .i64 DS.a1.s, .int .i64 DS.fuse, .int .i64 DS.keep, .bool DS.down].toArray) g9 _ _ => hR9
      generalize wa.setRow g9 [Value.slice y.A0 y.n0 y.c0, .int .i64 DS.a0.s, .slice y.A1 y.n1 y.c1, .int .i64 DS.a1.s, .int .i64 DS.fuse, .int .i64 DS.keep, .bool DS.down].toArray = wb at hR0 h hr hR9 hR11 hB hIy ⊢
      have hp := refrise17_any x D _ h
      rw [hSO] at hp
      unfold aggD at hp
      replace hp := Lib.hid hp
      go_wp2_with (refine wpList_load_part rfl 27 (.tmp 4) rfl w.heap.size 0 rfl _ _ hR0 [Value.slice x.A0 x.n0 x.c0, .int .i64 D.a0.s, .slice x.A1 x.n1 x.c1, .int .i64 D.a1.s, .int .i64 D.fuse, .int .i64 D.keep, .bool D.down] (by rfl) _ Try.underlying27 rfl (by exact size_disk) ?_)
      refine hp.out.mono ?_
      rintro e wa ⟨z, rfl, hIz, hb⟩
      replace hR0 := hR0.later hb
      replace h := h.keep hb
      replace hr := hr.keep hb
      replace hR9 := hR9.later hb
      replace hR11 := hR11.later hb
      replace hIy := hIy.keep hb
      replace hB := below_step hB hb
      clear hb hp
      unfold aggD
      dsimp only
      go_upto_region 23 with (refine wpList_store_row rfl 27 (.tmp 11) (.tmp 117) rfl g11 rfl [Value.slice z.A0 z.n0 z.c0, .int .i64 DS.a0.s, .slice z.A1 z.n1 z.c1, .int .i64 DS.a1.s, .int .i64 DS.fuse, .int .i64 DS.keep, .bool DS.down] rfl _ _ hR11 (by exact size_disk) rfl (one_disk z DS) ?_)
      have hO := (Only.refl g11 wa).setRow [Value.slice z.A0 z.n0 z.c0, .int .i64 DS.a0.s, .slice z.A1 z.n1 z.c1, .int .i64 DS.a1.s, .int .i64 DS.fuse, .int .i64 DS.keep, .bool DS.down].toArray
      have hRn := hR11.setRow [Value.slice z.A0 z.n0 z.c0, .int .i64 DS.a0.s, .slice z.A1 z.n1 z.c1, .int .i64 DS.a1.s, .int .i64 DS.fuse, .int .i64 DS.keep, .bool DS.down]
      replace hIz := hIz.no_byte hR11 (cellsD_no _ _) hO
      replace hIy := hIy.no_byte hR11 (cellsD_no _ _) hO
      replace h := h.no_byte hR11 (cellsD_no _ _) hO
      replace hr := hr.no_byte hR11 (cellsD_no _ _) hO
      replace hR0 := hR0.setRow_other (show w.heap.size ≠ g11 by omega) [Value.slice z.A0 z.n0 z.c0, .int .i64 DS.a0.s, .slice z.A1 z.n1 z.c1, .int .i64 DS.a1.s, .int .i64 DS.fuse, .int .i64 DS.keep, .bool DS.down].toArray
      replace hR9 := hR9.setRow_other (show g9 ≠ g11 by omega) [Value.slice z.A0 z.n0 z.c0, .int .i64 DS.a0.s, .slice z.A1 z.n1 z.c1, .int .i64 DS.a1.s, .int .i64 DS.fuse, .int .i64 DS.keep, .bool DS.down].toArray
      replace hB := hB.trans (hO.below.mono (show w.heap.size ≤ g11 by omega))
      clear hR11 hO
      rename Row (wa.setRow g11 [Value.slice z.A0 z.n0 z.c0, .int .i64 DS.a0.s, .slice z.A1 z.n1 z.c1, .int .i64 DS.a1.s, .int .i64 DS.fuse, .int .i64 DS.keep, .bool DS.down].toArray) g11 _ _ => hR11
      generalize wa.setRow g11 [Value.slice z.A0 z.n0 z.c0, .int .i64 DS.a0.s, .slice z.A1 z.n1 z.c1, .int .i64 DS.a1.s, .int .i64 DS.fuse, .int .i64 DS.keep, .bool DS.down].toArray = wb at hR0 h hr hR9 hR11 hIy hB hIz ⊢
      have c0 : ∀ X, Below wb.heap.size wb X → X.cell? ⟨g9, 0, none⟩ = some (.slice y.A0 y.n0 y.c0) := fun X hX => (hR9.later hX).cell rfl
      have c1 : ∀ X, Below wb.heap.size wb X → X.cell? ⟨g9, 1, none⟩ = some (.int .i64 DS.a0.s) := fun X hX => (hR9.later hX).cell rfl
      have c2 : ∀ X, Below wb.heap.size wb X → X.cell? ⟨g9, 2, none⟩ = some (.slice y.A1 y.n1 y.c1) := fun X hX => (hR9.later hX).cell rfl
      have c3 : ∀ X, Below wb.heap.size wb X → X.cell? ⟨g9, 3, none⟩ = some (.int .i64 DS.a1.s) := fun X hX => (hR9.later hX).cell rfl
      have c4 : ∀ X, Below wb.heap.size wb X → X.cell? ⟨g9, 4, none⟩ = some (.int .i64 DS.fuse) := fun X hX => (hR9.later hX).cell rfl
      have c5 : ∀ X, Below wb.heap.size wb X → X.cell? ⟨g9, 5, none⟩ = some (.int .i64 DS.keep) := fun X hX => (hR9.later hX).cell rfl
      have c6 : ∀ X, Below wb.heap.size wb X → X.cell? ⟨g9, 6, none⟩ = some (.bool DS.down) := fun X hX => (hR9.later hX).cell rfl
      have d0 : ∀ X, Below wb.heap.size wb X → X.cell? ⟨g11, 0, none⟩ = some (.slice z.A0 z.n0 z.c0) := fun X hX => (hR11.later hX).cell rfl
      have d1 : ∀ X, Below wb.heap.size wb X → X.cell? ⟨g11, 1, none⟩ = some (.int .i64 DS.a0.s) := fun X hX => (hR11.later hX).cell rfl
      have d2 : ∀ X, Below wb.heap.size wb X → X.cell? ⟨g11, 2, none⟩ = some (.slice z.A1 z.n1 z.c1) := fun X hX => (hR11.later hX).cell rfl
      have d3 : ∀ X, Below wb.heap.size wb X → X.cell? ⟨g11, 3, none⟩ = some (.int .i64 DS.a1.s) := fun X hX => (hR11.later hX).cell rfl
      have d4 : ∀ X, Below wb.heap.size wb X → X.cell? ⟨g11, 4, none⟩ = some (.int .i64 DS.fuse) := fun X hX => (hR11.later hX).cell rfl
      have d5 : ∀ X, Below wb.heap.size wb X → X.cell? ⟨g11, 5, none⟩ = some (.int .i64 DS.keep) := fun X hX => (hR11.later hX).cell rfl
      have d6 : ∀ X, Below wb.heap.size wb X → X.cell? ⟨g11, 6, none⟩ = some (.bool DS.down) := fun X hX => (hR11.later hX).cell rfl
      have a0 : ∀ X, Below wb.heap.size wb X → X.cell? ⟨w.heap.size, 0, none⟩ = some (.slice x.A0 x.n0 x.c0) := fun X hX => (hR0.later hX).cell rfl
      have a1 : ∀ X, Below wb.heap.size wb X → X.cell? ⟨w.heap.size, 1, none⟩ = some (.int .i64 D.a0.s) := fun X hX => (hR0.later hX).cell rfl
      have a2 : ∀ X, Below wb.heap.size wb X → X.cell? ⟨w.heap.size, 2, none⟩ = some (.slice x.A1 x.n1 x.c1) := fun X hX => (hR0.later hX).cell rfl
      have a3 : ∀ X, Below wb.heap.size wb X → X.cell? ⟨w.heap.size, 3, none⟩ = some (.int .i64 D.a1.s) := fun X hX => (hR0.later hX).cell rfl
      have a4 : ∀ X, Below wb.heap.size wb X → X.cell? ⟨w.heap.size, 4, none⟩ = some (.int .i64 D.fuse) := fun X hX => (hR0.later hX).cell rfl
      have a5 : ∀ X, Below wb.heap.size wb X → X.cell? ⟨w.heap.size, 5, none⟩ = some (.int .i64 D.keep) := fun X hX => (hR0.later hX).cell rfl
      have a6 : ∀ X, Below wb.heap.size wb X → X.cell? ⟨w.heap.size, 6, none⟩ = some (.bool D.down) := fun X hX => (hR0.later hX).cell rfl
      obtain ⟨R, hRR⟩ : ∃ R, decide (rightDK D) = R := ⟨_, rfl⟩
      have HRR := Lib.hid hRR
      have HX := Lib.hid (And.intro hIy (And.intro hIz (And.intro h hB)))
      clear hRR hIy hIz h hB hr hR0 hR9 hR11 hSO
      have hBase := (Below.refl wb.heap.size wb).drew
      refine wp_region_plan (.step 0 false (.step 1 false (.step 2 false (.step 3 false (.step 4 false (.step 5 false (.step 6 true (.step 7 false (.step 8 false (.step 9 false (.step 11 false (.step 10 true (.step 12 true (.step 13 false (.step 14 false (.step 15 false (.step 17 false (.step 16 true (.step 18 true (.step 19 false (.step 20 false (.nil)))))))))))))))))))))) (by kernel_rfl) (by kernel_rfl) (by rfl) (by kernel_rfl) ?_
      iterate 6 (refine plan_read rfl (by rfl) (v := ?_) ?_ ?_; rotate_left 1; (intro W hW; have hW0 := below_step hBase hW; (try dsimp only at hW); go_simp <;> with_reducible rfl); simp only [List.getElem_toArray, List.getElem_cons_zero, List.getElem_cons_succ, Act.put, List.setIfInBounds_toArray, List.set_cons_zero, List.set_cons_succ])
      (refine plan_make rfl (by rfl) (fun K hK => ?_); go_simp; (refine (refsame17_any y z DS _ (HX.out.1.keep hBase) (HX.out.2.1.keep hBase)).mono ?_; rintro e₁ wz ⟨rfl, hbx⟩); refine hK.out _ _ hbx ?_; clear hK K; replace hBase := below_step hBase hbx)
      iterate 4 (refine plan_read rfl (by rfl) (v := ?_) ?_ ?_; rotate_left 1; (intro W hW; have hW0 := below_step hBase hW; (try dsimp only at hW); go_simp <;> with_reducible rfl); simp only [List.getElem_toArray, List.getElem_cons_zero, List.getElem_cons_succ, Act.put, List.setIfInBounds_toArray, List.set_cons_zero, List.set_cons_succ])
      (refine plan_make rfl (by rfl) (fun K hK => ?_); go_simp; (refine (right17_any x D _ (HX.out.2.2.1.keep hBase)).mono ?_; rintro e₁ wz2 ⟨rfl, hbx⟩; rw [HRR.out]); refine hK.out _ _ hbx ?_; clear hK K; replace hBase := below_step hBase hbx)
      (refine plan_make rfl (by rfl) (fun K hK => ?_); go_simp; (refine (refright17_any x D _ (HX.out.2.2.1.keep hBase)).mono ?_; rintro e₁ wz3 ⟨rfl, hbx⟩; rw [HRR.out]); refine hK.out _ _ hbx ?_; clear hK K; replace hBase := below_step hBase hbx)
      iterate 4 (refine plan_read rfl (by rfl) (v := ?_) ?_ ?_; rotate_left 1; (intro W hW; have hW0 := below_step hBase hW; (try dsimp only at hW); go_simp <;> with_reducible rfl); simp only [List.getElem_toArray, List.getElem_cons_zero, List.getElem_cons_succ, Act.put, List.setIfInBounds_toArray, List.set_cons_zero, List.set_cons_succ])
      (refine plan_make rfl (by rfl) (fun K hK => ?_); go_simp; (refine (new17_any _).mono ?_; rintro e₁ wz4 ⟨rfl, hbx⟩); refine hK.out _ _ hbx ?_; clear hK K; replace hBase := below_step hBase hbx)
      (refine plan_make rfl (by rfl) (fun K hK => ?_); go_simp; (refine (refsame17_any ⟨none, 0, 0, none, 0, 0⟩ ⟨none, 0, 0, none, 0, 0⟩ newD _ (newD_in _) (newD_in _)).mono ?_; rintro e₁ wz5 ⟨rfl, hbx⟩); refine hK.out _ _ hbx ?_; clear hK K; replace hBase := below_step hBase hbx)
      iterate 2 (refine plan_read rfl (by rfl) (v := ?_) ?_ ?_; rotate_left 1; (intro W hW; have hW0 := below_step hBase hW; (try dsimp only at hW); go_simp <;> with_reducible rfl); simp only [List.getElem_toArray, List.getElem_cons_zero, List.getElem_cons_succ, Act.put, List.setIfInBounds_toArray, List.set_cons_zero, List.set_cons_succ])
      refine plan_done ?_
      clear c0 c1 c2 c3 c4 c5 c6 d0 d1 d2 d3 d4 d5 d6 a0 a1 a2 a3 a4 a5 a6
      go_wp2_with fail
      go_ret
      exact ⟨rfl, below_step HX.out.2.2.2 hBase⟩
  · rw [decide_eq_false hsh]
    clear hsh
    go_wp2_with fail
    go_ret
    exact ⟨rfl, hB⟩
end Go.Proofs.Ytkkfkibjamnpnaa
