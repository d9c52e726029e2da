/-
  What the reference's calls Write of layer 17 answer. No conditions but those typed.
-/
import Derived.Test.YtkkfkibjamnpnaaP4
namespace Go.Proofs.Ytkkfkibjamnpnaa
set_option maxRecDepth 100000
open Go.RowKit
set_option linter.unusedSimpArgs false
set_option linter.unusedVariables false


set_option maxHeartbeats 4000000 in
theorem refwrite17_any (x : WD) (D : DK) (k : Int) (b : List UInt8) (C : Option Addr) (m dd : Nat) (w : World) (h : InD w x D) (hf : D.fuse ≤ 9223372036854775807) (hk : D.keep ≤ 9223372036854775807) (HL : Hid (b.length = m)) (hmd : m ≤ dd) (hm : m ≤ 1048576) (hr : Rd vB w C b) :
    Calls Try.prog 9 #[aggD x D, .int .i64 k, .slice C m dd] w (RetF w (writeD D k b).1 (writeD D k b).2) := by
  obtain ⟨i0, hi, hz0, hz1, hz2⟩ := info_parts info_u8
  obtain ⟨hR0, hRr, hB⟩ := two_boxes w 27 27 [Value.slice x.A0 x.n0 x.c0, .int .i64 D.a0.s, .slice x.A1 x.n1 x.c1, .int .i64 D.a1.s, .int .i64 D.fuse, .int .i64 D.keep, .bool D.down] [Value.slice none 0 0, .int .i64 0, .slice none 0 0, .int .i64 0, .int .i64 0, .int .i64 0, .bool false] _ _ rfl rfl
  obtain ⟨SO, hSO⟩ : ∃ SO, writeD D k b = SO := ⟨_, rfl⟩
  rw [hSO]
  have HSO := Lib.hid hSO
  obtain ⟨BK, hBK⟩ : ∃ BK, beginK D k = BK := ⟨_, rfl⟩
  have HBK := Lib.hid hBK
  have hbg := begin17_any x D k
  rw [hBK] at hbg
  clear hSO hBK
  obtain ⟨D1, g, er⟩ := BK
  unfold aggD at hbg
  dsimp only at hbg
  have HBG := Lib.hid hbg
  clear hbg
  have HCA := Lib.hid (begin_cases D k)
  unfold aggD
  go_enter Try.func9, Try.ntmps9
  go_upto_region 1 with fail
  generalize (w.alloc (.cells [Value.slice x.A0 x.n0 x.c0, .int .i64 D.a0.s, .slice x.A1 x.n1 x.c1, .int .i64 D.a1.s, .int .i64 D.fuse, .int .i64 D.keep, .bool D.down].toArray 27)).alloc (.cells [Value.slice none 0 0, .int .i64 0, .slice none 0 0, .int .i64 0, .int .i64 0, .int .i64 0, .bool false].toArray 27) = W at hR0 hRr hB ⊢
  replace h := h.keep hB
  replace hr := hr.keep hB
  have hlt := hRr.lt
  obtain ⟨hRz, hBz⟩ := box_of W 27 [Value.slice none 0 0, .int .i64 0, .slice none 0 0, .int .i64 0, .int .i64 0, .int .i64 0, .bool false] _ rfl
  go_upto_region 2 with (first
    | (refine wpList_load_part rfl 27 (.tmp 3) rfl w.heap.size 0 rfl _ _ hR0 [Value.slice x.A0 x.n0 x.c0, .int .i64 D.a0.s, .slice x.A1 x.n1 x.c1, .int .i64 D.a1.s, .int .i64 D.fuse, .int .i64 D.keep, .bool D.down] (by rfl) _ Try.underlying27 rfl (by exact size_disk) ?_)
    | (refine wpList_store_row rfl 27 (.tmp 8) _ rfl W.heap.size rfl [Value.slice x.A0 x.n0 x.c0, .int .i64 D.a0.s, .slice x.A1 x.n1 x.c1, .int .i64 D.a1.s, .int .i64 D.fuse, .int .i64 D.keep, .bool D.down] rfl _ _ hRz (by exact size_disk) rfl (one_disk x D) ?_))
  have hRw := hRz.setRow [Value.slice x.A0 x.n0 x.c0, .int .i64 D.a0.s, .slice x.A1 x.n1 x.c1, .int .i64 D.a1.s, .int .i64 D.fuse, .int .i64 D.keep, .bool D.down]
  have hBy : Below W.heap.size W ((W.alloc (.cells [Value.slice none 0 0, .int .i64 0, .slice none 0 0, .int .i64 0, .int .i64 0, .int .i64 0, .bool false].toArray 27)).setRow W.heap.size [Value.slice x.A0 x.n0 x.c0, .int .i64 D.a0.s, .slice x.A1 x.n1 x.c1, .int .i64 D.a1.s, .int .i64 D.fuse, .int .i64 D.keep, .bool D.down].toArray) := below_setRow hBz (Nat.le_refl _) _
  replace hR0 := hR0.later hBy
  replace hRr := hRr.later hBy
  replace h := h.keep hBy
  replace hr := hr.keep hBy
  replace hB := below_step hB hBy
  clear hRz hBz hBy
  generalize (W.alloc (.cells [Value.slice none 0 0, .int .i64 0, .slice none 0 0, .int .i64 0, .int .i64 0, .int .i64 0, .bool false].toArray 27)).setRow W.heap.size [Value.slice x.A0 x.n0 x.c0, .int .i64 D.a0.s, .slice x.A1 x.n1 x.c1, .int .i64 D.a1.s, .int .i64 D.fuse, .int .i64 D.keep, .bool D.down].toArray = W1 at hR0 hRr hRw hB h hr ⊢
  have hwl := hRw.lt
  have HBH := Lib.hid (HBG.out W1 h hf)
  go_wp2_with (refine wpList_load_part rfl 27 (.tmp 3) rfl w.heap.size 0 rfl _ _ hR0 [Value.slice x.A0 x.n0 x.c0, .int .i64 D.a0.s, .slice x.A1 x.n1 x.c1, .int .i64 D.a1.s, .int .i64 D.fuse, .int .i64 D.keep, .bool D.down] (by rfl) _ Try.underlying27 rfl (by exact size_disk) ?_)
  refine HBH.out.mono ?_
  rintro e w2 ⟨rfl, hb⟩
  replace hR0 := hR0.later hb
  replace hRr := hRr.later hb
  replace hRw := hRw.later hb
  replace h := h.keep hb
  replace hr := hr.keep hb
  replace hB := below_step hB hb
  clear hb HBH HBG hwl
  dsimp only
  go_upto_region 3 with (refine wpList_store_row rfl 27 (.tmp 3) (.tmp 16) rfl w.heap.size rfl [Value.slice x.A0 x.n0 x.c0, .int .i64 D1.a0.s, .slice x.A1 x.n1 x.c1, .int .i64 D1.a1.s, .int .i64 D1.fuse, .int .i64 D1.keep, .bool D1.down] rfl _ _ hR0 (by exact size_disk) rfl (one_disk x D1) ?_)
  have hR1 := hR0.setRow [Value.slice x.A0 x.n0 x.c0, .int .i64 D1.a0.s, .slice x.A1 x.n1 x.c1, .int .i64 D1.a1.s, .int .i64 D1.fuse, .int .i64 D1.keep, .bool D1.down]
  have hO := (Only.refl w.heap.size w2).setRow [Value.slice x.A0 x.n0 x.c0, .int .i64 D1.a0.s, .slice x.A1 x.n1 x.c1, .int .i64 D1.a1.s, .int .i64 D1.fuse, .int .i64 D1.keep, .bool D1.down].toArray
  replace hRr := hRr.setRow_other (show w.heap.size + 1 ≠ w.heap.size by omega) [Value.slice x.A0 x.n0 x.c0, .int .i64 D1.a0.s, .slice x.A1 x.n1 x.c1, .int .i64 D1.a1.s, .int .i64 D1.fuse, .int .i64 D1.keep, .bool D1.down].toArray
  replace hRw := hRw.setRow_other (show W.heap.size ≠ w.heap.size by omega) [Value.slice x.A0 x.n0 x.c0, .int .i64 D1.a0.s, .slice x.A1 x.n1 x.c1, .int .i64 D1.a1.s, .int .i64 D1.fuse, .int .i64 D1.keep, .bool D1.down].toArray
  replace h := h.no_byte hR0 (cellsD_no x D) hO
  replace hr := hr.no_byte hR0 (cellsD_no x D) hO
  replace hB := hB.trans hO.below
  clear hR0 hO
  generalize w2.setRow w.heap.size [Value.slice x.A0 x.n0 x.c0, .int .i64 D1.a0.s, .slice x.A1 x.n1 x.c1, .int .i64 D1.a1.s, .int .i64 D1.fuse, .int .i64 D1.keep, .bool D1.down].toArray = W2 at hR1 hRr hRw hB h hr ⊢
  rename Row W2 w.heap.size _ _ => hR0
  rcases HCA.out with ⟨er', h1, h2, h3⟩ | ⟨hright, hkk, hdn, h2, h3, h4⟩ | ⟨hright, hkk, hdn, h2, h3, h4⟩
  · rw [HBK.out] at h2
    injection h2 with e1 h2
    injection h2 with e2 e3
    subst e1 e2 e3
    have HST : Hid (SO = (D1, er)) := by rw [← HSO.out]; exact h3 _ _ _
    have n1 : (er == 0) = false := beq_eq_false_iff_ne.2 h1
    have n2 : (er != 0) = true := bne_iff_ne.2 h1
    clear h1 h3 HSO HCA HBK
    go_wp2_with (first | (refine wpList_load_part rfl 27 (.tmp 8) rfl W.heap.size 0 rfl _ _ hRw [Value.slice x.A0 x.n0 x.c0, .int .i64 D1.a0.s, .slice x.A1 x.n1 x.c1, .int .i64 D1.a1.s, .int .i64 D1.fuse, .int .i64 D1.keep, .bool D1.down] (by rfl) _ Try.underlying27 rfl (by exact size_disk) ?_) | (refine wpList_store_row rfl 27 (.tmp 6) _ rfl (w.heap.size + 1) rfl [Value.slice x.A0 x.n0 x.c0, .int .i64 D1.a0.s, .slice x.A1 x.n1 x.c1, .int .i64 D1.a1.s, .int .i64 D1.fuse, .int .i64 D1.keep, .bool D1.down] rfl _ _ hRr (by exact size_disk) rfl (one_disk x D1) ?_))
    refine bodyPost_ret (results_row_tmp (p := 6) (u := 7) (ty := 27) (by rfl) _ _ (w.heap.size + 1) 27 _ _ (by rfl) (by exact hRr.setRow _) Try.underlying27 (by rfl) (by exact size_disk)) (by rfl) ?_
    rw [HST.out]
    exact ⟨x, rfl, h.no_byte hRr (disk_no none 0 0 0 none 0 0 0 0 0 false) ((Only.refl _ _).setRow _), below_setRow hB (by omega) _⟩
  · rw [HBK.out] at h2
    injection h2 with e1 h2
    injection h2 with e2 e3
    subst D1 g er
    try dsimp only at hR0
    clear hdn
    rcases hkk with rfl | rfl
    · have c0 : W2.cell? ⟨w.heap.size, 0, none⟩ = some (.slice x.A0 x.n0 x.c0) := hR0.cell rfl
      have hlK := h.l0
      have hnK := hright.1.2.2
      rw [hlK] at hnK
      have HFULL : Hid ((fun j => decide (1048576 < (getA D j).b.length + b.length)) (0 : Int).toNat = decide (1048576 < x.n0 + m)) := by
        unfold Hid
        show decide (1048576 < D.a0.b.length + b.length) = _
        rw [hlK, HL.out]
      clear hlK
      by_cases hfull : 1048576 < x.n0 + m
      · have HST : Hid (SO = (D, 12)) := by rw [← HSO.out]; exact h3 _ _ _ (HFULL.out.trans (decide_eq_true hfull))
        have hfi : (1048576 : Int) < (x.n0 : Int) + (m : Int) := by omega
        clear h3 h4 HSO HCA HBK HFULL
        go_wp2_with (first | (refine wpList_load_part rfl 27 (.tmp 8) rfl W.heap.size 0 rfl _ _ hRw [Value.slice x.A0 x.n0 x.c0, .int .i64 D.a0.s, .slice x.A1 x.n1 x.c1, .int .i64 D.a1.s, .int .i64 D.fuse, .int .i64 D.keep, .bool D.down] (by rfl) _ Try.underlying27 rfl (by exact size_disk) ?_) | (refine wpList_store_row rfl 27 (.tmp 6) _ rfl (w.heap.size + 1) rfl [Value.slice x.A0 x.n0 x.c0, .int .i64 D.a0.s, .slice x.A1 x.n1 x.c1, .int .i64 D.a1.s, .int .i64 D.fuse, .int .i64 D.keep, .bool D.down] rfl _ _ hRr (by exact size_disk) rfl (one_disk x D) ?_))
        refine bodyPost_ret (results_row_tmp (p := 6) (u := 7) (ty := 27) (by rfl) _ _ (w.heap.size + 1) 27 _ _ (by rfl) (by exact hRr.setRow _) Try.underlying27 (by rfl) (by exact size_disk)) (by rfl) ?_
        rw [HST.out]
        exact ⟨x, rfl, h.no_byte hRr (disk_no none 0 0 0 none 0 0 0 0 0 false) ((Only.refl _ _).setRow _), below_setRow hB (by omega) _⟩
      · have hfi : ¬ (1048576 : Int) < (x.n0 : Int) + (m : Int) := by omega
        have hST := h4 (fun j => decide (1048576 < (getA D j).b.length + b.length)) (fun _ a => ⟨a.b ++ b.take D.keep.toNat, a.s⟩) (fun _ a => ⟨a.b ++ b, a.s⟩) (HFULL.out.trans (decide_eq_false hfull))
        have HST := Lib.hid ((HSO.out.symm.trans (by unfold writeD; exact hST)))
        clear h3 h4 HSO HCA HBK HFULL hST
        have hk0 := hright.2.2.2
        have c5 : W2.cell? ⟨w.heap.size, 5, none⟩ = some (.int .i64 D.keep) := hR0.cell rfl
        by_cases hcut : D.keep < (m : Int)
        · obtain ⟨q, hq⟩ : ∃ q, D.keep.toNat = q := ⟨_, rfl⟩
          rw [hq] at HST
          have hqm : q ≤ m := by omega
          have HLQ : Hid ((b.take q).length = q) := by unfold Hid; rw [List.length_take, HL.out]; omega
          have xc := run_cut_to 22 5 Try.underlying22 size_uint8 C m dd q (by omega)
          rw [show ((q : Nat) : Int) = D.keep by omega] at xc
          have hrL := hr.take q
          obtain ⟨L, hL⟩ : ∃ L, b.take q = L := ⟨_, rfl⟩
          rw [hL] at HLQ hrL HST
          have HS2 : Hid (SO = (loseD ⟨⟨D.a0.b ++ L, D.a0.s⟩, D.a1, D.fuse, D.keep, D.down⟩ D.keep, 14)) := HST.out
          clear HST hL hq hr
          rename Hid (SO = _) => HST
          obtain ⟨z, hz⟩ : ∃ z, x.n0 + q = z := ⟨_, rfl⟩
          have HZ := Lib.hid hz
          have hlk := h.l0
          have hzl : z ≤ 1048576 := by omega
          clear hz
          have hown0 : (W2.alloc (.cells #[] 5)).ownsRow W2.heap.size 5 1 (.slice (some ⟨W2.heap.size, 0, none⟩) 0 0) 0 [] := World.ownsRow_made W2 #[] 0 (Nat.le_refl _) (by unfold maxLen; omega) rfl
          have hrA : Rd vB (W2.alloc (.cells #[] 5)) x.A0 D.a0.b := h.r0.keep (below_new (Below.refl _ _) _)
          have hbA := below_new (Below.refl _ W2) (.cells #[] 5)
          have t2 : (W2.alloc (.cells #[] 5)).cell? ⟨w.heap.size, 0, none⟩ = some (.slice x.A0 x.n0 x.c0) := (hR0.later hbA).cell rfl
          have HLK : Hid (D.a0.b.length = x.n0) := hlk
          clear hlk
          go_upto_region 10 with (first
            | (at_builtin; refine wpList_append_rd _ rfl (.tmp 47) (.tmp 52) 22 rfl W2.heap.size 5 i0 (.int .u8 0) 1 Try.underlying22 hi hz0 hz1 hz2 rfl _ _ _ rfl hown0 x.A0 D.a0.b x.c0 (by rw [HLK.out]; rfl) hrA vB_one (by rw [HLK.out]; unfold maxLen; omega) (by rw [HLK.out]; omega) (by simp) ?_; intro v1 w1 hown1 hgrow1; rw [HLK.out, Nat.zero_add, List.nil_append] at hown1; obtain ⟨E1, g1, rfl, hg1⟩ := own_form hown1; have hB1 : Below W2.heap.size W2 w1 := hbA.grown hgrow1 (by simp) (fun q hq => (hown0.lt q hq).1); have hrb : Rd vB w1 C L := hrL.keep hB1; have hbs := hB1.size)
            | (at_builtin; refine wpList_append_rd _ rfl (.tmp 53) (.tmp 54) 22 rfl W2.heap.size 5 i0 (.int .u8 0) 1 Try.underlying22 hi hz0 hz1 hz2 rfl _ _ _ rfl hown1 C L dd (by rw [HLQ.out]; rfl) hrb vB_one (by rw [HLQ.out]; unfold maxLen; omega) (by rw [HLQ.out]; omega) hbs ?_; intro v2 w3 hown2 hgrow2; rw [HLQ.out, HZ.out, ← List.map_append] at hown2; obtain ⟨E2, g2, rfl, hg2⟩ := own_form hown2; have hB2 : Below W2.heap.size W2 w3 := hB1.grown hgrow2 hbs (fun q hq => (hown1.lt q hq).1); replace hR0 := hR0.later hB2; have f9 := hR0.frozen 0; have c9 : w3.cell? ⟨w.heap.size, 0, none⟩ = some (.slice x.A0 x.n0 x.c0) := hR0.cell rfl))
          have hlz : (D.a0.b ++ L).length = z := by rw [List.length_append, HLK.out, HLQ.out, HZ.out]
          obtain ⟨_, hrZ, _⟩ := own_parts hown2
          have hR9 : Row (w3.setCell ⟨w.heap.size, 0, none⟩ (.slice E2 z g2)) w.heap.size 27 [Value.slice E2 z g2, .int .i64 D.a0.s, .slice x.A1 x.n1 x.c1, .int .i64 D.a1.s, .int .i64 D.fuse, .int .i64 D.keep, .bool D.down] := hR0.setCell 0 _
          have hO : Only w.heap.size w3 (w3.setCell ⟨w.heap.size, 0, none⟩ (.slice E2 z g2)) := (Only.refl _ w3).setCell 0 _
          replace h := (h.keep hB2).no_byte hR0 (cellsD_no x D) hO
          replace hrZ := hrZ.no_byte hR0 (cellsD_no x D) hO
          replace hRr := (hRr.later hB2).setCell_other (p := ⟨w.heap.size, 0, none⟩) (show w.heap.size + 1 ≠ w.heap.size by omega) (.slice E2 z g2)
          replace hB := (below_step hB hB2).trans hO.below
          clear c0 t2 hR0 hRw hO hown0 hrA hbA hown1 hgrow1 hB1 hrb hbs hown2 hgrow2 hB2 f9 c9 hrL
          generalize w3.setCell ⟨w.heap.size, 0, none⟩ (.slice E2 z g2) = W3 at hR9 hRr hB h hrZ ⊢
          have hIn : InD W3 ⟨E2, z, g2, x.A1, x.n1, x.c1⟩ ⟨⟨D.a0.b ++ L, D.a0.s⟩, D.a1, D.fuse, D.keep, D.down⟩ := ⟨hlz, hg2, hrZ, h.l1, h.h1, h.r1⟩
          have HLO := Lib.hid (lose17_any ⟨E2, z, g2, x.A1, x.n1, x.c1⟩ ⟨⟨D.a0.b ++ L, D.a0.s⟩, D.a1, D.fuse, D.keep, D.down⟩ D.keep W3 hIn ⟨hright.1.1, (by have h1 := hright.1.2.1; show D.a0.s ≤ ((D.a0.b ++ L).length : Int); rw [List.length_append]; omega), (by show (D.a0.b ++ L).length ≤ 1048576; rw [hlz]; exact hzl)⟩ hright.2.1 hright.2.2.2 hk)
          have c5 : W3.cell? ⟨w.heap.size, 5, none⟩ = some (.int .i64 D.keep) := hR9.cell rfl
          unfold aggD at HLO
          dsimp only at HLO
          go_wp2_with (refine wpList_load_part rfl 27 (.tmp 3) rfl w.heap.size 0 rfl _ _ hR9 [Value.slice E2 z g2, .int .i64 D.a0.s, .slice x.A1 x.n1 x.c1, .int .i64 D.a1.s, .int .i64 D.fuse, .int .i64 D.keep, .bool D.down] (by rfl) _ Try.underlying27 rfl (by exact size_disk) ?_)
          refine HLO.out.mono ?_
          rintro e w5 ⟨y, rfl, hIn5, hb⟩
          replace hRr := hRr.later hb
          replace hB := below_step hB hb
          clear hb HLO c5 hR9 hIn
          generalize loseD ⟨⟨D.a0.b ++ L, D.a0.s⟩, D.a1, D.fuse, D.keep, D.down⟩ D.keep = DL at HST hIn5 ⊢
          unfold aggD
          go_wp2_with (refine wpList_store_row rfl 27 (.tmp 6) _ rfl (w.heap.size + 1) rfl (cellsD y DL) rfl _ _ hRr (by exact size_disk) rfl (one_disk _ _) ?_)
          refine bodyPost_ret (results_row_tmp (p := 6) (u := 7) (ty := 27) (by rfl) _ _ (w.heap.size + 1) 27 _ _ (by rfl) (by exact hRr.setRow _) Try.underlying27 (by rfl) (by exact size_disk)) (by rfl) ?_
          rw [HST.out]
          exact ⟨y, rfl, hIn5.no_byte hRr (disk_no none 0 0 0 none 0 0 0 0 0 false) ((Only.refl _ _).setRow _), below_setRow hB (by omega) _⟩
        · have HS2 : Hid (SO = (loseD ⟨⟨D.a0.b ++ b, D.a0.s⟩, D.a1, D.fuse, D.keep, D.down⟩ D.keep, 14)) := by
            have h5 := HST.out
            rw [List.take_of_length_le (by rw [HL.out]; omega)] at h5
            exact h5
          clear HST
          rename Hid (SO = _) => HST
          have HLQ := HL
          have hrL := hr
          obtain ⟨q, hq⟩ : ∃ q, m = q := ⟨_, rfl⟩
          subst hq
          obtain ⟨L, hL⟩ : ∃ L, b = L := ⟨_, rfl⟩
          subst hL
          obtain ⟨z, hz⟩ : ∃ z, x.n0 + m = z := ⟨_, rfl⟩
          have HZ := Lib.hid hz
          have hlk := h.l0
          have hzl : z ≤ 1048576 := by omega
          clear hz
          have hown0 : (W2.alloc (.cells #[] 5)).ownsRow W2.heap.size 5 1 (.slice (some ⟨W2.heap.size, 0, none⟩) 0 0) 0 [] := World.ownsRow_made W2 #[] 0 (Nat.le_refl _) (by unfold maxLen; omega) rfl
          have hrA : Rd vB (W2.alloc (.cells #[] 5)) x.A0 D.a0.b := h.r0.keep (below_new (Below.refl _ _) _)
          have hbA := below_new (Below.refl _ W2) (.cells #[] 5)
          have t2 : (W2.alloc (.cells #[] 5)).cell? ⟨w.heap.size, 0, none⟩ = some (.slice x.A0 x.n0 x.c0) := (hR0.later hbA).cell rfl
          have HLK : Hid (D.a0.b.length = x.n0) := hlk
          clear hlk
          go_upto_region 10 with (first
            | (at_builtin; refine wpList_append_rd _ rfl (.tmp 47) (.tmp 52) 22 rfl W2.heap.size 5 i0 (.int .u8 0) 1 Try.underlying22 hi hz0 hz1 hz2 rfl _ _ _ rfl hown0 x.A0 D.a0.b x.c0 (by rw [HLK.out]; rfl) hrA vB_one (by rw [HLK.out]; unfold maxLen; omega) (by rw [HLK.out]; omega) (by simp) ?_; intro v1 w1 hown1 hgrow1; rw [HLK.out, Nat.zero_add, List.nil_append] at hown1; obtain ⟨E1, g1, rfl, hg1⟩ := own_form hown1; have hB1 : Below W2.heap.size W2 w1 := hbA.grown hgrow1 (by simp) (fun q hq => (hown0.lt q hq).1); have hrb : Rd vB w1 C b := hrL.keep hB1; have hbs := hB1.size)
            | (at_builtin; refine wpList_append_rd _ rfl (.tmp 53) (.tmp 54) 22 rfl W2.heap.size 5 i0 (.int .u8 0) 1 Try.underlying22 hi hz0 hz1 hz2 rfl _ _ _ rfl hown1 C b dd (by rw [HLQ.out]; rfl) hrb vB_one (by rw [HLQ.out]; unfold maxLen; omega) (by rw [HLQ.out]; omega) hbs ?_; intro v2 w3 hown2 hgrow2; rw [HLQ.out, HZ.out, ← List.map_append] at hown2; obtain ⟨E2, g2, rfl, hg2⟩ := own_form hown2; have hB2 : Below W2.heap.size W2 w3 := hB1.grown hgrow2 hbs (fun q hq => (hown1.lt q hq).1); replace hR0 := hR0.later hB2; have f9 := hR0.frozen 0; have c9 : w3.cell? ⟨w.heap.size, 0, none⟩ = some (.slice x.A0 x.n0 x.c0) := hR0.cell rfl))
          have hlz : (D.a0.b ++ b).length = z := by rw [List.length_append, HLK.out, HLQ.out, HZ.out]
          obtain ⟨_, hrZ, _⟩ := own_parts hown2
          have hR9 : Row (w3.setCell ⟨w.heap.size, 0, none⟩ (.slice E2 z g2)) w.heap.size 27 [Value.slice E2 z g2, .int .i64 D.a0.s, .slice x.A1 x.n1 x.c1, .int .i64 D.a1.s, .int .i64 D.fuse, .int .i64 D.keep, .bool D.down] := hR0.setCell 0 _
          have hO : Only w.heap.size w3 (w3.setCell ⟨w.heap.size, 0, none⟩ (.slice E2 z g2)) := (Only.refl _ w3).setCell 0 _
          replace h := (h.keep hB2).no_byte hR0 (cellsD_no x D) hO
          replace hrZ := hrZ.no_byte hR0 (cellsD_no x D) hO
          replace hRr := (hRr.later hB2).setCell_other (p := ⟨w.heap.size, 0, none⟩) (show w.heap.size + 1 ≠ w.heap.size by omega) (.slice E2 z g2)
          replace hB := (below_step hB hB2).trans hO.below
          clear c0 t2 hR0 hRw hO hown0 hrA hbA hown1 hgrow1 hB1 hrb hbs hown2 hgrow2 hB2 f9 c9 hrL
          generalize w3.setCell ⟨w.heap.size, 0, none⟩ (.slice E2 z g2) = W3 at hR9 hRr hB h hrZ ⊢
          have hIn : InD W3 ⟨E2, z, g2, x.A1, x.n1, x.c1⟩ ⟨⟨D.a0.b ++ b, D.a0.s⟩, D.a1, D.fuse, D.keep, D.down⟩ := ⟨hlz, hg2, hrZ, h.l1, h.h1, h.r1⟩
          have HLO := Lib.hid (lose17_any ⟨E2, z, g2, x.A1, x.n1, x.c1⟩ ⟨⟨D.a0.b ++ b, D.a0.s⟩, D.a1, D.fuse, D.keep, D.down⟩ D.keep W3 hIn ⟨hright.1.1, (by have h1 := hright.1.2.1; show D.a0.s ≤ ((D.a0.b ++ b).length : Int); rw [List.length_append]; omega), (by show (D.a0.b ++ b).length ≤ 1048576; rw [hlz]; exact hzl)⟩ hright.2.1 hright.2.2.2 hk)
          have c5 : W3.cell? ⟨w.heap.size, 5, none⟩ = some (.int .i64 D.keep) := hR9.cell rfl
          unfold aggD at HLO
          dsimp only at HLO
          go_wp2_with (refine wpList_load_part rfl 27 (.tmp 3) rfl w.heap.size 0 rfl _ _ hR9 [Value.slice E2 z g2, .int .i64 D.a0.s, .slice x.A1 x.n1 x.c1, .int .i64 D.a1.s, .int .i64 D.fuse, .int .i64 D.keep, .bool D.down] (by rfl) _ Try.underlying27 rfl (by exact size_disk) ?_)
          refine HLO.out.mono ?_
          rintro e w5 ⟨y, rfl, hIn5, hb⟩
          replace hRr := hRr.later hb
          replace hB := below_step hB hb
          clear hb HLO c5 hR9 hIn
          generalize loseD ⟨⟨D.a0.b ++ b, D.a0.s⟩, D.a1, D.fuse, D.keep, D.down⟩ D.keep = DL at HST hIn5 ⊢
          unfold aggD
          go_wp2_with (refine wpList_store_row rfl 27 (.tmp 6) _ rfl (w.heap.size + 1) rfl (cellsD y DL) rfl _ _ hRr (by exact size_disk) rfl (one_disk _ _) ?_)
          refine bodyPost_ret (results_row_tmp (p := 6) (u := 7) (ty := 27) (by rfl) _ _ (w.heap.size + 1) 27 _ _ (by rfl) (by exact hRr.setRow _) Try.underlying27 (by rfl) (by exact size_disk)) (by rfl) ?_
          rw [HST.out]
          exact ⟨y, rfl, hIn5.no_byte hRr (disk_no none 0 0 0 none 0 0 0 0 0 false) ((Only.refl _ _).setRow _), below_setRow hB (by omega) _⟩
    · have c0 : W2.cell? ⟨w.heap.size, 2, none⟩ = some (.slice x.A1 x.n1 x.c1) := hR0.cell rfl
      have hlK := h.l1
      have hnK := hright.2.1.2.2
      rw [hlK] at hnK
      have HFULL : Hid ((fun j => decide (1048576 < (getA D j).b.length + b.length)) (1 : Int).toNat = decide (1048576 < x.n1 + m)) := by
        unfold Hid
        show decide (1048576 < D.a1.b.length + b.length) = _
        rw [hlK, HL.out]
      clear hlK
      by_cases hfull : 1048576 < x.n1 + m
      · have HST : Hid (SO = (D, 12)) := by rw [← HSO.out]; exact h3 _ _ _ (HFULL.out.trans (decide_eq_true hfull))
        have hfi : (1048576 : Int) < (x.n1 : Int) + (m : Int) := by omega
        clear h3 h4 HSO HCA HBK HFULL
        go_wp2_with (first | (refine wpList_load_part rfl 27 (.tmp 8) rfl W.heap.size 0 rfl _ _ hRw [Value.slice x.A0 x.n0 x.c0, .int .i64 D.a0.s, .slice x.A1 x.n1 x.c1, .int .i64 D.a1.s, .int .i64 D.fuse, .int .i64 D.keep, .bool D.down] (by rfl) _ Try.underlying27 rfl (by exact size_disk) ?_) | (refine wpList_store_row rfl 27 (.tmp 6) _ rfl (w.heap.size + 1) rfl [Value.slice x.A0 x.n0 x.c0, .int .i64 D.a0.s, .slice x.A1 x.n1 x.c1, .int .i64 D.a1.s, .int .i64 D.fuse, .int .i64 D.keep, .bool D.down] rfl _ _ hRr (by exact size_disk) rfl (one_disk x D) ?_))
        refine bodyPost_ret (results_row_tmp (p := 6) (u := 7) (ty := 27) (by rfl) _ _ (w.heap.size + 1) 27 _ _ (by rfl) (by exact hRr.setRow _) Try.underlying27 (by rfl) (by exact size_disk)) (by rfl) ?_
        rw [HST.out]
        exact ⟨x, rfl, h.no_byte hRr (disk_no none 0 0 0 none 0 0 0 0 0 false) ((Only.refl _ _).setRow _), below_setRow hB (by omega) _⟩
      · have hfi : ¬ (1048576 : Int) < (x.n1 : Int) + (m : Int) := by omega
        have hST := h4 (fun j => decide (1048576 < (getA D j).b.length + b.length)) (fun _ a => ⟨a.b ++ b.take D.keep.toNat, a.s⟩) (fun _ a => ⟨a.b ++ b, a.s⟩) (HFULL.out.trans (decide_eq_false hfull))
        have HST := Lib.hid ((HSO.out.symm.trans (by unfold writeD; exact hST)))
        clear h3 h4 HSO HCA HBK HFULL hST
        have hk0 := hright.2.2.2
        have c5 : W2.cell? ⟨w.heap.size, 5, none⟩ = some (.int .i64 D.keep) := hR0.cell rfl
        by_cases hcut : D.keep < (m : Int)
        · obtain ⟨q, hq⟩ : ∃ q, D.keep.toNat = q := ⟨_, rfl⟩
          rw [hq] at HST
          have hqm : q ≤ m := by omega
          have HLQ : Hid ((b.take q).length = q) := by unfold Hid; rw [List.length_take, HL.out]; omega
          have xc := run_cut_to 22 5 Try.underlying22 size_uint8 C m dd q (by omega)
          rw [show ((q : Nat) : Int) = D.keep by omega] at xc
          have hrL := hr.take q
          obtain ⟨L, hL⟩ : ∃ L, b.take q = L := ⟨_, rfl⟩
          rw [hL] at HLQ hrL HST
          have HS2 : Hid (SO = (loseD ⟨D.a0, ⟨D.a1.b ++ L, D.a1.s⟩, D.fuse, D.keep, D.down⟩ D.keep, 14)) := HST.out
          clear HST hL hq hr
          rename Hid (SO = _) => HST
          obtain ⟨z, hz⟩ : ∃ z, x.n1 + q = z := ⟨_, rfl⟩
          have HZ := Lib.hid hz
          have hlk := h.l1
          have hzl : z ≤ 1048576 := by omega
          clear hz
          have hown0 : (W2.alloc (.cells #[] 5)).ownsRow W2.heap.size 5 1 (.slice (some ⟨W2.heap.size, 0, none⟩) 0 0) 0 [] := World.ownsRow_made W2 #[] 0 (Nat.le_refl _) (by unfold maxLen; omega) rfl
          have hrA : Rd vB (W2.alloc (.cells #[] 5)) x.A1 D.a1.b := h.r1.keep (below_new (Below.refl _ _) _)
          have hbA := below_new (Below.refl _ W2) (.cells #[] 5)
          have t2 : (W2.alloc (.cells #[] 5)).cell? ⟨w.heap.size, 2, none⟩ = some (.slice x.A1 x.n1 x.c1) := (hR0.later hbA).cell rfl
          have HLK : Hid (D.a1.b.length = x.n1) := hlk
          clear hlk
          go_upto_region 10 with (first
            | (at_builtin; refine wpList_append_rd _ rfl (.tmp 47) (.tmp 52) 22 rfl W2.heap.size 5 i0 (.int .u8 0) 1 Try.underlying22 hi hz0 hz1 hz2 rfl _ _ _ rfl hown0 x.A1 D.a1.b x.c1 (by rw [HLK.out]; rfl) hrA vB_one (by rw [HLK.out]; unfold maxLen; omega) (by rw [HLK.out]; omega) (by simp) ?_; intro v1 w1 hown1 hgrow1; rw [HLK.out, Nat.zero_add, List.nil_append] at hown1; obtain ⟨E1, g1, rfl, hg1⟩ := own_form hown1; have hB1 : Below W2.heap.size W2 w1 := hbA.grown hgrow1 (by simp) (fun q hq => (hown0.lt q hq).1); have hrb : Rd vB w1 C L := hrL.keep hB1; have hbs := hB1.size)
            | (at_builtin; refine wpList_append_rd _ rfl (.tmp 53) (.tmp 54) 22 rfl W2.heap.size 5 i0 (.int .u8 0) 1 Try.underlying22 hi hz0 hz1 hz2 rfl _ _ _ rfl hown1 C L dd (by rw [HLQ.out]; rfl) hrb vB_one (by rw [HLQ.out]; unfold maxLen; omega) (by rw [HLQ.out]; omega) hbs ?_; intro v2 w3 hown2 hgrow2; rw [HLQ.out, HZ.out, ← List.map_append] at hown2; obtain ⟨E2, g2, rfl, hg2⟩ := own_form hown2; have hB2 : Below W2.heap.size W2 w3 := hB1.grown hgrow2 hbs (fun q hq => (hown1.lt q hq).1); replace hR0 := hR0.later hB2; have f9 := hR0.frozen 2; have c9 : w3.cell? ⟨w.heap.size, 2, none⟩ = some (.slice x.A1 x.n1 x.c1) := hR0.cell rfl))
          have hlz : (D.a1.b ++ L).length = z := by rw [List.length_append, HLK.out, HLQ.out, HZ.out]
          obtain ⟨_, hrZ, _⟩ := own_parts hown2
          have hR9 : Row (w3.setCell ⟨w.heap.size, 2, none⟩ (.slice E2 z g2)) w.heap.size 27 [Value.slice x.A0 x.n0 x.c0, .int .i64 D.a0.s, .slice E2 z g2, .int .i64 D.a1.s, .int .i64 D.fuse, .int .i64 D.keep, .bool D.down] := hR0.setCell 2 _
          have hO : Only w.heap.size w3 (w3.setCell ⟨w.heap.size, 2, none⟩ (.slice E2 z g2)) := (Only.refl _ w3).setCell 2 _
          replace h := (h.keep hB2).no_byte hR0 (cellsD_no x D) hO
          replace hrZ := hrZ.no_byte hR0 (cellsD_no x D) hO
          replace hRr := (hRr.later hB2).setCell_other (p := ⟨w.heap.size, 2, none⟩) (show w.heap.size + 1 ≠ w.heap.size by omega) (.slice E2 z g2)
          replace hB := (below_step hB hB2).trans hO.below
          clear c0 t2 hR0 hRw hO hown0 hrA hbA hown1 hgrow1 hB1 hrb hbs hown2 hgrow2 hB2 f9 c9 hrL
          generalize w3.setCell ⟨w.heap.size, 2, none⟩ (.slice E2 z g2) = W3 at hR9 hRr hB h hrZ ⊢
          have hIn : InD W3 ⟨x.A0, x.n0, x.c0, E2, z, g2⟩ ⟨D.a0, ⟨D.a1.b ++ L, D.a1.s⟩, D.fuse, D.keep, D.down⟩ := ⟨h.l0, h.h0, h.r0, hlz, hg2, hrZ⟩
          have HLO := Lib.hid (lose17_any ⟨x.A0, x.n0, x.c0, E2, z, g2⟩ ⟨D.a0, ⟨D.a1.b ++ L, D.a1.s⟩, D.fuse, D.keep, D.down⟩ D.keep W3 hIn hright.1 ⟨hright.2.1.1, (by have h1 := hright.2.1.2.1; show D.a1.s ≤ ((D.a1.b ++ L).length : Int); rw [List.length_append]; omega), (by show (D.a1.b ++ L).length ≤ 1048576; rw [hlz]; exact hzl)⟩ hright.2.2.2 hk)
          have c5 : W3.cell? ⟨w.heap.size, 5, none⟩ = some (.int .i64 D.keep) := hR9.cell rfl
          unfold aggD at HLO
          dsimp only at HLO
          go_wp2_with (refine wpList_load_part rfl 27 (.tmp 3) rfl w.heap.size 0 rfl _ _ hR9 [Value.slice x.A0 x.n0 x.c0, .int .i64 D.a0.s, .slice E2 z g2, .int .i64 D.a1.s, .int .i64 D.fuse, .int .i64 D.keep, .bool D.down] (by rfl) _ Try.underlying27 rfl (by exact size_disk) ?_)
          refine HLO.out.mono ?_
          rintro e w5 ⟨y, rfl, hIn5, hb⟩
          replace hRr := hRr.later hb
          replace hB := below_step hB hb
          clear hb HLO c5 hR9 hIn
          generalize loseD ⟨D.a0, ⟨D.a1.b ++ L, D.a1.s⟩, D.fuse, D.keep, D.down⟩ D.keep = DL at HST hIn5 ⊢
          unfold aggD
          go_wp2_with (refine wpList_store_row rfl 27 (.tmp 6) _ rfl (w.heap.size + 1) rfl (cellsD y DL) rfl _ _ hRr (by exact size_disk) rfl (one_disk _ _) ?_)
          refine bodyPost_ret (results_row_tmp (p := 6) (u := 7) (ty := 27) (by rfl) _ _ (w.heap.size + 1) 27 _ _ (by rfl) (by exact hRr.setRow _) Try.underlying27 (by rfl) (by exact size_disk)) (by rfl) ?_
          rw [HST.out]
          exact ⟨y, rfl, hIn5.no_byte hRr (disk_no none 0 0 0 none 0 0 0 0 0 false) ((Only.refl _ _).setRow _), below_setRow hB (by omega) _⟩
        · have HS2 : Hid (SO = (loseD ⟨D.a0, ⟨D.a1.b ++ b, D.a1.s⟩, D.fuse, D.keep, D.down⟩ D.keep, 14)) := by
            have h5 := HST.out
            rw [List.take_of_length_le (by rw [HL.out]; omega)] at h5
            exact h5
          clear HST
          rename Hid (SO = _) => HST
          have HLQ := HL
          have hrL := hr
          obtain ⟨q, hq⟩ : ∃ q, m = q := ⟨_, rfl⟩
          subst hq
          obtain ⟨L, hL⟩ : ∃ L, b = L := ⟨_, rfl⟩
          subst hL
          obtain ⟨z, hz⟩ : ∃ z, x.n1 + m = z := ⟨_, rfl⟩
          have HZ := Lib.hid hz
          have hlk := h.l1
          have hzl : z ≤ 1048576 := by omega
          clear hz
          have hown0 : (W2.alloc (.cells #[] 5)).ownsRow W2.heap.size 5 1 (.slice (some ⟨W2.heap.size, 0, none⟩) 0 0) 0 [] := World.ownsRow_made W2 #[] 0 (Nat.le_refl _) (by unfold maxLen; omega) rfl
          have hrA : Rd vB (W2.alloc (.cells #[] 5)) x.A1 D.a1.b := h.r1.keep (below_new (Below.refl _ _) _)
          have hbA := below_new (Below.refl _ W2) (.cells #[] 5)
          have t2 : (W2.alloc (.cells #[] 5)).cell? ⟨w.heap.size, 2, none⟩ = some (.slice x.A1 x.n1 x.c1) := (hR0.later hbA).cell rfl
          have HLK : Hid (D.a1.b.length = x.n1) := hlk
          clear hlk
          go_upto_region 10 with (first
            | (at_builtin; refine wpList_append_rd _ rfl (.tmp 47) (.tmp 52) 22 rfl W2.heap.size 5 i0 (.int .u8 0) 1 Try.underlying22 hi hz0 hz1 hz2 rfl _ _ _ rfl hown0 x.A1 D.a1.b x.c1 (by rw [HLK.out]; rfl) hrA vB_one (by rw [HLK.out]; unfold maxLen; omega) (by rw [HLK.out]; omega) (by simp) ?_; intro v1 w1 hown1 hgrow1; rw [HLK.out, Nat.zero_add, List.nil_append] at hown1; obtain ⟨E1, g1, rfl, hg1⟩ := own_form hown1; have hB1 : Below W2.heap.size W2 w1 := hbA.grown hgrow1 (by simp) (fun q hq => (hown0.lt q hq).1); have hrb : Rd vB w1 C b := hrL.keep hB1; have hbs := hB1.size)
            | (at_builtin; refine wpList_append_rd _ rfl (.tmp 53) (.tmp 54) 22 rfl W2.heap.size 5 i0 (.int .u8 0) 1 Try.underlying22 hi hz0 hz1 hz2 rfl _ _ _ rfl hown1 C b dd (by rw [HLQ.out]; rfl) hrb vB_one (by rw [HLQ.out]; unfold maxLen; omega) (by rw [HLQ.out]; omega) hbs ?_; intro v2 w3 hown2 hgrow2; rw [HLQ.out, HZ.out, ← List.map_append] at hown2; obtain ⟨E2, g2, rfl, hg2⟩ := own_form hown2; have hB2 : Below W2.heap.size W2 w3 := hB1.grown hgrow2 hbs (fun q hq => (hown1.lt q hq).1); replace hR0 := hR0.later hB2; have f9 := hR0.frozen 2; have c9 : w3.cell? ⟨w.heap.size, 2, none⟩ = some (.slice x.A1 x.n1 x.c1) := hR0.cell rfl))
          have hlz : (D.a1.b ++ b).length = z := by rw [List.length_append, HLK.out, HLQ.out, HZ.out]
          obtain ⟨_, hrZ, _⟩ := own_parts hown2
          have hR9 : Row (w3.setCell ⟨w.heap.size, 2, none⟩ (.slice E2 z g2)) w.heap.size 27 [Value.slice x.A0 x.n0 x.c0, .int .i64 D.a0.s, .slice E2 z g2, .int .i64 D.a1.s, .int .i64 D.fuse, .int .i64 D.keep, .bool D.down] := hR0.setCell 2 _
          have hO : Only w.heap.size w3 (w3.setCell ⟨w.heap.size, 2, none⟩ (.slice E2 z g2)) := (Only.refl _ w3).setCell 2 _
          replace h := (h.keep hB2).no_byte hR0 (cellsD_no x D) hO
          replace hrZ := hrZ.no_byte hR0 (cellsD_no x D) hO
          replace hRr := (hRr.later hB2).setCell_other (p := ⟨w.heap.size, 2, none⟩) (show w.heap.size + 1 ≠ w.heap.size by omega) (.slice E2 z g2)
          replace hB := (below_step hB hB2).trans hO.below
          clear c0 t2 hR0 hRw hO hown0 hrA hbA hown1 hgrow1 hB1 hrb hbs hown2 hgrow2 hB2 f9 c9 hrL
          generalize w3.setCell ⟨w.heap.size, 2, none⟩ (.slice E2 z g2) = W3 at hR9 hRr hB h hrZ ⊢
          have hIn : InD W3 ⟨x.A0, x.n0, x.c0, E2, z, g2⟩ ⟨D.a0, ⟨D.a1.b ++ b, D.a1.s⟩, D.fuse, D.keep, D.down⟩ := ⟨h.l0, h.h0, h.r0, hlz, hg2, hrZ⟩
          have HLO := Lib.hid (lose17_any ⟨x.A0, x.n0, x.c0, E2, z, g2⟩ ⟨D.a0, ⟨D.a1.b ++ b, D.a1.s⟩, D.fuse, D.keep, D.down⟩ D.keep W3 hIn hright.1 ⟨hright.2.1.1, (by have h1 := hright.2.1.2.1; show D.a1.s ≤ ((D.a1.b ++ b).length : Int); rw [List.length_append]; omega), (by show (D.a1.b ++ b).length ≤ 1048576; rw [hlz]; exact hzl)⟩ hright.2.2.2 hk)
          have c5 : W3.cell? ⟨w.heap.size, 5, none⟩ = some (.int .i64 D.keep) := hR9.cell rfl
          unfold aggD at HLO
          dsimp only at HLO
          go_wp2_with (refine wpList_load_part rfl 27 (.tmp 3) rfl w.heap.size 0 rfl _ _ hR9 [Value.slice x.A0 x.n0 x.c0, .int .i64 D.a0.s, .slice E2 z g2, .int .i64 D.a1.s, .int .i64 D.fuse, .int .i64 D.keep, .bool D.down] (by rfl) _ Try.underlying27 rfl (by exact size_disk) ?_)
          refine HLO.out.mono ?_
          rintro e w5 ⟨y, rfl, hIn5, hb⟩
          replace hRr := hRr.later hb
          replace hB := below_step hB hb
          clear hb HLO c5 hR9 hIn
          generalize loseD ⟨D.a0, ⟨D.a1.b ++ b, D.a1.s⟩, D.fuse, D.keep, D.down⟩ D.keep = DL at HST hIn5 ⊢
          unfold aggD
          go_wp2_with (refine wpList_store_row rfl 27 (.tmp 6) _ rfl (w.heap.size + 1) rfl (cellsD y DL) rfl _ _ hRr (by exact size_disk) rfl (one_disk _ _) ?_)
          refine bodyPost_ret (results_row_tmp (p := 6) (u := 7) (ty := 27) (by rfl) _ _ (w.heap.size + 1) 27 _ _ (by rfl) (by exact hRr.setRow _) Try.underlying27 (by rfl) (by exact size_disk)) (by rfl) ?_
          rw [HST.out]
          exact ⟨y, rfl, hIn5.no_byte hRr (disk_no none 0 0 0 none 0 0 0 0 0 false) ((Only.refl _ _).setRow _), below_setRow hB (by omega) _⟩
  · rw [HBK.out] at h2
    injection h2 with e1 h2
    injection h2 with e2 e3
    subst D1 g er
    try dsimp only at hR0
    clear hdn
    rcases hkk with rfl | rfl
    · have c0 : W2.cell? ⟨w.heap.size, 0, none⟩ = some (.slice x.A0 x.n0 x.c0) := hR0.cell rfl
      have hlK := h.l0
      have hnK := hright.1.2.2
      rw [hlK] at hnK
      have HFULL : Hid ((fun j => decide (1048576 < (getA D j).b.length + b.length)) (0 : Int).toNat = decide (1048576 < x.n0 + m)) := by
        unfold Hid
        show decide (1048576 < D.a0.b.length + b.length) = _
        rw [hlK, HL.out]
      clear hlK
      by_cases hfull : 1048576 < x.n0 + m
      · have HST : Hid (SO = (D, 12)) := by rw [← HSO.out]; exact h3 _ _ _ (HFULL.out.trans (decide_eq_true hfull))
        have hfi : (1048576 : Int) < (x.n0 : Int) + (m : Int) := by omega
        clear h3 h4 HSO HCA HBK HFULL
        go_wp2_with (first | (refine wpList_load_part rfl 27 (.tmp 8) rfl W.heap.size 0 rfl _ _ hRw [Value.slice x.A0 x.n0 x.c0, .int .i64 D.a0.s, .slice x.A1 x.n1 x.c1, .int .i64 D.a1.s, .int .i64 D.fuse, .int .i64 D.keep, .bool D.down] (by rfl) _ Try.underlying27 rfl (by exact size_disk) ?_) | (refine wpList_store_row rfl 27 (.tmp 6) _ rfl (w.heap.size + 1) rfl [Value.slice x.A0 x.n0 x.c0, .int .i64 D.a0.s, .slice x.A1 x.n1 x.c1, .int .i64 D.a1.s, .int .i64 D.fuse, .int .i64 D.keep, .bool D.down] rfl _ _ hRr (by exact size_disk) rfl (one_disk x D) ?_))
        refine bodyPost_ret (results_row_tmp (p := 6) (u := 7) (ty := 27) (by rfl) _ _ (w.heap.size + 1) 27 _ _ (by rfl) (by exact hRr.setRow _) Try.underlying27 (by rfl) (by exact size_disk)) (by rfl) ?_
        rw [HST.out]
        exact ⟨x, rfl, h.no_byte hRr (disk_no none 0 0 0 none 0 0 0 0 0 false) ((Only.refl _ _).setRow _), below_setRow hB (by omega) _⟩
      · have hfi : ¬ (1048576 : Int) < (x.n0 : Int) + (m : Int) := by omega
        have hST := h4 (fun j => decide (1048576 < (getA D j).b.length + b.length)) (fun _ a => ⟨a.b ++ b.take D.keep.toNat, a.s⟩) (fun _ a => ⟨a.b ++ b, a.s⟩) (HFULL.out.trans (decide_eq_false hfull))
        have HST := Lib.hid ((HSO.out.symm.trans (by unfold writeD; exact hST)))
        clear h3 h4 HSO HCA HBK HFULL hST
        have HS2 : Hid (SO = (⟨⟨D.a0.b ++ b, D.a0.s⟩, D.a1, (burn D.fuse), D.keep, D.down⟩, 0)) := HST.out
        clear HST
        rename Hid (SO = _) => HST
        have HLQ := HL
        have hrL := hr
        obtain ⟨z, hz⟩ : ∃ z, x.n0 + m = z := ⟨_, rfl⟩
        have HZ := Lib.hid hz
        have hlk := h.l0
        have hzl : z ≤ 1048576 := by omega
        clear hz
        have hown0 : (W2.alloc (.cells #[] 5)).ownsRow W2.heap.size 5 1 (.slice (some ⟨W2.heap.size, 0, none⟩) 0 0) 0 [] := World.ownsRow_made W2 #[] 0 (Nat.le_refl _) (by unfold maxLen; omega) rfl
        have hrA : Rd vB (W2.alloc (.cells #[] 5)) x.A0 D.a0.b := h.r0.keep (below_new (Below.refl _ _) _)
        have hbA := below_new (Below.refl _ W2) (.cells #[] 5)
        have t2 : (W2.alloc (.cells #[] 5)).cell? ⟨w.heap.size, 0, none⟩ = some (.slice x.A0 x.n0 x.c0) := (hR0.later hbA).cell rfl
        have HLK : Hid (D.a0.b.length = x.n0) := hlk
        clear hlk
        go_upto_region 10 with (first
          | (at_builtin; refine wpList_append_rd _ rfl (.tmp 47) (.tmp 52) 22 rfl W2.heap.size 5 i0 (.int .u8 0) 1 Try.underlying22 hi hz0 hz1 hz2 rfl _ _ _ rfl hown0 x.A0 D.a0.b x.c0 (by rw [HLK.out]; rfl) hrA vB_one (by rw [HLK.out]; unfold maxLen; omega) (by rw [HLK.out]; omega) (by simp) ?_; intro v1 w1 hown1 hgrow1; rw [HLK.out, Nat.zero_add, List.nil_append] at hown1; obtain ⟨E1, g1, rfl, hg1⟩ := own_form hown1; have hB1 : Below W2.heap.size W2 w1 := hbA.grown hgrow1 (by simp) (fun q hq => (hown0.lt q hq).1); have hrb : Rd vB w1 C b := hrL.keep hB1; have hbs := hB1.size)
          | (at_builtin; refine wpList_append_rd _ rfl (.tmp 53) (.tmp 54) 22 rfl W2.heap.size 5 i0 (.int .u8 0) 1 Try.underlying22 hi hz0 hz1 hz2 rfl _ _ _ rfl hown1 C b dd (by rw [HLQ.out]; rfl) hrb vB_one (by rw [HLQ.out]; unfold maxLen; omega) (by rw [HLQ.out]; omega) hbs ?_; intro v2 w3 hown2 hgrow2; rw [HLQ.out, HZ.out, ← List.map_append] at hown2; obtain ⟨E2, g2, rfl, hg2⟩ := own_form hown2; have hB2 : Below W2.heap.size W2 w3 := hB1.grown hgrow2 hbs (fun q hq => (hown1.lt q hq).1); replace hR0 := hR0.later hB2; have f9 := hR0.frozen 0; have c9 : w3.cell? ⟨w.heap.size, 0, none⟩ = some (.slice x.A0 x.n0 x.c0) := hR0.cell rfl))
        have hlz : (D.a0.b ++ b).length = z := by rw [List.length_append, HLK.out, HLQ.out, HZ.out]
        obtain ⟨_, hrZ, _⟩ := own_parts hown2
        have hR9 : Row (w3.setCell ⟨w.heap.size, 0, none⟩ (.slice E2 z g2)) w.heap.size 27 [Value.slice E2 z g2, .int .i64 D.a0.s, .slice x.A1 x.n1 x.c1, .int .i64 D.a1.s, .int .i64 (burn D.fuse), .int .i64 D.keep, .bool D.down] := hR0.setCell 0 _
        have hO : Only w.heap.size w3 (w3.setCell ⟨w.heap.size, 0, none⟩ (.slice E2 z g2)) := (Only.refl _ w3).setCell 0 _
        replace h := (h.keep hB2).no_byte hR0 (cellsD_no x { D with fuse := burn D.fuse }) hO
        replace hrZ := hrZ.no_byte hR0 (cellsD_no x { D with fuse := burn D.fuse }) hO
        replace hRr := (hRr.later hB2).setCell_other (p := ⟨w.heap.size, 0, none⟩) (show w.heap.size + 1 ≠ w.heap.size by omega) (.slice E2 z g2)
        replace hB := (below_step hB hB2).trans hO.below
        clear c0 t2 hR0 hRw hO hown0 hrA hbA hown1 hgrow1 hB1 hrb hbs hown2 hgrow2 hB2 f9 c9 hrL
        generalize w3.setCell ⟨w.heap.size, 0, none⟩ (.slice E2 z g2) = W3 at hR9 hRr hB h hrZ ⊢
        have hIn : InD W3 ⟨E2, z, g2, x.A1, x.n1, x.c1⟩ ⟨⟨D.a0.b ++ b, D.a0.s⟩, D.a1, (burn D.fuse), D.keep, D.down⟩ := ⟨hlz, hg2, hrZ, h.l1, h.h1, h.r1⟩
        go_wp2_with (first | (refine wpList_load_part rfl 27 (.tmp 3) rfl w.heap.size 0 rfl _ _ hR9 [Value.slice E2 z g2, .int .i64 D.a0.s, .slice x.A1 x.n1 x.c1, .int .i64 D.a1.s, .int .i64 (burn D.fuse), .int .i64 D.keep, .bool D.down] (by rfl) _ Try.underlying27 rfl (by exact size_disk) ?_) | (refine wpList_store_row rfl 27 (.tmp 6) _ rfl (w.heap.size + 1) rfl [Value.slice E2 z g2, .int .i64 D.a0.s, .slice x.A1 x.n1 x.c1, .int .i64 D.a1.s, .int .i64 (burn D.fuse), .int .i64 D.keep, .bool D.down] rfl _ _ hRr (by exact size_disk) rfl (one_disk ⟨E2, z, g2, x.A1, x.n1, x.c1⟩ ⟨⟨D.a0.b ++ b, D.a0.s⟩, D.a1, (burn D.fuse), D.keep, D.down⟩) ?_))
        refine bodyPost_ret (results_row_tmp (p := 6) (u := 7) (ty := 27) (by rfl) _ _ (w.heap.size + 1) 27 _ _ (by rfl) (by exact hRr.setRow _) Try.underlying27 (by rfl) (by exact size_disk)) (by rfl) ?_
        rw [HST.out]
        exact ⟨⟨E2, z, g2, x.A1, x.n1, x.c1⟩, rfl, hIn.no_byte hRr (disk_no none 0 0 0 none 0 0 0 0 0 false) ((Only.refl _ _).setRow _), below_setRow hB (by omega) _⟩
    · have c0 : W2.cell? ⟨w.heap.size, 2, none⟩ = some (.slice x.A1 x.n1 x.c1) := hR0.cell rfl
      have hlK := h.l1
      have hnK := hright.2.1.2.2
      rw [hlK] at hnK
      have HFULL : Hid ((fun j => decide (1048576 < (getA D j).b.length + b.length)) (1 : Int).toNat = decide (1048576 < x.n1 + m)) := by
        unfold Hid
        show decide (1048576 < D.a1.b.length + b.length) = _
        rw [hlK, HL.out]
      clear hlK
      by_cases hfull : 1048576 < x.n1 + m
      · have HST : Hid (SO = (D, 12)) := by rw [← HSO.out]; exact h3 _ _ _ (HFULL.out.trans (decide_eq_true hfull))
        have hfi : (1048576 : Int) < (x.n1 : Int) + (m : Int) := by omega
        clear h3 h4 HSO HCA HBK HFULL
        go_wp2_with (first | (refine wpList_load_part rfl 27 (.tmp 8) rfl W.heap.size 0 rfl _ _ hRw [Value.slice x.A0 x.n0 x.c0, .int .i64 D.a0.s, .slice x.A1 x.n1 x.c1, .int .i64 D.a1.s, .int .i64 D.fuse, .int .i64 D.keep, .bool D.down] (by rfl) _ Try.underlying27 rfl (by exact size_disk) ?_) | (refine wpList_store_row rfl 27 (.tmp 6) _ rfl (w.heap.size + 1) rfl [Value.slice x.A0 x.n0 x.c0, .int .i64 D.a0.s, .slice x.A1 x.n1 x.c1, .int .i64 D.a1.s, .int .i64 D.fuse, .int .i64 D.keep, .bool D.down] rfl _ _ hRr (by exact size_disk) rfl (one_disk x D) ?_))
        refine bodyPost_ret (results_row_tmp (p := 6) (u := 7) (ty := 27) (by rfl) _ _ (w.heap.size + 1) 27 _ _ (by rfl) (by exact hRr.setRow _) Try.underlying27 (by rfl) (by exact size_disk)) (by rfl) ?_
        rw [HST.out]
        exact ⟨x, rfl, h.no_byte hRr (disk_no none 0 0 0 none 0 0 0 0 0 false) ((Only.refl _ _).setRow _), below_setRow hB (by omega) _⟩
      · have hfi : ¬ (1048576 : Int) < (x.n1 : Int) + (m : Int) := by omega
        have hST := h4 (fun j => decide (1048576 < (getA D j).b.length + b.length)) (fun _ a => ⟨a.b ++ b.take D.keep.toNat, a.s⟩) (fun _ a => ⟨a.b ++ b, a.s⟩) (HFULL.out.trans (decide_eq_false hfull))
        have HST := Lib.hid ((HSO.out.symm.trans (by unfold writeD; exact hST)))
        clear h3 h4 HSO HCA HBK HFULL hST
        have HS2 : Hid (SO = (⟨D.a0, ⟨D.a1.b ++ b, D.a1.s⟩, (burn D.fuse), D.keep, D.down⟩, 0)) := HST.out
        clear HST
        rename Hid (SO = _) => HST
        have HLQ := HL
        have hrL := hr
        obtain ⟨z, hz⟩ : ∃ z, x.n1 + m = z := ⟨_, rfl⟩
        have HZ := Lib.hid hz
        have hlk := h.l1
        have hzl : z ≤ 1048576 := by omega
        clear hz
        have hown0 : (W2.alloc (.cells #[] 5)).ownsRow W2.heap.size 5 1 (.slice (some ⟨W2.heap.size, 0, none⟩) 0 0) 0 [] := World.ownsRow_made W2 #[] 0 (Nat.le_refl _) (by unfold maxLen; omega) rfl
        have hrA : Rd vB (W2.alloc (.cells #[] 5)) x.A1 D.a1.b := h.r1.keep (below_new (Below.refl _ _) _)
        have hbA := below_new (Below.refl _ W2) (.cells #[] 5)
        have t2 : (W2.alloc (.cells #[] 5)).cell? ⟨w.heap.size, 2, none⟩ = some (.slice x.A1 x.n1 x.c1) := (hR0.later hbA).cell rfl
        have HLK : Hid (D.a1.b.length = x.n1) := hlk
        clear hlk
        go_upto_region 10 with (first
          | (at_builtin; refine wpList_append_rd _ rfl (.tmp 47) (.tmp 52) 22 rfl W2.heap.size 5 i0 (.int .u8 0) 1 Try.underlying22 hi hz0 hz1 hz2 rfl _ _ _ rfl hown0 x.A1 D.a1.b x.c1 (by rw [HLK.out]; rfl) hrA vB_one (by rw [HLK.out]; unfold maxLen; omega) (by rw [HLK.out]; omega) (by simp) ?_; intro v1 w1 hown1 hgrow1; rw [HLK.out, Nat.zero_add, List.nil_append] at hown1; obtain ⟨E1, g1, rfl, hg1⟩ := own_form hown1; have hB1 : Below W2.heap.size W2 w1 := hbA.grown hgrow1 (by simp) (fun q hq => (hown0.lt q hq).1); have hrb : Rd vB w1 C b := hrL.keep hB1; have hbs := hB1.size)
          | (at_builtin; refine wpList_append_rd _ rfl (.tmp 53) (.tmp 54) 22 rfl W2.heap.size 5 i0 (.int .u8 0) 1 Try.underlying22 hi hz0 hz1 hz2 rfl _ _ _ rfl hown1 C b dd (by rw [HLQ.out]; rfl) hrb vB_one (by rw [HLQ.out]; unfold maxLen; omega) (by rw [HLQ.out]; omega) hbs ?_; intro v2 w3 hown2 hgrow2; rw [HLQ.out, HZ.out, ← List.map_append] at hown2; obtain ⟨E2, g2, rfl, hg2⟩ := own_form hown2; have hB2 : Below W2.heap.size W2 w3 := hB1.grown hgrow2 hbs (fun q hq => (hown1.lt q hq).1); replace hR0 := hR0.later hB2; have f9 := hR0.frozen 2; have c9 : w3.cell? ⟨w.heap.size, 2, none⟩ = some (.slice x.A1 x.n1 x.c1) := hR0.cell rfl))
        have hlz : (D.a1.b ++ b).length = z := by rw [List.length_append, HLK.out, HLQ.out, HZ.out]
        obtain ⟨_, hrZ, _⟩ := own_parts hown2
        have hR9 : Row (w3.setCell ⟨w.heap.size, 2, none⟩ (.slice E2 z g2)) w.heap.size 27 [Value.slice x.A0 x.n0 x.c0, .int .i64 D.a0.s, .slice E2 z g2, .int .i64 D.a1.s, .int .i64 (burn D.fuse), .int .i64 D.keep, .bool D.down] := hR0.setCell 2 _
        have hO : Only w.heap.size w3 (w3.setCell ⟨w.heap.size, 2, none⟩ (.slice E2 z g2)) := (Only.refl _ w3).setCell 2 _
        replace h := (h.keep hB2).no_byte hR0 (cellsD_no x { D with fuse := burn D.fuse }) hO
        replace hrZ := hrZ.no_byte hR0 (cellsD_no x { D with fuse := burn D.fuse }) hO
        replace hRr := (hRr.later hB2).setCell_other (p := ⟨w.heap.size, 2, none⟩) (show w.heap.size + 1 ≠ w.heap.size by omega) (.slice E2 z g2)
        replace hB := (below_step hB hB2).trans hO.below
        clear c0 t2 hR0 hRw hO hown0 hrA hbA hown1 hgrow1 hB1 hrb hbs hown2 hgrow2 hB2 f9 c9 hrL
        generalize w3.setCell ⟨w.heap.size, 2, none⟩ (.slice E2 z g2) = W3 at hR9 hRr hB h hrZ ⊢
        have hIn : InD W3 ⟨x.A0, x.n0, x.c0, E2, z, g2⟩ ⟨D.a0, ⟨D.a1.b ++ b, D.a1.s⟩, (burn D.fuse), D.keep, D.down⟩ := ⟨h.l0, h.h0, h.r0, hlz, hg2, hrZ⟩
        go_wp2_with (first | (refine wpList_load_part rfl 27 (.tmp 3) rfl w.heap.size 0 rfl _ _ hR9 [Value.slice x.A0 x.n0 x.c0, .int .i64 D.a0.s, .slice E2 z g2, .int .i64 D.a1.s, .int .i64 (burn D.fuse), .int .i64 D.keep, .bool D.down] (by rfl) _ Try.underlying27 rfl (by exact size_disk) ?_) | (refine wpList_store_row rfl 27 (.tmp 6) _ rfl (w.heap.size + 1) rfl [Value.slice x.A0 x.n0 x.c0, .int .i64 D.a0.s, .slice E2 z g2, .int .i64 D.a1.s, .int .i64 (burn D.fuse), .int .i64 D.keep, .bool D.down] rfl _ _ hRr (by exact size_disk) rfl (one_disk ⟨x.A0, x.n0, x.c0, E2, z, g2⟩ ⟨D.a0, ⟨D.a1.b ++ b, D.a1.s⟩, (burn D.fuse), D.keep, D.down⟩) ?_))
        refine bodyPost_ret (results_row_tmp (p := 6) (u := 7) (ty := 27) (by rfl) _ _ (w.heap.size + 1) 27 _ _ (by rfl) (by exact hRr.setRow _) Try.underlying27 (by rfl) (by exact size_disk)) (by rfl) ?_
        rw [HST.out]
        exact ⟨⟨x.A0, x.n0, x.c0, E2, z, g2⟩, rfl, hIn.no_byte hRr (disk_no none 0 0 0 none 0 0 0 0 0 false) ((Only.refl _ _).setRow _), below_setRow hB (by omega) _⟩
end Go.Proofs.Ytkkfkibjamnpnaa
/-
  What the reference's calls Crash and Rise of layer 17 answer. No conditions but those typed.
-/
namespace Go.Proofs.Ytkkfkibjamnpnaa
set_option maxRecDepth 100000
open Go.RowKit
set_option linter.unusedSimpArgs false
set_option linter.unusedVariables false


set_option maxHeartbeats 2000000 in
theorem refcrash17_any (x : WD) (D : DK) (k : Int) (w : World) (h : InD w x D) (hk : k ≤ 9223372036854775807) :
    Calls Try.prog 16 #[aggD x D, .int .i64 k] w (RetF w (crashD D k).1 (crashD D k).2) := by
  obtain ⟨hR0, hRr, hB⟩ := two_boxes w 27 27 [Value.slice x.A0 x.n0 x.c0, .int .i64 D.a0.s, .slice x.A1 x.n1 x.c1, .int .i64 D.a1.s, .int .i64 D.fuse, .int .i64 D.keep, .bool D.down] [Value.slice none 0 0, .int .i64 0, .slice none 0 0, .int .i64 0, .int .i64 0, .int .i64 0, .bool false] _ _ rfl rfl
  unfold aggD
  go_enter Try.func16, Try.ntmps16
  go_upto_region 1 with fail
  generalize (w.alloc (.cells [Value.slice x.A0 x.n0 x.c0, .int .i64 D.a0.s, .slice x.A1 x.n1 x.c1, .int .i64 D.a1.s, .int .i64 D.fuse, .int .i64 D.keep, .bool D.down].toArray 27)).alloc (.cells [Value.slice none 0 0, .int .i64 0, .slice none 0 0, .int .i64 0, .int .i64 0, .int .i64 0, .bool false].toArray 27) = W at hR0 hRr hB ⊢
  replace h := h.keep hB
  have hrt := refright17_any x D W h
  unfold aggD at hrt
  have HRT := Lib.hid hrt
  clear hrt
  go_wp2_with (refine wpList_load_part rfl 27 (.tmp 2) rfl w.heap.size 0 rfl _ _ hR0 [Value.slice x.A0 x.n0 x.c0, .int .i64 D.a0.s, .slice x.A1 x.n1 x.c1, .int .i64 D.a1.s, .int .i64 D.fuse, .int .i64 D.keep, .bool D.down] (by rfl) _ Try.underlying27 rfl (by exact size_disk) ?_)
  refine HRT.out.mono ?_
  rintro e w2 ⟨rfl, hb⟩
  replace hR0 := hR0.later hb
  replace hRr := hRr.later hb
  replace h := h.keep hb
  replace hB := below_step hB hb
  clear hb HRT
  have c6 : w2.cell? ⟨w.heap.size, 6, none⟩ = some (.bool D.down) := hR0.cell rfl
  by_cases hright : rightDK D
  · rw [decide_eq_true hright]
    by_cases hk0 : 0 ≤ k
    · have hrk : ¬ ¬ (rightDK D ∧ 0 ≤ k) := fun hn => hn ⟨hright, hk0⟩
      by_cases hd : D.down = true
      · have HST : Hid (crashD D k = (D, 14)) := by unfold Hid crashD; rw [if_neg hrk, if_pos hd]
        rw [hd] at c6
        clear hd
        go_wp2_with (first | (refine wpList_load_part rfl 27 (.tmp 2) rfl w.heap.size 0 rfl _ _ hR0 [Value.slice x.A0 x.n0 x.c0, .int .i64 D.a0.s, .slice x.A1 x.n1 x.c1, .int .i64 D.a1.s, .int .i64 D.fuse, .int .i64 D.keep, .bool D.down] (by rfl) _ Try.underlying27 rfl (by exact size_disk) ?_) | (refine wpList_store_row rfl 27 (.tmp 4) _ rfl (w.heap.size + 1) rfl [Value.slice x.A0 x.n0 x.c0, .int .i64 D.a0.s, .slice x.A1 x.n1 x.c1, .int .i64 D.a1.s, .int .i64 D.fuse, .int .i64 D.keep, .bool D.down] rfl _ _ hRr (by exact size_disk) rfl (one_disk x D) ?_))
        refine bodyPost_ret (results_row_tmp (p := 4) (u := 5) (ty := 27) (by rfl) _ _ (w.heap.size + 1) 27 _ _ (by rfl) (by exact hRr.setRow _) Try.underlying27 (by rfl) (by exact size_disk)) (by rfl) ?_
        rw [HST.out]
        exact ⟨x, rfl, h.no_byte hRr (disk_no none 0 0 0 none 0 0 0 0 0 false) ((Only.refl _ _).setRow _), below_setRow hB (by omega) _⟩
      · have HST : Hid (crashD D k = (loseD D k, 0)) := by unfold Hid crashD; rw [if_neg hrk, if_neg hd]
        rw [Bool.not_eq_true] at hd
        rw [hd] at c6
        clear hd
        have hl := lose17_any x D k w2 h hright.1 hright.2.1 hk0 hk
        unfold aggD at hl
        have HL := Lib.hid hl
        clear hright hrk hl
        go_wp2_with (refine wpList_load_part rfl 27 (.tmp 2) rfl w.heap.size 0 rfl _ _ hR0 [Value.slice x.A0 x.n0 x.c0, .int .i64 D.a0.s, .slice x.A1 x.n1 x.c1, .int .i64 D.a1.s, .int .i64 D.fuse, .int .i64 D.keep, .bool D.down] (by rfl) _ Try.underlying27 rfl (by exact size_disk) ?_)
        refine HL.out.mono ?_
        rintro e w3 ⟨y, rfl, hIn5, hb5⟩
        replace hRr := hRr.later hb5
        replace hB := below_step hB hb5
        clear hb5 HL c6 hR0
        unfold aggD
        go_wp2_with (refine wpList_store_row rfl 27 (.tmp 4) _ rfl (w.heap.size + 1) rfl (cellsD y (loseD D k)) rfl _ _ hRr (by exact size_disk) rfl (one_disk _ _) ?_)
        refine bodyPost_ret (results_row_tmp (p := 4) (u := 5) (ty := 27) (by rfl) _ _ (w.heap.size + 1) 27 _ _ (by rfl) (by exact hRr.setRow _) Try.underlying27 (by rfl) (by exact size_disk)) (by rfl) ?_
        rw [HST.out]
        exact ⟨y, rfl, hIn5.no_byte hRr (disk_no none 0 0 0 none 0 0 0 0 0 false) ((Only.refl _ _).setRow _), below_setRow hB (by omega) _⟩
    · have HST : Hid (crashD D k = (D, 1)) := by unfold Hid crashD; rw [if_pos (fun hn => hk0 hn.2)]
      clear hright
      go_wp2_with (first | (refine wpList_load_part rfl 27 (.tmp 2) rfl w.heap.size 0 rfl _ _ hR0 [Value.slice x.A0 x.n0 x.c0, .int .i64 D.a0.s, .slice x.A1 x.n1 x.c1, .int .i64 D.a1.s, .int .i64 D.fuse, .int .i64 D.keep, .bool D.down] (by rfl) _ Try.underlying27 rfl (by exact size_disk) ?_) | (refine wpList_store_row rfl 27 (.tmp 4) _ rfl (w.heap.size + 1) rfl [Value.slice x.A0 x.n0 x.c0, .int .i64 D.a0.s, .slice x.A1 x.n1 x.c1, .int .i64 D.a1.s, .int .i64 D.fuse, .int .i64 D.keep, .bool D.down] rfl _ _ hRr (by exact size_disk) rfl (one_disk x D) ?_))
      refine bodyPost_ret (results_row_tmp (p := 4) (u := 5) (ty := 27) (by rfl) _ _ (w.heap.size + 1) 27 _ _ (by rfl) (by exact hRr.setRow _) Try.underlying27 (by rfl) (by exact size_disk)) (by rfl) ?_
      rw [HST.out]
      exact ⟨x, rfl, h.no_byte hRr (disk_no none 0 0 0 none 0 0 0 0 0 false) ((Only.refl _ _).setRow _), below_setRow hB (by omega) _⟩
  · have HST : Hid (crashD D k = (D, 1)) := by unfold Hid crashD; rw [if_pos (fun hn => hright hn.1)]
    rw [decide_eq_false hright]
    clear hright
    go_wp2_with (first | (refine wpList_load_part rfl 27 (.tmp 2) rfl w.heap.size 0 rfl _ _ hR0 [Value.slice x.A0 x.n0 x.c0, .int .i64 D.a0.s, .slice x.A1 x.n1 x.c1, .int .i64 D.a1.s, .int .i64 D.fuse, .int .i64 D.keep, .bool D.down] (by rfl) _ Try.underlying27 rfl (by exact size_disk) ?_) | (refine wpList_store_row rfl 27 (.tmp 4) _ rfl (w.heap.size + 1) rfl [Value.slice x.A0 x.n0 x.c0, .int .i64 D.a0.s, .slice x.A1 x.n1 x.c1, .int .i64 D.a1.s, .int .i64 D.fuse, .int .i64 D.keep, .bool D.down] rfl _ _ hRr (by exact size_disk) rfl (one_disk x D) ?_))
    refine bodyPost_ret (results_row_tmp (p := 4) (u := 5) (ty := 27) (by rfl) _ _ (w.heap.size + 1) 27 _ _ (by rfl) (by exact hRr.setRow _) Try.underlying27 (by rfl) (by exact size_disk)) (by rfl) ?_
    rw [HST.out]
    exact ⟨x, rfl, h.no_byte hRr (disk_no none 0 0 0 none 0 0 0 0 0 false) ((Only.refl _ _).setRow _), below_setRow hB (by omega) _⟩

set_option maxHeartbeats 2000000 in
theorem refrise17_any (x : WD) (D : DK) (w : World) (h : InD w x D) :
    Calls Try.prog 18 #[aggD x D] w (RetF w (riseD D).1 (riseD D).2) := by
  obtain ⟨hR0, hRr, hB⟩ := two_boxes w 27 27 [Value.slice x.A0 x.n0 x.c0, .int .i64 D.a0.s, .slice x.A1 x.n1 x.c1, .int .i64 D.a1.s, .int .i64 D.fuse, .int .i64 D.keep, .bool D.down] [Value.slice none 0 0, .int .i64 0, .slice none 0 0, .int .i64 0, .int .i64 0, .int .i64 0, .bool false] _ _ rfl rfl
  unfold aggD
  go_enter Try.func18, Try.ntmps18
  go_upto_region 1 with fail
  generalize (w.alloc (.cells [Value.slice x.A0 x.n0 x.c0, .int .i64 D.a0.s, .slice x.A1 x.n1 x.c1, .int .i64 D.a1.s, .int .i64 D.fuse, .int .i64 D.keep, .bool D.down].toArray 27)).alloc (.cells [Value.slice none 0 0, .int .i64 0, .slice none 0 0, .int .i64 0, .int .i64 0, .int .i64 0, .bool false].toArray 27) = W at hR0 hRr hB ⊢
  replace h := h.keep hB
  have hrt := refright17_any x D W h
  unfold aggD at hrt
  have HRT := Lib.hid hrt
  clear hrt
  go_wp2_with (refine wpList_load_part rfl 27 (.tmp 1) rfl w.heap.size 0 rfl _ _ hR0 [Value.slice x.A0 x.n0 x.c0, .int .i64 D.a0.s, .slice x.A1 x.n1 x.c1, .int .i64 D.a1.s, .int .i64 D.fuse, .int .i64 D.keep, .bool D.down] (by rfl) _ Try.underlying27 rfl (by exact size_disk) ?_)
  refine HRT.out.mono ?_
  rintro e w2 ⟨rfl, hb⟩
  replace hR0 := hR0.later hb
  replace hRr := hRr.later hb
  replace h := h.keep hb
  replace hB := below_step hB hb
  clear hb HRT
  have c6 : w2.cell? ⟨w.heap.size, 6, none⟩ = some (.bool D.down) := hR0.cell rfl
  by_cases hright : rightDK D
  · rw [decide_eq_true hright]
    by_cases hd : D.down = true
    · have HST : Hid (riseD D = ({ D with down := false }, 0)) := by unfold Hid riseD; rw [if_neg (fun hn => hn ⟨hright, hd⟩)]
      rw [hd] at c6
      clear hd hright
      have f6 := hR0.frozen 6
      have hR2 : Row (w2.setCell ⟨w.heap.size, 6, none⟩ (.bool false)) w.heap.size 27 [Value.slice x.A0 x.n0 x.c0, .int .i64 D.a0.s, .slice x.A1 x.n1 x.c1, .int .i64 D.a1.s, .int .i64 D.fuse, .int .i64 D.keep, .bool false] := hR0.setCell 6 _
      have hO : Only w.heap.size w2 (w2.setCell ⟨w.heap.size, 6, none⟩ (.bool false)) := (Only.refl _ w2).setCell 6 _
      go_upto_region 4 with fail
      replace h := h.no_byte hR0 (cellsD_no x D) hO
      replace hRr := hRr.setCell_other (p := ⟨w.heap.size, 6, none⟩) (show w.heap.size + 1 ≠ w.heap.size by omega) (.bool false)
      replace hB := hB.trans hO.below
      clear hR0 c6 f6 hO
      generalize w2.setCell ⟨w.heap.size, 6, none⟩ (.bool false) = w3 at hR2 h hRr hB ⊢
      go_wp2_with (first | (refine wpList_load_part rfl 27 (.tmp 1) rfl w.heap.size 0 rfl _ _ hR2 [Value.slice x.A0 x.n0 x.c0, .int .i64 D.a0.s, .slice x.A1 x.n1 x.c1, .int .i64 D.a1.s, .int .i64 D.fuse, .int .i64 D.keep, .bool false] (by rfl) _ Try.underlying27 rfl (by exact size_disk) ?_) | (refine wpList_store_row rfl 27 (.tmp 2) _ rfl (w.heap.size + 1) rfl [Value.slice x.A0 x.n0 x.c0, .int .i64 D.a0.s, .slice x.A1 x.n1 x.c1, .int .i64 D.a1.s, .int .i64 D.fuse, .int .i64 D.keep, .bool false] rfl _ _ hRr (by exact size_disk) rfl (one_disk x { D with down := false }) ?_))
      refine bodyPost_ret (results_row_tmp (p := 2) (u := 3) (ty := 27) (by rfl) _ _ (w.heap.size + 1) 27 _ _ (by rfl) (by exact hRr.setRow _) Try.underlying27 (by rfl) (by exact size_disk)) (by rfl) ?_
      rw [HST.out]
      have hIn5 : InD w3 x { D with down := false } := ⟨h.l0, h.h0, h.r0, h.l1, h.h1, h.r1⟩
      exact ⟨x, rfl, hIn5.no_byte hRr (disk_no none 0 0 0 none 0 0 0 0 0 false) ((Only.refl _ _).setRow _), below_setRow hB (by omega) _⟩
    · have HST : Hid (riseD D = (D, 1)) := by unfold Hid riseD; rw [if_pos (fun hn => hd hn.2)]
      rw [Bool.not_eq_true] at hd
      rw [hd] at c6
      clear hd hright
      go_wp2_with (first | (refine wpList_load_part rfl 27 (.tmp 1) rfl w.heap.size 0 rfl _ _ hR0 [Value.slice x.A0 x.n0 x.c0, .int .i64 D.a0.s, .slice x.A1 x.n1 x.c1, .int .i64 D.a1.s, .int .i64 D.fuse, .int .i64 D.keep, .bool D.down] (by rfl) _ Try.underlying27 rfl (by exact size_disk) ?_) | (refine wpList_store_row rfl 27 (.tmp 2) _ rfl (w.heap.size + 1) rfl [Value.slice x.A0 x.n0 x.c0, .int .i64 D.a0.s, .slice x.A1 x.n1 x.c1, .int .i64 D.a1.s, .int .i64 D.fuse, .int .i64 D.keep, .bool D.down] rfl _ _ hRr (by exact size_disk) rfl (one_disk x D) ?_))
      refine bodyPost_ret (results_row_tmp (p := 2) (u := 3) (ty := 27) (by rfl) _ _ (w.heap.size + 1) 27 _ _ (by rfl) (by exact hRr.setRow _) Try.underlying27 (by rfl) (by exact size_disk)) (by rfl) ?_
      rw [HST.out]
      exact ⟨x, rfl, h.no_byte hRr (disk_no none 0 0 0 none 0 0 0 0 0 false) ((Only.refl _ _).setRow _), below_setRow hB (by omega) _⟩
  · have HST : Hid (riseD D = (D, 1)) := by unfold Hid riseD; rw [if_pos (fun hn => hright hn.1)]
    rw [decide_eq_false hright]
    clear hright
    go_wp2_with (first | (refine wpList_load_part rfl 27 (.tmp 1) rfl w.heap.size 0 rfl _ _ hR0 [Value.slice x.A0 x.n0 x.c0, .int .i64 D.a0.s, .slice x.A1 x.n1 x.c1, .int .i64 D.a1.s, .int .i64 D.fuse, .int .i64 D.keep, .bool D.down] (by rfl) _ Try.underlying27 rfl (by exact size_disk) ?_) | (refine wpList_store_row rfl 27 (.tmp 2) _ rfl (w.heap.size + 1) rfl [Value.slice x.A0 x.n0 x.c0, .int .i64 D.a0.s, .slice x.A1 x.n1 x.c1, .int .i64 D.a1.s, .int .i64 D.fuse, .int .i64 D.keep, .bool D.down] rfl _ _ hRr (by exact size_disk) rfl (one_disk x D) ?_))
    refine bodyPost_ret (results_row_tmp (p := 2) (u := 3) (ty := 27) (by rfl) _ _ (w.heap.size + 1) 27 _ _ (by rfl) (by exact hRr.setRow _) Try.underlying27 (by rfl) (by exact size_disk)) (by rfl) ?_
    rw [HST.out]
    exact ⟨x, rfl, h.no_byte hRr (disk_no none 0 0 0 none 0 0 0 0 0 false) ((Only.refl _ _).setRow _), below_setRow hB (by omega) _⟩
end Go.Proofs.Ytkkfkibjamnpnaa
/-
  The fixed answer that the statements of layer 17 begin with. No conditions.
-/
namespace Go.Proofs.Ytkkfkibjamnpnaa
set_option maxRecDepth 100000
open Go.RowKit
set_option linter.unusedSimpArgs false
set_option linter.unusedVariables false

def aw1 : DK := ⟨⟨[], 0⟩, ⟨[9], 0⟩, -1, 0, false⟩
def aw2 : DK := ⟨⟨[], 0⟩, ⟨[9], 1⟩, -1, 0, false⟩
def aw3 : DK := ⟨⟨[], 0⟩, ⟨[9], 1⟩, 0, 2, false⟩
def aw4 : DK := ⟨⟨[], 0⟩, ⟨[9, 1, 2], 3⟩, -1, 2, true⟩
def aw5 : DK := ⟨⟨[], 0⟩, ⟨[9, 1, 2], 3⟩, -1, 2, false⟩
theorem aw_write : writeD newD 1 [9] = (aw1, 0) := by rfl
theorem aw_sync : syncD aw1 1 = (aw2, 0) := by rfl
theorem aw_goes : writeD aw3 1 [1, 2, 3] = (aw4, 14) := by rfl
theorem aw_rise : riseD aw4 = (aw5, 0) := by rfl
theorem aw_right : decide (rightDK aw5) = true := by rfl
theorem lit_bytes (w : World) (l : List UInt8) (cs : Array Value) (h : cs = (l.map vB).toArray) : Rd vB (w.alloc (.cells cs 5)) (some ⟨w.heap.size, 0, none⟩) l := Rd.new w l cs _ h
set_option maxHeartbeats 4000000 in
theorem awake17_any (w : World) : Calls Try.prog 6 #[] w fun e w' => e = .returned (.bool true) ∧ Below w.heap.size w w' := by
  go_enter Try.func6, Try.ntmps6
  go_wp2_with fail
  refine (new17_any _).mono ?_
  rintro e w1 ⟨rfl, hB⟩
  have hr1 := lit_bytes w1 [9] #[.int .u8 9] rfl
  have hb1 := below_new (Below.refl _ w1) (.cells #[.int .u8 9] 5)
  have hB1 := below_step hB hb1
  have HW := write17_any ⟨none, 0, 0, none, 0, 0⟩ newD 1 [9] (some ⟨w1.heap.size, 0, none⟩) 1 1 _ (newD_in _) rfl (Nat.le_refl _) hr1 (by decide) (by decide) (by decide) (by decide) (by decide)
  rw [aw_write] at HW
  unfold aggD
  unfold aggD at HW
  replace HW := Lib.hid HW
  clear hr1 hb1 hB
  go_wp2_with fail
  refine HW.out.mono ?_
  rintro e w2 ⟨x, rfl, hIn, -, hb⟩
  replace hB := below_step hB1 hb
  have hg1 : w.heap.size ≤ w2.heap.size := hB.size
  clear hb hB1 HW
  obtain ⟨hRz, hBz⟩ := box_of w2 27 [Value.slice none 0 0, .int .i64 0, .slice none 0 0, .int .i64 0, .int .i64 0, .int .i64 0, .bool false] _ rfl
  unfold aggD
  dsimp only
  go_upto_region 2 with (refine wpList_store_row rfl 27 (.tmp 1) (.tmp 12) rfl w2.heap.size rfl [Value.slice x.A0 x.n0 x.c0, .int .i64 aw1.a0.s, .slice x.A1 x.n1 x.c1, .int .i64 aw1.a1.s, .int .i64 aw1.fuse, .int .i64 aw1.keep, .bool aw1.down] rfl _ _ hRz (by exact size_disk) rfl (one_disk x aw1) ?_)
  have hR := hRz.setRow [Value.slice x.A0 x.n0 x.c0, .int .i64 aw1.a0.s, .slice x.A1 x.n1 x.c1, .int .i64 aw1.a1.s, .int .i64 aw1.fuse, .int .i64 aw1.keep, .bool aw1.down]
  have hbz : Below w2.heap.size w2 ((w2.alloc (.cells [Value.slice none 0 0, .int .i64 0, .slice none 0 0, .int .i64 0, .int .i64 0, .int .i64 0, .bool false].toArray 27)).setRow w2.heap.size [Value.slice x.A0 x.n0 x.c0, .int .i64 aw1.a0.s, .slice x.A1 x.n1 x.c1, .int .i64 aw1.a1.s, .int .i64 aw1.fuse, .int .i64 aw1.keep, .bool aw1.down].toArray) := below_setRow hBz (Nat.le_refl _) _
  replace hIn := hIn.keep hbz
  replace hB := below_step hB hbz
  clear hRz hBz
  clear hbz
  generalize (w2.alloc (.cells [Value.slice none 0 0, .int .i64 0, .slice none 0 0, .int .i64 0, .int .i64 0, .int .i64 0, .bool false].toArray 27)).setRow w2.heap.size [Value.slice x.A0 x.n0 x.c0, .int .i64 aw1.a0.s, .slice x.A1 x.n1 x.c1, .int .i64 aw1.a1.s, .int .i64 aw1.fuse, .int .i64 aw1.keep, .bool aw1.down].toArray = W at hR hIn hB ⊢
  generalize w2.heap.size = g1 at hR hg1 ⊢
  have hn := hIn.l0
  have hn1 := hIn.l1
  have HS := sync17_any x aw1 1 W hIn (by rw [← hn]; decide) (by rw [← hn1]; decide) (by decide) (by decide)
  rw [aw_sync] at HS
  unfold aggD at HS
  replace HS := Lib.hid HS
  clear hn hn1
  go_wp2_with (refine wpList_load_part rfl 27 (.tmp 1) rfl g1 0 rfl _ _ hR [Value.slice x.A0 x.n0 x.c0, .int .i64 aw1.a0.s, .slice x.A1 x.n1 x.c1, .int .i64 aw1.a1.s, .int .i64 aw1.fuse, .int .i64 aw1.keep, .bool aw1.down] (by rfl) _ Try.underlying27 rfl (by exact size_disk) ?_)
  refine HS.out.mono ?_
  rintro e w3 ⟨y, rfl, hIn2, -, hb⟩
  replace hR := hR.later hb
  replace hB := below_step hB hb
  clear hb HS hIn
  unfold aggD
  dsimp only
  go_upto_region 3 with (refine wpList_store_row rfl 27 (.tmp 1) (.tmp 17) rfl g1 rfl [Value.slice y.A0 y.n0 y.c0, .int .i64 aw2.a0.s, .slice y.A1 y.n1 y.c1, .int .i64 aw2.a1.s, .int .i64 aw2.fuse, .int .i64 aw2.keep, .bool aw2.down] rfl _ _ hR (by exact size_disk) rfl (one_disk y aw2) ?_)
  have hR2 := hR.setRow [Value.slice y.A0 y.n0 y.c0, .int .i64 aw2.a0.s, .slice y.A1 y.n1 y.c1, .int .i64 aw2.a1.s, .int .i64 aw2.fuse, .int .i64 aw2.keep, .bool aw2.down]
  have hO := (Only.refl g1 w3).setRow [Value.slice y.A0 y.n0 y.c0, .int .i64 aw2.a0.s, .slice y.A1 y.n1 y.c1, .int .i64 aw2.a1.s, .int .i64 aw2.fuse, .int .i64 aw2.keep, .bool aw2.down].toArray
  replace hIn2 := hIn2.no_byte hR (cellsD_no x aw1) hO
  replace hB := hB.trans (hO.below.mono hg1)
  clear hR hO
  generalize w3.setRow g1 [Value.slice y.A0 y.n0 y.c0, .int .i64 aw2.a0.s, .slice y.A1 y.n1 y.c1, .int .i64 aw2.a1.s, .int .i64 aw2.fuse, .int .i64 aw2.keep, .bool aw2.down].toArray = W at hR2 hIn2 hB ⊢
  have f4 := hR2.frozen 4
  have c4 : W.cell? ⟨g1, 4, none⟩ = some (.int .i64 (-1)) := hR2.cell rfl
  have hR4 : Row (W.setCell ⟨g1, 4, none⟩ (.int .i64 0)) g1 27 [Value.slice y.A0 y.n0 y.c0, .int .i64 aw2.a0.s, .slice y.A1 y.n1 y.c1, .int .i64 aw2.a1.s, .int .i64 0, .int .i64 aw2.keep, .bool aw2.down] := hR2.setCell 4 _
  have f5 := hR4.frozen 5
  have c5 : (W.setCell ⟨g1, 4, none⟩ (.int .i64 0)).cell? ⟨g1, 5, none⟩ = some (.int .i64 0) := hR4.cell rfl
  have hR5 : Row ((W.setCell ⟨g1, 4, none⟩ (.int .i64 0)).setCell ⟨g1, 5, none⟩ (.int .i64 2)) g1 27 [Value.slice y.A0 y.n0 y.c0, .int .i64 aw3.a0.s, .slice y.A1 y.n1 y.c1, .int .i64 aw3.a1.s, .int .i64 aw3.fuse, .int .i64 aw3.keep, .bool aw3.down] := hR4.setCell 5 _
  have hO : Only g1 W ((W.setCell ⟨g1, 4, none⟩ (.int .i64 0)).setCell ⟨g1, 5, none⟩ (.int .i64 2)) := ((Only.refl _ W).setCell 4 _).setCell 5 _
  go_upto_region 4 with fail
  replace hIn2 := hIn2.no_byte hR2 (cellsD_no y aw2) hO
  replace hB := hB.trans (hO.below.mono hg1)
  clear hR2 hR4 hO f4 c4 f5 c5
  generalize (W.setCell ⟨g1, 4, none⟩ (.int .i64 0)).setCell ⟨g1, 5, none⟩ (.int .i64 2) = W at hR5 hIn2 hB ⊢
  have hIn3 : InD W y aw3 := ⟨hIn2.l0, hIn2.h0, hIn2.r0, hIn2.l1, hIn2.h1, hIn2.r1⟩
  clear hIn2
  have hr1 := lit_bytes W [1, 2, 3] #[.int .u8 1, .int .u8 2, .int .u8 3] rfl
  have hb1 := below_new (Below.refl _ W) (.cells #[.int .u8 1, .int .u8 2, .int .u8 3] 5)
  have hn := hIn3.l0
  have hn1 := hIn3.l1
  have HW := write17_any y aw3 1 [1, 2, 3] (some ⟨W.heap.size, 0, none⟩) 3 3 _ (hIn3.keep hb1) rfl (Nat.le_refl _) hr1 (by rw [← hn]; decide) (by rw [← hn1]; decide) (by decide) (by decide) (by decide)
  rw [aw_goes] at HW
  unfold aggD at HW
  replace HW := Lib.hid HW
  clear hr1 hn hn1 hIn3
  go_wp2_with (refine wpList_load_part rfl 27 (.tmp 1) rfl g1 0 rfl _ _ hR5 [Value.slice y.A0 y.n0 y.c0, .int .i64 aw3.a0.s, .slice y.A1 y.n1 y.c1, .int .i64 aw3.a1.s, .int .i64 aw3.fuse, .int .i64 aw3.keep, .bool aw3.down] (by rfl) _ Try.underlying27 rfl (by exact size_disk) ?_)
  refine HW.out.mono ?_
  rintro e w4 ⟨z, rfl, hIn4, -, hb⟩
  replace hB := below_step (below_step hB hb1) hb
  clear hb hb1 HW hR5
  obtain ⟨hRz, hBz⟩ := box_of w4 27 [Value.slice none 0 0, .int .i64 0, .slice none 0 0, .int .i64 0, .int .i64 0, .int .i64 0, .bool false] _ rfl
  unfold aggD
  dsimp only
  go_upto_region 5 with (refine wpList_store_row rfl 27 (.tmp 4) (.tmp 25) rfl w4.heap.size rfl [Value.slice z.A0 z.n0 z.c0, .int .i64 aw4.a0.s, .slice z.A1 z.n1 z.c1, .int .i64 aw4.a1.s, .int .i64 aw4.fuse, .int .i64 aw4.keep, .bool aw4.down] rfl _ _ hRz (by exact size_disk) rfl (one_disk z aw4) ?_)
  have hR := hRz.setRow [Value.slice z.A0 z.n0 z.c0, .int .i64 aw4.a0.s, .slice z.A1 z.n1 z.c1, .int .i64 aw4.a1.s, .int .i64 aw4.fuse, .int .i64 aw4.keep, .bool aw4.down]
  have hbz : Below w4.heap.size w4 ((w4.alloc (.cells [Value.slice none 0 0, .int .i64 0, .slice none 0 0, .int .i64 0, .int .i64 0, .int .i64 0, .bool false].toArray 27)).setRow w4.heap.size [Value.slice z.A0 z.n0 z.c0, .int .i64 aw4.a0.s, .slice z.A1 z.n1 z.c1, .int .i64 aw4.a1.s, .int .i64 aw4.fuse, .int .i64 aw4.keep, .bool aw4.down].toArray) := below_setRow hBz (Nat.le_refl _) _
  replace hIn4 := hIn4.keep hbz
  replace hB := below_step hB hbz
  clear hRz hBz hbz hg1
  generalize (w4.alloc (.cells [Value.slice none 0 0, .int .i64 0, .slice none 0 0, .int .i64 0, .int .i64 0, .int .i64 0, .bool false].toArray 27)).setRow w4.heap.size [Value.slice z.A0 z.n0 z.c0, .int .i64 aw4.a0.s, .slice z.A1 z.n1 z.c1, .int .i64 aw4.a1.s, .int .i64 aw4.fuse, .int .i64 aw4.keep, .bool aw4.down].toArray = W at hR hIn4 hB ⊢
  generalize w4.heap.size = g2 at hR ⊢
  have hn := hIn4.l0
  have hn1 := hIn4.l1
  have HS := rise17_any z aw4 W hIn4 (by rw [← hn]; decide) (by rw [← hn1]; decide)
  rw [aw_rise] at HS
  unfold aggD at HS
  replace HS := Lib.hid HS
  clear hn hn1
  go_wp2_with (refine wpList_load_part rfl 27 (.tmp 4) rfl g2 0 rfl _ _ hR [Value.slice z.A0 z.n0 z.c0, .int .i64 aw4.a0.s, .slice z.A1 z.n1 z.c1, .int .i64 aw4.a1.s, .int .i64 aw4.fuse, .int .i64 aw4.keep, .bool aw4.down] (by rfl) _ Try.underlying27 rfl (by exact size_disk) ?_)
  refine HS.out.mono ?_
  rintro e w5 ⟨u, rfl, hIn5, -, hb⟩
  replace hR := hR.later hb
  replace hIn4 := hIn4.keep hb
  replace hB := below_step hB hb
  clear hb HS
  obtain ⟨hRz, hBz⟩ := box_of w5 27 [Value.slice none 0 0, .int .i64 0, .slice none 0 0, .int .i64 0, .int .i64 0, .int .i64 0, .bool false] _ rfl
  unfold aggD
  dsimp only
  go_upto_region 6 with (refine wpList_store_row rfl 27 (.tmp 6) (.tmp 30) rfl w5.heap.size rfl [Value.slice u.A0 u.n0 u.c0, .int .i64 aw5.a0.s, .slice u.A1 u.n1 u.c1, .int .i64 aw5.a1.s, .int .i64 aw5.fuse, .int .i64 aw5.keep, .bool aw5.down] rfl _ _ hRz (by exact size_disk) rfl (one_disk u aw5) ?_)
  have hR5 := hRz.setRow [Value.slice u.A0 u.n0 u.c0, .int .i64 aw5.a0.s, .slice u.A1 u.n1 u.c1, .int .i64 aw5.a1.s, .int .i64 aw5.fuse, .int .i64 aw5.keep, .bool aw5.down]
  have hbz : Below w5.heap.size w5 ((w5.alloc (.cells [Value.slice none 0 0, .int .i64 0, .slice none 0 0, .int .i64 0, .int .i64 0, .int .i64 0, .bool false].toArray 27)).setRow w5.heap.size [Value.slice u.A0 u.n0 u.c0, .int .i64 aw5.a0.s, .slice u.A1 u.n1 u.c1, .int .i64 aw5.a1.s, .int .i64 aw5.fuse, .int .i64 aw5.keep, .bool aw5.down].toArray) := below_setRow hBz (Nat.le_refl _) _
  replace hIn4 := hIn4.keep hbz
  replace hIn5 := hIn5.keep hbz
  replace hR := hR.later hbz
  replace hB := below_step hB hbz
  clear hRz hBz hbz
  generalize (w5.alloc (.cells [Value.slice none 0 0, .int .i64 0, .slice none 0 0, .int .i64 0, .int .i64 0, .int .i64 0, .bool false].toArray 27)).setRow w5.heap.size [Value.slice u.A0 u.n0 u.c0, .int .i64 aw5.a0.s, .slice u.A1 u.n1 u.c1, .int .i64 aw5.a1.s, .int .i64 aw5.fuse, .int .i64 aw5.keep, .bool aw5.down].toArray = W at hR hR5 hIn4 hIn5 hB ⊢
  generalize w5.heap.size = g3 at hR5 ⊢
  have hstr := run_str W 22 5 9 Try.underlying22 Try.underlying5 Try.underlying9 z.A1 [9, 1, 2] z.n1 z.c1 hIn4.l1 hIn4.r1
  have c2 : W.cell? ⟨g2, 2, none⟩ = some (.slice z.A1 z.n1 z.c1) := hR.cell rfl
  have c3 : W.cell? ⟨g2, 3, none⟩ = some (.int .i64 3) := hR.cell rfl
  have c4 : W.cell? ⟨g2, 4, none⟩ = some (.int .i64 (-1)) := hR.cell rfl
  have c6 : W.cell? ⟨g2, 6, none⟩ = some (.bool true) := hR.cell rfl
  have d0 : W.cell? ⟨g3, 0, none⟩ = some (.slice u.A0 u.n0 u.c0) := hR5.cell rfl
  have d1 : W.cell? ⟨g3, 1, none⟩ = some (.int .i64 aw5.a0.s) := hR5.cell rfl
  have d2 : W.cell? ⟨g3, 2, none⟩ = some (.slice u.A1 u.n1 u.c1) := hR5.cell rfl
  have d3 : W.cell? ⟨g3, 3, none⟩ = some (.int .i64 aw5.a1.s) := hR5.cell rfl
  have d4 : W.cell? ⟨g3, 4, none⟩ = some (.int .i64 aw5.fuse) := hR5.cell rfl
  have d5 : W.cell? ⟨g3, 5, none⟩ = some (.int .i64 aw5.keep) := hR5.cell rfl
  have d6 : W.cell? ⟨g3, 6, none⟩ = some (.bool false) := hR5.cell rfl
  have HR := right17_any u aw5 W hIn5
  rw [aw_right] at HR
  unfold aggD at HR
  replace HR := Lib.hid HR
  clear hIn4 hIn5 hR
  go_wp2_with fail
  refine HR.out.mono ?_
  rintro e w6 ⟨rfl, hb⟩
  go_wp2_with fail
  go_ret
  exact ⟨rfl, below_step hB hb⟩
end Go.Proofs.Ytkkfkibjamnpnaa
/-
  Words for the laws of layer 17 that draw the order of a call and of its result's block. No conditions but those typed.
-/
namespace Go.Proofs.Ytkkfkibjamnpnaa
set_option maxRecDepth 100000
open Go.RowKit
set_option linter.unusedSimpArgs false
set_option linter.unusedVariables false

/-- A disk's block, cell by cell, and something else. -/
def dkS (g : Nat) (x : WD) (D : DK) (Z : World → Prop) (W : World) : Prop :=
  (W.cell? ⟨g, 0, none⟩ = some (.slice x.A0 x.n0 x.c0) ∧ W.cell? ⟨g, 1, none⟩ = some (.int .i64 D.a0.s) ∧ W.cell? ⟨g, 2, none⟩ = some (.slice x.A1 x.n1 x.c1) ∧ W.cell? ⟨g, 3, none⟩ = some (.int .i64 D.a1.s) ∧ W.cell? ⟨g, 4, none⟩ = some (.int .i64 D.fuse) ∧ W.cell? ⟨g, 5, none⟩ = some (.int .i64 D.keep) ∧ W.cell? ⟨g, 6, none⟩ = some (.bool D.down)) ∧ Z W
/-- .. now, and in every later world. -/
structure DkS (g : Nat) (x : WD) (D : DK) (Z : World → Prop) (w : World) : Prop where
  now : dkS g x D Z w
  keep : ∀ {W : World}, Below w.heap.size w W → dkS g x D Z W
theorem DkS.of {g : Nat} {x : WD} {D : DK} {Z : World → Prop} {w : World} (h : Row w g 27 [Value.slice x.A0 x.n0 x.c0, .int .i64 D.a0.s, .slice x.A1 x.n1 x.c1, .int .i64 D.a1.s, .int .i64 D.fuse, .int .i64 D.keep, .bool D.down]) (z : ∀ W, Below w.heap.size w W → Z W) : DkS g x D Z w :=
  ⟨⟨⟨h.cell rfl, h.cell rfl, h.cell rfl, h.cell rfl, h.cell rfl, h.cell rfl, h.cell rfl⟩, z w (Below.refl _ _)⟩,
    fun hb => ⟨⟨(h.later hb).cell rfl, (h.later hb).cell rfl, (h.later hb).cell rfl, (h.later hb).cell rfl, (h.later hb).cell rfl, (h.later hb).cell rfl, (h.later hb).cell rfl⟩, z _ hb⟩⟩
/-- Behind such a region: the result's block, its disk. -/
def CutW (W : World) (DS : DK) (er : Int) (vp ve : Value) (wx : World) : Prop :=
  ∃ g y, vp = .pointer (some ⟨g, 0, none⟩) ∧ ve = .int .i64 er ∧ W.heap.size ≤ g ∧ Row wx g 27 (cellsD y DS) ∧ InD wx y DS ∧ FreshD W.heap.size y ∧ Below W.heap.size W wx
theorem make_zeros (n : Nat) (hn : n ≤ 2000000) (w : World) : (Instr.makeSlice 22 (.int .i64 (n : Int)) (.int .i64 (n : Int))).run Try.prog w = .ok (.slice (some ⟨w.heap.size, 0, none⟩) n n) (w.alloc (.cells ((List.replicate n (0 : UInt8)).map vB).toArray 5)) := by
  obtain ⟨i0, hi, hz0, hz1, hz2⟩ := info_parts info_u8
  have e : madeCells (Value.int .u8 0).cells n = ((List.replicate n (0 : UInt8)).map vB).toArray := by
    apply Array.toList_inj.1
    apply List.ext_getElem
    · simp [madeCells]
    · intro i h1 h2
      simp [madeCells, Value.cells, vB, Nat.mod_one]
  have := run_makeSlice (P := Try.prog) (w := w) 22 5 i0 (.int .u8 0) Try.underlying22 hi hz0 .i64 .i64 (n : Int) (n : Int) (by omega) (Int.le_refl _) (by rw [hz1]; omega) (by rw [hz2]; omega) (by omega)
  rw [hz1, Int.toNat_natCast, Nat.mul_one, e] at this
  exact this
end Go.Proofs.Ytkkfkibjamnpnaa
/-
  A literal's bytes, converted to their own type: a row with a frozen mark reads as the bytes did (no program is named here). No conditions but those typed.
-/
namespace Go.Proofs.Ytkkfkibjamnpnaa
set_option maxRecDepth 100000
open Go.RowKit

theorem Rd.new_fr {α : Type} {f : α → Value} (w : World) (g : Nat) (hg : g = w.heap.size) (l : List α) (cs : Array Value) (e : TypeId) (fr : Nat × Nat) (h : cs = (l.map f).toArray) : Rd f (w.alloc (.cells cs e fr)) (some ⟨g, 0, none⟩) l := fun _ => by
  subst hg
  refine ⟨w.heap.size, 0, rfl, fun i hi => ?_⟩
  subst h
  rw [cell_of_row _ w.heap.size (0 + i) _ e fr (heap_alloc_new w _)]
  simp [hi]
end Go.Proofs.Ytkkfkibjamnpnaa
/-
  What lasts on a disk behind some writes and syncs: words for the walk of DiskKeeps. No conditions but those typed.
-/
namespace Go.Proofs.Ytkkfkibjamnpnaa
set_option maxRecDepth 100000
open Go.RowKit
set_option linter.unusedSimpArgs false
set_option linter.unusedVariables false

def othK : AK := ⟨[111, 116, 104, 101, 114], 5⟩
theorem oth_right : rightAK othK := by unfold rightAK othK; simp
theorem oth_sure : othK.s = othK.b.length := rfl
def smallD (D : DK) : Prop := D.fuse ≤ 255 ∧ D.keep ≤ 255
theorem step_small {D : DK} {k : Int} {full : Nat → Bool} {gs dn : Nat → AK → AK} (h : smallD D) : smallD (stepD D k full gs dn).1 := by
  have hs : ∀ j a, (setA D j a).fuse = D.fuse ∧ (setA D j a).keep = D.keep := fun j a => by unfold setA; split <;> exact ⟨rfl, rfl⟩
  unfold stepD
  split
  · exact h
  · split
    · exact h
    · split
      · exact h
      · split
        · exact ⟨by show (-1 : Int) ≤ 255; omega, by show (setA D _ _).keep ≤ 255; rw [(hs _ _).2]; exact h.2⟩
        · refine ⟨?_, by show (setA D _ _).keep ≤ 255; rw [(hs _ _).2]; exact h.2⟩
          show burn D.fuse ≤ 255
          have := h.1
          unfold burn
          split <;> omega
theorem crash_small {D : DK} {k : Int} (h : smallD D) : smallD (crashD D k).1 := by
  unfold crashD
  split
  · exact h
  · split
    · exact h
    · exact ⟨by show (-1 : Int) ≤ 255; omega, h.2⟩
/-- A part of what is written: its bytes, its room. -/
def PartOK (w : World) (p : Part) : Prop := Rd vB w p.A p.l ∧ p.l.length ≤ p.cap
/-- Bytes stay where a row of the call's own grows, apart from them. -/
theorem Rd.grownC {α : Type} {f : α → Value} {w w' : World} {row : Option Nat} {A : Option Addr} {L : List α} (h : Rd f w A L) (hg : w.grownBy w' row) (hA : L ≠ [] → ∀ a, A = some a → row ≠ some a.block) : Rd f w' A L := by
  by_cases hl : L = []
  · subst hl
    exact Rd.nil
  · exact h.grown hg (hA hl)
/-- A disk's bytes lie apart from a row. -/
def apD (v : Value) (x : WD) (D : DK) : Prop := (D.a0.b ≠ [] → ∀ a, x.A0 = some a → v.ownBlock ≠ some a.block) ∧ (D.a1.b ≠ [] → ∀ a, x.A1 = some a → v.ownBlock ≠ some a.block)
theorem InD.grownC {w w' : World} {x : WD} {D : DK} {v : Value} (h : InD w x D) (hg : w.grownBy w' v.ownBlock) (hA : apD v x D) : InD w' x D := ⟨h.l0, h.h0, h.r0.grownC hg hA.1, h.l1, h.h1, h.r1.grownC hg hA.2⟩
theorem apD.fresh {v : Value} {x : WD} {D : DK} {n : Nat} (h : FreshD n x) (hv : ∀ g, v.ownBlock = some g → g < n) : apD v x D := by
  refine ⟨fun _ a ha e => ?_, fun _ a ha e => ?_⟩
  · have := h.1 a ha; have := hv _ e; omega
  · have := h.2 a ha; have := hv _ e; omega
theorem apD.move {w : World} {v v' : Value} {x : WD} {D : DK} (h : apD v x D) (hIn : InD w x D) (hat : v'.ownBlock = v.ownBlock ∨ v'.ownBlock = some w.heap.size) : apD v' x D := by
  rcases hat with e | e
  · exact ⟨fun hn a ha => by rw [e]; exact h.1 hn a ha, fun hn a ha => by rw [e]; exact h.2 hn a ha⟩
  · refine ⟨fun hn a ha => ?_, fun hn a ha => ?_⟩
    · have := hIn.r0.off hn a ha
      rw [e]
      intro h2
      injection h2 with h2
      omega
    · have := hIn.r1.off hn a ha
      rw [e]
      intro h2
      injection h2 with h2
      omega
theorem InD.only {g : Nat} {w w' : World} {x : WD} {D : DK} {t : TypeId} {l : List Value} (h : InD w x D) (hR : Row w g t l) (hl : ∀ v ∈ l, ∀ y, v ≠ vB y) (k : Only g w w') : InD w' x D := h.no_byte hR hl k

def KeepRel (ps : List Part) (gd : Nat) (w : World) (v s i : Value) (wr : World) : Prop :=
  ∃ (j u : Nat) (x : WD) (D : DK), j ≤ ps.length ∧ i = .int .i64 (j : Int) ∧ s = .int .i64 (u : Int) ∧ wr.ownsRow (gd + 1) 5 1 v (flatL (ps.take j)).length ((flatL (ps.take j)).map vB) ∧ Row wr gd 27 [Value.slice x.A0 x.n0 x.c0, .int .i64 D.a0.s, .slice x.A1 x.n1 x.c1, .int .i64 D.a1.s, .int .i64 D.fuse, .int .i64 D.keep, .bool D.down] ∧ InD wr x D ∧ apD v x D ∧
    (LiveD D (flatL (ps.take j)) (u : Int) othK ∨ DeadD D (flatL (ps.take j)) (u : Int) othK) ∧ (flatL (ps.take j)).length ≤ 300 * j ∧ u ≤ (flatL (ps.take j)).length ∧ smallD D ∧ Below w.heap.size w wr
/-- Behind a round's sync. -/
def KeepCut (W : World) (g : Nat) (n : Nat) (L : List UInt8) (v13 v16 : Value) (wx : World) : Prop :=
  ∃ (D : DK) (x : WD) (u : Nat) (e : Int), v13 = .int .i64 (u : Int) ∧ v16 = .int .i64 e ∧ Row wx g 27 [Value.slice x.A0 x.n0 x.c0, .int .i64 D.a0.s, .slice x.A1 x.n1 x.c1, .int .i64 D.a1.s, .int .i64 D.fuse, .int .i64 D.keep, .bool D.down] ∧ InD wx x D ∧ FreshD n x ∧ ((e = 0 ∧ LiveD D L (u : Int) othK) ∨ (e = 14 ∧ DeadD D L (u : Int) othK)) ∧ u ≤ L.length ∧ smallD D ∧ Only g W wx
/-- Behind the loop: the power is gone. -/
def KeepEnd (W : World) (g : Nat) (L : List UInt8) (u : Nat) (wx : World) : Prop :=
  ∃ (D : DK) (x : WD), Row wx g 27 [Value.slice x.A0 x.n0 x.c0, .int .i64 D.a0.s, .slice x.A1 x.n1 x.c1, .int .i64 D.a1.s, .int .i64 D.fuse, .int .i64 D.keep, .bool D.down] ∧ InD wx x D ∧ DeadD D L (u : Int) othK ∧ smallD D ∧ Only g W wx
/-- A bool. -/
def vT (b : Bool) : Value := .bool b
end Go.Proofs.Ytkkfkibjamnpnaa
