/-
  What the program's Bytes of layer 16 answers (landed code). No conditions but those typed.
-/
import Derived.Test.YteppocjgodmpdaaGreatDoorQO7
set_option linter.unusedSimpArgs false
set_option linter.unusedVariables false
set_option maxRecDepth 100000
namespace Go.Proofs.YteppocjgodmpdaaGreatDoor
open Go.RowKit
set_option maxHeartbeats 2000000 in
theorem bytesB_ok (v : Nat) (es : List ED) (gs : List Gn) (n ec m gc : Nat) (eA gA : Option Addr) (w : World) (HN : Hid (es.length = n)) (HM : Hid (gs.length = m)) (hre : RdE w eA es) (hoe : okD w es) (hrg : RdG w gA gs) (hv : v < 18446744073709551616) (hfe : fitE (conE es)) (HF : Hid (fitG gs)) (hok : rightB (conE es) gs = true) :
    Calls Tryz.prog 96 #[aggB v eA n ec gA m gc] w (RetBs w (bytesB v (conE es) gs) 0) := by
  obtain ⟨i0, hi, hz0, hz1, hz2⟩ := info_parts info_u8
  obtain ⟨hn64, hgr, hoe2⟩ := right_b.1 hok
  have hseed := okE_all hoe2
  have hsh : ∀ x ∈ conE es, x.2.2.length ≤ 32 := fun x hx => (hseed x hx).2
  rw [conE_length] at hn64
  have e1 := HN.out
  subst e1
  obtain ⟨hR, hB⟩ := box_three w 32 (.int .u64 (v : Int)) (.slice eA es.length ec) (.slice gA m gc)
  unfold aggB
  have HFE := Lib.hid hfe
  have HSH := Lib.hid hsh
  have HV := Lib.hid hv
  have hm64 : m ≤ 64 := by have := (right_parts.1 hgr).2; have := HM.out; omega
  have HOK := Lib.hid hok
  have HGB : Hid (bytesR gs = (bytesG gs, 0)) := bytesR_ok hgr
  have HML : Hid (∀ x ∈ es, x.s.length ≤ 9223372036854775807) := fun x hx => by
    have := hsh _ (List.mem_map_of_mem (f := ED.con) hx)
    have h2 : x.s.length ≤ 32 := this
    omega
  clear hok hoe2 hseed hgr hfe hsh HN
  go_enter Tryz.func96, Tryz.ntmps96
  go_upto_region 1 with fail
  generalize (w.alloc (.cells #[.int .u64 (v : Int), .slice eA es.length ec, .slice gA m gc] 32)) = w0 at hR hB ⊢
  go_wp2_with (refine wpList_load_part rfl 32 (.tmp 1) rfl w.heap.size 0 rfl _ _ hR (cellsB v eA es.length ec gA m gc) (by rfl) _ Tryz.underlying32 rfl (by exact size_bundle) ?_)
  refine (rightB_any v es gs es.length ec m gc eA gA w0 (Lib.hid rfl) HM (hre.keep hB) (hrg.keep hB) HF (by omega) (by omega) (HML.out)).mono ?_
  rw [HOK.out]
  rintro ee w1 ⟨rfl, hb⟩
  replace hR := hR.later hb
  replace hB := below_step hB hb
  clear hb
  go_upto_region 3 with fail
  have hbg := hR.lt
  have hre1 := hre.keep hB
  have hoe1 := hoe.keep hB
  have hrg1 := hrg.keep hB
  have HB1 := Lib.hid hB
  obtain ⟨L0, hL0⟩ : ∃ L, putL v = L := ⟨_, rfl⟩
  have HL0 := Lib.hid hL0
  have hL0' := hL0
  have HL0Q := Lib.hid hL0'
  clear hL0'
  have HN0 : Hid (L0.length = 8) := by unfold Hid; rw [← hL0]; rfl
  have hown0 : (w1.alloc (.cells #[.int .u8 66] 5)).ownsRow w1.heap.size 5 1 (.slice (some ⟨w1.heap.size, 0, none⟩) 1 1) 1 ([(66 : UInt8)].map vB) := own_lit w1 5 ([(66 : UInt8)].map vB) #[.int .u8 66] rfl (by unfold maxLen; simp)
  have hb2 := below_new (Below.refl w1.heap.size w1) (.cells #[.int .u8 66] 5)
  have c0 : (w1.alloc (.cells #[.int .u8 66] 5)).cell? ⟨w.heap.size, 0, none⟩ = some (.int .u64 (v : Int)) := (hR.later hb2).cell rfl
  clear hL0 hB hre hoe hrg
  go_wp2_with fail
  refine (putG_at v L0 HV.out HL0 _).mono ?_
  rintro ee w3 ⟨A1, k1, rfl, hk1, hr1, hb3⟩
  have hown3 := ownsRow_later hown0 hb3
  have hB3 := below_step hb2 hb3
  have hsz3 := hB3.size
  clear hown0 hb2 hb3 c0
  have hnb := byte_one es.length (by omega)
  have HNB := Lib.hid hnb
  clear hnb
  go_wp2_with (first
    | (at_builtin; refine wpList_append_apart _ rfl (.tmp 13) (.tmp 16) 22 rfl w1.heap.size 5 i0 (.int .u8 0) 1 Tryz.underlying22 hi hz0 hz1 hz2 rfl _ _ _ rfl hown3 A1 L0 k1 (by rw [HN0.out]; rfl) hr1 vB_one (by rw [HN0.out]; unfold maxLen; omega) (by rw [HN0.out]; omega) (by omega) ?_; intro v4 w4 hown4 hgrow4 hat4; have hB4 := hB3.grown hgrow4 hsz3 (fun k hk => (hown3.lt k hk).1); have hc1 : w4.cell? ⟨w.heap.size, 1, none⟩ = some (.slice eA es.length ec) := (hR.later hB4).cell rfl)
    | (at_builtin; refine wpList_append_apart _ rfl (.tmp 18) (.tmp 23) 22 rfl w1.heap.size 5 i0 (.int .u8 0) 1 Tryz.underlying22 hi hz0 hz1 hz2 rfl _ _ _ rfl (ownsRow_later hown4 (below_new (Below.refl _ _) _)) (some ⟨w4.heap.size, 0, none⟩) [UInt8.ofNat es.length] 1 rfl (Rd.new w4 [UInt8.ofNat es.length] _ _ (by rw [List.map_cons, HNB.out]; rfl)) vB_one (by simp only [HN0.out, List.length_cons, List.length_nil]; unfold maxLen; omega) (by simp only [HN0.out, List.length_cons, List.length_nil]; omega) (by have := hB4.size; simp; omega) ?_; intro v5 w5 hown5 hgrow5 hat5; have hB5 := (below_new hB4 (.cells #[.int .u8 (es.length : Int)] 5)).grown hgrow5 (by have := hB4.size; simp; omega) (fun k hk => (hown4.lt k hk).1)); have hc2 : w5.cell? ⟨w.heap.size, 1, none⟩ = some (.slice eA es.length ec) := (hR.later hB5).cell rfl)
  have hstart : beB v (conE es) 0 = 66 :: (L0 ++ [UInt8.ofNat es.length]) := by unfold beB; rw [HL0Q.out, conE_length]; rfl
  have hown6 : w5.ownsRow w1.heap.size 5 1 v5 (beB v (conE es) 0).length ((beB v (conE es) 0).map vB) := by
    rw [hstart]
    simpa [HN0.out, Nat.add_comm] using hown5
  clear hown3 hown4 hgrow4 hat4 hgrow5 hat5 hc1 hc2 hB4 hB3 hsz3 hr1 hown5 hstart
  go_loopw [4, 28] (fun u i wr => ByB v es w1 u i wr) (fun _ i _ => es.length - (intOf i).toNat)
  case atStart => exact ⟨0, Nat.zero_le _, rfl, hown6, hB5⟩
  case round =>
    clear hown6 hB5
    obtain ⟨k, hk, rfl, hown, hbel⟩ := hrel
    have hRr := hR.later hbel
    by_cases hlt : k < es.length
    · obtain ⟨b, o, rfl, hb, hrng, _, _, _⟩ := (hre1.keep hbel).one hlt
      have hx := hoe1 _ (List.getElem_mem hlt)
      have hlc : k < (conE es).length := by rw [conE_length]; exact hlt
      have hfx := HFE.out _ (List.getElem_mem hlc)
      have hsx := HSH.out _ (List.getElem_mem hlc)
      rw [conE_get es k hlt] at hfx hsx
      obtain ⟨L1, hL1⟩ : ∃ L, putL es[k].t = L := ⟨_, rfl⟩
      obtain ⟨L2, hL2⟩ : ∃ L, putL es[k].e = L := ⟨_, rfl⟩
      have HN1 : Hid (L1.length = 8) := by unfold Hid; rw [← hL1]; rfl
      have HN2 : Hid (L2.length = 8) := by unfold Hid; rw [← hL2]; rfl
      have HNX := Lib.hid (fun (u : Value) (n1 : Nat) (wr : World) (h) hn hB => byB_next (v := v) (es := es) (w := w1) (wr := wr) (u := u) (k := k) (n1 := n1) (L1 := L1) (L2 := L2) (Y := []) hlt hL1 hL2 h hn hB)
      have hbl := beB_short v (conE es) k HSH.out
      rw [conE_length] at hbl
      have HL1 := Lib.hid hL1
      have HL2 := Lib.hid hL2
      clear hL1 hL2
      generalize es[k] = x at hrng hx hfx hsx HNX HL1 HL2
      obtain ⟨xt, xe, xA, xc, xs⟩ := x
      obtain ⟨hxc, hxr⟩ := hx
      have HXW : Hid (∀ W, Below w1.heap.size w1 W → Rd vB W xA xs) := fun W hW => hxr.keep hW
      unfold ED.con at hfx hsx
      unfold ED.cells ED.at2 vNG at hrng
      dsimp only at hrng hfx hsx HNX HL1 HL2 hxc hxr
      generalize beB v (conE es) k = Lk at hown HNX hbl
      have c1 : wr.cell? ⟨w.heap.size, 1, none⟩ = some (.slice (some ⟨b, o, none⟩) es.length ec) := hRr.cell rfl
      have i2 : (0 : Int) ≤ (k : Int) := by omega
      have i3 : (k : Int) < (es.length : Int) := by omega
      have hR0 : Row (wr.alloc (.cells #[.int .u64 0, .int .u64 0, .slice none 0 0] 106)) wr.heap.size 106 [.int .u64 0, .int .u64 0, .slice none 0 0] := Row.new wr _ _ _ rfl
      have HS1 := byte_one xs.length (by omega)
      generalize hxl : xs.length = xl at *
      have HXL := Lib.hid hxl
      clear hxl
      go_upto_region 9 with (first
        | (refine wpList_load_mid rfl 106 (.tmp 30) rfl b (o + k * 3) rfl [.int .u64 (xt : Int), .int .u64 (xe : Int), .slice xA xl xc] _ hrng Tryz.underlying106 rfl (by exact size_entry) ?_)
        | (refine wpList_store_row rfl 106 (.tmp 6) (.tmp 31) rfl wr.heap.size rfl [.int .u64 (xt : Int), .int .u64 (xe : Int), .slice xA xl xc] rfl _ _ hR0 (by exact size_entry) rfl (one_three _ _ _ rfl rfl rfl) ?_))
      have hR1 := hR0.setRow [.int .u64 (xt : Int), .int .u64 (xe : Int), .slice xA xl xc]
      have hbn : Below wr.heap.size wr ((wr.alloc (.cells #[.int .u64 0, .int .u64 0, .slice none 0 0] 106)).setRow wr.heap.size [.int .u64 (xt : Int), .int .u64 (xe : Int), .slice xA xl xc].toArray) := below_setRow (below_new (Below.refl _ _) _) (Nat.le_refl _) _
      generalize (wr.alloc (.cells #[.int .u64 0, .int .u64 0, .slice none 0 0] 106)).setRow wr.heap.size [.int .u64 (xt : Int), .int .u64 (xe : Int), .slice xA xl xc].toArray = wb at hR1 hbn ⊢
      have hap := own_apart hown
      replace hown := ownsRow_later hown hbn
      replace hbel := below_step hbel hbn
      have hg3 := hR1.lt
      have HBB := Lib.hid hbel
      clear hbn hR0 hrng c1 hxr hRr
      generalize wr.heap.size = gx at hR1 hap hg3 ⊢
      have c0 : wb.cell? ⟨gx, 0, none⟩ = some (.int .u64 (xt : Int)) := hR1.cell rfl
      go_wp2_with fail
      refine (putG_at xt L1 hfx.1 HL1 _).mono ?_
      rintro ee wc ⟨A4, c4, rfl, hc4, hr4, hb4⟩
      have hown4 := ownsRow_later hown hb4
      have hR4 := hR1.later hb4
      have hB4 := below_step HBB.out hb4
      have hsz4 := hB4.size
      have hg4 := hR4.lt
      clear hown hb4 c0 hR1
      go_wp2_with (at_builtin; refine wpList_append_apart _ rfl (.tmp 32) (.tmp 35) 22 rfl w1.heap.size 5 i0 (.int .u8 0) 1 Tryz.underlying22 hi hz0 hz1 hz2 rfl _ _ _ rfl hown4 A4 L1 c4 (by rw [HN1.out]; rfl) hr4 vB_one (by rw [HN1.out]; unfold maxLen; omega) (by rw [HN1.out]; omega) (by omega) ?_; intro u5 wd hown5 hgrow5 hat5; have hR5 := hR4.grown hgrow5 hap; have hap5 := apart_of hap hg4 hat5; have hB5 := hB4.grown hgrow5 hsz4 (fun k hk => (hown4.lt k hk).1); have c1' : wd.cell? ⟨gx, 1, none⟩ = some (.int .u64 (xe : Int)) := hR5.cell rfl)
      refine (putG_at xe L2 hfx.2 HL2 _).mono ?_
      rintro ee we ⟨A6, c6, rfl, hc6, hr6, hb6⟩
      have hown6 := ownsRow_later hown5 hb6
      have hR6 := hR5.later hb6
      have hB6 := below_step hB5 hb6
      have hsz6 := hB6.size
      have hg6 := hR6.lt
      have hg5 := hR5.lt
      have hap6 := hap5
      clear hown5 hb6 c1' hR5 hap
      go_wp2_with (first
        | (at_builtin; refine wpList_append_apart _ rfl (.tmp 37) (.tmp 40) 22 rfl w1.heap.size 5 i0 (.int .u8 0) 1 Tryz.underlying22 hi hz0 hz1 hz2 rfl _ _ _ rfl hown6 A6 L2 c6 (by rw [HN2.out]; rfl) hr6 vB_one (by rw [HN2.out, HN1.out]; unfold maxLen; omega) (by rw [HN2.out, HN1.out]; omega) (by omega) ?_; intro u7 wf hown7 hgrow7 hat7; have hR7 := hR6.grown hgrow7 hap6; have hap7 := apart_of hap6 hg6 hat7; have hB7 := hB6.grown hgrow7 hsz6 (fun k hk => (hown6.lt k hk).1); have c2' : wf.cell? ⟨gx, 2, none⟩ = some (.slice xA xl xc) := hR7.cell rfl; have hg7 := hR7.lt)
        | (at_builtin; refine wpList_append_apart _ rfl (.tmp 42) (.tmp 47) 22 rfl w1.heap.size 5 i0 (.int .u8 0) 1 Tryz.underlying22 hi hz0 hz1 hz2 rfl _ _ _ rfl (ownsRow_later hown7 (below_new (Below.refl _ _) _)) (some ⟨wf.heap.size, 0, none⟩) [UInt8.ofNat xl] 1 rfl (Rd.new wf [UInt8.ofNat xl] _ _ (by rw [List.map_cons, HS1]; rfl)) vB_one (by simp only [HN2.out, HN1.out, List.length_cons, List.length_nil]; unfold maxLen; omega) (by simp only [HN2.out, HN1.out, List.length_cons, List.length_nil]; omega) (by have := hB7.size; simp; omega) ?_; intro u8 wg hown8 hgrow8 hat8; have hR8 := (hR7.alloc (.cells #[.int .u8 (xl : Int)] 5)).grown hgrow8 hap7; have hB8 := (below_new hB7 (.cells #[.int .u8 (xl : Int)] 5)).grown hgrow8 (by have := hB7.size; simp; omega) (fun k hk => (hown7.lt k hk).1); have c3' : wg.cell? ⟨gx, 2, none⟩ = some (.slice xA xl xc) := hR8.cell rfl)
        | (at_builtin; refine wpList_append_apart _ rfl (.tmp 49) (.tmp 51) 22 rfl w1.heap.size 5 i0 (.int .u8 0) 1 Tryz.underlying22 hi hz0 hz1 hz2 rfl _ _ _ rfl hown8 xA xs xc (by rw [HXL.out]; rfl) (HXW.out _ hB8) vB_one (by simp only [HXL.out, HN2.out, HN1.out, List.length_cons, List.length_nil]; unfold maxLen; omega) (by simp only [HXL.out, HN2.out, HN1.out, List.length_cons, List.length_nil]; omega) (by have := hB8.size; omega) ?_; intro u9 wh hown9 hgrow9 hat9; have hB9 := hB8.grown hgrow9 hB8.size (fun k hk => (hown8.lt k hk).1)))
      go_roundw
      case rel => exact HNX.out _ _ _ hown9 (by simp only [List.length_cons, List.length_nil, HXL.out]) hB9
      case measure => simp [intOf]; omega
    · have hkl : k = es.length := by omega
      subst hkl
      have hbl := beB_short v (conE es) es.length HSH.out
      rw [conE_length] at hbl
      have hall := beB_all v (conE es) gs
      rw [conE_length] at hall
      have HALL := Lib.hid hall
      generalize beB v (conE es) es.length = Lk at hown hbl HALL
      have c1 : wr.cell? ⟨w.heap.size, 1, none⟩ = some (.slice eA es.length ec) := hRr.cell rfl
      have c2 : wr.cell? ⟨w.heap.size, 2, none⟩ = some (.slice gA m gc) := hRr.cell rfl
      have hme := HM.out
      subst hme
      have hrgw := hrg1.keep hbel
      have HBB := Lib.hid hbel
      have j1 : ¬ (es.length : Int) < (es.length : Int) := by omega
      clear hbel hall hk
      go_wp2_with fail
      refine (bytes15_any gs gs.length gc gA _ (Lib.hid rfl) hrgw HF (by omega)).mono ?_
      rw [HGB.out]
      rintro ee w9 ⟨v9, rfl, hown9, hb9⟩
      obtain ⟨A9, c9, rfl, hc9, hr9⟩ := own_slice hown9
      have hown10 := ownsRow_later hown hb9
      have HB9 := Lib.hid (below_step HBB.out hb9)
      have HBYL := Lib.hid (bytes_length gs)
      have hsz9 := HB9.out.size
      clear c1 c2 hb9 hown
      go_wp2_with (at_builtin; refine wpList_append_apart _ rfl (.tmp 60) (.tmp 61) 22 rfl w1.heap.size 5 i0 (.int .u8 0) 1 Tryz.underlying22 hi hz0 hz1 hz2 rfl _ _ _ rfl hown10 A9 (bytesG gs) c9 rfl hr9 vB_one (by rw [HBYL.out]; unfold maxLen; omega) (by rw [HBYL.out]; omega) hsz9 ?_; intro v10 w10 hown11 hgrow11 _; have hB10 := HB9.out.grown hgrow11 hsz9 (fun k hk => (hown10.lt k hk).1))
      rw [← List.map_append, ← List.length_append, HALL.out] at hown11
      obtain ⟨A11, c11, rfl, hc11, hr11⟩ := own_slice hown11
      go_ret2
      exact ⟨A11, _, c11, rfl, Lib.hid rfl, hc11, hr11, HB1.out.trans (hB10.mono HB1.out.size)⟩
end Go.Proofs.YteppocjgodmpdaaGreatDoor
namespace Go.Proofs.YteppocjgodmpdaaGreatDoor
theorem num8_bad {k : Int} (S : List UInt8) (h : k ≠ 0) : num8K k S = (0, k, []) := if_neg h
theorem num8_ok {S : List UInt8} (h : 8 ≤ S.length) : num8K 0 S = (numAt S 0, 0, S.drop 8) := by
  unfold num8K numAt
  rw [if_pos rfl, if_neg (by omega), List.drop_zero]
theorem num8_short {S : List UInt8} (h : S.length < 8) : num8K 0 S = (0, 2, []) := by
  unfold num8K
  rw [if_pos rfl, if_pos h]
theorem num8_lt (k : Int) (S : List UInt8) : (num8K k S).1 < 18446744073709551616 := by
  unfold num8K
  split
  · split
    · show 0 < _; decide
    · have h := valN_lt (S.take 8)
      have hl : (S.take 8).length ≤ 8 := by rw [List.length_take]; omega
      have h2 : (256 : Nat) ^ (S.take 8).length ≤ 256 ^ 8 := Nat.pow_le_pow_right (by decide) hl
      show valN (S.take 8) < _
      omega
  · show 0 < _; decide
theorem numAt_drop (b : List UInt8) (j k : Nat) : numAt (b.drop j) k = numAt b (j + k) := by
  unfold numAt
  rw [List.drop_drop]
theorem useAt_drop (b : List UInt8) (j k : Nat) : useAt (b.drop j) k = useAt b (j + k) := by
  unfold useAt
  rw [numAt_drop, numAt_drop, numAt_drop, Nat.add_assoc, Nat.add_assoc]
theorem usesAt_drop (b : List UInt8) (j : Nat) : ∀ (n k : Nat), usesAt (b.drop j) k n = usesAt b (j + k) n
  | 0, _ => rfl
  | n + 1, k => by
    unfold usesAt
    rw [useAt_drop, usesAt_drop b j n (k + 24), Nat.add_assoc]
def useK (k : Int) (S : List UInt8) : Us × Int × List UInt8 :=
  (((num8K k S).1, (num8K (num8K k S).2.1 (num8K k S).2.2).1, (num8K (num8K (num8K k S).2.1 (num8K k S).2.2).2.1 (num8K (num8K k S).2.1 (num8K k S).2.2).2.2).1),
    (num8K (num8K (num8K k S).2.1 (num8K k S).2.2).2.1 (num8K (num8K k S).2.1 (num8K k S).2.2).2.2).2.1, (num8K (num8K (num8K k S).2.1 (num8K k S).2.2).2.1 (num8K (num8K k S).2.1 (num8K k S).2.2).2.2).2.2)
theorem useK_at {k k1 k2 k3 : Int} {S S1 S2 S3 : List UInt8} {a b c : Nat} (h1 : num8K k S = (a, k1, S1)) (h2 : num8K k1 S1 = (b, k2, S2)) (h3 : num8K k2 S2 = (c, k3, S3)) : useK k S = ((a, b, c), k3, S3) := by
  unfold useK
  rw [h1, h2, h3]
theorem useK_fit (k : Int) (S : List UInt8) : fitU1 (useK k S).1 := ⟨num8_lt _ _, num8_lt _ _, num8_lt _ _⟩
theorem useK_bad {k : Int} (S : List UInt8) (h : k ≠ 0) : useK k S = ((0, 0, 0), k, []) := useK_at (num8_bad S h) (num8_bad [] h) (num8_bad [] h)
theorem useK_ok {S : List UInt8} (h : 24 ≤ S.length) : useK 0 S = (useAt S 0, 0, S.drop 24) := by
  have h1 := num8_ok (S := S) (by omega)
  have h2 := num8_ok (S := S.drop 8) (by rw [List.length_drop]; omega)
  have h3 := num8_ok (S := (S.drop 8).drop 8) (by rw [List.length_drop, List.length_drop]; omega)
  rw [useK_at h1 h2 h3]
  unfold useAt
  rw [numAt_drop, numAt_drop, numAt_drop, List.drop_drop, List.drop_drop]
theorem useK_short {S : List UInt8} (h : S.length < 24) : (useK 0 S).2.1 ≠ 0 := by
  by_cases c1 : S.length < 8
  · rw [useK_at (num8_short c1) (num8_bad [] (by decide)) (num8_bad [] (by decide))]
    show (2 : Int) ≠ 0
    decide
  · by_cases c2 : S.length < 16
    · rw [useK_at (num8_ok (S := S) (by omega)) (num8_short (S := S.drop 8) (by rw [List.length_drop]; omega)) (num8_bad [] (by decide))]
      show (2 : Int) ≠ 0
      decide
    · rw [useK_at (num8_ok (S := S) (by omega)) (num8_ok (S := S.drop 8) (by rw [List.length_drop]; omega)) (num8_short (S := (S.drop 8).drop 8) (by rw [List.length_drop, List.length_drop]; omega))]
      show (2 : Int) ≠ 0
      decide
def usesK : Nat → Int → List UInt8 → List Us × Int × List UInt8
  | 0, k, S => ([], k, S)
  | q + 1, k, S => ((useK k S).1 :: (usesK q (useK k S).2.1 (useK k S).2.2).1, (usesK q (useK k S).2.1 (useK k S).2.2).2)
theorem usesK_bad : ∀ (q : Nat) {k : Int} (S : List UInt8), k ≠ 0 → (usesK q k S).2.1 = k
  | 0, _, _, _ => rfl
  | q + 1, k, S, h => by
    unfold usesK
    rw [useK_bad S h]
    exact usesK_bad q [] h
theorem usesK_ok : ∀ (q : Nat) {S : List UInt8}, 24 * q ≤ S.length → usesK q 0 S = (usesAt S 0 q, 0, S.drop (24 * q))
  | 0, S, _ => by
    unfold usesK usesAt
    rw [Nat.mul_zero, List.drop_zero]
  | q + 1, S, h => by
    unfold usesK
    rw [useK_ok (by omega)]
    dsimp only
    rw [usesK_ok q (by rw [List.length_drop]; omega)]
    dsimp only
    rw [usesAt_drop, List.drop_drop]
    show _ = (useAt S 0 :: usesAt S (0 + 24) q, _)
    rw [show 24 + 24 * q = 24 * (q + 1) by omega]
theorem usesK_short : ∀ (q : Nat) {S : List UInt8}, S.length < 24 * q → (usesK q 0 S).2.1 ≠ 0
  | 0, S, h => by omega
  | q + 1, S, h => by
    by_cases c : S.length < 24
    · unfold usesK
      have h1 := useK_short c
      rw [show (usesK q (useK 0 S).2.1 (useK 0 S).2.2).2.1 = (useK 0 S).2.1 from usesK_bad q _ h1]
      exact h1
    · unfold usesK
      rw [useK_ok (by omega)]
      exact usesK_short q (by rw [List.length_drop]; omega)
theorem usesK_more {q j : Nat} {k kk : Int} {S T : List UInt8} {l : List Us} (hj : j < q) (h : usesK q k S = (l ++ (usesK (q - j) kk T).1, (usesK (q - j) kk T).2)) :
    usesK q k S = ((l ++ [(useK kk T).1]) ++ (usesK (q - (j + 1)) (useK kk T).2.1 (useK kk T).2.2).1, (usesK (q - (j + 1)) (useK kk T).2.1 (useK kk T).2.2).2) := by
  rw [h]
  obtain ⟨m, hm⟩ : ∃ m, q - j = m + 1 := ⟨q - j - 1, by omega⟩
  rw [hm, show q - (j + 1) = m by omega]
  show (l ++ (useK kk T).1 :: _, _) = _
  rw [List.append_assoc]
  rfl
def BunK (k : Int) (S : List UInt8) (kE : Int) (b : Bn) : Prop := (k ≠ 0 → kE = k) ∧ (k = 0 → (kE = 0 ∧ allB S = some b) ∨ (kE ≠ 0 ∧ allB S = none))
theorem oneK_bad {k : Int} (S : List UInt8) (h : k ≠ 0) : oneK k S = (0, k, []) := if_neg h
theorem oneK_cons (x : UInt8) (r : List UInt8) : oneK 0 (x :: r) = (x.toNat, 0, r) := rfl
theorem oneK_nil : oneK 0 [] = (0, 2, []) := rfl
theorem steps_mem {b S0 S1 S2 S3 S4 S5 S6 : List UInt8} {k0 k1 k2 k3 k4 k5 k6 k7 : Int} {n c rm fl q : Nat} {l : List Us} {x : Bn}
    (h0 : markK 77 b = (k0, S0)) (h1 : num8K k0 S0 = (n, k1, S1)) (h2 : num8K k1 S1 = (c, k2, S2)) (h3 : oneK k2 S2 = (rm, k3, S3)) (h4 : num8K k3 S3 = (fl, k4, S4)) (h5 : oneK k4 S4 = (q, k5, S5)) (h6 : usesK q k5 S5 = (l, k6, S6)) (h7 : BunK k6 S6 k7 x) :
    readMem b = if k7 = 0 then (if rightM ⟨c, x, ((rm : Int), fl, l)⟩ = true then some (n, ⟨c, x, ((rm : Int), fl, l)⟩) else none) else none := by
  have b7 : k6 ≠ 0 → k7 ≠ 0 := fun h => by rw [h7.1 h]; exact h
  have b6 : k5 ≠ 0 → k7 ≠ 0 := fun h => b7 (by have := usesK_bad q S5 h; rw [h6] at this; rw [show k6 = k5 from this]; exact h)
  have b5 : k4 ≠ 0 → k7 ≠ 0 := fun h => b6 (by rw [oneK_bad S4 h] at h5; injection h5 with _ e; injection e with e _; rw [← e]; exact h)
  have b4 : k3 ≠ 0 → k7 ≠ 0 := fun h => b5 (by rw [num8_bad S3 h] at h4; injection h4 with _ e; injection e with e _; rw [← e]; exact h)
  have b3 : k2 ≠ 0 → k7 ≠ 0 := fun h => b4 (by rw [oneK_bad S2 h] at h3; injection h3 with _ e; injection e with e _; rw [← e]; exact h)
  have b2 : k1 ≠ 0 → k7 ≠ 0 := fun h => b3 (by rw [num8_bad S1 h] at h2; injection h2 with _ e; injection e with e _; rw [← e]; exact h)
  have b1 : k0 ≠ 0 → k7 ≠ 0 := fun h => b2 (by rw [num8_bad S0 h] at h1; injection h1 with _ e; injection e with e _; rw [← e]; exact h)
  have bad : k7 ≠ 0 → readMem b = none → readMem b = if k7 = 0 then (if rightM ⟨c, x, ((rm : Int), fl, l)⟩ = true then some (n, ⟨c, x, ((rm : Int), fl, l)⟩) else none) else none := fun h e => by rw [if_neg h]; exact e
  have none1 : b.length < 27 ∨ b.getD 0 0 ≠ 77 → readMem b = none := fun h => by unfold readMem; rw [if_pos h]
  cases b with
  | nil => exact bad (b1 (by have : k0 = 2 := (congrArg Prod.fst h0).symm; rw [this]; decide)) (none1 (.inl (by show 0 < 27; decide)))
  | cons y r =>
    by_cases hy : y = 77
    · subst hy
      have e0 : 0 = k0 ∧ r = S0 := by
        have : markK 77 (77 :: r) = (0, r) := by simp [markK]
        rw [this] at h0
        injection h0 with e1 e2
        exact ⟨e1, e2⟩
      obtain ⟨e01, e02⟩ := e0
      subst e01 e02
      have hlen : ∀ j, (77 :: r : List UInt8).length < j + 1 ↔ r.length < j := fun j => by rw [List.length_cons]; omega
      by_cases c1 : r.length < 8
      · exact bad (b2 (by rw [num8_short c1] at h1; injection h1 with _ e; injection e with e _; rw [← e]; decide)) (none1 (.inl ((hlen 26).2 (by omega))))
      rw [num8_ok (by omega)] at h1
      injection h1 with en e; injection e with e1 eS1; subst en e1 eS1
      by_cases c2 : r.length < 16
      · exact bad (b3 (by rw [num8_short (by rw [List.length_drop]; omega)] at h2; injection h2 with _ e; injection e with e _; rw [← e]; decide)) (none1 (.inl ((hlen 26).2 (by omega))))
      rw [num8_ok (by rw [List.length_drop]; omega)] at h2
      injection h2 with en e; injection e with e1 eS1; subst en e1 eS1
      rw [List.drop_drop] at h3
      by_cases c3 : r.length < 17
      · have : r.drop (8 + 8) = [] := List.drop_eq_nil_of_le (by omega)
        rw [this, oneK_nil] at h3
        exact bad (b4 (by injection h3 with _ e; injection e with e _; rw [← e]; decide)) (none1 (.inl ((hlen 26).2 (by omega))))
      have d16 : r.drop (8 + 8) = r[16]'(by omega) :: r.drop 17 := List.drop_eq_getElem_cons (by omega)
      rw [d16, oneK_cons] at h3
      injection h3 with en e; injection e with e1 eS1; subst en e1 eS1
      by_cases c4 : r.length < 25
      · exact bad (b5 (by rw [num8_short (by rw [List.length_drop]; omega)] at h4; injection h4 with _ e; injection e with e _; rw [← e]; decide)) (none1 (.inl ((hlen 26).2 (by omega))))
      rw [num8_ok (by rw [List.length_drop]; omega)] at h4
      injection h4 with en e; injection e with e1 eS1; subst en e1 eS1
      rw [List.drop_drop] at h5
      by_cases c5 : r.length < 26
      · have : r.drop (17 + 8) = [] := List.drop_eq_nil_of_le (by omega)
        rw [this, oneK_nil] at h5
        exact bad (b6 (by injection h5 with _ e; injection e with e _; rw [← e]; decide)) (none1 (.inl ((hlen 26).2 (by omega))))
      have d25 : r.drop (17 + 8) = r[25]'(by omega) :: r.drop 26 := List.drop_eq_getElem_cons (by omega)
      rw [d25, oneK_cons] at h5
      injection h5 with en e; injection e with e1 eS1; subst en e1 eS1
      have g17 : (77 :: r : List UInt8).getD 17 0 = r[16]'(by omega) := by
        rw [List.getD_cons_succ, List.getD_eq_getElem?_getD, List.getElem?_eq_getElem (by omega)]; rfl
      have g26 : (77 :: r : List UInt8).getD 26 0 = r[25]'(by omega) := by
        rw [List.getD_cons_succ, List.getD_eq_getElem?_getD, List.getElem?_eq_getElem (by omega)]; rfl
      generalize hq : (r[25]'(by omega)).toNat = Q at h6
      have n27 : ¬ ((77 :: r : List UInt8).length < 27 ∨ (77 :: r : List UInt8).getD 0 0 ≠ 77) := by
        intro h
        rcases h with h | h
        · have := (hlen 26).1 h; omega
        · exact h rfl
      by_cases c6 : r.length < 26 + 24 * Q
      · have h8 : k6 ≠ 0 := by
          have := usesK_short Q (S := r.drop 26) (by rw [List.length_drop]; omega)
          rw [h6] at this
          exact this
        refine bad (b7 h8) ?_
        unfold readMem
        rw [if_neg n27, g26, hq, if_pos (by rw [List.length_cons]; omega)]
      rw [usesK_ok Q (by rw [List.length_drop]; omega)] at h6
      injection h6 with en e; injection e with e1 eS1; subst en e1 eS1
      have hR : readMem (77 :: r) = match allB (r.drop (26 + 24 * Q)) with
          | none => none
          | some x => if rightM (memAt (77 :: r) x) = true then some (numAt (77 :: r) 1, memAt (77 :: r) x) else none := by
        conv => lhs; unfold readMem
        rw [if_neg n27, g26, hq, if_neg (by rw [List.length_cons]; omega)]
        have : (77 :: r : List UInt8).drop (27 + 24 * Q) = r.drop (26 + 24 * Q) := by
          rw [show 27 + 24 * Q = (26 + 24 * Q) + 1 by omega, List.drop_succ_cons]
        rw [this]
        cases allB (r.drop (26 + 24 * Q)) <;> rfl
      have hM : memAt (77 :: r) x = ⟨numAt (r.drop 8) 0, x, (((r[16]'(by omega)).toNat : Int), numAt (r.drop 17) 0, usesAt (r.drop 26) 0 Q)⟩ := by
        unfold memAt
        rw [g17, g26, hq]
        have t : ∀ k, numAt (77 :: r) (k + 1) = numAt r k := fun k => rfl
        have t2 : ∀ (n k : Nat), usesAt (77 :: r) (k + 1) n = usesAt r k n := fun n k => by
          have := usesAt_drop (77 :: r) 1 n k
          rw [Nat.add_comm]
          exact this.symm
        rw [t 8, t 17, t2 Q 26, numAt_drop, numAt_drop, usesAt_drop]
      have hN : numAt (77 :: r) 1 = numAt r 0 := rfl
      rw [List.drop_drop] at h7
      rcases h7.2 rfl with ⟨e7, hall⟩ | ⟨e7, hall⟩
      · rw [hR, hall, if_pos e7]
        dsimp only
        rw [hM, hN]
      · rw [hR, hall, if_neg e7]
    · have e0 : markK 77 (y :: r) = (3, []) := by simp [markK, hy]
      rw [e0] at h0
      exact bad (b1 (by injection h0 with e _; rw [← e]; decide)) (none1 (.inr (by show y ≠ 77; exact hy)))
theorem steps_use {r S1 S2 S3 : List UInt8} {k1 k2 k3 : Int} {u : Us} {c f : Nat} (h1 : useK 0 r = (u, k1, S1)) (h2 : num8K k1 S1 = (c, k2, S2)) (h3 : num8K k2 S2 = (f, k3, S3)) :
    (r.length = 40 → endK k3 S3 = 0 ∧ u = useAt r 0 ∧ c = numAt r 24 ∧ f = numAt r 32) ∧ (r.length ≠ 40 → endK k3 S3 ≠ 0) := by
  by_cases c1 : r.length < 24
  · have hk := useK_short c1
    rw [h1] at hk
    have hk1 : k1 ≠ 0 := hk
    rw [num8_bad S1 hk1] at h2
    injection h2 with _ e; injection e with e1 e2; subst e1 e2
    rw [num8_bad [] hk1] at h3
    injection h3 with _ e; injection e with e1 e2; subst e1 e2
    refine ⟨fun h => by omega, fun _ => ?_⟩
    unfold endK
    rw [if_neg (fun h => hk1 h.1)]
    exact hk1
  · rw [useK_ok (by omega)] at h1
    injection h1 with e0 e; injection e with e1 e2; subst e0 e1 e2
    by_cases c2 : r.length < 32
    · rw [num8_short (by rw [List.length_drop]; omega)] at h2
      injection h2 with _ e; injection e with e1 e2; subst e1 e2
      rw [num8_bad [] (by decide)] at h3
      injection h3 with _ e; injection e with e1 e2; subst e1 e2
      exact ⟨fun h => by omega, fun _ => by decide⟩
    · rw [num8_ok (by rw [List.length_drop]; omega)] at h2
      injection h2 with e0 e; injection e with e1 e2; subst e0 e1 e2
      by_cases c3 : r.length < 40
      · rw [num8_short (by rw [List.length_drop, List.length_drop]; omega)] at h3
        injection h3 with _ e; injection e with e1 e2; subst e1 e2
        exact ⟨fun h => by omega, fun _ => by decide⟩
      · rw [num8_ok (by rw [List.length_drop, List.length_drop]; omega)] at h3
        injection h3 with e0 e; injection e with e1 e2; subst e0 e1 e2
        rw [numAt_drop, numAt_drop, List.drop_drop, List.drop_drop]
        refine ⟨fun h => ⟨?_, rfl, rfl, ?_⟩, fun h => ?_⟩
        · unfold endK
          rw [if_neg (fun hh => hh.2 (List.drop_eq_nil_of_le (by omega)))]
        · rw [numAt_drop]
        · unfold endK
          rw [if_pos ⟨rfl, fun hh => by have := congrArg List.length hh; rw [List.length_drop, List.length_nil] at this; omega⟩]
          decide
theorem goes_useK {m : MemK} {r : List UInt8} : goesM m (85 :: r) = if r.length = 40 then (if (takeM m (useAt r 0) (numAt r 24) (numAt r 32)).2 = 0 then some (takeM m (useAt r 0) (numAt r 24) (numAt r 32)).1 else none) else none := by
  have e : goesM m (85 :: r) = if (r.length + 1 = 41) then (if (takeM m (useAt (85 :: r) 1) (numAt (85 :: r) 25) (numAt (85 :: r) 33)).2 = 0 then some (takeM m (useAt (85 :: r) 1) (numAt (85 :: r) 25) (numAt (85 :: r) 33)).1 else none) else none := by
    unfold goesM
    have h0 : (85 :: r : List UInt8).getD 0 0 = 85 := rfl
    rw [h0, List.length_cons]
    by_cases h : r.length + 1 = 41
    · rw [if_pos ⟨rfl, h⟩, if_pos h]
    · rw [if_neg (fun hh => h hh.2), if_neg h, if_neg (by decide)]
  have hu : useAt (85 :: r) 1 = useAt r 0 := rfl
  have h25 : numAt (85 :: r) 25 = numAt r 24 := rfl
  have h33 : numAt (85 :: r) 33 = numAt r 32 := rfl
  rw [e, hu, h25, h33]
  by_cases h : r.length = 40
  · rw [if_pos h, if_pos (by omega)]
  · rw [if_neg h, if_neg (by omega)]
theorem goes_bunK {m : MemK} {r : List UInt8} : goesM m (78 :: r) = match allB r with
    | none => none
    | some x => if m.b.1 < x.1 then some { m with b := x } else none := by
  have h0 : (78 :: r : List UInt8).getD 0 0 = 78 := rfl
  have hd : (78 :: r : List UInt8).drop 1 = r := rfl
  unfold goesM
  rw [h0, if_neg (fun hh => by have := hh.1; cases this), if_pos rfl, hd]
  cases allB r <;> rfl
theorem goes_no {m : MemK} {b : List UInt8} (h1 : b.getD 0 0 ≠ 85) (h2 : b.getD 0 0 ≠ 78) : goesM m b = none := by
  unfold goesM
  rw [if_neg (fun hh => h1 hh.1), if_neg h2]
end Go.Proofs.YteppocjgodmpdaaGreatDoor
namespace Go.Proofs.YteppocjgodmpdaaGreatDoor
def sureAK (a : AK) : Prop := a.s = a.b.length
theorem cutAK_sure (a : AK) (ke : Int) : sureAK (cutAK a ke) := by
  unfold sureAK cutAK
  dsimp only
  rw [List.length_take, Nat.min_eq_left (cutN_le a ke)]
theorem cutAK_take (a : AK) (ke : Int) : ∃ j, (cutAK a ke).b = a.b.take j := ⟨_, rfl⟩
theorem cut_more {a : AK} (hs : sureAK a) (X : List UInt8) {ke : Int} (hk : 0 ≤ ke) : ∃ j, (cutAK ⟨a.b ++ X, a.s⟩ ke).b = a.b ++ X.take j := by
  unfold sureAK at hs
  refine ⟨cutN ⟨a.b ++ X, a.s⟩ ke - a.b.length, ?_⟩
  show (a.b ++ X).take (cutN ⟨a.b ++ X, a.s⟩ ke) = _
  have hge : a.b.length ≤ cutN ⟨a.b ++ X, a.s⟩ ke := by
    unfold cutN
    dsimp only
    rw [hs, List.length_append]
    omega
  rw [List.take_append, List.take_of_length_le hge]
theorem wipe_mk {k : Nat} (hk : k = 0 ∨ k = 1) {a o : AK} {fu ke : Int} (h : rightDK (mkD k a o fu ke false)) :
    wipeD (mkD k a o fu ke false) (1 - (k : Int)) = if fu = 0 then (mkD k (cutAK a ke) (cutAK o ke) (-1) ke true, 14) else (mkD k a ⟨[], 0⟩ (burn fu) ke false, 0) :=
  step_other hk h (fun _ => false) (fun _ a => a) (fun _ _ => ⟨[], 0⟩) rfl
theorem write_mk {k : Nat} (hk : k = 0 ∨ k = 1) {a o : AK} {fu ke : Int} (h : rightDK (mkD k a o fu ke false)) (b : List UInt8) (hl : o.b.length + b.length ≤ 1048576) :
    writeD (mkD k a o fu ke false) (1 - (k : Int)) b = if fu = 0 then (mkD k (cutAK a ke) (cutAK ⟨o.b ++ b.take ke.toNat, o.s⟩ ke) (-1) ke true, 14) else (mkD k a ⟨o.b ++ b, o.s⟩ (burn fu) ke false, 0) := by
  have := step_other hk h (fun j => decide (1048576 < (getA (mkD k a o fu ke false) j).b.length + b.length)) (fun _ y => ⟨y.b ++ b.take (mkD k a o fu ke false).keep.toNat, y.s⟩) (fun _ y => ⟨y.b ++ b, y.s⟩) (by
    rw [(mkD_get k hk _ _ _ _ _).2, decide_eq_false_iff_not]
    omega)
  rw [(mkD_down k a o fu ke false).2.2] at this
  unfold writeD
  rw [(mkD_down k a o fu ke false).2.2]
  exact this
theorem sync_mk {k : Nat} (hk : k = 0 ∨ k = 1) {a o : AK} {fu ke : Int} (h : rightDK (mkD k a o fu ke false)) :
    syncD (mkD k a o fu ke false) (1 - (k : Int)) = if fu = 0 then (mkD k (cutAK a ke) (cutAK o ke) (-1) ke true, 14) else (mkD k a ⟨o.b, (o.b.length : Int)⟩ (burn fu) ke false, 0) :=
  step_other hk h (fun _ => false) (fun _ a => a) (fun _ a => ⟨a.b, (a.b.length : Int)⟩) rfl
theorem write_this {k : Nat} (hk : k = 0 ∨ k = 1) {a o : AK} {fu ke : Int} (h : rightDK (mkD k a o fu ke false)) (b : List UInt8) (hl : a.b.length + b.length ≤ 1048576) :
    writeD (mkD k a o fu ke false) (k : Int) b = if fu = 0 then (mkD k (cutAK ⟨a.b ++ b.take ke.toNat, a.s⟩ ke) (cutAK o ke) (-1) ke true, 14) else (mkD k ⟨a.b ++ b, a.s⟩ o (burn fu) ke false, 0) := by
  have := step_this hk h (fun j => decide (1048576 < (getA (mkD k a o fu ke false) j).b.length + b.length)) (fun _ y => ⟨y.b ++ b.take (mkD k a o fu ke false).keep.toNat, y.s⟩) (fun _ y => ⟨y.b ++ b, y.s⟩) (by
    rw [(mkD_get k hk _ _ _ _ _).1, decide_eq_false_iff_not]
    omega)
  rw [(mkD_down k a o fu ke false).2.2] at this
  unfold writeD
  rw [(mkD_down k a o fu ke false).2.2]
  exact this
theorem sync_this {k : Nat} (hk : k = 0 ∨ k = 1) {a o : AK} {fu ke : Int} (h : rightDK (mkD k a o fu ke false)) :
    syncD (mkD k a o fu ke false) (k : Int) = if fu = 0 then (mkD k (cutAK a ke) (cutAK o ke) (-1) ke true, 14) else (mkD k ⟨a.b, (a.b.length : Int)⟩ o (burn fu) ke false, 0) :=
  step_this hk h (fun _ => false) (fun _ a => a) (fun _ a => ⟨a.b, (a.b.length : Int)⟩) rfl
theorem burn_off {x : Int} (h : x = -1) : burn x = -1 := by rw [h]; rfl
theorem ne14 : ¬ (14 : Int) = 0 := by decide
section
variable {f : List UInt8 → List UInt8} (h4 : ∀ b, (f b).length = 4)
include h4
theorem wipeSlip_out {k : Nat} (hk : k = 0 ∨ k = 1) {a o : AK} {fu ke : Int} (ha : rightAK a) (hs : sureAK a) (ho : rightAK o) (hfu : -1 ≤ fu) (hke : 0 ≤ ke) {t : List UInt8} (ht : t.length ≤ 60000) :
    (∃ fu', -1 ≤ fu' ∧ (fu = -1 → fu' = -1) ∧ wipeSlip f (mkD k a o fu ke false) (1 - (k : Int)) t = (mkD k a ⟨slipS f t, ((slipS f t).length : Int)⟩ fu' ke false, 0)) ∨
    (fu ≠ -1 ∧ ∃ o', rightAK o' ∧ sureAK o' ∧ ((∃ j, o'.b = o.b.take j) ∨ ∃ j, o'.b = (slipS f t).take j) ∧ wipeSlip f (mkD k a o fu ke false) (1 - (k : Int)) t = (mkD k a o' (-1) ke true, 14)) := by
  have hS : (slipS f t).length = 6 + t.length := slip_length h4 t
  have hca : cutAK a ke = a := cut_sure ha hs hke
  have e1 := wipe_mk hk ((mkD_right hk).2 ⟨ha, ho, hfu, hke⟩)
  by_cases f0 : fu = 0
  · rw [if_pos f0, hca] at e1
    refine .inr ⟨by omega, cutAK o ke, cutAK_right ho.2.2, cutAK_sure o ke, .inl (cutAK_take o ke), ?_⟩
    unfold wipeSlip
    rw [e1, if_neg ne14]
  · rw [if_neg f0] at e1
    have hb1 := burn_ge hfu
    have hro : rightAK ⟨[], 0⟩ := ⟨Int.le_refl _, Int.le_refl _, Nat.zero_le _⟩
    have e2 := write_mk hk ((mkD_right hk).2 ⟨ha, hro, hb1, hke⟩) (slipS f t) (by simp; omega)
    rw [List.nil_append, List.nil_append] at e2
    by_cases f1 : burn fu = 0
    · rw [if_pos f1, hca] at e2
      refine .inr ⟨fun h => by rw [burn_off h] at f1; exact absurd f1 (by decide), cutAK ⟨(slipS f t).take ke.toNat, 0⟩ ke, cutAK_right (by show ((slipS f t).take ke.toNat).length ≤ _; rw [List.length_take]; omega), cutAK_sure _ _, .inr ?_, ?_⟩
      · obtain ⟨j, hj⟩ := cutAK_take ⟨(slipS f t).take ke.toNat, 0⟩ ke
        rw [hj]
        exact ⟨min j ke.toNat, List.take_take ..⟩
      · unfold wipeSlip
        rw [e1, if_pos rfl]
        unfold slipD
        rw [e2, if_pos ne14]
    · rw [if_neg f1] at e2
      have hb2 := burn_ge hb1
      have hro2 : rightAK ⟨slipS f t, 0⟩ := ⟨Int.le_refl _, by show (0 : Int) ≤ ((slipS f t).length : Int); omega, by show (slipS f t).length ≤ _; omega⟩
      have e3 := sync_mk hk ((mkD_right hk).2 ⟨ha, hro2, hb2, hke⟩)
      by_cases f2 : burn (burn fu) = 0
      · rw [if_pos f2, hca] at e3
        refine .inr ⟨fun h => by rw [burn_off (burn_off h)] at f2; exact absurd f2 (by decide), cutAK ⟨slipS f t, 0⟩ ke, cutAK_right hro2.2.2, cutAK_sure _ _, .inr (cutAK_take ⟨slipS f t, 0⟩ ke), ?_⟩
        unfold wipeSlip
        rw [e1, if_pos rfl]
        unfold slipD
        rw [e2, if_neg (not_not_intro rfl)]
        exact e3
      · rw [if_neg f2] at e3
        refine .inl ⟨burn (burn (burn fu)), burn_ge hb2, fun h => burn_off (burn_off (burn_off h)), ?_⟩
        unfold wipeSlip
        rw [e1, if_pos rfl]
        unfold slipD
        rw [e2, if_neg (not_not_intro rfl)]
        exact e3
omit h4 in
theorem slip_out {k : Nat} (hk : k = 0 ∨ k = 1) {a o : AK} {fu ke : Int} (ha : rightAK a) (hs : sureAK a) (ho : rightAK o) (hfu : -1 ≤ fu) (hke : 0 ≤ ke) {t : List UInt8} (hl : a.b.length + (slipS f t).length ≤ 1048576) :
    (∃ fu', -1 ≤ fu' ∧ (fu = -1 → fu' = -1) ∧ slipD f (mkD k a o fu ke false) (k : Int) t = (mkD k ⟨a.b ++ slipS f t, ((a.b ++ slipS f t).length : Int)⟩ o fu' ke false, 0)) ∨
    (fu ≠ -1 ∧ ∃ a', rightAK a' ∧ sureAK a' ∧ (∃ j, a'.b = a.b ++ (slipS f t).take j) ∧ slipD f (mkD k a o fu ke false) (k : Int) t = (mkD k a' (cutAK o ke) (-1) ke true, 14)) := by
  have e2 := write_this hk ((mkD_right hk).2 ⟨ha, ho, hfu, hke⟩) (slipS f t) hl
  by_cases f1 : fu = 0
  · rw [if_pos f1] at e2
    refine .inr ⟨by omega, cutAK ⟨a.b ++ (slipS f t).take ke.toNat, a.s⟩ ke, cutAK_right (by show (a.b ++ (slipS f t).take ke.toNat).length ≤ _; rw [List.length_append, List.length_take]; omega), cutAK_sure _ _, ?_, by unfold slipD; rw [e2, if_pos ne14]⟩
    obtain ⟨j, hj⟩ := cut_more hs ((slipS f t).take ke.toNat) hke
    rw [hj]
    exact ⟨min j ke.toNat, by rw [List.take_take]⟩
  · rw [if_neg f1] at e2
    have hb2 := burn_ge hfu
    have hra : rightAK ⟨a.b ++ slipS f t, a.s⟩ := ⟨ha.1, by show a.s ≤ ((a.b ++ slipS f t).length : Int); rw [List.length_append]; have := ha.2.1; omega, by show (a.b ++ slipS f t).length ≤ _; rw [List.length_append]; exact hl⟩
    have e3 := sync_this hk ((mkD_right hk).2 ⟨hra, ho, hb2, hke⟩)
    by_cases f2 : burn fu = 0
    · rw [if_pos f2] at e3
      refine .inr ⟨fun h => by rw [burn_off h] at f2; exact absurd f2 (by decide), cutAK ⟨a.b ++ slipS f t, a.s⟩ ke, cutAK_right hra.2.2, cutAK_sure _ _, cut_more hs (slipS f t) hke, ?_⟩
      unfold slipD
      rw [e2, if_neg (not_not_intro rfl)]
      exact e3
    · rw [if_neg f2] at e3
      refine .inl ⟨burn (burn fu), burn_ge hb2, fun h => burn_off (burn_off h), ?_⟩
      unfold slipD
      rw [e2, if_neg (not_not_intro rfl)]
      exact e3
end
def Beats (k n : Nat) (x : Option (Nat × MemK × Nat)) : Prop := ∀ y, x = some y → if k = 0 then y.1 ≤ n else y.1 < n
theorem has_mk {f : List UInt8 → List UInt8} {k : Nat} (hk : k = 0 ∨ k = 1) {a o : AK} {fu ke : Int} {dn : Bool} {x : Nat × MemK × Nat} : hasK f (mkD k a o fu ke dn) = some (k, x) ↔ areaK f a.b = some x ∧ Beats k x.1 (areaK f o.b) := by
  rcases hk with rfl | rfl
  · unfold mkD hasK Beats
    simp only [if_true]
    cases ha : areaK f a.b with
    | none =>
      cases ho : areaK f o.b with
      | none => simp
      | some y => simp
    | some z =>
      cases ho : areaK f o.b with
      | none =>
        simp
      | some y =>
        by_cases h : y.1 ≤ z.1
        · simp only [h, if_true]
          constructor
          · intro e
            injection e with e
            injection e with _ e
            subst e
            exact ⟨rfl, fun v hv => by injection hv with hv; subst hv; exact h⟩
          · rintro ⟨e, _⟩
            injection e with e
            rw [e]
        · simp only [h, if_false]
          constructor
          · intro e
            injection e with e
            injection e with e _
            exact absurd e (by decide)
          · rintro ⟨e, hb⟩
            injection e with e
            subst e
            exact absurd (hb y rfl) h
  · unfold mkD hasK Beats
    simp only [Nat.one_ne_zero, if_false]
    cases ha : areaK f a.b with
    | none =>
      cases ho : areaK f o.b with
      | none => simp
      | some y => simp
    | some z =>
      cases ho : areaK f o.b with
      | none =>
        simp
      | some y =>
        by_cases h : z.1 ≤ y.1
        · simp only [h, if_true]
          constructor
          · intro e
            injection e with e
            injection e with e _
            exact absurd e (by decide)
          · rintro ⟨e, hb⟩
            injection e with e
            subst e
            have := hb y rfl
            omega
        · simp only [h, if_false]
          constructor
          · intro e
            injection e with e
            injection e with _ e
            subst e
            exact ⟨rfl, fun v hv => by injection hv with hv; subst hv; omega⟩
          · rintro ⟨e, _⟩
            injection e with e
            rw [e]
end Go.Proofs.YteppocjgodmpdaaGreatDoor
namespace Go.Proofs.YteppocjgodmpdaaGreatDoor
theorem flatE_le : ∀ {es : List En}, (∀ x ∈ es, seedOK x) → (flatE es).length ≤ 49 * es.length
  | [], _ => Nat.le_refl _
  | x :: es, h => by
    have ih := flatE_le (es := es) (fun y hy => h y (List.mem_cons_of_mem _ hy))
    have hx := h x (List.mem_cons_self ..)
    rw [flatE_cons, List.length_append, oneE_length, List.length_cons]
    have := hx.2
    omega
theorem bunBytes_le {x : Bn} (h : rightB x.2.1 x.2.2 = true) : (bunBytes x).length ≤ 4171 := by
  obtain ⟨h1, h2, h3⟩ := right_b.1 h
  have hg := (right_parts.1 h2).2
  have he := flatE_le (okE_all h3)
  unfold bunBytes
  rw [bytesB_length, bytes_length]
  omega
theorem memRec_le (n : Nat) {m : MemK} (h : rightM m = true) : (memRec n m).length ≤ 5734 := by
  obtain ⟨hb, hc⟩ := rightM_parts.1 h
  have h1 := bunBytes_le hb
  obtain ⟨⟨h2, h3⟩, h4, _, _⟩ := right_c.1 hc
  have e : (memRec n m).length = 27 + (usesL m.c.2.2).length + (bunBytes m.b).length := by
    unfold memRec
    simp only [List.length_cons, List.length_append, putL_n8]
    omega
  rw [e, usesL_length]
  omega
theorem good_take {f : List UInt8 → List UInt8} {b : List UInt8} (j : Nat) (h : goodS f (b.take j) = true) : goodS f b = true ∧ textS (b.take j) = textS b := by
  obtain ⟨h1, h2, h3, h5⟩ := good_parts h
  rw [List.length_take] at h1 h3
  have hc : cntS (b.take j) = cntS b := by
    unfold cntS
    have g0 : (b.take j).getD 0 0 = b.getD 0 0 := by
      rw [List.getD_eq_getElem?_getD, List.getD_eq_getElem?_getD, List.getElem?_take, if_pos (by omega)]
    have g1 : (b.take j).getD 1 0 = b.getD 1 0 := by
      rw [List.getD_eq_getElem?_getD, List.getD_eq_getElem?_getD, List.getElem?_take, if_pos (by omega)]
    rw [g0, g1]
  rw [hc] at h2 h3 h5
  have ht : textS (b.take j) = textS b := by
    unfold textS
    rw [hc, List.drop_take, List.take_take]
    congr 1
    omega
  refine ⟨?_, ht⟩
  rw [ht, List.take_take, Nat.min_eq_left (by omega)] at h5
  unfold goodS
  rw [Bool.and_eq_true, Bool.and_eq_true, Bool.and_eq_true, decide_eq_true_iff, decide_eq_true_iff, decide_eq_true_iff, decide_eq_true_iff]
  exact ⟨by omega, h2, by omega, h5⟩
section
variable {f : List UInt8 → List UInt8} (h4 : ∀ b, (f b).length = 4)
include h4
omit h4 in
theorem area_part {b : List UInt8} (j : Nat) {y : Nat × MemK × Nat} (h : areaK f (b.take j) = some y) : ∃ z, areaK f b = some z ∧ z.1 = y.1 := by
  cases hg : goodS f (b.take j) with
  | false =>
    unfold areaK at h
    rw [rowS_bad hg] at h
    cases h
  | true =>
    obtain ⟨h1, h2⟩ := good_take j hg
    unfold areaK at h ⊢
    rw [rowS_good hg] at h
    rw [rowS_good h1]
    dsimp only at h ⊢
    rw [h2] at h
    cases hr : readMem (textS b) with
    | none => rw [hr] at h; cases h
    | some x =>
      rw [hr] at h
      dsimp only at h ⊢
      injection h with h
      subst h
      exact ⟨_, rfl, rfl⟩
omit h4 in
theorem beats_part {k n : Nat} {b : List UInt8} (j : Nat) (h : Beats k n (areaK f b)) : Beats k n (areaK f (b.take j)) := fun y hy => by
  obtain ⟨z, hz, e⟩ := area_part j hy
  have := h z hz
  rw [e] at this
  exact this
theorem area_begin {t : List UInt8} (ht : t.length ≤ 60000) (j : Nat) : areaK f ((slipS f t).take j) = none ∨ (slipS f t).take j = slipS f t := by
  by_cases hj : j < (slipS f t).length
  · exact .inl (area_none h4 ht j hj)
  · exact .inr (List.take_of_length_le (by omega))
structure HasA (f : List UInt8 → List UInt8) (k : Nat) (a o : AK) (n : Nat) (m : MemK) (z : Nat) : Prop where
  kk : k = 0 ∨ k = 1
  ra : rightAK a
  ro : rightAK o
  sure : sureAK a
  has : areaK f a.b = some (n, m, z)
  beats : Beats k n (areaK f o.b)
omit h4 in
theorem HasA.disk {k : Nat} {a o : AK} {n z : Nat} {m : MemK} (h : HasA f k a o n m z) (fu ke : Int) (dn : Bool) : hasK f (mkD k a o fu ke dn) = some (k, n, m, z) := (has_mk h.kk).2 ⟨h.has, h.beats⟩
omit h4 in
theorem HasA.right {k : Nat} {a o : AK} {n : Nat} {m : MemK} (h : HasA f k a o n m a.b.length) {fu ke : Int} (hfu : -1 ≤ fu) (hke : 0 ≤ ke) (hn : n ≤ 4611686018427387904) : rightSh f ⟨mkD k a o fu ke false, (k : Int), n, m⟩ := by
  have hg := (mkD_get k h.kk a o fu ke false).1
  refine ⟨(mkD_right h.kk).2 ⟨h.ra, h.ro, hfu, hke⟩, (mkD_down k a o fu ke false).1, ?_, hn, ?_, ?_⟩
  · rcases h.kk with e | e <;> rw [e]
    · exact .inl rfl
    · exact .inr rfl
  · show hasK f (mkD k a o fu ke false) = some (((k : Int)).toNat, n, m, (getA (mkD k a o fu ke false) ((k : Int)).toNat).b.length)
    rw [Int.toNat_natCast, hg]
    exact h.disk fu ke false
  · show (getA (mkD k a o fu ke false) ((k : Int)).toNat).s = _
    rw [Int.toNat_natCast, hg]
    exact h.sure
omit h4 in
theorem HasA.of {s : ShK} (h : rightSh f s) : ∃ k a o, s.d = mkD k a o s.d.fuse s.d.keep false ∧ s.turn = (k : Int) ∧ HasA f k a o s.num s.m a.b.length ∧ -1 ≤ s.d.fuse ∧ 0 ≤ s.d.keep ∧ s.num ≤ 4611686018427387904 := by
  obtain ⟨h1, h2, h3, h5, h6, h7⟩ := h
  have hk : s.turn.toNat = 0 ∨ s.turn.toNat = 1 := by omega
  have hd := mkD_of s.d s.turn.toNat hk
  rw [h2] at hd
  have h1' := h1
  rw [hd] at h1' h6
  obtain ⟨r1, r2, r3, r4⟩ := (mkD_right hk).1 h1'
  rw [(mkD_get _ hk _ _ _ _ _).1] at h6
  obtain ⟨g1, g2⟩ := (has_mk hk).1 h6
  exact ⟨s.turn.toNat, getA s.d s.turn.toNat, getA s.d (1 - s.turn.toNat), hd, by omega, ⟨hk, r1, r2, h7, g1, g2⟩, r3, r4, h5⟩
theorem anew_out {k : Nat} {a o : AK} {n z : Nat} {m m' : MemK} (h : HasA f k a o n m z) {fu ke : Int} (hfu : -1 ≤ fu) (hke : 0 ≤ ke) (hn : n < 4611686018427387904) (hr : rightM m' = true) (hf : fitM m') :
    (∃ fu' o' , -1 ≤ fu' ∧ (fu = -1 → fu' = -1) ∧ HasA f (1 - k) o' a (n + 1) m' o'.b.length ∧ anewK f ⟨mkD k a o fu ke false, (k : Int), n, m'⟩ = (⟨mkD (1 - k) o' a fu' ke false, ((1 - k : Nat) : Int), n + 1, m'⟩, 0)) ∨
    (fu ≠ -1 ∧ ∃ o', (HasA f k a o' n m z ∨ HasA f (1 - k) o' a (n + 1) m' o'.b.length) ∧ anewK f ⟨mkD k a o fu ke false, (k : Int), n, m'⟩ = (onlyD (mkD k a o' (-1) ke true), 14)) := by
  have ht : (memRec (n + 1) m').length ≤ 60000 := by have := memRec_le (n + 1) hr; omega
  have hrd : readMem (memRec (n + 1) m') = some (n + 1, m') := read_mem hr hf (by omega)
  have hnew : areaK f (slipS f (memRec (n + 1) m')) = some (n + 1, m', (slipS f (memRec (n + 1) m')).length) := area_new h4 ht hrd
  have hS : (slipS f (memRec (n + 1) m')).length ≤ 1048576 := by have := slip_length h4 (memRec (n + 1) m'); omega
  have hk1 : 1 - k = 0 ∨ 1 - k = 1 := by rcases h.kk with e | e <;> omega
  have hb : Beats (1 - k) (n + 1) (areaK f a.b) := fun y hy => by
    rw [h.has] at hy
    injection hy with hy
    subst hy
    split
    · show n ≤ n + 1
      omega
    · show n < n + 1
      omega
  have hfull : ∀ {o' : AK}, rightAK o' → sureAK o' → o'.b = slipS f (memRec (n + 1) m') → HasA f (1 - k) o' a (n + 1) m' o'.b.length := fun h1 h2 h3 => ⟨hk1, h1, h.ra, h2, by rw [h3]; exact hnew, hb⟩
  have hcast : (1 : Int) - (k : Int) = ((1 - k : Nat) : Int) := by rcases h.kk with e | e <;> rw [e] <;> rfl
  have hsw : ∀ (o' : AK) (fu' : Int), mkD k a o' fu' ke false = mkD (1 - k) o' a fu' ke false := fun o' fu' => by rcases h.kk with e | e <;> rw [e] <;> rfl
  rcases wipeSlip_out h4 h.kk h.ra h.sure h.ro hfu hke ht with ⟨fu', h1, h2, e⟩ | ⟨h1, o', h2, h3, h5, e⟩
  · refine .inl ⟨fu', ⟨slipS f (memRec (n + 1) m'), ((slipS f (memRec (n + 1) m')).length : Int)⟩, h1, h2, hfull ⟨Int.natCast_nonneg _, Int.le_refl _, hS⟩ rfl rfl, ?_⟩
    unfold anewK
    dsimp only
    rw [if_neg (by omega), e, if_neg (not_not_intro rfl), hsw, hcast]
  · refine .inr ⟨h1, o', ?_, ?_⟩
    · rcases h5 with ⟨j, hj⟩ | ⟨j, hj⟩
      · exact .inl ⟨h.kk, h.ra, h2, h.sure, h.has, by rw [hj]; exact beats_part j h.beats⟩
      · rcases area_begin h4 ht j with h6 | h6
        · exact .inl ⟨h.kk, h.ra, h2, h.sure, h.has, by rw [hj, h6]; exact fun y hy => by cases hy⟩
        · exact .inr (hfull h2 h3 (hj.trans h6))
    · unfold anewK
      dsimp only
      rw [if_neg (by omega), e, if_pos ne14]
theorem open_out {k : Nat} {a o : AK} {n z : Nat} {m : MemK} (h : HasA f k a o n m z) {fu ke : Int} (hfu : -1 ≤ fu) (hke : 0 ≤ ke) (hn : n < 4611686018427387904) (hf : fitM m) {room : Int} (hr : 0 ≤ room ∧ room ≤ 64) :
    (∃ fu' o', -1 ≤ fu' ∧ (fu = -1 → fu' = -1) ∧ HasA f (1 - k) o' a (n + 1) m o'.b.length ∧ openK f (mkD k a o fu ke false) room = (⟨mkD (1 - k) o' a fu' ke false, ((1 - k : Nat) : Int), n + 1, m⟩, 0)) ∨
    (fu ≠ -1 ∧ ∃ o', (HasA f k a o' n m z ∨ HasA f (1 - k) o' a (n + 1) m o'.b.length) ∧ openK f (mkD k a o fu ke false) room = (onlyD (mkD k a o' (-1) ke true), 14)) := by
  have hfr : fromK f (mkD k a o fu ke false) room = ⟨mkD k a o fu ke false, (k : Int), n, m⟩ := by
    unfold fromK
    rw [h.disk fu ke false]
  have hnd : ¬ ((mkD k a o fu ke false).down = true) := by rw [(mkD_down k a o fu ke false).1]; decide
  have hrt : rightDK (mkD k a o fu ke false) := (mkD_right h.kk).2 ⟨h.ra, h.ro, hfu, hke⟩
  rcases anew_out h4 h hfu hke hn (area_right h.has) hf with ⟨fu', o', h1, h2, h3, e⟩ | ⟨h1, o', h2, e⟩
  · refine .inl ⟨fu', o', h1, h2, h3, ?_⟩
    unfold openK
    rw [if_neg (not_not_intro ⟨hrt, hr⟩), if_neg hnd, hfr, e, if_neg (not_not_intro rfl)]
  · refine .inr ⟨h1, o', h2, ?_⟩
    unfold openK
    rw [if_neg (not_not_intro ⟨hrt, hr⟩), if_neg hnd, hfr, e, if_pos ne14]
    rfl
omit h4 in
theorem HasA.rise {k' : Nat} {a o : AK} {n z : Nat} {m : MemK} {ke : Int} (h : HasA f k' a o n m z) (hke : 0 ≤ ke) : riseD (mkD k' a o (-1) ke true) = (mkD k' a o (-1) ke false, 0) := rise_mk h.kk h.ra h.ro hke
end
end Go.Proofs.YteppocjgodmpdaaGreatDoor
namespace Go.Proofs.YteppocjgodmpdaaGreatDoor
open Go.RowKit
theorem rightmem_any (x : WM) (m : MemK) (w : World) (h : InM w x m) : Calls Tryz.prog 18 #[aggM x m] w fun e w' => e = .returned (.bool (rightM m)) ∧ Below w.heap.size w w' := by
  obtain ⟨hR, hB⟩ := box_of w 37 (lM x m) _ rfl
  have hrb := fun W (hb : Below w.heap.size w W) => rightB_any m.b.1 x.b.es m.b.2.2 x.b.n x.b.ec x.b.g x.b.gc x.b.eA x.b.gA W h.ib.ne h.ib.ng (h.ib.re.keep hb) (h.ib.rg.keep hb) h.ib.fit.2.2 (by have := h.ib.ln; omega) (by have := h.ib.lg; omega) (fun e he => by have := h.ib.ls e he; omega)
  have hrc := fun W (hb : Below w.heap.size w W) => right19_any m.c.1 m.c.2.1 m.c.2.2 x.c.s x.c.c x.c.A W h.ic.ns (h.ic.ru.keep hb) h.ic.fit.2 (by have := h.ic.ls; omega)
  rw [h.ib.con] at hrb
  have hM : rightM m = (rightB m.b.2.1 m.b.2.2 && rightC (m.c.1, m.c.2.1, m.c.2.2)) := rfl
  rw [hM]
  generalize rightB m.b.2.1 m.b.2.2 = R at hrb ⊢
  generalize rightC (m.c.1, m.c.2.1, m.c.2.2) = Q at hrc ⊢
  unfold aggB at hrb
  unfold aggC at hrc
  have HRB := Lib.hid hrb
  have HRC := Lib.hid hrc
  clear hrb hrc hM h
  unfold aggM
  go_enter Tryz.func18, Tryz.ntmps18
  go_upto_region 1 with fail
  generalize (w.alloc (.cells (lM x m).toArray 37)) = w1 at hR hB ⊢
  go_wp2_with (refine wpList_load_part rfl 32 (.tmp 3) rfl (w.heap.size) 1 rfl _ _ (hR) ((lB x.b m.b)) (by rfl) _ Tryz.underlying32 rfl (by exact size_bundle) ?_)
  refine (HRB.out _ hB).mono ?_
  rintro e w2 ⟨rfl, hb⟩
  replace hR := hR.later hb
  replace hB := below_step hB hb
  clear hb
  cases R with
  | false =>
    go_wp2_with fail
    go_ret
    exact ⟨rfl, hB⟩
  | true =>
    have k4 := hR.cell (i := 4) rfl
    have k5 := hR.cell (i := 5) rfl
    have k6 := hR.cell (i := 6) rfl
    go_wp2_with fail
    refine (HRC.out _ hB).mono ?_
    rintro e w3 ⟨rfl, hb⟩
    replace hB := below_step hB hb
    go_wp2_with fail
    go_ret
    exact ⟨rfl, hB⟩
def numsL (vs : List Nat) : List UInt8 := vs.flatMap putL
theorem numsL_length : ∀ vs : List Nat, (numsL vs).length = 8 * vs.length
  | [] => rfl
  | v :: vs => by
    have ih := numsL_length vs
    unfold numsL at *
    rw [List.flatMap_cons, List.length_append, ih, putL_n8, List.length_cons]
    omega
theorem numsL_snoc (vs : List Nat) (v : Nat) : numsL (vs ++ [v]) = numsL vs ++ putL v := by unfold numsL; rw [List.flatMap_append]; simp
def RetB8 (w : World) (L : List UInt8) (n : Nat) (e : Ending) (w' : World) : Prop := ∃ v, e = .returned v ∧ w'.ownsRow w.heap.size 5 1 v n (L.map vB) ∧ Below w.heap.size w w'
def NumsI (vs : List Nat) (w : World) (u i : Value) (wr : World) : Prop := ∃ k : Nat, i = .int .i64 (k : Int) ∧ k ≤ vs.length ∧ wr.ownsRow w.heap.size 5 1 u (8 * k) ((numsL (vs.take k)).map vB) ∧ Below w.heap.size w wr
set_option maxHeartbeats 1000000 in
theorem numbers_any (vs : List Nat) (n : Nat) (A : Option Addr) (c : Nat) (w : World) (HN : Hid (vs.length = n)) (hr : Rd vNG w A vs) (hv : Hid (∀ v ∈ vs, v < 18446744073709551616)) (hn : n ≤ 1000000) :
    Calls Tryz.prog 95 #[.slice A n c] w (RetB8 w (numsL vs) (8 * n)) := by
  obtain ⟨i0, hi, hz0, hz1, hz2⟩ := info_parts info_u8
  have e1 := HN.out
  subst e1
  clear HN
  go_enter Tryz.func95, Tryz.ntmps95
  go_upto_region 3 with fail
  go_loopw [3, 8] (fun u i wr => NumsI vs w u i wr) (fun _ i _ => vs.length - (intOf i).toNat)
  case atStart => exact ⟨0, rfl, Nat.zero_le _, World.ownsRow_nil _ _ _ _, Below.refl _ _⟩
  case round =>
    obtain ⟨k, rfl, hk, hown, hB⟩ := hrel
    by_cases hlt : k < vs.length
    · obtain ⟨b, o, rfl, hb, hc⟩ := (hr.keep hB).at hlt
      have hck := hc k hlt
      have hvk := hv.out _ (List.getElem_mem hlt)
      obtain ⟨L, hL⟩ : ∃ L, putL vs[k] = L := ⟨_, rfl⟩
      have HL := Lib.hid hL
      have HN8 : Hid (L.length = 8) := by unfold Hid; rw [← hL]; rfl
      have HTK : Hid (numsL (vs.take (k + 1)) = numsL (vs.take k) ++ L) := by
        unfold Hid
        rw [List.take_succ_eq_append_getElem hlt, numsL_snoc, hL]
      clear hL hc
      generalize vs[k] = v at hck hvk HL
      unfold vNG at hck
      generalize numsL (vs.take k) = Lk at hown HTK
      have i2 : (0 : Int) ≤ (k : Int) := by omega
      have i3 : (k : Int) < (vs.length : Int) := by omega
      go_wp2_with fail
      refine (putG_at v L hvk HL _).mono ?_
      rintro e w2 ⟨A2, c2, rfl, hc2, hr2, hb2⟩
      replace hown := ownsRow_later hown hb2
      replace hB := below_step hB hb2
      have hsz := hB.size
      clear hb2 hck
      go_wp2_with (at_builtin; refine wpList_append_apart _ rfl (.tmp 12) (.tmp 14) 22 rfl w.heap.size 5 i0 (.int .u8 0) 1 Tryz.underlying22 hi hz0 hz1 hz2 rfl _ _ _ rfl hown A2 L c2 (by rw [HN8.out]; rfl) hr2 vB_one (by rw [HN8.out]; unfold maxLen; omega) (by rw [HN8.out]; omega) hsz ?_; intro v3 w3 hown3 hgrow3 hat3)
      have hB3 := hB.grown hgrow3 hsz (fun j hj => (hown.lt j hj).1)
      rw [← List.map_append, ← HTK.out, HN8.out] at hown3
      clear hown hB hgrow3 hat3
      go_roundw
      case rel => exact ⟨k + 1, rfl, by omega, by rw [Nat.mul_add]; exact hown3, hB3⟩
      case measure => simp [intOf]; omega
    · have hkk : k = vs.length := by omega
      subst hkk
      rw [List.take_length] at hown
      have j1 : ¬ (vs.length : Int) < (vs.length : Int) := by omega
      go_wp2_with fail
      go_ret
      exact ⟨_, rfl, hown, hB⟩
theorem numbers_sl (vs : List Nat) (n m : Nat) (A : Option Addr) (c : Nat) (w : World) (HN : Hid (vs.length = n)) (hr : Rd vNG w A vs) (hv : Hid (∀ v ∈ vs, v < 18446744073709551616)) (hn : n ≤ 1000000) (hm : m = 8 * n) :
    Calls Tryz.prog 95 #[.slice A n c] w fun e w' => ∃ A' c', e = .returned (.slice A' m c') ∧ m ≤ c' ∧ Rd vB w' A' (numsL vs) ∧ Below w.heap.size w w' := by
  have hl : (numsL vs).length = m := by rw [numsL_length, HN.out, hm]
  refine (numbers_any vs n A c w HN hr hv hn).mono ?_
  rintro e w' ⟨v, rfl, h1, h2⟩
  rw [← hm, ← hl] at h1
  obtain ⟨A', c', rfl, hc, hr'⟩ := own_slice h1
  rw [hl] at hc ⊢
  exact ⟨A', c', rfl, hc, hr', h2⟩
theorem userec_any (u : Us) (clock floor : Nat) (w : World) (hu : fitU1 u) (hc : clock < 18446744073709551616) (hf : floor < 18446744073709551616) :
    Calls Tryz.prog 55 #[.agg #[.int .u64 (u.1 : Int), .int .u64 (u.2.1 : Int), .int .u64 (u.2.2 : Int)], .int .u64 (clock : Int), .int .u64 (floor : Int)] w (RetB8 w (useRec u clock floor) 41) := by
  obtain ⟨i0, hi, hz0, hz1, hz2⟩ := info_parts info_u8
  obtain ⟨hR, hB⟩ := box_of w 57 [.int .u64 (u.1 : Int), .int .u64 (u.2.1 : Int), .int .u64 (u.2.2 : Int)] _ rfl
  have hL : useRec u clock floor = [85] ++ numsL [u.1, u.2.1, u.2.2, clock, floor] := by
    unfold numsL useRec useL
    simp only [List.flatMap_cons, List.flatMap_nil, List.append_nil, List.append_assoc, List.singleton_append]
  have hfit : Hid (∀ v ∈ [u.1, u.2.1, u.2.2, clock, floor], v < 18446744073709551616) := fun v hv => by
    simp at hv
    rcases hv with rfl | rfl | rfl | rfl | rfl
    · exact hu.1
    · exact hu.2.1
    · exact hu.2.2
    · exact hc
    · exact hf
  rw [hL]
  have HRD : Hid (∀ (W : World) (q : Nat), q = W.heap.size → Rd vNG (W.alloc (.cells #[.int .u64 (u.1 : Int), .int .u64 (u.2.1 : Int), .int .u64 (u.2.2 : Int), .int .u64 (clock : Int), .int .u64 (floor : Int)] 28)) (some ⟨q, 0, none⟩) [u.1, u.2.1, u.2.2, clock, floor]) := fun W q hq => by rw [hq]; exact Rd.new (f := vNG) W [u.1, u.2.1, u.2.2, clock, floor] _ _ rfl
  have HN5 : Hid ([u.1, u.2.1, u.2.2, clock, floor].length = 5) := rfl
  clear hL hu hc hf
  generalize [u.1, u.2.1, u.2.2, clock, floor] = vs at hfit HRD HN5 ⊢
  have HNL : Hid ((numsL vs).length = 40) := by unfold Hid; rw [numsL_length, HN5.out]
  have HNS := Lib.hid (fun A c W (h : Rd vNG W A vs) => numbers_sl vs 5 40 A c W HN5 h hfit (by omega) rfl)
  generalize numsL vs = T at HNL HNS ⊢
  obtain ⟨a, ha⟩ : ∃ a : Nat, u.1 = a := ⟨_, rfl⟩
  obtain ⟨b, hb⟩ : ∃ a : Nat, u.2.1 = a := ⟨_, rfl⟩
  obtain ⟨d, hd⟩ : ∃ a : Nat, u.2.2 = a := ⟨_, rfl⟩
  rw [ha, hb, hd] at HRD hR hB ⊢
  clear ha hb hd hfit
  go_enter Tryz.func55, Tryz.ntmps55
  go_upto_region 1 with fail
  generalize (w.alloc (.cells #[.int .u64 (a : Int), .int .u64 (b : Int), .int .u64 (d : Int)] 57)) = w1 at hR hB ⊢
  have hown0 : (w1.alloc (.cells #[.int .u8 85] 5)).ownsRow w1.heap.size 5 1 (.slice (some ⟨w1.heap.size, 0, none⟩) 1 1) 1 ([(85 : UInt8)].map vB) := own_lit w1 5 ([(85 : UInt8)].map vB) #[.int .u8 85] rfl (by unfold maxLen; simp)
  have hb1 := below_new (Below.refl w1.heap.size w1) (.cells #[.int .u8 85] 5)
  have hRl := hR.later hb1
  have k0 := hRl.cell (i := 0) rfl
  have k1 := hRl.cell (i := 1) rfl
  have k2 := hRl.cell (i := 2) rfl
  go_wp2_with fail
  refine (HNS.out _ _ _ (HRD.out _ _ (by simp))).mono ?_
  rintro e w4 ⟨A4, c4, rfl, hc4, hr4, hb4⟩
  have hb2 := below_new (Below.refl (w1.alloc (.cells #[.int .u8 85] 5)).heap.size (w1.alloc (.cells #[.int .u8 85] 5))) (.cells #[.int .u64 (a : Int), .int .u64 (b : Int), .int .u64 (d : Int), .int .u64 (clock : Int), .int .u64 (floor : Int)] 28)
  have hown1 := ownsRow_later (ownsRow_later hown0 hb2) hb4
  have hB4 : Below w1.heap.size w1 w4 := below_step (below_step hb1 hb2) hb4
  have hsz := hB4.size
  clear hb4 hb1 hb2 hown0 hRl k0 k1 k2 HNS HRD
  go_wp2_with (at_builtin; refine wpList_append_apart _ rfl (.tmp 7) (.tmp 17) 22 rfl w1.heap.size 5 i0 (.int .u8 0) 1 Tryz.underlying22 hi hz0 hz1 hz2 rfl _ _ _ rfl hown1 A4 T c4 (by rw [HNL.out]; rfl) hr4 vB_one (by rw [HNL.out]; unfold maxLen; omega) (by rw [HNL.out]; omega) hsz ?_; intro v5 w5 hown5 hgrow5 hat5)
  have hB5 := hB4.grown hgrow5 hsz (fun j hj => (hown1.lt j hj).1)
  rw [← List.map_append, HNL.out] at hown5
  go_ret
  exact ⟨_, rfl, own_base hown5 hB.size, hB.trans (hB5.mono hB.size)⟩
theorem bunrec_any (x : WB) (b : Bn) (w : World) (h : InB w x b) (hok : rightB b.2.1 b.2.2 = true) :
    Calls Tryz.prog 61 #[aggBW x b] w (RetB8 w (bunRec b) (bunRec b).length) := by
  obtain ⟨i0, hi, hz0, hz1, hz2⟩ := info_parts info_u8
  obtain ⟨hR, hB⟩ := box_of w 32 (lB x b) _ rfl
  have hbl : bunRec b = [78] ++ bunBytes b := rfl
  have hle := bunBytes_le hok
  have hbb := fun W (hb : Below w.heap.size w W) => bytesB_ok b.1 x.es b.2.2 x.n x.ec x.g x.gc x.eA x.gA W h.ne h.ng (h.re.keep hb) (h.oe.keep hb) (h.rg.keep hb) h.fit.1 (by rw [h.con]; exact h.fit.2.1) h.fit.2.2 (by rw [h.con]; exact hok)
  rw [h.con] at hbb
  rw [show bytesB b.1 b.2.1 b.2.2 = bunBytes b from rfl] at hbb
  rw [hbl, List.length_append]
  generalize bunBytes b = T at hbb hle ⊢
  unfold aggB at hbb
  have HBB := Lib.hid hbb
  clear hbb hbl hok h
  unfold aggBW aggB
  go_enter Tryz.func61, Tryz.ntmps61
  go_upto_region 1 with fail
  generalize (w.alloc (.cells (lB x b).toArray 32)) = w1 at hR hB ⊢
  go_wp2_with (refine wpList_load_part rfl 32 (.tmp 1) rfl (w.heap.size) 0 rfl _ _ (hR) ((lB x b)) (by rfl) _ Tryz.underlying32 rfl (by exact size_bundle) ?_)
  refine (HBB.out _ hB).mono ?_
  rintro e w2 ⟨A2, m2, c2, rfl, HM2, hc2, hr2, hb2⟩
  replace hB := below_step hB hb2
  have hown0 : (w2.alloc (.cells #[.int .u8 78] 5)).ownsRow w2.heap.size 5 1 (.slice (some ⟨w2.heap.size, 0, none⟩) 1 1) 1 ([(78 : UInt8)].map vB) := own_lit w2 5 ([(78 : UInt8)].map vB) #[.int .u8 78] rfl (by unfold maxLen; simp)
  have hb3 := below_new (Below.refl w2.heap.size w2) (.cells #[.int .u8 78] 5)
  have hr3 := hr2.keep hb3
  have hsz := hb3.size
  have hm2 : m2 ≤ 4171 := by rw [← HM2.out]; exact hle
  clear hb2 hr2 hle
  go_wp2_with (at_builtin; refine wpList_append_apart _ rfl (.tmp 10) (.tmp 11) 22 rfl w2.heap.size 5 i0 (.int .u8 0) 1 Tryz.underlying22 hi hz0 hz1 hz2 rfl _ _ _ rfl hown0 A2 T c2 (by rw [HM2.out]; rfl) hr3 vB_one (by rw [HM2.out]; unfold maxLen; omega) (by rw [HM2.out]; omega) hsz ?_; intro v5 w5 hown5 hgrow5 hat5)
  have hB5 := hb3.grown hgrow5 hsz (fun j hj => (hown0.lt j hj).1)
  rw [← List.map_append] at hown5
  go_ret
  exact ⟨_, rfl, own_base hown5 hB.size, hB.trans (hB5.mono hB.size)⟩
end Go.Proofs.YteppocjgodmpdaaGreatDoor
namespace Go.Proofs.YteppocjgodmpdaaGreatDoor
open Go.RowKit
theorem numsL_two (a b : Nat) : numsL [a, b] = putL a ++ putL b := by simp [numsL]
theorem numsL_three (a b c : Nat) : numsL [a, b, c] = putL a ++ (putL b ++ putL c) := by simp [numsL]
theorem numsL_one (a : Nat) : numsL [a] = putL a := by simp [numsL]
def headM (n clock room fl k : Nat) : List UInt8 := ([77] ++ numsL [n, clock]) ++ [UInt8.ofNat room] ++ numsL [fl] ++ [UInt8.ofNat k]
theorem memRec_head (n : Nat) (m : MemK) : memRec n m = headM n m.clock m.c.1.toNat m.c.2.1 m.c.2.2.length ++ usesL m.c.2.2 ++ bunBytes m.b := by
  unfold memRec headM
  rw [numsL_two, numsL_one]
  simp only [List.append_assoc, List.cons_append, List.nil_append]
theorem usesL_take (l : List Us) (k : Nat) (hk : k < l.length) : usesL (l.take (k + 1)) = usesL (l.take k) ++ numsL [l[k].1, l[k].2.1, l[k].2.2] := by
  rw [List.take_succ_eq_append_getElem hk, numsL_three]
  unfold usesL
  rw [List.flatMap_append]
  simp [useL]
theorem nums_rd (vs : List Nat) (cs : Array Value) (h : cs = (vs.map vNG).toArray) (W : World) (q : Nat) (hq : q = W.heap.size) : Rd vNG (W.alloc (.cells cs 28)) (some ⟨q, 0, none⟩) vs := by
  rw [hq]
  exact Rd.new (f := vNG) W vs _ _ h
def MrecI (base : Nat) (T : List UInt8) (l : List Us) (w : World) (u i : Value) (wr : World) : Prop := ∃ k : Nat, i = .int .i64 (k : Int) ∧ k ≤ l.length ∧ wr.ownsRow base 5 1 u (27 + 24 * k) ((T ++ usesL (l.take k)).map vB) ∧ Below base w wr
set_option maxHeartbeats 4000000 in
theorem memrec_any (n : Nat) (x : WM) (m : MemK) (w : World) (h : InM w x m) (hok : rightM m = true) (hn : n < 18446744073709551616) :
    Calls Tryz.prog 48 #[.int .u64 (n : Int), aggM x m] w (RetB8 w (memRec n m) (memRec n m).length) := by
  obtain ⟨i0, hi, hz0, hz1, hz2⟩ := info_parts info_u8
  obtain ⟨hR, hB⟩ := box_of w 37 (lM x m) _ rfl
  obtain ⟨hokb, hokc⟩ := rightM_parts.1 hok
  obtain ⟨⟨hc0, hc1⟩, hc2, _, _⟩ := right_c.1 hokc
  have hle := bunBytes_le hokb
  have hbb := fun W (hb : Below w.heap.size w W) => bytesB_ok m.b.1 x.b.es m.b.2.2 x.b.n x.b.ec x.b.g x.b.gc x.b.eA x.b.gA W h.ib.ne h.ib.ng (h.ib.re.keep hb) (h.ib.oe.keep hb) (h.ib.rg.keep hb) h.ib.fit.1 (by rw [h.ib.con]; exact h.ib.fit.2.1) h.ib.fit.2.2 (by rw [h.ib.con]; exact hokb)
  rw [h.ib.con] at hbb
  rw [show bytesB m.b.1 m.b.2.1 m.b.2.2 = bunBytes m.b from rfl] at hbb
  rw [memRec_head]
  generalize bunBytes m.b = TB at hbb hle ⊢
  unfold aggB at hbb
  have HBB := Lib.hid hbb
  have hns := h.ic.ns
  have hru := h.ic.ru
  have hcl := h.fc
  have hfl := h.ic.fit.1
  have HFU := Lib.hid h.ic.fit.2
  clear hbb hok hokb hokc h
  unfold aggM
  obtain ⟨clock, b, room, fl, l⟩ := m
  obtain ⟨xb, A, s, c⟩ := x
  dsimp only at *
  subst hns
  have hl64 : l.length ≤ 64 := by omega
  obtain ⟨rm, rfl⟩ : ∃ rm : Nat, room = (rm : Int) := ⟨room.toNat, by omega⟩
  rw [Int.toNat_natCast]
  have hrm : rm ≤ 64 := by omega
  clear hc0 hc1 hc2
  have HRM := Lib.hid (byte_one rm (by omega))
  have HLL := Lib.hid (byte_one l.length (by omega))
  have HN1 := Lib.hid (fun A c W (h : Rd vNG W A [n, clock]) => numbers_sl [n, clock] 2 16 A c W (Lib.hid rfl) h (Lib.hid (by intro v hv; simp at hv; rcases hv with rfl | rfl <;> assumption)) (by omega) rfl)
  have HN2 := Lib.hid (fun A c W (h : Rd vNG W A [fl]) => numbers_sl [fl] 1 8 A c W (Lib.hid rfl) h (Lib.hid (by intro v hv; simp at hv; rcases hv with rfl; assumption)) (by omega) rfl)
  have HR1 := Lib.hid (nums_rd [n, clock] _ rfl)
  have HR2 := Lib.hid (nums_rd [fl] _ rfl)
  unfold headM
  have HL1 : Hid ((numsL [n, clock]).length = 16) := numsL_length _
  have HL2 : Hid ((numsL [fl]).length = 8) := numsL_length _
  generalize numsL [n, clock] = N1 at *
  generalize numsL [fl] = N2 at *
  obtain ⟨RES, hRES⟩ : ∃ R, ([77] ++ N1) ++ [UInt8.ofNat rm] ++ N2 ++ [UInt8.ofNat l.length] ++ usesL l ++ TB = R := ⟨_, rfl⟩
  rw [hRES]
  have HRES := Lib.hid hRES
  clear hRES
  go_enter Tryz.func48, Tryz.ntmps48
  go_upto_region 1 with fail
  generalize (w.alloc (.cells #[.int .u64 (clock : Int), .int .u64 (b.1 : Int), .slice xb.eA xb.n xb.ec, .slice xb.gA xb.g xb.gc, .int .i64 (rm : Int), .int .u64 (fl : Int), .slice A l.length c] 37)) = w1 at hR hB ⊢
  have hown0 : (w1.alloc (.cells #[.int .u8 77] 5)).ownsRow w1.heap.size 5 1 (.slice (some ⟨w1.heap.size, 0, none⟩) 1 1) 1 ([(77 : UInt8)].map vB) := own_lit w1 5 ([(77 : UInt8)].map vB) #[.int .u8 77] rfl (by unfold maxLen; simp)
  have hb1 := below_new (Below.refl w1.heap.size w1) (.cells #[.int .u8 77] 5)
  have hRl := hR.later hb1
  have k0 := hRl.cell (i := 0) rfl
  go_wp2_with fail
  refine (HN1.out _ _ _ (HR1.out _ _ (by simp))).mono ?_
  rintro e w2 ⟨A2, c2, rfl, hc2, hr2, hb2⟩
  have hb12 := below_new (Below.refl (w1.alloc (.cells #[.int .u8 77] 5)).heap.size (w1.alloc (.cells #[.int .u8 77] 5))) (.cells #[.int .u64 (n : Int), .int .u64 (clock : Int)] 28)
  have hownA := ownsRow_later (ownsRow_later hown0 hb12) hb2
  have hB2 : Below w1.heap.size w1 w2 := below_step (below_step hb1 hb12) hb2
  have hRw := hR.later hB2
  have hz2' := hB2.size
  have k4 := hRw.cell (i := 4) rfl
  clear hb12 hb2 hown0 hb1 hRl k0
  go_upto_region 2 with (at_builtin; refine wpList_append_apart _ rfl (.tmp 10) (.tmp 15) 22 rfl w1.heap.size 5 i0 (.int .u8 0) 1 Tryz.underlying22 hi hz0 hz1 hz2 rfl _ _ _ rfl hownA A2 N1 c2 (by rw [HL1.out]; rfl) hr2 vB_one (by rw [HL1.out]; unfold maxLen; omega) (by rw [HL1.out]; omega) hz2' ?_; intro v3 w3 hown3 hgrow3 hat3)
  have hB3 := hB2.grown hgrow3 hz2' (fun k hk => (hownA.lt k hk).1)
  rw [← List.map_append, HL1.out] at hown3
  have hR3 := hR.later hB3
  have hz3 := hB3.size
  replace k4 := hR3.cell (i := 4) rfl
  clear hownA hB2 hRw hz2' hgrow3 hat3 hr2
  go_upto_region 3 with (at_builtin; refine wpList_append_apart _ rfl (.tmp 17) (.tmp 22) 22 rfl w1.heap.size 5 i0 (.int .u8 0) 1 Tryz.underlying22 hi hz0 hz1 hz2 rfl _ _ _ rfl (ownsRow_later hown3 (below_new (Below.refl _ _) _)) (some ⟨w3.heap.size, 0, none⟩) [UInt8.ofNat rm] 1 rfl (Rd.new w3 [UInt8.ofNat rm] _ _ (by rw [List.map_cons, HRM.out]; rfl)) vB_one (by simp only [List.length_cons, List.length_nil]; unfold maxLen; omega) (by simp only [List.length_cons, List.length_nil]; omega) (by have := hz3; simp; omega) ?_; intro v4 w4 hown4 hgrow4 hat4)
  have hB4 := (below_new hB3 (.cells #[.int .u8 (rm : Int)] 5)).grown hgrow4 (by simp; omega) (fun k hk => (hown3.lt k hk).1)
  rw [← List.map_append, show ([UInt8.ofNat rm] : List UInt8).length = 1 from rfl] at hown4
  have hR4 := hR.later hB4
  have hz4 := hB4.size
  have k5 := hR4.cell (i := 5) rfl
  clear hown3 hB3 hR3 hz3 k4 hgrow4 hat4
  go_wp2_with fail
  refine (HN2.out _ _ _ (HR2.out _ _ (by simp))).mono ?_
  rintro e w5 ⟨A5, c5, rfl, hc5, hr5, hb5⟩
  have hb45 := below_new (Below.refl w4.heap.size w4) (.cells #[.int .u64 (fl : Int)] 28)
  have hownB := ownsRow_later (ownsRow_later hown4 hb45) hb5
  have hB5 := below_step (below_step hB4 hb45) hb5
  have hz5 := hB5.size
  clear hb45 hb5 hown4 hB4 hR4 hz4 k5
  go_upto_region 4 with (at_builtin; refine wpList_append_apart _ rfl (.tmp 24) (.tmp 29) 22 rfl w1.heap.size 5 i0 (.int .u8 0) 1 Tryz.underlying22 hi hz0 hz1 hz2 rfl _ _ _ rfl hownB A5 N2 c5 (by rw [HL2.out]; rfl) hr5 vB_one (by rw [HL2.out]; unfold maxLen; omega) (by rw [HL2.out]; omega) hz5 ?_; intro v6 w6 hown6 hgrow6 hat6)
  have hB6 := hB5.grown hgrow6 hz5 (fun k hk => (hownB.lt k hk).1)
  rw [← List.map_append, HL2.out] at hown6
  have hR6 := hR.later hB6
  have hz6 := hB6.size
  have k6 := hR6.cell (i := 6) rfl
  clear hownB hB5 hz5 hgrow6 hat6 hr5
  go_upto_region 5 with (at_builtin; refine wpList_append_apart _ rfl (.tmp 31) (.tmp 37) 22 rfl w1.heap.size 5 i0 (.int .u8 0) 1 Tryz.underlying22 hi hz0 hz1 hz2 rfl _ _ _ rfl (ownsRow_later hown6 (below_new (Below.refl _ _) _)) (some ⟨w6.heap.size, 0, none⟩) [UInt8.ofNat l.length] 1 rfl (Rd.new w6 [UInt8.ofNat l.length] _ _ (by rw [List.map_cons, HLL.out]; rfl)) vB_one (by simp only [List.length_cons, List.length_nil]; unfold maxLen; omega) (by simp only [List.length_cons, List.length_nil]; omega) (by have := hz6; simp; omega) ?_; intro v7 w7 hown7 hgrow7 hat7)
  have hB7 := (below_new hB6 (.cells #[.int .u8 (l.length : Int)] 5)).grown hgrow7 (by simp; omega) (fun k hk => (hown6.lt k hk).1)
  rw [← List.map_append, show ([UInt8.ofNat l.length] : List UInt8).length = 1 from rfl] at hown7
  have hR7 := hR.later hB7
  have k7 := hR7.cell (i := 6) rfl
  clear hown6 hB6 hR6 hz6 k6 hgrow7 hat7
  have HT : Hid ((([77] ++ N1) ++ [UInt8.ofNat rm] ++ N2 ++ [UInt8.ofNat l.length]).length = 27) := by
    unfold Hid
    simp only [List.length_append, HL1.out, HL2.out, List.length_cons, List.length_nil]
  generalize ([77] ++ N1) ++ [UInt8.ofNat rm] ++ N2 ++ [UInt8.ofNat l.length] = T at hown7 HT HRES ⊢
  have hown7' : w7.ownsRow w1.heap.size 5 1 v7 (27 + 24 * 0) ((T ++ usesL (l.take 0)).map vB) := by
    have e : T ++ usesL (l.take 0) = T := by simp [usesL]
    rw [e]
    exact hown7
  go_upto_region 6 with fail
  go_loopw [5, 43] (fun u i wr => MrecI w1.heap.size T l w1 u i wr) (fun _ i _ => l.length - (intOf i).toNat)
  case atStart => exact ⟨0, rfl, Nat.zero_le _, hown7', hB7⟩
  case round =>
    clear hown7 hown7' hB7 hR7 k7
    obtain ⟨k, rfl, hk, hown, hBr⟩ := hrel
    have hszr := hBr.size
    have hRr := hR.later hBr
    by_cases hlt : k < l.length
    · have hruw := hru.keep (hB.trans (hBr.mono hB.size))
      obtain ⟨b3, o3, rfl, hb3, hrng, _, _, _⟩ := hruw.pair hlt
      have HTK := Lib.hid (usesL_take l k hlt)
      have hfu := HFU.out _ (List.getElem_mem hlt)
      generalize l[k] = u at hrng HTK hfu
      obtain ⟨g0, g1, g2⟩ := u
      unfold cellU vNU at hrng
      obtain ⟨hf0, hf1, hf2⟩ := hfu
      dsimp only at hrng HTK hf0 hf1 hf2
      have HN3 := Lib.hid (fun A c W (h : Rd vNG W A [g0, g1, g2]) => numbers_sl [g0, g1, g2] 3 24 A c W (Lib.hid rfl) h (Lib.hid (by intro v hv; simp at hv; rcases hv with rfl | rfl | rfl <;> assumption)) (by omega) rfl)
      have HR3 := Lib.hid (nums_rd [g0, g1, g2] _ rfl)
      have HL3 : Hid ((numsL [g0, g1, g2]).length = 24) := numsL_length _
      generalize numsL [g0, g1, g2] = N3 at *
      generalize usesL (l.take k) = Lk at hown HTK
      have i2 : (0 : Int) ≤ (k : Int) := by omega
      have i3 : (k : Int) < (l.length : Int) := by omega
      clear hf0 hf1 hf2
      obtain ⟨hRu, hBu⟩ := box_of wr 57 [.int .u64 0, .int .u64 0, .int .u64 0] _ rfl
      go_upto_region 8 with (first
        | (refine wpList_load_mid rfl 57 (.tmp 45) rfl b3 (o3 + k * 3) rfl [.int .u64 (g0 : Int), .int .u64 (g1 : Int), .int .u64 (g2 : Int)] _ hrng Tryz.underlying57 rfl (by exact size_use) ?_)
        | (refine wpList_store_row rfl 57 (.tmp 7) (.tmp 46) rfl (wr.heap.size) rfl ([.int .u64 (g0 : Int), .int .u64 (g1 : Int), .int .u64 (g2 : Int)]) rfl _ _ (hRu) (by exact size_use) rfl (one_three _ _ _ rfl rfl rfl) ?_))
      have hRu2 := hRu.setRow [.int .u64 (g0 : Int), .int .u64 (g1 : Int), .int .u64 (g2 : Int)]
      have hBn := below_setRow hBu (Nat.le_refl _) [.int .u64 (g0 : Int), .int .u64 (g1 : Int), .int .u64 (g2 : Int)].toArray
      clear hRu hBu
      generalize (wr.alloc (.cells #[.int .u64 0, .int .u64 0, .int .u64 0] 57)).setRow wr.heap.size [.int .u64 (g0 : Int), .int .u64 (g1 : Int), .int .u64 (g2 : Int)].toArray = wb at hRu2 hBn ⊢
      have hownC := ownsRow_later hown hBn
      have hBb := below_step hBr hBn
      have hap := own_apart hown
      have u0 := hRu2.cell (i := 0) rfl
      have u1 := hRu2.cell (i := 1) rfl
      have u2 := hRu2.cell (i := 2) rfl
      clear hBn hown hBr hRr hruw hrng
      go_wp2_with fail
      refine (HN3.out _ _ _ (HR3.out _ _ (by simp))).mono ?_
      rintro e wc ⟨A9, c9, rfl, hc9, hr9, hb9⟩
      have hb89 := below_new (Below.refl wb.heap.size wb) (.cells #[.int .u64 (g0 : Int), .int .u64 (g1 : Int), .int .u64 (g2 : Int)] 28)
      have hownD := ownsRow_later (ownsRow_later hownC hb89) hb9
      have hBc := below_step (below_step hBb hb89) hb9
      have hzc := hBc.size
      clear hb89 hb9 hownC hBb u0 u1 u2 hRu2
      go_wp2_with (at_builtin; refine wpList_append_apart _ rfl (.tmp 47) (.tmp 55) 22 rfl w1.heap.size 5 i0 (.int .u8 0) 1 Tryz.underlying22 hi hz0 hz1 hz2 rfl _ _ _ rfl hownD A9 N3 c9 (by rw [HL3.out]; rfl) hr9 vB_one (by rw [HL3.out]; unfold maxLen; omega) (by rw [HL3.out]; omega) hzc ?_; intro v8 w8 hown8 hgrow8 hat8)
      have hB8 := hBc.grown hgrow8 hzc (fun j hj => (hownD.lt j hj).1)
      rw [← List.map_append, List.append_assoc, ← HTK.out, HL3.out] at hown8
      clear hownD hBc hgrow8 hat8 hr9
      go_roundw
      case rel => exact ⟨k + 1, rfl, by omega, by rw [Nat.mul_add, ← Nat.add_assoc]; exact hown8, hB8⟩
      case measure => simp [intOf]; omega
    · have hkk : k = l.length := by omega
      subst hkk
      rw [List.take_length] at hown
      have HTL : Hid ((T ++ usesL l).length = 27 + 24 * l.length) := by unfold Hid; rw [List.length_append, HT.out, usesL_length]
      generalize T ++ usesL l = TT at hown HTL HRES ⊢
      have j1 : ¬ (l.length : Int) < (l.length : Int) := by omega
      go_wp2_with (refine wpList_load_part rfl 32 (.tmp 59) rfl (w.heap.size) 1 rfl _ _ (hRr) ((lB xb b)) (by rfl) _ Tryz.underlying32 rfl (by exact size_bundle) ?_)
      refine (HBB.out _ (hB.trans (hBr.mono hB.size))).mono ?_
      rintro e w8 ⟨A8, m8, c8, rfl, HM8, hc8, hr8, hb8⟩
      have hownE := ownsRow_later hown hb8
      have hBe := below_step hBr hb8
      have hze := hBe.size
      have hm8 : m8 ≤ 4171 := by rw [← HM8.out]; exact hle
      clear hown hBr hb8 hle
      go_wp2_with (at_builtin; refine wpList_append_apart _ rfl (.tmp 64) (.tmp 65) 22 rfl w1.heap.size 5 i0 (.int .u8 0) 1 Tryz.underlying22 hi hz0 hz1 hz2 rfl _ _ _ rfl hownE A8 TB c8 (by rw [HM8.out]; rfl) hr8 vB_one (by rw [HM8.out]; unfold maxLen; omega) (by rw [HM8.out]; omega) hze ?_; intro v9 w9 hown9 hgrow9 hat9)
      have hB9 := hBe.grown hgrow9 hze (fun j hj => (hownE.lt j hj).1)
      rw [← List.map_append, ← HTL.out, ← List.length_append, HRES.out] at hown9
      go_ret
      exact ⟨v9, rfl, own_base hown9 hB.size, hB.trans (hB9.mono hB.size)⟩
end Go.Proofs.YteppocjgodmpdaaGreatDoor
namespace Go.Proofs.YteppocjgodmpdaaGreatDoor
open Go.RowKit
theorem Only.setNew {g : Nat} {w W : World} (h : Only g w W) (hg : g ≤ w.heap.size) {p : Addr} (hp : w.heap.size ≤ p.block) (v : Value) : Only g w (W.setCell p v) :=
  ⟨h.below.setCell (p := p) (Nat.le_trans hg hp) v, fun b hb hl => (Below.heap_setCell W p v b (by omega)).trans (h.other b hb hl)⟩
theorem Only.setRowNew {g : Nat} {w W : World} (h : Only g w W) (hg : g ≤ w.heap.size) {q : Nat} (hp : w.heap.size ≤ q) (cs : Array Value) : Only g w (W.setRow q cs) :=
  ⟨below_setRow h.below (Nat.le_trans hg hp) cs, fun b hb hl => (Go.setRow_other W q b cs (by omega)).trans (h.other b hb hl)⟩
theorem Only.laterBy {g : Nat} {w W W' : World} (h : Only g w W) (hg : g ≤ w.heap.size) (hb : Below w.heap.size W W') : Only g w W' :=
  ⟨h.below.trans (hb.mono hg), fun b hb1 hl => (hb.block b hl).trans (h.other b hb1 hl)⟩
set_option maxHeartbeats 2000000 in
theorem readuse_any (g : Nat) (k : Int) (S : List UInt8) (w : World) (h : RdRF g k S w) :
    Calls Tryz.prog 216 #[.pointer (some ⟨g, 0, none⟩)] w fun e w' => e = .returned (.agg #[.int .u64 ((useK k S).1.1 : Int), .int .u64 ((useK k S).1.2.1 : Int), .int .u64 ((useK k S).1.2.2 : Int)]) ∧ RdRF g (useK k S).2.1 (useK k S).2.2 w' ∧ Only g w w' := by
  obtain ⟨a, k1, S1, H1⟩ : ∃ x k' S', num8K k S = (x, k', S') := ⟨_, _, _, rfl⟩
  obtain ⟨b, k2, S2, H2⟩ : ∃ x k' S', num8K k1 S1 = (x, k', S') := ⟨_, _, _, rfl⟩
  obtain ⟨c, k3, S3, H3⟩ : ∃ x k' S', num8K k2 S2 = (x, k', S') := ⟨_, _, _, rfl⟩
  rw [useK_at H1 H2 H3]
  dsimp only
  replace H1 := Lib.hid H1
  replace H2 := Lib.hid H2
  replace H3 := Lib.hid H3
  have hgl := h.lt
  obtain ⟨hR0, hR1, hB0⟩ := two_boxes w 57 57 [.int .u64 0, .int .u64 0, .int .u64 0] [.int .u64 0, .int .u64 0, .int .u64 0] _ _ rfl rfl
  have hOO := Only.later hB0 (Nat.le_of_lt hgl)
  have hT := h.below (hB0.mono (show g + 1 ≤ w.heap.size by omega))
  clear h hB0
  go_enter Tryz.func216, Tryz.ntmps216
  go_upto_region 2 with fail
  generalize (w.alloc (.cells [.int .u64 0, .int .u64 0, .int .u64 0].toArray 57)).alloc (.cells [.int .u64 0, .int .u64 0, .int .u64 0].toArray 57) = W0 at hR0 hR1 hOO hT ⊢
  go_wp2_with fail
  refine (number8_any g k S W0 hT).mono ?_
  rw [H1.out]
  rintro e V1 ⟨rfl, hT1, hO⟩
  dsimp only at hT1 ⊢
  have hRa1 := hR1.only hO (by omega)
  have hRr1 := hR0.only hO (by omega)
  have hOO1 := hOO.trans hO
  have f0 := hRa1.frozen 0
  have c0 : V1.cell? ⟨w.heap.size + 1, 0, none⟩ = some (.int .u64 0) := hRa1.cell rfl
  have hs1 := hO.below.size
  clear hT hR1 hR0 hOO hO
  have hT := hT1.below ((Below.refl _ V1).setCell (p := ⟨w.heap.size + 1, 0, none⟩) (show g + 1 ≤ w.heap.size + 1 by omega) (.int .u64 (a : Int)))
  have hR1 : Row (V1.setCell ⟨w.heap.size + 1, 0, none⟩ (.int .u64 (a : Int))) (w.heap.size + 1) 57 [.int .u64 (a : Int), .int .u64 0, .int .u64 0] := hRa1.setCell 0 _
  have hR0 := hRr1.setCell_other (p := ⟨w.heap.size + 1, 0, none⟩) (by show w.heap.size ≠ w.heap.size + 1; omega) (.int .u64 (a : Int))
  have hOO : Only g w (V1.setCell ⟨w.heap.size + 1, 0, none⟩ (.int .u64 (a : Int))) := hOO1.setNew (Nat.le_of_lt hgl) (p := ⟨w.heap.size + 1, 0, none⟩) (by show w.heap.size ≤ w.heap.size + 1; omega) _
  have hq1 : w.heap.size + 2 ≤ (V1.setCell ⟨w.heap.size + 1, 0, none⟩ (.int .u64 (a : Int))).heap.size := by have := hR1.lt; omega
  go_upto_region 3 with fail
  clear hT1 hRa1 hRr1 hOO1 c0 f0 hs1
  generalize V1.setCell ⟨w.heap.size + 1, 0, none⟩ (.int .u64 (a : Int)) = W1 at hT hR1 hR0 hOO hq1 ⊢
  go_wp2_with fail
  refine (number8_any g k1 S1 W1 hT).mono ?_
  rw [H2.out]
  rintro e V2 ⟨rfl, hT2, hO⟩
  dsimp only at hT2 ⊢
  have hRa2 := hR1.only hO (by omega)
  have hRr2 := hR0.only hO (by omega)
  have hOO2 := hOO.trans hO
  have f1 := hRa2.frozen 1
  have c1 : V2.cell? ⟨w.heap.size + 1, 1, none⟩ = some (.int .u64 0) := hRa2.cell rfl
  have hs2 := hO.below.size
  clear hT hR1 hR0 hOO hO
  have hT := hT2.below ((Below.refl _ V2).setCell (p := ⟨w.heap.size + 1, 1, none⟩) (show g + 1 ≤ w.heap.size + 1 by omega) (.int .u64 (b : Int)))
  have hR1 : Row (V2.setCell ⟨w.heap.size + 1, 1, none⟩ (.int .u64 (b : Int))) (w.heap.size + 1) 57 [.int .u64 (a : Int), .int .u64 (b : Int), .int .u64 0] := hRa2.setCell 1 _
  have hR0 := hRr2.setCell_other (p := ⟨w.heap.size + 1, 1, none⟩) (by show w.heap.size ≠ w.heap.size + 1; omega) (.int .u64 (b : Int))
  have hOO : Only g w (V2.setCell ⟨w.heap.size + 1, 1, none⟩ (.int .u64 (b : Int))) := hOO2.setNew (Nat.le_of_lt hgl) (p := ⟨w.heap.size + 1, 1, none⟩) (by show w.heap.size ≤ w.heap.size + 1; omega) _
  have hq2 : w.heap.size + 2 ≤ (V2.setCell ⟨w.heap.size + 1, 1, none⟩ (.int .u64 (b : Int))).heap.size := by have := hR1.lt; omega
  go_upto_region 4 with fail
  clear hT2 hRa2 hRr2 hOO2 c1 f1 hs2
  generalize V2.setCell ⟨w.heap.size + 1, 1, none⟩ (.int .u64 (b : Int)) = W2 at hT hR1 hR0 hOO hq2 ⊢
  go_wp2_with fail
  refine (number8_any g k2 S2 W2 hT).mono ?_
  rw [H3.out]
  rintro e V3 ⟨rfl, hT3, hO⟩
  dsimp only at hT3 ⊢
  have hRa3 := hR1.only hO (by omega)
  have hRr3 := hR0.only hO (by omega)
  have hOO3 := hOO.trans hO
  have f2 := hRa3.frozen 2
  have c2 : V3.cell? ⟨w.heap.size + 1, 2, none⟩ = some (.int .u64 0) := hRa3.cell rfl
  have hs3 := hO.below.size
  clear hT hR1 hR0 hOO hO
  have hT := hT3.below ((Below.refl _ V3).setCell (p := ⟨w.heap.size + 1, 2, none⟩) (show g + 1 ≤ w.heap.size + 1 by omega) (.int .u64 (c : Int)))
  have hR1 : Row (V3.setCell ⟨w.heap.size + 1, 2, none⟩ (.int .u64 (c : Int))) (w.heap.size + 1) 57 [.int .u64 (a : Int), .int .u64 (b : Int), .int .u64 (c : Int)] := hRa3.setCell 2 _
  have hR0 := hRr3.setCell_other (p := ⟨w.heap.size + 1, 2, none⟩) (by show w.heap.size ≠ w.heap.size + 1; omega) (.int .u64 (c : Int))
  have hOO : Only g w (V3.setCell ⟨w.heap.size + 1, 2, none⟩ (.int .u64 (c : Int))) := hOO3.setNew (Nat.le_of_lt hgl) (p := ⟨w.heap.size + 1, 2, none⟩) (by show w.heap.size ≤ w.heap.size + 1; omega) _
  have hq3 : w.heap.size + 2 ≤ (V3.setCell ⟨w.heap.size + 1, 2, none⟩ (.int .u64 (c : Int))).heap.size := by have := hR1.lt; omega
  go_upto_region 5 with fail
  clear hT3 hRa3 hRr3 hOO3 c2 f2 hs3
  generalize V3.setCell ⟨w.heap.size + 1, 2, none⟩ (.int .u64 (c : Int)) = W3 at hT hR1 hR0 hOO hq3 ⊢
  go_wp2_with (first
    | (refine wpList_load_part rfl 57 (.tmp 3) rfl (w.heap.size + 1) 0 rfl _ _ (hR1) ([.int .u64 (a : Int), .int .u64 (b : Int), .int .u64 (c : Int)]) (by rfl) _ Tryz.underlying57 rfl (by exact size_use) ?_)
    | (refine wpList_store_row rfl 57 (.tmp 2) (.tmp 13) rfl (w.heap.size) rfl ([.int .u64 (a : Int), .int .u64 (b : Int), .int .u64 (c : Int)]) rfl _ _ (hR0) (by exact size_use) rfl (one_three _ _ _ rfl rfl rfl) ?_))
  refine bodyPost_ret (results_cell_row (p := 2) (ty := 57) (by rfl) _ _ w.heap.size 57 _ (0, 0) _ (by rfl) (by exact hR0.setRow _) Tryz.underlying57 (by rfl) (by exact size_use)) (by rfl) ?_
  exact ⟨rfl, hT.below (below_setRow (Below.refl _ _) (by omega) _), hOO.setRowNew (Nat.le_of_lt hgl) (Nat.le_refl _) _⟩
theorem readBun_ok (b : List UInt8) : fitBn ((readBun b).1, (readBun b).2.1, (readBun b).2.2.1) ∧ (readBun b).2.1.length ≤ 64 ∧ (readBun b).2.2.1.length ≤ 64 ∧ ∀ x ∈ (readBun b).2.1, x.2.2.length ≤ 32 := by
  obtain ⟨v, es, gs, m, k, hb⟩ : ∃ v es gs m k, readBun b = (v, es, gs, m, k) := ⟨_, _, _, _, _, rfl⟩
  by_cases h : k = 0
  · subst h
    obtain ⟨g1, _, _, g2, g3, g4⟩ := bun_good hb
    obtain ⟨h1, h2, h3⟩ := right_b.1 g1
    rw [hb]
    exact ⟨⟨g2, g3, g4⟩, h1, (right_parts.1 h2).2, fun x hx => (okE_all h3 x hx).2⟩
  · obtain ⟨rfl, rfl, rfl, _⟩ := bun_bad hb h
    rw [hb]
    exact ⟨⟨by show (0 : Nat) < _; decide, (fun x hx => by cases hx), (fun x hx => by cases hx)⟩, Nat.zero_le _, Nat.zero_le _, (fun x hx => by cases hx)⟩
theorem bunK_of {k e k2 kE : Int} {S S' T : List UInt8} {v q : Nat} {es : List En} {gs : List Gn} (hS : k = 0 → S' = S) (hr : readBun S' = (v, es, gs, q, e)) (h2 : (nextK q (keepK k e) S).2 = (k2, T)) (hE : endK k2 T = kE) : BunK k S kE (v, es, gs) := by
  refine ⟨fun hk => ?_, fun hk => ?_⟩
  · unfold keepK nextK at h2
    rw [if_neg hk, if_neg hk] at h2
    injection h2 with e1 e2
    subst e1 e2
    rw [← hE]
    unfold endK
    rw [if_neg (fun h => hk h.1)]
  · have eS := hS hk
    subst eS hk
    unfold keepK at h2
    rw [if_pos rfl] at h2
    unfold allB
    rw [hr]
    dsimp only
    by_cases he : e = 0
    · subst he
      unfold nextK at h2
      rw [if_pos rfl] at h2
      by_cases hq : S'.length < q
      · rw [if_pos hq] at h2
        injection h2 with e1 e2
        subst e1 e2
        refine .inr ⟨by rw [← hE]; unfold endK; rw [if_neg (fun h => absurd h.1 (by decide))]; decide, ?_⟩
        rw [if_neg (fun h => by omega)]
      · rw [if_neg hq] at h2
        injection h2 with e1 e2
        subst e1 e2
        by_cases hl : q = S'.length
        · refine .inl ⟨?_, ?_⟩
          · rw [← hE]
            unfold endK
            rw [if_neg (fun h => h.2 (List.drop_eq_nil_of_le (by omega)))]
          · rw [if_pos ⟨rfl, hl⟩]
        · refine .inr ⟨?_, ?_⟩
          · rw [← hE]
            unfold endK
            rw [if_pos ⟨rfl, fun h => by have := congrArg List.length h; rw [List.length_drop, List.length_nil] at this; omega⟩]
            decide
          · rw [if_neg (fun h => hl h.2)]
    · unfold nextK at h2
      rw [if_neg he] at h2
      injection h2 with e1 e2
      subst e1 e2
      refine .inr ⟨?_, ?_⟩
      · rw [← hE]
        unfold endK
        rw [if_neg (fun h => he h.1)]
        exact he
      · rw [if_neg (fun h => he h.1)]
def RetRb (g : Nat) (k : Int) (S : List UInt8) (w : World) (e : Ending) (w' : World) : Prop :=
  ∃ x b kE v, e = .returned (aggBW x b) ∧ InB w' x b ∧ FreshB w.heap.size x ∧ BunK k S kE b ∧ Row w' g 220 [v, .int .i64 kE] ∧ Only g w w'
set_option maxHeartbeats 4000000 in
theorem readbundle_any (g : Nat) (k : Int) (S : List UInt8) (w : World) (h : RdRF g k S w) :
    Calls Tryz.prog 217 #[.pointer (some ⟨g, 0, none⟩)] w (RetRb g k S w) := by
  have hgl := h.lt
  have hgl2 := Nat.le_of_lt hgl
  obtain ⟨hR0, hB0⟩ := box_of w 32 l0B _ rfl
  have hOO := Only.later hB0 hgl2
  have hT := h.below (hB0.mono (show g + 1 ≤ w.heap.size by omega))
  clear h
  go_enter Tryz.func217, Tryz.ntmps217
  go_upto_region 1 with fail
  generalize (w.alloc (.cells l0B.toArray 32)) = W0 at hR0 hOO hT ⊢
  obtain ⟨S', n, ⟨A, c, hRg, HN, hc, hr, hA⟩, hn, hS'⟩ := id hT
  have HS' := Lib.hid hS'
  have cg : W0.cell? ⟨g, 0, none⟩ = some (.slice A n c) := hRg.cell rfl
  have HBR := Lib.hid (readBunN_any S' n c A W0 HN hr hn hc)
  have HOKB := Lib.hid (readBun_ok S')
  obtain ⟨v, es, gs, q, er, hX⟩ : ∃ v es gs q er, readBun S' = (v, es, gs, q, er) := ⟨_, _, _, _, _, rfl⟩
  rw [hX] at HBR HOKB
  have HX := Lib.hid hX
  obtain ⟨T, k2, hnx⟩ : ∃ T k2, (nextK q (keepK k er) S).2 = (k2, T) := ⟨_, _, rfl⟩
  have HNX := Lib.hid hnx
  clear hX hnx hS' hr hRg hA
  go_wp2_with fail
  refine HBR.out.mono ?_
  rintro e w1 ⟨eA, xs, ne, ec, gA, m, gc, rfl, HC, HNE, HM, hec, hgc, hre, hoe, hrg, ⟨hfe, hfs, hfg⟩, hb1⟩
  unfold aggB
  dsimp only at HC HM hrg HOKB ⊢
  have hIn : InB w1 ⟨xs, eA, ne, ec, gA, m, gc⟩ (v, es, gs) := ⟨HC.out, HNE.out, HM.out, hec, hgc, hre, hoe, hrg, by
      show ne ≤ 1000000
      have := HOKB.out.2.1
      rw [← HC.out, conE_length, HNE.out] at this
      omega, by
      show m ≤ 1000000
      have := HOKB.out.2.2.1
      rw [HM.out] at this
      omega, fun y hy => by
      have := HOKB.out.2.2.2 y.con (by rw [← HC.out]; exact List.mem_map.2 ⟨y, hy, rfl⟩)
      have e1 : y.con.2.2 = y.s := rfl
      rw [e1] at this
      omega, HOKB.out.1⟩
  have hFr : FreshB W0.heap.size ⟨xs, eA, ne, ec, gA, m, gc⟩ := ⟨hfe, hfs, hfg⟩
  have hW0 := hR0.lt
  have hT1 := hT.below (hb1.mono (show g + 1 ≤ W0.heap.size by omega))
  have hOO1 := hOO.laterBy hgl2 (hb1.mono (Nat.le_of_lt hW0))
  have hR01 := hR0.later hb1
  have hs1 := hb1.size
  obtain ⟨hRx, hBx⟩ := box_of w1 32 l0B _ rfl
  clear hre hoe hrg hfe hfs hfg hb1 HBR HOKB hT hOO hR0 cg
  go_upto_region 2 with (refine wpList_store_row rfl 32 (.tmp 3) (.tmp 12) rfl (w1.heap.size) rfl ([.int .u64 (v : Int), .slice eA ne ec, .slice gA m gc]) rfl _ _ (hRx) (by exact size_bundle) rfl (one_three _ _ _ rfl rfl rfl) ?_)
  have hRx2 := hRx.setRow [.int .u64 (v : Int), .slice eA ne ec, .slice gA m gc]
  have hbn := below_setRow hBx (Nat.le_refl _) [.int .u64 (v : Int), .slice eA ne ec, .slice gA m gc].toArray
  clear hRx hBx
  generalize (w1.alloc (.cells l0B.toArray 32)).setRow w1.heap.size [.int .u64 (v : Int), .slice eA ne ec, .slice gA m gc].toArray = wb at hRx2 hbn ⊢
  have hIn2 := hIn.keep hbn
  have hT2 := hT1.below (hbn.mono (show g + 1 ≤ w1.heap.size by omega))
  have hOO2 := hOO1.laterBy hgl2 (hbn.mono (by omega))
  have hR02 := hR01.later hbn
  have hgx : W0.heap.size ≤ w1.heap.size := hs1
  clear hIn hT1 hOO1 hR01 hbn hs1
  generalize w1.heap.size = gx at hRx2 hgx ⊢
  go_wp2_with fail
  refine (keep_any g k er S wb hT2).mono ?_
  rintro e w2 ⟨rfl, hT3, hO⟩
  have hIn3 := hIn2.only hO (hFr.mono (by omega))
  have hRx3 := hRx2.only hO (by omega)
  have hR03 := hR02.only hO (by omega)
  have hOO3 := hOO2.trans hO
  clear hIn2 hT2 hOO2 hR02 hRx2 hO
  go_wp2_with fail
  refine (next_any g q (keepK k er) S w2 hT3).mono ?_
  rintro e w3 ⟨A4, q4, c4, rfl, HQ4, hq4, hqc4, hr4, hT4, hO⟩
  rw [show (nextK q (keepK k er) S).2.1 = k2 from by rw [HNX.out], show (nextK q (keepK k er) S).2.2 = T from by rw [HNX.out]] at hT4
  have hIn4 := hIn3.only hO (hFr.mono (by omega))
  have hRx4 := hRx3.only hO (by omega)
  have hR04 := hR03.only hO (by omega)
  have hOO4 := hOO3.trans hO
  clear hIn3 hT3 hOO3 hR03 hRx3 hO hr4 HQ4 hq4 hqc4
  go_wp2_with fail
  refine (endF_any g k2 T w3 hT4).mono ?_
  rintro e w4 ⟨rfl, ⟨vg, hRg⟩, hO⟩
  have hIn5 := hIn4.only hO (hFr.mono (by omega))
  have hRx5 := hRx4.only hO (by omega)
  have hR05 := hR04.only hO (by omega)
  have hOO5 := hOO4.trans hO
  clear hIn4 hT4 hOO4 hR04 hRx4 hO
  go_wp2_with (first
    | (refine wpList_load_part rfl 32 (.tmp 3) rfl (gx) 0 rfl _ _ (hRx5) ([.int .u64 (v : Int), .slice eA ne ec, .slice gA m gc]) (by rfl) _ Tryz.underlying32 rfl (by exact size_bundle) ?_)
    | (refine wpList_store_row rfl 32 (.tmp 2) (.tmp 23) rfl (w.heap.size) rfl ([.int .u64 (v : Int), .slice eA ne ec, .slice gA m gc]) rfl _ _ (hR05) (by exact size_bundle) rfl (one_three _ _ _ rfl rfl rfl) ?_))
  refine bodyPost_ret (results_cell_row (p := 2) (ty := 32) (by rfl) _ _ w.heap.size 32 _ (0, 0) _ (by rfl) (by exact hR05.setRow _) Tryz.underlying32 (by rfl) (by exact size_bundle)) (by rfl) ?_
  have hO6 := (Only.refl w.heap.size w4).setRow [.int .u64 (v : Int), .slice eA ne ec, .slice gA m gc].toArray
  exact ⟨⟨xs, eA, ne, ec, gA, m, gc⟩, (v, es, gs), endK k2 T, vg, rfl, hIn5.only hO6 (hFr.mono (by omega)), hFr.mono (by omega), bunK_of HS'.out HX.out HNX.out rfl, hRg.only hO6 (by omega), hOO5.setRowNew hgl2 (Nat.le_refl _) _⟩
end Go.Proofs.YteppocjgodmpdaaGreatDoor
namespace Go.Proofs.YteppocjgodmpdaaGreatDoor
open Go.RowKit
section
variable {P : Program} {ops : Array Oper} {Q : Exit → Act → World → Prop}
theorem last_held2 {S : World → Prop} (hg : guardsOK ops = true) (hn : 0 < ops.size) (hdep : (List.range ops.size).all (fun i => (depsOf ops i).all (fun j => decide (j < i))) = true) (hlast : (List.range (ops.size - 1)).all (fun j => (depsOf ops (ops.size - 1)).contains j || (depsOf ops (ops.size - 1)).any (fun k => (depsOf ops k).contains j)) = true) :
    ∀ (fuel : Nat) (L M : Array Bool) (a : Act) (w : World), L.size = ops.size → M.size = ops.size - 1 → (∀ i, i < ops.size - 1 → M.getD i false = L.getD i false) → L.getD (ops.size - 1) false = false → (∀ k, L.getD k false = true → ∀ j ∈ depsOf ops k, L.getD j false = true) → wpAnyH P .any (initO ops) (LastQ P ops Q) S fuel M a w → wpAny P .any ops Q (fuel + 1) L a w := by
  have hdi : (List.range (initO ops).size).all (fun i => (depsOf (initO ops) i).all (fun j => decide (j < i))) = true := by
    rw [initO_size]
    refine List.all_eq_true.2 (fun i hi => ?_)
    have hi' := List.mem_range.1 hi
    rw [initO_deps ops i hi']
    exact List.all_eq_true.1 hdep i (List.mem_range.2 (by omega))
  have done : ∀ (fuel : Nat) (L : Array Bool) (a : Act) (w : World), L.size = ops.size → (∀ i, i < ops.size → L.getD i false = true) → Q .normal a w → wpAny P .any ops Q fuel L a w := by
    intro fuel L a w hL hall hq
    have hnil : Region.ready .any ops L = [] := by
      refine List.eq_nil_iff_forall_not_mem.2 (fun i hi => ?_)
      obtain ⟨h1, h2, _⟩ := ready_deps hi
      rw [getD_tf (by omega), hall i h1] at h2
      cases h2
    cases fuel with
    | zero => exact ⟨hnil, hq⟩
    | succ f => exact ⟨fun _ => hq, fun i hi => by rw [hnil] at hi; cases hi⟩
  have final : ∀ (fuel : Nat) (L M : Array Bool) (a : Act) (w : World), L.size = ops.size → M.size = ops.size - 1 → (∀ i, i < ops.size - 1 → M.getD i false = L.getD i false) → L.getD (ops.size - 1) false = false → Region.ready .any (initO ops) M = [] → LastQ P ops Q .normal a w → wpAny P .any ops Q (fuel + 1) L a w := by
    intro fuel L M a w hL hM hLM hl hr hq
    have hall := none_left hdi (by rw [initO_size]; exact hM) hr
    rw [initO_size] at hall
    have hmem : ops.size - 1 ∈ Region.ready .any ops L := ready_of (by omega) (by omega) hl (fun j hj => by
      have h1 := List.all_eq_true.1 hdep (ops.size - 1) (List.mem_range.2 (by omega))
      have hlt := of_decide_eq_true (List.all_eq_true.1 h1 _ hj)
      rw [← hLM j hlt]
      exact hall j hlt)
    refine ⟨fun hnil => (by rw [hnil] at hmem; cases hmem), fun i hi => ?_⟩
    obtain ⟨h1, h2, _⟩ := ready_deps hi
    have hin : i = ops.size - 1 := by
      by_cases e : i = ops.size - 1
      · exact e
      · rw [getD_tf (by omega), ← hLM i (by omega), hall i (by omega)] at h2
        cases h2
    subst hin
    refine wpOp_mono (fun a' w' hq' => done fuel _ a' w' (by simp [hL]) (fun j hj => ?_) hq') hq
    have hjl : j < L.size := by omega
    by_cases e : j = ops.size - 1
    · subst e
      simp [Array.getD, hjl]
    · have e2 : ops.size - 1 ≠ j := fun h => e h.symm
      have := (hLM j (by omega)).symm.trans (hall j (by omega))
      simp [Array.getD, hjl] at this
      simp [Array.getD, hjl, Array.getElem_setIfInBounds, e2, this]
  intro fuel
  induction fuel with
  | zero =>
    intro L M a w hL hM hLM hl hcl h
    exact final 0 L M a w hL hM hLM hl h.1 h.2
  | succ f ih =>
    intro L M a w hL hM hLM hl hcl h
    by_cases hr : Region.ready .any (initO ops) M = []
    · exact final (f + 1) L M a w hL hM hLM hl hr (h.1 hr)
    · obtain ⟨x, hx⟩ := List.exists_mem_of_ne_nil _ hr
      obtain ⟨x1, x2, x3⟩ := ready_deps hx
      rw [initO_size] at x1
      rw [initO_deps ops x x1] at x3
      rw [getD_tf (by omega)] at x2
      have hxr : x ∈ Region.ready .any ops L := ready_of (by omega) (by omega) (by rw [← hLM x x1]; exact x2) (fun j hj => by
        have h1 := List.all_eq_true.1 hdep x (List.mem_range.2 (by omega))
        have hlt := of_decide_eq_true (List.all_eq_true.1 h1 _ hj)
        rw [← hLM j (by omega)]
        exact x3 j hj)
      refine ⟨fun hnil => (by rw [hnil] at hxr; cases hxr), fun i hi => ?_⟩
      obtain ⟨h1, h2, h3⟩ := ready_deps hi
      have hin : i < ops.size - 1 := by
        by_cases e : i = ops.size - 1
        · subst e
          have hxm := List.all_eq_true.1 hlast x (List.mem_range.2 x1)
          have hx0 : L.getD x false = false := by rw [← hLM x x1]; exact x2
          rcases (Bool.or_eq_true _ _).mp hxm with hxm | hxm
          · have h4 := h3 x (by simpa using hxm)
            dsimp only at h4
            rw [hx0] at h4
            cases h4
          · obtain ⟨k, hk1, hk2⟩ := List.any_eq_true.1 hxm
            have h4 := hcl k (h3 k hk1) x (by simpa using hk2)
            rw [hx0] at h4
            cases h4
        · omega
      have hii : i ∈ Region.ready .any (initO ops) M := ready_of (by rw [initO_size]; exact hin) (by omega) (by rw [hLM i hin]; rw [getD_tf (by omega)] at h2; exact h2) (fun j hj => by
        rw [initO_deps ops i hin] at hj
        have h5 := List.all_eq_true.1 hdep i (List.mem_range.2 h1)
        have hlt := of_decide_eq_true (List.all_eq_true.1 h5 _ hj)
        rw [hLM j (by omega)]
        exact h3 j hj)
      have hop := h.2 i hii
      have hK : ∀ a' w', (S w' ∧ wpAnyH P .any (initO ops) (LastQ P ops Q) S f (M.setIfInBounds i true) a' w') → wpAny P .any ops Q (f + 1) (L.setIfInBounds i true) a' w' := fun a' w' hk =>
        ih (L.setIfInBounds i true) (M.setIfInBounds i true) a' w' (by simp [hL]) (by simp [hM]) (fun j hj => by
          have hjl : j < L.size := by omega
          have hjm : j < M.size := by omega
          have := hLM j hj
          simp [Array.getD, hjl, hjm] at this
          by_cases e : i = j
          · subst e
            simp [Array.getD, hjl, hjm]
          · simp [Array.getD, hjl, hjm, Array.getElem_setIfInBounds, e, this]) (by
          have hjl : ops.size - 1 < L.size := by omega
          have e : i ≠ ops.size - 1 := by omega
          simp [Array.getD, hjl] at hl
          simp [Array.getD, hjl, Array.getElem_setIfInBounds, e, hl]) (fun k hk' j hj => by
          have hset : ∀ m, L.getD m false = true → (L.setIfInBounds i true).getD m false = true := fun m hm => by
            by_cases hml : m < L.size
            · by_cases e : i = m
              · subst e
                simp [Array.getD, hml]
              · simp [Array.getD, hml] at hm
                simp [Array.getD, hml, Array.getElem_setIfInBounds, e, hm]
            · simp [Array.getD, hml] at hm
          by_cases e : i = k
          · subst e
            exact hset j (h3 j hj)
          · refine hset j (hcl k ?_ j hj)
            by_cases hkl : k < L.size
            · simp [Array.getD, hkl, Array.getElem_setIfInBounds, e] at hk'
              simp [Array.getD, hkl, hk']
            · simp [Array.getD, hkl] at hk') hk.2
      unfold wpOp at hop ⊢
      rw [initO_get ops i hin] at hop
      cases hoi : ops[i]? with
      | none =>
        rw [hoi] at hop
        exact hK _ _ hop
      | some o =>
        rw [hoi] at hop
        dsimp only at hop ⊢
        by_cases hw : Region.wanted o (yielded ops a.tmps) = true
        · have hwi : Region.wanted o (yielded (initO ops) a.tmps) = true := by rw [← wanted_init ops hg i o hoi a.tmps]; exact hw
          rw [if_pos hwi] at hop
          rw [if_pos hw]
          rcases hop with h6 | ⟨_, h6⟩
          · exact .inl (wp_of_lastQ (Oper.wp_mono hK h6))
          · exact (lastQ_lets h6).elim
        · have hwi : ¬ Region.wanted o (yielded (initO ops) a.tmps) = true := by rw [← wanted_init ops hg i o hoi a.tmps]; exact hw
          rw [if_neg hwi] at hop
          rw [if_neg hw]
          exact hK _ _ hop
theorem wp_region_last2 (S : World → Prop) (plan : Plan) {id : Nat} {a : Act} {w : World} (hS : S w.drew) (hm : P.follows .mixedOrders = true) (hs : Region.noSelect (initO ops) = true) (hg : guardsOK ops = true) (hn : 0 < ops.size) (hdep : (List.range ops.size).all (fun i => (depsOf ops i).all (fun j => decide (j < i))) = true) (hlast : (List.range (ops.size - 1)).all (fun j => (depsOf ops (ops.size - 1)).contains j || (depsOf ops (ops.size - 1)).any (fun k => (depsOf ops k).contains j)) = true)
    (hlen : plan.size = (initO ops).size) (hp : planOK (initO ops) plan (Array.replicate (initO ops).size false) = true) (h : wpPlan P (initO ops) (LastQ P ops Q) plan S a w.drew) : (Code.region id ops true).wp P Q a w := by
  refine wp_region_any hm ?_
  have h1 := wpPlan_held hs (fun _ _ _ _ _ h => h) plan S _ a w.drew hS hp h
  rw [hlen, initO_size] at h1
  have h2 := last_held2 (Q := Q) (S := S) hg hn hdep hlast (ops.size - 1) (Array.replicate ops.size false) (Array.replicate (ops.size - 1) false) a w.drew (by simp) (by simp) (fun i hi => by
    have : i < ops.size := by omega
    simp [Array.getD, hi, this]) (by
    have : ops.size - 1 < ops.size := by omega
    simp [Array.getD, this]) (fun k hk => by
    simp [Array.getD] at hk) h1
  rw [show ops.size - 1 + 1 = ops.size by omega] at h2
  exact h2
end
end Go.Proofs.YteppocjgodmpdaaGreatDoor
