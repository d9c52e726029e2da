/-
  Behind some writes and syncs of an area, and a crash, wherever the power goes, what the area has is a beginning of all that was written, all of what was sure (the walk of DiskKeeps). Conditions: as typed.
-/
import Derived.Test.YtkkfkibjamnpnaaP5
import Derived.Lib.SlBytesConst
import Derived.ProofKit
import Derived.OpenShut
import Derived.Deep.Slices
import Derived.Deep.Strs
import Derived.Test.YtkkfkibjamnpnaaRows
namespace Go.Proofs.Ytkkfkibjamnpnaa
set_option maxRecDepth 100000
open Go.RowKit
set_option linter.unusedSimpArgs false
set_option linter.unusedVariables false

def kp0 : DK := ⟨⟨[], 0⟩, ⟨[111, 116, 104, 101, 114], 0⟩, -1, 0, false⟩
def kp1 : DK := ⟨⟨[], 0⟩, othK, -1, 0, false⟩
def kp2 (F K : Nat) : DK := ⟨⟨[], 0⟩, othK, (F : Int), (K : Int), false⟩
theorem kp_write : writeD newD 1 [111, 116, 104, 101, 114] = (kp0, 0) := by rfl
theorem kp_sync : syncD kp0 1 = (kp1, 0) := by rfl
theorem kp_live (F K : Nat) : LiveD (kp2 F K) [] 0 othK := ⟨rfl, rfl, rfl, Int.le_refl _, by simp, rfl, by show -1 ≤ (F : Int); omega, by show (0 : Int) ≤ (K : Int); omega⟩

set_option maxHeartbeats 16000000 in
theorem diskkeeps_walk (ps : List Part) (A : Option Addr) (c : Nat) (bs : List Bool) (B : Option Addr) (d nb : Nat) (F K : Nat) (w : World) (hr : Rd vPart w A ps) (hps : ∀ p ∈ ps, PartOK w p) (hbs : Rd vT w B bs) (HNB : Hid (bs.length = nb)) (hF : F < 256) (hK : K < 256) (hpl : ps.length ≤ 9223372036854775807) (hbl : nb ≤ 9223372036854775807) :
    Calls Try.prog 5 #[.slice A ps.length c, .slice B nb d, .int .u8 (F : Int), .int .u8 (K : Int)] w fun e w' => e = .returned (.bool true) ∧ Below w.heap.size w w' := by
  obtain ⟨i0, hi, hz0, hz1, hz2⟩ := info_parts info_u8
  have HPS := Lib.hid hps
  obtain ⟨n, hn⟩ : ∃ n, ps.length = n := ⟨_, rfl⟩
  have HN := Lib.hid hn
  rw [hn] at hpl ⊢
  clear hps hn
  go_enter Try.func5, Try.ntmps5
  go_wp2_with fail
  refine (awake17_any _).mono ?_
  rintro e w1 ⟨rfl, hB⟩
  by_cases hn30 : 30 < n
  · have k1 : (30 : Int) < (n : Int) := by omega
    go_wp2_with fail
    go_ret
    exact ⟨rfl, hB⟩
  by_cases hnb : nb < n
  · have k1 : ¬ (30 : Int) < (n : Int) := by omega
    have k2 : (nb : Int) < (n : Int) := by omega
    go_wp2_with fail
    go_ret
    exact ⟨rfl, hB⟩
  have k1 : ¬ (30 : Int) < (n : Int) := by omega
  have k2 : ¬ (nb : Int) < (n : Int) := by omega
  go_wp2_with fail
  refine (new17_any _).mono ?_
  rintro e w2 ⟨rfl, hb⟩
  replace hB := below_step hB hb
  clear hb
  have hcv := Lib.run_convert_bytes_const (P := Try.prog) w2 22 5 #[.int .u8 111, .int .u8 116, .int .u8 104, .int .u8 101, .int .u8 114] 5 5 Try.underlying22 Try.underlying5
  have hro : Rd vB (w2.alloc (.cells #[.int .u8 111, .int .u8 116, .int .u8 104, .int .u8 101, .int .u8 114] 5 (5, 6))) (some ⟨w2.heap.size, 0, none⟩) [111, 116, 104, 101, 114] := Rd.new_fr w2 _ rfl _ _ _ _ rfl
  have hb1 := below_new (Below.refl _ w2) (.cells #[.int .u8 111, .int .u8 116, .int .u8 104, .int .u8 101, .int .u8 114] 5 (5, 6))
  replace hB := below_step hB hb1
  have HW := write17_any ⟨none, 0, 0, none, 0, 0⟩ newD 1 [111, 116, 104, 101, 114] (some ⟨w2.heap.size, 0, none⟩) 5 5 _ (newD_in _) rfl (Nat.le_refl _) hro (by decide) (by decide) (by decide) (by decide) (by decide)
  rw [kp_write] at HW
  unfold aggD
  unfold aggD at HW
  replace HW := Lib.hid HW
  clear hro hb1
  go_wp2_with fail
  refine HW.out.mono ?_
  rintro e w3 ⟨x, rfl, hIn, -, hb⟩
  replace hB := below_step hB hb
  have hg1 : w.heap.size ≤ w3.heap.size := hB.size
  clear hb HW hcv
  obtain ⟨hRz, hBz⟩ := box_of w3 27 [Value.slice none 0 0, .int .i64 0, .slice none 0 0, .int .i64 0, .int .i64 0, .int .i64 0, .bool false] _ rfl
  unfold aggD
  dsimp only
  go_upto_region 6 with (refine wpList_store_row rfl 27 (.tmp 9) (.tmp 38) rfl w3.heap.size rfl [Value.slice x.A0 x.n0 x.c0, .int .i64 kp0.a0.s, .slice x.A1 x.n1 x.c1, .int .i64 kp0.a1.s, .int .i64 kp0.fuse, .int .i64 kp0.keep, .bool kp0.down] rfl _ _ hRz (by exact size_disk) rfl (one_disk x kp0) ?_)
  have hR := hRz.setRow [Value.slice x.A0 x.n0 x.c0, .int .i64 kp0.a0.s, .slice x.A1 x.n1 x.c1, .int .i64 kp0.a1.s, .int .i64 kp0.fuse, .int .i64 kp0.keep, .bool kp0.down]
  have hbz : Below w3.heap.size w3 ((w3.alloc (.cells [Value.slice none 0 0, .int .i64 0, .slice none 0 0, .int .i64 0, .int .i64 0, .int .i64 0, .bool false].toArray 27)).setRow w3.heap.size [Value.slice x.A0 x.n0 x.c0, .int .i64 kp0.a0.s, .slice x.A1 x.n1 x.c1, .int .i64 kp0.a1.s, .int .i64 kp0.fuse, .int .i64 kp0.keep, .bool kp0.down].toArray) := below_setRow hBz (Nat.le_refl _) _
  replace hIn := hIn.keep hbz
  replace hB := below_step hB hbz
  clear hRz hBz hbz
  generalize (w3.alloc (.cells [Value.slice none 0 0, .int .i64 0, .slice none 0 0, .int .i64 0, .int .i64 0, .int .i64 0, .bool false].toArray 27)).setRow w3.heap.size [Value.slice x.A0 x.n0 x.c0, .int .i64 kp0.a0.s, .slice x.A1 x.n1 x.c1, .int .i64 kp0.a1.s, .int .i64 kp0.fuse, .int .i64 kp0.keep, .bool kp0.down].toArray = W at hR hIn hB ⊢
  generalize w3.heap.size = gd at hR hg1 ⊢
  have hn0 := hIn.l0
  have hn1 := hIn.l1
  have HS := sync17_any x kp0 1 W hIn (by rw [← hn0]; decide) (by rw [← hn1]; decide) (by decide) (by decide)
  rw [kp_sync] at HS
  unfold aggD at HS
  replace HS := Lib.hid HS
  clear hn0 hn1
  go_wp2_with (refine wpList_load_part rfl 27 (.tmp 9) rfl gd 0 rfl _ _ hR [Value.slice x.A0 x.n0 x.c0, .int .i64 kp0.a0.s, .slice x.A1 x.n1 x.c1, .int .i64 kp0.a1.s, .int .i64 kp0.fuse, .int .i64 kp0.keep, .bool kp0.down] (by rfl) _ Try.underlying27 rfl (by exact size_disk) ?_)
  refine HS.out.mono ?_
  rintro e w4 ⟨y, rfl, hIn2, -, hb⟩
  replace hR := hR.later hb
  replace hB := below_step hB hb
  clear hb HS hIn
  unfold aggD
  dsimp only
  go_upto_region 7 with (refine wpList_store_row rfl 27 (.tmp 9) (.tmp 43) rfl gd rfl [Value.slice y.A0 y.n0 y.c0, .int .i64 kp1.a0.s, .slice y.A1 y.n1 y.c1, .int .i64 kp1.a1.s, .int .i64 kp1.fuse, .int .i64 kp1.keep, .bool kp1.down] rfl _ _ hR (by exact size_disk) rfl (one_disk y kp1) ?_)
  have hR2 := hR.setRow [Value.slice y.A0 y.n0 y.c0, .int .i64 kp1.a0.s, .slice y.A1 y.n1 y.c1, .int .i64 kp1.a1.s, .int .i64 kp1.fuse, .int .i64 kp1.keep, .bool kp1.down]
  have hO := (Only.refl gd w4).setRow [Value.slice y.A0 y.n0 y.c0, .int .i64 kp1.a0.s, .slice y.A1 y.n1 y.c1, .int .i64 kp1.a1.s, .int .i64 kp1.fuse, .int .i64 kp1.keep, .bool kp1.down].toArray
  replace hIn2 := hIn2.no_byte hR (cellsD_no x kp0) hO
  replace hB := hB.trans (hO.below.mono hg1)
  clear hR hO
  generalize w4.setRow gd [Value.slice y.A0 y.n0 y.c0, .int .i64 kp1.a0.s, .slice y.A1 y.n1 y.c1, .int .i64 kp1.a1.s, .int .i64 kp1.fuse, .int .i64 kp1.keep, .bool kp1.down].toArray = W at hR2 hIn2 hB ⊢
  have f4 := hR2.frozen 4
  have c4 : W.cell? ⟨gd, 4, none⟩ = some (.int .i64 (-1)) := hR2.cell rfl
  have hR4 : Row (W.setCell ⟨gd, 4, none⟩ (.int .i64 (F : Int))) gd 27 [Value.slice y.A0 y.n0 y.c0, .int .i64 kp1.a0.s, .slice y.A1 y.n1 y.c1, .int .i64 kp1.a1.s, .int .i64 (F : Int), .int .i64 kp1.keep, .bool kp1.down] := hR2.setCell 4 _
  have f5 := hR4.frozen 5
  have c5 : (W.setCell ⟨gd, 4, none⟩ (.int .i64 (F : Int))).cell? ⟨gd, 5, none⟩ = some (.int .i64 0) := hR4.cell rfl
  have hR5 : Row ((W.setCell ⟨gd, 4, none⟩ (.int .i64 (F : Int))).setCell ⟨gd, 5, none⟩ (.int .i64 (K : Int))) gd 27 [Value.slice y.A0 y.n0 y.c0, .int .i64 (kp2 F K).a0.s, .slice y.A1 y.n1 y.c1, .int .i64 (kp2 F K).a1.s, .int .i64 (kp2 F K).fuse, .int .i64 (kp2 F K).keep, .bool (kp2 F K).down] := hR4.setCell 5 _
  have hO : Only gd W ((W.setCell ⟨gd, 4, none⟩ (.int .i64 (F : Int))).setCell ⟨gd, 5, none⟩ (.int .i64 (K : Int))) := ((Only.refl _ W).setCell 4 _).setCell 5 _
  go_upto_region 10 with fail
  replace hIn2 := hIn2.no_byte hR2 (cellsD_no y kp1) hO
  replace hB := hB.trans (hO.below.mono hg1)
  clear hR2 hR4 hO f4 c4 f5 c5
  generalize (W.setCell ⟨gd, 4, none⟩ (.int .i64 (F : Int))).setCell ⟨gd, 5, none⟩ (.int .i64 (K : Int)) = W at hR5 hIn2 hB ⊢
  have hIn3 : InD W y (kp2 F K) := ⟨hIn2.l0, hIn2.h0, hIn2.r0, hIn2.l1, hIn2.h1, hIn2.r1⟩
  clear hIn2
  have HST : Hid (KeepRel ps gd w (.slice none 0 0) (.int .i64 0) (.int .i64 0) W) := ⟨0, 0, y, kp2 F K, Nat.zero_le _, rfl, rfl, World.ownsRow_nil _ _ _ _, hR5, hIn3, ⟨fun _ a _ e => by simp [Value.ownBlock] at e, fun _ a _ e => by simp [Value.ownBlock] at e⟩, .inl (kp_live F K), Nat.zero_le _, Nat.zero_le _, ⟨by show (F : Int) ≤ 255; omega, by show (K : Int) ≤ 255; omega⟩, hB⟩
  clear hR5 hIn3
  go_wp2_with fail
  go_loopw [12, 13, 14] (fun v s i wr => KeepRel ps gd w v s i wr) (fun _ _ i _ => n - (intOf i).toNat)
  case atStart => exact HST.out
  case round =>
    clear HST hB
    obtain ⟨j, u, x, D, hj, rfl, rfl, ho, hR, hIn, hap, hst, hlen, hul, hsm, hB⟩ := hrel
    rw [HN.out] at hj
    obtain ⟨La, hLa⟩ : ∃ La, flatL (ps.take j) = La := ⟨_, rfl⟩
    rw [hLa] at ho hst hlen hul
    have HLA := Lib.hid hLa
    obtain ⟨q, hq⟩ : ∃ q, La.length = q := ⟨_, rfl⟩
    rw [hq] at ho hlen hul
    have HQ := Lib.hid hq
    clear hLa hq
    have hst2 := Lib.hid hst
    have HAP := Lib.hid hap
    have HSM := Lib.hid hsm
    have HB := Lib.hid hB
    have HO := Lib.hid ho
    have HIN := Lib.hid hIn
    clear hst hap hsm hB ho hIn
    obtain ⟨T, hT⟩ : ∃ T, decide (j < n ∧ D.down = false) = T := ⟨_, rfl⟩
    have HTT := Lib.hid hT
    clear hT
    have c6 : wr.cell? ⟨gd, 6, none⟩ = some (.bool D.down) := hR.cell rfl
    go_upto_region 13 with fail
    go_cut [65] (fun vt wx => vt = .bool T ∧ wr = wx)
    case first =>
      by_cases hjn : j < n
      · have k3 : (j : Int) < (n : Int) := by omega
        by_cases hd : D.down = true
        · rw [hd] at c6
          have eT : T = false := by rw [← HTT.out]; exact decide_eq_false (fun h => by rw [hd] at h; exact absurd h.2 (by decide))
          subst eT
          clear hd
          go_wp2_with fail
          go_meet
          case rel => exact ⟨rfl, rfl⟩
        · rw [Bool.not_eq_true] at hd
          rw [hd] at c6
          have eT : T = true := by rw [← HTT.out]; exact decide_eq_true ⟨hjn, hd⟩
          subst eT
          clear hd
          go_wp2_with fail
          go_meet
          case rel => exact ⟨rfl, rfl⟩
      · have k3 : ¬ (j : Int) < (n : Int) := by omega
        have eT : T = false := by rw [← HTT.out]; exact decide_eq_false (fun h => hjn h.1)
        subst eT
        go_wp2_with fail
        go_meet
        case rel => exact ⟨rfl, rfl⟩
    case rest =>
      obtain ⟨rfl, rfl⟩ := hcut
      clear c6
      cases T with
      | true =>
        obtain ⟨hjn, hdn⟩ := of_decide_eq_true HTT.out
        have hlive : LiveD D La (u : Int) othK := by
          rcases hst2.out with h | h
          · exact h
          · rw [h.dn] at hdn
            exact absurd hdn (by decide)
        have HLIVE := Lib.hid hlive
        clear hlive hdn HTT hst2
        have hjp : j < ps.length := by rw [HN.out]; exact hjn
        obtain ⟨blk, o, rfl, hblk, hcell⟩ := hr.at hjp
        have hpk := HPS.out ps[j] (List.getElem_mem hjp)
        have HFL : Hid (flatL (ps.take (j + 1)) = La ++ ps[j].l) := by unfold Hid; rw [flatL_take ps j hjp, HLA.out]
        have HC0 : Hid (w.cell? ⟨blk, o + j, none⟩ = some (vPart ps[j])) := hcell j hjp
        generalize ps[j] = p at hpk HFL HC0
        obtain ⟨pA, pc, pl⟩ := p
        obtain ⟨hrp, hpc⟩ := hpk
        dsimp only at hrp hpc HFL
        unfold vPart at HC0
        obtain ⟨m, hm⟩ : ∃ m, pl.length = m := ⟨_, rfl⟩
        rw [hm] at hpc
        have HM := Lib.hid hm
        have HCE : Hid (w.cell? ⟨blk, o + j, none⟩ = some (.slice pA m pc)) := by unfold Hid; rw [← hm]; exact HC0.out
        clear hm HC0 hcell hjp
        have k3 : (0 : Int) ≤ (j : Int) := by omega
        have k4 : (j : Int) < (n : Int) := by omega
        have t0 : wr.cell? ⟨blk, o + j, none⟩ = some (.slice pA m pc) := (HB.out.cell (p := ⟨blk, o + j, none⟩) hblk).trans HCE.out
        by_cases hm300 : 300 < m
        · have k5 : (300 : Int) < (m : Int) := by omega
          go_wp2_with fail
          go_ret
          exact ⟨rfl, HB.out⟩
        have k5 : ¬ (300 : Int) < (m : Int) := by omega
        have hrp1 := hrp.keep HB.out
        have hgl := hR.lt
        go_upto_region 18 with (at_builtin; refine wpList_append_apart _ rfl (.tmp 74) (.tmp 78) 22 rfl (gd + 1) 5 i0 (.int .u8 0) 1 Try.underlying22 hi hz0 hz1 hz2 rfl _ _ _ rfl HO.out pA pl pc (by rw [HM.out]; rfl) hrp1 vB_one (by rw [HM.out]; unfold maxLen; omega) (by rw [HM.out]; omega) (by omega) ?_; intro v1 w1 hown1 hgrow1 hat1)
        obtain ⟨q2, hq2⟩ : ∃ q2, q + m = q2 := ⟨_, rfl⟩
        have HQ2 := Lib.hid hq2
        rw [HM.out, ← List.map_append, hq2] at hown1
        clear hq2
        have hnb1 : ∀ g, Value.ownBlock _ = some g → gd + 1 ≤ g := fun g hg => (HO.out.lt g hg).1
        replace hR := hR.grown hgrow1 (fun e => by have := hnb1 gd e; omega)
        replace HIN := Lib.hid (HIN.out.grownC hgrow1 HAP.out)
        have hB1 : Below w.heap.size w w1 := HB.out.grown hgrow1 HB.out.size (fun g hg => by have := hnb1 g hg; omega)
        have hv1 : ∀ g, v1.ownBlock = some g → g < w1.heap.size := fun g hg => (hown1.lt g hg).2
        have hrp2 := hrp.keep hB1
        have t1 : w1.cell? ⟨blk, o + j, none⟩ = some (.slice pA m pc) := (hB1.cell (p := ⟨blk, o + j, none⟩) hblk).trans HCE.out
        have hvb : ∀ g, v1.ownBlock = some g → gd + 1 ≤ g := fun g hg => (hown1.lt g hg).1
        have hgdW : gd < w1.heap.size := hR.lt
        clear t0 hrp1 hgrow1 hat1 HO HAP HB hnb1 hgl
        have hq1 : q + m ≤ 1048576 := by omega
        obtain ⟨SO, hSO⟩ : ∃ SO, writeD D 0 pl = SO := ⟨_, rfl⟩
        have hwl := write_live HLIVE.out oth_right oth_sure (b := pl) (by rw [HQ.out, HM.out]; exact hq1)
        have hsw : smallD (writeD D 0 pl).1 := step_small HSM.out
        rw [hSO] at hwl hsw
        obtain ⟨DS, er⟩ := SO
        dsimp only at hwl hsw
        have HWL := Lib.hid hwl
        have HSW := Lib.hid hsw
        have hx0 := HIN.out.l0
        have hx1 := HIN.out.l1
        have hx2 : D.a0.b.length = q := by rw [HLIVE.out.b, HQ.out]
        have hx3 : D.a1.b.length = 5 := by rw [HLIVE.out.o]; rfl
        have HWR : Hid (∀ wq : World, InD wq x D → Rd vB wq pA pl → Calls Try.prog 8 #[.agg #[Value.slice x.A0 x.n0 x.c0, .int .i64 D.a0.s, .slice x.A1 x.n1 x.c1, .int .i64 D.a1.s, .int .i64 D.fuse, .int .i64 D.keep, .bool D.down], .int .i64 0, .slice pA m pc] wq (RetD wq DS er)) := fun wq h1 h2 => by
          have := write17_any x D 0 pl pA m pc wq h1 HM.out hpc h2 (by omega) (by omega) (by omega) (by have := HSM.out.1; omega) (by have := HSM.out.2; omega)
          rw [hSO] at this
          unfold aggD at this
          exact this
        clear hSO hwl hsw hx0 hx1 hx2 hx3
        rename World => W
        have hIn := HIN.out
        go_cut [15, 16] (fun vp ve wcut => CutW W DS er vp ve wcut)
        case first =>
          have hBd : Below W.heap.size W W.drew := (Below.refl _ _).drew
          have hS : DkS gd x D (fun Z => Z.cell? ⟨blk, o + j, none⟩ = some (.slice pA m pc)) W.drew := DkS.of (hR.later hBd) (fun Z hZ => (hZ.cell (p := ⟨blk, o + j, none⟩) (World.block_lt_of_cell? _ _ t1)).trans t1)
          have hrm := hrp2.keep hBd
          have hInD := hIn.keep hBd
          refine wp_region_plan_of (dkS gd x D (fun Z => Z.cell? ⟨blk, o + j, none⟩ = some (.slice pA m pc))) (.step 0 false (.step 1 false (.step 2 false (.step 3 false (.step 4 false (.fork 5 (.step 6 false (.step 7 false (.step 8 false (.step 9 true (.step 10 true (.step 11 false (.nil))))))) 9 (.step 5 true (.step 6 false (.step 7 false (.step 8 false (.step 10 true (.step 11 false (.nil))))))))))))) hS.now (by kernel_rfl) (by kernel_rfl) (by rfl) (by kernel_rfl) ?_
          generalize W.drew = wd at hBd hS hInD t1 hrm ⊢
          have hBs := hBd.size
          iterate 5 (refine plan_read rfl (by rfl) (v := ?_) ?_ ?_; rotate_left 1; (intro W hW; (try dsimp only at hW); obtain ⟨hW0, hW1⟩ := hW; go_simp <;> with_reducible rfl); simp only [List.getElem_toArray, List.getElem_cons_zero, List.getElem_cons_succ, Act.put, List.setIfInBounds_toArray, List.set_cons_zero, List.set_cons_succ])
          refine plan_fork rfl rfl (by rfl) (by rfl) (fun K hK => ?_) (fun K hK => ?_)
          · go_simp
            refine (HWR.out _ (hInD.keep (Below.refl wd.heap.size wd)) (hrm.keep (Below.refl wd.heap.size wd))).mono ?_
            rintro e' wy ⟨y, rfl, hIy, hFy, hby⟩
            have hbw := below_step (Below.refl wd.heap.size wd) hby
            replace hFy : FreshD W.heap.size y := hFy.mono (by have := hBd.size; have := ((Below.refl wd.heap.size wd)).size; omega)
            refine hK.out _ _ (hS.keep hbw) ?_
            clear hK K
            unfold aggD
            iterate 3 (refine plan_read rfl (by rfl) (v := ?_) ?_ ?_; rotate_left 1; (intro W hW; (try dsimp only at hW); obtain ⟨hW0, hW1⟩ := hW; go_simp <;> with_reducible rfl); simp only [List.getElem_toArray, List.getElem_cons_zero, List.getElem_cons_succ, Act.put, List.setIfInBounds_toArray, List.set_cons_zero, List.set_cons_succ])
            refine plan_make_of rfl (by rfl) (fun K hK => ?_)
            obtain ⟨hRz, hbz⟩ := box_of wy 27 [Value.slice none 0 0, .int .i64 0, .slice none 0 0, .int .i64 0, .int .i64 0, .int .i64 0, .bool false] _ rfl
            go_simp
            have hbq := below_step hbw hbz
            refine hK.out _ _ (hS.keep hbq) ?_
            clear hK K
            replace hIy := hIy.keep hbz
            have hgz : wd.heap.size ≤ wy.heap.size := hbw.size
            clear hbw
            generalize hwz : wy.alloc (.cells [Value.slice none 0 0, .int .i64 0, .slice none 0 0, .int .i64 0, .int .i64 0, .int .i64 0, .bool false].toArray 27) = wz at hRz hbq hIy ⊢
            generalize wy.heap.size = gz at hRz hgz ⊢
            (refine plan_make_of rfl (by rfl) (fun K hK => ?_); refine Row.wp_store 27 (.tmp 15) (.tmp 87) rfl rfl (cellsD y DS) rfl hRz (by exact size_disk) rfl (one_disk y DS) ?_; refine hK.out _ _ (hS.keep (below_setRow hbq (by omega) _)) ?_; clear hK K)
            iterate 1 (refine plan_read rfl (by rfl) (v := ?_) ?_ ?_; rotate_left 1; (intro W hW; (try dsimp only at hW); obtain ⟨hW0, hW1⟩ := hW; go_simp <;> with_reducible rfl); simp only [List.getElem_toArray, List.getElem_cons_zero, List.getElem_cons_succ, Act.put, List.setIfInBounds_toArray, List.set_cons_zero, List.set_cons_succ])
            refine plan_done ?_
            have HREL : Hid (CutW W DS er (.pointer (some ⟨gz, 0, none⟩)) (.int .i64 er) (wz.setRow gz (cellsD y DS).toArray)) := ⟨gz, y, rfl, rfl, by have := hBd.size; omega, hRz.setRow _, hIy.no_byte hRz (disk_no none 0 0 0 none 0 0 0 0 0 false) ((Only.refl _ _).setRow _), hFy, below_step hBd (below_setRow hbq (by omega) _)⟩
            go_wp2_with fail
            go_meet
            case rel => exact HREL.out
          · obtain ⟨hRz, hbz⟩ := box_of wd 27 [Value.slice none 0 0, .int .i64 0, .slice none 0 0, .int .i64 0, .int .i64 0, .int .i64 0, .bool false] _ rfl
            go_simp
            have hbq := below_step (Below.refl wd.heap.size wd) hbz
            have hgz : wd.heap.size ≤ wd.heap.size := ((Below.refl wd.heap.size wd)).size
            refine hK.out _ _ (hS.keep hbq) ?_
            clear hK K
            have hrm2 := hrm.keep hbz
            clear hbz
            generalize wd.alloc (.cells [Value.slice none 0 0, .int .i64 0, .slice none 0 0, .int .i64 0, .int .i64 0, .int .i64 0, .bool false].toArray 27) = wq at hRz hbq hrm2 ⊢
            refine plan_make_of rfl (by rfl) (fun K hK => ?_)
            go_simp
            refine (HWR.out _ (hInD.keep hbq) hrm2).mono ?_
            rintro e' wz ⟨y, rfl, hIy, hFy, hby⟩
            replace hRz := hRz.later hby
            have hgz2 := hbq.size
            replace hFy : FreshD W.heap.size y := hFy.mono (by have := hBd.size; omega)
            replace hbq := below_step hbq hby
            refine hK.out _ _ (hS.keep hbq) ?_
            clear hK K
            unfold aggD
            iterate 3 (refine plan_read rfl (by rfl) (v := ?_) ?_ ?_; rotate_left 1; (intro W hW; (try dsimp only at hW); obtain ⟨hW0, hW1⟩ := hW; go_simp <;> with_reducible rfl); simp only [List.getElem_toArray, List.getElem_cons_zero, List.getElem_cons_succ, Act.put, List.setIfInBounds_toArray, List.set_cons_zero, List.set_cons_succ])
            (refine plan_make_of rfl (by rfl) (fun K hK => ?_); refine Row.wp_store 27 (.tmp 15) (.tmp 87) rfl rfl (cellsD y DS) rfl hRz (by exact size_disk) rfl (one_disk y DS) ?_; refine hK.out _ _ (hS.keep (below_setRow hbq (by omega) _)) ?_; clear hK K)
            iterate 1 (refine plan_read rfl (by rfl) (v := ?_) ?_ ?_; rotate_left 1; (intro W hW; (try dsimp only at hW); obtain ⟨hW0, hW1⟩ := hW; go_simp <;> with_reducible rfl); simp only [List.getElem_toArray, List.getElem_cons_zero, List.getElem_cons_succ, Act.put, List.setIfInBounds_toArray, List.set_cons_zero, List.set_cons_succ])
            refine plan_done ?_
            have HREL : Hid (CutW W DS er (.pointer (some ⟨wd.heap.size, 0, none⟩)) (.int .i64 er) (wz.setRow wd.heap.size (cellsD y DS).toArray)) := ⟨wd.heap.size, y, rfl, rfl, by have := hBd.size; omega, hRz.setRow _, hIy.no_byte hRz (disk_no none 0 0 0 none 0 0 0 0 0 false) ((Only.refl _ _).setRow _), hFy, below_step hBd (below_setRow hbq (by omega) _)⟩
            go_wp2_with fail
            go_meet
            case rel => exact HREL.out
        case rest =>
          rename World => w2
          obtain ⟨g15, y, rfl, rfl, hg15, hR15, hIy, hFy, hb⟩ := hcut
          replace hR := hR.later hb
          replace hown1 := ownsRow_later hown1 hb
          replace hB1 := below_step hB1 hb
          have hgd : gd < g15 := by have := hR.lt; have := hgdW; omega
          have hv2 : ∀ g, v1.ownBlock = some g → g < g15 := fun g hg => by have := hv1 g hg; omega
          have hWw2 : W.heap.size ≤ w2.heap.size := hb.size
          clear hb hIn HIN HWR hrp2 t1
          have HL2 : Hid ((La ++ pl).length = q2) := by unfold Hid; rw [List.length_append, HQ.out, HM.out]; exact HQ2.out
          obtain ⟨L2, hL2⟩ : ∃ L2, La ++ pl = L2 := ⟨_, rfl⟩
          rw [hL2] at hown1 HL2 HFL
          replace HWL : Hid ((er = 0 ∧ LiveD DS L2 (u : Int) othK) ∨ (er = 14 ∧ DeadD DS L2 (u : Int) othK)) := by rw [← hL2]; exact HWL.out
          clear hL2 HLIVE HLA HSM
          have hR15' : Row w2 g15 27 [Value.slice y.A0 y.n0 y.c0, .int .i64 DS.a0.s, .slice y.A1 y.n1 y.c1, .int .i64 DS.a1.s, .int .i64 DS.fuse, .int .i64 DS.keep, .bool DS.down] := hR15
          clear hR15
          obtain ⟨E, ce, rfl, hce⟩ := own_form hown1
          have HOW := Lib.hid hown1
          clear hown1
          have hjb : j < bs.length := by rw [HNB.out]; omega
          obtain ⟨bb, ob, rfl, hbb, hbc⟩ := hbs.at hjb
          have hbj : w2.cell? ⟨bb, ob + j, none⟩ = some (.bool bs[j]) := (hB1.cell (p := ⟨bb, ob + j, none⟩) hbb).trans (hbc j hjb)
          have k6 : (j : Int) < (nb : Int) := by omega
          generalize bs[j] = sy at hbj
          clear hbc hjb
          obtain ⟨T2, hT2⟩ : ∃ T2, decide (er = 0 ∧ sy = true) = T2 := ⟨_, rfl⟩
          have HT2 := Lib.hid hT2
          clear hT2
          go_upto_region 19 with fail
          go_cut [96] (fun vt wcut => vt = .bool T2 ∧ w2 = wcut)
          case first =>
            rcases HWL.out with ⟨e0, hl⟩ | ⟨e0, hd⟩
            · subst e0
              have e2 : sy = T2 := by rw [← HT2.out]; simp
              subst e2
              clear hl
              go_wp2_with fail
              go_meet
              case rel => exact ⟨rfl, rfl⟩
            · subst e0
              have e2 : T2 = false := by rw [← HT2.out]; simp
              subst e2
              clear hd
              go_wp2_with fail
              go_meet
              case rel => exact ⟨rfl, rfl⟩
          case rest =>
          obtain ⟨rfl, rfl⟩ := hcut
          clear hbj
          go_upto_if 96 with fail
          go_cut [13, 16] (fun v13 v16 wcut => KeepCut w2 g15 W.heap.size L2 v13 v16 wcut)
          case first =>
            cases T2 with
            | true =>
                have her : er = 0 := (of_decide_eq_true HT2.out).1
                have hl : LiveD DS L2 (u : Int) othK := by
                  rcases HWL.out with ⟨_, hl⟩ | ⟨e0, _⟩
                  · exact hl
                  · omega
                have HLV := Lib.hid hl
                clear hl her
                have hn0 := hIy.l0
                have hn1 := hIy.l1
                have hb0 : DS.a0.b.length = q2 := by rw [HLV.out.b, HL2.out]
                have hb1 : DS.a1.b.length = 5 := by rw [HLV.out.o]; rfl
                have hq2 := HQ2.out
                obtain ⟨SO, hSO⟩ : ∃ SO, syncD DS 0 = SO := ⟨_, rfl⟩
                have hs := sync17_any y DS 0 w2 hIy (by omega) (by omega) (by have := HSW.out.1; omega) (by have := HSW.out.2; omega)
                have hsl := sync_live HLV.out oth_right oth_sure (by rw [HL2.out]; omega)
                have hsw2 : smallD (syncD DS 0).1 := step_small HSW.out
                rw [hSO] at hs hsl hsw2
                obtain ⟨D2, e2⟩ := SO
                dsimp only at hsl hsw2
                unfold aggD at hs
                have HS := Lib.hid hs
                have HSL := Lib.hid hsl
                have HSW2 := Lib.hid hsw2
                clear hs hsl hsw2 hSO hn0 hn1 hb0 hb1 hq2
                go_wp2_with (refine wpList_load_part rfl 27 (.tmp 15) rfl g15 0 rfl _ _ hR15' [Value.slice y.A0 y.n0 y.c0, .int .i64 DS.a0.s, .slice y.A1 y.n1 y.c1, .int .i64 DS.a1.s, .int .i64 DS.fuse, .int .i64 DS.keep, .bool DS.down] (by rfl) _ Try.underlying27 rfl (by exact size_disk) ?_)
                refine HS.out.mono ?_
                rintro e ws ⟨z, rfl, hIz, hFz, hb⟩
                have hR16 := hR15'.later hb
                have hOl : Only g15 w2 ws := Only.later hb (by have := hR15'.lt; omega)
                have hsz := hb.size
                unfold aggD
                dsimp only
                go_upto_region 21 with (refine wpList_store_row rfl 27 (.tmp 15) (.tmp 100) rfl g15 rfl [Value.slice z.A0 z.n0 z.c0, .int .i64 D2.a0.s, .slice z.A1 z.n1 z.c1, .int .i64 D2.a1.s, .int .i64 D2.fuse, .int .i64 D2.keep, .bool D2.down] rfl _ _ hR16 (by exact size_disk) rfl (one_disk z D2) ?_)
                have hRz := hR16.setRow [Value.slice z.A0 z.n0 z.c0, .int .i64 D2.a0.s, .slice z.A1 z.n1 z.c1, .int .i64 D2.a1.s, .int .i64 D2.fuse, .int .i64 D2.keep, .bool D2.down]
                have hOz : Only g15 w2 (ws.setRow g15 [Value.slice z.A0 z.n0 z.c0, .int .i64 D2.a0.s, .slice z.A1 z.n1 z.c1, .int .i64 D2.a1.s, .int .i64 D2.fuse, .int .i64 D2.keep, .bool D2.down].toArray) := hOl.setRow _
                have hIzz := hIz.no_byte hR16 (cellsD_no y DS) ((Only.refl g15 ws).setRow [Value.slice z.A0 z.n0 z.c0, .int .i64 D2.a0.s, .slice z.A1 z.n1 z.c1, .int .i64 D2.a1.s, .int .i64 D2.fuse, .int .i64 D2.keep, .bool D2.down].toArray)
                have hFzz : FreshD W.heap.size z := hFz.mono (by have := hWw2; omega)
                clear hb hOl HS hR16 hIz hFz hR15' hIy hFy
                generalize ws.setRow g15 [Value.slice z.A0 z.n0 z.c0, .int .i64 D2.a0.s, .slice z.A1 z.n1 z.c1, .int .i64 D2.a1.s, .int .i64 D2.fuse, .int .i64 D2.keep, .bool D2.down].toArray = wz at hRz hOz hIzz ⊢
                rcases HSL.out with ⟨f0, hl2⟩ | ⟨f0, hd2⟩
                · subst f0
                  have HV2 : Hid (LiveD D2 L2 (q2 : Int) othK) := by unfold Hid; rw [← HL2.out]; exact hl2
                  clear hl2 HSL
                  go_wp2_with fail
                  go_meet
                  case rel => exact ⟨D2, z, q2, 0, rfl, rfl, hRz, hIzz, hFzz, .inl ⟨rfl, HV2.out⟩, by rw [HL2.out]; exact Nat.le_refl _, HSW2.out, hOz⟩
                · subst f0
                  have HV2 := Lib.hid hd2
                  clear hd2 HSL
                  go_wp2_with fail
                  go_meet
                  case rel => exact ⟨D2, z, u, 14, rfl, rfl, hRz, hIzz, hFzz, .inr ⟨rfl, HV2.out⟩, by rw [HL2.out]; have := HQ2.out; omega, HSW2.out, hOz⟩
            | false =>
                go_wp2_with fail
                go_meet
                case rel => exact ⟨DS, y, u, er, rfl, rfl, hR15', hIy, hFy, HWL.out, by rw [HL2.out]; have := HQ2.out; omega, HSW.out, Only.refl _ _⟩
          case rest =>
            rename World => w3
            obtain ⟨D3, x3, u3, e3, rfl, rfl, hR3, hI3, hF3, hst3, hu3, hs3, hO3⟩ := hcut
            have hRd3 : Row w3 gd 27 [Value.slice x.A0 x.n0 x.c0, .int .i64 D.a0.s, .slice x.A1 x.n1 x.c1, .int .i64 D.a1.s, .int .i64 D.fuse, .int .i64 D.keep, .bool D.down] := (hO3.other gd (by omega) hR.lt).trans hR
            have how3 := ownsRow_but HOW.out (g := g15) (fun e => by have := hv2 _ e; omega) hO3.other
            have hB3 := hB1.trans (hO3.below.mono (show w.heap.size ≤ g15 by omega))
            clear hR HOW hB1 hIy hR15' HWL HSW hO3
            have HST3 := Lib.hid hst3
            clear hst3
            have HREL : Hid (KeepRel ps gd w (.slice E q2 ce) (.int .i64 (u3 : Int)) (.int .i64 ((j : Int) + 1)) (w3.setRow gd [Value.slice x3.A0 x3.n0 x3.c0, .int .i64 D3.a0.s, .slice x3.A1 x3.n1 x3.c1, .int .i64 D3.a1.s, .int .i64 D3.fuse, .int .i64 D3.keep, .bool D3.down].toArray)) := by
              refine ⟨j + 1, u3, x3, D3, by rw [HN.out]; omega, by go_num, rfl, ?_, hRd3.setRow _, hI3.no_byte hRd3 (cellsD_no x D) ((Only.refl gd w3).setRow _), apD.fresh hF3 hv1, ?_, ?_, ?_, hs3, below_setRow hB3 (by omega) _⟩
              · rw [HFL.out, HL2.out]
                exact ownsRow_but how3 (g := gd) (fun e => by have := hvb _ e; omega) (fun b hb _ => Go.setRow_other w3 gd b _ hb)
              · rw [HFL.out]
                rcases HST3.out with ⟨_, h⟩ | ⟨_, h⟩
                · exact .inl h
                · exact .inr h
              · rw [HFL.out, HL2.out]
                have := HQ2.out
                omega
              · rw [HFL.out]
                exact hu3
            rcases HST3.out with ⟨e0, hl⟩ | ⟨e0, hd⟩
            · subst e0
              have c6 : w3.cell? ⟨g15, 6, none⟩ = some (.bool false) := by rw [← hl.up]; exact hR3.cell rfl
              clear hl HST3
              go_wp2_with (first
                | (refine wpList_load_part rfl 27 (.tmp 15) rfl g15 0 rfl _ _ hR3 [Value.slice x3.A0 x3.n0 x3.c0, .int .i64 D3.a0.s, .slice x3.A1 x3.n1 x3.c1, .int .i64 D3.a1.s, .int .i64 D3.fuse, .int .i64 D3.keep, .bool D3.down] (by rfl) _ Try.underlying27 rfl (by exact size_disk) ?_)
                | (refine wpList_store_row rfl 27 (.tmp 9) (.tmp 119) rfl gd rfl [Value.slice x3.A0 x3.n0 x3.c0, .int .i64 D3.a0.s, .slice x3.A1 x3.n1 x3.c1, .int .i64 D3.a1.s, .int .i64 D3.fuse, .int .i64 D3.keep, .bool D3.down] rfl _ _ hRd3 (by exact size_disk) rfl (one_disk x3 D3) ?_))
              go_roundw
              case rel => exact HREL.out
              case measure => simp [intOf]; omega
            · subst e0
              have c6 : w3.cell? ⟨g15, 6, none⟩ = some (.bool true) := by rw [← hd.dn]; exact hR3.cell rfl
              clear hd HST3
              go_wp2_with (first
                | (refine wpList_load_part rfl 27 (.tmp 15) rfl g15 0 rfl _ _ hR3 [Value.slice x3.A0 x3.n0 x3.c0, .int .i64 D3.a0.s, .slice x3.A1 x3.n1 x3.c1, .int .i64 D3.a1.s, .int .i64 D3.fuse, .int .i64 D3.keep, .bool D3.down] (by rfl) _ Try.underlying27 rfl (by exact size_disk) ?_)
                | (refine wpList_store_row rfl 27 (.tmp 9) (.tmp 119) rfl gd rfl [Value.slice x3.A0 x3.n0 x3.c0, .int .i64 D3.a0.s, .slice x3.A1 x3.n1 x3.c1, .int .i64 D3.a1.s, .int .i64 D3.fuse, .int .i64 D3.keep, .bool D3.down] rfl _ _ hRd3 (by exact size_disk) rfl (one_disk x3 D3) ?_))
              go_roundw
              case rel => exact HREL.out
              case measure => simp [intOf]; omega
      | false =>
        clear HTT
        obtain ⟨E, ce, rfl, hce⟩ := own_form HO.out
        have hgb : ∀ g, (Value.slice E q ce).ownBlock = some g → gd + 1 ≤ g := fun g hg => (HO.out.lt g hg).1
        obtain ⟨dn, hdn⟩ : ∃ dn, D.down = dn := ⟨_, rfl⟩
        have HDN := Lib.hid hdn
        have c6 : wr.cell? ⟨gd, 6, none⟩ = some (.bool dn) := by rw [← hdn]; exact hR.cell rfl
        clear hdn
        go_upto_if 122 with fail
        go_cut [] (fun wcut => KeepEnd wr gd La u wcut)
        case first =>
          rcases hst2.out with hl | hd
          · have e0 : dn = false := by rw [← HDN.out]; exact hl.up
            subst e0
            have HLV := Lib.hid hl
            have hn0 := HIN.out.l0
            have hn1 := HIN.out.l1
            have hb0 : D.a0.b.length = q := by rw [hl.b, HQ.out]
            have hb1 : D.a1.b.length = 5 := by rw [hl.o]; rfl
            obtain ⟨SO, hSO⟩ : ∃ SO, crashD D (K : Int) = SO := ⟨_, rfl⟩
            have hs := crash17_any x D (K : Int) wr HIN.out (by omega) (by omega) (by omega)
            have hsl := crash_live hl oth_right oth_sure (by rw [HQ.out]; omega) (show (0 : Int) ≤ (K : Int) by omega)
            have hsw : smallD (crashD D (K : Int)).1 := crash_small HSM.out
            rw [hSO] at hs hsl hsw
            obtain ⟨D4, e4⟩ := SO
            dsimp only at hsl hsw
            obtain ⟨e5, hd4⟩ := hsl
            subst e5
            unfold aggD at hs
            have HS := Lib.hid hs
            have HD4 := Lib.hid hd4
            have HSW := Lib.hid hsw
            clear hs hd4 hsw hSO hn0 hn1 hb0 hb1 hl hst2
            go_wp2_with (refine wpList_load_part rfl 27 (.tmp 9) rfl gd 0 rfl _ _ hR [Value.slice x.A0 x.n0 x.c0, .int .i64 D.a0.s, .slice x.A1 x.n1 x.c1, .int .i64 D.a1.s, .int .i64 D.fuse, .int .i64 D.keep, .bool D.down] (by rfl) _ Try.underlying27 rfl (by exact size_disk) ?_)
            refine HS.out.mono ?_
            rintro e ws ⟨z, rfl, hIz, -, hb⟩
            have hRs := hR.later hb
            have hgl := hR.lt
            have hOl : Only gd wr ws := Only.later hb (by omega)
            clear HS hb hR c6
            obtain ⟨hRz, hBz⟩ := box_of ws 27 [Value.slice none 0 0, .int .i64 0, .slice none 0 0, .int .i64 0, .int .i64 0, .int .i64 0, .bool false] _ rfl
            have hRs2 := hRs.later hBz
            have hOl2 : Only gd wr (ws.alloc (.cells [Value.slice none 0 0, .int .i64 0, .slice none 0 0, .int .i64 0, .int .i64 0, .int .i64 0, .bool false].toArray 27)) := hOl.trans (Only.later hBz (by have := hRs.lt; omega))
            have hIz2 := hIz.keep hBz
            have hgws := hRs.lt
            have hne : gd ≠ ws.heap.size := by omega
            unfold aggD
            dsimp only
            go_upto_region 28 with (refine wpList_store_row rfl 27 (.tmp 17) (.tmp 128) rfl ws.heap.size rfl [Value.slice z.A0 z.n0 z.c0, .int .i64 D4.a0.s, .slice z.A1 z.n1 z.c1, .int .i64 D4.a1.s, .int .i64 D4.fuse, .int .i64 D4.keep, .bool D4.down] rfl _ _ hRz (by exact size_disk) rfl (one_disk z D4) ?_)
            have hRz3 := hRz.setRow [Value.slice z.A0 z.n0 z.c0, .int .i64 D4.a0.s, .slice z.A1 z.n1 z.c1, .int .i64 D4.a1.s, .int .i64 D4.fuse, .int .i64 D4.keep, .bool D4.down]
            have hIz3 := hIz2.no_byte hRz (disk_no none 0 0 0 none 0 0 0 0 0 false) ((Only.refl _ _).setRow [Value.slice z.A0 z.n0 z.c0, .int .i64 D4.a0.s, .slice z.A1 z.n1 z.c1, .int .i64 D4.a1.s, .int .i64 D4.fuse, .int .i64 D4.keep, .bool D4.down].toArray)
            have hRs3 := hRs2.setRow_other hne [Value.slice z.A0 z.n0 z.c0, .int .i64 D4.a0.s, .slice z.A1 z.n1 z.c1, .int .i64 D4.a1.s, .int .i64 D4.fuse, .int .i64 D4.keep, .bool D4.down].toArray
            have hOl3 : Only gd wr ((ws.alloc (.cells [Value.slice none 0 0, .int .i64 0, .slice none 0 0, .int .i64 0, .int .i64 0, .int .i64 0, .bool false].toArray 27)).setRow ws.heap.size [Value.slice z.A0 z.n0 z.c0, .int .i64 D4.a0.s, .slice z.A1 z.n1 z.c1, .int .i64 D4.a1.s, .int .i64 D4.fuse, .int .i64 D4.keep, .bool D4.down].toArray) := hOl.trans (Only.later (below_setRow hBz (Nat.le_refl _) _) (by omega))
            clear hRz hBz hRs2 hOl2 hIz2 hOl hIz hRs
            generalize (ws.alloc (.cells [Value.slice none 0 0, .int .i64 0, .slice none 0 0, .int .i64 0, .int .i64 0, .int .i64 0, .bool false].toArray 27)).setRow ws.heap.size [Value.slice z.A0 z.n0 z.c0, .int .i64 D4.a0.s, .slice z.A1 z.n1 z.c1, .int .i64 D4.a1.s, .int .i64 D4.fuse, .int .i64 D4.keep, .bool D4.down].toArray = w4 at hRz3 hIz3 hRs3 hOl3 ⊢
            generalize ws.heap.size = g17 at hRz3 hne ⊢
            go_wp2_with (first
              | (refine wpList_load_part rfl 27 (.tmp 17) rfl g17 0 rfl _ _ hRz3 [Value.slice z.A0 z.n0 z.c0, .int .i64 D4.a0.s, .slice z.A1 z.n1 z.c1, .int .i64 D4.a1.s, .int .i64 D4.fuse, .int .i64 D4.keep, .bool D4.down] (by rfl) _ Try.underlying27 rfl (by exact size_disk) ?_)
              | (refine wpList_store_row rfl 27 (.tmp 9) (.tmp 132) rfl gd rfl [Value.slice z.A0 z.n0 z.c0, .int .i64 D4.a0.s, .slice z.A1 z.n1 z.c1, .int .i64 D4.a1.s, .int .i64 D4.fuse, .int .i64 D4.keep, .bool D4.down] rfl _ _ hRs3 (by exact size_disk) rfl (one_disk z D4) ?_))
            go_meet
            case rel => exact ⟨D4, z, hRs3.setRow _, hIz3.no_byte hRs3 (cellsD_no x D) ((Only.refl _ _).setRow _), HD4.out, HSW.out, hOl3.setRow _⟩
          · have e0 : dn = true := by rw [← HDN.out]; exact hd.dn
            subst e0
            have HD := Lib.hid hd
            clear hd hst2
            go_wp2_with fail
            go_meet
            case rel => exact ⟨D, x, hR, HIN.out, HD.out, HSM.out, Only.refl _ _⟩
        case rest =>
          rename World => w5
          obtain ⟨D5, x5, hR5, hI5, hd5, hs5, hO5⟩ := hcut
          have how5 := ownsRow_but HO.out (g := gd) (fun e => by have := hgb _ e; omega) hO5.other
          have hB5 := HB.out.trans (hO5.below.mono hg1)
          clear hR HO HB HIN HSM hst2 c6 HDN hO5 HAP
          obtain ⟨n5, h5a, h5b, h5c, h5d⟩ := hd5.n
          have hn0 := hI5.l0
          have hn1 := hI5.l1
          have hb0 : D5.a0.b.length = n5 := by rw [h5c, List.length_take]; omega
          have hb1 : D5.a1.b.length = 5 := by rw [hd5.o]; rfl
          obtain ⟨SO, hSO⟩ : ∃ SO, riseD D5 = SO := ⟨_, rfl⟩
          have hs := rise17_any x5 D5 w5 hI5 (by have := HQ.out; omega) (by omega)
          have hrd := rise_dead hd5 oth_right (show (0 : Int) ≤ (u : Int) by omega) (by rw [HQ.out]; omega)
          rw [hSO] at hs hrd
          obtain ⟨D6, e6⟩ := SO
          dsimp only at hrd
          obtain ⟨e7, hright, ho6, nn, r1, r2, r3, r4⟩ := hrd
          subst e7
          unfold aggD at hs
          have HS := Lib.hid hs
          clear hs hSO hn0 hn1 hb0 hb1 hd5 hs5 hI5 h5a h5b h5c h5d
          go_wp2_with (refine wpList_load_part rfl 27 (.tmp 9) rfl gd 0 rfl _ _ hR5 [Value.slice x5.A0 x5.n0 x5.c0, .int .i64 D5.a0.s, .slice x5.A1 x5.n1 x5.c1, .int .i64 D5.a1.s, .int .i64 D5.fuse, .int .i64 D5.keep, .bool D5.down] (by rfl) _ Try.underlying27 rfl (by exact size_disk) ?_)
          refine HS.out.mono ?_
          rintro e w6 ⟨⟨A6, n6, c6', B6, m6, d6⟩, rfl, hI6, -, hb⟩
          replace hR5 := hR5.later hb
          replace how5 := ownsRow_later how5 hb
          replace hB5 := below_step hB5 hb
          clear hb HS
          obtain ⟨i6a, i6b, i6c, i6d, i6e, i6f⟩ := hI6
          dsimp only at i6a i6b i6c i6d i6e i6f
          obtain ⟨Lb, hLb⟩ : ∃ Lb, La.take nn = Lb := ⟨_, rfl⟩
          have HLB : Hid (Lb.length = nn) := by unfold Hid; rw [← hLb, List.length_take]; omega
          rw [r3, hLb] at i6a i6c
          rw [ho6] at i6d i6f
          have en : n6 = nn := by rw [← i6a, HLB.out]
          subst en
          have em : m6 = 5 := by rw [← i6d]; rfl
          subst em
          obtain ⟨_, hrE, _⟩ := own_parts how5
          have hrT := hrE.take n6
          rw [hLb] at hrT
          have hqn : n6 ≤ q := by have := HQ.out; omega
          have hun : u ≤ n6 := by omega
          have HR3 := Lib.hid r3
          have HR4 := Lib.hid r4
          have HO6 := Lib.hid ho6
          have HLBB := Lib.hid hLb
          clear r1 r2 r3 r4 ho6 hLb hrE i6a
          unfold aggD
          dsimp only
          go_upto_region 32 with (refine wpList_store_row rfl 27 (.tmp 9) (.tmp 136) rfl gd rfl [Value.slice A6 n6 c6', .int .i64 D6.a0.s, .slice B6 5 d6, .int .i64 D6.a1.s, .int .i64 D6.fuse, .int .i64 D6.keep, .bool D6.down] rfl _ _ hR5 (by exact size_disk) rfl (one_disk ⟨A6, n6, c6', B6, 5, d6⟩ D6) ?_)
          have hR6 := hR5.setRow [Value.slice A6 n6 c6', .int .i64 D6.a0.s, .slice B6 5 d6, .int .i64 D6.a1.s, .int .i64 D6.fuse, .int .i64 D6.keep, .bool D6.down]
          have hO6 := (Only.refl gd w6).setRow [Value.slice A6 n6 c6', .int .i64 D6.a0.s, .slice B6 5 d6, .int .i64 D6.a1.s, .int .i64 D6.fuse, .int .i64 D6.keep, .bool D6.down].toArray
          replace i6c := i6c.no_byte hR5 (cellsD_no x5 D5) hO6
          replace i6f := i6f.no_byte hR5 (cellsD_no x5 D5) hO6
          replace hrT := hrT.no_byte hR5 (cellsD_no x5 D5) hO6
          have hB6 := hB5.trans (hO6.below.mono hg1)
          clear hR5 how5 hB5 hO6
          generalize w6.setRow gd [Value.slice A6 n6 c6', .int .i64 D6.a0.s, .slice B6 5 d6, .int .i64 D6.a1.s, .int .i64 D6.fuse, .int .i64 D6.keep, .bool D6.down].toArray = W at hR6 i6c i6f hrT hB6 ⊢
          have c0 : W.cell? ⟨gd, 0, none⟩ = some (.slice A6 n6 c6') := hR6.cell rfl
          go_upto_region 33 with fail
          clear c0
          have hall : ∀ X, (Instr.slice 22 (.slice E q ce) none (some (.int .i64 (n6 : Int))) none).run Try.prog X = .ok (.slice E n6 ce) X := fun X => run_cut_to 22 5 Try.underlying22 size_uint8 E q ce n6 (by omega) X
          have a0 : ∀ X, Below W.heap.size W X → X.cell? ⟨gd, 0, none⟩ = some (.slice A6 n6 c6') := fun X hX => (hR6.later hX).cell rfl
          have a1 : ∀ X, Below W.heap.size W X → X.cell? ⟨gd, 1, none⟩ = some (.int .i64 (n6 : Int)) := fun X hX => by rw [← HR4.out]; exact (hR6.later hX).cell rfl
          have a2 : ∀ X, Below W.heap.size W X → X.cell? ⟨gd, 2, none⟩ = some (.slice B6 5 d6) := fun X hX => (hR6.later hX).cell rfl
          have a3 : ∀ X, Below W.heap.size W X → X.cell? ⟨gd, 3, none⟩ = some (.int .i64 D6.a1.s) := fun X hX => (hR6.later hX).cell rfl
          have a4 : ∀ X, Below W.heap.size W X → X.cell? ⟨gd, 4, none⟩ = some (.int .i64 D6.fuse) := fun X hX => (hR6.later hX).cell rfl
          have a5 : ∀ X, Below W.heap.size W X → X.cell? ⟨gd, 5, none⟩ = some (.int .i64 D6.keep) := fun X hX => (hR6.later hX).cell rfl
          have a6 : ∀ X, Below W.heap.size W X → X.cell? ⟨gd, 6, none⟩ = some (.bool D6.down) := fun X hX => (hR6.later hX).cell rfl
          have t0 : ∀ X, Below W.heap.size W X → (convert 22 9 (.slice A6 n6 c6')).run Try.prog X = .ok (.string (strL Lb)) X := strBz n6 HLB i6c
          have t1 : ∀ X, Below W.heap.size W X → (convert 22 9 (.slice E n6 ce)).run Try.prog X = .ok (.string (strL Lb)) X := strBz n6 HLB hrT
          have t2 : ∀ X, Below W.heap.size W X → (convert 22 9 (.slice B6 5 d6)).run Try.prog X = .ok (.string ⟨#[111, 116, 104, 101, 114]⟩) X := strBz 5 (show Hid (othK.b.length = 5) from rfl) i6f
          have u1 : decide ((u : Int) ≤ (n6 : Int)) = true := decide_eq_true (by omega)
          have u2 : decide (u ≤ n6) = true := decide_eq_true hun
          have u3 : decide ((n6 : Int) ≤ (q : Int)) = true := decide_eq_true (by omega)
          have u4 : decide (n6 ≤ q) = true := decide_eq_true hqn
          have HI6 : Hid (InD W ⟨A6, n6, c6', B6, 5, d6⟩ D6) := ⟨by rw [HR3.out, HLBB.out]; exact HLB.out, i6b, by rw [HR3.out, HLBB.out]; exact i6c, by rw [HO6.out]; rfl, i6e, by rw [HO6.out]; exact i6f⟩
          have HRG := Lib.hid (decide_eq_true hright)
          have HR4b := HR4
          have HBB := Lib.hid hB6
          have hri : ∀ X, InD X ⟨A6, n6, c6', B6, 5, d6⟩ D6 → Calls Try.prog 19 #[.agg #[Value.slice A6 n6 c6', .int .i64 (n6 : Int), .slice B6 5 d6, .int .i64 D6.a1.s, .int .i64 D6.fuse, .int .i64 D6.keep, .bool D6.down]] X fun e w' => e = .returned (.bool true) ∧ Below X.heap.size X w' := fun X hX => by
            have := right17_any ⟨A6, n6, c6', B6, 5, d6⟩ D6 X hX
            rw [HRG.out] at this
            unfold aggD at this
            dsimp only at this
            rw [HR4b.out] at this
            exact this
          have HRI := Lib.hid hri
          clear hri hright hB6 hR6 i6b i6c i6d i6e i6f hrT hce
          have hBase := (Below.refl W.heap.size W).drew
          refine wp_region_plan (.step 0 false (.step 1 false (.step 2 false (.step 3 false (.step 4 true (.step 5 false (.step 6 false (.step 7 false (.step 8 false (.step 9 false (.step 10 false (.step 11 false (.step 12 false (.step 13 false (.step 14 false (.step 15 false (.step 16 false (.step 17 false (.step 18 false (.step 19 false (.step 20 false (.step 21 false (.step 22 false (.step 23 false (.step 24 false (.step 25 false (.step 26 false (.step 27 false (.step 28 false (.step 29 false (.step 30 false (.step 31 false (.step 32 false (.step 33 false (.step 34 false (.step 35 false (.step 36 false (.step 37 false (.step 38 false (.step 39 false (.step 40 false (.step 41 false (.step 42 false (.step 43 false (.step 44 false (.step 45 false (.step 46 false (.nil)))))))))))))))))))))))))))))))))))))))))))))))) (by kernel_rfl) (by kernel_rfl) (by rfl) (by kernel_rfl) ?_
          iterate 4 (refine plan_read rfl (by rfl) (v := ?_) ?_ ?_; rotate_left 1; (intro W hW; have hW0 := below_step hBase hW; (try dsimp only at hW); go_simp <;> with_reducible rfl); simp only [List.getElem_toArray, List.getElem_cons_zero, List.getElem_cons_succ, Act.put, List.setIfInBounds_toArray, List.set_cons_zero, List.set_cons_succ])
          (refine plan_make rfl (by rfl) (fun K hK => ?_); go_simp; (refine (HRI.out _ (HI6.out.keep hBase)).mono ?_; rintro e₁ wz ⟨rfl, hbx⟩); refine hK.out _ _ hbx ?_; clear hK K; replace hBase := below_step hBase hbx)
          iterate 42 (refine plan_read rfl (by rfl) (v := ?_) ?_ ?_; rotate_left 1; (intro W hW; have hW0 := below_step hBase hW; (try dsimp only at hW); go_simp <;> with_reducible rfl); simp only [List.getElem_toArray, List.getElem_cons_zero, List.getElem_cons_succ, Act.put, List.setIfInBounds_toArray, List.set_cons_zero, List.set_cons_succ])
          refine plan_done ?_
          clear a0 a1 a2 a3 a4 a5 a6 t0 t1 t2 u1 u2 u3 u4 hall
          go_wp2_with fail
          go_ret
          exact ⟨rfl, below_step HBB.out hBase⟩
end Go.Proofs.Ytkkfkibjamnpnaa
/-
  What comes in, opened by its type's shape (no program is named here): numbers, slices of whatever, arrays, structs. No conditions but those typed.
-/
namespace Go.Proofs.Ytkkfkibjamnpnaa
set_option maxRecDepth 100000
open Go.RowKit Go.Deep Go.WideShapes Go.ChangeShapes

/-- Cells of type t that can be read as data are a reading R of something. -/
def Opens (P : Program) (t : TypeId) {α : Type} (R : World → List Value → α → Prop) : Prop :=
  ∀ {H : Type} (enc : TypeId × Value → H) (w : World) (base : Nat) (spare : Nat → Bool) (held : Bool) (fuel : Nat) (cs : List Value) (x : DataW H × List MemPlace), DataW.trod enc P w base spare held fuel t cs = some x → ∃ a : α, R w cs a

def RByte : World → List Value → UInt8 → Prop := fun _ cs c => cs = [vB c]
def RWord : World → List Value → UInt32 → Prop := fun _ cs c => cs = [vW c]
def RNum : World → List Value → Nat → Prop := fun _ cs v => cs = [.int .u64 (v : Int)] ∧ v < 18446744073709551616
def RInt : World → List Value → Int → Prop := fun _ cs n => cs = [.int .i64 n] ∧ -9223372036854775808 ≤ n ∧ n ≤ 9223372036854775807
def RBool : World → List Value → Bool → Prop := fun _ cs b => cs = [.bool b]

section
variable {P : Program} {t e : TypeId}
theorem opens_byte (ht : P.underlying t = some (.int .u8)) : Opens P t RByte := fun enc w base spare held fuel cs x h => by
  obtain ⟨n, rfl, _, hw⟩ := DataW.trod_int ht h
  simp [Lit.wf, IntKind.min, IntKind.max, IntKind.signed, IntKind.bits] at hw
  refine ⟨UInt8.ofNat n.toNat, ?_⟩
  unfold RByte vB
  rw [UInt8.toNat_ofNat']
  congr 2
  omega
theorem opens_word (ht : P.underlying t = some (.int .u32)) : Opens P t RWord := fun enc w base spare held fuel cs x h => by
  obtain ⟨n, rfl, _, hw⟩ := DataW.trod_int ht h
  simp [Lit.wf, IntKind.min, IntKind.max, IntKind.signed, IntKind.bits] at hw
  refine ⟨UInt32.ofNat n.toNat, ?_⟩
  unfold RWord vW
  rw [UInt32.toNat_ofNat']
  congr 2
  omega
theorem opens_num (ht : P.underlying t = some (.int .u64)) : Opens P t RNum := fun enc w base spare held fuel cs x h => by
  obtain ⟨n, rfl, _, hw⟩ := DataW.trod_int ht h
  obtain ⟨v, hv, rfl⟩ := u64_of_wf hw
  exact ⟨v, rfl, hv⟩
theorem opens_int (ht : P.underlying t = some (.int .i64)) : Opens P t RInt := fun enc w base spare held fuel cs x h => by
  obtain ⟨n, rfl, _, hw⟩ := DataW.trod_int ht h
  exact ⟨n, rfl, i64_of_wf hw⟩

/-- A slice: its elements, of m cells each, lie one behind the other. -/
def RSlice (m : Nat) {α : Type} (R : World → List Value → α → Prop) : World → List Value → List α → Prop := fun w cs l =>
  ∃ (A : Option Addr) (cap : Nat), cs = [.slice A l.length cap] ∧ l.length ≤ cap ∧ cap ≤ 9223372036854775807 ∧
    (l ≠ [] → ∃ b o, A = some ⟨b, o, none⟩ ∧ ∀ i (h : i < l.length), ∃ ecs : List Value, ecs.length = m ∧ (∀ j (hj : j < ecs.length), w.cell? ⟨b, o + i * m + j, none⟩ = some ecs[j]) ∧ R w ecs l[i])

theorem cells_at {w : World} {base : Nat} {a : Addr} {n : Nat} {cs : List Value} (h : w.cells? base a n = some cs) : cs.length = n ∧ ∀ j (hj : j < cs.length), w.cell? (a.add j) = some cs[j] := by
  obtain ⟨_, hl, hc⟩ := World.cells?_some h
  refine ⟨hl, fun j hj => ?_⟩
  have := hc j (by omega)
  rw [this]
  exact List.getElem?_eq_getElem hj

theorem choose_list {α : Type} (n : Nat) (p : Nat → α → Prop) (h : ∀ i, i < n → ∃ a, p i a) : ∃ l : List α, l.length = n ∧ ∀ i (hi : i < l.length), p i l[i] := by
  induction n with
  | zero => exact ⟨[], rfl, fun i hi => by simp at hi⟩
  | succ n ih =>
    obtain ⟨l, hl, hp⟩ := ih (fun i hi => h i (by omega))
    obtain ⟨a, ha⟩ := h n (by omega)
    refine ⟨l ++ [a], by simp [hl], fun i hi => ?_⟩
    by_cases hin : i < l.length
    · rw [List.getElem_append_left hin]; exact hp i hin
    · have : i = n := by simp at hi; omega
      subst this
      rw [List.getElem_append_right (by omega)]
      simpa [hl] using ha

theorem opens_slice {α : Type} {R : World → List Value → α → Prop} {m : Nat} (ht : P.underlying t = some (.slice e)) (hc : P.cellsOf e = m) (hm : 0 < m) (he : Opens P e R) : Opens P t (RSlice m R) := fun enc w base spare held fuel cs x h => by
  rcases open_slice ht h with ⟨rfl, _⟩ | ⟨a, len, cap, mm, n, D, Pl, rfl, hb, hl, hcap, hmm, rfl, hx⟩
  · exact ⟨[], none, 0, rfl, Nat.le_refl _, by omega, fun h => absurd rfl h⟩
  · have hlm : len ≤ mm := by rw [hmm]; split <;> omega
    unfold maxLen at hcap
    obtain ⟨l, hll, hp⟩ := choose_list len (fun i (y : α) => ∃ ecs : List Value, ecs.length = m ∧ (∀ j (hj : j < ecs.length), w.cell? ((a.add (i * m)).add j) = some ecs[j]) ∧ R w ecs y) (fun i hi => by
      obtain ⟨ecs, h1, h2⟩ := hx i (by omega)
      rw [hc] at h1
      obtain ⟨h3, h4⟩ := cells_at h1
      obtain ⟨y, hy⟩ := he enc w base spare held n ecs _ h2
      exact ⟨y, ecs, h3, h4, hy⟩)
    refine ⟨l, some a, cap, by rw [hll], by omega, by omega, fun hn => ?_⟩
    have h0 : 0 < l.length := by
      rcases Nat.eq_zero_or_pos l.length with h | h
      · exact absurd (List.eq_nil_of_length_eq_zero h) hn
      · exact h
    obtain ⟨b, o, spot⟩ := a
    obtain ⟨ecs, h3, h4, _⟩ := hp 0 h0
    have hc0 := h4 0 (by omega)
    have hspot : spot = none := by simpa [Addr.add] using World.cell?_spot hc0
    subst hspot
    have hadd : ∀ i j, ((⟨b, o, none⟩ : Addr).add i).add j = ⟨b, o + i + j, none⟩ := fun i j => by unfold Addr.add; split <;> split <;> simp_all
    refine ⟨b, o, rfl, fun i hi => ?_⟩
    obtain ⟨ecs, h3, h4, h5⟩ := hp i hi
    exact ⟨ecs, h3, fun j hj => by rw [← hadd]; exact h4 j hj, h5⟩

/-- An array: its elements' cells one behind the other (elements of one cell). -/
def RArr (n : Nat) {α : Type} (R : World → List Value → α → Prop) : World → List Value → List α → Prop := fun w cs l => l.length = n ∧ cs.length = n ∧ ∀ i (h : i < l.length), R w ((cs.drop i).take 1) l[i]
theorem opens_arr {α : Type} {R : World → List Value → α → Prop} {n : Nat} (ht : P.underlying t = some (.array n e)) (hc : P.cellsOf e = 1) (hn : P.cellsOf t = n) (he : Opens P e R) : Opens P t (RArr n R) := fun enc w base spare held fuel cs x h => by
  obtain ⟨xs, m, _, _, hl, hxl, hx⟩ := DataW.trod_array ht h
  obtain ⟨l, hll, hp⟩ := choose_list n (fun i (y : α) => R w ((cs.drop i).take 1) y) (fun i hi => by
    have := hx i hi
    rw [hc, Nat.mul_one, List.getElem?_eq_getElem (by omega)] at this
    exact he enc w base spare held m _ _ this)
  exact ⟨l, hll, by omega, hp⟩

/-- Structs of two to four fields: each field's cells. -/
def RTwo (a0 n0 a1 n1 : Nat) {α β : Type} (R : World → List Value → α → Prop) (S : World → List Value → β → Prop) : World → List Value → α × β → Prop := fun w cs x => cs.length = n0 + n1 ∧ R w ((cs.drop a0).take n0) x.1 ∧ S w ((cs.drop a1).take n1) x.2
def RThree (a0 n0 a1 n1 a2 n2 : Nat) {α β γ : Type} (R : World → List Value → α → Prop) (S : World → List Value → β → Prop) (T : World → List Value → γ → Prop) : World → List Value → α × β × γ → Prop := fun w cs x => cs.length = n0 + n1 + n2 ∧ R w ((cs.drop a0).take n0) x.1 ∧ S w ((cs.drop a1).take n1) x.2.1 ∧ T w ((cs.drop a2).take n2) x.2.2
theorem opens_two {α β : Type} {R : World → List Value → α → Prop} {S : World → List Value → β → Prop} {f0 f1 : Field} {a0 n0 a1 n1 : Nat} (ht : P.underlying t = some (.struct #[f0, f1])) (e0 : f0.offset = a0) (e1 : f1.offset = a1) (c0 : P.cellsOf f0.type = n0) (c1 : P.cellsOf f1.type = n1) (hn : P.cellsOf t = n0 + n1)
    (h0 : Opens P f0.type R) (h1 : Opens P f1.type S) : Opens P t (RTwo a0 n0 a1 n1 R S) := fun enc w base spare held fuel cs x h => by
  obtain ⟨xs, n, _, _, hl, hxl, hx⟩ := DataW.trod_struct ht h
  have k0 := hx 0 f0 rfl
  have k1 := hx 1 f1 rfl
  simp only [List.size_toArray, List.length_cons, List.length_nil, Nat.zero_add, Nat.reduceAdd] at hxl
  rw [List.getElem?_eq_getElem (by omega), e0, c0] at k0
  rw [List.getElem?_eq_getElem (by omega), e1, c1] at k1
  obtain ⟨x0, r0⟩ := h0 enc w base spare held n _ _ k0
  obtain ⟨x1, r1⟩ := h1 enc w base spare held n _ _ k1
  exact ⟨(x0, x1), by omega, r0, r1⟩
theorem opens_three {α β γ : Type} {R : World → List Value → α → Prop} {S : World → List Value → β → Prop} {T : World → List Value → γ → Prop} {f0 f1 f2 : Field} {a0 n0 a1 n1 a2 n2 : Nat} (ht : P.underlying t = some (.struct #[f0, f1, f2])) (e0 : f0.offset = a0) (e1 : f1.offset = a1) (e2 : f2.offset = a2)
    (c0 : P.cellsOf f0.type = n0) (c1 : P.cellsOf f1.type = n1) (c2 : P.cellsOf f2.type = n2) (hn : P.cellsOf t = n0 + n1 + n2) (h0 : Opens P f0.type R) (h1 : Opens P f1.type S) (h2 : Opens P f2.type T) : Opens P t (RThree a0 n0 a1 n1 a2 n2 R S T) := fun enc w base spare held fuel cs x h => by
  obtain ⟨xs, n, _, _, hl, hxl, hx⟩ := DataW.trod_struct ht h
  have k0 := hx 0 f0 rfl
  have k1 := hx 1 f1 rfl
  have k2 := hx 2 f2 rfl
  simp only [List.size_toArray, List.length_cons, List.length_nil, Nat.zero_add, Nat.reduceAdd] at hxl
  rw [List.getElem?_eq_getElem (by omega), e0, c0] at k0
  rw [List.getElem?_eq_getElem (by omega), e1, c1] at k1
  rw [List.getElem?_eq_getElem (by omega), e2, c2] at k2
  obtain ⟨x0, r0⟩ := h0 enc w base spare held n _ _ k0
  obtain ⟨x1, r1⟩ := h1 enc w base spare held n _ _ k1
  obtain ⟨x2, r2⟩ := h2 enc w base spare held n _ _ k2
  exact ⟨(x0, x1, x2), by omega, r0, r1, r2⟩
end

/-! ### Back to the words that the walks go by -/
theorem rd_of_rslice {α : Type} {f : α → Value} {R : World → List Value → α → Prop} {w : World} {cs : List Value} {l : List α} (hR : ∀ ecs x, R w ecs x → ecs = [f x]) (h : RSlice 1 R w cs l) : ∃ A cap, cs = [.slice A l.length cap] ∧ l.length ≤ cap ∧ cap ≤ 9223372036854775807 ∧ Rd f w A l := by
  obtain ⟨A, cap, e, h1, h2, h3⟩ := h
  refine ⟨A, cap, e, h1, h2, fun hn => ?_⟩
  obtain ⟨b, o, rfl, hc⟩ := h3 hn
  refine ⟨b, o, rfl, fun i hi => ?_⟩
  obtain ⟨ecs, _, h5, h6⟩ := hc i hi
  have := hR _ _ h6
  subst this
  have := h5 0 (by simp)
  simpa using this
theorem bytes_of_r {w : World} {cs : List Value} {l : List UInt8} (h : RSlice 1 RByte w cs l) : ∃ A cap, cs = [.slice A l.length cap] ∧ l.length ≤ cap ∧ cap ≤ 9223372036854775807 ∧ Rd vB w A l := rd_of_rslice (fun _ _ h => h) h
theorem words_of_r {w : World} {cs : List Value} {l : List UInt32} (h : RSlice 1 RWord w cs l) : ∃ A cap, cs = [.slice A l.length cap] ∧ l.length ≤ cap ∧ cap ≤ 9223372036854775807 ∧ Rd vW w A l := rd_of_rslice (fun _ _ h => h) h
theorem arr_words {n : Nat} {w : World} {cs : List Value} {l : List UInt32} (h : RArr n RWord w cs l) : cs = l.map vW ∧ l.length = n := by
  obtain ⟨h1, h2, h3⟩ := h
  refine ⟨?_, h1⟩
  apply List.ext_getElem
  · simp; omega
  · intro i hi hi'
    have := h3 i (by omega)
    unfold RWord at this
    have h4 := congrArg (fun l => l[0]?) this
    simp only [List.getElem?_take, List.getElem?_drop, Nat.add_zero, List.getElem?_eq_getElem hi, Nat.zero_lt_one, if_true, List.getElem?_cons_zero, Option.some.injEq] at h4
    rw [h4]
    simp

/-! ### A value and its cells -/
theorem okWide_arr {P : Program} {w : World} {r : Reach} {base n : Nat} {t e : TypeId} {v : Value} (ht : P.underlying t = some (.array n e)) (h : Value.okWide P w r base t v) : ∃ cs, v = .agg cs ∧ cs.size = P.cellsOf t := by
  simp only [Value.okWide, ht] at h
  obtain ⟨cs, h1, h2, _⟩ := h
  exact ⟨cs, h1, h2⟩

end Go.Proofs.Ytkkfkibjamnpnaa
/-
  A parameter that is a slice of bytes, opened. No conditions.
-/
namespace Go.Proofs.Ytkkfkibjamnpnaa
set_option maxRecDepth 100000
open Go.RowKit Go.WideShapes
set_option linter.unusedSimpArgs false
set_option linter.unusedVariables false

theorem opens_bytes : Opens Try.prog 22 (RSlice 1 RByte) := opens_slice Try.underlying22 (by kernel_rfl) (by omega) (opens_byte Try.underlying5)
section
variable {H : Type} {enc : TypeId × Value → H} {W : World} {base b1 : Nat} {spare : Nat → Bool} {held : Bool} {r : Reach} {v : Value} {d : DataW H} {p : List MemPlace}
theorem open_bytes (hv : Value.okWide Try.prog W r base 22 v) (ht : DataW.Trod enc Try.prog W b1 spare held 22 v d p) : ∃ (l : List UInt8) (A : Option Addr) (cap : Nat), v = .slice A l.length cap ∧ l.length ≤ cap ∧ cap ≤ 9223372036854775807 ∧ Rd vB W A l := by
  obtain ⟨a, len, cap, rfl⟩ := okWide_slice Try.underlying22 hv
  obtain ⟨fuel, hf⟩ := ht
  obtain ⟨l, hl⟩ := opens_bytes enc W _ _ _ _ _ _ hf
  obtain ⟨A, c, e, h1, h2, h3⟩ := bytes_of_r hl
  simp [Value.cells] at e
  obtain ⟨rfl, rfl, rfl⟩ := e
  exact ⟨l, _, _, rfl, h1, h2, h3⟩
end
end Go.Proofs.Ytkkfkibjamnpnaa
/-
  Structs of four fields, opened. No conditions.
-/
namespace Go.Proofs.Ytkkfkibjamnpnaa
set_option maxRecDepth 100000
open Go.RowKit Go.Deep Go.WideShapes Go.ChangeShapes
set_option linter.unusedSimpArgs false
set_option linter.unusedVariables false

/-- Structs of four fields: each field's cells. -/
def RFour (a0 n0 a1 n1 a2 n2 a3 n3 : Nat) {α β γ δ : Type} (R : World → List Value → α → Prop) (S : World → List Value → β → Prop) (T : World → List Value → γ → Prop) (U : World → List Value → δ → Prop) : World → List Value → α × β × γ × δ → Prop := fun w cs x => cs.length = n0 + n1 + n2 + n3 ∧ R w ((cs.drop a0).take n0) x.1 ∧ S w ((cs.drop a1).take n1) x.2.1 ∧ T w ((cs.drop a2).take n2) x.2.2.1 ∧ U w ((cs.drop a3).take n3) x.2.2.2
theorem opens_four {P : Program} {t : TypeId} {α β γ δ : Type} {R : World → List Value → α → Prop} {S : World → List Value → β → Prop} {T : World → List Value → γ → Prop} {U : World → List Value → δ → Prop} {f0 f1 f2 f3 : Field} {a0 n0 a1 n1 a2 n2 a3 n3 : Nat} (ht : P.underlying t = some (.struct #[f0, f1, f2, f3])) (e0 : f0.offset = a0) (e1 : f1.offset = a1) (e2 : f2.offset = a2) (e3 : f3.offset = a3)
    (c0 : P.cellsOf f0.type = n0) (c1 : P.cellsOf f1.type = n1) (c2 : P.cellsOf f2.type = n2) (c3 : P.cellsOf f3.type = n3) (hn : P.cellsOf t = n0 + n1 + n2 + n3) (h0 : Opens P f0.type R) (h1 : Opens P f1.type S) (h2 : Opens P f2.type T) (h3 : Opens P f3.type U) : Opens P t (RFour a0 n0 a1 n1 a2 n2 a3 n3 R S T U) := fun enc w base spare held fuel cs x h => by
  obtain ⟨xs, n, _, _, hl, hxl, hx⟩ := DataW.trod_struct ht h
  have k0 := hx 0 f0 rfl
  have k1 := hx 1 f1 rfl
  have k2 := hx 2 f2 rfl
  have k3 := hx 3 f3 rfl
  simp only [List.size_toArray, List.length_cons, List.length_nil, Nat.zero_add, Nat.reduceAdd] at hxl
  rw [List.getElem?_eq_getElem (by omega), e0, c0] at k0
  rw [List.getElem?_eq_getElem (by omega), e1, c1] at k1
  rw [List.getElem?_eq_getElem (by omega), e2, c2] at k2
  rw [List.getElem?_eq_getElem (by omega), e3, c3] at k3
  obtain ⟨x0, r0⟩ := h0 enc w base spare held n _ _ k0
  obtain ⟨x1, r1⟩ := h1 enc w base spare held n _ _ k1
  obtain ⟨x2, r2⟩ := h2 enc w base spare held n _ _ k2
  obtain ⟨x3, r3⟩ := h3 enc w base spare held n _ _ k3
  exact ⟨(x0, x1, x2, x3), by omega, r0, r1, r2, r3⟩
end Go.Proofs.Ytkkfkibjamnpnaa
/-
  Parameters that are a disk, or a number, opened. No conditions.
-/
namespace Go.Proofs.Ytkkfkibjamnpnaa
set_option maxRecDepth 100000
open Go.RowKit Go.Deep Go.WideShapes Go.ChangeShapes
set_option linter.unusedSimpArgs false
set_option linter.unusedVariables false

/-- An array whose elements have m cells each. -/
def RArrM (n m : Nat) {α : Type} (R : World → List Value → α → Prop) : World → List Value → List α → Prop := fun w cs l => l.length = n ∧ cs.length = n * m ∧ ∀ i (h : i < l.length), R w ((cs.drop (i * m)).take m) l[i]
theorem opens_arrM {P : Program} {t e : TypeId} {α : Type} {R : World → List Value → α → Prop} {n m : Nat} (ht : P.underlying t = some (.array n e)) (hc : P.cellsOf e = m) (hn : P.cellsOf t = n * m) (he : Opens P e R) : Opens P t (RArrM n m R) := fun enc w base spare held fuel cs x h => by
  obtain ⟨xs, q, _, _, hl, hxl, hx⟩ := DataW.trod_array ht h
  obtain ⟨l, hll, hp⟩ := choose_list n (fun i (y : α) => R w ((cs.drop (i * m)).take m) y) (fun i hi => by
    have := hx i hi
    rw [hc, List.getElem?_eq_getElem (by omega)] at this
    exact he enc w base spare held q _ _ this)
  exact ⟨l, hll, by omega, hp⟩
theorem opens_area : Opens Try.prog 24 (RTwo 0 1 1 1 (RSlice 1 RByte) RInt) := opens_two Try.underlying24 rfl rfl (by kernel_rfl) (by kernel_rfl) (by kernel_rfl) opens_bytes (opens_int Try.underlying3)
theorem opens_areas : Opens Try.prog 25 (RArrM 2 2 (RTwo 0 1 1 1 (RSlice 1 RByte) RInt)) := opens_arrM Try.underlying25 (by kernel_rfl) (by kernel_rfl) opens_area
theorem opens_bool : Opens Try.prog 4 RBool := fun enc w base spare held fuel cs x h => by
  obtain ⟨b, rfl, _⟩ := DataW.trod_bool Try.underlying4 h
  exact ⟨b, rfl⟩
theorem opens_disk : Opens Try.prog 27 (RFour 0 4 4 1 5 1 6 1 (RArrM 2 2 (RTwo 0 1 1 1 (RSlice 1 RByte) RInt)) RInt RInt RBool) := opens_four Try.underlying27 rfl rfl rfl rfl (by kernel_rfl) (by kernel_rfl) (by kernel_rfl) (by kernel_rfl) (by kernel_rfl) opens_areas (opens_int Try.underlying3) (opens_int Try.underlying3) opens_bool
section
variable {H : Type} {enc : TypeId × Value → H} {W : World} {base b1 : Nat} {spare : Nat → Bool} {held : Bool} {r : Reach} {v : Value} {d : DataW H} {p : List MemPlace}
theorem open_disk (hv : Value.okWide Try.prog W r base 27 v) (ht : DataW.Trod enc Try.prog W b1 spare held 27 v d p) : ∃ (x : WD) (D : DK), v = aggD x D ∧ InD W x D ∧ D.fuse ≤ 9223372036854775807 ∧ D.keep ≤ 9223372036854775807 := by
  obtain ⟨cs, rfl, _⟩ := okWide_struct Try.underlying27 hv
  obtain ⟨fuel, hf⟩ := ht
  obtain ⟨⟨ars, f, k, dn⟩, hl, ⟨ha, hal, hai⟩, ⟨hf1, hf2⟩, ⟨hk1, hk2⟩, hd⟩ := opens_disk enc W _ _ _ _ _ _ hf
  match ars, ha with
  | [⟨b0, s0⟩, ⟨b1, s1⟩], _ =>
    obtain ⟨_, h0, ⟨h1, _⟩⟩ := hai 0 (by simp)
    obtain ⟨_, h2, ⟨h3, _⟩⟩ := hai 1 (by simp)
    obtain ⟨A0, c0, e0, i0, _, i1⟩ := bytes_of_r h0
    obtain ⟨A1, c1, e1, j0, _, j1⟩ := bytes_of_r h2
    refine ⟨⟨A0, b0.length, c0, A1, b1.length, c1⟩, ⟨⟨b0, s0⟩, ⟨b1, s1⟩, f, k, dn⟩, ?_, ⟨rfl, i0, i1, rfl, j0, j1⟩, hf2.2, hk2.2⟩
    unfold aggD
    congr 1
    apply Array.toList_inj.1
    simp only [Value.cells] at hl e0 e1 h1 h3 hf1 hk1 hd
    unfold RBool at hd
    match hcs : cs.toList, hl with
    | [x0, x1, x2, x3, x4, x5, x6], _ =>
      rw [hcs] at e0 e1 h1 h3 hf1 hk1 hd
      simp at e0 e1 h1 h3 hf1 hk1 hd
      simp [e0, e1, h1, h3, hf1, hk1, hd]
theorem open_int (hv : Value.okWide Try.prog W r base 3 v) (ht : DataW.Trod enc Try.prog W b1 spare held 3 v d p) : ∃ n : Int, v = .int .i64 n ∧ n ≤ 9223372036854775807 := by
  obtain ⟨n, rfl⟩ := okWide_int Try.underlying3 hv
  obtain ⟨fuel, hf⟩ := ht
  obtain ⟨m, e, _, hw⟩ := DataW.trod_int Try.underlying3 hf
  simp [Value.cells] at e
  subst e
  exact ⟨n, rfl, (i64_of_wf hw).2⟩
theorem open_n16 (hv : Value.okWide Try.prog W r base 42 v) (ht : DataW.Trod enc Try.prog W b1 spare held 42 v d p) : ∃ y : Nat, v = .int .u16 (y : Int) ∧ y < 65536 := by
  obtain ⟨n, rfl⟩ := okWide_int Try.underlying42 hv
  obtain ⟨fuel, hf⟩ := ht
  obtain ⟨m, e, _, hw⟩ := DataW.trod_int Try.underlying42 hf
  simp [Value.cells] at e
  simp [Lit.wf, IntKind.min, IntKind.max, IntKind.signed, IntKind.bits] at hw
  exact ⟨n.toNat, by congr 1; omega, by omega⟩
theorem open_n8 (hv : Value.okWide Try.prog W r base 5 v) (ht : DataW.Trod enc Try.prog W b1 spare held 5 v d p) : ∃ y : Nat, v = .int .u8 (y : Int) ∧ y < 256 := by
  obtain ⟨n, rfl⟩ := okWide_int Try.underlying5 hv
  obtain ⟨fuel, hf⟩ := ht
  obtain ⟨m, e, _, hw⟩ := DataW.trod_int Try.underlying5 hf
  simp [Value.cells] at e
  simp [Lit.wf, IntKind.min, IntKind.max, IntKind.signed, IntKind.bits] at hw
  exact ⟨n.toNat, by congr 1; omega, by omega⟩
end
end Go.Proofs.Ytkkfkibjamnpnaa
/-
  The law DiskKeeps, at whatever comes in: it answers true, and writes nothing that was there. No conditions.
-/
namespace Go.Proofs.Ytkkfkibjamnpnaa
set_option maxRecDepth 100000
open Go.RowKit Go.Deep Go.WideShapes Go.ChangeShapes
set_option linter.unusedSimpArgs false
set_option linter.unusedVariables false

theorem opens_lists17 : Opens Try.prog 44 (RSlice 1 (RSlice 1 RByte)) := opens_slice Try.underlying44 (by kernel_rfl) (by omega) opens_bytes
theorem opens_bools17 : Opens Try.prog 45 (RSlice 1 RBool) := opens_slice Try.underlying45 (by kernel_rfl) (by omega) opens_bool
theorem parts17 {w : World} {cs : List Value} {ls : List (List UInt8)} (h : RSlice 1 (RSlice 1 RByte) w cs ls) : ∃ (ps : List Part) (A : Option Addr) (cap : Nat), cs = [.slice A ps.length cap] ∧ ps.length ≤ 9223372036854775807 ∧ Rd vPart w A ps ∧ ∀ p ∈ ps, PartOK w p := by
  obtain ⟨A, cap, e, h1, h2, h3⟩ := h
  by_cases hn : ls = []
  · subst hn
    exact ⟨[], A, cap, e, by simp, Rd.nil, by simp⟩
  · obtain ⟨b, o, rfl, hc⟩ := h3 hn
    obtain ⟨ps, hl, hp⟩ := choose_list ls.length (fun i p => w.cell? ⟨b, o + i, none⟩ = some (vPart p) ∧ PartOK w p) (fun i hi => by
      obtain ⟨ecs, h4, h5, h6⟩ := hc i hi
      obtain ⟨A1, c1, e1, h7, h8, h9⟩ := bytes_of_r h6
      subst e1
      have := h5 0 (by simp)
      exact ⟨⟨A1, c1, ls[i]⟩, by simpa [vPart] using this, h9, h7⟩)
    refine ⟨ps, some ⟨b, o, none⟩, cap, by rw [hl]; exact e, by omega, fun _ => ⟨b, o, rfl, fun i hi => (hp i hi).1⟩, fun p hpm => ?_⟩
    obtain ⟨i, hi, rfl⟩ := List.getElem_of_mem hpm
    exact (hp i hi).2
section
variable {H : Type} {enc : TypeId × Value → H} {W : World} {base b1 : Nat} {spare : Nat → Bool} {held : Bool} {r : Reach} {v : Value} {d : DataW H} {p : List MemPlace}
theorem open_lists17 (hv : Value.okWide Try.prog W r base 44 v) (ht : DataW.Trod enc Try.prog W b1 spare held 44 v d p) : ∃ (ps : List Part) (A : Option Addr) (cap : Nat), v = .slice A ps.length cap ∧ ps.length ≤ 9223372036854775807 ∧ Rd vPart W A ps ∧ ∀ p ∈ ps, PartOK W p := by
  obtain ⟨a, len, cap, rfl⟩ := okWide_slice Try.underlying44 hv
  obtain ⟨fuel, hf⟩ := ht
  obtain ⟨l, hl⟩ := opens_lists17 enc W _ _ _ _ _ _ hf
  obtain ⟨ps, A, c, e, h⟩ := parts17 hl
  simp [Value.cells] at e
  obtain ⟨rfl, rfl, rfl⟩ := e
  exact ⟨ps, _, _, rfl, h⟩
theorem open_bools17 (hv : Value.okWide Try.prog W r base 45 v) (ht : DataW.Trod enc Try.prog W b1 spare held 45 v d p) : ∃ (l : List Bool) (A : Option Addr) (cap : Nat), v = .slice A l.length cap ∧ l.length ≤ 9223372036854775807 ∧ Rd vT W A l := by
  obtain ⟨a, len, cap, rfl⟩ := okWide_slice Try.underlying45 hv
  obtain ⟨fuel, hf⟩ := ht
  obtain ⟨l, hl⟩ := opens_bools17 enc W _ _ _ _ _ _ hf
  obtain ⟨A, c, e, h1, h2, h3⟩ := rd_of_rslice (f := vT) (fun _ _ h => h) hl
  simp [Value.cells] at e
  obtain ⟨rfl, rfl, rfl⟩ := e
  exact ⟨l, _, _, rfl, by omega, h3⟩
end
theorem diskkeeps_any (v0 v1 v2 v3 : Value) (W : World) {H : Type} {enc : TypeId × Value → H} {base : Nat} {d0 d1 d2 d3 : DataW H} {p0 p1 p2 p3 : List MemPlace}
    (hv0 : Value.okWide Try.prog W .any base 44 v0) (ht0 : DataW.Trod enc Try.prog W 0 (fun _ => true) true 44 v0 d0 p0) (hv1 : Value.okWide Try.prog W .any base 45 v1) (ht1 : DataW.Trod enc Try.prog W 0 (fun _ => true) true 45 v1 d1 p1) (hv2 : Value.okWide Try.prog W .any base 5 v2) (ht2 : DataW.Trod enc Try.prog W 0 (fun _ => true) true 5 v2 d2 p2) (hv3 : Value.okWide Try.prog W .any base 5 v3) (ht3 : DataW.Trod enc Try.prog W 0 (fun _ => true) true 5 v3 d3 p3) :
    Calls Try.prog 5 #[v0, v1, v2, v3] W fun e w' => e = .returned (.bool true) ∧ Below W.heap.size W w' := by
  obtain ⟨ps, A, c, rfl, hpl, hr, hps⟩ := open_lists17 hv0 ht0
  obtain ⟨bs, B, d, rfl, hbl, hbs⟩ := open_bools17 hv1 ht1
  obtain ⟨F, rfl, hF⟩ := open_n8 hv2 ht2
  obtain ⟨K, rfl, hK⟩ := open_n8 hv3 ht3
  exact diskkeeps_walk ps A c bs B d _ F K W hr hps hbs (Lib.hid rfl) hF hK hpl hbl
end Go.Proofs.Ytkkfkibjamnpnaa
