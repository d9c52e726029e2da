/-
  What the reference's calls Block and Mac of layer 3 answer. No conditions but those typed.
-/
import Derived.Test.YtdokbhcoekffpaaDoorHmacCalls
import Derived.Maps.AppendAt
namespace Go.Proofs.YtdokbhcoekffpaaDoor
open Go.RowKit
set_option linter.unusedSimpArgs false
set_option linter.unusedVariables false

theorem own_form {w : World} {base : Nat} {e : TypeId} {v : Value} {n : Nat} {xs : List Value} (h : w.ownsRow base e 1 v n xs) : ∃ A cap, v = .slice A n cap ∧ n ≤ cap := by
  rcases h.2 with ⟨rfl, rfl⟩ | ⟨g, cap, cur, rfl, _, _, hc, _⟩
  · exact ⟨none, 0, rfl, Nat.le_refl _⟩
  · exact ⟨_, cap, rfl, hc⟩

def PadRel (key : List UInt8) (n : Nat) (w : World) (v : Value) (wr : World) : Prop :=
  ∃ q : Nat, n ≤ q ∧ q ≤ 64 ∧ wr.ownsRow w.heap.size 5 1 v q ((key ++ List.replicate (q - n) 0).map vB) ∧ Below w.heap.size w wr
theorem pad_start {key : List UInt8} {n : Nat} {w w1 : World} {v : Value} (HN : Hid (key.length = n)) (hn : n ≤ 64) (ho : w1.ownsRow w.heap.size 5 1 v (0 + key.length) ([] ++ key.map vB)) (hg : (w.alloc (.cells #[] 5)).grownBy w1 (some w.heap.size)) : PadRel key n w v w1 :=
  ⟨n, Nat.le_refl _, hn, by rw [HN.out] at ho; simpa using ho, (below_new (Below.refl _ w) _).grown hg (by simp) (fun k hk => by injection hk with hk; omega)⟩
theorem pad_round {key : List UInt8} {n q : Nat} {w wr w1 : World} {u v : Value} (hq : q < 64) (hn : n ≤ q) (ho : wr.ownsRow w.heap.size 5 1 u q ((key ++ List.replicate (q - n) 0).map vB)) (hb : Below w.heap.size w wr)
    (ho' : w1.ownsRow w.heap.size 5 1 v (q + 1) ((key ++ List.replicate (q - n) 0).map vB ++ [.int .u8 0])) (hg : (wr.alloc (.cells #[.int .u8 0] 5)).grownBy w1 u.ownBlock) : PadRel key n w v w1 := by
  refine ⟨q + 1, by omega, by omega, ?_, (below_new hb _).grown hg (by have := hb.size; simp; omega) (fun k hk => (ho.lt k hk).1)⟩
  have e : (key ++ List.replicate (q + 1 - n) 0).map vB = (key ++ List.replicate (q - n) 0).map vB ++ [.int .u8 0] := by
    rw [show q + 1 - n = (q - n) + 1 by omega, List.replicate_succ']
    simp [vB]
  rw [e]
  exact ho'

set_option maxHeartbeats 1000000 in
theorem refhblock_short (n : Nat) (key : List UInt8) (A : Option Addr) (c : Nat) (w : World) (HN : Hid (key.length = n)) (hr : Rd vB w A key) (hn : n ≤ 64) :
    Calls Tryd.prog 21 #[.slice A n c] w (RetL 64 w (hblk key)) := by
  obtain ⟨i0, hi, hz0, hz1, hz2⟩ := info_parts info_u8
  have HE : Hid (hblk key = key ++ List.replicate (64 - n) 0) := by unfold Hid; rw [hblk_short key (by rw [HN.out]; exact hn), fillK, HN.out]
  have hown0 : (w.alloc (.cells #[] 5)).ownsRow w.heap.size 5 1 (.slice (some ⟨w.heap.size, 0, none⟩) 0 0) 0 [] := World.ownsRow_made w #[] 0 (Nat.le_refl _) (by unfold maxLen; omega) rfl
  have hr0 : Rd vB (w.alloc (.cells #[] 5)) A key := hr.keep (below_new (Below.refl _ _) _)
  have hgt : ¬ (64 : Int) < (n : Int) := by omega
  go_enter Tryd.func21, Tryd.ntmps21
  go_wp2_with (at_builtin; refine wpList_append_rd _ rfl (.tmp 10) (.tmp 11) 24 rfl w.heap.size 5 i0 (.int .u8 0) 1 Tryd.underlying24 hi hz0 hz1 hz2 rfl _ _ _ rfl hown0 A key c (by rw [HN.out]; rfl) hr0 vB_one (by rw [HN.out]; unfold maxLen; omega) (by rw [HN.out]; omega) (by simp) ?_; intro v1 w1 hown1 hgrow1)
  have HS := Lib.hid (pad_start HN hn hown1 hgrow1)
  clear hown1 hgrow1 hown0 hr0 hr hgt
  go_loopw [3] (fun v wr => PadRel key n w v wr) (fun v _ => 64 - sliceLen v)
  case atStart => exact HS.out
  case round =>
    clear HS
    obtain ⟨q, hq1, hq2, hown, hbel⟩ := hrel
    obtain ⟨A1, cp, rfl, hcp⟩ := own_form hown
    by_cases hlt : q < 64
    · have hlt' : (q : Int) < 64 := by omega
      go_wp2_with (at_builtin; refine wpList_append_own _ rfl (.tmp 16) (.tmp 17) 24 rfl w.heap.size 5 i0 (.int .u8 0) 1 1 Tryd.underlying24 hi hz0 hz1 hz2 rfl (by decide) _ _ _ rfl (hown.alloc _) ⟨wr.heap.size, 0, none⟩ 1 1 [.int .u8 0] rfl rfl (cell_one_new _ _ _) (by intro u hu; simp at hu; subst hu; rfl) (by unfold maxLen; omega) (by omega) (by have := hbel.size; simp; omega) ?_; intro v' w2 hown2 hgrow2 _)
      have HR := Lib.hid (pad_round hlt hq1 hown hbel hown2 hgrow2)
      obtain ⟨A2, cp2, rfl, _⟩ := own_form hown2
      clear hown2 hgrow2 hown hbel
      go_roundw
      case rel => exact HR.out
      case measure => simp [sliceLen]; omega
    · have hq64 : q = 64 := by omega
      subst hq64
      go_wp2_with fail
      go_ret
      rw [HE.out]
      exact ⟨A1, cp, rfl, hcp, Rd.own hown, hbel⟩

theorem refhblock_any (n : Nat) (key : List UInt8) (A : Option Addr) (c : Nat) (w : World) (HN : Hid (key.length = n)) (hr : Rd vB w A key) (hl : n ≤ 70368744177664) :
    Calls Tryd.prog 21 #[.slice A n c] w (RetL 64 w (hblk key)) := by
  by_cases h64 : 64 < n
  · have hgt : (64 : Int) < (n : Int) := by omega
    have HE : Hid (hblk key = hblk (sumL key)) := (hblk_sum key (by rw [HN.out]; exact h64)).symm
    have H32 : Hid ((sumL key).length = 32) := sumL_length key
    go_enter Tryd.func21, Tryd.ntmps21
    go_wp2_with fail
    refine (refsum_at n key _ _ _ HN hr hl).mono ?_
    rintro e w1 ⟨A1, c1, rfl, hc1, hr1, hb1⟩
    generalize sumL key = K at hr1 HE H32
    go_wp2_with fail
    refine (refhblock_short 32 K _ _ _ H32 hr1 (by omega)).mono ?_
    rintro e w2 ⟨A2, c2, rfl, hc2, hr2, hb2⟩
    go_wp2_with fail
    go_ret
    rw [HE.out]
    exact ⟨A2, c2, rfl, hc2, hr2, below_step hb1 hb2⟩
  · exact refhblock_short n key A c w HN hr (by omega)

/-! ### Mac -/
def TwoRel (Bk : List UInt8) (w1 : World) (va vb i : Value) (wr : World) : Prop :=
  ∃ k : Nat, k ≤ 64 ∧ i = .int .i64 (k : Int) ∧ wr.ownsRow w1.heap.size 5 1 va k ((turnL 92 (Bk.take k)).map vB) ∧ wr.ownsRow w1.heap.size 5 1 vb k ((turnL 54 (Bk.take k)).map vB) ∧ (va.ownBlock = none ∨ va.ownBlock ≠ vb.ownBlock) ∧ Below w1.heap.size w1 wr
theorem apart_symm {u v : Value} (h : u.ownBlock = none ∨ u.ownBlock ≠ v.ownBlock) : v.ownBlock = none ∨ v.ownBlock ≠ u.ownBlock := by
  rcases h with h | h
  · by_cases hv : v.ownBlock = none
    · exact .inl hv
    · exact .inr (by rw [h]; exact hv)
  · exact .inr (Ne.symm h)
/-- Apart, behind the growth of the second one. -/
theorem apart_grown {w : World} {base : Nat} {e : TypeId} {u v v' : Value} {n : Nat} {xs : List Value} (h : u.ownBlock = none ∨ u.ownBlock ≠ v.ownBlock) (ho : w.ownsRow base e 1 u n xs) (hat : v'.ownBlock = v.ownBlock ∨ v'.ownBlock = some w.heap.size) : u.ownBlock = none ∨ u.ownBlock ≠ v'.ownBlock := by
  rcases hat with hat | hat
  · rw [hat]; exact h
  · right
    rw [hat]
    intro hu
    have := (ho.lt _ hu).2
    omega
theorem two_round {Bk : List UInt8} {w1 wr w2 w3 : World} {va vb va' vb' : Value} {k : Nat} {x y : Value} (hk : k < 64) (HA : Hid ((turnL 92 (Bk.take (k + 1))).map vB = (turnL 92 (Bk.take k)).map vB ++ [x])) (HB : Hid ((turnL 54 (Bk.take (k + 1))).map vB = (turnL 54 (Bk.take k)).map vB ++ [y]))
    (hoa : wr.ownsRow w1.heap.size 5 1 va k ((turnL 92 (Bk.take k)).map vB)) (hob : wr.ownsRow w1.heap.size 5 1 vb k ((turnL 54 (Bk.take k)).map vB)) (hap : va.ownBlock = none ∨ va.ownBlock ≠ vb.ownBlock) (hbel : Below w1.heap.size w1 wr)
    (hoa' : w2.ownsRow w1.heap.size 5 1 va' (k + 1) ((turnL 92 (Bk.take k)).map vB ++ [x])) (hga : (wr.alloc (.cells #[x] 5)).grownBy w2 va.ownBlock) (hata : va'.ownBlock = va.ownBlock ∨ va'.ownBlock = some (wr.alloc (.cells #[x] 5)).heap.size)
    (hob' : w3.ownsRow w1.heap.size 5 1 vb' (k + 1) ((turnL 54 (Bk.take k)).map vB ++ [y])) (hgb : (w2.alloc (.cells #[y] 5)).grownBy w3 vb.ownBlock) (hatb : vb'.ownBlock = vb.ownBlock ∨ vb'.ownBlock = some (w2.alloc (.cells #[y] 5)).heap.size) :
    TwoRel Bk w1 va' vb' (.int .i64 ((k : Int) + 1)) w3 := by
  have h1 : vb.ownBlock = none ∨ vb.ownBlock ≠ va'.ownBlock := apart_grown (apart_symm hap) (hob.alloc _) hata
  have h2 : va'.ownBlock = none ∨ va'.ownBlock ≠ vb'.ownBlock := apart_grown (apart_symm h1) (hoa'.alloc _) hatb
  have hb2 : Below w1.heap.size w1 w2 := (hbel.alloc hbel.size _).grown hga (by have := hbel.size; simp; omega) (fun g hk => (hoa.lt g hk).1)
  exact ⟨k + 1, by omega, by go_num, by rw [HA.out]; exact (hoa'.alloc _).kept hgb (apart_symm h1), by rw [HB.out]; exact hob', h2, (hb2.alloc hb2.size _).grown hgb (by have := hb2.size; simp; omega) (fun g hk => (hob.lt g hk).1)⟩

set_option maxRecDepth 100000 in
set_option maxHeartbeats 2000000 in
theorem refmac_any (n m : Nat) (key msg : List UInt8) (A B : Option Addr) (c d : Nat) (w : World) (HN : Hid (key.length = n)) (HM : Hid (msg.length = m)) (hr : Rd vB w A key) (hm : Rd vB w B msg) (hl : n ≤ 35184372088832) (hml : m ≤ 35184372088832) :
    Calls Tryd.prog 23 #[.slice A n c, .slice B m d] w (RetL 32 w (macL key msg)) := by
  obtain ⟨i0, hi, hz0, hz1, hz2⟩ := info_parts info_u8
  have HB64 : Hid ((hblk key).length = 64) := hblk_length key
  have HE : Hid (macL key msg = sumL (turnL 92 (hblk key) ++ sumL (turnL 54 (hblk key) ++ msg))) := rfl
  go_enter Tryd.func23, Tryd.ntmps23
  go_wp2_with fail
  refine (refhblock_any n key _ _ _ HN hr (by omega)).mono ?_
  rintro e w1 ⟨A1, c1, rfl, hc1, hr1, hb1⟩
  generalize hblk key = Bk at hr1 HB64 HE
  replace hm := hm.keep hb1
  have HB1 := Lib.hid hb1
  clear hb1 hr
  go_wp2_with fail
  go_loopw [6, 7, 8] (fun va vb i wr => TwoRel Bk w1 va vb i wr) (fun _ _ i _ => 64 - (intOf i).toNat)
  case atStart => exact ⟨0, by omega, rfl, World.ownsRow_nil _ _ _ _, World.ownsRow_nil _ _ _ _, .inl rfl, Below.refl _ _⟩
  case round =>
    obtain ⟨k, hk, rfl, hoa, hob, hap, hbel⟩ := hrel
    by_cases hlt : k < 64
    · have hkb : k < Bk.length := by have := HB64.out; omega
      obtain ⟨blk, o, rfl, hb, hcell⟩ := hr1.at hkb
      have HA : Hid ((turnL 92 (Bk.take (k + 1))).map vB = (turnL 92 (Bk.take k)).map vB ++ [vB (xorB Bk[k] 92)]) := by unfold Hid; rw [turnL_take 92 Bk k hkb, List.map_append]; rfl
      have HB : Hid ((turnL 54 (Bk.take (k + 1))).map vB = (turnL 54 (Bk.take k)).map vB ++ [vB (xorB Bk[k] 54)]) := by unfold Hid; rw [turnL_take 54 Bk k hkb, List.map_append]; rfl
      have hc0 : wr.cell? ⟨blk, o + k, none⟩ = some (.int .u8 (Bk[k].toNat : Int)) := (hbel.cell (p := ⟨blk, o + k, none⟩) hb).trans (hcell k hkb)
      have hc1' : w1.cell? ⟨blk, o + k, none⟩ = some (.int .u8 (Bk[k].toNat : Int)) := hcell k hkb
      have HC := Lib.hid hc1'
      have hx92 : bits .xor .u8 (Bk[k].toNat : Int) 92 = ((xorB Bk[k] 92).toNat : Int) := u8_xor_b Bk[k] 92
      have hx54 : bits .xor .u8 (Bk[k].toNat : Int) 54 = ((xorB Bk[k] 54).toNat : Int) := u8_xor_b Bk[k] 54
      generalize Bk[k] = y at HA HB hc0 HC hx92 hx54 hc1'
      have i1 : (0 : Int) ≤ (k : Int) := by omega
      have i2 : (k : Int) < 64 := by omega
      have HX54 := Lib.hid hx54
      clear hcell hc1' hr1 hx54 hkb
      go_upto_region 7 with (at_builtin; refine wpList_append_own_at _ rfl (.tmp 15) (.tmp 21) 24 rfl w1.heap.size 5 i0 (.int .u8 0) 1 1 Tryd.underlying24 hi hz0 hz1 hz2 rfl (by decide) _ _ _ rfl (hoa.alloc _) ⟨wr.heap.size, 0, none⟩ 1 1 [.int .u8 ((xorB y 92).toNat : Int)] rfl rfl (cell_one_new _ _ _) (by intro u hu; simp at hu; subst hu; rfl) (by unfold maxLen; omega) (by omega) (by have := hbel.size; simp; omega) ?_; intro va' w2 hoa' hga _ hata)
      have hb2 : Below w1.heap.size w1 w2 := (hbel.alloc hbel.size _).grown hga (by have := hbel.size; simp; omega) (fun g hk => (hoa.lt g hk).1)
      have hob2 := (hob.alloc (.cells #[.int .u8 ((xorB y 92).toNat : Int)] 5)).kept hga (apart_symm hap)
      have hc2 : w2.cell? ⟨blk, o + k, none⟩ = some (.int .u8 (y.toNat : Int)) := (hb2.cell (p := ⟨blk, o + k, none⟩) hb).trans HC.out
      have hx54 := HX54.out
      have hz2' := hb2.size
      clear hc0 hx92
      go_wp2_with (at_builtin; refine wpList_append_own_at _ rfl (.tmp 23) (.tmp 29) 24 rfl w1.heap.size 5 i0 (.int .u8 0) 1 1 Tryd.underlying24 hi hz0 hz1 hz2 rfl (by decide) _ _ _ rfl (hob2.alloc _) ⟨w2.heap.size, 0, none⟩ 1 1 [.int .u8 ((xorB y 54).toNat : Int)] rfl rfl (cell_one_new _ _ _) (by intro u hu; simp at hu; subst hu; rfl) (by unfold maxLen; omega) (by omega) (by simp; omega) ?_; intro vb' w3 hob' hgb _ hatb)
      have HR : Hid (TwoRel Bk w1 va' vb' (.int .i64 ((k : Int) + 1)) w3) := two_round hlt HA HB hoa hob hap hbel hoa' hga hata hob' hgb hatb
      clear hoa hob hap hbel hoa' hga hata hob' hgb hatb hob2 hb2 hc2 hx54 HA HB
      go_roundw
      case rel => exact HR.out
      case measure => simp [intOf]; omega
    · have hk64 : k = 64 := by omega
      subst hk64
      have HT : Hid (Bk.take 64 = Bk) := by unfold Hid; exact List.take_of_length_le (by rw [HB64.out]; omega)
      rw [HT.out] at hoa hob
      have H1 : Hid ((turnL 54 Bk).length = 64) := by unfold Hid; rw [turnL_length, HB64.out]
      have H2 : Hid ((turnL 92 Bk).length = 64) := by unfold Hid; rw [turnL_length, HB64.out]
      generalize turnL 54 Bk = T1 at hob HE H1
      generalize turnL 92 Bk = T2 at hoa HE H2
      obtain ⟨I, hI⟩ : ∃ I, I = T1 ++ msg := ⟨_, rfl⟩
      rw [← hI] at HE
      have HIl : Hid (I.length = 64 + m) := by unfold Hid; rw [hI, List.length_append, H1.out, HM.out]
      have HI := Lib.hid hI
      obtain ⟨O, hO⟩ : ∃ O, O = T2 ++ sumL I := ⟨_, rfl⟩
      rw [← hO] at HE
      have HOl : Hid (O.length = 96) := by unfold Hid; rw [hO, List.length_append, H2.out, sumL_length]
      have HO := Lib.hid hO
      have HS32 : Hid ((sumL I).length = 32) := sumL_length I
      replace hm := hm.keep hbel
      clear hI hO hr1 HT
      go_wp2_with (at_builtin; refine wpList_append_rd _ rfl (.tmp 32) (.tmp 33) 24 rfl w1.heap.size 5 i0 (.int .u8 0) 1 Tryd.underlying24 hi hz0 hz1 hz2 rfl _ _ _ rfl hob B msg d (by rw [HM.out]; rfl) hm vB_one (by rw [HM.out]; unfold maxLen; omega) (by rw [HM.out]; omega) hbel.size ?_; intro v5 w5 hown5 hgrow5)
      have hoa5 := hoa.kept hgrow5 hap
      have hb5 : Below w1.heap.size w1 w5 := hbel.grown hgrow5 hbel.size (fun g hk => (hob.lt g hk).1)
      have hown5' : w5.ownsRow w1.heap.size 5 1 v5 I.length (I.map vB) := by rw [HIl.out, HI.out, List.map_append, ← HM.out]; exact hown5
      obtain ⟨A5, c5, rfl, hc5, hr5⟩ := own_slice hown5'
      rw [HIl.out] at hc5 ⊢
      clear hown5 hgrow5 hown5' hoa hob hap hbel hm
      refine (refsum_at (64 + m) I _ _ _ HIl hr5 (by omega)).mono ?_
      rintro e w6 ⟨A6, c6, rfl, hc6, hr6, hb6⟩
      generalize sumL I = Sm at hr6 HO HS32
      have hoa6 := ownsRow_later hoa5 hb6
      replace hb5 := hb5.trans (hb6.mono hb5.size)
      clear hb6 hr5 hoa5
      go_wp2_with (at_builtin; refine wpList_append_rd _ rfl (.tmp 31) (.tmp 35) 24 rfl w1.heap.size 5 i0 (.int .u8 0) 1 Tryd.underlying24 hi hz0 hz1 hz2 rfl _ _ _ rfl hoa6 A6 Sm c6 (by rw [HS32.out]; rfl) hr6 vB_one (by rw [HS32.out]; unfold maxLen; omega) (by rw [HS32.out]; omega) hb5.size ?_; intro v7 w7 hown7 hgrow7)
      have hb7 : Below w1.heap.size w1 w7 := hb5.grown hgrow7 hb5.size (fun g hk => (hoa6.lt g hk).1)
      have hown7' : w7.ownsRow w1.heap.size 5 1 v7 O.length (O.map vB) := by rw [HOl.out, HO.out, List.map_append, show 96 = 64 + Sm.length by rw [HS32.out]]; exact hown7
      obtain ⟨A7, c7, rfl, hc7, hr7⟩ := own_slice hown7'
      rw [HOl.out] at hc7 ⊢
      clear hown7 hgrow7 hown7' hoa6 hb5 hr6
      refine (refsum_at 96 O _ _ _ HOl hr7 (by omega)).mono ?_
      rintro e w8 ⟨A8, c8, rfl, hc8, hr8, hb8⟩
      replace hb7 := hb7.trans (hb8.mono hb7.size)
      clear hb8
      go_wp2_with fail
      go_ret
      rw [HE.out]
      exact ⟨A8, c8, rfl, hc8, hr8, below_step HB1.out hb7⟩

end Go.Proofs.YtdokbhcoekffpaaDoor
