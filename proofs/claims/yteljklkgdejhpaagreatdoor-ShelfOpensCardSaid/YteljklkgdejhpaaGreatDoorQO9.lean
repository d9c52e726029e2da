/-
  What the program's RightMemory, numbers, useRecord and bundleRecord of layer 20 answer (landed code). No conditions but those typed.
-/
import Derived.Test.YteljklkgdejhpaaGreatDoorQO8
set_option linter.unusedSimpArgs false
set_option linter.unusedVariables false
set_option maxRecDepth 100000
namespace Go.Proofs.YteljklkgdejhpaaGreatDoor
open Go.RowKit
theorem rightmem_any (x : WM) (m : MemK) (w : World) (h : InM w x m) : Calls Tryz.prog 17 #[aggM x m] w fun e w' => e = .returned (.bool (rightM m)) ∧ Below w.heap.size w w' := by
  obtain ⟨hR, hB⟩ := box_of w 37 (lM x m) _ rfl
  have hrb := fun W (hb : Below w.heap.size w W) => rightB_any m.b.1 x.b.es m.b.2.2 x.b.n x.b.ec x.b.g x.b.gc x.b.eA x.b.gA W h.ib.ne h.ib.ng (h.ib.re.keep hb) (h.ib.rg.keep hb) h.ib.fit.2.2 (by have := h.ib.ln; omega) (by have := h.ib.lg; omega) (fun e he => by have := h.ib.ls e he; omega)
  have hrc := fun W (hb : Below w.heap.size w W) => right19_any m.c.1 m.c.2.1 m.c.2.2 x.c.s x.c.c x.c.A W h.ic.ns (h.ic.ru.keep hb) h.ic.fit.2 (by have := h.ic.ls; omega)
  rw [h.ib.con] at hrb
  have hM : rightM m = (rightB m.b.2.1 m.b.2.2 && rightC (m.c.1, m.c.2.1, m.c.2.2)) := rfl
  rw [hM]
  generalize rightB m.b.2.1 m.b.2.2 = R at hrb ⊢
  generalize rightC (m.c.1, m.c.2.1, m.c.2.2) = Q at hrc ⊢
  unfold aggB at hrb
  unfold aggC at hrc
  have HRB := Lib.hid hrb
  have HRC := Lib.hid hrc
  clear hrb hrc hM h
  unfold aggM
  go_enter Tryz.func17, Tryz.ntmps17
  go_upto_region 1 with fail
  generalize (w.alloc (.cells (lM x m).toArray 37)) = w1 at hR hB ⊢
  go_wp2_with (refine wpList_load_part rfl 32 (.tmp 3) rfl (w.heap.size) 1 rfl _ _ (hR) ((lB x.b m.b)) (by rfl) _ Tryz.underlying32 rfl (by exact size_bundle) ?_)
  refine (HRB.out _ hB).mono ?_
  rintro e w2 ⟨rfl, hb⟩
  replace hR := hR.later hb
  replace hB := below_step hB hb
  clear hb
  cases R with
  | false =>
    go_wp2_with fail
    go_ret
    exact ⟨rfl, hB⟩
  | true =>
    have k4 := hR.cell (i := 4) rfl
    have k5 := hR.cell (i := 5) rfl
    have k6 := hR.cell (i := 6) rfl
    go_wp2_with fail
    refine (HRC.out _ hB).mono ?_
    rintro e w3 ⟨rfl, hb⟩
    replace hB := below_step hB hb
    go_wp2_with fail
    go_ret
    exact ⟨rfl, hB⟩
def numsL (vs : List Nat) : List UInt8 := vs.flatMap putL
theorem numsL_length : ∀ vs : List Nat, (numsL vs).length = 8 * vs.length
  | [] => rfl
  | v :: vs => by
    have ih := numsL_length vs
    unfold numsL at *
    rw [List.flatMap_cons, List.length_append, ih, putL_n8, List.length_cons]
    omega
theorem numsL_snoc (vs : List Nat) (v : Nat) : numsL (vs ++ [v]) = numsL vs ++ putL v := by unfold numsL; rw [List.flatMap_append]; simp
def RetB8 (w : World) (L : List UInt8) (n : Nat) (e : Ending) (w' : World) : Prop := ∃ v, e = .returned v ∧ w'.ownsRow w.heap.size 5 1 v n (L.map vB) ∧ Below w.heap.size w w'
def NumsI (vs : List Nat) (w : World) (u i : Value) (wr : World) : Prop := ∃ k : Nat, i = .int .i64 (k : Int) ∧ k ≤ vs.length ∧ wr.ownsRow w.heap.size 5 1 u (8 * k) ((numsL (vs.take k)).map vB) ∧ Below w.heap.size w wr
set_option maxHeartbeats 1000000 in
theorem numbers_any (vs : List Nat) (n : Nat) (A : Option Addr) (c : Nat) (w : World) (HN : Hid (vs.length = n)) (hr : Rd vNG w A vs) (hv : Hid (∀ v ∈ vs, v < 18446744073709551616)) (hn : n ≤ 1000000) :
    Calls Tryz.prog 73 #[.slice A n c] w (RetB8 w (numsL vs) (8 * n)) := by
  obtain ⟨i0, hi, hz0, hz1, hz2⟩ := info_parts info_u8
  have e1 := HN.out
  subst e1
  clear HN
  go_enter Tryz.func73, Tryz.ntmps73
  go_upto_region 3 with fail
  go_loopw [3, 8] (fun u i wr => NumsI vs w u i wr) (fun _ i _ => vs.length - (intOf i).toNat)
  case atStart => exact ⟨0, rfl, Nat.zero_le _, World.ownsRow_nil _ _ _ _, Below.refl _ _⟩
  case round =>
    obtain ⟨k, rfl, hk, hown, hB⟩ := hrel
    by_cases hlt : k < vs.length
    · obtain ⟨b, o, rfl, hb, hc⟩ := (hr.keep hB).at hlt
      have hck := hc k hlt
      have hvk := hv.out _ (List.getElem_mem hlt)
      obtain ⟨L, hL⟩ : ∃ L, putL vs[k] = L := ⟨_, rfl⟩
      have HL := Lib.hid hL
      have HN8 : Hid (L.length = 8) := by unfold Hid; rw [← hL]; rfl
      have HTK : Hid (numsL (vs.take (k + 1)) = numsL (vs.take k) ++ L) := by
        unfold Hid
        rw [List.take_succ_eq_append_getElem hlt, numsL_snoc, hL]
      clear hL hc
      generalize vs[k] = v at hck hvk HL
      unfold vNG at hck
      generalize numsL (vs.take k) = Lk at hown HTK
      have i2 : (0 : Int) ≤ (k : Int) := by omega
      have i3 : (k : Int) < (vs.length : Int) := by omega
      go_wp2_with fail
      refine (putG_at v L hvk HL _).mono ?_
      rintro e w2 ⟨A2, c2, rfl, hc2, hr2, hb2⟩
      replace hown := ownsRow_later hown hb2
      replace hB := below_step hB hb2
      have hsz := hB.size
      clear hb2 hck
      go_wp2_with (at_builtin; refine wpList_append_apart _ rfl (.tmp 12) (.tmp 14) 22 rfl w.heap.size 5 i0 (.int .u8 0) 1 Tryz.underlying22 hi hz0 hz1 hz2 rfl _ _ _ rfl hown A2 L c2 (by rw [HN8.out]; rfl) hr2 vB_one (by rw [HN8.out]; unfold maxLen; omega) (by rw [HN8.out]; omega) hsz ?_; intro v3 w3 hown3 hgrow3 hat3)
      have hB3 := hB.grown hgrow3 hsz (fun j hj => (hown.lt j hj).1)
      rw [← List.map_append, ← HTK.out, HN8.out] at hown3
      clear hown hB hgrow3 hat3
      go_roundw
      case rel => exact ⟨k + 1, rfl, by omega, by rw [Nat.mul_add]; exact hown3, hB3⟩
      case measure => simp [intOf]; omega
    · have hkk : k = vs.length := by omega
      subst hkk
      rw [List.take_length] at hown
      have j1 : ¬ (vs.length : Int) < (vs.length : Int) := by omega
      go_wp2_with fail
      go_ret
      exact ⟨_, rfl, hown, hB⟩
theorem numbers_sl (vs : List Nat) (n m : Nat) (A : Option Addr) (c : Nat) (w : World) (HN : Hid (vs.length = n)) (hr : Rd vNG w A vs) (hv : Hid (∀ v ∈ vs, v < 18446744073709551616)) (hn : n ≤ 1000000) (hm : m = 8 * n) :
    Calls Tryz.prog 73 #[.slice A n c] w fun e w' => ∃ A' c', e = .returned (.slice A' m c') ∧ m ≤ c' ∧ Rd vB w' A' (numsL vs) ∧ Below w.heap.size w w' := by
  have hl : (numsL vs).length = m := by rw [numsL_length, HN.out, hm]
  refine (numbers_any vs n A c w HN hr hv hn).mono ?_
  rintro e w' ⟨v, rfl, h1, h2⟩
  rw [← hm, ← hl] at h1
  obtain ⟨A', c', rfl, hc, hr'⟩ := own_slice h1
  rw [hl] at hc ⊢
  exact ⟨A', c', rfl, hc, hr', h2⟩
theorem userec_any (u : Us) (clock floor : Nat) (w : World) (hu : fitU1 u) (hc : clock < 18446744073709551616) (hf : floor < 18446744073709551616) :
    Calls Tryz.prog 47 #[.agg #[.int .u64 (u.1 : Int), .int .u64 (u.2.1 : Int), .int .u64 (u.2.2 : Int)], .int .u64 (clock : Int), .int .u64 (floor : Int)] w (RetB8 w (useRec u clock floor) 41) := by
  obtain ⟨i0, hi, hz0, hz1, hz2⟩ := info_parts info_u8
  obtain ⟨hR, hB⟩ := box_of w 57 [.int .u64 (u.1 : Int), .int .u64 (u.2.1 : Int), .int .u64 (u.2.2 : Int)] _ rfl
  have hL : useRec u clock floor = [85] ++ numsL [u.1, u.2.1, u.2.2, clock, floor] := by
    unfold numsL useRec useL
    simp only [List.flatMap_cons, List.flatMap_nil, List.append_nil, List.append_assoc, List.singleton_append]
  have hfit : Hid (∀ v ∈ [u.1, u.2.1, u.2.2, clock, floor], v < 18446744073709551616) := fun v hv => by
    simp at hv
    rcases hv with rfl | rfl | rfl | rfl | rfl
    · exact hu.1
    · exact hu.2.1
    · exact hu.2.2
    · exact hc
    · exact hf
  rw [hL]
  have HRD : Hid (∀ (W : World) (q : Nat), q = W.heap.size → Rd vNG (W.alloc (.cells #[.int .u64 (u.1 : Int), .int .u64 (u.2.1 : Int), .int .u64 (u.2.2 : Int), .int .u64 (clock : Int), .int .u64 (floor : Int)] 28)) (some ⟨q, 0, none⟩) [u.1, u.2.1, u.2.2, clock, floor]) := fun W q hq => by rw [hq]; exact Rd.new (f := vNG) W [u.1, u.2.1, u.2.2, clock, floor] _ _ rfl
  have HN5 : Hid ([u.1, u.2.1, u.2.2, clock, floor].length = 5) := rfl
  clear hL hu hc hf
  generalize [u.1, u.2.1, u.2.2, clock, floor] = vs at hfit HRD HN5 ⊢
  have HNL : Hid ((numsL vs).length = 40) := by unfold Hid; rw [numsL_length, HN5.out]
  have HNS := Lib.hid (fun A c W (h : Rd vNG W A vs) => numbers_sl vs 5 40 A c W HN5 h hfit (by omega) rfl)
  generalize numsL vs = T at HNL HNS ⊢
  obtain ⟨a, ha⟩ : ∃ a : Nat, u.1 = a := ⟨_, rfl⟩
  obtain ⟨b, hb⟩ : ∃ a : Nat, u.2.1 = a := ⟨_, rfl⟩
  obtain ⟨d, hd⟩ : ∃ a : Nat, u.2.2 = a := ⟨_, rfl⟩
  rw [ha, hb, hd] at HRD hR hB ⊢
  clear ha hb hd hfit
  go_enter Tryz.func47, Tryz.ntmps47
  go_upto_region 1 with fail
  generalize (w.alloc (.cells #[.int .u64 (a : Int), .int .u64 (b : Int), .int .u64 (d : Int)] 57)) = w1 at hR hB ⊢
  have hown0 : (w1.alloc (.cells #[.int .u8 85] 5)).ownsRow w1.heap.size 5 1 (.slice (some ⟨w1.heap.size, 0, none⟩) 1 1) 1 ([(85 : UInt8)].map vB) := own_lit w1 5 ([(85 : UInt8)].map vB) #[.int .u8 85] rfl (by unfold maxLen; simp)
  have hb1 := below_new (Below.refl w1.heap.size w1) (.cells #[.int .u8 85] 5)
  have hRl := hR.later hb1
  have k0 := hRl.cell (i := 0) rfl
  have k1 := hRl.cell (i := 1) rfl
  have k2 := hRl.cell (i := 2) rfl
  go_wp2_with fail
  refine (HNS.out _ _ _ (HRD.out _ _ (by simp))).mono ?_
  rintro e w4 ⟨A4, c4, rfl, hc4, hr4, hb4⟩
  have hb2 := below_new (Below.refl (w1.alloc (.cells #[.int .u8 85] 5)).heap.size (w1.alloc (.cells #[.int .u8 85] 5))) (.cells #[.int .u64 (a : Int), .int .u64 (b : Int), .int .u64 (d : Int), .int .u64 (clock : Int), .int .u64 (floor : Int)] 28)
  have hown1 := ownsRow_later (ownsRow_later hown0 hb2) hb4
  have hB4 : Below w1.heap.size w1 w4 := below_step (below_step hb1 hb2) hb4
  have hsz := hB4.size
  clear hb4 hb1 hb2 hown0 hRl k0 k1 k2 HNS HRD
  go_wp2_with (at_builtin; refine wpList_append_apart _ rfl (.tmp 7) (.tmp 17) 22 rfl w1.heap.size 5 i0 (.int .u8 0) 1 Tryz.underlying22 hi hz0 hz1 hz2 rfl _ _ _ rfl hown1 A4 T c4 (by rw [HNL.out]; rfl) hr4 vB_one (by rw [HNL.out]; unfold maxLen; omega) (by rw [HNL.out]; omega) hsz ?_; intro v5 w5 hown5 hgrow5 hat5)
  have hB5 := hB4.grown hgrow5 hsz (fun j hj => (hown1.lt j hj).1)
  rw [← List.map_append, HNL.out] at hown5
  go_ret
  exact ⟨_, rfl, own_base hown5 hB.size, hB.trans (hB5.mono hB.size)⟩
theorem bunrec_any (x : WB) (b : Bn) (w : World) (h : InB w x b) (hok : rightB b.2.1 b.2.2 = true) :
    Calls Tryz.prog 53 #[aggBW x b] w (RetB8 w (bunRec b) (bunRec b).length) := by
  obtain ⟨i0, hi, hz0, hz1, hz2⟩ := info_parts info_u8
  obtain ⟨hR, hB⟩ := box_of w 32 (lB x b) _ rfl
  have hbl : bunRec b = [78] ++ bunBytes b := rfl
  have hle := bunBytes_le hok
  have hbb := fun W (hb : Below w.heap.size w W) => bytesB_ok b.1 x.es b.2.2 x.n x.ec x.g x.gc x.eA x.gA W h.ne h.ng (h.re.keep hb) (h.oe.keep hb) (h.rg.keep hb) h.fit.1 (by rw [h.con]; exact h.fit.2.1) h.fit.2.2 (by rw [h.con]; exact hok)
  rw [h.con] at hbb
  rw [show bytesB b.1 b.2.1 b.2.2 = bunBytes b from rfl] at hbb
  rw [hbl, List.length_append]
  generalize bunBytes b = T at hbb hle ⊢
  unfold aggB at hbb
  have HBB := Lib.hid hbb
  clear hbb hbl hok h
  unfold aggBW aggB
  go_enter Tryz.func53, Tryz.ntmps53
  go_upto_region 1 with fail
  generalize (w.alloc (.cells (lB x b).toArray 32)) = w1 at hR hB ⊢
  go_wp2_with (refine wpList_load_part rfl 32 (.tmp 1) rfl (w.heap.size) 0 rfl _ _ (hR) ((lB x b)) (by rfl) _ Tryz.underlying32 rfl (by exact size_bundle) ?_)
  refine (HBB.out _ hB).mono ?_
  rintro e w2 ⟨A2, m2, c2, rfl, HM2, hc2, hr2, hb2⟩
  replace hB := below_step hB hb2
  have hown0 : (w2.alloc (.cells #[.int .u8 78] 5)).ownsRow w2.heap.size 5 1 (.slice (some ⟨w2.heap.size, 0, none⟩) 1 1) 1 ([(78 : UInt8)].map vB) := own_lit w2 5 ([(78 : UInt8)].map vB) #[.int .u8 78] rfl (by unfold maxLen; simp)
  have hb3 := below_new (Below.refl w2.heap.size w2) (.cells #[.int .u8 78] 5)
  have hr3 := hr2.keep hb3
  have hsz := hb3.size
  have hm2 : m2 ≤ 4171 := by rw [← HM2.out]; exact hle
  clear hb2 hr2 hle
  go_wp2_with (at_builtin; refine wpList_append_apart _ rfl (.tmp 10) (.tmp 11) 22 rfl w2.heap.size 5 i0 (.int .u8 0) 1 Tryz.underlying22 hi hz0 hz1 hz2 rfl _ _ _ rfl hown0 A2 T c2 (by rw [HM2.out]; rfl) hr3 vB_one (by rw [HM2.out]; unfold maxLen; omega) (by rw [HM2.out]; omega) hsz ?_; intro v5 w5 hown5 hgrow5 hat5)
  have hB5 := hb3.grown hgrow5 hsz (fun j hj => (hown0.lt j hj).1)
  rw [← List.map_append] at hown5
  go_ret
  exact ⟨_, rfl, own_base hown5 hB.size, hB.trans (hB5.mono hB.size)⟩
end Go.Proofs.YteljklkgdejhpaaGreatDoor
namespace Go.Proofs.YteljklkgdejhpaaGreatDoor
open Go.RowKit
theorem numsL_two (a b : Nat) : numsL [a, b] = putL a ++ putL b := by simp [numsL]
theorem numsL_three (a b c : Nat) : numsL [a, b, c] = putL a ++ (putL b ++ putL c) := by simp [numsL]
theorem numsL_one (a : Nat) : numsL [a] = putL a := by simp [numsL]
def headM (n clock room fl k : Nat) : List UInt8 := ([77] ++ numsL [n, clock]) ++ [UInt8.ofNat room] ++ numsL [fl] ++ [UInt8.ofNat k]
theorem memRec_head (n : Nat) (m : MemK) : memRec n m = headM n m.clock m.c.1.toNat m.c.2.1 m.c.2.2.length ++ usesL m.c.2.2 ++ bunBytes m.b := by
  unfold memRec headM
  rw [numsL_two, numsL_one]
  simp only [List.append_assoc, List.cons_append, List.nil_append]
theorem usesL_take (l : List Us) (k : Nat) (hk : k < l.length) : usesL (l.take (k + 1)) = usesL (l.take k) ++ numsL [l[k].1, l[k].2.1, l[k].2.2] := by
  rw [List.take_succ_eq_append_getElem hk, numsL_three]
  unfold usesL
  rw [List.flatMap_append]
  simp [useL]
theorem nums_rd (vs : List Nat) (cs : Array Value) (h : cs = (vs.map vNG).toArray) (W : World) (q : Nat) (hq : q = W.heap.size) : Rd vNG (W.alloc (.cells cs 28)) (some ⟨q, 0, none⟩) vs := by
  rw [hq]
  exact Rd.new (f := vNG) W vs _ _ h
def MrecI (base : Nat) (T : List UInt8) (l : List Us) (w : World) (u i : Value) (wr : World) : Prop := ∃ k : Nat, i = .int .i64 (k : Int) ∧ k ≤ l.length ∧ wr.ownsRow base 5 1 u (27 + 24 * k) ((T ++ usesL (l.take k)).map vB) ∧ Below base w wr
set_option maxHeartbeats 4000000 in
theorem memrec_any (n : Nat) (x : WM) (m : MemK) (w : World) (h : InM w x m) (hok : rightM m = true) (hn : n < 18446744073709551616) :
    Calls Tryz.prog 40 #[.int .u64 (n : Int), aggM x m] w (RetB8 w (memRec n m) (memRec n m).length) := by
  obtain ⟨i0, hi, hz0, hz1, hz2⟩ := info_parts info_u8
  obtain ⟨hR, hB⟩ := box_of w 37 (lM x m) _ rfl
  obtain ⟨hokb, hokc⟩ := rightM_parts.1 hok
  obtain ⟨⟨hc0, hc1⟩, hc2, _, _⟩ := right_c.1 hokc
  have hle := bunBytes_le hokb
  have hbb := fun W (hb : Below w.heap.size w W) => bytesB_ok m.b.1 x.b.es m.b.2.2 x.b.n x.b.ec x.b.g x.b.gc x.b.eA x.b.gA W h.ib.ne h.ib.ng (h.ib.re.keep hb) (h.ib.oe.keep hb) (h.ib.rg.keep hb) h.ib.fit.1 (by rw [h.ib.con]; exact h.ib.fit.2.1) h.ib.fit.2.2 (by rw [h.ib.con]; exact hokb)
  rw [h.ib.con] at hbb
  rw [show bytesB m.b.1 m.b.2.1 m.b.2.2 = bunBytes m.b from rfl] at hbb
  rw [memRec_head]
  generalize bunBytes m.b = TB at hbb hle ⊢
  unfold aggB at hbb
  have HBB := Lib.hid hbb
  have hns := h.ic.ns
  have hru := h.ic.ru
  have hcl := h.fc
  have hfl := h.ic.fit.1
  have HFU := Lib.hid h.ic.fit.2
  clear hbb hok hokb hokc h
  unfold aggM
  obtain ⟨clock, b, room, fl, l⟩ := m
  obtain ⟨xb, A, s, c⟩ := x
  dsimp only at *
  subst hns
  have hl64 : l.length ≤ 64 := by omega
  obtain ⟨rm, rfl⟩ : ∃ rm : Nat, room = (rm : Int) := ⟨room.toNat, by omega⟩
  rw [Int.toNat_natCast]
  have hrm : rm ≤ 64 := by omega
  clear hc0 hc1 hc2
  have HRM := Lib.hid (byte_one rm (by omega))
  have HLL := Lib.hid (byte_one l.length (by omega))
  have HN1 := Lib.hid (fun A c W (h : Rd vNG W A [n, clock]) => numbers_sl [n, clock] 2 16 A c W (Lib.hid rfl) h (Lib.hid (by intro v hv; simp at hv; rcases hv with rfl | rfl <;> assumption)) (by omega) rfl)
  have HN2 := Lib.hid (fun A c W (h : Rd vNG W A [fl]) => numbers_sl [fl] 1 8 A c W (Lib.hid rfl) h (Lib.hid (by intro v hv; simp at hv; rcases hv with rfl; assumption)) (by omega) rfl)
  have HR1 := Lib.hid (nums_rd [n, clock] _ rfl)
  have HR2 := Lib.hid (nums_rd [fl] _ rfl)
  unfold headM
  have HL1 : Hid ((numsL [n, clock]).length = 16) := numsL_length _
  have HL2 : Hid ((numsL [fl]).length = 8) := numsL_length _
  generalize numsL [n, clock] = N1 at *
  generalize numsL [fl] = N2 at *
  obtain ⟨RES, hRES⟩ : ∃ R, ([77] ++ N1) ++ [UInt8.ofNat rm] ++ N2 ++ [UInt8.ofNat l.length] ++ usesL l ++ TB = R := ⟨_, rfl⟩
  rw [hRES]
  have HRES := Lib.hid hRES
  clear hRES
  go_enter Tryz.func40, Tryz.ntmps40
  go_upto_region 1 with fail
  generalize (w.alloc (.cells #[.int .u64 (clock : Int), .int .u64 (b.1 : Int), .slice xb.eA xb.n xb.ec, .slice xb.gA xb.g xb.gc, .int .i64 (rm : Int), .int .u64 (fl : Int), .slice A l.length c] 37)) = w1 at hR hB ⊢
  have hown0 : (w1.alloc (.cells #[.int .u8 77] 5)).ownsRow w1.heap.size 5 1 (.slice (some ⟨w1.heap.size, 0, none⟩) 1 1) 1 ([(77 : UInt8)].map vB) := own_lit w1 5 ([(77 : UInt8)].map vB) #[.int .u8 77] rfl (by unfold maxLen; simp)
  have hb1 := below_new (Below.refl w1.heap.size w1) (.cells #[.int .u8 77] 5)
  have hRl := hR.later hb1
  have k0 := hRl.cell (i := 0) rfl
  go_wp2_with fail
  refine (HN1.out _ _ _ (HR1.out _ _ (by simp))).mono ?_
  rintro e w2 ⟨A2, c2, rfl, hc2, hr2, hb2⟩
  have hb12 := below_new (Below.refl (w1.alloc (.cells #[.int .u8 77] 5)).heap.size (w1.alloc (.cells #[.int .u8 77] 5))) (.cells #[.int .u64 (n : Int), .int .u64 (clock : Int)] 28)
  have hownA := ownsRow_later (ownsRow_later hown0 hb12) hb2
  have hB2 : Below w1.heap.size w1 w2 := below_step (below_step hb1 hb12) hb2
  have hRw := hR.later hB2
  have hz2' := hB2.size
  have k4 := hRw.cell (i := 4) rfl
  clear hb12 hb2 hown0 hb1 hRl k0
  go_upto_region 2 with (at_builtin; refine wpList_append_apart _ rfl (.tmp 10) (.tmp 15) 22 rfl w1.heap.size 5 i0 (.int .u8 0) 1 Tryz.underlying22 hi hz0 hz1 hz2 rfl _ _ _ rfl hownA A2 N1 c2 (by rw [HL1.out]; rfl) hr2 vB_one (by rw [HL1.out]; unfold maxLen; omega) (by rw [HL1.out]; omega) hz2' ?_; intro v3 w3 hown3 hgrow3 hat3)
  have hB3 := hB2.grown hgrow3 hz2' (fun k hk => (hownA.lt k hk).1)
  rw [← List.map_append, HL1.out] at hown3
  have hR3 := hR.later hB3
  have hz3 := hB3.size
  replace k4 := hR3.cell (i := 4) rfl
  clear hownA hB2 hRw hz2' hgrow3 hat3 hr2
  go_upto_region 3 with (at_builtin; refine wpList_append_apart _ rfl (.tmp 17) (.tmp 22) 22 rfl w1.heap.size 5 i0 (.int .u8 0) 1 Tryz.underlying22 hi hz0 hz1 hz2 rfl _ _ _ rfl (ownsRow_later hown3 (below_new (Below.refl _ _) _)) (some ⟨w3.heap.size, 0, none⟩) [UInt8.ofNat rm] 1 rfl (Rd.new w3 [UInt8.ofNat rm] _ _ (by rw [List.map_cons, HRM.out]; rfl)) vB_one (by simp only [List.length_cons, List.length_nil]; unfold maxLen; omega) (by simp only [List.length_cons, List.length_nil]; omega) (by have := hz3; simp; omega) ?_; intro v4 w4 hown4 hgrow4 hat4)
  have hB4 := (below_new hB3 (.cells #[.int .u8 (rm : Int)] 5)).grown hgrow4 (by simp; omega) (fun k hk => (hown3.lt k hk).1)
  rw [← List.map_append, show ([UInt8.ofNat rm] : List UInt8).length = 1 from rfl] at hown4
  have hR4 := hR.later hB4
  have hz4 := hB4.size
  have k5 := hR4.cell (i := 5) rfl
  clear hown3 hB3 hR3 hz3 k4 hgrow4 hat4
  go_wp2_with fail
  refine (HN2.out _ _ _ (HR2.out _ _ (by simp))).mono ?_
  rintro e w5 ⟨A5, c5, rfl, hc5, hr5, hb5⟩
  have hb45 := below_new (Below.refl w4.heap.size w4) (.cells #[.int .u64 (fl : Int)] 28)
  have hownB := ownsRow_later (ownsRow_later hown4 hb45) hb5
  have hB5 := below_step (below_step hB4 hb45) hb5
  have hz5 := hB5.size
  clear hb45 hb5 hown4 hB4 hR4 hz4 k5
  go_upto_region 4 with (at_builtin; refine wpList_append_apart _ rfl (.tmp 24) (.tmp 29) 22 rfl w1.heap.size 5 i0 (.int .u8 0) 1 Tryz.underlying22 hi hz0 hz1 hz2 rfl _ _ _ rfl hownB A5 N2 c5 (by rw [HL2.out]; rfl) hr5 vB_one (by rw [HL2.out]; unfold maxLen; omega) (by rw [HL2.out]; omega) hz5 ?_; intro v6 w6 hown6 hgrow6 hat6)
  have hB6 := hB5.grown hgrow6 hz5 (fun k hk => (hownB.lt k hk).1)
  rw [← List.map_append, HL2.out] at hown6
  have hR6 := hR.later hB6
  have hz6 := hB6.size
  have k6 := hR6.cell (i := 6) rfl
  clear hownB hB5 hz5 hgrow6 hat6 hr5
  go_upto_region 5 with (at_builtin; refine wpList_append_apart _ rfl (.tmp 31) (.tmp 37) 22 rfl w1.heap.size 5 i0 (.int .u8 0) 1 Tryz.underlying22 hi hz0 hz1 hz2 rfl _ _ _ rfl (ownsRow_later hown6 (below_new (Below.refl _ _) _)) (some ⟨w6.heap.size, 0, none⟩) [UInt8.ofNat l.length] 1 rfl (Rd.new w6 [UInt8.ofNat l.length] _ _ (by rw [List.map_cons, HLL.out]; rfl)) vB_one (by simp only [List.length_cons, List.length_nil]; unfold maxLen; omega) (by simp only [List.length_cons, List.length_nil]; omega) (by have := hz6; simp; omega) ?_; intro v7 w7 hown7 hgrow7 hat7)
  have hB7 := (below_new hB6 (.cells #[.int .u8 (l.length : Int)] 5)).grown hgrow7 (by simp; omega) (fun k hk => (hown6.lt k hk).1)
  rw [← List.map_append, show ([UInt8.ofNat l.length] : List UInt8).length = 1 from rfl] at hown7
  have hR7 := hR.later hB7
  have k7 := hR7.cell (i := 6) rfl
  clear hown6 hB6 hR6 hz6 k6 hgrow7 hat7
  have HT : Hid ((([77] ++ N1) ++ [UInt8.ofNat rm] ++ N2 ++ [UInt8.ofNat l.length]).length = 27) := by
    unfold Hid
    simp only [List.length_append, HL1.out, HL2.out, List.length_cons, List.length_nil]
  generalize ([77] ++ N1) ++ [UInt8.ofNat rm] ++ N2 ++ [UInt8.ofNat l.length] = T at hown7 HT HRES ⊢
  have hown7' : w7.ownsRow w1.heap.size 5 1 v7 (27 + 24 * 0) ((T ++ usesL (l.take 0)).map vB) := by
    have e : T ++ usesL (l.take 0) = T := by simp [usesL]
    rw [e]
    exact hown7
  go_upto_region 6 with fail
  go_loopw [5, 43] (fun u i wr => MrecI w1.heap.size T l w1 u i wr) (fun _ i _ => l.length - (intOf i).toNat)
  case atStart => exact ⟨0, rfl, Nat.zero_le _, hown7', hB7⟩
  case round =>
    clear hown7 hown7' hB7 hR7 k7
    obtain ⟨k, rfl, hk, hown, hBr⟩ := hrel
    have hszr := hBr.size
    have hRr := hR.later hBr
    by_cases hlt : k < l.length
    · have hruw := hru.keep (hB.trans (hBr.mono hB.size))
      obtain ⟨b3, o3, rfl, hb3, hrng, _, _, _⟩ := hruw.pair hlt
      have HTK := Lib.hid (usesL_take l k hlt)
      have hfu := HFU.out _ (List.getElem_mem hlt)
      generalize l[k] = u at hrng HTK hfu
      obtain ⟨g0, g1, g2⟩ := u
      unfold cellU vNU at hrng
      obtain ⟨hf0, hf1, hf2⟩ := hfu
      dsimp only at hrng HTK hf0 hf1 hf2
      have HN3 := Lib.hid (fun A c W (h : Rd vNG W A [g0, g1, g2]) => numbers_sl [g0, g1, g2] 3 24 A c W (Lib.hid rfl) h (Lib.hid (by intro v hv; simp at hv; rcases hv with rfl | rfl | rfl <;> assumption)) (by omega) rfl)
      have HR3 := Lib.hid (nums_rd [g0, g1, g2] _ rfl)
      have HL3 : Hid ((numsL [g0, g1, g2]).length = 24) := numsL_length _
      generalize numsL [g0, g1, g2] = N3 at *
      generalize usesL (l.take k) = Lk at hown HTK
      have i2 : (0 : Int) ≤ (k : Int) := by omega
      have i3 : (k : Int) < (l.length : Int) := by omega
      clear hf0 hf1 hf2
      obtain ⟨hRu, hBu⟩ := box_of wr 57 [.int .u64 0, .int .u64 0, .int .u64 0] _ rfl
      go_upto_region 8 with (first
        | (refine wpList_load_mid rfl 57 (.tmp 45) rfl b3 (o3 + k * 3) rfl [.int .u64 (g0 : Int), .int .u64 (g1 : Int), .int .u64 (g2 : Int)] _ hrng Tryz.underlying57 rfl (by exact size_use) ?_)
        | (refine wpList_store_row rfl 57 (.tmp 7) (.tmp 46) rfl (wr.heap.size) rfl ([.int .u64 (g0 : Int), .int .u64 (g1 : Int), .int .u64 (g2 : Int)]) rfl _ _ (hRu) (by exact size_use) rfl (one_three _ _ _ rfl rfl rfl) ?_))
      have hRu2 := hRu.setRow [.int .u64 (g0 : Int), .int .u64 (g1 : Int), .int .u64 (g2 : Int)]
      have hBn := below_setRow hBu (Nat.le_refl _) [.int .u64 (g0 : Int), .int .u64 (g1 : Int), .int .u64 (g2 : Int)].toArray
      clear hRu hBu
      generalize (wr.alloc (.cells #[.int .u64 0, .int .u64 0, .int .u64 0] 57)).setRow wr.heap.size [.int .u64 (g0 : Int), .int .u64 (g1 : Int), .int .u64 (g2 : Int)].toArray = wb at hRu2 hBn ⊢
      have hownC := ownsRow_later hown hBn
      have hBb := below_step hBr hBn
      have hap := own_apart hown
      have u0 := hRu2.cell (i := 0) rfl
      have u1 := hRu2.cell (i := 1) rfl
      have u2 := hRu2.cell (i := 2) rfl
      clear hBn hown hBr hRr hruw hrng
      go_wp2_with fail
      refine (HN3.out _ _ _ (HR3.out _ _ (by simp))).mono ?_
      rintro e wc ⟨A9, c9, rfl, hc9, hr9, hb9⟩
      have hb89 := below_new (Below.refl wb.heap.size wb) (.cells #[.int .u64 (g0 : Int), .int .u64 (g1 : Int), .int .u64 (g2 : Int)] 28)
      have hownD := ownsRow_later (ownsRow_later hownC hb89) hb9
      have hBc := below_step (below_step hBb hb89) hb9
      have hzc := hBc.size
      clear hb89 hb9 hownC hBb u0 u1 u2 hRu2
      go_wp2_with (at_builtin; refine wpList_append_apart _ rfl (.tmp 47) (.tmp 55) 22 rfl w1.heap.size 5 i0 (.int .u8 0) 1 Tryz.underlying22 hi hz0 hz1 hz2 rfl _ _ _ rfl hownD A9 N3 c9 (by rw [HL3.out]; rfl) hr9 vB_one (by rw [HL3.out]; unfold maxLen; omega) (by rw [HL3.out]; omega) hzc ?_; intro v8 w8 hown8 hgrow8 hat8)
      have hB8 := hBc.grown hgrow8 hzc (fun j hj => (hownD.lt j hj).1)
      rw [← List.map_append, List.append_assoc, ← HTK.out, HL3.out] at hown8
      clear hownD hBc hgrow8 hat8 hr9
      go_roundw
      case rel => exact ⟨k + 1, rfl, by omega, by rw [Nat.mul_add, ← Nat.add_assoc]; exact hown8, hB8⟩
      case measure => simp [intOf]; omega
    · have hkk : k = l.length := by omega
      subst hkk
      rw [List.take_length] at hown
      have HTL : Hid ((T ++ usesL l).length = 27 + 24 * l.length) := by unfold Hid; rw [List.length_append, HT.out, usesL_length]
      generalize T ++ usesL l = TT at hown HTL HRES ⊢
      have j1 : ¬ (l.length : Int) < (l.length : Int) := by omega
      go_wp2_with (refine wpList_load_part rfl 32 (.tmp 59) rfl (w.heap.size) 1 rfl _ _ (hRr) ((lB xb b)) (by rfl) _ Tryz.underlying32 rfl (by exact size_bundle) ?_)
      refine (HBB.out _ (hB.trans (hBr.mono hB.size))).mono ?_
      rintro e w8 ⟨A8, m8, c8, rfl, HM8, hc8, hr8, hb8⟩
      have hownE := ownsRow_later hown hb8
      have hBe := below_step hBr hb8
      have hze := hBe.size
      have hm8 : m8 ≤ 4171 := by rw [← HM8.out]; exact hle
      clear hown hBr hb8 hle
      go_wp2_with (at_builtin; refine wpList_append_apart _ rfl (.tmp 64) (.tmp 65) 22 rfl w1.heap.size 5 i0 (.int .u8 0) 1 Tryz.underlying22 hi hz0 hz1 hz2 rfl _ _ _ rfl hownE A8 TB c8 (by rw [HM8.out]; rfl) hr8 vB_one (by rw [HM8.out]; unfold maxLen; omega) (by rw [HM8.out]; omega) hze ?_; intro v9 w9 hown9 hgrow9 hat9)
      have hB9 := hBe.grown hgrow9 hze (fun j hj => (hownE.lt j hj).1)
      rw [← List.map_append, ← HTL.out, ← List.length_append, HRES.out] at hown9
      go_ret
      exact ⟨v9, rfl, own_base hown9 hB.size, hB.trans (hB9.mono hB.size)⟩
end Go.Proofs.YteljklkgdejhpaaGreatDoor
namespace Go.Proofs.YteljklkgdejhpaaGreatDoor
open Go.RowKit
theorem Only.setNew {g : Nat} {w W : World} (h : Only g w W) (hg : g ≤ w.heap.size) {p : Addr} (hp : w.heap.size ≤ p.block) (v : Value) : Only g w (W.setCell p v) :=
  ⟨h.below.setCell (p := p) (Nat.le_trans hg hp) v, fun b hb hl => (Below.heap_setCell W p v b (by omega)).trans (h.other b hb hl)⟩
theorem Only.setRowNew {g : Nat} {w W : World} (h : Only g w W) (hg : g ≤ w.heap.size) {q : Nat} (hp : w.heap.size ≤ q) (cs : Array Value) : Only g w (W.setRow q cs) :=
  ⟨below_setRow h.below (Nat.le_trans hg hp) cs, fun b hb hl => (Go.setRow_other W q b cs (by omega)).trans (h.other b hb hl)⟩
theorem Only.laterBy {g : Nat} {w W W' : World} (h : Only g w W) (hg : g ≤ w.heap.size) (hb : Below w.heap.size W W') : Only g w W' :=
  ⟨h.below.trans (hb.mono hg), fun b hb1 hl => (hb.block b hl).trans (h.other b hb1 hl)⟩
set_option maxHeartbeats 2000000 in
theorem readuse_any (g : Nat) (k : Int) (S : List UInt8) (w : World) (h : RdRF g k S w) :
    Calls Tryz.prog 136 #[.pointer (some ⟨g, 0, none⟩)] w fun e w' => e = .returned (.agg #[.int .u64 ((useK k S).1.1 : Int), .int .u64 ((useK k S).1.2.1 : Int), .int .u64 ((useK k S).1.2.2 : Int)]) ∧ RdRF g (useK k S).2.1 (useK k S).2.2 w' ∧ Only g w w' := by
  obtain ⟨a, k1, S1, H1⟩ : ∃ x k' S', num8K k S = (x, k', S') := ⟨_, _, _, rfl⟩
  obtain ⟨b, k2, S2, H2⟩ : ∃ x k' S', num8K k1 S1 = (x, k', S') := ⟨_, _, _, rfl⟩
  obtain ⟨c, k3, S3, H3⟩ : ∃ x k' S', num8K k2 S2 = (x, k', S') := ⟨_, _, _, rfl⟩
  rw [useK_at H1 H2 H3]
  dsimp only
  replace H1 := Lib.hid H1
  replace H2 := Lib.hid H2
  replace H3 := Lib.hid H3
  have hgl := h.lt
  obtain ⟨hR0, hR1, hB0⟩ := two_boxes w 57 57 [.int .u64 0, .int .u64 0, .int .u64 0] [.int .u64 0, .int .u64 0, .int .u64 0] _ _ rfl rfl
  have hOO := Only.later hB0 (Nat.le_of_lt hgl)
  have hT := h.below (hB0.mono (show g + 1 ≤ w.heap.size by omega))
  clear h hB0
  go_enter Tryz.func136, Tryz.ntmps136
  go_upto_region 2 with fail
  generalize (w.alloc (.cells [.int .u64 0, .int .u64 0, .int .u64 0].toArray 57)).alloc (.cells [.int .u64 0, .int .u64 0, .int .u64 0].toArray 57) = W0 at hR0 hR1 hOO hT ⊢
  go_wp2_with fail
  refine (number8_any g k S W0 hT).mono ?_
  rw [H1.out]
  rintro e V1 ⟨rfl, hT1, hO⟩
  dsimp only at hT1 ⊢
  have hRa1 := hR1.only hO (by omega)
  have hRr1 := hR0.only hO (by omega)
  have hOO1 := hOO.trans hO
  have f0 := hRa1.frozen 0
  have c0 : V1.cell? ⟨w.heap.size + 1, 0, none⟩ = some (.int .u64 0) := hRa1.cell rfl
  have hs1 := hO.below.size
  clear hT hR1 hR0 hOO hO
  have hT := hT1.below ((Below.refl _ V1).setCell (p := ⟨w.heap.size + 1, 0, none⟩) (show g + 1 ≤ w.heap.size + 1 by omega) (.int .u64 (a : Int)))
  have hR1 : Row (V1.setCell ⟨w.heap.size + 1, 0, none⟩ (.int .u64 (a : Int))) (w.heap.size + 1) 57 [.int .u64 (a : Int), .int .u64 0, .int .u64 0] := hRa1.setCell 0 _
  have hR0 := hRr1.setCell_other (p := ⟨w.heap.size + 1, 0, none⟩) (by show w.heap.size ≠ w.heap.size + 1; omega) (.int .u64 (a : Int))
  have hOO : Only g w (V1.setCell ⟨w.heap.size + 1, 0, none⟩ (.int .u64 (a : Int))) := hOO1.setNew (Nat.le_of_lt hgl) (p := ⟨w.heap.size + 1, 0, none⟩) (by show w.heap.size ≤ w.heap.size + 1; omega) _
  have hq1 : w.heap.size + 2 ≤ (V1.setCell ⟨w.heap.size + 1, 0, none⟩ (.int .u64 (a : Int))).heap.size := by have := hR1.lt; omega
  go_upto_region 3 with fail
  clear hT1 hRa1 hRr1 hOO1 c0 f0 hs1
  generalize V1.setCell ⟨w.heap.size + 1, 0, none⟩ (.int .u64 (a : Int)) = W1 at hT hR1 hR0 hOO hq1 ⊢
  go_wp2_with fail
  refine (number8_any g k1 S1 W1 hT).mono ?_
  rw [H2.out]
  rintro e V2 ⟨rfl, hT2, hO⟩
  dsimp only at hT2 ⊢
  have hRa2 := hR1.only hO (by omega)
  have hRr2 := hR0.only hO (by omega)
  have hOO2 := hOO.trans hO
  have f1 := hRa2.frozen 1
  have c1 : V2.cell? ⟨w.heap.size + 1, 1, none⟩ = some (.int .u64 0) := hRa2.cell rfl
  have hs2 := hO.below.size
  clear hT hR1 hR0 hOO hO
  have hT := hT2.below ((Below.refl _ V2).setCell (p := ⟨w.heap.size + 1, 1, none⟩) (show g + 1 ≤ w.heap.size + 1 by omega) (.int .u64 (b : Int)))
  have hR1 : Row (V2.setCell ⟨w.heap.size + 1, 1, none⟩ (.int .u64 (b : Int))) (w.heap.size + 1) 57 [.int .u64 (a : Int), .int .u64 (b : Int), .int .u64 0] := hRa2.setCell 1 _
  have hR0 := hRr2.setCell_other (p := ⟨w.heap.size + 1, 1, none⟩) (by show w.heap.size ≠ w.heap.size + 1; omega) (.int .u64 (b : Int))
  have hOO : Only g w (V2.setCell ⟨w.heap.size + 1, 1, none⟩ (.int .u64 (b : Int))) := hOO2.setNew (Nat.le_of_lt hgl) (p := ⟨w.heap.size + 1, 1, none⟩) (by show w.heap.size ≤ w.heap.size + 1; omega) _
  have hq2 : w.heap.size + 2 ≤ (V2.setCell ⟨w.heap.size + 1, 1, none⟩ (.int .u64 (b : Int))).heap.size := by have := hR1.lt; omega
  go_upto_region 4 with fail
  clear hT2 hRa2 hRr2 hOO2 c1 f1 hs2
  generalize V2.setCell ⟨w.heap.size + 1, 1, none⟩ (.int .u64 (b : Int)) = W2 at hT hR1 hR0 hOO hq2 ⊢
  go_wp2_with fail
  refine (number8_any g k2 S2 W2 hT).mono ?_
  rw [H3.out]
  rintro e V3 ⟨rfl, hT3, hO⟩
  dsimp only at hT3 ⊢
  have hRa3 := hR1.only hO (by omega)
  have hRr3 := hR0.only hO (by omega)
  have hOO3 := hOO.trans hO
  have f2 := hRa3.frozen 2
  have c2 : V3.cell? ⟨w.heap.size + 1, 2, none⟩ = some (.int .u64 0) := hRa3.cell rfl
  have hs3 := hO.below.size
  clear hT hR1 hR0 hOO hO
  have hT := hT3.below ((Below.refl _ V3).setCell (p := ⟨w.heap.size + 1, 2, none⟩) (show g + 1 ≤ w.heap.size + 1 by omega) (.int .u64 (c : Int)))
  have hR1 : Row (V3.setCell ⟨w.heap.size + 1, 2, none⟩ (.int .u64 (c : Int))) (w.heap.size + 1) 57 [.int .u64 (a : Int), .int .u64 (b : Int), .int .u64 (c : Int)] := hRa3.setCell 2 _
  have hR0 := hRr3.setCell_other (p := ⟨w.heap.size + 1, 2, none⟩) (by show w.heap.size ≠ w.heap.size + 1; omega) (.int .u64 (c : Int))
  have hOO : Only g w (V3.setCell ⟨w.heap.size + 1, 2, none⟩ (.int .u64 (c : Int))) := hOO3.setNew (Nat.le_of_lt hgl) (p := ⟨w.heap.size + 1, 2, none⟩) (by show w.heap.size ≤ w.heap.size + 1; omega) _
  have hq3 : w.heap.size + 2 ≤ (V3.setCell ⟨w.heap.size + 1, 2, none⟩ (.int .u64 (c : Int))).heap.size := by have := hR1.lt; omega
  go_upto_region 5 with fail
  clear hT3 hRa3 hRr3 hOO3 c2 f2 hs3
  generalize V3.setCell ⟨w.heap.size + 1, 2, none⟩ (.int .u64 (c : Int)) = W3 at hT hR1 hR0 hOO hq3 ⊢
  go_wp2_with (first
    | (refine wpList_load_part rfl 57 (.tmp 3) rfl (w.heap.size + 1) 0 rfl _ _ (hR1) ([.int .u64 (a : Int), .int .u64 (b : Int), .int .u64 (c : Int)]) (by rfl) _ Tryz.underlying57 rfl (by exact size_use) ?_)
    | (refine wpList_store_row rfl 57 (.tmp 2) (.tmp 13) rfl (w.heap.size) rfl ([.int .u64 (a : Int), .int .u64 (b : Int), .int .u64 (c : Int)]) rfl _ _ (hR0) (by exact size_use) rfl (one_three _ _ _ rfl rfl rfl) ?_))
  refine bodyPost_ret (results_cell_row (p := 2) (ty := 57) (by rfl) _ _ w.heap.size 57 _ (0, 0) _ (by rfl) (by exact hR0.setRow _) Tryz.underlying57 (by rfl) (by exact size_use)) (by rfl) ?_
  exact ⟨rfl, hT.below (below_setRow (Below.refl _ _) (by omega) _), hOO.setRowNew (Nat.le_of_lt hgl) (Nat.le_refl _) _⟩
theorem readBun_ok (b : List UInt8) : fitBn ((readBun b).1, (readBun b).2.1, (readBun b).2.2.1) ∧ (readBun b).2.1.length ≤ 64 ∧ (readBun b).2.2.1.length ≤ 64 ∧ ∀ x ∈ (readBun b).2.1, x.2.2.length ≤ 32 := by
  obtain ⟨v, es, gs, m, k, hb⟩ : ∃ v es gs m k, readBun b = (v, es, gs, m, k) := ⟨_, _, _, _, _, rfl⟩
  by_cases h : k = 0
  · subst h
    obtain ⟨g1, _, _, g2, g3, g4⟩ := bun_good hb
    obtain ⟨h1, h2, h3⟩ := right_b.1 g1
    rw [hb]
    exact ⟨⟨g2, g3, g4⟩, h1, (right_parts.1 h2).2, fun x hx => (okE_all h3 x hx).2⟩
  · obtain ⟨rfl, rfl, rfl, _⟩ := bun_bad hb h
    rw [hb]
    exact ⟨⟨by show (0 : Nat) < _; decide, (fun x hx => by cases hx), (fun x hx => by cases hx)⟩, Nat.zero_le _, Nat.zero_le _, (fun x hx => by cases hx)⟩
theorem bunK_of {k e k2 kE : Int} {S S' T : List UInt8} {v q : Nat} {es : List En} {gs : List Gn} (hS : k = 0 → S' = S) (hr : readBun S' = (v, es, gs, q, e)) (h2 : (nextK q (keepK k e) S).2 = (k2, T)) (hE : endK k2 T = kE) : BunK k S kE (v, es, gs) := by
  refine ⟨fun hk => ?_, fun hk => ?_⟩
  · unfold keepK nextK at h2
    rw [if_neg hk, if_neg hk] at h2
    injection h2 with e1 e2
    subst e1 e2
    rw [← hE]
    unfold endK
    rw [if_neg (fun h => hk h.1)]
  · have eS := hS hk
    subst eS hk
    unfold keepK at h2
    rw [if_pos rfl] at h2
    unfold allB
    rw [hr]
    dsimp only
    by_cases he : e = 0
    · subst he
      unfold nextK at h2
      rw [if_pos rfl] at h2
      by_cases hq : S'.length < q
      · rw [if_pos hq] at h2
        injection h2 with e1 e2
        subst e1 e2
        refine .inr ⟨by rw [← hE]; unfold endK; rw [if_neg (fun h => absurd h.1 (by decide))]; decide, ?_⟩
        rw [if_neg (fun h => by omega)]
      · rw [if_neg hq] at h2
        injection h2 with e1 e2
        subst e1 e2
        by_cases hl : q = S'.length
        · refine .inl ⟨?_, ?_⟩
          · rw [← hE]
            unfold endK
            rw [if_neg (fun h => h.2 (List.drop_eq_nil_of_le (by omega)))]
          · rw [if_pos ⟨rfl, hl⟩]
        · refine .inr ⟨?_, ?_⟩
          · rw [← hE]
            unfold endK
            rw [if_pos ⟨rfl, fun h => by have := congrArg List.length h; rw [List.length_drop, List.length_nil] at this; omega⟩]
            decide
          · rw [if_neg (fun h => hl h.2)]
    · unfold nextK at h2
      rw [if_neg he] at h2
      injection h2 with e1 e2
      subst e1 e2
      refine .inr ⟨?_, ?_⟩
      · rw [← hE]
        unfold endK
        rw [if_neg (fun h => he h.1)]
        exact he
      · rw [if_neg (fun h => he h.1)]
def RetRb (g : Nat) (k : Int) (S : List UInt8) (w : World) (e : Ending) (w' : World) : Prop :=
  ∃ x b kE v, e = .returned (aggBW x b) ∧ InB w' x b ∧ FreshB w.heap.size x ∧ BunK k S kE b ∧ Row w' g 186 [v, .int .i64 kE] ∧ Only g w w'
set_option maxHeartbeats 4000000 in
theorem readbundle_any (g : Nat) (k : Int) (S : List UInt8) (w : World) (h : RdRF g k S w) :
    Calls Tryz.prog 137 #[.pointer (some ⟨g, 0, none⟩)] w (RetRb g k S w) := by
  have hgl := h.lt
  have hgl2 := Nat.le_of_lt hgl
  obtain ⟨hR0, hB0⟩ := box_of w 32 l0B _ rfl
  have hOO := Only.later hB0 hgl2
  have hT := h.below (hB0.mono (show g + 1 ≤ w.heap.size by omega))
  clear h
  go_enter Tryz.func137, Tryz.ntmps137
  go_upto_region 1 with fail
  generalize (w.alloc (.cells l0B.toArray 32)) = W0 at hR0 hOO hT ⊢
  obtain ⟨S', n, ⟨A, c, hRg, HN, hc, hr, hA⟩, hn, hS'⟩ := id hT
  have HS' := Lib.hid hS'
  have cg : W0.cell? ⟨g, 0, none⟩ = some (.slice A n c) := hRg.cell rfl
  have HBR := Lib.hid (readBunN_any S' n c A W0 HN hr hn hc)
  have HOKB := Lib.hid (readBun_ok S')
  obtain ⟨v, es, gs, q, er, hX⟩ : ∃ v es gs q er, readBun S' = (v, es, gs, q, er) := ⟨_, _, _, _, _, rfl⟩
  rw [hX] at HBR HOKB
  have HX := Lib.hid hX
  obtain ⟨T, k2, hnx⟩ : ∃ T k2, (nextK q (keepK k er) S).2 = (k2, T) := ⟨_, _, rfl⟩
  have HNX := Lib.hid hnx
  clear hX hnx hS' hr hRg hA
  go_wp2_with fail
  refine HBR.out.mono ?_
  rintro e w1 ⟨eA, xs, ne, ec, gA, m, gc, rfl, HC, HNE, HM, hec, hgc, hre, hoe, hrg, ⟨hfe, hfs, hfg⟩, hb1⟩
  unfold aggB
  dsimp only at HC HM hrg HOKB ⊢
  have hIn : InB w1 ⟨xs, eA, ne, ec, gA, m, gc⟩ (v, es, gs) := ⟨HC.out, HNE.out, HM.out, hec, hgc, hre, hoe, hrg, by
      show ne ≤ 1000000
      have := HOKB.out.2.1
      rw [← HC.out, conE_length, HNE.out] at this
      omega, by
      show m ≤ 1000000
      have := HOKB.out.2.2.1
      rw [HM.out] at this
      omega, fun y hy => by
      have := HOKB.out.2.2.2 y.con (by rw [← HC.out]; exact List.mem_map.2 ⟨y, hy, rfl⟩)
      have e1 : y.con.2.2 = y.s := rfl
      rw [e1] at this
      omega, HOKB.out.1⟩
  have hFr : FreshB W0.heap.size ⟨xs, eA, ne, ec, gA, m, gc⟩ := ⟨hfe, hfs, hfg⟩
  have hW0 := hR0.lt
  have hT1 := hT.below (hb1.mono (show g + 1 ≤ W0.heap.size by omega))
  have hOO1 := hOO.laterBy hgl2 (hb1.mono (Nat.le_of_lt hW0))
  have hR01 := hR0.later hb1
  have hs1 := hb1.size
  obtain ⟨hRx, hBx⟩ := box_of w1 32 l0B _ rfl
  clear hre hoe hrg hfe hfs hfg hb1 HBR HOKB hT hOO hR0 cg
  go_upto_region 2 with (refine wpList_store_row rfl 32 (.tmp 3) (.tmp 12) rfl (w1.heap.size) rfl ([.int .u64 (v : Int), .slice eA ne ec, .slice gA m gc]) rfl _ _ (hRx) (by exact size_bundle) rfl (one_three _ _ _ rfl rfl rfl) ?_)
  have hRx2 := hRx.setRow [.int .u64 (v : Int), .slice eA ne ec, .slice gA m gc]
  have hbn := below_setRow hBx (Nat.le_refl _) [.int .u64 (v : Int), .slice eA ne ec, .slice gA m gc].toArray
  clear hRx hBx
  generalize (w1.alloc (.cells l0B.toArray 32)).setRow w1.heap.size [.int .u64 (v : Int), .slice eA ne ec, .slice gA m gc].toArray = wb at hRx2 hbn ⊢
  have hIn2 := hIn.keep hbn
  have hT2 := hT1.below (hbn.mono (show g + 1 ≤ w1.heap.size by omega))
  have hOO2 := hOO1.laterBy hgl2 (hbn.mono (by omega))
  have hR02 := hR01.later hbn
  have hgx : W0.heap.size ≤ w1.heap.size := hs1
  clear hIn hT1 hOO1 hR01 hbn hs1
  generalize w1.heap.size = gx at hRx2 hgx ⊢
  go_wp2_with fail
  refine (keep_any g k er S wb hT2).mono ?_
  rintro e w2 ⟨rfl, hT3, hO⟩
  have hIn3 := hIn2.only hO (hFr.mono (by omega))
  have hRx3 := hRx2.only hO (by omega)
  have hR03 := hR02.only hO (by omega)
  have hOO3 := hOO2.trans hO
  clear hIn2 hT2 hOO2 hR02 hRx2 hO
  go_wp2_with fail
  refine (next_any g q (keepK k er) S w2 hT3).mono ?_
  rintro e w3 ⟨A4, q4, c4, rfl, HQ4, hq4, hqc4, hr4, hT4, hO⟩
  rw [show (nextK q (keepK k er) S).2.1 = k2 from by rw [HNX.out], show (nextK q (keepK k er) S).2.2 = T from by rw [HNX.out]] at hT4
  have hIn4 := hIn3.only hO (hFr.mono (by omega))
  have hRx4 := hRx3.only hO (by omega)
  have hR04 := hR03.only hO (by omega)
  have hOO4 := hOO3.trans hO
  clear hIn3 hT3 hOO3 hR03 hRx3 hO hr4 HQ4 hq4 hqc4
  go_wp2_with fail
  refine (endF_any g k2 T w3 hT4).mono ?_
  rintro e w4 ⟨rfl, ⟨vg, hRg⟩, hO⟩
  have hIn5 := hIn4.only hO (hFr.mono (by omega))
  have hRx5 := hRx4.only hO (by omega)
  have hR05 := hR04.only hO (by omega)
  have hOO5 := hOO4.trans hO
  clear hIn4 hT4 hOO4 hR04 hRx4 hO
  go_wp2_with (first
    | (refine wpList_load_part rfl 32 (.tmp 3) rfl (gx) 0 rfl _ _ (hRx5) ([.int .u64 (v : Int), .slice eA ne ec, .slice gA m gc]) (by rfl) _ Tryz.underlying32 rfl (by exact size_bundle) ?_)
    | (refine wpList_store_row rfl 32 (.tmp 2) (.tmp 23) rfl (w.heap.size) rfl ([.int .u64 (v : Int), .slice eA ne ec, .slice gA m gc]) rfl _ _ (hR05) (by exact size_bundle) rfl (one_three _ _ _ rfl rfl rfl) ?_))
  refine bodyPost_ret (results_cell_row (p := 2) (ty := 32) (by rfl) _ _ w.heap.size 32 _ (0, 0) _ (by rfl) (by exact hR05.setRow _) Tryz.underlying32 (by rfl) (by exact size_bundle)) (by rfl) ?_
  have hO6 := (Only.refl w.heap.size w4).setRow [.int .u64 (v : Int), .slice eA ne ec, .slice gA m gc].toArray
  exact ⟨⟨xs, eA, ne, ec, gA, m, gc⟩, (v, es, gs), endK k2 T, vg, rfl, hIn5.only hO6 (hFr.mono (by omega)), hFr.mono (by omega), bunK_of HS'.out HX.out HNX.out rfl, hRg.only hO6 (by omega), hOO5.setRowNew hgl2 (Nat.le_refl _) _⟩
end Go.Proofs.YteljklkgdejhpaaGreatDoor
namespace Go.Proofs.YteljklkgdejhpaaGreatDoor
open Go.RowKit
section
variable {P : Program} {ops : Array Oper} {Q : Exit → Act → World → Prop}
theorem last_held2 {S : World → Prop} (hg : guardsOK ops = true) (hn : 0 < ops.size) (hdep : (List.range ops.size).all (fun i => (depsOf ops i).all (fun j => decide (j < i))) = true) (hlast : (List.range (ops.size - 1)).all (fun j => (depsOf ops (ops.size - 1)).contains j || (depsOf ops (ops.size - 1)).any (fun k => (depsOf ops k).contains j)) = true) :
    ∀ (fuel : Nat) (L M : Array Bool) (a : Act) (w : World), L.size = ops.size → M.size = ops.size - 1 → (∀ i, i < ops.size - 1 → M.getD i false = L.getD i false) → L.getD (ops.size - 1) false = false → (∀ k, L.getD k false = true → ∀ j ∈ depsOf ops k, L.getD j false = true) → wpAnyH P .any (initO ops) (LastQ P ops Q) S fuel M a w → wpAny P .any ops Q (fuel + 1) L a w := by
  have hdi : (List.range (initO ops).size).all (fun i => (depsOf (initO ops) i).all (fun j => decide (j < i))) = true := by
    rw [initO_size]
    refine List.all_eq_true.2 (fun i hi => ?_)
    have hi' := List.mem_range.1 hi
    rw [initO_deps ops i hi']
    exact List.all_eq_true.1 hdep i (List.mem_range.2 (by omega))
  have done : ∀ (fuel : Nat) (L : Array Bool) (a : Act) (w : World), L.size = ops.size → (∀ i, i < ops.size → L.getD i false = true) → Q .normal a w → wpAny P .any ops Q fuel L a w := by
    intro fuel L a w hL hall hq
    have hnil : Region.ready .any ops L = [] := by
      refine List.eq_nil_iff_forall_not_mem.2 (fun i hi => ?_)
      obtain ⟨h1, h2, _⟩ := ready_deps hi
      rw [getD_tf (by omega), hall i h1] at h2
      cases h2
    cases fuel with
    | zero => exact ⟨hnil, hq⟩
    | succ f => exact ⟨fun _ => hq, fun i hi => by rw [hnil] at hi; cases hi⟩
  have final : ∀ (fuel : Nat) (L M : Array Bool) (a : Act) (w : World), L.size = ops.size → M.size = ops.size - 1 → (∀ i, i < ops.size - 1 → M.getD i false = L.getD i false) → L.getD (ops.size - 1) false = false → Region.ready .any (initO ops) M = [] → LastQ P ops Q .normal a w → wpAny P .any ops Q (fuel + 1) L a w := by
    intro fuel L M a w hL hM hLM hl hr hq
    have hall := none_left hdi (by rw [initO_size]; exact hM) hr
    rw [initO_size] at hall
    have hmem : ops.size - 1 ∈ Region.ready .any ops L := ready_of (by omega) (by omega) hl (fun j hj => by
      have h1 := List.all_eq_true.1 hdep (ops.size - 1) (List.mem_range.2 (by omega))
      have hlt := of_decide_eq_true (List.all_eq_true.1 h1 _ hj)
      rw [← hLM j hlt]
      exact hall j hlt)
    refine ⟨fun hnil => (by rw [hnil] at hmem; cases hmem), fun i hi => ?_⟩
    obtain ⟨h1, h2, _⟩ := ready_deps hi
    have hin : i = ops.size - 1 := by
      by_cases e : i = ops.size - 1
      · exact e
      · rw [getD_tf (by omega), ← hLM i (by omega), hall i (by omega)] at h2
        cases h2
    subst hin
    refine wpOp_mono (fun a' w' hq' => done fuel _ a' w' (by simp [hL]) (fun j hj => ?_) hq') hq
    have hjl : j < L.size := by omega
    by_cases e : j = ops.size - 1
    · subst e
      simp [Array.getD, hjl]
    · have e2 : ops.size - 1 ≠ j := fun h => e h.symm
      have := (hLM j (by omega)).symm.trans (hall j (by omega))
      simp [Array.getD, hjl] at this
      simp [Array.getD, hjl, Array.getElem_setIfInBounds, e2, this]
  intro fuel
  induction fuel with
  | zero =>
    intro L M a w hL hM hLM hl hcl h
    exact final 0 L M a w hL hM hLM hl h.1 h.2
  | succ f ih =>
    intro L M a w hL hM hLM hl hcl h
    by_cases hr : Region.ready .any (initO ops) M = []
    · exact final (f + 1) L M a w hL hM hLM hl hr (h.1 hr)
    · obtain ⟨x, hx⟩ := List.exists_mem_of_ne_nil _ hr
      obtain ⟨x1, x2, x3⟩ := ready_deps hx
      rw [initO_size] at x1
      rw [initO_deps ops x x1] at x3
      rw [getD_tf (by omega)] at x2
      have hxr : x ∈ Region.ready .any ops L := ready_of (by omega) (by omega) (by rw [← hLM x x1]; exact x2) (fun j hj => by
        have h1 := List.all_eq_true.1 hdep x (List.mem_range.2 (by omega))
        have hlt := of_decide_eq_true (List.all_eq_true.1 h1 _ hj)
        rw [← hLM j (by omega)]
        exact x3 j hj)
      refine ⟨fun hnil => (by rw [hnil] at hxr; cases hxr), fun i hi => ?_⟩
      obtain ⟨h1, h2, h3⟩ := ready_deps hi
      have hin : i < ops.size - 1 := by
        by_cases e : i = ops.size - 1
        · subst e
          have hxm := List.all_eq_true.1 hlast x (List.mem_range.2 x1)
          have hx0 : L.getD x false = false := by rw [← hLM x x1]; exact x2
          rcases (Bool.or_eq_true _ _).mp hxm with hxm | hxm
          · have h4 := h3 x (by simpa using hxm)
            dsimp only at h4
            rw [hx0] at h4
            cases h4
          · obtain ⟨k, hk1, hk2⟩ := List.any_eq_true.1 hxm
            have h4 := hcl k (h3 k hk1) x (by simpa using hk2)
            rw [hx0] at h4
            cases h4
        · omega
      have hii : i ∈ Region.ready .any (initO ops) M := ready_of (by rw [initO_size]; exact hin) (by omega) (by rw [hLM i hin]; rw [getD_tf (by omega)] at h2; exact h2) (fun j hj => by
        rw [initO_deps ops i hin] at hj
        have h5 := List.all_eq_true.1 hdep i (List.mem_range.2 h1)
        have hlt := of_decide_eq_true (List.all_eq_true.1 h5 _ hj)
        rw [hLM j (by omega)]
        exact h3 j hj)
      have hop := h.2 i hii
      have hK : ∀ a' w', (S w' ∧ wpAnyH P .any (initO ops) (LastQ P ops Q) S f (M.setIfInBounds i true) a' w') → wpAny P .any ops Q (f + 1) (L.setIfInBounds i true) a' w' := fun a' w' hk =>
        ih (L.setIfInBounds i true) (M.setIfInBounds i true) a' w' (by simp [hL]) (by simp [hM]) (fun j hj => by
          have hjl : j < L.size := by omega
          have hjm : j < M.size := by omega
          have := hLM j hj
          simp [Array.getD, hjl, hjm] at this
          by_cases e : i = j
          · subst e
            simp [Array.getD, hjl, hjm]
          · simp [Array.getD, hjl, hjm, Array.getElem_setIfInBounds, e, this]) (by
          have hjl : ops.size - 1 < L.size := by omega
          have e : i ≠ ops.size - 1 := by omega
          simp [Array.getD, hjl] at hl
          simp [Array.getD, hjl, Array.getElem_setIfInBounds, e, hl]) (fun k hk' j hj => by
          have hset : ∀ m, L.getD m false = true → (L.setIfInBounds i true).getD m false = true := fun m hm => by
            by_cases hml : m < L.size
            · by_cases e : i = m
              · subst e
                simp [Array.getD, hml]
              · simp [Array.getD, hml] at hm
                simp [Array.getD, hml, Array.getElem_setIfInBounds, e, hm]
            · simp [Array.getD, hml] at hm
          by_cases e : i = k
          · subst e
            exact hset j (h3 j hj)
          · refine hset j (hcl k ?_ j hj)
            by_cases hkl : k < L.size
            · simp [Array.getD, hkl, Array.getElem_setIfInBounds, e] at hk'
              simp [Array.getD, hkl, hk']
            · simp [Array.getD, hkl] at hk') hk.2
      unfold wpOp at hop ⊢
      rw [initO_get ops i hin] at hop
      cases hoi : ops[i]? with
      | none =>
        rw [hoi] at hop
        exact hK _ _ hop
      | some o =>
        rw [hoi] at hop
        dsimp only at hop ⊢
        by_cases hw : Region.wanted o (yielded ops a.tmps) = true
        · have hwi : Region.wanted o (yielded (initO ops) a.tmps) = true := by rw [← wanted_init ops hg i o hoi a.tmps]; exact hw
          rw [if_pos hwi] at hop
          rw [if_pos hw]
          rcases hop with h6 | ⟨_, h6⟩
          · exact .inl (wp_of_lastQ (Oper.wp_mono hK h6))
          · exact (lastQ_lets h6).elim
        · have hwi : ¬ Region.wanted o (yielded (initO ops) a.tmps) = true := by rw [← wanted_init ops hg i o hoi a.tmps]; exact hw
          rw [if_neg hwi] at hop
          rw [if_neg hw]
          exact hK _ _ hop
theorem wp_region_last2 (S : World → Prop) (plan : Plan) {id : Nat} {a : Act} {w : World} (hS : S w.drew) (hm : P.follows .mixedOrders = true) (hs : Region.noSelect (initO ops) = true) (hg : guardsOK ops = true) (hn : 0 < ops.size) (hdep : (List.range ops.size).all (fun i => (depsOf ops i).all (fun j => decide (j < i))) = true) (hlast : (List.range (ops.size - 1)).all (fun j => (depsOf ops (ops.size - 1)).contains j || (depsOf ops (ops.size - 1)).any (fun k => (depsOf ops k).contains j)) = true)
    (hlen : plan.size = (initO ops).size) (hp : planOK (initO ops) plan (Array.replicate (initO ops).size false) = true) (h : wpPlan P (initO ops) (LastQ P ops Q) plan S a w.drew) : (Code.region id ops true).wp P Q a w := by
  refine wp_region_any hm ?_
  have h1 := wpPlan_held hs (fun _ _ _ _ _ h => h) plan S _ a w.drew hS hp h
  rw [hlen, initO_size] at h1
  have h2 := last_held2 (Q := Q) (S := S) hg hn hdep hlast (ops.size - 1) (Array.replicate ops.size false) (Array.replicate (ops.size - 1) false) a w.drew (by simp) (by simp) (fun i hi => by
    have : i < ops.size := by omega
    simp [Array.getD, hi, this]) (by
    have : ops.size - 1 < ops.size := by omega
    simp [Array.getD, this]) (fun k hk => by
    simp [Array.getD] at hk) h1
  rw [show ops.size - 1 + 1 = ops.size by omega] at h2
  exact h2
end
end Go.Proofs.YteljklkgdejhpaaGreatDoor
namespace Go.Proofs.YteljklkgdejhpaaGreatDoor
open Go.RowKit
theorem results_cell_mid {fn : Func} {p u v : Tmp} {ty : TypeId} (h : fn.results = #[.tmp u, .cell p ty, .tmp v]) (tmps : Array Value) (P : Program) (w : World) :
    (results fn tmps).run P w = ((asAddr (tmps.getD p undef)).run P w).andThen fun a w₁ => ((loadVar ty a).run P w₁).andThen fun x w₂ => .ok (.tuple #[tmps.getD u undef, x, tmps.getD v undef]) w₂ := by
  simp only [results, h]
  simp [Sem.run_bind, Result.andThen]
theorem results_row_mid {P : Program} {fn : Func} {p u v : Tmp} {ty : TypeId} (h : fn.results = #[.tmp u, .cell p ty, .tmp v]) (tmps : Array Value) (w : World) (g : Nat) (t : TypeId) (l : List Value) (d : TypeDesc) (hp : tmps.getD p undef = .pointer (some ⟨g, 0, none⟩)) (hg : Row w g t l)
    (hu : P.underlying ty = some d) (hd : d.isRow = true) (hi : (P.info? ty).map (·.size) = some l.length) : (results fn tmps).run P w = .ok (.tuple #[tmps.getD u undef, .agg l.toArray, tmps.getD v undef]) w := by
  rw [results_cell_mid h, hp]
  simp only [asAddr, Sem.run_pure, Result.andThen_ok, hg.loadVar (P := P) ty d hu hd hi]
theorem usesK_fit : ∀ (q : Nat) (k : Int) (S : List UInt8), fitU (usesK q k S).1
  | 0, _, _ => fun x hx => by cases hx
  | q + 1, k, S => fun x hx => by
    rcases List.mem_cons.1 hx with rfl | hx
    · exact useK_fit k S
    · exact usesK_fit q _ _ x hx
theorem usesK_len : ∀ (q : Nat) (k : Int) (S : List UInt8), (usesK q k S).1.length = q
  | 0, _, _ => rfl
  | q + 1, k, S => by
    show ((usesK q _ _).1).length + 1 = q + 1
    rw [usesK_len q _ _]
theorem ownU_only {B g : Nat} {e : TypeId} {v : Value} {n : Nat} {xs : List Value} {w w' : World} (h : w.ownsRow B e 3 v n xs) (k : Only g w w') (hg : g < B) : w'.ownsRow B e 3 v n xs := ownsRowU_same h (fun b hb hl => k.other b (by omega) hl)
def RmI (q : Nat) (k5 : Int) (S5 : List UInt8) (c rm fl : Nat) (w : World) (g1 gm B : Nat) (i : Value) (wr : World) : Prop :=
  ∃ (j : Nat) (l : List Us) (u : Value) (kk : Int) (S : List UInt8), i = .int .i64 (j : Int) ∧ j ≤ q ∧ Hid (l.length = j) ∧ Hid (usesK q k5 S5 = (l ++ (usesK (q - j) kk S).1, (usesK (q - j) kk S).2)) ∧ Row wr w.heap.size 37 l0M ∧ Row wr gm 37 [.int .u64 (c : Int), .int .u64 0, .slice none 0 0, .slice none 0 0, .int .i64 (rm : Int), .int .u64 (fl : Int), u] ∧
    wr.ownsRow B 57 3 u j (cellsU l) ∧ RdRF g1 kk S wr ∧ Below w.heap.size w wr ∧ B ≤ wr.heap.size
theorem keep_row (g : Nat) (v : Value) (k e : Int) (w : World) (hR : Row w g 186 [v, .int .i64 k]) :
    Calls Tryz.prog 138 #[.pointer (some ⟨g, 0, none⟩), .int .i64 e] w fun e₁ w' => e₁ = .returned (.tuple #[]) ∧ Row w' g 186 [v, .int .i64 (keepK k e)] ∧ Only g w w' := by
  by_cases hk : k = 0
  · subst hk
    exact keep_ok g v e w hR
  · refine (keep_bad g v k e w hR hk).mono ?_
    rintro e₁ w' ⟨rfl, rfl⟩
    unfold keepK
    rw [if_neg hk]
    exact ⟨rfl, hR, Only.refl g w⟩
theorem finK_zero {R : Bool} {k : Int} : finK R k = 0 ↔ R = true ∧ k = 0 := by
  unfold finK keepK
  cases R with
  | true => simp
  | false =>
    by_cases h : k = 0
    · simp [h]
    · simp [h]
def memT (g : Nat) (v : Value) (W : World) : Prop := W.cell? ⟨g, 6, none⟩ = some v ∧ True
def RetRm (w : World) (b : List UInt8) (e : Ending) (w' : World) : Prop :=
  ∃ x m num er, e = .returned (.tuple #[.int .u64 ((num : Nat) : Int), aggM x m, .int .i64 er]) ∧ InM w' x m ∧ FreshM w.heap.size x ∧ num < 18446744073709551616 ∧ Hid (er = 0 → readMem b = some (num, m)) ∧ Hid (er ≠ 0 → readMem b = none) ∧ Below w.heap.size w w'
def memR (g g1 : Nat) (a b c d e f h k : Value) (W : World) : Prop := W.cell? ⟨g1, 1, none⟩ = some k ∧ (W.cell? ⟨g, 0, none⟩ = some a ∧ (W.cell? ⟨g, 1, none⟩ = some b ∧ (W.cell? ⟨g, 2, none⟩ = some c ∧ (W.cell? ⟨g, 3, none⟩ = some d ∧ (W.cell? ⟨g, 4, none⟩ = some e ∧ (W.cell? ⟨g, 5, none⟩ = some f ∧ W.cell? ⟨g, 6, none⟩ = some h))))))
theorem memR_of {g g1 : Nat} {t t1 : TypeId} {v a b c d e f h k : Value} {W : World} (hX : Row W g t [a, b, c, d, e, f, h]) (hG : Row W g1 t1 [v, k]) : memR g g1 a b c d e f h k W := ⟨hG.cell rfl, hX.cell rfl, hX.cell rfl, hX.cell rfl, hX.cell rfl, hX.cell rfl, hX.cell rfl, hX.cell rfl⟩
set_option maxHeartbeats 16000000 in
theorem readmem_any (b : List UInt8) (n : Nat) (A : Option Addr) (c0 : Nat) (w : World) (HN : Hid (b.length = n)) (hr : Rd vB w A b) (hc : n ≤ c0) (hn : n ≤ 1000000) :
    Calls Tryz.prog 97 #[.slice A n c0] w (RetRm w b) := by
  obtain ⟨i0, hi, hz0, hz1, hz2⟩ := info_parts info_use
  obtain ⟨k0, S0, H0⟩ : ∃ k S, markK 77 b = (k, S) := ⟨_, _, rfl⟩
  obtain ⟨num, k1, S1, H1⟩ : ∃ x k S, num8K k0 S0 = (x, k, S) := ⟨_, _, _, rfl⟩
  obtain ⟨c, k2, S2, H2⟩ : ∃ x k S, num8K k1 S1 = (x, k, S) := ⟨_, _, _, rfl⟩
  obtain ⟨rm, k3, S3, H3⟩ : ∃ x k S, oneK k2 S2 = (x, k, S) := ⟨_, _, _, rfl⟩
  obtain ⟨fl, k4, S4, H4⟩ : ∃ x k S, num8K k3 S3 = (x, k, S) := ⟨_, _, _, rfl⟩
  obtain ⟨q, k5, S5, H5⟩ : ∃ x k S, oneK k4 S4 = (x, k, S) := ⟨_, _, _, rfl⟩
  obtain ⟨l6, k6, S6, H6⟩ : ∃ x k S, usesK q k5 S5 = (x, k, S) := ⟨_, _, _, rfl⟩
  have hnum : num < 18446744073709551616 := by have := num8_lt k0 S0; rw [H1] at this; exact this
  have hclk : c < 18446744073709551616 := by have := num8_lt k1 S1; rw [H2] at this; exact this
  have hflr : fl < 18446744073709551616 := by have := num8_lt k3 S3; rw [H4] at this; exact this
  have hrm : rm < 256 := by have := oneK_lt k2 S2; rw [H3] at this; exact this
  have hq : q < 256 := by have := oneK_lt k4 S4; rw [H5] at this; exact this
  have HFU : Hid (fitU l6) := by have := usesK_fit q k5 S5; rw [H6] at this; exact this
  have HLU : Hid (l6.length = q) := by have := usesK_len q k5 S5; rw [H6] at this; exact this
  have HST : Hid (∀ {k7 : Int} {x : Bn}, BunK k6 S6 k7 x → readMem b = if k7 = 0 then (if rightM ⟨c, x, ((rm : Int), fl, l6)⟩ = true then some (num, ⟨c, x, ((rm : Int), fl, l6)⟩) else none) else none) := fun h7 => steps_mem H0 H1 H2 H3 H4 H5 H6 h7
  replace H0 := Lib.hid H0
  replace H1 := Lib.hid H1
  replace H2 := Lib.hid H2
  replace H3 := Lib.hid H3
  replace H4 := Lib.hid H4
  replace H5 := Lib.hid H5
  replace H6 := Lib.hid H6
  have hA := hr.off
  have hR0 : Row (((w.alloc (.cells l0M.toArray 37)).alloc (.cells #[.slice A n c0, .int .i64 0] 186)).alloc (.cells l0M.toArray 37)) w.heap.size 37 l0M := ((Row.new w _ _ _ rfl).alloc _).alloc _
  have hR1 : Row (((w.alloc (.cells l0M.toArray 37)).alloc (.cells #[.slice A n c0, .int .i64 0] 186)).alloc (.cells l0M.toArray 37)) (w.heap.size + 1) 186 [.slice A n c0, .int .i64 0] := (Row.new_at _ _ (by simp) _ _ _ rfl).alloc _
  have hR2 : Row (((w.alloc (.cells l0M.toArray 37)).alloc (.cells #[.slice A n c0, .int .i64 0] 186)).alloc (.cells l0M.toArray 37)) (w.heap.size + 1 + 1) 37 l0M := Row.new_at _ _ (by simp) _ _ _ rfl
  have hB := below_new (below_new (below_new (Below.refl _ w) (.cells l0M.toArray 37)) (.cells #[.slice A n c0, .int .i64 0] 186)) (.cells l0M.toArray 37)
  go_enter Tryz.func97, Tryz.ntmps97
  go_upto_region 3 with fail
  generalize ((w.alloc (.cells l0M.toArray 37)).alloc (.cells #[.slice A n c0, .int .i64 0] 186)).alloc (.cells l0M.toArray 37) = W0 at hR0 hR1 hR2 hB ⊢
  have hS : RdS (w.heap.size + 1) b n 0 W0 := ⟨A, c0, hR1, HN, hc, hr.keep hB, fun h0 a ha => by have := hA h0 a ha; omega⟩
  clear hr hA hR1
  obtain ⟨g0, hg0⟩ : ∃ g, g = w.heap.size := ⟨_, rfl⟩
  obtain ⟨g1, hg1⟩ : ∃ g, g = w.heap.size + 1 := ⟨_, rfl⟩
  obtain ⟨gm, hgm⟩ : ∃ g, g = w.heap.size + 1 + 1 := ⟨_, rfl⟩
  rw [← hg1] at hS
  rw [← hgm] at hR2
  rw [← hgm, ← hg1]
  have HG1 := Lib.hid hg1
  have HGM := Lib.hid hgm
  have l01 : w.heap.size < g1 := by omega
  have l1m : g1 < gm := by omega
  clear hg1 hgm hg0 g0
  go_wp2_with fail
  refine (mark_any 77 77 rfl (by decide) g1 b n W0 hS hn).mono ?_
  rw [H0.out]
  rintro e V0 ⟨rfl, hT, hO⟩
  dsimp only at hT
  replace hR0 := hR0.only hO (by omega)
  replace hR2 := hR2.only hO (by omega)
  replace hB := hB.trans (hO.below.mono (by omega))
  clear hO hS
  go_wp2_with fail
  refine (number8_any g1 k0 S0 V0 hT).mono ?_
  rw [H1.out]
  rintro e V1 ⟨rfl, hT1, hO⟩
  dsimp only at hT1 ⊢
  replace hR0 := hR0.only hO (by omega)
  replace hR2 := hR2.only hO (by omega)
  replace hB := hB.trans (hO.below.mono (by omega))
  clear hO hT
  go_wp2_with fail
  refine (number8_any g1 k1 S1 V1 hT1).mono ?_
  rw [H2.out]
  rintro e V2 ⟨rfl, hV2, hO⟩
  dsimp only at hV2 ⊢
  replace hR0 := hR0.only hO (by omega)
  replace hR2 := hR2.only hO (by omega)
  replace hB := hB.trans (hO.below.mono (by omega))
  clear hO hT1
  have f0 := hR2.frozen 0
  have c0 : V2.cell? ⟨gm, 0, none⟩ = some (.int .u64 0) := hR2.cell rfl
  have hT := hV2.below ((Below.refl _ V2).setCell (p := ⟨gm, 0, none⟩) (show g1 + 1 ≤ gm by omega) (.int .u64 (c : Int)))
  have hR2' : Row (V2.setCell ⟨gm, 0, none⟩ (.int .u64 (c : Int))) gm 37 [.int .u64 (c : Int), .int .u64 0, .slice none 0 0, .slice none 0 0, .int .i64 0, .int .u64 0, .slice none 0 0] := hR2.setCell 0 _
  have hR0' := hR0.setCell_other (p := ⟨gm, 0, none⟩) (by show w.heap.size ≠ gm; omega) (.int .u64 (c : Int))
  have hB' := hB.setCell (p := ⟨gm, 0, none⟩) (by show w.heap.size ≤ gm; omega) (.int .u64 (c : Int))
  go_upto_region 6 with fail
  clear hV2 hR2 hR0 hB f0 c0
  generalize V2.setCell ⟨gm, 0, none⟩ (.int .u64 (c : Int)) = U0 at hT hR2' hR0' hB' ⊢
  have hR2 := hR2'
  have hR0 := hR0'
  have hB := hB'
  clear hR2' hR0' hB'
  go_wp2_with fail
  refine (one_any g1 k2 S2 U0 hT).mono ?_
  rw [H3.out]
  rintro e V3 ⟨rfl, hV3, hO⟩
  dsimp only at hV3 ⊢
  replace hR0 := hR0.only hO (by omega)
  replace hR2 := hR2.only hO (by omega)
  replace hB := hB.trans (hO.below.mono (by omega))
  clear hO hT
  have f4 := hR2.frozen 4
  have c4 : V3.cell? ⟨gm, 4, none⟩ = some (.int .i64 0) := hR2.cell rfl
  have hT := hV3.below ((Below.refl _ V3).setCell (p := ⟨gm, 4, none⟩) (show g1 + 1 ≤ gm by omega) (.int .i64 (rm : Int)))
  have hR2' : Row (V3.setCell ⟨gm, 4, none⟩ (.int .i64 (rm : Int))) gm 37 [.int .u64 (c : Int), .int .u64 0, .slice none 0 0, .slice none 0 0, .int .i64 (rm : Int), .int .u64 0, .slice none 0 0] := hR2.setCell 4 _
  have hR0' := hR0.setCell_other (p := ⟨gm, 4, none⟩) (by show w.heap.size ≠ gm; omega) (.int .i64 (rm : Int))
  have hB' := hB.setCell (p := ⟨gm, 4, none⟩) (by show w.heap.size ≤ gm; omega) (.int .i64 (rm : Int))
  go_upto_region 7 with fail
  clear hV3 hR2 hR0 hB f4 c4
  generalize V3.setCell ⟨gm, 4, none⟩ (.int .i64 (rm : Int)) = U4 at hT hR2' hR0' hB' ⊢
  have hR2 := hR2'
  have hR0 := hR0'
  have hB := hB'
  clear hR2' hR0' hB'
  go_wp2_with fail
  refine (number8_any g1 k3 S3 U4 hT).mono ?_
  rw [H4.out]
  rintro e V4 ⟨rfl, hV4, hO⟩
  dsimp only at hV4 ⊢
  replace hR0 := hR0.only hO (by omega)
  replace hR2 := hR2.only hO (by omega)
  replace hB := hB.trans (hO.below.mono (by omega))
  clear hO hT
  have f5 := hR2.frozen 5
  have c5 : V4.cell? ⟨gm, 5, none⟩ = some (.int .u64 0) := hR2.cell rfl
  have hT := hV4.below ((Below.refl _ V4).setCell (p := ⟨gm, 5, none⟩) (show g1 + 1 ≤ gm by omega) (.int .u64 (fl : Int)))
  have hR2' : Row (V4.setCell ⟨gm, 5, none⟩ (.int .u64 (fl : Int))) gm 37 [.int .u64 (c : Int), .int .u64 0, .slice none 0 0, .slice none 0 0, .int .i64 (rm : Int), .int .u64 (fl : Int), .slice none 0 0] := hR2.setCell 5 _
  have hR0' := hR0.setCell_other (p := ⟨gm, 5, none⟩) (by show w.heap.size ≠ gm; omega) (.int .u64 (fl : Int))
  have hB' := hB.setCell (p := ⟨gm, 5, none⟩) (by show w.heap.size ≤ gm; omega) (.int .u64 (fl : Int))
  go_upto_region 8 with fail
  clear hV4 hR2 hR0 hB f5 c5
  generalize V4.setCell ⟨gm, 5, none⟩ (.int .u64 (fl : Int)) = U5 at hT hR2' hR0' hB' ⊢
  have hR2 := hR2'
  have hR0 := hR0'
  have hB := hB'
  clear hR2' hR0' hB'
  go_wp2_with fail
  refine (one_any g1 k4 S4 U5 hT).mono ?_
  rw [H5.out]
  rintro e V5 ⟨rfl, hV5, hO⟩
  dsimp only at hV5 ⊢
  replace hR0 := hR0.only hO (by omega)
  replace hR2 := hR2.only hO (by omega)
  replace hB := hB.trans (hO.below.mono (by omega))
  clear hO hT
  obtain ⟨B, hBB⟩ : ∃ B, B = V5.heap.size := ⟨_, rfl⟩
  have hgl2 := hR2.lt
  have hBle : B ≤ V5.heap.size := by omega
  have hgB : gm < B := by omega
  clear hBB hgl2
  go_upto_region 9 with fail
  go_loopw [30] (fun i wr => RmI q k5 S5 c rm fl w g1 gm B i wr) (fun i _ => q - (intOf i).toNat)
  case atStart => exact ⟨0, [], .slice none 0 0, k5, S5, rfl, Nat.zero_le _, Lib.hid rfl, Lib.hid rfl, hR0, hR2, World.ownsRow_nil _ _ _ _, hV5, hB, hBle⟩
  case round =>
    clear hR0 hR2 hB hV5 hBle
    obtain ⟨j, l, u, kk, S, rfl, hj, HL, HU, hR0, hR2, hown, hT, hB, hsz⟩ := hrel
    by_cases hlt : j < q
    · have HMORE := Lib.hid (usesK_more hlt HU.out)
      have hi1 : (j : Int) < (q : Int) := by omega
      obtain ⟨A6, c6, hu, hc6⟩ : ∃ A6 c6, u = .slice A6 j c6 ∧ j ≤ c6 := by
        have h1 : wr.ownsRow B 57 3 u l.length (cellsU l) := by rw [HL.out]; exact hown
        obtain ⟨A6, c6, h2, h3, _⟩ := own_sliceU h1
        rw [HL.out] at h2 h3
        exact ⟨A6, c6, h2, h3⟩
      subst hu
      have HENT := Lib.hid (fun W (hT : RdRF g1 kk S W) => readuse_any g1 kk S W hT)
      obtain ⟨⟨x1, x2, x3⟩, kX, SX, hX⟩ : ∃ x k T, useK kk S = (x, k, T) := ⟨_, _, _, rfl⟩
      rw [hX] at HENT HMORE
      dsimp only at HMORE HENT
      clear hX HU
      go_upto_region 10 with fail
      have hS : memT gm (.slice A6 j c6) wr.drew := ⟨hR2.cell rfl, trivial⟩
      refine wp_region_last2 (memT gm (.slice A6 j c6)) (.step 0 false (.step 1 false (.step 2 false (.step 3 false (.step 4 true (.step 5 true (.step 6 true (.step 7 false (.step 8 false (.nil)))))))))) hS (by rfl) (by kernel_rfl) (by kernel_rfl) (by decide) (by kernel_rfl) (by kernel_rfl) (by kernel_rfl) (by kernel_rfl) ?_
      simp only [initO, List.dropLast]
      have hownD : wr.drew.ownsRow B 57 3 (.slice A6 j c6) j (cellsU l) := hown
      have hRD : Row wr.drew w.heap.size 37 l0M := hR0
      have hXD : Row wr.drew gm 37 [.int .u64 (c : Int), .int .u64 0, .slice none 0 0, .slice none 0 0, .int .i64 (rm : Int), .int .u64 (fl : Int), .slice A6 j c6] := hR2
      have hTD : RdRF g1 kk S wr.drew := hT.below (Below.refl _ _).drew
      have hBD : Below w.heap.size w wr.drew := hB.drew
      have hszD : B ≤ wr.drew.heap.size := hsz
      clear hR0 hR2 hown hT hB hsz
      iterate 4 (refine plan_read rfl (by rfl) (v := ?_) ?_ ?_; rotate_left 1; (rintro W ⟨hW0, hW1⟩; go_simp <;> with_reducible rfl); simp only [pA, pB, pC, Act.put, pD, pE, pF])
      generalize wr.drew = wd at hS hownD hRD hXD hTD hBD hszD ⊢
      refine plan_make_of rfl (by rfl) (fun K hK => ?_)
      go_simp
      refine (HENT.out wd hTD).mono ?_
      rintro e w7 ⟨rfl, hT7, hO⟩
      have hR7 := hRD.only hO (by omega)
      have hX7 := hXD.only hO (by omega)
      have hB7 := hBD.trans (hO.below.mono (by omega))
      have hown7 := ownU_only hownD hO (by omega)
      have hs7 := hO.below.size
      have hS7 : memT gm (.slice A6 j c6) w7 := ⟨hX7.cell rfl, trivial⟩
      refine hK.out _ _ hS7 ?_
      clear hK K hO hTD hRD hXD hBD hS hownD
      have hb8 : Below w7.heap.size w7 (w7.alloc (.cells #[.int .u64 (x1 : Int), .int .u64 (x2 : Int), .int .u64 (x3 : Int)] 57)) := below_new (Below.refl _ _) _
      have hg27 := hX7.lt
      refine plan_make_of rfl (by rfl) (fun K hK => ?_)
      go_simp
      refine hK.out _ _ ⟨(hb8.cell (p := ⟨gm, 6, none⟩) hg27).trans hS7.1, trivial⟩ ?_
      clear hK K
      have hown8 := ownsRowU_later hown7 hb8
      have hrd8 : RdU (w7.alloc (.cells #[.int .u64 (x1 : Int), .int .u64 (x2 : Int), .int .u64 (x3 : Int)] 57)) (some ⟨w7.heap.size, 0, none⟩) [(x1, x2, x3)] := fun _ => by
        have hN := Row.new w7 57 [.int .u64 (x1 : Int), .int .u64 (x2 : Int), .int .u64 (x3 : Int)] #[.int .u64 (x1 : Int), .int .u64 (x2 : Int), .int .u64 (x3 : Int)] rfl
        refine ⟨w7.heap.size, 0, rfl, fun i hi => ?_⟩
        have hi0 : i = 0 := by simpa using hi
        subst hi0
        exact ⟨hN.cell rfl, hN.cell rfl, hN.cell rfl⟩
      have hs8 := hb8.size
      refine plan_make_of rfl (by rfl) (fun K hK => ?_)
      refine wp_append_rdU _ (.tmp 34) (.tmp 37) 33 (by rfl) B 57 i0 (.agg #[.int .u64 0, .int .u64 0, .int .u64 0]) 24 Tryz.underlying33 hi hz0 hz1 hz2 rfl (.slice A6 j c6) j (cellsU l) (by rfl) hown8 (some ⟨w7.heap.size, 0, none⟩) [(x1, x2, x3)] 1 (by rfl) hrd8 (by simp only [List.length_cons, List.length_nil]; unfold maxLen; omega) (by simp only [List.length_cons, List.length_nil]; omega) (by omega) ?_
      intro v9 w9 hown9 hgrow9 hat9
      rw [← cellsU_app] at hown9
      have hown9' : w9.ownsRow B 57 3 v9 (j + 1) (cellsU (l ++ [(x1, x2, x3)])) := hown9
      obtain ⟨A9, c9, rfl, hc9q⟩ := own_formE hown9'
      clear hc9q
      have hbd9 : Below B w7 w9 := (hb8.mono (by omega)).grown hgrow9 (by omega) (fun j hj => (hown8.lt j hj).1)
      have hR9 := (hR7.later hb8).grown hgrow9 (fun e => by have := (hown8.lt _ e).1; omega)
      have hX9 := (hX7.later hb8).grown hgrow9 (fun e => by have := (hown8.lt _ e).1; omega)
      have hT9 := hT7.below (hbd9.mono (by omega))
      have hB9 := hB7.trans (hbd9.mono (by omega))
      have hs9 := hbd9.size
      simp only [pA, pB, pC, Act.put, pD, pE, pF]
      refine hK.out _ _ ⟨hX9.cell rfl, trivial⟩ ?_
      clear hK K hown9 hgrow9 hat9 hbd9 hown8 hb8 hrd8 hown7 hR7 hX7 hT7 hB7 hS7
      iterate 2 (refine plan_read rfl (by rfl) (v := ?_) ?_ ?_; rotate_left 1; (rintro W ⟨hW0, hW1⟩; go_simp <;> with_reducible rfl); simp only [pA, pB, pC, Act.put, pD, pE, pF])
      have hc9 : w9.cell? ⟨gm, 6, none⟩ = some (.slice A6 j c6) := hX9.cell rfl
      have hf9 : w9.frozen? ⟨gm, 6, none⟩ = false := hX9.frozen 6
      refine planLast_done rfl (by rfl) ?_
      go_simp
      have hOs := (Only.refl gm w9).setCell 6 (.slice A9 (j + 1) c9)
      have hown10 := ownU_only hown9' hOs hgB
      have hR10 := hR9.only hOs (by omega)
      have hX10 : Row (w9.setCell ⟨gm, 6, none⟩ (.slice A9 (j + 1) c9)) gm 37 [.int .u64 (c : Int), .int .u64 0, .slice none 0 0, .slice none 0 0, .int .i64 (rm : Int), .int .u64 (fl : Int), (.slice A9 (j + 1) c9)] := hX9.setCell 6 (.slice A9 (j + 1) c9)
      have hB10 := hB9.trans (hOs.below.mono (by omega))
      have hT10 := hT9.below (hOs.below.mono (by omega))
      have hs10 := hOs.below.size
      clear hown9' hR9 hX9 hB9 hT9 hc9 hf9 hOs
      generalize w9.setCell ⟨gm, 6, none⟩ (.slice A9 (j + 1) c9) = w10 at hown10 hR10 hX10 hB10 hT10 hs10 ⊢
      go_wp2_with fail
      go_roundw
      case rel => exact ⟨j + 1, l ++ [(x1, x2, x3)], (.slice A9 (j + 1) c9), kX, SX, by go_num, by omega, by unfold Hid; rw [List.length_append, HL.out]; rfl, HMORE, hR10, hX10, hown10, hT10, hB10, by omega⟩
      case measure => simp [intOf]; omega
    · have ejq : j = q := by omega
      subst ejq
      have HE : Hid (l6 = l ∧ k6 = kk ∧ S6 = S) := by
        have h1 := HU.out
        rw [H6.out, Nat.sub_self] at h1
        have h2 : usesK 0 kk S = ([], kk, S) := rfl
        rw [h2, List.append_nil] at h1
        injection h1 with e1 e2
        injection e2 with e2 e3
        exact ⟨e1, e2, e3⟩
      obtain ⟨e1, e2, e3⟩ := HE.out
      subst e1 e2 e3
      obtain ⟨A6, c6, hu, hc6, hru6, hA6⟩ : ∃ A6 c6, u = .slice A6 j c6 ∧ j ≤ c6 ∧ RdU wr A6 l6 ∧ ∀ a, A6 = some a → B ≤ a.block := by
        have h1 : wr.ownsRow B 57 3 u l6.length (cellsU l6) := by rw [HL.out]; exact hown
        obtain ⟨A6, c6, h2, h3, h4, h5⟩ := own_sliceU h1
        rw [HL.out] at h2 h3
        exact ⟨A6, c6, h2, h3, h4, h5⟩
      subst hu
      have hi1 : ¬ (j : Int) < (j : Int) := by omega
      clear HU HE hown H0 H1 H2 H3 H4 H5 H6
      go_wp2_with fail
      refine (readbundle_any g1 k6 S6 wr hT).mono ?_
      rintro e w5 ⟨xb, bn, kE, vg, rfl, hIn, hFr, hBK, hRg, hO⟩
      unfold aggBW aggB
      have HRM := Lib.hid (HST.out hBK)
      have hFrB := hFr.mono (show gm + 1 ≤ wr.heap.size by omega)
      have hR5 := hR0.only hO (by omega)
      have hX5 := hR2.only hO (by omega)
      have hB5 := hB.trans (hO.below.mono (by omega))
      have hru5 := hru6.only hO (fun _ a ha => by have := hA6 a ha; omega)
      clear hR0 hR2 hB hru6 hO hT hBK HST hsz hFr
      go_upto_region 13 with (refine wpList_store_mid rfl 32 (.tmp 44) (.tmp 43) rfl (gm) 1 ((lB xb bn).toArray) rfl rfl (there_of hX5 1 3 (by simp)) (by exact size_bundle) (by exact all_oneCell_toArray (one_three _ _ _ rfl rfl rfl)) ?_)
      have hOs := Only.setCells (g := gm) (lB xb bn) 1 (Only.refl _ w5)
      have hX6 : Row (w5.setCells gm 1 (lB xb bn)) gm 37 [.int .u64 (c : Int), .int .u64 (bn.1 : Int), .slice xb.eA xb.n xb.ec, .slice xb.gA xb.g xb.gc, .int .i64 (rm : Int), .int .u64 (fl : Int), .slice A6 j c6] := hX5.setCells _ 1 (by simp)
      have hR6 := hR5.only hOs (by omega)
      have hG6 := hRg.only hOs (by omega)
      have hB6 := hB5.trans (hOs.below.mono (by omega))
      have hIn6 := hIn.only hOs hFrB
      have hru6 := hru5.only hOs (fun _ a ha => by have := hA6 a ha; omega)
      clear hX5 hR5 hRg hB5 hIn hru5 hOs
      generalize w5.setCells gm 1 (lB xb bn) = w6 at hX6 hR6 hG6 hB6 hIn6 hru6 ⊢
      have hIM : InM w6 ⟨xb, ⟨A6, j, c6⟩⟩ ⟨c, bn, ((rm : Int), fl, l6)⟩ := ⟨hclk, hIn6, ⟨HL.out, hc6, hru6, by show j ≤ 1000000; omega, ⟨hflr, HFU.out⟩⟩⟩
      have HRT := Lib.hid (rightmem_any _ _ w6 hIM)
      unfold aggM at HRT
      dsimp only at HRT
      obtain ⟨R, hR⟩ : ∃ R, rightM ⟨c, bn, ((rm : Int), fl, l6)⟩ = R := ⟨_, rfl⟩
      rw [hR] at HRT HRM
      clear hR hIn6 hru6
      go_wp2_with (refine wpList_load_part rfl 37 (.tmp 6) rfl (gm) 0 rfl _ _ (hX6) ([.int .u64 (c : Int), .int .u64 (bn.1 : Int), .slice xb.eA xb.n xb.ec, .slice xb.gA xb.g xb.gc, .int .i64 (rm : Int), .int .u64 (fl : Int), .slice A6 j c6]) (by rfl) _ Tryz.underlying37 rfl (by exact size_memory) ?_)
      refine HRT.out.mono ?_
      rintro e w7 ⟨rfl, hb7⟩
      have hX7 := hX6.later hb7
      have hR7 := hR6.later hb7
      have hG7 := hG6.later hb7
      have hB7 := below_step hB6 hb7
      have hIM7 := hIM.keep hb7
      clear hX6 hR6 hG6 hB6 hIM hb7 HRT
      go_upto_if 47 with fail
      go_cut [] (fun wx => Row wx g1 186 [vg, .int .i64 (finK R kE)] ∧ Row wx w.heap.size 37 l0M ∧ Row wx gm 37 [.int .u64 (c : Int), .int .u64 (bn.1 : Int), .slice xb.eA xb.n xb.ec, .slice xb.gA xb.g xb.gc, .int .i64 (rm : Int), .int .u64 (fl : Int), .slice A6 j c6] ∧ InM wx ⟨xb, ⟨A6, j, c6⟩⟩ ⟨c, bn, ((rm : Int), fl, l6)⟩ ∧ Below w.heap.size w wx)
      case first =>
        cases R with
        | true =>
          go_wp2_with fail
          go_meet
          case rel => exact ⟨hG7, hR7, hX7, hIM7, hB7⟩
        | false =>
          go_wp2_with fail
          refine (keep_row g1 vg kE 3 w7 hG7).mono ?_
          rintro e w8 ⟨rfl, hG8, hO⟩
          have hX8 := hX7.only hO (by omega)
          have hR8 := hR7.only hO (by omega)
          have hB8 := hB7.trans (hO.below.mono (by omega))
          have hIM8 := hIM7.only hO ⟨hFrB.mono (by omega), fun a ha => by have := hA6 a ha; omega⟩
          go_wp2_with fail
          go_meet
          case rel => exact ⟨hG8, hR8, hX8, hIM8, hB8⟩
      case rest =>
      clear hX7 hR7 hG7 hB7 hIM7
      rename World => w8
      obtain ⟨hG8, hR8, hX8, hIM8, hB8⟩ := hcut
      obtain ⟨KF, hKF⟩ : ∃ K, finK R kE = K := ⟨_, rfl⟩
      have HKF := Lib.hid hKF
      rw [hKF] at hG8
      clear hKF
      have hgl8 := hR8.lt
      go_upto_region 15 with fail
      have hS := memR_of (W := w8.drew) (show Row w8.drew gm 37 [.int .u64 (c : Int), .int .u64 (bn.1 : Int), .slice xb.eA xb.n xb.ec, .slice xb.gA xb.g xb.gc, .int .i64 (rm : Int), .int .u64 (fl : Int), .slice A6 j c6] from hX8) (show Row w8.drew g1 186 [vg, .int .i64 KF] from hG8)
      have hR9 := hR8.drew
      have hX9 := hX8.drew
      have hG9 := hG8.drew
      have hB9 := hB8.drew
      have hI9 := hIM8.keep ((Below.refl _ w8).drew)
      refine wp_region_plan_of (memR gm g1 (.int .u64 (c : Int)) (.int .u64 (bn.1 : Int)) (.slice xb.eA xb.n xb.ec) (.slice xb.gA xb.g xb.gc) (.int .i64 (rm : Int)) (.int .u64 (fl : Int)) (.slice A6 j c6) (.int .i64 KF)) (.step 0 false (.step 1 false (.step 2 false (.step 3 false (.step 4 false (.step 5 false (.step 6 false (.step 7 true (.step 8 false (.nil)))))))))) hS (by kernel_rfl) (by kernel_rfl) (by rfl) (by kernel_rfl) ?_
      clear hR8 hX8 hG8 hB8 hIM8
      generalize w8.drew = wv at *
      iterate 7 (refine plan_read rfl (by rfl) (v := ?_) ?_ ?_; rotate_left 1; (rintro W ⟨hW0, hW1⟩; go_simp <;> with_reducible rfl); simp only [pA, pB, pC, Act.put, pD, pE, pF])
      refine plan_make_of rfl (by rfl) (fun K hK => ?_)
      refine hR9.wp_store 37 (.tmp 3) (.tmp 51) rfl rfl [.int .u64 (c : Int), .int .u64 (bn.1 : Int), .slice xb.eA xb.n xb.ec, .slice xb.gA xb.g xb.gc, .int .i64 (rm : Int), .int .u64 (fl : Int), .slice A6 j c6] rfl (by exact size_memory) rfl (one_memory ⟨xb, ⟨A6, j, c6⟩⟩ ⟨c, bn, ((rm : Int), fl, l6)⟩) ?_
      refine hK.out _ _ (memR_of (hX9.setRow_other (by omega) _) (hG9.setRow_other (by omega) _)) ?_
      clear hK K
      simp only [pA, pB, pC, Act.put, pD, pE, pF]
      iterate 1 (refine plan_read rfl (by rfl) (v := ?_) ?_ ?_; rotate_left 1; (rintro W ⟨hW0, hW1⟩; go_simp <;> with_reducible rfl); simp only [pA, pB, pC, Act.put, pD, pE, pF])
      refine plan_done ?_
      go_wp2_with fail
      refine bodyPost_ret (results_row_mid (u := 2) (p := 3) (v := 4) (ty := 37) (by rfl) _ _ w.heap.size 37 _ _ (by rfl) (by exact hR9.setRow _) Tryz.underlying37 (by rfl) (by exact size_memory)) (by rfl) ?_
      have hOr := (Only.refl w.heap.size wv).setRow [.int .u64 (c : Int), .int .u64 (bn.1 : Int), .slice xb.eA xb.n xb.ec, .slice xb.gA xb.g xb.gc, .int .i64 (rm : Int), .int .u64 (fl : Int), .slice A6 j c6].toArray
      refine ⟨⟨xb, ⟨A6, j, c6⟩⟩, ⟨c, bn, ((rm : Int), fl, l6)⟩, num, KF, rfl, hI9.only hOr ⟨hFrB.mono (by omega), fun a ha => by have := hA6 a ha; omega⟩, ⟨hFrB.mono (by omega), fun a ha => by have := hA6 a ha; omega⟩, hnum, ?_, ?_, below_setRow hB9 (Nat.le_refl _) _⟩
      · intro h0
        rw [← HKF.out, finK_zero] at h0
        rw [HRM.out, if_pos h0.2, if_pos h0.1]
      · intro h0
        rw [HRM.out]
        by_cases hk : kE = 0
        · rw [if_pos hk, if_neg (fun hr => h0 (by rw [← HKF.out, finK_zero]; exact ⟨hr, hk⟩))]
        · rw [if_neg hk]
end Go.Proofs.YteljklkgdejhpaaGreatDoor
namespace Go.Proofs.YteljklkgdejhpaaGreatDoor
theorem numAt_lt (b : List UInt8) (k : Nat) : numAt b k < 18446744073709551616 := by
  have h := valN_lt ((b.drop k).take 8)
  have hl : ((b.drop k).take 8).length ≤ 8 := by rw [List.length_take]; omega
  have h2 : (256 : Nat) ^ ((b.drop k).take 8).length ≤ 256 ^ 8 := Nat.pow_le_pow_right (by decide) hl
  unfold numAt
  omega
theorem useAt_fit (b : List UInt8) (k : Nat) : fitU1 (useAt b k) := ⟨numAt_lt _ _, numAt_lt _ _, numAt_lt _ _⟩
theorem usesAt_fit (b : List UInt8) : ∀ (n k : Nat), fitU (usesAt b k n)
  | 0, _ => fun x hx => by cases hx
  | n + 1, k => fun x hx => by
    rcases List.mem_cons.1 hx with rfl | hx
    · exact useAt_fit b k
    · exact usesAt_fit b n (k + 24) x hx
theorem readMem_fit {b : List UInt8} {n : Nat} {m : MemK} (h : readMem b = some (n, m)) : n < 18446744073709551616 ∧ fitM m := by
  unfold readMem at h
  split at h
  · cases h
  · split at h
    · cases h
    · split at h
      · cases h
      · rename_i x hx
        split at h
        · injection h with h
          injection h with h1 h2
          rw [← h1, ← h2]
          exact ⟨numAt_lt _ _, numAt_lt _ _, (allB_good hx).2.1, numAt_lt _ _, usesAt_fit _ _ _⟩
        · cases h
theorem raise_floor {c : Ca} (f : Nat) (hc : c.2.1 < 18446744073709551616) (hf : f < 18446744073709551616) : (raiseC c f).1.2.1 < 18446744073709551616 := by
  unfold raiseC
  split
  · exact hc
  · dsimp only
    omega
theorem put_floor (c : Ca) (u : Us) : (putC c u).1.2.1 = c.2.1 := by
  unfold putC
  repeat' split
  all_goals rfl
theorem take_fit {m : MemK} {u : Us} {clock floor : Nat} (h : fitM m) (hu : fitU1 u) (hc : clock < 18446744073709551616) (hf : floor < 18446744073709551616) : fitM (takeM m u clock floor).1 := by
  obtain ⟨h1, h2, h3, h5⟩ := h
  unfold takeM
  split
  · exact ⟨h1, h2, h3, h5⟩
  · split
    · exact ⟨h1, h2, h3, h5⟩
    · refine ⟨hc, h2, ?_, putC_fit (raiseC_fit floor h5) hu⟩
      show (putC (raiseC m.c floor).1 u).1.2.1 < _
      rw [put_floor]
      exact raise_floor floor h3 hf
theorem goes_fit {m k : MemK} {b : List UInt8} (h : fitM m) (hg : goesM m b = some k) : fitM k := by
  unfold goesM at hg
  split at hg
  · split at hg
    · injection hg with hg
      rw [← hg]
      exact take_fit h (useAt_fit _ _) (numAt_lt _ _) (numAt_lt _ _)
    · cases hg
  · split at hg
    · split at hg
      · cases hg
      · rename_i x hx
        split at hg
        · injection hg with hg
          rw [← hg]
          exact ⟨h.1, (allB_good hx).2.1, h.2.2⟩
        · cases hg
    · cases hg
theorem goOn_fit : ∀ (ts : List (List UInt8)) (m : MemK) (s : Nat), fitM m → fitM (goOn m s ts).1
  | [], _, _, h => h
  | t :: ts, m, s, h => by
    unfold goOn
    cases hg : goesM m t with
    | none => exact h
    | some k => exact goOn_fit ts k _ (goes_fit h hg)
theorem area_fit {f : List UInt8 → List UInt8} {b : List UInt8} {n s : Nat} {m : MemK} (h : areaK f b = some (n, m, s)) : n < 18446744073709551616 ∧ fitM m := by
  unfold areaK at h
  split at h
  · cases h
  · rename_i t ts _
    split at h
    · cases h
    · rename_i x hx
      injection h with h
      injection h with h1 h
      obtain ⟨h2, h3⟩ := readMem_fit (n := x.1) (m := x.2) hx
      have := goOn_fit ts x.2 (t.length + 6) h3
      rw [h] at this
      exact ⟨by omega, this⟩
section
variable {f : List UInt8 → List UInt8} (h4 : ∀ b, (f b).length = 4)
include h4
end
end Go.Proofs.YteljklkgdejhpaaGreatDoor
namespace Go.Proofs.YteljklkgdejhpaaGreatDoor
open Go.RowKit
def Agree (lo hi : Nat) (w W : World) : Prop := ∀ b, b < w.heap.size → (b < lo ∨ hi ≤ b) → W.heap[b]? = w.heap[b]?
theorem Agree.of_below {lo hi B : Nat} {w W : World} (h : Below B w W) (hl : lo ≤ B) (hh : w.heap.size ≤ hi) : Agree lo hi w W := fun b hb hc => h.block b (by omega)
theorem Agree.of_only {lo hi g : Nat} {w W : World} (h : Only g w W) (hl : lo ≤ g) (hh : g < hi) : Agree lo hi w W := fun b hb hc => h.other b (by omega) hb
theorem Agree.cell {lo hi : Nat} {w W : World} (h : Agree lo hi w W) {p : Addr} {v : Value} (hv : w.cell? p = some v) (hp : p.block < lo ∨ hi ≤ p.block) : W.cell? p = some v := (World.cell?_of_block (w := w) (a := p) (h p.block (World.block_lt_of_cell? w _ hv) hp)).trans hv
theorem Rd.agree {α : Type} {f : α → Value} {lo hi : Nat} {w W : World} {A : Option Addr} {l : List α} (h : Rd f w A l) (k : Agree lo hi w W) (hA : l ≠ [] → ∀ a, A = some a → a.block < lo ∨ hi ≤ a.block) : Rd f W A l := fun hn => by
  obtain ⟨b, o, e, hc⟩ := h hn
  have hb := hA hn _ e
  exact ⟨b, o, e, fun i hi => k.cell (hc i hi) hb⟩
structure OffB (lo hi : Nat) (x : WB) : Prop where
  e : x.n ≠ 0 → ∀ a, x.eA = some a → a.block < lo ∨ hi ≤ a.block
  s : ∀ y ∈ x.es, y.s ≠ [] → ∀ a, y.A = some a → a.block < lo ∨ hi ≤ a.block
  g : x.g ≠ 0 → ∀ a, x.gA = some a → a.block < lo ∨ hi ≤ a.block
def OffC (lo hi : Nat) (x : WC) : Prop := x.s ≠ 0 → ∀ a, x.A = some a → a.block < lo ∨ hi ≤ a.block
structure OffM (lo hi : Nat) (x : WM) : Prop where
  b : OffB lo hi x.b
  c : OffC lo hi x.c
section
variable {lo hi lo' hi' : Nat} {w W : World}
theorem OffB.mono {x : WB} (h : OffB lo hi x) (hl : lo ≤ lo') (hh : hi' ≤ hi) : OffB lo' hi' x := ⟨fun h0 a ha => by have := h.e h0 a ha; omega, fun y hy hs a ha => by have := h.s y hy hs a ha; omega, fun h0 a ha => by have := h.g h0 a ha; omega⟩
theorem OffC.mono {x : WC} (h : OffC lo hi x) (hl : lo ≤ lo') (hh : hi' ≤ hi) : OffC lo' hi' x := fun h0 a ha => by have := h h0 a ha; omega
theorem OffM.mono {x : WM} (h : OffM lo hi x) (hl : lo ≤ lo') (hh : hi' ≤ hi) : OffM lo' hi' x := ⟨h.b.mono hl hh, h.c.mono hl hh⟩
theorem FreshB.off {B : Nat} {x : WB} (h : FreshB B x) (lo : Nat) : OffB lo B x := ⟨fun _ a ha => .inr (h.e a ha), fun y hy hs a ha => .inr (h.s y hy hs a ha), fun _ a ha => .inr (h.g a ha)⟩
theorem FreshC.off {B : Nat} {x : WC} (h : FreshC B x) (lo : Nat) : OffC lo B x := fun _ a ha => .inr (h a ha)
theorem FreshM.off {B : Nat} {x : WM} (h : FreshM B x) (lo : Nat) : OffM lo B x := ⟨h.b.off lo, h.c.off lo⟩
theorem InB.off {x : WB} {b : Bn} (h : InB w x b) (hi : Nat) : OffB w.heap.size hi x :=
  ⟨fun h0 a ha => by
    obtain ⟨b', o, e, hc⟩ := h.re (by intro e; exact h0 (by rw [← h.ne, e]; rfl))
    rw [ha] at e
    injection e with e
    subst e
    exact .inl (World.block_lt_of_cell? w _ (hc 0 (by rw [h.ne]; omega)).1), fun y hy hs a ha => .inl ((h.oe y hy).2.off hs a ha), fun h0 a ha => by
    obtain ⟨b', o, e, hb, _⟩ := h.rg.at (k := 0) (by rw [h.ng]; omega)
    rw [ha] at e
    injection e with e
    subst e
    exact .inl hb⟩
theorem InC.off {x : WC} {c : Ca} (h : InC w x c) (hi : Nat) : OffC w.heap.size hi x := fun h0 a ha => by
  obtain ⟨b', o, e, hb, _⟩ := h.ru.at (k := 0) (by rw [h.ns]; omega)
  rw [ha] at e
  injection e with e
  subst e
  exact .inl hb
theorem InM.off {x : WM} {m : MemK} (h : InM w x m) (hi : Nat) : OffM w.heap.size hi x := ⟨h.ib.off hi, h.ic.off hi⟩
theorem InB.agree {x : WB} {b : Bn} (h : InB w x b) (k : Agree lo hi w W) (ho : OffB lo hi x) : InB W x b :=
  { h with
    re := fun hn => by
      obtain ⟨b', o, e, hc⟩ := h.re hn
      have hb := ho.e (by rw [← h.ne]; intro h0; exact hn (List.eq_nil_of_length_eq_zero h0)) _ e
      exact ⟨b', o, e, fun i hi' => ⟨k.cell (p := ⟨b', o + i * 3, none⟩) (hc i hi').1 hb, k.cell (p := ⟨b', o + i * 3 + 1, none⟩) (hc i hi').2.1 hb, k.cell (p := ⟨b', o + i * 3 + 2, none⟩) (hc i hi').2.2 hb⟩⟩
    oe := fun y hy => ⟨(h.oe y hy).1, (h.oe y hy).2.agree k (ho.s y hy)⟩
    rg := fun hn => by
      obtain ⟨b', o, e, hc⟩ := h.rg hn
      have hb := ho.g (by rw [← h.ng]; intro h0; exact hn (List.eq_nil_of_length_eq_zero h0)) _ e
      exact ⟨b', o, e, fun i hi' => ⟨k.cell (p := ⟨b', o + i * 2, none⟩) (hc i hi').1 hb, k.cell (p := ⟨b', o + i * 2 + 1, none⟩) (hc i hi').2 hb⟩⟩ }
theorem InC.agree {x : WC} {c : Ca} (h : InC w x c) (k : Agree lo hi w W) (ho : OffC lo hi x) : InC W x c :=
  { h with
    ru := fun hn => by
      obtain ⟨b', o, e, hc⟩ := h.ru hn
      have hb := ho (by rw [← h.ns]; intro h0; exact hn (List.eq_nil_of_length_eq_zero h0)) _ e
      exact ⟨b', o, e, fun i hi' => ⟨k.cell (p := ⟨b', o + i * 3, none⟩) (hc i hi').1 hb, k.cell (p := ⟨b', o + i * 3 + 1, none⟩) (hc i hi').2.1 hb, k.cell (p := ⟨b', o + i * 3 + 2, none⟩) (hc i hi').2.2 hb⟩⟩ }
theorem InM.agree {x : WM} {m : MemK} (h : InM w x m) (k : Agree lo hi w W) (ho : OffM lo hi x) : InM W x m := ⟨h.fc, h.ib.agree k ho.b, h.ic.agree k ho.c⟩
theorem InM.at_only {g : Nat} {x : WM} {m : MemK} (h : InM w x m) (k : Only g w W) (ho : OffM lo hi x) (hl : lo ≤ g) (hh : g < hi) : InM W x m := h.agree (Agree.of_only k hl hh) ho
theorem InB.at_only {g : Nat} {x : WB} {b : Bn} (h : InB w x b) (k : Only g w W) (ho : OffB lo hi x) (hl : lo ≤ g) (hh : g < hi) : InB W x b := h.agree (Agree.of_only k hl hh) ho
theorem InM.old {x : WM} {m : MemK} (h : InM w x m) (ho : OffM lo w.heap.size x) (hb : Below lo w W) : InM W x m := h.agree (Agree.of_below hb (Nat.le_refl _) (Nat.le_refl _)) ho
theorem OffM.any {x : WM} {m : MemK} (ho : OffM lo w.heap.size x) (h : InM w x m) (hi : Nat) : OffM lo hi x :=
  ⟨⟨fun h0 a ha => by have h1 := ho.b.e h0 a ha; have h2 := (h.off (a.block + 1)).b.e h0 a ha; omega, fun y hy hs a ha => by have h1 := ho.b.s y hy hs a ha; have h2 := (h.off (a.block + 1)).b.s y hy hs a ha; omega, fun h0 a ha => by have h1 := ho.b.g h0 a ha; have h2 := (h.off (a.block + 1)).b.g h0 a ha; omega⟩,
    fun h0 a ha => by have h1 := ho.c h0 a ha; have h2 := (h.off (a.block + 1)).c h0 a ha; omega⟩
end
end Go.Proofs.YteljklkgdejhpaaGreatDoor
