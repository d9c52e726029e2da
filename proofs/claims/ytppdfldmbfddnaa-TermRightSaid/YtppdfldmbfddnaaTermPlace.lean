/-
  What the program's call Place of layer 5 answers: its closure, slices.IndexFunc at it. No conditions but those typed.
-/
import Derived.Test.YtppdfldmbfddnaaTermEq
namespace Go.Proofs.Ytppdfldmbfddnaa
open Go.RowKit
set_option linter.unusedSimpArgs false
set_option linter.unusedVariables false

set_option maxHeartbeats 1000000 in
theorem sameAs_any (x : TD) (key msg : List UInt8) (n m : Nat) (B C : Option Addr) (d e : Nat) (g1 g2 : Nat) (w : World) (HN : Hid (key.length = n)) (HM : Hid (msg.length = m)) (hx : x.ok w) (hk : Rd vB w B key) (hm : Rd vB w C msg)
    (c1 : w.cell? ⟨g1, 0, none⟩ = some (.slice B n d)) (c2 : w.cell? ⟨g2, 0, none⟩ = some (.slice C m e)) :
    Calls Try.prog 21 #[.agg #[x.at0, x.at1], .pointer (some ⟨g1, 0, none⟩), .pointer (some ⟨g2, 0, none⟩)] w fun e' w' => e' = .returned (.bool (decide (x.c = (key, msg)))) ∧ Below w.heap.size w w' := by
  obtain ⟨kA, kc, k, mA, mc, l⟩ := x
  obtain ⟨_, _, hkr, hmr⟩ := hx
  unfold TD.at0 TD.at1 TD.c at *
  dsimp only at hkr hmr ⊢
  have hR0 : Row (w.alloc (.cells #[.slice kA k.length kc, .slice mA l.length mc] 29)) w.heap.size 29 [.slice kA k.length kc, .slice mA l.length mc] := Row.new w _ _ _ rfl
  have hB0 := below_new (Below.refl _ w) (.cells #[.slice kA k.length kc, .slice mA l.length mc] 29)
  have d1 : (w.alloc (.cells #[.slice kA k.length kc, .slice mA l.length mc] 29)).cell? ⟨g1, 0, none⟩ = some (.slice B n d) := (hB0.cell (p := ⟨g1, 0, none⟩) (World.block_lt_of_cell? w _ c1)).trans c1
  have d2 : (w.alloc (.cells #[.slice kA k.length kc, .slice mA l.length mc] 29)).cell? ⟨g2, 0, none⟩ = some (.slice C m e) := (hB0.cell (p := ⟨g2, 0, none⟩) (World.block_lt_of_cell? w _ c2)).trans c2
  have k0 : (w.alloc (.cells #[.slice kA k.length kc, .slice mA l.length mc] 29)).cell? ⟨w.heap.size, 0, none⟩ = some (.slice kA k.length kc) := hR0.cell rfl
  have k1 : (w.alloc (.cells #[.slice kA k.length kc, .slice mA l.length mc] 29)).cell? ⟨w.heap.size, 1, none⟩ = some (.slice mA l.length mc) := hR0.cell rfl
  replace hkr := hkr.keep hB0
  replace hmr := hmr.keep hB0
  replace hk := hk.keep hB0
  replace hm := hm.keep hB0
  clear hR0 c1 c2
  by_cases ek : k = key
  · have HD : Hid (decide ((k, l) = (key, msg)) = decide (l = msg)) := by unfold Hid; simp [ek]
    have HE : Hid (decide (k = key) = true) := by unfold Hid; simp [ek]
    clear ek
    go_enter Try.func21, Try.ntmps21
    go_upto_region 1 with fail
    generalize w.alloc (.cells #[.slice kA k.length kc, .slice mA l.length mc] 29) = W at hB0 d1 d2 k0 k1 hkr hmr hk hm ⊢
    go_wp2_with fail
    refine (equal_any k key k.length n kA B kc d _ (Lib.hid rfl) HN hkr hk).mono ?_
    rintro e' w' ⟨rfl, rfl⟩
    rw [HE.out]
    go_wp2_with fail
    refine (equal_any l msg l.length m mA C mc e _ (Lib.hid rfl) HM hmr hm).mono ?_
    rintro e' w' ⟨rfl, rfl⟩
    generalize decide (l = msg) = r at HD ⊢
    go_wp2_with fail
    go_ret
    exact ⟨by rw [HD.out]; rfl, hB0⟩
  · have HD : Hid (decide ((k, l) = (key, msg)) = false) := by unfold Hid; simp [ek]
    have HE : Hid (decide (k = key) = false) := by unfold Hid; simp [ek]
    clear ek
    go_enter Try.func21, Try.ntmps21
    go_upto_region 1 with fail
    generalize w.alloc (.cells #[.slice kA k.length kc, .slice mA l.length mc] 29) = W at hB0 d1 d2 k0 k1 hkr hmr hk hm ⊢
    go_wp2_with fail
    refine (equal_any k key k.length n kA B kc d _ (Lib.hid rfl) HN hkr hk).mono ?_
    rintro e' w' ⟨rfl, rfl⟩
    rw [HE.out]
    go_wp2_with fail
    go_ret
    exact ⟨by rw [HD.out]; rfl, hB0⟩

set_option maxHeartbeats 1000000 in
theorem indexSame_any (ts : List TD) (key msg : List UInt8) (p n m : Nat) (A B C : Option Addr) (c d e g1 g2 : Nat) (w : World) (HP : Hid (ts.length = p)) (HN : Hid (key.length = n)) (HM : Hid (msg.length = m)) (ht : RdT w A ts) (hok : okT w ts) (hk : Rd vB w B key) (hm : Rd vB w C msg) (hp : p ≤ 1000000000)
    (c1 : w.cell? ⟨g1, 0, none⟩ = some (.slice B n d)) (c2 : w.cell? ⟨g2, 0, none⟩ = some (.slice C m e)) :
    Calls Try.prog 20 #[.slice A p c, .func (.func 21) #[] #[.pointer (some ⟨g1, 0, none⟩), .pointer (some ⟨g2, 0, none⟩)]] w fun e w' => e = .returned (.int .i64 (plI (conT ts) (key, msg))) ∧ Below w.heap.size w w' := by
  have e1 := HP.out
  subst e1
  have HOK := Lib.hid hok
  have hg1 := World.block_lt_of_cell? w _ c1
  have hg2 := World.block_lt_of_cell? w _ c2
  have C1 : Hid (∀ W, Below w.heap.size w W → W.cell? ⟨g1, 0, none⟩ = some (.slice B n d)) := fun W hW => (hW.cell (p := ⟨g1, 0, none⟩) hg1).trans c1
  have C2 : Hid (∀ W, Below w.heap.size w W → W.cell? ⟨g2, 0, none⟩ = some (.slice C m e)) := fun W hW => (hW.cell (p := ⟨g2, 0, none⟩) hg2).trans c2
  clear hok HP c1 c2 hg1 hg2
  go_enter Try.func20, Try.ntmps20
  go_wp2_with fail
  go_loopw [8] (fun i wr => PlRel (conT ts) (key, msg) w i wr) (fun i _ => ts.length - (intOf i).toNat)
  case atStart => exact ⟨0, Nat.zero_le _, rfl, fun j h => absurd h (by omega), Below.refl _ _⟩
  case round =>
    obtain ⟨k, hk1, rfl, hbef, hB⟩ := hrel
    by_cases hlt : k < ts.length
    · obtain ⟨blk, o, rfl, hblk, hcell⟩ := ht.at hlt
      have hx := (HOK.out ts[k] (List.getElem_mem hlt)).keep hB
      have hg := conT_get ts k hlt
      have hlc : k < (conT ts).length := by rw [conT_length]; exact hlt
      have HBE : Hid (ts[k].c ≠ (key, msg) → ∀ j (h : j < k + 1) (h' : j < (conT ts).length), (conT ts)[j] ≠ (key, msg)) := fun hn => PlRel.next hlc hbef (by rw [hg]; exact hn)
      have HEQ : Hid (ts[k].c = (key, msg) → plI (conT ts) (key, msg) = (k : Int)) := fun h => by
        have hi := idx_of (key, msg) (conT ts) k (by omega) hbef (.inr ⟨hlc, by rw [hg]; exact h⟩)
        rw [plI_in _ _ ((idx_lt _ _).1 (by omega)), hi]
      obtain ⟨h0, h1⟩ := hcell k hlt
      have hc0 : wr.rangeAt blk (o + k * 2) [ts[k].at0, ts[k].at1] := fun j u hu => by
        match j, hu with
        | 0, hu => injection hu with hu; subst hu; exact (hB.cell (p := ⟨blk, o + k * 2, none⟩) hblk).trans h0
        | 1, hu => injection hu with hu; subst hu; exact (hB.cell (p := ⟨blk, o + k * 2 + 1, none⟩) hblk).trans h1
      have d1 := C1.out wr hB
      have d2 := C2.out wr hB
      have hkk := hk.keep hB
      have hmm := hm.keep hB
      generalize ts[k] = x at hx HBE HEQ hc0
      have i0 : (0 : Int) ≤ (k : Int) := by omega
      have i1 : (k : Int) < (ts.length : Int) := by omega
      have HB := Lib.hid hB
      clear h0 h1 hcell hg hbef hk1 hB
      go_wp2_with (refine wpList_load_mid rfl 29 (.tmp 14) rfl blk (o + k * 2) rfl [x.at0, x.at1] _ hc0 Try.underlying29 rfl (by exact size_term) ?_)
      refine (sameAs_any x key msg n m B C d e g1 g2 _ HN HM hx hkk hmm d1 d2).mono ?_
      rintro e' w1 ⟨rfl, hb1⟩
      by_cases hq : x.c = (key, msg)
      · have HQ := Lib.hid (HEQ.out hq)
        have HD : Hid (decide (x.c = (key, msg)) = true) := by unfold Hid; simp [hq]
        rw [HD.out]
        clear HEQ HBE hq
        go_wp2_with fail
        go_ret
        exact ⟨by rw [HQ.out]; rfl, below_step HB.out hb1⟩
      · have HR : Hid (PlRel (conT ts) (key, msg) w (.int .i64 ((k : Int) + 1)) w1) := ⟨k + 1, hlc, by go_num, HBE.out hq, below_step HB.out hb1⟩
        have HD : Hid (decide (x.c = (key, msg)) = false) := by unfold Hid; simp [hq]
        rw [HD.out]
        clear HEQ HBE hq
        go_wp2_with fail
        go_roundw
        case rel => exact HR.out
        case measure => simp [intOf]; omega
    · have hn : plI (conT ts) (key, msg) = -1 := by
        refine plI_out _ _ (fun hx => ?_)
        have h1 := (idx_lt _ _).2 hx
        exact hbef _ (by rw [conT_length] at h1; omega) h1 (idx_get _ _ h1)
      have j1 : ¬ (k : Int) < (ts.length : Int) := by omega
      have HN := Lib.hid hn
      clear hn hbef hk1
      go_wp2_with fail
      go_ret
      exact ⟨by rw [HN.out]; rfl, hB⟩

theorem place_anyT (ts : List TD) (key msg : List UInt8) (p n m : Nat) (A B C : Option Addr) (c d e : Nat) (w : World) (HP : Hid (ts.length = p)) (HN : Hid (key.length = n)) (HM : Hid (msg.length = m)) (ht : RdT w A ts) (hok : okT w ts) (hk : Rd vB w B key) (hm : Rd vB w C msg) (hp : p ≤ 1000000000) (hn : n ≤ 1000000000) (hmm : m ≤ 1000000000) :
    Calls Try.prog 13 #[.slice A p c, .slice B n d, .slice C m e] w fun e w' => e = .returned (.int .i64 (plI (conT ts) (key, msg))) ∧ Below w.heap.size w w' := by
  have hR0 : Row (w.alloc (.cells #[.slice B n d] 23)) w.heap.size 23 [.slice B n d] := Row.new w _ _ _ rfl
  have hB0 := below_new (Below.refl _ w) (.cells #[.slice B n d] 23)
  have hR1 := hR0.alloc (.cells #[.slice C m e] 23)
  have hB1 := below_new hB0 (.cells #[.slice C m e] 23)
  have hR2 : Row ((w.alloc (.cells #[.slice B n d] 23)).alloc (.cells #[.slice C m e] 23)) (w.heap.size + 1) 23 [.slice C m e] := Row.new_at _ _ (by simp) _ _ _ rfl
  go_enter Try.func13, Try.ntmps13
  go_wp2_with fail
  generalize (w.alloc (.cells #[.slice B n d] 23)).alloc (.cells #[.slice C m e] 23) = W at hR1 hR2 hB1 ⊢
  refine (indexSame_any ts key msg p n m A B C c d e w.heap.size (w.heap.size + 1) _ HP HN HM (ht.keep hB1) (hok.keep hB1) (hk.keep hB1) (hm.keep hB1) hp (hR1.cell rfl) (hR2.cell rfl)).mono ?_
  rintro e' w1 ⟨rfl, hb1⟩
  go_wp2_with fail
  go_ret
  exact ⟨rfl, below_step hB1 hb1⟩
end Go.Proofs.Ytppdfldmbfddnaa
