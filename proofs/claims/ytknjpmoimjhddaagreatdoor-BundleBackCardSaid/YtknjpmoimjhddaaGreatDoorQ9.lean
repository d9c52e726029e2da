/-
  Layer 6 as plain functions: an engine is its kind and its terms; whether it is right, a text's tag by it, the terms behind it, whether a tag fits. No conditions but those typed.
-/
import Derived.Test.YtknjpmoimjhddaaGreatDoorQ8
import Derived.Maps.OwnOps
import Derived.Maps.Views
import Derived.DeepKeys4
import Derived.Maps.AppendAt
import Derived.Deep.QuietTactic
namespace Go.Proofs.YtknjpmoimjhddaaGreatDoor
set_option maxRecDepth 100000
set_option linter.unusedVariables false
set_option linter.unusedSimpArgs false

def rightE (K : Int) (cs : List Tm) : Bool := decide (K = 1 ∧ cs = []) || (decide (K = 2) && rightT cs)
/-- The terms behind a tag, and the tag. -/
def termsE (K : Int) (cs : List Tm) (x : Tm) : List Tm := if K = 2 then putT cs x else cs
def bytesE [Inhabited Tab] (K : Int) (cs : List Tm) (x : Tm) : List UInt8 := if K = 2 then tagT cs x else (macL x.1 x.2).take 8
def fitsE [Inhabited Tab] (K : Int) (cs : List Tm) (x : Tm) (tag : List UInt8) : Bool := rightE K cs && ((!decide (K = 2) || decide (x ∈ cs)) && decide (bytesE K cs x = tag))

theorem rightE_cases {K : Int} {cs : List Tm} (h : rightE K cs = true) : (K = 1 ∧ cs = []) ∨ (K = 2 ∧ rightT cs = true) := by
  unfold rightE at h
  simpa using h
theorem rightE_one : rightE 1 [] = true := by decide
theorem bytesE_length [Inhabited Tab] (K : Int) (cs : List Tm) (x : Tm) : (bytesE K cs x).length = 8 := by
  unfold bytesE
  split
  · rfl
  · rw [List.length_take, macL_length]
    rfl
theorem termsE_right {K : Int} {cs : List Tm} (x : Tm) (h : rightE K cs = true) : rightE K (termsE K cs x) = true := by
  rcases rightE_cases h with ⟨rfl, rfl⟩ | ⟨rfl, h⟩
  · exact rightE_one
  · have := putT_right cs x h
    simp [rightE, termsE, this]
theorem termsE_le {K : Int} {cs : List Tm} (x : Tm) : (termsE K cs x).length ≤ cs.length + 1 := by
  unfold termsE
  split
  · exact (putT_length cs x).2
  · omega
/-- What is behind other tags is there. -/
def behindE (K : Int) (cs ds : List Tm) : Prop := ds = cs ∨ (K = 2 ∧ ∃ m, ds = cs ++ m)
theorem termsE_behind (K : Int) (cs : List Tm) (x : Tm) : behindE K cs (termsE K cs x) := by
  unfold termsE behindE
  by_cases h : K = 2
  · rw [if_pos h]
    exact .inr ⟨h, putT_pre cs x⟩
  · rw [if_neg h]
    exact .inl rfl
/-- The tag that was made, by whatever engine behind. -/
theorem bytesE_behind [Inhabited Tab] {K : Int} {cs ds : List Tm} (x : Tm) (hx : K = 2 → x ∈ cs) (h : behindE K cs ds) : bytesE K ds x = bytesE K cs x := by
  rcases h with rfl | ⟨rfl, m, rfl⟩
  · rfl
  · simp only [bytesE, if_pos]
    exact tagT_app cs m x (hx rfl)
theorem bytesE_put [Inhabited Tab] (K : Int) (cs : List Tm) (x : Tm) : bytesE K (termsE K cs x) x = bytesE K cs x := by
  unfold bytesE termsE
  by_cases h : K = 2
  · simp only [if_pos h]
    exact (tagT_put cs x).symm
  · simp only [if_neg h]
theorem termsE_mem (K : Int) (cs : List Tm) (x : Tm) (h : K = 2) : x ∈ termsE K cs x := by
  unfold termsE
  rw [if_pos h]
  exact putT_mem cs x
theorem fitsE_made [Inhabited Tab] {K : Int} {cs ds : List Tm} (x : Tm) (tag : List UInt8) (hr : rightE K ds = true) (h : behindE K (termsE K cs x) ds) : fitsE K ds x tag = decide (bytesE K cs x = tag) := by
  have h1 : bytesE K ds x = bytesE K cs x := by rw [bytesE_behind x (termsE_mem K cs x) h, bytesE_put]
  have h2 : K = 2 → x ∈ ds := fun hK => by
    rcases h with rfl | ⟨_, m, rfl⟩
    · exact termsE_mem K cs x hK
    · exact List.mem_append_left _ (termsE_mem K cs x hK)
  unfold fitsE
  rw [hr, h1, Bool.true_and]
  by_cases hK : K = 2
  · simp [h2 hK]
  · simp [hK]
theorem fitsE_wrong [Inhabited Tab] {K : Int} {cs : List Tm} (x : Tm) (tag : List UInt8) (hr : rightE K cs = false) : fitsE K cs x tag = false := by unfold fitsE; rw [hr]; rfl
theorem fitsE_sym [Inhabited Tab] {cs : List Tm} (x : Tm) (tag : List UInt8) : fitsE 2 cs x tag = true → x ∈ cs ∧ tagT cs x = tag := by
  unfold fitsE bytesE
  simp
/-- A tag that fits one text and key fits no other. -/
theorem fitsE_one [Inhabited Tab] {cs : List Tm} (x y : Tm) (tag : List UInt8) (hl : cs.length ≤ 100000000) (hx : fitsE 2 cs x tag = true) (hy : fitsE 2 cs y tag = true) : x = y := by
  obtain ⟨h1, h2⟩ := fitsE_sym x tag hx
  obtain ⟨h3, h4⟩ := fitsE_sym y tag hy
  exact tagT_inj cs x y h1 h3 (by omega) (by rw [h2, h4])
end Go.Proofs.YtknjpmoimjhddaaGreatDoor
/-
  What the program's call Place of layer 5 answers: its closure, slices.IndexFunc at it. No conditions but those typed.
-/
namespace Go.Proofs.YtknjpmoimjhddaaGreatDoor
set_option maxRecDepth 100000
open Go.RowKit
set_option linter.unusedSimpArgs false
set_option linter.unusedVariables false

set_option maxHeartbeats 1000000 in
theorem sameAs_any (x : TD) (key msg : List UInt8) (n m : Nat) (B C : Option Addr) (d e : Nat) (g1 g2 : Nat) (w : World) (HN : Hid (key.length = n)) (HM : Hid (msg.length = m)) (hx : x.ok w) (hk : Rd vB w B key) (hm : Rd vB w C msg)
    (c1 : w.cell? ⟨g1, 0, none⟩ = some (.slice B n d)) (c2 : w.cell? ⟨g2, 0, none⟩ = some (.slice C m e)) :
    Calls Tryz.prog 251 #[.agg #[x.at0, x.at1], .pointer (some ⟨g1, 0, none⟩), .pointer (some ⟨g2, 0, none⟩)] w fun e' w' => e' = .returned (.bool (decide (x.c = (key, msg)))) ∧ Below w.heap.size w w' := by
  obtain ⟨kA, kc, k, mA, mc, l⟩ := x
  obtain ⟨_, _, hkr, hmr⟩ := hx
  unfold TD.at0 TD.at1 TD.c at *
  dsimp only at hkr hmr ⊢
  have hR0 : Row (w.alloc (.cells #[.slice kA k.length kc, .slice mA l.length mc] 164)) w.heap.size 164 [.slice kA k.length kc, .slice mA l.length mc] := Row.new w _ _ _ rfl
  have hB0 := below_new (Below.refl _ w) (.cells #[.slice kA k.length kc, .slice mA l.length mc] 164)
  have d1 : (w.alloc (.cells #[.slice kA k.length kc, .slice mA l.length mc] 164)).cell? ⟨g1, 0, none⟩ = some (.slice B n d) := (hB0.cell (p := ⟨g1, 0, none⟩) (World.block_lt_of_cell? w _ c1)).trans c1
  have d2 : (w.alloc (.cells #[.slice kA k.length kc, .slice mA l.length mc] 164)).cell? ⟨g2, 0, none⟩ = some (.slice C m e) := (hB0.cell (p := ⟨g2, 0, none⟩) (World.block_lt_of_cell? w _ c2)).trans c2
  have k0 : (w.alloc (.cells #[.slice kA k.length kc, .slice mA l.length mc] 164)).cell? ⟨w.heap.size, 0, none⟩ = some (.slice kA k.length kc) := hR0.cell rfl
  have k1 : (w.alloc (.cells #[.slice kA k.length kc, .slice mA l.length mc] 164)).cell? ⟨w.heap.size, 1, none⟩ = some (.slice mA l.length mc) := hR0.cell rfl
  replace hkr := hkr.keep hB0
  replace hmr := hmr.keep hB0
  replace hk := hk.keep hB0
  replace hm := hm.keep hB0
  clear hR0 c1 c2
  by_cases ek : k = key
  · have HD : Hid (decide ((k, l) = (key, msg)) = decide (l = msg)) := by unfold Hid; simp [ek]
    have HE : Hid (decide (k = key) = true) := by unfold Hid; simp [ek]
    clear ek
    go_enter Tryz.func251, Tryz.ntmps251
    go_upto_region 1 with fail
    generalize w.alloc (.cells #[.slice kA k.length kc, .slice mA l.length mc] 164) = W at hB0 d1 d2 k0 k1 hkr hmr hk hm ⊢
    go_wp2_with fail
    refine (equal_any k key k.length n kA B kc d _ (Lib.hid rfl) HN hkr hk).mono ?_
    rintro e' w' ⟨rfl, rfl⟩
    rw [HE.out]
    go_wp2_with fail
    refine (equal_any l msg l.length m mA C mc e _ (Lib.hid rfl) HM hmr hm).mono ?_
    rintro e' w' ⟨rfl, rfl⟩
    generalize decide (l = msg) = r at HD ⊢
    go_wp2_with fail
    go_ret
    exact ⟨by rw [HD.out]; rfl, hB0⟩
  · have HD : Hid (decide ((k, l) = (key, msg)) = false) := by unfold Hid; simp [ek]
    have HE : Hid (decide (k = key) = false) := by unfold Hid; simp [ek]
    clear ek
    go_enter Tryz.func251, Tryz.ntmps251
    go_upto_region 1 with fail
    generalize w.alloc (.cells #[.slice kA k.length kc, .slice mA l.length mc] 164) = W at hB0 d1 d2 k0 k1 hkr hmr hk hm ⊢
    go_wp2_with fail
    refine (equal_any k key k.length n kA B kc d _ (Lib.hid rfl) HN hkr hk).mono ?_
    rintro e' w' ⟨rfl, rfl⟩
    rw [HE.out]
    go_wp2_with fail
    go_ret
    exact ⟨by rw [HD.out]; rfl, hB0⟩

set_option maxHeartbeats 1000000 in
theorem indexSame_any (ts : List TD) (key msg : List UInt8) (p n m : Nat) (A B C : Option Addr) (c d e g1 g2 : Nat) (w : World) (HP : Hid (ts.length = p)) (HN : Hid (key.length = n)) (HM : Hid (msg.length = m)) (ht : RdT w A ts) (hok : okT w ts) (hk : Rd vB w B key) (hm : Rd vB w C msg) (hp : p ≤ 1000000000)
    (c1 : w.cell? ⟨g1, 0, none⟩ = some (.slice B n d)) (c2 : w.cell? ⟨g2, 0, none⟩ = some (.slice C m e)) :
    Calls Tryz.prog 250 #[.slice A p c, .func (.func 251) #[] #[.pointer (some ⟨g1, 0, none⟩), .pointer (some ⟨g2, 0, none⟩)]] w fun e w' => e = .returned (.int .i64 (plI (conT ts) (key, msg))) ∧ Below w.heap.size w w' := by
  have e1 := HP.out
  subst e1
  have HOK := Lib.hid hok
  have hg1 := World.block_lt_of_cell? w _ c1
  have hg2 := World.block_lt_of_cell? w _ c2
  have C1 : Hid (∀ W, Below w.heap.size w W → W.cell? ⟨g1, 0, none⟩ = some (.slice B n d)) := fun W hW => (hW.cell (p := ⟨g1, 0, none⟩) hg1).trans c1
  have C2 : Hid (∀ W, Below w.heap.size w W → W.cell? ⟨g2, 0, none⟩ = some (.slice C m e)) := fun W hW => (hW.cell (p := ⟨g2, 0, none⟩) hg2).trans c2
  clear hok HP c1 c2 hg1 hg2
  go_enter Tryz.func250, Tryz.ntmps250
  go_wp2_with fail
  go_loopw [8] (fun i wr => PlRel (conT ts) (key, msg) w i wr) (fun i _ => ts.length - (intOf i).toNat)
  case atStart => exact ⟨0, Nat.zero_le _, rfl, fun j h => absurd h (by omega), Below.refl _ _⟩
  case round =>
    obtain ⟨k, hk1, rfl, hbef, hB⟩ := hrel
    by_cases hlt : k < ts.length
    · obtain ⟨blk, o, rfl, hblk, hcell⟩ := ht.at hlt
      have hx := (HOK.out ts[k] (List.getElem_mem hlt)).keep hB
      have hg := conT_get ts k hlt
      have hlc : k < (conT ts).length := by rw [conT_length]; exact hlt
      have HBE : Hid (ts[k].c ≠ (key, msg) → ∀ j (h : j < k + 1) (h' : j < (conT ts).length), (conT ts)[j] ≠ (key, msg)) := fun hn => PlRel.next hlc hbef (by rw [hg]; exact hn)
      have HEQ : Hid (ts[k].c = (key, msg) → plI (conT ts) (key, msg) = (k : Int)) := fun h => by
        have hi := idx_of (key, msg) (conT ts) k (by omega) hbef (.inr ⟨hlc, by rw [hg]; exact h⟩)
        rw [plI_in _ _ ((idx_lt _ _).1 (by omega)), hi]
      obtain ⟨h0, h1⟩ := hcell k hlt
      have hc0 : wr.rangeAt blk (o + k * 2) [ts[k].at0, ts[k].at1] := fun j u hu => by
        match j, hu with
        | 0, hu => injection hu with hu; subst hu; exact (hB.cell (p := ⟨blk, o + k * 2, none⟩) hblk).trans h0
        | 1, hu => injection hu with hu; subst hu; exact (hB.cell (p := ⟨blk, o + k * 2 + 1, none⟩) hblk).trans h1
      have d1 := C1.out wr hB
      have d2 := C2.out wr hB
      have hkk := hk.keep hB
      have hmm := hm.keep hB
      generalize ts[k] = x at hx HBE HEQ hc0
      have i0 : (0 : Int) ≤ (k : Int) := by omega
      have i1 : (k : Int) < (ts.length : Int) := by omega
      have HB := Lib.hid hB
      clear h0 h1 hcell hg hbef hk1 hB
      go_wp2_with (refine wpList_load_mid rfl 164 (.tmp 14) rfl blk (o + k * 2) rfl [x.at0, x.at1] _ hc0 Tryz.underlying164 rfl (by exact size_term) ?_)
      refine (sameAs_any x key msg n m B C d e g1 g2 _ HN HM hx hkk hmm d1 d2).mono ?_
      rintro e' w1 ⟨rfl, hb1⟩
      by_cases hq : x.c = (key, msg)
      · have HQ := Lib.hid (HEQ.out hq)
        have HD : Hid (decide (x.c = (key, msg)) = true) := by unfold Hid; simp [hq]
        rw [HD.out]
        clear HEQ HBE hq
        go_wp2_with fail
        go_ret
        exact ⟨by rw [HQ.out]; rfl, below_step HB.out hb1⟩
      · have HR : Hid (PlRel (conT ts) (key, msg) w (.int .i64 ((k : Int) + 1)) w1) := ⟨k + 1, hlc, by go_num, HBE.out hq, below_step HB.out hb1⟩
        have HD : Hid (decide (x.c = (key, msg)) = false) := by unfold Hid; simp [hq]
        rw [HD.out]
        clear HEQ HBE hq
        go_wp2_with fail
        go_roundw
        case rel => exact HR.out
        case measure => simp [intOf]; omega
    · have hn : plI (conT ts) (key, msg) = -1 := by
        refine plI_out _ _ (fun hx => ?_)
        have h1 := (idx_lt _ _).2 hx
        exact hbef _ (by rw [conT_length] at h1; omega) h1 (idx_get _ _ h1)
      have j1 : ¬ (k : Int) < (ts.length : Int) := by omega
      have HN := Lib.hid hn
      clear hn hbef hk1
      go_wp2_with fail
      go_ret
      exact ⟨by rw [HN.out]; rfl, hB⟩

theorem place_anyT (ts : List TD) (key msg : List UInt8) (p n m : Nat) (A B C : Option Addr) (c d e : Nat) (w : World) (HP : Hid (ts.length = p)) (HN : Hid (key.length = n)) (HM : Hid (msg.length = m)) (ht : RdT w A ts) (hok : okT w ts) (hk : Rd vB w B key) (hm : Rd vB w C msg) (hp : p ≤ 1000000000) (hn : n ≤ 1000000000) (hmm : m ≤ 1000000000) :
    Calls Tryz.prog 248 #[.slice A p c, .slice B n d, .slice C m e] w fun e w' => e = .returned (.int .i64 (plI (conT ts) (key, msg))) ∧ Below w.heap.size w w' := by
  have hR0 : Row (w.alloc (.cells #[.slice B n d] 27)) w.heap.size 27 [.slice B n d] := Row.new w _ _ _ rfl
  have hB0 := below_new (Below.refl _ w) (.cells #[.slice B n d] 27)
  have hR1 := hR0.alloc (.cells #[.slice C m e] 27)
  have hB1 := below_new hB0 (.cells #[.slice C m e] 27)
  have hR2 : Row ((w.alloc (.cells #[.slice B n d] 27)).alloc (.cells #[.slice C m e] 27)) (w.heap.size + 1) 27 [.slice C m e] := Row.new_at _ _ (by simp) _ _ _ rfl
  go_enter Tryz.func248, Tryz.ntmps248
  go_wp2_with fail
  generalize (w.alloc (.cells #[.slice B n d] 27)).alloc (.cells #[.slice C m e] 27) = W at hR1 hR2 hB1 ⊢
  refine (indexSame_any ts key msg p n m A B C c d e w.heap.size (w.heap.size + 1) _ HP HN HM (ht.keep hB1) (hok.keep hB1) (hk.keep hB1) (hm.keep hB1) hp (hR1.cell rfl) (hR2.cell rfl)).mono ?_
  rintro e' w1 ⟨rfl, hb1⟩
  go_wp2_with fail
  go_ret
  exact ⟨rfl, below_step hB1 hb1⟩
end Go.Proofs.YtknjpmoimjhddaaGreatDoor
/-
  What the program's call Right of layer 5 answers: a map of what was seen, whose keys are pairs of strings. No conditions but those typed.
-/
namespace Go.Proofs.YtknjpmoimjhddaaGreatDoor
set_option maxRecDepth 100000
open Go.RowKit
set_option linter.unusedSimpArgs false
set_option linter.unusedVariables false

/-! ### the key -/
def klit (x : Tm) : Lit := .string (keyBytes [.string x.1, .string x.2])
theorem law2 : Maps.Keyed Tryz.prog 299 := Maps.Keyed.of_law (deep_law_laid (by kernel_rfl) (m := 2) (by omega) (of_decide_eq_true (by kernel_rfl)) (by kernel_rfl) (by rw [Tryz.underlying299]))
theorem cells2 : Tryz.prog.cellsOf 299 = 2 := by kernel_rfl
theorem cells1 : Tryz.prog.cellsOf 9 = 1 := by kernel_rfl
theorem keytype2 : Tryz.prog.keyType 299 = true := by kernel_rfl
theorem size2 : (Tryz.prog.info? 299).map (·.size) = some 2 := by kernel_rfl
theorem key_of (x : Tm) (h1 : x.1.length ≤ 1000000000) (h2 : x.2.length ≤ 1000000000) : keyOf Tryz.prog 299 (.agg #[.string (strL x.1), .string (strL x.2)]) = some (klit x) := by
  have hm : ∃ m, Tryz.prog.types.size = m + 1 := ⟨Tryz.prog.types.size - 1, by have : 0 < Tryz.prog.types.size := of_decide_eq_true (by kernel_rfl); omega⟩
  obtain ⟨m, hm⟩ := hm
  have s1 : (strL x.1).size ≤ maxLen := by rw [strL_size]; unfold maxLen; omega
  have s2 : (strL x.2).size ≤ maxLen := by rw [strL_size]; unfold maxLen; omega
  unfold keyOf
  simp only [Tryz.underlying299]
  rw [if_pos (by simp [keytype2, Value.formed, Tryz.underlying299, cells2]), hm]
  unfold Program.keyLits
  simp only [Tryz.underlying299, Value.cells]
  rw [if_pos (by rw [cells2]; rfl), show List.range 2 = [0, 1] from rfl, List.mapM_cons, List.mapM_cons, List.mapM_nil]
  have e1 : (strL x.1).data.toList = x.1 := by simp [strL]
  have e2 : (strL x.2).data.toList = x.2 := by simp [strL]
  simp [cells1, Program.keyLits, Tryz.underlying9, s1, s2, e1, e2, klit]
theorem klit_inj {x y : Tm} (hx : x.1.length ≤ 1000000000 ∧ x.2.length ≤ 1000000000) (hy : y.1.length ≤ 1000000000 ∧ y.2.length ≤ 1000000000) (h : klit x = klit y) : x = y := by
  have h1 := key_of x hx.1 hx.2
  have h2 := key_of y hy.1 hy.2
  rw [← h] at h2
  have := law2.inj h1 h2
  injection this with this
  injection this with this
  simp at this
  exact Prod.ext (strL_inj this.1) (strL_inj this.2)

/-! ### what was seen -/
def SeenD (D : DataW Unit) (cs : List Tm) : Prop := Maps.IsMap D ∧ ∀ x : Tm, x.1.length ≤ 1000000000 → x.2.length ≤ 1000000000 → D.atKey (klit x) (.lit (.bool false)) = .lit (.bool (decide (x ∈ cs)))
theorem SeenD.none : SeenD (.map []) [] := ⟨⟨[], rfl⟩, fun x _ _ => by simp [DataW.atKey]⟩
theorem SeenD.more {D : DataW Unit} {cs : List Tm} (h : SeenD D cs) (y : Tm) (h1 : y.1.length ≤ 1000000000) (h2 : y.2.length ≤ 1000000000) : SeenD (D.put (klit y) (.lit (.bool true))) (cs ++ [y]) := by
  refine ⟨h.1.put _ _, fun x k1 k2 => ?_⟩
  by_cases e : x = y
  · subst e
    rw [Maps.atKey_put_same h.1 (by unfold klit; trivial)]
    simp
  · rw [Maps.atKey_put_other (fun q => e (klit_inj ⟨k1, k2⟩ ⟨h1, h2⟩ q)), h.2 x k1 k2]
    simp [e]

theorem ownsMap_keep {H : Type} {P : Program} {k : TypeId} {R : Value → Option (DataW H × List MemPlace)} {w w' : World} {b n : Nat} {D : DataW H} (h : w.ownsMap P k R b n D) (hb : Below w.heap.size w w') : w'.ownsMap P k R b n D := by
  have hlt := h.lt
  obtain ⟨es, clock, hh, F, hs, hD⟩ := h
  exact ⟨es, clock, (hb.block b hlt).trans hh, F, hs, hD⟩
theorem plainElem_bool_inv {H : Type} {P : Program} {e : TypeId} (he : P.underlying e = some .bool) {v : Value} {z : DataW H × List MemPlace} (h : plainElem P e v = some z) : ∃ b, v = .bool b ∧ z = (.lit (.bool b), []) := by
  unfold plainElem at h
  rw [he] at h
  cases v <;> simp at h
  subst h
  exact ⟨_, rfl, rfl⟩
/-- 'm[k]' in a map of bools that the call made. -/
theorem wpList_lookup_own_bool {H : Type} {P : Program} (w : World) {ops : Array Oper} {rest : List Oper} {o : Oper} {a : Act} {Q : Exit → Act → World → Prop}
    (hg : o.guard = none) (m x : Operand) (t : TypeId) (hop : o.op = Op.lookup t m x false)
    (k e : TypeId) (K : Maps.Keyed P k) (ht : P.underlying t = some (.map k e)) (he : P.underlying e = some .bool) (hz : (zeroValue e).run P w = .ok (.bool false) w) (b n : Nat) (D : DataW H)
    (hm : a.eval m = .map (some b)) (hown : w.ownsMap P k (plainElem P e) b n D) (key : Value) (kl : Lit) (hx : a.eval x = key) (hkey : keyOf P k key = some kl) (r : Bool) (hr : D.atKey kl (.lit (.bool false)) = .lit (.bool r))
    (hK : wpList P ops Q rest (a.put o.dst (.bool r)) w) :
    wpList P ops Q (o :: rest) a w := by
  refine wpList_plain hg fun K' hK' => ?_
  obtain ⟨v, ps, hrun, hv⟩ := hown.lookup K ht hz (plainElem_bool he false) hkey
  obtain ⟨c, rfl, hc⟩ := plainElem_bool_inv he hv
  rw [hr] at hc
  simp only [Prod.mk.injEq] at hc
  have hcr : r = c := by
    have := hc.1
    injection this with this
    injection this
  subst hcr
  unfold Oper.wp
  simp [execOp, hop, hm, hx, hrun, Result.andThen]
  exact hK' _ _ hK

def SetRel (cs : List Tm) (w : World) (i : Value) (wr : World) : Prop :=
  ∃ (k : Nat) (D : DataW Unit), k ≤ cs.length ∧ i = .int .i64 (k : Int) ∧ wr.ownsMap Tryz.prog 299 (plainElem Tryz.prog 4) w.heap.size k D ∧ SeenD D (cs.take k) ∧ (cs.take k).Nodup ∧ Below w.heap.size w wr
theorem nodup_take {cs : List Tm} {k : Nat} (hk : k < cs.length) (h : (cs.take k).Nodup) (hn : cs[k] ∉ cs.take k) : (cs.take (k + 1)).Nodup := by
  rw [List.take_succ_eq_append_getElem hk, List.nodup_append]
  refine ⟨h, by simp, fun a ha b hb => ?_⟩
  simp at hb
  subst hb
  exact fun e => hn (e ▸ ha)
theorem not_nodup {cs : List Tm} {k : Nat} (hk : k < cs.length) (hn : cs[k] ∈ cs.take k) : ¬ cs.Nodup := by
  intro h
  rw [← List.take_append_drop k cs, List.nodup_append] at h
  have h2 := h.2.2 _ hn
  rw [List.drop_eq_getElem_cons hk] at h2
  exact h2 cs[k] List.mem_cons_self rfl

set_option maxHeartbeats 1000000 in
theorem right_anyT (ts : List TD) (p : Nat) (A : Option Addr) (c : Nat) (w : World) (HP : Hid (ts.length = p)) (HL : Hid (lenT (conT ts))) (ht : RdT w A ts) (hok : okT w ts) (hp : p ≤ 1000000000) (hc : p ≤ c) :
    Calls Tryz.prog 245 #[.slice A p c] w fun e w' => e = .returned (.bool (rightT (conT ts))) ∧ Below w.heap.size w w' := by
  have e1 := HP.out
  subst e1
  have HOK := Lib.hid hok
  have hmk := @run_makeMap Tryz.prog
  have hzb : ∀ w, (zeroValue 4).run Tryz.prog w = .ok (.bool false) w := fun w => by kernel_rfl
  clear hok HP
  go_enter Tryz.func245, Tryz.ntmps245
  go_wp2_with fail
  go_loopw [10] (fun i wr => SetRel (conT ts) w i wr) (fun i _ => ts.length - (intOf i).toNat)
  case atStart => exact ⟨0, .map [], Nat.zero_le _, rfl, World.ownsMap_made _ _ _ _, SeenD.none, by simp, below_new (Below.refl _ _) _⟩
  case round =>
    clear hmk
    obtain ⟨k, D, hk1, rfl, hown, hsee, hnd, hB⟩ := hrel
    by_cases hlt : k < ts.length
    · obtain ⟨blk, o, rfl, hblk, hcell⟩ := ht.at hlt
      have hx := (HOK.out ts[k] (List.getElem_mem hlt)).keep hB
      have hg := conT_get ts k hlt
      have hlc : k < (conT ts).length := by rw [conT_length]; exact hlt
      have hlen := lenT.at HL.out (List.getElem_mem hlt)
      have HIN : Hid (ts[k].c ∈ (conT ts).take k → rightT (conT ts) = false) := fun hn => by
        unfold rightT
        rw [decide_eq_false_iff_not]
        exact not_nodup hlc (by rw [hg]; exact hn)
      have HOUT : Hid (ts[k].c ∉ (conT ts).take k → ((conT ts).take (k + 1)).Nodup) := fun hn => nodup_take hlc hnd (by rw [hg]; exact hn)
      have HTK : Hid ((conT ts).take (k + 1) = (conT ts).take k ++ [ts[k].c]) := by unfold Hid; rw [List.take_succ_eq_append_getElem hlc, hg]
      obtain ⟨h0, h1⟩ := hcell k hlt
      have hc0 : wr.rangeAt blk (o + k * 2) [ts[k].at0, ts[k].at1] := fun j u hu => by
        match j, hu with
        | 0, hu => injection hu with hu; subst hu; exact (hB.cell (p := ⟨blk, o + k * 2, none⟩) hblk).trans h0
        | 1, hu => injection hu with hu; subst hu; exact (hB.cell (p := ⟨blk, o + k * 2 + 1, none⟩) hblk).trans h1
      generalize ts[k] = x at hx HIN HOUT HTK hc0 hlen
      have i0 : (0 : Int) ≤ (k : Int) := by omega
      have i1 : (k : Int) < (ts.length : Int) := by omega
      have HB := Lib.hid hB
      have HK := Lib.hid hk1
      have hR0 : Row (wr.alloc (.cells #[.slice none 0 0, .slice none 0 0] 164)) wr.heap.size 164 [.slice none 0 0, .slice none 0 0] := Row.new wr _ _ _ rfl
      have hkey := key_of x.c hlen.1 hlen.2
      have hat := hsee.2 x.c hlen.1 hlen.2
      have HSM := Lib.hid (hsee.more x.c hlen.1 hlen.2)
      rw [← HTK.out] at HSM
      obtain ⟨r, hr⟩ : ∃ r, r = decide (x.c ∈ (conT ts).take k) := ⟨_, rfl⟩
      rw [← hr] at hat
      have HRR := Lib.hid hr
      have HND := Lib.hid hnd
      generalize klit x.c = kl at hkey hat HSM
      clear h0 h1 hcell hg hk1 hB hnd hr hsee
      go_upto_region 5 with (first
        | (refine wpList_load_mid rfl 164 (.tmp 12) rfl blk (o + k * 2) rfl [x.at0, x.at1] _ hc0 Tryz.underlying164 rfl (by exact size_term) ?_)
        | (refine wpList_store_row rfl 164 (.tmp 5) (.tmp 13) rfl wr.heap.size rfl [x.at0, x.at1] rfl _ _ hR0 (by exact size_term) rfl (one_two _ _ rfl rfl) ?_))
      have hR1 := hR0.setRow [x.at0, x.at1]
      have hbn : Below wr.heap.size wr ((wr.alloc (.cells #[.slice none 0 0, .slice none 0 0] 164)).setRow wr.heap.size [x.at0, x.at1].toArray) := below_setRow (below_new (Below.refl _ _) _) (Nat.le_refl _) _
      generalize (wr.alloc (.cells #[.slice none 0 0, .slice none 0 0] 164)).setRow wr.heap.size [x.at0, x.at1].toArray = w1 at hR1 hbn ⊢
      replace hx := hx.keep hbn
      replace hown := ownsMap_keep hown hbn
      have HB1 : Hid (Below w.heap.size w w1) := below_step HB.out hbn
      clear hbn hR0 hc0 HB
      generalize wr.heap.size = g1 at hR1 ⊢
      obtain ⟨kA, kc, sk, mA, mc, sm⟩ := x
      obtain ⟨_, _, hkr, hmr⟩ := hx
      unfold TD.at0 TD.at1 TD.c at *
      dsimp only at hkr hmr hlen hkey hR1 HIN HOUT HTK HSM HRR ⊢
      have k0 : w1.cell? ⟨g1, 0, none⟩ = some (.slice kA sk.length kc) := hR1.cell rfl
      have k1 : w1.cell? ⟨g1, 1, none⟩ = some (.slice mA sm.length mc) := hR1.cell rfl
      have s0 : (convert 27 9 (.slice kA sk.length kc)).run Tryz.prog w1 = .ok (.string (strL sk)) w1 := run_str _ _ _ _ Tryz.underlying27 Tryz.underlying5 Tryz.underlying9 _ sk _ _ rfl hkr
      have s1 : (convert 27 9 (.slice mA sm.length mc)).run Tryz.prog w1 = .ok (.string (strL sm)) w1 := run_str _ _ _ _ Tryz.underlying27 Tryz.underlying5 Tryz.underlying9 _ sm _ _ rfl hmr
      generalize strL sk = SK at s0 hkey
      generalize strL sm = SM at s1 hkey
      clear hkr hmr hR1 hlen
      go_upto_region 6 with fail
      have hR2 : Row (w1.alloc (.cells #[.string SK, .string SM] 299)) w1.heap.size 299 [.string SK, .string SM] := Row.new w1 _ _ _ rfl
      have hbn := below_new (Below.refl _ w1) (.cells #[.string SK, .string SM] 299)
      replace hown := ownsMap_keep hown hbn
      replace HB1 := Lib.hid (below_step HB1.out hbn)
      clear hbn k0 k1 s0 s1
      generalize w1.alloc (.cells #[.string SK, .string SM] 299) = w2 at hR2 hown HB1 ⊢
      cases r with
      | true =>
        have hin : (sk, sm) ∈ (conT ts).take k := of_decide_eq_true HRR.out.symm
        have HF := Lib.hid (HIN.out hin)
        clear HIN HOUT hin
        go_wp2_with (first
          | (refine wpList_load_part rfl 299 (.tmp 6) rfl w1.heap.size 0 rfl _ _ hR2 [.string SK, .string SM] (by rfl) _ Tryz.underlying299 rfl (by exact size2) ?_)
          | (at_lookup; refine wpList_lookup_own_bool _ rfl (.tmp 21) (.tmp 22) 298 rfl 299 4 law2 Tryz.underlying298 Tryz.underlying4 (hzb _) w.heap.size k D rfl hown _ kl rfl hkey true hat ?_))
        go_ret
        exact ⟨by rw [HF.out]; rfl, HB1.out⟩
      | false =>
        have hin : (sk, sm) ∉ (conT ts).take k := of_decide_eq_false HRR.out.symm
        have HF := Lib.hid (HOUT.out hin)
        clear HIN HOUT hin
        go_wp2_with (first
          | (refine wpList_load_part rfl 299 (.tmp 6) rfl w1.heap.size 0 rfl _ _ hR2 [.string SK, .string SM] (by rfl) _ Tryz.underlying299 rfl (by exact size2) ?_)
          | (at_lookup; refine wpList_lookup_own_bool _ rfl (.tmp 21) (.tmp 22) 298 rfl 299 4 law2 Tryz.underlying298 Tryz.underlying4 (hzb _) w.heap.size k D rfl hown _ kl rfl hkey false hat ?_)
          | (at_mapUpdate; refine wpList_mapUpdate_own _ rfl (.tmp 24) (.tmp 25) (.const (.bool true)) 298 rfl 299 4 law2 Tryz.underlying298 _ w.heap.size k D rfl hown (by unfold maxLen; omega) _ _ kl rfl rfl hkey (.lit (.bool true)) [] (plainElem_bool Tryz.underlying4 true) ?_; intro w3 hown3 hgrow3))
        go_roundw
        case rel => exact ⟨k + 1, _, by omega, by go_num, hown3, HSM.out, HF.out, HB1.out.grown hgrow3 HB1.out.size (fun j hj => by injection hj with hj; omega)⟩
        case measure => simp [intOf]; omega
    · have hk2 : k = ts.length := by rw [conT_length] at hk1; omega
      have HN : Hid (rightT (conT ts) = true) := by
        unfold Hid rightT
        rw [decide_eq_true_eq]
        rw [hk2, ← conT_length, List.take_length] at hnd
        exact hnd
      have j1 : ¬ (k : Int) < (ts.length : Int) := by omega
      clear hnd hk1 hk2 hsee
      go_wp2_with fail
      go_ret
      exact ⟨by rw [HN.out]; rfl, hB⟩
end Go.Proofs.YtknjpmoimjhddaaGreatDoor
/-
  What the program's calls Put and Of of layer 5 answer (Place: XTermPlace, Right: XTermSet). No conditions but those typed.
-/
namespace Go.Proofs.YtknjpmoimjhddaaGreatDoor
set_option maxRecDepth 100000
open Go.RowKit
set_option linter.unusedSimpArgs false
set_option linter.unusedVariables false

/-! ### rows of terms of the call's own -/
/-- No key and no text of these lies in that block. -/
def apartT (row : Option Nat) (us : List TD) : Prop := ∀ y ∈ us, (y.k ≠ [] → ∀ a, y.kA = some a → row ≠ some a.block) ∧ (y.m ≠ [] → ∀ a, y.mA = some a → row ≠ some a.block)
theorem apartT.nil (row : Option Nat) : apartT row [] := fun y hy => by cases hy
theorem Rd.grown' {α : Type} {f : α → Value} {w w' : World} {row : Option Nat} {A : Option Addr} {L : List α} (h : Rd f w A L) (hg : w.grownBy w' row) (hA : L ≠ [] → ∀ a, A = some a → row ≠ some a.block) : Rd f w' A L := by
  by_cases e : L = []
  · subst e
    exact Rd.nil
  · exact h.grown hg (hA e)
theorem okT.grown {w w' : World} {row : Option Nat} {us : List TD} (h : okT w us) (hg : w.grownBy w' row) (ha : apartT row us) : okT w' us := fun y hy => by
  obtain ⟨h1, h2, h3, h4⟩ := h y hy
  exact ⟨h1, h2, h3.grown' hg (ha y hy).1, h4.grown' hg (ha y hy).2⟩
theorem Rd.lt_of {α : Type} {f : α → Value} {w : World} {A : Option Addr} {L : List α} (h : Rd f w A L) (hn : L ≠ []) {a : Addr} (ha : A = some a) : a.block < w.heap.size := by
  obtain ⟨b, o, e, hb, _⟩ := h.at (k := 0) (by cases L; exact absurd rfl hn; simp)
  rw [ha] at e
  injection e with e
  rw [e]
  exact hb
theorem apartT.grown {w : World} {r r' : Option Nat} {us : List TD} (h : apartT r us) (hok : okT w us) (hr : r' = r ∨ r' = some w.heap.size) : apartT r' us := by
  rcases hr with rfl | rfl
  · exact h
  · intro y hy
    obtain ⟨_, _, h3, h4⟩ := hok y hy
    refine ⟨fun hn a ha e => ?_, fun hn a ha e => ?_⟩
    · have := h3.lt_of hn ha
      injection e with e
      omega
    · have := h4.lt_of hn ha
      injection e with e
      omega
theorem apartT.snoc {r : Option Nat} {us : List TD} {y : TD} {B : Nat} (h : apartT r us) (hy : y.new B) (hr : ∀ k, r = some k → k < B) : apartT r (us ++ [y]) := fun z hz => by
  rcases List.mem_append.1 hz with hz | hz
  · exact h z hz
  · simp at hz
    subst hz
    refine ⟨fun _ a ha e => ?_, fun _ a ha e => ?_⟩
    · have h1 := hy.1 a ha
      have h2 := hr _ e
      omega
    · have h1 := hy.2 a ha
      have h2 := hr _ e
      omega
theorem cellsT_snoc (us : List TD) (y : TD) : cellsT (us ++ [y]) = cellsT us ++ y.cells := by simp [cellsT]
theorem conT_snoc (us : List TD) (y : TD) : conT (us ++ [y]) = conT us ++ [y.c] := by simp [conT]
/-- A row of terms, whose keys and texts lie elsewhere. -/
def OwnT (B : Nat) (us : List TD) (v : Value) (w : World) : Prop := w.ownsRow B 164 2 v us.length (cellsT us) ∧ okT w us ∧ apartT v.ownBlock us
theorem OwnT.later {B : Nat} {us : List TD} {v : Value} {w w' : World} (h : OwnT B us v w) (hb : Below w.heap.size w w') : OwnT B us v w' := ⟨ownsRow2_later h.1 hb, h.2.1.keep hb, h.2.2⟩
theorem OwnT.more {B : Nat} {us : List TD} {y : TD} {v v' : Value} {w w1 w2 w3 : World} (h : OwnT B us v w) (hb : Below w.heap.size w w1) (hy : y.ok w1) (hn : y.new w.heap.size) (hb2 : Below w1.heap.size w1 w2) (ho : w3.ownsRow B 164 2 v' (us.length + 1) (cellsT us ++ y.cells)) (hg : w2.grownBy w3 v.ownBlock) (hv : v'.ownBlock = v.ownBlock ∨ v'.ownBlock = some w2.heap.size) : OwnT B (us ++ [y]) v' w3 := by
  have hB := below_step hb hb2
  have hok2 : okT w2 (us ++ [y]) := (h.2.1.keep hB).app (fun z hz => by simp at hz; subst hz; exact hy.keep hb2)
  have hap : apartT v.ownBlock (us ++ [y]) := h.2.2.snoc hn (fun k hk => (h.1.lt k hk).2)
  refine ⟨by rw [cellsT_snoc, List.length_append]; exact ho, hok2.grown hg hap, hap.grown hok2 hv⟩
theorem OwnT.slice {B : Nat} {us : List TD} {v : Value} {w : World} (h : OwnT B us v w) : ∃ A cap, v = .slice A us.length cap ∧ us.length ≤ cap ∧ RdT w A us := own_sliceT h.1

def PutRel (ts : List TD) (w : World) (v i : Value) (wr : World) : Prop :=
  ∃ (k : Nat) (us : List TD), k ≤ ts.length ∧ i = .int .i64 (k : Int) ∧ Hid (us.length = k) ∧ OwnT w.heap.size us v wr ∧ conT us = (conT ts).take k ∧ Below w.heap.size w wr

set_option maxRecDepth 100000 in
set_option maxHeartbeats 1000000 in
theorem put_anyT (ts : List TD) (key msg : List UInt8) (p n m : Nat) (A B C : Option Addr) (c d e : Nat) (w : World) (HP : Hid (ts.length = p)) (HN : Hid (key.length = n)) (HM : Hid (msg.length = m)) (HL : Hid (lenT (conT ts))) (ht : RdT w A ts) (hok : okT w ts) (hk : Rd vB w B key) (hm : Rd vB w C msg) (hp : p ≤ 1000000000) (hc : p ≤ c) (hn : n ≤ 1000000000) (hmm : m ≤ 1000000000) :
    Calls Tryz.prog 246 #[.slice A p c, .slice B n d, .slice C m e] w (PutRes ts (key, msg) w) := by
  have e1 := HP.out
  have e2 := HN.out
  have e3 := HM.out
  subst e1 e2 e3
  have HOK := Lib.hid hok
  clear hok HP HN HM
  obtain ⟨j0, hj, gz0, gz1, gz2⟩ := info_parts info_term
  go_enter Tryz.func246, Tryz.ntmps246
  go_upto_region 3 with (at_make; refine wpList_make_own _ rfl _ _ 46 rfl w.heap.size 164 j0 (.agg #[.slice none 0 0, .slice none 0 0]) 2 Tryz.underlying46 hj gz0 gz1 .i64 .i64 _ (ts.length + 1) rfl rfl (by omega) (by rw [gz2]; omega) (by unfold maxLen; omega) (Nat.le_refl _) ?_; intro w0 hown0 hgrow0)
  have hOwn0 : OwnT w.heap.size [] (.slice (some ⟨w.heap.size, 0, none⟩) 0 (ts.length + 1)) w0 := ⟨hown0, (fun x hx => by cases hx), apartT.nil _⟩
  have hB0 : Below w.heap.size w w0 := (Below.refl _ w).grown hgrow0 (Nat.le_refl _) (fun k hk => by cases hk)
  clear hown0 hgrow0
  go_loopw [8, 18] (fun v i wr => PutRel ts w v i wr) (fun _ i _ => ts.length - (intOf i).toNat)
  case atStart => exact ⟨0, [], Nat.zero_le _, rfl, Lib.hid rfl, hOwn0, by simp [conT], hB0⟩
  case round =>
    clear hOwn0 hB0
    obtain ⟨k, us, hk1, rfl, HU, hown, hcon, hB⟩ := hrel
    have eU := HU.out
    subst eU
    clear HU
    by_cases hlt : us.length < ts.length
    · obtain ⟨blk, o, rfl, hblk, hcell⟩ := ht.at hlt
      have hx := (HOK.out ts[us.length] (List.getElem_mem hlt)).keep hB
      have hlen := lenT.at HL.out (List.getElem_mem hlt)
      have hlc : us.length < (conT ts).length := by rw [conT_length]; exact hlt
      have HTK : Hid ((conT ts).take (us.length + 1) = conT us ++ [ts[us.length].c]) := by unfold Hid; rw [List.take_succ_eq_append_getElem hlc, conT_get ts _ hlt, hcon]
      obtain ⟨h0, h1⟩ := hcell _ hlt
      have hc0 : wr.rangeAt blk (o + us.length * 2) [ts[us.length].at0, ts[us.length].at1] := fun j u hu => by
        match j, hu with
        | 0, hu => injection hu with hu; subst hu; exact (hB.cell (p := ⟨blk, o + us.length * 2, none⟩) hblk).trans h0
        | 1, hu => injection hu with hu; subst hu; exact (hB.cell (p := ⟨blk, o + us.length * 2 + 1, none⟩) hblk).trans h1
      generalize ts[us.length] = x at hx hlen HTK hc0
      have i0 : (0 : Int) ≤ (us.length : Int) := by omega
      have i1 : (us.length : Int) < (ts.length : Int) := by omega
      have HB := Lib.hid hB
      have hR0 : Row (wr.alloc (.cells #[.slice none 0 0, .slice none 0 0] 164)) wr.heap.size 164 [.slice none 0 0, .slice none 0 0] := Row.new wr _ _ _ rfl
      clear h0 h1 hcell hk1 hB hcon
      go_upto_region 5 with (first
        | (refine wpList_load_mid rfl 164 (.tmp 20) rfl blk (o + us.length * 2) rfl [x.at0, x.at1] _ hc0 Tryz.underlying164 rfl (by exact size_term) ?_)
        | (refine wpList_store_row rfl 164 (.tmp 10) (.tmp 21) rfl wr.heap.size rfl [x.at0, x.at1] rfl _ _ hR0 (by exact size_term) rfl (one_two _ _ rfl rfl) ?_))
      have hR1 := hR0.setRow [x.at0, x.at1]
      have hbn : Below wr.heap.size wr ((wr.alloc (.cells #[.slice none 0 0, .slice none 0 0] 164)).setRow wr.heap.size [x.at0, x.at1].toArray) := below_setRow (below_new (Below.refl _ _) _) (Nat.le_refl _) _
      generalize (wr.alloc (.cells #[.slice none 0 0, .slice none 0 0] 164)).setRow wr.heap.size [x.at0, x.at1].toArray = w1 at hR1 hbn ⊢
      replace hx := hx.keep hbn
      replace hown := hown.later hbn
      have HB1 : Hid (Below w.heap.size w w1) := below_step HB.out hbn
      clear hbn hR0 hc0 HB
      generalize wr.heap.size = g1 at hR1 ⊢
      go_wp2_with (refine wpList_load_part rfl 164 (.tmp 10) rfl g1 0 rfl _ _ hR1 [x.at0, x.at1] (by rfl) _ Tryz.underlying164 rfl (by exact size_term) ?_)
      refine (copied_any x _ hx.2.2.1 hx.2.2.2 hlen.1 hlen.2).mono ?_
      rintro e' w2 ⟨y, rfl, hy, hyc, hyn, hb2⟩
      have hbn := below_new (Below.refl _ w2) (.cells #[y.at0, y.at1] 164)
      have hown4 := hown.later (below_step hb2 hbn)
      have hbase := (below_step HB1.out (below_step hb2 hbn)).size
      have hus : us.length + 1 ≤ 1000000001 := by omega
      go_wp2_with (at_builtin; refine wpList_append_own_at _ rfl (.tmp 22) (.tmp 25) 46 rfl w.heap.size 164 j0 (.agg #[.slice none 0 0, .slice none 0 0]) 2 48 Tryz.underlying46 hj gz0 gz1 gz2 rfl (by decide) _ us.length (cellsT us) rfl hown4.1 ⟨w2.heap.size, 0, none⟩ 1 1 y.cells rfl rfl (cells_new _ _ _) (one_two _ _ rfl rfl) (by unfold maxLen; omega) (by omega) hbase ?_; intro v3 w3 hown3 hgrow3 _ hv3)
      go_roundw
      case rel => exact ⟨us.length + 1, us ++ [y], by omega, by go_num, by unfold Hid; simp, hown.more hb2 hy hyn hbn hown3 hgrow3 hv3, by rw [conT_snoc, hyc, HTK.out], (below_step HB1.out (below_step hb2 hbn)).grown hgrow3 hbase (fun j hj => (hown.1.lt j hj).1)⟩
      case measure => simp [intOf]; omega
    · have hul : us.length = ts.length := by omega
      have hcu : conT us = conT ts := by rw [hcon, hul, ← conT_length, List.take_length]
      have HCU := Lib.hid hcu
      have HUL := Lib.hid hul
      have j1 : ¬ (us.length : Int) < (ts.length : Int) := by omega
      have HB := Lib.hid hB
      clear hcu hcon hk1 hul
      by_cases hin : (key, msg) ∈ conT ts
      · have hlt2 := (idx_lt _ _).2 hin
        rw [conT_length] at hlt2
        have hpl := plI_in _ _ hin
        have HC : Hid (conT us = putT (conT ts) (key, msg)) := HCU.out.trans (putT_twice _ _ hin).symm
        obtain ⟨tg, htg⟩ : ∃ tg, tg = tagT (conT ts) (key, msg) := ⟨_, rfl⟩
        have HT : Hid (putL (idx (key, msg) (conT ts) + 1) = tg) := htg.symm
        have HTG := Lib.hid htg
        clear htg
        generalize idx (key, msg) (conT ts) = q at hlt2 hpl HT
        have HPL := Lib.hid hpl
        have hge : ¬ (q : Int) < 0 := by omega
        clear hpl hin
        go_wp2_with fail
        refine (place_anyT ts key msg ts.length key.length msg.length A B C c d e _ (Lib.hid rfl) (Lib.hid rfl) (Lib.hid rfl) (ht.keep HB.out) (HOK.out.keep HB.out) (hk.keep HB.out) (hm.keep HB.out) hp hn hmm).mono ?_
        rintro e' w1 ⟨rfl, hb1⟩
        rw [HPL.out]
        go_wp2_with fail
        refine (tagof_any q tg _ (by omega) HT).mono ?_
        rintro e' w2 ⟨tA, tc, rfl, htc, htr, hb2⟩
        replace hown := hown.later (below_step hb1 hb2)
        obtain ⟨A5, c5, rfl, hc5, hr5⟩ := hown.slice
        go_wp2_with fail
        go_ret2
        exact ⟨us, us.length, A5, c5, tA, tc, rfl, Lib.hid rfl, hc5, htc, hr5, hown.2.1, HC, by rw [← HTG.out]; exact htr, below_step HB.out (below_step hb1 hb2)⟩
      · have HPL := Lib.hid (plI_out _ _ hin)
        have HC : Hid (conT us ++ [(key, msg)] = putT (conT ts) (key, msg)) := by unfold Hid; rw [HCU.out]; exact (if_neg hin).symm
        have HT : Hid (putL (ts.length + 1) = tagT (conT ts) (key, msg)) := by unfold Hid tagT; rw [idx_none _ _ hin, conT_length]
        clear hin
        go_wp2_with fail
        refine (place_anyT ts key msg ts.length key.length msg.length A B C c d e _ (Lib.hid rfl) (Lib.hid rfl) (Lib.hid rfl) (ht.keep HB.out) (HOK.out.keep HB.out) (hk.keep HB.out) (hm.keep HB.out) hp hn hmm).mono ?_
        rintro e' w1 ⟨rfl, hb1⟩
        rw [HPL.out]
        replace hown := hown.later hb1
        replace HB := Lib.hid (below_step HB.out hb1)
        go_wp2_with fail
        refine (copied_any ⟨B, d, key, C, e, msg⟩ _ (hk.keep HB.out) (hm.keep HB.out) hn hmm).mono ?_
        rintro e' w2 ⟨y, rfl, hy, hyc, hyn, hb2⟩
        have hbn := below_new (Below.refl _ w2) (.cells #[y.at0, y.at1] 164)
        have hown4 := hown.later (below_step hb2 hbn)
        have hbase := (below_step HB.out (below_step hb2 hbn)).size
        have hus : us.length + 1 ≤ 1000000001 := by have := HUL.out; omega
        go_upto_region 11 with (at_builtin; refine wpList_append_own_at _ rfl (.tmp 36) (.tmp 41) 46 rfl w.heap.size 164 j0 (.agg #[.slice none 0 0, .slice none 0 0]) 2 48 Tryz.underlying46 hj gz0 gz1 gz2 rfl (by decide) _ us.length (cellsT us) rfl hown4.1 ⟨w2.heap.size, 0, none⟩ 1 1 y.cells rfl rfl (cells_new _ _ _) (one_two _ _ rfl rfl) (by unfold maxLen; omega) (by omega) hbase ?_; intro v3 w3 hown3 hgrow3 _ hv3)
        have hownF := hown.more hb2 hy hyn hbn hown3 hgrow3 hv3
        have hB3 := (below_step HB.out (below_step hb2 hbn)).grown hgrow3 hbase (fun j hj => (hown.1.lt j hj).1)
        obtain ⟨xs, hxs⟩ : ∃ xs, xs = us ++ [y] := ⟨_, rfl⟩
        have hcx : conT xs = putT (conT ts) (key, msg) := by rw [hxs, conT_snoc, hyc]; exact HC.out
        have hcl : xs.length = ts.length + 1 := by rw [hxs, List.length_append, HUL.out]; rfl
        rw [← hxs] at hownF
        have HCX := Lib.hid hcx
        have HCL := Lib.hid hcl
        clear hxs hcx hcl hown hown4 hown3 hgrow3 hv3 hbase hus hyn hyc hy hbn
        go_wp2_with fail
        refine (tagof_any ts.length _ _ (by omega) HT).mono ?_
        rintro e' w4 ⟨tA, tc, rfl, htc, htr, hb4⟩
        replace hownF := hownF.later hb4
        obtain ⟨A5, c5, rfl, hc5, hr5⟩ := hownF.slice
        go_wp2_with fail
        go_ret2
        exact ⟨xs, xs.length, A5, c5, tA, tc, rfl, Lib.hid rfl, hc5, htc, hr5, hownF.2.1, HCX, htr, below_step hB3 hb4⟩

set_option maxRecDepth 100000 in
set_option maxHeartbeats 1000000 in
theorem of_anyT (ts : List TD) (tag : List UInt8) (p n : Nat) (A B : Option Addr) (c d : Nat) (w : World) (HP : Hid (ts.length = p)) (HN : Hid (tag.length = n)) (HL : Hid (lenT (conT ts))) (ht : RdT w A ts) (hok : okT w ts) (hg : Rd vB w B tag) (hp : p ≤ 1000000000) (hn : n ≤ 1000000000) :
    Calls Tryz.prog 244 #[.slice A p c, .slice B n d] w (OfRes ts tag w) := by
  have e1 := HP.out
  have e2 := HN.out
  subst e1 e2
  have HOK := Lib.hid hok
  clear hok HP HN
  have hR0 : Row (w.alloc (.cells #[.slice none 0 0, .slice none 0 0] 164)) w.heap.size 164 [.slice none 0 0, .slice none 0 0] := Row.new w _ _ _ rfl
  have hB0 := below_new (Below.refl _ w) (.cells #[.slice none 0 0, .slice none 0 0] 164)
  by_cases h8 : tag.length = 8
  · have HGV : Hid (getR tag = (valN tag, 0)) := by unfold Hid getR; rw [if_pos h8]
    have hv := valN_lt8' tag h8
    have HV : Hid (ofT (conT ts) tag = if 1 ≤ valN tag ∧ valN tag ≤ ts.length then ((conT ts).getD (valN tag - 1) ([], []), 0) else (([], []), 7)) := by unfold Hid ofT; rw [if_neg (by simp [h8]), conT_length]
    generalize valN tag = v at HGV HV hv
    clear h8
    go_enter Tryz.func244, Tryz.ntmps244
    go_wp2_with fail
    refine (get_any tag B d _ (hg.keep hB0) (by omega)).mono ?_
    rintro e' w1 ⟨rfl, rfl⟩
    rw [HGV.out]
    have hlw : IntKind.u64.wrap (ts.length : Int) = (ts.length : Int) := by rw [IntKind.wrap_u64]; omega
    by_cases hin : 1 ≤ v ∧ v ≤ ts.length
    · have g1 : ¬ (v : Int) = 0 := by omega
      have g2 : ¬ (ts.length : Int) < (v : Int) := by omega
      have g3 : IntKind.u64.wrap ((v : Int) - 1) = ((v - 1 : Nat) : Int) := by rw [IntKind.wrap_u64]; omega
      have hlt : v - 1 < ts.length := by omega
      obtain ⟨blk, o, rfl, hblk, hcell⟩ := ht.at hlt
      obtain ⟨h0, h1⟩ := hcell _ hlt
      have hx := (HOK.out ts[v - 1] (List.getElem_mem hlt)).keep hB0
      have hlen := lenT.at HL.out (List.getElem_mem hlt)
      have HO : Hid (ofT (conT ts) tag = (ts[v - 1].c, 0)) := by
        unfold Hid
        rw [HV.out, if_pos hin, List.getD_eq_getElem?_getD, List.getElem?_eq_getElem (by rw [conT_length]; exact hlt), conT_get ts _ hlt]
        rfl
      have hc0 : (w.alloc (.cells #[.slice none 0 0, .slice none 0 0] 164)).rangeAt blk (o + (v - 1) * 2) [ts[v - 1].at0, ts[v - 1].at1] := fun j u hu => by
        match j, hu with
        | 0, hu => injection hu with hu; subst hu; exact (hB0.cell (p := ⟨blk, o + (v - 1) * 2, none⟩) hblk).trans h0
        | 1, hu => injection hu with hu; subst hu; exact (hB0.cell (p := ⟨blk, o + (v - 1) * 2 + 1, none⟩) hblk).trans h1
      generalize ts[v - 1] = x at hx hlen HO hc0
      clear h0 h1 hcell HV
      dsimp only
      have HR0 := Lib.hid hR0
      clear hR0
      go_wp2_with (refine wpList_load_mid rfl 164 (.tmp 30) rfl blk (o + (v - 1) * 2) rfl [x.at0, x.at1] _ hc0 Tryz.underlying164 rfl (by exact size_term) ?_)
      refine (copied_any x _ hx.2.2.1 hx.2.2.2 hlen.1 hlen.2).mono ?_
      rintro e' w2 ⟨y, rfl, hy, hyc, hyn, hb2⟩
      have hR2 := HR0.out.later hb2
      have hB2 := below_step hB0 hb2
      clear HR0 hb2
      go_wp2_with (refine wpList_store_row rfl 164 (.tmp 4) (.tmp 32) rfl w.heap.size rfl [y.at0, y.at1] rfl _ _ hR2 (by exact size_term) rfl (one_two _ _ rfl rfl) ?_)
      refine bodyPost_ret (results_row_tmp (p := 4) (u := 5) (ty := 164) (by rfl) _ _ w.heap.size 164 _ _ (by rfl) (by exact hR2.setRow _) Tryz.underlying164 (by rfl) (by exact size_term)) (by rfl) ?_
      exact ⟨y, 0, rfl, hy.setRow_row hR2 (fun u hu z => by simp at hu; subst hu; exact slice_no_byte _ _ _ z) _, by unfold Hid; rw [hyc, HO.out], below_setRow hB2 (Nat.le_refl _) _⟩
    · have HO : Hid ((noTD.c, (7 : Int)) = ofT (conT ts) tag) := by unfold Hid; rw [HV.out, if_neg hin]; rfl
      dsimp only
      by_cases hz : v = 0
      · subst hz
        go_wp2_with (refine wpList_store_row rfl 164 (.tmp 4) (.tmp 26) rfl w.heap.size rfl [.slice none 0 0, .slice none 0 0] rfl _ _ hR0 (by exact size_term) rfl (one_two _ _ rfl rfl) ?_)
        refine bodyPost_ret (results_row_tmp (p := 4) (u := 5) (ty := 164) (by rfl) _ _ w.heap.size 164 _ _ (by rfl) (by exact hR0.setRow _) Tryz.underlying164 (by rfl) (by exact size_term)) (by rfl) ?_
        exact ⟨noTD, 7, rfl, noTD_ok _, HO, below_setRow hB0 (Nat.le_refl _) _⟩
      · have g1 : ¬ (v : Int) = 0 := by omega
        have g2 : (ts.length : Int) < (v : Int) := by omega
        go_wp2_with (refine wpList_store_row rfl 164 (.tmp 4) (.tmp 26) rfl w.heap.size rfl [.slice none 0 0, .slice none 0 0] rfl _ _ hR0 (by exact size_term) rfl (one_two _ _ rfl rfl) ?_)
        refine bodyPost_ret (results_row_tmp (p := 4) (u := 5) (ty := 164) (by rfl) _ _ w.heap.size 164 _ _ (by rfl) (by exact hR0.setRow _) Tryz.underlying164 (by rfl) (by exact size_term)) (by rfl) ?_
        exact ⟨noTD, 7, rfl, noTD_ok _, HO, below_setRow hB0 (Nat.le_refl _) _⟩
  · have HGV : Hid (getR tag = (0, 1)) := by unfold Hid getR; rw [if_neg h8]
    have HO : Hid ((noTD.c, (1 : Int)) = ofT (conT ts) tag) := by unfold Hid; rw [ofT_bad _ _ h8]; rfl
    clear h8
    go_enter Tryz.func244, Tryz.ntmps244
    go_wp2_with fail
    refine (get_any tag B d _ (hg.keep hB0) (by omega)).mono ?_
    rintro e' w1 ⟨rfl, rfl⟩
    rw [HGV.out]
    dsimp only
    go_wp2_with (refine wpList_store_row rfl 164 (.tmp 4) (.tmp 15) rfl w.heap.size rfl [.slice none 0 0, .slice none 0 0] rfl _ _ hR0 (by exact size_term) rfl (one_two _ _ rfl rfl) ?_)
    refine bodyPost_ret (results_row_tmp (p := 4) (u := 5) (ty := 164) (by rfl) _ _ w.heap.size 164 _ _ (by rfl) (by exact hR0.setRow _) Tryz.underlying164 (by rfl) (by exact size_term)) (by rfl) ?_
    exact ⟨noTD, 1, rfl, noTD_ok _, HO, below_setRow hB0 (Nat.le_refl _) _⟩
end Go.Proofs.YtknjpmoimjhddaaGreatDoor
/-
  Layer 4 as plain functions: at how many places two lists of bytes are unlike; a tag's code; a code's digits. No conditions but those typed.
-/
namespace Go.Proofs.YtknjpmoimjhddaaGreatDoor
set_option maxRecDepth 100000
open Go.RowKit

/-- At how many places two lists are unlike. -/
def unlikeL : List UInt8 → List UInt8 → Nat
  | [], b => b.length
  | _ :: a, [] => a.length + 1
  | x :: a, y :: b => (if x = y then 0 else 1) + unlikeL a b
theorem unlike_nil (a : List UInt8) : unlikeL a [] = a.length := by cases a <;> rfl
theorem unlike_zero : ∀ a b : List UInt8, unlikeL a b = 0 ↔ a = b
  | [], [] => by simp [unlikeL]
  | [], y :: b => by simp [unlikeL]
  | x :: a, [] => by simp [unlikeL]
  | x :: a, y :: b => by
    have ih := unlike_zero a b
    rw [unlikeL]
    by_cases h : x = y
    · simp [h, ih]
    · simp [h]
theorem unlike_symm : ∀ a b : List UInt8, unlikeL a b = unlikeL b a
  | [], [] => rfl
  | [], y :: b => by simp [unlikeL]
  | x :: a, [] => by simp [unlikeL]
  | x :: a, y :: b => by
    have ih := unlike_symm a b
    rw [unlikeL, unlikeL, ih]
    by_cases h : x = y
    · simp [h]
    · simp [h, Ne.symm h]
theorem unlike_le : ∀ a b : List UInt8, unlikeL a b ≤ max a.length b.length
  | [], b => by simp [unlikeL]
  | x :: a, [] => by simp [unlikeL]
  | x :: a, y :: b => by
    have ih := unlike_le a b
    rw [unlikeL, List.length_cons, List.length_cons]
    split <;> omega
theorem unlike_tri : ∀ a b c : List UInt8, unlikeL a c ≤ unlikeL a b + unlikeL b c
  | [], b, c => by
    match b, c with
    | [], c => simp [unlikeL]
    | y :: b, [] => simp [unlikeL]
    | y :: b, z :: c =>
      have ih := unlike_tri [] b c
      simp only [unlikeL, List.length_cons] at ih ⊢
      split <;> omega
  | x :: a, [], c => by
    match c with
    | [] => simp [unlikeL]
    | z :: c =>
      have ih := unlike_le a c
      simp only [unlikeL, List.length_cons] at ih ⊢
      split <;> omega
  | x :: a, y :: b, [] => by
    have ih := unlike_tri a b []
    rw [unlike_nil, unlike_nil] at *
    rw [unlikeL, List.length_cons, List.length_cons]
    split <;> omega
  | x :: a, y :: b, z :: c => by
    have ih := unlike_tri a b c
    rw [unlikeL, unlikeL, unlikeL]
    by_cases h1 : x = y <;> by_cases h2 : y = z <;> by_cases h3 : x = z <;> simp_all <;> omega
theorem unlike_self (a : List UInt8) : unlikeL a a = 0 := (unlike_zero a a).2 rfl
theorem unlike_set : ∀ (a : List UInt8) (i : Nat) (h : i < a.length) (z : UInt8), z ≠ a[i] → unlikeL a (a.set i z) = 1
  | x :: a, 0, _, z, hz => by
    rw [List.set_cons_zero, unlikeL, if_neg (fun e => hz (by rw [← e]; rfl)), unlike_self]
  | x :: a, i + 1, h, z, hz => by
    rw [List.set_cons_succ, unlikeL, if_pos rfl, unlike_set a i (by simpa using h) z (by simpa using hz)]
theorem unlike_take : ∀ (a b : List UInt8) (i : Nat), i < a.length ∨ i < b.length → unlikeL (a.take (i + 1)) (b.take (i + 1)) = unlikeL (a.take i) (b.take i) + (if a[i]? = b[i]? then 0 else 1)
  | [], [], i, h => by simp at h
  | [], y :: b, i, h => by
    have hb : i < (y :: b).length := by simpa using h
    rw [List.take_nil, List.take_nil, unlikeL, unlikeL, List.length_take, List.length_take, List.getElem?_nil, List.getElem?_eq_getElem hb, if_neg (by simp)]
    omega
  | x :: a, [], i, h => by
    have ha : i < (x :: a).length := by simpa using h
    rw [List.take_nil, List.take_nil, unlike_nil, unlike_nil, List.length_take, List.length_take, List.getElem?_nil, List.getElem?_eq_getElem ha, if_neg (by simp)]
    omega
  | x :: a, y :: b, 0, h => by
    simp [unlikeL, List.take]
  | x :: a, y :: b, i + 1, h => by
    have ih := unlike_take a b i (by simpa using h)
    rw [List.take_succ_cons, List.take_succ_cons, List.take_succ_cons, List.take_succ_cons, unlikeL, unlikeL, ih, List.getElem?_cons_succ, List.getElem?_cons_succ]
    omega

/-- Where a tag's code lies. -/
def codeAt (tag : List UInt8) : Nat := (tag.getD (tag.length - 1) 0).toNat % 16
def codeN (tag : List UInt8) : Nat := valN ((tag.drop (codeAt tag)).take 4) % 2147483648
theorem codeAt_lt (tag : List UInt8) : codeAt tag < 16 := Nat.mod_lt _ (by omega)
theorem codeN_lt (tag : List UInt8) : codeN tag < 2147483648 := Nat.mod_lt _ (by omega)

/-- A code's last i digits. -/
def digB (code i : Nat) : UInt8 := UInt8.ofNat (48 + code / 10 ^ i % 10)
def digL (code : Nat) : Nat → List UInt8
  | 0 => []
  | i + 1 => digB code i :: digL code i
theorem digL_length (code : Nat) : ∀ n, (digL code n).length = n
  | 0 => rfl
  | n + 1 => by rw [digL, List.length_cons, digL_length code n]
theorem digB_toNat (code i : Nat) : (digB code i).toNat = 48 + code / 10 ^ i % 10 := by
  rw [digB, UInt8.toNat_ofNat']
  have : code / 10 ^ i % 10 < 10 := Nat.mod_lt _ (by omega)
  omega
theorem digL_drop (code : Nat) : ∀ m n, m ≤ n → (digL code n).drop (n - m) = digL code m
  | m, 0, h => by
    have : m = 0 := by omega
    subst this
    rfl
  | m, n + 1, h => by
    by_cases e : m = n + 1
    · subst e
      simp
    · rw [show n + 1 - m = (n - m) + 1 by omega, digL, List.drop_succ_cons]
      exact digL_drop code m n (by omega)
theorem digL_getElem (code n i : Nat) (h : i < n) : (digL code n)[i]'(by rw [digL_length]; exact h) = digB code (n - 1 - i) := by
  have hd := digL_drop code (n - i) n (by omega)
  have h1 : (digL code n)[i]? = (digL code (n - i))[0]? := by
    rw [← hd, List.getElem?_drop]
    congr 1
    omega
  have h2 : (digL code (n - i))[0]? = some (digB code (n - 1 - i)) := by
    rw [show n - i = (n - 1 - i) + 1 by omega, digL]
    rfl
  rw [h2] at h1
  have h3 : i < (digL code n).length := by rw [digL_length]; exact h
  rw [List.getElem?_eq_getElem h3] at h1
  exact Option.some.inj h1
/-- The number of a code's first i digits of n. -/
def headN (code n i : Nat) : Nat := code / 10 ^ (n - i) % 10 ^ i
theorem headN_next (code n i : Nat) (h : i < n) : headN code n (i + 1) = 10 * headN code n i + code / 10 ^ (n - 1 - i) % 10 := by
  unfold headN
  obtain ⟨k, hk⟩ : ∃ k, k = n - 1 - i := ⟨_, rfl⟩
  rw [show n - (i + 1) = k by omega, show n - i = k + 1 by omega, ← hk, Nat.pow_succ 10 k, ← Nat.div_div_eq_div_mul, Nat.pow_succ 10 i, Nat.mul_comm (10 ^ i) 10, Nat.mod_mul]
  omega
theorem headN_lt (code n i : Nat) : headN code n i < 10 ^ i := Nat.mod_lt _ (Nat.pow_pos (by omega))
end Go.Proofs.YtknjpmoimjhddaaGreatDoor
/-
  What the reference's calls Code, Digits and Unlike of layer 4 answer. No conditions but those typed.
-/
namespace Go.Proofs.YtknjpmoimjhddaaGreatDoor
set_option maxRecDepth 100000
open Go.RowKit
set_option linter.unusedSimpArgs false
set_option linter.unusedVariables false

/-- A tag's code, and how it went. -/
def codeR (tag : List UInt8) : Nat × Int := if tag.length < 19 then (0, 2) else (codeN tag, 0)
theorem codeR_short (tag : List UInt8) (h : tag.length < 19) : codeR tag = (0, 2) := by rw [codeR, if_pos h]
theorem codeR_long (tag : List UInt8) (h : ¬ tag.length < 19) : codeR tag = (codeN tag, 0) := by rw [codeR, if_neg h]
/-- A code's digits, and how it went. -/
def digitsR (code : Nat) (n : Int) : List UInt8 × Int := if n < 1 ∨ 9 < n then ([], 1) else (digL code n.toNat, 0)

/-! ### Digits -/
def DigRel (code n : Nat) (w : World) (c s i : Value) (wr : World) : Prop :=
  ∃ k : Nat, k ≤ n ∧ i = .int .i64 (k : Int) ∧ c = .int .u32 ((code / 10 ^ k : Nat) : Int) ∧ s = .string (strL (digL code k)) ∧ Below w.heap.size w wr

/-! ### Unlike -/
def UnRel (a b : List UInt8) (w : World) (n i : Value) (wr : World) : Prop :=
  ∃ k : Nat, (k ≤ a.length ∨ k ≤ b.length) ∧ i = .int .i64 (k : Int) ∧ n = .int .i64 (unlikeL (a.take k) (b.take k) : Int) ∧ Below w.heap.size w wr

end Go.Proofs.YtknjpmoimjhddaaGreatDoor
/-
  What the program's calls of layer 4 answer: Code, Digits, Unlike (and its unlike), Same. No conditions but those typed.
-/
namespace Go.Proofs.YtknjpmoimjhddaaGreatDoor
set_option maxRecDepth 100000
open Go.RowKit
set_option linter.unusedSimpArgs false
set_option linter.unusedVariables false

theorem wordsL_four (M : List UInt8) (h : M.length = 4) : wordsL M = [UInt32.ofNat (valN M)] := by
  match M, h with
  | [a, b, c, d], _ => rfl
theorem words_four (M : List UInt8) (A : Option Addr) (cap : Nat) (w : World) (v : Nat) (HM : Hid (M.length = 4)) (HV : Hid (valN M = v)) (hr : Rd vB w A M) (hc : 4 ≤ cap) :
    Calls Tryz.prog 237 #[.slice A 4 cap] w fun e w' => ∃ b o c, e = .returned (.slice (some ⟨b, o, none⟩) 1 c) ∧ w'.cell? ⟨b, o, none⟩ = some (.int .u32 (v : Int)) ∧ Below w.heap.size w w' := by
  have e := HM.out
  have h := words_any M A cap w hr (by omega) (by omega)
  rw [e] at h
  refine h.mono ?_
  rintro e' w' ⟨A', c, rfl, _, hr', hb⟩
  rw [wordsL_four M e] at hr' ⊢
  obtain ⟨b, o, rfl, _, hcell⟩ := hr'.at (k := 0) (by simp)
  refine ⟨b, o, c, rfl, ?_, hb⟩
  have := hcell 0 (by simp)
  rw [Nat.add_zero] at this
  rw [this]
  have hv := valN_lt M
  rw [e, HV.out] at hv
  simp only [List.getElem_cons_zero, vW, HV.out, UInt32.toNat_ofNat']
  rw [Nat.mod_eq_of_lt (by omega)]

/-! ### Digits -/
def DRel (code n : Nat) (w : World) (c i : Value) (wr : World) : Prop :=
  ∃ (q k : Nat) (j : Int) (X : List Value), q + k = n ∧ j + 1 = (q : Int) ∧ X.length = q ∧ i = .int .i64 j ∧ c = .int .u32 ((code / 10 ^ k : Nat) : Int) ∧ Row wr w.heap.size 5 (X ++ (digL code k).map vB) ∧ Below w.heap.size w wr

theorem make_bytes (n : Nat) (hn : n ≤ 1000000) : ∃ X : List Value, X.length = n ∧ ∀ w, (Instr.makeSlice 27 (.int .i64 (n : Int)) (.int .i64 (n : Int))).run Tryz.prog w = .ok (.slice (some ⟨w.heap.size, 0, none⟩) n n) (w.alloc (.cells X.toArray 5)) := by
  obtain ⟨i0, hi, hz0, hz1, hz2⟩ := info_parts info_u8
  refine ⟨(madeCells (Value.int .u8 0).cells (n * i0.size)).toList, ?_, fun w => ?_⟩
  · rw [hz1, Nat.mul_one, Array.length_toList, size_madeCells]
  · have := run_makeSlice (P := Tryz.prog) (w := w) 27 5 i0 (.int .u8 0) Tryz.underlying27 hi hz0 .i64 .i64 (n : Int) (n : Int) (by omega) (Int.le_refl _) (by rw [hz1]; omega) (by rw [hz2]; omega) (by omega)
    simpa using this

/-! ### Unlike -/
theorem unlike_one (x y : UInt8) (w : World) :
    Calls Tryz.prog 227 #[.int .u8 (x.toNat : Int), .int .u8 (y.toNat : Int)] w fun e w' => e = .returned (.int .i64 ((if x = y then 0 else 1 : Nat) : Int)) ∧ w = w' := by
  have hx := u8_xor_b x y
  have hz : (((xorB x y).toNat : Int) + 255) / 256 = ((if x = y then 0 else 1 : Nat) : Int) := by
    have h8 : (xorB x y).toNat < 256 := (xorB x y).toNat_lt
    by_cases h : x = y
    · subst h
      rw [if_pos rfl]
      have : xorB x x = 0 := UInt8.xor_self
      rw [this]
      rfl
    · rw [if_neg h]
      have : (xorB x y).toNat ≠ 0 := fun e => h (by
        have e0 : x ^^^ y = 0 := UInt8.toNat_inj.1 e
        exact UInt8.xor_eq_zero_iff.1 e0)
      omega
  have h8 : (xorB x y).toNat < 256 := (xorB x y).toNat_lt
  generalize (if x = y then 0 else 1 : Nat) = d at hz ⊢
  generalize xorB x y = t at hx hz h8
  go_enter Tryz.func227, Tryz.ntmps227
  go_wp2_with fail
  go_ret
  exact ⟨rfl, rfl⟩

def URel (a b : List UInt8) (w : World) (n i : Value) (wr : World) : Prop :=
  ∃ k : Nat, k ≤ a.length ∧ i = .int .i64 (k : Int) ∧ n = .int .i64 (((b.length - a.length) + unlikeL (a.take k) (b.take k) : Nat) : Int) ∧ Below w.heap.size w wr
theorem unlike_more : ∀ a b : List UInt8, a.length ≤ b.length → unlikeL a b = (b.length - a.length) + unlikeL a (b.take a.length)
  | [], b, _ => by simp [unlikeL]
  | x :: a, [], h => by simp at h
  | x :: a, y :: b, h => by
    have ih := unlike_more a b (by simpa using h)
    rw [List.length_cons, List.length_cons, List.take_succ_cons, unlikeL, unlikeL, ih]
    omega

set_option maxHeartbeats 1000000 in
theorem unlike_up (a b : List UInt8) (A B : Option Addr) (c d : Nat) (w : World) (ha : Rd vB w A a) (hb : Rd vB w B b) (hle : a.length ≤ b.length) (hbl : b.length ≤ 1000000000) :
    Calls Tryz.prog 223 #[.slice A a.length c, .slice B b.length d] w fun e w' => e = .returned (.int .i64 (unlikeL a b : Int)) ∧ Below w.heap.size w w' := by
  have g0 : ¬ b.length < a.length := by omega
  have s0 : (b.length : Int) - (a.length : Int) = ((b.length - a.length : Nat) : Int) := by omega
  have HM := Lib.hid (unlike_more a b (by omega))
  have s1 : b.length - a.length ≤ 1000000000 := by omega
  go_enter Tryz.func223, Tryz.ntmps223
  go_wp2_with fail
  clear s0
  go_loopw [5, 21] (fun n i wr => URel a b w n i wr) (fun _ i _ => a.length - (intOf i).toNat)
  case atStart => exact ⟨0, Nat.zero_le _, rfl, by simp [unlikeL], Below.refl _ _⟩
  case round =>
    obtain ⟨k, hk, rfl, rfl, hB⟩ := hrel
    have hu := unlike_le (a.take k) (b.take k)
    rw [List.length_take, List.length_take] at hu
    by_cases h1 : k < a.length
    · have h2 : k < b.length := by omega
      have HT := Lib.hid (unlike_take a b k (.inl h1))
      obtain ⟨bl1, o1, rfl, hb1, hcell1⟩ := ha.at h1
      obtain ⟨bl2, o2, rfl, hb2, hcell2⟩ := hb.at h2
      have hc1 : wr.cell? ⟨bl1, o1 + k, none⟩ = some (.int .u8 (a[k].toNat : Int)) := (hB.cell (p := ⟨bl1, o1 + k, none⟩) hb1).trans (hcell1 k h1)
      have hc2 : wr.cell? ⟨bl2, o2 + k, none⟩ = some (.int .u8 (b[k].toNat : Int)) := (hB.cell (p := ⟨bl2, o2 + k, none⟩) hb2).trans (hcell2 k h2)
      have HT' : Hid (unlikeL (a.take (k + 1)) (b.take (k + 1)) = unlikeL (a.take k) (b.take k) + if a[k] = b[k] then 0 else 1) := by
        unfold Hid
        rw [HT.out, List.getElem?_eq_getElem h1, List.getElem?_eq_getElem h2]
        simp
      generalize a[k] = x at hc1 HT'
      generalize b[k] = y at hc2 HT'
      obtain ⟨t, ht⟩ : ∃ t : Nat, t = if x = y then 0 else 1 := ⟨_, rfl⟩
      have ht1 : t ≤ 1 := by rw [ht]; split <;> omega
      have HU : ∀ w, Calls Tryz.prog 227 #[.int .u8 (x.toNat : Int), .int .u8 (y.toNat : Int)] w fun e w' => e = .returned (.int .i64 (t : Int)) ∧ w' = w := fun w => by rw [ht]; exact (unlike_one x y w).mono fun _ _ h => ⟨h.1, h.2.symm⟩
      rw [← ht] at HT'
      have HR : Hid (∀ W, Below wr.heap.size wr W → URel a b w (.int .i64 ((((b.length - a.length) + unlikeL (a.take k) (b.take k) : Nat) : Int) + (t : Int))) (.int .i64 ((k : Int) + 1)) W) := fun W hW => ⟨k + 1, by omega, by go_num, by rw [HT'.out]; congr 1; omega, below_step hB hW⟩
      have i0 : (0 : Int) ≤ (k : Int) := by omega
      have j1 : (k : Int) < (a.length : Int) := by omega
      have j2 : (k : Int) < (b.length : Int) := by omega
      have hs : (b.length - a.length) + unlikeL (a.take k) (b.take k) ≤ 2000000000 := by omega
      generalize (b.length - a.length) + unlikeL (a.take k) (b.take k) = s at HR hs ⊢
      have hw1 : IntKind.i64.wrap ((s : Int) + (t : Int)) = (s : Int) + (t : Int) := by rw [IntKind.wrap_i64]; omega
      clear hcell1 hcell2 HT HT' ha hb hk hB ht hu HM
      go_wp2_with fail
      go_quiet (first | (go_at_call 227; refine Calls.quiet_of_same (HU _)))
      go_wp2_with fail
      go_roundw
      case rel => exact HR.out _ (below_drewN (Below.refl _ _) _)
      case measure => simp [intOf]; omega
    · have e : k = a.length := by omega
      have HE : Hid ((b.length - a.length) + unlikeL (a.take k) (b.take k) = unlikeL a b) := by unfold Hid; rw [HM.out, e, List.take_of_length_le (Nat.le_refl _)]
      have j1 : ¬ (k : Int) < (a.length : Int) := by omega
      rw [HE.out]
      clear HE hu HM hk e
      go_wp2_with fail
      go_ret
      exact ⟨rfl, hB⟩
set_option maxHeartbeats 1000000 in
theorem unlike_down (a b : List UInt8) (A B : Option Addr) (c d : Nat) (w : World) (ha : Rd vB w A a) (hb : Rd vB w B b) (hle : a.length < b.length) (hbl : b.length ≤ 1000000000) :
    Calls Tryz.prog 223 #[.slice B b.length d, .slice A a.length c] w fun e w' => e = .returned (.int .i64 (unlikeL a b : Int)) ∧ Below w.heap.size w w' := by
  have s0 : (b.length : Int) - (a.length : Int) = ((b.length - a.length : Nat) : Int) := by omega
  have HM := Lib.hid (unlike_more a b (by omega))
  have s1 : b.length - a.length ≤ 1000000000 := by omega
  go_enter Tryz.func223, Tryz.ntmps223
  go_wp2_with fail
  clear s0
  go_loopw [5, 21] (fun n i wr => URel a b w n i wr) (fun _ i _ => a.length - (intOf i).toNat)
  case atStart => exact ⟨0, Nat.zero_le _, rfl, by simp [unlikeL], Below.refl _ _⟩
  case round =>
    obtain ⟨k, hk, rfl, rfl, hB⟩ := hrel
    have hu := unlike_le (a.take k) (b.take k)
    rw [List.length_take, List.length_take] at hu
    by_cases h1 : k < a.length
    · have h2 : k < b.length := by omega
      have HT := Lib.hid (unlike_take a b k (.inl h1))
      obtain ⟨bl1, o1, rfl, hb1, hcell1⟩ := ha.at h1
      obtain ⟨bl2, o2, rfl, hb2, hcell2⟩ := hb.at h2
      have hc1 : wr.cell? ⟨bl1, o1 + k, none⟩ = some (.int .u8 (a[k].toNat : Int)) := (hB.cell (p := ⟨bl1, o1 + k, none⟩) hb1).trans (hcell1 k h1)
      have hc2 : wr.cell? ⟨bl2, o2 + k, none⟩ = some (.int .u8 (b[k].toNat : Int)) := (hB.cell (p := ⟨bl2, o2 + k, none⟩) hb2).trans (hcell2 k h2)
      have HT' : Hid (unlikeL (a.take (k + 1)) (b.take (k + 1)) = unlikeL (a.take k) (b.take k) + if a[k] = b[k] then 0 else 1) := by
        unfold Hid
        rw [HT.out, List.getElem?_eq_getElem h1, List.getElem?_eq_getElem h2]
        simp
      generalize a[k] = x at hc1 HT'
      generalize b[k] = y at hc2 HT'
      obtain ⟨t, ht⟩ : ∃ t : Nat, t = if x = y then 0 else 1 := ⟨_, rfl⟩
      have ht1 : t ≤ 1 := by rw [ht]; split <;> omega
      have HU : ∀ w, Calls Tryz.prog 227 #[.int .u8 (x.toNat : Int), .int .u8 (y.toNat : Int)] w fun e w' => e = .returned (.int .i64 (t : Int)) ∧ w' = w := fun w => by rw [ht]; exact (unlike_one x y w).mono fun _ _ h => ⟨h.1, h.2.symm⟩
      rw [← ht] at HT'
      have HR : Hid (∀ W, Below wr.heap.size wr W → URel a b w (.int .i64 ((((b.length - a.length) + unlikeL (a.take k) (b.take k) : Nat) : Int) + (t : Int))) (.int .i64 ((k : Int) + 1)) W) := fun W hW => ⟨k + 1, by omega, by go_num, by rw [HT'.out]; congr 1; omega, below_step hB hW⟩
      have i0 : (0 : Int) ≤ (k : Int) := by omega
      have j1 : (k : Int) < (a.length : Int) := by omega
      have j2 : (k : Int) < (b.length : Int) := by omega
      have hs : (b.length - a.length) + unlikeL (a.take k) (b.take k) ≤ 2000000000 := by omega
      generalize (b.length - a.length) + unlikeL (a.take k) (b.take k) = s at HR hs ⊢
      have hw1 : IntKind.i64.wrap ((s : Int) + (t : Int)) = (s : Int) + (t : Int) := by rw [IntKind.wrap_i64]; omega
      clear hcell1 hcell2 HT HT' ha hb hk hB ht hu HM
      go_wp2_with fail
      go_quiet (first | (go_at_call 227; refine Calls.quiet_of_same (HU _)))
      go_wp2_with fail
      go_roundw
      case rel => exact HR.out _ (below_drewN (Below.refl _ _) _)
      case measure => simp [intOf]; omega
    · have e : k = a.length := by omega
      have HE : Hid ((b.length - a.length) + unlikeL (a.take k) (b.take k) = unlikeL a b) := by unfold Hid; rw [HM.out, e, List.take_of_length_le (Nat.le_refl _)]
      have j1 : ¬ (k : Int) < (a.length : Int) := by omega
      rw [HE.out]
      clear HE hu HM hk e
      go_wp2_with fail
      go_ret
      exact ⟨rfl, hB⟩
theorem unlike_any (n m : Nat) (a b : List UInt8) (A B : Option Addr) (c d : Nat) (w : World) (HN : Hid (a.length = n)) (HM : Hid (b.length = m)) (ha : Rd vB w A a) (hb : Rd vB w B b) (hal : n ≤ 1000000000) (hbl : m ≤ 1000000000) :
    Calls Tryz.prog 223 #[.slice A n c, .slice B m d] w fun e w' => e = .returned (.int .i64 (unlikeL a b : Int)) ∧ Below w.heap.size w w' := by
  have e1 := HN.out
  have e2 := HM.out
  subst e1 e2
  by_cases h : a.length ≤ b.length
  · exact unlike_up a b A B c d w ha hb h hbl
  · rw [unlike_symm]
    exact unlike_down b a B A d c w hb ha (by omega) hal
/-- Are two lists the same? -/
def sameB (a b : List UInt8) : Bool := decide (unlikeL a b = 0)
theorem sameB_iff (a b : List UInt8) : sameB a b = true ↔ a = b := by rw [sameB, decide_eq_true_eq, unlike_zero]
theorem same_any (n m : Nat) (a b : List UInt8) (A B : Option Addr) (c d : Nat) (w : World) (HN : Hid (a.length = n)) (HM : Hid (b.length = m)) (ha : Rd vB w A a) (hb : Rd vB w B b) (hal : n ≤ 1000000000) (hbl : m ≤ 1000000000) :
    Calls Tryz.prog 221 #[.slice A n c, .slice B m d] w fun e w' => e = .returned (.bool (sameB a b)) ∧ Below w.heap.size w w' := by
  have HS : Hid (sameB a b = decide (unlikeL a b = 0)) := rfl
  go_enter Tryz.func221, Tryz.ntmps221
  go_wp2_with fail
  refine (unlike_any n m a b A B c d _ HN HM ha hb hal hbl).mono ?_
  rintro e w' ⟨rfl, hb⟩
  have h0 : ((unlikeL a b : Int) == 0) = sameB a b := by
    rw [HS.out]
    by_cases h : unlikeL a b = 0
    · simp [h]
    · simp [h]
  clear HS
  go_wp2_with fail
  go_ret
  exact ⟨rfl, hb⟩
end Go.Proofs.YtknjpmoimjhddaaGreatDoor
/-
  What the program's calls turned, Block and Mac of layer 3 answer. Condition: the package's table holds the sixty-four constants.
-/
namespace Go.Proofs.YtknjpmoimjhddaaGreatDoor
set_option maxRecDepth 100000
open Go.RowKit
set_option linter.unusedSimpArgs false
set_option linter.unusedVariables false

/-- A call that hands back n bytes. -/
def RetL (n : Nat) (w : World) (l : List UInt8) (e : Ending) (w' : World) : Prop := ∃ A cap, e = .returned (.slice A n cap) ∧ n ≤ cap ∧ Rd vB w' A l ∧ Below w.heap.size w w'
theorem RetL.of {n : Nat} {w w' : World} {l : List UInt8} {e : Ending} (hl : l.length = n) (h : RetS vB w l e w') : RetL n w l e w' := by
  obtain ⟨A, c, he, hc, hr, hb⟩ := h
  rw [hl] at he hc
  exact ⟨A, c, he, hc, hr, hb⟩

theorem sum_at [Inhabited Tab] (n : Nat) (b : List UInt8) (A : Option Addr) (c : Nat) (w : World) (HN : Hid (b.length = n)) (hr : Rd vB w A b) (hc : n ≤ c) (hn : n ≤ 9223372036854775807) (HK : Hid (KTab w)) :
    Calls Tryz.prog 225 #[.slice A n c] w (RetL 32 w (sumL b)) := by
  have e := HN.out
  subst e
  exact (sum_any b A c w hr hc hn HK).mono fun _ _ h => RetL.of (sumL_length b) h

/-! ### turned -/
def TurnRel (x : UInt8) (b : List UInt8) (w : World) (i : Value) (wr : World) : Prop :=
  ∃ k : Nat, k ≤ 64 ∧ i = .int .i64 (k : Int) ∧ Row wr w.heap.size 5 ((turnL x (b.take k) ++ List.replicate (64 - k) 0).map vB) ∧ Below w.heap.size w wr
theorem turn_set (x : UInt8) (b : List UInt8) (k : Nat) (h : b.length = 64) (hk : k < 64) :
    ((turnL x (b.take k) ++ List.replicate (64 - k) 0).map vB).set k (vB (xorB (b[k]'(by omega)) x)) = (turnL x (b.take (k + 1)) ++ List.replicate (64 - (k + 1)) 0).map vB := by
  have hl : (turnL x (b.take k)).length = k := by rw [turnL_length, List.length_take]; omega
  rw [← List.map_set, List.set_append_right _ _ (by omega), hl, Nat.sub_self, show 64 - k = (64 - (k + 1)) + 1 by omega, List.replicate_succ, List.set_cons_zero, turnL_take x b k (by omega), List.append_assoc]
  rfl

set_option maxHeartbeats 1000000 in
theorem turned_any8 (x : UInt8) (b : List UInt8) (A : Option Addr) (c : Nat) (w : World) (H : Hid (b.length = 64)) (hr : Rd vB w A b) :
    Calls Tryz.prog 226 #[.slice A 64 c, .int .u8 (x.toNat : Int)] w (RetL 64 w (turnL x b)) := by
  have hmk : ∀ w, (Instr.makeSlice 27 (.int .i64 64) (.int .i64 64)).run Tryz.prog w = .ok (.slice (some ⟨w.heap.size, 0, none⟩) 64 64) (w.alloc (.cells (List.replicate 64 (.int .u8 0)).toArray 5)) := fun _ => by kernel_rfl
  go_enter Tryz.func226, Tryz.ntmps226
  go_wp2_with fail
  have hR0 : Row (w.alloc (.cells (List.replicate 64 (.int .u8 0)).toArray 5)) w.heap.size 5 (List.replicate 64 (.int .u8 0)) := Row.new w _ _ _ rfl
  have hB0 : Below w.heap.size w (w.alloc (.cells (List.replicate 64 (.int .u8 0)).toArray 5)) := below_new (Below.refl _ _) _
  clear hmk
  go_loopw [13] (fun i wr => TurnRel x b w i wr) (fun i _ => 64 - (intOf i).toNat)
  case atStart => exact ⟨0, by omega, rfl, by simpa [turnL, vB] using hR0, hB0⟩
  case round =>
    clear hR0 hB0
    obtain ⟨k, hk, rfl, hR, hB⟩ := hrel
    by_cases hlt : k < 64
    · have hkb : k < b.length := by have := H.out; omega
      obtain ⟨blk, o, rfl, hb, hcell⟩ := hr.at hkb
      have hc0 : wr.cell? ⟨blk, o + k, none⟩ = some (.int .u8 (b[k].toNat : Int)) := (hB.cell (p := ⟨blk, o + k, none⟩) hb).trans (hcell k hkb)
      have HS := Lib.hid (turn_set x b k H.out hlt)
      have hxor := u8_xor_b b[k] x
      generalize b[k] = y at hc0 HS hxor
      have hkl : k < ((turnL x (b.take k) ++ List.replicate (64 - k) 0).map vB).length := by rw [List.length_map, List.length_append, turnL_length, List.length_take, List.length_replicate]; omega
      obtain ⟨vk, hcn⟩ : ∃ v, wr.cell? ⟨w.heap.size, k, none⟩ = some v := ⟨_, hR.cell (List.getElem?_eq_getElem hkl)⟩
      have hfz : wr.frozen? ⟨w.heap.size, k, none⟩ = false := hR.frozen _
      have i1 : (0 : Int) ≤ (k : Int) := by omega
      have i2 : (k : Int) < 64 := by omega
      have HRel : Hid (TurnRel x b w (.int .i64 ((k : Int) + 1)) (wr.setCell ⟨w.heap.size, k, none⟩ (.int .u8 ((xorB y x).toNat : Int)))) :=
        ⟨k + 1, by omega, by go_num, by have := hR.setCell k (vB (xorB y x)); rw [HS.out] at this; exact this, hB.setCell (by simp) _⟩
      clear hcell hR hB HS hkl hr hkb
      go_wp2_with fail
      go_roundw
      case rel => exact HRel.out
      case measure => simp [intOf]; omega
    · have hk64 : k = 64 := by omega
      subst hk64
      have HT : Hid ((turnL x (b.take 64) ++ List.replicate (64 - 64) 0) = turnL x b) := by
        unfold Hid
        rw [List.take_of_length_le (by have := H.out; omega)]
        simp
      rw [HT.out] at hR
      go_wp2_with fail
      go_ret
      exact ⟨some ⟨w.heap.size, 0, none⟩, 64, rfl, Nat.le_refl _, hR.rd, hB⟩

/-! ### Block -/
theorem fill_row (k : List UInt8) : (k.map vB ++ (List.replicate 64 (Value.int .u8 0)).drop k.length).toArray = ((fillK k).map vB).toArray := by
  rw [List.drop_replicate, fillK, List.map_append, List.map_replicate]
  rfl

set_option maxHeartbeats 1000000 in
theorem hblock_any [Inhabited Tab] (n : Nat) (key : List UInt8) (A : Option Addr) (c : Nat) (w : World) (HN : Hid (key.length = n)) (hr : Rd vB w A key) (hc : n ≤ c) (hl : n ≤ 9223372036854775807) (HK : Hid (KTab w)) :
    Calls Tryz.prog 224 #[.slice A n c] w (RetL 64 w (hblk key)) := by
  have hmk : ∀ w, (Instr.makeSlice 27 (.int .i64 64) (.int .i64 64)).run Tryz.prog w = .ok (.slice (some ⟨w.heap.size, 0, none⟩) 64 64) (w.alloc (.cells (List.replicate 64 (.int .u8 0)).toArray 5)) := fun _ => by kernel_rfl
  by_cases h64 : 64 < n
  · have hgt : (64 : Int) < (n : Int) := by omega
    have HE : Hid (hblk key = fillK (sumL key)) := hblk_long key (by rw [HN.out]; exact h64)
    have H32 : Hid ((sumL key).length = 32) := sumL_length key
    go_enter Tryz.func224, Tryz.ntmps224
    go_wp2_with fail
    refine (sum_at n key _ _ _ HN hr hc hl HK).mono ?_
    rintro e w1 ⟨A1, c1, rfl, hc1, hr1, hb1⟩
    generalize sumL key = K at hr1 HE H32
    have hB := below_new hb1 (.cells (List.replicate 64 (.int .u8 0)).toArray 5)
    go_wp2_with (refine wpList_copy_row rfl (.tmp 10) (.tmp 11) 27 27 rfl 5 Tryz.underlying27 (by kernel_rfl) w1.heap.size 0 64 64 A1 K c1 rfl (by rw [H32.out]; rfl) (List.replicate 64 (.int .u8 0)) 5 (by exact Row.new_at _ _ (by simp) _ _ _ rfl) (by exact hr1.keep (below_new (Below.refl _ _) _)) vB_one (by rw [H32.out]; omega) (by rw [H32.out]; simp) ?_)
    go_ret
    have hR : Row (w1.alloc (.cells (List.replicate 64 (.int .u8 0)).toArray 5)) w1.heap.size 5 (List.replicate 64 (.int .u8 0)) := Row.new w1 _ _ _ rfl
    rw [HE.out]
    exact ⟨some ⟨w1.heap.size, 0, none⟩, 64, rfl, Nat.le_refl _, (Row.setRow_at hR _ _ (fill_row K)).rd, below_setRow hB hb1.size _⟩
  · have hgt : ¬ (64 : Int) < (n : Int) := by omega
    have HE : Hid (hblk key = fillK key) := hblk_short key (by rw [HN.out]; omega)
    have hB := below_new (Below.refl _ w) (.cells (List.replicate 64 (.int .u8 0)).toArray 5)
    go_enter Tryz.func224, Tryz.ntmps224
    go_wp2_with (refine wpList_copy_row rfl (.tmp 10) (.tmp 11) 27 27 rfl 5 Tryz.underlying27 (by kernel_rfl) w.heap.size 0 64 64 A key c rfl (by rw [HN.out]; rfl) (List.replicate 64 (.int .u8 0)) 5 (by exact Row.new_at _ _ (by simp) _ _ _ rfl) (by exact hr.keep (below_new (Below.refl _ _) _)) vB_one (by rw [HN.out]; omega) (by rw [HN.out]; simp; omega) ?_)
    go_ret
    have hR : Row (w.alloc (.cells (List.replicate 64 (.int .u8 0)).toArray 5)) w.heap.size 5 (List.replicate 64 (.int .u8 0)) := Row.new w _ _ _ rfl
    rw [HE.out]
    exact ⟨some ⟨w.heap.size, 0, none⟩, 64, rfl, Nat.le_refl _, (Row.setRow_at hR _ _ (fill_row key)).rd, below_setRow hB (Nat.le_refl _) _⟩

/-! ### Mac -/
set_option maxHeartbeats 1000000 in
theorem mac_any [Inhabited Tab] (n m : Nat) (key msg : List UInt8) (A B : Option Addr) (c d : Nat) (w : World) (HN : Hid (key.length = n)) (HM : Hid (msg.length = m)) (hr : Rd vB w A key) (hm : Rd vB w B msg) (hc : n ≤ c) (hl : n ≤ 35184372088832) (hml : m ≤ 35184372088832) (HK : Hid (KTab w)) :
    Calls Tryz.prog 222 #[.slice A n c, .slice B m d] w (RetL 32 w (macL key msg)) := by
  obtain ⟨I, hI⟩ : ∃ I, I = turnL 54 (hblk key) ++ msg := ⟨_, rfl⟩
  obtain ⟨O, hO⟩ : ∃ O, O = turnL 92 (hblk key) ++ sumL I := ⟨_, rfl⟩
  have HE : Hid (macL key msg = sumL O) := by unfold Hid macL; rw [hO, hI]
  have HIl : Hid (I.length = 64 + m) := by unfold Hid; rw [hI, List.length_append, turnL_length, hblk_length, HM.out]
  have HOl : Hid (O.length = 96) := by unfold Hid; rw [hO, List.length_append, turnL_length, hblk_length, sumL_length]
  have HI := Lib.hid hI
  have HO := Lib.hid hO
  have HB64 : Hid ((hblk key).length = 64) := hblk_length key
  have HT1 : Hid ((turnL 54 (hblk key)).length = 64) := by unfold Hid; rw [turnL_length]; exact hblk_length key
  have HT2 : Hid ((turnL 92 (hblk key)).length = 64) := by unfold Hid; rw [turnL_length]; exact hblk_length key
  have HS32 : Hid ((sumL I).length = 32) := sumL_length I
  clear hI hO
  go_enter Tryz.func222, Tryz.ntmps222
  go_wp2_with fail
  refine (hblock_any n key _ _ _ HN hr hc (by omega) HK).mono ?_
  rintro e w1 ⟨A1, c1, rfl, hc1, hr1, hB⟩
  generalize hblk key = Bk at hr1 HB64 HI HO HT1 HT2
  go_wp2_with fail
  refine (turned_any8 54 Bk _ _ _ HB64 hr1).mono ?_
  rintro e w2 ⟨A2, c2, rfl, hc2, hr2, hb2⟩
  generalize turnL 54 Bk = T1 at hr2 HI HT1
  replace hr1 := hr1.keep hb2
  replace hB := below_step hB hb2
  clear hb2
  go_wp2_with fail
  have hP : Rd vPart (w2.alloc (.cells #[.slice A2 64 c2, .slice B m d] 27)) (some ⟨w2.heap.size, 0, none⟩) [⟨A2, c2, T1⟩, ⟨B, d, msg⟩] := Rd.new_at w2 _ rfl _ _ _ (by simp [vPart, HT1.out, HM.out])
  have hb3 := below_new (Below.refl _ w2) (.cells #[.slice A2 64 c2, .slice B m d] 27)
  refine (concat_two T1 msg I A2 B c2 d _ _ _ HI hP (hr2.keep hb3) (hm.keep (below_step hB hb3)) (by rw [HIl.out]; omega)).mono ?_
  rintro e w3 ⟨A3, c3, rfl, hc3, hr3, hN3, hb4⟩
  rw [HIl.out] at hc3 ⊢
  replace hr1 := hr1.keep (below_step hb3 hb4)
  replace hB := below_step (below_step hB hb3) hb4
  clear hP hb3 hb4 hN3 hr2 hc2
  go_wp2_with fail
  refine (sum_at (64 + m) I _ _ _ HIl hr3 hc3 (by omega) (Lib.hid (HK.out.keep hB))).mono ?_
  rintro e w4 ⟨A4, c4, rfl, hc4, hr4, hb5⟩
  generalize sumL I = Sm at hr4 HO HS32
  replace hr1 := hr1.keep hb5
  replace hB := below_step hB hb5
  clear hb5 hr3
  go_wp2_with fail
  refine (turned_any8 92 Bk _ _ _ HB64 hr1).mono ?_
  rintro e w5 ⟨A5, c5, rfl, hc5, hr5, hb6⟩
  generalize turnL 92 Bk = T2 at hr5 HO HT2
  replace hr4 := hr4.keep hb6
  replace hB := below_step hB hb6
  clear hb6 hr1
  go_wp2_with fail
  have hP : Rd vPart (w5.alloc (.cells #[.slice A5 64 c5, .slice A4 32 c4] 27)) (some ⟨w5.heap.size, 0, none⟩) [⟨A5, c5, T2⟩, ⟨A4, c4, Sm⟩] := Rd.new_at w5 _ rfl _ _ _ (by simp [vPart, HT2.out, HS32.out])
  have hb7 := below_new (Below.refl _ w5) (.cells #[.slice A5 64 c5, .slice A4 32 c4] 27)
  refine (concat_two T2 Sm O A5 A4 c5 c4 _ _ _ HO hP (hr5.keep hb7) (hr4.keep hb7) (by rw [HOl.out]; omega)).mono ?_
  rintro e w6 ⟨A6, c6, rfl, hc6, hr6, hN6, hb8⟩
  rw [HOl.out] at hc6 ⊢
  replace hB := below_step (below_step hB hb7) hb8
  clear hP hb7 hb8 hN6 hr5 hr4
  go_wp2_with fail
  refine (sum_at 96 O _ _ _ HOl hr6 hc6 (by omega) (Lib.hid (HK.out.keep hB))).mono ?_
  rintro e w7 ⟨A7, c7, rfl, hc7, hr7, hb9⟩
  go_wp2_with fail
  go_ret
  rw [HE.out]
  exact ⟨A7, c7, rfl, hc7, hr7, below_step hB hb9⟩

end Go.Proofs.YtknjpmoimjhddaaGreatDoor
/-
  What the methods of the program's makers of tags answer, and which maker stands behind an engine (layer 6). Condition: the package's table holds sixty-four words (for a Concrete engine's tags).
-/
namespace Go.Proofs.YtknjpmoimjhddaaGreatDoor
set_option maxRecDepth 100000
open Go.RowKit
set_option linter.unusedSimpArgs false
set_option linter.unusedVariables false

theorem box_rows (w : World) (t : TypeId) (a b : Value) : Row (w.alloc (.cells #[a, b] t)) w.heap.size t [a, b] ∧ Below w.heap.size w (w.alloc (.cells #[a, b] t)) := ⟨Row.new w _ _ _ rfl, below_new (Below.refl _ _) _⟩
theorem size_engine : (Tryz.prog.info? 48).map (·.size) = some 2 := by kernel_rfl
theorem size_concrete : (Tryz.prog.info? 185).map (·.size) = some 2 := by kernel_rfl
theorem one_pair (a b : Value) (ha : a.oneCell' = true) (hb : b.oneCell' = true) : ∀ v ∈ [a, b], v.oneCell' = true := fun v hv => by
  simp at hv
  rcases hv with rfl | rfl
  · exact ha
  · exact hb
/-- An engine as a value. -/
def vE (K : Int) (A : Option Addr) (p c : Nat) : Value := .agg #[.int .i64 K, .slice A p c]

theorem cright_any (K : Int) (p : Nat) (A : Option Addr) (c : Nat) (w : World) (hp : p ≤ 1000000000) :
    Calls Tryz.prog 219 #[.agg #[.int .i64 K, .slice A p c]] w fun e w' => e = .returned (.bool (decide (p = 0))) ∧ Below w.heap.size w w' := by
  obtain ⟨hR, hB⟩ := box_rows w 185 (.int .i64 K) (.slice A p c)
  have c1 : (w.alloc (.cells #[.int .i64 K, .slice A p c] 185)).cell? ⟨w.heap.size, 1, none⟩ = some (.slice A p c) := hR.cell rfl
  have j0 : ((p : Int) == 0) = decide (p = 0) := by
    by_cases h : p = 0
    · subst h; rfl
    · rw [decide_eq_false h]; simp; omega
  clear hR
  go_enter Tryz.func219, Tryz.ntmps219
  go_wp2_with fail
  go_ret
  exact ⟨rfl, hB⟩
theorem sright_any (ts : List TD) (K : Int) (p : Nat) (A : Option Addr) (c : Nat) (w : World) (HP : Hid (ts.length = p)) (HL : Hid (lenT (conT ts))) (ht : RdT w A ts) (hok : okT w ts) (hp : p ≤ 1000000000) (hc : p ≤ c) :
    Calls Tryz.prog 242 #[.agg #[.int .i64 K, .slice A p c]] w fun e w' => e = .returned (.bool (rightT (conT ts))) ∧ Below w.heap.size w w' := by
  obtain ⟨hR, hB⟩ := box_rows w 186 (.int .i64 K) (.slice A p c)
  have c1 : (w.alloc (.cells #[.int .i64 K, .slice A p c] 186)).cell? ⟨w.heap.size, 1, none⟩ = some (.slice A p c) := hR.cell rfl
  clear hR
  go_enter Tryz.func242, Tryz.ntmps242
  go_wp2_with fail
  refine (right_anyT ts p A c _ HP HL (ht.keep hB) (hok.keep hB) hp hc).mono ?_
  rintro e w' ⟨rfl, hb⟩
  go_wp2_with fail
  go_ret
  exact ⟨rfl, below_step hB hb⟩

theorem clone_at [Inhabited Tab] (n : Nat) (b : List UInt8) (A : Option Addr) (c : Nat) (w : World) (HN : Hid (b.length = n)) (hr : Rd vB w A b) (hl : n ≤ 70368744177664) :
    Calls Tryz.prog 54 #[.slice A n c] w fun e w' => ∃ A' c', e = .returned (.slice A' n c') ∧ n ≤ c' ∧ Rd vB w' A' b ∧ (∀ a, A' = some a → w.heap.size ≤ a.block) ∧ Below w.heap.size w w' := by
  have e := HN.out
  subst e
  exact (clone_b b A c w hr hl).mono fun _ _ h => h

set_option maxHeartbeats 1000000 in
theorem ctag_any [Inhabited Tab] (Kn : Int) (key msg : List UInt8) (p n m : Nat) (A B C : Option Addr) (c d e : Nat) (w : World) (HN : Hid (key.length = n)) (HM : Hid (msg.length = m)) (hk : Rd vB w B key) (hm : Rd vB w C msg) (hn : n ≤ 1000000) (hmm : m ≤ 1000000) (hnd : n ≤ d) (HK : Hid (KTab w)) :
    Calls Tryz.prog 220 #[.agg #[.int .i64 Kn, .slice A p c], .slice B n d, .slice C m e] w fun e w' => ∃ tA tc, e = .returned (.tuple #[.agg #[.int .i64 Kn, .slice none 0 0], .slice tA 8 tc]) ∧ 8 ≤ tc ∧ Rd vB w' tA ((macL key msg).take 8) ∧ Below w.heap.size w w' := by
  obtain ⟨hR0, hB0⟩ := box_rows w 185 (.int .i64 Kn) (.slice A p c)
  have hR1 := hR0.alloc (.cells #[.int .i64 0, .slice none 0 0] 48)
  have hB1 := below_new hB0 (.cells #[.int .i64 0, .slice none 0 0] 48)
  have hR2 : Row ((w.alloc (.cells #[.int .i64 Kn, .slice A p c] 185)).alloc (.cells #[.int .i64 0, .slice none 0 0] 48)) (w.heap.size + 1) 48 [.int .i64 0, .slice none 0 0] := Row.new_at _ _ (by simp) _ _ _ rfl
  go_enter Tryz.func220, Tryz.ntmps220
  go_upto_region 1 with fail
  generalize (w.alloc (.cells #[.int .i64 Kn, .slice A p c] 185)).alloc (.cells #[.int .i64 0, .slice none 0 0] 48) = W2 at hR1 hB1 hR2 ⊢
  have hc0 : ∀ W, Below (w.heap.size + 1) W2 W → W.cell? ⟨w.heap.size, 0, none⟩ = some (.int .i64 Kn) := fun W hW => (hR1.keep hW (by omega)).cell rfl
  have hlt := hR2.lt
  have hBase : Below (w.heap.size + 1) W2 W2.drew := (Below.refl _ _).drew
  have hk2 : Rd vB W2.drew B key := hk.keep hB1.drew
  have hm2 : Rd vB W2.drew C msg := hm.keep hB1.drew
  have HK2 : Hid (KTab W2.drew) := HK.out.keep hB1.drew
  clear hR0 hB0
  refine wp_region_plan_at (w.heap.size + 1) (.step 0 false (.step 1 false (.step 2 false (.step 3 false (.step 4 false (.step 5 false (.step 6 true (.step 7 false (.step 8 true (.step 9 true (.step 10 false .nil))))))))))) (by kernel_rfl) (by kernel_rfl) (by rfl) (by kernel_rfl) ?_
  iterate 6 (refine plan_read rfl (by rfl) (v := ?_) ?_ ?_; rotate_left 1; (intro W hW; have hW0 := Below.trans hBase hW; (try dsimp only at hW); go_simp <;> with_reducible rfl); simp only [List.getElem_toArray, List.getElem_cons_zero, List.getElem_cons_succ, Act.put, List.setIfInBounds_toArray, List.set_cons_zero, List.set_cons_succ])
  (refine plan_make_at rfl (by rfl) (fun K hK => ?_); go_simp; refine (mac_any n m key msg _ _ _ _ _ HN HM hk2 hm2 hnd (by omega) (by omega) HK2).mono ?_; rintro e w3 ⟨A3, c3, rfl, hc3, hr3, hb3⟩; have hz3 : W2.heap.size ≤ w3.heap.size := hb3.size; refine hK.out _ _ (hb3.mono (Nat.le_of_lt hlt)) ?_; clear hK K; replace hBase := hBase.trans (hb3.mono (Nat.le_of_lt hlt)))
  have hB3 := below_step hB1.drew hb3
  have hR3 := hR2.drew.later hb3
  have hcut : ∀ W, (Instr.slice 27 (.slice A3 32 c3) none (some (.int .i64 8)) none).run Tryz.prog W = .ok (.slice A3 8 c3) W := fun W => run_cut_to 27 5 Tryz.underlying27 size_uint8 A3 32 c3 8 (by omega) W
  iterate 1 (refine plan_read rfl (by rfl) (v := ?_) ?_ ?_; rotate_left 1; (intro W hW; have hW0 := Below.trans hBase hW; (try dsimp only at hW); go_simp <;> with_reducible rfl); simp only [List.getElem_toArray, List.getElem_cons_zero, List.getElem_cons_succ, Act.put, List.setIfInBounds_toArray, List.set_cons_zero, List.set_cons_succ])
  have H8 : Hid (((macL key msg).take 8).length = 8) := by unfold Hid; rw [List.length_take, macL_length]; rfl
  have hr8 := hr3.take 8
  obtain ⟨T, hT⟩ : ∃ T, T = (macL key msg).take 8 := ⟨_, rfl⟩
  rw [← hT] at H8 hr8
  have HT := Lib.hid hT
  clear hT
  (refine plan_make_at rfl (by rfl) (fun K hK => ?_); go_simp; refine (clone_at 8 T A3 c3 _ H8 hr8 (by omega)).mono ?_; rintro e w4 ⟨A4, c4, rfl, hc4, hr4, hN4, hb4⟩; have hz4 : w3.heap.size ≤ w4.heap.size := hb4.size; refine hK.out _ _ (hb4.mono (by omega)) ?_; clear hK K; replace hBase := hBase.trans (hb4.mono (by omega)))
  have hB4 := below_step hB3 hb4
  have hR4 := hR3.later hb4
  (refine plan_make_at rfl (by rfl) (fun K hK => ?_); refine Row.wp_store 48 (.tmp 6) (.tmp 11) rfl rfl [.int .i64 Kn, .slice none 0 0] rfl hR4 (by exact size_engine) rfl (one_pair _ _ rfl rfl) ?_; refine hK.out _ _ (below_setRow (Below.refl _ _) (Nat.le_refl _) _) ?_; clear hK K)
  iterate 1 (refine plan_read rfl (by rfl) (v := ?_) ?_ ?_; rotate_left 1; (intro W hW; go_simp <;> with_reducible rfl); simp only [List.getElem_toArray, List.getElem_cons_zero, List.getElem_cons_succ, Act.put, List.setIfInBounds_toArray, List.set_cons_zero, List.set_cons_succ])
  refine plan_done ?_
  have hd : W2.drew.heap.size = W2.heap.size := rfl
  have hr5 := hr4.setRow (g := w.heap.size + 1) [.int .i64 Kn, .slice none 0 0].toArray (fun a ha e => by have := hN4 a ha; omega)
  have hR5 := hR4.setRow [.int .i64 Kn, .slice none 0 0]
  have hB5 := below_setRow hB4 (Nat.le_succ w.heap.size) [.int .i64 Kn, .slice none 0 0].toArray
  generalize w4.setRow (w.heap.size + 1) [.int .i64 Kn, .slice none 0 0].toArray = w5 at hr5 hR5 hB5 ⊢
  go_wp2_with fail
  refine bodyPost_ret (results_row_tmp (p := 6) (u := 7) (ty := 48) (by rfl) _ _ (w.heap.size + 1) 48 _ _ (by rfl) (by exact hR5) Tryz.underlying48 (by rfl) (by exact size_engine)) (by rfl) ?_
  exact ⟨A4, c4, rfl, hc4, by rw [← HT.out]; exact hr5, hB5⟩

set_option maxHeartbeats 1000000 in
theorem stag_any (ts : List TD) (key msg : List UInt8) (p n m : Nat) (A B C : Option Addr) (c d e : Nat) (w : World) (HP : Hid (ts.length = p)) (HN : Hid (key.length = n)) (HM : Hid (msg.length = m)) (HL : Hid (lenT (conT ts))) (ht : RdT w A ts) (hok : okT w ts) (hk : Rd vB w B key) (hm : Rd vB w C msg) (hp : p ≤ 1000000) (hc : p ≤ c) (hn : n ≤ 1000000) (hmm : m ≤ 1000000) :
    Calls Tryz.prog 243 #[.agg #[.int .i64 2, .slice A p c], .slice B n d, .slice C m e] w fun e w' =>
      ∃ (us : List TD) (p : Nat) (A : Option Addr) (c : Nat) (tA : Option Addr) (tc : Nat), e = .returned (.tuple #[.agg #[.int .i64 2, .slice A p c], .slice tA 8 tc]) ∧ Hid (us.length = p) ∧ p ≤ c ∧ 8 ≤ tc ∧ RdT w' A us ∧ okT w' us ∧ Hid (conT us = putT (conT ts) (key, msg)) ∧ Rd vB w' tA (tagT (conT ts) (key, msg)) ∧ Below w.heap.size w w' := by
  obtain ⟨hR0, hB0⟩ := box_rows w 186 (.int .i64 2) (.slice A p c)
  have hR1 := hR0.alloc (.cells #[.int .i64 0, .slice none 0 0] 48)
  have hB1 := below_new hB0 (.cells #[.int .i64 0, .slice none 0 0] 48)
  have hR2 : Row ((w.alloc (.cells #[.int .i64 2, .slice A p c] 186)).alloc (.cells #[.int .i64 0, .slice none 0 0] 48)) (w.heap.size + 1) 48 [.int .i64 0, .slice none 0 0] := Row.new_at _ _ (by simp) _ _ _ rfl
  go_enter Tryz.func243, Tryz.ntmps243
  go_upto_region 1 with fail
  generalize (w.alloc (.cells #[.int .i64 2, .slice A p c] 186)).alloc (.cells #[.int .i64 0, .slice none 0 0] 48) = W2 at hR1 hB1 hR2 ⊢
  have c1 : W2.cell? ⟨w.heap.size, 1, none⟩ = some (.slice A p c) := hR1.cell rfl
  go_wp2_with fail
  refine (put_anyT ts key msg p n m A B C c d e _ HP HN HM HL (ht.keep hB1) (hok.keep hB1) (hk.keep hB1) (hm.keep hB1) (by omega) hc (by omega) (by omega)).mono ?_
  rintro e' w3 ⟨us, q, A1, q1, tA, tc, rfl, HQ, hqc, htc, htu, hoku, HC, hr1, hb1⟩
  replace hR1 := hR1.later hb1
  replace hR2 := hR2.later hb1
  have HB := Lib.hid (below_step hB1 hb1)
  clear c1 hb1 hB1 hB0
  have c0 : w3.cell? ⟨w.heap.size, 0, none⟩ = some (.int .i64 2) := hR1.cell rfl
  go_wp2_with (refine wpList_store_row rfl 48 (.tmp 6) (.tmp 23) rfl (w.heap.size + 1) rfl [.int .i64 2, .slice A1 q q1] rfl _ _ hR2 (by exact size_engine) rfl (one_pair _ _ rfl rfl) ?_)
  refine bodyPost_ret (results_row_tmp (p := 6) (u := 7) (ty := 48) (by rfl) _ _ (w.heap.size + 1) 48 _ _ (by rfl) (by exact hR2.setRow _) Tryz.underlying48 (by rfl) (by exact size_engine)) (by rfl) ?_
  have hnb := two_no_byte 0 (.slice none 0 0) (slice_no_byte none 0 0)
  exact ⟨us, q, A1, q1, tA, tc, rfl, HQ, hqc, htc, htu.setRow_row hR2 _, hoku.setRow_row hR2 hnb _, HC, hr1.setRow_row hR2 hnb _, below_setRow HB.out (by omega) _⟩

theorem cfits_any [Inhabited Tab] (Kn : Int) (key msg tag : List UInt8) (p n m q : Nat) (A B C D : Option Addr) (c d e f : Nat) (w : World) (HN : Hid (key.length = n)) (HM : Hid (msg.length = m)) (HQ : Hid (tag.length = q)) (hk : Rd vB w B key) (hm : Rd vB w C msg) (hg : Rd vB w D tag) (hn : n ≤ 1000000) (hmm : m ≤ 1000000) (hq : q ≤ 1000000) (hnd : n ≤ d) (HK : Hid (KTab w)) :
    Calls Tryz.prog 218 #[.agg #[.int .i64 Kn, .slice A p c], .slice B n d, .slice C m e, .slice D q f] w fun e w' => e = .returned (.bool (decide ((macL key msg).take 8 = tag))) ∧ Below w.heap.size w w' := by
  obtain ⟨hR0, hB0⟩ := box_rows w 185 (.int .i64 Kn) (.slice A p c)
  go_enter Tryz.func218, Tryz.ntmps218
  go_wp2_with (refine wpList_load_part rfl 185 (.tmp 4) rfl w.heap.size 0 rfl _ _ hR0 [.int .i64 Kn, .slice A p c] (by rfl) _ Tryz.underlying185 rfl (by exact size_concrete) ?_)
  refine (ctag_any Kn key msg p n m A B C c d e _ HN HM (hk.keep hB0) (hm.keep hB0) hn hmm hnd (Lib.hid (HK.out.keep hB0))).mono ?_
  rintro e' w3 ⟨tA, tc, rfl, htc, hr, hb⟩
  replace hg := hg.keep (below_step hB0 hb)
  have HB := Lib.hid (below_step hB0 hb)
  have H8 : Hid (((macL key msg).take 8).length = 8) := by unfold Hid; rw [List.length_take, macL_length]; rfl
  obtain ⟨T, hT⟩ : ∃ T, T = (macL key msg).take 8 := ⟨_, rfl⟩
  rw [← hT] at H8 hr
  have HT := Lib.hid hT
  clear hb hB0 hT
  have hR3 : Row (w3.alloc (.cells #[.int .i64 0, .slice none 0 0] 48)) w3.heap.size 48 [.int .i64 0, .slice none 0 0] := Row.new w3 _ _ _ rfl
  go_wp2_with (refine wpList_store_row rfl 48 (.tmp 9) (.tmp 16) rfl w3.heap.size rfl [.int .i64 Kn, .slice none 0 0] rfl _ _ hR3 (by exact size_engine) rfl (one_pair _ _ rfl rfl) ?_)
  have hbn : Below w3.heap.size w3 ((w3.alloc (.cells #[.int .i64 0, .slice none 0 0] 48)).setRow w3.heap.size [.int .i64 Kn, .slice none 0 0].toArray) := below_setRow (below_new (Below.refl _ _) _) (Nat.le_refl _) _
  refine (same_any 8 q T tag tA D tc f _ H8 HQ (hr.keep hbn) (hg.keep hbn) (by omega) (by omega)).mono ?_
  rintro e' w5 ⟨rfl, hb5⟩
  have HE : Hid (sameB T tag = decide (T = tag)) := by
    unfold Hid
    rw [Bool.eq_iff_iff, sameB_iff, decide_eq_true_eq]
  go_wp2_with fail
  go_ret
  exact ⟨by rw [← HT.out, ← HE.out]; rfl, below_step HB.out (below_step hbn hb5)⟩

/-- Whose tag it is: of right terms just of that one whose tag it is. -/
theorem ofT_iff (cs : List Tm) (x y : Tm) (u : Int) (tag : List UInt8) (hr : rightT cs = true) (hl : cs.length ≤ 1000000000) (h : (y, u) = ofT cs tag) : (u = 0 ∧ y = x) ↔ (x ∈ cs ∧ tagT cs x = tag) := by
  constructor
  · rintro ⟨rfl, rfl⟩
    unfold ofT at h
    split at h
    · injection h with _ h
      cases h
    · next h8 =>
      split at h
      · next hv =>
        injection h with h _
        have h8' : tag.length = 8 := Classical.byContradiction h8
        have hlt : valN tag - 1 < cs.length := by omega
        rw [List.getD_eq_getElem?_getD, List.getElem?_eq_getElem hlt, Option.getD_some] at h
        have hi := (right_iff cs).1 hr _ hlt
        rw [← h] at hi
        refine ⟨h ▸ List.getElem_mem hlt, ?_⟩
        unfold tagT
        rw [hi, show valN tag - 1 + 1 = valN tag by omega, putL_valN tag h8']
      · injection h with _ h
        cases h
  · rintro ⟨hx, rfl⟩
    rw [ofT_tag cs x hx hl] at h
    injection h with h1 h2
    exact ⟨h2, h1⟩
theorem ofT_mem (cs : List Tm) (y : Tm) (tag : List UInt8) (h : (y, (0 : Int)) = ofT cs tag) : y ∈ cs := by
  unfold ofT at h
  split at h
  · injection h with _ h
    cases h
  · split at h
    · next hv =>
      injection h with h _
      have hlt : valN tag - 1 < cs.length := by omega
      rw [List.getD_eq_getElem?_getD, List.getElem?_eq_getElem hlt, Option.getD_some] at h
      exact h ▸ List.getElem_mem hlt
    · injection h with _ h
      cases h

set_option maxHeartbeats 1000000 in
theorem sfits_any (Kn : Int) (ts : List TD) (key msg tag : List UInt8) (p n m q : Nat) (A B C D : Option Addr) (c d e f : Nat) (w : World) (HP : Hid (ts.length = p)) (HN : Hid (key.length = n)) (HM : Hid (msg.length = m)) (HQ : Hid (tag.length = q)) (HL : Hid (lenT (conT ts))) (ht : RdT w A ts) (hok : okT w ts) (hk : Rd vB w B key) (hm : Rd vB w C msg) (hg : Rd vB w D tag) (hp : p ≤ 1000000) (hc : p ≤ c) (hn : n ≤ 1000000) (hmm : m ≤ 1000000) (hq : q ≤ 1000000) (HR : Hid (rightT (conT ts) = true)) :
    Calls Tryz.prog 241 #[.agg #[.int .i64 Kn, .slice A p c], .slice B n d, .slice C m e, .slice D q f] w fun e w' => e = .returned (.bool (decide ((key, msg) ∈ conT ts ∧ tagT (conT ts) (key, msg) = tag))) ∧ Below w.heap.size w w' := by
  obtain ⟨hR0, hB0⟩ := box_rows w 186 (.int .i64 Kn) (.slice A p c)
  have c1 : (w.alloc (.cells #[.int .i64 Kn, .slice A p c] 186)).cell? ⟨w.heap.size, 1, none⟩ = some (.slice A p c) := hR0.cell rfl
  go_enter Tryz.func241, Tryz.ntmps241
  go_wp2_with fail
  refine (of_anyT ts tag p q A D c f _ HP HQ HL (ht.keep hB0) (hok.keep hB0) (hg.keep hB0) (by omega) (by omega)).mono ?_
  rintro e' w3 ⟨x, u, rfl, hx, HO, hb⟩
  have HI : Hid ((u = 0 ∧ x.c = (key, msg)) ↔ ((key, msg) ∈ conT ts ∧ tagT (conT ts) (key, msg) = tag)) := ofT_iff (conT ts) (key, msg) x.c u tag HR.out (by rw [conT_length, HP.out]; omega) HO.out
  have HX : Hid (u = 0 → x.k.length ≤ 1000000000 ∧ x.m.length ≤ 1000000000) := fun h => by
    have := HO.out
    rw [h] at this
    exact HL.out x.c (ofT_mem _ _ _ this)
  replace hk := hk.keep (below_step hB0 hb)
  replace hm := hm.keep (below_step hB0 hb)
  have HB := Lib.hid (below_step hB0 hb)
  clear hb hB0 c1 hR0 ht hok hg HO
  have hR3 : Row (w3.alloc (.cells #[.slice none 0 0, .slice none 0 0] 164)) w3.heap.size 164 [.slice none 0 0, .slice none 0 0] := Row.new w3 _ _ _ rfl
  go_upto_region 2 with (refine wpList_store_row rfl 164 (.tmp 9) (.tmp 17) rfl w3.heap.size rfl [x.at0, x.at1] rfl _ _ hR3 (by exact size_term) rfl (one_two _ _ rfl rfl) ?_)
  have hR4 := hR3.setRow [x.at0, x.at1]
  have hbn : Below w3.heap.size w3 ((w3.alloc (.cells #[.slice none 0 0, .slice none 0 0] 164)).setRow w3.heap.size [x.at0, x.at1].toArray) := below_setRow (below_new (Below.refl _ _) _) (Nat.le_refl _) _
  generalize (w3.alloc (.cells #[.slice none 0 0, .slice none 0 0] 164)).setRow w3.heap.size [x.at0, x.at1].toArray = w4 at hR4 hbn ⊢
  replace hk := hk.keep hbn
  replace hm := hm.keep hbn
  replace hx := hx.keep hbn
  replace HB := Lib.hid (below_step HB.out hbn)
  clear hR3 hbn
  generalize w3.heap.size = g at hR4 ⊢
  by_cases hu : u = 0
  · subst hu
    obtain ⟨h1, h2⟩ := HX.out rfl
    obtain ⟨kA, kc, k, mA, mc, m'⟩ := x
    unfold TD.at0 TD.at1 at *
    dsimp only at h1 h2 hR4 ⊢
    obtain ⟨_, _, hxk, hxm⟩ := hx
    dsimp only at hxk hxm
    have k0 : w4.cell? ⟨g, 0, none⟩ = some (.slice kA k.length kc) := hR4.cell rfl
    go_wp2_with fail
    refine (same_any k.length n k key kA B kc d _ (Lib.hid rfl) HN hxk hk h1 (by omega)).mono ?_
    rintro e' w5 ⟨rfl, hb5⟩
    have k1 : w5.cell? ⟨g, 1, none⟩ = some (.slice mA m'.length mc) := (hR4.later hb5).cell rfl
    obtain ⟨b1, hb1⟩ : ∃ b1, sameB k key = b1 := ⟨_, rfl⟩
    rw [hb1]
    cases b1 with
    | false =>
      have hf : Hid (decide ((key, msg) ∈ conT ts ∧ tagT (conT ts) (key, msg) = tag) = false) := decide_eq_false fun h => by
        have h3 := HI.out.2 h
        have h4 : k = key := congrArg Prod.fst h3.2
        rw [(sameB_iff k key).2 h4] at hb1
        cases hb1
      go_wp2_with fail
      go_ret
      exact ⟨by rw [hf.out]; rfl, below_step HB.out hb5⟩
    | true =>
      go_wp2_with fail
      refine (same_any m'.length m m' msg mA C mc e _ (Lib.hid rfl) HM (hxm.keep hb5) (hm.keep hb5) h2 (by omega)).mono ?_
      rintro e' w6 ⟨rfl, hb6⟩
      have HE : Hid (decide ((key, msg) ∈ conT ts ∧ tagT (conT ts) (key, msg) = tag) = sameB m' msg) := by
        unfold Hid
        rw [Bool.eq_iff_iff, decide_eq_true_eq, sameB_iff, ← HI.out]
        have h4 := (sameB_iff k key).1 hb1
        constructor
        · intro h
          exact congrArg Prod.snd h.2
        · intro h
          subst h4 h
          refine ⟨?_, rfl⟩
          trivial
      go_wp2_with fail
      go_ret
      exact ⟨by rw [HE.out]; rfl, below_step HB.out (below_step hb5 hb6)⟩
  · have hu0 : (u == 0) = false := by simp [hu]
    have hf : Hid (decide ((key, msg) ∈ conT ts ∧ tagT (conT ts) (key, msg) = tag) = false) := decide_eq_false fun h => hu (HI.out.2 h).1
    go_wp2_with fail
    go_ret
    exact ⟨by rw [hf.out]; rfl, HB.out⟩
end Go.Proofs.YtknjpmoimjhddaaGreatDoor
/-
  What the program's call copied of layer 6 answers: an engine in new memory. No conditions but those typed.
-/
namespace Go.Proofs.YtknjpmoimjhddaaGreatDoor
set_option maxRecDepth 100000
open Go.RowKit
set_option linter.unusedSimpArgs false
set_option linter.unusedVariables false

def nilV : Value := .slice none 0 0
theorem make_terms (n : Nat) (hn : n ≤ 1000000) (w : World) : (Instr.makeSlice 46 (.int .i64 (n : Int)) (.int .i64 (n : Int))).run Tryz.prog w = .ok (.slice (some ⟨w.heap.size, 0, none⟩) n n) (w.alloc (.cells (List.replicate (n * 2) nilV).toArray 164)) := by
  obtain ⟨i0, hi, hz0, hz1, hz2⟩ := info_parts info_term
  have e : madeCells (Value.agg #[.slice none 0 0, .slice none 0 0]).cells (n * 2) = (List.replicate (n * 2) nilV).toArray := by
    apply Array.toList_inj.1
    apply List.ext_getElem
    · simp [madeCells]
    · intro i h1 h2
      simp only [madeCells, Value.cells, nilV]
      rcases Nat.mod_two_eq_zero_or_one i with h | h <;> simp [h]
  have := run_makeSlice (P := Tryz.prog) (w := w) 46 164 i0 (.agg #[.slice none 0 0, .slice none 0 0]) Tryz.underlying46 hi hz0 .i64 .i64 (n : Int) (n : Int) (by omega) (Int.le_refl _) (by rw [hz1]; omega) (by rw [hz2]; omega) (by omega)
  rw [hz1, Int.toNat_natCast, e] at this
  exact this

theorem Rd.setCells_row {w : World} {A : Option Addr} {L : List UInt8} (h : Rd vB w A L) {g : Nat} {t : TypeId} {l : List Value} (hR : Row w g t l) (hl : ∀ v ∈ l, ∀ x, v ≠ vB x) (o : Nat) (vs : List Value) : Rd vB (w.setCells g o vs) A L := fun hn => by
  obtain ⟨b, q, rfl, hc⟩ := h hn
  refine ⟨b, q, rfl, fun i hi => ?_⟩
  have hne : b ≠ g := by
    rintro rfl
    have h1 := hc i hi
    rw [hR.cell? (q + i)] at h1
    exact hl _ (List.mem_of_getElem? h1) _ rfl
  exact (World.cell?_setCells_out g vs o w ⟨b, q + i, none⟩ (fun e => absurd e hne)).trans (hc i hi)
theorem okT.setCells_row {w : World} {ts : List TD} (h : okT w ts) {g : Nat} {t : TypeId} {l : List Value} (hR : Row w g t l) (hl : ∀ v ∈ l, ∀ x, v ≠ vB x) (o : Nat) (vs : List Value) : okT (w.setCells g o vs) ts := fun x hx => by
  obtain ⟨h1, h2, h3, h4⟩ := h x hx
  exact ⟨h1, h2, h3.setCells_row hR hl o vs, h4.setCells_row hR hl o vs⟩
/-- The cells of a row of terms, the first of which are laid. -/
def halfT (us : List TD) (p : Nat) : List Value := cellsT us ++ List.replicate ((p - us.length) * 2) nilV
theorem halfT_no_byte (us : List TD) (p : Nat) : ∀ v ∈ halfT us p, ∀ x, v ≠ vB x := fun v hv x => by
  rcases List.mem_append.1 hv with h | h
  · obtain ⟨y, _, hy⟩ := List.mem_flatMap.1 h
    simp [TD.cells, TD.at0, TD.at1] at hy
    rcases hy with rfl | rfl
    · exact slice_no_byte _ _ _ x
    · exact slice_no_byte _ _ _ x
  · rw [(List.mem_replicate.1 h).2]
    exact slice_no_byte _ _ _ x
theorem halfT_length (us : List TD) (p : Nat) (h : us.length ≤ p) : (halfT us p).length = p * 2 := by
  unfold halfT
  rw [List.length_append, cellsT_length, List.length_replicate]
  omega
theorem halfT_next (us : List TD) (y : TD) (p : Nat) (h : us.length < p) : (halfT us p).take (us.length * 2) ++ [y.at0, y.at1] ++ (halfT us p).drop (us.length * 2 + 2) = halfT (us ++ [y]) p := by
  unfold halfT
  rw [List.take_left' (cellsT_length us), ← List.drop_drop, List.drop_left' (cellsT_length us), List.drop_replicate, cellsT_snoc, List.length_append]
  congr 2
  simp
  omega
theorem RdT.row {w : World} {g : Nat} {t : TypeId} {us : List TD} (h : Row w g t (cellsT us)) : RdT w (some ⟨g, 0, none⟩) us := fun _ => by
  refine ⟨g, 0, rfl, fun i hi => ?_⟩
  obtain ⟨g0, g1⟩ := cellsT_get us i hi
  rw [Nat.zero_add]
  exact ⟨h.cell g0, h.cell g1⟩

def CopyRel (K : Int) (ts : List TD) (A : Option Addr) (p c : Nat) (w : World) (i : Value) (wr : World) : Prop :=
  ∃ (k : Nat) (us : List TD), k ≤ p ∧ i = .int .i64 (k : Int) ∧ Hid (us.length = k) ∧ Row wr w.heap.size 48 [.int .i64 K, .slice A p c] ∧ Row wr (w.heap.size + 1) 48 [.int .i64 0, .slice none 0 0] ∧
    Row wr (w.heap.size + 2) 164 (halfT us p) ∧ okT wr us ∧ conT us = (conT ts).take k ∧ Below w.heap.size w wr
def termS (g : Nat) (a b : Value) (W : World) : Prop := W.cell? ⟨g, 0, none⟩ = some a ∧ W.cell? ⟨g, 1, none⟩ = some b

set_option maxHeartbeats 2000000 in
theorem ecopied_any (K : Int) (ts : List TD) (p : Nat) (A : Option Addr) (c : Nat) (w : World) (HP : Hid (ts.length = p)) (HL : Hid (lenT (conT ts))) (ht : RdT w A ts) (hok : okT w ts) (hp : p ≤ 1000000) (hc : p ≤ c) :
    Calls Tryz.prog 67 #[.agg #[.int .i64 K, .slice A p c]] w fun e w' => ∃ (us : List TD) (A' : Option Addr) (c' : Nat), e = .returned (.agg #[.int .i64 K, .slice A' p c']) ∧ Hid (us.length = p) ∧ p ≤ c' ∧ RdT w' A' us ∧ okT w' us ∧ Hid (conT us = conT ts) ∧ Below w.heap.size w w' := by
  obtain ⟨hR0, hB0⟩ := box_rows w 48 (.int .i64 K) (.slice A p c)
  have hR0' := hR0.alloc (.cells #[.int .i64 0, .slice none 0 0] 48)
  have hB1 := below_new hB0 (.cells #[.int .i64 0, .slice none 0 0] 48)
  have hR1 : Row ((w.alloc (.cells #[.int .i64 K, .slice A p c] 48)).alloc (.cells #[.int .i64 0, .slice none 0 0] 48)) (w.heap.size + 1) 48 [.int .i64 0, .slice none 0 0] := Row.new_at _ _ (by simp) _ _ _ rfl
  have hsz : ((w.alloc (.cells #[.int .i64 K, .slice A p c] 48)).alloc (.cells #[.int .i64 0, .slice none 0 0] 48)).heap.size = w.heap.size + 2 := by simp
  have HOK := Lib.hid hok
  clear hok
  go_enter Tryz.func67, Tryz.ntmps67
  go_upto_region 1 with fail
  generalize (w.alloc (.cells #[.int .i64 K, .slice A p c] 48)).alloc (.cells #[.int .i64 0, .slice none 0 0] 48) = W2 at hR0' hB1 hR1 hsz ⊢
  have c1 : W2.cell? ⟨w.heap.size, 1, none⟩ = some (.slice A p c) := hR0'.cell rfl
  have hmk := make_terms p hp W2
  rw [hsz] at hmk
  have hR2 : Row (W2.alloc (.cells (List.replicate (p * 2) nilV).toArray 164)) (w.heap.size + 2) 164 (halfT [] p) := Row.new_at _ _ hsz.symm _ _ _ rfl
  generalize (List.replicate (p * 2) nilV) = X at hmk hR2
  have hR0'' := hR0'.alloc (.cells X.toArray 164)
  have hR1'' := hR1.alloc (.cells X.toArray 164)
  have hB2 := below_new hB1 (.cells X.toArray 164)
  go_upto_region 2 with fail
  clear hmk c1 hR0 hB0 hR0' hR1 hB1 hsz
  generalize W2.alloc (.cells X.toArray 164) = W3 at hR2 hR0'' hR1'' hB2 ⊢
  have c1 : W3.cell? ⟨w.heap.size, 1, none⟩ = some (.slice A p c) := hR0''.cell rfl
  go_wp2_with fail
  go_loopw [13] (fun i wr => CopyRel K ts A p c w i wr) (fun i _ => p - (intOf i).toNat)
  case atStart => exact ⟨0, [], Nat.zero_le _, rfl, Lib.hid rfl, hR0'', hR1'', hR2, (fun x hx => by cases hx), by simp [conT], hB2⟩
  case round =>
    clear hR0'' hR1'' hR2 hB2 c1
    obtain ⟨k, us, hk1, rfl, HU, hR0, hR1, hR2, hus, hcon, hB⟩ := hrel
    have eU := HU.out
    subst eU
    clear HU
    by_cases hlt : us.length < p
    · have hlt' : us.length < ts.length := by rw [HP.out]; exact hlt
      obtain ⟨blk, o, rfl, hblk, hcell⟩ := ht.at hlt'
      have hx := (HOK.out ts[us.length] (List.getElem_mem hlt')).keep hB
      have hlen := lenT.at HL.out (List.getElem_mem hlt')
      have hlc : us.length < (conT ts).length := by rw [conT_length]; exact hlt'
      have HTK : Hid ((conT ts).take (us.length + 1) = conT us ++ [ts[us.length].c]) := by unfold Hid; rw [List.take_succ_eq_append_getElem hlc, conT_get ts _ hlt', hcon]
      obtain ⟨h0, h1⟩ := hcell _ hlt'
      have hc0 : wr.rangeAt blk (o + us.length * 2) [ts[us.length].at0, ts[us.length].at1] := fun j u hu => by
        match j, hu with
        | 0, hu => injection hu with hu; subst hu; exact (hB.cell (p := ⟨blk, o + us.length * 2, none⟩) hblk).trans h0
        | 1, hu => injection hu with hu; subst hu; exact (hB.cell (p := ⟨blk, o + us.length * 2 + 1, none⟩) hblk).trans h1
      generalize ts[us.length] = x at hx hlen HTK hc0
      have i0 : (0 : Int) ≤ (us.length : Int) := by omega
      have i1 : (us.length : Int) < (p : Int) := by omega
      have hRx : Row (wr.alloc (.cells #[.slice none 0 0, .slice none 0 0] 164)) wr.heap.size 164 [.slice none 0 0, .slice none 0 0] := Row.new wr _ _ _ rfl
      have HB := Lib.hid hB
      have HUS := Lib.hid hus
      clear h0 h1 hcell hk1 hB hcon hus
      go_upto_region 5 with (first
        | (refine wpList_load_mid rfl 164 (.tmp 16) rfl blk (o + us.length * 2) rfl [x.at0, x.at1] _ hc0 Tryz.underlying164 rfl (by exact size_term) ?_)
        | (refine wpList_store_row rfl 164 (.tmp 5) (.tmp 17) rfl wr.heap.size rfl [x.at0, x.at1] rfl _ _ hRx (by exact size_term) rfl (one_two _ _ rfl rfl) ?_))
      have hRy := hRx.setRow [x.at0, x.at1]
      have hbn : Below wr.heap.size wr ((wr.alloc (.cells #[.slice none 0 0, .slice none 0 0] 164)).setRow wr.heap.size [x.at0, x.at1].toArray) := below_setRow (below_new (Below.refl _ _) _) (Nat.le_refl _) _
      have hgx := hR2.lt
      generalize (wr.alloc (.cells #[.slice none 0 0, .slice none 0 0] 164)).setRow wr.heap.size [x.at0, x.at1].toArray = w1 at hRy hbn ⊢
      replace hx := hx.keep hbn
      replace hR0 := hR0.later hbn
      replace hR1 := hR1.later hbn
      replace hR2 := hR2.later hbn
      replace HUS := Lib.hid (HUS.out.keep hbn)
      replace HB := Lib.hid (below_step HB.out hbn)
      clear hbn hRx hc0
      generalize hgd : wr.heap.size = g1 at hRy hgx ⊢
      clear hgd
      obtain ⟨kA, kc, kl, mA, mc, ml⟩ := x
      unfold TD.at0 TD.at1 at *
      dsimp only at hlen hRy ⊢
      obtain ⟨hk1, hm1, hxk, hxm⟩ := hx
      dsimp only at hxk hxm
      have hS : termS g1 (.slice kA kl.length kc) (.slice mA ml.length mc) w1.drew := ⟨hRy.drew.cell rfl, hRy.drew.cell rfl⟩
      replace hxk := hxk.keep ((Below.refl w1.heap.size w1).drew)
      replace hxm := hxm.keep ((Below.refl w1.heap.size w1).drew)
      replace hRy := hRy.drew
      replace hR0 := hR0.drew
      replace hR1 := hR1.drew
      replace hR2 := hR2.drew
      replace HUS := Lib.hid (HUS.out.keep ((Below.refl w1.heap.size w1).drew))
      replace HB := Lib.hid HB.out.drew
      refine wp_region_plan_of (termS g1 (.slice kA kl.length kc) (.slice mA ml.length mc)) (.step 0 false (.step 1 false (.step 2 false (.step 3 false (.step 5 false (.step 6 false (.step 4 true (.step 7 true (.step 8 false (.step 9 false (.step 10 true .nil))))))))))) hS (by kernel_rfl) (by kernel_rfl) (by rfl) (by kernel_rfl) ?_
      generalize w1.drew = w1 at *
      iterate 6 (refine plan_read rfl (by rfl) (v := ?_) ?_ ?_; rotate_left 1; (intro W hW; (try dsimp only at hW); obtain ⟨hW0, hW1⟩ := hW; go_simp <;> with_reducible rfl); simp only [List.getElem_toArray, List.getElem_cons_zero, List.getElem_cons_succ, Act.put, List.setIfInBounds_toArray, List.set_cons_zero, List.set_cons_succ])
      refine plan_make_of rfl (by rfl) (fun K hK => ?_)
      go_simp
      refine (clone_at kl.length kl kA kc _ (Lib.hid rfl) hxk (by omega)).mono ?_
      rintro e' w2 ⟨A2, c2, rfl, hc2, hr2, hN2, hb2⟩
      replace hRy := hRy.later hb2
      refine hK.out _ _ ⟨hRy.cell rfl, hRy.cell rfl⟩ ?_
      clear hK K
      refine plan_make_of rfl (by rfl) (fun K hK => ?_)
      go_simp
      refine (clone_at ml.length ml mA mc _ (Lib.hid rfl) (hxm.keep hb2) (by omega)).mono ?_
      rintro e' w3 ⟨A3, c3, rfl, hc3, hr3, hN3, hb3⟩
      replace hRy := hRy.later hb3
      refine hK.out _ _ ⟨hRy.cell rfl, hRy.cell rfl⟩ ?_
      clear hK K
      have hb23 := below_step hb2 hb3
      replace hR0 := hR0.later hb23
      replace hR1 := hR1.later hb23
      replace hR2 := hR2.later hb23
      replace HUS := Lib.hid (HUS.out.keep hb23)
      replace HB := Lib.hid (below_step HB.out hb23)
      replace hr2 := hr2.keep hb3
      clear hb2 hb3 hb23 hxk hxm hN2 hN3 hS
      iterate 2 (refine plan_read rfl (by rfl) (v := ?_) ?_ ?_; rotate_left 1; (intro W hW; (try dsimp only at hW); obtain ⟨hW0, hW1⟩ := hW; go_simp <;> with_reducible rfl); simp only [List.getElem_toArray, List.getElem_cons_zero, List.getElem_cons_succ, Act.put, List.setIfInBounds_toArray, List.set_cons_zero, List.set_cons_succ])
      have hth : w3.there (w.heap.size + 2) (us.length * 2) 2 := fun j hj => by
        have hl := halfT_length us p (by omega)
        exact ⟨by rw [hR2.cell? (us.length * 2 + j), List.getElem?_eq_getElem (by omega)]; rfl, hR2.frozen _⟩
      have hnb := halfT_no_byte us p
      have hnx := halfT_next us ⟨A2, c2, kl, A3, c3, ml⟩ p hlt
      have hR2' := hR2.setCells [.slice A2 kl.length c2, .slice A3 ml.length c3] (us.length * 2) (by rw [halfT_length us p (by omega)]; simp; omega)
      have hus' : okT (w3.setCells (w.heap.size + 2) (us.length * 2) [.slice A2 kl.length c2, .slice A3 ml.length c3]) (us ++ [⟨A2, c2, kl, A3, c3, ml⟩]) :=
        (HUS.out.setCells_row hR2 hnb _ _).app (fun z hz => by
          simp at hz
          subst hz
          exact ⟨hc2, hc3, hr2.setCells_row hR2 hnb _ _, hr3.setCells_row hR2 hnb _ _⟩)
      have HREL : Hid (CopyRel K ts (some ⟨blk, o, none⟩) p c w (.int .i64 ((us.length : Int) + 1)) (w3.setCells (w.heap.size + 2) (us.length * 2) [.slice A2 kl.length c2, .slice A3 ml.length c3])) :=
        ⟨us.length + 1, us ++ [⟨A2, c2, kl, A3, c3, ml⟩], by omega, by go_num, by unfold Hid; simp, hR0.setCells_other (by omega) _ _, hR1.setCells_other (by omega) _ _, by rw [← hnx]; exact hR2', hus', by rw [conT_snoc, HTK.out]; rfl, below_setCells (by omega) _ _ HB.out⟩
      refine plan_make_of rfl (by rfl) (fun K hK => ?_)
      refine wp_store_mid 164 (.tmp 27) (.tmp 26) rfl (w.heap.size + 2) (us.length * 2) #[.slice A2 kl.length c2, .slice A3 ml.length c3] rfl rfl hth (by exact size_term) (by exact all_oneCell_toArray (one_two _ _ rfl rfl)) ?_
      refine hK.out _ _ ⟨(hRy.setCells_other (by omega) _ _).cell rfl, (hRy.setCells_other (by omega) _ _).cell rfl⟩ ?_
      clear hK K hus' hR2' hnx hnb hth HUS hR0 hR1 hR2 hRy hr2 hr3
      refine plan_done ?_
      go_wp2_with fail
      go_roundw
      case rel => exact HREL.out
      case measure => simp [intOf]; omega
    · have hul : us.length = p := by omega
      have hcu : conT us = conT ts := by rw [hcon, hul, ← HP.out, ← conT_length, List.take_length]
      have hh : halfT us p = cellsT us := by unfold halfT; rw [hul]; simp
      rw [hh] at hR2
      have c0 : wr.cell? ⟨w.heap.size, 0, none⟩ = some (.int .i64 K) := hR0.cell rfl
      have hrt : RdT wr (some ⟨w.heap.size + 2, 0, none⟩) us := RdT.row hR2
      have i1 : ¬ (us.length : Int) < (p : Int) := by omega
      have HB := Lib.hid hB
      have HC := Lib.hid hcu
      have HUL := Lib.hid hul
      clear hcu hh hcon hul hB hk1
      go_wp2_with (refine wpList_store_row rfl 48 (.tmp 2) (.tmp 32) rfl (w.heap.size + 1) rfl [.int .i64 K, .slice (some ⟨w.heap.size + 2, 0, none⟩) p p] rfl _ _ hR1 (by exact size_engine) rfl (one_pair _ _ rfl rfl) ?_)
      refine bodyPost_ret (results_cell_row (p := 2) (ty := 48) (by rfl) _ _ (w.heap.size + 1) 48 _ (0, 0) _ (by rfl) (by exact hR1.setRow _) Tryz.underlying48 (by rfl) (by exact size_engine)) (by rfl) ?_
      have hnb := two_no_byte 0 (.slice none 0 0) (slice_no_byte none 0 0)
      exact ⟨us, _, p, rfl, HUL, Nat.le_refl _, hrt.setRow_row hR1 _, hus.setRow_row hR1 hnb _, HC, below_setRow HB.out (by omega) _⟩
end Go.Proofs.YtknjpmoimjhddaaGreatDoor
