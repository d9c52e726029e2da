/-
  What the program's Open of layer 16 answers (landed code). Condition: the package's table holds sixty-four words (for tags).
-/
import Derived.Test.YtmljhkdojopljaaGreatDoorQ9
import Derived.Lib.SmallJoins
import Derived.Lib.SlBytesConst
import Derived.Deep.DeepCutAuto
import Derived.HandedShaped
import Derived.Test.YtmljhkdojopljaaGreatDoorRows
import Derived.LaidLaws
import Derived.LaidHandle
namespace Go.Proofs.YtmljhkdojopljaaGreatDoor
set_option maxRecDepth 100000
open Go.RowKit
set_option linter.unusedSimpArgs false
set_option linter.unusedVariables false

/-- Which bundle any bytes are opened to, and the code of the fault. -/
def openB [Inhabited Tab] (K : Int) (cs : List Tm) (key b : List UInt8) : ResB := if (readBun b).2.2.2.2 ≠ 0 then badB (readBun b).2.2.2.2 else if checkE K cs key b (readBun b).2.2.2.1 ≠ 0 then badB (checkE K cs key b (readBun b).2.2.2.1) else readBun b
def RetOb (w : World) (X : ResB) (e : Ending) (w' : World) : Prop :=
  ∃ eA es n ec gA m gc ev, e = .returned (.tuple #[aggB X.1 eA n ec gA m gc, ev]) ∧ Hid (conE es = X.2.1) ∧ Hid (es.length = n) ∧ Hid (X.2.2.1.length = m) ∧ n ≤ ec ∧ m ≤ gc ∧ RdE w' eA es ∧ okD w' es ∧ RdG w' gA X.2.2.1 ∧ Below w.heap.size w w' ∧ ErrV w' ev 4 X.2.2.2.2
theorem retob_bad {w w' : World} {X : ResB} {k : Int} {g : Nat} (hX : Hid (X = badB k)) (hk : k ≠ 0) (hF : Flt w' g 4 k) (hb : Below w.heap.size w w') : RetOb w X (.returned (.tuple #[.agg zeroB.toArray, errV g])) w' := by
  rw [hX.out]
  exact ⟨none, [], 0, 0, none, 0, 0, _, rfl, Lib.hid rfl, Lib.hid rfl, Lib.hid rfl, Nat.le_refl _, Nat.le_refl _, RdE.nil, okD.nil _, RdG.nil, hb, .inr ⟨hk, g, rfl, hF⟩⟩
/-- No list lies in a bundle's block that holds nothing. -/
theorem zero_noG {w : World} {g b o : Nat} {t t' : Nat} (hR : Row w g 26 zeroB) (h0 : w.cell? ⟨b, o, none⟩ = some (vNG t)) (h1 : w.cell? ⟨b, o + 1, none⟩ = some (vNG t')) : b ≠ g := fun e => by
  subst e
  match o, h0, h1 with
  | 0, _, h1 =>
    have : w.cell? ⟨b, 1, none⟩ = some (.slice none 0 0) := hR.cell rfl
    rw [show (0 + 1) = 1 from rfl, this] at h1
    simp [vNG] at h1
  | 1, h0, _ =>
    have : w.cell? ⟨b, 1, none⟩ = some (.slice none 0 0) := hR.cell rfl
    rw [this] at h0
    simp [vNG] at h0
  | 2, h0, _ =>
    have : w.cell? ⟨b, 2, none⟩ = some (.slice none 0 0) := hR.cell rfl
    rw [this] at h0
    simp [vNG] at h0
  | o + 3, h0, _ =>
    have h3 : w.cell? ⟨b, o + 3, none⟩ = none := (Row.cell? hR (o + 3)).trans rfl
    rw [h3] at h0
    cases h0
theorem RdE.setRow_bun {w : World} {A : Option Addr} {xs : List ED} {g : Nat} (h : RdE w A xs) (hR : Row w g 26 zeroB) (cs : Array Value) : RdE (w.setRow g cs) A xs := fun hn => by
  obtain ⟨b, o, rfl, hc⟩ := h hn
  have hp : 0 < xs.length := List.length_pos_iff.2 hn
  obtain ⟨a0, a1, _⟩ := hc 0 hp
  have hb : b ≠ g := zero_noG hR a0 a1
  refine ⟨b, o, rfl, fun i hi => ?_⟩
  obtain ⟨h0, h1, h2⟩ := hc i hi
  exact ⟨(cell_setRow_other w g cs ⟨b, o + i * 3, none⟩ hb).trans h0, (cell_setRow_other w g cs ⟨b, o + i * 3 + 1, none⟩ hb).trans h1, (cell_setRow_other w g cs ⟨b, o + i * 3 + 2, none⟩ hb).trans h2⟩
theorem RdG.setRow_bun {w : World} {A : Option Addr} {l : List Gn} {g : Nat} (h : RdG w A l) (hR : Row w g 26 zeroB) (cs : Array Value) : RdG (w.setRow g cs) A l := fun hn => by
  obtain ⟨b, o, rfl, hc⟩ := h hn
  have hp : 0 < l.length := List.length_pos_iff.2 hn
  obtain ⟨a0, a1⟩ := hc 0 hp
  have hb : b ≠ g := zero_noG hR a0 a1
  refine ⟨b, o, rfl, fun i hi => ?_⟩
  obtain ⟨h0, h1⟩ := hc i hi
  exact ⟨(cell_setRow_other w g cs ⟨b, o + i * 2, none⟩ hb).trans h0, (cell_setRow_other w g cs ⟨b, o + i * 2 + 1, none⟩ hb).trans h1⟩
theorem bun_no_byte : ∀ u ∈ zeroB, ∀ x, u ≠ vB x := fun u hu x e => by
  subst e
  simp [vB, zeroB] at hu
theorem okD.setRow_bun {w : World} {xs : List ED} {g : Nat} (h : okD w xs) (hR : Row w g 26 zeroB) (cs : Array Value) : okD (w.setRow g cs) xs := fun x hx => ⟨(h x hx).1, (h x hx).2.setRow_row hR bun_no_byte cs⟩
set_option maxHeartbeats 4000000 in
theorem openB_any [Inhabited Tab] (Kn : Int) (ts : List TD) (key b : List UInt8) (p n len : Nat) (A B D : Option Addr) (c bd f : Nat) (w : World) (HP : Hid (ts.length = p)) (HL : Hid (lenT (conT ts))) (ht : RdT w A ts) (hok : okT w ts) (hp : p ≤ 1000000) (hc : p ≤ c)
    (HN : Hid (key.length = n)) (hrk : Rd vB w B key) (hn : n ≤ 1000000) (hnb : n ≤ bd) (HB : Hid (b.length = len)) (hrb : Rd vB w D b) (hf : len ≤ f) (hl : len ≤ 1000000) (HK : Hid (KTab w)) :
    Calls Tryz.prog 20 #[.agg #[.int .i64 Kn, .slice A p c], .slice B n bd, .slice D len f] w (RetOb w (openB Kn (conT ts) key b)) := by
  obtain ⟨X, hX⟩ : ∃ X, openB Kn (conT ts) key b = X := ⟨_, rfl⟩
  rw [hX]
  unfold openB at hX
  have HX0 := Lib.hid hX.symm
  clear hX
  have HRD := Lib.hid (fun W (hW : Rd vB W D b) => readBunP_any b len f D W HB hW hl hf)
  have HLE : Hid ((readBun b).2.2.2.1 ≤ len) := by
    unfold Hid
    rw [← HB.out]
    by_cases h : (readBun b).2.2.2.2 = 0
    · obtain ⟨v, es, gs, m, k, hb⟩ : ∃ v es gs m k, readBun b = (v, es, gs, m, k) := ⟨_, _, _, _, _, rfl⟩
      rw [hb] at h
      dsimp only at h
      subst h
      rw [hb]
      exact (bun_good hb).2.1
    · obtain ⟨v, es, gs, m, k, hb⟩ : ∃ v es gs m k, readBun b = (v, es, gs, m, k) := ⟨_, _, _, _, _, rfl⟩
      rw [hb] at h
      rw [hb, (bun_bad hb h).2.2.2]
      exact Nat.zero_le _
  generalize readBun b = Y at HX0 HRD HLE
  obtain ⟨v, es', gs, m, kY⟩ := Y
  dsimp only at HX0 HLE
  obtain ⟨hR, hB0⟩ := box_rows w 48 (.int .i64 Kn) (.slice A p c)
  have hR1 := hR.alloc (.cells #[.int .u64 0, .slice none 0 0, .slice none 0 0] 26)
  have hR2 : Row ((w.alloc (.cells #[.int .i64 Kn, .slice A p c] 48)).alloc (.cells #[.int .u64 0, .slice none 0 0, .slice none 0 0] 26)) (w.heap.size + 1) 26 zeroB := Row.new_at _ _ (by simp) _ _ _ rfl
  have hB := below_new hB0 (.cells #[.int .u64 0, .slice none 0 0, .slice none 0 0] 26)
  replace ht := ht.keep hB
  replace hok := hok.keep hB
  replace hrk := hrk.keep hB
  replace hrb := hrb.keep hB
  replace HK := Lib.hid (HK.out.keep hB)
  clear hR hB0
  go_enter Tryz.func20, Tryz.ntmps20
  go_upto_region 1 with fail
  generalize (w.alloc (.cells #[.int .i64 Kn, .slice A p c] 48)).alloc (.cells #[.int .u64 0, .slice none 0 0, .slice none 0 0] 26) = W2 at hR1 hR2 hB ht hok hrk hrb HK ⊢
  go_wp2_with fail
  refine (HRD.out W2 hrb).mono ?_
  rintro e₁ w3 ⟨eA, es, ne, ec, gA, ng, gc, rfl, HCE, HEN, HGN, hec, hgc, hre, hoe, hrg, hb⟩
  dsimp only at HCE HGN hrg ⊢
  unfold aggB
  replace ht := ht.keep hb
  replace hok := hok.keep hb
  replace hrk := hrk.keep hb
  replace hrb := hrb.keep hb
  replace HK := Lib.hid (HK.out.keep hb)
  replace hR1 := hR1.later hb
  replace hR2 := hR2.later hb
  replace hB := below_step hB hb
  clear hb
  clear HRD
  have hlt2 := hR2.lt
  have hRn : Row (w3.alloc (.cells #[.int .u64 0, .slice none 0 0, .slice none 0 0] 26)) w3.heap.size 26 zeroB := Row.new w3 _ _ _ rfl
  go_upto_region 2 with (refine wpList_store_row rfl 26 (.tmp 8) (.tmp 15) rfl w3.heap.size rfl [.int .u64 (v : Int), .slice eA ne ec, .slice gA ng gc] rfl _ _ hRn (by exact size_bundle) rfl (one_three _ _ _ rfl rfl rfl) ?_)
  have hRx := hRn.setRow [.int .u64 (v : Int), .slice eA ne ec, .slice gA ng gc]
  have hbn : Below w3.heap.size w3 ((w3.alloc (.cells #[.int .u64 0, .slice none 0 0, .slice none 0 0] 26)).setRow w3.heap.size [.int .u64 (v : Int), .slice eA ne ec, .slice gA ng gc].toArray) := below_setRow (below_new (Below.refl _ _) _) (Nat.le_refl _) _
  generalize (w3.alloc (.cells #[.int .u64 0, .slice none 0 0, .slice none 0 0] 26)).setRow w3.heap.size [.int .u64 (v : Int), .slice eA ne ec, .slice gA ng gc].toArray = w4 at hRx hbn ⊢
  replace ht := ht.keep hbn
  replace hok := hok.keep hbn
  replace hrk := hrk.keep hbn
  replace hrb := hrb.keep hbn
  replace HK := Lib.hid (HK.out.keep hbn)
  replace hR1 := hR1.later hbn
  replace hR2 := hR2.later hbn
  replace hB := below_step hB hbn
  replace hre := hre.keep hbn
  replace hoe := hoe.keep hbn
  replace hrg := hrg.keep hbn
  clear hbn
  clear hRn
  generalize w3.heap.size = g4 at hRx hlt2 ⊢
  by_cases hk : kY = 0
  · subst hk
    have HX : Hid (X = if checkE Kn (conT ts) key b m ≠ 0 then badB (checkE Kn (conT ts) key b m) else (v, es', gs, m, 0)) := HX0.out
    have hm6 : m ≤ 1000000 := by have := HLE.out; omega
    clear HX0 HLE
    go_upto_region 4 with fail
    go_wp2_with (refine wpList_load_part rfl 48 (.tmp 3) rfl w.heap.size 0 rfl _ _ hR1 [.int .i64 Kn, .slice A p c] (by rfl) _ Tryz.underlying48 rfl (by exact size_engine) ?_)
    refine (checkE_any Kn ts key b p n len m A B D c bd f _ HP HL ht hok hp hc HN hrk hn hnb HB hrb hf hl hm6 HK).mono ?_
    rintro e₁ w5 ⟨ev, rfl, hE, hb, hgE⟩
    replace hR2 := hR2.later hb
    replace hRx := hRx.later hb
    replace hB := below_step hB hb
    replace hre := hre.keep hb
    replace hoe := hoe.keep hb
    replace hrg := hrg.keep hb
    clear hb
    clear hR1 ht hok hrk HK hrb
    generalize checkE Kn (conT ts) key b m = kC at HX hE
    go_upto_region 5 with fail
    rcases hE with ⟨hkc, rfl⟩ | ⟨hkc, g5, rfl, hF⟩
    · subst hkc
      have HXX : Hid (X = (v, es', gs, m, 0)) := HX.out
      have hre' := hre.setRow_bun hR2 [.int .u64 (v : Int), .slice eA ne ec, .slice gA ng gc].toArray
      have hoe' := hoe.setRow_bun hR2 [.int .u64 (v : Int), .slice eA ne ec, .slice gA ng gc].toArray
      have hrg' := hrg.setRow_bun hR2 [.int .u64 (v : Int), .slice eA ne ec, .slice gA ng gc].toArray
      clear HX hre hoe hrg
      go_wp2_with (first
        | (refine wpList_load_part rfl 26 (.tmp 8) rfl g4 0 rfl _ _ hRx [.int .u64 (v : Int), .slice eA ne ec, .slice gA ng gc] (by rfl) _ Tryz.underlying26 rfl (by exact size_bundle) ?_)
        | (refine wpList_store_row rfl 26 (.tmp 6) (.tmp 32) rfl (w.heap.size + 1) rfl [.int .u64 (v : Int), .slice eA ne ec, .slice gA ng gc] rfl _ _ hR2 (by exact size_bundle) rfl (one_three _ _ _ rfl rfl rfl) ?_))
      refine bodyPost_ret (results_row_tmp (p := 6) (u := 7) (ty := 26) (by rfl) _ _ (w.heap.size + 1) 26 _ _ (by rfl) (by exact hR2.setRow _) Tryz.underlying26 (by rfl) (by exact size_bundle)) (by rfl) ?_
      rw [HXX.out]
      exact ⟨eA, es, ne, ec, gA, ng, gc, .nilIface, rfl, HCE, HEN, HGN, hec, hgc, hre', hoe', hrg', below_setRow hB (by omega) _, .inl ⟨rfl, rfl⟩⟩
    · have HXX : Hid (X = badB kC) := by unfold Hid; rw [HX.out, if_pos hkc]
      have hgne : g5 ≠ w.heap.size + 1 := Row.ne_type hF hR2 (by decide)
      clear HX hre hoe hrg
      go_wp2_with (refine wpList_store_row rfl 26 (.tmp 6) (.tmp 30) rfl (w.heap.size + 1) rfl zeroB rfl _ _ hR2 (by exact size_bundle) rfl (one_three _ _ _ rfl rfl rfl) ?_)
      refine bodyPost_ret (results_row_tmp (p := 6) (u := 7) (ty := 26) (by rfl) _ _ (w.heap.size + 1) 26 _ _ (by rfl) (by exact hR2.setRow _) Tryz.underlying26 (by rfl) (by exact size_bundle)) (by rfl) ?_
      exact retob_bad HXX hkc (Row.setRow_other hF hgne _) (below_setRow hB (by omega) _)
  · have HXX : Hid (X = badB kY) := by unfold Hid; rw [HX0.out, if_pos hk]
    have hq1 : (kY == 0) = false := beq_eq_false_iff_ne.2 hk
    have hq2 : (kY != 0) = true := by rw [bne, hq1]; rfl
    clear hrk hrb ht hok hR1 HK HX0 HLE hre hoe hrg
    go_wp2_with fail
    refine (faultA_any kY w4).mono ?_
    rintro e' w5 ⟨g5, rfl, hF, hb, hgg⟩
    have hlt := hR2.lt
    replace hR2 := hR2.later hb
    replace hB := below_step hB hb
    clear hb
    go_wp2_with (refine wpList_store_row rfl 26 (.tmp 6) (.tmp 20) rfl (w.heap.size + 1) rfl zeroB rfl _ _ hR2 (by exact size_bundle) rfl (one_three _ _ _ rfl rfl rfl) ?_)
    refine bodyPost_ret (results_row_tmp (p := 6) (u := 7) (ty := 26) (by rfl) _ _ (w.heap.size + 1) 26 _ _ (by rfl) (by exact hR2.setRow _) Tryz.underlying26 (by rfl) (by exact size_bundle)) (by rfl) ?_
    exact retob_bad HXX hk (Row.setRow_other hF (by omega) _) (below_setRow hB (by omega) _)

/-! ### what is sealed, and opened -/
section
variable [Inhabited Tab] {K : Int} {cs : List Tm} {key b : List UInt8} {v : Nat} {es : List En} {gs : List Gn}
def sealBx [Inhabited Tab] (K : Int) (cs : List Tm) (key : List UInt8) (v : Nat) (es : List En) (gs : List Gn) : List UInt8 := bytesB v es gs ++ bytesE K cs (key, bytesB v es gs)
theorem sealBx_length : (sealBx K cs key v es gs).length = (bytesB v es gs).length + 8 := by
  unfold sealBx
  rw [List.length_append, bytesE_length]
theorem openB_made (h : rightB es gs = true) (hv : v < 18446744073709551616) (hf : fitE es) (hg : fitG gs) (hr : rightE K cs = true) : openB K (termsE K cs (key, bytesB v es gs)) key (sealBx K cs key v es gs) = (v, es, gs, (bytesB v es gs).length, 0) := by
  have h8 := bytesE_length K cs (key, bytesB v es gs)
  have hl : (sealBx K cs key v es gs).length = (bytesB v es gs).length + 8 := sealBx_length
  have hrd : readBun (sealBx K cs key v es gs) = (v, es, gs, (bytesB v es gs).length, 0) := bun_read _ h hv hf hg
  have hc : checkE K (termsE K cs (key, bytesB v es gs)) key (sealBx K cs key v es gs) (bytesB v es gs).length = 0 := by
    unfold checkE
    rw [hl, if_neg (by omega), if_neg (by omega)]
    have e1 : (sealBx K cs key v es gs).take (bytesB v es gs).length = bytesB v es gs := List.take_left' rfl
    have e2 : (sealBx K cs key v es gs).drop (bytesB v es gs).length = bytesE K cs (key, bytesB v es gs) := List.drop_left' rfl
    rw [e1, e2, fitsE_made (cs := cs) (key, bytesB v es gs) _ (termsE_right _ hr) (.inl rfl)]
    rw [if_pos (decide_eq_true rfl)]
  unfold openB
  rw [hrd]
  dsimp only
  rw [if_neg (not_not_intro rfl), hc, if_neg (not_not_intro rfl)]
theorem openB_unfit {ds : List Tm} {oth : List UInt8} (h : rightB es gs = true) (hv : v < 18446744073709551616) (hf : fitE es) (hg : fitG gs) (hm : (oth, bytesB v es gs) ∉ ds) : openB 2 ds oth (sealBx 2 cs key v es gs) = badB 5 := by
  have h8 := bytesE_length 2 cs (key, bytesB v es gs)
  have hl : (sealBx 2 cs key v es gs).length = (bytesB v es gs).length + 8 := sealBx_length
  have hrd : readBun (sealBx 2 cs key v es gs) = (v, es, gs, (bytesB v es gs).length, 0) := bun_read _ h hv hf hg
  have hc : checkE 2 ds oth (sealBx 2 cs key v es gs) (bytesB v es gs).length = 5 := by
    unfold checkE
    rw [hl, if_neg (by omega), if_neg (by omega)]
    have e1 : (sealBx 2 cs key v es gs).take (bytesB v es gs).length = bytesB v es gs := List.take_left' rfl
    rw [e1, if_neg]
    intro hF
    exact hm (fitsE_sym _ _ hF).1
  unfold openB
  rw [hrd]
  dsimp only
  rw [if_neg (not_not_intro rfl), hc, if_pos (by decide)]
/-- What is opened: the sealed bytes of that. -/
theorem openB_back {m : Nat} (h : openB K cs key b = (v, es, gs, m, 0)) : rightE K cs = true ∧ sealBx K cs key v es gs = b ∧ rightB es gs = true ∧ v < 18446744073709551616 ∧ fitE es ∧ fitG gs := by
  unfold openB at h
  split at h
  · simp [badB] at h
    rename_i hk
    exact absurd h.2.2.2.2 hk
  · rename_i hk
    split at h
    · rename_i hc
      simp [badB] at h
      exact absurd h.2.2.2.2 hc
    · rename_i hc
      rw [h] at hc
      dsimp only at hc
      have hc0 : checkE K cs key b m = 0 := Classical.byContradiction hc
      obtain ⟨r1, r2, r3, r4, r5, r6⟩ := bun_good h
      have hl := check_len hc0
      have hF : fitsE K cs (key, b.take m) (b.drop m) = true := by
        unfold checkE at hc0
        rw [if_neg (by omega), if_neg (by omega)] at hc0
        by_cases hF : fitsE K cs (key, b.take m) (b.drop m) = true
        · exact hF
        · rw [if_neg hF] at hc0
          exact absurd hc0 (by decide)
      rw [← r3] at hF
      refine ⟨?_, ?_, r1, r4, r5, r6⟩
      · cases hr : rightE K cs with
        | true => rfl
        | false => rw [fitsE_wrong _ _ hr] at hF; cases hF
      · have : bytesE K cs (key, bytesB v es gs) = b.drop m := by
          unfold fitsE at hF
          simp at hF
          exact hF.2.2
        unfold sealBx
        rw [this, r3, List.take_append_drop]
theorem openB_bad (h : (openB K cs key b).2.2.2.2 ≠ 0) : openB K cs key b = badB (openB K cs key b).2.2.2.2 := by
  unfold openB at h ⊢
  split at h
  · rename_i hk
    rw [if_pos hk]
    rfl
  · rename_i hk
    rw [if_neg hk]
    split at h
    · rename_i hc
      rw [if_pos hc]
      rfl
    · rename_i hc
      exact absurd h hk
end
end Go.Proofs.YtmljhkdojopljaaGreatDoor
/-
  What the program's Find of layer 16 answers (landed code). No conditions but those typed.
-/
namespace Go.Proofs.YtmljhkdojopljaaGreatDoor
set_option maxRecDepth 100000
open Go.RowKit
set_option linter.unusedSimpArgs false
set_option linter.unusedVariables false

theorem findIs_any (x : ED) (tk g1 : Nat) (w : World) (c1 : w.cell? ⟨g1, 0, none⟩ = some (.int .u64 (tk : Int))) :
    Calls Tryz.prog 29 #[.agg #[.int .u64 (x.t : Int), .int .u64 (x.e : Int), x.at2], .pointer (some ⟨g1, 0, none⟩)] w fun e w' => e = .returned (.bool (decide (x.t = tk))) ∧ Below w.heap.size w w' := by
  obtain ⟨t, en, A, c, s⟩ := x
  unfold ED.at2
  dsimp only
  obtain ⟨hR, hB⟩ := box_three w 35 (.int .u64 (t : Int)) (.int .u64 (en : Int)) (.slice A s.length c)
  have d1 := (hB.cell (p := ⟨g1, 0, none⟩) (World.block_lt_of_cell? w _ c1)).trans c1
  clear c1
  generalize s.length = q at *
  obtain ⟨P, hP⟩ : ∃ P, decide (t = tk) = P := ⟨_, rfl⟩
  rw [hP]
  go_enter Tryz.func29, Tryz.ntmps29
  go_upto_region 1 with fail
  generalize (w.alloc (.cells #[.int .u64 (t : Int), .int .u64 (en : Int), .slice A q c] 35)) = W at hR hB d1 ⊢
  have e0 : W.cell? ⟨w.heap.size, 0, none⟩ = some (.int .u64 (t : Int)) := hR.cell rfl
  by_cases h : t = tk
  · have HD : P = true := hP.symm.trans (decide_eq_true h)
    subst HD
    clear hP
    have h2 : ((t : Int) == (tk : Int)) = true := beq_iff_eq.2 (by omega)
    subst h
    go_wp2_with fail
    go_ret
    exact ⟨rfl, hB⟩
  · have HD : P = false := hP.symm.trans (decide_eq_false h)
    subst HD
    clear hP
    have h2 : ((t : Int) == (tk : Int)) = false := beq_eq_false_iff_ne.2 (by omega)
    have h3 : decide (t = tk) = false := decide_eq_false h
    go_wp2_with fail
    go_ret
    exact ⟨rfl, hB⟩
set_option maxHeartbeats 1000000 in
theorem indexEnt_any (es : List ED) (tk n c g1 : Nat) (A : Option Addr) (w : World) (HN : Hid (es.length = n)) (hre : RdE w A es) (hn : n ≤ 1000000000) (c1 : w.cell? ⟨g1, 0, none⟩ = some (.int .u64 (tk : Int))) :
    Calls Tryz.prog 28 #[.slice A n c, .func (.func 29) #[] #[.pointer (some ⟨g1, 0, none⟩)]] w fun e w' => (∃ i : Int, e = .returned (.int .i64 i) ∧ IsAt es tk i) ∧ Below w.heap.size w w' := by
  have hg1 := World.block_lt_of_cell? w _ c1
  have C1 : Hid (∀ W, Below w.heap.size w W → W.cell? ⟨g1, 0, none⟩ = some (.int .u64 (tk : Int))) := fun W hW => (hW.cell (p := ⟨g1, 0, none⟩) hg1).trans c1
  clear c1 hg1
  go_enter Tryz.func28, Tryz.ntmps28
  go_wp2_with fail
  go_loopw [8] (fun i wr => (∃ k : Nat, i = .int .i64 (k : Int) ∧ k ≤ n ∧ ∀ j (h : j < es.length), j < k → es[j].t ≠ tk) ∧ Below w.heap.size w wr) (fun i _ => n - (intOf i).toNat)
  case atStart => exact ⟨⟨0, rfl, by omega, fun j _ hj => by omega⟩, Below.refl _ _⟩
  case round =>
    obtain ⟨⟨k, rfl, hk, hs⟩, hB⟩ := hrel
    by_cases hlt : k < n
    · have hkl : k < es.length := by rw [HN.out]; exact hlt
      obtain ⟨b, o, rfl, hb, hrng, _, _, _⟩ := hre.one hkl
      have hrngW : wr.rangeAt b (o + k * 3) [.int .u64 (es[k].t : Int), .int .u64 (es[k].e : Int), es[k].at2] := fun j u hu => (hB.cell (p := ⟨b, o + k * 3 + j, none⟩) hb).trans (hrng j u hu)
      have HS : Hid (es[k].t ≠ tk → ∀ j (h : j < es.length), j < k + 1 → es[j].t ≠ tk) := fun h j hj hjk => by
        by_cases e : j = k
        · subst e; exact h
        · exact hs j hj (by omega)
      have HI : Hid (es[k].t = tk → IsAt es tk (k : Int)) := fun h => .inl ⟨k, hkl, rfl, h, hs⟩
      have d1 := C1.out wr hB
      generalize es[k] = x at hrngW HS HI
      have i0 : (0 : Int) ≤ (k : Int) := by omega
      have i1 : (k : Int) < (n : Int) := by omega
      have HB := Lib.hid hB
      clear hs hrng hB
      go_wp2_with (refine wpList_load_mid rfl 35 (.tmp 14) rfl b (o + k * 3) rfl [.int .u64 (x.t : Int), .int .u64 (x.e : Int), x.at2] _ hrngW Tryz.underlying35 rfl (by exact size_entry) ?_)
      refine (findIs_any x tk g1 _ d1).mono ?_
      rintro e' w1 ⟨rfl, hb1⟩
      have HB1 := Lib.hid (below_step HB.out hb1)
      by_cases hx : x.t = tk
      · have HI2 := Lib.hid (HI.out hx)
        rw [decide_eq_true hx]
        clear hx
        go_wp2_with fail
        go_ret
        exact ⟨⟨(k : Int), rfl, HI2.out⟩, HB1.out⟩
      · have HS2 := Lib.hid (HS.out hx)
        rw [decide_eq_false hx]
        clear hx
        go_wp2_with fail
        go_roundw
        case rel => exact ⟨⟨k + 1, by go_num, by omega, HS2.out⟩, HB1.out⟩
        case measure => simp [intOf]; omega
    · have HI : Hid (IsAt es tk (-1)) := .inr ⟨rfl, fun x hx => by
        obtain ⟨j, hj, rfl⟩ := List.getElem_of_mem hx
        exact hs j hj (by have := HN.out; omega)⟩
      have hkn : ¬ (k : Int) < (n : Int) := by omega
      clear hs
      go_wp2_with fail
      go_ret
      exact ⟨⟨-1, rfl, HI.out⟩, hB⟩

/-- What Find hands back: an entry that lies somewhere, and a code. -/
def RetFind (w : World) (es : List ED) (tk : Nat) (e : Ending) (w' : World) : Prop :=
  ∃ t en A q c code s, e = .returned (.tuple #[aggN t en A q c, .int .i64 code]) ∧ Hid ((s : List UInt8).length = q) ∧ q ≤ c ∧ Rd vB w' A s ∧ Below w.heap.size w w' ∧ Hid ((∃ k, ∃ h : k < es.length, code = 0 ∧ IsAt es tk (k : Int) ∧ (t, en, s) = es[k].con) ∨ (code = 7 ∧ IsAt es tk (-1) ∧ (t, en, s) = (0, 0, [])))
theorem isAt_cases {es : List ED} {tk : Nat} {i : Int} (h : IsAt es tk i) : (∃ k : Nat, i = (k : Int) ∧ k < es.length) ∨ i = -1 := by
  rcases h with ⟨k, hk, rfl, _⟩ | ⟨rfl, _⟩
  · exact .inl ⟨k, rfl, hk⟩
  · exact .inr rfl
set_option maxHeartbeats 2000000 in
theorem findB_any (v : Nat) (es : List ED) (n ec m gc tk : Nat) (eA gA : Option Addr) (w : World) (HN : Hid (es.length = n)) (hre : RdE w eA es) (hok : okD w es) (hn : n ≤ 1000000000) (hml : ∀ x ∈ es, x.s.length ≤ 70368744177664) :
    Calls Tryz.prog 11 #[aggB v eA n ec gA m gc, .int .u64 (tk : Int)] w (RetFind w es tk) := by
  obtain ⟨hR, hB0⟩ := box_three w 26 (.int .u64 (v : Int)) (.slice eA n ec) (.slice gA m gc)
  have HML := Lib.hid hml
  have hRt : Row ((w.alloc (.cells #[.int .u64 (v : Int), .slice eA n ec, .slice gA m gc] 26)).alloc (.cells #[.int .u64 (tk : Int)] 22)) (w.heap.size + 1) 22 [.int .u64 (tk : Int)] := Row.new_at _ _ (by simp) _ _ _ rfl
  have hB1 := below_new hB0 (.cells #[.int .u64 (tk : Int)] 22)
  replace hR := hR.alloc (.cells #[.int .u64 (tk : Int)] 22)
  have hRx : Row (((w.alloc (.cells #[.int .u64 (v : Int), .slice eA n ec, .slice gA m gc] 26)).alloc (.cells #[.int .u64 (tk : Int)] 22)).alloc (.cells #[.int .u64 0, .int .u64 0, .slice none 0 0] 35)) (w.heap.size + 2) 35 [.int .u64 0, .int .u64 0, .slice none 0 0] := Row.new_at _ _ (by simp) _ _ _ rfl
  have hB := below_new hB1 (.cells #[.int .u64 0, .int .u64 0, .slice none 0 0] 35)
  replace hR := hR.alloc (.cells #[.int .u64 0, .int .u64 0, .slice none 0 0] 35)
  replace hRt := hRt.alloc (.cells #[.int .u64 0, .int .u64 0, .slice none 0 0] 35)
  clear hB0 hB1 hml
  unfold aggB
  go_enter Tryz.func11, Tryz.ntmps11
  go_upto_region 1 with fail
  generalize ((w.alloc (.cells #[.int .u64 (v : Int), .slice eA n ec, .slice gA m gc] 26)).alloc (.cells #[.int .u64 (tk : Int)] 22)).alloc (.cells #[.int .u64 0, .int .u64 0, .slice none 0 0] 35) = w1 at hR hRt hRx hB ⊢
  replace hre := hre.keep hB
  replace hok := hok.keep hB
  have c1 : w1.cell? ⟨w.heap.size, 1, none⟩ = some (.slice eA n ec) := hR.cell rfl
  go_wp2_with fail
  refine (indexEnt_any es tk n ec (w.heap.size + 1) eA w1 HN hre hn (hRt.cell rfl)).mono ?_
  rintro e w2 ⟨⟨i, rfl, hi⟩, hb⟩
  replace hR := hR.later hb
  replace hRx := hRx.later hb
  replace hre := hre.keep hb
  replace hok := hok.keep hb
  replace hB := below_step hB hb
  clear hb
  clear c1 hRt
  have HI := Lib.hid hi
  rcases isAt_cases hi with ⟨k, rfl, hkl⟩ | rfl
  · have hk0 : ¬ (k : Int) < 0 := by omega
    have hkn : k < n := by rw [← HN.out]; exact hkl
    clear hi
    obtain ⟨b, o, rfl, hb, hrng, _, _, _⟩ := hre.one hkl
    have hxk := hok _ (List.getElem_mem hkl)
    have hxl := HML.out _ (List.getElem_mem hkl)
    have HKL : Hid (∃ k', ∃ h : k' < es.length, (k : Int) = (k' : Int) ∧ es[k].con = es[k'].con) := ⟨k, hkl, rfl, rfl⟩
    have HCON : Hid (es[k].con = (es[k].t, es[k].e, es[k].s)) := rfl
    have hrng2 : w2.rangeAt b (o + k * 3) [.int .u64 (es[k].t : Int), .int .u64 (es[k].e : Int), .slice es[k].A es[k].s.length es[k].c] := hrng
    have HFIN : Hid (∃ k', ∃ h : k' < es.length, IsAt es tk (k' : Int) ∧ (es[k].t, es[k].e, es[k].s) = es[k'].con) := ⟨k, hkl, HI.out, rfl⟩
    obtain ⟨hxc, hxr⟩ := hxk
    generalize es[k].t = tt at *
    generalize es[k].e = te at *
    generalize es[k].A = tA at *
    generalize es[k].c = tc at *
    generalize es[k].s = ts at *
    obtain ⟨q, hq⟩ : ∃ q, ts.length = q := ⟨_, rfl⟩
    have HQ := Lib.hid hq
    rw [hq] at hrng2 hxl hxc
    clear hrng HKL HCON hq HI
    have i0 : (0 : Int) ≤ (k : Int) := by omega
    have i1 : (k : Int) < (n : Int) := by omega
    have c1 : w2.cell? ⟨w.heap.size, 1, none⟩ = some (.slice (some ⟨b, o, none⟩) n ec) := hR.cell rfl
    have hRn : Row (w2.alloc (.cells #[.int .u64 0, .int .u64 0, .slice none 0 0] 35)) w2.heap.size 35 [.int .u64 0, .int .u64 0, .slice none 0 0] := Row.new w2 _ _ _ rfl
    have hRe := hRn.setRow [.int .u64 (tt : Int), .int .u64 (te : Int), .slice tA q tc]
    have hb6 : Below w2.heap.size w2 ((w2.alloc (.cells #[.int .u64 0, .int .u64 0, .slice none 0 0] 35)).setRow w2.heap.size [.int .u64 (tt : Int), .int .u64 (te : Int), .slice tA q tc].toArray) := below_setRow (below_new (Below.refl _ _) _) (Nat.le_refl _) _
    have hltx := hRx.lt
    go_upto_region 5 with (first
      | (refine wpList_load_mid rfl 35 (.tmp 18) rfl b (o + k * 3) rfl [.int .u64 (tt : Int), .int .u64 (te : Int), .slice tA q tc] _ hrng2 Tryz.underlying35 rfl (by exact size_entry) ?_)
      | (refine wpList_store_row rfl 35 (.tmp 7) (.tmp 19) rfl w2.heap.size rfl [.int .u64 (tt : Int), .int .u64 (te : Int), .slice tA q tc] rfl _ _ hRn (by exact size_entry) rfl (one_three _ _ _ rfl rfl rfl) ?_))
    generalize (w2.alloc (.cells #[.int .u64 0, .int .u64 0, .slice none 0 0] 35)).setRow w2.heap.size [.int .u64 (tt : Int), .int .u64 (te : Int), .slice tA q tc].toArray = w3 at hRe hb6 ⊢
    replace hRx := hRx.later hb6
    replace hxr := hxr.keep hb6
    replace hB := below_step hB hb6
    clear hb6
    clear hRn c1 hrng2 hre hok hR
    generalize w2.heap.size = ge at hRe hltx ⊢
    have hge : w.heap.size + 2 < ge := hltx
    have c2 : w3.cell? ⟨ge, 2, none⟩ = some (.slice tA q tc) := hRe.cell rfl
    go_wp2_with fail
    refine (cloneE_any q ts tA tc w3 HQ hxr hxl).mono ?_
    rintro e w4 ⟨A4, c4, rfl, hc4, hr4, hA4, hb⟩
    have hlte := hRe.lt
    replace hRe := hRe.later hb
    replace hRx := hRx.later hb
    replace hB := below_step hB hb
    clear hb c2 hxr
    have f2 := hRe.frozen 2
    have c2 : w4.cell? ⟨ge, 2, none⟩ = some (.slice tA q tc) := hRe.cell rfl
    have HA4 : Hid (∀ a, A4 = some a → ge < a.block) := fun a ha => by have := hA4 a ha; omega
    have hRe5 : Row (w4.setCell ⟨ge, 2, none⟩ (.slice A4 q c4)) ge 35 [.int .u64 (tt : Int), .int .u64 (te : Int), .slice A4 q c4] := hRe.setCell 2 (.slice A4 q c4)
    have hRx5 := hRx.setCell_other (p := ⟨ge, 2, none⟩) (show w.heap.size + 2 ≠ ge by omega) (.slice A4 q c4)
    have hr5 : Rd vB (w4.setCell ⟨ge, 2, none⟩ (.slice A4 q c4)) A4 ts := hr4.only ((Only.refl ge w4).setCell 2 (.slice A4 q c4)) (fun _ a ha => by have := HA4.out a ha; omega)
    have hB5 := hB.setCell (p := ⟨ge, 2, none⟩) (show w.heap.size ≤ ge by omega) (.slice A4 q c4)
    clear hRe hRx hr4 hB hA4
    go_upto_region 6 with fail
    generalize w4.setCell ⟨ge, 2, none⟩ (.slice A4 q c4) = w5 at hRe5 hRx5 hr5 hB5 ⊢
    clear c2 f2
    go_wp2_with (first
      | (refine wpList_load_part rfl 35 (.tmp 7) rfl ge 0 rfl _ _ hRe5 [.int .u64 (tt : Int), .int .u64 (te : Int), .slice A4 q c4] (by rfl) _ Tryz.underlying35 rfl (by exact size_entry) ?_)
      | (refine wpList_store_row rfl 35 (.tmp 4) (.tmp 24) rfl (w.heap.size + 2) rfl [.int .u64 (tt : Int), .int .u64 (te : Int), .slice A4 q c4] rfl _ _ hRx5 (by exact size_entry) rfl (one_three _ _ _ rfl rfl rfl) ?_))
    refine bodyPost_ret (results_row_tmp (p := 4) (u := 5) (ty := 35) (by rfl) _ _ (w.heap.size + 2) 35 _ _ (by rfl) (by exact hRx5.setRow _) Tryz.underlying35 (by rfl) (by exact size_entry)) (by rfl) ?_
    obtain ⟨k', hk', h1, h2⟩ := HFIN.out
    exact ⟨tt, te, A4, q, c4, 0, ts, rfl, HQ, hc4, hr5.setRow _ (fun a ha => by have := HA4.out a ha; omega), below_setRow hB5 (by omega) _, Lib.hid (.inl ⟨k', hk', rfl, h1, h2⟩)⟩
  · clear hi
    go_wp2_with (refine wpList_store_row rfl 35 (.tmp 4) (.tmp 14) rfl (w.heap.size + 2) rfl [.int .u64 0, .int .u64 0, .slice none 0 0] rfl _ _ hRx (by exact size_entry) rfl (one_three _ _ _ rfl rfl rfl) ?_)
    refine bodyPost_ret (results_row_tmp (p := 4) (u := 5) (ty := 35) (by rfl) _ _ (w.heap.size + 2) 35 _ _ (by rfl) (by exact hRx.setRow _) Tryz.underlying35 (by rfl) (by exact size_entry)) (by rfl) ?_
    exact ⟨0, 0, none, 0, 0, 7, [], rfl, Lib.hid rfl, Nat.le_refl _, Rd.nil, below_setRow hB (by omega) _, Lib.hid (.inr ⟨rfl, HI.out, rfl⟩)⟩
end Go.Proofs.YtmljhkdojopljaaGreatDoor
/-
  What the reference's Same of layer 16 answers. No conditions but those typed.
-/
namespace Go.Proofs.YtmljhkdojopljaaGreatDoor
set_option maxRecDepth 100000
open Go.RowKit
set_option linter.unusedSimpArgs false
set_option linter.unusedVariables false

set_option maxHeartbeats 2000000 in
theorem sameB_any (v v' : Nat) (es es' : List ED) (gs gs' : List Gn) (n ec m gc n' ec' m' gc' : Nat) (eA gA eA' gA' : Option Addr) (w : World) (HN : Hid (es.length = n)) (HM : Hid (gs.length = m)) (HN' : Hid (es'.length = n')) (HM' : Hid (gs'.length = m')) (hre : RdE w eA es) (hoe : okD w es) (hrg : RdG w gA gs) (hre' : RdE w eA' es') (hoe' : okD w es') (hrg' : RdG w gA' gs') (hn : n ≤ 1000000000) (hm : m ≤ 1000000000) :
    Calls Tryz.prog 17 #[aggB v eA n ec gA m gc, aggB v' eA' n' ec' gA' m' gc'] w fun e₁ w' => e₁ = .returned (.bool (decide ((v, conE es, gs) = (v', conE es', gs')))) ∧ Below w.heap.size w w' := by
  obtain ⟨P, hP⟩ : ∃ P, decide ((v, conE es, gs) = (v', conE es', gs')) = P := ⟨_, rfl⟩
  rw [hP]
  have HP := Lib.hid hP
  clear hP
  have hR0 : Row (w.alloc (.cells #[.int .u64 (v : Int), .slice eA n ec, .slice gA m gc] 26)) w.heap.size 26 [.int .u64 (v : Int), .slice eA n ec, .slice gA m gc] := Row.new w _ _ _ rfl
  have hR1 : Row ((w.alloc (.cells #[.int .u64 (v : Int), .slice eA n ec, .slice gA m gc] 26)).alloc (.cells #[.int .u64 (v' : Int), .slice eA' n' ec', .slice gA' m' gc'] 26)) (w.heap.size + 1) 26 [.int .u64 (v' : Int), .slice eA' n' ec', .slice gA' m' gc'] := Row.new_at _ _ (by simp) _ _ _ rfl
  replace hR0 := hR0.alloc (.cells #[.int .u64 (v' : Int), .slice eA' n' ec', .slice gA' m' gc'] 26)
  have hB : Below w.heap.size w ((w.alloc (.cells #[.int .u64 (v : Int), .slice eA n ec, .slice gA m gc] 26)).alloc (.cells #[.int .u64 (v' : Int), .slice eA' n' ec', .slice gA' m' gc'] 26)) := below_new (below_new (Below.refl _ _) _) _
  unfold aggB
  go_enter Tryz.func17, Tryz.ntmps17
  go_upto_region 1 with fail
  generalize (w.alloc (.cells #[.int .u64 (v : Int), .slice eA n ec, .slice gA m gc] 26)).alloc (.cells #[.int .u64 (v' : Int), .slice eA' n' ec', .slice gA' m' gc'] 26) = w3 at hR0 hR1 hB ⊢
  have c0 : w3.cell? ⟨w.heap.size, 0, none⟩ = some (.int .u64 (v : Int)) := hR0.cell rfl
  have c1 : w3.cell? ⟨w.heap.size, 1, none⟩ = some (.slice eA n ec) := hR0.cell rfl
  have c2 : w3.cell? ⟨w.heap.size, 2, none⟩ = some (.slice gA m gc) := hR0.cell rfl
  have d0 : w3.cell? ⟨w.heap.size + 1, 0, none⟩ = some (.int .u64 (v' : Int)) := hR1.cell rfl
  have d1 : w3.cell? ⟨w.heap.size + 1, 1, none⟩ = some (.slice eA' n' ec') := hR1.cell rfl
  have d2 : w3.cell? ⟨w.heap.size + 1, 2, none⟩ = some (.slice gA' m' gc') := hR1.cell rfl
  have HB := Lib.hid hB
  clear hB
  by_cases h1 : v = v'
  · subst h1
    by_cases h2 : n = n'
    · subst h2
      go_wp2_with fail
      refine (same15_any gs gs' m m' gc gc' gA gA' _ HM HM' (hrg.keep HB.out) (hrg'.keep HB.out) hm).mono ?_
      rintro e₁ w4 ⟨rfl, hb4⟩
      have HB4 := Lib.hid (below_step HB.out hb4)
      have hR04 := hR0.later hb4
      have hR14 := hR1.later hb4
      have hre4 := hre.keep HB4.out
      have hre4' := hre'.keep HB4.out
      have hoe4 := hoe.keep HB4.out
      have hoe4' := hoe'.keep HB4.out
      clear c0 c1 c2 d0 d1 d2 hb4
      by_cases h3 : gs = gs'
      · rw [decide_eq_true h3]
        have HPE : Hid (P = decide (conE es = conE es')) := by
          unfold Hid
          rw [← HP.out, h3]
          simp
        go_wp2_with fail
        go_loopw [5] (fun i wr => (∃ j : Nat, i = .int .i64 (j : Int) ∧ j ≤ n ∧ (conE es).take j = (conE es').take j) ∧ Below w4.heap.size w4 wr) (fun i _ => n - (intOf i).toNat)
        case atStart => exact ⟨⟨0, rfl, by omega, by simp⟩, Below.refl _ _⟩
        case round =>
          obtain ⟨⟨j, rfl, hj, htk⟩, hB⟩ := hrel
          have HB5 := Lib.hid (below_step HB4.out hB)
          have hR05 := hR04.later hB
          have hR15 := hR14.later hB
          by_cases hlt : j < n
          · have hjl : j < es.length := by rw [HN.out]; exact hlt
            have hjm : j < es'.length := by rw [HN'.out]; exact hlt
            obtain ⟨b, o, rfl, hb, hrng, p0, p1, p2⟩ := hre4.one hjl
            obtain ⟨b2, o2, rfl, hb2, hrng2, q0, q1, q2⟩ := hre4'.one hjm
            replace p0 := (hB.cell (p := ⟨b, o + j * 3, none⟩) hb).trans p0
            replace p1 := (hB.cell (p := ⟨b, o + j * 3 + 1, none⟩) hb).trans p1
            replace p2 := (hB.cell (p := ⟨b, o + j * 3 + 2, none⟩) hb).trans p2
            replace q0 := (hB.cell (p := ⟨b2, o2 + j * 3, none⟩) hb2).trans q0
            replace q1 := (hB.cell (p := ⟨b2, o2 + j * 3 + 1, none⟩) hb2).trans q1
            replace q2 := (hB.cell (p := ⟨b2, o2 + j * 3 + 2, none⟩) hb2).trans q2
            have hx := (hoe4 _ (List.getElem_mem hjl)).keep hB
            have hy := (hoe4' _ (List.getElem_mem hjm)).keep hB
            have HT : Hid (es[j].con = es'[j].con → (conE es).take (j + 1) = (conE es').take (j + 1)) := fun h => by
              rw [List.take_succ_eq_append_getElem (by rw [conE_length]; exact hjl), List.take_succ_eq_append_getElem (by rw [conE_length]; exact hjm), htk, conE_get es j hjl, conE_get es' j hjm, h]
            have HI : Hid (¬ es[j].con = es'[j].con → decide (conE es = conE es') = false) := fun h => by
              rw [decide_eq_false_iff_not]
              intro e
              have h1 := conE_get es j hjl
              have h2 := conE_get es' j hjm
              simp only [e] at h1
              exact h (h1.symm.trans h2)
            generalize es[j] = x at p0 p1 p2 hx HT HI
            generalize es'[j] = y at q0 q1 q2 hy HT HI
            obtain ⟨xt, xe, xA, xc, xs⟩ := x
            obtain ⟨yt, ye, yA, yc, ys⟩ := y
            obtain ⟨_, hxr⟩ := hx
            obtain ⟨_, hyr⟩ := hy
            unfold ED.con at HT HI
            unfold ED.at2 at p2 q2
            unfold vNG at p0 p1 q0 q1
            dsimp only at p0 p1 p2 q0 q1 q2 hxr hyr HT HI
            have e0 : ∀ W, Below wr.heap.size wr W → W.cell? ⟨b, o + j * 3, none⟩ = some (.int .u64 (xt : Int)) := fun W hW => (hW.cell (p := ⟨b, o + j * 3, none⟩) (World.block_lt_of_cell? wr _ p0)).trans p0
            have e1 : ∀ W, Below wr.heap.size wr W → W.cell? ⟨b, o + j * 3 + 1, none⟩ = some (.int .u64 (xe : Int)) := fun W hW => (hW.cell (p := ⟨b, o + j * 3 + 1, none⟩) (World.block_lt_of_cell? wr _ p1)).trans p1
            have e2 : ∀ W, Below wr.heap.size wr W → W.cell? ⟨b, o + j * 3 + 2, none⟩ = some (.slice xA xs.length xc) := fun W hW => (hW.cell (p := ⟨b, o + j * 3 + 2, none⟩) (World.block_lt_of_cell? wr _ p2)).trans p2
            have f0 : ∀ W, Below wr.heap.size wr W → W.cell? ⟨b2, o2 + j * 3, none⟩ = some (.int .u64 (yt : Int)) := fun W hW => (hW.cell (p := ⟨b2, o2 + j * 3, none⟩) (World.block_lt_of_cell? wr _ q0)).trans q0
            have f1 : ∀ W, Below wr.heap.size wr W → W.cell? ⟨b2, o2 + j * 3 + 1, none⟩ = some (.int .u64 (ye : Int)) := fun W hW => (hW.cell (p := ⟨b2, o2 + j * 3 + 1, none⟩) (World.block_lt_of_cell? wr _ q1)).trans q1
            have f2 : ∀ W, Below wr.heap.size wr W → W.cell? ⟨b2, o2 + j * 3 + 2, none⟩ = some (.slice yA ys.length yc) := fun W hW => (hW.cell (p := ⟨b2, o2 + j * 3 + 2, none⟩) (World.block_lt_of_cell? wr _ q2)).trans q2
            have c1w : wr.cell? ⟨w.heap.size, 1, none⟩ = some (.slice (some ⟨b, o, none⟩) n ec) := hR05.cell rfl
            have c1 : ∀ W, Below wr.heap.size wr W → W.cell? ⟨w.heap.size, 1, none⟩ = some (.slice (some ⟨b, o, none⟩) n ec) := fun W hW => (hR05.later hW).cell rfl
            have d1 : ∀ W, Below wr.heap.size wr W → W.cell? ⟨w.heap.size + 1, 1, none⟩ = some (.slice (some ⟨b2, o2, none⟩) n ec') := fun W hW => (hR15.later hW).cell rfl
            have i2 : (0 : Int) ≤ (j : Int) := by omega
            have i3 : (j : Int) < (n : Int) := by omega
            have HXR := Lib.hid hxr
            have HYR := Lib.hid hyr
            have HBr := Lib.hid hB
            generalize hxl : xs.length = xl at e2
            generalize hyl : ys.length = yl at f2
            have HXL := Lib.hid hxl
            have HYL := Lib.hid hyl
            clear hB htk p0 p1 p2 q0 q1 q2 hrng hrng2 hxr hyr hxl hyl hR04 hR14 hR05 hR15 hre4 hre4' hoe4 hoe4'
            go_wp2_with fail
            have hBase := (Below.refl wr.heap.size wr).drew
            refine wp_region_plan (.step 0 false (.step 1 false (.step 2 false (.step 3 false (.step 4 false (.step 5 false (.step 6 false (.step 7 false (.step 8 false (.step 9 false (.step 10 true (.step 11 false (.nil))))))))))))) (by kernel_rfl) (by kernel_rfl) (by rfl) (by kernel_rfl) ?_
            iterate 10 (refine plan_read rfl (by rfl) (v := ?_) ?_ ?_; rotate_left 1; (intro W hW; have hW0 := below_step hBase hW; (try dsimp only at hW); go_simp <;> with_reducible rfl); simp only [List.getElem_toArray, List.getElem_cons_zero, List.getElem_cons_succ, Act.put, List.setIfInBounds_toArray, List.set_cons_zero, List.set_cons_succ])
            (refine plan_make rfl (by rfl) (fun K hK => ?_); go_simp; (refine (refentryB_any xt xe yt ye xs ys xl xc yl yc xA yA _ HXL HYL (HXR.out.keep hBase) (HYR.out.keep hBase)).mono ?_; rintro e₁ w5 ⟨rfl, hbx⟩); refine hK.out _ _ hbx ?_; clear hK K; replace hBase := below_step hBase hbx)
            have HB6 := Lib.hid (below_step HBr.out hBase)
            have HB7 := Lib.hid (below_step HB4.out HB6.out)
            by_cases hxy : (xt, xe, xs) = (yt, ye, ys)
            · rw [decide_eq_true hxy]
              have HT2 := Lib.hid (HT.out hxy)
              clear hxy
              iterate 1 (refine plan_read rfl (by rfl) (v := ?_) ?_ ?_; rotate_left 1; (intro W hW; have hW0 := below_step hBase hW; (try dsimp only at hW); go_simp <;> with_reducible rfl); simp only [List.getElem_toArray, List.getElem_cons_zero, List.getElem_cons_succ, Act.put, List.setIfInBounds_toArray, List.set_cons_zero, List.set_cons_succ])
              refine plan_done ?_
              clear c1 c1w d1 e0 e1 e2 f0 f1 f2
              go_wp2_with fail
              go_roundw
              case rel => exact ⟨⟨j + 1, by go_num, by omega, HT2.out⟩, HB6.out⟩
              case measure => simp [intOf]; omega
            · rw [decide_eq_false hxy]
              have HH : Hid (P = false) := HPE.out.trans (HI.out hxy)
              clear hxy
              iterate 1 (refine plan_read rfl (by rfl) (v := ?_) ?_ ?_; rotate_left 1; (intro W hW; have hW0 := below_step hBase hW; (try dsimp only at hW); go_simp <;> with_reducible rfl); simp only [List.getElem_toArray, List.getElem_cons_zero, List.getElem_cons_succ, Act.put, List.setIfInBounds_toArray, List.set_cons_zero, List.set_cons_succ])
              refine plan_done ?_
              clear c1 c1w d1 e0 e1 e2 f0 f1 f2
              go_wp2_with fail
              go_ret
              exact ⟨by rw [HH.out]; rfl, HB7.out⟩
          · have HH : Hid (P = true) := by
              unfold Hid
              rw [HPE.out, decide_eq_true_iff]
              have : j = n := by omega
              subst this
              have h1 := List.take_of_length_le (l := conE es) (i := j) (by rw [conE_length, HN.out]; exact Nat.le_refl _)
              have h2 := List.take_of_length_le (l := conE es') (i := j) (by rw [conE_length, HN'.out]; exact Nat.le_refl _)
              rw [← h1, ← h2, htk]
            have j1 : ¬ (j : Int) < (n : Int) := by omega
            have c1w : wr.cell? ⟨w.heap.size, 1, none⟩ = some (.slice eA n ec) := hR05.cell rfl
            clear hB htk
            go_wp2_with fail
            go_ret
            exact ⟨by rw [HH.out]; rfl, HB5.out⟩
      · rw [decide_eq_false h3]
        have HPF : Hid (P = false) := by unfold Hid; rw [← HP.out]; simp [h3]
        go_wp2_with fail
        go_ret
        exact ⟨by rw [HPF.out]; rfl, HB4.out⟩
    · have HPF : Hid (P = false) := by
        unfold Hid
        rw [← HP.out, decide_eq_false_iff_not]
        intro e
        injection e with _ e
        injection e with e _
        have := congrArg List.length e
        rw [conE_length, conE_length, HN.out, HN'.out] at this
        exact h2 this
      have hne : ((n : Int) != (n' : Int)) = true := by simp; omega
      have hnd : (n != n') = true := by simp; omega
      go_wp2_with fail
      go_ret
      exact ⟨by rw [HPF.out]; rfl, HB.out⟩
  · have HPF : Hid (P = false) := by unfold Hid; rw [← HP.out]; simp [h1]
    have hne : ((v : Int) != (v' : Int)) = true := by simp; omega
    have hnd : (v != v') = true := by simp; omega
    go_wp2_with fail
    go_ret
    exact ⟨by rw [HPF.out]; rfl, HB.out⟩
end Go.Proofs.YtmljhkdojopljaaGreatDoor
/-
  A literal's bytes, converted to their own type: a row with a frozen mark reads as the bytes did (no program is named here). No conditions but those typed.
-/
namespace Go.Proofs.YtmljhkdojopljaaGreatDoor
set_option maxRecDepth 100000
open Go.RowKit

theorem Rd.new_fr {α : Type} {f : α → Value} (w : World) (g : Nat) (hg : g = w.heap.size) (l : List α) (cs : Array Value) (e : TypeId) (fr : Nat × Nat) (h : cs = (l.map f).toArray) : Rd f (w.alloc (.cells cs e fr)) (some ⟨g, 0, none⟩) l := fun _ => by
  subst hg
  refine ⟨w.heap.size, 0, rfl, fun i hi => ?_⟩
  subst h
  rw [cell_of_row _ w.heap.size (0 + i) _ e fr (heap_alloc_new w _)]
  simp [hi]
end Go.Proofs.YtmljhkdojopljaaGreatDoor
/-
  What the calls awake and small of layer 16's statements answer. Conditions: the package's table holds sixty-four words (for tags); errors.errorType holds the handle of the type error (EtC).
-/
namespace Go.Proofs.YtmljhkdojopljaaGreatDoor
set_option maxRecDepth 100000
open Go.RowKit
set_option linter.unusedSimpArgs false
set_option linter.unusedVariables false

def smallB (cs : List Tm) (n m : Nat) : Bool := shortT cs && (decide (n ≤ 300) && decide (m ≤ 4000))
theorem smallB_any (K : Int) (ts : List TD) (p n m : Nat) (A B D : Option Addr) (c bd f : Nat) (w : World) (HP : Hid (ts.length = p)) (ht : RdT w A ts) (hml : ∀ x ∈ ts, x.k.length ≤ 9223372036854775807 ∧ x.m.length ≤ 9223372036854775807) (hp : p ≤ 9223372036854775807) (hn : n ≤ 9223372036854775807) (hm : m ≤ 9223372036854775807) :
    Calls Tryz.prog 18 #[.agg #[.int .i64 K, .slice A p c], .slice B n bd, .slice D m f] w fun e w' => e = .returned (.bool (smallB (conT ts) n m)) ∧ Below w.heap.size w w' := by
  obtain ⟨hR, hB⟩ := box_rows w 48 (.int .i64 K) (.slice A p c)
  replace ht := ht.keep hB
  obtain ⟨R, hR'⟩ : ∃ R, smallB (conT ts) n m = R := ⟨_, rfl⟩
  rw [hR']
  unfold smallB at hR'
  obtain ⟨S, hS⟩ : ∃ S, shortT (conT ts) = S := ⟨_, rfl⟩
  have HS := Lib.hid hS
  rw [hS] at hR'
  have HR' := Lib.hid hR'
  clear hS hR'
  go_enter Tryz.func18, Tryz.ntmps18
  go_upto_region 1 with fail
  generalize (w.alloc (.cells #[.int .i64 K, .slice A p c] 48)) = w1 at hR hB ht ⊢
  have c0 : w1.cell? ⟨w.heap.size, 1, none⟩ = some (.slice A p c) := hR.cell rfl
  go_wp2_with fail
  refine (refshort_any ts p A c _ HP ht hml hp).mono ?_
  rintro e' w3 ⟨rfl, rfl⟩
  rw [HS.out]
  cases S with
  | false =>
    have eR : R = false := HR'.out.symm
    subst eR
    clear HR'
    go_wp2_with fail
    go_ret
    exact ⟨rfl, hB⟩
  | true =>
    by_cases h1 : n ≤ 300
    · have g1 : decide ((n : Int) ≤ 300) = true := decide_eq_true (by omega)
      have z1 : (n : Int) ≤ 300 := by omega
      by_cases h2 : m ≤ 4000
      · have g2 : decide ((m : Int) ≤ 4000) = true := decide_eq_true (by omega)
        have z2 : (m : Int) ≤ 4000 := by omega
        have eR : R = true := by rw [← HR'.out, decide_eq_true h1, decide_eq_true h2]; rfl
        subst eR
        clear h1 h2 HR'
        go_wp2_with fail
        go_ret
        exact ⟨rfl, hB⟩
      · have g2 : decide ((m : Int) ≤ 4000) = false := decide_eq_false (by omega)
        have z2 : ¬ (m : Int) ≤ 4000 := by omega
        have eR : R = false := by rw [← HR'.out, decide_eq_true h1, decide_eq_false h2]; rfl
        subst eR
        clear h1 h2 HR'
        go_wp2_with fail
        go_ret
        exact ⟨rfl, hB⟩
    · have g1 : decide ((n : Int) ≤ 300) = false := decide_eq_false (by omega)
      have z1 : ¬ (n : Int) ≤ 300 := by omega
      have eR : R = false := by rw [← HR'.out, decide_eq_false h1]; rfl
      subst eR
      clear h1 HR'
      go_wp2_with fail
      go_ret
      exact ⟨rfl, hB⟩


/-! ### awake -/
theorem RdE.of_row {W : World} {g : Nat} {x : ED} (h : Row W g 35 x.cells) : RdE W (some ⟨g, 0, none⟩) [x] := fun _ => by
  refine ⟨g, 0, rfl, fun i hi => ?_⟩
  have e : i = 0 := by simpa using hi
  subst e
  exact ⟨h.cell rfl, h.cell rfl, h.cell rfl⟩
theorem RdG.of_row {W : World} {g : Nat} {x : Gn} (h : Row W g 60 (cellG x)) : RdG W (some ⟨g, 0, none⟩) [x] := fun _ => by
  refine ⟨g, 0, rfl, fun i hi => ?_⟩
  have e : i = 0 := by simpa using hi
  subst e
  exact ⟨h.cell rfl, h.cell rfl⟩
def bwE : List En := [(3, 1, [115])]
def bwG : List Gn := [(2, 1)]
def bwB : List UInt8 := bytesB 7 bwE bwG
theorem bw_right : rightB bwE bwG = true := by decide +kernel
theorem bw_len : bwB.length = 45 := by decide +kernel
theorem bw_fit : fitE bwE ∧ fitG bwG := by
  constructor
  · intro x hx
    rw [List.mem_singleton.1 hx]
    decide
  · intro x hx
    rw [List.mem_singleton.1 hx]
    decide
theorem bw_open [Inhabited Tab] : openB 2 (termsE 2 [] ([107], bwB)) [107] (sealBx 2 [] [107] 7 bwE bwG) = (7, bwE, bwG, 45, 0) := by
  have := openB_made (K := 2) (cs := []) (key := [107]) bw_right (v := 7) (by decide) bw_fit.1 bw_fit.2 (by decide +kernel)
  rw [show (bytesB 7 bwE bwG).length = 45 from bw_len] at this
  exact this
theorem bw_shut [Inhabited Tab] : openB 2 (termsE 2 [] ([107], bwB)) [108] (sealBx 2 [] [107] 7 bwE bwG) = badB 5 :=
  openB_unfit bw_right (by decide) bw_fit.1 bw_fit.2 (by
    have e : termsE 2 [] ([107], bwB) = [([107], bwB)] := by
      unfold termsE
      rw [if_pos (by decide)]
      rfl
    show ([108], bwB) ∉ termsE 2 [] ([107], bwB)
    rw [e]
    intro h
    have := List.mem_singleton.1 h
    injection this with this _
    exact absurd this (by decide))
theorem bw_lenT : lenT (termsE 2 [] ([107], bwB)) := by
  unfold termsE
  rw [if_pos (by decide)]
  exact lenT.nil.put (by decide) (by rw [bw_len]; decide)
theorem bw_xlen [Inhabited Tab] : (sealBx 2 [] [107] 7 bwE bwG).length = 53 := by
  rw [sealBx_length]
  show bwB.length + 8 = 53
  rw [bw_len]
theorem bw_x8 [Inhabited Tab] : (sealBx 2 [] [107] 7 bwE bwG)[8]'(by rw [bw_xlen]; omega) = 7 := by
  unfold sealBx
  rw [List.getElem_append_left (by show 8 < bwB.length; rw [bw_len]; omega)]
  decide +kernel
theorem bw_cell [Inhabited Tab] {w : World} {A : Option Addr} (h : Rd vB w A (sealBx 2 [] [107] 7 bwE bwG)) : ∃ g o, A = some ⟨g, o, none⟩ ∧ ∀ W, Below w.heap.size w W → W.cell? ⟨g, o + 8, none⟩ = some (.int .u8 7) := by
  obtain ⟨g, o, rfl, hg, hc⟩ := h.at (k := 8) (by rw [bw_xlen]; omega)
  refine ⟨g, o, rfl, fun W hW => (hW.cell (p := ⟨g, o + 8, none⟩) hg).trans ?_⟩
  rw [hc 8 (by rw [bw_xlen]; omega), bw_x8]
  rfl
theorem okT_nilB (w : World) : okT w [] := fun x hx => by cases hx
theorem bw_one {es : List ED} (h : conE es = bwE) : ∃ x, es = [x] ∧ x.con = (3, 1, [115]) := by
  have hl := congrArg List.length h
  rw [conE_length] at hl
  match es, hl, h with
  | [x], _, h =>
    injection h with h _
    exact ⟨x, rfl, h⟩
theorem find_three {w w' : World} {es : List ED} {e : Ending} (h : conE es = bwE) (hf : RetFind w es 3 e w') : ∃ A c, e = .returned (.tuple #[aggN 3 1 A 1 c, .int .i64 0]) ∧ Rd vB w' A [115] ∧ Below w.heap.size w w' := by
  obtain ⟨x, rfl, hx⟩ := bw_one h
  obtain ⟨t, en, A, q, c, code, s, rfl, hq, hqc, hr, hb, hD⟩ := hf
  have ht : x.t = 3 := congrArg Prod.fst hx
  rcases hD.out with ⟨k, hk, rfl, _, h3⟩ | ⟨_, h2, _⟩
  · have : k = 0 := by simpa using hk
    subst this
    have h4 : (t, en, s) = (3, 1, [115]) := h3.trans hx
    injection h4 with a1 h4
    injection h4 with a2 a3
    subst a1 a2 a3
    have eq : q = 1 := hq.out.symm
    subst eq
    exact ⟨A, c, rfl, hr, hb⟩
  · rcases h2 with ⟨k, _, h3, _⟩ | ⟨_, h3⟩
    · omega
    · exact absurd ht (h3 x (List.mem_singleton.2 rfl))
theorem find_two {w w' : World} {es : List ED} {e : Ending} (h : conE es = bwE) (hf : RetFind w es 2 e w') : ∃ t en A q c, e = .returned (.tuple #[aggN t en A q c, .int .i64 7]) ∧ Below w.heap.size w w' := by
  obtain ⟨x, rfl, hx⟩ := bw_one h
  obtain ⟨t, en, A, q, c, code, s, rfl, hq, hqc, hr, hb, hD⟩ := hf
  have ht : x.t = 3 := congrArg Prod.fst hx
  rcases hD.out with ⟨k, hk, _, h2, _⟩ | ⟨rfl, _, _⟩
  · rcases h2 with ⟨k', hk', _, h3, _⟩ | ⟨h3, _⟩
    · have : k' = 0 := by simpa using hk'
      subst this
      have h4 : x.t = 2 := h3
      rw [ht] at h4
      exact absurd h4 (by decide)
    · omega
  · exact ⟨t, en, A, q, c, rfl, hb⟩

set_option maxHeartbeats 16000000 in
theorem awake16_any [Inhabited Tab] (w : World) (HK : Hid (KTab w)) (hg : EtC w) : Calls Tryz.prog 6 #[] w fun e w' => e = .returned (.bool true) ∧ Below w.heap.size w w' := by
  go_enter Tryz.func6, Tryz.ntmps6
  have hcv := Lib.run_convert_bytes_const (P := Tryz.prog) w 27 5 #[.int .u8 115] 1 1 Tryz.underlying27 Tryz.underlying5
  have hs0 : Rd vB (w.alloc (.cells #[.int .u8 115] 5 (1, 2))) (some ⟨w.heap.size, 0, none⟩) [115] := Rd.new_fr w _ rfl _ _ _ _ rfl
  have hb0 := below_new (Below.refl _ w) (.cells #[.int .u8 115] 5 (1, 2))
  have hRE : Row ((w.alloc (.cells #[.int .u8 115] 5 (1, 2))).alloc (.cells #[.int .u64 3, .int .u64 1, .slice (some ⟨w.heap.size, 0, none⟩) 1 1] 35)) (w.heap.size + 1) 35 (ED.mk 3 1 (some ⟨w.heap.size, 0, none⟩) 1 [115]).cells := Row.new_at _ _ (by simp) _ _ _ rfl
  have hb1 := below_new (Below.refl _ (w.alloc (.cells #[.int .u8 115] 5 (1, 2)))) (.cells #[.int .u64 3, .int .u64 1, .slice (some ⟨w.heap.size, 0, none⟩) 1 1] 35)
  have hRG : Row (((w.alloc (.cells #[.int .u8 115] 5 (1, 2))).alloc (.cells #[.int .u64 3, .int .u64 1, .slice (some ⟨w.heap.size, 0, none⟩) 1 1] 35)).alloc (.cells #[.int .u64 2, .int .u64 1] 60)) (w.heap.size + 2) 60 (cellG (2, 1)) := Row.new_at _ _ (by simp) _ _ _ rfl
  have hb2 := below_new hb1 (.cells #[.int .u64 2, .int .u64 1] 60)
  replace hRE := hRE.alloc (.cells #[.int .u64 2, .int .u64 1] 60)
  have hRn : Row ((((w.alloc (.cells #[.int .u8 115] 5 (1, 2))).alloc (.cells #[.int .u64 3, .int .u64 1, .slice (some ⟨w.heap.size, 0, none⟩) 1 1] 35)).alloc (.cells #[.int .u64 2, .int .u64 1] 60)).alloc (.cells #[.int .u64 0, .slice none 0 0, .slice none 0 0] 26)) (w.heap.size + 3) 26 zeroB := Row.new_at _ _ (by simp) _ _ _ rfl
  have hb3 := below_new hb2 (.cells #[.int .u64 0, .slice none 0 0, .slice none 0 0] 26)
  replace hRE := hRE.alloc (.cells #[.int .u64 0, .slice none 0 0, .slice none 0 0] 26)
  replace hRG := hRG.alloc (.cells #[.int .u64 0, .slice none 0 0, .slice none 0 0] 26)
  replace hs0 := hs0.keep hb3
  have hB := below_step hb0 hb3
  go_upto_region 1 with fail
  go_upto_region 2 with (refine wpList_store_row rfl 26 (.tmp 1) (.tmp 21) rfl (w.heap.size + 3) rfl [.int .u64 7, .slice (some ⟨w.heap.size + 1, 0, none⟩) 1 1, .slice (some ⟨w.heap.size + 2, 0, none⟩) 1 1] rfl _ _ hRn (by exact size_bundle) rfl (one_three _ _ _ rfl rfl rfl) ?_)
  have hRb := hRn.setRow [.int .u64 7, .slice (some ⟨w.heap.size + 1, 0, none⟩) 1 1, .slice (some ⟨w.heap.size + 2, 0, none⟩) 1 1]
  replace hs0 := hs0.setRow_row hRn bun_no_byte [.int .u64 7, .slice (some ⟨w.heap.size + 1, 0, none⟩) 1 1, .slice (some ⟨w.heap.size + 2, 0, none⟩) 1 1].toArray
  replace hRE := hRE.setRow_other (k := w.heap.size + 3) (by omega) [.int .u64 7, .slice (some ⟨w.heap.size + 1, 0, none⟩) 1 1, .slice (some ⟨w.heap.size + 2, 0, none⟩) 1 1].toArray
  replace hRG := hRG.setRow_other (k := w.heap.size + 3) (by omega) [.int .u64 7, .slice (some ⟨w.heap.size + 1, 0, none⟩) 1 1, .slice (some ⟨w.heap.size + 2, 0, none⟩) 1 1].toArray
  replace hB := below_setRow hB (Nat.le_add_right _ 3) [.int .u64 7, .slice (some ⟨w.heap.size + 1, 0, none⟩) 1 1, .slice (some ⟨w.heap.size + 2, 0, none⟩) 1 1].toArray
  generalize ((((w.alloc (.cells #[.int .u8 115] 5 (1, 2))).alloc (.cells #[.int .u64 3, .int .u64 1, .slice (some ⟨w.heap.size, 0, none⟩) 1 1] 35)).alloc (.cells #[.int .u64 2, .int .u64 1] 60)).alloc (.cells #[.int .u64 0, .slice none 0 0, .slice none 0 0] 26)).setRow (w.heap.size + 3) [.int .u64 7, .slice (some ⟨w.heap.size + 1, 0, none⟩) 1 1, .slice (some ⟨w.heap.size + 2, 0, none⟩) 1 1].toArray = w1 at hRb hs0 hRE hRG hB ⊢
  clear hcv hb0 hb1 hb2 hb3 hRn
  have hre : RdE w1 (some ⟨w.heap.size + 1, 0, none⟩) [ED.mk 3 1 (some ⟨w.heap.size, 0, none⟩) 1 [115]] := RdE.of_row hRE
  have hoe : okD w1 [ED.mk 3 1 (some ⟨w.heap.size, 0, none⟩) 1 [115]] := fun x hx => by rw [List.mem_singleton.1 hx]; exact ⟨Nat.le_refl _, hs0⟩
  have hrg : RdG w1 (some ⟨w.heap.size + 2, 0, none⟩) [(2, 1)] := RdG.of_row hRG
  have HC0 : Hid (conE [ED.mk 3 1 (some ⟨w.heap.size, 0, none⟩) 1 [115]] = bwE) := rfl
  have HG0 : Hid (([(2, 1)] : List Gn) = bwG) := rfl
  have HL0 : Hid (([ED.mk 3 1 (some ⟨w.heap.size, 0, none⟩) 1 [115]] : List ED).length = 1) := rfl
  have HM0 : Hid (∀ x ∈ ([ED.mk 3 1 (some ⟨w.heap.size, 0, none⟩) 1 [115]] : List ED), x.s.length ≤ 9223372036854775807) := fun x hx => by rw [List.mem_singleton.1 hx]; show ([115] : List UInt8).length ≤ 9223372036854775807; decide
  have HN0 : Hid (([(2, 1)] : List Gn).length = 1) := rfl
  generalize ([ED.mk 3 1 (some ⟨w.heap.size, 0, none⟩) 1 [115]] : List ED) = es0 at hre hoe HC0 HL0 HM0
  generalize ([(2, 1)] : List Gn) = gs0 at hrg HG0 HN0
  generalize (some ⟨w.heap.size + 1, 0, none⟩ : Option Addr) = eA0 at hre hRb ⊢
  generalize (some ⟨w.heap.size + 2, 0, none⟩ : Option Addr) = gA0 at hrg hRb ⊢
  generalize hgb : w.heap.size + 3 = gb at hRb ⊢
  clear hgb hs0 hRE hRG
  replace HK := Lib.hid (HK.out.keep hB)
  replace hg := hg.later hB
  -- Seal
  have hcv := Lib.run_convert_bytes_const (P := Tryz.prog) w1 27 5 #[.int .u8 107] 1 1 Tryz.underlying27 Tryz.underlying5
  have hk0 : Rd vB (w1.alloc (.cells #[.int .u8 107] 5 (1, 2))) (some ⟨w1.heap.size, 0, none⟩) [107] := Rd.new_fr w1 _ rfl _ _ _ _ rfl
  have hbk := below_new (Below.refl _ w1) (.cells #[.int .u8 107] 5 (1, 2))
  have hRb1 := hRb.later hbk
  go_wp2_with (refine wpList_load_part rfl 26 (.tmp 1) rfl gb 0 rfl _ _ hRb1 [.int .u64 7, .slice eA0 1 1, .slice gA0 1 1] (by rfl) _ Tryz.underlying26 rfl (by exact size_bundle) ?_)
  clear hcv hRb1
  refine (sealB_good 2 [] [107] 0 1 none (some ⟨w1.heap.size, 0, none⟩) 0 1 7 1 1 1 1 es0 gs0 eA0 gA0 _ (Lib.hid rfl) (Lib.hid lenT.nil) RdT.nil (okT_nilB _) (by omega) (by omega) HL0 HN0 (hre.keep hbk) (hoe.keep hbk) (hrg.keep hbk) (by omega) (by rw [HC0.out]; exact bw_fit.1) (by unfold Hid; rw [HG0.out]; exact bw_fit.2) (by omega) (by omega) HM0.out (by rw [HC0.out, HG0.out]; exact bw_right) (Lib.hid rfl) hk0 (by omega) (by omega) (Lib.hid (by decide +kernel)) (Lib.hid (HK.out.keep hbk))).mono ?_
  rw [HC0.out, HG0.out]
  rintro e' w2 ⟨us, p, A2, c2, n, tA, tc, rfl, HP, hpc, htu, hoku, HC, HSL, hntc, hrt, hb⟩
  have hrt' : Rd vB w2 tA (sealBx 2 [] [107] 7 bwE bwG) := hrt
  have HSL' : Hid ((sealBx 2 [] [107] 7 bwE bwG).length = n) := HSL
  have en : n = 53 := HSL'.out.symm.trans bw_xlen
  subst en
  replace hb := below_step hbk hb
  replace hRb := hRb.later hb
  replace hre := hre.keep hb
  replace hoe := hoe.keep hb
  replace hrg := hrg.keep hb
  replace HK := Lib.hid (HK.out.keep hb)
  replace hg := hg.later hb
  replace hB := below_step hB hb
  clear hb
  clear hbk hk0 hrt HSL
  have hRn : Row (w2.alloc (.cells #[.int .i64 0, .slice none 0 0] 48)) w2.heap.size 48 [.int .i64 0, .slice none 0 0] := Row.new w2 _ _ _ rfl
  go_upto_region 3 with (refine wpList_store_row rfl 48 (.tmp 2) (.tmp 28) rfl w2.heap.size rfl [.int .i64 2, .slice A2 p c2] rfl _ _ hRn (by exact size_engine) rfl (one_pair _ _ rfl rfl) ?_)
  have hRe := hRn.setRow [.int .i64 2, .slice A2 p c2]
  have hbn : Below w2.heap.size w2 ((w2.alloc (.cells #[.int .i64 0, .slice none 0 0] 48)).setRow w2.heap.size [.int .i64 2, .slice A2 p c2].toArray) := below_setRow (below_new (Below.refl _ _) _) (Nat.le_refl _) _
  generalize (w2.alloc (.cells #[.int .i64 0, .slice none 0 0] 48)).setRow w2.heap.size [.int .i64 2, .slice A2 p c2].toArray = w3 at hRe hbn ⊢
  replace hRb := hRb.later hbn
  replace hre := hre.keep hbn
  replace hoe := hoe.keep hbn
  replace hrg := hrg.keep hbn
  replace HK := Lib.hid (HK.out.keep hbn)
  replace hg := hg.later hbn
  replace hB := below_step hB hbn
  replace htu := htu.keep hbn
  replace hoku := hoku.keep hbn
  replace hrt' := hrt'.keep hbn
  clear hbn
  clear hRn
  generalize w2.heap.size = ge at hRe ⊢
  have HC' : Hid (conT us = termsE 2 [] ([107], bwB)) := HC
  have hp1 : p ≤ 1 := by
    have := congrArg List.length HC'.out
    rw [conT_length, HP.out] at this
    have h2 := termsE_le (K := 2) (cs := []) (([107], bwB) : Tm)
    rw [← this] at h2
    simpa using h2
  have HLT : Hid (lenT (conT us)) := by unfold Hid; rw [HC'.out]; exact bw_lenT
  have HO1 : Hid (openB 2 (conT us) [107] (sealBx 2 [] [107] 7 bwE bwG) = (7, bwE, bwG, 45, 0)) := by unfold Hid; rw [HC'.out]; exact bw_open
  have HO2 : Hid (openB 2 (conT us) [108] (sealBx 2 [] [107] 7 bwE bwG) = badB 5) := by unfold Hid; rw [HC'.out]; exact bw_shut
  obtain ⟨gx, ox, rfl, hx8⟩ := bw_cell hrt'
  have HX8 := Lib.hid hx8
  clear HC HC' hx8
  generalize sealBx 2 [] [107] 7 bwE bwG = X at hrt' HSL' HO1 HO2
  -- Open, by the key
  have hcv := Lib.run_convert_bytes_const (P := Tryz.prog) w3 27 5 #[.int .u8 107] 1 1 Tryz.underlying27 Tryz.underlying5
  have hk0 : Rd vB (w3.alloc (.cells #[.int .u8 107] 5 (1, 2))) (some ⟨w3.heap.size, 0, none⟩) [107] := Rd.new_fr w3 _ rfl _ _ _ _ rfl
  have hbk := below_new (Below.refl _ w3) (.cells #[.int .u8 107] 5 (1, 2))
  go_wp2_with (refine wpList_load_part rfl 48 (.tmp 2) rfl ge 0 rfl _ _ hRe [.int .i64 2, .slice A2 p c2] (by rfl) _ Tryz.underlying48 rfl (by exact size_engine) ?_)
  clear hcv
  refine (openB_any 2 us [107] X p 1 53 A2 (some ⟨w3.heap.size, 0, none⟩) (some ⟨gx, ox, none⟩) c2 1 tc _ HP HLT (htu.keep hbk) (hoku.keep hbk) (by omega) hpc (Lib.hid rfl) hk0 (by omega) (by omega) HSL' (hrt'.keep hbk) hntc (by omega) (Lib.hid (HK.out.keep hbk))).mono ?_
  rw [HO1.out]
  rintro e' w4 ⟨eA5, es5, n5, ec5, gA5, m5, gc5, ev5, rfl, HE5, HN5, HM5, hec5, hgc5, hre5, hoe5, hrg5, hb, hE5⟩
  dsimp only at HE5 HM5 hrg5 hE5 ⊢
  have eev : ev5 = .nilIface := by rcases hE5 with ⟨_, h⟩ | ⟨h, _⟩; exact h; exact absurd rfl h
  subst eev
  have en5 : n5 = 1 := by
    have := congrArg List.length HE5.out
    rw [conE_length, HN5.out] at this
    exact this
  subst en5
  have em5 : m5 = 1 := HM5.out.symm
  subst em5
  unfold aggB
  replace hb := below_step hbk hb
  obtain ⟨WX, hWX⟩ : ∃ W, W = w3 := ⟨_, rfl⟩
  have HBX := Lib.hid hb
  replace hRb := hRb.later hb
  replace hre := hre.keep hb
  replace hoe := hoe.keep hb
  replace hrg := hrg.keep hb
  replace HK := Lib.hid (HK.out.keep hb)
  replace hg := hg.later hb
  replace hB := below_step hB hb
  replace htu := htu.keep hb
  replace hoku := hoku.keep hb
  replace hrt' := hrt'.keep hb
  replace hRe := hRe.later hb
  clear hb
  clear hbk hk0 hE5 hWX WX
  have hRn : Row (w4.alloc (.cells #[.int .u64 0, .slice none 0 0, .slice none 0 0] 26)) w4.heap.size 26 zeroB := Row.new w4 _ _ _ rfl
  go_upto_region 4 with (refine wpList_store_row rfl 26 (.tmp 5) (.tmp 37) rfl w4.heap.size rfl [.int .u64 7, .slice eA5 1 ec5, .slice gA5 1 gc5] rfl _ _ hRn (by exact size_bundle) rfl (one_three _ _ _ rfl rfl rfl) ?_)
  have hRc := hRn.setRow [.int .u64 7, .slice eA5 1 ec5, .slice gA5 1 gc5]
  have hbn : Below w4.heap.size w4 ((w4.alloc (.cells #[.int .u64 0, .slice none 0 0, .slice none 0 0] 26)).setRow w4.heap.size [.int .u64 7, .slice eA5 1 ec5, .slice gA5 1 gc5].toArray) := below_setRow (below_new (Below.refl _ _) _) (Nat.le_refl _) _
  generalize (w4.alloc (.cells #[.int .u64 0, .slice none 0 0, .slice none 0 0] 26)).setRow w4.heap.size [.int .u64 7, .slice eA5 1 ec5, .slice gA5 1 gc5].toArray = w5 at hRc hbn ⊢
  replace HBX := Lib.hid (below_step HBX.out hbn)
  replace hRb := hRb.later hbn
  replace hre := hre.keep hbn
  replace hoe := hoe.keep hbn
  replace hrg := hrg.keep hbn
  replace HK := Lib.hid (HK.out.keep hbn)
  replace hg := hg.later hbn
  replace hB := below_step hB hbn
  replace htu := htu.keep hbn
  replace hoku := hoku.keep hbn
  replace hrt' := hrt'.keep hbn
  replace hRe := hRe.later hbn
  replace hre5 := hre5.keep hbn
  replace hoe5 := hoe5.keep hbn
  replace hrg5 := hrg5.keep hbn
  clear hbn
  clear hRn
  generalize w4.heap.size = gc at hRc ⊢
  -- Open, by another key
  have hcv := Lib.run_convert_bytes_const (P := Tryz.prog) w5 27 5 #[.int .u8 108] 1 1 Tryz.underlying27 Tryz.underlying5
  have hk0 : Rd vB (w5.alloc (.cells #[.int .u8 108] 5 (1, 2))) (some ⟨w5.heap.size, 0, none⟩) [108] := Rd.new_fr w5 _ rfl _ _ _ _ rfl
  have hbk := below_new (Below.refl _ w5) (.cells #[.int .u8 108] 5 (1, 2))
  go_wp2_with (refine wpList_load_part rfl 48 (.tmp 2) rfl ge 0 rfl _ _ hRe [.int .i64 2, .slice A2 p c2] (by rfl) _ Tryz.underlying48 rfl (by exact size_engine) ?_)
  clear hcv
  refine (openB_any 2 us [108] X p 1 53 A2 (some ⟨w5.heap.size, 0, none⟩) (some ⟨gx, ox, none⟩) c2 1 tc _ HP HLT (htu.keep hbk) (hoku.keep hbk) (by omega) hpc (Lib.hid rfl) hk0 (by omega) (by omega) HSL' (hrt'.keep hbk) hntc (by omega) (Lib.hid (HK.out.keep hbk))).mono ?_
  rw [HO2.out]
  rintro e' w6 ⟨eA7, es7, n7, ec7, gA7, m7, gc7, ev7, rfl, HE7, HN7, HM7, hec7, hgc7, hre7, hoe7, hrg7, hb, hE7⟩
  dsimp only [badB] at HE7 HM7 hrg7 hE7 ⊢
  obtain ⟨g7, rfl, hF⟩ : ∃ g, ev7 = errV g ∧ Flt w6 g 4 5 := by rcases hE7 with ⟨h, _⟩ | ⟨_, g, h1, h2⟩; exact absurd h (by decide); exact ⟨g, h1, h2⟩
  unfold aggB
  replace hb := below_step hbk hb
  replace HBX := Lib.hid (below_step HBX.out hb)
  replace hRb := hRb.later hb
  replace hre := hre.keep hb
  replace hoe := hoe.keep hb
  replace hrg := hrg.keep hb
  replace hg := hg.later hb
  replace hB := below_step hB hb
  replace hre5 := hre5.keep hb
  replace hoe5 := hoe5.keep hb
  replace hrg5 := hrg5.keep hb
  replace hRc := hRc.later hb
  clear hb
  clear hbk hk0 hE7 hre7 hoe7 hrg7 hRe htu hoku hrt' HK HLT HO1 HO2
  have hRn : Row (w6.alloc (.cells #[.int .u64 0, .slice none 0 0, .slice none 0 0] 26)) w6.heap.size 26 zeroB := Row.new w6 _ _ _ rfl
  go_upto_region 5 with (refine wpList_store_row rfl 26 (.tmp 7) (.tmp 45) rfl w6.heap.size rfl [.int .u64 0, .slice eA7 n7 ec7, .slice gA7 m7 gc7] rfl _ _ hRn (by exact size_bundle) rfl (one_three _ _ _ rfl rfl rfl) ?_)
  have hbn : Below w6.heap.size w6 ((w6.alloc (.cells #[.int .u64 0, .slice none 0 0, .slice none 0 0] 26)).setRow w6.heap.size [.int .u64 0, .slice eA7 n7 ec7, .slice gA7 m7 gc7].toArray) := below_setRow (below_new (Below.refl _ _) _) (Nat.le_refl _) _
  generalize (w6.alloc (.cells #[.int .u64 0, .slice none 0 0, .slice none 0 0] 26)).setRow w6.heap.size [.int .u64 0, .slice eA7 n7 ec7, .slice gA7 m7 gc7].toArray = w7 at hbn ⊢
  replace HBX := Lib.hid (below_step HBX.out hbn)
  replace hRb := hRb.later hbn
  replace hre := hre.keep hbn
  replace hoe := hoe.keep hbn
  replace hrg := hrg.keep hbn
  replace hg := hg.later hbn
  replace hB := below_step hB hbn
  replace hre5 := hre5.keep hbn
  replace hoe5 := hoe5.keep hbn
  replace hrg5 := hrg5.keep hbn
  replace hRc := hRc.later hbn
  replace hF := hF.later hbn
  clear hbn
  clear hRn
  go_wp2_with fail
  refine (told_flt g7 4 5 w7 hg hF).mono ?_
  rintro e' w8 ⟨rfl, hb⟩
  replace HBX := Lib.hid (below_step HBX.out hb)
  replace hRb := hRb.later hb
  replace hre := hre.keep hb
  replace hoe := hoe.keep hb
  replace hrg := hrg.keep hb
  replace hB := below_step hB hb
  replace hre5 := hre5.keep hb
  replace hoe5 := hoe5.keep hb
  replace hrg5 := hrg5.keep hb
  replace hRc := hRc.later hb
  clear hb
  clear hg hF
  have HMS : Hid (∀ x ∈ es5, x.s.length ≤ 70368744177664) := fun x hx => by
    obtain ⟨y, rfl, hy⟩ := bw_one HE5.out
    rw [List.mem_singleton.1 hx]
    have : y.s = [115] := congrArg (fun z => z.2.2) hy
    rw [this]
    decide
  go_upto_region 6 with fail
  go_wp2_with (refine wpList_load_part rfl 26 (.tmp 5) rfl gc 0 rfl _ _ hRc [.int .u64 7, .slice eA5 1 ec5, .slice gA5 1 gc5] (by rfl) _ Tryz.underlying26 rfl (by exact size_bundle) ?_)
  refine (findB_any 7 es5 1 ec5 1 gc5 3 eA5 gA5 _ HN5 hre5 hoe5 (by omega) HMS.out).mono ?_
  intro e' w9 hf
  obtain ⟨A9, c9, rfl, hr9, hb⟩ := find_three HE5.out hf
  replace HBX := Lib.hid (below_step HBX.out hb)
  replace hRb := hRb.later hb
  replace hre := hre.keep hb
  replace hoe := hoe.keep hb
  replace hrg := hrg.keep hb
  replace hB := below_step hB hb
  replace hre5 := hre5.keep hb
  replace hoe5 := hoe5.keep hb
  replace hrg5 := hrg5.keep hb
  replace hRc := hRc.later hb
  clear hb
  clear hf
  unfold aggN
  have hRn : Row (w9.alloc (.cells #[.int .u64 0, .int .u64 0, .slice none 0 0] 35)) w9.heap.size 35 [.int .u64 0, .int .u64 0, .slice none 0 0] := Row.new w9 _ _ _ rfl
  go_upto_region 7 with (refine wpList_store_row rfl 35 (.tmp 11) (.tmp 55) rfl w9.heap.size rfl [.int .u64 3, .int .u64 1, .slice A9 1 c9] rfl _ _ hRn (by exact size_entry) rfl (one_three _ _ _ rfl rfl rfl) ?_)
  have hRf := hRn.setRow [.int .u64 3, .int .u64 1, .slice A9 1 c9]
  have hbn : Below w9.heap.size w9 ((w9.alloc (.cells #[.int .u64 0, .int .u64 0, .slice none 0 0] 35)).setRow w9.heap.size [.int .u64 3, .int .u64 1, .slice A9 1 c9].toArray) := below_setRow (below_new (Below.refl _ _) _) (Nat.le_refl _) _
  generalize (w9.alloc (.cells #[.int .u64 0, .int .u64 0, .slice none 0 0] 35)).setRow w9.heap.size [.int .u64 3, .int .u64 1, .slice A9 1 c9].toArray = w10 at hRf hbn ⊢
  replace HBX := Lib.hid (below_step HBX.out hbn)
  replace hRb := hRb.later hbn
  replace hre := hre.keep hbn
  replace hoe := hoe.keep hbn
  replace hrg := hrg.keep hbn
  replace hB := below_step hB hbn
  replace hre5 := hre5.keep hbn
  replace hoe5 := hoe5.keep hbn
  replace hrg5 := hrg5.keep hbn
  replace hRc := hRc.later hbn
  replace hr9 := hr9.keep hbn
  clear hbn
  clear hRn
  generalize w9.heap.size = gf at hRf ⊢
  go_wp2_with (refine wpList_load_part rfl 26 (.tmp 5) rfl gc 0 rfl _ _ hRc [.int .u64 7, .slice eA5 1 ec5, .slice gA5 1 gc5] (by rfl) _ Tryz.underlying26 rfl (by exact size_bundle) ?_)
  refine (findB_any 7 es5 1 ec5 1 gc5 2 eA5 gA5 _ HN5 hre5 hoe5 (by omega) HMS.out).mono ?_
  intro e' w11 hf
  obtain ⟨t11, en11, A11, q11, c11, rfl, hb⟩ := find_two HE5.out hf
  replace HBX := Lib.hid (below_step HBX.out hb)
  replace hRb := hRb.later hb
  replace hre := hre.keep hb
  replace hoe := hoe.keep hb
  replace hrg := hrg.keep hb
  replace hB := below_step hB hb
  replace hre5 := hre5.keep hb
  replace hoe5 := hoe5.keep hb
  replace hrg5 := hrg5.keep hb
  replace hRc := hRc.later hb
  replace hr9 := hr9.keep hb
  replace hRf := hRf.later hb
  clear hb
  clear hf
  unfold aggN
  have hRn : Row (w11.alloc (.cells #[.int .u64 0, .int .u64 0, .slice none 0 0] 35)) w11.heap.size 35 [.int .u64 0, .int .u64 0, .slice none 0 0] := Row.new w11 _ _ _ rfl
  go_upto_region 8 with (refine wpList_store_row rfl 35 (.tmp 13) (.tmp 60) rfl w11.heap.size rfl [.int .u64 (t11 : Int), .int .u64 (en11 : Int), .slice A11 q11 c11] rfl _ _ hRn (by exact size_entry) rfl (one_three _ _ _ rfl rfl rfl) ?_)
  have hbn : Below w11.heap.size w11 ((w11.alloc (.cells #[.int .u64 0, .int .u64 0, .slice none 0 0] 35)).setRow w11.heap.size [.int .u64 (t11 : Int), .int .u64 (en11 : Int), .slice A11 q11 c11].toArray) := below_setRow (below_new (Below.refl _ _) _) (Nat.le_refl _) _
  generalize (w11.alloc (.cells #[.int .u64 0, .int .u64 0, .slice none 0 0] 35)).setRow w11.heap.size [.int .u64 (t11 : Int), .int .u64 (en11 : Int), .slice A11 q11 c11].toArray = w12 at hbn ⊢
  replace HBX := Lib.hid (below_step HBX.out hbn)
  replace hRb := hRb.later hbn
  replace hre := hre.keep hbn
  replace hoe := hoe.keep hbn
  replace hrg := hrg.keep hbn
  replace hB := below_step hB hbn
  replace hre5 := hre5.keep hbn
  replace hoe5 := hoe5.keep hbn
  replace hrg5 := hrg5.keep hbn
  replace hRc := hRc.later hbn
  replace hr9 := hr9.keep hbn
  replace hRf := hRf.later hbn
  clear hbn
  clear hRn
  have x8 := HX8.out w12 HBX.out
  have a0 : w12.cell? ⟨gb, 0, none⟩ = some (.int .u64 7) := hRb.cell rfl
  have a1 : w12.cell? ⟨gb, 1, none⟩ = some (.slice eA0 1 1) := hRb.cell rfl
  have a2 : w12.cell? ⟨gb, 2, none⟩ = some (.slice gA0 1 1) := hRb.cell rfl
  have d0 : w12.cell? ⟨gc, 0, none⟩ = some (.int .u64 7) := hRc.cell rfl
  have d1 : w12.cell? ⟨gc, 1, none⟩ = some (.slice eA5 1 ec5) := hRc.cell rfl
  have d2 : w12.cell? ⟨gc, 2, none⟩ = some (.slice gA5 1 gc5) := hRc.cell rfl
  go_wp2_with fail
  refine (sameB_any 7 7 es0 es5 gs0 bwG 1 1 1 1 1 ec5 1 gc5 eA0 gA0 eA5 gA5 w12 HL0 HN0 HN5 HM5 hre hoe hrg hre5 hoe5 hrg5 (by omega) (by omega)).mono ?_
  rw [HC0.out, HG0.out, HE5.out]
  rw [decide_eq_true rfl]
  rintro e' w13 ⟨rfl, hb⟩
  replace hRb := hRb.later hb
  replace hre := hre.keep hb
  replace hoe := hoe.keep hb
  replace hrg := hrg.keep hb
  replace hRf := hRf.later hb
  replace hr9 := hr9.keep hb
  replace hB := below_step hB hb
  clear hb
  clear a0 a1 a2 d0 d1 d2 x8
  have a0 : w13.cell? ⟨gb, 0, none⟩ = some (.int .u64 7) := hRb.cell rfl
  have a1 : w13.cell? ⟨gb, 1, none⟩ = some (.slice eA0 1 1) := hRb.cell rfl
  have a2 : w13.cell? ⟨gb, 2, none⟩ = some (.slice gA0 1 1) := hRb.cell rfl
  have f2 : w13.cell? ⟨gf, 2, none⟩ = some (.slice A9 1 c9) := hRf.cell rfl
  have hs1 : (convert 27 9 (.slice A9 1 c9)).run Tryz.prog w13 = .ok (.string ⟨#[115]⟩) w13 := run_str _ _ _ _ Tryz.underlying27 Tryz.underlying5 Tryz.underlying9 A9 [115] 1 c9 rfl hr9
  go_wp2_with fail
  refine (rightB_any 7 es0 gs0 1 1 1 1 eA0 gA0 w13 HL0 HN0 hre hrg (by unfold Hid; rw [HG0.out]; exact bw_fit.2) (by omega) (by omega) HM0.out).mono ?_
  rw [HC0.out, HG0.out, bw_right]
  rintro e' w14 ⟨rfl, hb2⟩
  go_wp2_with fail
  go_ret
  exact ⟨rfl, below_step hB hb2⟩
end Go.Proofs.YtmljhkdojopljaaGreatDoor
/-
  The walk of the law BundleFinds: of a bundle that is right each entry is found by its ticket, and no other ticket's. Conditions: the package's table holds sixty-four words (for tags); errors.errorType holds the handle of the type error (EtC).
-/
namespace Go.Proofs.YtmljhkdojopljaaGreatDoor
set_option maxRecDepth 100000
open Go.RowKit
set_option linter.unusedSimpArgs false
set_option linter.unusedVariables false

/-! ### tickets rise -/
theorem okE_rise {l : List En} (h : okE l = true) : ∀ (k j : Nat) (hk : k < l.length) (hj : j < k), (l[j]'(by omega)).1 < l[k].1
  | 0, _, _, hj => by omega
  | k + 1, j, hk, hj => by
    have h1 := ((okE_at l).1 h (k + 1) hk).2 (by omega)
    simp only [Nat.add_sub_cancel] at h1
    by_cases e : j = k
    · subst e; exact h1
    · exact Nat.lt_trans (okE_rise h k j (by omega) (by omega)) h1
theorem isAt_one {es : List ED} {k : Nat} (hk : k < es.length) (h : okE (conE es) = true) {i : Int} (hi : IsAt es es[k].t i) : i = (k : Int) := by
  have hr : ∀ a b (ha : a < es.length) (hb : b < a), (es[b]'(by omega)).t < es[a].t := fun a b ha hb => by
    have := okE_rise h a b (by rw [conE_length]; exact ha) hb
    rw [conE_get es a ha, conE_get es b (by omega)] at this
    exact this
  rcases hi with ⟨j, hj, rfl, hjt, hbef⟩ | ⟨_, hn⟩
  · rcases Nat.lt_trichotomy j k with h1 | h1 | h1
    · have := hr k j hk h1
      omega
    · rw [h1]
    · exact absurd rfl (hbef k hk h1)
  · exact absurd rfl (hn _ (List.getElem_mem hk))
def hasK (es : List ED) (tk k : Nat) : Bool := (es.take k).any (fun x => decide (x.t = tk))
theorem hasK_next {es : List ED} {tk k : Nat} (h : k < es.length) : hasK es tk (k + 1) = (hasK es tk k || decide (es[k].t = tk)) := by
  unfold hasK
  rw [List.take_succ_eq_append_getElem h, List.any_append]
  simp
theorem hasK_all {es : List ED} {tk : Nat} : hasK es tk es.length = true ↔ ∃ x ∈ es, x.t = tk := by
  unfold hasK
  rw [List.take_length, List.any_eq_true]
  simp
/-- Find in a bundle that is right, at an entry's own ticket. -/
theorem find_own {w w' : World} {es : List ED} {k : Nat} (hk : k < es.length) (h : okE (conE es) = true) {e : Ending} (hf : RetFind w es es[k].t e w') : ∃ A q c, e = .returned (.tuple #[aggN es[k].t es[k].e A q c, .int .i64 0]) ∧ Hid (es[k].s.length = q) ∧ q ≤ c ∧ Rd vB w' A es[k].s ∧ Below w.heap.size w w' := by
  obtain ⟨t, en, A, q, c, code, s, rfl, hq, hqc, hr, hb, hD⟩ := hf
  rcases hD.out with ⟨k', hk', rfl, h2, h3⟩ | ⟨_, h2, _⟩
  · have e1 := isAt_one hk h h2
    have e2 : k' = k := by omega
    subst e2
    unfold ED.con at h3
    injection h3 with a1 h3
    injection h3 with a2 a3
    subst a1 a2 a3
    exact ⟨A, q, c, rfl, hq, hqc, hr, hb⟩
  · have e1 := isAt_one hk h h2
    omega
/-- Find at any ticket: there just if it is, and else none. -/
theorem find_any {w w' : World} {es : List ED} {tk : Nat} {e : Ending} (hf : RetFind w es tk e w') : ∃ t en A q c code s, e = .returned (.tuple #[aggN t en A q c, .int .i64 code]) ∧ Hid ((s : List UInt8).length = q) ∧ q ≤ c ∧ Rd vB w' A s ∧ Below w.heap.size w w' ∧ ((hasK es tk es.length = true ∧ code = 0) ∨ (hasK es tk es.length = false ∧ code = 7 ∧ t = 0 ∧ en = 0 ∧ s = [])) := by
  obtain ⟨t, en, A, q, c, code, s, rfl, hq, hqc, hr, hb, hD⟩ := hf
  refine ⟨t, en, A, q, c, code, s, rfl, hq, hqc, hr, hb, ?_⟩
  rcases hD.out with ⟨k, hk, rfl, h2, h3⟩ | ⟨rfl, h2, h3⟩
  · left
    refine ⟨hasK_all.2 ?_, rfl⟩
    rcases h2 with ⟨j, hj, _, hjt, _⟩ | ⟨h2, _⟩
    · exact ⟨_, List.getElem_mem hj, hjt⟩
    · omega
  · right
    injection h3 with a1 h3
    injection h3 with a2 a3
    refine ⟨?_, rfl, a1, a2, a3⟩
    rw [Bool.eq_false_iff]
    intro h
    obtain ⟨x, hx, hxt⟩ := hasK_all.1 h
    rcases h2 with ⟨k, _, h4, _⟩ | ⟨_, h4⟩
    · omega
    · exact h4 x hx hxt

def finS (g b o : Nat) (v : Nat) (x y : Value) (t : Nat) (W : World) : Prop := W.cell? ⟨b, o, none⟩ = some (.int .u64 (t : Int)) ∧ (W.cell? ⟨g, 0, none⟩ = some (.int .u64 (v : Int)) ∧ (W.cell? ⟨g, 1, none⟩ = some x ∧ W.cell? ⟨g, 2, none⟩ = some y))
theorem finS.keep {g b o v t : Nat} {x y : Value} {W W' : World} (h : finS g b o v x y t W) (hb : Below W.heap.size W W') : finS g b o v x y t W' := by
  obtain ⟨h1, h2, h3, h4⟩ := h
  exact ⟨(hb.cell (World.block_lt_of_cell? W _ h1)).trans h1, (hb.cell (World.block_lt_of_cell? W _ h2)).trans h2, (hb.cell (World.block_lt_of_cell? W _ h3)).trans h3, (hb.cell (World.block_lt_of_cell? W _ h4)).trans h4⟩
set_option maxHeartbeats 8000000 in
theorem bundlefinds_core [Inhabited Tab] (v : Nat) (es : List ED) (gs : List Gn) (n ec m gc tk : Nat) (eA gA : Option Addr) (w : World) (HN : Hid (es.length = n)) (HM : Hid (gs.length = m)) (hre : RdE w eA es) (hoe : okD w es) (hrg : RdG w gA gs) (hv : v < 18446744073709551616) (hfe : fitE (conE es)) (HF : Hid (fitG gs)) (hec : n ≤ ec) (hgc : m ≤ gc) (hn63 : n ≤ 9223372036854775807) (hm63 : m ≤ 9223372036854775807)
    (hml : ∀ x ∈ es, x.s.length ≤ 9223372036854775807) (HK : Hid (KTab w)) (hg : EtC w) :
    Calls Tryz.prog 5 #[aggB v eA n ec gA m gc, .int .u64 (tk : Int)] w fun e w' => e = .returned (.bool true) ∧ Below w.heap.size w w' := by
  obtain ⟨hR, hB⟩ := box_three w 26 (.int .u64 (v : Int)) (.slice eA n ec) (.slice gA m gc)
  have HML := Lib.hid hml
  obtain ⟨SB, hSB⟩ : ∃ S, shortB es m = S := ⟨_, rfl⟩
  have HSB := Lib.hid hSB
  clear hml hSB
  replace hre := hre.keep hB
  replace hoe := hoe.keep hB
  replace hrg := hrg.keep hB
  replace HK := Lib.hid (HK.out.keep hB)
  replace hg := hg.later hB
  unfold aggB
  go_enter Tryz.func5, Tryz.ntmps5
  go_upto_region 1 with fail
  generalize (w.alloc (.cells #[.int .u64 (v : Int), .slice eA n ec, .slice gA m gc] 26)) = w0 at hR hB hre hoe hrg HK hg ⊢
  go_wp2_with fail
  refine (awake16_any _ HK hg).mono ?_
  rintro e₁ w1 ⟨rfl, hb⟩
  replace hR := hR.later hb
  replace hre := hre.keep hb
  replace hoe := hoe.keep hb
  replace hrg := hrg.keep hb
  replace hB := below_step hB hb
  clear hb
  clear HK hg
  go_wp2_with (refine wpList_load_part rfl 26 (.tmp 2) rfl w.heap.size 0 rfl _ _ hR (cellsB v eA n ec gA m gc) (by rfl) _ Tryz.underlying26 rfl (by exact size_bundle) ?_)
  refine (refshortB_any v es n ec m gc eA gA _ HN hre hn63 HML.out hm63).mono ?_
  rw [HSB.out]
  rintro e₁ w2 ⟨rfl, hb⟩
  replace hR := hR.later hb
  replace hre := hre.keep hb
  replace hoe := hoe.keep hb
  replace hrg := hrg.keep hb
  replace hB := below_step hB hb
  clear hb
  cases SB with
  | false =>
    go_wp2_with fail
    go_ret
    exact ⟨rfl, hB⟩
  | true =>
    have hn99 : n ≤ 99 ∧ m ≤ 99 := by
      have := HSB.out
      unfold shortB at this
      simp only [Bool.and_eq_true, decide_eq_true_eq] at this
      rw [HN.out] at this
      exact ⟨this.2.1, this.2.2⟩
    obtain ⟨hn9, hm9⟩ := hn99
    obtain ⟨RB, hRB⟩ : ∃ S, rightB (conE es) gs = S := ⟨_, rfl⟩
    have HRB := Lib.hid hRB
    clear hRB
    have c0 : w2.cell? ⟨w.heap.size, 0, none⟩ = some (.int .u64 (v : Int)) := hR.cell rfl
    have c1 : w2.cell? ⟨w.heap.size, 1, none⟩ = some (.slice eA n ec) := hR.cell rfl
    have c2 : w2.cell? ⟨w.heap.size, 2, none⟩ = some (.slice gA m gc) := hR.cell rfl
    go_wp2_with fail
    refine (rightB_any v es gs n ec m gc eA gA _ HN HM hre hrg HF (by omega) (by omega) HML.out).mono ?_
    rw [HRB.out]
    rintro e₁ w3 ⟨rfl, hb⟩
    replace hR := hR.later hb
    replace hre := hre.keep hb
    replace hoe := hoe.keep hb
    replace hrg := hrg.keep hb
    replace hB := below_step hB hb
    clear hb
    clear c0 c1 c2
    cases RB with
    | false =>
      go_wp2_with fail
      go_ret
      exact ⟨rfl, hB⟩
    | true =>
      obtain ⟨_, _, hokE⟩ := right_b.1 HRB.out
      have HOKE := Lib.hid hokE
      have HMS : Hid (∀ x ∈ es, x.s.length ≤ 70368744177664) := fun x hx => by
        have := (okE_all hokE x.con (List.mem_map_of_mem hx)).2
        have h2 : x.s.length ≤ 32 := this
        omega
      clear hokE
      go_upto_region 7 with fail
      have HB3 := Lib.hid hB
      go_loopw [5, 6] (fun h i wr => (∃ k : Nat, i = .int .i64 (k : Int) ∧ k ≤ n ∧ h = .bool (hasK es tk k)) ∧ Below w3.heap.size w3 wr) (fun _ i _ => n - (intOf i).toNat)
      case atStart => exact ⟨⟨0, rfl, by omega, rfl⟩, Below.refl _ _⟩
      case round =>
        obtain ⟨⟨k, rfl, hk, rfl⟩, hBr⟩ := hrel
        have hRr := hR.later hBr
        have hrer := hre.keep hBr
        have hoer := hoe.keep hBr
        have HBr := Lib.hid hBr
        have HBB := Lib.hid (below_step HB3.out hBr)
        have c1 : wr.cell? ⟨w.heap.size, 1, none⟩ = some (.slice eA n ec) := hRr.cell rfl
        by_cases hlt : k < n
        · have hkl : k < es.length := by rw [HN.out]; exact hlt
          obtain ⟨b, o, rfl, hb, hrng, p0, _, _⟩ := hrer.one hkl
          have hi0 : (0 : Int) ≤ (k : Int) := by omega
          have hi1 : (k : Int) < (n : Int) := by omega
          have HFO := Lib.hid (fun (W W' : World) (e : Ending) (h : RetFind W es es[k].t e W') => find_own hkl HOKE.out h)
          have HNX := Lib.hid (hasK_next (tk := tk) hkl)
          have hrng2 : wr.rangeAt b (o + k * 3) [.int .u64 (es[k].t : Int), .int .u64 (es[k].e : Int), .slice es[k].A es[k].s.length es[k].c] := hrng
          have hxr := (hoer _ (List.getElem_mem hkl)).2
          unfold vNG at p0
          generalize es[k].t = xt at *
          generalize es[k].e = xe at *
          generalize es[k].A = xA at *
          generalize es[k].c = xc at *
          generalize es[k].s = xs at *
          obtain ⟨q, hq⟩ : ∃ q, xs.length = q := ⟨_, rfl⟩
          have HQ := Lib.hid hq
          rw [hq] at hrng2 HFO
          clear hrng hq
          go_upto_region 9 with fail
          go_cut [7, 8] (fun v7 v8 wx => ∃ g A9 c9, v7 = .pointer (some ⟨g, 0, none⟩) ∧ v8 = .int .i64 0 ∧ Row wx g 35 [.int .u64 (xt : Int), .int .u64 (xe : Int), .slice A9 q c9] ∧ Rd vB wx A9 xs ∧ Below wr.heap.size wr wx)
          case first =>
            have hS : finS w.heap.size b (o + k * 3) v (.slice (some ⟨b, o, none⟩) n ec) (.slice gA m gc) xt wr.drew := ⟨p0, hRr.cell rfl, hRr.cell rfl, hRr.cell rfl⟩
            have hBd : Below wr.heap.size wr wr.drew := (Below.refl _ _).drew
            have hreD := hrer.keep hBd
            have hoeD := hoer.keep hBd
            refine wp_region_plan_of (finS w.heap.size b (o + k * 3) v (.slice (some ⟨b, o, none⟩) n ec) (.slice gA m gc) xt) (.step 0 false (.step 1 false (.step 2 false (.step 3 false (.step 4 false (.step 5 false (.step 6 false (.fork 7 (.step 8 false (.step 9 false (.step 10 false (.step 11 true (.step 12 true (.step 13 false .nil)))))) 11 (.step 7 true (.step 8 false (.step 9 false (.step 10 false (.step 12 true (.step 13 false .nil)))))))))))))) hS (by kernel_rfl) (by kernel_rfl) (by rfl) (by kernel_rfl) ?_
            clear hrer hoer hrng2 hxr hRr p0 c1
            generalize wr.drew = wd at *
            iterate 7 (refine plan_read rfl (by rfl) (v := ?_) ?_ ?_; rotate_left 1; (intro W hW; (try dsimp only at hW); obtain ⟨hW0, hW1⟩ := hW; go_simp <;> with_reducible rfl); simp only [List.getElem_toArray, List.getElem_cons_zero, List.getElem_cons_succ, Act.put, List.setIfInBounds_toArray, List.set_cons_zero, List.set_cons_succ])
            refine plan_fork rfl rfl (by rfl) (by rfl) (fun K hK => ?_) (fun K hK => ?_)
            · go_simp
              refine (findB_any v es n ec m gc xt _ gA wd HN hreD hoeD (by omega) HMS.out).mono ?_
              intro e' w7 hf
              obtain ⟨A9, q9, c9, rfl, HQ9, hc9, hr9, hb7⟩ := HFO.out _ _ _ hf
              have eq9 : q9 = q := HQ9.out.symm
              subst eq9
              refine hK.out _ _ (hS.keep hb7) ?_
              clear hK K hf
              unfold aggN
              iterate 3 (refine plan_read rfl (by rfl) (v := ?_) ?_ ?_; rotate_left 1; (intro W hW; (try dsimp only at hW); obtain ⟨hW0, hW1⟩ := hW; go_simp <;> with_reducible rfl); simp only [List.getElem_toArray, List.getElem_cons_zero, List.getElem_cons_succ, Act.put, List.setIfInBounds_toArray, List.set_cons_zero, List.set_cons_succ])
              have hRn : Row (w7.alloc (.cells #[.int .u64 0, .int .u64 0, .slice none 0 0] 35)) w7.heap.size 35 [.int .u64 0, .int .u64 0, .slice none 0 0] := Row.new w7 _ _ _ rfl
              have hb8 := below_new hb7 (.cells #[.int .u64 0, .int .u64 0, .slice none 0 0] 35)
              have hb9 : Below w7.heap.size w7 ((w7.alloc (.cells #[.int .u64 0, .int .u64 0, .slice none 0 0] 35)).setRow w7.heap.size [.int .u64 (xt : Int), .int .u64 (xe : Int), .slice A9 q9 c9].toArray) := below_setRow (below_new (Below.refl _ _) _) (Nat.le_refl _) _
              (refine plan_make_of rfl (by rfl) (fun K hK => ?_); go_simp; refine hK.out _ _ (hS.keep hb8) ?_; clear hK K)
              (refine plan_make_of rfl (by rfl) (fun K hK => ?_); refine Row.wp_store 35 (.tmp 7) (.tmp 37) rfl rfl [.int .u64 (xt : Int), .int .u64 (xe : Int), .slice A9 q9 c9] rfl hRn (by exact size_entry) rfl (one_three _ _ _ rfl rfl rfl) ?_; refine hK.out _ _ (hS.keep (below_step hb7 hb9)) ?_; clear hK K)
              iterate 1 (refine plan_read rfl (by rfl) (v := ?_) ?_ ?_; rotate_left 1; (intro W hW; (try dsimp only at hW); obtain ⟨hW0, hW1⟩ := hW; go_simp <;> with_reducible rfl); simp only [List.getElem_toArray, List.getElem_cons_zero, List.getElem_cons_succ, Act.put, List.setIfInBounds_toArray, List.set_cons_zero, List.set_cons_succ])
              refine plan_done ?_
              have HREL := Lib.hid (And.intro (hRn.setRow [.int .u64 (xt : Int), .int .u64 (xe : Int), .slice A9 q9 c9]) (And.intro (hr9.keep hb9) (below_step hBd (below_step hb7 hb9))))
              go_wp2_with fail
              go_meet
              case rel => exact ⟨w7.heap.size, A9, c9, rfl, rfl, HREL.out.1, HREL.out.2.1, HREL.out.2.2⟩
            · go_simp
              have hb8 := below_new (Below.refl wd.heap.size wd) (.cells #[.int .u64 0, .int .u64 0, .slice none 0 0] 35)
              have hRn : Row (wd.alloc (.cells #[.int .u64 0, .int .u64 0, .slice none 0 0] 35)) wd.heap.size 35 [.int .u64 0, .int .u64 0, .slice none 0 0] := Row.new wd _ _ _ rfl
              refine hK.out _ _ (hS.keep hb8) ?_
              clear hK K
              refine plan_make_of rfl (by rfl) (fun K hK => ?_)
              go_simp
              refine (findB_any v es n ec m gc xt _ gA _ HN (hreD.keep hb8) (hoeD.keep hb8) (by omega) HMS.out).mono ?_
              intro e' w7 hf
              obtain ⟨A9, q9, c9, rfl, HQ9, hc9, hr9, hb7⟩ := HFO.out _ _ _ hf
              have eq9 : q9 = q := HQ9.out.symm
              subst eq9
              have hR7 := hRn.later hb7
              have hb78 := below_step hb8 hb7
              refine hK.out _ _ (hS.keep hb78) ?_
              clear hK K hf
              unfold aggN
              iterate 3 (refine plan_read rfl (by rfl) (v := ?_) ?_ ?_; rotate_left 1; (intro W hW; (try dsimp only at hW); obtain ⟨hW0, hW1⟩ := hW; go_simp <;> with_reducible rfl); simp only [List.getElem_toArray, List.getElem_cons_zero, List.getElem_cons_succ, Act.put, List.setIfInBounds_toArray, List.set_cons_zero, List.set_cons_succ])
              have hne : Hid (∀ cs, finS w.heap.size b (o + k * 3) v (.slice (some ⟨b, o, none⟩) n ec) (.slice gA m gc) xt (w7.setRow wd.heap.size cs)) := fun cs => hS.keep (below_setRow hb78 (Nat.le_refl _) cs)
              (refine plan_make_of rfl (by rfl) (fun K hK => ?_); refine Row.wp_store 35 (.tmp 7) (.tmp 37) rfl rfl [.int .u64 (xt : Int), .int .u64 (xe : Int), .slice A9 q9 c9] rfl hR7 (by exact size_entry) rfl (one_three _ _ _ rfl rfl rfl) ?_; refine hK.out _ _ (hne.out _) ?_; clear hK K)
              iterate 1 (refine plan_read rfl (by rfl) (v := ?_) ?_ ?_; rotate_left 1; (intro W hW; (try dsimp only at hW); obtain ⟨hW0, hW1⟩ := hW; go_simp <;> with_reducible rfl); simp only [List.getElem_toArray, List.getElem_cons_zero, List.getElem_cons_succ, Act.put, List.setIfInBounds_toArray, List.set_cons_zero, List.set_cons_succ])
              refine plan_done ?_
              have hnb : ∀ u ∈ ([.int .u64 0, .int .u64 0, .slice none 0 0] : List Value), ∀ x, u ≠ vB x := fun u hu x e => by
                subst e
                simp [vB] at hu
              have HREL := Lib.hid (And.intro (hR7.setRow [.int .u64 (xt : Int), .int .u64 (xe : Int), .slice A9 q9 c9]) (And.intro (hr9.setRow_row hR7 hnb [.int .u64 (xt : Int), .int .u64 (xe : Int), .slice A9 q9 c9].toArray) (below_step hBd (below_setRow hb78 (Nat.le_refl _) [.int .u64 (xt : Int), .int .u64 (xe : Int), .slice A9 q9 c9].toArray))))
              go_wp2_with fail
              go_meet
              case rel => exact ⟨wd.heap.size, A9, c9, rfl, rfl, HREL.out.1, HREL.out.2.1, HREL.out.2.2⟩
          case rest =>
          rename World => w9
          obtain ⟨gE, A9, c9, rfl, rfl, hRE, hr9, hb9⟩ := hcut
          have HB9 := Lib.hid (HBr.out.trans (hb9.mono HBr.out.size))
          have hRr9 := hRr.later hb9
          have hxr9 := hxr.keep hb9
          have hrng9 : w9.rangeAt b (o + k * 3) [.int .u64 (xt : Int), .int .u64 (xe : Int), .slice xA q xc] := fun j u hu => (hb9.cell (p := ⟨b, o + k * 3 + j, none⟩) (World.block_lt_of_cell? wr ⟨b, o + k * 3, none⟩ p0)).trans (hrng2 j u hu)
          clear hrer hoer hrng2 hxr hRr p0 c1 HFO hb9 hBr
          go_upto_region 10 with fail
          go_cut [50] (fun v wx => v = .bool false ∧ Below w9.heap.size w9 wx)
          case first =>
            have hBase := (Below.refl w9.heap.size w9).drew
            have e0 : ∀ W, Below w9.heap.size w9 W → W.cell? ⟨gE, 0, none⟩ = some (.int .u64 (xt : Int)) := fun W hW => (hRE.later hW).cell rfl
            have e1 : ∀ W, Below w9.heap.size w9 W → W.cell? ⟨gE, 1, none⟩ = some (.int .u64 (xe : Int)) := fun W hW => (hRE.later hW).cell rfl
            have e2 : ∀ W, Below w9.heap.size w9 W → W.cell? ⟨gE, 2, none⟩ = some (.slice A9 q c9) := fun W hW => (hRE.later hW).cell rfl
            have c1 : ∀ W, Below w9.heap.size w9 W → W.cell? ⟨w.heap.size, 1, none⟩ = some (.slice (some ⟨b, o, none⟩) n ec) := fun W hW => (hRr9.later hW).cell rfl
            have h0 := hrng9 0 _ rfl
            have h1 := hrng9 1 _ rfl
            have h2 := hrng9 2 _ rfl
            have d0 : ∀ W, Below w9.heap.size w9 W → W.cell? ⟨b, o + k * 3, none⟩ = some (.int .u64 (xt : Int)) := fun W hW => (hW.cell (p := ⟨b, o + k * 3, none⟩) (World.block_lt_of_cell? w9 _ h0)).trans h0
            have d1 : ∀ W, Below w9.heap.size w9 W → W.cell? ⟨b, o + k * 3 + 1, none⟩ = some (.int .u64 (xe : Int)) := fun W hW => (hW.cell (p := ⟨b, o + k * 3 + 1, none⟩) (World.block_lt_of_cell? w9 _ h1)).trans h1
            have d2 : ∀ W, Below w9.heap.size w9 W → W.cell? ⟨b, o + k * 3 + 2, none⟩ = some (.slice xA q xc) := fun W hW => (hW.cell (p := ⟨b, o + k * 3 + 2, none⟩) (World.block_lt_of_cell? w9 _ h2)).trans h2
            clear h0 h1 h2 hrng9 hRr9 hRE
            refine wp_region_plan (.step 0 false (.step 1 false (.step 2 false (.step 3 false (.step 4 false (.step 5 false (.step 6 false (.step 7 false (.step 8 false (.step 9 true (.step 10 false (.step 11 false (.nil))))))))))))) (by kernel_rfl) (by kernel_rfl) (by rfl) (by kernel_rfl) ?_
            iterate 9 (refine plan_read rfl (by rfl) (v := ?_) ?_ ?_; rotate_left 1; (intro W hW; have hW0 := below_step hBase hW; (try dsimp only at hW); go_simp <;> with_reducible rfl); simp only [List.getElem_toArray, List.getElem_cons_zero, List.getElem_cons_succ, Act.put, List.setIfInBounds_toArray, List.set_cons_zero, List.set_cons_succ])
            (refine plan_make rfl (by rfl) (fun K hK => ?_); go_simp; (refine (refentryB_any xt xe xt xe xs xs q c9 q xc A9 xA _ HQ HQ (hr9.keep hBase) (hxr9.keep hBase)).mono ?_; rw [decide_eq_true rfl]; rintro e₁ w5 ⟨rfl, hbx⟩); refine hK.out _ _ hbx ?_; clear hK K; replace hBase := below_step hBase hbx)
            iterate 2 (refine plan_read rfl (by rfl) (v := ?_) ?_ ?_; rotate_left 1; (intro W hW; have hW0 := below_step hBase hW; (try dsimp only at hW); go_simp <;> with_reducible rfl); simp only [List.getElem_toArray, List.getElem_cons_zero, List.getElem_cons_succ, Act.put, List.setIfInBounds_toArray, List.set_cons_zero, List.set_cons_succ])
            refine plan_done ?_
            clear e0 e1 e2 c1 d0 d1 d2
            go_wp2_with fail
            go_meet
            case rel => exact ⟨rfl, hBase⟩
          case rest =>
          rename World => w10
          obtain ⟨rfl, hb10⟩ := hcut
          have HB10 := Lib.hid (HB9.out.trans (hb10.mono HB9.out.size))
          have hRr10 := hRr9.later hb10
          have h0 := hrng9 0 _ rfl
          have d0 : w10.cell? ⟨b, o + k * 3, none⟩ = some (.int .u64 (xt : Int)) := (hb10.cell (p := ⟨b, o + k * 3, none⟩) (World.block_lt_of_cell? w9 _ h0)).trans h0
          have c1 : w10.cell? ⟨w.heap.size, 1, none⟩ = some (.slice (some ⟨b, o, none⟩) n ec) := hRr10.cell rfl
          clear hRr9 hrng9 hRE hr9 hxr9 hb10 h0
          generalize hasK es tk k = H at *
          cases H with
          | true =>
            have HH : Hid (hasK es tk (k + 1) = true) := by unfold Hid; rw [HNX.out]; rfl
            go_wp2_with fail
            go_roundw
            case rel => exact ⟨⟨k + 1, by go_num, by omega, by rw [HH.out]⟩, HB10.out⟩
            case measure => simp [intOf]; omega
          | false =>
            by_cases hx : xt = tk
            · have HH : Hid (hasK es tk (k + 1) = true) := by unfold Hid; rw [HNX.out, decide_eq_true hx]; rfl
              subst hx
              go_wp2_with fail
              go_roundw
              case rel => exact ⟨⟨k + 1, by go_num, by omega, by rw [HH.out]⟩, HB10.out⟩
              case measure => simp [intOf]; omega
            · have HH : Hid (hasK es tk (k + 1) = false) := by unfold Hid; rw [HNX.out, decide_eq_false hx]; rfl
              have hxd : decide (xt = tk) = false := decide_eq_false hx
              have hxi : ((xt : Int) == (tk : Int)) = false := beq_eq_false_iff_ne.2 (by omega)
              go_wp2_with fail
              go_roundw
              case rel => exact ⟨⟨k + 1, by go_num, by omega, by rw [HH.out]⟩, HB10.out⟩
              case measure => simp [intOf]; omega
        · have ekn : k = es.length := by rw [HN.out]; omega
          have hkn : ¬ (k : Int) < (n : Int) := by omega
          have HKE := Lib.hid ekn
          clear hBr ekn
          go_upto_region 13 with fail
          go_wp2_with (refine wpList_load_part rfl 26 (.tmp 2) rfl w.heap.size 0 rfl _ _ hRr (cellsB v eA n ec gA m gc) (by rfl) _ Tryz.underlying26 rfl (by exact size_bundle) ?_)
          refine (findB_any v es n ec m gc tk eA gA _ HN hrer hoer (by omega) HMS.out).mono ?_
          intro e' w5 hf
          obtain ⟨t5, en5, A5, q5, c5, code5, s5, rfl, HQ5, hc5, hr5, hb5, hD5⟩ := find_any hf
          rw [← HKE.out] at hD5
          clear hf
          unfold aggN
          have hRn : Row (w5.alloc (.cells #[.int .u64 0, .int .u64 0, .slice none 0 0] 35)) w5.heap.size 35 [.int .u64 0, .int .u64 0, .slice none 0 0] := Row.new w5 _ _ _ rfl
          have hRE := hRn.setRow [.int .u64 (t5 : Int), .int .u64 (en5 : Int), .slice A5 q5 c5]
          have hb6 : Below w5.heap.size w5 ((w5.alloc (.cells #[.int .u64 0, .int .u64 0, .slice none 0 0] 35)).setRow w5.heap.size [.int .u64 (t5 : Int), .int .u64 (en5 : Int), .slice A5 q5 c5].toArray) := below_setRow (below_new (Below.refl _ _) _) (Nat.le_refl _) _
          go_upto_region 14 with (refine wpList_store_row rfl 35 (.tmp 9) (.tmp 66) rfl w5.heap.size rfl [.int .u64 (t5 : Int), .int .u64 (en5 : Int), .slice A5 q5 c5] rfl _ _ hRn (by exact size_entry) rfl (one_three _ _ _ rfl rfl rfl) ?_)
          generalize (w5.alloc (.cells #[.int .u64 0, .int .u64 0, .slice none 0 0] 35)).setRow w5.heap.size [.int .u64 (t5 : Int), .int .u64 (en5 : Int), .slice A5 q5 c5].toArray = w6 at hRE hb6 ⊢
          have hr6 := hr5.keep hb6
          have HB6 := Lib.hid (below_step (below_step HBB.out hb5) hb6)
          have e0 : w6.cell? ⟨w5.heap.size, 0, none⟩ = some (.int .u64 (t5 : Int)) := hRE.cell rfl
          have e1 : w6.cell? ⟨w5.heap.size, 1, none⟩ = some (.int .u64 (en5 : Int)) := hRE.cell rfl
          have e2 : w6.cell? ⟨w5.heap.size, 2, none⟩ = some (.slice A5 q5 c5) := hRE.cell rfl
          generalize hasK es tk k = H at *
          clear hRn hRE hb6 hr5 hRr hrer hoer c1 hb5
          rcases hD5 with ⟨rfl, rfl⟩ | ⟨rfl, rfl, rfl, rfl, rfl⟩
          · go_wp2_with fail
            go_ret
            exact ⟨rfl, HB6.out⟩
          · have eq5 : q5 = 0 := HQ5.out.symm
            subst eq5
            go_wp2_with fail
            refine (refentryB_any 0 0 0 0 [] [] 0 c5 0 0 A5 none _ (Lib.hid rfl) (Lib.hid rfl) Rd.nil Rd.nil).mono ?_
            rw [decide_eq_true rfl]
            rintro e₁ w7 ⟨rfl, hb7⟩
            go_wp2_with fail
            go_ret
            exact ⟨rfl, below_step HB6.out hb7⟩
end Go.Proofs.YtmljhkdojopljaaGreatDoor
/-
  A parameter that is a list of terms, opened. No conditions.
-/
namespace Go.Proofs.YtmljhkdojopljaaGreatDoor
set_option maxRecDepth 100000
open Go.RowKit Go.WideShapes
set_option linter.unusedSimpArgs false
set_option linter.unusedVariables false

/-- What comes in: terms in memory, whose bytes are there, no longer than may be. -/
def inT (w : World) (A : Option Addr) (ts : List TD) : Prop := RdT w A ts ∧ okT w ts ∧ ∀ x ∈ ts, x.k.length ≤ 9223372036854775807 ∧ x.m.length ≤ 9223372036854775807
theorem inT.keep {w w' : World} {A : Option Addr} {ts : List TD} (h : inT w A ts) (hb : Below w.heap.size w w') : inT w' A ts := ⟨h.1.keep hb, h.2.1.keep hb, h.2.2⟩

theorem opens_term : Opens Tryz.prog 113 (RTwo 0 1 1 1 (RSlice 1 RByte) (RSlice 1 RByte)) := opens_two Tryz.underlying113 rfl rfl (by kernel_rfl) (by kernel_rfl) (by kernel_rfl) opens_bytes opens_bytes
theorem opens_terms : Opens Tryz.prog 46 (RSlice 2 (RTwo 0 1 1 1 (RSlice 1 RByte) (RSlice 1 RByte))) := opens_slice Tryz.underlying46 (by kernel_rfl) (by omega) opens_term

theorem term_of_r {w : World} {cs : List Value} {x : Tm} (h : RTwo 0 1 1 1 (RSlice 1 RByte) (RSlice 1 RByte) w cs x) : ∃ t : TD, cs = [t.at0, t.at1] ∧ t.ok w ∧ t.k.length ≤ 9223372036854775807 ∧ t.m.length ≤ 9223372036854775807 := by
  obtain ⟨hl, h0, h1⟩ := h
  obtain ⟨A, c, e0, h2, h3, h4⟩ := bytes_of_r h0
  obtain ⟨B, d, e1, h5, h6, h7⟩ := bytes_of_r h1
  refine ⟨⟨A, c, x.1, B, d, x.2⟩, ?_, ⟨h2, h5, h4, h7⟩, by show x.1.length ≤ _; omega, by show x.2.length ≤ _; omega⟩
  match cs, hl with
  | [a, b], _ =>
    simp at e0 e1
    rw [e0, e1]
    rfl
theorem terms_of_r {w : World} {cs : List Value} {ls : List Tm} (h : RSlice 2 (RTwo 0 1 1 1 (RSlice 1 RByte) (RSlice 1 RByte)) w cs ls) : ∃ (ts : List TD) (A : Option Addr) (cap : Nat), cs = [.slice A ts.length cap] ∧ ts.length ≤ cap ∧ cap ≤ 9223372036854775807 ∧ inT w A ts := by
  obtain ⟨A, cap, e, h1, h2, h3⟩ := h
  by_cases hn : ls = []
  · subst hn
    exact ⟨[], A, cap, e, h1, h2, RdT.nil, (fun x hx => by cases hx), fun x hx => by cases hx⟩
  · obtain ⟨b, o, rfl, hc⟩ := h3 hn
    obtain ⟨ts, hl, hp⟩ := choose_list ls.length (fun i (t : TD) => (w.cell? ⟨b, o + i * 2, none⟩ = some t.at0 ∧ w.cell? ⟨b, o + i * 2 + 1, none⟩ = some t.at1) ∧ t.ok w ∧ t.k.length ≤ 9223372036854775807 ∧ t.m.length ≤ 9223372036854775807) (fun i hi => by
      obtain ⟨ecs, h4, h5, h6⟩ := hc i hi
      obtain ⟨t, rfl, h7, h8, h9⟩ := term_of_r h6
      exact ⟨t, ⟨h5 0 (by simp), h5 1 (by simp)⟩, h7, h8, h9⟩)
    refine ⟨ts, some ⟨b, o, none⟩, cap, by rw [hl]; exact e, by omega, h2, fun _ => ⟨b, o, rfl, fun i hi => (hp i hi).1⟩, fun x hx => ?_, fun x hx => ?_⟩
    · obtain ⟨i, hi, rfl⟩ := List.getElem_of_mem hx
      exact (hp i hi).2.1
    · obtain ⟨i, hi, rfl⟩ := List.getElem_of_mem hx
      exact (hp i hi).2.2

section
variable {H : Type} {enc : TypeId × Value → H} {W : World} {base b1 : Nat} {spare : Nat → Bool} {held : Bool} {r : Reach} {v : Value} {d : DataW H} {p : List MemPlace}
theorem open_terms (hv : Value.okWide Tryz.prog W r base 46 v) (ht : DataW.Trod enc Tryz.prog W b1 spare held 46 v d p) : ∃ (ts : List TD) (A : Option Addr) (cap : Nat), v = .slice A ts.length cap ∧ ts.length ≤ cap ∧ cap ≤ 9223372036854775807 ∧ inT W A ts := by
  obtain ⟨a, len, cap, rfl⟩ := okWide_slice Tryz.underlying46 hv
  obtain ⟨fuel, hf⟩ := ht
  obtain ⟨l, hl⟩ := opens_terms enc W _ _ _ _ _ _ hf
  obtain ⟨ts, A, c, e, h1, h2, h3⟩ := terms_of_r hl
  simp [Value.cells] at e
  obtain ⟨rfl, rfl, rfl⟩ := e
  exact ⟨ts, _, _, rfl, h1, h2, h3⟩
end

end Go.Proofs.YtmljhkdojopljaaGreatDoor
/-
  Parameters that are bundles, opened. No conditions but those typed.
-/
namespace Go.Proofs.YtmljhkdojopljaaGreatDoor
set_option maxRecDepth 100000
open Go.RowKit Go.Deep Go.WideShapes Go.ChangeShapes
set_option linter.unusedSimpArgs false
set_option linter.unusedVariables false

theorem opens_entry : Opens Tryz.prog 35 (RThree 0 1 1 1 2 1 RNum RNum (RSlice 1 RByte)) := opens_three Tryz.underlying35 rfl rfl rfl (by kernel_rfl) (by kernel_rfl) (by kernel_rfl) (by kernel_rfl) (opens_num Tryz.underlying22) (opens_num Tryz.underlying22) opens_bytes
theorem opens_entries : Opens Tryz.prog 23 (RSlice 3 (RThree 0 1 1 1 2 1 RNum RNum (RSlice 1 RByte))) := opens_slice Tryz.underlying23 (by kernel_rfl) (by omega) opens_entry
theorem opens_bundle : Opens Tryz.prog 26 (RThree 0 1 1 1 2 1 RNum (RSlice 3 (RThree 0 1 1 1 2 1 RNum RNum (RSlice 1 RByte))) (RSlice 2 (RTwo 0 1 1 1 RNum RNum))) := opens_three Tryz.underlying26 rfl rfl rfl (by kernel_rfl) (by kernel_rfl) (by kernel_rfl) (by kernel_rfl) (opens_num Tryz.underlying22) opens_entries opens_gones
theorem entry_of_r {w : World} {cs : List Value} {x : En} (h : RThree 0 1 1 1 2 1 RNum RNum (RSlice 1 RByte) w cs x) : ∃ y : ED, cs = y.cells ∧ y.ok w ∧ y.s.length ≤ 9223372036854775807 ∧ y.t < 18446744073709551616 ∧ y.e < 18446744073709551616 := by
  obtain ⟨hl, ⟨e0, g0⟩, ⟨e1, g1⟩, h2⟩ := h
  obtain ⟨A, c, e2, h3, h4, h5⟩ := bytes_of_r h2
  refine ⟨⟨x.1, x.2.1, A, c, x.2.2⟩, ?_, ⟨h3, h5⟩, by show x.2.2.length ≤ _; omega, g0, g1⟩
  match cs, hl with
  | [a, b, d], _ =>
    simp at e0 e1 e2
    rw [e0, e1, e2]
    rfl
/-- What is known of entries that come in. -/
def inE (w : World) (A : Option Addr) (es : List ED) : Prop := RdE w A es ∧ okD w es ∧ (∀ x ∈ es, x.s.length ≤ 9223372036854775807) ∧ fitE (conE es)
theorem entries_of_r {w : World} {cs : List Value} {ls : List En} (h : RSlice 3 (RThree 0 1 1 1 2 1 RNum RNum (RSlice 1 RByte)) w cs ls) : ∃ (es : List ED) (A : Option Addr) (cap : Nat), cs = [.slice A es.length cap] ∧ es.length ≤ cap ∧ cap ≤ 9223372036854775807 ∧ inE w A es := by
  obtain ⟨A, cap, e, h1, h2, h3⟩ := h
  by_cases hn : ls = []
  · subst hn
    exact ⟨[], A, cap, e, h1, h2, RdE.nil, okD.nil _, (fun x hx => by cases hx), fun x hx => by cases hx⟩
  · obtain ⟨b, o, rfl, hc⟩ := h3 hn
    obtain ⟨es, hl, hp⟩ := choose_list ls.length (fun i (y : ED) => (w.cell? ⟨b, o + i * 3, none⟩ = some (vNG y.t) ∧ w.cell? ⟨b, o + i * 3 + 1, none⟩ = some (vNG y.e) ∧ w.cell? ⟨b, o + i * 3 + 2, none⟩ = some y.at2) ∧ y.ok w ∧ y.s.length ≤ 9223372036854775807 ∧ y.t < 18446744073709551616 ∧ y.e < 18446744073709551616) (fun i hi => by
      obtain ⟨ecs, h4, h5, h6⟩ := hc i hi
      obtain ⟨y, rfl, h7, h8, h9⟩ := entry_of_r h6
      exact ⟨y, ⟨h5 0 (by simp [ED.cells]), h5 1 (by simp [ED.cells]), h5 2 (by simp [ED.cells])⟩, h7, h8, h9⟩)
    refine ⟨es, some ⟨b, o, none⟩, cap, by rw [hl]; exact e, by omega, h2, fun _ => ⟨b, o, rfl, fun i hi => (hp i hi).1⟩, fun x hx => ?_, fun x hx => ?_, fun x hx => ?_⟩
    · obtain ⟨i, hi, rfl⟩ := List.getElem_of_mem hx
      exact (hp i hi).2.1
    · obtain ⟨i, hi, rfl⟩ := List.getElem_of_mem hx
      exact (hp i hi).2.2.1
    · obtain ⟨y, hy, rfl⟩ := List.mem_map.1 hx
      obtain ⟨i, hi, rfl⟩ := List.getElem_of_mem hy
      exact (hp i hi).2.2.2
section
variable {H : Type} {enc : TypeId × Value → H} {W : World} {base b1 : Nat} {spare : Nat → Bool} {held : Bool} {r : Reach} {v : Value} {d : DataW H} {p : List MemPlace}
theorem open_bundle (hv : Value.okWide Tryz.prog W r base 26 v) (ht : DataW.Trod enc Tryz.prog W b1 spare held 26 v d p) : ∃ (n : Nat) (es : List ED) (gs : List Gn) (eA gA : Option Addr) (ec gc : Nat), v = aggB n eA es.length ec gA gs.length gc ∧ n < 18446744073709551616 ∧ es.length ≤ ec ∧ gs.length ≤ gc ∧ ec ≤ 9223372036854775807 ∧ gc ≤ 9223372036854775807 ∧ inE W eA es ∧ RdG W gA gs ∧ fitG gs := by
  obtain ⟨cs, rfl, _⟩ := okWide_struct Tryz.underlying26 hv
  obtain ⟨fuel, hf⟩ := ht
  obtain ⟨⟨n, le, lg⟩, hl, ⟨e0, g0⟩, h1, h2⟩ := opens_bundle enc W _ _ _ _ _ _ hf
  obtain ⟨es, eA, ec, e1, h3, h4, h5⟩ := entries_of_r h1
  obtain ⟨gA, gc, e2, h6, h7, h8, h9⟩ := gones_of_r h2
  refine ⟨n, es, lg, eA, gA, ec, gc, ?_, g0, h3, h6, h4, h7, h5, h8, h9⟩
  unfold aggB
  congr 1
  apply Array.toList_inj.1
  simp only [Value.cells] at hl e0 e1 e2
  match hcs : cs.toList, hl with
  | [x0, x1, x2], _ =>
    rw [hcs] at e0 e1 e2
    simp at e0 e1 e2
    rw [e0, e1, e2]
end
end Go.Proofs.YtmljhkdojopljaaGreatDoor
/-
  The table of sixty-four words, where no row lists it: it holds some words, whichever (a world of the form's shape). No conditions.
-/
namespace Go.Proofs.YtmljhkdojopljaaGreatDoor
set_option maxRecDepth 100000
open Go.RowKit

theorem tab_first : (((begin Tryz.prog (fun _ _ => 0) default).world.heap[1]?).bind Obj.row?).map (fun x => (x.1.size, x.2)) = some (64, 192) := by kernel_rfl
theorem tab_global : decide (1 < Tryz.prog.globals.size) = true := by kernel_rfl
theorem tab_build : Tryz.prog.buildable 192 = true := by kernel_rfl
theorem tab_cells : Tryz.prog.cellTypes Tryz.prog.depth 192 = some (List.replicate 64 169) := by kernel_rfl
theorem tab_of_open {w : World} (h : w.ShapedOpen Tryz.prog) : ∃ _ : Inhabited Tab, KTab w := by
  obtain ⟨h1, _⟩ := h
  obtain ⟨zero, t, hz, h64, ht⟩ : ∃ zero t, ((begin Tryz.prog (fun _ _ => 0) default).world.heap[1]?).bind Obj.row? = some (zero, t) ∧ zero.size = 64 ∧ t = 192 := by
    have e := tab_first
    cases hx : ((begin Tryz.prog (fun _ _ => 0) default).world.heap[1]?).bind Obj.row? with
    | none => rw [hx] at e; cases e
    | some x =>
      rw [hx] at e
      injection e with e
      injection e with e1 e2
      exact ⟨x.1, x.2, rfl, e1, e2⟩
  subst ht
  obtain ⟨cs, hcs, hsz, hrow⟩ := h1 _ zero _ (of_decide_eq_true tab_global) hz
  obtain ⟨ts, hts, _, hcell⟩ := hrow tab_build
  rw [tab_cells] at hts
  injection hts with hts
  subst hts
  rw [h64] at hsz
  have hval : ∀ i (hi : i < 64), ∃ x : UInt32, cs[i]? = some (.int .u32 (x.toNat : Int)) := fun i hi => by
    have hlt : i < cs.size := by omega
    obtain ⟨u, hu, hok⟩ := hcell i cs[i] (Array.getElem?_eq_getElem hlt)
    rw [List.length_replicate, List.getElem?_replicate, if_pos (Nat.mod_lt _ (by omega))] at hu
    injection hu with hu
    subst hu
    unfold Cell.ok at hok
    rw [Tryz.underlying169] at hok
    rw [Array.getElem?_eq_getElem hlt]
    generalize cs[i] = v at hok
    cases v with
    | int k n =>
      obtain ⟨rfl, hn⟩ := hok
      simp [IntKind.has, IntKind.min, IntKind.max, IntKind.signed, IntKind.bits] at hn
      exact ⟨UInt32.ofNat n.toNat, by rw [UInt32.toNat_ofNat']; congr 2; omega⟩
    | _ => exact hok.elim
  obtain ⟨f, hf⟩ : ∃ f : Nat → UInt32, ∀ i, i < 64 → cs[i]? = some (.int .u32 ((f i).toNat : Int)) := by
    refine ⟨fun i => if hi : i < 64 then (hval i hi).choose else 0, fun i hi => ?_⟩
    dsimp only
    rw [dif_pos hi]
    exact (hval i hi).choose_spec
  refine ⟨⟨⟨(List.range 64).map f⟩⟩, fun i hi => ?_⟩
  have e : (((List.range 64).map f).getD i 0) = f i := by simp [List.getD, hi]
  show w.cell? ⟨1, i, none⟩ = some (.int .u32 (((((List.range 64).map f).getD i 0)).toNat : Int))
  rw [e, ← hf i hi]
  exact cell_of_row w _ i cs _ (0, 0) hcs
end Go.Proofs.YtmljhkdojopljaaGreatDoor
/-
  What the rows' condition on the package-level variable errors.errorType gives the walks: its one cell, the handle of the type error. Condition: the variable reads as the rows list it.
-/
namespace Go.Proofs.YtmljhkdojopljaaGreatDoor
set_option maxRecDepth 100000
open Go.RowKit

theorem etc_global : Tryz.prog.globalNamed "errors.errorType" = some 0 := by kernel_rfl
theorem etc_rtype : (Tryz.prog.cutTypes.find? (·.1 == "internal/reflectlite.rtype")).map (·.2) = some 144 := by kernel_rfl
theorem etc_one : ((List.range Tryz.prog.types.size).filter fun t => Tryz.prog.rowNamed t [101, 114, 114, 111, 114]) = [51] := by kernel_rfl
theorem etc_of_handles {l : List (String × DataW Unit)} {W : World} (h : handlesMet Tryz.prog l W) (hm : ("errors.errorType", Rows.laid_errors_errorType) ∈ l) : EtC W := by
  obtain ⟨name, u, ty, e1, e2, e3, e4, e5⟩ := h _ hm
  have en : name = [101, 114, 114, 111, 114] := (Option.some.inj e1).symm
  subst en
  obtain rfl := Option.some.inj (etc_rtype.symm.trans e2)
  have hmem : ty ∈ (List.range Tryz.prog.types.size).filter fun t => Tryz.prog.rowNamed t [101, 114, 114, 111, 114] := List.mem_filter.2 ⟨List.mem_range.2 e3, e4⟩
  rw [etc_one] at hmem
  obtain rfl := List.mem_singleton.1 hmem
  have hh : typeHandle Tryz.prog 51 = .pointer (some ⟨2, 51, none⟩) := by kernel_rfl
  rw [hh] at e5
  unfold EtC
  simpa using World.var?_cell etc_global e5 0
theorem etc_of_laid {W : World} (h : laidMetH Tryz.prog [("errors.errorType", Rows.laid_errors_errorType)] W) : EtC W := by
  have h' : laidMet Tryz.prog [] W ∧ handlesMet Tryz.prog [("errors.errorType", Rows.laid_errors_errorType)] W := h
  exact etc_of_handles h'.2 (List.mem_singleton.2 rfl)
end Go.Proofs.YtmljhkdojopljaaGreatDoor
/-
  The law BundleFinds of layer 16, at whatever comes in, whatever words the table of layer 2 holds. Condition: errors.errorType holds the handle of the type error (EtC).
-/
namespace Go.Proofs.YtmljhkdojopljaaGreatDoor
set_option maxRecDepth 100000
open Go.RowKit Go.WideShapes
set_option linter.unusedSimpArgs false
set_option linter.unusedVariables false

theorem open_u64B {H : Type} {enc : TypeId × Value → H} {W : World} {base b1 : Nat} {spare : Nat → Bool} {held : Bool} {r : Reach} {v : Value} {d : DataW H} {p : List MemPlace} (hv : Value.okWide Tryz.prog W r base 22 v) (ht : DataW.Trod enc Tryz.prog W b1 spare held 22 v d p) : ∃ n : Nat, v = .int .u64 (n : Int) := by
  obtain ⟨n, rfl⟩ := okWide_int Tryz.underlying22 hv
  obtain ⟨fuel, hf⟩ := ht
  obtain ⟨y, hy, _⟩ := opens_num Tryz.underlying22 enc W _ _ _ _ _ _ hf
  simp [Value.cells] at hy
  exact ⟨y, by rw [hy]⟩
theorem bundlefinds_any (v0 v1 : Value) (W : World) {H : Type} {enc : TypeId × Value → H} {base : Nat} {d0 d1 : DataW H} {p0 p1 : List MemPlace}
    (hv0 : Value.okWide Tryz.prog W .any base 26 v0) (ht0 : DataW.Trod enc Tryz.prog W 0 (fun _ => true) true 26 v0 d0 p0) (hv1 : Value.okWide Tryz.prog W .any base 22 v1) (ht1 : DataW.Trod enc Tryz.prog W 0 (fun _ => true) true 22 v1 d1 p1) (hg : EtC W) (hsh : W.ShapedOpen Tryz.prog) :
    Calls Tryz.prog 5 #[v0, v1] W fun e w' => e = .returned (.bool true) ∧ Below W.heap.size W w' := by
  obtain ⟨I, hk⟩ := tab_of_open hsh
  obtain ⟨v, es, gs, eA, gA, ec, gc, rfl, hv, hec, hgc, hecm, hgcm, ⟨hre, hoe, hml, hfe⟩, hrg, hfg⟩ := open_bundle hv0 ht0
  obtain ⟨tk, rfl⟩ := open_u64B hv1 ht1
  exact bundlefinds_core v es gs _ ec _ gc tk eA gA W (Lib.hid rfl) (Lib.hid rfl) hre hoe hrg hv hfe hfg hec hgc (by omega) (by omega) hml (Lib.hid hk) hg
end Go.Proofs.YtmljhkdojopljaaGreatDoor
