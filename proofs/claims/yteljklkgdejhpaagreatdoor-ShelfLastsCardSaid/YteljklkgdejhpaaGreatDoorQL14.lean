/-
  What the reference of layer 19 answers: Less, Right, Has, Same. No conditions but those typed.
-/
import Derived.Test.YteljklkgdejhpaaGreatDoorQL13
import Derived.LoopN
import Derived.Deep.DeepCutAuto
set_option linter.unusedSimpArgs false
set_option linter.unusedVariables false
set_option maxRecDepth 100000
set_option maxHeartbeats 16000000
namespace Go.Proofs.YteljklkgdejhpaaGreatDoor
open Go.RowKit
theorem zlR (room1 room2 : Int) (fl1 fl2 : Nat) (l m : List Us) (n1 n2 c1 c2 : Nat) (A1 A2 : Option Addr) (w : World) (HN : Hid (l.length = n1)) (HM : Hid (m.length = n2)) (hr : RdU w A1 l) (hs : RdU w A2 m) (hn : n1 ≤ 1000000000) :
  Calls Tryz.prog 57 #[aggC room1 fl1 A1 n1 c1, aggC room2 fl2 A2 n2 c2] w fun e w' => e = .returned (.bool (decide ((room1, fl1, l) = (room2, fl2, m)))) ∧ Below w.heap.size w w' := by
 obtain ⟨P, hP⟩ : ∃ P, decide ((room1, fl1, l) = (room2, fl2, m)) = P := ⟨_, rfl⟩
 rw [hP]
 have HP := Lib.hid hP
 clear hP
 have hR0 : Row ((w.alloc (.cells #[.int .i64 room1, .int .u64 (fl1 : Int), .slice A1 n1 c1] 35)).alloc (.cells #[.int .i64 room2, .int .u64 (fl2 : Int), .slice A2 n2 c2] 35)) w.heap.size 35 [.int .i64 room1, .int .u64 (fl1 : Int), .slice A1 n1 c1] := (Row.new w _ _ _ rfl).alloc _
 have hR1 : Row ((w.alloc (.cells #[.int .i64 room1, .int .u64 (fl1 : Int), .slice A1 n1 c1] 35)).alloc (.cells #[.int .i64 room2, .int .u64 (fl2 : Int), .slice A2 n2 c2] 35)) (w.heap.size + 1) 35 [.int .i64 room2, .int .u64 (fl2 : Int), .slice A2 n2 c2] := Row.new_at _ _ (by simp) _ _ _ rfl
 have hB0 := zak (zak (Below.refl _ w) (.cells #[.int .i64 room1, .int .u64 (fl1 : Int), .slice A1 n1 c1] 35)) (.cells #[.int .i64 room2, .int .u64 (fl2 : Int), .slice A2 n2 c2] 35)
 unfold aggC
 go_enter Tryz.func57, Tryz.ntmps57
 go_upto_region 1 with fail
 generalize (w.alloc (.cells #[.int .i64 room1, .int .u64 (fl1 : Int), .slice A1 n1 c1] 35)).alloc (.cells #[.int .i64 room2, .int .u64 (fl2 : Int), .slice A2 n2 c2] 35) = w1 at hR0 hR1 hB0 ⊢
 obtain ⟨bg, hbgE⟩ : ∃ bg, bg = w.heap.size := ⟨_, rfl⟩
 rw [← hbgE] at hR0 hR1 ⊢
 have HBG := Lib.hid hbgE
 clear hbgE
 have HB0 := Lib.hid hB0
 have hr1 := hr.keep hB0
 have hs1 := hs.keep hB0
 clear hB0 hr hs
 have k0 := hR0.cell (i := 0) rfl
 have k1 := hR0.cell (i := 1) rfl
 have k2 := hR0.cell (i := 2) rfl
 have k3 := hR1.cell (i := 0) rfl
 have k4 := hR1.cell (i := 1) rfl
 have k5 := hR1.cell (i := 2) rfl
 by_cases h1 : room1 = room2
 rotate_left 1
 ·have HF : Hid (P = false) := by unfold Hid; rw [← HP.out, decide_eq_false_iff_not]; intro h; injection h with h; exact h1 h
  go_wp2_with fail
  go_ret
  exact ⟨by rw [HF.out]; rfl, HB0.out⟩
 by_cases h2 : fl1 = fl2
 rotate_left 1
 ·have HF : Hid (P = false) := by unfold Hid; rw [← HP.out, decide_eq_false_iff_not]; intro h; injection h with _ h; injection h with h; exact h2 h
  go_wp2_with fail
  go_ret
  exact ⟨by rw [HF.out]; rfl, HB0.out⟩
 by_cases h3 : n1 = n2
 rotate_left 1
 ·have HF : Hid (P = false) := by
   unfold Hid
   rw [← HP.out, decide_eq_false_iff_not]
   intro h
   injection h with _ h
   injection h with _ h
   apply h3
   rw [← HN.out, ← HM.out, h]
  go_wp2_with fail
  go_ret
  exact ⟨by rw [HF.out]; rfl, HB0.out⟩
 subst h1
 subst h2
 subst h3
 have HEQ : Hid (P = decide (l = m)) := by
  unfold Hid
  rw [← HP.out, decide_eq_decide]
  simp
 clear HP
 go_wp2_with fail
 clear k0 k1 k2 k3 k4 k5
 go_loopw [5] (fun i wr => (∃ k : Nat, i = .int .i64 (k : Int) ∧ k ≤ n1 ∧ l.take k = m.take k) ∧ Below w1.heap.size w1 wr) (fun i _ => n1 - (intOf i).toNat)
 case atStart => exact ⟨⟨0, rfl, by omega, by simp⟩, Below.refl _ _⟩
 case round =>
  obtain ⟨⟨k, rfl, hk, htk⟩, hB⟩ := hrel
  have HB := Lib.hid hB
  have hQ0 := hR0.later hB
  have hQ1 := hR1.later hB
  have k2 : wr.cell? ⟨bg, 2, none⟩ = some (.slice A1 n1 c1) := hQ0.cell rfl
  by_cases hlt : k < n1
  ·have hkl : k < l.length := by rw [HN.out]; exact hlt
   have hkm : k < m.length := by rw [HM.out]; exact hlt
   obtain ⟨b, o, rfl, hb, _, p0, p1, p2⟩ := hr1.pair hkl
   obtain ⟨b2, o2, rfl, hb2, _, q0, q1, q2⟩ := hs1.pair hkm
   have HT : Hid (l[k] = m[k] → l.take (k + 1) = m.take (k + 1)) := fun h => by
    rw [List.take_succ_eq_append_getElem hkl, List.take_succ_eq_append_getElem hkm, htk, h]
   have HI : Hid (¬ l[k] = m[k] → P = false) := fun h => by
    rw [HEQ.out, decide_eq_false_iff_not]
    intro e
    subst e
    exact h rfl
   generalize l[k] = x at p0 p1 p2 HT HI
   generalize m[k] = y at q0 q1 q2 HT HI
   obtain ⟨x0, x1, x2⟩ := x
   obtain ⟨y0, y1, y2⟩ := y
   unfold vNU at p0 p1 p2 q0 q1 q2
   dsimp only at p0 p1 p2 q0 q1 q2
   have d0 : ∀ W, Below wr.heap.size wr W → W.cell? ⟨b, o + k * 3, none⟩ = some (.int .u64 (x0 : Int)) := fun W hW => ((hB.trans (hW.mono hB.size)).cell (p := ⟨b, o + k * 3, none⟩) hb).trans p0
   have d1 : ∀ W, Below wr.heap.size wr W → W.cell? ⟨b, o + k * 3 + 1, none⟩ = some (.int .u64 (x1 : Int)) := fun W hW => ((hB.trans (hW.mono hB.size)).cell (p := ⟨b, o + k * 3 + 1, none⟩) hb).trans p1
   have d2 : ∀ W, Below wr.heap.size wr W → W.cell? ⟨b, o + k * 3 + 2, none⟩ = some (.int .u64 (x2 : Int)) := fun W hW => ((hB.trans (hW.mono hB.size)).cell (p := ⟨b, o + k * 3 + 2, none⟩) hb).trans p2
   have d3 : ∀ W, Below wr.heap.size wr W → W.cell? ⟨b2, o2 + k * 3, none⟩ = some (.int .u64 (y0 : Int)) := fun W hW => ((hB.trans (hW.mono hB.size)).cell (p := ⟨b2, o2 + k * 3, none⟩) hb2).trans q0
   have d4 : ∀ W, Below wr.heap.size wr W → W.cell? ⟨b2, o2 + k * 3 + 1, none⟩ = some (.int .u64 (y1 : Int)) := fun W hW => ((hB.trans (hW.mono hB.size)).cell (p := ⟨b2, o2 + k * 3 + 1, none⟩) hb2).trans q1
   have d5 : ∀ W, Below wr.heap.size wr W → W.cell? ⟨b2, o2 + k * 3 + 2, none⟩ = some (.int .u64 (y2 : Int)) := fun W hW => ((hB.trans (hW.mono hB.size)).cell (p := ⟨b2, o2 + k * 3 + 2, none⟩) hb2).trans q2
   have d6 : ∀ W, Below wr.heap.size wr W → W.cell? ⟨bg, 2, none⟩ = some (.slice (some ⟨b, o, none⟩) n1 c1) := fun W hW => (hQ0.later hW).cell rfl
   have d7 : ∀ W, Below wr.heap.size wr W → W.cell? ⟨bg + 1, 2, none⟩ = some (.slice (some ⟨b2, o2, none⟩) n1 c2) := fun W hW => (hQ1.later hW).cell rfl
   have i2 : (0 : Int) ≤ (k : Int) := by omega
   have i3 : (k : Int) < (n1 : Int) := by omega
   have hq := fun W => zpe x0 x1 x2 y0 y1 y2 W
   have HQ : Hid (decide ((x0, x1, x2) = (y0, y1, y2)) = true ↔ (x0, x1, x2) = (y0, y1, y2)) := by unfold Hid; rw [decide_eq_true_iff]
   generalize decide ((x0, x1, x2) = (y0, y1, y2)) = r at hq HQ
   have hgd := fun op x y xs ys W => ziy op x y xs ys W
   clear hB htk p0 p1 p2 q0 q1 q2 hQ0 hQ1
   go_wp2_with fail
   have hBase := (Below.refl wr.heap.size wr).drew
   refine zaw (.step 0 false (.step 1 false (.step 2 false (.step 3 false (.step 4 false (.step 5 false (.step 6 false (.step 7 false (.step 8 false (.step 9 false (.step 10 false (.nil)))))))))))) (by kernel_rfl) (by kernel_rfl) (by rfl) (by kernel_rfl) ?_
   iterate 11 (refine zae rfl (by rfl) (v := ?_) ?_ ?_; rotate_left 1; (intro W hW; have hW0 := zaa hBase hW; (try dsimp only at hW); go_simp <;> with_reducible rfl); simp only [List.getElem_toArray, List.getElem_cons_zero, List.getElem_cons_succ, Act.put, List.setIfInBounds_toArray, List.set_cons_zero, List.set_cons_succ])
   refine zal ?_
   have HB2 := Lib.hid (zaa HB.out hBase)
   cases r with
   | true =>
    have HH := Lib.hid (HT.out (HQ.out.1 rfl))
    go_wp2_with fail
    go_roundw
    case rel => exact ⟨⟨k + 1, by go_num, by omega, HH.out⟩, HB2.out⟩
    case measure => simp [intOf]; omega
   | false =>
    have hne : ¬ (x0, x1, x2) = (y0, y1, y2) := fun h => by have := HQ.out.2 h; cases this
    have HF := Lib.hid (HI.out hne)
    clear hne
    go_wp2_with fail
    go_ret
    exact ⟨by rw [HF.out]; rfl, zaa HB0.out HB2.out⟩
  ·have hkn : k = n1 := by omega
   have HT : Hid (P = true) := by
    unfold Hid
    rw [HEQ.out, decide_eq_true_iff]
    rw [hkn] at htk
    rw [List.take_of_length_le (Nat.le_of_eq HN.out), List.take_of_length_le (Nat.le_of_eq HM.out)] at htk
    exact htk
   have j1 : ¬ (k : Int) < (n1 : Int) := by omega
   clear htk hkn hB hQ0 hQ1
   go_wp2_with fail
   go_ret
   exact ⟨by rw [HT.out]; rfl, zaa HB0.out HB.out⟩
theorem zh4 {m m' : MemK} : m = m' ↔ m.clock = m'.clock ∧ m.b = m'.b ∧ m.c = m'.c := by
 constructor
 ·rintro rfl; exact ⟨rfl, rfl, rfl⟩
 ·rintro ⟨h1, h2, h3⟩
  cases m
  cases m'
  simp only at h1 h2 h3
  rw [h1, h2, h3]
theorem zbC (x y : WM) (m m' : MemK) (w : World) (h : InM w x m) (h' : InM w y m') : Calls Tryz.prog 27 #[aggM x m, aggM y m'] w (zpG w (m = m')) := by
 obtain ⟨hR0, hR1, hB⟩ := zaB w 37 37 (lM x m) (lM y m') _ _ rfl rfl
 have hsb := fun W (hb : Below w.heap.size w W) => znS m.b.1 m'.b.1 x.b.es y.b.es m.b.2.2 m'.b.2.2 x.b.n x.b.ec x.b.g x.b.gc y.b.n y.b.ec y.b.g y.b.gc x.b.eA x.b.gA y.b.eA y.b.gA W (Lib.hid h.ib.ne) (Lib.hid h.ib.ng) (Lib.hid h'.ib.ne) (Lib.hid h'.ib.ng) (h.ib.re.keep hb) (h.ib.oe.keep hb) (h.ib.rg.keep hb) (h'.ib.re.keep hb) (h'.ib.oe.keep hb) (h'.ib.rg.keep hb) (by have := h.ib.ln; omega) (by have := h.ib.lg; omega)
 have hsc := fun W (hb : Below w.heap.size w W) => zlR m.c.1 m'.c.1 m.c.2.1 m'.c.2.1 m.c.2.2 m'.c.2.2 x.c.s y.c.s x.c.c y.c.c x.c.A y.c.A W (Lib.hid h.ic.ns) (Lib.hid h'.ic.ns) (h.ic.ru.keep hb) (h'.ic.ru.keep hb) (by have := h.ic.ls; omega)
 rw [h.ib.con, h'.ib.con] at hsb
 have hP1 : ∃ P, decide ((m.b.1, m.b.2.1, m.b.2.2) = (m'.b.1, m'.b.2.1, m'.b.2.2)) = P := ⟨_, rfl⟩
 obtain ⟨P1, hP1⟩ := hP1
 have hP2 : ∃ P, decide ((m.c.1, m.c.2.1, m.c.2.2) = (m'.c.1, m'.c.2.1, m'.c.2.2)) = P := ⟨_, rfl⟩
 obtain ⟨P2, hP2⟩ := hP2
 rw [hP1] at hsb
 rw [hP2] at hsc
 have HP1 : Hid (P1 = true ↔ m.b = m'.b) := by rw [← hP1]; exact decide_eq_true_iff
 have HP2 : Hid (P2 = true ↔ m.c = m'.c) := by rw [← hP2]; exact decide_eq_true_iff
 clear hP1 hP2
 unfold aggB at hsb
 unfold aggC at hsc
 have HSB := Lib.hid hsb
 have HSC := Lib.hid hsc
 clear hsb hsc h h'
 unfold aggM
 go_enter Tryz.func27, Tryz.ntmps27
 go_upto_region 1 with fail
 generalize (w.alloc (.cells (lM x m).toArray 37)).alloc (.cells (lM y m').toArray 37) = W0 at hR0 hR1 hB ⊢
 have k0 := hR0.cell (i := 0) rfl
 have j0 := hR1.cell (i := 0) rfl
 by_cases hck : m.clock = m'.clock
 ·have i1 : (m.clock : Int) = (m'.clock : Int) := by omega
  have k1 := hR0.cell (i := 1) rfl
  have k2 := hR0.cell (i := 2) rfl
  have k3 := hR0.cell (i := 3) rfl
  have j1 := hR1.cell (i := 1) rfl
  have j2 := hR1.cell (i := 2) rfl
  have j3 := hR1.cell (i := 3) rfl
  have HCK := Lib.hid hck
  clear hck
  go_wp2_with fail
  refine (HSB.out _ hB).mono ?_
  rintro e w2 ⟨rfl, hb⟩
  replace hR0 := hR0.later hb
  replace hR1 := hR1.later hb
  replace hB := zaa hB hb
  clear hb k0 k1 k2 k3 j0 j1 j2 j3 HSB
  cases P1 with
  | false =>
   go_wp2_with fail
   go_ret
   exact ⟨false, rfl, ⟨(fun h => by cases h), fun h => HP1.out.2 (zh4.1 h).2.1⟩, hB⟩
  | true =>
   have k4 := hR0.cell (i := 4) rfl
   have k5 := hR0.cell (i := 5) rfl
   have k6 := hR0.cell (i := 6) rfl
   have j4 := hR1.cell (i := 4) rfl
   have j5 := hR1.cell (i := 5) rfl
   have j6 := hR1.cell (i := 6) rfl
   go_wp2_with fail
   refine (HSC.out _ hB).mono ?_
   rintro e w3 ⟨rfl, hb⟩
   replace hB := zaa hB hb
   clear hb k4 k5 k6 j4 j5 j6 HSC
   go_wp2_with fail
   go_ret
   exact ⟨P2, rfl, ⟨fun h => zh4.2 ⟨HCK.out, HP1.out.1 (by trivial), HP2.out.1 h⟩, fun h => HP2.out.2 (zh4.1 h).2.2⟩, hB⟩
 ·have i2 : ¬ (m.clock : Int) = (m'.clock : Int) := by omega
  have HCK := Lib.hid hck
  clear hck
  go_wp2_with fail
  go_ret
  exact ⟨false, rfl, ⟨(fun h => by cases h), fun h => absurd (zh4.1 h).1 HCK.out⟩, hB⟩
end Go.Proofs.YteljklkgdejhpaaGreatDoor
namespace Go.Proofs.YteljklkgdejhpaaGreatDoor
def TkC (T : List Us) (c : Ca) : Prop := ∀ t ∈ T, t ∈ c.2.2 ∨ t.2.2 < c.2.1
theorem TkC.raise {T : List Us} {c : Ca} (f : Nat) (h : TkC T c) : TkC T (zbi c f).1 := fun t ht => by
 have h0 := h t ht
 unfold zbi
 split
 ·exact h0
 ·dsimp only
  rw [zfV]
  rcases h0 with h1 | h1
  ·by_cases h2 : t.2.2 < max c.2.1 f
   ·exact .inr h2
   ·exact .inl ⟨h1, Nat.not_lt.1 h2⟩
  ·right; omega
theorem TkC.put {T : List Us} {c : Ca} {u : Us} (hr : zby c = true) (h : TkC T c) (h0 : (putC c u).2 = 0) : u ∉ T ∧ TkC (T ++ [u]) (putC c u).1 := by
 rcases ze7 c u hr with ⟨_, e⟩ | ⟨_, _, e⟩ | ⟨_, _, _, e⟩ | ⟨k1, k2, k3, e⟩
 ·rw [e] at h0; exact absurd h0 (by show ¬ (10 : Int) = 0; decide)
 ·rw [e] at h0; exact absurd h0 (by show ¬ (11 : Int) = 0; decide)
 ·rw [e] at h0; exact absurd h0 (by show ¬ (12 : Int) = 0; decide)
 ·rw [e]
  refine ⟨fun hu => ?_, fun t ht => ?_⟩
  ·rcases h u hu with h1 | h1
   ·exact k2 h1
   ·omega
  ·show t ∈ insU c.2.2 u ∨ t.2.2 < c.2.1
   rw [zfI]
   rcases List.mem_append.1 ht with ht | ht
   ·rcases h t ht with h1 | h1
    ·exact .inl (.inl h1)
    ·exact .inr h1
   ·rw [List.mem_singleton] at ht
    exact .inl (.inr ht)
theorem TkC.less {T S : List Us} {c : Ca} (h : TkC T c) (hs : ∀ t ∈ S, t ∈ T) : TkC S c := fun t ht => h t (hs t ht)
theorem zlS {T : List Us} {m : MemK} {u : Us} {clock floor : Nat} (hr : zaX m = true) (h : TkC T m.c) (h0 : (zaY m u clock floor).2 = 0) : u ∉ T ∧ TkC (T ++ [u]) (zaY m u clock floor).1.c := by
 unfold zaY at h0 ⊢
 split at h0
 ·exact absurd h0 (by show ¬ (13 : Int) = 0; decide)
 ·rename_i hc
  split at h0
  ·rename_i hne
   exact absurd h0 hne
  ·rename_i hne
   have hput : (putC (zbi m.c floor).1 u).2 = 0 := Classical.byContradiction hne
   rw [if_neg hc, if_neg (not_not_intro hput)]
   exact TkC.put (zfW floor (zaU.1 hr).2).1 (h.raise floor) hput
theorem zkQ (f : List UInt8 → List UInt8) : za6 f [] = none := by
 unfold za6 zaP rowF
 rfl
def zbu (room : Int) : MemK := ⟨0, (0, [], []), (room, 0, [])⟩
theorem zfC {room : Int} (h : 0 ≤ room ∧ room ≤ 64) : zaX (zbu room) = true := by
 refine zaU.2 ⟨by show zaJ [] [] = true; decide +kernel, zct.2 ⟨h, ?_, fun u hu => ?_, List.Pairwise.nil⟩⟩
 ·exact h.1
 ·cases hu
theorem zlT (room : Int) : fitM (zbu room) := ⟨by show (0 : Nat) < _; decide, ⟨by show (0 : Nat) < _; decide, (fun x hx => by cases hx), (fun x hx => by cases hx)⟩, by show (0 : Nat) < _; decide, (fun x hx => by cases hx)⟩
section
variable {f : List UInt8 → List UInt8} (h4 : ∀ b, (f b).length = 4)
include h4
theorem zkR {room : Int} (h : 0 ≤ room ∧ room ≤ 64) : ∃ s, zcv f newK room = (s, 0) ∧ zav f s ∧ s.m = zbu room ∧ s.num = 1 ∧ s.turn = 0 ∧ s.d.fuse = -1 ∧ (getA s.d 0).b.length = (zaz 1 (zbu room)).length + 6 := by
 have hr0 : zaS ⟨[], 0⟩ := ⟨Int.le_refl _, Int.le_refl _, Nat.zero_le _⟩
 have hnew : newK = mkD 1 ⟨[], 0⟩ ⟨[], 0⟩ (-1) 0 false := rfl
 have hfr : zcZ f newK room = ⟨newK, 1, 0, zbu room⟩ := by
  unfold zcZ hasK newK
  rw [zkQ]
  rfl
 have hrt : zaA newK := by rw [hnew]; exact (zbN (.inr rfl)).2 ⟨hr0, hr0, Int.le_refl _, Int.le_refl _⟩
 have ht : (zaz 1 (zbu room)).length ≤ 60000 := by have := zgp 1 (zfC h); omega
 have hrd : za2 (zaz 1 (zbu room)) = some (1, zbu room) := zfJ (zfC h) (zlT room) (by decide)
 have hS : (zas f (zaz 1 (zbu room))).length ≤ 1048576 := by have := zaZ h4 (zaz 1 (zbu room)); omega
 rcases zfy h4 (k := 1) (.inr rfl) hr0 (show zd0 ⟨[], 0⟩ from rfl) hr0 (Int.le_refl (-1)) (Int.le_refl 0) ht with ⟨fu', h1, h2, e⟩ | ⟨h1, _⟩
 ·have hA : HasA f 0 ⟨zas f (zaz 1 (zbu room)), ((zas f (zaz 1 (zbu room))).length : Int)⟩ ⟨[], 0⟩ 1 (zbu room) (zas f (zaz 1 (zbu room))).length :=
   ⟨.inl rfl, ⟨Int.natCast_nonneg _, Int.le_refl _, hS⟩, hr0, rfl, zkh h4 ht hrd, by rw [zkQ]; exact fun y hy => by cases hy⟩
  have hf1 := h2 rfl
  refine ⟨⟨mkD 0 ⟨zas f (zaz 1 (zbu room)), ((zas f (zaz 1 (zbu room))).length : Int)⟩ ⟨[], 0⟩ fu' 0 false, 0, 1, zbu room⟩, ?_, hA.right h1 (Int.le_refl _) (by decide), rfl, rfl, rfl, hf1, by show (zas f (zaz 1 (zbu room))).length = _; rw [zaZ h4, Nat.add_comm]⟩
  have ean : zbA f (zcZ f newK room) = (⟨mkD 0 ⟨zas f (zaz 1 (zbu room)), ((zas f (zaz 1 (zbu room))).length : Int)⟩ ⟨[], 0⟩ fu' 0 false, 0, 1, zbu room⟩, 0) := by
   rw [hfr]
   unfold zbA
   dsimp only
   rw [if_neg (by decide)]
   have e' : zbd f newK (1 - 1) (zaz (0 + 1) (zbu room)) = (mkD 1 ⟨[], 0⟩ ⟨zas f (zaz 1 (zbu room)), ((zas f (zaz 1 (zbu room))).length : Int)⟩ fu' 0 false, 0) := e
   rw [e', if_neg (not_not_intro rfl)]
   rfl
  unfold zcv
  rw [if_neg (not_not_intro ⟨hrt, h⟩), if_neg (by decide), ean, if_neg (not_not_intro rfl)]
 ·exact absurd rfl h1
end
end Go.Proofs.YteljklkgdejhpaaGreatDoor
namespace Go.Proofs.YteljklkgdejhpaaGreatDoor
open Go.RowKit
section
variable {f : List UInt8 → List UInt8} (h4 : ∀ b, (f b).length = 4)
include h4
theorem zja {s : ShK} (h : zav f s) (hfuse : s.d.fuse = -1) {m' : MemK} {t : List UInt8} (ht : t.length ≤ 60000) (hg : zbT s.m t = some m') (hl : (getA s.d s.turn.toNat).b.length + t.length + 6 ≤ 8192) :
  ∃ s', zb5 f s m' t = (s', 0) ∧ zav f s' ∧ s'.m = m' ∧ s'.turn = s.turn ∧ s'.num = s.num ∧ s'.d.fuse = -1 ∧ (getA s'.d s'.turn.toNat).b.length = (getA s.d s.turn.toNat).b.length + t.length + 6 := by
 obtain ⟨k, a, o, hd, hturn, hA, hfu, hke, hn⟩ := HasA.of h
 have hS := zaZ h4 t
 obtain ⟨d, turn, num, m⟩ := s
 dsimp only at hd hturn hA hfu hke hn hg hfuse hl
 subst hturn
 obtain ⟨ke, hkee⟩ : ∃ ke, d.keep = ke := ⟨_, rfl⟩
 rw [hfuse, hkee] at hd
 rw [hkee] at hke
 subst hd
 rw [Int.toNat_natCast, (zdN k hA.kk a o (-1) ke false).1] at hl
 unfold zb5
 dsimp only
 rw [Int.toNat_natCast, (zdN k hA.kk a o (-1) ke false).1, if_neg (by omega)]
 rcases zky (f := f) hA.kk hA.ra hA.sure hA.ro (Int.le_refl (-1)) hke (t := t) (by omega) with ⟨fu', h1, h2, e⟩ | ⟨h1, _⟩
 ·have h3 : HasA f k ⟨a.b ++ zas f t, ((a.b ++ zas f t).length : Int)⟩ o num m' (a.b ++ zas f t).length :=
   ⟨hA.kk, ⟨Int.natCast_nonneg _, Int.le_refl _, by show (a.b ++ zas f t).length ≤ _; rw [List.length_append]; omega⟩, hA.ro, rfl, zf1 h4 (show zig f a.b num m from hA.has) ht hg, hA.beats⟩
  rw [e, if_neg (not_not_intro rfl)]
  refine ⟨_, rfl, h3.right h1 hke hn, rfl, rfl, rfl, ?_, ?_⟩
  ·rw [(zaM k _ o fu' ke false).2.1]
   exact h2 rfl
  ·dsimp only
   rw [Int.toNat_natCast, (zdN k hA.kk _ o fu' ke false).1]
   show (a.b ++ zas f t).length = _
   rw [List.length_append]
   omega
 ·exact absurd rfl h1
theorem wake : ∃ s0 s1 s2 t, zcv f newK 2 = (s0, 0) ∧ zav f s0 ∧ zaD f s0 (3, [], []) = (s1, 0) ∧ zav f s1 ∧ zbq f s1 (1, 1, 7) 210 6 = (s2, 0) ∧ zbq f s2 (1, 1, 7) 210 6 = (s2, 11) ∧ zcv f s2.d 0 = (t, 0) ∧ zaD f t (3, [], []) = (t, 13) ∧
  s2.turn = 0 ∧ s2.num = 1 ∧ t.turn = 1 ∧ t.num = 2 ∧ t.m = ⟨210, (3, [], []), (2, 6, [(1, 1, 7)])⟩ ∧ s2.m = ⟨210, (3, [], []), (2, 6, [(1, 1, 7)])⟩ ∧ zav f s2 ∧ zav f t ∧ s0.d.fuse = -1 ∧ s1.d.fuse = -1 ∧ s2.d.fuse = -1 ∧ t.d.fuse = -1 ∧ s0.num = 1 ∧ s1.num = 1 := by
 obtain ⟨s0, e0, r0, m0, n0, t0, f0, l0⟩ := zkR h4 (room := 2) ⟨by decide, by decide⟩
 have hL0 : (zaz 1 (zbu 2)).length ≤ 80 := by decide +kernel
 have hB : (zdF (3, [], [])).length ≤ 60 := by decide +kernel
 have hU : (zcz (1, 1, 7) 210 6).length = 41 := by decide +kernel
 have hrb : zaJ ([] : List En) ([] : List Gn) = true := by decide +kernel
 have hfb : zhE (3, [], []) := ⟨by show (3 : Nat) < _; decide, (fun x hx => by cases hx), (fun x hx => by cases hx)⟩
 obtain ⟨s1, e1, r1, m1, t1, n1, f1, l1⟩ := zja h4 r0 f0 (m' := { s0.m with b := (3, [], []) }) (t := zdF (3, [], [])) (by omega) (zkg hrb hfb (by rw [m0]; decide)) (by rw [t0]; show (getA s0.d 0).b.length + _ + 6 ≤ _; omega)
 have hi1 : zaD f s0 (3, [], []) = (s1, 0) := by
  unfold zaD
  rw [if_neg (not_not_intro ⟨r0, hrb⟩), if_neg (by rw [m0]; decide)]
  exact e1
 rw [m0] at m1
 have hM1 : s1.m = ⟨0, (3, [], []), (2, 0, [])⟩ := m1
 have hT1 : zaY s1.m (1, 1, 7) 210 6 = (⟨210, (3, [], []), (2, 6, [(1, 1, 7)])⟩, 0) := by rw [hM1]; rfl
 have hfu : zcF ((1, 1, 7) : Us) := ⟨by show (1 : Nat) < _; decide, by show (1 : Nat) < _; decide, by show (7 : Nat) < _; decide⟩
 have hg2 := zkf (m := s1.m) (u := (1, 1, 7)) (clock := 210) (floor := 6) hfu (by decide) (by decide) (by rw [hT1])
 obtain ⟨s2, e2, r2, m2, t2, n2, f2, l2⟩ := zja h4 r1 f1 (t := zcz (1, 1, 7) 210 6) (by omega) hg2 (by rw [l1, t0]; show (getA s0.d 0).b.length + _ + 6 + _ + 6 ≤ _; omega)
 have hi2 : zbq f s1 (1, 1, 7) 210 6 = (s2, 0) := by
  unfold zbq
  rw [if_neg (not_not_intro r1), if_neg (by rw [hT1]; decide)]
  exact e2
 rw [hT1] at m2
 have hM2 : s2.m = ⟨210, (3, [], []), (2, 6, [(1, 1, 7)])⟩ := m2
 have hT2 : zaY s2.m (1, 1, 7) 210 6 = (s2.m, 11) := by rw [hM2]; rfl
 have hi3 : zbq f s2 (1, 1, 7) 210 6 = (s2, 11) := by
  unfold zbq
  rw [if_neg (not_not_intro r2), if_pos (by rw [hT2]; show ¬ (11 : Int) = 0; decide), hT2]
 obtain ⟨k, a, o, hd, hturn, hA, hfu2, hke2, hn2⟩ := HasA.of r2
 have htn : s2.turn = 0 := by rw [t2, t1, t0]
 have hk0 : k = 0 := by omega
 subst hk0
 have hnn : s2.num = 1 := by rw [n2, n1, n0]
 rcases zkB h4 hA (Int.le_refl (-1)) hke2 (by omega) (zb9 hA.has).2 (room := 0) ⟨by decide, by decide⟩ with ⟨fu', o', g1, g2, g3, e⟩ | ⟨g1, _⟩
 ·rw [← f2, ← hd] at e
  refine ⟨s0, s1, s2, _, e0, r0, hi1, r1, hi2, hi3, e, ?_, htn, hnn, rfl, by rw [hnn], hM2, hM2, r2, g3.right g1 hke2 (by omega), f0, f1, f2, ?_, n0, by rw [n1, n0]⟩
  ·unfold zaD
   rw [if_neg (not_not_intro ⟨g3.right g1 hke2 (by omega), hrb⟩), if_pos (by dsimp only; rw [hM2]; decide)]
  ·rw [(zaM (1 - 0) o' a fu' s2.d.keep false).2.1]
   exact g2 rfl
 ·exact absurd rfl g1
end
theorem zjb (d : DK) (k : Nat) (a : AK) : (setA d k a).keep = d.keep := by
 unfold setA
 split <;> rfl
theorem zd4 (d : DK) (k : Int) (full : Nat → Bool) (goes done : Nat → AK → AK) : (zcW d k full goes done).1.keep = d.keep := by
 unfold zcW
 split
 ·rfl
 ·split
  ·rfl
  ·split
   ·rfl
   ·split
    ·show (setA d k.toNat _).keep = _
     exact zjb _ _ _
    ·show (setA d k.toNat _).keep = _
     exact zjb _ _ _
theorem zfo (f : List UInt8 → List UInt8) (d : DK) (k : Int) (t : List UInt8) : (zdb f d k t).1.keep = d.keep := by
 unfold zdb
 split
 ·exact zd4 _ _ _ _ _
 ·exact (zd4 _ _ _ _ _).trans (zd4 _ _ _ _ _)
theorem ze4 (f : List UInt8 → List UInt8) (d : DK) (k : Int) (t : List UInt8) : (zbd f d k t).1.keep = d.keep := by
 unfold zbd
 split
 ·exact (zfo _ _ _ _).trans (zd4 _ _ _ _ _)
 ·exact zd4 _ _ _ _ _
theorem zfp (f : List UInt8 → List UInt8) (s : ShK) : (zbA f s).1.d.keep = s.d.keep := by
 unfold zbA
 split
 ·rfl
 ·split
  ·exact ze4 _ _ _ _
  ·exact ze4 _ _ _ _
theorem zgE (f : List UInt8 → List UInt8) (s : ShK) (m : MemK) (t : List UInt8) : (zb5 f s m t).1.d.keep = s.d.keep := by
 unfold zb5
 split
 ·split
  ·rfl
  ·exact zfp _ _
 ·split
  ·exact zfo _ _ _ _
  ·exact zfo _ _ _ _
theorem zgF (f : List UInt8 → List UInt8) (s : ShK) (u : Us) (clock floor : Nat) : (zbq f s u clock floor).1.d.keep = s.d.keep := by
 unfold zbq
 split
 ·rfl
 ·split
  ·rfl
  ·exact zgE _ _ _ _
theorem zep (f : List UInt8 → List UInt8) (s : ShK) (b : Bn) : (zaD f s b).1.d.keep = s.d.keep := by
 unfold zaD
 split
 ·rfl
 ·split
  ·rfl
  ·exact zgE _ _ _ _
theorem znT (f : List UInt8 → List UInt8) (d : DK) (room : Int) : (zcZ f d room).d = d := by
 unfold zcZ
 split <;> rfl
theorem zht (f : List UInt8 → List UInt8) (d : DK) (room : Int) : (zcv f d room).1.d.keep = d.keep := by
 unfold zcv
 split
 ·rfl
 ·split
  ·rfl
  ·split
   ·show (zbA f (zcZ f d room)).1.d.keep = _
    rw [zfp, znT]
   ·rw [zfp, znT]
theorem zlU (d : DK) : (zbL d).1.keep = d.keep := by
 unfold zbL
 split <;> rfl
theorem zpI (w : World) : InB w zcC (3, [], []) := ⟨rfl, rfl, rfl, Nat.le_refl _, Nat.le_refl _, RdE.nil, okD.nil _, RdG.nil, by decide, by decide, (fun x hx => by cases hx), ⟨by decide, (fun x hx => by cases hx), (fun x hx => by cases hx)⟩⟩
theorem zo3 (w : World) : InD w ⟨none, 0, 0, none, 0, 0⟩ newK := ⟨rfl, Nat.le_refl _, Rd.nil, rfl, Nat.le_refl _, Rd.nil⟩
theorem znU : LimK newK := ⟨Nat.zero_le _, Nat.zero_le _, by decide, by decide⟩
theorem zgG {f : List UInt8 → List UInt8} {w : World} {x : WS} {s : ShK} (h : InS w x s) (r : zav f s) : x.d.n0 ≤ 1000000000 ∧ x.d.n1 ≤ 1000000000 ∧ s.num < 18446744073709551616 :=
 ⟨by rw [← h.id.l0]; have := r.1.1.2.2; omega, by rw [← h.id.l1]; have := r.1.2.1.2.2; omega, by have := r.2.2.2.1; omega⟩
theorem zj7 [Inhabited Tab] (w : World) (HK : Hid (KTab w)) : Calls Tryz.prog 7 #[] w fun e w' => e = .returned (.bool true) ∧ Below w.heap.size w w' := by
 obtain ⟨s0, s1, s2, t, e0, r0, e1, r1, e2, e3, e4, e5, t0, n0, t1, n1, mt, ms, r2, rt, f0, f1, f2, ft, q0, q1⟩ := wake (f := fS) zcr
 obtain ⟨d2, tu2, nu2, mm2⟩ := s2
 obtain ⟨dt, tut, nut, mmt⟩ := t
 dsimp only at t0 n0 t1 n1 mt ms f2 ft
 subst t0 n0 t1 n1 mt ms
 have k0 : s0.d.keep = 0 := by have := zht fS newK 2; rw [e0] at this; exact this
 have k1 : s1.d.keep = 0 := by have := zep fS s0 (3, [], []); rw [e1] at this; exact this.trans k0
 have k2 : d2.keep = 0 := by have := zgF fS s1 (1, 1, 7) 210 6; rw [e2] at this; exact this.trans k1
 have kt : dt.keep = 0 := by have := zht fS d2 0; rw [e4] at this; exact this.trans k2
 have HKT := Lib.hid (fun W (hb : Below w.heap.size w W) => HK.out.keep hb)
 have H0 := Lib.hid (fun W (hb : Below w.heap.size w W) => by have := zej ⟨none, 0, 0, none, 0, 0⟩ newK 2 W (zo3 W) znU (Lib.hid (HKT.out W hb)); rw [e0] at this; exact this)
 have hI : ∀ (s : ShK), zav fS s → s.d.fuse = -1 → s.d.keep = 0 → ∀ (x : WS) W, Below w.heap.size w W → InS W x s → Calls Tryz.prog 22 #[aggS x s, .agg #[.int .u64 3, .slice none 0 0, .slice none 0 0]] W (RetX W (zaD fS s (3, [], [])).1 (zaD fS s (3, [], [])).2) := fun s r hf hk x W hb hx => by
  obtain ⟨h1, h2, h3⟩ := zgG hx r
  exact zcc x s zcC (3, [], []) W hx (zpI W) h1 h2 h3 (by omega) (by omega) (Lib.hid (HKT.out W hb))
 have hT : ∀ (s : ShK), zav fS s → s.d.fuse = -1 → s.d.keep = 0 → ∀ (x : WS) W, Below w.heap.size w W → InS W x s → Calls Tryz.prog 20 #[aggS x s, .agg #[.int .u64 1, .int .u64 1, .int .u64 7], .int .u64 210, .int .u64 6] W (RetX W (zbq fS s (1, 1, 7) 210 6).1 (zbq fS s (1, 1, 7) 210 6).2) := fun s r hf hk x W hb hx => by
  obtain ⟨h1, h2, h3⟩ := zgG hx r
  exact zdp x s (1, 1, 7) 210 6 W hx ⟨by show (1 : Nat) < _; decide, by show (1 : Nat) < _; decide, by show (7 : Nat) < _; decide⟩ (by decide) (by decide) h1 h2 h3 (by omega) (by omega) (Lib.hid (HKT.out W hb))
 have hR : ∀ (s : ShK), zav fS s → ∀ (x : WS) W, Below w.heap.size w W → InS W x s → Calls Tryz.prog 15 #[aggS x s] W (zpG W (zav fS s)) := fun s r x W hb hx => by
  obtain ⟨h1, h2, h3⟩ := zgG hx r
  exact zdE x s W hx h1 h2 h3 (Lib.hid (HKT.out W hb))
 have H1 := hI s0 r0 f0 k0
 rw [e1] at H1
 have H2 := hT s1 r1 f1 k1
 rw [e2] at H2
 have H3 := hT (⟨d2, 0, 1, ⟨210, (3, [], []), (2, 6, [(1, 1, 7)])⟩⟩ : ShK) r2 f2 k2
 rw [e3] at H3
 have H4 : ∀ (x : WS) W, Below w.heap.size w W → InS W x (⟨d2, 0, 1, ⟨210, (3, [], []), (2, 6, [(1, 1, 7)])⟩⟩ : ShK) → Calls Tryz.prog 13 #[aggD x.d d2, .int .i64 0] W (RetX W (⟨dt, 1, 2, ⟨210, (3, [], []), (2, 6, [(1, 1, 7)])⟩⟩ : ShK) 0) := fun x W hb hx => by
  have := zej x.d d2 0 W hx.id (zeA r2 (by show d2.fuse ≤ _; omega) (by show d2.keep ≤ _; omega)) (Lib.hid (HKT.out W hb))
  rw [e4] at this
  exact this
 have H5 := hI (⟨dt, 1, 2, ⟨210, (3, [], []), (2, 6, [(1, 1, 7)])⟩⟩ : ShK) rt ft kt
 rw [e5] at H5
 have H6 := hR (⟨d2, 0, 1, ⟨210, (3, [], []), (2, 6, [(1, 1, 7)])⟩⟩ : ShK) r2
 have H7 := hR (⟨dt, 1, 2, ⟨210, (3, [], []), (2, 6, [(1, 1, 7)])⟩⟩ : ShK) rt
 unfold aggS at H1 H2 H3 H5 H6 H7
 unfold aggD at H0 H4
 dsimp only at H0
 have H1' := Lib.hid H1
 have H2' := Lib.hid H2
 have H3' := Lib.hid H3
 have H4' := Lib.hid H4
 have H5' := Lib.hid H5
 have H6' := Lib.hid H6
 have H7' := Lib.hid H7
 have HF := Lib.hid (And.intro r2 rt)
 clear H1 H2 H3 H4 H5 H6 H7 e0 e1 e2 e3 e4 e5 r0 r1 r2 rt f0 f1 f2 ft q0 q1 k0 k1 k2 kt hI hT hR HK
 go_enter Tryz.func7, Tryz.ntmps7
 go_wp2_with fail
 refine (ziq w).mono ?_
 rintro e w1 ⟨rfl, hB⟩
 unfold aggD newK
 dsimp only
 go_wp2_with fail
 refine (H0.out _ hB).mono ?_
 rintro e w2 ⟨x0, rfl, hx, hxo, hb⟩
 replace hB := zaa hB hb
 obtain ⟨hR1, hB1⟩ := zat w2 39 l0S _ rfl
 clear hb H0 hxo
 unfold aggS
 go_upto_region 2 with (refine zab rfl 39 (.tmp 1) (.tmp 15) rfl (w2.heap.size) rfl ((lS x0 s0)) rfl _ _ (hR1) (by exact zaf) rfl (zan x0 s0) ?_)
 replace hR1 := hR1.setRow (lS x0 s0)
 have hbn := below_setRow hB1 (Nat.le_refl _) (lS x0 s0).toArray
 clear hB1
 have hgw : w.heap.size ≤ w2.heap.size := hB.size
 generalize (w2.alloc (.cells l0S.toArray 39)).setRow w2.heap.size (lS x0 s0).toArray = w3 at hR1 hbn ⊢
 have hx0 := hx.keep hbn
 replace hB := zaa hB hbn
 clear hbn hx
 generalize hge : w2.heap.size = g1 at *
 clear hge
 go_wp2_with (refine zac rfl 39 (.tmp 1) rfl (g1) 0 rfl _ _ (hR1) ((lS x0 s0)) (by rfl) _ Tryz.underlying39 rfl (by exact zaf) ?_)
 refine (H1'.out x0 _ hB hx0).mono ?_
 rintro e w4 ⟨x1, rfl, hx1, hxo, hb⟩
 have lhR1 := hR1.lt
 replace hR1 := hR1.later hb
 replace hB := zaa hB hb
 clear hb
 unfold aggS
 (try dsimp only)
 clear hx0 H1'
 have hO := (Only.refl g1 w4).setRow (lS x1 s1).toArray
 go_upto_region 3 with (refine zab rfl 39 (.tmp 1) (.tmp 21) rfl (g1) rfl ((lS x1 s1)) rfl _ _ (hR1) (by exact zaf) rfl (zan x1 s1) ?_)
 replace hR1 := hR1.setRow (lS x1 s1)
 replace hx1 := hx1.at_only hO hxo (Nat.zero_le _) lhR1
 replace hB := below_setRow hB (by omega) (lS x1 s1).toArray
 clear hO hxo
 generalize w4.setRow g1 (lS x1 s1).toArray = w5 at *
 obtain ⟨hR4, hBn⟩ := zat w5 57 [.int .u64 0, .int .u64 0, .int .u64 0] _ rfl
 have hg5 := hR1.lt
 go_upto_region 4 with (refine zab rfl 57 (.tmp 4) (.tmp 23) rfl (w5.heap.size) rfl ([.int .u64 1, .int .u64 1, .int .u64 7]) rfl _ _ (hR4) (by exact zaW) rfl (zaK _ _ _ rfl rfl rfl) ?_)
 replace hR4 := hR4.setRow [.int .u64 1, .int .u64 1, .int .u64 7]
 have hbn := below_setRow hBn (Nat.le_refl _) [.int .u64 1, .int .u64 1, .int .u64 7].toArray
 clear hBn
 generalize (w5.alloc (.cells #[.int .u64 0, .int .u64 0, .int .u64 0] 57)).setRow w5.heap.size [.int .u64 1, .int .u64 1, .int .u64 7].toArray = w6 at hR4 hbn ⊢
 replace hR1 := hR1.later hbn
 replace hx1 := hx1.keep hbn
 replace hB := zaa hB hbn
 clear hbn
 generalize hge : w5.heap.size = g4 at *
 clear hge
 go_wp2_with (first
  | (refine zac rfl 39 (.tmp 1) rfl (g1) 0 rfl _ _ (hR1) ((lS x1 s1)) (by rfl) _ Tryz.underlying39 rfl (by exact zaf) ?_)
  | (refine zac rfl 57 (.tmp 4) rfl (g4) 0 rfl _ _ (hR4) ([.int .u64 1, .int .u64 1, .int .u64 7]) (by rfl) _ Tryz.underlying57 rfl (by exact zaW) ?_))
 refine (H2'.out x1 _ hB hx1).mono ?_
 rintro e w7 ⟨x2, rfl, hx2, hxo, hb⟩
 have lhR1 := hR1.lt
 have lhR4 := hR4.lt
 replace hR1 := hR1.later hb
 replace hR4 := hR4.later hb
 replace hB := zaa hB hb
 clear hb
 unfold aggS
 (try dsimp only)
 clear hx1 H2'
 have hO := (Only.refl g1 w7).setRow (lS x2 (⟨d2, 0, 1, ⟨210, (3, [], []), (2, 6, [(1, 1, 7)])⟩⟩ : ShK)).toArray
 go_upto_region 5 with (refine zab rfl 39 (.tmp 1) (.tmp 28) rfl (g1) rfl ((lS x2 (⟨d2, 0, 1, ⟨210, (3, [], []), (2, 6, [(1, 1, 7)])⟩⟩ : ShK))) rfl _ _ (hR1) (by exact zaf) rfl (zan x2 (⟨d2, 0, 1, ⟨210, (3, [], []), (2, 6, [(1, 1, 7)])⟩⟩ : ShK)) ?_)
 replace hR1 := hR1.setRow (lS x2 (⟨d2, 0, 1, ⟨210, (3, [], []), (2, 6, [(1, 1, 7)])⟩⟩ : ShK))
 replace hx2 := hx2.at_only hO hxo (Nat.zero_le _) lhR1
 replace hR4 := hR4.only hO (by omega)
 replace hB := below_setRow hB (by omega) (lS x2 (⟨d2, 0, 1, ⟨210, (3, [], []), (2, 6, [(1, 1, 7)])⟩⟩ : ShK)).toArray
 clear hO hxo
 generalize w7.setRow g1 (lS x2 (⟨d2, 0, 1, ⟨210, (3, [], []), (2, 6, [(1, 1, 7)])⟩⟩ : ShK)).toArray = w8 at *
 go_wp2_with (first
  | (refine zac rfl 39 (.tmp 1) rfl (g1) 0 rfl _ _ (hR1) ((lS x2 (⟨d2, 0, 1, ⟨210, (3, [], []), (2, 6, [(1, 1, 7)])⟩⟩ : ShK))) (by rfl) _ Tryz.underlying39 rfl (by exact zaf) ?_)
  | (refine zac rfl 57 (.tmp 4) rfl (g4) 0 rfl _ _ (hR4) ([.int .u64 1, .int .u64 1, .int .u64 7]) (by rfl) _ Tryz.underlying57 rfl (by exact zaW) ?_))
 refine (H3'.out x2 _ hB hx2).mono ?_
 rintro e w9 ⟨x3, rfl, hx3, hxo, hb⟩
 have lhR1 := hR1.lt
 have lhR4 := hR4.lt
 replace hR1 := hR1.later hb
 replace hR4 := hR4.later hb
 replace hx2 := hx2.keep hb
 replace hB := zaa hB hb
 clear hb
 unfold aggS
 (try dsimp only)
 clear H3' hxo hx3
 obtain ⟨hR6, hBn⟩ := zat w9 39 l0S _ rfl
 go_upto_region 6 with (refine zab rfl 39 (.tmp 6) (.tmp 34) rfl (w9.heap.size) rfl ((lS x3 (⟨d2, 0, 1, ⟨210, (3, [], []), (2, 6, [(1, 1, 7)])⟩⟩ : ShK))) rfl _ _ (hR6) (by exact zaf) rfl (zan x3 (⟨d2, 0, 1, ⟨210, (3, [], []), (2, 6, [(1, 1, 7)])⟩⟩ : ShK)) ?_)
 replace hR6 := hR6.setRow (lS x3 (⟨d2, 0, 1, ⟨210, (3, [], []), (2, 6, [(1, 1, 7)])⟩⟩ : ShK))
 have hbn := below_setRow hBn (Nat.le_refl _) (lS x3 (⟨d2, 0, 1, ⟨210, (3, [], []), (2, 6, [(1, 1, 7)])⟩⟩ : ShK)).toArray
 clear hBn
 generalize (w9.alloc (.cells l0S.toArray 39)).setRow w9.heap.size (lS x3 (⟨d2, 0, 1, ⟨210, (3, [], []), (2, 6, [(1, 1, 7)])⟩⟩ : ShK)).toArray = w10 at hR6 hbn ⊢
 replace hR1 := hR1.later hbn
 replace hR4 := hR4.later hbn
 replace hx2 := hx2.keep hbn
 replace hB := zaa hB hbn
 clear hbn
 generalize hge : w9.heap.size = g6 at *
 clear hge
 clear hR6
 go_wp2_with (refine zac rfl 27 (.tmp 37) rfl (g1) 0 rfl _ _ (hR1) ((lD x2.d d2)) (by rfl) _ Tryz.underlying27 rfl (by exact zaj) ?_)
 refine (H4'.out x2 _ hB hx2).mono ?_
 rintro e w11 ⟨xt, rfl, hxt, hxo, hb⟩
 have lhR1 := hR1.lt
 have lhR4 := hR4.lt
 replace hR1 := hR1.later hb
 replace hR4 := hR4.later hb
 replace hx2 := hx2.keep hb
 replace hB := zaa hB hb
 clear hb
 unfold aggS
 (try dsimp only)
 clear H4' hxo
 obtain ⟨hR8, hBn⟩ := zat w11 39 l0S _ rfl
 go_upto_region 7 with (refine zab rfl 39 (.tmp 8) (.tmp 40) rfl (w11.heap.size) rfl ((lS xt (⟨dt, 1, 2, ⟨210, (3, [], []), (2, 6, [(1, 1, 7)])⟩⟩ : ShK))) rfl _ _ (hR8) (by exact zaf) rfl (zan xt (⟨dt, 1, 2, ⟨210, (3, [], []), (2, 6, [(1, 1, 7)])⟩⟩ : ShK)) ?_)
 replace hR8 := hR8.setRow (lS xt (⟨dt, 1, 2, ⟨210, (3, [], []), (2, 6, [(1, 1, 7)])⟩⟩ : ShK))
 have hbn := below_setRow hBn (Nat.le_refl _) (lS xt (⟨dt, 1, 2, ⟨210, (3, [], []), (2, 6, [(1, 1, 7)])⟩⟩ : ShK)).toArray
 clear hBn
 generalize (w11.alloc (.cells l0S.toArray 39)).setRow w11.heap.size (lS xt (⟨dt, 1, 2, ⟨210, (3, [], []), (2, 6, [(1, 1, 7)])⟩⟩ : ShK)).toArray = w12 at hR8 hbn ⊢
 replace hR1 := hR1.later hbn
 replace hR4 := hR4.later hbn
 replace hx2 := hx2.keep hbn
 replace hxt := hxt.keep hbn
 replace hB := zaa hB hbn
 clear hbn
 generalize hge : w11.heap.size = g8 at *
 clear hge
 go_wp2_with (refine zac rfl 39 (.tmp 8) rfl (g8) 0 rfl _ _ (hR8) ((lS xt (⟨dt, 1, 2, ⟨210, (3, [], []), (2, 6, [(1, 1, 7)])⟩⟩ : ShK))) (by rfl) _ Tryz.underlying39 rfl (by exact zaf) ?_)
 refine (H5'.out xt _ hB hxt).mono ?_
 rintro e w13 ⟨xe, rfl, hxe, hxo, hb⟩
 have lhR1 := hR1.lt
 have lhR4 := hR4.lt
 have lhR8 := hR8.lt
 replace hR1 := hR1.later hb
 replace hR4 := hR4.later hb
 replace hR8 := hR8.later hb
 replace hx2 := hx2.keep hb
 replace hxt := hxt.keep hb
 replace hB := zaa hB hb
 clear hb
 unfold aggS
 (try dsimp only)
 clear H5' hxo hxe
 obtain ⟨hR10, hBn⟩ := zat w13 39 l0S _ rfl
 have hhs : ∀ W, Below w13.heap.size w13 W → _ := fun W hb => zmA 2 6 [(1, 1, 7)] 1 1 7 xt.m.c.s xt.m.c.c xt.m.c.A W (Lib.hid hxt.im.ic.ns) (hxt.im.ic.ru.keep hb) (by have := hxt.im.ic.ls; omega)
 unfold aggC at hhs
 have HHS := Lib.hid hhs
 have hsm : ∀ W, Below w13.heap.size w13 W → _ := fun W hb => zbC x2.m xt.m _ _ W (hx2.im.keep hb) (hxt.im.keep hb)
 unfold aggM at hsm
 have HSM := Lib.hid hsm
 have HX2 := Lib.hid (fun W (hb : Below w13.heap.size w13 W) => hx2.keep hb)
 have HXT := Lib.hid (fun W (hb : Below w13.heap.size w13 W) => hxt.keep hb)
 have hBz := Below.refl w13.heap.size w13
 clear hhs hsm hx2 hxt
 go_wp2_with ((refine zab rfl 39 (.tmp 10) (.tmp 46) rfl (w13.heap.size) rfl ((lS xe (⟨dt, 1, 2, ⟨210, (3, [], []), (2, 6, [(1, 1, 7)])⟩⟩ : ShK))) rfl _ _ (hR10) (by exact zaf) rfl (zan xe (⟨dt, 1, 2, ⟨210, (3, [], []), (2, 6, [(1, 1, 7)])⟩⟩ : ShK)) ?_); have hbn := below_setRow hBn (Nat.le_refl _) (lS xe (⟨dt, 1, 2, ⟨210, (3, [], []), (2, 6, [(1, 1, 7)])⟩⟩ : ShK)).toArray; generalize (w13.alloc (.cells l0S.toArray 39)).setRow w13.heap.size (lS xe (⟨dt, 1, 2, ⟨210, (3, [], []), (2, 6, [(1, 1, 7)])⟩⟩ : ShK)).toArray = w14 at hbn ⊢; replace hR1 := hR1.later hbn; replace hR4 := hR4.later hbn; replace hR8 := hR8.later hbn; replace hB := zaa hB hbn; have a7 := hR1.cell (i := 7) rfl; have a8 := hR1.cell (i := 8) rfl; have c7 := hR8.cell (i := 7) rfl; have c8 := hR8.cell (i := 8) rfl; have c9 := hR8.cell (i := 9) rfl; have c13 := hR8.cell (i := 13) rfl; have c14 := hR8.cell (i := 14) rfl; have c15 := hR8.cell (i := 15) rfl; have b0 := hR4.cell (i := 0) rfl; have b1 := hR4.cell (i := 1) rfl; have b2 := hR4.cell (i := 2) rfl; replace hBz := hbn)
 refine (HHS.out _ hBz).mono ?_
 rintro e w15 ⟨rfl, hb⟩
 replace hR1 := hR1.later hb
 replace hR4 := hR4.later hb
 replace hR8 := hR8.later hb
 replace hB := zaa hB hb
 replace hBz := zaa hBz hb
 clear hb a7 a8 c7 c8 c9 c13 c14 c15 b0 b1 b2 HHS
 have a9 := hR1.cell (i := 9) rfl
 have a10 := hR1.cell (i := 10) rfl
 have a11 := hR1.cell (i := 11) rfl
 have a12 := hR1.cell (i := 12) rfl
 have a13 := hR1.cell (i := 13) rfl
 have a14 := hR1.cell (i := 14) rfl
 have a15 := hR1.cell (i := 15) rfl
 have c9 := hR8.cell (i := 9) rfl
 have c10 := hR8.cell (i := 10) rfl
 have c11 := hR8.cell (i := 11) rfl
 have c12 := hR8.cell (i := 12) rfl
 have c13 := hR8.cell (i := 13) rfl
 have c14 := hR8.cell (i := 14) rfl
 have c15 := hR8.cell (i := 15) rfl
 have hh : hasU [(1, 1, 7)] (1, 1, 7) = true := by decide
 rw [hh]
 clear hh
 go_wp2_with fail
 refine (HSM.out _ hBz).mono ?_
 rintro e w16 ⟨r, rfl, HQ, hb⟩
 have hq : r = true := HQ.out.2 (by trivial)
 subst hq
 replace hR1 := hR1.later hb
 replace hR8 := hR8.later hb
 replace hB := zaa hB hb
 replace hBz := zaa hBz hb
 clear hb HQ HSM a9 a10 a11 a12 a13 a14 a15 c9 c10 c11 c12 c13 c14 c15
 have a0 := hR1.cell (i := 0) rfl
 have a1 := hR1.cell (i := 1) rfl
 have a2 := hR1.cell (i := 2) rfl
 have a3 := hR1.cell (i := 3) rfl
 have a4 := hR1.cell (i := 4) rfl
 have a5 := hR1.cell (i := 5) rfl
 have a6 := hR1.cell (i := 6) rfl
 have a7 := hR1.cell (i := 7) rfl
 have a8 := hR1.cell (i := 8) rfl
 have a9 := hR1.cell (i := 9) rfl
 have a10 := hR1.cell (i := 10) rfl
 have a11 := hR1.cell (i := 11) rfl
 have a12 := hR1.cell (i := 12) rfl
 have a13 := hR1.cell (i := 13) rfl
 have a14 := hR1.cell (i := 14) rfl
 have a15 := hR1.cell (i := 15) rfl
 go_wp2_with fail
 refine (H6'.out x2 _ hB (HX2.out _ hBz)).mono ?_
 rintro e w17 ⟨r, rfl, HQ, hb⟩
 have hq : r = true := HQ.out.2 HF.out.1
 subst hq
 replace hR8 := hR8.later hb
 replace hB := zaa hB hb
 replace hBz := zaa hBz hb
 clear hb HQ H6' a0 a1 a2 a3 a4 a5 a6 a7 a8 a9 a10 a11 a12 a13 a14 a15
 have c0 := hR8.cell (i := 0) rfl
 have c1 := hR8.cell (i := 1) rfl
 have c2 := hR8.cell (i := 2) rfl
 have c3 := hR8.cell (i := 3) rfl
 have c4 := hR8.cell (i := 4) rfl
 have c5 := hR8.cell (i := 5) rfl
 have c6 := hR8.cell (i := 6) rfl
 have c7 := hR8.cell (i := 7) rfl
 have c8 := hR8.cell (i := 8) rfl
 have c9 := hR8.cell (i := 9) rfl
 have c10 := hR8.cell (i := 10) rfl
 have c11 := hR8.cell (i := 11) rfl
 have c12 := hR8.cell (i := 12) rfl
 have c13 := hR8.cell (i := 13) rfl
 have c14 := hR8.cell (i := 14) rfl
 have c15 := hR8.cell (i := 15) rfl
 go_wp2_with fail
 refine (H7'.out xt _ hB (HXT.out _ hBz)).mono ?_
 rintro e w18 ⟨r, rfl, HQ, hb⟩
 have hq : r = true := HQ.out.2 HF.out.2
 subst hq
 replace hB := zaa hB hb
 clear hb HQ H7' c0 c1 c2 c3 c4 c5 c6 c7 c8 c9 c10 c11 c12 c13 c14 c15
 go_wp2_with fail
 go_ret
 exact ⟨rfl, hB⟩
end Go.Proofs.YteljklkgdejhpaaGreatDoor
